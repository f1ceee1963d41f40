/-
  The walk of the law MachinesRun. No statement is proved here.
-/
import Derived.Test.YtiohfflkolopeaaMc12
import Derived.Test.YtiohfflkolopeaaMc14
import Derived.Test.YtiohfflkolopeaaMd8
namespace Go.Proofs.Ytiohfflkolopeaa
open Go.RowKit
open Mc (Ed Ma)

set_option maxRecDepth 100000 in
set_option maxHeartbeats 4000000 in
theorem lawRun_walk {E : World → Prop} (P : Pm E) (a b d : Int) (p : Bool) (A B : Option Addr) (c k : Nat) (es ws : List Int) (fr : Int) (w : World) (he : E w) (hr : Rd16 w A es) (hw : Rd8 w B ws) (hl : es.length ≤ 9223372036854775807) (hl2 : ws.length ≤ 9223372036854775807)
    (ha : 0 ≤ a ∧ a ≤ 255) (hb : 0 ≤ b ∧ b ≤ 255) (hd : 0 ≤ d ∧ d ≤ 255) (hf : 0 ≤ fr ∧ fr ≤ 255) :
    Calls Try.prog 5 #[.agg #[.int .u8 a, .int .u8 b, .int .u8 d, .bool p, .slice A es.length c], .agg #[.slice B ws.length k], .int .u8 fr] w fun e w' => e = .returned (.bool true) ∧ Below w.heap.size w w' := by
  obtain ⟨n, hn⟩ : ∃ n : Nat, 1 + a % 6 = n := ⟨(1 + a % 6).toNat, by omega⟩
  obtain ⟨i, hi⟩ : ∃ i : Nat, 1 + b % 3 = i := ⟨(1 + b % 3).toNat, by omega⟩
  obtain ⟨o, ho⟩ : ∃ o : Nat, 1 + d % 3 = o := ⟨(1 + d % 3).toNat, by omega⟩
  have CM := fun w hr => mof_at a b d p A c es n i o w hr hl ha hb hd hn hi ho
  have CW := fun w hw => wof_at B k ws i w hw (by omega) (by omega) hl2
  have V := Lib.hid (Mc.mkN_val (p := p) (n := n) (i := i) (o := o) (es := es) (by omega) (by omega) (by omega) (by omega) (by omega) (by omega))
  have s0 := MK.start he
  have HR := Lib.hid hr
  have HW := Lib.hid hw
  clear he hr hw
  go_enter Try.func5, Try.ntmps5
  have s1 := ((s0.alloc P (.cells #[.int .u8 a, .int .u8 b, .int .u8 d, .bool p, .slice A es.length c] 57)).alloc P (.cells #[.slice B ws.length k] 63)).putO (g := w.heap.size + 1)
    (by
      have h := heap_alloc_new (w.alloc (.cells #[.int .u8 a, .int .u8 b, .int .u8 d, .bool p, .slice A es.length c] 57)) (.cells #[.slice B ws.length k] 63)
      rw [show (w.alloc (.cells #[.int .u8 a, .int .u8 b, .int .u8 d, .bool p, .slice A es.length c] 57)).heap.size = w.heap.size + 1 by simp] at h
      exact h)
  clear s0
  go_wp2_with fail
  refine (CM _ (HR.out.below s1.2.1)).mono ?_
  rintro e w1 ⟨R, c1, rfl, hrd, hbl⟩
  have s2 := (((s1.next P hbl).putR hrd).alloc P (.cells #[.int .i64 i, .int .i64 o, .slice R n c1] 24)).putB (g := w1.heap.size) (heap_alloc_new w1 _)
  clear s1 hrd hbl
  have g0 : (w1.alloc (.cells #[.int .i64 i, .int .i64 o, .slice R n c1] 24)).cell? ⟨w.heap.size + 1, 0, none⟩ = some (.slice B ws.length k) := by
    have h : (w1.alloc (.cells #[.int .i64 i, .int .i64 o, .slice R n c1] 24)).heap[w.heap.size + 1]? = some (.cells #[.slice B ws.length k] 63) := s2.get 2 rfl
    rw [cell_of_row _ _ _ _ _ _ h]; rfl
  go_wp2_with fail
  clear g0
  refine (CW _ (HW.out.below s2.2.1)).mono ?_
  rintro e w2 ⟨B2, k2, q2, rfl, hk2, hk12, hkq, hrd, hbl⟩
  have s3 := (s2.next P hbl).putL hrd
  clear s2 hrd hbl
  obtain ⟨b0, b1, b2⟩ := BxM.cells (s3.get 1 rfl)
  have hn0 : ((n : Int) == 0) = false := by rw [beq_eq_false_iff_ne]; omega
  have hn0a : ¬ n = 0 := by omega
  obtain ⟨f1, f2⟩ := hf
  obtain ⟨s, hs, hsn⟩ : ∃ s : Nat, fr % (n : Int) = s ∧ s < n := ⟨(fr % (n : Int)).toNat, by have := Int.emod_nonneg fr (show (n : Int) ≠ 0 by omega); omega, by have := Int.emod_lt_of_pos fr (show (0 : Int) < n by omega); have := Int.emod_nonneg fr (show (n : Int) ≠ 0 by omega); omega⟩
  go_wp2_with fail
  clear b0 b1 b2
  have hrow := Lib.hid (fun row (hrow : row ∈ (Mc.mkN p n i o es).r) => (show row.length ≤ 1000000 by have := V.out.len row hrow; have h2 := V.out.i1; omega))
  have hlen : Hid ((Mc.mkN p n i o es).r.length = n) := Mc.mkN_len _ _ _ _ _
  have hwd := Lib.hid (Mc.sym_wd (m := Mc.mkN p n i o es) (i := i) (zs := ws) rfl (by omega))
  have hst : Hid (0 ≤ (s : Int) ∧ (s : Int) < (Mc.mkN p n i o es).r.length) := ⟨by omega, by rw [hlen.out]; omega⟩
  have hrE := Lib.hid (Mc.runE_ok V.out hst.out hwd.out (by rw [hk2.out]; omega))
  have hrV := Lib.hid (Mc.runV_ok V.out hst.out hwd.out (by rw [hk2.out]; omega))
  have haV := Lib.hid (Mc.aftV_ok V.out hst.out hwd.out (by rw [hk2.out]; omega))
  have CR := P.run i o s (Mc.mkN p n i o es).r (M.sym i ws) R B2 n c1 k2 q2 w2 s3.1 (s3.get 2 rfl) (s3.get 0 rfl) hlen.out (by omega) hrow.out hk2.out (by omega)
  have CA := fun w he hr hw => P.after i o s (Mc.mkN p n i o es).r (M.sym i ws) R B2 n c1 k2 q2 w he hr hw hlen.out (by omega) hrow.out hk2.out (by omega)
  rw [show (⟨i, o, (Mc.mkN p n i o es).r⟩ : Ma) = Mc.mkN p n i o es from rfl, hrE.out, hrV.out] at CR
  simp only [show (⟨i, o, (Mc.mkN p n i o es).r⟩ : Ma) = Mc.mkN p n i o es from rfl, hrE.out, haV.out] at CA
  refine CR.mono ?_
  rintro e w3 ⟨B3, j3, rfl, hj3, hrd, hbl⟩
  have hjk : j3 = k2 := by rw [← hj3.out, ← hk2.out, Mc.run_len]
  subst hjk
  have s4 := (s3.next P hbl).putL hrd
  clear s3 hrd hbl CR
  obtain ⟨b0, b1, b2⟩ := BxM.cells (s4.get 2 rfl)
  go_wp2_with fail
  clear b0 b1 b2
  refine (CA _ s4.1 (s4.get 3 rfl) (s4.get 1 rfl)).mono ?_
  rintro e w4 ⟨rfl, hbl⟩
  have s5 := s4.next P hbl
  clear s4 hbl CA
  obtain ⟨b0, b1, b2⟩ := BxM.cells (s5.get 2 rfl)
  go_wp2_with fail
  clear b0 b1 b2
  have hSt : Hid (Mc.St (Mc.mkN p n i o es) s) := Or.inr hst.out
  refine (rrun_at (Mc.mkN p n i o es) i o s R B2 n c1 j3 q2 (M.sym i ws) _ V.out rfl rfl hlen.out hk2.out (s5.get 3 rfl) (s5.get 1 rfl) hSt.out hwd.out (by omega)).mono ?_
  rintro e w5 ⟨B4, q4, rfl, hrd, hbl⟩
  have s6 := (s5.next P hbl).putL hrd
  clear s5 hrd hbl
  go_wp2_with fail
  refine (list_yes B3 B4 j3 q4 (Mc.run (Mc.mkN p n i o es) s (M.sym i ws)) 0 _ (s6.get 1 rfl) (s6.get 0 rfl) (by rw [Mc.run_len, hk2.out]) (by omega)).mono ?_
  rintro e w6 ⟨rfl, hbl⟩
  have s7 := s6.next P hbl
  clear s6 hbl
  obtain ⟨b0, b1, b2⟩ := BxM.cells (s7.get 3 rfl)
  go_wp2_with fail
  clear b0 b1 b2
  refine (rafter_at (Mc.mkN p n i o es) i o s R B2 n c1 j3 q2 (M.sym i ws) _ V.out rfl rfl hlen.out hk2.out (s7.get 4 rfl) (s7.get 2 rfl) hSt.out hwd.out hkq).mono ?_
  rintro e w7 ⟨rfl, hbl⟩
  have s8 := s7.next P hbl
  clear s7 hbl
  obtain ⟨z, hz⟩ : ∃ z, Mc.aft (Mc.mkN p n i o es) s (M.sym i ws) = z := ⟨_, rfl⟩
  rw [hz]
  have hzz : (z == z) = true := beq_self_eq_true z
  have HZ := Lib.hid hz
  clear hz
  go_wp2_with fail
  obtain ⟨w8, hw8⟩ : ∃ w8, w8 = w7 := ⟨_, rfl⟩
  rw [← hw8] at s8 ⊢
  clear hw8
  go_loopw [9, 14] (fun a v wr => ∃ q : Nat, q ≤ j3 ∧ v = .int .i64 q ∧ a = .int .i64 (Mc.stt (Mc.mkN p n i o es) s (M.sym i ws) q) ∧ Below w8.heap.size w8 wr) (fun _ v _ => j3 - (intOf v).toNat)
  case atStart => exact ⟨0, Nat.zero_le _, rfl, by rw [Mc.stt_zero], Below.refl _ _⟩
  case round =>
    obtain ⟨q, hq, rfl, rfl, hbq⟩ := hrel
    have s9 := s8.next P hbq
    have HB := Lib.hid hbq
    clear s8 hbq
    by_cases hql : q < j3
    · have hqw : q < (M.sym i ws).length := by rw [hk2.out]; exact hql
      obtain ⟨b2, off2, z2, rfl, hb2, hc2, hz2⟩ := (show Rd wr B2 (M.sym i ws) from s9.get 2 rfl).at_ hqw
      obtain ⟨b3, off3, y3, rfl, hb3, hc3, hz3⟩ := (show Rd wr B3 (Mc.run (Mc.mkN p n i o es) s (M.sym i ws)) from s9.get 1 rfl).at_ (k := q) (by rw [Mc.run_len]; exact hqw)
      have hnx := Lib.hid (Mc.stt_next (m := Mc.mkN p n i o es) (s := s) hqw)
      have hsq := Mc.stt_st V.out (ws := M.sym i ws) hSt.out hwd.out q
      have hy3 : Hid (y3 = (Mc.tke (Mc.mkN p n i o es) s (M.sym i ws) q).2) := by
        show _ = _
        rw [← hz3.out, Mc.run_at hqw]; rfl
      have htk : Hid (Mc.tke (Mc.mkN p n i o es) s (M.sym i ws) q = Mc.nx (Mc.mkN p n i o es) (Mc.stt (Mc.mkN p n i o es) s (M.sym i ws) q) z2) := by show _ = _; unfold Mc.tke; rw [hz2.out]
      have hzm : z2 ∈ M.sym i ws := by
        rw [← hz2.out, List.getElem?_eq_getElem hqw]; exact List.getElem_mem _
      have hzb := hwd.out z2 hzm
      have hcr := Lib.hid (fun h => Mc.cmp_run V.out h hst.out hwd.out hqw)
      obtain ⟨t, ht⟩ : ∃ t, Mc.stt (Mc.mkN p n i o es) s (M.sym i ws) q = t := ⟨_, rfl⟩
      rw [ht] at hsq htk ⊢
      obtain ⟨⟨x, y⟩, hxy⟩ : ∃ x, Mc.tke (Mc.mkN p n i o es) s (M.sym i ws) q = x := ⟨_, rfl⟩
      rw [hxy] at hnx hy3 htk hcr
      simp only at hy3 hcr
      have e3 : y3 = y := hy3.out
      subst e3
      clear ht hxy hz2 hz3 hzm hqw hy3
      go_wp2_with fail
      refine (edge_any (-1) (-1) _).mono ?_
      rintro e wa ⟨rfl, hba⟩
      have s10 := s9.next P hba
      have hB11 : Below wr.heap.size wr (wa.alloc (.cells #[.int .i64 (-1), .int .i64 (-1)] 39)) := hba.alloc hba.size _
      obtain ⟨gw, hgw⟩ : ∃ gw, wa.heap.size = gw := ⟨_, rfl⟩
      have hwr : wr.heap.size ≤ gw := by have := hba.size; omega
      have hE11 : BxE (wa.alloc (.cells #[.int .i64 (-1), .int .i64 (-1)] 39)) gw (-1) (-1) := by rw [← hgw]; exact heap_alloc_new wa _
      obtain ⟨wb, hwb⟩ : ∃ wb, wa.alloc (.cells #[.int .i64 (-1), .int .i64 (-1)] 39) = wb := ⟨_, rfl⟩
      rw [hwb] at hB11 hE11
      rcases hsq with rfl | ⟨h1, h2⟩
      · have hxy : ((x, y3) : Ed) = (-1, -1) := by rw [htk.out]; exact Mc.nx_neg (by omega)
        injection hxy with hx1 hy1
        have hbV := hB11
        have hwE : BxE wb gw x y3 := by rw [hx1, hy1]; exact hE11
        clear hx1 hy1 htk
        go_wp2_with fail
        clear hwb hgw hB11 hE11
        have sV := s9.next P hbV
        have hcV := (hbV.cell (p := ⟨b3, off3 + q, none⟩) hb3).trans hc3
        have sE := (sV.next P (Below.refl _ _).drew).putE (g := gw) (show BxE wb.drew gw x y3 from hwE)
        obtain ⟨p0, p1, _, _⟩ := hwE.cells
        obtain ⟨m0, m1, m2⟩ := BxM.cells (sV.get 3 rfl)
        by_cases hy0 : y3 < 0
        · have hcf : Hid (((Mc.dfd (Mc.mkN p n i o es).r : Int) == (Mc.mkN p n i o es).r.length * (Mc.mkN p n i o es).i) = false) := by
            show _ = _
            cases h : ((Mc.dfd (Mc.mkN p n i o es).r : Int) == (Mc.mkN p n i o es).r.length * (Mc.mkN p n i o es).i) with
            | false => rfl
            | true => have := hcr.out h; omega
          go_wp2_with fail
          go_region_held3 (fun w' => w'.cell? ⟨b3, off3 + q, none⟩ = some (.int .i64 y3) ∧ w'.cell? ⟨gw, 0, none⟩ = some (.int .i64 x) ∧ w'.cell? ⟨gw, 1, none⟩ = some (.int .i64 y3) ∧ w'.cell? ⟨w1.heap.size, 0, none⟩ = some (.int .i64 i) ∧ w'.cell? ⟨w1.heap.size, 1, none⟩ = some (.int .i64 o) ∧ w'.cell? ⟨w1.heap.size, 2, none⟩ = some (.slice R n c1)) (first | exact ⟨hcZ, r0, r1, n0, n1, n2⟩ | exact ⟨hcV, p0, p1, m0, m1, m2⟩ | go_keep)
            (first
              | (go_at_call 29
                 (with_reducible refine (complete_at (Mc.mkN p n i o es) i o R n c1 _ V.out rfl rfl hlen.out (sE.get 5 rfl)).mono ?_)
                 rw [hcf.out]
                 rintro e wz ⟨rfl, hbz⟩
                 have sZ := sE.next P hbz
                 obtain ⟨r0, r1, _, _⟩ := BxE.cells (sZ.get 0 rfl)
                 have hbW : Below wr.heap.size wr wz := below_next (below_drewN' hbV 1) hbz
                 have hcZ := (hbW.cell (p := ⟨b3, off3 + q, none⟩) hb3).trans hc3
                 obtain ⟨n0, n1, n2⟩ := BxM.cells (sZ.get 4 rfl)
                 dsimp only))
          all_goals
            go_wp2_with fail
            go_roundw
            case rel => exact ⟨q + 1, by omega, by go_num, by rw [hnx.out], below_next HB.out (below_next (below_drewN' hbV 1) hbz)⟩
            case measure => simp [intOf]; omega
        · have hyd : decide (y3 < 0) = false := decide_eq_false hy0
          have hyy : (y3 == y3) = true := beq_self_eq_true y3
          go_wp2_with fail
          go_quiet (fail)
          go_wp2_with fail
          go_roundw
          case rel => exact ⟨q + 1, by omega, by go_num, by rw [hnx.out], below_next HB.out (below_drewN' hbV _)⟩
          case measure => simp [intOf]; omega
      · obtain ⟨t, rfl⟩ := Int.eq_ofNat_of_zero_le h1
        have sB := s9.next P hB11
        have hsz : Hid True := trivial
        have hcw := (hB11.cell (p := ⟨b2, off2 + q, none⟩) hb2).trans hc2
        obtain ⟨m0, m1, m2⟩ := BxM.cells (sB.get 3 rfl)
        obtain ⟨k0, k1, k2', k3⟩ := hE11.cells
        have hstE : Mc.stE (Mc.mkN p n i o es) t z2 = 0 := Mc.stE_ok V.out ⟨by omega, by omega⟩ hzb
        have hstV : Mc.stV (Mc.mkN p n i o es) t z2 = (x, y3) := by rw [Mc.stV_ok V.out ⟨by omega, by omega⟩ hzb]; exact htk.out.symm
        have CS : ∀ w, E w → RdR w R (Mc.mkN p n i o es).r → Calls Try.prog 18 #[.agg #[.int .i64 i, .int .i64 o, .slice R n c1], .int .i64 t, .int .i64 z2] w fun e w' => e = .returned (.tuple #[.agg #[.int .i64 x, .int .i64 y3], .int .i64 0]) ∧ Below w.heap.size w w' := fun w he hr => by
          have h := P.step i o t z2 (Mc.mkN p n i o es).r R n c1 w he hr hlen.out (by omega) hrow.out
          rwa [show (⟨i, o, (Mc.mkN p n i o es).r⟩ : Ma) = Mc.mkN p n i o es from rfl, hstE, hstV] at h
        clear hstE hstV htk h1
        have hMl : w1.heap.size < wb.heap.size := heap_lt (sB.get 3 rfl)
        have sA := ((sB.alloc P (.cells #[.int .i64 0, .int .i64 0] 39)).putE (g := wb.heap.size) (heap_alloc_new wb _)).next P (Below.refl _ _).drew
        have sD := sB.next P (Below.refl _ _).drew
        have hbAl : Below wb.heap.size wb (wb.alloc (.cells #[.int .i64 0, .int .i64 0] 39)).drew := below_drewN' ((Below.refl _ _).alloc (Nat.le_refl _) _) 1
        have hb2w : b2 < wb.heap.size := by have := hB11.size; omega
        obtain ⟨a0, a1, a2⟩ := BxM.cells (sA.get 4 rfl)
        have a3 := (hbAl.cell (p := ⟨b2, off2 + q, none⟩) hb2w).trans hcw
        obtain ⟨z0, z1, zf0, zf1⟩ := BxE.cells (sA.get 0 rfl)
        have hgl : gw < wb.heap.size := heap_lt hE11
        go_upto_region 13 with fail
        clear hwb hgw
        go_cut [16, 17] from 73 to 82 (fun p' f' wx => ∃ g, p' = .pointer (some ⟨g, 0, none⟩) ∧ f' = .int .i64 0 ∧ Hid (BxE wx g x y3) ∧ Below wb.heap.size wb wx)
        case first =>
          go_region_held3 (fun w' => w'.cell? ⟨w1.heap.size, 0, none⟩ = some (.int .i64 i) ∧ w'.cell? ⟨w1.heap.size, 1, none⟩ = some (.int .i64 o) ∧ w'.cell? ⟨w1.heap.size, 2, none⟩ = some (.slice R n c1) ∧ w'.cell? ⟨b2, off2 + q, none⟩ = some (.int .i64 z2)) (first | exact ⟨r0, r1, r2, r3⟩ | exact ⟨n0, n1, n2, n3⟩ | exact ⟨d0, d1, d2, d3⟩ | exact ⟨a0, a1, a2, a3⟩ | exact ⟨m0, m1, m2, hcw⟩ | go_keep)
            (first
              | (go_at_call 18
                 (with_reducible refine (CS _ sA.env (sA.get 5 rfl)).mono ?_)
                 rintro e wc ⟨rfl, hbc⟩
                 have hbA1 := below_next hbAl hbc
                 have uA := sA.next P hbc
                 obtain ⟨n0, n1, n2⟩ := BxM.cells (uA.get 4 rfl)
                 have n3 := (hbA1.cell (p := ⟨b2, off2 + q, none⟩) hb2w).trans hcw
                 obtain ⟨x0, x1, xf0, xf1⟩ := BxE.cells (uA.get 0 rfl)
                 have hbS := ((Below.refl wb.heap.size wc).setCell (p := ⟨wb.heap.size, 0, none⟩) (Nat.le_refl _) (.int .i64 x)).setCell (p := ⟨wb.heap.size, 1, none⟩) (Nat.le_refl _) (.int .i64 y3)
                 have r0 := (hbS.cell (p := ⟨w1.heap.size, 0, none⟩) hMl).trans n0
                 have r1 := (hbS.cell (p := ⟨w1.heap.size, 1, none⟩) hMl).trans n1
                 have r2 := (hbS.cell (p := ⟨w1.heap.size, 2, none⟩) hMl).trans n2
                 have r3 := (hbS.cell (p := ⟨b2, off2 + q, none⟩) hb2w).trans n3
                 dsimp only)
              | (go_at_call 18
                 (with_reducible refine (CS _ sD.env (sD.get 4 rfl)).mono ?_)
                 rintro e wc ⟨rfl, hbc⟩
                 have hbD := below_next (below_drewN' (Below.refl wb.heap.size wb) 1) hbc
                 have uD := sD.next P hbc
                 obtain ⟨d0, d1, d2⟩ := BxM.cells (uD.get 3 rfl)
                 have d3 := (hbD.cell (p := ⟨b2, off2 + q, none⟩) hb2w).trans hcw
                 dsimp only))
          all_goals
            go_wp2_with fail
            go_meet
            first
              | exact ⟨wb.heap.size, rfl, rfl, BxE.set2 (uA.get 0 rfl), hbA1.trans hbS⟩
              | exact ⟨wc.heap.size, rfl, rfl, heap_alloc_new wc _, hbD.alloc hbD.size _⟩
        case rest =>
        obtain ⟨g, rfl, rfl, hZ, hbx⟩ := hcut
        have hEx : BxE wc gw (-1) (-1) := (hbx.block _ hgl).trans hE11
        obtain ⟨v0, v1, vf0, vf1⟩ := hEx.cells
        obtain ⟨x0, x1, _, _⟩ := hZ.out.cells
        have hbV : Below wr.heap.size wr ((wc.setCell ⟨gw, 0, none⟩ (.int .i64 x)).setCell ⟨gw, 1, none⟩ (.int .i64 y3)) := ((below_next hB11 hbx).setCell (p := ⟨gw, 0, none⟩) hwr _).setCell (p := ⟨gw, 1, none⟩) hwr _
        have hwE : BxE ((wc.setCell ⟨gw, 0, none⟩ (.int .i64 x)).setCell ⟨gw, 1, none⟩ (.int .i64 y3)) gw x y3 := BxE.set2 hEx
        clear hEx hZ hbx a0 a1 a2 a3 z0 z1 zf0 zf1 hbAl sA sD sB hcw k0 k1 k2' k3 m0 m1 m2 hE11 hB11
        obtain ⟨wv, hwv⟩ : ∃ wv, (wc.setCell ⟨gw, 0, none⟩ (.int .i64 x)).setCell ⟨gw, 1, none⟩ (.int .i64 y3) = wv := ⟨_, rfl⟩
        rw [hwv] at hbV hwE
        go_wp2_with fail
        clear v0 v1 vf0 vf1 x0 x1 hwv
        have sV := s9.next P hbV
        have hcV := (hbV.cell (p := ⟨b3, off3 + q, none⟩) hb3).trans hc3
        have sE := (sV.next P (Below.refl _ _).drew).putE (g := gw) (show BxE wv.drew gw x y3 from hwE)
        obtain ⟨p0, p1, _, _⟩ := hwE.cells
        obtain ⟨m0, m1, m2⟩ := BxM.cells (sV.get 3 rfl)
        by_cases hy0 : y3 < 0
        · have hcf : Hid (((Mc.dfd (Mc.mkN p n i o es).r : Int) == (Mc.mkN p n i o es).r.length * (Mc.mkN p n i o es).i) = false) := by
            show _ = _
            cases h : ((Mc.dfd (Mc.mkN p n i o es).r : Int) == (Mc.mkN p n i o es).r.length * (Mc.mkN p n i o es).i) with
            | false => rfl
            | true => have := hcr.out h; omega
          go_wp2_with fail
          go_region_held3 (fun w' => w'.cell? ⟨b3, off3 + q, none⟩ = some (.int .i64 y3) ∧ w'.cell? ⟨gw, 0, none⟩ = some (.int .i64 x) ∧ w'.cell? ⟨gw, 1, none⟩ = some (.int .i64 y3) ∧ w'.cell? ⟨w1.heap.size, 0, none⟩ = some (.int .i64 i) ∧ w'.cell? ⟨w1.heap.size, 1, none⟩ = some (.int .i64 o) ∧ w'.cell? ⟨w1.heap.size, 2, none⟩ = some (.slice R n c1)) (first | exact ⟨hcZ, r0, r1, n0, n1, n2⟩ | exact ⟨hcV, p0, p1, m0, m1, m2⟩ | go_keep)
            (first
              | (go_at_call 29
                 (with_reducible refine (complete_at (Mc.mkN p n i o es) i o R n c1 _ V.out rfl rfl hlen.out (sE.get 5 rfl)).mono ?_)
                 rw [hcf.out]
                 rintro e wz ⟨rfl, hbz⟩
                 have sZ := sE.next P hbz
                 obtain ⟨r0, r1, _, _⟩ := BxE.cells (sZ.get 0 rfl)
                 have hbW : Below wr.heap.size wr wz := below_next (below_drewN' hbV 1) hbz
                 have hcZ := (hbW.cell (p := ⟨b3, off3 + q, none⟩) hb3).trans hc3
                 obtain ⟨n0, n1, n2⟩ := BxM.cells (sZ.get 4 rfl)
                 dsimp only))
          all_goals
            go_wp2_with fail
            go_roundw
            case rel => exact ⟨q + 1, by omega, by go_num, by rw [hnx.out], below_next HB.out (below_next (below_drewN' hbV 1) hbz)⟩
            case measure => simp [intOf]; omega
        · have hyd : decide (y3 < 0) = false := decide_eq_false hy0
          have hyy : (y3 == y3) = true := beq_self_eq_true y3
          go_wp2_with fail
          go_quiet (fail)
          go_wp2_with fail
          go_roundw
          case rel => exact ⟨q + 1, by omega, by go_num, by rw [hnx.out], below_next HB.out (below_drewN' hbV _)⟩
          case measure => simp [intOf]; omega
    · have hqe : q = j3 := by omega
      subst hqe
      have hze : Mc.stt (Mc.mkN p n i o es) s (M.sym i ws) q = z := by rw [Mc.stt_all _ _ _ (by rw [hk2.out]; omega), HZ.out]
      rw [hze]
      go_wp2_with fail
      refine (lives_walk P _ s9.1).mono ?_
      rintro e wl ⟨rfl, hbl⟩
      have s10 := s9.next P hbl
      go_wp2
      go_ret
      exact ⟨rfl, s10.2.1⟩
end Go.Proofs.Ytiohfflkolopeaa
