/-
  The walk of the law RefinesRounds. No statement is proved here.
-/
import Derived.Test.YtonnplhiaidjnaaRd1
import Derived.Deep.RegionHeld3
import Derived.Deep.QuietTactic
import Derived.BigQuiet
namespace Go.Proofs.Ytonnplhiaidjnaa
open Go.RowKit
open Mc (Ed Ma)

theorem own_slice {w : World} {base n sz : Nat} {t : TypeId} {v : Value} {xs : List Value} (h : w.ownsRow base t sz v n xs) : ∃ A c, v = .slice A n c ∧ n ≤ c := by
  rcases h.2 with ⟨rfl, h0⟩ | ⟨g, cap, cur, rfl, _, _, hc, _⟩
  · exact ⟨none, 0, by rw [h0], by omega⟩
  · exact ⟨_, _, rfl, hc⟩
set_option maxRecDepth 100000 in
set_option maxHeartbeats 8000000 in
theorem lawRounds_walk (a b d : Int) (p : Bool) (A : Option Addr) (c : Nat) (es : List Int) (z : Int) (w : World) (hr : Rd16 w A es) (hl : es.length ≤ 9223372036854775807) (ha : 0 ≤ a ∧ a ≤ 255) (hb : 0 ≤ b ∧ b ≤ 255) (hd : 0 ≤ d ∧ d ≤ 255) (hz : 0 ≤ z ∧ z ≤ 255) :
    Calls Try.prog 32 #[.agg #[.int .u8 a, .int .u8 b, .int .u8 d, .bool p, .slice A es.length c], .int .u8 z] w fun e w' => e = .returned (.bool true) ∧ Below w.heap.size w w' := by
  obtain ⟨n, hn⟩ : ∃ n : Nat, 1 + a % 6 = n := ⟨(1 + a % 6).toNat, by omega⟩
  obtain ⟨i, hi⟩ : ∃ i : Nat, 1 + b % 3 = i := ⟨(1 + b % 3).toNat, by omega⟩
  obtain ⟨o, ho⟩ : ∃ o : Nat, 1 + d % 3 = o := ⟨(1 + d % 3).toNat, by omega⟩
  obtain ⟨k, hk⟩ : ∃ k : Nat, z % 5 = k := ⟨(z % 5).toNat, by omega⟩
  have hk4 : k ≤ 4 := by omega
  have hn6 : n ≤ 6 := by omega
  have hi3 : i ≤ 3 := by omega
  have hi1 : 1 ≤ i := by omega
  have CM := fun w hr => mof_at a b d p A c es n i o w hr hl ha hb hd hn hi ho
  obtain ⟨M, hM⟩ : ∃ M, Mc.mkN p n i o es = M := ⟨_, rfl⟩
  have V := Lib.hid (Mc.mkN_val (p := p) (n := n) (i := i) (o := o) (es := es) (by omega) (by omega) (by omega) (by omega) (by omega) (by omega))
  have hlen : Hid ((Mc.mkN p n i o es).r.length = n) := Mc.mkN_len _ _ _ _ _
  have hmi : Hid ((Mc.mkN p n i o es).i = i) := rfl
  have hmo : Hid ((Mc.mkN p n i o es).o = o) := rfl
  rw [hM] at V hlen hmi hmo
  simp only [hM] at CM
  have HK : Hid (z % 5 = k) := hk
  clear hM ha hb hd hn hi ho hl hk
  obtain ⟨P, hP⟩ : ∃ P, Mc.rnd M k = P := ⟨_, rfl⟩
  have HP : Hid (Mc.rnd M k = P) := hP
  have HPL : Hid (P.length = n) := by show _ = _; rw [← hP, Mc.rnd_len]; exact hlen.out
  have HPV : Hid (Go.Proofs.Ytonnplhiaidjnaa.M.Vd P) := by show Go.Proofs.Ytonnplhiaidjnaa.M.Vd P; rw [← hP]; exact Mc.rnd_vd _ _
  clear hP
  have HR := Lib.hid hr
  clear hr
  obtain ⟨K0, hK0⟩ : ∃ K0, w.heap.size = K0 := ⟨_, rfl⟩
  have s0 : MT w w [] := MT.start
  have s1 := MT.putK (P := fun w => w.heap[K0]? = some (.cells #[.int .u8 a, .int .u8 b, .int .u8 d, .bool p, .slice A es.length c] 24)) (MT.alloc s0 (.cells #[.int .u8 a, .int .u8 b, .int .u8 d, .bool p, .slice A es.length c] 24))
    (by rw [← hK0]; exact heap_alloc_new w _) (fun _ _ h hb => (hb.block _ (heap_lt h)).trans h)
  clear s0
  go_enter Try.func32, Try.ntmps32
  go_upto_region 1 with fail
  obtain ⟨W0, hW0⟩ : ∃ W0, w.alloc (.cells #[.int .u8 a, .int .u8 b, .int .u8 d, .bool p, .slice A es.length c] 24) = W0 := ⟨_, rfl⟩
  rw [hW0] at s1
  try rw [hW0]
  try rw [hK0]
  clear hW0 hK0
  have kM : W0.cell? ⟨K0, 0, none⟩ = some (.int .u8 a) ∧ W0.cell? ⟨K0, 1, none⟩ = some (.int .u8 b) ∧ W0.cell? ⟨K0, 2, none⟩ = some (.int .u8 d) ∧ W0.cell? ⟨K0, 3, none⟩ = some (.bool p) ∧ W0.cell? ⟨K0, 4, none⟩ = some (.slice A es.length c) := by
    have h1 := MK.get s1 0 rfl
    refine ⟨?_, ?_, ?_, ?_, ?_⟩ <;> (rw [cell_of_row _ _ _ _ _ _ h1]; rfl)
  obtain ⟨x0, x1, x2, x3, x4⟩ := kM
  go_wp2_with fail
  clear x0 x1 x2 x3 x4
  refine (CM _ (HR.out.below s1.2.1)).mono ?_
  rintro e w1 ⟨R, c1, rfl, hrd, hbl⟩
  have s2 := MK.putB (g := w1.heap.size) (MT.alloc (MK.putR (MT.next s1 hbl) hrd) (.cells #[.int .i64 i, .int .i64 o, .slice R n c1] 27)) (heap_alloc_new w1 _)
  clear s1 hrd hbl CM HR
  go_upto_region 2 with fail
  obtain ⟨g, hg⟩ : ∃ g, w1.heap.size = g := ⟨_, rfl⟩
  obtain ⟨W2, hW2⟩ : ∃ W, w1.alloc (.cells #[.int .i64 i, .int .i64 o, .slice R n c1] 27) = W := ⟨_, rfl⟩
  rw [hg, hW2] at s2
  try rw [hg]
  try rw [hW2]
  clear hg hW2
  have hk5 : z % 5 = k := HK.out
  have hk6 : z.tmod 5 = k := by rw [Int.tmod_eq_emod_of_nonneg hz.1]; exact hk5
  obtain ⟨m0, m1, m2⟩ := BxM.cells (MK.get s2 0 rfl)
  go_wp2_with fail
  clear m0 m1 m2 hk5 hk6
  refine (prounds_at M i o R n c1 _ k V.out hmi.out hmo.out hlen.out (MK.get s2 1 rfl)).mono ?_
  rintro e w3 ⟨B, rfl, hrd, hbl⟩
  rw [HP.out] at hrd
  have s3 := MK.putL (MT.next s2 hbl) hrd
  clear s2 hrd hbl
  obtain ⟨m0, m1, m2⟩ := BxM.cells (MK.get s3 1 rfl)
  go_wp2_with fail
  clear m0 m1 m2
  refine (prcheck_at n _ B n P (MK.get s3 0 rfl) HPV.out HPL.out (by omega)).mono ?_
  rintro e w4 ⟨rfl, hbl⟩
  have s4 := MT.next s3 hbl
  clear s3 hbl
  go_wp2_with fail
  have SF := Lib.hid s4
  clear s4
  go_loopw [9] (fun x wr => ∃ s : Nat, s ≤ n ∧ x = .int .i64 s ∧ Hid (Below w4.heap.size w4 wr)) (fun x _ => n - (intOf x).toNat)
  case atStart => exact ⟨0, Nat.zero_le _, rfl, Below.refl _ _⟩
  case round =>
    obtain ⟨s, hs, rfl, hbr⟩ := hrel
    by_cases hsn : s < n
    · have hsn' : (s : Int) < n := by omega
      go_wp2_with fail
      obtain ⟨wo, rfl⟩ : ∃ wo : World, wo = wr := ⟨_, rfl⟩
      go_loopw [10] (fun x wr => ∃ t : Nat, t ≤ s ∧ x = .int .i64 t ∧ Hid (Below w4.heap.size w4 wr)) (fun x _ => s - (intOf x).toNat)
      case atStart => exact ⟨0, Nat.zero_le _, rfl, hbr⟩
      case round =>
        clear hbr
        obtain ⟨t, ht, rfl, hbr⟩ := hrel
        by_cases hts : t < s
        · have hts' : (t : Int) < s := by omega
          have sI := MT.next SF.out hbr.out
          obtain ⟨m0, m1, m2⟩ := BxM.cells (MK.get sI 1 rfl)
          go_wp2_with fail
          clear m0 m1 m2
          refine (power_any i k _ hi3 hk4).mono ?_
          rintro e w5 ⟨rfl, hb5⟩
          have hbr5 := Lib.hid (below_next hbr.out hb5)
          clear sI hb5
          obtain ⟨Q, hQ⟩ : ∃ Q, i ^ k = Q := ⟨_, rfl⟩
          have HQ : Hid (i ^ k = Q) := hQ
          have hQ81 : Q ≤ 81 := by rw [← hQ]; exact pow_le81 hi3 hk4
          rw [hQ]
          clear hQ
          go_wp2_with fail
          go_loopw [11, 13] (fun x y wr => ∃ (bb : Bool) (j : Nat), j ≤ Q ∧ x = .bool bb ∧ y = .int .i64 j ∧ Hid (bb = Mc.sam M i k s t j) ∧ Hid (Below w4.heap.size w4 wr)) (fun _ y _ => Q - (intOf y).toNat)
          case atStart => exact ⟨true, 0, Nat.zero_le _, rfl, rfl, rfl, hbr5⟩
          case round =>
            clear hbr5 hbr
            obtain ⟨bb, j, hj, rfl, rfl, hbb, hbr⟩ := hrel
            by_cases hgo : j < Q ∧ bb = true
            · obtain ⟨hjQ, rfl⟩ := hgo
              have hjQ' : decide ((j : Int) < Q) = true := decide_eq_true (by omega)
              go_wp2_with fail
              obtain ⟨wi, rfl⟩ : ∃ wi : World, wi = wr := ⟨_, rfl⟩
              obtain ⟨j0, hj0, hy0, hy1, hy2⟩ := info_parts int_info
              go_loopw [14, 15, 16] (fun x y v wr => ∃ (q r : Nat) (ds : List Int), q ≤ k ∧ v = .int .i64 q ∧ y = .int .i64 r ∧ r ≤ 100 ∧ Hid (r = j / i ^ q) ∧ Hid (ds = Mc.dg i q j) ∧ Hid (wr.ownsRow wi.heap.size 3 1 x q (ints ds)) ∧ Hid (Below wi.heap.size wi wr)) (fun _ _ v _ => k - (intOf v).toNat)
              case atStart => exact ⟨0, j, [], Nat.zero_le _, rfl, rfl, by omega, by show _ = _; simp, rfl, World.ownsRow_nil _ _ _ _, Below.refl _ _⟩
              case round =>
                obtain ⟨q, r, ds, hq, rfl, rfl, hr100, hrq, hds, hown0, hbq⟩ := hrel
                by_cases hqk : q < k
                · have hqk' : decide ((q : Int) < k) = true := decide_eq_true (by omega)
                  have sI := MT.next SF.out (below_next hbr.out hbq.out)
                  obtain ⟨m0, m1, m2⟩ := BxM.cells (MK.get sI 1 rfl)
                  have hi0 : ((i : Int) == 0) = false := by simp; omega
                  have hi0' : (i : Int) ≠ 0 := by omega
                  obtain ⟨y, hy, hy3⟩ : ∃ y : Nat, r % i = y ∧ y ≤ 100 := ⟨_, rfl, Nat.le_trans (Nat.mod_le _ _) hr100⟩
                  obtain ⟨r2, hr2, hr3⟩ : ∃ r2 : Nat, r / i = r2 ∧ r2 ≤ 100 := ⟨_, rfl, Nat.le_trans (Nat.div_le_self _ _) hr100⟩
                  have e1 : (r : Int).tmod i = y := by rw [← hy]; rfl
                  have e2 : (r : Int).tdiv i = r2 := by rw [← hr2]; rfl
                  have e3 : (r : Int) % i = y := by rw [← hy]; rfl
                  have e4 : (r : Int) / i = r2 := by rw [← hr2]; rfl
                  have hds2 : Hid (ds ++ [(y : Int)] = Mc.dg i (q + 1) j) := by show _ = _; rw [Mc.dg_snoc, ← hds.out, ← hy, hrq.out]
                  have hrq2 : Hid (r2 = j / i ^ (q + 1)) := by show _ = _; rw [← hr2, hrq.out, Nat.pow_succ, Nat.div_div_eq_div_mul]
                  have hsz := hbq.out.size
                  have HBQ := hbq
                  have hownA := hown0.out.alloc (.cells #[.int .i64 y] 3)
                  have h1 := Lib.hid (cell_one_new wr (t := 3) (.int .i64 y))
                  have h2 : Hid (∀ u ∈ ([.int .i64 y] : List Value), u.oneCell' = true) := fun u hu => by simp at hu; subst hu; rfl
                  have h3 : q + 1 ≤ maxLen := by unfold maxLen; omega
                  have h4 : (q + 1) * 8 ≤ 140737488355328 := by omega
                  have h5 : wi.heap.size ≤ (wr.alloc (.cells #[.int .i64 y] 3)).heap.size := by simp; omega
                  clear sI hown0 hbq hy hr2
                  go_wp2_with (at_builtin; refine wpList_append_own _ rfl _ _ 29 rfl wi.heap.size 3 j0 (.int .i64 0) 1 8 Try.underlying29 hj0 hy0 hy1 hy2 rfl (by decide) _ _ _ rfl hownA ⟨wr.heap.size, 0, none⟩ 1 1 [.int .i64 y] rfl rfl h1.out h2.out h3 h4 h5 ?_)
                  intro v1 w5 hown1 hg1 _
                  have hbq2 := Lib.hid ((HBQ.out.alloc hsz (.cells #[.int .i64 y] 3)).grown hg1 h5 (fun j hj => (hownA.lt j hj).1))
                  rw [ints_snoc, hds2.out] at hown1
                  have hown2 := Lib.hid hown1
                  have sJ := MT.next SF.out (below_next hbr.out hbq2.out)
                  clear hown1 hg1 hownA h1 h2 h3 h4 h5 m0 m1 m2 HBQ hsz
                  obtain ⟨m0, m1, m2⟩ := BxM.cells (MK.get sJ 1 rfl)
                  clear sJ
                  go_wp2_with fail
                  go_roundw
                  case rel => exact ⟨q + 1, r2, _, by omega, by go_num, rfl, hr3, hrq2, rfl, hown2, hbq2⟩
                  case measure => simp [intOf]; omega
                · have hqk' : decide ((q : Int) < k) = false := decide_eq_false (by omega)
                  obtain rfl : q = k := by omega
                  obtain ⟨Lw, cw, rfl, _⟩ := own_slice hown0.out
                  have hdw : Hid (∀ c ∈ Mc.dg i q j, 0 ≤ c ∧ c < (i : Int)) := Mc.dg_wd (by omega) q j
                  have hdl : Hid ((Mc.dg i q j).length = q) := Mc.dg_len i q j
                  have hrw := Rd.of_own hown0.out
                  rw [hds.out] at hrw
                  have hbX := below_next hbr.out hbq.out
                  have sK := MK.putL (MT.next SF.out hbX) hrw
                  have HBX := Lib.hid hbX
                  have HWd : Hid (Mc.Wd M (Mc.dg i q j)) := fun c hc => by rw [hmi.out]; exact hdw.out c hc
                  have HS1 : Hid (Mc.St M (s : Int)) := Or.inr ⟨by omega, by have := hlen.out; omega⟩
                  have HS2 : Hid (Mc.St M (t : Int)) := Or.inr ⟨by omega, by have := hlen.out; omega⟩
                  clear hown0 hrw hbX hbq hds hrq hdw hr100
                  go_upto_region 23 with fail
                  have sD := MT.next sK (Below.refl _ _).drew
                  have y0 : Below wr.heap.size wr wr.drew := (Below.refl _ _).drew
                  obtain ⟨a0, a1, a2⟩ := BxM.cells (MK.get sK 2 rfl)
                  go_region_held3 (fun w' => w'.cell? ⟨g, 0, none⟩ = some (.int .i64 i) ∧ w'.cell? ⟨g, 1, none⟩ = some (.int .i64 o) ∧ w'.cell? ⟨g, 2, none⟩ = some (.slice R n c1))
                    (first | exact ⟨x30, x31, x32⟩ | exact ⟨x20, x21, x22⟩ | exact ⟨x10, x11, x12⟩ | exact ⟨a0, a1, a2⟩ | go_keep)
                    (first
                      | (go_at_call 25
                         (with_reducible refine (rrun_at M i o R n c1 _ s Lw q cw (Mc.dg i q j) V.out hmi.out hmo.out hlen.out hdl.out (MK.get sD 3 rfl) (MK.get sD 0 rfl) HS1.out HWd.out (by omega)).mono ?_)
                         rintro e wa1 ⟨B6, q6, rfl, hr6, hb3⟩
                         have t1 := MK.putL (MT.next sD hb3) hr6
                         have y1 := below_next y0 hb3
                         obtain ⟨x10, x11, x12⟩ := BxM.cells (MK.get t1 3 rfl)
                         dsimp only)
                      | (go_at_call 25
                         (with_reducible refine (rrun_at M i o R n c1 _ t Lw q cw (Mc.dg i q j) V.out hmi.out hmo.out hlen.out hdl.out (MK.get t1 4 rfl) (MK.get t1 1 rfl) HS2.out HWd.out (by omega)).mono ?_)
                         rintro e wa2 ⟨B7, q7, rfl, hr7, hb4⟩
                         have t2 := MK.putL (MT.next t1 hb4) hr7
                         have y2 := below_next y1 hb4
                         obtain ⟨x20, x21, x22⟩ := BxM.cells (MK.get t2 4 rfl)
                         dsimp only)
                      | (go_at_call 18
                         (with_reducible refine (same_at _ B6 B7 q q6 q7 (Mc.run M s (Mc.dg i q j)) (Mc.run M t (Mc.dg i q j)) (MK.get t2 1 rfl) (MK.get t2 0 rfl) (by rw [Mc.run_len]; exact hdl.out) (by rw [Mc.run_len]; exact hdl.out) (by omega)).mono ?_)
                         rintro e wa3 ⟨rfl, hb5⟩
                         have t3 := MT.next t2 hb5
                         have y3 := below_next y2 hb5
                         obtain ⟨x30, x31, x32⟩ := BxM.cells (MK.get t3 4 rfl)
                         dsimp only)
                      | fail)
                  all_goals
                    have hbE := Lib.hid (below_next HBX.out y3)
                    have hsam : Hid (Go.Proofs.Ytonnplhiaidjnaa.M.same (Mc.run M s (Mc.dg i q j)) (Mc.run M t (Mc.dg i q j)) = Mc.sam M i q s t (j + 1)) := by show _ = _; rw [Mc.sam_step, ← hbb.out, Bool.true_and]
                    clear t1 t2 t3 y1 y2 y3 x10 x11 x12 x20 x21 x22 x30 x31 x32 hb3 hb4 hb5 hr6 hr7 sD sK y0 a0 a1 a2 HBX hbb hbr
                    go_wp2_with fail
                    go_roundw
                    case rel => exact ⟨_, j + 1, by omega, rfl, by go_num, hsam, hbE⟩
                    case measure => simp [intOf]; omega
            · have hfin : Hid (bb = (Go.Proofs.Ytonnplhiaidjnaa.M.gz P s == Go.Proofs.Ytonnplhiaidjnaa.M.gz P t)) := by
                show _ = _
                rw [← HP.out, ← Mc.sam_all V.out hmi.out (by have := hlen.out; omega) (by have := hlen.out; omega), HQ.out, hbb.out]
                by_cases hjQ : j < Q
                · have hf : bb = false := by
                    cases bb with
                    | false => rfl
                    | true => exact absurd ⟨hjQ, rfl⟩ hgo
                  have h1 : Mc.sam M i k s t j = false := by rw [← hbb.out, hf]
                  rw [h1, Mc.sam_off h1 (by omega)]
                · obtain rfl : j = Q := by omega
                  rfl
              have sX := MT.next SF.out hbr.out
              have hrP : Rd wr B P := MK.get sX 0 rfl
              obtain ⟨pb, po, rfl⟩ := hrP.opn (by have := HPL.out; omega)
              obtain ⟨u, hub, huc, hu⟩ := hrP.cl (k := s) (by have := HPL.out; omega)
              obtain ⟨v, hvb, hvc, hv⟩ := hrP.cl (k := t) (by have := HPL.out; omega)
              have hbu : bb = (u == v) := by rw [hfin.out, hu.out, hv.out]
              clear sX hrP hub hvb hu hv hfin hbb
              by_cases hjQ : j < Q
              · have hjQ' : decide ((j : Int) < Q) = true := decide_eq_true (by omega)
                have hf : bb = false := by
                  cases bb with
                  | false => rfl
                  | true => exact absurd ⟨hjQ, rfl⟩ hgo
                subst hf
                have huv : (u == v) = false := hbu.symm
                clear hbu hgo
                go_wp2_with fail
                go_quiet (fail)
                go_wp2_with fail
                go_roundw
                case rel => exact ⟨t + 1, by omega, by go_num, below_drewN' hbr.out _⟩
                case measure => simp [intOf]; omega
              · have hjQ' : decide ((j : Int) < Q) = false := decide_eq_false (by omega)
                subst hbu
                have hxx : ((u == v) != (u == v)) = false := by simp
                clear hgo
                go_wp2_with fail
                go_quiet (fail)
                go_wp2_with fail
                go_roundw
                case rel => exact ⟨t + 1, by omega, by go_num, below_drewN' hbr.out _⟩
                case measure => simp [intOf]; omega
        · have hts' : decide ((t : Int) < s) = false := decide_eq_false (by omega)
          go_wp2_with fail
          go_roundw
          case rel => exact ⟨s + 1, by omega, by go_num, hbr⟩
          case measure => simp [intOf]; omega
    · have hsn' : decide ((s : Int) < n) = false := decide_eq_false (by omega)
      have s5 := MT.next SF.out hbr.out
      have hbF := Lib.hid s5.2.1
      clear s5 SF hbr
      go_wp2_with fail
      refine (lives_walk _).mono ?_
      rintro e w5 ⟨rfl, hb⟩
      go_wp2_with fail
      go_ret
      exact ⟨rfl, below_next hbF.out hb⟩
end Go.Proofs.Ytonnplhiaidjnaa
