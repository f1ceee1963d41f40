/-
  The walk of WalksCanonical. No statement is proved here.
-/
import Derived.Test.YthemaombpddbbaaWfZ
import Derived.Test.YthemaombpddbbaaWg2
import Derived.Deep.RegionHeld3
import Derived.Deep.CutRange
namespace Go.Proofs.Ythemaombpddbbaa
open Go.RowKit
open Mc (Ed Ma)

theorem own_formG {w : World} {base : Nat} {v : Value} {x : List Int} (h : OwI w base v x) (hp : 0 < x.length) : ∃ g c, v = .slice (some ⟨g, 0, none⟩) x.length c := by
  rcases h.2 with ⟨_, h0⟩ | ⟨g, c, cu, e, _⟩
  · omega
  · exact ⟨g, c, e⟩
set_option maxRecDepth 100000 in
set_option maxHeartbeats 4000000 in
theorem lawCanon_walk (a b d : Int) (p : Bool) (A : Option Addr) (c : Nat) (es : List Int) (B1 : Option Addr) (e1 : Nat) (ws : List Int) (S1 : Option Addr) (f1 : Nat) (ss : List Int) (w : World) (hr : Rd16 w A es) (hr8 : Rd8 w B1 ws) (hs8 : Rd8 w S1 ss) (hl : es.length ≤ 9223372036854775807) (hlw : ws.length ≤ 9223372036854775807)
    (ha : 0 ≤ a ∧ a ≤ 255) (hb : 0 ≤ b ∧ b ≤ 255) (hd : 0 ≤ d ∧ d ≤ 255) :
    Calls Try.prog 3 #[.agg #[.int .u8 a, .int .u8 b, .int .u8 d, .bool p, .slice A es.length c], .agg #[.slice B1 ws.length e1], .slice S1 ss.length f1] w fun e w' => e = .returned (.bool true) ∧ Below w.heap.size w w' := by
  obtain ⟨n, hn⟩ : ∃ n : Nat, 1 + a % 6 = n := ⟨(1 + a % 6).toNat, by omega⟩
  obtain ⟨i, hi⟩ : ∃ i : Nat, 1 + b % 3 = i := ⟨(1 + b % 3).toNat, by omega⟩
  obtain ⟨o, ho⟩ : ∃ o : Nat, 1 + d % 3 = o := ⟨(1 + d % 3).toNat, by omega⟩
  have CM := fun w hr => mof_at a b d p A c es n i o w hr hl ha hb hd hn hi ho
  have hn1 : 1 ≤ n := by omega
  have hi1 : 1 ≤ i := by omega
  have hn6 : n ≤ 6 := by omega
  have hi3 : i ≤ 3 := by omega
  obtain ⟨M, hM⟩ : ∃ M, Mc.mkN p n i o es = M := ⟨_, rfl⟩
  have V := Lib.hid (Mc.mkN_val (p := p) (n := n) (i := i) (o := o) (es := es) (by omega) (by omega) (by omega) (by omega) (by omega) (by omega))
  have hlen : Hid ((Mc.mkN p n i o es).r.length = n) := Mc.mkN_len _ _ _ _ _
  have hmi : Hid ((Mc.mkN p n i o es).i = i) := rfl
  have hmo : Hid ((Mc.mkN p n i o es).o = o) := rfl
  rw [hM] at V hlen hmi hmo
  simp only [hM] at CM
  clear hM ha hb hd hn hi ho hl
  obtain ⟨C, hC⟩ : ∃ C, Mc.prt M (Mc.ord M) = C := ⟨_, rfl⟩
  obtain ⟨K, hK⟩ : ∃ K, C.r.length = K := ⟨_, rfl⟩
  have VC : Hid (Mc.Val C) := hC ▸ Mc.can_val V.out
  have hCi : Hid (C.i = i) := by show _ = _; rw [← hC]; exact hmi.out
  have hCo : Hid (C.o = o) := by show _ = _; rw [← hC]; exact hmo.out
  have hCK : Hid (C.r.length = K) := hK
  have hCC : Hid (Mc.prt C (Mc.ord C) = C) := by show _ = _; rw [← hC]; exact Mc.can_can V.out
  have hK64 : K ≤ 64 := by rw [← hK]; exact VC.out.r1
  have hK1 : 1 ≤ K := by rw [← hK]; exact VC.out.r0
  have HC := Lib.hid hC
  obtain ⟨β, hβ⟩ : ∃ β, decide (M = C) = β := ⟨_, rfl⟩
  have hBM : Mc.canB M = β := by rw [Mc.canB_eq V.out, hC, hβ]
  have hBC : Mc.canB C = true := by rw [← hC]; exact Mc.canB_yes V.out
  have CC := fun R c1 w hr => canon_to M i o R n c1 w C K V.out hmi.out hmo.out hlen.out hr HC.out hCK.out
  have CCC := fun R c1 w hr => canon_to C i o R K c1 w C K VC.out hCi.out hCo.out hCK.out hr hCC.out hCK.out
  have CR := Lib.hid (fun R c1 w hr => rcanon_to M R n c1 w i o C K V.out hmi.out hmo.out hlen.out hr HC.out hCK.out)
  have CI := fun R c1 w hr => iscan_at M i o R n c1 w V.out hmi.out hmo.out hlen.out hr
  have CIC := fun R c1 w hr => iscan_at C i o R K c1 w VC.out hCi.out hCo.out hCK.out hr
  have CS := Lib.hid (fun R c1 B d w hR hB => rmsame_at M C i o i o R B n c1 K d w hmi.out hmo.out hCi.out hCo.out hlen.out hCK.out hR hB (by omega) V.out.rows)
  simp only [hBM] at CI
  simp only [hBC] at CIC
  simp only [hβ] at CS
  have CW := fun w h => wof_at B1 e1 ws i w h hi1 (by omega) hlw
  have HW := Lib.hid (Mc.sym_wd (m := M) (i := i) (zs := ws) hmi.out (by omega))
  obtain ⟨Y, hY⟩ : ∃ Y, Go.Proofs.Ythemaombpddbbaa.M.sym i ws = Y := ⟨_, rfl⟩
  rw [hY] at HW
  simp only [hY] at CW
  have HWC : Hid (Mc.Wd C Y) := fun c hc => by
    have := HW.out c hc
    rwa [hmi.out, ← hCi.out] at this
  have HRun : Hid (Mc.run C 0 Y = Mc.run M 0 Y) := by show _ = _; rw [← hC]; exact Mc.can_run V.out HW.out
  have HSt : Hid (Mc.St M 0) := Or.inr (by have := hlen.out; omega)
  have HSC : Hid (Mc.St C 0) := Or.inr (by have := hCK.out; omega)
  have HR := Lib.hid hr
  have HR8 := Lib.hid hr8
  have HS8 := Lib.hid hs8
  obtain ⟨E, hE⟩ : ∃ E, ws.length = E := ⟨_, rfl⟩
  obtain ⟨F, hF⟩ : ∃ F, ss.length = F := ⟨_, rfl⟩
  have HF := Lib.hid hF
  simp only [hE] at CW
  rw [hE, hF]

  clear hr hr8 hs8 hC hK hβ hBM hBC hY hE hF hlw
  have s0 : MT w w [] := MT.start
  obtain ⟨K0, hK0⟩ : ∃ K0, w.heap.size = K0 := ⟨_, rfl⟩
  have s1 := MT.putK (P := fun w => w.heap[K0 + 1]? = some (.cells #[.slice B1 E e1] 27)) (MT.alloc (MT.alloc s0 (.cells #[.int .u8 a, .int .u8 b, .int .u8 d, .bool p, .slice A es.length c] 24)) (.cells #[.slice B1 E e1] 27))
    (by
      have h := heap_alloc_new (w.alloc (.cells #[.int .u8 a, .int .u8 b, .int .u8 d, .bool p, .slice A es.length c] 24)) (.cells #[.slice B1 E e1] 27)
      rw [show (w.alloc (.cells #[.int .u8 a, .int .u8 b, .int .u8 d, .bool p, .slice A es.length c] 24)).heap.size = w.heap.size + 1 by simp, hK0] at h
      exact h) (fun _ _ h hb => (hb.block _ (heap_lt h)).trans h)
  clear s0
  go_enter Try.func3, Try.ntmps3
  go_wp2_with fail
  refine (CM _ (HR.out.below s1.2.1)).mono ?_
  rintro e w1 ⟨R, c1, rfl, hrd, hbl⟩
  have s2 := MK.putB (g := w1.heap.size) (MT.alloc (MK.putR (MT.next s1 hbl) hrd) (.cells #[.int .i64 i, .int .i64 o, .slice R n c1] 30)) (heap_alloc_new w1 _)
  clear s1 hrd hbl CM HR
  go_upto_region 2 with fail
  obtain ⟨g, hg⟩ : ∃ g, w1.heap.size = g := ⟨_, rfl⟩
  obtain ⟨W, hW⟩ : ∃ W, w1.alloc (.cells #[.int .i64 i, .int .i64 o, .slice R n c1] 30) = W := ⟨_, rfl⟩
  rw [hg, hW] at s2
  rw [hg, hW]
  clear hg hW
  obtain ⟨m0, m1, m2⟩ := BxM.cells (MK.get s2 0 rfl)
  have hpl : W.heap[K0 + 1]? = some (.cells #[.slice B1 E e1] 27) := MK.get s2 2 rfl
  have l0 : W.cell? ⟨K0 + 1, 0, none⟩ = some (.slice B1 E e1) := by rw [cell_of_row _ _ _ _ _ _ hpl]; rfl
  clear hpl
  go_wp2_with fail
  clear m0 m1 m2 l0
  refine (CW _ (HR8.out.below s2.2.1)).mono ?_
  rintro e w2 ⟨B2, k2, q2, rfl, hk2, h12, hrd, hbl⟩
  have s3 := MK.putL (MT.next s2 hbl) hrd
  clear s2 hrd hbl CW HR8
  obtain ⟨m0, m1, m2⟩ := BxM.cells (MK.get s3 1 rfl)
  go_wp2_with fail
  clear m0 m1 m2
  refine (CC R c1 _ (MK.get s3 2 rfl)).mono ?_
  rintro e w3 ⟨p1, rfl, hX, hbl⟩
  have s4 := MK.putB (g := w3.heap.size) (MT.alloc (MK.putX (MT.next s3 hbl) hX) (.cells #[.int .i64 i, .int .i64 o, .slice (some ⟨p1, 0, none⟩) K K] 30)) (heap_alloc_new w3 _)
  clear s3 hX hbl CC
  go_upto_region 4 with fail
  obtain ⟨gc, hgc⟩ : ∃ g, w3.heap.size = g := ⟨_, rfl⟩
  obtain ⟨W4, hW4⟩ : ∃ W, w3.alloc (.cells #[.int .i64 i, .int .i64 o, .slice (some ⟨p1, 0, none⟩) K K] 30) = W := ⟨_, rfl⟩
  rw [hgc, hW4] at s4
  rw [hgc, hW4]
  clear hgc hW4
  go_cut [50] from 24 to 164 (fun f wx => f = .bool false ∧ Below W4.heap.size W4 wx)
  case first =>
    clear CCC CI CIC
    have sD := MT.next s4 (Below.refl _ _).drew
    have y0 : Below W4.heap.size W4 W4.drew := (Below.refl _ _).drew
    obtain ⟨a0, a1, a2⟩ := BxM.cells (MK.get s4 0 rfl)
    obtain ⟨a3, a4, a5⟩ := BxM.cells (MK.get s4 3 rfl)
    go_region_held3 (fun w' => w'.cell? ⟨gc, 0, none⟩ = some (.int .i64 i) ∧ w'.cell? ⟨gc, 1, none⟩ = some (.int .i64 o) ∧ w'.cell? ⟨gc, 2, none⟩ = some (.slice (some ⟨p1, 0, none⟩) K K) ∧ w'.cell? ⟨g, 0, none⟩ = some (.int .i64 i) ∧ w'.cell? ⟨g, 1, none⟩ = some (.int .i64 o) ∧ w'.cell? ⟨g, 2, none⟩ = some (.slice R n c1))
      (first | exact ⟨x50, x51, x52, x53, x54, x55⟩ | exact ⟨x40, x41, x42, x43, x44, x45⟩ | exact ⟨x30, x31, x32, x33, x34, x35⟩ | exact ⟨x20, x21, x22, x23, x24, x25⟩ | exact ⟨x10, x11, x12, x13, x14, x15⟩ | exact ⟨a0, a1, a2, a3, a4, a5⟩ | go_keep)
      (first
        | (go_at_call 18
           (with_reducible refine (CR.out R c1 _ (MK.get sD 4 rfl)).mono ?_)
           rintro e wa1 ⟨B5, d5, rfl, hr5, hb1⟩
           have t1 := MK.putR (MT.next sD hb1) hr5
           have y1 := below_next y0 hb1
           obtain ⟨x10, x11, x12⟩ := BxM.cells (MK.get t1 1 rfl)
           obtain ⟨x13, x14, x15⟩ := BxM.cells (MK.get t1 4 rfl)
           dsimp only)
        | (go_at_call 17
           (with_reducible refine (machine_yes i o C.r p1 K d5 B5 _ (MK.get t1 2 rfl) (MK.get t1 0 rfl)).mono ?_)
           rintro e wa2 ⟨rfl, hb2⟩
           have t2 := MT.next t1 hb2
           have y2 := below_next y1 hb2
           obtain ⟨x20, x21, x22⟩ := BxM.cells (MK.get t2 1 rfl)
           obtain ⟨x23, x24, x25⟩ := BxM.cells (MK.get t2 4 rfl)
           dsimp only)
        | (go_at_call 20
           (with_reducible refine (rrun_at C i o (some ⟨p1, 0, none⟩) K K _ 0 B2 k2 q2 Y VC.out hCi.out hCo.out hCK.out hk2.out (Ex.rd (MK.get t2 2 rfl)) (MK.get t2 3 rfl) HSC.out HWC.out (by omega)).mono ?_)
           rintro e wa3 ⟨B6, q6, rfl, hr6, hb3⟩
           have t3 := MK.putL (MT.next t2 hb3) hr6
           have y3 := below_next y2 hb3
           obtain ⟨x30, x31, x32⟩ := BxM.cells (MK.get t3 2 rfl)
           obtain ⟨x33, x34, x35⟩ := BxM.cells (MK.get t3 5 rfl)
           dsimp only)
        | (go_at_call 20
           (with_reducible refine (rrun_at M i o R n c1 _ 0 B2 k2 q2 Y V.out hmi.out hmo.out hlen.out hk2.out (MK.get t3 6 rfl) (MK.get t3 4 rfl) HSt.out HW.out (by omega)).mono ?_)
           rintro e wa4 ⟨B7, q7, rfl, hr7, hb4⟩
           have t4 := MK.putL (MT.next t3 hb4) hr7
           have y4 := below_next y3 hb4
           obtain ⟨x40, x41, x42⟩ := BxM.cells (MK.get t4 3 rfl)
           obtain ⟨x43, x44, x45⟩ := BxM.cells (MK.get t4 6 rfl)
           dsimp only)
        | (go_at_call 19
           (with_reducible refine (rsame_yes B6 B7 k2 q6 q7 (Mc.run M 0 Y) _ (by rw [← HRun.out]; exact (MK.get t4 1 rfl)) (MK.get t4 0 rfl) (by rw [Mc.run_len]; exact hk2.out) (by omega)).mono ?_)
           rintro e wa5 ⟨rfl, hb5⟩
           have t5 := MT.next t4 hb5
           have y5 := below_next y4 hb5
           obtain ⟨x50, x51, x52⟩ := BxM.cells (MK.get t5 3 rfl)
           obtain ⟨x53, x54, x55⟩ := BxM.cells (MK.get t5 6 rfl)
           dsimp only)
        | fail)
    all_goals
      go_wp2_with fail
      go_meet
      exact ⟨rfl, y5⟩
  case rest =>
  obtain ⟨rfl, hbc⟩ := hcut
  have ⟨w5, hw5⟩ : ∃ q, q = wc := ⟨_, rfl⟩
  rw [← hw5] at hbc ⊢
  clear hw5
  have s5 := MT.next s4 hbc
  clear s4 hbc CR HRun HWC HSC HSt
  obtain ⟨m0, m1, m2⟩ := BxM.cells (MK.get s5 0 rfl)
  go_wp2_with fail
  clear m0 m1 m2
  refine (CCC (some ⟨p1, 0, none⟩) K _ (Ex.rd (MK.get s5 1 rfl))).mono ?_
  rintro e w6 ⟨p2, rfl, hX, hbl⟩
  have s6 := MK.putX (MT.next s5 hbl) hX
  have S6 := Lib.hid s6
  have s7 := MK.putB (g := w6.heap.size) (MT.alloc s6 (.cells #[.int .i64 i, .int .i64 o, .slice (some ⟨p2, 0, none⟩) K K] 30)) (heap_alloc_new w6 _)
  have z7 : Below w6.heap.size w6 (w6.alloc (.cells #[.int .i64 i, .int .i64 o, .slice (some ⟨p2, 0, none⟩) K K] 30)) := (Below.refl _ _).alloc (Nat.le_refl _) _
  clear s5 s6 hX hbl CCC
  obtain ⟨m0, m1, m2⟩ := BxM.cells (MK.get s7 5 rfl)
  go_wp2_with fail
  clear m0 m1 m2
  refine (CI R c1 _ (MK.get s7 6 rfl)).mono ?_
  rintro e w8 ⟨rfl, hbl⟩
  have s8 := MT.next s7 hbl
  have z8 := below_next z7 hbl
  clear s7 z7 hbl CI
  obtain ⟨m0, m1, m2⟩ := BxM.cells (MK.get s8 2 rfl)
  go_wp2_with fail
  clear m0 m1 m2
  refine (CIC (some ⟨p1, 0, none⟩) K _ (Ex.rd (MK.get s8 3 rfl))).mono ?_
  rintro e w9 ⟨rfl, hbl⟩
  have s9 := MT.next s8 hbl
  have z9 := below_next z8 hbl
  clear s8 z8 hbl CIC
  obtain ⟨gd, hgd⟩ : ∃ g, w6.heap.size = g := ⟨_, rfl⟩
  rw [hgd] at s9
  rw [hgd]
  have HGd := Lib.hid hgd
  have hbb : (β != β) = false := by simp
  obtain ⟨m0, m1, m2⟩ := BxM.cells (MK.get s9 0 rfl)
  obtain ⟨m3, m4, m5⟩ := BxM.cells (MK.get s9 2 rfl)
  clear hgd
  go_wp2_with fail
  clear m0 m1 m2 m3 m4 m5
  refine (machine_yes i o C.r p2 K K (some ⟨p1, 0, none⟩) _ (MK.get s9 1 rfl) (Ex.rd (MK.get s9 3 rfl))).mono ?_
  rintro e w10 ⟨rfl, hbl⟩
  have s10 := MT.next s9 hbl
  have z10 := below_next z9 hbl
  clear s9 z9 hbl
  obtain ⟨m0, m1, m2⟩ := BxM.cells (MK.get s10 2 rfl)
  obtain ⟨m3, m4, m5⟩ := BxM.cells (MK.get s10 5 rfl)
  go_wp2_with fail
  clear m0 m1 m2 m3 m4 m5
  refine (CS.out R c1 (some ⟨p1, 0, none⟩) K _ (MK.get s10 6 rfl) (Ex.rd (MK.get s10 3 rfl))).mono ?_
  rintro e w11 ⟨rfl, hbl⟩
  have s11 := MT.next s10 hbl
  have z11 := below_next z10 hbl
  clear s10 z10 hbl CS
  obtain ⟨m0, m1, m2⟩ := BxM.cells (MK.get s11 5 rfl)
  go_wp2
  clear m0 m1 m2 hbb
  have SF := Lib.hid s11
  have ZF := Lib.hid z11
  clear s11 z11
  go_loopw [18, 19] (fun l v wr => ∃ k : Nat, k ≤ n ∧ v = .int .i64 k ∧ Hid (OwI wr w11.heap.size l (Mc.iota k)) ∧ Hid (Below w11.heap.size w11 wr)) (fun _ v _ => n - (intOf v).toNat)
  case atStart => exact ⟨0, by omega, rfl, OwI.nil_ _ _, Below.refl _ _⟩
  case round =>
    obtain ⟨k, hk, rfl, hO, hbr⟩ := hrel
    by_cases hlt : k < n
    · have hkn : (k : Int) < n := by omega
      have hklen := Mc.iota_len k
      have hS : Hid (Rd (wr.alloc (.cells #[.int .i64 k] 3)) (some ⟨wr.heap.size, 0, none⟩) [(k : Int)]) := Rd.of_block (t := 3) (heap_alloc_new wr _)
      have hO3 : Hid (OwI (wr.alloc (.cells #[.int .i64 k] 3)) w11.heap.size u18 (Mc.iota k)) := own_below hO.out ((Below.refl _ _).alloc (Nat.le_refl _) _)
      have hb3 := Lib.hid (hbr.out.alloc hbr.out.size (.cells #[.int .i64 k] 3))
      clear hO
      go_wp2_with (at_builtin; refine wpList_append_list _ (W0 := w11) (B := w11.heap.size) (xs := Mc.iota k) (ys := [(k : Int)]) hO3.out hS.out rfl ?b1 ?b2 hb3.out rfl _ _ rfl rfl rfl ?_)
      case b1 => simp; omega
      case b2 => exact hb3.out.size
      intro v9 w12 hO4 hb4
      have hO5 : Hid (OwI w12 w11.heap.size v9 (Mc.iota (k + 1))) := by show OwI _ _ _ _; rw [Mc.iota_snoc]; exact hO4
      have HB4 := Lib.hid hb4
      clear hO4 hb4 hO3 hb3 hS hklen
      go_wp2
      go_roundw
      case rel => exact ⟨k + 1, by omega, by go_num, hO5, HB4⟩
      case measure => simp [intOf]; omega
    · obtain rfl : k = n := by omega
      obtain ⟨g9, d9, rfl⟩ := own_formG hO.out (by rw [Mc.iota_len]; omega)
      have hO2 : Hid (∃ L, Mc.Prm k L ∧ OwI wr w11.heap.size (.slice (some ⟨g9, 0, none⟩) k d9) L) := ⟨Mc.iota k, Mc.Prm.iota hn1, by have := hO.out; rwa [Mc.iota_len] at this⟩
      rw [Mc.iota_len]
      clear hO
      go_wp2
      go_loopw [20] (fun v wq => ∃ j : Nat, j ≤ 22 ∧ v = .int .i64 j ∧ Hid (∃ L, Mc.Prm k L ∧ OwI wq w11.heap.size (.slice (some ⟨g9, 0, none⟩) k d9) L) ∧ Hid (Below w11.heap.size w11 wq)) (fun v _ => 24 - (intOf v).toNat)
      case atStart => exact ⟨0, by omega, rfl, hO2, hbr⟩
      case round =>
        obtain ⟨j, hj, rfl, hP, hbq⟩ := hrel
        clear hO2 hbr
        obtain ⟨γ, hγ⟩ : ∃ γ, ((decide (j + 1 < F) && decide (j < 20)) && decide (1 < k)) = γ := ⟨_, rfl⟩
        have HG := Lib.hid hγ
        clear hγ
        go_upto_region 18 with fail
        go_cut [114] from 102 to 149 (fun f wx => f = .bool γ ∧ wx = wr)
        case first =>
          by_cases h1 : j + 1 < F
          · have t1 : decide ((j : Int) + 1 < F) = true := decide_eq_true (by omega)
            by_cases h2 : j < 20
            · have t2 : decide ((j : Int) < 20) = true := decide_eq_true (by omega)
              by_cases h3 : 1 < k
              · have t3 : decide ((1 : Int) < k) = true := decide_eq_true (by omega)
                have hB : Hid (γ = true) := by show _ = _; rw [← HG.out, decide_eq_true h1, decide_eq_true h2, decide_eq_true h3]; rfl
                clear h1 h2 h3
                go_wp2
                go_meet
                exact ⟨by rw [hB.out], rfl⟩
              · have t3 : decide ((1 : Int) < k) = false := decide_eq_false (by omega)
                have hB : Hid (γ = false) := by show _ = _; rw [← HG.out, decide_eq_true h1, decide_eq_true h2, decide_eq_false h3]; rfl
                clear h1 h2 h3
                go_wp2
                go_meet
                exact ⟨by rw [hB.out], rfl⟩
            · have t2 : decide ((j : Int) < 20) = false := decide_eq_false (by omega)
              have hB : Hid (γ = false) := by show _ = _; rw [← HG.out, decide_eq_true h1, decide_eq_false h2]; rfl
              clear h1 h2
              go_wp2
              go_meet
              exact ⟨by rw [hB.out], rfl⟩
          · have t1 : decide ((j : Int) + 1 < F) = false := decide_eq_false (by omega)
            have hB : Hid (γ = false) := by show _ = _; rw [← HG.out, decide_eq_false h1]; rfl
            clear h1
            go_wp2
            go_meet
            exact ⟨by rw [hB.out], rfl⟩
        case rest =>
        obtain ⟨rfl, rfl⟩ := hcut
        have hg := HG.out
        cases γ with
        | false =>
          clear hg HG
          obtain ⟨L, hL, hOL⟩ := hP.out
          have HL := Lib.hid hL
          have HLk : Hid (L.length = k) := hL.len
          have hLk := HLk.out
          have hOk : wc.ownsRow w11.heap.size 3 1 (.slice (some ⟨g9, 0, none⟩) k d9) k (ints L) := by rw [← hLk]; rw [← hLk] at hOL; exact hOL
          have s12 := MK.putL (MT.next SF.out hbq.out) (Rd.of_own hOk)
          have z12 := below_next ZF.out hbq.out
          clear hL hOL hP hbq hLk hOk
          obtain ⟨m0, m1, m2⟩ := BxM.cells (MK.get s12 6 rfl)
          go_wp2_with fail
          clear m0 m1 m2
          refine (part_at M i o L R (some ⟨g9, 0, none⟩) k c1 k d9 _ V.out hmi.out hmo.out hlen.out (MK.get s12 7 rfl) (MK.get s12 0 rfl) HLk.out HL.out.nd (by rw [hlen.out]; exact HL.out.rg)).mono ?_
          rintro e w13 ⟨B5, k5, d5, rfl, hk5, hr5, hbl⟩
          obtain rfl : k = k5 := by rw [← HLk.out]; exact hk5.out
          have s13 := MK.putB (g := w13.heap.size) (MT.alloc (MK.putR (MT.next s12 hbl) hr5) (.cells #[.int .i64 i, .int .i64 o, .slice B5 k d5] 30)) (heap_alloc_new w13 _)
          have z13 := (below_next z12 hbl).alloc (below_next z12 hbl).size (.cells #[.int .i64 i, .int .i64 o, .slice B5 k d5] 30)
          clear s12 z12 hbl hk5 hr5
          have HPm : Hid (Mc.Prm M.r.length L) := by show Mc.Prm _ _; rw [hlen.out]; exact HL.out
          obtain ⟨m0, m1, m2⟩ := BxM.cells (MK.get s13 0 rfl)
          go_wp2_with fail
          clear m0 m1 m2
          refine (canon_hi (Mc.prt M L) i o B5 k d5 _ C K (HPm.out.val V.out) hmi.out hmo.out (by rw [Mc.prt_len, HLk.out]) (MK.get s13 1 rfl) (by rw [← HC.out]; exact HPm.out.can V.out) hCK.out).mono ?_
          rintro e w14 ⟨p3, gs, rfl, hgs, hWb, hbl⟩
          have s14 := MT.next s13 hbl
          have z14 := below_next z13 hbl
          have hgl := heap_lt (MK.get s13 3 rfl)
          obtain ⟨m0, m1, m2⟩ := BxM.cells (MK.get s14 3 rfl)
          obtain ⟨n0, n1, n2⟩ := BxM.frozen (MK.get s14 3 rfl)
          obtain ⟨r0, r1, r2⟩ := set3_reads (MK.get s14 3 rfl) (.int .i64 i) (.int .i64 o) (.slice (some ⟨p3, 0, none⟩) K K)
          have zS := below_set3' z14 (Nat.le_of_eq HGd.out) (.int .i64 i) (.int .i64 o) (.slice (some ⟨p3, 0, none⟩) K K)
          have sS := MT.next S6.out zS
          have hXS : Ex (((w14.setCell ⟨gd, 0, none⟩ (.int .i64 i)).setCell ⟨gd, 1, none⟩ (.int .i64 o)).setCell ⟨gd, 2, none⟩ (.slice (some ⟨p3, 0, none⟩) K K)) p3 K C.r := by
            have hpw := hWb.out.p0
            have hne : ∀ j ∈ gs, j ≠ gd := fun j hj => by have := (hWb.out.own j hj).1; omega
            exact Ex.of C VC.out hCK.out hgs.out (((hWb.out.far (by omega) hne _).far (by omega) hne _).far (by omega) hne _)
          obtain ⟨t0, t1, t2⟩ := BxM.cells (MK.get sS 1 rfl)
          have HX := Lib.hid hXS
          have HSS := Lib.hid sS
          clear s13 s14 z13 z14 zS sS hbl hWb hgs hgl hXS HL HLk HPm HC
          go_wp2_with fail
          refine (machine_yes i o C.r p3 K K (some ⟨p1, 0, none⟩) _ HX.out (Ex.rd (MK.get HSS.out 2 rfl))).mono ?_
          rintro e w15 ⟨rfl, hbl⟩
          have s15 := MT.next HSS.out hbl
          clear hbl HSS HX m0 m1 m2 n0 n1 n2 r0 r1 r2 t0 t1 t2
          go_wp2_with fail
          refine (lives_walk _).mono ?_
          rintro e w16 ⟨rfl, hb16⟩
          have hfin := below_next s15.2.1 hb16
          clear s15
          go_wp2
          go_ret
          exact ⟨rfl, hfin⟩
        | true =>
          simp only [Bool.and_eq_true, decide_eq_true_eq] at hg
          obtain ⟨⟨h1, h2⟩, h3⟩ := hg
          have hbq3 := Lib.hid (below_next (MT.next SF.out hbq.out).2.1 (Below.refl _ _))
          obtain ⟨bS, oS, xa, rfl, _, ca, xa0, xa1, _⟩ := (HS8.out.below hbq3.out).at_ (k := j) (by rw [HF.out]; omega)
          obtain ⟨_, _, xb, hE, _, cb, xb0, xb1, _⟩ := (HS8.out.below hbq3.out).at_ (k := j + 1) (by rw [HF.out]; omega)
          injection hE with hE
          injection hE with hE1 hE2
          subst hE1 hE2
          obtain ⟨q, hq⟩ : ∃ q : Nat, (k : Int) - 1 = q := ⟨k - 1, by omega⟩
          have hq1 : 1 ≤ q := by omega
          obtain ⟨a0, ha0, ha1⟩ : ∃ a0 : Nat, xa.tmod (q : Int) = a0 ∧ a0 < q := ⟨(xa.tmod (q : Int)).toNat, by rw [Int.tmod_eq_emod_of_nonneg xa0]; have := Int.emod_nonneg xa (show (q : Int) ≠ 0 by omega); omega, by rw [Int.tmod_eq_emod_of_nonneg xa0]; have := Int.emod_lt_of_pos xa (show (0 : Int) < q by omega); have := Int.emod_nonneg xa (show (q : Int) ≠ 0 by omega); omega⟩
          obtain ⟨b0, hb0, hb1⟩ : ∃ b0 : Nat, xb.tmod (q : Int) = b0 ∧ b0 < q := ⟨(xb.tmod (q : Int)).toNat, by rw [Int.tmod_eq_emod_of_nonneg xb0]; have := Int.emod_nonneg xb (show (q : Int) ≠ 0 by omega); omega, by rw [Int.tmod_eq_emod_of_nonneg xb0]; have := Int.emod_lt_of_pos xb (show (0 : Int) < q by omega); have := Int.emod_nonneg xb (show (q : Int) ≠ 0 by omega); omega⟩
          have hw0 : IntKind.i64.wrap xa = xa := IntWalk.i64_in _ (by omega)
          have hw1 : IntKind.i64.wrap xb = xb := IntWalk.i64_in _ (by omega)
          have hn0 : ((q : Int) == 0) = false := by rw [beq_eq_false_iff_ne]; omega
          have hn0a : ¬ q = 0 := by omega
          have hjF : (j : Int) < F := by omega
          have hjF1 : (j : Int) + 1 < F := by omega
          have HQ := Lib.hid hq
          go_wp2_with fail
          go_quiet (fail)
          have hqk : q + 1 = k := by omega
          clear ca cb hw0 hw1 hn0 hn0a hjF hjF1 ha0 hb0 hq hbq3
          have hb9 := Lib.hid (below_drewN' hbq.out nq)
          have hP9 : Hid (∃ L, Mc.Prm k L ∧ OwI (wc.drewN nq) w11.heap.size (.slice (some ⟨g9, 0, none⟩) k d9) L) := by
            obtain ⟨L, h1, h2⟩ := hP.out
            exact ⟨L, h1, own_below h2 (below_drewN' (Below.refl _ _) nq)⟩
          obtain ⟨W9, hW9⟩ : ∃ W, wc.drewN nq = W := ⟨_, rfl⟩
          rw [hW9] at hb9 hP9
          rw [hW9]
          clear hW9 hbq hP
          obtain ⟨L, hL, hOL⟩ := hP9.out
          have hLk := hL.len
          have hOk : W9.ownsRow w11.heap.size 3 1 (.slice (some ⟨g9, 0, none⟩) k d9) k (ints L) := by rw [← hLk]; rw [← hLk] at hOL; exact hOL
          obtain ⟨za, va, fa, hga, hza⟩ := own_cellI hOk (k := 1 + a0) (by omega)
          obtain ⟨zb, vb, fb, _, hzb⟩ := own_cellI hOk (k := 1 + b0) (by omega)
          have ea : ((1 : Int) + a0) = ((1 + a0 : Nat) : Int) := by omega
          have eb : ((1 : Int) + b0) = ((1 + b0 : Nat) : Int) := by omega
          obtain ⟨a1, ha1'⟩ : ∃ a1, 1 + a0 = a1 := ⟨_, rfl⟩
          obtain ⟨b1, hb1'⟩ : ∃ b1, 1 + b0 = b1 := ⟨_, rfl⟩
          have hak : a1 < k := by omega
          have hbk : b1 < k := by omega
          have hakI : (a1 : Int) < k := by omega
          have hbkI : (b1 : Int) < k := by omega
          rw [ha1'] at ea va fa hza
          rw [hb1'] at eb vb fb hzb
          rw [ea, eb]
          have hA1 : 1 ≤ a1 := by omega
          have hB1 : 1 ≤ b1 := by omega
          have HE := Lib.hid (And.intro hA1 hB1)
          have vb2 : (W9.setCell ⟨g9, a1, none⟩ (.int .i64 zb)).cell? ⟨g9, b1, none⟩ = some (.int .i64 zb) := by
            obtain ⟨z, hz1, _, _, hz2⟩ := own_cellI (own_setI hOk zb (k := a1)) (k := b1) hbk
            rw [hz1]
            have hz2 := hz2.out
            have hzb := hzb.out
            rw [List.getElem?_set] at hz2
            split at hz2
            · rw [if_pos (by omega)] at hz2
              rw [← hz2]; rfl
            · rw [← hz2, hzb]
          have fb2 : (W9.setCell ⟨g9, a1, none⟩ (.int .i64 zb)).frozen? ⟨g9, b1, none⟩ = false := by
            obtain ⟨_, _, hz1, _, _⟩ := own_cellI (own_setI hOk zb (k := a1)) (k := b1) hbk
            exact hz1
          have HO := Lib.hid hOk
          have HL := Lib.hid hL
          have HLk := Lib.hid hLk
          clear hqk ea eb ha1' hb1' ha1 hb1 hq1 hOk hL hLk hOL hP9 HQ hA1 hB1 h1 h3 xa0 xa1 xb0 xb1
          go_upto_region 21 with fail
          go_region
          have ez : ∀ {j : Nat} {z : Int}, j < k → L[j]?.getD 0 = z → L[j]? = some z := fun {j z} hj h => by
            rw [List.getElem?_eq_getElem (by rw [HLk.out]; exact hj)] at h ⊢
            exact congrArg some h
          have hPn : Hid (∃ L, Mc.Prm k L ∧ OwI ((W9.setCell ⟨g9, a1, none⟩ (.int .i64 zb)).setCell ⟨g9, b1, none⟩ (.int .i64 za)).drew w11.heap.size (.slice (some ⟨g9, 0, none⟩) k d9) L) :=
            ⟨(L.set a1 zb).set b1 za, HL.out.swap HE.out.1 HE.out.2 (ez hak hza.out) (ez hbk hzb.out), by
              have h6 := own_below (own_setI (own_setI HO.out zb (k := a1)) za (k := b1)) (Below.refl _ _).drew
              show World.ownsRow _ _ _ _ _ _ _
              rw [List.length_set, List.length_set, HLk.out]
              exact h6⟩
          have hBn := Lib.hid ((hb9.out.setCell (p := ⟨g9, a1, none⟩) hga (.int .i64 zb)).setCell (p := ⟨g9, b1, none⟩) hga (.int .i64 za)).drew
          clear vb2 fb2 va vb fa fb ez HO HL HLk hza hzb
          go_wp2
          go_roundw
          case rel => exact ⟨j + 2, by omega, by go_num, hPn, hBn⟩
          case measure => simp [intOf]; omega
end Go.Proofs.Ythemaombpddbbaa
