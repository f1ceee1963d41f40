/-
  Several texts in one: Qr1, Qr2. No statement is proved here.
-/
import Derived.Test.YtnodnfailjmpeaaQr0
namespace Go.Proofs.Ytnodnfailjmpeaa
open Go.RowKit
open Mc (Ed Ma)

set_option maxRecDepth 100000 in
set_option maxHeartbeats 8000000 in
theorem lawQMin_walk (a b d : Int) (p : Bool) (A : Option Addr) (c : Nat) (es : List Int) (B1 : Option Addr) (e1 : Nat) (ws : List Int) (w : World) (hr : Rd16 w A es) (hr8 : Rd8 w B1 ws) (hl : es.length ≤ 9223372036854775807) (hlw : ws.length ≤ 9223372036854775807) (ha : 0 ≤ a ∧ a ≤ 255) (hb : 0 ≤ b ∧ b ≤ 255) (hd : 0 ≤ d ∧ d ≤ 255) :
    Calls Try.prog 13 #[.agg #[.int .u8 a, .int .u8 b, .int .u8 d, .bool p, .slice A es.length c], .agg #[.slice B1 ws.length e1]] w fun e w' => e = .returned (.bool true) ∧ Below w.heap.size w w' := by
  obtain ⟨n, hn⟩ : ∃ n : Nat, 1 + a % 6 = n := ⟨(1 + a % 6).toNat, by omega⟩
  obtain ⟨i, hi⟩ : ∃ i : Nat, 1 + b % 3 = i := ⟨(1 + b % 3).toNat, by omega⟩
  obtain ⟨o, ho⟩ : ∃ o : Nat, 1 + d % 3 = o := ⟨(1 + d % 3).toNat, by omega⟩
  have CM := fun w hr => mof_at a b d p A c es n i o w hr hl ha hb hd hn hi ho
  have hn1 : 1 ≤ n := by omega
  have hi1 : 1 ≤ i := by omega
  have hn6 : n ≤ 6 := by omega
  have hi3 : i ≤ 3 := by omega
  obtain ⟨M, hM⟩ : ∃ M, Mc.mkN p n i o es = M := ⟨_, rfl⟩
  have V := Lib.hid (Mc.mkN_val (p := p) (n := n) (i := i) (o := o) (es := es) (by omega) (by omega) (by omega) (by omega) (by omega) (by omega))
  have hlen : Hid ((Mc.mkN p n i o es).r.length = n) := Mc.mkN_len _ _ _ _ _
  have hmi : Hid ((Mc.mkN p n i o es).i = i) := rfl
  have hmo : Hid ((Mc.mkN p n i o es).o = o) := rfl
  rw [hM] at V hlen hmi hmo
  simp only [hM] at CM
  clear hM ha hb hd hn hi ho hl
  have CW := fun w h => wof9_at B1 e1 ws i w h hi1 (by omega) hlw
  have HW := Lib.hid (Mc.sym_wd9 (m := M) (i := i) (zs := ws) hmi.out (by omega))
  obtain ⟨Y, hY⟩ : ∃ Y, Go.Proofs.Ytnodnfailjmpeaa.M.sym i ws = Y := ⟨_, rfl⟩
  rw [hY] at HW
  simp only [hY] at CW
  have HSt : Hid (Mc.St M 0) := Or.inr (by have := hlen.out; omega)
  obtain ⟨C, hC⟩ : ∃ C, Mc.qn M = C := ⟨_, rfl⟩
  obtain ⟨K, hK⟩ : ∃ K, C.r.length = K := ⟨_, rfl⟩
  have VC : Hid (Mc.Val C) := hC ▸ Mc.qn_val V.out
  have hCi : Hid (C.i = i) := by show _ = _; rw [← hC]; exact hmi.out
  have hCo : Hid (C.o = o) := by show _ = _; rw [← hC]; exact hmo.out
  have hCK : Hid (C.r.length = K) := hK
  have hCC : Hid (Mc.qn C = C) := by show _ = _; rw [← hC]; exact Mc.qn_own V.out
  have hK64 : K ≤ 64 := by rw [← hK]; exact VC.out.r1
  have hK1 : 1 ≤ K := by rw [← hK]; exact VC.out.r0
  have HC := Lib.hid hC
  have CC := fun R c1 w hr => qmin_to M i o R n c1 w C K V.out hmi.out hmo.out hlen.out hr HC.out hCK.out
  have CCC := fun R c1 w hr => qmin_to C i o R K c1 w C K VC.out hCi.out hCo.out hCK.out hr hCC.out hCK.out
  have CR := Lib.hid (fun R c1 w hr => rqmin_to M i o R n c1 w C K V.out hmi.out hmo.out hlen.out hr HC.out hCK.out)
  have CIC := fun R c1 w hr => qis_at C i o R K c1 w true VC.out hCi.out hCo.out hCK.out (by rw [hCC.out, hCK.out]; exact decide_eq_true rfl) hr
  have HWC : Hid (Mc.Wd C Y) := fun c hc => by
    have := HW.out c hc
    rwa [hmi.out, ← hCi.out] at this
  have HRun : Hid (Mc.run C 0 Y = Mc.run M 0 Y) := by show _ = _; rw [← hC]; exact Mc.qn_run V.out HW.out
  have HSC : Hid (Mc.St C 0) := Or.inr (by have := hCK.out; omega)
  have HR := Lib.hid hr
  have HR8 := Lib.hid hr8
  obtain ⟨E, hE⟩ : ∃ E, ws.length = E := ⟨_, rfl⟩
  obtain ⟨E2, hE2⟩ : ∃ E, es.length = E := ⟨_, rfl⟩
  simp only [hE] at CW
  simp only [hE2] at CM
  rw [hE, hE2]
  clear hr hr8 hY hE hE2 hlw hC hK
  have s0 : MT w w [] := MT.start
  obtain ⟨K0, hK0⟩ : ∃ K0, w.heap.size = K0 := ⟨_, rfl⟩
  have s1 := MT.putK (P := fun w => w.heap[K0 + 1]? = some (.cells #[.slice B1 E e1] 41)) (MT.alloc (MT.alloc s0 (.cells #[.int .u8 a, .int .u8 b, .int .u8 d, .bool p, .slice A E2 c] 39)) (.cells #[.slice B1 E e1] 41))
    (by
      have h := heap_alloc_new (w.alloc (.cells #[.int .u8 a, .int .u8 b, .int .u8 d, .bool p, .slice A E2 c] 39)) (.cells #[.slice B1 E e1] 41)
      rw [show (w.alloc (.cells #[.int .u8 a, .int .u8 b, .int .u8 d, .bool p, .slice A E2 c] 39)).heap.size = w.heap.size + 1 by simp, hK0] at h
      exact h) (fun _ _ h hb => (hb.block _ (heap_lt h)).trans h)
  clear s0
  go_enter Try.func13, Try.ntmps13
  go_wp2_with fail
  refine (CM _ (HR.out.below s1.2.1)).mono ?_
  rintro e w1 ⟨R, c1, rfl, hrd, hbl⟩
  have s2 := MK.putB (g := w1.heap.size) (MT.alloc (MK.putR (MT.next s1 hbl) hrd) (.cells #[.int .i64 i, .int .i64 o, .slice R n c1] 24)) (heap_alloc_new w1 _)
  clear s1 hrd hbl CM HR
  go_upto_region 2 with fail
  obtain ⟨g, hg⟩ : ∃ g, w1.heap.size = g := ⟨_, rfl⟩
  obtain ⟨W, hW⟩ : ∃ W, w1.alloc (.cells #[.int .i64 i, .int .i64 o, .slice R n c1] 24) = W := ⟨_, rfl⟩
  rw [hg, hW] at s2
  try rw [hg]
  try rw [hW]
  clear hg hW
  obtain ⟨m0, m1, m2⟩ := BxM.cells (MK.get s2 0 rfl)
  have hpl : W.heap[K0 + 1]? = some (.cells #[.slice B1 E e1] 41) := MK.get s2 2 rfl
  have l0 : W.cell? ⟨K0 + 1, 0, none⟩ = some (.slice B1 E e1) := by rw [cell_of_row _ _ _ _ _ _ hpl]; rfl
  clear hpl
  go_wp2_with fail
  clear m0 m1 m2 l0
  refine (CW _ (HR8.out.below s2.2.1)).mono ?_
  rintro e w2 ⟨B2, k2, q2, rfl, hk2, h12, hrd, hbl⟩
  have s3 := MK.putL (MT.next s2 hbl) hrd
  clear s2 hrd hbl CW HR8
  obtain ⟨m0, m1, m2⟩ := BxM.cells (MK.get s3 1 rfl)
  go_wp2_with fail
  clear m0 m1 m2
  refine (CC R c1 _ (MK.get s3 2 rfl)).mono ?_
  rintro e w3 ⟨p1, rfl, hX, hbl⟩
  have s4 := MK.putB (g := w3.heap.size) (MT.alloc (MK.putX9 (MT.next s3 hbl) hX) (.cells #[.int .i64 i, .int .i64 o, .slice (some ⟨p1, 0, none⟩) K K] 24)) (heap_alloc_new w3 _)
  clear s3 hX hbl CC
  go_upto_region 4 with fail
  obtain ⟨gc, hgc⟩ : ∃ g, w3.heap.size = g := ⟨_, rfl⟩
  obtain ⟨W4, hW4⟩ : ∃ W, w3.alloc (.cells #[.int .i64 i, .int .i64 o, .slice (some ⟨p1, 0, none⟩) K K] 24) = W := ⟨_, rfl⟩
  rw [hgc, hW4] at s4
  try rw [hgc]
  try rw [hW4]
  clear hgc hW4
  go_cut [39] from 24 to 63 (fun f wx => f = .bool false ∧ Below W4.heap.size W4 wx)
  case first =>
    clear CCC CIC
    have sD := MT.next s4 (Below.refl _ _).drew
    have y0 : Below W4.heap.size W4 W4.drew := (Below.refl _ _).drew
    obtain ⟨a0, a1, a2⟩ := BxM.cells (MK.get s4 0 rfl)
    obtain ⟨a3, a4, a5⟩ := BxM.cells (MK.get s4 3 rfl)
    go_region_held3 (fun w' => w'.cell? ⟨gc, 0, none⟩ = some (.int .i64 i) ∧ w'.cell? ⟨gc, 1, none⟩ = some (.int .i64 o) ∧ w'.cell? ⟨gc, 2, none⟩ = some (.slice (some ⟨p1, 0, none⟩) K K) ∧ w'.cell? ⟨g, 0, none⟩ = some (.int .i64 i) ∧ w'.cell? ⟨g, 1, none⟩ = some (.int .i64 o) ∧ w'.cell? ⟨g, 2, none⟩ = some (.slice R n c1))
      (first | exact ⟨x50, x51, x52, x53, x54, x55⟩ | exact ⟨x40, x41, x42, x43, x44, x45⟩ | exact ⟨x30, x31, x32, x33, x34, x35⟩ | exact ⟨x20, x21, x22, x23, x24, x25⟩ | exact ⟨x10, x11, x12, x13, x14, x15⟩ | exact ⟨a0, a1, a2, a3, a4, a5⟩ | go_keep)
      (first
        | (go_at_call 29
           (with_reducible refine (CR.out R c1 _ (MK.get sD 4 rfl)).mono ?_)
           rintro e wa1 ⟨B5, d5, rfl, hr5, hb1⟩
           have t1 := MK.putR (MT.next sD hb1) hr5
           have y1 := below_next y0 hb1
           obtain ⟨x10, x11, x12⟩ := BxM.cells (MK.get t1 1 rfl)
           obtain ⟨x13, x14, x15⟩ := BxM.cells (MK.get t1 4 rfl)
           dsimp only)
        | (go_at_call 41
           (with_reducible refine (qmachine_yes i o C.r p1 K d5 B5 _ (MK.get t1 2 rfl) (MK.get t1 0 rfl)).mono ?_)
           rintro e wa2 ⟨rfl, hb2⟩
           have t2 := MT.next t1 hb2
           have y2 := below_next y1 hb2
           obtain ⟨x20, x21, x22⟩ := BxM.cells (MK.get t2 1 rfl)
           obtain ⟨x23, x24, x25⟩ := BxM.cells (MK.get t2 4 rfl)
           dsimp only)
        | (go_at_call 25
           (with_reducible refine (rrun_at C i o (some ⟨p1, 0, none⟩) K K _ 0 B2 k2 q2 Y VC.out hCi.out hCo.out hCK.out hk2.out (Ex.rd (MK.get t2 2 rfl)) (MK.get t2 3 rfl) HSC.out HWC.out (by omega)).mono ?_)
           rintro e wa3 ⟨B6, q6, rfl, hr6, hb3⟩
           have t3 := MK.putL (MT.next t2 hb3) hr6
           have y3 := below_next y2 hb3
           obtain ⟨x30, x31, x32⟩ := BxM.cells (MK.get t3 2 rfl)
           obtain ⟨x33, x34, x35⟩ := BxM.cells (MK.get t3 5 rfl)
           dsimp only)
        | (go_at_call 25
           (with_reducible refine (rrun_at M i o R n c1 _ 0 B2 k2 q2 Y V.out hmi.out hmo.out hlen.out hk2.out (MK.get t3 6 rfl) (MK.get t3 4 rfl) HSt.out HW.out (by omega)).mono ?_)
           rintro e wa4 ⟨B7, q7, rfl, hr7, hb4⟩
           have t4 := MK.putL (MT.next t3 hb4) hr7
           have y4 := below_next y3 hb4
           obtain ⟨x40, x41, x42⟩ := BxM.cells (MK.get t4 3 rfl)
           obtain ⟨x43, x44, x45⟩ := BxM.cells (MK.get t4 6 rfl)
           dsimp only)
        | (go_at_call 24
           (with_reducible refine (rsame9_yes B6 B7 k2 q6 q7 (Mc.run M 0 Y) _ (by rw [← HRun.out]; exact (MK.get t4 1 rfl)) (MK.get t4 0 rfl) (by rw [Mc.run_len]; exact hk2.out) (by omega)).mono ?_)
           rintro e wa5 ⟨rfl, hb5⟩
           have t5 := MT.next t4 hb5
           have y5 := below_next y4 hb5
           obtain ⟨x50, x51, x52⟩ := BxM.cells (MK.get t5 3 rfl)
           obtain ⟨x53, x54, x55⟩ := BxM.cells (MK.get t5 6 rfl)
           dsimp only)
        | fail)
    all_goals
      go_wp2_with fail
      go_meet
      exact ⟨rfl, y5⟩
  case rest =>
  obtain ⟨rfl, hbc⟩ := hcut
  obtain ⟨w5, hw5⟩ : ∃ q, q = wc := ⟨_, rfl⟩
  rw [← hw5] at hbc ⊢
  clear hw5
  have s5 := MT.next s4 hbc
  clear s4 hbc CR HRun HWC HSC HSt
  obtain ⟨m0, m1, m2⟩ := BxM.cells (MK.get s5 0 rfl)
  go_wp2_with fail
  clear m0 m1 m2
  refine (CCC (some ⟨p1, 0, none⟩) K _ (Ex.rd (MK.get s5 1 rfl))).mono ?_
  rintro e w6 ⟨p2, rfl, hX, hbl⟩
  have s7 := MK.putB (g := w6.heap.size) (MT.alloc (MK.putX9 (MT.next s5 hbl) hX) (.cells #[.int .i64 i, .int .i64 o, .slice (some ⟨p2, 0, none⟩) K K] 24)) (heap_alloc_new w6 _)
  clear s5 hX hbl CCC
  go_upto_region 7 with fail
  obtain ⟨gd, hgd⟩ : ∃ g, w6.heap.size = g := ⟨_, rfl⟩
  obtain ⟨W7, hW7⟩ : ∃ W, w6.alloc (.cells #[.int .i64 i, .int .i64 o, .slice (some ⟨p2, 0, none⟩) K K] 24) = W := ⟨_, rfl⟩
  rw [hgd, hW7] at s7
  try rw [hgd]
  try rw [hW7]
  clear hgd hW7
  obtain ⟨m0, m1, m2⟩ := BxM.cells (MK.get s7 2 rfl)
  go_wp2_with fail
  clear m0 m1 m2
  refine (CIC (some ⟨p1, 0, none⟩) K _ (Ex.rd (MK.get s7 3 rfl))).mono ?_
  rintro e w8 ⟨rfl, hbl⟩
  have s8 := MT.next s7 hbl
  clear s7 hbl CIC
  obtain ⟨m0, m1, m2⟩ := BxM.cells (MK.get s8 0 rfl)
  obtain ⟨m3, m4, m5⟩ := BxM.cells (MK.get s8 2 rfl)
  go_wp2_with fail
  clear m0 m1 m2 m3 m4 m5
  refine (qmachine_yes i o C.r p2 K K (some ⟨p1, 0, none⟩) _ (MK.get s8 1 rfl) (Ex.rd (MK.get s8 3 rfl))).mono ?_
  rintro e w9 ⟨rfl, hbl⟩
  have hF := Lib.hid (MT.next s8 hbl).2.1
  clear s8 hbl
  go_wp2_with fail
  refine (qlives_walk _).mono ?_
  rintro e w10 ⟨rfl, hbl⟩
  have hfin := Lib.hid (below_next hF.out hbl)
  clear hF hbl
  go_wp2_with fail
  go_ret
  exact ⟨rfl, hfin.out⟩
end Go.Proofs.Ytnodnfailjmpeaa

namespace Go.Proofs.Ytnodnfailjmpeaa
open Go.RowKit
open Mc (Ed Ma)

set_option maxRecDepth 100000 in
set_option maxHeartbeats 8000000 in
theorem lawQMap_walk (a b d : Int) (p : Bool) (A : Option Addr) (c : Nat) (es : List Int) (B1 : Option Addr) (e1 : Nat) (ws : List Int) (w : World) (hr : Rd16 w A es) (hr8 : Rd8 w B1 ws) (hl : es.length ≤ 9223372036854775807) (hlw : ws.length ≤ 9223372036854775807) (ha : 0 ≤ a ∧ a ≤ 255) (hb : 0 ≤ b ∧ b ≤ 255) (hd : 0 ≤ d ∧ d ≤ 255) :
    Calls Try.prog 14 #[.agg #[.int .u8 a, .int .u8 b, .int .u8 d, .bool p, .slice A es.length c], .agg #[.slice B1 ws.length e1]] w fun e w' => e = .returned (.bool true) ∧ Below w.heap.size w w' := by
  obtain ⟨n, hn⟩ : ∃ n : Nat, 1 + a % 6 = n := ⟨(1 + a % 6).toNat, by omega⟩
  obtain ⟨i, hi⟩ : ∃ i : Nat, 1 + b % 3 = i := ⟨(1 + b % 3).toNat, by omega⟩
  obtain ⟨o, ho⟩ : ∃ o : Nat, 1 + d % 3 = o := ⟨(1 + d % 3).toNat, by omega⟩
  have CM := fun w hr => mof_at a b d p A c es n i o w hr hl ha hb hd hn hi ho
  have hn1 : 1 ≤ n := by omega
  have hi1 : 1 ≤ i := by omega
  have hn6 : n ≤ 6 := by omega
  have hi3 : i ≤ 3 := by omega
  obtain ⟨M, hM⟩ : ∃ M, Mc.mkN p n i o es = M := ⟨_, rfl⟩
  have V := Lib.hid (Mc.mkN_val (p := p) (n := n) (i := i) (o := o) (es := es) (by omega) (by omega) (by omega) (by omega) (by omega) (by omega))
  have hlen : Hid ((Mc.mkN p n i o es).r.length = n) := Mc.mkN_len _ _ _ _ _
  have hmi : Hid ((Mc.mkN p n i o es).i = i) := rfl
  have hmo : Hid ((Mc.mkN p n i o es).o = o) := rfl
  rw [hM] at V hlen hmi hmo
  simp only [hM] at CM
  clear hM ha hb hd hn hi ho hl
  have CW := fun w h => wof9_at B1 e1 ws i w h hi1 (by omega) hlw
  have HW := Lib.hid (Mc.sym_wd9 (m := M) (i := i) (zs := ws) hmi.out (by omega))
  obtain ⟨Y, hY⟩ : ∃ Y, Go.Proofs.Ytnodnfailjmpeaa.M.sym i ws = Y := ⟨_, rfl⟩
  rw [hY] at HW
  simp only [hY] at CW
  have HSt : Hid (Mc.St M 0) := Or.inr (by have := hlen.out; omega)
  obtain ⟨C, hC⟩ : ∃ C, Mc.qn M = C := ⟨_, rfl⟩
  obtain ⟨K, hK⟩ : ∃ K, C.r.length = K := ⟨_, rfl⟩
  obtain ⟨Q, hQ⟩ : ∃ Q, Mc.ql M = Q := ⟨_, rfl⟩
  have VC : Hid (Mc.Val C) := hC ▸ Mc.qn_val V.out
  have hCi : Hid (C.i = i) := by show _ = _; rw [← hC]; exact hmi.out
  have hCo : Hid (C.o = o) := by show _ = _; rw [← hC]; exact hmo.out
  have hCK : Hid (C.r.length = K) := hK
  have hK64 : K ≤ 64 := by rw [← hK]; exact VC.out.r1
  have hK1 : 1 ≤ K := by rw [← hK]; exact VC.out.r0
  have HC := Lib.hid hC
  have hQl : Hid (Q.length = n) := by show _ = _; rw [← hQ, Mc.ql_len, hlen.out]
  have hQz : Hid (∀ s : Nat, s < n → Go.Proofs.Ytnodnfailjmpeaa.M.gz Q s = Mc.qm M s) := fun s hs => by rw [← hQ]; exact Mc.ql_gz (by rw [hlen.out]; exact hs)
  have hQ0 : Hid (Go.Proofs.Ytnodnfailjmpeaa.M.gz Q 0 = 0) := by show _ = _; rw [hQz.out 0 (by omega)]; exact Mc.qm_zero V.out
  have CP := fun R c1 w hr => qmap_at M i o R n c1 w V.out hmi.out hmo.out hlen.out hr
  have CQ := fun R c1 w hr => rqmap_any M i o R n c1 w V.out hmi.out hmo.out hlen.out hr
  rw [hQ] at CP CQ
  have CR := fun R c1 w hr => rqmin_to M i o R n c1 w C K V.out hmi.out hmo.out hlen.out hr HC.out hCK.out
  have HWC : Hid (Mc.Wd C Y) := fun c hc => by
    have := HW.out c hc
    rwa [hmi.out, ← hCi.out] at this
  have HRun : Hid (∀ s : Nat, s < n → 0 ≤ Mc.qm M s → Mc.run C (Mc.qm M s) Y = Mc.run M s Y) := fun s hs h0 => by rw [← hC]; exact Mc.qn_st V.out HW.out h0
  have HRg : Hid (∀ s : Nat, Mc.qm M s < K) := fun s => by rw [← hK, ← hC]; exact (Mc.qm_rg V.out s).2
  have HHom : Hid (Mc.conn M = true → Mc.Hom M C Q ∧ ∀ s : Nat, s < n → 0 ≤ Go.Proofs.Ytnodnfailjmpeaa.M.gz Q s ∧ Go.Proofs.Ytnodnfailjmpeaa.M.gz Q s < K) := fun h => by
    have h1 := Mc.ql_hom V.out h
    have h2 := Mc.ql_rg V.out h
    rw [hC, hQ] at h1
    rw [hC, hQ, hK, hlen.out] at h2
    exact ⟨h1, h2⟩
  have HErr : Hid (Mc.conn M = false → Mc.hmE M C Q = 1) := fun h => by
    obtain ⟨s, hs, h1⟩ := Mc.ql_bad V.out h
    unfold Mc.hmE
    rw [if_neg (by rw [Mc.chk_of V.out]; simp), if_neg (by rw [Mc.chk_of VC.out]; simp), if_neg (fun h => h (by rw [hmi.out, hCi.out])), if_neg (fun h => h (by rw [hQl.out, hlen.out])), if_pos]
    refine Mc.hmB_yes (x := -1) ?_ (.inl (by omega))
    rw [← h1, ← hQz.out s (by rw [← hlen.out]; exact hs)]
    exact Go.Proofs.Ytnodnfailjmpeaa.M.gz_mem (by rw [hQl.out, ← hlen.out]; exact hs)
  have HR := Lib.hid hr
  have HR8 := Lib.hid hr8
  obtain ⟨E, hE⟩ : ∃ E, ws.length = E := ⟨_, rfl⟩
  obtain ⟨E2, hE2⟩ : ∃ E, es.length = E := ⟨_, rfl⟩
  simp only [hE] at CW
  simp only [hE2] at CM
  rw [hE, hE2]
  clear hr hr8 hY hE hE2 hlw hC hK hQ
  have s0 : MT w w [] := MT.start
  obtain ⟨K0, hK0⟩ : ∃ K0, w.heap.size = K0 := ⟨_, rfl⟩
  have s1 := MT.putK (P := fun w => w.heap[K0 + 1]? = some (.cells #[.slice B1 E e1] 41)) (MT.alloc (MT.alloc s0 (.cells #[.int .u8 a, .int .u8 b, .int .u8 d, .bool p, .slice A E2 c] 39)) (.cells #[.slice B1 E e1] 41))
    (by
      have h := heap_alloc_new (w.alloc (.cells #[.int .u8 a, .int .u8 b, .int .u8 d, .bool p, .slice A E2 c] 39)) (.cells #[.slice B1 E e1] 41)
      rw [show (w.alloc (.cells #[.int .u8 a, .int .u8 b, .int .u8 d, .bool p, .slice A E2 c] 39)).heap.size = w.heap.size + 1 by simp, hK0] at h
      exact h) (fun _ _ h hb => (hb.block _ (heap_lt h)).trans h)
  clear s0
  go_enter Try.func14, Try.ntmps14
  go_wp2_with fail
  refine (CM _ (HR.out.below s1.2.1)).mono ?_
  rintro e w1 ⟨R, c1, rfl, hrd, hbl⟩
  have s2 := MK.putB (g := w1.heap.size) (MT.alloc (MK.putR (MT.next s1 hbl) hrd) (.cells #[.int .i64 i, .int .i64 o, .slice R n c1] 24)) (heap_alloc_new w1 _)
  clear s1 hrd hbl CM HR
  go_upto_region 2 with fail
  obtain ⟨g, hg⟩ : ∃ g, w1.heap.size = g := ⟨_, rfl⟩
  obtain ⟨W, hW⟩ : ∃ W, w1.alloc (.cells #[.int .i64 i, .int .i64 o, .slice R n c1] 24) = W := ⟨_, rfl⟩
  rw [hg, hW] at s2
  try rw [hg]
  try rw [hW]
  clear hg hW
  obtain ⟨m0, m1, m2⟩ := BxM.cells (MK.get s2 0 rfl)
  have hpl : W.heap[K0 + 1]? = some (.cells #[.slice B1 E e1] 41) := MK.get s2 2 rfl
  have l0 : W.cell? ⟨K0 + 1, 0, none⟩ = some (.slice B1 E e1) := by rw [cell_of_row _ _ _ _ _ _ hpl]; rfl
  clear hpl
  go_wp2_with fail
  clear m0 m1 m2 l0
  refine (CW _ (HR8.out.below s2.2.1)).mono ?_
  rintro e w2 ⟨B2, k2, q2, rfl, hk2, h12, hrd, hbl⟩
  have s3 := MK.putL (MT.next s2 hbl) hrd
  clear s2 hrd hbl CW HR8
  obtain ⟨m0, m1, m2⟩ := BxM.cells (MK.get s3 1 rfl)
  go_wp2_with fail
  clear m0 m1 m2
  refine (CP R c1 _ (MK.get s3 2 rfl)).mono ?_
  rintro e w3 ⟨gq, rfl, hrd, hbl⟩
  have s4 := MK.putL (MT.next s3 hbl) hrd
  clear s3 hrd hbl CP
  obtain ⟨m0, m1, m2⟩ := BxM.cells (MK.get s4 2 rfl)
  go_wp2_with fail
  clear m0 m1 m2
  refine (CR R c1 _ (MK.get s4 3 rfl)).mono ?_
  rintro e w4 ⟨B5, d5, rfl, hR5, hbl⟩
  have s5 := MK.putB (g := w4.heap.size) (MT.alloc (MK.putR (MT.next s4 hbl) hR5) (.cells #[.int .i64 i, .int .i64 o, .slice B5 K d5] 24)) (heap_alloc_new w4 _)
  clear s4 hR5 hbl CR
  go_upto_region 5 with fail
  obtain ⟨gc, hgc⟩ : ∃ g, w4.heap.size = g := ⟨_, rfl⟩
  obtain ⟨W4, hW4⟩ : ∃ W, w4.alloc (.cells #[.int .i64 i, .int .i64 o, .slice B5 K d5] 24) = W := ⟨_, rfl⟩
  rw [hgc, hW4] at s5
  try rw [hgc]
  try rw [hW4]
  clear hgc hW4
  obtain ⟨m0, m1, m2⟩ := BxM.cells (MK.get s5 4 rfl)
  go_wp2_with fail
  clear m0 m1 m2
  refine (CQ R c1 _ (MK.get s5 5 rfl)).mono ?_
  rintro e w6 ⟨B6, d6, rfl, hr6, hbl⟩
  have s6 := MK.putL (MT.next s5 hbl) hr6
  clear s5 hr6 hbl CQ
  go_wp2_with fail
  refine (qlist_yes (some ⟨gq, 0, none⟩) B6 n d6 Q 0 _ (MK.get s6 3 rfl) (MK.get s6 0 rfl) hQl.out (by omega)).mono ?_
  rintro e w7 ⟨rfl, hbl⟩
  have s7 := MT.next s6 hbl
  clear s6 hbl
  obtain ⟨b0, o0, z0, he0, hb0, hc0, hz0⟩ := Rd.at_ (show Rd w7 (some ⟨gq, 0, none⟩) Q from MK.get s7 3 rfl) (k := 0) (by rw [hQl.out]; exact hn1)
  injection he0 with he0
  injection he0 with e1 e2
  subst e1 e2
  have hz00 : z0 = 0 := hz0.out.symm.trans hQ0.out
  subst hz00
  rw [Nat.add_zero] at hc0
  have hn0 : (0 : Int) < n := by omega
  clear hz0 hb0
  go_wp2_with fail
  have S7 := Lib.hid s7
  clear s7 hc0
  go_loopw [10] (fun v wr => ∃ s : Nat, s ≤ n ∧ v = .int .i64 s ∧ Hid (Below w7.heap.size w7 wr)) (fun v _ => n - (intOf v).toNat)
  case atStart => exact ⟨0, Nat.zero_le _, rfl, Below.refl _ _⟩
  case round =>
    obtain ⟨s, hs, rfl, hbr⟩ := hrel
    have sI := MT.next S7.out hbr.out
    by_cases hsn : s < n
    · have hsn' : (s : Int) < n := by omega
      obtain ⟨b0, o0, z, he0, hb0, hc0, hz0⟩ := Rd.at_ (show Rd wr (some ⟨gq, 0, none⟩) Q from MK.get sI 3 rfl) (k := s) (by rw [hQl.out]; exact hsn)
      injection he0 with he0
      injection he0 with e1 e2
      subst e1 e2
      have hqz : Hid (Mc.qm M s = z) := by show _ = _; rw [← hQz.out s hsn]; exact hz0.out
      rw [Nat.zero_add] at hc0
      clear hz0
      go_upto_region 10 with fail
      go_cut [63] from 44 to 63 (fun f wx => f = .bool false ∧ Below wr.heap.size wr wx)
      case first =>
        have y0 : Below wr.heap.size wr wr.drew := (Below.refl _ _).drew
        obtain ⟨a0, a1, a2⟩ := BxM.cells (MK.get sI 1 rfl)
        obtain ⟨a3, a4, a5⟩ := BxM.cells (MK.get sI 5 rfl)
        by_cases hz : 0 ≤ z
        · have hz' : decide (0 ≤ z) = true := decide_eq_true hz
          have hzg : Hid (0 ≤ Mc.qm M s) := by show _ ≤ _; rw [hqz.out]; exact hz
          have hzK : Hid (z < K) := by show _ < _; rw [← hqz.out]; exact HRg.out s
          have HSC : Hid (Mc.St C z) := Or.inr ⟨hz, by rw [hCK.out]; exact hzK.out⟩
          have HSM : Hid (Mc.St M s) := Or.inr ⟨by omega, by rw [hlen.out]; exact hsn'⟩
          have hrun : Hid (Mc.run C z Y = Mc.run M s Y) := by
            have := HRun.out s hsn hzg.out
            rwa [hqz.out] at this
          have sD := MT.next sI (Below.refl _ _).drew
          go_region_held3 (fun w' => w'.cell? ⟨gc, 0, none⟩ = some (.int .i64 i) ∧ w'.cell? ⟨gc, 1, none⟩ = some (.int .i64 o) ∧ w'.cell? ⟨gc, 2, none⟩ = some (.slice B5 K d5) ∧ w'.cell? ⟨g, 0, none⟩ = some (.int .i64 i) ∧ w'.cell? ⟨g, 1, none⟩ = some (.int .i64 o) ∧ w'.cell? ⟨g, 2, none⟩ = some (.slice R n c1) ∧ w'.cell? ⟨gq, s, none⟩ = some (.int .i64 z))
            (first | exact ⟨x30, x31, x32, x33, x34, x35, x36⟩ | exact ⟨x20, x21, x22, x23, x24, x25, x26⟩ | exact ⟨x10, x11, x12, x13, x14, x15, x16⟩ | exact ⟨a0, a1, a2, a3, a4, a5, hc0⟩ | go_keep)
            (first
              | (go_at_call 25
                 (with_reducible refine (rrun_at C i o B5 K d5 _ z B2 k2 q2 Y VC.out hCi.out hCo.out hCK.out hk2.out (MK.get sD 2 rfl) (MK.get sD 4 rfl) HSC.out HWC.out (by omega)).mono ?_)
                 rintro e wa1 ⟨B7, q7, rfl, hr7, hb1⟩
                 have t1 := MK.putL (MT.next sD hb1) hr7
                 have y1 := below_next y0 hb1
                 obtain ⟨x10, x11, x12⟩ := BxM.cells (MK.get t1 2 rfl)
                 obtain ⟨x13, x14, x15⟩ := BxM.cells (MK.get t1 6 rfl)
                 have x16 := (y1.cell (p := ⟨gq, s, none⟩) hb0).trans hc0
                 dsimp only)
              | (go_at_call 25
                 (with_reducible refine (rrun_at M i o R n c1 _ s B2 k2 q2 Y V.out hmi.out hmo.out hlen.out hk2.out (MK.get t1 7 rfl) (MK.get t1 5 rfl) HSM.out HW.out (by omega)).mono ?_)
                 rintro e wa2 ⟨B8, q8, rfl, hr8, hb2⟩
                 have t2 := MK.putL (MT.next t1 hb2) hr8
                 have y2 := below_next y1 hb2
                 obtain ⟨x20, x21, x22⟩ := BxM.cells (MK.get t2 3 rfl)
                 obtain ⟨x23, x24, x25⟩ := BxM.cells (MK.get t2 7 rfl)
                 have x26 := (y2.cell (p := ⟨gq, s, none⟩) hb0).trans hc0
                 dsimp only)
              | (go_at_call 24
                 (with_reducible refine (rsame9_yes B7 B8 k2 q7 q8 (Mc.run M s Y) _ (by rw [← hrun.out]; exact (MK.get t2 1 rfl)) (MK.get t2 0 rfl) (by rw [Mc.run_len]; exact hk2.out) (by omega)).mono ?_)
                 rintro e wa3 ⟨rfl, hb3⟩
                 have t3 := MT.next t2 hb3
                 have y3 := below_next y2 hb3
                 obtain ⟨x30, x31, x32⟩ := BxM.cells (MK.get t3 3 rfl)
                 obtain ⟨x33, x34, x35⟩ := BxM.cells (MK.get t3 7 rfl)
                 have x36 := (y3.cell (p := ⟨gq, s, none⟩) hb0).trans hc0
                 dsimp only)
              | fail)
          all_goals
            go_wp2_with fail
            go_meet
            exact ⟨rfl, y3⟩
        · have hz' : decide (0 ≤ z) = false := decide_eq_false hz
          have f0 : ∀ x : BW wr, x.out.cell? ⟨gq, s, none⟩ = some (.int .i64 z) := fun x => (x.ok.cell (p := ⟨gq, s, none⟩) hb0).trans hc0
          refine wp_region_quiet_below (by kernel_rfl) (by kernel_rfl) ?_
          repeat (go_big_quiet_step (fail))
          refine wpQuiet_nil ?_
          intro w11 hw11
          obtain ⟨⟨wx, hbW⟩, hw3⟩ := hw11
          dsimp only at hw3
          subst hw3
          clear f0
          go_wp2_with fail
          go_meet
          exact ⟨rfl, hbW⟩
      case rest =>
      obtain ⟨rfl, hbc⟩ := hcut
      have hbr2 := Lib.hid (below_next hbr.out hbc)
      clear sI hbc hc0 hqz
      go_wp2_with fail
      go_roundw
      case rel => exact ⟨s + 1, by omega, by go_num, hbr2⟩
      case measure => simp [intOf]; omega
    · obtain rfl : s = n := by omega
      have hsn' : ¬ (s : Int) < s := by omega
      obtain ⟨m0, m1, m2⟩ := BxM.cells (MK.get sI 1 rfl)
      obtain ⟨m3, m4, m5⟩ := BxM.cells (MK.get sI 5 rfl)
      cases hcn : Mc.conn M with
      | true =>
        obtain ⟨h1, h2⟩ := HHom.out hcn
        have HCN := Lib.hid hcn
        have HH1 := Lib.hid h1
        have HH2 := Lib.hid h2
        clear hcn h1 h2
        go_wp2_with fail
        clear m0 m1 m2 m3 m4 m5
        refine (qhom_to M C i o o R B5 s c1 K d5 (some ⟨gq, 0, none⟩) s Q _ true V.out VC.out hmi.out hmo.out hCi.out hCo.out (MK.get sI 6 rfl) (MK.get sI 2 rfl) hlen.out hCK.out (MK.get sI 3 rfl) hQl.out HH2.out ⟨fun _ => HH1.out, fun _ => rfl⟩).mono ?_
        rintro e w8 ⟨rfl, hbl⟩
        have s8 := MT.next sI hbl
        clear sI hbl
        obtain ⟨m0, m1, m2⟩ := BxM.cells (MK.get s8 5 rfl)
        go_wp2_with fail
        clear m0 m1 m2
        refine (conn9_at M i o R s c1 _ true V.out hmi.out hmo.out hlen.out (MK.get s8 6 rfl) HCN.out).mono ?_
        rintro e w9 ⟨rfl, hbl⟩
        have hF := Lib.hid (MT.next s8 hbl).2.1
        clear s8 hbl
        go_wp2_with fail
        refine (qlives_walk _).mono ?_
        rintro e w10 ⟨rfl, hbl⟩
        have hfin := Lib.hid (below_next hF.out hbl)
        clear hF hbl
        go_wp2_with fail
        go_ret
        exact ⟨rfl, hfin.out⟩
      | false =>
        have hE := HErr.out hcn
        have HCN := Lib.hid hcn
        have HE := Lib.hid hE
        clear hcn hE
        go_wp2_with fail
        clear m0 m1 m2 m3 m4 m5
        refine (qhom_err M C i o i o R B5 s c1 K d5 (some ⟨gq, 0, none⟩) s s Q _ 1 hmi.out hmo.out hCi.out hCo.out (MK.get sI 6 rfl) (MK.get sI 2 rfl) hlen.out hCK.out (by omega) (by omega) V.out.rows VC.out.rows (MK.get sI 3 rfl) hQl.out (by omega) HE.out (by decide)).mono ?_
        rintro e w8 ⟨rfl, hbl⟩
        have s8 := MT.next sI hbl
        clear sI hbl
        obtain ⟨m0, m1, m2⟩ := BxM.cells (MK.get s8 5 rfl)
        go_wp2_with fail
        clear m0 m1 m2
        refine (conn9_at M i o R s c1 _ false V.out hmi.out hmo.out hlen.out (MK.get s8 6 rfl) HCN.out).mono ?_
        rintro e w9 ⟨rfl, hbl⟩
        have hF := Lib.hid (MT.next s8 hbl).2.1
        clear s8 hbl
        go_wp2_with fail
        refine (qlives_walk _).mono ?_
        rintro e w10 ⟨rfl, hbl⟩
        have hfin := Lib.hid (below_next hF.out hbl)
        clear hF hbl
        go_wp2_with fail
        go_ret
        exact ⟨rfl, hfin.out⟩
end Go.Proofs.Ytnodnfailjmpeaa
