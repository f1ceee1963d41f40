/-
  The walk of the law QuotientsK. No statement is proved here.
-/
import Derived.Test.YteegellpbihpeaaQK
namespace Go.Proofs.Yteegellpbihpeaa
open Go.RowKit
open Mc (Ed Ma)

set_option maxRecDepth 100000 in
set_option maxHeartbeats 4000000 in
theorem lawQK_walk (a b d : Int) (T : Option Addr) (tc : Nat) (ts : List Int) (A : Option Addr) (c : Nat) (es : List Int) (w : World) (hr8 : Rd8 w T ts) (hr : Rd16 w A es) (htl : ts.length ≤ 9223372036854775807) (hle : es.length ≤ 9223372036854775807)
    (ha : 0 ≤ a ∧ a ≤ 255) (hb : 0 ≤ b ∧ b ≤ 255) (hd : 0 ≤ d ∧ d ≤ 255) :
    Calls Try.prog 9 #[.agg #[.int .u8 a, .int .u8 b, .int .u8 d, .slice T ts.length tc, .slice A es.length c]] w fun e w' => e = .returned (.bool true) ∧ Below w.heap.size w w' := by
  have _ := hle
  clear hle
  obtain ⟨i, hi⟩ : ∃ i : Nat, 1 + b % 3 = i := ⟨(1 + b % 3).toNat, by omega⟩
  obtain ⟨o, ho⟩ : ∃ o : Nat, 1 + d % 3 = o := ⟨(1 + d % 3).toNat, by omega⟩
  have C1 := Lib.hid (fun w hr8 hr => kof9_any a b d T tc ts A c es i o w hr8 hr htl ha hb hd hi ho)
  obtain ⟨F, hF⟩ : ∃ F, es.length = F := ⟨_, rfl⟩
  obtain ⟨G, hG⟩ : ∃ G, ts.length = G := ⟨_, rfl⟩
  have HR := Lib.hid hr
  have HR8 := Lib.hid hr8
  rw [hF, hG] at C1 ⊢
  clear hF hG hr hr8 ha hb hd hi ho htl
  have hb0 : Below w.heap.size w (w.alloc (.cells #[.int .u8 a, .int .u8 b, .int .u8 d, .slice T G tc, .slice A F c] 67)) := (Below.refl _ _).alloc (Nat.le_refl _) _
  have s0 : MT w w [] := MT.start
  have s1 := MT.alloc s0 (.cells #[.int .u8 a, .int .u8 b, .int .u8 d, .slice T G tc, .slice A F c] 67)
  clear s0
  go_enter Try.func9, Try.ntmps9
  go_wp2_with fail
  refine (C1.out _ (HR8.out.below hb0) (HR.out.below hb0)).mono ?_
  rintro e w1 ⟨m, B, k, q, vs, rfl, hKm, hk, hB, hb1⟩
  have s2 := MK.putB (g := w1.heap.size) (MT.alloc (MK.putR (MT.next s1 hb1) hB.out.two) (.cells #[.int .i64 i, .int .i64 o, .slice B k q] 30)) (heap_alloc_new w1 _)
  clear s1 hB hb0 hb1 C1 HR HR8
  go_upto_region 2 with fail
  obtain ⟨g1, hg1⟩ : ∃ g, w1.heap.size = g := ⟨_, rfl⟩
  obtain ⟨W1, hW1⟩ : ∃ W, w1.alloc (.cells #[.int .i64 i, .int .i64 o, .slice B k q] 30) = W := ⟨_, rfl⟩
  rw [hg1, hW1] at s2
  try rw [hg1]
  try rw [hW1]
  clear hg1 hW1
  have C2 := Lib.hid (fun w hr => qmin_to m i o B k q w m k hKm.out.val hKm.out.inp hKm.out.out hk.out hr hKm.out.own hk.out)
  have C3 := Lib.hid (fun w hr => qproper_at m i o B k q w 0 hKm.out.val hKm.out.inp hKm.out.out hk.out hKm.out.prp hr)
  have C4 := Lib.hid (fun w hr => rproper_any m B q w i o k 0 hKm.out.val hKm.out.inp hKm.out.out hk.out (by rw [← Mc.prp_prR hKm.out.val]; exact hKm.out.prp) hr)
  have hk5 : k ≤ 5 := by rw [← hk.out]; exact hKm.out.len
  obtain ⟨q0, q1, q2⟩ := BxM.cells (MK.get s2 0 rfl)
  go_wp2_with fail
  refine (C2.out _ (MK.get s2 1 rfl)).mono ?_
  rintro e w2 ⟨p, rfl, hX, hb2⟩
  have s3 := MK.putB (g := w2.heap.size) (MT.alloc (MK.putX9 (MT.next s2 hb2) hX) (.cells #[.int .i64 i, .int .i64 o, .slice (some ⟨p, 0, none⟩) k k] 30)) (heap_alloc_new w2 _)
  clear s2 hX hb2 C2 q0 q1 q2
  go_upto_region 3 with fail
  obtain ⟨g2, hg2⟩ : ∃ g, w2.heap.size = g := ⟨_, rfl⟩
  obtain ⟨W2, hW2⟩ : ∃ W, w2.alloc (.cells #[.int .i64 i, .int .i64 o, .slice (some ⟨p, 0, none⟩) k k] 30) = W := ⟨_, rfl⟩
  rw [hg2, hW2] at s3
  try rw [hg2]
  try rw [hW2]
  clear hg2 hW2
  have hk5' : decide ((k : Int) ≤ 5) = true := decide_eq_true (by omega)
  have hk5i : (k : Int) ≤ 5 := by omega
  clear hk5
  obtain ⟨q0, q1, q2⟩ := BxM.cells (MK.get s3 2 rfl)
  go_wp2_with fail
  refine (C3.out _ (MK.get s3 3 rfl)).mono ?_
  rintro e w3 ⟨rfl, hb3⟩
  have s4 := MT.next s3 hb3
  clear s3 hb3 q0 q1 q2 C3
  obtain ⟨q0, q1, q2⟩ := BxM.cells (MK.get s4 2 rfl)
  go_wp2_with fail
  refine (C4.out _ (MK.get s4 3 rfl)).mono ?_
  rintro e w4 ⟨rfl, hb4⟩
  have s5 := MT.next s4 hb4
  clear s4 hb4 q0 q1 q2 C4
  obtain ⟨q0, q1, q2⟩ := BxM.cells (MK.get s5 2 rfl)
  obtain ⟨q3, q4, q5⟩ := BxM.cells (MK.get s5 0 rfl)
  go_wp2_with fail
  refine (qmachine_yes i o m.r p k q B _ (MK.get s5 1 rfl) (MK.get s5 3 rfl)).mono ?_
  rintro e w5 ⟨rfl, hb5⟩
  have s6 := MT.next s5 hb5
  clear s5 hb5 q0 q1 q2 q3 q4 q5
  go_wp2_with fail
  refine (qlives_walk _).mono ?_
  rintro e w6 ⟨rfl, hb6⟩
  have hfin := Lib.hid (MT.next s6 hb6).2.1
  clear s6 hb6
  go_wp2_with fail
  go_ret
  exact ⟨rfl, hfin.out⟩
end Go.Proofs.Yteegellpbihpeaa
