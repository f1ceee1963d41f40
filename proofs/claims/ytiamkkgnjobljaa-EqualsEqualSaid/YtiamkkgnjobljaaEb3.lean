/-
  The law's own lives: the examples of the chapter. No statement is proved here.
-/
import Derived.Test.YtiamkkgnjobljaaEb2
namespace Go.Proofs.Ytiamkkgnjobljaa
open Go.RowKit
open Mc (Ed Ma)

set_option maxRecDepth 100000 in
set_option maxHeartbeats 8000000 in
theorem elives_walk (w : World) : Calls Try.prog 20 #[] w fun e w' => e = .returned (.bool true) ∧ Below w.heap.size w w' := by
  have s0 : MT w w [] := MT.start
  go_enter Try.func20, Try.ntmps20
  go_wp2_with fail
  refine (eedge_any 1 0 _).mono ?_
  rintro e w1 ⟨rfl, hb⟩
  have s1 := MT.next s0 hb
  clear hb s0
  have s2 := MK.putP (MT.alloc s1 (.cells #[.int .i64 1, .int .i64 0] 27)) (rdp_lit w1 Mc.ea0 _ rfl)
  clear s1
  go_wp2_with fail
  refine (eedge_any 2 0 _).mono ?_
  rintro e w2 ⟨rfl, hb⟩
  have s3 := MT.next s2 hb
  clear hb s2
  have s4 := MK.putP (MT.alloc s3 (.cells #[.int .i64 2, .int .i64 0] 27)) (rdp_lit w2 Mc.ea1 _ rfl)
  clear s3
  go_wp2_with fail
  refine (eedge_any 0 1 _).mono ?_
  rintro e w3 ⟨rfl, hb⟩
  have s5 := MT.next s4 hb
  clear hb s4
  have s6 := MK.putP (MT.alloc s5 (.cells #[.int .i64 0, .int .i64 1] 27)) (rdp_lit w3 Mc.ea2 _ rfl)
  clear s5
  have s7 := MK.putR (MT.alloc s6 (.cells #[.slice (some ⟨w1.heap.size, 0, none⟩) 1 1, .slice (some ⟨w2.heap.size, 0, none⟩) 1 1, .slice (some ⟨w3.heap.size, 0, none⟩) 1 1] 51))
    (by
      have h := rdr_ea _ ⟨w1.heap.size, 0, none⟩ ⟨w2.heap.size, 0, none⟩ ⟨w3.heap.size, 0, none⟩ (MK.get s6 2 rfl) (MK.get s6 1 rfl) (MK.get s6 0 rfl)
      rw [show (w3.alloc (.cells #[.int .i64 0, .int .i64 1] 27)).heap.size = w3.heap.size + 1 by simp] at h
      exact h)
  clear s6
  have s8 := MK.putB (g := w3.heap.size + 1 + 1) (MT.alloc s7 (.cells #[.int .i64 1, .int .i64 2, .slice (some ⟨w3.heap.size + 1, 0, none⟩) 3 3] 35))
    (by
      have h := heap_alloc_new ((w3.alloc (.cells #[.int .i64 0, .int .i64 1] 27)).alloc (.cells #[.slice (some ⟨w1.heap.size, 0, none⟩) 1 1, .slice (some ⟨w2.heap.size, 0, none⟩) 1 1, .slice (some ⟨w3.heap.size, 0, none⟩) 1 1] 51)) (.cells #[.int .i64 1, .int .i64 2, .slice (some ⟨w3.heap.size + 1, 0, none⟩) 3 3] 35)
      rw [show ((w3.alloc (.cells #[.int .i64 0, .int .i64 1] 27)).alloc (.cells #[.slice (some ⟨w1.heap.size, 0, none⟩) 1 1, .slice (some ⟨w2.heap.size, 0, none⟩) 1 1, .slice (some ⟨w3.heap.size, 0, none⟩) 1 1] 51)).heap.size = w3.heap.size + 1 + 1 by simp] at h
      exact h)
  clear s7
  go_upto_region 2 with fail
  obtain ⟨w4, hw⟩ : ∃ q, ((w3.alloc (.cells #[.int .i64 0, .int .i64 1] 27)).alloc (.cells #[.slice (some ⟨w1.heap.size, 0, none⟩) 1 1, .slice (some ⟨w2.heap.size, 0, none⟩) 1 1, .slice (some ⟨w3.heap.size, 0, none⟩) 1 1] 51)).alloc (.cells #[.int .i64 1, .int .i64 2, .slice (some ⟨w3.heap.size + 1, 0, none⟩) 3 3] 35) = q := ⟨_, rfl⟩
  obtain ⟨GA, hG⟩ : ∃ G, w3.heap.size + 1 + 1 = G := ⟨_, rfl⟩
  obtain ⟨QA, hQ⟩ : ∃ Q, w3.heap.size + 1 = Q := ⟨_, rfl⟩
  rw [hw, hG, hQ] at s8
  try rw [hw]
  try rw [hG]
  try rw [hQ]
  clear hw hG hQ
  go_wp2_with fail
  refine (eedge_any 1 0 _).mono ?_
  rintro e w5 ⟨rfl, hb⟩
  have s9 := MT.next s8 hb
  clear hb s8
  have s10 := MK.putP (MT.alloc s9 (.cells #[.int .i64 1, .int .i64 0] 27)) (rdp_lit w5 Mc.ea0 _ rfl)
  clear s9
  go_wp2_with fail
  refine (eedge_any 2 0 _).mono ?_
  rintro e w6 ⟨rfl, hb⟩
  have s11 := MT.next s10 hb
  clear hb s10
  have s12 := MK.putP (MT.alloc s11 (.cells #[.int .i64 2, .int .i64 0] 27)) (rdp_lit w6 Mc.ea1 _ rfl)
  clear s11
  go_wp2_with fail
  refine (eedge_any 3 1 _).mono ?_
  rintro e w7 ⟨rfl, hb⟩
  have s13 := MT.next s12 hb
  clear hb s12
  have s14 := MK.putP (MT.alloc s13 (.cells #[.int .i64 3, .int .i64 1] 27)) (rdp_lit w7 Mc.eb2 _ rfl)
  clear s13
  go_wp2_with fail
  refine (eedge_any 1 0 _).mono ?_
  rintro e w8 ⟨rfl, hb⟩
  have s15 := MT.next s14 hb
  clear hb s14
  have s16 := MK.putP (MT.alloc s15 (.cells #[.int .i64 1, .int .i64 0] 27)) (rdp_lit w8 Mc.ea0 _ rfl)
  clear s15
  have s17 := MK.putR (MT.alloc s16 (.cells #[.slice (some ⟨w5.heap.size, 0, none⟩) 1 1, .slice (some ⟨w6.heap.size, 0, none⟩) 1 1, .slice (some ⟨w7.heap.size, 0, none⟩) 1 1, .slice (some ⟨w8.heap.size, 0, none⟩) 1 1] 51))
    (by
      have h := rdr_eb _ ⟨w5.heap.size, 0, none⟩ ⟨w6.heap.size, 0, none⟩ ⟨w7.heap.size, 0, none⟩ ⟨w8.heap.size, 0, none⟩ (MK.get s16 3 rfl) (MK.get s16 2 rfl) (MK.get s16 1 rfl) (MK.get s16 0 rfl)
      rw [show (w8.alloc (.cells #[.int .i64 1, .int .i64 0] 27)).heap.size = w8.heap.size + 1 by simp] at h
      exact h)
  clear s16
  have s18 := MK.putB (g := w8.heap.size + 1 + 1) (MT.alloc s17 (.cells #[.int .i64 1, .int .i64 2, .slice (some ⟨w8.heap.size + 1, 0, none⟩) 4 4] 35))
    (by
      have h := heap_alloc_new ((w8.alloc (.cells #[.int .i64 1, .int .i64 0] 27)).alloc (.cells #[.slice (some ⟨w5.heap.size, 0, none⟩) 1 1, .slice (some ⟨w6.heap.size, 0, none⟩) 1 1, .slice (some ⟨w7.heap.size, 0, none⟩) 1 1, .slice (some ⟨w8.heap.size, 0, none⟩) 1 1] 51)) (.cells #[.int .i64 1, .int .i64 2, .slice (some ⟨w8.heap.size + 1, 0, none⟩) 4 4] 35)
      rw [show ((w8.alloc (.cells #[.int .i64 1, .int .i64 0] 27)).alloc (.cells #[.slice (some ⟨w5.heap.size, 0, none⟩) 1 1, .slice (some ⟨w6.heap.size, 0, none⟩) 1 1, .slice (some ⟨w7.heap.size, 0, none⟩) 1 1, .slice (some ⟨w8.heap.size, 0, none⟩) 1 1] 51)).heap.size = w8.heap.size + 1 + 1 by simp] at h
      exact h)
  clear s17
  go_upto_region 3 with fail
  obtain ⟨w9, hw⟩ : ∃ q, ((w8.alloc (.cells #[.int .i64 1, .int .i64 0] 27)).alloc (.cells #[.slice (some ⟨w5.heap.size, 0, none⟩) 1 1, .slice (some ⟨w6.heap.size, 0, none⟩) 1 1, .slice (some ⟨w7.heap.size, 0, none⟩) 1 1, .slice (some ⟨w8.heap.size, 0, none⟩) 1 1] 51)).alloc (.cells #[.int .i64 1, .int .i64 2, .slice (some ⟨w8.heap.size + 1, 0, none⟩) 4 4] 35) = q := ⟨_, rfl⟩
  obtain ⟨GB, hG⟩ : ∃ G, w8.heap.size + 1 + 1 = G := ⟨_, rfl⟩
  obtain ⟨QB, hQ⟩ : ∃ Q, w8.heap.size + 1 = Q := ⟨_, rfl⟩
  rw [hw, hG, hQ] at s18
  try rw [hw]
  try rw [hG]
  try rw [hQ]
  clear hw hG hQ
  go_wp2_with fail
  refine (eedge_any 1 0 _).mono ?_
  rintro e w10 ⟨rfl, hb⟩
  have s19 := MT.next s18 hb
  clear hb s18
  have s20 := MK.putP (MT.alloc s19 (.cells #[.int .i64 1, .int .i64 0] 27)) (rdp_lit w10 Mc.ea0 _ rfl)
  clear s19
  go_wp2_with fail
  refine (eedge_any 2 0 _).mono ?_
  rintro e w11 ⟨rfl, hb⟩
  have s21 := MT.next s20 hb
  clear hb s20
  have s22 := MK.putP (MT.alloc s21 (.cells #[.int .i64 2, .int .i64 0] 27)) (rdp_lit w11 Mc.ea1 _ rfl)
  clear s21
  go_wp2_with fail
  refine (eedge_any 2 0 _).mono ?_
  rintro e w12 ⟨rfl, hb⟩
  have s23 := MT.next s22 hb
  clear hb s22
  have s24 := MK.putP (MT.alloc s23 (.cells #[.int .i64 2, .int .i64 0] 27)) (rdp_lit w12 Mc.ea1 _ rfl)
  clear s23
  have s25 := MK.putR (MT.alloc s24 (.cells #[.slice (some ⟨w10.heap.size, 0, none⟩) 1 1, .slice (some ⟨w11.heap.size, 0, none⟩) 1 1, .slice (some ⟨w12.heap.size, 0, none⟩) 1 1] 51))
    (by
      have h := rdr_ec _ ⟨w10.heap.size, 0, none⟩ ⟨w11.heap.size, 0, none⟩ ⟨w12.heap.size, 0, none⟩ (MK.get s24 2 rfl) (MK.get s24 1 rfl) (MK.get s24 0 rfl)
      rw [show (w12.alloc (.cells #[.int .i64 2, .int .i64 0] 27)).heap.size = w12.heap.size + 1 by simp] at h
      exact h)
  clear s24
  have s26 := MK.putB (g := w12.heap.size + 1 + 1) (MT.alloc s25 (.cells #[.int .i64 1, .int .i64 2, .slice (some ⟨w12.heap.size + 1, 0, none⟩) 3 3] 35))
    (by
      have h := heap_alloc_new ((w12.alloc (.cells #[.int .i64 2, .int .i64 0] 27)).alloc (.cells #[.slice (some ⟨w10.heap.size, 0, none⟩) 1 1, .slice (some ⟨w11.heap.size, 0, none⟩) 1 1, .slice (some ⟨w12.heap.size, 0, none⟩) 1 1] 51)) (.cells #[.int .i64 1, .int .i64 2, .slice (some ⟨w12.heap.size + 1, 0, none⟩) 3 3] 35)
      rw [show ((w12.alloc (.cells #[.int .i64 2, .int .i64 0] 27)).alloc (.cells #[.slice (some ⟨w10.heap.size, 0, none⟩) 1 1, .slice (some ⟨w11.heap.size, 0, none⟩) 1 1, .slice (some ⟨w12.heap.size, 0, none⟩) 1 1] 51)).heap.size = w12.heap.size + 1 + 1 by simp] at h
      exact h)
  clear s25
  go_upto_region 4 with fail
  obtain ⟨w13, hw⟩ : ∃ q, ((w12.alloc (.cells #[.int .i64 2, .int .i64 0] 27)).alloc (.cells #[.slice (some ⟨w10.heap.size, 0, none⟩) 1 1, .slice (some ⟨w11.heap.size, 0, none⟩) 1 1, .slice (some ⟨w12.heap.size, 0, none⟩) 1 1] 51)).alloc (.cells #[.int .i64 1, .int .i64 2, .slice (some ⟨w12.heap.size + 1, 0, none⟩) 3 3] 35) = q := ⟨_, rfl⟩
  obtain ⟨GC, hG⟩ : ∃ G, w12.heap.size + 1 + 1 = G := ⟨_, rfl⟩
  obtain ⟨QC, hQ⟩ : ∃ Q, w12.heap.size + 1 = Q := ⟨_, rfl⟩
  rw [hw, hG, hQ] at s26
  try rw [hw]
  try rw [hG]
  try rw [hQ]
  clear hw hG hQ
  go_wp2_with fail
  refine (eedge_any 0 0 _).mono ?_
  rintro e w14 ⟨rfl, hb⟩
  have s27 := MT.next s26 hb
  clear hb s26
  go_wp2_with fail
  refine (eedge_any 0 0 _).mono ?_
  rintro e w15 ⟨rfl, hb⟩
  have s28 := MT.next s27 hb
  clear hb s27
  have s29 := MK.putP (MT.alloc s28 (.cells #[.int .i64 0, .int .i64 0, .int .i64 0, .int .i64 0] 27)) (rdp_lit w15 Mc.et0 _ rfl)
  clear s28
  have s30 := MK.putR (MT.alloc s29 (.cells #[.slice (some ⟨w15.heap.size, 0, none⟩) 2 2] 51))
    (by
      have h := rdr_et _ ⟨w15.heap.size, 0, none⟩ (MK.get s29 0 rfl)
      rw [show (w15.alloc (.cells #[.int .i64 0, .int .i64 0, .int .i64 0, .int .i64 0] 27)).heap.size = w15.heap.size + 1 by simp] at h
      exact h)
  clear s29
  have s31 := MK.putB (g := w15.heap.size + 1 + 1) (MT.alloc s30 (.cells #[.int .i64 2, .int .i64 1, .slice (some ⟨w15.heap.size + 1, 0, none⟩) 1 1] 35))
    (by
      have h := heap_alloc_new ((w15.alloc (.cells #[.int .i64 0, .int .i64 0, .int .i64 0, .int .i64 0] 27)).alloc (.cells #[.slice (some ⟨w15.heap.size, 0, none⟩) 2 2] 51)) (.cells #[.int .i64 2, .int .i64 1, .slice (some ⟨w15.heap.size + 1, 0, none⟩) 1 1] 35)
      rw [show ((w15.alloc (.cells #[.int .i64 0, .int .i64 0, .int .i64 0, .int .i64 0] 27)).alloc (.cells #[.slice (some ⟨w15.heap.size, 0, none⟩) 2 2] 51)).heap.size = w15.heap.size + 1 + 1 by simp] at h
      exact h)
  clear s30
  go_upto_region 5 with fail
  obtain ⟨w16, hw⟩ : ∃ q, ((w15.alloc (.cells #[.int .i64 0, .int .i64 0, .int .i64 0, .int .i64 0] 27)).alloc (.cells #[.slice (some ⟨w15.heap.size, 0, none⟩) 2 2] 51)).alloc (.cells #[.int .i64 2, .int .i64 1, .slice (some ⟨w15.heap.size + 1, 0, none⟩) 1 1] 35) = q := ⟨_, rfl⟩
  obtain ⟨GT, hG⟩ : ∃ G, w15.heap.size + 1 + 1 = G := ⟨_, rfl⟩
  obtain ⟨QT, hQ⟩ : ∃ Q, w15.heap.size + 1 = Q := ⟨_, rfl⟩
  rw [hw, hG, hQ] at s31
  try rw [hw]
  try rw [hG]
  try rw [hQ]
  clear hw hG hQ
  obtain ⟨b00, b01, b02⟩ := BxM.cells (MK.get s31 14 rfl)
  obtain ⟨b10, b11, b12⟩ := BxM.cells (MK.get s31 8 rfl)
  go_wp2_with fail
  clear b00 b01 b02 b10 b11 b12
  refine (e_dif1 _ _ _ (MK.get s31 15 rfl) (MK.get s31 9 rfl)).mono ?_
  rintro e w17 ⟨X1, rfl, hr, hb⟩
  have s32 := MT.next s31 hb
  clear hb s31
  have s33 := MK.putL s32 hr
  clear s32 hr
  obtain ⟨b00, b01, b02⟩ := BxM.cells (MK.get s33 15 rfl)
  obtain ⟨b10, b11, b12⟩ := BxM.cells (MK.get s33 9 rfl)
  go_wp2_with fail
  clear b00 b01 b02 b10 b11 b12
  refine (e_eq1 _ _ _ (MK.get s33 16 rfl) (MK.get s33 10 rfl)).mono ?_
  rintro e w18 ⟨rfl, hb⟩
  have s34 := MT.next s33 hb
  clear hb s33
  obtain ⟨b00, b01, b02⟩ := BxM.cells (MK.get s34 15 rfl)
  obtain ⟨b10, b11, b12⟩ := BxM.cells (MK.get s34 9 rfl)
  go_wp2_with fail
  clear b00 b01 b02 b10 b11 b12
  refine (e_rel _ _ _ (MK.get s34 16 rfl) (MK.get s34 10 rfl)).mono ?_
  rintro e w19 ⟨X2, rfl, hr, hb⟩
  have s35 := MT.next s34 hb
  clear hb s34
  have s36 := MK.putP s35 hr
  clear s35 hr
  obtain ⟨b00, b01, b02⟩ := BxM.cells (MK.get s36 16 rfl)
  obtain ⟨b10, b11, b12⟩ := BxM.cells (MK.get s36 5 rfl)
  go_wp2_with fail
  clear b00 b01 b02 b10 b11 b12
  refine (e_dif2 _ _ _ (MK.get s36 17 rfl) (MK.get s36 6 rfl)).mono ?_
  rintro e w20 ⟨X3, rfl, hr, hb⟩
  have s37 := MT.next s36 hb
  clear hb s36
  have s38 := MK.putL s37 hr
  clear s37 hr
  obtain ⟨b00, b01, b02⟩ := BxM.cells (MK.get s38 17 rfl)
  obtain ⟨b10, b11, b12⟩ := BxM.cells (MK.get s38 6 rfl)
  go_wp2_with fail
  clear b00 b01 b02 b10 b11 b12
  refine (e_win1 _ _ _ (MK.get s38 18 rfl) (MK.get s38 7 rfl)).mono ?_
  rintro e w21 ⟨rfl, hb⟩
  have s39 := MT.next s38 hb
  clear hb s38
  obtain ⟨b00, b01, b02⟩ := BxM.cells (MK.get s39 17 rfl)
  obtain ⟨b10, b11, b12⟩ := BxM.cells (MK.get s39 6 rfl)
  go_wp2_with fail
  clear b00 b01 b02 b10 b11 b12
  refine (e_win2 _ _ _ (MK.get s39 18 rfl) (MK.get s39 7 rfl)).mono ?_
  rintro e w22 ⟨rfl, hb⟩
  have s40 := MT.next s39 hb
  clear hb s39
  obtain ⟨b00, b01, b02⟩ := BxM.cells (MK.get s40 17 rfl)
  obtain ⟨b10, b11, b12⟩ := BxM.cells (MK.get s40 11 rfl)
  have s41 := MK.putP (MT.alloc s40 (.cells #[.int .i64 0, .int .i64 0, .int .i64 0, .int .i64 3, .int .i64 1, .int .i64 1, .int .i64 2, .int .i64 2] 95)) (rdp_pairs w22 [(0, 0), (0, 3), (1, 1), (2, 2)] _ rfl)
  go_wp2_with fail
  clear b00 b01 b02 b10 b11 b12
  clear s40
  refine (e_cr1 _ _ _ _ (MK.get s41 19 rfl) (MK.get s41 13 rfl) (MK.get s41 0 rfl)).mono ?_
  rintro e w23 ⟨rfl, hb⟩
  have s42 := MT.next s41 hb
  clear hb s41
  obtain ⟨b00, b01, b02⟩ := BxM.cells (MK.get s42 18 rfl)
  obtain ⟨b10, b11, b12⟩ := BxM.cells (MK.get s42 12 rfl)
  have s43 := MK.putP (MT.alloc s42 (.cells #[.int .i64 0, .int .i64 0, .int .i64 1, .int .i64 1] 95)) (rdp_pairs w23 [(0, 0), (1, 1)] _ rfl)
  go_wp2_with fail
  clear b00 b01 b02 b10 b11 b12
  clear s42
  refine (e_cr2 _ _ _ _ (MK.get s43 20 rfl) (MK.get s43 14 rfl) (MK.get s43 0 rfl)).mono ?_
  rintro e w24 ⟨rfl, hb⟩
  have s44 := MT.next s43 hb
  clear hb s43
  obtain ⟨b00, b01, b02⟩ := BxM.cells (MK.get s44 19 rfl)
  obtain ⟨b10, b11, b12⟩ := BxM.cells (MK.get s44 5 rfl)
  go_wp2_with fail
  clear b00 b01 b02 b10 b11 b12
  refine (e_eq2 _ _ _ (MK.get s44 20 rfl) (MK.get s44 6 rfl)).mono ?_
  rintro e w25 ⟨rfl, hb⟩
  have s45 := MT.next s44 hb
  clear hb s44
  obtain ⟨b00, b01, b02⟩ := BxM.cells (MK.get s45 19 rfl)
  obtain ⟨b10, b11, b12⟩ := BxM.cells (MK.get s45 13 rfl)
  go_wp2_with fail
  clear b00 b01 b02 b10 b11 b12
  refine (e_win3 _ _ _ (MK.get s45 20 rfl) (MK.get s45 14 rfl)).mono ?_
  rintro e w26 ⟨rfl, hb⟩
  have s46 := MT.next s45 hb
  clear hb s45
  obtain ⟨b00, b01, b02⟩ := BxM.cells (MK.get s46 19 rfl)
  obtain ⟨b10, b11, b12⟩ := BxM.cells (MK.get s46 13 rfl)
  have s47 := MK.putP (MT.alloc s46 (.cells #[.int .i64 0, .int .i64 4] 95)) (rdp_pairs w26 [(0, 4)] _ rfl)
  go_wp2_with fail
  clear b00 b01 b02 b10 b11 b12
  clear s46
  refine (e_cr3 _ _ _ _ (MK.get s47 21 rfl) (MK.get s47 15 rfl) (MK.get s47 0 rfl)).mono ?_
  rintro e w27 ⟨rfl, hb⟩
  have s48 := MT.next s47 hb
  clear hb s47
  go_wp2_with fail
  refine (elist_yes X1 none 0 0 [] 0 _ (MK.get s48 5 rfl) Rd.nil_ rfl (by decide)).mono ?_
  rintro e w28 ⟨rfl, hb⟩
  have s49 := MT.next s48 hb
  clear hb s48
  have s50 := MK.putP (MT.alloc s49 (.cells #[.int .i64 0, .int .i64 0, .int .i64 0, .int .i64 3, .int .i64 1, .int .i64 1, .int .i64 2, .int .i64 2] 95)) (rdp_pairs w28 [(0, 0), (0, 3), (1, 1), (2, 2)] _ rfl)
  go_wp2_with fail
  clear s49
  refine (epairs_yes X2 (some ⟨w28.heap.size, 0, none⟩) 4 4 Mc.EPs _ (MK.get s50 5 rfl) (MK.get s50 0 rfl) rfl (by decide)).mono ?_
  rintro e w29 ⟨rfl, hb⟩
  have s51 := MT.next s50 hb
  clear hb s50
  have s52 := MK.putL (MT.alloc s51 (.cells (ints [0, 0, 0]).toArray 3)) (rd_lit w29 [0, 0, 0])
  go_wp2_with fail
  clear s51
  refine (elist_yes X3 (some ⟨w29.heap.size, 0, none⟩) 3 3 [0, 0, 0] 0 _ (MK.get s52 5 rfl) (MK.get s52 0 rfl) rfl (by decide)).mono ?_
  rintro e w30 ⟨rfl, hb⟩
  have s53 := MT.next s52 hb
  clear hb s52
  have hfin := s53.2.1
  clear s53
  go_wp2_with fail
  go_ret
  exact ⟨rfl, hfin⟩
end Go.Proofs.Ytiamkkgnjobljaa
