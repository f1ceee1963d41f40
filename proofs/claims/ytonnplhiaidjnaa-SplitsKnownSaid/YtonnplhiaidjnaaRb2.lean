/-
  The law's own lives: the examples of the chapter. No statement is proved here.
-/
import Derived.Test.YtonnplhiaidjnaaRb1
namespace Go.Proofs.Ytonnplhiaidjnaa
open Go.RowKit
open Mc (Ed Ma)

set_option maxRecDepth 100000 in
set_option maxHeartbeats 4000000 in
theorem lives_walk (w : World) : Calls Try.prog 22 #[] w fun e w' => e = .returned (.bool true) ∧ Below w.heap.size w w' := by
  have s0 : MT w w [] := MT.start
  go_enter Try.func22, Try.ntmps22
  go_wp2_with fail
  refine (edge_any 1 0 _).mono ?_
  rintro e w1 ⟨rfl, hb⟩
  have s1 := MT.next s0 hb
  clear hb s0
  go_wp2_with fail
  refine (edge_any 2 0 _).mono ?_
  rintro e w2 ⟨rfl, hb⟩
  have s2 := MT.next s1 hb
  clear hb s1
  have s3 := MK.putP (MT.alloc s2 (.cells #[.int .i64 1, .int .i64 0, .int .i64 2, .int .i64 0] 58)) (rdp_lit w2 Mc.z0 _ rfl)
  clear s2
  go_wp2_with fail
  refine (edge_any 1 0 _).mono ?_
  rintro e w3 ⟨rfl, hb⟩
  have s4 := MT.next s3 hb
  clear hb s3
  go_wp2_with fail
  refine (edge_any 3 0 _).mono ?_
  rintro e w4 ⟨rfl, hb⟩
  have s5 := MT.next s4 hb
  clear hb s4
  have s6 := MK.putP (MT.alloc s5 (.cells #[.int .i64 1, .int .i64 0, .int .i64 3, .int .i64 0] 58)) (rdp_lit w4 Mc.z1 _ rfl)
  clear s5
  go_wp2_with fail
  refine (edge_any 2 0 _).mono ?_
  rintro e w5 ⟨rfl, hb⟩
  have s7 := MT.next s6 hb
  clear hb s6
  go_wp2_with fail
  refine (edge_any 0 1 _).mono ?_
  rintro e w6 ⟨rfl, hb⟩
  have s8 := MT.next s7 hb
  clear hb s7
  have s9 := MK.putP (MT.alloc s8 (.cells #[.int .i64 2, .int .i64 0, .int .i64 0, .int .i64 1] 58)) (rdp_lit w6 Mc.z2 _ rfl)
  clear s8
  go_wp2_with fail
  refine (edge_any 3 0 _).mono ?_
  rintro e w7 ⟨rfl, hb⟩
  have s10 := MT.next s9 hb
  clear hb s9
  go_wp2_with fail
  refine (edge_any 1 1 _).mono ?_
  rintro e w8 ⟨rfl, hb⟩
  have s11 := MT.next s10 hb
  clear hb s10
  have s12 := MK.putP (MT.alloc s11 (.cells #[.int .i64 3, .int .i64 0, .int .i64 1, .int .i64 1] 58)) (rdp_lit w8 Mc.z3 _ rfl)
  clear s11
  have s13 := MK.putR (MT.alloc s12 (.cells #[.slice (some ⟨w2.heap.size, 0, none⟩) 2 2, .slice (some ⟨w4.heap.size, 0, none⟩) 2 2, .slice (some ⟨w6.heap.size, 0, none⟩) 2 2, .slice (some ⟨w8.heap.size, 0, none⟩) 2 2] 60))
    (by
      have h := rdr_four _ ⟨w2.heap.size, 0, none⟩ ⟨w4.heap.size, 0, none⟩ ⟨w6.heap.size, 0, none⟩ ⟨w8.heap.size, 0, none⟩ (MK.get s12 3 rfl) (MK.get s12 2 rfl) (MK.get s12 1 rfl) (MK.get s12 0 rfl)
      rw [show (w8.alloc (.cells #[.int .i64 3, .int .i64 0, .int .i64 1, .int .i64 1] 58)).heap.size = w8.heap.size + 1 by simp] at h
      exact h)
  clear s12
  have s14 := MK.putB (g := w8.heap.size + 1 + 1) (MT.alloc s13 (.cells #[.int .i64 2, .int .i64 2, .slice (some ⟨w8.heap.size + 1, 0, none⟩) 4 4] 27))
    (by
      have h := heap_alloc_new ((w8.alloc (.cells #[.int .i64 3, .int .i64 0, .int .i64 1, .int .i64 1] 58)).alloc (.cells #[.slice (some ⟨w2.heap.size, 0, none⟩) 2 2, .slice (some ⟨w4.heap.size, 0, none⟩) 2 2, .slice (some ⟨w6.heap.size, 0, none⟩) 2 2, .slice (some ⟨w8.heap.size, 0, none⟩) 2 2] 60)) (.cells #[.int .i64 2, .int .i64 2, .slice (some ⟨w8.heap.size + 1, 0, none⟩) 4 4] 27)
      rw [show ((w8.alloc (.cells #[.int .i64 3, .int .i64 0, .int .i64 1, .int .i64 1] 58)).alloc (.cells #[.slice (some ⟨w2.heap.size, 0, none⟩) 2 2, .slice (some ⟨w4.heap.size, 0, none⟩) 2 2, .slice (some ⟨w6.heap.size, 0, none⟩) 2 2, .slice (some ⟨w8.heap.size, 0, none⟩) 2 2] 60)).heap.size = w8.heap.size + 1 + 1 by simp] at h
      exact h)
  clear s13
  go_upto_region 2 with fail
  obtain ⟨w9, hw⟩ : ∃ q, ((w8.alloc (.cells #[.int .i64 3, .int .i64 0, .int .i64 1, .int .i64 1] 58)).alloc (.cells #[.slice (some ⟨w2.heap.size, 0, none⟩) 2 2, .slice (some ⟨w4.heap.size, 0, none⟩) 2 2, .slice (some ⟨w6.heap.size, 0, none⟩) 2 2, .slice (some ⟨w8.heap.size, 0, none⟩) 2 2] 60)).alloc (.cells #[.int .i64 2, .int .i64 2, .slice (some ⟨w8.heap.size + 1, 0, none⟩) 4 4] 27) = q := ⟨_, rfl⟩
  obtain ⟨G, hG⟩ : ∃ G, w8.heap.size + 1 + 1 = G := ⟨_, rfl⟩
  obtain ⟨Q, hQ⟩ : ∃ Q, w8.heap.size + 1 = Q := ⟨_, rfl⟩
  rw [hw, hG, hQ] at s14
  try rw [hw]
  try rw [hG]
  try rw [hQ]
  clear hw hG hQ
  obtain ⟨b0, b1, b2⟩ := BxM.cells (MK.get s14 0 rfl)
  go_wp2_with fail
  clear b0 b1 b2
  refine (l_rounds _ _ 0 [0, 0, 0, 0] 0 4 Mc.RM_0 rfl (MK.get s14 1 rfl)).mono ?_
  rintro e w10 ⟨A0, rfl, hr, hb⟩
  have s15 := MT.next s14 hb
  clear hb s14
  have s16 := MK.putL s15 hr
  clear s15 hr
  obtain ⟨b0, b1, b2⟩ := BxM.cells (MK.get s16 1 rfl)
  go_wp2_with fail
  clear b0 b1 b2
  refine (l_rounds _ _ 1 [0, 0, 1, 1] 0 4 Mc.RM_1 rfl (MK.get s16 2 rfl)).mono ?_
  rintro e w11 ⟨A1, rfl, hr, hb⟩
  have s17 := MT.next s16 hb
  clear hb s16
  have s18 := MK.putL s17 hr
  clear s17 hr
  obtain ⟨b0, b1, b2⟩ := BxM.cells (MK.get s18 2 rfl)
  go_wp2_with fail
  clear b0 b1 b2
  refine (l_rounds _ _ 5 [0, 0, 1, 1] 0 4 Mc.RM_5 rfl (MK.get s18 3 rfl)).mono ?_
  rintro e w12 ⟨A2, rfl, hr, hb⟩
  have s19 := MT.next s18 hb
  clear hb s18
  have s20 := MK.putL s19 hr
  clear s19 hr
  obtain ⟨b0, b1, b2⟩ := BxM.cells (MK.get s20 3 rfl)
  go_wp2_with fail
  clear b0 b1 b2
  refine (l_rounds _ _ (-1) [] 1 0 Mc.RM_m rfl (MK.get s20 4 rfl)).mono ?_
  rintro e w13 ⟨A3, rfl, hr, hb⟩
  have s21 := MT.next s20 hb
  clear hb s20
  have s22 := MK.putL s21 hr
  clear s21 hr
  obtain ⟨b0, b1, b2⟩ := BxM.cells (MK.get s22 4 rfl)
  go_wp2_with fail
  clear b0 b1 b2
  refine (l_classes _ _ (MK.get s22 5 rfl)).mono ?_
  rintro e w14 ⟨A4, rfl, hr, hb⟩
  have s23 := MT.next s22 hb
  clear hb s22
  have s24 := MK.putL s23 hr
  clear s23 hr
  obtain ⟨b0, b1, b2⟩ := BxM.cells (MK.get s24 5 rfl)
  go_wp2_with fail
  clear b0 b1 b2
  refine (l_equiv _ _ 0 1 true Mc.RM_e1 (MK.get s24 6 rfl)).mono ?_
  rintro e w15 ⟨rfl, hb⟩
  have s25 := MT.next s24 hb
  clear hb s24
  obtain ⟨b0, b1, b2⟩ := BxM.cells (MK.get s25 5 rfl)
  go_wp2_with fail
  clear b0 b1 b2
  refine (l_equiv _ _ 1 2 false Mc.RM_e2 (MK.get s25 6 rfl)).mono ?_
  rintro e w16 ⟨rfl, hb⟩
  have s26 := MT.next s25 hb
  clear hb s25
  have s27 := MK.putL (MT.alloc s26 (.cells (ints [0, 0, 0, 0]).toArray 3)) (rd_lit w16 [0, 0, 0, 0])
  go_wp2_with fail
  clear s26
  refine (list_yes A0 (some ⟨w16.heap.size, 0, none⟩) 4 4 [0, 0, 0, 0] 0 _ (MK.get s27 5 rfl) (MK.get s27 0 rfl) rfl (by decide)).mono ?_
  rintro e w17 ⟨rfl, hb⟩
  have s28 := MT.next s27 hb
  clear hb s27
  have s29 := MK.putL (MT.alloc s28 (.cells (ints [0, 0, 1, 1]).toArray 3)) (rd_lit w17 [0, 0, 1, 1])
  go_wp2_with fail
  clear s28
  refine (list_yes A1 (some ⟨w17.heap.size, 0, none⟩) 4 4 [0, 0, 1, 1] 0 _ (MK.get s29 5 rfl) (MK.get s29 0 rfl) rfl (by decide)).mono ?_
  rintro e w18 ⟨rfl, hb⟩
  have s30 := MT.next s29 hb
  clear hb s29
  have s31 := MK.putL (MT.alloc s30 (.cells (ints [0, 0, 1, 1]).toArray 3)) (rd_lit w18 [0, 0, 1, 1])
  go_wp2_with fail
  clear s30
  refine (list_yes A2 (some ⟨w18.heap.size, 0, none⟩) 4 4 [0, 0, 1, 1] 0 _ (MK.get s31 5 rfl) (MK.get s31 0 rfl) rfl (by decide)).mono ?_
  rintro e w19 ⟨rfl, hb⟩
  have s32 := MT.next s31 hb
  clear hb s31
  go_wp2_with fail
  refine (list_yes A3 none 0 0 [] 1 _ (MK.get s32 4 rfl) Rd.nil_ rfl (by decide)).mono ?_
  rintro e w20 ⟨rfl, hb⟩
  have s33 := MT.next s32 hb
  clear hb s32
  have s34 := MK.putL (MT.alloc s33 (.cells (ints [0, 0, 1, 1]).toArray 3)) (rd_lit w20 [0, 0, 1, 1])
  go_wp2_with fail
  clear s33
  refine (list_yes A4 (some ⟨w20.heap.size, 0, none⟩) 4 4 [0, 0, 1, 1] 0 _ (MK.get s34 4 rfl) (MK.get s34 0 rfl) rfl (by decide)).mono ?_
  rintro e w21 ⟨rfl, hb⟩
  have s35 := MT.next s34 hb
  clear hb s34
  obtain ⟨b0, b1, b2⟩ := BxM.cells (MK.get s35 9 rfl)
  have s36 := MK.putL (MT.alloc s35 (.cells (ints [0, 0, 1, 1]).toArray 3)) (rd_lit w21 [0, 0, 1, 1])
  go_wp2_with fail
  clear b0 b1 b2 s35
  refine (l_resp _ _ _ 4 4 [0, 0, 1, 1] true 0 Mc.RM_r0 rfl (MK.get s36 11 rfl) (MK.get s36 0 rfl)).mono ?_
  rintro e w22 ⟨rfl, hb⟩
  have s37 := MT.next s36 hb
  clear hb s36
  obtain ⟨b0, b1, b2⟩ := BxM.cells (MK.get s37 10 rfl)
  have s38 := MK.putL (MT.alloc s37 (.cells (ints [0, 1, 2, 3]).toArray 3)) (rd_lit w22 [0, 1, 2, 3])
  go_wp2_with fail
  clear b0 b1 b2 s37
  refine (l_resp _ _ _ 4 4 [0, 1, 2, 3] true 0 Mc.RM_r1 rfl (MK.get s38 12 rfl) (MK.get s38 0 rfl)).mono ?_
  rintro e w23 ⟨rfl, hb⟩
  have s39 := MT.next s38 hb
  clear hb s38
  obtain ⟨b0, b1, b2⟩ := BxM.cells (MK.get s39 11 rfl)
  have s40 := MK.putL (MT.alloc s39 (.cells (ints [0, 0, 1, 2]).toArray 3)) (rd_lit w23 [0, 0, 1, 2])
  go_wp2_with fail
  clear b0 b1 b2 s39
  refine (l_resp _ _ _ 4 4 [0, 0, 1, 2] false 0 Mc.RM_r2 rfl (MK.get s40 13 rfl) (MK.get s40 0 rfl)).mono ?_
  rintro e w24 ⟨rfl, hb⟩
  have s41 := MT.next s40 hb
  clear hb s40
  obtain ⟨b0, b1, b2⟩ := BxM.cells (MK.get s41 12 rfl)
  have s42 := MK.putL (MT.alloc s41 (.cells (ints [0, 0, 0, 0]).toArray 3)) (rd_lit w24 [0, 0, 0, 0])
  go_wp2_with fail
  clear b0 b1 b2 s41
  refine (l_resp _ _ _ 4 4 [0, 0, 0, 0] false 0 Mc.RM_r3 rfl (MK.get s42 14 rfl) (MK.get s42 0 rfl)).mono ?_
  rintro e w25 ⟨rfl, hb⟩
  have s43 := MT.next s42 hb
  clear hb s42
  obtain ⟨b0, b1, b2⟩ := BxM.cells (MK.get s43 13 rfl)
  have s44 := MK.putL (MT.alloc s43 (.cells (ints [0, 1]).toArray 3)) (rd_lit w25 [0, 1])
  go_wp2_with fail
  clear b0 b1 b2 s43
  refine (l_resp _ _ _ 2 2 [0, 1] false 16 Mc.RM_r4 rfl (MK.get s44 15 rfl) (MK.get s44 0 rfl)).mono ?_
  rintro e w26 ⟨rfl, hb⟩
  have s45 := MT.next s44 hb
  clear hb s44
  obtain ⟨b0, b1, b2⟩ := BxM.cells (MK.get s45 14 rfl)
  have s46 := MK.putL (MT.alloc s45 (.cells (ints [1, 0, 0, 0]).toArray 3)) (rd_lit w26 [1, 0, 0, 0])
  go_wp2_with fail
  clear b0 b1 b2 s45
  refine (l_resp _ _ _ 4 4 [1, 0, 0, 0] false 1 Mc.RM_r5 rfl (MK.get s46 16 rfl) (MK.get s46 0 rfl)).mono ?_
  rintro e w27 ⟨rfl, hb⟩
  have s47 := MT.next s46 hb
  clear hb s46
  have hfin := s47.2.1
  clear s47
  go_wp2_with fail
  go_ret
  exact ⟨rfl, hfin⟩
end Go.Proofs.Ytonnplhiaidjnaa
