/-
  The law's own lives: the examples of the chapter. No statement is proved here.
-/
import Derived.Test.YthemaombpddbbaaWd1
namespace Go.Proofs.Ythemaombpddbbaa
open Go.RowKit
open Mc (Ed Ma)

theorem rd_lit (w : World) (zs : List Int) : Rd (w.alloc (.cells (ints zs).toArray 3)) (some ⟨w.heap.size, 0, none⟩) zs := Rd.of_block (heap_alloc_new w _)
/-- A cell's value. -/
def Cl (p : Addr) (v : Value) (w : World) : Prop := w.cell? p = some v
theorem Cl.kept (p : Addr) (v : Value) : Kept (Cl p v) := fun w w' h hb => by
  have hp : p.block < w.heap.size := by
    rcases Nat.lt_or_ge p.block w.heap.size with h1 | h1
    · exact h1
    · unfold Cl World.cell? at h
      simp [Array.getElem?_eq_none h1] at h
  exact (hb.cell hp).trans h
theorem MT.putC {w w1 : World} {L : List (World → Prop)} (s : MT w w1 L) {p : Addr} {v : Value} (h : w1.cell? p = some v) : MT w w1 (Cl p v :: L) := MK.put s (Cl.kept p v) h
theorem acc_cells {w : World} {g : Nat} (h : WsB w g [[], [], [0], [0, 1]]) : ∃ A0 A1 A2 A3, w.cell? ⟨g, 0, none⟩ = some (.slice A0 0 0) ∧ w.cell? ⟨g, 1, none⟩ = some (.slice A1 0 0) ∧ w.cell? ⟨g, 2, none⟩ = some (.slice A2 1 1) ∧ w.cell? ⟨g, 3, none⟩ = some (.slice A3 2 2) ∧ Rd w A2 [0] ∧ Rd w A3 [0, 1] := by
  obtain ⟨A0, a0, _⟩ := h.at_ (k := 0) rfl
  obtain ⟨A1, a1, _⟩ := h.at_ (k := 1) rfl
  obtain ⟨A2, a2, r2⟩ := h.at_ (k := 2) rfl
  obtain ⟨A3, a3, r3⟩ := h.at_ (k := 3) rfl
  exact ⟨A0, A1, A2, A3, a0, a1, a2, a3, r2, r3⟩
theorem bool_cells {w : World} {g : Nat} (h : BlkB w g [true, false, true, true]) : w.cell? ⟨g, 0, none⟩ = some (.bool true) ∧ w.cell? ⟨g, 1, none⟩ = some (.bool false) ∧ w.cell? ⟨g, 2, none⟩ = some (.bool true) ∧ w.cell? ⟨g, 3, none⟩ = some (.bool true) := by
  refine ⟨?_, ?_, ?_, ?_⟩ <;> rw [cell_of_row w _ _ _ _ _ h] <;> rfl

set_option maxRecDepth 100000 in
set_option maxHeartbeats 4000000 in
theorem lives_walk (w : World) : Calls Try.prog 24 #[] w fun e w' => e = .returned (.bool true) ∧ Below w.heap.size w w' := by
  have s0 : MT w w [] := MT.start
  go_enter Try.func24, Try.ntmps24
  go_wp2_with fail
  refine (edge_any 2 0 _).mono ?_
  rintro e w1 ⟨rfl, hb⟩
  have s1 := MT.next s0 hb
  clear hb s0
  go_wp2_with fail
  refine (edge_any 0 1 _).mono ?_
  rintro e w2 ⟨rfl, hb⟩
  have s2 := MT.next s1 hb
  clear hb s1
  have s3 := MK.putP (MT.alloc s2 (.cells #[.int .i64 2, .int .i64 0, .int .i64 0, .int .i64 1] 73)) (rdp_lit w2 Mc.x0 _ rfl)
  clear s2
  go_wp2_with fail
  refine (edge_any 1 0 _).mono ?_
  rintro e w3 ⟨rfl, hb⟩
  have s4 := MT.next s3 hb
  clear hb s3
  go_wp2_with fail
  refine (edge_any 2 0 _).mono ?_
  rintro e w4 ⟨rfl, hb⟩
  have s5 := MT.next s4 hb
  clear hb s4
  have s6 := MK.putP (MT.alloc s5 (.cells #[.int .i64 1, .int .i64 0, .int .i64 2, .int .i64 0] 73)) (rdp_lit w4 Mc.x1 _ rfl)
  clear s5
  go_wp2_with fail
  refine (edge_any (-1) (-1) _).mono ?_
  rintro e w5 ⟨rfl, hb⟩
  have s7 := MT.next s6 hb
  clear hb s6
  go_wp2_with fail
  refine (edge_any 3 1 _).mono ?_
  rintro e w6 ⟨rfl, hb⟩
  have s8 := MT.next s7 hb
  clear hb s7
  have s9 := MK.putP (MT.alloc s8 (.cells #[.int .i64 (-1), .int .i64 (-1), .int .i64 3, .int .i64 1] 73)) (rdp_lit w6 Mc.x2 _ rfl)
  clear s8
  go_wp2_with fail
  refine (edge_any 2 0 _).mono ?_
  rintro e w7 ⟨rfl, hb⟩
  have s10 := MT.next s9 hb
  clear hb s9
  go_wp2_with fail
  refine (edge_any 0 0 _).mono ?_
  rintro e w8 ⟨rfl, hb⟩
  have s11 := MT.next s10 hb
  clear hb s10
  have s12 := MK.putP (MT.alloc s11 (.cells #[.int .i64 2, .int .i64 0, .int .i64 0, .int .i64 0] 73)) (rdp_lit w8 Mc.x3 _ rfl)
  clear s11
  have s13 := MK.putR (MT.alloc s12 (.cells #[.slice (some ⟨w2.heap.size, 0, none⟩) 2 2, .slice (some ⟨w4.heap.size, 0, none⟩) 2 2, .slice (some ⟨w6.heap.size, 0, none⟩) 2 2, .slice (some ⟨w8.heap.size, 0, none⟩) 2 2] 57))
    (by
      have h := rdr_four _ ⟨w2.heap.size, 0, none⟩ ⟨w4.heap.size, 0, none⟩ ⟨w6.heap.size, 0, none⟩ ⟨w8.heap.size, 0, none⟩ (MK.get s12 3 rfl) (MK.get s12 2 rfl) (MK.get s12 1 rfl) (MK.get s12 0 rfl)
      rw [show (w8.alloc (.cells #[.int .i64 2, .int .i64 0, .int .i64 0, .int .i64 0] 73)).heap.size = w8.heap.size + 1 by simp] at h
      exact h)
  clear s12
  have s14 := MK.putB (g := w8.heap.size + 1 + 1) (MT.alloc s13 (.cells #[.int .i64 2, .int .i64 2, .slice (some ⟨w8.heap.size + 1, 0, none⟩) 4 4] 30))
    (by
      have h := heap_alloc_new ((w8.alloc (.cells #[.int .i64 2, .int .i64 0, .int .i64 0, .int .i64 0] 73)).alloc (.cells #[.slice (some ⟨w2.heap.size, 0, none⟩) 2 2, .slice (some ⟨w4.heap.size, 0, none⟩) 2 2, .slice (some ⟨w6.heap.size, 0, none⟩) 2 2, .slice (some ⟨w8.heap.size, 0, none⟩) 2 2] 57)) (.cells #[.int .i64 2, .int .i64 2, .slice (some ⟨w8.heap.size + 1, 0, none⟩) 4 4] 30)
      rw [show ((w8.alloc (.cells #[.int .i64 2, .int .i64 0, .int .i64 0, .int .i64 0] 73)).alloc (.cells #[.slice (some ⟨w2.heap.size, 0, none⟩) 2 2, .slice (some ⟨w4.heap.size, 0, none⟩) 2 2, .slice (some ⟨w6.heap.size, 0, none⟩) 2 2, .slice (some ⟨w8.heap.size, 0, none⟩) 2 2] 57)).heap.size = w8.heap.size + 1 + 1 by simp] at h
      exact h)
  clear s13
  go_upto_region 2 with fail
  obtain ⟨w9, hw⟩ : ∃ q, ((w8.alloc (.cells #[.int .i64 2, .int .i64 0, .int .i64 0, .int .i64 0] 73)).alloc (.cells #[.slice (some ⟨w2.heap.size, 0, none⟩) 2 2, .slice (some ⟨w4.heap.size, 0, none⟩) 2 2, .slice (some ⟨w6.heap.size, 0, none⟩) 2 2, .slice (some ⟨w8.heap.size, 0, none⟩) 2 2] 57)).alloc (.cells #[.int .i64 2, .int .i64 2, .slice (some ⟨w8.heap.size + 1, 0, none⟩) 4 4] 30) = q := ⟨_, rfl⟩
  obtain ⟨GXR, hG⟩ : ∃ G, w8.heap.size + 1 + 1 = G := ⟨_, rfl⟩
  obtain ⟨QXR, hQ⟩ : ∃ Q, w8.heap.size + 1 = Q := ⟨_, rfl⟩
  rw [hw, hG, hQ] at s14
  rw [hw, hG, hQ]
  clear hw hG hQ
  go_wp2_with fail
  refine (edge_any 1 0 _).mono ?_
  rintro e w10 ⟨rfl, hb⟩
  have s15 := MT.next s14 hb
  clear hb s14
  go_wp2_with fail
  refine (edge_any 0 1 _).mono ?_
  rintro e w11 ⟨rfl, hb⟩
  have s16 := MT.next s15 hb
  clear hb s15
  have s17 := MK.putP (MT.alloc s16 (.cells #[.int .i64 1, .int .i64 0, .int .i64 0, .int .i64 1] 73)) (rdp_lit w11 Mc.y0 _ rfl)
  clear s16
  go_wp2_with fail
  refine (edge_any (-1) (-1) _).mono ?_
  rintro e w12 ⟨rfl, hb⟩
  have s18 := MT.next s17 hb
  clear hb s17
  go_wp2_with fail
  refine (edge_any 2 1 _).mono ?_
  rintro e w13 ⟨rfl, hb⟩
  have s19 := MT.next s18 hb
  clear hb s18
  have s20 := MK.putP (MT.alloc s19 (.cells #[.int .i64 (-1), .int .i64 (-1), .int .i64 2, .int .i64 1] 73)) (rdp_lit w13 Mc.y1 _ rfl)
  clear s19
  go_wp2_with fail
  refine (edge_any 1 0 _).mono ?_
  rintro e w14 ⟨rfl, hb⟩
  have s21 := MT.next s20 hb
  clear hb s20
  go_wp2_with fail
  refine (edge_any 0 0 _).mono ?_
  rintro e w15 ⟨rfl, hb⟩
  have s22 := MT.next s21 hb
  clear hb s21
  have s23 := MK.putP (MT.alloc s22 (.cells #[.int .i64 1, .int .i64 0, .int .i64 0, .int .i64 0] 73)) (rdp_lit w15 Mc.y2 _ rfl)
  clear s22
  have s24 := MK.putR (MT.alloc s23 (.cells #[.slice (some ⟨w11.heap.size, 0, none⟩) 2 2, .slice (some ⟨w13.heap.size, 0, none⟩) 2 2, .slice (some ⟨w15.heap.size, 0, none⟩) 2 2] 57))
    (by
      have h := rdr_three _ ⟨w11.heap.size, 0, none⟩ ⟨w13.heap.size, 0, none⟩ ⟨w15.heap.size, 0, none⟩ (MK.get s23 2 rfl) (MK.get s23 1 rfl) (MK.get s23 0 rfl)
      rw [show (w15.alloc (.cells #[.int .i64 1, .int .i64 0, .int .i64 0, .int .i64 0] 73)).heap.size = w15.heap.size + 1 by simp] at h
      exact h)
  clear s23
  have s25 := MK.putB (g := w15.heap.size + 1 + 1) (MT.alloc s24 (.cells #[.int .i64 2, .int .i64 2, .slice (some ⟨w15.heap.size + 1, 0, none⟩) 3 3] 30))
    (by
      have h := heap_alloc_new ((w15.alloc (.cells #[.int .i64 1, .int .i64 0, .int .i64 0, .int .i64 0] 73)).alloc (.cells #[.slice (some ⟨w11.heap.size, 0, none⟩) 2 2, .slice (some ⟨w13.heap.size, 0, none⟩) 2 2, .slice (some ⟨w15.heap.size, 0, none⟩) 2 2] 57)) (.cells #[.int .i64 2, .int .i64 2, .slice (some ⟨w15.heap.size + 1, 0, none⟩) 3 3] 30)
      rw [show ((w15.alloc (.cells #[.int .i64 1, .int .i64 0, .int .i64 0, .int .i64 0] 73)).alloc (.cells #[.slice (some ⟨w11.heap.size, 0, none⟩) 2 2, .slice (some ⟨w13.heap.size, 0, none⟩) 2 2, .slice (some ⟨w15.heap.size, 0, none⟩) 2 2] 57)).heap.size = w15.heap.size + 1 + 1 by simp] at h
      exact h)
  clear s24
  go_upto_region 3 with fail
  obtain ⟨w16, hw⟩ : ∃ q, ((w15.alloc (.cells #[.int .i64 1, .int .i64 0, .int .i64 0, .int .i64 0] 73)).alloc (.cells #[.slice (some ⟨w11.heap.size, 0, none⟩) 2 2, .slice (some ⟨w13.heap.size, 0, none⟩) 2 2, .slice (some ⟨w15.heap.size, 0, none⟩) 2 2] 57)).alloc (.cells #[.int .i64 2, .int .i64 2, .slice (some ⟨w15.heap.size + 1, 0, none⟩) 3 3] 30) = q := ⟨_, rfl⟩
  obtain ⟨GYR, hG⟩ : ∃ G, w15.heap.size + 1 + 1 = G := ⟨_, rfl⟩
  obtain ⟨QYR, hQ⟩ : ∃ Q, w15.heap.size + 1 = Q := ⟨_, rfl⟩
  rw [hw, hG, hQ] at s25
  rw [hw, hG, hQ]
  clear hw hG hQ
  obtain ⟨b0, b1, b2⟩ := BxM.cells (MK.get s25 5 rfl)
  go_wp2_with fail
  clear b0 b1 b2
  refine (l_reach _ _ (MK.get s25 6 rfl)).mono ?_
  rintro e w17 ⟨gr, rfl, hr, hb⟩
  have s26 := MT.next s25 hb
  clear hb s25
  have s27 := MK.putL s26 hr
  clear s26 hr
  obtain ⟨b0, b1, b2⟩ := BxM.cells (MK.get s27 6 rfl)
  go_wp2_with fail
  clear b0 b1 b2
  refine (l_access _ _ (MK.get s27 7 rfl)).mono ?_
  rintro e w18 ⟨ga, gb, rfl, hr, hq, hb⟩
  have s28 := MT.next s27 hb
  clear hb s27
  obtain ⟨A0, A1, A2, A3, a0, a1, a2, a3, r2, r3⟩ := acc_cells hr
  obtain ⟨e0, e1, e2, e3⟩ := bool_cells hq
  clear hr hq
  have s29 := MT.putC s28 a0
  clear s28
  have s30 := MT.putC s29 a1
  clear s29
  have s31 := MT.putC s30 a2
  clear s30
  have s32 := MT.putC s31 a3
  clear s31
  have s33 := MT.putC s32 e0
  clear s32
  have s34 := MT.putC s33 e1
  clear s33
  have s35 := MT.putC s34 e2
  clear s34
  have s36 := MT.putC s35 e3
  clear s35
  have s37 := MK.putL s36 r2
  clear s36
  have s38 := MK.putL s37 r3
  clear s37
  clear a0 a1 a2 a3 e0 e1 e2 e3 r2 r3
  have s39 := MK.putL (MT.alloc s38 (.cells (ints [0, 2, 3]).toArray 3)) (rd_lit w18 [0, 2, 3])
  go_wp2_with fail
  clear s38
  refine (list_yes (some ⟨gr, 0, none⟩) (some ⟨w18.heap.size, 0, none⟩) 3 3 [0, 2, 3] 0 _ (MK.get s39 11 rfl) (MK.get s39 0 rfl) rfl (by decide)).mono ?_
  rintro e w19 ⟨rfl, hb⟩
  have s40 := MT.next s39 hb
  clear hb s39
  have c0 : w19.cell? _ = _ := (MK.get s40 6 rfl)
  have c1 : w19.cell? _ = _ := (MK.get s40 5 rfl)
  have c2 : w19.cell? _ = _ := (MK.get s40 4 rfl)
  have c3 : w19.cell? _ = _ := (MK.get s40 3 rfl)
  have c4 : w19.cell? _ = _ := (MK.get s40 10 rfl)
  go_wp2_with fail
  clear c0 c1 c2 c3 c4
  refine (list_yes A0 none 0 0 [] 0 _ Rd.nil_ Rd.nil_ rfl (by decide)).mono ?_
  rintro e w20 ⟨rfl, hb⟩
  have s41 := MT.next s40 hb
  clear hb s40
  have c0 : w20.cell? _ = _ := (MK.get s41 9 rfl)
  go_wp2_with fail
  clear c0
  refine (list_yes A1 none 0 0 [] 0 _ Rd.nil_ Rd.nil_ rfl (by decide)).mono ?_
  rintro e w21 ⟨rfl, hb⟩
  have s42 := MT.next s41 hb
  clear hb s41
  have c0 : w21.cell? _ = _ := (MK.get s42 8 rfl)
  have s43 := MK.putL (MT.alloc s42 (.cells (ints [0]).toArray 3)) (rd_lit w21 [0])
  go_wp2_with fail
  clear c0
  clear s42
  refine (list_yes A2 (some ⟨w21.heap.size, 0, none⟩) 1 1 [0] 0 _ (MK.get s43 3 rfl) (MK.get s43 0 rfl) rfl (by decide)).mono ?_
  rintro e w22 ⟨rfl, hb⟩
  have s44 := MT.next s43 hb
  clear hb s43
  have c0 : w22.cell? _ = _ := (MK.get s44 8 rfl)
  have s45 := MK.putL (MT.alloc s44 (.cells (ints [0, 1]).toArray 3)) (rd_lit w22 [0, 1])
  go_wp2_with fail
  clear c0
  clear s44
  refine (list_yes A3 (some ⟨w22.heap.size, 0, none⟩) 2 2 [0, 1] 0 _ (MK.get s45 3 rfl) (MK.get s45 0 rfl) rfl (by decide)).mono ?_
  rintro e w23 ⟨rfl, hb⟩
  have s46 := MT.next s45 hb
  clear hb s45
  obtain ⟨b0, b1, b2⟩ := BxM.cells (MK.get s46 19 rfl)
  go_wp2_with fail
  clear b0 b1 b2
  refine (l_path _ _ 3 2 [0] true Mc.XM_pth1 (MK.get s46 20 rfl)).mono ?_
  rintro e w24 ⟨P0, rfl, hr, hb⟩
  have s47 := MT.next s46 hb
  clear hb s46
  have s48 := MK.putL s47 hr
  clear s47 hr
  obtain ⟨b0, b1, b2⟩ := BxM.cells (MK.get s48 20 rfl)
  go_wp2_with fail
  clear b0 b1 b2
  refine (l_path _ _ 2 2 [] true Mc.XM_pth2 (MK.get s48 21 rfl)).mono ?_
  rintro e w25 ⟨P1, rfl, hr, hb⟩
  have s49 := MT.next s48 hb
  clear hb s48
  have s50 := MK.putL s49 hr
  clear s49 hr
  obtain ⟨b0, b1, b2⟩ := BxM.cells (MK.get s50 21 rfl)
  go_wp2_with fail
  clear b0 b1 b2
  refine (l_path _ _ 2 0 [1, 1] true Mc.XM_pth3 (MK.get s50 22 rfl)).mono ?_
  rintro e w26 ⟨P2, rfl, hr, hb⟩
  have s51 := MT.next s50 hb
  clear hb s50
  have s52 := MK.putL s51 hr
  clear s51 hr
  obtain ⟨b0, b1, b2⟩ := BxM.cells (MK.get s52 22 rfl)
  go_wp2_with fail
  clear b0 b1 b2
  refine (l_path _ _ 0 1 [] false Mc.XM_pth4 (MK.get s52 23 rfl)).mono ?_
  rintro e w27 ⟨P3, rfl, hr, hb⟩
  have s53 := MT.next s52 hb
  clear hb s52
  have s54 := MK.putL s53 hr
  clear s53 hr
  obtain ⟨b0, b1, b2⟩ := BxM.cells (MK.get s54 23 rfl)
  go_wp2_with fail
  clear b0 b1 b2
  refine (l_dist _ _ (MK.get s54 24 rfl)).mono ?_
  rintro e w28 ⟨D0, rfl, hr, hb⟩
  have s55 := MT.next s54 hb
  clear hb s54
  have s56 := MK.putL s55 hr
  clear s55 hr
  obtain ⟨b0, b1, b2⟩ := BxM.cells (MK.get s56 24 rfl)
  go_wp2_with fail
  clear b0 b1 b2
  refine (l_trim _ _ (MK.get s56 25 rfl)).mono ?_
  rintro e w29 ⟨pt, gt, rfl, hx, hr, hb⟩
  have s57 := MT.next s56 hb
  clear hb s56
  have s58 := MK.putX s57 hx
  clear s57 hx
  have s59 := MK.putL s58 hr
  clear s58 hr
  have s60 := MK.putB (g := w29.heap.size) (MT.alloc s59 (.cells #[.int .i64 2, .int .i64 2, .slice (some ⟨pt, 0, none⟩) 3 3] 30)) (heap_alloc_new w29 _)
  obtain ⟨b0, b1, b2⟩ := BxM.cells (MK.get s60 27 rfl)
  go_wp2_with fail
  clear b0 b1 b2
  refine (l_canon _ _ (MK.get s60 28 rfl)).mono ?_
  rintro e w30 ⟨pc, rfl, hx, hb⟩
  have s61 := MT.next s60 hb
  clear hb s60 s59
  have s62 := MK.putX s61 hx
  clear s61 hx
  have s63 := MK.putB (g := w30.heap.size) (MT.alloc s62 (.cells #[.int .i64 2, .int .i64 2, .slice (some ⟨pc, 0, none⟩) 3 3] 30)) (heap_alloc_new w30 _)
  obtain ⟨b0, b1, b2⟩ := BxM.cells (MK.get s63 29 rfl)
  go_wp2_with fail
  clear b0 b1 b2
  refine (l_iscan _ _ (MK.get s63 30 rfl)).mono ?_
  rintro e w31 ⟨rfl, hb⟩
  have s64 := MT.next s63 hb
  clear hb s63 s62
  obtain ⟨b0, b1, b2⟩ := BxM.cells (MK.get s64 29 rfl)
  obtain ⟨d0, d1, d2⟩ := BxM.cells (MK.get s64 24 rfl)
  go_wp2_with fail
  clear b0 b1 b2 d0 d1 d2
  refine (l_iso _ _ _ (MK.get s64 30 rfl) (MK.get s64 25 rfl)).mono ?_
  rintro e w32 ⟨I0, rfl, hr, hb⟩
  have s65 := MT.next s64 hb
  clear hb s64
  have s66 := MK.putL s65 hr
  clear s65 hr
  have s67 := MK.putL (MT.alloc s66 (.cells (ints [0]).toArray 3)) (rd_lit w32 [0])
  go_wp2_with fail
  clear s66
  refine (list_yes P0 (some ⟨w32.heap.size, 0, none⟩) 1 1 [0] 0 _ (MK.get s67 11 rfl) (MK.get s67 0 rfl) rfl (by decide)).mono ?_
  rintro e w33 ⟨rfl, hb⟩
  have s68 := MT.next s67 hb
  clear hb s67
  go_wp2_with fail
  refine (list_yes P1 none 0 0 [] 0 _ Rd.nil_ Rd.nil_ rfl (by decide)).mono ?_
  rintro e w34 ⟨rfl, hb⟩
  have s69 := MT.next s68 hb
  clear hb s68
  have s70 := MK.putL (MT.alloc s69 (.cells (ints [1, 1]).toArray 3)) (rd_lit w34 [1, 1])
  go_wp2_with fail
  clear s69
  refine (list_yes P2 (some ⟨w34.heap.size, 0, none⟩) 2 2 [1, 1] 0 _ (MK.get s70 10 rfl) (MK.get s70 0 rfl) rfl (by decide)).mono ?_
  rintro e w35 ⟨rfl, hb⟩
  have s71 := MT.next s70 hb
  clear hb s70
  go_wp2_with fail
  refine (list_yes P3 none 0 0 [] 0 _ Rd.nil_ Rd.nil_ rfl (by decide)).mono ?_
  rintro e w36 ⟨rfl, hb⟩
  have s72 := MT.next s71 hb
  clear hb s71
  have s73 := MK.putL (MT.alloc s72 (.cells (ints [2, -1, 0, 1]).toArray 3)) (rd_lit w36 [2, -1, 0, 1])
  go_wp2_with fail
  clear s72
  refine (list_yes D0 (some ⟨w36.heap.size, 0, none⟩) 4 4 [2, -1, 0, 1] 0 _ (MK.get s73 9 rfl) (MK.get s73 0 rfl) rfl (by decide)).mono ?_
  rintro e w37 ⟨rfl, hb⟩
  have s74 := MT.next s73 hb
  clear hb s73
  obtain ⟨b0, b1, b2⟩ := BxM.cells (MK.get s74 6 rfl)
  obtain ⟨d0, d1, d2⟩ := BxM.cells (MK.get s74 28 rfl)
  go_wp2_with fail
  clear b0 b1 b2 d0 d1 d2
  refine (machine_yes 2 2 Mc.YR pt 3 3 _ _ (MK.get s74 8 rfl) (MK.get s74 29 rfl)).mono ?_
  rintro e w38 ⟨rfl, hb⟩
  have s75 := MT.next s74 hb
  clear hb s74
  have s76 := MK.putL (MT.alloc s75 (.cells (ints [0, 2, 3]).toArray 3)) (rd_lit w38 [0, 2, 3])
  go_wp2_with fail
  clear s75
  refine (list_yes (some ⟨gt, 0, none⟩) (some ⟨w38.heap.size, 0, none⟩) 3 3 [0, 2, 3] 0 _ (MK.get s76 8 rfl) (MK.get s76 0 rfl) rfl (by decide)).mono ?_
  rintro e w39 ⟨rfl, hb⟩
  have s77 := MT.next s76 hb
  clear hb s76
  obtain ⟨b0, b1, b2⟩ := BxM.cells (MK.get s77 5 rfl)
  obtain ⟨d0, d1, d2⟩ := BxM.cells (MK.get s77 29 rfl)
  go_wp2_with fail
  clear b0 b1 b2 d0 d1 d2
  refine (machine_yes 2 2 Mc.YR pc 3 3 _ _ (MK.get s77 6 rfl) (MK.get s77 30 rfl)).mono ?_
  rintro e w40 ⟨rfl, hb⟩
  have s78 := MT.next s77 hb
  clear hb s77
  have s79 := MK.putL (MT.alloc s78 (.cells (ints [0, -1, 1, 2]).toArray 3)) (rd_lit w40 [0, -1, 1, 2])
  go_wp2_with fail
  clear s78
  refine (list_yes I0 (some ⟨w40.heap.size, 0, none⟩) 4 4 [0, -1, 1, 2] 0 _ (MK.get s79 5 rfl) (MK.get s79 0 rfl) rfl (by decide)).mono ?_
  rintro e w41 ⟨rfl, hb⟩
  have s80 := MT.next s79 hb
  clear hb s79
  have hfin := s80.2.1
  clear s80
  go_wp2_with fail
  go_ret
  exact ⟨rfl, hfin⟩
end Go.Proofs.Ythemaombpddbbaa
