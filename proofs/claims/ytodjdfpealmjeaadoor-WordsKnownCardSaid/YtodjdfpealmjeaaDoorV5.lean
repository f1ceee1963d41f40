/-
  The walk of the helper WordsAll where its numbers are out of range.
-/
import Derived.Test.YtodjdfpealmjeaaDoorV4
namespace Go.Proofs.YtodjdfpealmjeaaDoor
open Go.RowKit Go.Shelf
attribute [local go_sem] Oper.semAt_some

set_option maxRecDepth 100000 in
set_option maxHeartbeats 6400000 in
theorem wordsAll_out (n most many : Int) (w : World) (he : Env w) (hbad : 16 < n ∨ (1 ≤ n ∧ n ≤ 16 ∧ most < 0)) :
    Calls Tryd.prog 32 #[.int .i64 n, .int .i64 most, .int .u8 many] w fun e w' => e = .returned (.bool true) ∧ Below w.heap.size w w' := by
  have HBAD := Lib.hid hbad
  clear hbad
  obtain ⟨m, _⟩ : ∃ m : Nat, True := ⟨3, trivial⟩
  refine (callsIn_wide (n := m)).1 ?_
  refine callsIn_of_wp_marks Tryd.func32 rfl trivial ?_
  simp only [Tryd.ntmps32, List.size_toArray, List.length_cons, List.length_nil, Nat.reduceAdd, Nat.reduceSub, Array.replicate_succ, Array.replicate_zero, List.push_toArray, List.append_toArray, List.nil_append, List.cons_append]
  gi_wp2_with fail
  refine wide_calls (all_any _ _ _) ?_
  rintro e w1 ⟨rfl, rfl⟩
  have HF := fun f xs ys w => run_eql_fn f xs ys w
  gi_wp2_with fail
  obtain ⟨W0, hW0⟩ : ∃ W0, (((((((((w.alloc (Obj.cells #[Value.int IntKind.i64 n] 3)).alloc (Obj.cells #[Value.int IntKind.i64 most] 3)).alloc (Obj.cells #[Value.int IntKind.u8 many] 5)).alloc (Obj.cells #[Value.bool false] 4)).alloc
    (Obj.cells #[Value.int IntKind.i64 n] 3)).alloc (Obj.cells #[Value.int IntKind.i64 most] 3)).alloc (Obj.cells #[Value.int IntKind.i64 0] 3)).alloc (Obj.cells #[] 3)).alloc
    (Obj.cells #[Value.slice (some { block := w.heap.size + 1 + 1 + 1 + 1 + 1 + 1 + 1, off := 0 }) 0 0] 22)) = W0 := ⟨_, rfl⟩
  rw [hW0]
  have x0 : Box W0 w.heap.size (.int .i64 n) := by rw [← hW0]; exact (((((((((Box.new w _ _).alloc _).alloc _).alloc _).alloc _).alloc _).alloc _).alloc _).alloc _)
  have x1 : Box W0 (w.heap.size + 1) (.int .i64 most) := by rw [← hW0]; exact ((((((((Box.new_ (by simp) _ _).alloc _).alloc _).alloc _).alloc _).alloc _).alloc _).alloc _)
  have x2 : Box W0 (w.heap.size + 1 + 1) (.int .u8 many) := by rw [← hW0]; exact (((((((Box.new_ (by simp) _ _).alloc _).alloc _).alloc _).alloc _).alloc _).alloc _)
  have x3 : Box W0 (w.heap.size + 1 + 1 + 1) (.bool false) := by rw [← hW0]; exact ((((((Box.new_ (by simp) _ _).alloc _).alloc _).alloc _).alloc _).alloc _)
  have x4 : Box W0 (w.heap.size + 1 + 1 + 1 + 1) (.int .i64 n) := by rw [← hW0]; exact (((((Box.new_ (by simp) _ _).alloc _).alloc _).alloc _).alloc _)
  have x5 : Box W0 (w.heap.size + 1 + 1 + 1 + 1 + 1) (.int .i64 most) := by rw [← hW0]; exact ((((Box.new_ (by simp) _ _).alloc _).alloc _).alloc _)
  have x6 : Box W0 (w.heap.size + 1 + 1 + 1 + 1 + 1 + 1) (.int .i64 0) := by rw [← hW0]; exact (((Box.new_ (by simp) _ _).alloc _).alloc _)
  have x8 : Box W0 (w.heap.size + 1 + 1 + 1 + 1 + 1 + 1 + 1 + 1) (.slice (some { block := w.heap.size + 1 + 1 + 1 + 1 + 1 + 1 + 1, off := 0 }) 0 0) := by rw [← hW0]; exact Box.new_ (by simp) _ _
  have xs : W0.heap.size = w.heap.size + 9 := by rw [← hW0]; simp
  have xb : Below w.heap.size w W0 := by
    rw [← hW0]
    refine Below.more (Below.more (Below.more (Below.more (Below.more (Below.more (Below.more (Below.more (Below.more (Below.refl _ _) ?_ _) ?_ _) ?_ _) ?_ _) ?_ _) ?_ _) ?_ _) ?_ _) ?_ _
    all_goals first | exact Nat.le_refl _ | (simp only [World.size_alloc]; omega)
  clear hW0
  obtain ⟨q1, hq1⟩ : ∃ q, w.heap.size + 1 = q := ⟨_, rfl⟩
  rw [hq1] at x1 x2 x3 x4 x5 x6 x8 ⊢
  obtain ⟨q2, hq2⟩ : ∃ q, q1 + 1 = q := ⟨_, rfl⟩
  rw [hq2] at x2 x3 x4 x5 x6 x8 ⊢
  obtain ⟨q3, hq3⟩ : ∃ q, q2 + 1 = q := ⟨_, rfl⟩
  rw [hq3] at x3 x4 x5 x6 x8 ⊢
  obtain ⟨q4, hq4⟩ : ∃ q, q3 + 1 = q := ⟨_, rfl⟩
  rw [hq4] at x4 x5 x6 x8 ⊢
  obtain ⟨q5, hq5⟩ : ∃ q, q4 + 1 = q := ⟨_, rfl⟩
  rw [hq5] at x5 x6 x8 ⊢
  obtain ⟨q6, hq6⟩ : ∃ q, q5 + 1 = q := ⟨_, rfl⟩
  rw [hq6] at x6 x8 ⊢
  obtain ⟨q7, hq7⟩ : ∃ q, q6 + 1 = q := ⟨_, rfl⟩
  rw [hq7] at x8 ⊢
  obtain ⟨q8, hq8⟩ : ∃ q, q7 + 1 = q := ⟨_, rfl⟩
  rw [hq8] at x8 ⊢
  obtain ⟨q0, hq0⟩ : ∃ q, w.heap.size = q := ⟨_, rfl⟩
  rw [hq0] at x0 hq1 ⊢
  have HQ := Lib.hid (And.intro hq0 (And.intro hq1 (And.intro hq2 (And.intro hq3 (And.intro hq4 (And.intro hq5 (And.intro hq6 (And.intro hq7 (And.intro hq8 xs)))))))))
  have hX0 : Bx w n most many q0 q1 q2 q3 q6 q8 0 W0 := ⟨x0, x1, x2, ⟨_, x3⟩, x6, ⟨_, _, x8, fun h => absurd h (by simp [M.word])⟩, xb⟩
  have hG := all1_none (m - 1) q4 q5 q6 q8 n most W0 x4.1 x5.1 (by omega) (by omega) HBAD.out
  clear x0 x1 x2 x3 x4 x5 x6 x8 hq0 hq1 hq2 hq3 hq4 hq5 hq6 hq7 hq8 xs xb
  refine range_words (m := m) 50 _ rfl (enters_of Tryd.func50 (by kernel_rfl) rfl) n 0 q6 q8 (by have := HQ.out; omega) (by have := HQ.out; omega) hG
    (fun k W => Bx w n most many q0 q1 q2 q3 q6 q8 k W) (fun _ => False)
    (fun k A B h c => h.cells (by have := HQ.out; omega) c) (fun A B h c => h.elim) hX0 ?ax ?assign ?body ?done ?stop
  case assign =>
    intro l k A W K hK
    gi_wp2
    exact hK
  case body =>
    intro l k A W hk _ _
    omega
  case stop =>
    rintro D W _ h _
    exact h.elim
  case done =>
    rintro D W hD ⟨h0, h1, h2, ⟨v3, h3⟩, hk6, _, hbel⟩ hdef
    have e6 := hk6.1
    have e0 := h0.1
    have e1 := h1.1
    have e2 := h2.1
    clear hk6 h0 h1 h2
    simp only [marked]
    rcases HBAD.out with hb | ⟨hb1, hb2, hb3⟩
    all_goals
      try (have hb1 : ¬ n < 1 := by omega)
      gi_wp2_with fail
      all_goals
        refine wide_calls (lives_any W (he.below hbel)) ?_
        rintro e w9 ⟨rfl, hb9⟩
        have f3 := (h3.below hb9).2
        have k3 := (h3.below hb9).1
        have hd9 := (hb9.block D (hlt' hdef)).trans hdef
        have hdq : D ≠ q3 := by have := HQ.out; omega
        have hd10 : (w9.setCell ⟨q3, 0, none⟩ (.bool true)).heap[D]? = some (.deferred (some [])) := (Below.heap_setCell w9 ⟨q3, 0, none⟩ _ D hdq).trans hd9
        have hB10 := (below_next hbel hb9).setCell (p := ⟨q3, 0, none⟩) (by have := HQ.out; show w.heap.size ≤ q3; omega) (.bool true)
        have kx := ((h3.below hb9).set_ (.bool true))
        clear hd9 hdef hb9 e0 e1 e2 e6
        gi_wp2_with fail
        refine ⟨by simp, .inl ⟨_, _, rfl, run_takeDeferred hd10, ?_⟩⟩
        have hc5 : ((w9.setCell ⟨q3, 0, none⟩ (.bool true)).putObj D (.deferred none)).cell? ⟨q3, 0, none⟩ = some (.bool true) :=
          (World.cell?_of_block (World.putObj_heap_other (k := q3) (by omega))).trans kx.1
        have hB11 : Below w.heap.size w ((w9.setCell ⟨q3, 0, none⟩ (.bool true)).putObj D (.deferred none)) := (Cells.put (B := w.heap.size) _ hd10 rfl (by have := HQ.out; omega)).below (Nat.le_refl _) hB10
        refine ⟨.bool true, ?_, rfl, hB11⟩
        simp [results, Tryd.f32, go_sem, hc5]
end Go.Proofs.YtodjdfpealmjeaaDoor
