/-
  WordsAll at the four places where WordsKnown calls it.
-/
import Derived.Test.YtodjdfpealmjeaaDoorV5
namespace Go.Proofs.YtodjdfpealmjeaaDoor
open Go.RowKit Go.Shelf

def AllYes (w : World) (e : Ending) (w' : World) : Prop := e = .returned (.bool true) ∧ Below w.heap.size w w'

theorem word3 : (List.range 122).all (fun j => decide ((M.word 3 j).length ≤ 256) && (decide (121 ≤ j) || decide ((M.word 3 j).length ≤ 4))) = true := by decide +kernel
theorem st3 : (List.range 5).all (fun j => decide ((j : Int) ≤ 4) && decide ((M.st 3 j).1 ≤ 200) && decide (0 ≤ (M.st 3 j).1) && decide (0 ≤ (M.st 3 j).2) && decide ((M.st 3 j).2 ≤ 1000)) = true := by decide +kernel
theorem word3_short {j : Nat} (h : j < 121) : (M.word 3 j).length ≤ 4 := by
  have := List.all_eq_true.1 word3 j (by simp; omega)
  simp at this
  omega
theorem word3_next {j : Nat} (h : j < 121) : (M.word 3 (j + 1)).length ≤ 256 := by
  have := List.all_eq_true.1 word3 (j + 1) (by simp; omega)
  simp at this
  omega
theorem all_a (w : World) (he : Env w) : Calls Tryd.prog 32 #[.int .i64 3, .int .i64 4, .int .u8 199] w (AllYes w) :=
  wordsAll_in 3 4 199 121 200 5 w he (by decide) (by decide) (by decide) (by decide) (by decide) (by decide) (by decide)
    (fun j hj => by have := word3_short hj; omega) (by decide +kernel) (fun j hj _ => word3_next hj)
    (fun j hj => by
      have := List.all_eq_true.1 st3 j (by simp; omega)
      simp at this
      omega)
    (.inl (by decide)) (by decide +kernel) (by decide)

theorem word1 : ∀ k, M.word 1 k = List.replicate k 0
  | 0 => rfl
  | k + 1 => by
    rw [M.word, word1 k]
    exact M.next_max 1 k
theorem st1 : ∀ k, M.st 1 k = ((k : Int), 1)
  | 0 => rfl
  | k + 1 => by
    rw [M.st, st1 k]
    simp
    decide
theorem all_b (w : World) (he : Env w) : Calls Tryd.prog 32 #[.int .i64 1, .int .i64 256, .int .u8 100] w (AllYes w) :=
  wordsAll_in 1 256 100 257 101 201 w he (by decide) (by decide) (by decide) (by decide) (by decide) (by decide) (by decide)
    (fun j hj => by rw [word1, List.length_replicate]; omega) (by rw [word1, List.length_replicate]; decide) (fun j _ hj => by rw [word1, List.length_replicate]; omega)
    (fun j hj => by rw [st1]; refine ⟨?_, ?_, ?_, ?_, ?_⟩ <;> (try dsimp only) <;> (first | omega | decide))
    (.inr (by rw [st1]; decide)) (by rw [st1]; decide) (by decide)
theorem all_c (w : World) (he : Env w) : Calls Tryd.prog 32 #[.int .i64 17, .int .i64 3, .int .u8 5] w (AllYes w) := wordsAll_out 17 3 5 w he (.inl (by decide))
theorem all_d (w : World) (he : Env w) : Calls Tryd.prog 32 #[.int .i64 2, .int .i64 (-1), .int .u8 5] w (AllYes w) := wordsAll_out 2 (-1) 5 w he (.inr ⟨by decide, by decide, by decide⟩)
end Go.Proofs.YtodjdfpealmjeaaDoor
