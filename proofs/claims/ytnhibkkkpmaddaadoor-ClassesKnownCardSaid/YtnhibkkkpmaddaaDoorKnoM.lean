/-
  The plain mathematics of the law ClassesKnown: the digits of a counter, how many of them are partitions. No statement is proved here.
-/
import Derived.Test.YtnhibkkkpmaddaaDoorPatM
namespace Go.Proofs.YtnhibkkkpmaddaaDoor.M

/-- The five digits of a counter. -/
def digs (k : Nat) : List Int := [(k : Int) % 5, (k : Int) / 5 % 5, (k : Int) / 25 % 5, (k : Int) / 125 % 5, (k : Int) / 625]
/-- How many counters below k have digits that are a partition. -/
def good (k : Nat) : Nat := ((List.range k).filter fun i => decide (Vd (digs i))).length
theorem good_zero : good 0 = 0 := rfl
theorem good_yes {k : Nat} (h : Vd (digs k)) : good (k + 1) = good k + 1 := by simp [good, List.range_succ, List.filter_append, h]
theorem good_no {k : Nat} (h : ¬ Vd (digs k)) : good (k + 1) = good k := by simp [good, List.range_succ, List.filter_append, h]
theorem good_le (k : Nat) : good k ≤ k := by
  have := List.length_filter_le (fun i => decide (Vd (digs i))) (List.range k)
  rw [List.length_range] at this
  exact this
set_option maxRecDepth 100000 in
theorem good_all : good 3125 = 52 := by decide +kernel
end Go.Proofs.YtnhibkkkpmaddaaDoor.M
