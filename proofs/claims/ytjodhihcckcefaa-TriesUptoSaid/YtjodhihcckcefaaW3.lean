/-
  Contracts of functions that build lists: times, Of, the reference's Join.
-/
import Derived.Test.YtjodhihcckcefaaW1
import Derived.Maps.AppendAt
import Derived.RegionTactic
namespace Go.Proofs.Ytjodhihcckcefaa
open Go.RowKit

theorem int_info : (Try.prog.info? 3).map (fun i => (i.zero, i.size, i.bytes)) = some (some (.int .i64 0), 1, 8) := by kernel_rfl

/-- What a function that builds a list hands back. -/
def Built (w : World) (zs : List Int) (e : Ending) (w' : World) : Prop := ∃ A c, e = .returned (.slice A zs.length c) ∧ Rd w' A zs ∧ zs.length ≤ c ∧ Below w.heap.size w w'

theorem Built.of_own {w w' : World} {v : Value} {base n : Nat} {zs : List Int} (h : w'.ownsRow base 3 1 v n (ints zs)) (hb : Below w.heap.size w w') : Built w zs (.returned v) w' := by
  have hn : zs.length = n := by have := h.1; rw [ints_len] at this; omega
  subst hn
  rcases h.2 with ⟨rfl, h0⟩ | ⟨g, cap, cur, rfl, _, _, hc, _⟩
  · exact ⟨none, 0, by rw [h0], fun hp => absurd hp (by omega), by omega, hb⟩
  · exact ⟨_, _, rfl, Rd.of_own h, hc, hb⟩

theorem own_step {w wr w1 : World} {B : Nat} {v v1 : Value} {k : Nat} {xs : List Int} {z : Int} {o : Obj} (hbr : Below B w wr) (hB : B ≤ wr.heap.size) (hown : wr.ownsRow B 3 1 v k (ints xs))
    (h1 : w1.ownsRow B 3 1 v1 (k + 1) (ints xs ++ [.int .i64 z])) (hg : (wr.alloc o).grownBy w1 v.ownBlock) :
    w1.ownsRow B 3 1 v1 (k + 1) (ints (xs ++ [z])) ∧ Below B w w1 :=
  ⟨by rw [← ints_snoc]; exact h1, (hbr.alloc hB o).grown hg (by simp; omega) (fun j hj => (hown.lt j hj).1)⟩

end Go.Proofs.Ytjodhihcckcefaa
