/-
  What the rows' last steps share: lists of ints and of words that came in. No statement is proved here.
-/
import Derived.Test.YtjodhihcckcefaaW8
import Derived.Test.YtjodhihcckcefaaRows
import Derived.ProofKit
import Derived.OpenShut
import Derived.ChangeOld
import Derived.ChangeSame
import Derived.Lib.SmallJoins
import Derived.Deep.DeepHandedRow
import Derived.Lay
import Derived.Deep.Slices
namespace Go.Proofs.Ytjodhihcckcefaa
open Go.ChangeShapes Go.WideShapes Go.ChangeAt Go.RowKit
set_option maxRecDepth 100000

theorem own : ownKnob Try.prog.godebug = none := by kernel_rfl
theorem laidOut : laidOutB Try.prog = true := by kernel_rfl
theorem lt_of_cell {w : World} {b o : Nat} {v : Value} (h : w.cell? ⟨b, o, none⟩ = some v) : b < w.heap.size := by
  rcases Nat.lt_or_ge b w.heap.size with h1 | h1
  · exact h1
  · simp [World.cell?, Array.getElem?_eq_none h1] at h

section
variable {H : Type} {enc : TypeId × Value → H} {W : World}
theorem spot_none {w : World} {x : Addr} {v : Value} (h : w.cell? (x.add 0) = some v) : ∃ b off, x = ⟨b, off, none⟩ ∧ b < w.heap.size := by
  rw [Addr.add_zero'] at h
  obtain ⟨b, off, spot⟩ := x
  have hspot : spot = none := World.cell?_spot h
  subst hspot
  exact ⟨b, off, rfl, lt_of_cell h⟩
/-- A list of ints that came in. -/
theorem rd_of_cells {x : Addr} {len : Nat} {zs : List Int} (hl : len ≤ zs.length) (hcell : ∀ i, i < zs.length → W.cell? (x.add i) = some (.int .i64 (zs.getD i 0))) : ∃ ys : List Int, ys.length = len ∧ Rd W (some x) ys := by
  refine ⟨zs.take len, by rw [List.length_take]; omega, fun hp => ?_⟩
  rw [List.length_take] at hp
  obtain ⟨b, off, rfl, hb⟩ := spot_none (hcell 0 (by omega))
  refine ⟨b, off, rfl, hb, fun k hk => ?_⟩
  rw [List.length_take] at hk
  have := hcell k (by omega)
  rw [Addr.add_lit] at this
  rw [this, List.getElem?_take, if_pos (by omega), List.getElem?_eq_getElem (show k < zs.length by omega)]
  simp [List.getD, List.getElem?_eq_getElem (show k < zs.length by omega)]
theorem open_L {v : Value} {d : DataW H} {p : List MemPlace} {base : Nat} (hv : Value.okWide Try.prog W .any base 23 v) (h : DataW.Trod enc Try.prog W 0 (fun _ => true) true 23 v d p) :
    ∃ a cap ys, v = .slice a (List.length ys) cap ∧ Rd W a ys ∧ ys.length ≤ cap ∧ cap ≤ maxLen ∧ (a = none → cap = 0) := by
  obtain ⟨fuel, h1⟩ := h
  have hs : v.cells.toList = [v] := by
    obtain ⟨a, len, cap, rfl⟩ := okWide_slice Try.underlying23 hv
    rfl
  rw [hs] at h1
  rcases open_ints Try.underlying23 Try.underlying3 (by kernel_rfl) h1 with ⟨hcs, _⟩ | ⟨x, l, c, zs, hcs, _, hl, hm, hz, _, hcell, _⟩
  · simp at hcs
    subst hcs
    exact ⟨none, 0, [], rfl, Rd.nil_, by simp, Nat.zero_le _, fun _ => rfl⟩
  · simp at hcs
    subst hcs
    obtain ⟨ys, h2, h3⟩ := rd_of_cells (zs := zs) (len := l) (by simp at hz; omega) hcell
    subst h2
    exact ⟨_, _, ys, rfl, h3, hl, hm, fun e => by cases e⟩

theorem trod_LI {n : Nat} {v : Value} {y : DataW H × List MemPlace} (h1 : DataW.trod enc Try.prog W 0 (fun _ => true) true n 23 [v] = some y) : ∃ (a : Option Addr) (cap : Nat) (ys : List Int), v = .slice a ys.length cap ∧ Rd W a ys := by
  rcases open_ints Try.underlying23 Try.underlying3 (by kernel_rfl) h1 with ⟨hcs, _⟩ | ⟨x, l, c, zs, hcs, _, hl, hm, hz, _, hcell, _⟩
  · simp at hcs
    subst hcs
    exact ⟨none, 0, [], rfl, Rd.nil_⟩
  · simp at hcs
    subst hcs
    obtain ⟨ys, h2, h3⟩ := rd_of_cells (zs := zs) (len := l) (by simp at hz; omega) hcell
    subst h2
    exact ⟨_, _, ys, rfl, h3⟩
theorem cellsLI : Try.prog.cellsOf 23 = 1 := by kernel_rfl
/-- A list of words that came in. -/
theorem open_LL {v : Value} {d : DataW H} {p : List MemPlace} {base : Nat} (hv : Value.okWide Try.prog W .any base 22 v) (h : DataW.Trod enc Try.prog W 0 (fun _ => true) true 22 v d p) :
    ∃ (A : Option Addr) (c : Nat) (rows : List (List Int)), v = .slice A rows.length c ∧ RdS W A rows ∧ rows.length ≤ 9223372036854775807 := by
  obtain ⟨fuel, h1⟩ := h
  have hs : v.cells.toList = [v] := by
    obtain ⟨a, len, cap, rfl⟩ := okWide_slice Try.underlying22 hv
    rfl
  rw [hs] at h1
  rcases Go.Deep.open_slice1 Try.underlying22 cellsLI h1 with ⟨hcs, _⟩ | ⟨x, l, c, m, q, V, D, Pl, hcs, _, hl, hm, hmm, _, hx⟩
  · simp at hcs
    subst hcs
    exact ⟨none, 0, [], rfl, fun hp => absurd hp (by simp), by simp⟩
  · simp at hcs
    subst hcs
    simp only [if_true] at hmm
    subst hmm
    have each : ∀ i, i < l → ∃ p : List Int, ∃ B k, W.cell? (x.add i) = some (.slice B p.length k) ∧ Rd W B p := fun i hi => by
      obtain ⟨h1, h2⟩ := hx i (by omega)
      obtain ⟨A, k, row, e, h3⟩ := trod_LI h2
      exact ⟨row, A, k, by rw [h1, e], h3⟩
    obtain ⟨f, hf⟩ := Go.Deep.choose_lt each
    have hlen : ((List.range l).map f).length = l := by simp
    refine ⟨some x, m, (List.range l).map f, by rw [hlen], fun hp => ?_, ?_⟩
    · rw [hlen] at hp
      obtain ⟨_, _, h1, _⟩ := hf 0 hp
      obtain ⟨b, off, rfl, hb⟩ := spot_none h1
      refine ⟨b, off, rfl, hb, fun k hk => ?_⟩
      rw [hlen] at hk
      have hrow : M.row ((List.range l).map f) k = f k := by
        unfold M.row
        simp [hk]
      obtain ⟨B, c, h1, h2⟩ := hf k hk
      rw [Addr.add_lit] at h1
      rw [hrow]
      exact ⟨B, c, h1, h2⟩
    · rw [hlen]
      unfold maxLen at hm
      omega
end
end Go.Proofs.Ytjodhihcckcefaa
