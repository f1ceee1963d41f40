/-
  Contracts: equals.check, arrival.word. No statement is proved here.
-/
import Derived.Test.YtcbmohcjmofomaaEa1
import Derived.Test.YtcbmohcjmofomaaSwZ
import Derived.Test.YtcbmohcjmofomaaRgZ
namespace Go.Proofs.Ytcbmohcjmofomaa
open Go.RowKit
open Mc (Ed Ma Wv)

/-- From round j on x is 0. -/
def Zk (j k : Nat) (x : Int) : Prop := j ≤ k → x = 0
theorem ArR.cells {B : Nat → Prop} {w : World} : ∀ {r : List Int} {g : Nat}, ArR B w r g → ∃ p i, w.cell? ⟨g, 2, none⟩ = some (.pointer p) ∧ w.cell? ⟨g, 3, none⟩ = some (.int .i64 i) ∧ w.cell? ⟨g, 4, none⟩ = some (.int .i64 (r.length : Nat)) ∧ B g ∧ g < w.heap.size ∧
    ((r = [] ∧ p = none) ∨ ∃ c r' g', r = c :: r' ∧ p = some ⟨g', 0, none⟩ ∧ i = c ∧ ArR B w r' g')
  | [], g, ⟨hb, s, t, i, h⟩ => by
    obtain ⟨_, _, h2, h3, h4⟩ := h.cells
    exact ⟨none, i, h2, h3, h4, hb, h.lt, Or.inl ⟨rfl, rfl⟩⟩
  | c :: r, g, ⟨hb, s, t, g', h, hr⟩ => by
    obtain ⟨_, _, h2, h3, h4⟩ := h.cells
    exact ⟨_, c, h2, h3, by simpa using h4, hb, h.lt, Or.inr ⟨c, r, g', rfl, rfl, rfl, hr⟩⟩
theorem ArR.set_ {w : World} {h k : Nat} {v : Value} {r : List Int} {g : Nat} (ha : ArR (fun b => b ≠ h) w r g) : ArR (fun b => b ≠ h) (w.setCell ⟨h, k, none⟩ v) r g :=
  ArR.mono (fun _ h => h) (fun b _ hb ho => (Below.heap_setCell w ⟨h, k, none⟩ v b hb).trans ho) r g ha
end Go.Proofs.Ytcbmohcjmofomaa
