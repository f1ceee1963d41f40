/-
  Several texts in one: SWk1, SWk2, SWk3, SWkA, SWk4. No statement is proved here.
-/
import Derived.Test.YtcbmohcjmofomaaScA
import Derived.Test.YtcbmohcjmofomaaBaZ
import Derived.Deep.CutRange
import Derived.Test.YtcbmohcjmofomaaScB
import Derived.Test.YtcbmohcjmofomaaSMc9
import Derived.Test.YtcbmohcjmofomaaWkZ
import Derived.Deep.LoopGhost
import Derived.BigQuiet
import Derived.StillTailTactics
namespace Go.Proofs.Ytcbmohcjmofomaa
open Go.RowKit

end Go.Proofs.Ytcbmohcjmofomaa

namespace Go.Proofs.Ytcbmohcjmofomaa
open Go.RowKit
open Mc (Ed Ma)

/-- A word of the call's own. -/
abbrev OwI (w : World) (base : Nat) (v : Value) (x : List Int) : Prop := w.ownsRow base 3 1 v x.length (ints x)
theorem OwI.away {w : World} {base : Nat} {v : Value} {x : List Int} (h : OwI w base v x) {G k : Nat} (u : Value) (hG : G < base) : OwI (w.setCell ⟨G, k, none⟩ u) base v x :=
  h.kept (grown_setCell w ⟨G, k, none⟩ u) (by
    cases hv : v.ownBlock with
    | none => exact Or.inl rfl
    | some j => exact Or.inr fun e => by injection e with e; have := (h.lt j hv).1; simp at e; omega)
theorem OwI.nil_ (w : World) (base : Nat) : OwI w base (.slice none 0 0) [] := World.ownsRow_nil _ _ _ _
/-- Block g holds the words l, each in memory from base on. -/
def Ws (w : World) (g base : Nat) (l : List (List Int)) : Prop := ∃ vs : List Value, w.heap[g]? = some (.cells vs.toArray 30 (0, 0)) ∧ vs.length = l.length ∧ ∀ (k : Nat) (x : List Int), l[k]? = some x → ∃ v, vs[k]? = some v ∧ OwI w base v x
section
variable {w w' : World} {g base : Nat} {l : List (List Int)}
theorem Ws.lt (h : Ws w g base l) : g < w.heap.size := by
  obtain ⟨vs, h1, _⟩ := h
  exact (Array.getElem?_eq_some_iff.1 h1).1
theorem Ws.below (h : Ws w g base l) (hb : Below w.heap.size w w') : Ws w' g base l := by
  have hl := h.lt
  obtain ⟨vs, h1, h2, h3⟩ := h
  refine ⟨vs, (hb.block g hl).trans h1, h2, fun k x hk => ?_⟩
  obtain ⟨v, h4, h5⟩ := h3 k x hk
  exact ⟨v, h4, own_below h5 hb⟩
theorem Ws.away (h : Ws w g base l) {G k : Nat} (u : Value) (hG : G < base) (hne : G ≠ g) : Ws (w.setCell ⟨G, k, none⟩ u) g base l := by
  obtain ⟨vs, h1, h2, h3⟩ := h
  refine ⟨vs, (Below.heap_setCell w ⟨G, k, none⟩ u g (fun e => hne e.symm)).trans h1, h2, fun j x hk => ?_⟩
  obtain ⟨v, h4, h5⟩ := h3 j x hk
  exact ⟨v, h4, h5.away u hG⟩
theorem Ws.set_ (h : Ws w g base l) {t : Nat} {v : Value} {x : List Int} (hx : OwI w base v x) (hg : g < base) (ht : t < l.length) : Ws (w.setCell ⟨g, t, none⟩ v) g base (l.set t x) := by
  obtain ⟨vs, h1, h2, h3⟩ := h
  refine ⟨vs.set t v, by simp [World.setCell, Array.getElem?_modify, h1], by simp [h2], fun j y hk => ?_⟩
  by_cases e : t = j
  · subst e
    rw [List.getElem?_set_self ht] at hk
    injection hk with hk
    subst hk
    exact ⟨v, by rw [List.getElem?_set_self (by omega)], hx.away v hg⟩
  · rw [List.getElem?_set_ne e] at hk
    obtain ⟨u, h4, h5⟩ := h3 j y hk
    exact ⟨u, by rw [List.getElem?_set_ne e]; exact h4, h5.away v hg⟩
theorem Ws.lower {b' : Nat} (h : Ws w g base l) (hb : b' ≤ base) : Ws w g b' l := by
  obtain ⟨vs, h1, h2, h3⟩ := h
  refine ⟨vs, h1, h2, fun j x hk => ?_⟩
  obtain ⟨v, h4, h5⟩ := h3 j x hk
  exact ⟨v, h4, own_base h5 hb⟩
theorem Ws.frozen (h : Ws w g base l) (k : Nat) : w.frozen? ⟨g, k, none⟩ = false := by
  obtain ⟨vs, h1, _⟩ := h
  simp [World.frozen?, h1]
theorem Ws.cell (h : Ws w g base l) {k : Nat} (hk : k < l.length) : ∃ v, w.cell? ⟨g, k, none⟩ = some v ∧ Hid (∃ x, l[k]? = some x ∧ OwI w base v x) := by
  obtain ⟨vs, h1, h2, h3⟩ := h
  obtain ⟨v, h4, h5⟩ := h3 k _ (List.getElem?_eq_getElem hk)
  refine ⟨v, ?_, _, List.getElem?_eq_getElem hk, h5⟩
  rw [cell_of_row w g k _ 30 (0, 0) h1]
  simpa using h4
theorem BlkB.away {cs : List Bool} (h : BlkB w g cs) {G k : Nat} (u : Value) (hne : G ≠ g) : BlkB (w.setCell ⟨G, k, none⟩ u) g cs :=
  (Below.heap_setCell w ⟨G, k, none⟩ u g (fun e => hne e.symm)).trans h
end
end Go.Proofs.Ytcbmohcjmofomaa

namespace Go.Proofs.Ytcbmohcjmofomaa
open Go.RowKit
open Mc (Ed Ma)

end Go.Proofs.Ytcbmohcjmofomaa

namespace Go.Proofs.Ytcbmohcjmofomaa
open Go.RowKit

end Go.Proofs.Ytcbmohcjmofomaa

namespace Go.Proofs.Ytcbmohcjmofomaa
open Go.RowKit
open Mc (Ed Ma)

/-- A world in which nothing below wr's heap has changed. -/
structure BW (wr : World) where
  out : World
  ok : Below wr.heap.size wr out
instance (wr : World) : Nonempty (BW wr) := ⟨⟨wr, Below.refl _ _⟩⟩
end Go.Proofs.Ytcbmohcjmofomaa
