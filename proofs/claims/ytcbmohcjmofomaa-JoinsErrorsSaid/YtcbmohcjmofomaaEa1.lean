/-
  Contract: the program's walk over pairs, and its iterator. No statement is proved here.
-/
import Derived.Test.YtcbmohcjmofomaaEa0
import Derived.Test.YtcbmohcjmofomaaSMdZ
import Derived.Test.YtcbmohcjmofomaaMcT
import Derived.BigQuiet
import Derived.Deep.RegionHeld3
namespace Go.Proofs.Ytcbmohcjmofomaa
open Go.RowKit
open Mc (Ed Ma Wv)

theorem bfG_atE {m : Ma} {Q : List Wv} {p f : Nat} {x : Wv} (h : Q[p]? = some x) : Mc.bfG m (f + 1) p Q = Mc.bfG m f (p + 1) (Mc.bfR m x m.i.toNat Q) := by
  rw [Mc.bfG, h]
theorem bfG_endE {m : Ma} {Q : List Wv} (f : Nat) : Mc.bfG m f Q.length Q = Q := by
  cases f with
  | zero => rfl
  | succ f => rw [Mc.bfG, List.getElem?_eq_none (Nat.le_refl _)]
end Go.Proofs.Ytcbmohcjmofomaa
