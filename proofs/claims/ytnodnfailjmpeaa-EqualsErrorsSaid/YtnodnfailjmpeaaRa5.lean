/-
  Contracts: refines.Rounds.
-/
import Derived.Test.YtnodnfailjmpeaaRa4
namespace Go.Proofs.Ytnodnfailjmpeaa
open Go.RowKit
open Mc (Ed Ma)
attribute [local go_sem] Oper.semAt_some

namespace Mc
/-- What Rounds gives: the list and the error. -/
noncomputable def rdE (m : Ma) (k : Int) : Int := if chk m = 0 then (if k < 0 then 1 else 0) else chk m
noncomputable def rdV (m : Ma) (k : Int) : List Int := if chk m = 0 then (if k < 0 then [] else rnd m k.toNat) else []
end Mc

/-- Where the loop over partitions keeps the last one. -/
def LastP (D : Nat → Prop) (r n j : Nat) (m : Ma) (W : World) : Prop := ∃ v, Box W r v ∧ (j = 0 ∨ ∃ b, v = .slice (some ⟨b, 0, none⟩) n n ∧ OwnL D W b (Mc.rnd m (j - 1)))
theorem Cells.kc {D : Nat → Prop} {B : Nat} {W W' : World} (h : Cells B W W') : KC D W W' := KC.of_cells h
theorem LastP.cells {D : Nat → Prop} {r n j B : Nat} {m : Ma} {W W' : World} (h : LastP D r n j m W) (k : Cells B W W') : LastP D r n j m W' := by
  obtain ⟨v, hb, h⟩ := h
  refine ⟨v, hb.cells k, ?_⟩
  rcases h with h | ⟨b, e, h⟩
  · exact .inl h
  · exact .inr ⟨b, e, h.keep (KC.of_cells k)⟩

end Go.Proofs.Ytnodnfailjmpeaa
