/-
  Contract: Same. No statement is proved here.
-/
import Derived.Test.YtgafpmgdpigliaaSMdZ
import Derived.Test.YtgafpmgdpigliaaRfZ
namespace Go.Proofs.Ytgafpmgdpigliaa
open Go.RowKit
open Mc (Ed Ma Pe)
attribute [local go_sem] Oper.semAt_some

namespace Mc
/-- The first k edges stand in other rows, too. -/
def Eqs (rs qs : List (List Ed)) (k : Nat) : Prop := ∀ p ∈ (pl 0 rs).take k, ∃ row, qs[p.1]? = some row ∧ row[p.2.1]? = some p.2.2
theorem Eqs.start (rs qs : List (List Ed)) : Eqs rs qs 0 := fun p h => by simp at h
theorem Eqs.done {rs qs : List (List Ed)} {i : Int} (h : Eqs rs qs (pl 0 rs).length) (hl : rs.length = qs.length) (h1 : ∀ row ∈ rs, (row.length : Int) = i) (h2 : ∀ row ∈ qs, (row.length : Int) = i) : rs = qs := by
  apply List.ext_getElem hl
  intro s hs1 hs2
  have e1 := h1 rs[s] (List.getElem_mem hs1)
  have e2 := h2 qs[s] (List.getElem_mem hs2)
  apply List.ext_getElem (by omega)
  intro j hj1 hj2
  have hp := pl_at (List.getElem?_eq_getElem hs1) (List.getElem?_eq_getElem hj1)
  obtain ⟨row, h3, h4⟩ := h _ (by rw [List.take_length]; exact List.mem_of_getElem? hp)
  simp only at h3 h4
  rw [List.getElem?_eq_getElem hs2] at h3
  injection h3 with h3
  subst h3
  rw [List.getElem?_eq_getElem hj2] at h4
  injection h4 with h4
  exact h4.symm
end Mc

/-- Two machines in boxes, a result in another one. -/
structure Sm (w : World) (g h r : Nat) (i o : Int) (A : Option Addr) (n c : Nat) (i' o' : Int) (B : Option Addr) (k d : Nat) (v : Value) (W : World) : Prop where
  fr : Fr1 w g r i o A n c v W
  bb : BxM W h i' o' B k d
  h0 : w.heap.size ≤ h
  ne : h ≠ r
section
variable {w W W' : World} {g h r : Nat} {i o i' o' : Int} {A B : Option Addr} {n c k d : Nat} {v : Value}
theorem Sm.cells {b : Nat} (x : Sm w g h r i o A n c i' o' B k d v W) (kk : Cells b W W') (hB : w.heap.size ≤ b) : Sm w g h r i o A n c i' o' B k d v W' :=
  ⟨x.fr.cells kk hB, x.bb.mvC kk, x.h0, x.ne⟩
theorem Sm.below (x : Sm w g h r i o A n c i' o' B k d v W) (kk : Below W.heap.size W W') : Sm w g h r i o A n c i' o' B k d v W' := x.cells (Cells.of_below' kk) x.fr.bel.size
theorem Sm.shut (x : Sm w g h r i o A n c i' o' B k d v W) {N : Nat} (hN : W.heap[N]? = some (.deferred (some []))) (hw : w.heap.size ≤ N) : Sm w g h r i o A n c i' o' B k d v (W.putObj N (.deferred none)) :=
  x.cells (b := w.heap.size) (Cells.put _ hN rfl hw) (Nat.le_refl _)
theorem Sm.put (x : Sm w g h r i o A n c i' o' B k d v W) (u : Value) : Sm w g h r i o A n c i' o' B k d u (W.setCell ⟨r, 0, none⟩ u) :=
  ⟨x.fr.put u, x.bb.farS x.ne u, x.h0, x.ne⟩
end

end Go.Proofs.Ytgafpmgdpigliaa
