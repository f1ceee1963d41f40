/-
  What a walk of a law knows on its way; the law's own edge, list and machine. No statement is proved here.
-/
import Derived.Test.YtgafpmgdpigliaaWiZ
import Derived.Test.YtgafpmgdpigliaaMcT
namespace Go.Proofs.Ytgafpmgdpigliaa
open Go.RowKit
open Mc (Ed Ma)


/-! ### The law's own edge, list and machine -/
theorem rmsame_at (a b : Ma) (i o i' o' : Int) (A B : Option Addr) (n c k d : Nat) (w : World) (hi : a.i = i) (ho : a.o = o) (hi' : b.i = i') (ho' : b.o = o') (hn : a.r.length = n) (hk : b.r.length = k) (ha : RdR w A a.r) (hb : RdR w B b.r) (hl : n ≤ 1000000) (hl2 : ∀ row ∈ a.r, row.length ≤ 1000000) :
    Calls Try.prog 49 #[.agg #[.int .i64 i, .int .i64 o, .slice A n c], .agg #[.int .i64 i', .int .i64 o', .slice B k d]] w fun e w' => e = .returned (.bool (decide (a = b))) ∧ Below w.heap.size w w' := by
  subst hi ho hi' ho' hn hk
  exact rmsame_any a b A B c d w ha hb hl hl2
theorem rmsame_yes (a : Ma) (i o : Int) (A B : Option Addr) (n c d : Nat) (w : World) (hi : a.i = i) (ho : a.o = o) (hn : a.r.length = n) (ha : RdR w A a.r) (hb : RdR w B a.r) (hl : n ≤ 1000000) (hl2 : ∀ row ∈ a.r, row.length ≤ 1000000) :
    Calls Try.prog 49 #[.agg #[.int .i64 i, .int .i64 o, .slice A n c], .agg #[.int .i64 i, .int .i64 o, .slice B n d]] w fun e w' => e = .returned (.bool true) ∧ Below w.heap.size w w' := by
  have := rmsame_at a a i o i o A B n c n d w hi ho hi ho hn hn ha hb hl hl2
  rwa [show decide (a = a) = true by simp] at this

/-- Rows without spare room, in blocks of their own. -/
def Ex (W : World) (p k : Nat) (rs : List (List Ed)) : Prop := ∃ (gs : List Nat), gs.length = k ∧ rs.length = k ∧ k ≤ 1000000 ∧ (∀ row ∈ rs, row.length ≤ 1000000) ∧ Wb 0 p k rs gs W
theorem Ex.below {W W' : World} {p k : Nat} {rs : List (List Ed)} (h : Ex W p k rs) (b : Below W.heap.size W W') : Ex W' p k rs := by
  obtain ⟨gs, h1, h2, h3, h4, h5⟩ := h
  exact ⟨gs, h1, h2, h3, h4, h5.below b⟩
theorem Ex.kept (p k : Nat) (rs : List (List Ed)) : Kept (fun w => Ex w p k rs) := fun _ _ h b => h.below b
theorem Ex.rd {W : World} {p k : Nat} {rs : List (List Ed)} (h : Ex W p k rs) : RdR W (some ⟨p, 0, none⟩) rs := by
  obtain ⟨gs, h1, h2, h3, h4, h5⟩ := h
  exact h5.rd h1 h2.symm h3 h4
theorem Ex.at_ {W : World} {p k : Nat} {rs : List (List Ed)} (h : Ex W p k rs) {j : Nat} (hj : j < k) : ∃ A n, W.cell? ⟨p, j, none⟩ = some (.slice A n n) := by
  obtain ⟨gs, h1, h2, h3, h4, h5⟩ := h
  obtain ⟨g, hg⟩ : ∃ g, gs[j]? = some g := ⟨_, List.getElem?_eq_getElem (by omega)⟩
  obtain ⟨row, hr⟩ : ∃ row, rs[j]? = some row := ⟨_, List.getElem?_eq_getElem (by omega)⟩
  exact ⟨_, _, h5.at_ hg hr (by omega)⟩

end Go.Proofs.Ytgafpmgdpigliaa
