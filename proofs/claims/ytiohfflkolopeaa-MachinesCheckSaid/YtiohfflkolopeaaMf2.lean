/-
  What the rows' last steps share: two words as plain data that came in. No statement is proved here.
-/
import Derived.Test.YtiohfflkolopeaaMf
namespace Go.Proofs.Ytiohfflkolopeaa
open Go.ChangeShapes Go.WideShapes Go.ChangeAt Go.RowKit

theorem open_Wc {H : Type} {enc : TypeId × Value → H} {W : World} {c0 : Value} {y : DataW H × List MemPlace} {m : Nat} (hf : DataW.trod enc Try.prog W 0 (fun _ => true) true m 63 [c0] = some y) :
    ∃ a cap ys, c0 = .slice a ys.length cap ∧ Rd8 W a ys ∧ ys.length ≤ 9223372036854775807 := by
  obtain ⟨y0, n, _, _, h0⟩ := trod_struct1 Try.underlying63 hf
  have h1 : DataW.trod enc Try.prog W 0 (fun _ => true) true n 61 [c0] = some y0 := by
    have := h0
    simp only [cellsL8] at this
    simpa [Value.cells] using this
  rcases open_ints Try.underlying61 Try.underlying5 (by kernel_rfl) h1 with ⟨hcs, _⟩ | ⟨x, l, c, zs, hcs, _, hl, hm, hz, _, hcell, hwz⟩
  · simp at hcs
    subst hcs
    exact ⟨none, 0, [], rfl, Rd8.nil_, by simp⟩
  · simp at hcs
    subst hcs
    obtain ⟨ys, h2, h3⟩ := rd8_of_cells (zs := zs) (len := l) (by simp at hz; omega) hcell hwz
    subst h2
    refine ⟨_, _, ys, rfl, h3, ?_⟩
    unfold maxLen at hm
    omega
theorem cellsWW : Try.prog.cellsOf 66 = 2 := by kernel_rfl
/-- Two words as plain data that came in. -/
theorem open_WW {H : Type} {enc : TypeId × Value → H} {W : World} {v : Value} {d : DataW H} {p : List MemPlace} {base : Nat} (hv : Value.okWide Try.prog W .any base 66 v)
    (h : DataW.Trod enc Try.prog W 0 (fun _ => true) true 66 v d p) :
    ∃ a1 c1 y1 a2 c2 y2, v = .agg #[.slice a1 (List.length y1) c1, .slice a2 (List.length y2) c2] ∧ Rd8 W a1 y1 ∧ Rd8 W a2 y2 ∧ y1.length ≤ 9223372036854775807 ∧ y2.length ≤ 9223372036854775807 := by
  have hv' := hv
  simp only [Value.okWide, Try.underlying66] at hv'
  obtain ⟨cs, rfl, hsz, _⟩ := hv'
  obtain ⟨c0, c1, rfl⟩ := Go.Joins.array2 (hsz.trans cellsWW)
  obtain ⟨fuel, hf⟩ := h
  obtain ⟨xs, m, _, _, _, hl, hg⟩ := DataW.trod_array Try.underlying66 hf
  have g0 := hg 0 (by omega)
  have g1 := hg 1 (by omega)
  simp only [cellsW] at g0 g1
  rw [List.getElem?_eq_getElem (show 0 < xs.length by omega)] at g0
  rw [List.getElem?_eq_getElem (show 1 < xs.length by omega)] at g1
  obtain ⟨a1, k1, y1, rfl, hr1, hl1⟩ := open_Wc (c0 := c0) (by simpa [Value.cells] using g0)
  obtain ⟨a2, k2, y2, rfl, hr2, hl2⟩ := open_Wc (c0 := c1) (by simpa [Value.cells] using g1)
  exact ⟨a1, k1, y1, a2, k2, y2, rfl, hr1, hr2, hl1, hl2⟩
end Go.Proofs.Ytiohfflkolopeaa
