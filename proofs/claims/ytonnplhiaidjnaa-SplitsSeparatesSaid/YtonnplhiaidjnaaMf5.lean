/-
  What came in: two words as plain data, three small numbers. No statement is proved here.
-/
import Derived.Test.YtonnplhiaidjnaaMfZ
namespace Go.Proofs.Ytonnplhiaidjnaa
open Go.ChangeShapes Go.WideShapes Go.ChangeAt Go.RowKit

theorem open_Wc {H : Type} {enc : TypeId × Value → H} {W : World} {c0 : Value} {y : DataW H × List MemPlace} {m : Nat} (hf : DataW.trod enc Try.prog W 0 (fun _ => true) true m 45 [c0] = some y) :
    ∃ a cap ys, c0 = .slice a ys.length cap ∧ Rd8 W a ys ∧ ys.length ≤ 9223372036854775807 := by
  obtain ⟨y0, n, _, _, h0⟩ := trod_struct1 Try.underlying45 hf
  have h1 : DataW.trod enc Try.prog W 0 (fun _ => true) true n 43 [c0] = some y0 := by
    have := h0
    simp only [cellsL8] at this
    simpa [Value.cells] using this
  rcases open_ints Try.underlying43 Try.underlying5 (by kernel_rfl) h1 with ⟨hcs, _⟩ | ⟨x, l, c, zs, hcs, _, hl, hm, hz, _, hcell, hwz⟩
  · simp at hcs
    subst hcs
    exact ⟨none, 0, [], rfl, Rd8.nil_, by simp⟩
  · simp at hcs
    subst hcs
    obtain ⟨ys, h2, h3⟩ := rd8_of_cells (zs := zs) (len := l) (by simp at hz; omega) hcell hwz
    subst h2
    refine ⟨_, _, ys, rfl, h3, ?_⟩
    unfold maxLen at hm
    omega
theorem cellsWW : Try.prog.cellsOf 69 = 2 := by kernel_rfl
set_option maxRecDepth 100000 in
/-- Two words as plain data that came in. -/
theorem open_WW {H : Type} {enc : TypeId × Value → H} {W : World} {v : Value} {d : DataW H} {p : List MemPlace} {base : Nat} (hv : Value.okWide Try.prog W .any base 69 v)
    (h : DataW.Trod enc Try.prog W 0 (fun _ => true) true 69 v d p) :
    ∃ a1 c1 y1 a2 c2 y2, v = .agg #[.slice a1 (List.length y1) c1, .slice a2 (List.length y2) c2] ∧ Rd8 W a1 y1 ∧ Rd8 W a2 y2 ∧ y1.length ≤ 9223372036854775807 ∧ y2.length ≤ 9223372036854775807 := by
  have hv' := hv
  simp only [Value.okWide, Try.underlying69] at hv'
  obtain ⟨cs, rfl, hsz, _⟩ := hv'
  obtain ⟨c0, c1, rfl⟩ := Go.Joins.array2 (hsz.trans cellsWW)
  obtain ⟨fuel, hf⟩ := h
  obtain ⟨xs, m, _, _, _, hl, hg⟩ := DataW.trod_array Try.underlying69 hf
  have g0 := hg 0 (by omega)
  have g1 := hg 1 (by omega)
  simp only [cellsW] at g0 g1
  rw [List.getElem?_eq_getElem (show 0 < xs.length by omega)] at g0
  rw [List.getElem?_eq_getElem (show 1 < xs.length by omega)] at g1
  obtain ⟨a1, k1, y1, rfl, hr1, hl1⟩ := open_Wc (c0 := c0) (by simpa [Value.cells] using g0)
  obtain ⟨a2, k2, y2, rfl, hr2, hl2⟩ := open_Wc (c0 := c1) (by simpa [Value.cells] using g1)
  exact ⟨a1, k1, y1, a2, k2, y2, rfl, hr1, hr2, hl1, hl2⟩
theorem cellsP83 : Try.prog.cellsOf 70 = 3 := by kernel_rfl
theorem array_three {cs : Array Value} (h : cs.size = 3) : ∃ a b c, cs = #[a, b, c] := by
  obtain ⟨l⟩ := cs
  match l, h with
  | [a, b, c], _ => exact ⟨a, b, c, rfl⟩
set_option maxRecDepth 100000 in
/-- Three small numbers that came in. -/
theorem open_P83 {H : Type} {enc : TypeId × Value → H} {W : World} {v : Value} {d : DataW H} {p : List MemPlace} {base : Nat} (hv : Value.okWide Try.prog W .any base 70 v) (h : DataW.Trod enc Try.prog W 0 (fun _ => true) true 70 v d p) :
    ∃ a b c, v = .agg #[.int .u8 a, .int .u8 b, .int .u8 c] ∧ (0 ≤ a ∧ a ≤ 255) ∧ (0 ≤ b ∧ b ≤ 255) ∧ (0 ≤ c ∧ c ≤ 255) := by
  simp only [Value.okWide, Try.underlying70] at hv
  obtain ⟨cs, rfl, hsz, _⟩ := hv
  obtain ⟨c0, c1, c2, rfl⟩ := array_three (hsz.trans cellsP83)
  obtain ⟨fuel, hf⟩ := h
  obtain ⟨xs, m, _, _, _, hl, hg⟩ := DataW.trod_array Try.underlying70 hf
  have g0 := hg 0 (by omega)
  have g1 := hg 1 (by omega)
  have g2 := hg 2 (by omega)
  simp only [cells8] at g0 g1 g2
  rw [List.getElem?_eq_getElem (show 0 < xs.length by omega)] at g0
  rw [List.getElem?_eq_getElem (show 1 < xs.length by omega)] at g1
  rw [List.getElem?_eq_getElem (show 2 < xs.length by omega)] at g2
  replace g0 : DataW.trod enc Try.prog W 0 (fun _ => true) true m 5 [c0] = some xs[0] := by simpa [Value.cells] using g0
  replace g1 : DataW.trod enc Try.prog W 0 (fun _ => true) true m 5 [c1] = some xs[1] := by simpa [Value.cells] using g1
  replace g2 : DataW.trod enc Try.prog W 0 (fun _ => true) true m 5 [c2] = some xs[2] := by simpa [Value.cells] using g2
  obtain ⟨a, e0, _, b0⟩ := DataW.trod_int Try.underlying5 g0
  obtain ⟨b, e1, _, b1⟩ := DataW.trod_int Try.underlying5 g1
  obtain ⟨c, e2, _, b2⟩ := DataW.trod_int Try.underlying5 g2
  simp at e0 e1 e2
  subst e0 e1 e2
  exact ⟨a, b, c, rfl, bounds_u8 b0, bounds_u8 b1, bounds_u8 b2⟩
end Go.Proofs.Ytonnplhiaidjnaa
