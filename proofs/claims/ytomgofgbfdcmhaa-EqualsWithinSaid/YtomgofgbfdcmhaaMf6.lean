/-
  What came in: lists of numbers of two bytes, two machines as plain data, a proper machine as plain data. No statement is proved here.
-/
import Derived.Test.YtomgofgbfdcmhaaMfZ
namespace Go.Proofs.Ytomgofgbfdcmhaa
open Go.ChangeShapes Go.WideShapes Go.ChangeAt Go.RowKit

set_option maxRecDepth 100000 in
theorem open_L16 {H : Type} {enc : TypeId × Value → H} {W : World} {v : Value} {d : DataW H} {p : List MemPlace} {base : Nat} (hv : Value.okWide Try.prog W .any base 22 v) (h : DataW.Trod enc Try.prog W 0 (fun _ => true) true 22 v d p) :
    ∃ a cap ys, v = .slice a (List.length ys) cap ∧ Rd16 W a ys := by
  obtain ⟨fuel, h1⟩ := h
  have hs : v.cells.toList = [v] := by
    obtain ⟨a, len, cap, rfl⟩ := okWide_slice Try.underlying22 hv
    rfl
  rw [hs] at h1
  rcases open_ints Try.underlying22 Try.underlying70 (by kernel_rfl) h1 with ⟨hcs, _⟩ | ⟨x, l, c, zs, hcs, _, hl, hm, hz, _, hcell, hwz⟩
  · simp at hcs
    subst hcs
    exact ⟨none, 0, [], rfl, Rd16.nil_⟩
  · simp at hcs
    subst hcs
    obtain ⟨ys, h2, h3⟩ := rd16_of_cells (zs := zs) (len := l) (by simp at hz; omega) hcell hwz
    subst h2
    exact ⟨_, _, ys, rfl, h3⟩
set_option maxRecDepth 100000 in
theorem open_Mc {H : Type} {enc : TypeId × Value → H} {W : World} {c0 c1 c2 c3 c4 : Value} {y : DataW H × List MemPlace} {m : Nat} (hf : DataW.trod enc Try.prog W 0 (fun _ => true) true m 24 [c0, c1, c2, c3, c4] = some y) :
    ∃ a b c q A cap ys, (c0 = .int .u8 a ∧ c1 = .int .u8 b ∧ c2 = .int .u8 c ∧ c3 = .bool q ∧ c4 = .slice A (List.length ys) cap) ∧ (0 ≤ a ∧ a ≤ 255) ∧ (0 ≤ b ∧ b ≤ 255) ∧ (0 ≤ c ∧ c ≤ 255) ∧ Rd16 W A ys ∧ ys.length ≤ 9223372036854775807 := by
  obtain ⟨y0, y1, y2, y3, y4, n, h0, h1, h2, h3, h4⟩ := trod_struct5 Try.underlying24 hf
  simp only [cells8, cellsB, cells16] at h0 h1 h2 h3 h4
  replace h0 : DataW.trod enc Try.prog W 0 (fun _ => true) true n 5 [c0] = some y0 := by simpa [Value.cells] using h0
  replace h1 : DataW.trod enc Try.prog W 0 (fun _ => true) true n 5 [c1] = some y1 := by simpa [Value.cells] using h1
  replace h2 : DataW.trod enc Try.prog W 0 (fun _ => true) true n 5 [c2] = some y2 := by simpa [Value.cells] using h2
  replace h3 : DataW.trod enc Try.prog W 0 (fun _ => true) true n 4 [c3] = some y3 := by simpa [Value.cells] using h3
  replace h4 : DataW.trod enc Try.prog W 0 (fun _ => true) true n 22 [c4] = some y4 := by simpa [Value.cells] using h4
  obtain ⟨a, e0, _, b0⟩ := DataW.trod_int Try.underlying5 h0
  obtain ⟨b, e1, _, b1⟩ := DataW.trod_int Try.underlying5 h1
  obtain ⟨c, e2, _, b2⟩ := DataW.trod_int Try.underlying5 h2
  obtain ⟨q, e3, _⟩ := DataW.trod_bool Try.underlying4 h3
  simp at e0 e1 e2 e3
  subst e0 e1 e2 e3
  have k0 := bounds_u8 b0
  have k1 := bounds_u8 b1
  have k2 := bounds_u8 b2
  rcases open_ints Try.underlying22 Try.underlying70 (by kernel_rfl) h4 with ⟨hcs, _⟩ | ⟨x, l, cp, zs, hcs, _, hl, hm, hz, _, hcell, hwz⟩
  · simp at hcs
    subst hcs
    exact ⟨a, b, c, q, none, 0, [], ⟨rfl, rfl, rfl, rfl, rfl⟩, k0, k1, k2, Rd16.nil_, by simp⟩
  · simp at hcs
    subst hcs
    obtain ⟨ys, h2, h3⟩ := rd16_of_cells (zs := zs) (len := l) (by simp at hz; omega) hcell hwz
    subst h2
    refine ⟨a, b, c, q, some x, cp, ys, ⟨rfl, rfl, rfl, rfl, rfl⟩, k0, k1, k2, h3, ?_⟩
    unfold maxLen at hm
    omega
theorem array_ten {cs : Array Value} (h : cs.size = 10) : ∃ a b c d e f g i j k, cs = #[a, b, c, d, e, f, g, i, j, k] := by
  obtain ⟨l⟩ := cs
  match l, h with
  | [a, b, c, d, e, f, g, i, j, k], _ => exact ⟨a, b, c, d, e, f, g, i, j, k, rfl⟩
end Go.Proofs.Ytomgofgbfdcmhaa
