/-
  Several texts in one: Mf6, Mf8. No statement is proved here.
-/
import Derived.Test.YtiamkkgnjobljaaMfZ
namespace Go.Proofs.Ytiamkkgnjobljaa
open Go.ChangeShapes Go.WideShapes Go.ChangeAt Go.RowKit

set_option maxRecDepth 100000 in
theorem open_L16 {H : Type} {enc : TypeId × Value → H} {W : World} {v : Value} {d : DataW H} {p : List MemPlace} {base : Nat} (hv : Value.okWide Try.prog W .any base 22 v) (h : DataW.Trod enc Try.prog W 0 (fun _ => true) true 22 v d p) :
    ∃ a cap ys, v = .slice a (List.length ys) cap ∧ Rd16 W a ys := by
  obtain ⟨fuel, h1⟩ := h
  have hs : v.cells.toList = [v] := by
    obtain ⟨a, len, cap, rfl⟩ := okWide_slice Try.underlying22 hv
    rfl
  rw [hs] at h1
  rcases open_ints Try.underlying22 Try.underlying56 (by kernel_rfl) h1 with ⟨hcs, _⟩ | ⟨x, l, c, zs, hcs, _, hl, hm, hz, _, hcell, hwz⟩
  · simp at hcs
    subst hcs
    exact ⟨none, 0, [], rfl, Rd16.nil_⟩
  · simp at hcs
    subst hcs
    obtain ⟨ys, h2, h3⟩ := rd16_of_cells (zs := zs) (len := l) (by simp at hz; omega) hcell hwz
    subst h2
    exact ⟨_, _, ys, rfl, h3⟩
set_option maxRecDepth 100000 in
theorem open_Mc {H : Type} {enc : TypeId × Value → H} {W : World} {c0 c1 c2 c3 c4 : Value} {y : DataW H × List MemPlace} {m : Nat} (hf : DataW.trod enc Try.prog W 0 (fun _ => true) true m 24 [c0, c1, c2, c3, c4] = some y) :
    ∃ a b c q A cap ys, (c0 = .int .u8 a ∧ c1 = .int .u8 b ∧ c2 = .int .u8 c ∧ c3 = .bool q ∧ c4 = .slice A (List.length ys) cap) ∧ (0 ≤ a ∧ a ≤ 255) ∧ (0 ≤ b ∧ b ≤ 255) ∧ (0 ≤ c ∧ c ≤ 255) ∧ Rd16 W A ys ∧ ys.length ≤ 9223372036854775807 := by
  obtain ⟨y0, y1, y2, y3, y4, n, h0, h1, h2, h3, h4⟩ := trod_struct5 Try.underlying24 hf
  simp only [cells8, cellsB, cells16] at h0 h1 h2 h3 h4
  replace h0 : DataW.trod enc Try.prog W 0 (fun _ => true) true n 5 [c0] = some y0 := by simpa [Value.cells] using h0
  replace h1 : DataW.trod enc Try.prog W 0 (fun _ => true) true n 5 [c1] = some y1 := by simpa [Value.cells] using h1
  replace h2 : DataW.trod enc Try.prog W 0 (fun _ => true) true n 5 [c2] = some y2 := by simpa [Value.cells] using h2
  replace h3 : DataW.trod enc Try.prog W 0 (fun _ => true) true n 4 [c3] = some y3 := by simpa [Value.cells] using h3
  replace h4 : DataW.trod enc Try.prog W 0 (fun _ => true) true n 22 [c4] = some y4 := by simpa [Value.cells] using h4
  obtain ⟨a, e0, _, b0⟩ := DataW.trod_int Try.underlying5 h0
  obtain ⟨b, e1, _, b1⟩ := DataW.trod_int Try.underlying5 h1
  obtain ⟨c, e2, _, b2⟩ := DataW.trod_int Try.underlying5 h2
  obtain ⟨q, e3, _⟩ := DataW.trod_bool Try.underlying4 h3
  simp at e0 e1 e2 e3
  subst e0 e1 e2 e3
  have k0 := bounds_u8 b0
  have k1 := bounds_u8 b1
  have k2 := bounds_u8 b2
  rcases open_ints Try.underlying22 Try.underlying56 (by kernel_rfl) h4 with ⟨hcs, _⟩ | ⟨x, l, cp, zs, hcs, _, hl, hm, hz, _, hcell, hwz⟩
  · simp at hcs
    subst hcs
    exact ⟨a, b, c, q, none, 0, [], ⟨rfl, rfl, rfl, rfl, rfl⟩, k0, k1, k2, Rd16.nil_, by simp⟩
  · simp at hcs
    subst hcs
    obtain ⟨ys, h2, h3⟩ := rd16_of_cells (zs := zs) (len := l) (by simp at hz; omega) hcell hwz
    subst h2
    refine ⟨a, b, c, q, some x, cp, ys, ⟨rfl, rfl, rfl, rfl, rfl⟩, k0, k1, k2, h3, ?_⟩
    unfold maxLen at hm
    omega
theorem array_ten {cs : Array Value} (h : cs.size = 10) : ∃ a b c d e f g i j k, cs = #[a, b, c, d, e, f, g, i, j, k] := by
  obtain ⟨l⟩ := cs
  match l, h with
  | [a, b, c, d, e, f, g, i, j, k], _ => exact ⟨a, b, c, d, e, f, g, i, j, k, rfl⟩
end Go.Proofs.Ytiamkkgnjobljaa

namespace Go.Proofs.Ytiamkkgnjobljaa
open Go.ChangeShapes Go.WideShapes Go.ChangeAt Go.RowKit
open Mc (Ed Ma)

section
variable {H : Type} {enc : TypeId × Value → H} {P : Program} {w : World} {base : Nat} {spare : Nat → Bool} {held : Bool}
theorem trod_struct6 {t : TypeId} {f0 f1 f2 f3 f4 f5 : Field} {fuel : Nat} {cs : List Value} {x : DataW H × List MemPlace} (ht : P.underlying t = some (.struct #[f0, f1, f2, f3, f4, f5])) (h : DataW.trod enc P w base spare held fuel t cs = some x) :
    ∃ y0 y1 y2 y3 y4 y5 n, DataW.trod enc P w base spare held n f0.type ((cs.drop f0.offset).take (P.cellsOf f0.type)) = some y0 ∧
      DataW.trod enc P w base spare held n f1.type ((cs.drop f1.offset).take (P.cellsOf f1.type)) = some y1 ∧ DataW.trod enc P w base spare held n f2.type ((cs.drop f2.offset).take (P.cellsOf f2.type)) = some y2 ∧
      DataW.trod enc P w base spare held n f3.type ((cs.drop f3.offset).take (P.cellsOf f3.type)) = some y3 ∧ DataW.trod enc P w base spare held n f4.type ((cs.drop f4.offset).take (P.cellsOf f4.type)) = some y4 ∧ DataW.trod enc P w base spare held n f5.type ((cs.drop f5.offset).take (P.cellsOf f5.type)) = some y5 := by
  obtain ⟨xs, n, _, rfl, hl, hlen, hf⟩ := DataW.trod_struct ht h
  match xs, hlen with
  | [y0, y1, y2, y3, y4, y5], _ => exact ⟨y0, y1, y2, y3, y4, y5, n, by simpa using hf 0 f0 rfl, by simpa using hf 1 f1 rfl, by simpa using hf 2 f2 rfl, by simpa using hf 3 f3 rfl, by simpa using hf 4 f4 rfl, by simpa using hf 5 f5 rfl⟩
end
theorem cellsD : Try.prog.cellsOf 29 = 17 := by kernel_rfl
theorem array_17 {cs : Array Value} (h : cs.size = 17) : ∃ a b c d e f g i j k l m n o p q r, cs = #[a, b, c, d, e, f, g, i, j, k, l, m, n, o, p, q, r] := by
  obtain ⟨L⟩ := cs
  match L, h with
  | [a, b, c, d, e, f, g, i, j, k, l, m, n, o, p, q, r], _ => exact ⟨a, b, c, d, e, f, g, i, j, k, l, m, n, o, p, q, r, rfl⟩
section
variable {H : Type} {enc : TypeId × Value → H} {W : World}
set_option maxRecDepth 100000 in
theorem trod_P8 {n : Nat} {c0 c1 : Value} {y : DataW H × List MemPlace} (h : DataW.trod enc Try.prog W 0 (fun _ => true) true n 25 [c0, c1] = some y) : ∃ a b, c0 = .int .u8 a ∧ c1 = .int .u8 b ∧ (0 ≤ a ∧ a ≤ 255) ∧ (0 ≤ b ∧ b ≤ 255) := by
  obtain ⟨xs, m, _, _, _, hl, hg⟩ := DataW.trod_array Try.underlying25 h
  have g0 := hg 0 (by omega)
  have g1 := hg 1 (by omega)
  simp only [cells8] at g0 g1
  rw [List.getElem?_eq_getElem (show 0 < xs.length by omega)] at g0
  rw [List.getElem?_eq_getElem (show 1 < xs.length by omega)] at g1
  replace g0 : DataW.trod enc Try.prog W 0 (fun _ => true) true m 5 [c0] = some xs[0] := by simpa using g0
  replace g1 : DataW.trod enc Try.prog W 0 (fun _ => true) true m 5 [c1] = some xs[1] := by simpa using g1
  obtain ⟨a, e0, _, b0⟩ := DataW.trod_int Try.underlying5 g0
  obtain ⟨b, e1, _, b1⟩ := DataW.trod_int Try.underlying5 g1
  simp at e0 e1
  exact ⟨a, b, e0, e1, bounds_u8 b0, bounds_u8 b1⟩
set_option maxRecDepth 100000 in
/-- Two machines as plain data of layer 10 that came in. -/
theorem open_D {v : Value} {d : DataW H} {p : List MemPlace} {base : Nat} (hv : Value.okWide Try.prog W .any base 29 v)
    (h : DataW.Trod enc Try.prog W 0 (fun _ => true) true 29 v d p) :
    ∃ a b c q A cap ys a' b' c' q' A' cap' ys' al s0 s1 p0 p1 tx ty, v = .agg #[.int .u8 a, .int .u8 b, .int .u8 c, .bool q, .slice A (List.length ys) cap, .int .u8 a', .int .u8 b', .int .u8 c', .bool q', .slice A' (List.length ys') cap', .bool al, .int .u8 s0, .int .u8 s1, .int .u8 p0, .int .u8 p1, .int .i64 tx, .int .i64 ty] ∧
      (0 ≤ a ∧ a ≤ 255) ∧ (0 ≤ b ∧ b ≤ 255) ∧ (0 ≤ c ∧ c ≤ 255) ∧ Rd16 W A ys ∧ ys.length ≤ 9223372036854775807 ∧ (0 ≤ a' ∧ a' ≤ 255) ∧ (0 ≤ b' ∧ b' ≤ 255) ∧ (0 ≤ c' ∧ c' ≤ 255) ∧ Rd16 W A' ys' ∧ ys'.length ≤ 9223372036854775807 ∧ (0 ≤ s0 ∧ s0 ≤ 255) ∧ (0 ≤ s1 ∧ s1 ≤ 255) ∧ (0 ≤ p0 ∧ p0 ≤ 255) ∧ (0 ≤ p1 ∧ p1 ≤ 255) := by
  obtain ⟨cs, rfl, hsz⟩ := okWide_struct Try.underlying29 hv
  obtain ⟨c0, c1, c2, c3, c4, c5, c6, c7, c8, c9, c10, c11, c12, c13, c14, c15, c16, rfl⟩ := array_17 (hsz.trans cellsD)
  obtain ⟨fuel, hf⟩ := h
  obtain ⟨y0, y1, y2, y3, y4, y5, n, h0, h1, h2, h3, h4, h5⟩ := trod_struct6 Try.underlying29 hf
  simp only [cellsM, cellsB, cellsP8, cellsEd] at h0 h1 h2 h3 h4 h5
  obtain ⟨a, b, c, q, A, cap, ys, ⟨rfl, rfl, rfl, rfl, rfl⟩, k1, k2, k3, k4, k5⟩ := open_Mc (c0 := c0) (c1 := c1) (c2 := c2) (c3 := c3) (c4 := c4) (by simpa [Value.cells] using h0)
  obtain ⟨a', b', c', q', A', cap', ys', ⟨rfl, rfl, rfl, rfl, rfl⟩, l1, l2, l3, l4, l5⟩ := open_Mc (c0 := c5) (c1 := c6) (c2 := c7) (c3 := c8) (c4 := c9) (by simpa [Value.cells] using h1)
  replace h2 : DataW.trod enc Try.prog W 0 (fun _ => true) true n 4 [c10] = some y2 := by simpa [Value.cells] using h2
  replace h3 : DataW.trod enc Try.prog W 0 (fun _ => true) true n 25 [c11, c12] = some y3 := by simpa [Value.cells] using h3
  replace h4 : DataW.trod enc Try.prog W 0 (fun _ => true) true n 25 [c13, c14] = some y4 := by simpa [Value.cells] using h4
  replace h5 : DataW.trod enc Try.prog W 0 (fun _ => true) true n 27 [c15, c16] = some y5 := by simpa [Value.cells] using h5
  obtain ⟨al, e2, _⟩ := DataW.trod_bool Try.underlying4 h2
  obtain ⟨s0, s1, rfl, rfl, m1, m2⟩ := trod_P8 h3
  obtain ⟨p0, p1, rfl, rfl, m3, m4⟩ := trod_P8 h4
  obtain ⟨tx, ty, e5⟩ := trod_E h5
  simp at e2 e5
  obtain ⟨rfl, rfl⟩ := e5
  subst e2
  exact ⟨a, b, c, q, A, cap, ys, a', b', c', q', A', cap', ys', al, s0, s1, p0, p1, tx, ty, rfl, k1, k2, k3, k4, k5, l1, l2, l3, l4, l5, m1, m2, m3, m4⟩
end
end Go.Proofs.Ytiamkkgnjobljaa
