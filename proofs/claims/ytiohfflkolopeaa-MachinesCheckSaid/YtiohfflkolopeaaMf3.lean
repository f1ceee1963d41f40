/-
  What the rows' last steps share: edges, places, lists of ints and machines that came in. No statement is proved here.
-/
import Derived.Test.YtiohfflkolopeaaMf2
import Derived.Deep.Slices
namespace Go.Proofs.Ytiohfflkolopeaa
open Go.ChangeShapes Go.WideShapes Go.ChangeAt Go.RowKit
open Mc (Ed Ma)

section
variable {H : Type} {enc : TypeId × Value → H} {W : World}
/-- An edge that came in. -/
theorem open_E {v : Value} {d : DataW H} {p : List MemPlace} {base : Nat} (hv : Value.okWide Try.prog W .any base 39 v) (h : DataW.Trod enc Try.prog W 0 (fun _ => true) true 39 v d p) :
    ∃ x y, v = .agg #[.int .i64 x, .int .i64 y] := by
  obtain ⟨v0, v1, y0, y1, n, rfl, _, _, h0, h1⟩ := Go.Joins.open_agg2 Try.underlying39 (by kernel_rfl) (by kernel_rfl) hv h
  obtain ⟨x, e0, _⟩ := DataW.trod_int Try.underlying3 h0
  obtain ⟨y, e1, _⟩ := DataW.trod_int Try.underlying3 h1
  simp at e0 e1
  subst e0 e1
  exact ⟨x, y, rfl⟩
theorem cellsP8 : Try.prog.cellsOf 70 = 2 := by kernel_rfl
theorem cellsI : Try.prog.cellsOf 3 = 1 := by kernel_rfl
theorem cellsPI : Try.prog.cellsOf 25 = 2 := by kernel_rfl
/-- A place that came in, of two small numbers. -/
theorem open_P8 {v : Value} {d : DataW H} {p : List MemPlace} {base : Nat} (hv : Value.okWide Try.prog W .any base 70 v) (h : DataW.Trod enc Try.prog W 0 (fun _ => true) true 70 v d p) :
    ∃ a b, v = .agg #[.int .u8 a, .int .u8 b] ∧ (0 ≤ a ∧ a ≤ 255) ∧ (0 ≤ b ∧ b ≤ 255) := by
  simp only [Value.okWide, Try.underlying70] at hv
  obtain ⟨cs, rfl, hsz, _⟩ := hv
  obtain ⟨c0, c1, rfl⟩ := Go.Joins.array2 (hsz.trans cellsP8)
  obtain ⟨fuel, hf⟩ := h
  obtain ⟨xs, m, _, _, _, hl, hg⟩ := DataW.trod_array Try.underlying70 hf
  have g0 := hg 0 (by omega)
  have g1 := hg 1 (by omega)
  simp only [cells8] at g0 g1
  rw [List.getElem?_eq_getElem (show 0 < xs.length by omega)] at g0
  rw [List.getElem?_eq_getElem (show 1 < xs.length by omega)] at g1
  replace g0 : DataW.trod enc Try.prog W 0 (fun _ => true) true m 5 [c0] = some xs[0] := by simpa [Value.cells] using g0
  replace g1 : DataW.trod enc Try.prog W 0 (fun _ => true) true m 5 [c1] = some xs[1] := by simpa [Value.cells] using g1
  obtain ⟨a, e0, _, b0⟩ := DataW.trod_int Try.underlying5 g0
  obtain ⟨b, e1, _, b1⟩ := DataW.trod_int Try.underlying5 g1
  simp at e0 e1
  subst e0 e1
  exact ⟨a, b, rfl, bounds_u8 b0, bounds_u8 b1⟩
/-- A place that came in. -/
theorem open_P2 {v : Value} {d : DataW H} {p : List MemPlace} {base : Nat} (hv : Value.okWide Try.prog W .any base 25 v) (h : DataW.Trod enc Try.prog W 0 (fun _ => true) true 25 v d p) :
    ∃ a b, v = .agg #[.int .i64 a, .int .i64 b] := by
  simp only [Value.okWide, Try.underlying25] at hv
  obtain ⟨cs, rfl, hsz, _⟩ := hv
  obtain ⟨c0, c1, rfl⟩ := Go.Joins.array2 (hsz.trans cellsPI)
  obtain ⟨fuel, hf⟩ := h
  obtain ⟨xs, m, _, _, _, hl, hg⟩ := DataW.trod_array Try.underlying25 hf
  have g0 := hg 0 (by omega)
  have g1 := hg 1 (by omega)
  simp only [cellsI] at g0 g1
  rw [List.getElem?_eq_getElem (show 0 < xs.length by omega)] at g0
  rw [List.getElem?_eq_getElem (show 1 < xs.length by omega)] at g1
  replace g0 : DataW.trod enc Try.prog W 0 (fun _ => true) true m 3 [c0] = some xs[0] := by simpa [Value.cells] using g0
  replace g1 : DataW.trod enc Try.prog W 0 (fun _ => true) true m 3 [c1] = some xs[1] := by simpa [Value.cells] using g1
  obtain ⟨a, e0, _⟩ := DataW.trod_int Try.underlying3 g0
  obtain ⟨b, e1, _⟩ := DataW.trod_int Try.underlying3 g1
  simp at e0 e1
  subst e0 e1
  exact ⟨a, b, rfl⟩
theorem spot_none {w : World} {x : Addr} {v : Value} (h : w.cell? (x.add 0) = some v) : ∃ b off, x = ⟨b, off, none⟩ ∧ b < w.heap.size := by
  rw [Addr.add_zero'] at h
  obtain ⟨b, off, spot⟩ := x
  have hspot : spot = none := World.cell?_spot h
  subst hspot
  exact ⟨b, off, rfl, lt_of_cell h⟩
/-- A list of ints that came in. -/
theorem rd_of_cells {x : Addr} {len : Nat} {zs : List Int} (hl : len ≤ zs.length) (hcell : ∀ i, i < zs.length → W.cell? (x.add i) = some (.int .i64 (zs.getD i 0))) : ∃ ys : List Int, ys.length = len ∧ Rd W (some x) ys := by
  refine ⟨zs.take len, by rw [List.length_take]; omega, fun hp => ?_⟩
  rw [List.length_take] at hp
  obtain ⟨b, off, rfl, hb⟩ := spot_none (hcell 0 (by omega))
  refine ⟨b, off, rfl, hb, fun k hk => ?_⟩
  rw [List.length_take] at hk
  have := hcell k (by omega)
  rw [Addr.add_lit] at this
  rw [this, List.getElem?_take, if_pos (by omega), List.getElem?_eq_getElem (show k < zs.length by omega)]
  simp [List.getD, List.getElem?_eq_getElem (show k < zs.length by omega)]
theorem open_L {v : Value} {d : DataW H} {p : List MemPlace} {base : Nat} (hv : Value.okWide Try.prog W .any base 26 v) (h : DataW.Trod enc Try.prog W 0 (fun _ => true) true 26 v d p) :
    ∃ a cap ys, v = .slice a (List.length ys) cap ∧ Rd W a ys ∧ ys.length ≤ cap ∧ cap ≤ maxLen ∧ (a = none → cap = 0) := by
  obtain ⟨fuel, h1⟩ := h
  have hs : v.cells.toList = [v] := by
    obtain ⟨a, len, cap, rfl⟩ := okWide_slice Try.underlying26 hv
    rfl
  rw [hs] at h1
  rcases open_ints Try.underlying26 Try.underlying3 (by kernel_rfl) h1 with ⟨hcs, _⟩ | ⟨x, l, c, zs, hcs, _, hl, hm, hz, _, hcell, _⟩
  · simp at hcs
    subst hcs
    exact ⟨none, 0, [], rfl, Rd.nil_, by simp, Nat.zero_le _, fun _ => rfl⟩
  · simp at hcs
    subst hcs
    obtain ⟨ys, h2, h3⟩ := rd_of_cells (zs := zs) (len := l) (by simp at hz; omega) hcell
    subst h2
    exact ⟨_, _, ys, rfl, h3, hl, hm, fun e => by cases e⟩

/-! ### Machines that came in -/
theorem cellsEd : Try.prog.cellsOf 39 = 2 := by kernel_rfl
theorem cellsRow : Try.prog.cellsOf 45 = 1 := by kernel_rfl
theorem trod_E {n : Nat} {cs : List Value} {y : DataW H × List MemPlace} (h : DataW.trod enc Try.prog W 0 (fun _ => true) true n 39 cs = some y) : ∃ a b, cs = [.int .i64 a, .int .i64 b] := by
  obtain ⟨y0, y1, m, _, hl, h0, h1⟩ := trod_struct2 Try.underlying39 h
  rw [cellsEd] at hl
  match cs, hl with
  | [c0, c1], _ =>
    simp only [cellsI] at h0 h1
    replace h0 : DataW.trod enc Try.prog W 0 (fun _ => true) true m 3 [c0] = some y0 := by simpa using h0
    replace h1 : DataW.trod enc Try.prog W 0 (fun _ => true) true m 3 [c1] = some y1 := by simpa using h1
    obtain ⟨a, e0, _⟩ := DataW.trod_int Try.underlying3 h0
    obtain ⟨b, e1, _⟩ := DataW.trod_int Try.underlying3 h1
    simp at e0 e1
    subst e0 e1
    exact ⟨a, b, rfl⟩
/-- A row of edges that came in. -/
theorem open_row {n : Nat} {c0 : Value} {y : DataW H × List MemPlace} (h : DataW.trod enc Try.prog W 0 (fun _ => true) true n 45 [c0] = some y) :
    ∃ (A : Option Addr) (c : Nat) (row : List Ed), c0 = .slice A row.length c ∧ row.length ≤ c ∧ c ≤ maxLen ∧ (A = none → c = 0) ∧ RdP W A row := by
  rcases Go.Deep.open_slice Try.underlying45 h with ⟨hcs, _⟩ | ⟨x, l, c, m, q, D, Pl, hcs, _, hl, hm, hmm, _, hx⟩
  · simp at hcs
    subst hcs
    exact ⟨none, 0, [], rfl, by simp, Nat.zero_le _, fun _ => rfl, RdP.nil_⟩
  · simp at hcs
    subst hcs
    simp only [if_true] at hmm
    subst hmm
    have each : ∀ i, i < l → ∃ p : Ed, W.cell? (x.add (i * 2)) = some (.int .i64 p.1) ∧ W.cell? (x.add (i * 2 + 1)) = some (.int .i64 p.2) := fun i hi => by
      obtain ⟨cs, h1, h2⟩ := hx i (by omega)
      obtain ⟨a, b, rfl⟩ := trod_E h2
      rw [cellsEd] at h1
      obtain ⟨_, _, hc⟩ := World.cells?_some h1
      have c0 := hc 0 (by decide)
      have c1 := hc 1 (by decide)
      rw [Addr.add_add] at c0 c1
      exact ⟨(a, b), c0, c1⟩
    obtain ⟨f, hf⟩ := Go.Deep.choose_lt each
    have hlen : ((List.range l).map f).length = l := by simp
    refine ⟨some x, m, (List.range l).map f, by rw [hlen], by rw [hlen]; exact hl, hm, fun e => (by cases e), fun hp => ?_⟩
    rw [hlen] at hp
    obtain ⟨b, off, rfl, hb⟩ := spot_none (hf 0 hp).1
    refine ⟨b, off, rfl, hb, fun k p hk => ?_⟩
    have hkl : k < l := by have := (List.getElem?_eq_some_iff.1 hk).1; rwa [hlen] at this
    have hfk : f k = p := by simpa [hkl] using hk
    obtain ⟨c1, c2⟩ := hf k hkl
    rw [Addr.add_lit] at c1 c2
    rw [hfk] at c1 c2
    exact ⟨c1, by rw [Nat.add_assoc]; exact c2⟩
/-- Rows that came in. -/
theorem open_rows {n : Nat} {c0 : Value} {y : DataW H × List MemPlace} (h : DataW.trod enc Try.prog W 0 (fun _ => true) true n 22 [c0] = some y) :
    ∃ (A : Option Addr) (c : Nat) (rs : List (List Ed)), c0 = .slice A rs.length c ∧ rs.length ≤ c ∧ c ≤ maxLen ∧ RdR W A rs ∧ ∀ row ∈ rs, row.length ≤ maxLen := by
  rcases Go.Deep.open_slice1 Try.underlying22 cellsRow h with ⟨hcs, _⟩ | ⟨x, l, c, m, q, V, D, Pl, hcs, _, hl, hm, hmm, _, hx⟩
  · simp at hcs
    subst hcs
    exact ⟨none, 0, [], rfl, by simp, Nat.zero_le _, RdR.nil_, fun row h => by simp at h⟩
  · simp at hcs
    subst hcs
    simp only [if_true] at hmm
    subst hmm
    have each : ∀ i, i < l → ∃ p : List Ed, ∃ B k, W.cell? (x.add i) = some (.slice B p.length k) ∧ p.length ≤ k ∧ k ≤ maxLen ∧ (B = none → k = 0) ∧ RdP W B p := fun i hi => by
      obtain ⟨h1, h2⟩ := hx i (by omega)
      obtain ⟨A, k, row, e, h3, h4, h5, h6⟩ := open_row h2
      exact ⟨row, A, k, by rw [h1, e], h3, h4, h5, h6⟩
    obtain ⟨f, hf⟩ := Go.Deep.choose_lt each
    have hlen : ((List.range l).map f).length = l := by simp
    refine ⟨some x, m, (List.range l).map f, by rw [hlen], by rw [hlen]; exact hl, hm, fun hp => ?_, fun row hrow => ?_⟩
    · rw [hlen] at hp
      obtain ⟨_, _, h1, _⟩ := hf 0 hp
      obtain ⟨b, off, rfl, hb⟩ := spot_none h1
      refine ⟨b, off, rfl, hb, fun k p hk => ?_⟩
      have hkl : k < l := by have := (List.getElem?_eq_some_iff.1 hk).1; rwa [hlen] at this
      have hfk : f k = p := by simpa [hkl] using hk
      obtain ⟨B, c, h1, h2, h3, h4, h5⟩ := hf k hkl
      rw [Addr.add_lit] at h1
      rw [hfk] at h1 h2 h5
      exact ⟨B, c, h1, h2, h3, h4, h5⟩
    · obtain ⟨k, hk, rfl⟩ := List.mem_map.1 hrow
      obtain ⟨B, c, h1, h2, h3, h4, h5⟩ := hf k (List.mem_range.1 hk)
      omega
theorem array3 {α : Type} {cs : Array α} (h : cs.size = 3) : ∃ c0 c1 c2, cs = #[c0, c1, c2] := by
  obtain ⟨l⟩ := cs
  match l, h with
  | [c0, c1, c2], _ => exact ⟨c0, c1, c2, rfl⟩
theorem cellsMa : Try.prog.cellsOf 24 = 3 := by kernel_rfl
theorem cellsRows : Try.prog.cellsOf 22 = 1 := by kernel_rfl
/-- A machine that came in. -/
theorem open_Ma {v : Value} {d : DataW H} {p : List MemPlace} {base : Nat} (hv : Value.okWide Try.prog W .any base 24 v) (h : DataW.Trod enc Try.prog W 0 (fun _ => true) true 24 v d p) :
    ∃ (i o : Int) (A : Option Addr) (c : Nat) (rs : List (List Ed)), v = .agg #[.int .i64 i, .int .i64 o, .slice A rs.length c] ∧ RdR W A rs ∧ rs.length ≤ c ∧ c ≤ maxLen ∧ ∀ row ∈ rs, row.length ≤ maxLen := by
  obtain ⟨v0, v1, v2, y0, y1, y2, n, rfl, _, _, h0, h1, h2⟩ := Go.Joins.open_agg3 Try.underlying24 (by kernel_rfl) (by kernel_rfl) hv h
  obtain ⟨i, e0, _⟩ := DataW.trod_int Try.underlying3 h0
  obtain ⟨o, e1, _⟩ := DataW.trod_int Try.underlying3 h1
  simp at e0 e1
  subst e0 e1
  obtain ⟨A, c, rs, rfl, hl, hm, hr, hrl⟩ := open_rows h2
  exact ⟨i, o, A, c, rs, rfl, hr, hl, hm, hrl⟩
end
end Go.Proofs.Ytiohfflkolopeaa
