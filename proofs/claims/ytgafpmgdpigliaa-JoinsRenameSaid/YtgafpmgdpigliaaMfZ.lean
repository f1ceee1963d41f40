/-
  Several texts in one: SMf, SMf3, Mf4, Mfa. No statement is proved here.
-/
import Derived.Test.YtgafpmgdpigliaaRows
import Derived.Test.YtgafpmgdpigliaaSMc9
import Derived.ProofKit
import Derived.OpenShut
import Derived.ChangeOld
import Derived.ChangeSame
import Derived.Lib.SmallJoins
import Derived.Deep.DeepHandedRow
import Derived.Lay
import Derived.Deep.Slices
namespace Go.Proofs.Ytgafpmgdpigliaa
open Go.ChangeShapes Go.WideShapes Go.ChangeAt Go.RowKit

theorem own : ownKnob Try.prog.godebug = none := by kernel_rfl
theorem laidOut : laidOutB Try.prog = true := by kernel_rfl
theorem lt_of_cell {w : World} {b o : Nat} {v : Value} (h : w.cell? ⟨b, o, none⟩ = some v) : b < w.heap.size := by
  rcases Nat.lt_or_ge b w.heap.size with h1 | h1
  · exact h1
  · simp [World.cell?, Array.getElem?_eq_none h1] at h

/-- A slice of bytes that came in. -/
theorem rd8_of_cells {W : World} {x : Addr} {len : Nat} {zs : List Int} (hl : len ≤ zs.length) (hcell : ∀ i, i < zs.length → W.cell? (x.add i) = some (.int .u8 (zs.getD i 0))) (hw : ∀ n ∈ zs, (Lit.int .u8 n).wf = true) :
    ∃ ys, ys.length = len ∧ Rd8 W (some x) ys := by
  refine ⟨zs.take len, by rw [List.length_take]; omega, fun hp => ?_⟩
  rw [List.length_take] at hp
  obtain ⟨b, off, spot⟩ := x
  have hc := hcell 0 (by omega)
  have hspot : spot = none := by simpa [Addr.add] using World.cell?_spot hc
  subst hspot
  have hb : b < W.heap.size := by
    rw [Addr.add_lit] at hc
    exact lt_of_cell hc
  refine ⟨b, off, rfl, hb, fun k hk => ?_⟩
  rw [List.length_take] at hk
  have := hcell k (by omega)
  rw [Addr.add_lit] at this
  have hwk := hw zs[k] (List.getElem_mem (by omega))
  have hbd := bounds_u8 hwk
  rw [this, List.getElem?_take, if_pos (by omega), List.getElem?_eq_getElem (show k < zs.length by omega)]
  refine ⟨?_, hbd.1, hbd.2⟩
  simp [List.getD, List.getElem?_eq_getElem (show k < zs.length by omega)]
theorem one_of {α : Type} {cs : Array α} (h : cs.size = 1) : ∃ c0, cs = #[c0] := by
  obtain ⟨l⟩ := cs
  match l, h with
  | [c0], _ => exact ⟨c0, rfl⟩
theorem cellsW : Try.prog.cellsOf 48 = 1 := by kernel_rfl
theorem cellsL8 : Try.prog.cellsOf 46 = 1 := by kernel_rfl
set_option maxRecDepth 100000 in
/-- A word as plain data that came in. -/
theorem open_W {H : Type} {enc : TypeId × Value → H} {W : World} {v : Value} {d : DataW H} {p : List MemPlace} {base : Nat} (hv : Value.okWide Try.prog W .any base 48 v)
    (h : DataW.Trod enc Try.prog W 0 (fun _ => true) true 48 v d p) : ∃ a len cap ys, v = .agg #[.slice a len cap] ∧ ys.length = len ∧ Rd8 W a ys ∧ len ≤ 9223372036854775807 := by
  obtain ⟨cs, rfl, hsz⟩ := okWide_struct Try.underlying48 hv
  obtain ⟨c0, rfl⟩ := one_of (hsz.trans cellsW)
  obtain ⟨fuel, hf⟩ := h
  obtain ⟨y0, n, _, _, h0⟩ := trod_struct1 Try.underlying48 hf
  have h1 : DataW.trod enc Try.prog W 0 (fun _ => true) true n 46 [c0] = some y0 := by
    have := h0
    simp only [cellsL8] at this
    simpa [Value.cells] using this
  rcases open_ints Try.underlying46 Try.underlying5 (by kernel_rfl) h1 with ⟨hcs, _⟩ | ⟨x, l, c, zs, hcs, _, hl, hm, hz, _, hcell, hwz⟩
  · simp at hcs
    subst hcs
    exact ⟨none, 0, 0, [], rfl, rfl, Rd8.nil_, by omega⟩
  · simp at hcs
    subst hcs
    obtain ⟨ys, h2, h3⟩ := rd8_of_cells (zs := zs) (len := l) (by simp at hz; omega) hcell hwz
    refine ⟨_, _, _, ys, rfl, h2, h3, ?_⟩
    unfold maxLen at hm
    omega

/-- A slice of numbers of two bytes that came in. -/
theorem rd16_of_cells {W : World} {x : Addr} {len : Nat} {zs : List Int} (hl : len ≤ zs.length) (hcell : ∀ i, i < zs.length → W.cell? (x.add i) = some (.int .u16 (zs.getD i 0))) (hw : ∀ n ∈ zs, (Lit.int .u16 n).wf = true) :
    ∃ ys, ys.length = len ∧ Rd16 W (some x) ys := by
  refine ⟨zs.take len, by rw [List.length_take]; omega, fun hp => ?_⟩
  rw [List.length_take] at hp
  obtain ⟨b, off, spot⟩ := x
  have hc := hcell 0 (by omega)
  have hspot : spot = none := by simpa [Addr.add] using World.cell?_spot hc
  subst hspot
  have hb : b < W.heap.size := by
    rw [Addr.add_lit] at hc
    exact lt_of_cell hc
  refine ⟨b, off, rfl, hb, fun k z hk => ?_⟩
  have hkl : k < zs.length := by
    have := (List.getElem?_eq_some_iff.1 hk).1
    rw [List.length_take] at this
    omega
  have hk' : zs[k]? = some z := by
    rw [List.getElem?_take] at hk
    split at hk
    · exact hk
    · cases hk
  have := hcell k hkl
  rw [Addr.add_lit] at this
  have hz : z ∈ zs := List.mem_of_getElem? hk'
  have hwk := hw z hz
  have hbd : 0 ≤ z ∧ z ≤ 65535 := by
    have := bounds_u16 hwk
    omega
  refine ⟨?_, hbd.1, hbd.2⟩
  rw [this]
  simp [List.getD, hk']
theorem array5 {α : Type} {cs : Array α} (h : cs.size = 5) : ∃ c0 c1 c2 c3 c4, cs = #[c0, c1, c2, c3, c4] := by
  obtain ⟨l⟩ := cs
  match l, h with
  | [c0, c1, c2, c3, c4], _ => exact ⟨c0, c1, c2, c3, c4, rfl⟩
section
variable {H : Type} {enc : TypeId × Value → H} {P : Program} {w : World} {base : Nat} {spare : Nat → Bool} {held : Bool}
theorem trod_struct5 {t : TypeId} {f0 f1 f2 f3 f4 : Field} {fuel : Nat} {cs : List Value} {x : DataW H × List MemPlace} (ht : P.underlying t = some (.struct #[f0, f1, f2, f3, f4])) (h : DataW.trod enc P w base spare held fuel t cs = some x) :
    ∃ y0 y1 y2 y3 y4 n, DataW.trod enc P w base spare held n f0.type ((cs.drop f0.offset).take (P.cellsOf f0.type)) = some y0 ∧
      DataW.trod enc P w base spare held n f1.type ((cs.drop f1.offset).take (P.cellsOf f1.type)) = some y1 ∧ DataW.trod enc P w base spare held n f2.type ((cs.drop f2.offset).take (P.cellsOf f2.type)) = some y2 ∧
      DataW.trod enc P w base spare held n f3.type ((cs.drop f3.offset).take (P.cellsOf f3.type)) = some y3 ∧ DataW.trod enc P w base spare held n f4.type ((cs.drop f4.offset).take (P.cellsOf f4.type)) = some y4 := by
  obtain ⟨xs, n, _, rfl, hl, hlen, hf⟩ := DataW.trod_struct ht h
  match xs, hlen with
  | [y0, y1, y2, y3, y4], _ => exact ⟨y0, y1, y2, y3, y4, n, by simpa using hf 0 f0 rfl, by simpa using hf 1 f1 rfl, by simpa using hf 2 f2 rfl, by simpa using hf 3 f3 rfl, by simpa using hf 4 f4 rfl⟩
end
theorem cellsM : Try.prog.cellsOf 40 = 5 := by kernel_rfl
theorem cells8 : Try.prog.cellsOf 5 = 1 := by kernel_rfl
theorem cellsB : Try.prog.cellsOf 4 = 1 := by kernel_rfl
theorem cells16 : Try.prog.cellsOf 37 = 1 := by kernel_rfl
set_option maxRecDepth 100000 in
/-- A machine as plain data that came in. -/
theorem open_M {H : Type} {enc : TypeId × Value → H} {W : World} {v : Value} {d : DataW H} {p : List MemPlace} {base : Nat} (hv : Value.okWide Try.prog W .any base 40 v)
    (h : DataW.Trod enc Try.prog W 0 (fun _ => true) true 40 v d p) : ∃ a b c q A cap ys, v = .agg #[.int .u8 a, .int .u8 b, .int .u8 c, .bool q, .slice A ys.length cap] ∧ (0 ≤ a ∧ a ≤ 255) ∧ (0 ≤ b ∧ b ≤ 255) ∧ (0 ≤ c ∧ c ≤ 255) ∧ Rd16 W A ys ∧ ys.length ≤ 9223372036854775807 := by
  obtain ⟨cs, rfl, hsz⟩ := okWide_struct Try.underlying40 hv
  obtain ⟨c0, c1, c2, c3, c4, rfl⟩ := array5 (hsz.trans cellsM)
  obtain ⟨fuel, hf⟩ := h
  obtain ⟨y0, y1, y2, y3, y4, n, h0, h1, h2, h3, h4⟩ := trod_struct5 Try.underlying40 hf
  simp only [cells8, cellsB, cells16] at h0 h1 h2 h3 h4
  replace h0 : DataW.trod enc Try.prog W 0 (fun _ => true) true n 5 [c0] = some y0 := by simpa [Value.cells] using h0
  replace h1 : DataW.trod enc Try.prog W 0 (fun _ => true) true n 5 [c1] = some y1 := by simpa [Value.cells] using h1
  replace h2 : DataW.trod enc Try.prog W 0 (fun _ => true) true n 5 [c2] = some y2 := by simpa [Value.cells] using h2
  replace h3 : DataW.trod enc Try.prog W 0 (fun _ => true) true n 4 [c3] = some y3 := by simpa [Value.cells] using h3
  replace h4 : DataW.trod enc Try.prog W 0 (fun _ => true) true n 37 [c4] = some y4 := by simpa [Value.cells] using h4
  obtain ⟨a, e0, _, b0⟩ := DataW.trod_int Try.underlying5 h0
  obtain ⟨b, e1, _, b1⟩ := DataW.trod_int Try.underlying5 h1
  obtain ⟨c, e2, _, b2⟩ := DataW.trod_int Try.underlying5 h2
  obtain ⟨q, e3, _⟩ := DataW.trod_bool Try.underlying4 h3
  simp at e0 e1 e2 e3
  subst e0 e1 e2 e3
  have k0 := bounds_u8 b0
  have k1 := bounds_u8 b1
  have k2 := bounds_u8 b2
  rcases open_ints Try.underlying37 Try.underlying38 (by kernel_rfl) h4 with ⟨hcs, _⟩ | ⟨x, l, cp, zs, hcs, _, hl, hm, hz, _, hcell, hwz⟩
  · simp at hcs
    subst hcs
    exact ⟨a, b, c, q, none, 0, [], rfl, k0, k1, k2, Rd16.nil_, by simp⟩
  · simp at hcs
    subst hcs
    obtain ⟨ys, h2, h3⟩ := rd16_of_cells (zs := zs) (len := l) (by simp at hz; omega) hcell hwz
    subst h2
    refine ⟨a, b, c, q, some x, cp, ys, rfl, k0, k1, k2, h3, ?_⟩
    unfold maxLen at hm
    omega
set_option maxRecDepth 100000 in
/-- A number of one byte that came in. -/
theorem open_u8 {H : Type} {enc : TypeId × Value → H} {W : World} {v : Value} {d : DataW H} {p : List MemPlace} {base : Nat} (hv : Value.okWide Try.prog W .any base 5 v)
    (h : DataW.Trod enc Try.prog W 0 (fun _ => true) true 5 v d p) : ∃ a, v = .int .u8 a ∧ 0 ≤ a ∧ a ≤ 255 := by
  obtain ⟨a, rfl, _, _, w1⟩ := open_int Try.underlying5 hv h
  exact ⟨a, rfl, (bounds_u8 w1).1, (bounds_u8 w1).2⟩
end Go.Proofs.Ytgafpmgdpigliaa

namespace Go.Proofs.Ytgafpmgdpigliaa
open Go.ChangeShapes Go.WideShapes Go.ChangeAt Go.RowKit
open Mc (Ed Ma)

section
variable {H : Type} {enc : TypeId × Value → H} {W : World}
set_option maxRecDepth 100000 in
/-- An edge that came in. -/
theorem open_E {v : Value} {d : DataW H} {p : List MemPlace} {base : Nat} (hv : Value.okWide Try.prog W .any base 27 v) (h : DataW.Trod enc Try.prog W 0 (fun _ => true) true 27 v d p) :
    ∃ x y, v = .agg #[.int .i64 x, .int .i64 y] := by
  obtain ⟨v0, v1, y0, y1, n, rfl, _, _, h0, h1⟩ := Go.Joins.open_agg2 Try.underlying27 (by kernel_rfl) (by kernel_rfl) hv h
  obtain ⟨x, e0, _⟩ := DataW.trod_int Try.underlying3 h0
  obtain ⟨y, e1, _⟩ := DataW.trod_int Try.underlying3 h1
  simp at e0 e1
  subst e0 e1
  exact ⟨x, y, rfl⟩
set_option maxRecDepth 100000 in
theorem cellsP8 : Try.prog.cellsOf 41 = 2 := by kernel_rfl
set_option maxRecDepth 100000 in
theorem cellsI : Try.prog.cellsOf 3 = 1 := by kernel_rfl
set_option maxRecDepth 100000 in
theorem cellsPI : Try.prog.cellsOf 84 = 2 := by kernel_rfl
set_option maxRecDepth 100000 in
/-- A place that came in, of two small numbers. -/
theorem open_P8 {v : Value} {d : DataW H} {p : List MemPlace} {base : Nat} (hv : Value.okWide Try.prog W .any base 41 v) (h : DataW.Trod enc Try.prog W 0 (fun _ => true) true 41 v d p) :
    ∃ a b, v = .agg #[.int .u8 a, .int .u8 b] ∧ (0 ≤ a ∧ a ≤ 255) ∧ (0 ≤ b ∧ b ≤ 255) := by
  simp only [Value.okWide, Try.underlying41] at hv
  obtain ⟨cs, rfl, hsz, _⟩ := hv
  obtain ⟨c0, c1, rfl⟩ := Go.Joins.array2 (hsz.trans cellsP8)
  obtain ⟨fuel, hf⟩ := h
  obtain ⟨xs, m, _, _, _, hl, hg⟩ := DataW.trod_array Try.underlying41 hf
  have g0 := hg 0 (by omega)
  have g1 := hg 1 (by omega)
  simp only [cells8] at g0 g1
  rw [List.getElem?_eq_getElem (show 0 < xs.length by omega)] at g0
  rw [List.getElem?_eq_getElem (show 1 < xs.length by omega)] at g1
  replace g0 : DataW.trod enc Try.prog W 0 (fun _ => true) true m 5 [c0] = some xs[0] := by simpa [Value.cells] using g0
  replace g1 : DataW.trod enc Try.prog W 0 (fun _ => true) true m 5 [c1] = some xs[1] := by simpa [Value.cells] using g1
  obtain ⟨a, e0, _, b0⟩ := DataW.trod_int Try.underlying5 g0
  obtain ⟨b, e1, _, b1⟩ := DataW.trod_int Try.underlying5 g1
  simp at e0 e1
  subst e0 e1
  exact ⟨a, b, rfl, bounds_u8 b0, bounds_u8 b1⟩
set_option maxRecDepth 100000 in
/-- A place that came in. -/
theorem open_P2 {v : Value} {d : DataW H} {p : List MemPlace} {base : Nat} (hv : Value.okWide Try.prog W .any base 84 v) (h : DataW.Trod enc Try.prog W 0 (fun _ => true) true 84 v d p) :
    ∃ a b, v = .agg #[.int .i64 a, .int .i64 b] := by
  simp only [Value.okWide, Try.underlying84] at hv
  obtain ⟨cs, rfl, hsz, _⟩ := hv
  obtain ⟨c0, c1, rfl⟩ := Go.Joins.array2 (hsz.trans cellsPI)
  obtain ⟨fuel, hf⟩ := h
  obtain ⟨xs, m, _, _, _, hl, hg⟩ := DataW.trod_array Try.underlying84 hf
  have g0 := hg 0 (by omega)
  have g1 := hg 1 (by omega)
  simp only [cellsI] at g0 g1
  rw [List.getElem?_eq_getElem (show 0 < xs.length by omega)] at g0
  rw [List.getElem?_eq_getElem (show 1 < xs.length by omega)] at g1
  replace g0 : DataW.trod enc Try.prog W 0 (fun _ => true) true m 3 [c0] = some xs[0] := by simpa [Value.cells] using g0
  replace g1 : DataW.trod enc Try.prog W 0 (fun _ => true) true m 3 [c1] = some xs[1] := by simpa [Value.cells] using g1
  obtain ⟨a, e0, _⟩ := DataW.trod_int Try.underlying3 g0
  obtain ⟨b, e1, _⟩ := DataW.trod_int Try.underlying3 g1
  simp at e0 e1
  subst e0 e1
  exact ⟨a, b, rfl⟩
set_option maxRecDepth 100000 in
theorem spot_none {w : World} {x : Addr} {v : Value} (h : w.cell? (x.add 0) = some v) : ∃ b off, x = ⟨b, off, none⟩ ∧ b < w.heap.size := by
  rw [Addr.add_zero'] at h
  obtain ⟨b, off, spot⟩ := x
  have hspot : spot = none := World.cell?_spot h
  subst hspot
  exact ⟨b, off, rfl, lt_of_cell h⟩
set_option maxRecDepth 100000 in
/-- A list of ints that came in. -/
theorem rd_of_cells {x : Addr} {len : Nat} {zs : List Int} (hl : len ≤ zs.length) (hcell : ∀ i, i < zs.length → W.cell? (x.add i) = some (.int .i64 (zs.getD i 0))) : ∃ ys : List Int, ys.length = len ∧ Rd W (some x) ys := by
  refine ⟨zs.take len, by rw [List.length_take]; omega, fun hp => ?_⟩
  rw [List.length_take] at hp
  obtain ⟨b, off, rfl, hb⟩ := spot_none (hcell 0 (by omega))
  refine ⟨b, off, rfl, hb, fun k hk => ?_⟩
  rw [List.length_take] at hk
  have := hcell k (by omega)
  rw [Addr.add_lit] at this
  rw [this, List.getElem?_take, if_pos (by omega), List.getElem?_eq_getElem (show k < zs.length by omega)]
  simp [List.getD, List.getElem?_eq_getElem (show k < zs.length by omega)]
set_option maxRecDepth 100000 in
theorem open_L {v : Value} {d : DataW H} {p : List MemPlace} {base : Nat} (hv : Value.okWide Try.prog W .any base 30 v) (h : DataW.Trod enc Try.prog W 0 (fun _ => true) true 30 v d p) :
    ∃ a cap ys, v = .slice a (List.length ys) cap ∧ Rd W a ys ∧ ys.length ≤ cap ∧ cap ≤ maxLen ∧ (a = none → cap = 0) := by
  obtain ⟨fuel, h1⟩ := h
  have hs : v.cells.toList = [v] := by
    obtain ⟨a, len, cap, rfl⟩ := okWide_slice Try.underlying30 hv
    rfl
  rw [hs] at h1
  rcases open_ints Try.underlying30 Try.underlying3 (by kernel_rfl) h1 with ⟨hcs, _⟩ | ⟨x, l, c, zs, hcs, _, hl, hm, hz, _, hcell, _⟩
  · simp at hcs
    subst hcs
    exact ⟨none, 0, [], rfl, Rd.nil_, by simp, Nat.zero_le _, fun _ => rfl⟩
  · simp at hcs
    subst hcs
    obtain ⟨ys, h2, h3⟩ := rd_of_cells (zs := zs) (len := l) (by simp at hz; omega) hcell
    subst h2
    exact ⟨_, _, ys, rfl, h3, hl, hm, fun e => by cases e⟩

/-! ### Machines that came in -/
set_option maxRecDepth 100000 in
theorem cellsEd : Try.prog.cellsOf 27 = 2 := by kernel_rfl
set_option maxRecDepth 100000 in
theorem cellsRow : Try.prog.cellsOf 29 = 1 := by kernel_rfl
set_option maxRecDepth 100000 in
theorem trod_E {n : Nat} {cs : List Value} {y : DataW H × List MemPlace} (h : DataW.trod enc Try.prog W 0 (fun _ => true) true n 27 cs = some y) : ∃ a b, cs = [.int .i64 a, .int .i64 b] := by
  obtain ⟨y0, y1, m, _, hl, h0, h1⟩ := trod_struct2 Try.underlying27 h
  rw [cellsEd] at hl
  match cs, hl with
  | [c0, c1], _ =>
    simp only [cellsI] at h0 h1
    replace h0 : DataW.trod enc Try.prog W 0 (fun _ => true) true m 3 [c0] = some y0 := by simpa using h0
    replace h1 : DataW.trod enc Try.prog W 0 (fun _ => true) true m 3 [c1] = some y1 := by simpa using h1
    obtain ⟨a, e0, _⟩ := DataW.trod_int Try.underlying3 h0
    obtain ⟨b, e1, _⟩ := DataW.trod_int Try.underlying3 h1
    simp at e0 e1
    subst e0 e1
    exact ⟨a, b, rfl⟩
set_option maxRecDepth 100000 in
/-- A row of edges that came in. -/
theorem open_row {n : Nat} {c0 : Value} {y : DataW H × List MemPlace} (h : DataW.trod enc Try.prog W 0 (fun _ => true) true n 29 [c0] = some y) :
    ∃ (A : Option Addr) (c : Nat) (row : List Ed), c0 = .slice A row.length c ∧ row.length ≤ c ∧ c ≤ maxLen ∧ (A = none → c = 0) ∧ RdP W A row := by
  rcases Go.Deep.open_slice Try.underlying29 h with ⟨hcs, _⟩ | ⟨x, l, c, m, q, D, Pl, hcs, _, hl, hm, hmm, _, hx⟩
  · simp at hcs
    subst hcs
    exact ⟨none, 0, [], rfl, by simp, Nat.zero_le _, fun _ => rfl, RdP.nil_⟩
  · simp at hcs
    subst hcs
    simp only [if_true] at hmm
    subst hmm
    have each : ∀ i, i < l → ∃ p : Ed, W.cell? (x.add (i * 2)) = some (.int .i64 p.1) ∧ W.cell? (x.add (i * 2 + 1)) = some (.int .i64 p.2) := fun i hi => by
      obtain ⟨cs, h1, h2⟩ := hx i (by omega)
      obtain ⟨a, b, rfl⟩ := trod_E h2
      rw [cellsEd] at h1
      obtain ⟨_, _, hc⟩ := World.cells?_some h1
      have c0 := hc 0 (by decide)
      have c1 := hc 1 (by decide)
      rw [Addr.add_add] at c0 c1
      exact ⟨(a, b), c0, c1⟩
    obtain ⟨f, hf⟩ := Go.Deep.choose_lt each
    have hlen : ((List.range l).map f).length = l := by simp
    refine ⟨some x, m, (List.range l).map f, by rw [hlen], by rw [hlen]; exact hl, hm, fun e => (by cases e), fun hp => ?_⟩
    rw [hlen] at hp
    obtain ⟨b, off, rfl, hb⟩ := spot_none (hf 0 hp).1
    refine ⟨b, off, rfl, hb, fun k p hk => ?_⟩
    have hkl : k < l := by have := (List.getElem?_eq_some_iff.1 hk).1; rwa [hlen] at this
    have hfk : f k = p := by simpa [hkl] using hk
    obtain ⟨c1, c2⟩ := hf k hkl
    rw [Addr.add_lit] at c1 c2
    rw [hfk] at c1 c2
    exact ⟨c1, by rw [Nat.add_assoc]; exact c2⟩
set_option maxRecDepth 100000 in
/-- Rows that came in. -/
theorem open_rows {n : Nat} {c0 : Value} {y : DataW H × List MemPlace} (h : DataW.trod enc Try.prog W 0 (fun _ => true) true n 22 [c0] = some y) :
    ∃ (A : Option Addr) (c : Nat) (rs : List (List Ed)), c0 = .slice A rs.length c ∧ rs.length ≤ c ∧ c ≤ maxLen ∧ RdR W A rs ∧ ∀ row ∈ rs, row.length ≤ maxLen := by
  rcases Go.Deep.open_slice1 Try.underlying22 cellsRow h with ⟨hcs, _⟩ | ⟨x, l, c, m, q, V, D, Pl, hcs, _, hl, hm, hmm, _, hx⟩
  · simp at hcs
    subst hcs
    exact ⟨none, 0, [], rfl, by simp, Nat.zero_le _, RdR.nil_, fun row h => by simp at h⟩
  · simp at hcs
    subst hcs
    simp only [if_true] at hmm
    subst hmm
    have each : ∀ i, i < l → ∃ p : List Ed, ∃ B k, W.cell? (x.add i) = some (.slice B p.length k) ∧ p.length ≤ k ∧ k ≤ maxLen ∧ (B = none → k = 0) ∧ RdP W B p := fun i hi => by
      obtain ⟨h1, h2⟩ := hx i (by omega)
      obtain ⟨A, k, row, e, h3, h4, h5, h6⟩ := open_row h2
      exact ⟨row, A, k, by rw [h1, e], h3, h4, h5, h6⟩
    obtain ⟨f, hf⟩ := Go.Deep.choose_lt each
    have hlen : ((List.range l).map f).length = l := by simp
    refine ⟨some x, m, (List.range l).map f, by rw [hlen], by rw [hlen]; exact hl, hm, fun hp => ?_, fun row hrow => ?_⟩
    · rw [hlen] at hp
      obtain ⟨_, _, h1, _⟩ := hf 0 hp
      obtain ⟨b, off, rfl, hb⟩ := spot_none h1
      refine ⟨b, off, rfl, hb, fun k p hk => ?_⟩
      have hkl : k < l := by have := (List.getElem?_eq_some_iff.1 hk).1; rwa [hlen] at this
      have hfk : f k = p := by simpa [hkl] using hk
      obtain ⟨B, c, h1, h2, h3, h4, h5⟩ := hf k hkl
      rw [Addr.add_lit] at h1
      rw [hfk] at h1 h2 h5
      exact ⟨B, c, h1, h2, h3, h4, h5⟩
    · obtain ⟨k, hk, rfl⟩ := List.mem_map.1 hrow
      obtain ⟨B, c, h1, h2, h3, h4, h5⟩ := hf k (List.mem_range.1 hk)
      omega
set_option maxRecDepth 100000 in
theorem array3 {α : Type} {cs : Array α} (h : cs.size = 3) : ∃ c0 c1 c2, cs = #[c0, c1, c2] := by
  obtain ⟨l⟩ := cs
  match l, h with
  | [c0, c1, c2], _ => exact ⟨c0, c1, c2, rfl⟩
set_option maxRecDepth 100000 in
theorem cellsMa : Try.prog.cellsOf 24 = 3 := by kernel_rfl
set_option maxRecDepth 100000 in
theorem cellsRows : Try.prog.cellsOf 22 = 1 := by kernel_rfl
set_option maxRecDepth 100000 in
/-- A machine that came in. -/
theorem open_Ma {v : Value} {d : DataW H} {p : List MemPlace} {base : Nat} (hv : Value.okWide Try.prog W .any base 24 v) (h : DataW.Trod enc Try.prog W 0 (fun _ => true) true 24 v d p) :
    ∃ (i o : Int) (A : Option Addr) (c : Nat) (rs : List (List Ed)), v = .agg #[.int .i64 i, .int .i64 o, .slice A rs.length c] ∧ RdR W A rs ∧ rs.length ≤ c ∧ c ≤ maxLen ∧ ∀ row ∈ rs, row.length ≤ maxLen := by
  obtain ⟨v0, v1, v2, y0, y1, y2, n, rfl, _, _, h0, h1, h2⟩ := Go.Joins.open_agg3 Try.underlying24 (by kernel_rfl) (by kernel_rfl) hv h
  obtain ⟨i, e0, _⟩ := DataW.trod_int Try.underlying3 h0
  obtain ⟨o, e1, _⟩ := DataW.trod_int Try.underlying3 h1
  simp at e0 e1
  subst e0 e1
  obtain ⟨A, c, rs, rfl, hl, hm, hr, hrl⟩ := open_rows h2
  exact ⟨i, o, A, c, rs, rfl, hr, hl, hm, hrl⟩
end
end Go.Proofs.Ytgafpmgdpigliaa

namespace Go.Proofs.Ytgafpmgdpigliaa
open Go.ChangeShapes Go.WideShapes Go.ChangeAt Go.RowKit

set_option maxRecDepth 100000 in
theorem open_L8 {H : Type} {enc : TypeId × Value → H} {W : World} {v : Value} {d : DataW H} {p : List MemPlace} {base : Nat} (hv : Value.okWide Try.prog W .any base 46 v) (h : DataW.Trod enc Try.prog W 0 (fun _ => true) true 46 v d p) :
    ∃ a cap ys, v = .slice a (List.length ys) cap ∧ Rd8 W a ys ∧ ys.length ≤ 9223372036854775807 := by
  obtain ⟨fuel, h1⟩ := h
  have hs : v.cells.toList = [v] := by
    obtain ⟨a, len, cap, rfl⟩ := okWide_slice Try.underlying46 hv
    rfl
  rw [hs] at h1
  rcases open_ints Try.underlying46 Try.underlying5 (by kernel_rfl) h1 with ⟨hcs, _⟩ | ⟨x, l, c, zs, hcs, _, hl, hm, hz, _, hcell, hwz⟩
  · simp at hcs
    subst hcs
    exact ⟨none, 0, [], rfl, Rd8.nil_, by simp⟩
  · simp at hcs
    subst hcs
    obtain ⟨ys, h2, h3⟩ := rd8_of_cells (zs := zs) (len := l) (by simp at hz; omega) hcell hwz
    subst h2
    refine ⟨_, _, ys, rfl, h3, ?_⟩
    unfold maxLen at hm
    omega
end Go.Proofs.Ytgafpmgdpigliaa

namespace Go.Proofs.Ytgafpmgdpigliaa
open Go.ChangeShapes Go.WideShapes Go.ChangeAt Go.RowKit

section
variable {H : Type} {enc : TypeId × Value → H} {W : World}
theorem trod_LI {n : Nat} {v : Value} {y : DataW H × List MemPlace} (h1 : DataW.trod enc Try.prog W 0 (fun _ => true) true n 30 [v] = some y) : ∃ (a : Option Addr) (cap : Nat) (ys : List Int), v = .slice a ys.length cap ∧ Rd W a ys := by
  rcases open_ints Try.underlying30 Try.underlying3 (by kernel_rfl) h1 with ⟨hcs, _⟩ | ⟨x, l, c, zs, hcs, _, hl, hm, hz, _, hcell, _⟩
  · simp at hcs
    subst hcs
    exact ⟨none, 0, [], rfl, Rd.nil_⟩
  · simp at hcs
    subst hcs
    obtain ⟨ys, h2, h3⟩ := rd_of_cells (zs := zs) (len := l) (by simp at hz; omega) hcell
    subst h2
    exact ⟨_, _, ys, rfl, h3⟩
set_option maxRecDepth 100000 in
theorem open_N3 {v : Value} {d : DataW H} {p : List MemPlace} {base : Nat} (hv : Value.okWide Try.prog W .any base 68 v) (h : DataW.Trod enc Try.prog W 0 (fun _ => true) true 68 v d p) :
    ∃ (A B C : Option Addr) (a b c : Nat) (xs ys zs : List Int), v = .agg #[.slice A xs.length a, .slice B ys.length b, .slice C zs.length c] ∧ Rd W A xs ∧ Rd W B ys ∧ Rd W C zs := by
  obtain ⟨v0, v1, v2, y0, y1, y2, n, rfl, _, _, h0, h1, h2⟩ := Go.Joins.open_agg3 Try.underlying68 (by kernel_rfl) (by kernel_rfl) hv h
  obtain ⟨A, a, xs, rfl, hx⟩ := trod_LI h0
  obtain ⟨B, b, ys, rfl, hy⟩ := trod_LI h1
  obtain ⟨C, c, zs, rfl, hz⟩ := trod_LI h2
  exact ⟨A, B, C, a, b, c, xs, ys, zs, rfl, hx, hy, hz⟩
end
end Go.Proofs.Ytgafpmgdpigliaa
