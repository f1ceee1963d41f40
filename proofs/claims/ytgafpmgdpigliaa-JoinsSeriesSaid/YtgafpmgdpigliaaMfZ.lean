/-
  Several texts in one: SMf, SMf3, Mf4, Mfa. No statement is proved here.
-/
import Derived.Test.YtgafpmgdpigliaaRows
import Derived.Test.YtgafpmgdpigliaaSMc9
import Derived.ProofKit
import Derived.OpenShut
import Derived.ChangeOld
import Derived.ChangeSame
import Derived.Lib.SmallJoins
import Derived.Deep.DeepHandedRow
import Derived.Lay
import Derived.Deep.Slices
namespace Go.Proofs.Ytgafpmgdpigliaa
open Go.ChangeShapes Go.WideShapes Go.ChangeAt Go.RowKit

theorem own : ownKnob Try.prog.godebug = none := by kernel_rfl
theorem laidOut : laidOutB Try.prog = true := by kernel_rfl
theorem lt_of_cell {w : World} {b o : Nat} {v : Value} (h : w.cell? ⟨b, o, none⟩ = some v) : b < w.heap.size := by
  rcases Nat.lt_or_ge b w.heap.size with h1 | h1
  · exact h1
  · simp [World.cell?, Array.getElem?_eq_none h1] at h

/-- A slice of bytes that came in. -/
theorem rd8_of_cells {W : World} {x : Addr} {len : Nat} {zs : List Int} (hl : len ≤ zs.length) (hcell : ∀ i, i < zs.length → W.cell? (x.add i) = some (.int .u8 (zs.getD i 0))) (hw : ∀ n ∈ zs, (Lit.int .u8 n).wf = true) :
    ∃ ys, ys.length = len ∧ Rd8 W (some x) ys := by
  refine ⟨zs.take len, by rw [List.length_take]; omega, fun hp => ?_⟩
  rw [List.length_take] at hp
  obtain ⟨b, off, spot⟩ := x
  have hc := hcell 0 (by omega)
  have hspot : spot = none := by simpa [Addr.add] using World.cell?_spot hc
  subst hspot
  have hb : b < W.heap.size := by
    rw [Addr.add_lit] at hc
    exact lt_of_cell hc
  refine ⟨b, off, rfl, hb, fun k hk => ?_⟩
  rw [List.length_take] at hk
  have := hcell k (by omega)
  rw [Addr.add_lit] at this
  have hwk := hw zs[k] (List.getElem_mem (by omega))
  have hbd := bounds_u8 hwk
  rw [this, List.getElem?_take, if_pos (by omega), List.getElem?_eq_getElem (show k < zs.length by omega)]
  refine ⟨?_, hbd.1, hbd.2⟩
  simp [List.getD, List.getElem?_eq_getElem (show k < zs.length by omega)]
theorem cellsW : Try.prog.cellsOf 48 = 1 := by kernel_rfl
theorem cellsL8 : Try.prog.cellsOf 46 = 1 := by kernel_rfl
/-- A slice of numbers of two bytes that came in. -/
theorem rd16_of_cells {W : World} {x : Addr} {len : Nat} {zs : List Int} (hl : len ≤ zs.length) (hcell : ∀ i, i < zs.length → W.cell? (x.add i) = some (.int .u16 (zs.getD i 0))) (hw : ∀ n ∈ zs, (Lit.int .u16 n).wf = true) :
    ∃ ys, ys.length = len ∧ Rd16 W (some x) ys := by
  refine ⟨zs.take len, by rw [List.length_take]; omega, fun hp => ?_⟩
  rw [List.length_take] at hp
  obtain ⟨b, off, spot⟩ := x
  have hc := hcell 0 (by omega)
  have hspot : spot = none := by simpa [Addr.add] using World.cell?_spot hc
  subst hspot
  have hb : b < W.heap.size := by
    rw [Addr.add_lit] at hc
    exact lt_of_cell hc
  refine ⟨b, off, rfl, hb, fun k z hk => ?_⟩
  have hkl : k < zs.length := by
    have := (List.getElem?_eq_some_iff.1 hk).1
    rw [List.length_take] at this
    omega
  have hk' : zs[k]? = some z := by
    rw [List.getElem?_take] at hk
    split at hk
    · exact hk
    · cases hk
  have := hcell k hkl
  rw [Addr.add_lit] at this
  have hz : z ∈ zs := List.mem_of_getElem? hk'
  have hwk := hw z hz
  have hbd : 0 ≤ z ∧ z ≤ 65535 := by
    have := bounds_u16 hwk
    omega
  refine ⟨?_, hbd.1, hbd.2⟩
  rw [this]
  simp [List.getD, hk']
theorem array5 {α : Type} {cs : Array α} (h : cs.size = 5) : ∃ c0 c1 c2 c3 c4, cs = #[c0, c1, c2, c3, c4] := by
  obtain ⟨l⟩ := cs
  match l, h with
  | [c0, c1, c2, c3, c4], _ => exact ⟨c0, c1, c2, c3, c4, rfl⟩
section
variable {H : Type} {enc : TypeId × Value → H} {P : Program} {w : World} {base : Nat} {spare : Nat → Bool} {held : Bool}
theorem trod_struct5 {t : TypeId} {f0 f1 f2 f3 f4 : Field} {fuel : Nat} {cs : List Value} {x : DataW H × List MemPlace} (ht : P.underlying t = some (.struct #[f0, f1, f2, f3, f4])) (h : DataW.trod enc P w base spare held fuel t cs = some x) :
    ∃ y0 y1 y2 y3 y4 n, DataW.trod enc P w base spare held n f0.type ((cs.drop f0.offset).take (P.cellsOf f0.type)) = some y0 ∧
      DataW.trod enc P w base spare held n f1.type ((cs.drop f1.offset).take (P.cellsOf f1.type)) = some y1 ∧ DataW.trod enc P w base spare held n f2.type ((cs.drop f2.offset).take (P.cellsOf f2.type)) = some y2 ∧
      DataW.trod enc P w base spare held n f3.type ((cs.drop f3.offset).take (P.cellsOf f3.type)) = some y3 ∧ DataW.trod enc P w base spare held n f4.type ((cs.drop f4.offset).take (P.cellsOf f4.type)) = some y4 := by
  obtain ⟨xs, n, _, rfl, hl, hlen, hf⟩ := DataW.trod_struct ht h
  match xs, hlen with
  | [y0, y1, y2, y3, y4], _ => exact ⟨y0, y1, y2, y3, y4, n, by simpa using hf 0 f0 rfl, by simpa using hf 1 f1 rfl, by simpa using hf 2 f2 rfl, by simpa using hf 3 f3 rfl, by simpa using hf 4 f4 rfl⟩
end
theorem cellsM : Try.prog.cellsOf 40 = 5 := by kernel_rfl
theorem cells8 : Try.prog.cellsOf 5 = 1 := by kernel_rfl
theorem cellsB : Try.prog.cellsOf 4 = 1 := by kernel_rfl
theorem cells16 : Try.prog.cellsOf 37 = 1 := by kernel_rfl
set_option maxRecDepth 100000 in
/-- A machine as plain data that came in. -/
theorem open_M {H : Type} {enc : TypeId × Value → H} {W : World} {v : Value} {d : DataW H} {p : List MemPlace} {base : Nat} (hv : Value.okWide Try.prog W .any base 40 v)
    (h : DataW.Trod enc Try.prog W 0 (fun _ => true) true 40 v d p) : ∃ a b c q A cap ys, v = .agg #[.int .u8 a, .int .u8 b, .int .u8 c, .bool q, .slice A ys.length cap] ∧ (0 ≤ a ∧ a ≤ 255) ∧ (0 ≤ b ∧ b ≤ 255) ∧ (0 ≤ c ∧ c ≤ 255) ∧ Rd16 W A ys ∧ ys.length ≤ 9223372036854775807 := by
  obtain ⟨cs, rfl, hsz⟩ := okWide_struct Try.underlying40 hv
  obtain ⟨c0, c1, c2, c3, c4, rfl⟩ := array5 (hsz.trans cellsM)
  obtain ⟨fuel, hf⟩ := h
  obtain ⟨y0, y1, y2, y3, y4, n, h0, h1, h2, h3, h4⟩ := trod_struct5 Try.underlying40 hf
  simp only [cells8, cellsB, cells16] at h0 h1 h2 h3 h4
  replace h0 : DataW.trod enc Try.prog W 0 (fun _ => true) true n 5 [c0] = some y0 := by simpa [Value.cells] using h0
  replace h1 : DataW.trod enc Try.prog W 0 (fun _ => true) true n 5 [c1] = some y1 := by simpa [Value.cells] using h1
  replace h2 : DataW.trod enc Try.prog W 0 (fun _ => true) true n 5 [c2] = some y2 := by simpa [Value.cells] using h2
  replace h3 : DataW.trod enc Try.prog W 0 (fun _ => true) true n 4 [c3] = some y3 := by simpa [Value.cells] using h3
  replace h4 : DataW.trod enc Try.prog W 0 (fun _ => true) true n 37 [c4] = some y4 := by simpa [Value.cells] using h4
  obtain ⟨a, e0, _, b0⟩ := DataW.trod_int Try.underlying5 h0
  obtain ⟨b, e1, _, b1⟩ := DataW.trod_int Try.underlying5 h1
  obtain ⟨c, e2, _, b2⟩ := DataW.trod_int Try.underlying5 h2
  obtain ⟨q, e3, _⟩ := DataW.trod_bool Try.underlying4 h3
  simp at e0 e1 e2 e3
  subst e0 e1 e2 e3
  have k0 := bounds_u8 b0
  have k1 := bounds_u8 b1
  have k2 := bounds_u8 b2
  rcases open_ints Try.underlying37 Try.underlying38 (by kernel_rfl) h4 with ⟨hcs, _⟩ | ⟨x, l, cp, zs, hcs, _, hl, hm, hz, _, hcell, hwz⟩
  · simp at hcs
    subst hcs
    exact ⟨a, b, c, q, none, 0, [], rfl, k0, k1, k2, Rd16.nil_, by simp⟩
  · simp at hcs
    subst hcs
    obtain ⟨ys, h2, h3⟩ := rd16_of_cells (zs := zs) (len := l) (by simp at hz; omega) hcell hwz
    subst h2
    refine ⟨a, b, c, q, some x, cp, ys, rfl, k0, k1, k2, h3, ?_⟩
    unfold maxLen at hm
    omega
end Go.Proofs.Ytgafpmgdpigliaa

namespace Go.Proofs.Ytgafpmgdpigliaa
open Go.ChangeShapes Go.WideShapes Go.ChangeAt Go.RowKit
open Mc (Ed Ma)

section
variable {H : Type} {enc : TypeId × Value → H} {W : World}
/-! ### Machines that came in -/
end
end Go.Proofs.Ytgafpmgdpigliaa

namespace Go.Proofs.Ytgafpmgdpigliaa
open Go.ChangeShapes Go.WideShapes Go.ChangeAt Go.RowKit

end Go.Proofs.Ytgafpmgdpigliaa

namespace Go.Proofs.Ytgafpmgdpigliaa
open Go.ChangeShapes Go.WideShapes Go.ChangeAt Go.RowKit

section
variable {H : Type} {enc : TypeId × Value → H} {W : World}
end
set_option maxRecDepth 100000 in
theorem trod_Mz {H : Type} {enc : TypeId × Value → H} {W : World} {c0 c1 c2 c3 c4 : Value} {y : DataW H × List MemPlace} {m : Nat} (hf : DataW.trod enc Try.prog W 0 (fun _ => true) true m 40 [c0, c1, c2, c3, c4] = some y) :
    ∃ a b c q A cap ys, (c0 = .int .u8 a ∧ c1 = .int .u8 b ∧ c2 = .int .u8 c ∧ c3 = .bool q ∧ c4 = .slice A (List.length ys) cap) ∧ (0 ≤ a ∧ a ≤ 255) ∧ (0 ≤ b ∧ b ≤ 255) ∧ (0 ≤ c ∧ c ≤ 255) ∧ Rd16 W A ys ∧ ys.length ≤ 9223372036854775807 := by
  obtain ⟨y0, y1, y2, y3, y4, n, h0, h1, h2, h3, h4⟩ := trod_struct5 Try.underlying40 hf
  simp only [cells8, cellsB, cells16] at h0 h1 h2 h3 h4
  replace h0 : DataW.trod enc Try.prog W 0 (fun _ => true) true n 5 [c0] = some y0 := by simpa [Value.cells] using h0
  replace h1 : DataW.trod enc Try.prog W 0 (fun _ => true) true n 5 [c1] = some y1 := by simpa [Value.cells] using h1
  replace h2 : DataW.trod enc Try.prog W 0 (fun _ => true) true n 5 [c2] = some y2 := by simpa [Value.cells] using h2
  replace h3 : DataW.trod enc Try.prog W 0 (fun _ => true) true n 4 [c3] = some y3 := by simpa [Value.cells] using h3
  replace h4 : DataW.trod enc Try.prog W 0 (fun _ => true) true n 37 [c4] = some y4 := by simpa [Value.cells] using h4
  obtain ⟨a, e0, _, b0⟩ := DataW.trod_int Try.underlying5 h0
  obtain ⟨b, e1, _, b1⟩ := DataW.trod_int Try.underlying5 h1
  obtain ⟨c, e2, _, b2⟩ := DataW.trod_int Try.underlying5 h2
  obtain ⟨q, e3, _⟩ := DataW.trod_bool Try.underlying4 h3
  simp at e0 e1 e2 e3
  subst e0 e1 e2 e3
  have k0 := bounds_u8 b0
  have k1 := bounds_u8 b1
  have k2 := bounds_u8 b2
  rcases open_ints Try.underlying37 Try.underlying38 (by kernel_rfl) h4 with ⟨hcs, _⟩ | ⟨x, l, cp, zs, hcs, _, hl, hm, hz, _, hcell, hwz⟩
  · simp at hcs
    subst hcs
    exact ⟨a, b, c, q, none, 0, [], ⟨rfl, rfl, rfl, rfl, rfl⟩, k0, k1, k2, Rd16.nil_, by simp⟩
  · simp at hcs
    subst hcs
    obtain ⟨ys, h2, h3⟩ := rd16_of_cells (zs := zs) (len := l) (by simp at hz; omega) hcell hwz
    subst h2
    refine ⟨a, b, c, q, some x, cp, ys, ⟨rfl, rfl, rfl, rfl, rfl⟩, k0, k1, k2, h3, ?_⟩
    unfold maxLen at hm
    omega
theorem cellsZz : Try.prog.cellsOf 54 = 6 := by kernel_rfl
theorem array_six {cs : Array Value} (h : cs.size = 6) : ∃ a b c d e f, cs = #[a, b, c, d, e, f] := by
  obtain ⟨l⟩ := cs
  match l, h with
  | [a, b, c, d, e, f], _ => exact ⟨a, b, c, d, e, f, rfl⟩
set_option maxRecDepth 100000 in
/-- A machine and a word as plain data that came in. -/
theorem open_Zz {H : Type} {enc : TypeId × Value → H} {W : World} {v : Value} {d : DataW H} {p : List MemPlace} {base : Nat} (hv : Value.okWide Try.prog W .any base 54 v)
    (h : DataW.Trod enc Try.prog W 0 (fun _ => true) true 54 v d p) :
    ∃ a b c q A cap ys B e zs, v = .agg #[.int .u8 a, .int .u8 b, .int .u8 c, .bool q, .slice A (List.length ys) cap, .slice B (List.length zs) e] ∧ (0 ≤ a ∧ a ≤ 255) ∧ (0 ≤ b ∧ b ≤ 255) ∧ (0 ≤ c ∧ c ≤ 255) ∧ Rd16 W A ys ∧ ys.length ≤ 9223372036854775807 ∧ Rd8 W B zs ∧ zs.length ≤ 9223372036854775807 := by
  obtain ⟨cs, rfl, hsz⟩ := okWide_struct Try.underlying54 hv
  obtain ⟨c0, c1, c2, c3, c4, c5, rfl⟩ := array_six (hsz.trans cellsZz)
  obtain ⟨fuel, hf⟩ := h
  obtain ⟨y0, y1, m, _, hl, h0, h1⟩ := trod_struct2 Try.underlying54 hf
  simp only [cellsM, cellsW] at h0 h1
  obtain ⟨a, b, c, q, A, cap, ys, ⟨rfl, rfl, rfl, rfl, rfl⟩, k1, k2, k3, k4, k5⟩ := trod_Mz (c0 := c0) (c1 := c1) (c2 := c2) (c3 := c3) (c4 := c4) (by simpa [Value.cells] using h0)
  have h2 : DataW.trod enc Try.prog W 0 (fun _ => true) true m 48 [c5] = some y1 := by simpa [Value.cells] using h1
  obtain ⟨z0, n, _, _, h3⟩ := trod_struct1 Try.underlying48 h2
  have h4 : DataW.trod enc Try.prog W 0 (fun _ => true) true n 46 [c5] = some z0 := by
    have := h3
    simp only [cellsL8] at this
    simpa using this
  rcases open_ints Try.underlying46 Try.underlying5 (by kernel_rfl) h4 with ⟨hcs, _⟩ | ⟨x, l, e, zs, hcs, _, hl, hm, hz, _, hcell, hwz⟩
  · simp at hcs
    subst hcs
    exact ⟨a, b, c, q, A, cap, ys, none, 0, [], rfl, k1, k2, k3, k4, k5, Rd8.nil_, by simp⟩
  · simp at hcs
    subst hcs
    obtain ⟨us, h5, h6⟩ := rd8_of_cells (zs := zs) (len := l) (by simp at hz; omega) hcell hwz
    subst h5
    refine ⟨a, b, c, q, A, cap, ys, _, _, us, rfl, k1, k2, k3, k4, k5, h6, ?_⟩
    unfold maxLen at hm
    omega
end Go.Proofs.Ytgafpmgdpigliaa
