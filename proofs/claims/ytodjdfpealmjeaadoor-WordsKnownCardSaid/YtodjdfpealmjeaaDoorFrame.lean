/-
  What the rows' last steps share: the variables that are listed, a slice that came in, the witness. No statement is proved here.
-/
import Derived.Test.YtodjdfpealmjeaaDoorCards
import Derived.Test.YtodjdfpealmjeaaDoorTie
import Derived.Test.YtodjdfpealmjeaaDoorW9
import Derived.ProofKit
import Derived.OpenShut
import Derived.ShutString
import Derived.ChangeOld
import Derived.Deep.DeepHandedRow
import Derived.Lib.LaidTab
import Derived.Lay
import Derived.Stop.LaidErr
namespace Go.Proofs.YtodjdfpealmjeaaDoor
open Go.ChangeShapes Go.WideShapes Go.ChangeAt Go.RowKit

theorem own : ownKnob Tryd.prog.godebug = none := by kernel_rfl
theorem laidOut : laidOutB Tryd.prog = true := by kernel_rfl
/-- The list of variables that all rows of this seat bear. -/
noncomputable def LD : List (String × DataW Unit) := Rows.wordsCheckRow.laid
theorem cellsTab : Tryd.prog.cellsOf 95 = 20 := by kernel_rfl
theorem cellsU64 : Tryd.prog.cellsOf 83 = 1 := by kernel_rfl
theorem gTabType : (Tryd.prog.globals[0]?).map (·.type) = some 95 := by kernel_rfl
theorem ldPlain : (LD.all fun x => x.2.handleName?.isNone) = true := by kernel_rfl
theorem ldTail : LD.drop 2 = ("internal/strconv.uint64pow10", Lib.tabData .u64 Lib.pow10Tab) :: LD.drop 3 := by kernel_rfl
theorem ldDrop : ∃ x y, LD = x :: y :: LD.drop 2 := ⟨_, _, rfl⟩

theorem lt_of_cell {w : World} {b o : Nat} {v : Value} (h : w.cell? ⟨b, o, none⟩ = some v) : b < w.heap.size := by
  rcases Nat.lt_or_ge b w.heap.size with h1 | h1
  · exact h1
  · simp [World.cell?, Array.getElem?_eq_none h1] at h

theorem env_of {W : World} (hL : laidMetH Tryd.prog LD W) (hsh : W.ShapedOpen Tryd.prog) : Env W := by
  rw [MakeChecks.laidMetH_plain _ _ _ ldPlain] at hL
  obtain ⟨x, y, e⟩ := ldDrop
  rw [e] at hL
  have h2 := hL.tail.tail
  rw [ldTail] at h2
  obtain ⟨m, hm⟩ := Tryd.laysM146.s1_3 W hsh
  exact ⟨Lib.tabIs_of_head gTab gTabType Tryd.underlying95 Tryd.underlying83 cellsU64 cellsTab h2, ⟨m, hm⟩, lt_of_cell hm⟩

/-- A slice of ints that came in. -/
theorem rd_of_cells {W : World} {x : Addr} {len : Nat} {zs : List Int} (hl : len ≤ zs.length) (hcell : ∀ i, i < zs.length → W.cell? (x.add i) = some (.int .i64 (zs.getD i 0))) (hw : ∀ n ∈ zs, (Lit.int .i64 n).wf = true) :
    ∃ ys, ys.length = len ∧ Rd W (some x) ys ∧ M.I64 ys := by
  refine ⟨zs.take len, by rw [List.length_take]; omega, fun hp => ?_, fun z hz => ?_⟩
  · rw [List.length_take] at hp
    obtain ⟨b, off, spot⟩ := x
    have hc := hcell 0 (by omega)
    have hspot : spot = none := by simpa [Addr.add] using World.cell?_spot hc
    subst hspot
    have hb : b < W.heap.size := by
      rw [Addr.add_lit] at hc
      exact lt_of_cell hc
    refine ⟨b, off, rfl, hb, fun k hk => ?_⟩
    rw [List.length_take] at hk
    have := hcell k (by omega)
    rw [Addr.add_lit] at this
    rw [this, List.getElem?_take, if_pos (by omega)]
    rfl
  · have := hw z (List.mem_of_mem_take hz)
    exact bounds_i64 this

/-- A slice of ints that came in, nil too; its capacity. -/
theorem open_list {H : Type} {enc : TypeId × Value → H} {W : World} {a : Option Addr} {len cap : Nat} {d : DataW H} {p : List MemPlace}
    (h : DataW.Trod enc Tryd.prog W 0 (fun _ => true) true 22 (.slice a len cap) d p) : ∃ ys, ys.length = len ∧ Rd W a ys ∧ M.I64 ys ∧ len ≤ cap := by
  obtain ⟨fuel, hf⟩ := h
  rcases open_ints Tryd.underlying22 Tryd.underlying3 (by kernel_rfl) hf with ⟨hcs, _⟩ | ⟨x, l, c, zs, hcs, _, hl, hm, hz, _, hcell, hwz⟩
  · simp [Value.cells] at hcs
    obtain ⟨rfl, rfl, rfl⟩ := hcs
    exact ⟨[], rfl, Rd.nil_, fun _ h => (by cases h), Nat.le_refl _⟩
  · simp [Value.cells] at hcs
    obtain ⟨rfl, rfl, rfl⟩ := hcs
    obtain ⟨ys, h1, h2, h3⟩ := rd_of_cells (zs := zs) (len := len) (by simp at hz; omega) hcell hwz
    exact ⟨ys, h1, h2, h3, hl⟩
/-- A slice of bytes that came in. -/
theorem rd8_of_cells {W : World} {x : Addr} {len : Nat} {zs : List Int} (hl : len ≤ zs.length) (hcell : ∀ i, i < zs.length → W.cell? (x.add i) = some (.int .u8 (zs.getD i 0))) (hw : ∀ n ∈ zs, (Lit.int .u8 n).wf = true) :
    ∃ ys, ys.length = len ∧ Rd8 W (some x) ys := by
  refine ⟨zs.take len, by rw [List.length_take]; omega, fun hp => ?_⟩
  rw [List.length_take] at hp
  obtain ⟨b, off, spot⟩ := x
  have hc := hcell 0 (by omega)
  have hspot : spot = none := by simpa [Addr.add] using World.cell?_spot hc
  subst hspot
  have hb : b < W.heap.size := by
    rw [Addr.add_lit] at hc
    exact lt_of_cell hc
  refine ⟨b, off, rfl, hb, fun k hk => ?_⟩
  rw [List.length_take] at hk
  have := hcell k (by omega)
  rw [Addr.add_lit] at this
  have hwk := hw zs[k] (List.getElem_mem (by omega))
  have hbd := bounds_u8 hwk
  rw [this, List.getElem?_take, if_pos (by omega), List.getElem?_eq_getElem (show k < zs.length by omega)]
  refine ⟨?_, hbd.1, hbd.2⟩
  simp [List.getD, List.getElem?_eq_getElem (show k < zs.length by omega)]
theorem one_of {α : Type} {cs : Array α} (h : cs.size = 1) : ∃ c0, cs = #[c0] := by
  obtain ⟨l⟩ := cs
  match l, h with
  | [c0], _ => exact ⟨c0, rfl⟩
theorem cellsW : Tryd.prog.cellsOf 41 = 1 := by kernel_rfl
theorem cellsL8 : Tryd.prog.cellsOf 39 = 1 := by kernel_rfl
set_option maxRecDepth 100000 in
/-- A word as plain data that came in. -/
theorem open_W {H : Type} {enc : TypeId × Value → H} {W : World} {v : Value} {d : DataW H} {p : List MemPlace} {base : Nat} (hv : Value.okWide Tryd.prog W .any base 41 v)
    (h : DataW.Trod enc Tryd.prog W 0 (fun _ => true) true 41 v d p) : ∃ a len cap ys, v = .agg #[.slice a len cap] ∧ ys.length = len ∧ Rd8 W a ys ∧ len ≤ 9223372036854775807 := by
  obtain ⟨cs, rfl, hsz⟩ := okWide_struct Tryd.underlying41 hv
  obtain ⟨c0, rfl⟩ := one_of (hsz.trans cellsW)
  obtain ⟨fuel, hf⟩ := h
  obtain ⟨y0, n, _, _, h0⟩ := trod_struct1 Tryd.underlying41 hf
  have h1 : DataW.trod enc Tryd.prog W 0 (fun _ => true) true n 39 [c0] = some y0 := by
    have := h0
    simp only [cellsL8] at this
    simpa [Value.cells] using this
  rcases open_ints Tryd.underlying39 Tryd.underlying5 (by kernel_rfl) h1 with ⟨hcs, _⟩ | ⟨x, l, c, zs, hcs, _, hl, hm, hz, _, hcell, hwz⟩
  · simp at hcs
    subst hcs
    exact ⟨none, 0, 0, [], rfl, rfl, Rd8.nil_, by omega⟩
  · simp at hcs
    subst hcs
    obtain ⟨ys, h2, h3⟩ := rd8_of_cells (zs := zs) (len := l) (by simp at hz; omega) hcell hwz
    refine ⟨_, _, _, ys, rfl, h2, h3, ?_⟩
    unfold maxLen at hm
    omega
end Go.Proofs.YtodjdfpealmjeaaDoor
