/-
  What the rows' last steps share: the variables that are listed, a slice that came in, the witness. No statement is proved here.
-/
import Derived.Test.YtnhibkkkpmaddaaDoorCards
import Derived.Test.YtnhibkkkpmaddaaDoorTie
import Derived.Test.YtnhibkkkpmaddaaDoorC21
import Derived.Test.YtnhibkkkpmaddaaDoorTextM
import Derived.Deep.Slices
import Derived.WideKeyPair
import Derived.LaidLaws
import Derived.ProofKit
import Derived.OpenShut
import Derived.ShutString
import Derived.ChangeOld
import Derived.Deep.DeepHandedRow
import Derived.Lib.LaidTab
import Derived.Lay
import Derived.Stop.LaidErr
namespace Go.Proofs.YtnhibkkkpmaddaaDoor
open Go.ChangeShapes Go.WideShapes Go.ChangeAt Go.RowKit

theorem own : ownKnob Tryd.prog.godebug = none := by kernel_rfl
theorem laidOut : laidOutB Tryd.prog = true := by kernel_rfl
/-- The list of variables that all rows of this seat bear. -/
noncomputable def LD : List (String × DataW Unit) := Rows.classesCheckRow.laid
theorem cellsTab : Tryd.prog.cellsOf 117 = 20 := by kernel_rfl
theorem cellsU64 : Tryd.prog.cellsOf 102 = 1 := by kernel_rfl
theorem gTabType : (Tryd.prog.globals[3]?).map (·.type) = some 117 := by kernel_rfl
theorem ldPlain : (LD.all fun x => x.2.handleName?.isNone) = true := by kernel_rfl
theorem ldTail : LD.drop 2 = ("internal/strconv.uint64pow10", Lib.tabData .u64 Lib.pow10Tab) :: LD.drop 3 := by kernel_rfl
theorem ldRng : LD.drop 4 = ("strconv.ErrRange", .iface "*errors.errorString" (.ptr (.agg [.lit (.string [118, 97, 108, 117, 101, 32, 111, 117, 116, 32, 111, 102, 32, 114, 97, 110, 103, 101])]))) :: LD.drop 5 := by kernel_rfl
theorem ldSyn : LD.drop 5 = ("strconv.ErrSyntax", .iface "*errors.errorString" (.ptr (.agg [.lit (.string [105, 110, 118, 97, 108, 105, 100, 32, 115, 121, 110, 116, 97, 120])]))) :: LD.drop 6 := by kernel_rfl
theorem ldDrop : ∃ x y, LD = x :: y :: LD.drop 2 := ⟨_, _, rfl⟩
theorem ldDrop3 : ∃ x, LD.drop 3 = x :: LD.drop 4 := ⟨_, rfl⟩
theorem gSyn : Tryd.prog.globalNamed "strconv.ErrSyntax" = some 1 := by kernel_rfl
theorem gRng : Tryd.prog.globalNamed "strconv.ErrRange" = some 2 := by kernel_rfl
theorem gSynType : (Tryd.prog.globals[1]?).map (·.type) = some 77 := by kernel_rfl
theorem gRngType : (Tryd.prog.globals[2]?).map (·.type) = some 77 := by kernel_rfl
theorem starE : "*" ++ "errors.errorString" = "*errors.errorString" := by decide
theorem rowE (u : TypeId) (h : Tryd.prog.typeName? 3 u = some "*errors.errorString") : u = 126 :=
  typeName_ptr_named (nm := "errors.errorString") (by rw [starE]; kernel_rfl) (by kernel_rfl) (by decide) u (by rw [starE]; exact h)
theorem cellsE : Tryd.prog.cellsOf 128 = 1 := by kernel_rfl
theorem cellsS : Tryd.prog.cellsOf 9 = 1 := by kernel_rfl

theorem lt_of_cell {w : World} {b o : Nat} {v : Value} (h : w.cell? ⟨b, o, none⟩ = some v) : b < w.heap.size := lt_of_cell' h

theorem env_of {W : World} (hL : laidMetH Tryd.prog LD W) (hsh : W.ShapedOpen Tryd.prog) : Env W := by
  rw [MakeChecks.laidMetH_plain _ _ _ ldPlain] at hL
  obtain ⟨x, y, e⟩ := ldDrop
  rw [e] at hL
  have h2 := hL.tail.tail
  rw [ldTail] at h2
  have h3 := h2.tail
  obtain ⟨z, e3⟩ := ldDrop3
  rw [e3] at h3
  have h4 := h3.tail
  rw [ldRng] at h4
  have h5 := h4.tail
  rw [ldSyn] at h5
  obtain ⟨m, hm⟩ := Tryd.laysM146.s1_3 W hsh
  obtain ⟨a1, s1, v1, _, _, _⟩ := laid_sentinel h4 gRng gRngType Tryd.underlying77 rowE Tryd.underlying126 Tryd.underlying128 rfl rfl Tryd.underlying9 cellsE cellsS
  obtain ⟨a2, s2, v2, _, _, _⟩ := laid_sentinel h5 gSyn gSynType Tryd.underlying77 rowE Tryd.underlying126 Tryd.underlying128 rfl rfl Tryd.underlying9 cellsE cellsS
  have c1 := World.var?_cell gRng v1 0
  have c2 := World.var?_cell gSyn v2 0
  exact ⟨Lib.tabIs_of_head gTab gTabType Tryd.underlying117 Tryd.underlying102 cellsU64 cellsTab h2, ⟨m, hm⟩, lt_of_cell hm, ⟨_, by simpa using c2, .inr ⟨_, _, rfl⟩⟩, ⟨_, by simpa using c1, .inr ⟨_, _, rfl⟩⟩⟩

/-- A slice of ints that came in. -/
theorem rd_of_cells {W : World} {x : Addr} {len : Nat} {zs : List Int} (hl : len ≤ zs.length) (hcell : ∀ i, i < zs.length → W.cell? (x.add i) = some (.int .i64 (zs.getD i 0))) (hw : ∀ n ∈ zs, (Lit.int .i64 n).wf = true) :
    ∃ ys, ys.length = len ∧ Rd W (some x) ys ∧ M.I64 ys := by
  refine ⟨zs.take len, by rw [List.length_take]; omega, fun hp => ?_, fun z hz => ?_⟩
  · rw [List.length_take] at hp
    obtain ⟨b, off, spot⟩ := x
    have hc := hcell 0 (by omega)
    have hspot : spot = none := by simpa [Addr.add] using World.cell?_spot hc
    subst hspot
    have hb : b < W.heap.size := by
      rw [Addr.add_lit] at hc
      exact lt_of_cell hc
    refine ⟨b, off, rfl, hb, fun k hk => ?_⟩
    rw [List.length_take] at hk
    have := hcell k (by omega)
    rw [Addr.add_lit] at this
    rw [this, List.getElem?_take, if_pos (by omega)]
    rfl
  · have := hw z (List.mem_of_mem_take hz)
    exact bounds_i64 this

/-- A slice of ints that came in, nil too; its capacity. -/
theorem open_list {H : Type} {enc : TypeId × Value → H} {W : World} {a : Option Addr} {len cap : Nat} {d : DataW H} {p : List MemPlace}
    (h : DataW.Trod enc Tryd.prog W 0 (fun _ => true) true 22 (.slice a len cap) d p) : ∃ ys, ys.length = len ∧ Rd W a ys ∧ M.I64 ys ∧ len ≤ cap := by
  obtain ⟨fuel, hf⟩ := h
  rcases open_ints Tryd.underlying22 Tryd.underlying3 (by kernel_rfl) hf with ⟨hcs, _⟩ | ⟨x, l, c, zs, hcs, _, hl, hm, hz, _, hcell, hwz⟩
  · simp [Value.cells] at hcs
    obtain ⟨rfl, rfl, rfl⟩ := hcs
    exact ⟨[], rfl, Rd.nil_, fun _ h => (by cases h), Nat.le_refl _⟩
  · simp [Value.cells] at hcs
    obtain ⟨rfl, rfl, rfl⟩ := hcs
    obtain ⟨ys, h1, h2, h3⟩ := rd_of_cells (zs := zs) (len := len) (by simp at hz; omega) hcell hwz
    exact ⟨ys, h1, h2, h3, hl⟩
/-- A slice of bytes that came in. -/
theorem rd8_of_cells {W : World} {x : Addr} {len : Nat} {zs : List Int} (hl : len ≤ zs.length) (hcell : ∀ i, i < zs.length → W.cell? (x.add i) = some (.int .u8 (zs.getD i 0))) (hw : ∀ n ∈ zs, (Lit.int .u8 n).wf = true) :
    ∃ ys, ys.length = len ∧ Rd8 W (some x) ys := by
  refine ⟨zs.take len, by rw [List.length_take]; omega, fun hp => ?_⟩
  rw [List.length_take] at hp
  obtain ⟨b, off, spot⟩ := x
  have hc := hcell 0 (by omega)
  have hspot : spot = none := by simpa [Addr.add] using World.cell?_spot hc
  subst hspot
  have hb : b < W.heap.size := by
    rw [Addr.add_lit] at hc
    exact lt_of_cell hc
  refine ⟨b, off, rfl, hb, fun k hk => ?_⟩
  rw [List.length_take] at hk
  have := hcell k (by omega)
  rw [Addr.add_lit] at this
  have hwk := hw zs[k] (List.getElem_mem (by omega))
  have hbd := bounds_u8 hwk
  rw [this, List.getElem?_take, if_pos (by omega), List.getElem?_eq_getElem (show k < zs.length by omega)]
  refine ⟨?_, hbd.1, hbd.2⟩
  simp [List.getD, List.getElem?_eq_getElem (show k < zs.length by omega)]
theorem one_of {α : Type} {cs : Array α} (h : cs.size = 1) : ∃ c0, cs = #[c0] := by
  obtain ⟨l⟩ := cs
  match l, h with
  | [c0], _ => exact ⟨c0, rfl⟩
theorem cellsPt : Tryd.prog.cellsOf 50 = 1 := by kernel_rfl
theorem cellsL8 : Tryd.prog.cellsOf 48 = 1 := by kernel_rfl
set_option maxRecDepth 100000 in
/-- A word as plain data that came in. -/
theorem open_Pt {H : Type} {enc : TypeId × Value → H} {W : World} {v : Value} {d : DataW H} {p : List MemPlace} {base : Nat} (hv : Value.okWide Tryd.prog W .any base 50 v)
    (h : DataW.Trod enc Tryd.prog W 0 (fun _ => true) true 50 v d p) : ∃ a len cap ys, v = .agg #[.slice a len cap] ∧ ys.length = len ∧ Rd8 W a ys ∧ len ≤ 9223372036854775807 := by
  obtain ⟨cs, rfl, hsz⟩ := okWide_struct Tryd.underlying50 hv
  obtain ⟨c0, rfl⟩ := one_of (hsz.trans cellsPt)
  obtain ⟨fuel, hf⟩ := h
  obtain ⟨y0, n, _, _, h0⟩ := trod_struct1 Tryd.underlying50 hf
  have h1 : DataW.trod enc Tryd.prog W 0 (fun _ => true) true n 48 [c0] = some y0 := by
    have := h0
    simp only [cellsL8] at this
    simpa [Value.cells] using this
  rcases open_ints Tryd.underlying48 Tryd.underlying5 (by kernel_rfl) h1 with ⟨hcs, _⟩ | ⟨x, l, c, zs, hcs, _, hl, hm, hz, _, hcell, hwz⟩
  · simp at hcs
    subst hcs
    exact ⟨none, 0, 0, [], rfl, rfl, Rd8.nil_, by omega⟩
  · simp at hcs
    subst hcs
    obtain ⟨ys, h2, h3⟩ := rd8_of_cells (zs := zs) (len := l) (by simp at hz; omega) hcell hwz
    refine ⟨_, _, _, ys, rfl, h2, h3, ?_⟩
    unfold maxLen at hm
    omega

theorem arrP' : WideMaps.ArrKey Tryd.prog 45 3 2 := arrP
/-- A pair's cells, read. -/
theorem trod_pair {H : Type} {enc : TypeId × Value → H} {W : World} {n : Nat} {cs : List Value} {y : DataW H × List MemPlace}
    (h : DataW.trod enc Tryd.prog W 0 (fun _ => true) true n 45 cs = some y) (hl : cs.length = 2) : ∃ a b : Int, cs = [.int .i64 a, .int .i64 b] := by
  match cs, hl with
  | [c0, c1], _ =>
    cases n with
    | zero => simp [DataW.trod] at h
    | succ n =>
      rw [DataW.trod_step] at h
      unfold DataW.trodStep at h
      simp only [arrP.hu] at h
      rw [if_pos (by rw [arrP.size]; rfl)] at h
      simp only [Option.map_eq_some_iff] at h
      obtain ⟨xs, hx, e1⟩ := h
      rw [show List.range 2 = [0, 1] from rfl, List.mapM_cons, List.mapM_cons, List.mapM_nil] at hx
      simp only [bind, Option.bind_eq_some_iff, pure, Option.some.injEq, arrP.one] at hx
      obtain ⟨y0, h0, _, ⟨y1, h1, _, rfl, rfl⟩, rfl⟩ := hx
      obtain ⟨a, ea, _, _⟩ := DataW.trod_int Tryd.underlying3 h0
      obtain ⟨b, eb, _, _⟩ := DataW.trod_int Tryd.underlying3 h1
      simp at ea eb
      subst ea; subst eb
      exact ⟨a, b, rfl⟩
/-- A list of pairs that came in, nil too. -/
theorem open_pairs {H : Type} {enc : TypeId × Value → H} {W : World} {a : Option Addr} {len cap : Nat} {d : DataW H} {p : List MemPlace}
    (h : DataW.Trod enc Tryd.prog W 0 (fun _ => true) true 43 (.slice a len cap) d p) : ∃ ps : List (Int × Int), ps.length = len ∧ RdP W a ps := by
  obtain ⟨fuel, hf⟩ := h
  rcases Go.Deep.open_slice Tryd.underlying43 hf with ⟨hcs, _⟩ | ⟨x, l, c, m, n, D, Pl, hcs, _, hl, _, hm, _, hx⟩
  · simp [Value.cells] at hcs
    obtain ⟨rfl, rfl, rfl⟩ := hcs
    exact ⟨[], rfl, RdP.nil_⟩
  · simp [Value.cells] at hcs
    obtain ⟨rfl, rfl, rfl⟩ := hcs
    have hm' : m = cap := by rw [hm]; simp
    have each : ∀ i, i < len → ∃ q : Int × Int, W.cell? (x.add (i * 2)) = some (.int .i64 q.1) ∧ W.cell? (x.add (i * 2 + 1)) = some (.int .i64 q.2) := by
      intro i hi
      obtain ⟨cs', h1, h2⟩ := hx i (by omega)
      rw [cellsP] at h1
      obtain ⟨_, hlen, hcell⟩ := World.cells?_some h1
      obtain ⟨u, v, rfl⟩ := trod_pair h2 hlen
      have e0 := hcell 0 (by omega)
      have e1 := hcell 1 (by omega)
      rw [Go.Deep.add_add] at e0 e1
      exact ⟨(u, v), by simpa using e0, by simpa using e1⟩
    obtain ⟨q, hq⟩ := Go.Deep.choose_lt each
    refine ⟨(List.range len).map q, by simp, fun hp => ?_⟩
    simp only [List.length_map, List.length_range] at hp
    obtain ⟨b, off, spot⟩ := x
    have h0 := (hq 0 hp).1
    have hspot : spot = none := by simpa [Addr.add] using World.cell?_spot h0
    subst hspot
    have hb : b < W.heap.size := by
      rw [Addr.add_lit] at h0
      exact lt_of_cell h0
    refine ⟨b, off, rfl, hb, fun k hk => ?_⟩
    simp only [List.length_map, List.length_range] at hk
    have := hq k hk
    rw [Addr.add_lit, Addr.add_lit] at this
    simpa [hk, Nat.add_assoc] using this
end Go.Proofs.YtnhibkkkpmaddaaDoor
