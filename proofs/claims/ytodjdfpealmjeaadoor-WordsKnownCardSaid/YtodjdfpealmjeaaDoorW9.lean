/-
  Contracts: words.Text.
-/
import Derived.Test.YtodjdfpealmjeaaDoorW1
import Derived.Test.YtodjdfpealmjeaaDoorShelf
import Derived.Test.YtodjdfpealmjeaaDoorTextM
import Derived.Deep.OwnRows
import Derived.Lib.AppendIntMem
import Derived.Lib.SmallJoins
import Derived.Deep.RegionWith
import Derived.Deep.QuietTactic
import Derived.BigQuiet
namespace Go.Proofs.YtodjdfpealmjeaaDoor
open Go.RowKit

/-- What the library's functions ask of the program's own variables. -/
structure Env (w : World) : Prop where
  tab : Lib.TabIs Tryd.prog w "internal/strconv.uint64pow10" .u64 Lib.pow10Tab
  max : ∃ m, w.cell? ⟨1, 0, none⟩ = some (.int .i64 m)
  size : 1 < w.heap.size
theorem gTab : Tryd.prog.globalNamed "internal/strconv.uint64pow10" = some 0 := by kernel_rfl
theorem Env.below {w w' : World} (h : Env w) (hb : Below w.heap.size w w') : Env w' := by
  obtain ⟨m, hm⟩ := h.max
  have hs := h.size
  have hs2 := hb.size
  exact ⟨Joins.tab_stays gTab h.tab hb (Nat.le_refl _), ⟨m, (hb.cell (p := ⟨1, 0, none⟩) hs).trans hm⟩, by omega⟩

theorem itoa_any (z : Int) (w : World) (he : Env w) (h1 : -9223372036854775808 ≤ z) (h2 : z ≤ 9223372036854775807) :
    Calls Tryd.prog 38 #[.int .i64 z] w fun e w' => e = .returned (.string ⟨(Lib.itoa z).toArray⟩) ∧ Below w.heap.size w w' :=
  (Tryd.strconv_Itoa z h1 h2 w he.tab).mono fun _ _ ⟨he, k, os, hw⟩ => ⟨he, by rw [hw]; exact Lib.below_grow _ _ (Nat.le_refl _) k os⟩

theorem str_info : (Tryd.prog.info? 9).map (fun i => (i.zero, i.size, i.bytes)) = some (some (.string ⟨#[]⟩), 1, 16) := by kernel_rfl
/-- Block g is known whole: the strings ss. -/
def BlkS (w : World) (g : Nat) (ss : List ByteArray) : Prop := w.heap[g]? = some (.cells (ss.map Value.string).toArray 9 (0, 0))
section
variable {w w' : World} {g : Nat} {ss : List ByteArray}
theorem BlkS.lt (h : BlkS w g ss) : g < w.heap.size := by
  rcases Nat.lt_or_ge g w.heap.size with hlt | hge
  · exact hlt
  · unfold BlkS at h; rw [Array.getElem?_eq_none hge] at h; cases h
theorem BlkS.cell (h : BlkS w g ss) (k : Nat) (x : ByteArray) (hx : ss[k]? = some x) : w.cell? ⟨g, 0 + k, none⟩ = some (.string x) := by
  rw [cell_of_row w g (0 + k) _ 9 (0, 0) h, Nat.zero_add]
  simp [hx]
theorem BlkS.at_ (h : BlkS w g ss) {k : Nat} (hk : k < ss.length) : ∃ x, w.cell? ⟨g, k, none⟩ = some (.string x) ∧ w.frozen? ⟨g, k, none⟩ = false ∧ Hid (ss[k]? = some x) := by
  have e := List.getElem?_eq_getElem hk
  refine ⟨ss[k], ?_, ?_, e⟩
  · have := h.cell k _ e
    rwa [Nat.zero_add] at this
  · unfold BlkS at h
    simp [World.frozen?, h]
theorem BlkS.set_ (h : BlkS w g ss) (k : Nat) (v : ByteArray) : BlkS (w.setCell ⟨g, k, none⟩ (.string v)) g (ss.set k v) := by
  unfold BlkS at h ⊢
  simp [World.setCell, Array.getElem?_modify, h, List.map_set]
theorem BlkS.far (h : BlkS w g ss) {g2 : Nat} (hg : g ≠ g2) (k : Nat) (u : Value) : BlkS (w.setCell ⟨g2, k, none⟩ u) g ss := (Below.heap_setCell w ⟨g2, k, none⟩ u g hg).trans h
theorem BlkS.below {B : Nat} (h : BlkS w g ss) (hb : Below B w w') (hg : g < B) : BlkS w' g ss := (hb.block g hg).trans h
end
/-- make([]string, n): a block of empty strings. -/
theorem wpList_make_strs (w : World) {ops : Array Oper} {rest : List Oper} {o : Oper} {a : Act} {Q : Exit → Act → World → Prop}
    (hg : o.guard = none) (l c : Operand) (hop : o.op = Op.makeSlice 57 l c) (L : Int) (n : Nat) (hl : a.eval l = .int .i64 L) (hc : a.eval c = .int .i64 L) (hL : L = (n : Int)) (hn : n ≤ 1000000)
    (hK : ∀ w', Hid (BlkS w' w.heap.size (List.replicate n ⟨#[]⟩)) → Below w.heap.size w w' → wpList Tryd.prog ops Q rest (a.put o.dst (.slice (some ⟨w.heap.size, 0, none⟩) n n)) w') :
    wpList Tryd.prog ops Q (o :: rest) a w := by
  subst hL
  refine wpList_plain hg fun K hK' => ?_
  have hrun := run_make_row' (P := Tryd.prog) 57 9 (.string ⟨#[]⟩) 16 Tryd.underlying57 str_info rfl .i64 .i64 n (by omega) (by omega) w
  unfold Oper.wp
  simp [execOp, hop, hl, hc, hrun, Result.andThen]
  refine hK' _ _ (hK _ ?_ ((Below.refl _ _).alloc (Nat.le_refl _) _))
  show _ = _
  rw [heap_alloc_new]
  have e := toList_madeCells_one (.string ⟨#[]⟩) n
  have e2 : madeCells #[.string ⟨#[]⟩] n = ((List.replicate n (⟨#[]⟩ : ByteArray)).map Value.string).toArray := by
    rw [← Array.toList_inj, e]
    simp
  rw [e2]

theorem sjoin_at (g n : Nat) (zs : List Int) (ss : List ByteArray) (w : World) (hB : BlkS w g ss) (hs : ss = zs.map M.numB) (hn : zs.length = n) (hp : 0 < zs.length) (hl : zs.length ≤ 100000) (hv : M.I64 zs) :
    Calls Tryd.prog 39 #[.slice (some ⟨g, 0, none⟩) n n, .string ⟨#[32]⟩] w fun e w' => e = .returned (.string ⟨(M.textL zs).toArray⟩) ∧ Below w.heap.size w w' := by
  have e1 : ss.length = n := by rw [hs, List.length_map]; exact hn
  have e2 : Lib.join (ss.map (·.data.toList)) (⟨#[32]⟩ : ByteArray).data.toList = M.textL zs := by
    rw [hs, M.numB_data, M.textL_cons hp]
  subst e1
  have := Tryd.strings_Join g 0 ss.length ss ⟨#[32]⟩ w hB.cell hB.lt (by omega) (Nat.le_refl _) (by rw [e2]; have := M.text_len hv; omega)
  rwa [e2] at this

set_option maxRecDepth 100000 in
set_option maxHeartbeats 400000 in
theorem text_any (A : Option Addr) (c : Nat) (zs : List Int) (w : World) (he : Env w) (h : Rd w A zs) (hv : M.I64 zs) (hl : zs.length ≤ 100000) :
    Calls Tryd.prog 28 #[.slice A zs.length c] w fun e w' => e = .returned (.string ⟨(M.textL zs).toArray⟩) ∧ Below w.heap.size w w' := by
  by_cases h0 : zs = []
  · subst h0
    rw [M.textL_nil]
    go_enter Tryd.func28, Tryd.ntmps28
    go_wp2
    go_ret
    exact ⟨rfl, Below.refl _ _⟩
  · have hp : 0 < zs.length := List.length_pos_iff.2 h0
    have hne : ((zs.length : Int) == 0) = false := by simp; omega
    have HT := Lib.hid (M.textL_cons hp)
    clear h0
    go_enter Tryd.func28, Tryd.ntmps28
    go_wp2_with (refine wpList_make_strs _ rfl _ _ rfl _ zs.length rfl rfl rfl (by omega) ?_)
    intro w1 hB1 hb1
    go_wp2
    obtain ⟨g, hg⟩ : ∃ g, w.heap.size = g := ⟨_, rfl⟩
    have hgB : w.heap.size ≤ g := by omega
    rw [hg] at hB1 ⊢
    clear hg
    go_loopw [14] (fun i wr => ∃ (k : Nat) (ss : List ByteArray), k ≤ zs.length ∧ i = .int .i64 k ∧ Hid (BlkS wr g ss) ∧ Hid (M.Tx zs k ss) ∧ Below w.heap.size w wr) (fun i _ => zs.length - (intOf i).toNat)
    case atStart => exact ⟨0, _, Nat.zero_le _, rfl, hB1, M.Tx.start zs, hb1⟩
    case round =>
      obtain ⟨k, ss, hk, rfl, hB, hX, hbr⟩ := hrel
      clear hB1 hb1
      by_cases hlt : k < zs.length
      · have hlen := Lib.hid (hX.out.len hk)
        obtain ⟨b, off, z, rfl, hb, hc, hz⟩ := (h.below hbr).at_ hlt
        have hzb := hv.at_ hlt
        rw [hz.out] at hzb
        obtain ⟨hz1, hz2⟩ := hzb
        have HS := Lib.hid (hX.out.step hlt hz.out)
        have hgl := hB.out.lt
        go_wp2_with fail
        refine (itoa_any _ _ (he.below hbr) hz1 hz2).mono ?_
        rintro e w2 ⟨rfl, hb2⟩
        rw [M.numB_def]
        have hB2 := Lib.hid (hB.out.below hb2 hgl)
        obtain ⟨x, hc2, hf2, hx⟩ := hB2.out.at_ (k := k) (by rw [hlen.out]; omega)
        have hbr2 := below_next hbr hb2
        clear hc hX hB hbr hb2 hgl
        go_wp2
        go_roundw
        case rel => exact ⟨k + 1, _, by omega, by go_num, hB2.out.set_ k (M.numB z), HS, hbr2.setCell hgB _⟩
        case measure => simp [intOf]; omega
      · obtain rfl : k = zs.length := by omega
        have HD := Lib.hid hX.out.done
        go_wp2_with fail
        refine (sjoin_at g zs.length zs ss wr hB.out HD.out rfl hp hl hv).mono ?_
        rintro e w2 ⟨rfl, hb2⟩
        go_wp2
        go_ret
        exact ⟨rfl, below_next hbr hb2⟩
end Go.Proofs.YtodjdfpealmjeaaDoor
