/-
  Contracts: a word as a key, and back. No statement is proved here.
-/
import Derived.Test.YtjodhihcckcefaaU3
import Derived.Test.YtjodhihcckcefaaW6
import Derived.Laws.IdiomStrings
import Derived.Laws.BitsLemmas
namespace Go.Proofs.Ytjodhihcckcefaa
open Go.RowKit

theorem u8_info : (Try.prog.info? 5).map (fun i => (i.zero, i.size, i.bytes)) = some (some (.int .u8 0), 1, 1) := by kernel_rfl
def ints8 (zs : List Int) : List Value := zs.map (Value.int .u8)
theorem ints8_at {zs : List Int} {k : Nat} (h : k < zs.length) : (ints8 zs)[k]? = some (.int .u8 (zs[k]?.getD 0)) := by
  unfold ints8
  rw [List.getElem?_map, List.getElem?_eq_getElem h]
  rfl
/-- Block g is known whole: the bytes cs. -/
def Blk8 (w : World) (g : Nat) (cs : List Int) : Prop := w.heap[g]? = some (.cells (ints8 cs).toArray 5 (0, 0))
theorem Blk8.lt {w : World} {g : Nat} {cs : List Int} (h : Blk8 w g cs) : g < w.heap.size := by
  rcases Nat.lt_or_ge g w.heap.size with hlt | hge
  · exact hlt
  · unfold Blk8 at h; rw [Array.getElem?_eq_none hge] at h; cases h
theorem Blk8.at_ {w : World} {g : Nat} {cs : List Int} (h : Blk8 w g cs) {k : Nat} (hk : k < cs.length) : ∃ z, w.cell? ⟨g, k, none⟩ = some (.int .u8 z) ∧ w.frozen? ⟨g, k, none⟩ = false := by
  refine ⟨cs[k]?.getD 0, ?_, ?_⟩
  · rw [cell_of_row w g k _ 5 (0, 0) h]
    simpa using ints8_at hk
  · unfold Blk8 at h
    simp [World.frozen?, h]
theorem Blk8.set_ {w : World} {g : Nat} {cs : List Int} (h : Blk8 w g cs) (k : Nat) (v : Int) : Blk8 (w.setCell ⟨g, k, none⟩ (.int .u8 v)) g (cs.set k v) := by
  unfold Blk8 at h ⊢
  simp [World.setCell, Array.getElem?_modify, h, ints8, List.map_set]
/-- make([]byte, n): a block of zeros. -/
theorem wpList_make_bytes (w : World) {ops : Array Oper} {rest : List Oper} {o : Oper} {a : Act} {Q : Exit → Act → World → Prop}
    (hg : o.guard = none) (l c : Operand) (hop : o.op = Op.makeSlice 99 l c) (L : Int) (n : Nat) (hl : a.eval l = .int .i64 L) (hc : a.eval c = .int .i64 L) (hL : L = (n : Int)) (hn : n ≤ 65537)
    (hK : ∀ w', Hid (Blk8 w' w.heap.size (List.replicate n 0)) → Below w.heap.size w w' → wpList Try.prog ops Q rest (a.put o.dst (.slice (some ⟨w.heap.size, 0, none⟩) n n)) w') :
    wpList Try.prog ops Q (o :: rest) a w := by
  subst hL
  refine wpList_plain hg fun K hK' => ?_
  have hrun := run_make_row' (P := Try.prog) 99 5 (.int .u8 0) 1 Try.underlying99 u8_info rfl .i64 .i64 n (by omega) (by omega) w
  unfold Oper.wp
  simp [execOp, hop, hl, hc, hrun, Result.andThen]
  refine hK' _ _ (hK _ ?_ ((Below.refl _ _).alloc (Nat.le_refl _) _))
  show _ = _
  rw [heap_alloc_new]
  have e := toList_madeCells_one (.int .u8 0) n
  have e2 : madeCells #[.int .u8 0] n = (ints8 (List.replicate n 0)).toArray := by
    rw [← Array.toList_inj, e]
    simp [ints8]
  rw [e2]
/-- What has been written of a row of zeros. -/
def wr0 (x : List Int) (k : Nat) : List Int := x.take k ++ List.replicate (x.length - k) 0
theorem wr0_len (x : List Int) {k : Nat} (h : k ≤ x.length) : (wr0 x k).length = x.length := by simp [wr0]; omega
theorem wr0_set (x : List Int) {k : Nat} (h : k < x.length) {v : Int} (hv : x[k]?.getD 0 = v) : (wr0 x k).set k v = wr0 x (k + 1) := by
  subst hv
  unfold wr0
  have h1 : (x.take k).length = k := by simp; omega
  rw [List.set_append_right _ _ (by omega), h1, Nat.sub_self, take_snoc' x k h, List.append_assoc]
  congr 1
  rw [show x.length - k = (x.length - (k + 1)) + 1 by omega, List.replicate_succ]
  rfl
theorem wr0_all (x : List Int) : wr0 x x.length = x := by simp [wr0]
theorem wr0_none (x : List Int) : wr0 x 0 = List.replicate x.length 0 := by simp [wr0]
/-- A key, as a value. -/
def keyV (x : List Int) : Value := .string ⟨(M.kU x).toArray⟩
theorem kU_ints8 {x : List Int} (h : M.By x) : ints8 x = (M.kU x).map fun b => Value.int .u8 (b.toNat : Int) := by
  have := M.uW_kU h
  conv => lhs; rw [← this]
  unfold ints8 M.uW
  rw [List.map_map]
  rfl
theorem key_conv {w : World} {g : Nat} {x : List Int} (h : Blk8 w g x) (hb : M.By x) (n : Nat) (hn : x.length = n) : (convert 99 9 (.slice (some ⟨g, 0, none⟩) n n)).run Try.prog w = .ok (keyV x) w := by
  have := run_convert_bytes_back (P := Try.prog) w 99 9 5 ⟨g, 0, none⟩ n (M.kU x) Try.underlying99 Try.underlying5 Try.underlying9 (fun j hj => by
    unfold Blk8 at h
    rw [kU_ints8 hb] at h
    rw [Addr.add_lit, cell_of_row w g _ _ 5 (0, 0) h]
    simp [hj])
  rw [M.kU_len, hn] at this
  exact this
set_option maxRecDepth 100000 in
set_option maxHeartbeats 1000000 in
theorem key_any (A : Option Addr) (c N : Nat) (x : List Int) (w : World) (h : Rd w A x) (hN : x.length = N) (hm : N ≤ 65537) (hby : M.By x) :
    Calls Try.prog 63 #[.slice A N c] w fun e w' => e = .returned (keyV x) ∧ Below w.heap.size w w' := by
  have HN := Lib.hid hN
  have HB := Lib.hid hby
  have HH := Lib.hid h
  clear hN hby h
  go_enter Try.func63, Try.ntmps63
  go_wp2_with (refine wpList_make_bytes _ rfl _ _ rfl _ N rfl rfl rfl (by omega) ?_)
  intro w1 hB1 hb1
  have s1 : Hid (Blk8 w1 w.heap.size (wr0 x 0)) := by rw [wr0_none, HN.out]; exact hB1.out
  clear hB1
  go_wp2
  go_loopw [11] (fun v wr => ∃ k : Nat, k ≤ N ∧ v = .int .i64 k ∧ Hid (Blk8 wr w.heap.size (wr0 x k)) ∧ Hid (Below w.heap.size w wr)) (fun v _ => N - (intOf v).toNat)
  case atStart => exact ⟨0, Nat.zero_le _, rfl, s1.out, hb1⟩
  case round =>
    obtain ⟨k, hk, rfl, hB, hb⟩ := hrel
    by_cases hlt : k < N
    · have hkl : k < x.length := by rw [HN.out]; exact hlt
      obtain ⟨b, off, z, rfl, hc0, hc, hz⟩ := (HH.out.below hb.out).at_ hkl
      have hz8 := HB.out z (by rw [← hz.out, List.getElem?_eq_getElem hkl]; exact List.getElem_mem hkl)
      have hw8 : IntKind.u8.wrap z = z := by rw [IntKind.wrap_u8]; omega
      obtain ⟨z1, hd, hf⟩ := hB.out.at_ (k := k) (by rw [wr0_len x (by omega)]; exact hkl)
      have hB2 : Hid (Blk8 (wr.setCell ⟨w.heap.size, k, none⟩ (.int .u8 z)) w.heap.size (wr0 x (k + 1))) := by
        rw [← wr0_set x hkl hz.out]
        exact hB.out.set_ _ _
      have hb2 := Lib.hid (hb.out.setCell (p := ⟨w.heap.size, k, none⟩) (by show w.heap.size ≤ w.heap.size; omega) (.int .u8 z))
      clear hB hb
      go_wp2
      go_roundw
      case rel => exact ⟨k + 1, by omega, by go_num, hB2, hb2⟩
      case measure => simp [intOf]; omega
    · obtain rfl : k = N := by omega
      have hall : Hid (Blk8 wr w.heap.size x) := by
        have := hB.out
        rw [← HN.out, wr0_all] at this
        exact this
      have hcv := key_conv hall.out HB.out k HN.out
      clear hB
      go_wp2
      go_ret
      exact ⟨rfl, hb.out⟩
set_option maxRecDepth 100000 in
set_option maxHeartbeats 1000000 in
theorem word_any (s : ByteArray) (x : List Int) (w : World) (hx : M.uW s.data.toList = x) (hm : s.size ≤ 65537) :
    Calls Try.prog 75 #[.string s] w (fun e w' => ∃ g, w.heap.size ≤ g ∧ e = .returned (.slice (some ⟨g, 0, none⟩) x.length x.length) ∧ Blk w' g x ∧ Below w.heap.size w w') := by
  obtain ⟨N, hN⟩ : ∃ N, s.size = N := ⟨_, rfl⟩
  have hxl : x.length = N := by rw [← hx, M.uW_len, ← hN]; rfl
  have hat : ∀ k (hk : k < s.size), ((s[k]'hk).toNat : Int) = x[k]?.getD 0 := fun k hk => by
    have hk2 : k < s.data.toList.length := by simpa using hk
    rw [← hx]
    unfold M.uW
    rw [List.getElem?_map, List.getElem?_eq_getElem hk2]
    rfl
  rw [hxl]
  have HX := Lib.hid hxl
  have HA := Lib.hid hat
  have HS := Lib.hid hN
  clear hxl hat hx
  go_enter Try.func75, Try.ntmps75
  go_wp2_with (refine wpList_make_ints _ rfl _ _ rfl _ N rfl rfl rfl (by omega) ?_)
  intro w1 hB1 hb1
  have s1 : Hid (Blk w1 w.heap.size (wr0 x 0)) := by rw [wr0_none, HX.out]; exact hB1.out
  clear hB1
  go_wp2
  go_loopw [10] (fun v wr => ∃ k : Nat, k ≤ N ∧ v = .int .i64 k ∧ Hid (Blk wr w.heap.size (wr0 x k)) ∧ Hid (Below w.heap.size w wr)) (fun v _ => N - (intOf v).toNat)
  case atStart => exact ⟨0, Nat.zero_le _, rfl, s1.out, hb1⟩
  case round =>
    obtain ⟨k, hk, rfl, hB, hb⟩ := hrel
    by_cases hlt : k < N
    · have hkl : k < x.length := by rw [HX.out]; exact hlt
      have hks : k < s.size := by rw [hN]; exact hlt
      obtain ⟨z, hz⟩ : ∃ z : Int, ((s[k]'hks).toNat : Int) = z := ⟨_, rfl⟩
      have hz2 : Hid (x[k]?.getD 0 = z) := by show _ = _; rw [← HA.out k hks]; exact hz
      have hz8 : 0 ≤ z ∧ z < 256 := by have := (s[k]'hks).toNat_lt; omega
      have hw8 : IntKind.i64.wrap z = z := IntWalk.i64_in _ (by omega)
      obtain ⟨z1, hd, hf, _⟩ := hB.out.at_ (k := k) (by rw [wr0_len x (by omega)]; exact hkl)
      have hB2 : Hid (Blk (wr.setCell ⟨w.heap.size, k, none⟩ (.int .i64 z)) w.heap.size (wr0 x (k + 1))) := by
        rw [← wr0_set x hkl hz2.out]
        exact hB.out.set_ _ _
      have hb2 := Lib.hid (hb.out.setCell (p := ⟨w.heap.size, k, none⟩) (by show w.heap.size ≤ w.heap.size; omega) (.int .i64 z))
      clear hB hb
      go_wp2
      go_roundw
      case rel => exact ⟨k + 1, by omega, by go_num, hB2, hb2⟩
      case measure => simp [intOf]; omega
    · obtain rfl : k = N := by omega
      have hall : Hid (Blk wr w.heap.size x) := by
        have := hB.out
        rw [← HX.out, wr0_all] at this
        exact this
      clear hB
      go_wp2
      go_ret
      exact ⟨_, Nat.le_refl _, rfl, hall.out, hb.out⟩
end Go.Proofs.Ytjodhihcckcefaa
