/-
  Contracts: words.following and words.Next.
-/
import Derived.Test.YtjodhihcckcefaaW3
import Derived.Test.YtjodhihcckcefaaBaZ
import Derived.Deep.OwnRows
import Derived.Laws.CopyOwn
namespace Go.Proofs.Ytjodhihcckcefaa
open Go.RowKit

/-- A list in new memory, without spare capacity. -/
def Exact (w : World) (zs : List Int) (e : Ending) (w' : World) : Prop := ∃ A, e = .returned (.slice A zs.length zs.length) ∧ Rd w' A zs ∧ Below w.heap.size w w'
/-- The same with an error beside it. -/
def Made (w : World) (zs : List Int) (f : Int) (e : Ending) (w' : World) : Prop := ∃ A, e = .returned (.tuple #[.slice A zs.length zs.length, .int .i64 f]) ∧ Rd w' A zs ∧ Below w.heap.size w w'

/-- Block g is known whole: the ints cs. -/
def Blk (w : World) (g : Nat) (cs : List Int) : Prop := w.heap[g]? = some (.cells (ints cs).toArray 3 (0, 0))
section
variable {w w' : World} {g : Nat} {cs : List Int}
theorem Blk.lt (h : Blk w g cs) : g < w.heap.size := by
  rcases Nat.lt_or_ge g w.heap.size with hlt | hge
  · exact hlt
  · unfold Blk at h; rw [Array.getElem?_eq_none hge] at h; cases h
theorem Blk.cell (h : Blk w g cs) {k : Nat} (hk : k < cs.length) : w.cell? ⟨g, k, none⟩ = some (.int .i64 (cs[k]?.getD 0)) := by
  rw [cell_of_row w g k _ 3 (0, 0) h]
  simpa using ints_at hk
theorem Blk.at_ (h : Blk w g cs) {k : Nat} (hk : k < cs.length) : ∃ z, w.cell? ⟨g, k, none⟩ = some (.int .i64 z) ∧ w.frozen? ⟨g, k, none⟩ = false ∧ Hid (cs[k]?.getD 0 = z) := by
  refine ⟨_, h.cell hk, ?_, rfl⟩
  unfold Blk at h
  simp [World.frozen?, h]
theorem Blk.set_ (h : Blk w g cs) (k : Nat) (v : Int) : Blk (w.setCell ⟨g, k, none⟩ (.int .i64 v)) g (cs.set k v) := by
  unfold Blk at h ⊢
  simp [World.setCell, Array.getElem?_modify, h, ints, List.map_set]
theorem Blk.drewN (h : Blk w g cs) (n : Nat) : Blk (w.drewN n) g cs := h
theorem Blk.below {B : Nat} (h : Blk w g cs) (hb : Below B w w') (hg : g < B) : Blk w' g cs := (hb.block g hg).trans h
theorem Blk.rd (h : Blk w g cs) : Rd w (some ⟨g, 0, none⟩) cs := Rd.of_block h
end

/-- make([]int, n): a block of zeros. -/
theorem wpList_make_ints (w : World) {ops : Array Oper} {rest : List Oper} {o : Oper} {a : Act} {Q : Exit → Act → World → Prop}
    (hg : o.guard = none) (l c : Operand) (hop : o.op = Op.makeSlice 23 l c) (L : Int) (n : Nat) (hl : a.eval l = .int .i64 L) (hc : a.eval c = .int .i64 L) (hL : L = (n : Int)) (hn : n ≤ 65537)
    (hK : ∀ w', Hid (Blk w' w.heap.size (List.replicate n 0)) → Below w.heap.size w w' → wpList Try.prog ops Q rest (a.put o.dst (.slice (some ⟨w.heap.size, 0, none⟩) n n)) w') :
    wpList Try.prog ops Q (o :: rest) a w := by
  subst hL
  refine wpList_plain hg fun K hK' => ?_
  have hrun := run_make_row' (P := Try.prog) 23 3 (.int .i64 0) 8 Try.underlying23 int_info rfl .i64 .i64 n (by omega) (by omega) w
  unfold Oper.wp
  simp [execOp, hop, hl, hc, hrun, Result.andThen]
  refine hK' _ _ (hK _ ?_ ((Below.refl _ _).alloc (Nat.le_refl _) _))
  show _ = _
  rw [heap_alloc_new]
  have e := toList_madeCells_one (.int .i64 0) n
  have e2 : madeCells #[.int .i64 0] n = (ints (List.replicate n 0)).toArray := by
    rw [← Array.toList_inj, e]
    simp [ints]
  rw [e2]

/-- copy(next, w), next as long as w. -/
theorem wpList_copy_ints (w : World) {ops : Array Oper} {rest : List Oper} {o : Oper} {a : Act} {Q : Exit → Act → World → Prop} (hgd : o.guard = none) (d s : Operand)
    (ho : o.op = .call { callee := .builtin .copy, args := #[d, s], argTypes := #[23, 23] }) (A : Option Addr) (n g dcap c : Nat) (cur zs : List Int) (hd : a.eval d = .slice (some ⟨g, 0, none⟩) n dcap) (hs : a.eval s = .slice A n c)
    (hB : Blk w g cur) (hcur : cur.length = n) (hr : Rd w A zs) (hzs : zs.length = n) (B : Nat) (w0 : World) (hb : Below B w0 w) (hBg : B ≤ g)
    (h : ∀ w', Hid (Blk w' g zs) → Below B w0 w' → wpList Try.prog ops Q rest (a.put o.dst (goInt n)) w') : wpList Try.prog ops Q (o :: rest) a w := by
  refine wpList_copy_splice hgd d s 23 23 ho 3 Try.underlying23 (by kernel_rfl) (some ⟨g, 0, none⟩) A n dcap n c hd hs g 0 (ints cur) 3 hB (ints zs) (by rw [ints_len, hzs]; exact (Nat.min_self n).symm) ?_ (by rw [ints_len, ints_len]; omega) ?_ B w0 hb hBg ?_
  · intro hp
    rw [ints_len] at hp
    obtain ⟨b, off, rfl, hb2, hc⟩ := hr hp
    refine ⟨rfl, _, rfl, fun j v hv => ?_⟩
    have hj : j < zs.length := by
      rcases Nat.lt_or_ge j zs.length with h1 | h1
      · exact h1
      · rw [List.getElem?_eq_none (by rw [ints_len]; exact h1)] at hv; cases hv
    rw [ints_at hj] at hv
    injection hv with hv
    subst hv
    rw [Addr.add_lit]
    exact hc j hj
  · intro v hv
    simp only [ints, List.mem_map] at hv
    obtain ⟨z, _, rfl⟩ := hv
    rfl
  · intro w' hg' hb'
    have e : splice (ints cur) 0 (ints zs) = ints zs := by simp [splice, ints, hcur, hzs]
    rw [e] at hg'
    rw [ints_len, hzs]
    exact h w' hg' hb'

set_option maxRecDepth 100000 in
set_option maxHeartbeats 400000 in
theorem follow_any (A : Option Addr) (c : Nat) (zs : List Int) (n : Int) (w : World) (h : Rd w A zs) (hl : zs.length ≤ 65536) (hn1 : 1 ≤ n) (hn2 : n ≤ 16) (hv : M.Val n zs) :
    Calls Try.prog 93 #[.slice A zs.length c, .int .i64 n] w (Exact w (M.next n zs)) := by
  obtain ⟨i0, hi0, hz0, hz1, hz2⟩ := info_parts int_info
  go_enter Try.func93, Try.ntmps93
  go_wp2_with (refine wpList_make_ints _ rfl _ _ rfl _ zs.length rfl rfl rfl (by omega) ?_)
  intro w1 hB1 hb1
  have hr1 := h.below hb1
  go_wp2_with (with_reducible refine wpList_copy_ints _ rfl (.tmp 11) (.tmp 12) rfl A zs.length w.heap.size zs.length c (List.replicate zs.length 0) zs rfl rfl hB1.out (by simp) hr1 rfl w.heap.size w hb1 (Nat.le_refl _) ?_)
  intro w2 hB2 hb2
  clear hB1 hb1 hr1
  go_wp2
  go_loopw [16] (fun i wr => ∃ (k : Nat) (cur : List Int), k ≤ zs.length ∧ i = .int .i64 k ∧ Hid (Blk wr w.heap.size cur) ∧ Hid (M.Fol n zs k cur) ∧ Below w.heap.size w wr) (fun i _ => zs.length - (intOf i).toNat)
  case atStart => exact ⟨0, zs, Nat.zero_le _, rfl, hB2, M.Fol.start n zs, hb2⟩
  case round =>
    obtain ⟨k, cur, hk, rfl, hB, hF, hbr⟩ := hrel
    clear hB2 hb2
    by_cases hlt : k < zs.length
    · have hlen := Lib.hid (hF.out.len hk)
      obtain ⟨z, hc, hf, hz⟩ := hB.out.at_ (k := zs.length - 1 - k) (by rw [hlen.out]; omega)
      obtain ⟨hv1, hv2⟩ := hF.out.val hlt hz.out hv
      by_cases hup : z < n - 1
      · have HN := Lib.hid (hF.out.up hlt hz.out hup)
        go_wp2
        go_ret
        refine ⟨some ⟨w.heap.size, 0, none⟩, ?_, ?_, hbr.setCell (by show w.heap.size ≤ w.heap.size; omega) _⟩
        · rw [HN.out, List.length_set, hlen.out]
          rfl
        · rw [HN.out]
          exact (hB.out.set_ _ _).rd
      · have HN := Lib.hid (hF.out.over hlt hz.out hup)
        go_wp2
        go_roundw
        case rel => exact ⟨k + 1, _, by omega, by go_num, hB.out.set_ (zs.length - 1 - k) 0, HN, hbr.setCell (by show w.heap.size ≤ w.heap.size; omega) _⟩
        case measure => simp [intOf]; omega
    · obtain rfl : k = zs.length := by omega
      have HN := Lib.hid hF.out.done
      have hsz := hbr.size
      go_wp2_with (refine wpList_make_ints _ rfl _ _ rfl _ (zs.length + 1) rfl rfl (by omega) (by omega) ?_)
      intro w3 hB3 hb3
      go_wp2
      go_ret
      refine ⟨some ⟨wr.heap.size, 0, none⟩, ?_, ?_, below_next hbr hb3⟩
      · rw [HN.out, List.length_replicate]
        rfl
      · rw [HN.out]
        exact hB3.out.rd

theorem Exact.out {w w' : World} {zs : List Int} {e : Ending} (h : Exact w zs e w') : ∃ A, e = .returned (.slice A zs.length zs.length) ∧ Rd w' A zs ∧ Below w.heap.size w w' := h

/-- Next of a word. -/
theorem next_ok (A : Option Addr) (c : Nat) (zs : List Int) (n : Int) (w : World) (h : Rd w A zs) (hck : M.check zs n = 0) (hl : (M.next n zs).length ≤ 256) :
    Calls Try.prog 82 #[.slice A zs.length c, .int .i64 n] w (Made w (M.next n zs) 0) := by
  have HC := Lib.hid hck
  obtain ⟨hn1, hn2, hl2, hv⟩ := M.check_zero hck
  clear hck
  go_enter Try.func82, Try.ntmps82
  go_wp2_with fail
  refine (check_any _ _ _ _ _ h).mono ?_
  rintro e w1 ⟨rfl, hb1⟩
  rw [HC.out]
  go_wp2_with fail
  refine (follow_any _ _ _ _ _ (h.below hb1) (by omega) hn2 hn1 hv).mono ?_
  rintro e w2 ⟨B, rfl, hr2, hb2⟩
  go_wp2
  go_ret2
  exact ⟨B, rfl, hr2, below_next hb1 hb2⟩
/-- Next of a last word. -/
theorem next_last (A : Option Addr) (c : Nat) (zs : List Int) (n : Int) (w : World) (h : Rd w A zs) (hck : M.check zs n = 0) (hl : 256 < (M.next n zs).length) :
    Calls Try.prog 82 #[.slice A zs.length c, .int .i64 n] w (Made w [] 3) := by
  have HC := Lib.hid hck
  obtain ⟨hn1, hn2, hl2, hv⟩ := M.check_zero hck
  clear hck
  go_enter Try.func82, Try.ntmps82
  go_wp2_with fail
  refine (check_any _ _ _ _ _ h).mono ?_
  rintro e w1 ⟨rfl, hb1⟩
  rw [HC.out]
  go_wp2_with fail
  refine (follow_any _ _ _ _ _ (h.below hb1) (by omega) hn2 hn1 hv).mono ?_
  rintro e w2 ⟨B, rfl, hr2, hb2⟩
  go_wp2
  go_ret2
  exact ⟨none, rfl, Rd.nil_, below_next hb1 hb2⟩
/-- Next of what is no word. -/
theorem next_bad (A : Option Addr) (c : Nat) (zs : List Int) (n q : Int) (w : World) (h : Rd w A zs) (hck : M.check zs n = q) (hq0 : q ≠ 0) :
    Calls Try.prog 82 #[.slice A zs.length c, .int .i64 n] w (Made w [] q) := by
  have HC := Lib.hid hck
  have hq : (q != 0) = true := by simpa using hq0
  clear hck hq0
  go_enter Try.func82, Try.ntmps82
  go_wp2_with fail
  refine (check_any _ _ _ _ _ h).mono ?_
  rintro e w1 ⟨rfl, hb1⟩
  rw [HC.out]
  go_wp2
  go_ret2
  exact ⟨none, rfl, Rd.nil_, hb1⟩
end Go.Proofs.Ytjodhihcckcefaa
