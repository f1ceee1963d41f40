/-
  Contracts: classes.Text.
-/
import Derived.Test.YtnhibkkkpmaddaaDoorC15
namespace Go.Proofs.YtnhibkkkpmaddaaDoor
open Go.RowKit

namespace M
def textV (p : List Int) : List UInt8 := if pck p = 0 then textP p else []
theorem textV_err {p : List Int} {e : Int} (h : pck p = e) (h0 : e ≠ 0) : textV p = [] := by simp [textV, h, h0]
theorem textV_ok {p : List Int} (h : pck p = 0) : textV p = textP p := by simp [textV, h]
theorem blk_i64 {p : List Int} (h : p.length ≤ 1000000) (b : Nat) : I64 (blk p b) := fun z hz => by
  obtain ⟨i, hi, rfl, _⟩ := mem_blk.1 hz
  omega
theorem lens_bound (l : List (List UInt8)) (n : Nat) (h : ∀ q ∈ l, q.length ≤ n) : Lib.lens l ≤ l.length * n := by
  induction l with
  | nil => simp [Lib.lens]
  | cons a l ih =>
    have h1 := ih (fun q hq => h q (List.mem_cons_of_mem _ hq))
    have h2 := h a (by simp)
    have e : Lib.lens (a :: l) = a.length + Lib.lens l := by simp [Lib.lens]
    rw [e, List.length_cons, Nat.succ_mul]
    omega
theorem join_bound (l : List (List UInt8)) (sep : List UInt8) (n : Nat) (h : ∀ q ∈ l, q.length ≤ n) : (Lib.join l sep).length ≤ l.length * n + sep.length * l.length := by
  have h1 := lens_bound l n h
  cases l with
  | nil => simp [Lib.join_nil]
  | cons a l =>
    rw [Lib.join_length, List.length_cons, Nat.mul_succ] at *
    omega
end M

theorem btext_at (A : Option Addr) (c m : Nat) (zs : List Int) (w : World) (he : Env w) (h : Rd w A zs) (hv : M.I64 zs) (e : zs.length = m) (hl : m ≤ 10000) :
    Calls Tryd.prog 33 #[.slice A m c] w fun e w' => e = .returned (.string ⟨(Lib.join (zs.map Lib.itoa) [32]).toArray⟩) ∧ Below w.heap.size w w' := by
  subst e
  exact btext_any A c zs w he h hv hl
/-- A row's text as a string. -/
def rowB (p : List Int) (b : Nat) : ByteArray := ⟨(M.rowT p b).toArray⟩
theorem rowB_def (p : List Int) (b : Nat) : (⟨(Lib.join ((M.blk p b).map Lib.itoa) [32]).toArray⟩ : ByteArray) = rowB p b := rfl
theorem ret_st {a c : List UInt8} {b d : Int} (h1 : a = c) (h2 : b = d) : Ending.returned (.tuple #[.string ⟨a.toArray⟩, .int .i64 b]) = .returned (.tuple #[.string ⟨c.toArray⟩, .int .i64 d]) := by rw [h1, h2]

set_option maxRecDepth 100000 in
set_option maxHeartbeats 1000000 in
theorem text_any (A : Option Addr) (c : Nat) (p : List Int) (w : World) (he : Env w) (h : Rd w A p) :
    Calls Tryd.prog 14 #[.slice A p.length c] w fun e w' => e = .returned (.tuple #[.string ⟨(M.textV p).toArray⟩, .int .i64 (M.pck p)]) ∧ Below w.heap.size w w' := by
  have C1 := blocks_any A c p w h
  unfold Blks at C1
  by_cases hp : M.pck p = 0
  · simp only [if_pos hp] at C1
    obtain ⟨h1, h2⟩ := M.pck_zero hp
    rw [hp, M.textV_ok hp]
    obtain ⟨m, hm⟩ : ∃ m, Hid (M.cnt p = m) := ⟨_, rfl⟩
    rw [hm.out] at C1
    have hm2 : m ≤ 256 := by have := M.cnt_le p; have := hm.out; omega
    by_cases hm0 : m = 0
    · subst hm0
      have hT : M.textP p = [45] := by
        have : p = [] := by
          apply Classical.byContradiction
          intro hne
          have := M.cnt_pos hne
          have := hm.out
          omega
        rw [this]; rfl
      have HT := Lib.hid hT
      rw [hT]
      clear hT hp
      go_enter Tryd.func14, Tryd.ntmps14
      go_wp2_with fail
      refine C1.mono ?_
      rintro e w1 ⟨L, rfl, hr, hb1⟩
      go_wp2
      go_ret2
      exact ⟨rfl, hb1⟩
    · have hT : M.textP p = Lib.join ((List.range m).map (M.rowT p)) M.bar := by
        unfold M.textP
        rw [if_neg, hm.out]
        intro e
        have := hm.out
        rw [e, M.cnt_nil] at this
        omega
      rw [hT]
      have hne : ((m : Int) == 0) = false := by simp; omega
      clear hT
      go_enter Tryd.func14, Tryd.ntmps14
      go_wp2_with fail
      refine C1.mono ?_
      rintro e w1 ⟨L, rfl, hr, hb1⟩
      obtain ⟨G, rfl, hG, _⟩ := hr (by omega)
      have hs1 := hb1.size
      go_wp2_with (refine wpList_make_strs _ rfl _ _ rfl _ m rfl rfl rfl (by omega) ?_)
      intro w2 hB2 hb2
      go_wp2
      obtain ⟨g, hg⟩ : ∃ g, w1.heap.size = g := ⟨_, rfl⟩
      have hgB : w.heap.size ≤ g := by omega
      have hr2 := hr.below hb2
      have hbw2 := below_next hb1 hb2
      rw [hg] at hB2 ⊢
      have hgs : w.heap.size ≤ g ∧ w1.heap.size = g := ⟨hgB, hg⟩
      have HG := Lib.hid hg
      clear hg hgs
      go_loopw [25] (fun i wr => ∃ (k : Nat) (ss : List ByteArray), k ≤ m ∧ i = .int .i64 k ∧ Hid (BlkS wr g ss) ∧ Hid (Tl m (rowB p) k ss) ∧ Below w1.heap.size w1 wr) (fun i _ => m - (intOf i).toNat)
      case atStart => exact ⟨0, _, Nat.zero_le _, rfl, hB2, Tl.start _ _ _, hb2⟩
      case round =>
        obtain ⟨k, ss, hk, rfl, hB, hX, hbr⟩ := hrel
        clear hB2 hb2 hr2 hbw2
        have hbw := below_next hb1 hbr
        by_cases hlt : k < m
        · obtain ⟨G', e, hGl, hcs⟩ := (hr.below hbr) (by omega)
          injection e with e
          injection e with e _
          subst e
          obtain ⟨A2, hc, hr3⟩ := hcs k hlt
          obtain ⟨n0, hn0⟩ : ∃ n0, Hid ((M.blk p k).length = n0) := ⟨_, rfl⟩
          rw [hn0.out] at hc
          have hle := M.blkN_le p k p.length
          rw [M.blkN_done, hn0.out] at hle
          have HS := Lib.hid (hX.out.step hlt)
          have hgl := hB.out.lt
          have hlen := Lib.hid hX.out.1
          have C2 := btext_at A2 n0 n0 _ wr (he.below hbw) hr3 (M.blk_i64 (by omega) k) hn0.out (by omega)
          rw [rowB_def] at C2
          clear hcs
          go_wp2_with fail
          refine C2.mono ?_
          rintro e w2 ⟨rfl, hb2⟩
          have hB2 := Lib.hid (hB.out.below hb2 hgl)
          obtain ⟨x, hc2, hf2, hx⟩ := hB2.out.at_ (k := k) (by rw [hlen.out]; omega)
          have hbr2 := below_next hbr hb2
          clear hc hX hB hbr hb2 hgl
          go_wp2
          go_roundw
          case rel => exact ⟨k + 1, _, by omega, by go_num, hB2.out.set_ k (rowB p k), HS, hbr2.setCell (by rw [HG.out]; exact Nat.le_refl _) _⟩
          case measure => simp [intOf] <;> omega
        · obtain rfl : k = m := by omega
          have HD : ss.map (·.data.toList) = (List.range k).map (M.rowT p) := by
            rw [hX.out.done, List.map_map]
            rfl
          have hl : (Lib.join ((List.range k).map (M.rowT p)) M.bar).length ≤ 1000000000 := by
            have := M.join_bound ((List.range k).map (M.rowT p)) M.bar 5700 (by
              intro q hq
              obtain ⟨b, _, rfl⟩ := List.mem_map.1 hq
              have h3 := jlen _ (M.blk_i64 (p := p) (by omega) b)
              have h4 := M.blkN_le p b p.length
              rw [M.blkN_done] at h4
              unfold M.rowT
              omega)
            rw [List.length_map, List.length_range] at this
            have e3 : M.bar.length = 3 := rfl
            rw [e3] at this
            omega
          have C := bjoin_at g k ((List.range k).map (M.rowT p)) ⟨#[32, 124, 32]⟩ ss wr hB.out HD (by simp) hl (by omega)
          clear HD hX hl
          go_wp2_with fail
          refine C.mono ?_
          rintro e w2 ⟨rfl, hb2⟩
          go_wp2
          go_ret2
          exact ⟨rfl, below_next hbw hb2⟩
  · simp only [if_neg hp] at C1
    obtain ⟨x, hx⟩ : ∃ x, Hid (M.pck p = x) := ⟨_, rfl⟩
    have hx0 : x ≠ 0 := by rw [← hx.out]; exact hp
    rw [M.textV_err hx.out hx0]
    rw [hx.out] at C1 ⊢
    have hne : (x != 0) = true := by simpa using hx0
    clear hp hx
    go_enter Tryd.func14, Tryd.ntmps14
    go_wp2_with fail
    refine C1.mono ?_
    rintro e w1 ⟨rfl, hb1⟩
    go_wp2
    go_ret2
    exact ⟨rfl, hb1⟩
end Go.Proofs.YtnhibkkkpmaddaaDoor
