/-
  Contracts: words.All and the iterator that it returns.
-/
import Derived.Test.YtodjdfpealmjeaaDoorV1
import Derived.RangeFuncBound
import Derived.Shelf.Abstract
import Derived.Shelf.RegionOpen
import Derived.WalkKit
import Derived.OwnWalkIn
import Derived.TacticsInMore
import Derived.LoopNIn
import Derived.LoopIn
namespace Go.Proofs.YtodjdfpealmjeaaDoor
open Go.RowKit Go.Shelf

set_option maxRecDepth 100000 in
set_option maxHeartbeats 400000 in
/-- The next word lies in a block of its own. -/
theorem follow_blk (A : Option Addr) (c : Nat) (zs : List Int) (n : Int) (w : World) (h : Rd w A zs) (hl : zs.length ≤ 65536) (hn1 : 1 ≤ n) (hn2 : n ≤ 16) (hv : M.Val n zs) :
    Calls Tryd.prog 33 #[.slice A zs.length c, .int .i64 n] w fun e w' => ∃ g, e = .returned (.slice (some ⟨g, 0, none⟩) (M.next n zs).length (M.next n zs).length) ∧ w.heap.size ≤ g ∧ Blk w' g (M.next n zs) ∧ Below w.heap.size w w' := by
  obtain ⟨i0, hi0, hz0, hz1, hz2⟩ := info_parts int_info
  go_enter Tryd.func33, Tryd.ntmps33
  go_wp2_with (refine wpList_make_ints _ rfl _ _ rfl _ zs.length rfl rfl rfl (by omega) ?_)
  intro w1 hB1 hb1
  have hr1 := h.below hb1
  go_wp2_with (with_reducible refine wpList_copy_ints _ rfl (.tmp 11) (.tmp 12) rfl A zs.length w.heap.size zs.length c (List.replicate zs.length 0) zs rfl rfl hB1.out (by simp) hr1 rfl w.heap.size w hb1 (Nat.le_refl _) ?_)
  intro w2 hB2 hb2
  clear hB1 hb1 hr1
  go_wp2
  go_loopw [16] (fun i wr => ∃ (k : Nat) (cur : List Int), k ≤ zs.length ∧ i = .int .i64 k ∧ Hid (Blk wr w.heap.size cur) ∧ Hid (M.Fol n zs k cur) ∧ Below w.heap.size w wr) (fun i _ => zs.length - (intOf i).toNat)
  case atStart => exact ⟨0, zs, Nat.zero_le _, rfl, hB2, M.Fol.start n zs, hb2⟩
  case round =>
    obtain ⟨k, cur, hk, rfl, hB, hF, hbr⟩ := hrel
    clear hB2 hb2
    by_cases hlt : k < zs.length
    · have hlen := Lib.hid (hF.out.len hk)
      obtain ⟨z, hc, hf, hz⟩ := hB.out.at_ (k := zs.length - 1 - k) (by rw [hlen.out]; omega)
      obtain ⟨hv1, hv2⟩ := hF.out.val hlt hz.out hv
      by_cases hup : z < n - 1
      · have HN := Lib.hid (hF.out.up hlt hz.out hup)
        go_wp2
        go_ret
        refine ⟨w.heap.size, ?_, Nat.le_refl _, ?_, hbr.setCell (by show w.heap.size ≤ w.heap.size; omega) _⟩
        · rw [HN.out, List.length_set, hlen.out]
          rfl
        · rw [HN.out]
          exact hB.out.set_ _ _
      · have HN := Lib.hid (hF.out.over hlt hz.out hup)
        go_wp2
        go_roundw
        case rel => exact ⟨k + 1, _, by omega, by go_num, hB.out.set_ (zs.length - 1 - k) 0, HN, hbr.setCell (by show w.heap.size ≤ w.heap.size; omega) _⟩
        case measure => simp [intOf]; omega
    · obtain rfl : k = zs.length := by omega
      have HN := Lib.hid hF.out.done
      have hsz := hbr.size
      go_wp2_with (refine wpList_make_ints _ rfl _ _ rfl _ (zs.length + 1) rfl rfl (by omega) (by omega) ?_)
      intro w3 hB3 hb3
      go_wp2
      go_ret
      refine ⟨wr.heap.size, ?_, hsz, ?_, below_next hbr hb3⟩
      · rw [HN.out, List.length_replicate]
        rfl
      · rw [HN.out]
        exact hB3.out

/-- What All returns: its iterator over two boxes. -/
theorem all_any (n m : Int) (w : World) :
    Calls Tryd.prog 42 #[.int .i64 n, .int .i64 m] w fun e w' => e = .returned (.func (.func 50) #[] #[.pointer (some ⟨w.heap.size, 0, none⟩), .pointer (some ⟨w.heap.size + 1, 0, none⟩)]) ∧
      w' = (w.alloc (.cells #[.int .i64 n] 3)).alloc (.cells #[.int .i64 m] 3) := by
  go_enter Tryd.func42, Tryd.ntmps42
  go_wp2
  go_ret
  exact ⟨rfl, rfl⟩

theorem word_val {n : Int} (hn : 1 ≤ n) : ∀ k, M.Val n (M.word n k) ∧ M.rk n (M.word n k) = k
  | 0 => ⟨fun _ h => (by cases h), rfl⟩
  | k + 1 => by
    obtain ⟨h1, h2⟩ := word_val hn k
    obtain ⟨a, b, _, _⟩ := M.next_val hn _ _ rfl h1
    exact ⟨a, by rw [M.word, b, h2]; simp⟩

/-- How many words are left (read off the word that is next). -/
noncomputable def left (n : Int) (N : Nat) (p q : Nat) (v : Value) (W : World) : Nat :=
  open Classical in if h : ∃ k A, v = .slice A (M.word n k).length (M.word n k).length ∧ Own2 p q W A (M.word n k) then N + 1 - h.choose else 0
theorem ints_inj {xs ys : List Int} (h : ints xs = ints ys) : xs = ys := by
  unfold ints at h
  exact (List.map_inj_right (fun a b e => by cases e; rfl)).1 h
theorem left_at {n : Int} (hn : 1 ≤ n) (N p q k : Nat) (A : Option Addr) (W : World) (ho : Own2 p q W A (M.word n k)) : left n N p q (.slice A (M.word n k).length (M.word n k).length) W = N + 1 - k := by
  have h : ∃ j B, Value.slice A (M.word n k).length (M.word n k).length = .slice B (M.word n j).length (M.word n j).length ∧ Own2 p q W B (M.word n j) := ⟨k, A, rfl, ho⟩
  unfold left
  rw [dif_pos h]
  obtain ⟨B, hB, ho2⟩ := h.choose_spec
  revert hB ho2
  generalize h.choose = j
  intro hB ho2
  have hA : A = B := by injection hB
  have hl : (M.word n k).length = (M.word n j).length := by injection hB
  subst hA
  have e : M.word n k = M.word n j := by
    rcases Nat.eq_zero_or_pos (M.word n k).length with h0 | h0
    · exact (List.eq_nil_of_length_eq_zero h0).trans (List.eq_nil_of_length_eq_zero (hl ▸ h0)).symm
    · obtain ⟨g, rfl, _, _, b1⟩ := ho h0
      obtain ⟨g2, e2, _, _, b2⟩ := ho2 (hl ▸ h0)
      cases e2
      unfold Blk at b1 b2
      rw [b1] at b2
      injection b2 with b2
      injection b2 with b2
      injection b2 with b2
      exact ints_inj b2
  have := congrArg (M.rk n) e
  rw [(word_val hn k).2, (word_val hn j).2] at this
  omega
end Go.Proofs.YtodjdfpealmjeaaDoor
