/-
  Contracts: word (where it holds), the reference's Join, the method Of.
-/
import Derived.Test.YtodjdfpealmjeaaDoorW2
import Derived.Test.YtodjdfpealmjeaaDoorW3
namespace Go.Proofs.YtodjdfpealmjeaaDoor
open Go.RowKit

theorem word_yes (A B : Option Addr) (n d : Nat) (x : List Int) (f : Int) (w : World) (hx : Rd w A x) (hy : Rd w B x) (hn : x.length = n) (hm : n ≤ 9223372036854775807) :
    Calls Tryd.prog 14 #[.slice A n n, .int .i64 f, .slice B n d, .int .i64 f] w fun e w' => e = .returned (.bool true) ∧ Below w.heap.size w w' := by
  subst hn
  have hs : Hid (M.same x x = true) := M.same_yes rfl
  have hff : (f == f) = true := by simp
  have hll : ((x.length : Int) == x.length) = true := by simp
  go_enter Tryd.func14, Tryd.ntmps14
  go_wp2_with fail
  refine (same_any _ _ _ _ _ _ _ hx hy hm).mono ?_
  rintro e w1 ⟨rfl, hb1⟩
  rw [hs.out]
  go_wp2
  go_ret
  exact ⟨rfl, hb1⟩

set_option maxRecDepth 100000 in
set_option maxHeartbeats 1000000 in
theorem join_any (A B : Option Addr) (c d : Nat) (x y : List Int) (w : World) (hx : Rd w A x) (hy : Rd w B y) (hn : x.length + y.length ≤ 65536) :
    Calls Tryd.prog 22 #[.slice A x.length c, .slice B y.length d] w (Built w (x ++ y)) := by
  obtain ⟨i0, hi0, hz0, hz1, hz2⟩ := info_parts int_info
  go_enter Tryd.func22, Tryd.ntmps22
  go_wp2
  go_loopw [5, 6] (fun v i wr => ∃ (k : Nat) (xs : List Int), k ≤ x.length ∧ i = .int .i64 k ∧ wr.ownsRow w.heap.size 3 1 v k (ints xs) ∧ Hid (xs = x.take k) ∧ Below w.heap.size w wr) (fun _ i _ => x.length - (intOf i).toNat)
  case atStart => exact ⟨0, [], Nat.zero_le _, rfl, World.ownsRow_nil w _ _ _, rfl, Below.refl _ _⟩
  case round =>
    obtain ⟨k, xs, hk, rfl, hown, hxs, hbr⟩ := hrel
    have hsz := hbr.size
    by_cases hlt : k < x.length
    · obtain ⟨b, off, z, rfl, hb, hc, hz⟩ := (hx.below hbr).at_ hlt
      go_wp2_with (at_builtin; refine wpList_append_own _ rfl _ _ 22 rfl w.heap.size 3 i0 (.int .i64 0) 1 8 Tryd.underlying22 hi0 hz0 hz1 hz2 rfl (by decide) _ _ _ rfl (hown.alloc _) ⟨wr.heap.size, 0, none⟩ 1 1 [.int .i64 z] rfl rfl ?c1 ?c2 ?c3 ?c4 ?c5 ?_)
      case c1 => exact (cell_one_new _ _ _)
      case c2 => intro u hu; simp at hu; subst hu; rfl
      case c3 => unfold maxLen; omega
      case c4 => omega
      case c5 => simp; omega
      intro v1 w1 hown1 hg1 _
      obtain ⟨hown2, hbr2⟩ := own_step hbr hsz hown hown1 hg1
      clear hown1 hg1 hown
      go_wp2
      go_roundw
      case rel => exact ⟨k + 1, _, by omega, by go_num, hown2, (by show _ = _; rw [hxs.out, take_snoc' x k hlt, hz.out]), hbr2⟩
      case measure => simp [intOf]; omega
    · have hek : k = x.length := by omega
      have hxs' : Hid (xs = x) := by show _ = _; rw [hxs.out, List.take_of_length_le (by omega)]
      clear hxs
      subst hek
      obtain ⟨wo, rfl⟩ : ∃ wo : World, wo = wr := ⟨_, rfl⟩
      go_wp2
      go_loopw [5, 7] (fun v i wr => ∃ (j : Nat) (ys : List Int), j ≤ y.length ∧ i = .int .i64 j ∧ wr.ownsRow w.heap.size 3 1 v (x.length + j) (ints ys) ∧ Hid (ys = x ++ y.take j) ∧ Below w.heap.size w wr) (fun _ i _ => y.length - (intOf i).toNat)
      case atStart => exact ⟨0, xs, Nat.zero_le _, rfl, hown, by show _ = _; rw [hxs'.out]; simp, hbr⟩
      case round =>
        obtain ⟨j, ys, hj, rfl, hown2, hys, hbr2⟩ := hrel
        have hsz2 := hbr2.size
        clear hown hbr hsz
        by_cases hlt2 : j < y.length
        · obtain ⟨b, off, z, rfl, hb, hc, hz⟩ := (hy.below hbr2).at_ hlt2
          go_wp2_with (at_builtin; refine wpList_append_own _ rfl _ _ 22 rfl w.heap.size 3 i0 (.int .i64 0) 1 8 Tryd.underlying22 hi0 hz0 hz1 hz2 rfl (by decide) _ _ _ rfl (hown2.alloc _) ⟨_, 0, none⟩ 1 1 [.int .i64 z] rfl rfl ?c1 ?c2 ?c3 ?c4 ?c5 ?_)
          case c1 => exact (cell_one_new _ _ _)
          case c2 => intro u hu; simp at hu; subst hu; rfl
          case c3 => unfold maxLen; omega
          case c4 => omega
          case c5 => simp; omega
          intro v1 w1 hown1 hg1 _
          obtain ⟨hown3, hbr3⟩ := own_step hbr2 hsz2 hown2 hown1 hg1
          clear hown1 hg1 hown2
          go_wp2
          go_roundw
          case rel => exact ⟨j + 1, _, by omega, by go_num, hown3, (by show _ = _; rw [hys.out, take_snoc' y j hlt2, hz.out, List.append_assoc]), hbr3⟩
          case measure => simp [intOf]; omega
        · have hej : y.take j = y := List.take_of_length_le (by omega)
          have hfin : Hid (ys = x ++ y) := by show _ = _; rw [hys.out, hej]
          clear hys hej
          go_wp2
          go_ret
          rw [← hfin.out]
          exact Built.of_own hown2 hbr2

set_option maxRecDepth 100000 in
set_option maxHeartbeats 1000000 in
theorem of_any (A : Option Addr) (c : Nat) (zs : List Int) (n : Int) (w : World) (h : Rd8 w A zs) (h1 : 1 ≤ n) (h2 : n ≤ 16) (hm : zs.length ≤ 9223372036854775807) :
    Calls Tryd.prog 23 #[.agg #[.slice A zs.length c], .int .i64 n] w (Built w (M.sym n zs)) := by
  obtain ⟨i0, hi0, hz0, hz1, hz2⟩ := info_parts int_info
  go_enter Tryd.func23, Tryd.ntmps23
  go_wp2
  go_loopw [5, 6] (fun v i wr => ∃ (k : Nat) (xs : List Int), k ≤ zs.length ∧ k ≤ 12 ∧ i = .int .i64 k ∧ wr.ownsRow (w.heap.size + 1) 3 1 v k (ints xs) ∧ Hid (xs = (zs.take k).map (· % n)) ∧ Below (w.heap.size + 1) (w.alloc (.cells #[.slice A zs.length c] 41)) wr) (fun _ i _ => 12 - (intOf i).toNat)
  case atStart => exact ⟨0, [], Nat.zero_le _, by omega, rfl, World.ownsRow_nil _ _ _ _, rfl, Below.refl _ _⟩
  case round =>
    obtain ⟨k, xs, hk, hk2, rfl, hown, hxs, hbr⟩ := hrel
    have hsz := hbr.size
    have hcell : wr.cell? ⟨w.heap.size, 0, none⟩ = some (.slice A zs.length c) := by
      rw [hbr.cell (p := ⟨w.heap.size, 0, none⟩) (by simp), World.cell?_alloc_at _ _ _ _ rfl]; rfl
    by_cases hlt : k < zs.length ∧ k < 12
    · obtain ⟨hlt1, hlt2⟩ := hlt
      have hr : Rd8 wr A zs := h.keep (by have := hsz; simp at this; omega) (fun b o hb => by
        rw [hbr.cell (p := ⟨b, o, none⟩) (by show b < _; omega), World.cell?_alloc_past _ _ _ hb])
      obtain ⟨b, off, z, rfl, hb, hc, hq0, hq1, hz⟩ := hr.at_ hlt1
      have hn0 : (n == 0) = false := by simp; omega
      have hsz2 : w.heap.size + 1 ≤ wr.heap.size := by simpa using hsz
      have hmod1 : 0 ≤ z % n := Int.emod_nonneg _ (by omega)
      have hmod2 : z % n < n := Int.emod_lt_of_pos _ (by omega)
      go_wp2_with (at_builtin; refine wpList_append_own _ rfl _ _ 22 rfl (w.heap.size + 1) 3 i0 (.int .i64 0) 1 8 Tryd.underlying22 hi0 hz0 hz1 hz2 rfl (by decide) _ _ _ rfl (hown.alloc _) ⟨wr.heap.size, 0, none⟩ 1 1 [.int .i64 (z % n)] rfl rfl ?c1 ?c2 ?c3 ?c4 ?c5 ?_)
      case c1 => exact (cell_one_new _ _ _)
      case c2 => intro u hu; simp at hu; subst hu; rfl
      case c3 => unfold maxLen; omega
      case c4 => omega
      case c5 => simp; omega
      intro v1 w1 hown1 hg1 _
      obtain ⟨hown2, hbr2⟩ := own_step hbr hsz2 hown hown1 hg1
      clear hown1 hg1 hown
      go_wp2
      go_roundw
      case rel => exact ⟨k + 1, _, by omega, by omega, by go_num, hown2, (by show _ = _; rw [hxs.out, take_snoc' zs k hlt1, hz.out]; simp), hbr2⟩
      case measure => simp [intOf]; omega
    · have hfin : Hid (xs = M.sym n zs) := by
        show _ = (zs.take 12).map (· % n)
        rw [hxs.out]
        rcases Nat.lt_or_ge k 12 with h12 | h12
        · rw [List.take_of_length_le (show zs.length ≤ k by omega), List.take_of_length_le (show zs.length ≤ 12 by omega)]
        · rw [show k = 12 by omega]
      have hbw : Below w.heap.size w wr := ((Below.refl _ _).alloc (Nat.le_refl _) _).trans (hbr.mono (by omega))
      clear hxs
      by_cases hlt1 : k < zs.length
      · have h12 : ¬ (k : Int) < 12 := by omega
        go_wp2
        go_ret
        rw [← hfin.out]
        exact Built.of_own hown hbw
      · go_wp2
        go_ret
        rw [← hfin.out]
        exact Built.of_own hown hbw
end Go.Proofs.YtodjdfpealmjeaaDoor
