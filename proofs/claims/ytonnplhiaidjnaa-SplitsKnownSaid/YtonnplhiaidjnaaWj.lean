/-
  Contract: two words, one after the other. No statement is proved here.
-/
import Derived.Test.YtonnplhiaidjnaaScA
import Derived.Test.YtonnplhiaidjnaaBaZ
namespace Go.Proofs.Ytonnplhiaidjnaa
open Go.RowKit

set_option maxRecDepth 100000 in
set_option maxHeartbeats 1000000 in
theorem wjoin_any (A B : Option Addr) (c d : Nat) (x y : List Int) (w : World) (hx : Rd w A x) (hy : Rd w B y) (hn : x.length + y.length ≤ 65536) :
    Calls Try.prog 37 #[.slice A x.length c, .slice B y.length d] w (Built w (x ++ y)) := by
  obtain ⟨i0, hi0, hz0, hz1, hz2⟩ := info_parts int_info
  go_enter Try.func37, Try.ntmps37
  go_wp2
  go_loopw [5, 6] (fun v i wr => ∃ (k : Nat) (xs : List Int), k ≤ x.length ∧ i = .int .i64 k ∧ wr.ownsRow w.heap.size 3 1 v k (ints xs) ∧ Hid (xs = x.take k) ∧ Below w.heap.size w wr) (fun _ i _ => x.length - (intOf i).toNat)
  case atStart => exact ⟨0, [], Nat.zero_le _, rfl, World.ownsRow_nil w _ _ _, rfl, Below.refl _ _⟩
  case round =>
    obtain ⟨k, xs, hk, rfl, hown, hxs, hbr⟩ := hrel
    have hsz := hbr.size
    by_cases hlt : k < x.length
    · obtain ⟨b, off, z, rfl, hb, hc, hz⟩ := (hx.below hbr).at_ hlt
      go_wp2_with (at_builtin; refine wpList_append_own _ rfl _ _ 29 rfl w.heap.size 3 i0 (.int .i64 0) 1 8 Try.underlying29 hi0 hz0 hz1 hz2 rfl (by decide) _ _ _ rfl (hown.alloc _) ⟨wr.heap.size, 0, none⟩ 1 1 [.int .i64 z] rfl rfl ?c1 ?c2 ?c3 ?c4 ?c5 ?_)
      case c1 => exact (cell_one_new _ _ _)
      case c2 => intro u hu; simp at hu; subst hu; rfl
      case c3 => unfold maxLen; omega
      case c4 => omega
      case c5 => simp; omega
      intro v1 w1 hown1 hg1 _
      obtain ⟨hown2, hbr2⟩ := own_step hbr hsz hown hown1 hg1
      clear hown1 hg1 hown
      go_wp2
      go_roundw
      case rel => exact ⟨k + 1, _, by omega, by go_num, hown2, (by show _ = _; rw [hxs.out, take_snoc' x k hlt, hz.out]), hbr2⟩
      case measure => simp [intOf]; omega
    · have hek : k = x.length := by omega
      have hxs' : Hid (xs = x) := by show _ = _; rw [hxs.out, List.take_of_length_le (by omega)]
      clear hxs
      subst hek
      obtain ⟨wo, rfl⟩ : ∃ wo : World, wo = wr := ⟨_, rfl⟩
      go_wp2
      go_loopw [5, 7] (fun v i wr => ∃ (j : Nat) (ys : List Int), j ≤ y.length ∧ i = .int .i64 j ∧ wr.ownsRow w.heap.size 3 1 v (x.length + j) (ints ys) ∧ Hid (ys = x ++ y.take j) ∧ Below w.heap.size w wr) (fun _ i _ => y.length - (intOf i).toNat)
      case atStart => exact ⟨0, xs, Nat.zero_le _, rfl, hown, by show _ = _; rw [hxs'.out]; simp, hbr⟩
      case round =>
        obtain ⟨j, ys, hj, rfl, hown2, hys, hbr2⟩ := hrel
        have hsz2 := hbr2.size
        clear hown hbr hsz
        by_cases hlt2 : j < y.length
        · obtain ⟨b, off, z, rfl, hb, hc, hz⟩ := (hy.below hbr2).at_ hlt2
          go_wp2_with (at_builtin; refine wpList_append_own _ rfl _ _ 29 rfl w.heap.size 3 i0 (.int .i64 0) 1 8 Try.underlying29 hi0 hz0 hz1 hz2 rfl (by decide) _ _ _ rfl (hown2.alloc _) ⟨_, 0, none⟩ 1 1 [.int .i64 z] rfl rfl ?c1 ?c2 ?c3 ?c4 ?c5 ?_)
          case c1 => exact (cell_one_new _ _ _)
          case c2 => intro u hu; simp at hu; subst hu; rfl
          case c3 => unfold maxLen; omega
          case c4 => omega
          case c5 => simp; omega
          intro v1 w1 hown1 hg1 _
          obtain ⟨hown3, hbr3⟩ := own_step hbr2 hsz2 hown2 hown1 hg1
          clear hown1 hg1 hown2
          go_wp2
          go_roundw
          case rel => exact ⟨j + 1, _, by omega, by go_num, hown3, (by show _ = _; rw [hys.out, take_snoc' y j hlt2, hz.out, List.append_assoc]), hbr3⟩
          case measure => simp [intOf]; omega
        · have hej : y.take j = y := List.take_of_length_le (by omega)
          have hfin : Hid (ys = x ++ y) := by show _ = _; rw [hys.out, hej]
          clear hys hej
          go_wp2
          go_ret
          rw [← hfin.out]
          exact Built.of_own hown2 hbr2
end Go.Proofs.Ytonnplhiaidjnaa
