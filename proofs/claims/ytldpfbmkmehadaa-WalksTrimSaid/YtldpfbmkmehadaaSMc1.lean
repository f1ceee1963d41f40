/-
  Contracts: words.Check; the reference's Check, Compare, Same, Join of words; the method Of of words.
-/
import Derived.Test.YtldpfbmkmehadaaProg
import Derived.Test.YtldpfbmkmehadaaBase
import Derived.Test.YtldpfbmkmehadaaMath
import Derived.Outline
import Derived.Deep.LoopGhost
import Derived.Deep.QuietTactic
import Derived.BigQuiet
import Derived.Maps.AppendAt
import Derived.RegionTactic
namespace Go.Proofs.Ytldpfbmkmehadaa
open Go.RowKit

set_option maxHeartbeats 400000 in
theorem check_loop (A : Option Addr) (c : Nat) (zs : List Int) (n : Int) (w : World) (h : Rd w A zs) (h1 : n ≤ 16) (h2 : (zs.length : Int) ≤ 256) (h3 : 1 ≤ n) :
    Calls Try.prog 62 #[.slice A zs.length c, .int .i64 n] w fun e w' => e = .returned (.int .i64 (M.badI n zs)) ∧ Below w.heap.size w w' := by
  go_enter Try.func62, Try.ntmps62
  go_wp2
  go_loop [18] (fun i => ∃ k : Nat, k ≤ zs.length ∧ i = .int .i64 k ∧ Hid ((zs.take k).any (M.badB n) = false)) (fun i => zs.length - (intOf i).toNat)
  case atStart => exact ⟨0, Nat.zero_le _, rfl, by simp [Hid]⟩
  case round =>
    obtain ⟨k, hk, rfl, hn⟩ := hrel
    by_cases hlt : k < zs.length
    · obtain ⟨b, off, z, rfl, hb, hc, hz⟩ := h.at_ hlt
      by_cases hbad : M.badB n z = true
      · have hfin : Hid (M.badI n zs = 1) := M.badI_hit hlt (by rw [hz.out]; exact hbad)
        rcases M.badB_true hbad with hz | hz
        · go_wp2
          go_ret
          exact ⟨ret_int hfin.out.symm, Below.refl _ _⟩
        · by_cases hz2 : z < 0
          all_goals
            go_wp2
            go_ret
            exact ⟨ret_int hfin.out.symm, Below.refl _ _⟩
      · obtain ⟨hz1, hz2⟩ := M.badB_false hbad
        have hn' : Hid ((zs.take (k + 1)).any (M.badB n) = false) := M.any_snoc hlt hn.out (by rw [hz.out]; simpa using hbad)
        clear hbad
        go_wp2
        go_round
        case rel => exact ⟨k + 1, by omega, by go_num, hn'⟩
        case measure => simp [intOf]; omega
    · go_wp2
      go_ret
      have : zs.take k = zs := List.take_of_length_le (by omega)
      have hn := hn.out
      rw [this] at hn
      exact ⟨ret_int (M.badI_clean hn).symm, Below.refl _ _⟩
theorem check_any (A : Option Addr) (c : Nat) (zs : List Int) (n : Int) (w : World) (h : Rd w A zs) :
    Calls Try.prog 62 #[.slice A zs.length c, .int .i64 n] w fun e w' => e = .returned (.int .i64 (M.check zs n)) ∧ Below w.heap.size w w' := by
  by_cases h1 : 16 < n
  · have hf : Hid (M.check zs n = 3) := M.check_limit (.inl h1)
    go_enter Try.func62, Try.ntmps62
    go_wp2
    go_ret
    exact ⟨ret_int hf.out.symm, Below.refl _ _⟩
  · by_cases h2 : 256 < zs.length
    · have hf : Hid (M.check zs n = 3) := M.check_limit (.inr h2)
      go_enter Try.func62, Try.ntmps62
      go_wp2
      go_ret
      exact ⟨ret_int hf.out.symm, Below.refl _ _⟩
    · by_cases h3 : n < 1
      · have hf : Hid (M.check zs n = 1) := M.check_arg (by omega) h3
        go_enter Try.func62, Try.ntmps62
        go_wp2
        go_ret
        exact ⟨ret_int hf.out.symm, Below.refl _ _⟩
      · rw [M.check_in (by omega) (by omega) (by omega)]
        exact check_loop A c zs n w h (by omega) (by omega) (by omega)
set_option maxHeartbeats 400000 in
theorem rcmp_loop (A B : Option Addr) (c d : Nat) (x y : List Int) (w : World) (hx : Rd w A x) (hy : Rd w B y) (h1 : x.length = y.length) (hm : x.length ≤ 9223372036854775807) :
    Calls Try.prog 40 #[.slice A x.length c, .slice B y.length d] w fun e w' => e = .returned (.int .i64 (M.cmp x y)) ∧ Below w.heap.size w w' := by
  have H1 := Lib.hid h1
  have h2 : ¬ (x.length : Int) < y.length := by omega
  have h3 : ¬ (y.length : Int) < x.length := by omega
  clear h1
  go_enter Try.func40, Try.ntmps40
  go_wp2
  go_loopw [5] (fun i wr => ∃ k : Nat, k ≤ x.length ∧ i = .int .i64 k ∧ Hid (x.take k = y.take k) ∧ Below w.heap.size w wr) (fun i _ => x.length - (intOf i).toNat)
  case atStart => exact ⟨0, Nat.zero_le _, rfl, by simp [Hid], Below.refl _ _⟩
  case round =>
    obtain ⟨k, hk, rfl, hn, hbr⟩ := hrel
    by_cases hlt : k < x.length
    · obtain ⟨b, off, z, rfl, hb, hc, hz⟩ := (hx.below hbr).at_ hlt
      obtain ⟨b2, off2, z2, rfl, hb2, hc2, hz2⟩ := (hy.below hbr).at_ (k := k) (by have := H1.out; omega)
      have hk2 : (k : Int) < y.length := by have := H1.out; omega
      rcases Int.lt_trichotomy z z2 with hzz | hzz | hzz
      · have hfin : Hid (M.cmp x y = -1) := M.cmp_lt H1.out hlt hn.out (by rw [hz.out, hz2.out]; exact hzz)
        go_wp2
        go_quiet (fail)
        go_wp2
        go_ret
        exact ⟨ret_int hfin.out.symm, below_drewN' hbr _⟩
      · subst hzz
        have hn' : Hid (x.take (k + 1) = y.take (k + 1)) := M.take_snoc_eq hlt (by omega) hn.out (by rw [hz.out, hz2.out])
        go_wp2
        go_quiet (fail)
        go_wp2
        go_quiet (fail)
        go_wp2
        go_roundw
        case rel => exact ⟨k + 1, by omega, by go_num, hn', below_drewN' hbr _⟩
        case measure => simp [intOf]; omega
      · have hfin : Hid (M.cmp x y = 1) := M.cmp_gt H1.out hlt hn.out (by rw [hz.out, hz2.out]; exact hzz)
        go_wp2
        go_quiet (fail)
        go_wp2
        go_quiet (fail)
        go_wp2
        go_ret
        exact ⟨ret_int hfin.out.symm, below_drewN' (below_drewN' hbr _) _⟩
    · have hfin : Hid (M.cmp x y = 0) := M.cmp_end (by omega) (by have := H1.out; omega) hn.out
      go_wp2
      go_ret
      exact ⟨ret_int hfin.out.symm, hbr⟩
theorem rcmp_any (A B : Option Addr) (c d : Nat) (x y : List Int) (w : World) (hx : Rd w A x) (hy : Rd w B y) (hm : x.length ≤ 9223372036854775807) :
    Calls Try.prog 40 #[.slice A x.length c, .slice B y.length d] w fun e w' => e = .returned (.int .i64 (M.cmp x y)) ∧ Below w.heap.size w w' := by
  rcases Nat.lt_trichotomy x.length y.length with h | h | h
  · have hf : Hid (M.cmp x y = -1) := M.cmp_short h
    go_enter Try.func40, Try.ntmps40
    go_wp2
    go_ret
    exact ⟨ret_int hf.out.symm, Below.refl _ _⟩
  · exact rcmp_loop A B c d x y w hx hy h hm
  · have hf : Hid (M.cmp x y = 1) := M.cmp_long h
    go_enter Try.func40, Try.ntmps40
    go_wp2
    go_ret
    exact ⟨ret_int hf.out.symm, Below.refl _ _⟩
theorem same_any (A B : Option Addr) (c d : Nat) (x y : List Int) (w : World) (hx : Rd w A x) (hy : Rd w B y) (hm : x.length ≤ 9223372036854775807) :
    Calls Try.prog 16 #[.slice A x.length c, .slice B y.length d] w fun e w' => e = .returned (.bool (M.same x y)) ∧ Below w.heap.size w w' := by
  go_enter Try.func16, Try.ntmps16
  go_wp2_with fail
  refine (rcmp_any _ _ _ _ _ _ _ hx hy hm).mono ?_
  rintro e w1 ⟨rfl, hb1⟩
  go_wp2
  go_ret
  exact ⟨ret_bool M.same_def, hb1⟩
theorem int_info : (Try.prog.info? 3).map (fun i => (i.zero, i.size, i.bytes)) = some (some (.int .i64 0), 1, 8) := by kernel_rfl
/-- What a function that builds a list hands back. -/
def Built (w : World) (zs : List Int) (e : Ending) (w' : World) : Prop := ∃ A c, e = .returned (.slice A zs.length c) ∧ Rd w' A zs ∧ zs.length ≤ c ∧ Below w.heap.size w w'
theorem Built.of_own {w w' : World} {v : Value} {base n : Nat} {zs : List Int} (h : w'.ownsRow base 3 1 v n (ints zs)) (hb : Below w.heap.size w w') : Built w zs (.returned v) w' := by
  have hn : zs.length = n := by have := h.1; rw [ints_len] at this; omega
  subst hn
  rcases h.2 with ⟨rfl, h0⟩ | ⟨g, cap, cur, rfl, _, _, hc, _⟩
  · exact ⟨none, 0, by rw [h0], fun hp => absurd hp (by omega), by omega, hb⟩
  · exact ⟨_, _, rfl, Rd.of_own h, hc, hb⟩
theorem own_step {w wr w1 : World} {B : Nat} {v v1 : Value} {k : Nat} {xs : List Int} {z : Int} {o : Obj} (hbr : Below B w wr) (hB : B ≤ wr.heap.size) (hown : wr.ownsRow B 3 1 v k (ints xs))
    (h1 : w1.ownsRow B 3 1 v1 (k + 1) (ints xs ++ [.int .i64 z])) (hg : (wr.alloc o).grownBy w1 v.ownBlock) :
    w1.ownsRow B 3 1 v1 (k + 1) (ints (xs ++ [z])) ∧ Below B w w1 :=
  ⟨by rw [← ints_snoc]; exact h1, (hbr.alloc hB o).grown hg (by simp; omega) (fun j hj => (hown.lt j hj).1)⟩
set_option maxRecDepth 100000 in
set_option maxHeartbeats 1000000 in
theorem of_any (A : Option Addr) (c : Nat) (zs : List Int) (n : Int) (w : World) (h : Rd8 w A zs) (h1 : 1 ≤ n) (h2 : n ≤ 16) (hm : zs.length ≤ 9223372036854775807) :
    Calls Try.prog 22 #[.agg #[.slice A zs.length c], .int .i64 n] w (Built w (M.sym n zs)) := by
  obtain ⟨i0, hi0, hz0, hz1, hz2⟩ := info_parts int_info
  go_enter Try.func22, Try.ntmps22
  go_wp2
  go_loopw [5, 6] (fun v i wr => ∃ (k : Nat) (xs : List Int), k ≤ zs.length ∧ k ≤ 12 ∧ i = .int .i64 k ∧ wr.ownsRow (w.heap.size + 1) 3 1 v k (ints xs) ∧ Hid (xs = (zs.take k).map (· % n)) ∧ Below (w.heap.size + 1) (w.alloc (.cells #[.slice A zs.length c] 54)) wr) (fun _ i _ => 12 - (intOf i).toNat)
  case atStart => exact ⟨0, [], Nat.zero_le _, by omega, rfl, World.ownsRow_nil _ _ _ _, rfl, Below.refl _ _⟩
  case round =>
    obtain ⟨k, xs, hk, hk2, rfl, hown, hxs, hbr⟩ := hrel
    have hsz := hbr.size
    have hcell : wr.cell? ⟨w.heap.size, 0, none⟩ = some (.slice A zs.length c) := by
      rw [hbr.cell (p := ⟨w.heap.size, 0, none⟩) (by simp), World.cell?_alloc_at _ _ _ _ rfl]; rfl
    by_cases hlt : k < zs.length ∧ k < 12
    · obtain ⟨hlt1, hlt2⟩ := hlt
      have hr : Rd8 wr A zs := h.keep (by have := hsz; simp at this; omega) (fun b o hb => by
        rw [hbr.cell (p := ⟨b, o, none⟩) (by show b < _; omega), World.cell?_alloc_past _ _ _ hb])
      obtain ⟨b, off, z, rfl, hb, hc, hq0, hq1, hz⟩ := hr.at_ hlt1
      have hn0 : (n == 0) = false := by simp; omega
      have hsz2 : w.heap.size + 1 ≤ wr.heap.size := by simpa using hsz
      have hmod1 : 0 ≤ z % n := Int.emod_nonneg _ (by omega)
      have hmod2 : z % n < n := Int.emod_lt_of_pos _ (by omega)
      go_wp2_with (at_builtin; refine wpList_append_own _ rfl _ _ 36 rfl (w.heap.size + 1) 3 i0 (.int .i64 0) 1 8 Try.underlying36 hi0 hz0 hz1 hz2 rfl (by decide) _ _ _ rfl (hown.alloc _) ⟨wr.heap.size, 0, none⟩ 1 1 [.int .i64 (z % n)] rfl rfl ?c1 ?c2 ?c3 ?c4 ?c5 ?_)
      case c1 => exact (cell_one_new _ _ _)
      case c2 => intro u hu; simp at hu; subst hu; rfl
      case c3 => unfold maxLen; omega
      case c4 => omega
      case c5 => simp; omega
      intro v1 w1 hown1 hg1 _
      obtain ⟨hown2, hbr2⟩ := own_step hbr hsz2 hown hown1 hg1
      clear hown1 hg1 hown
      go_wp2
      go_roundw
      case rel => exact ⟨k + 1, _, by omega, by omega, by go_num, hown2, (by show _ = _; rw [hxs.out, take_snoc' zs k hlt1, hz.out]; simp), hbr2⟩
      case measure => simp [intOf]; omega
    · have hfin : Hid (xs = M.sym n zs) := by
        show _ = (zs.take 12).map (· % n)
        rw [hxs.out]
        rcases Nat.lt_or_ge k 12 with h12 | h12
        · rw [List.take_of_length_le (show zs.length ≤ k by omega), List.take_of_length_le (show zs.length ≤ 12 by omega)]
        · rw [show k = 12 by omega]
      have hbw : Below w.heap.size w wr := ((Below.refl _ _).alloc (Nat.le_refl _) _).trans (hbr.mono (by omega))
      clear hxs
      by_cases hlt1 : k < zs.length
      · have h12 : ¬ (k : Int) < 12 := by omega
        go_wp2
        go_ret
        rw [← hfin.out]
        exact Built.of_own hown hbw
      · go_wp2
        go_ret
        rw [← hfin.out]
        exact Built.of_own hown hbw
end Go.Proofs.Ytldpfbmkmehadaa
