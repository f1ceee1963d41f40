/-
  Contracts of the functions that check and compare lists: words.Check, the reference's Check and Compare.
-/
import Derived.Test.YtjodhihcckcefaaProg
import Derived.Test.YtjodhihcckcefaaBaZ
import Derived.Outline
import Derived.Deep.LoopGhost
import Derived.Deep.QuietTactic
import Derived.BigQuiet
namespace Go.Proofs.Ytjodhihcckcefaa
open Go.RowKit

set_option maxHeartbeats 400000 in
theorem check_loop (A : Option Addr) (c : Nat) (zs : List Int) (n : Int) (w : World) (h : Rd w A zs) (h1 : n ≤ 16) (h2 : (zs.length : Int) ≤ 256) (h3 : 1 ≤ n) :
    Calls Try.prog 49 #[.slice A zs.length c, .int .i64 n] w fun e w' => e = .returned (.int .i64 (M.badI n zs)) ∧ Below w.heap.size w w' := by
  go_enter Try.func49, Try.ntmps49
  go_wp2
  go_loop [18] (fun i => ∃ k : Nat, k ≤ zs.length ∧ i = .int .i64 k ∧ Hid ((zs.take k).any (M.badB n) = false)) (fun i => zs.length - (intOf i).toNat)
  case atStart => exact ⟨0, Nat.zero_le _, rfl, by simp [Hid]⟩
  case round =>
    obtain ⟨k, hk, rfl, hn⟩ := hrel
    by_cases hlt : k < zs.length
    · obtain ⟨b, off, z, rfl, hb, hc, hz⟩ := h.at_ hlt
      by_cases hbad : M.badB n z = true
      · have hfin : Hid (M.badI n zs = 1) := M.badI_hit hlt (by rw [hz.out]; exact hbad)
        rcases M.badB_true hbad with hz | hz
        · go_wp2
          go_ret
          exact ⟨ret_int hfin.out.symm, Below.refl _ _⟩
        · by_cases hz2 : z < 0
          all_goals
            go_wp2
            go_ret
            exact ⟨ret_int hfin.out.symm, Below.refl _ _⟩
      · obtain ⟨hz1, hz2⟩ := M.badB_false hbad
        have hn' : Hid ((zs.take (k + 1)).any (M.badB n) = false) := M.any_snoc hlt hn.out (by rw [hz.out]; simpa using hbad)
        clear hbad
        go_wp2
        go_round
        case rel => exact ⟨k + 1, by omega, by go_num, hn'⟩
        case measure => simp [intOf]; omega
    · go_wp2
      go_ret
      have : zs.take k = zs := List.take_of_length_le (by omega)
      have hn := hn.out
      rw [this] at hn
      exact ⟨ret_int (M.badI_clean hn).symm, Below.refl _ _⟩

theorem check_any (A : Option Addr) (c : Nat) (zs : List Int) (n : Int) (w : World) (h : Rd w A zs) :
    Calls Try.prog 49 #[.slice A zs.length c, .int .i64 n] w fun e w' => e = .returned (.int .i64 (M.check zs n)) ∧ Below w.heap.size w w' := by
  by_cases h1 : 16 < n
  · have hf : Hid (M.check zs n = 3) := M.check_limit (.inl h1)
    go_enter Try.func49, Try.ntmps49
    go_wp2
    go_ret
    exact ⟨ret_int hf.out.symm, Below.refl _ _⟩
  · by_cases h2 : 256 < zs.length
    · have hf : Hid (M.check zs n = 3) := M.check_limit (.inr h2)
      go_enter Try.func49, Try.ntmps49
      go_wp2
      go_ret
      exact ⟨ret_int hf.out.symm, Below.refl _ _⟩
    · by_cases h3 : n < 1
      · have hf : Hid (M.check zs n = 1) := M.check_arg (by omega) h3
        go_enter Try.func49, Try.ntmps49
        go_wp2
        go_ret
        exact ⟨ret_int hf.out.symm, Below.refl _ _⟩
      · rw [M.check_in (by omega) (by omega) (by omega)]
        exact check_loop A c zs n w h (by omega) (by omega) (by omega)

theorem cmpc_any (a b : Int) (w : World) :
    Calls Try.prog 87 #[.int .i64 a, .int .i64 b] w fun e w' => e = .returned (.int .i64 (M.sgn a b)) ∧ Below w.heap.size w w' := by
  rcases Int.lt_trichotomy a b with h | h | h
  · have hf : Hid (M.sgn a b = -1) := M.sgn_lt h
    go_enter Try.func87, Try.ntmps87
    go_wp2
    go_ret
    exact ⟨ret_int hf.out.symm, Below.refl _ _⟩
  · subst h
    have hf : Hid (M.sgn a a = 0) := M.sgn_eq rfl
    go_enter Try.func87, Try.ntmps87
    go_wp2
    go_ret
    exact ⟨ret_int hf.out.symm, Below.refl _ _⟩
  · have hf : Hid (M.sgn a b = 1) := M.sgn_gt h
    go_enter Try.func87, Try.ntmps87
    go_wp2
    go_ret
    exact ⟨ret_int hf.out.symm, Below.refl _ _⟩
set_option maxHeartbeats 400000 in
theorem scmp_loop (A B : Option Addr) (c d : Nat) (x y : List Int) (w : World) (hx : Rd w A x) (hy : Rd w B y) (h1 : x.length = y.length) (hm : x.length ≤ 9223372036854775807) :
    Calls Try.prog 92 #[.slice A x.length c, .slice B y.length d] w fun e w' => e = .returned (.int .i64 (M.cmp x y)) ∧ Below w.heap.size w w' := by
  have H1 := Lib.hid h1
  have h2 : ¬ (x.length : Int) < y.length := by omega
  clear h1
  go_enter Try.func92, Try.ntmps92
  go_wp2
  go_loopw [11] (fun i wr => ∃ k : Nat, k ≤ x.length ∧ i = .int .i64 k ∧ Hid (x.take k = y.take k) ∧ Below w.heap.size w wr) (fun i _ => x.length - (intOf i).toNat)
  case atStart => exact ⟨0, Nat.zero_le _, rfl, by simp [Hid], Below.refl _ _⟩
  case round =>
    obtain ⟨k, hk, rfl, hn, hbr⟩ := hrel
    by_cases hlt : k < x.length
    · obtain ⟨b, off, z, rfl, hb, hc, hz⟩ := (hx.below hbr).at_ hlt
      obtain ⟨b2, off2, z2, rfl, hb2, hc2, hz2⟩ := (hy.below hbr).at_ (k := k) (by have := H1.out; omega)
      have hk2 : (k : Int) < y.length := by have := H1.out; omega
      have hk3 : ¬ (y.length : Int) ≤ k := by have := H1.out; omega
      rcases Int.lt_trichotomy z z2 with hzz | hzz | hzz
      · have hfin : Hid (M.cmp x y = -1) := M.cmp_lt H1.out hlt hn.out (by rw [hz.out, hz2.out]; exact hzz)
        have hs : Hid (M.sgn z z2 = -1) := M.sgn_lt hzz
        go_wp2_with fail
        refine (cmpc_any _ _ _).mono ?_
        rintro e w1 ⟨rfl, hb1⟩
        rw [hs.out]
        go_wp2
        go_ret
        exact ⟨ret_int hfin.out.symm, below_next hbr hb1⟩
      · subst hzz
        have hn' : Hid (x.take (k + 1) = y.take (k + 1)) := M.take_snoc_eq hlt (by omega) hn.out (by rw [hz.out, hz2.out])
        have hs : Hid (M.sgn z z = 0) := M.sgn_eq rfl
        go_wp2_with fail
        refine (cmpc_any _ _ _).mono ?_
        rintro e w1 ⟨rfl, hb1⟩
        rw [hs.out]
        go_wp2
        go_roundw
        case rel => exact ⟨k + 1, by omega, by go_num, hn', below_next hbr hb1⟩
        case measure => simp [intOf]; omega
      · have hfin : Hid (M.cmp x y = 1) := M.cmp_gt H1.out hlt hn.out (by rw [hz.out, hz2.out]; exact hzz)
        have hs : Hid (M.sgn z z2 = 1) := M.sgn_gt hzz
        go_wp2_with fail
        refine (cmpc_any _ _ _).mono ?_
        rintro e w1 ⟨rfl, hb1⟩
        rw [hs.out]
        go_wp2
        go_ret
        exact ⟨ret_int hfin.out.symm, below_next hbr hb1⟩
    · have hfin : Hid (M.cmp x y = 0) := M.cmp_end (by omega) (by have := H1.out; omega) hn.out
      go_wp2
      go_ret
      exact ⟨ret_int hfin.out.symm, hbr⟩
end Go.Proofs.Ytjodhihcckcefaa
