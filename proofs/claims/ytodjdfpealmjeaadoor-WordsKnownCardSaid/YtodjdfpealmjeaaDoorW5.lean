/-
  Contracts: the reference's Power and Rank; words.Rank.
-/
import Derived.Test.YtodjdfpealmjeaaDoorW1
import Derived.Test.YtodjdfpealmjeaaDoorRankM
import Derived.Deep.RegionWith
import Derived.IntWalk
import Derived.Deep.QuietTactic
import Derived.BigQuiet
namespace Go.Proofs.YtodjdfpealmjeaaDoor
open Go.RowKit

set_option maxHeartbeats 400000 in
theorem pow_any (n : Int) (m : Nat) (w : World) (h1 : 1 ≤ n) (h2 : n ≤ 6) (hm : m ≤ 12) :
    Calls Tryd.prog 37 #[.int .i64 n, .int .i64 m] w fun e w' => e = .returned (.int .i64 (M.pw n m)) ∧ w' = w := by
  go_enter Tryd.func37, Tryd.ntmps37
  go_wp2
  go_loop [5, 6] (fun p i => ∃ k : Nat, k ≤ m ∧ i = .int .i64 k ∧ p = .int .i64 (M.pw n k)) (fun _ i => m - (intOf i).toNat)
  case atStart => exact ⟨0, Nat.zero_le _, rfl, by simp [M.pw]⟩
  case round =>
    obtain ⟨k, hk, rfl, rfl⟩ := hrel
    by_cases hlt : k < m
    · have hb := M.pw_bound h1 h2 (k := k + 1) (by omega)
      have hs : M.pw n (k + 1) = M.pw n k * n := M.pw_succ
      rw [hs] at hb
      have HS := Lib.hid hs
      clear hs
      obtain ⟨hb1, hb2⟩ := hb
      go_wp2
      go_round
      case rel => exact ⟨k + 1, by omega, by go_num, by rw [HS.out]⟩
      case measure => simp [intOf]; omega
    · have : k = m := by omega
      subst this
      go_wp2
      go_ret
      exact ⟨rfl, rfl⟩

theorem ret_two {k l : IntKind} {a b c d : Int} (h : a = b) (g : c = d) : Ending.returned (.tuple #[.int k a, .int l c]) = .returned (.tuple #[.int k b, .int l d]) := by rw [h, g]
theorem pow_int (n a : Int) (w : World) (h1 : 1 ≤ n) (h2 : n ≤ 6) (h3 : 0 ≤ a) (hm : a ≤ 12) :
    Calls Tryd.prog 37 #[.int .i64 n, .int .i64 a] w fun e w' => e = .returned (.int .i64 (M.pw n a.toNat)) ∧ w' = w := by
  obtain ⟨m, rfl⟩ := Int.eq_ofNat_of_zero_le h3
  rw [Int.toNat_natCast]
  exact pow_any n m w h1 h2 (by omega)
set_option maxHeartbeats 400000 in
theorem rrank_any (A : Option Addr) (c : Nat) (zs : List Int) (n : Int) (w : World) (h : Rd w A zs) (h1 : 1 ≤ n) (h2 : n ≤ 6) (hl : zs.length ≤ 12) (hv : M.Val n zs) :
    Calls Tryd.prog 25 #[.slice A zs.length c, .int .i64 n] w fun e w' => e = .returned (.int .i64 (M.rk n zs)) ∧ Below w.heap.size w w' := by
  go_enter Tryd.func25, Tryd.ntmps25
  go_wp2
  go_loopw [5, 6] (fun p i wr => ∃ k : Nat, k ≤ zs.length ∧ i = .int .i64 k ∧ p = .int .i64 (M.rrF n zs k) ∧ Below w.heap.size w wr) (fun _ i _ => zs.length - (intOf i).toNat)
  case atStart => exact ⟨0, Nat.zero_le _, rfl, rfl, Below.refl _ _⟩
  case round =>
    obtain ⟨k, hk, rfl, rfl, hbr⟩ := hrel
    by_cases hlt : k < zs.length
    · obtain ⟨b, off, z, rfl, hb, hc, hz⟩ := (h.below hbr).at_ hlt
      have hz2 := hv.at_ hlt
      rw [hz.out] at hz2
      obtain ⟨hz3, hz4⟩ := hz2
      have hb0 := M.rrF_bound h1 h2 hl hv k (by omega)
      have hb1 := M.rrF_bound h1 h2 hl hv (k + 1) (by omega)
      obtain ⟨p1, p2⟩ := M.pw_bound h1 h2 (k := k) (by omega)
      obtain ⟨p3, p4⟩ := M.pw_bound h1 h2 (k := zs.length - 1 - k) (by omega)
      have m0 : 0 ≤ z * M.pw n (zs.length - 1 - k) := Int.mul_nonneg hz3 (by omega)
      have m1 : z * M.pw n (zs.length - 1 - k) ≤ 6 * 2176782336 := Int.mul_le_mul (by omega) p4 (by omega) (by omega)
      have hst : M.rrF n zs (k + 1) = M.rrF n zs k + (M.pw n k + z * M.pw n (zs.length - 1 - k)) := by rw [M.rrF_pw, hz.out]
      have HS := Lib.hid hst
      have et : ((zs.length : Int) - 1 - k).toNat = zs.length - 1 - k := by omega
      rw [hst] at hb1
      clear hst hz
      have e1 : IntKind.i64.wrap ((zs.length : Int) - 1) = zs.length - 1 := IntWalk.i64_in _ (by omega)
      have e2 : IntKind.i64.wrap ((zs.length : Int) - 1 - k) = (zs.length : Int) - 1 - k := IntWalk.i64_in _ (by omega)
      have e3 : IntKind.i64.wrap (z * M.pw n (zs.length - 1 - k)) = z * M.pw n (zs.length - 1 - k) := IntWalk.i64_in _ (by omega)
      have e4 : IntKind.i64.wrap (M.pw n k + z * M.pw n (zs.length - 1 - k)) = M.pw n k + z * M.pw n (zs.length - 1 - k) := IntWalk.i64_in _ (by omega)
      have e5 : IntKind.i64.wrap (M.rrF n zs k + (M.pw n k + z * M.pw n (zs.length - 1 - k))) = M.rrF n zs k + (M.pw n k + z * M.pw n (zs.length - 1 - k)) := IntWalk.i64_in _ (by omega)
      go_wp2
      go_quiet ((go_at_call 37; exact Calls.quiet_of_same (pow_int _ _ _ h1 h2 (by omega) (by omega))))
      go_wp2
      clear e1 e2 e3 e4 e5 et
      go_roundw
      case rel => exact ⟨k + 1, by omega, by go_num, by rw [HS.out], below_drewN' hbr _⟩
      case measure => simp [intOf]; omega
    · have : k = zs.length := by omega
      subst this
      have HF := Lib.hid (M.rrF_rk n _ zs rfl)
      go_wp2
      go_ret
      exact ⟨ret_int HF.out, hbr⟩
set_option maxHeartbeats 400000 in
theorem rank_loop (A : Option Addr) (c : Nat) (zs : List Int) (n : Int) (w : World) (h : Rd w A zs) (hck : M.check zs n = 0) :
    Calls Tryd.prog 17 #[.slice A zs.length c, .int .i64 n] w fun e w' => e = .returned (.tuple #[.int .i64 (M.rankV n zs), .int .i64 (M.rankE n zs)]) ∧ Below w.heap.size w w' := by
  have HC := Lib.hid hck
  clear hck
  go_enter Tryd.func17, Tryd.ntmps17
  go_wp2_with fail
  refine (check_any _ _ _ _ _ h).mono ?_
  rintro e w1 ⟨rfl, hb1⟩
  rw [HC.out]
  go_wp2
  obtain ⟨hn1, hn2, hl, hv⟩ := M.check_zero HC.out
  have hn0 : (n == 0) = false := by simp; omega
  go_loopw [7, 19] (fun r i wr => ∃ k : Nat, k ≤ zs.length ∧ i = .int .i64 k ∧ r = .int .i64 (M.rk n (zs.take k)) ∧ M.rk n (zs.take k) ≤ 4611686018427387903 ∧ Below w.heap.size w wr) (fun _ i _ => zs.length - (intOf i).toNat)
  case atStart => exact ⟨0, Nat.zero_le _, rfl, by simp [M.rk_nil], by simp [M.rk_nil], hb1⟩
  case round =>
    obtain ⟨k, hk, rfl, rfl, hmax, hbr⟩ := hrel
    by_cases hlt : k < zs.length
    · obtain ⟨b, off, z, rfl, hb, hc, hz⟩ := (h.below hbr).at_ hlt
      have hz2 := hv.at_ hlt
      rw [hz.out] at hz2
      obtain ⟨hz3, hz4⟩ := hz2
      have hge := M.rk_ge hn2 (hv.take k)
      have hr0 : 0 ≤ M.rk n (zs.take k) := by omega
      have hst : M.rk n (zs.take (k + 1)) = M.rk n (zs.take k) * n + (z + 1) := by rw [take_snoc' zs k hlt, hz.out, M.rk_snoc]
      have HS := Lib.hid hst
      have hmn : 0 ≤ M.rk n (zs.take k) * n := Int.mul_nonneg hr0 (by omega)
      clear hst hz hge
      generalize M.rk n (zs.take k) = r at *
      by_cases hlim : (4611686018427387903 - (z + 1)) / n < r
      · have hno : ¬ M.rk n zs ≤ 4611686018427387903 := fun hc => by
          have h1 := M.rk_take_le hn2 hv (k + 1)
          have h2 := HS.out
          have h3 : (4611686018427387903 - (z + 1)) < r * n := Int.lt_mul_of_ediv_lt (by omega) hlim
          omega
        obtain ⟨g1, g2⟩ := M.rankV_no hno
        have G1 := Lib.hid g1
        have G2 := Lib.hid g2
        clear g1 g2 hno
        go_wp2
        go_ret2
        exact ⟨ret_two G1.out.symm G2.out.symm, hbr⟩
      · have hle : r * n ≤ 4611686018427387903 - (z + 1) := by
          have := Int.mul_le_of_le_ediv (a := r) (b := 4611686018427387903 - (z + 1)) (c := n) (by omega) (by omega)
          exact this
        go_wp2
        go_roundw
        case rel => exact ⟨k + 1, by omega, by go_num, by rw [HS.out], by rw [HS.out]; omega, hbr⟩
        case measure => simp [intOf]; omega
    · have ek : zs.take k = zs := List.take_of_length_le (by omega)
      rw [ek] at hmax ⊢
      obtain ⟨g1, g2⟩ := M.rankV_ok hmax
      have G1 := Lib.hid g1
      have G2 := Lib.hid g2
      clear g1 g2 ek
      go_wp2
      go_ret2
      exact ⟨ret_two G1.out.symm G2.out.symm, hbr⟩
/-- Rank of what is no word. -/
theorem rank_bad (A : Option Addr) (c : Nat) (zs : List Int) (n q : Int) (w : World) (h : Rd w A zs) (hck : M.check zs n = q) (hq0 : q ≠ 0) :
    Calls Tryd.prog 17 #[.slice A zs.length c, .int .i64 n] w fun e w' => e = .returned (.tuple #[.int .i64 0, .int .i64 q]) ∧ Below w.heap.size w w' := by
  have HC := Lib.hid hck
  have hq : (q != 0) = true := by simpa using hq0
  clear hck hq0
  go_enter Tryd.func17, Tryd.ntmps17
  go_wp2_with fail
  refine (check_any _ _ _ _ _ h).mono ?_
  rintro e w1 ⟨rfl, hb1⟩
  rw [HC.out]
  go_wp2
  go_ret2
  exact ⟨rfl, hb1⟩
end Go.Proofs.YtodjdfpealmjeaaDoor
