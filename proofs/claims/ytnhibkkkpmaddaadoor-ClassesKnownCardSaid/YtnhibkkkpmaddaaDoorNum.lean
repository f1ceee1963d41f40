/-
  Contracts: the reference's Number.
-/
import Derived.Test.YtnhibkkkpmaddaaDoorMem
import Derived.Test.YtnhibkkkpmaddaaDoorParseM
namespace Go.Proofs.YtnhibkkkpmaddaaDoor
open Go.RowKit


theorem ret_str {a b : ByteArray} (h : a = b) : Ending.returned (.string a) = .returned (.string b) := by rw [h]
theorem digit_of (c : Nat) (h : c < 10) (w : World) : Calls Tryd.prog 41 #[.int .i64 c] w fun e w' => e = .returned (.string (M.numB c)) ∧ w' = w := by
  go_enter Tryd.func41, Tryd.ntmps41
  go_wp2
  go_ret
  exact ⟨ret_str (M.numB_digit c h), rfl⟩
theorem digit_int (n : Int) (h0 : 0 ≤ n) (h : n < 10) (w : World) : Calls Tryd.prog 41 #[.int .i64 n] w fun e w' => e = .returned (.string (M.numB n)) ∧ w' = w := by
  obtain ⟨c, rfl⟩ := Int.eq_ofNat_of_zero_le h0
  exact digit_of c (by omega) w
theorem small_neg (n : Int) (h0 : n < 0) (h : -10 < n) (w : World) : Calls Tryd.prog 41 #[.int .i64 n] w fun e w' => e = .returned (.string (M.numB n)) ∧ w' = w := by
  have HM := Lib.hid (M.numB_minus h0)
  have hs := M.numB_size (z := -n) (by omega) (by omega)
  go_enter Tryd.func41, Tryd.ntmps41
  go_wp2_with fail
  refine (digit_int (-n) (by omega) (by omega) _).mono ?_
  rintro e w1 ⟨rfl, rfl⟩
  go_wp2
  go_ret
  exact ⟨ret_str HM.out, rfl⟩
theorem number_fuel (k : Nat) : ∀ (n : Int) (w : World), -9223372036854775808 ≤ n → n ≤ 9223372036854775807 → n.natAbs < 10 ^ (k + 1) →
    Calls Tryd.prog 41 #[.int .i64 n] w fun e w' => e = .returned (.string (M.numB n)) ∧ w' = w := by
  induction k with
  | zero =>
    intro n w h1 h2 h3
    by_cases hn : 0 ≤ n
    · exact digit_int n hn (by simp at h3; omega) w
    · exact small_neg n (by omega) (by simp at h3; omega) w
  | succ k ih =>
    intro n w h1 h2 h3
    have IH := Lib.hid ih
    rw [Nat.pow_succ] at h3
    by_cases hn : 10 ≤ n
    · have hb : (n / 10).natAbs < 10 ^ (k + 1) := by omega
      have HB := Lib.hid hb
      have HM := Lib.hid (M.numB_pos hn)
      have hs1 := M.numB_size (z := n / 10) (by omega) (by omega)
      have hs2 := M.numB_size (z := n % 10) (by omega) (by omega)
      clear ih h3 hb
      go_enter Tryd.func41, Tryd.ntmps41
      go_wp2_with fail
      refine (IH.out (n / 10) _ (by omega) (by omega) HB.out).mono ?_
      rintro e w1 ⟨rfl, rfl⟩
      go_wp2_with fail
      refine (digit_int (n % 10) (by omega) (by omega) _).mono ?_
      rintro e w1 ⟨rfl, rfl⟩
      go_wp2
      go_ret
      exact ⟨ret_str HM.out, rfl⟩
    · by_cases hn1 : 0 ≤ n
      · exact digit_int n hn1 (by omega) w
      · by_cases hn2 : -10 < n
        · exact small_neg n (by omega) hn2 w
        · have hq : n.tdiv 10 = -((-n) / 10) := by
            have := Int.neg_tdiv (a := -n) (b := 10)
            rw [Int.neg_neg] at this
            rw [this, Int.tdiv_eq_ediv_of_nonneg (by omega)]
          have hr : -(n.tmod 10) = (-n) % 10 := by
            have := Int.neg_tmod (a := -n) (b := 10)
            rw [Int.neg_neg] at this
            rw [this, Int.tmod_eq_emod_of_nonneg (by omega), Int.neg_neg]
          have hb : (n.tdiv 10).natAbs < 10 ^ (k + 1) := by rw [hq]; omega
          have hb1 : -9223372036854775808 ≤ n.tdiv 10 ∧ n.tdiv 10 ≤ 9223372036854775807 := by rw [hq]; omega
          have hb2 : 0 ≤ -(n.tmod 10) ∧ -(n.tmod 10) < 10 := by rw [hr]; omega
          obtain ⟨hb3, hb4⟩ := hb1
          obtain ⟨hb5, hb6⟩ := hb2
          have HB := Lib.hid hb
          have HQ := Lib.hid hq
          have HR := Lib.hid hr
          have HM := Lib.hid (M.numB_neg (n := n) (m := n.tdiv 10) (by omega) hq)
          have hs1 := M.numB_size (z := n.tdiv 10) (by omega) (by omega)
          have hs2 := M.numB_size (z := (-n) % 10) (by omega) (by omega)
          have hb7 : -9223372036854775808 ≤ n.tmod 10 ∧ n.tmod 10 ≤ 9223372036854775807 := by omega
          obtain ⟨hb8, hb9⟩ := hb7
          clear ih h3 hb hq hr
          go_enter Tryd.func41, Tryd.ntmps41
          go_wp2_with fail
          refine (IH.out (n.tdiv 10) _ hb3 hb4 HB.out).mono ?_
          rintro e w1 ⟨rfl, rfl⟩
          go_wp2_with fail
          refine (digit_int (-(n.tmod 10)) hb5 hb6 _).mono ?_
          rintro e w1 ⟨rfl, rfl⟩
          rw [HR.out]
          go_wp2
          go_ret
          exact ⟨ret_str HM.out, rfl⟩
theorem number_any (n : Int) (w : World) (h1 : -9223372036854775808 ≤ n) (h2 : n ≤ 9223372036854775807) :
    Calls Tryd.prog 41 #[.int .i64 n] w fun e w' => e = .returned (.string (M.numB n)) ∧ w' = w :=
  number_fuel 19 n w h1 h2 (by omega)
end Go.Proofs.YtnhibkkkpmaddaaDoor
