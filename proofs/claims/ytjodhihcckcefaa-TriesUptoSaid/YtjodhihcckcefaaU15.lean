/-
  Contracts: Upto, Exact. No statement is proved here.
-/
import Derived.Test.YtjodhihcckcefaaU14
import Derived.Lib.MinMax
namespace Go.Proofs.Ytjodhihcckcefaa
open Go.RowKit Go.Maps

set_option maxRecDepth 100000 in
theorem upto_any (n k : Int) (S : List (List Int)) (w : World) (hS : M.asc S) (hmem : ∀ y, y ∈ S ↔ M.Val n y ∧ (y.length : Int) ≤ k) (R : Int) (hR : bE n (min k 0) k S = R) :
    Calls Try.prog 37 #[.int .i64 n, .int .i64 k] w (Lst w (okL R S) R) := by
  have CB := Lib.hid (between_any n (min k 0) k S w (by omega) hS (fun y => by rw [hmem]; constructor <;> (rintro ⟨a, b⟩; first | exact ⟨a, by omega, b⟩ | exact ⟨a, b.2⟩)) R hR)
  clear hS hmem hR
  by_cases h0 : k < 0
  · have e : min k 0 = k := by omega
    rw [e] at CB
    have d : decide (k < 0) = true := decide_eq_true h0
    go_enter Try.func37, Try.ntmps37
    go_wp2_with fail
    refine CB.out.mono ?_
    rintro e w1 ⟨A, q, rfl, hq, hx, hb⟩
    have HL : Hid (Lst w (okL R S) R (.returned (.tuple #[.slice A q q, .int .i64 R])) w1) := ⟨A, q, rfl, hq, hx, hb⟩
    clear hq hx hb CB
    go_wp2
    go_ret2
    exact HL.out
  · have e : min k 0 = 0 := by omega
    rw [e] at CB
    have d : decide (k < 0) = false := decide_eq_false h0
    go_enter Try.func37, Try.ntmps37
    go_wp2_with fail
    refine CB.out.mono ?_
    rintro e w1 ⟨A, q, rfl, hq, hx, hb⟩
    have HL : Hid (Lst w (okL R S) R (.returned (.tuple #[.slice A q q, .int .i64 R])) w1) := ⟨A, q, rfl, hq, hx, hb⟩
    clear hq hx hb CB
    go_wp2
    go_ret2
    exact HL.out
set_option maxRecDepth 100000 in
theorem exact_any (n k : Int) (S : List (List Int)) (w : World) (hS : M.asc S) (hmem : ∀ y, y ∈ S ↔ M.Val n y ∧ (y.length : Int) = k) (R : Int) (hR : bE n k k S = R) :
    Calls Try.prog 38 #[.int .i64 n, .int .i64 k] w (Lst w (okL R S) R) := by
  have CB := Lib.hid (between_any n k k S w (Int.le_refl _) hS (fun y => by rw [hmem]; constructor <;> (rintro ⟨a, b⟩; exact ⟨a, by omega⟩)) R hR)
  clear hS hmem hR
  go_enter Try.func38, Try.ntmps38
  go_wp2_with fail
  refine CB.out.mono ?_
  rintro e w1 ⟨A, q, rfl, hq, hx, hb⟩
  have HL : Hid (Lst w (okL R S) R (.returned (.tuple #[.slice A q q, .int .i64 R])) w1) := ⟨A, q, rfl, hq, hx, hb⟩
  clear hq hx hb CB
  go_wp2
  go_ret2
  exact HL.out
end Go.Proofs.Ytjodhihcckcefaa
