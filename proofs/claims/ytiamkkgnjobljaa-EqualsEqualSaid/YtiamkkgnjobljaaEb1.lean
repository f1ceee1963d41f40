/-
  Pairs compared; the law's own edge, list and pairs of layer 10. No statement is proved here.
-/
import Derived.Test.YtiamkkgnjobljaaEaA
import Derived.Test.YtiamkkgnjobljaaRbZ
import Derived.ChangeKeysEq
namespace Go.Proofs.Ytiamkkgnjobljaa
open Go.RowKit
open Mc (Ed Ma Wv)

theorem part_pa (a b : Int) (w : World) : (part 3 #[.int .i64 a, .int .i64 b] (0 * Try.prog.cellsOf 3)).run Try.prog w = .ok (.int .i64 a) w := by kernel_rfl
theorem part_pb (a b : Int) (w : World) : (part 3 #[.int .i64 a, .int .i64 b] (1 * Try.prog.cellsOf 3)).run Try.prog w = .ok (.int .i64 b) w := by kernel_rfl
theorem run_equal_pair (a b a' b' : Int) (w : World) : (Op.equalIn 10000 95 (.agg #[.int .i64 a, .int .i64 b]) (.agg #[.int .i64 a', .int .i64 b'])).run Try.prog w = .ok ((a == a') && (b == b')) w := by
  obtain ⟨i, hi⟩ := Option.isSome_iff_exists.1 (show (Try.prog.info? 3).isSome = true by kernel_rfl)
  rw [run_equalIn_array w 9999 _ _ Try.underlying95 hi, show List.range 2 = [0, 1] from rfl]
  simp only [Op.eqItems]
  rw [Sem.run_bind, part_pa, Result.andThen_ok, Sem.run_bind, part_pa, Result.andThen_ok, Sem.run_bind, run_equalIn_int (P := Try.prog) _ 9998 3 .i64 .i64 _ _ Try.underlying3, Result.andThen_ok]
  cases h7 : (a == a')
  · rfl
  · simp only [Bool.not_true, Bool.false_eq_true, if_false, Bool.true_and]
    rw [Sem.run_bind, part_pb, Result.andThen_ok, Sem.run_bind, part_pb, Result.andThen_ok, Sem.run_bind, run_equalIn_int (P := Try.prog) _ 9998 3 .i64 .i64 _ _ Try.underlying3, Result.andThen_ok]
    cases h8 : (b == b') <;> rfl
theorem run_neq_pair (a b a' b' : Int) (w : World) : (binOp .neq 95 (.agg #[.int .i64 a, .int .i64 b]) (.agg #[.int .i64 a', .int .i64 b'])).run Try.prog w = .ok (.bool (!((a == a') && (b == b')))) w := by
  rw [run_neq_struct, run_equal_pair]; rfl
theorem run_eql_pair (a b a' b' : Int) (w : World) : (binOp .eql 95 (.agg #[.int .i64 a, .int .i64 b]) (.agg #[.int .i64 a', .int .i64 b'])).run Try.prog w = .ok (.bool ((a == a') && (b == b'))) w := by
  rw [run_eql_struct, run_equal_pair]; rfl
theorem pair_guard : Try.prog.eqGuardType Try.prog.depth 95 = false := by kernel_rfl

theorem eedge_any (x y : Int) (w : World) : Calls Try.prog 21 #[.int .i64 x, .int .i64 y] w fun e w' => e = .returned (.agg #[.int .i64 x, .int .i64 y]) ∧ Below w.heap.size w w' := by
  go_enter Try.func21, Try.ntmps21
  go_wp2
  go_returns
  exact ⟨rfl, (Below.refl _ _).alloc (Nat.le_refl _) _⟩
theorem elist_yes (A B : Option Addr) (n d : Nat) (x : List Int) (f : Int) (w : World) (hx : Rd w A x) (hy : Rd w B x) (hn : x.length = n) (hm : n ≤ 9223372036854775807) :
    Calls Try.prog 55 #[.slice A n n, .int .i64 f, .slice B n d, .int .i64 f] w fun e w' => e = .returned (.bool true) ∧ Below w.heap.size w w' := by
  subst hn
  have hs : Hid (M.same x x = true) := M.same_yes rfl
  have hff : (f == f) = true := by simp
  have hll : ((x.length : Int) == x.length) = true := by simp
  go_enter Try.func55, Try.ntmps55
  go_wp2_with fail
  refine (same_any _ _ _ _ _ _ _ hx hy hm).mono ?_
  rintro e w1 ⟨rfl, hb1⟩
  rw [hs.out]
  go_wp2
  go_ret
  exact ⟨rfl, hb1⟩
set_option maxRecDepth 100000 in
set_option maxHeartbeats 2000000 in
theorem epairs_yes (A B : Option Addr) (n d : Nat) (ps : List (Int × Int)) (w : World) (hx : RdP w A ps) (hy : RdP w B ps) (hn : ps.length = n) (hm : n ≤ 1000000) :
    Calls Try.prog 56 #[.slice A n n, .slice B n d] w fun e w' => e = .returned (.bool true) ∧ Below w.heap.size w w' := by
  have hll : ((n : Int) != n) = false := by simp
  have HN := Lib.hid hn
  clear hn
  have hg := pair_guard
  go_enter Try.func56, Try.ntmps56
  go_wp2_with fail
  go_loopw [5] (fun z wr => ∃ j : Nat, j ≤ n ∧ z = .int .i64 j ∧ Hid (Below w.heap.size w wr)) (fun z _ => n - (intOf z).toNat)
  case atStart => exact ⟨0, by omega, rfl, Below.refl _ _⟩
  case round =>
    obtain ⟨j, hj, rfl, hbr⟩ := hrel
    by_cases hjn : j < n
    · have hjn' : (j : Int) < n := by omega
      obtain ⟨e1, f1, x, y, rfl, he1, hx0, hy0, hqe1⟩ := hx.at_ (k := j) (by rw [HN.out]; exact hjn)
      obtain ⟨e2, f2, x', y', rfl, he2, hx2, hy2, hqe2⟩ := hy.at_ (k := j) (by rw [HN.out]; exact hjn)
      have he : (x, y) = (x', y') := Option.some.inj (hqe1.out.symm.trans hqe2.out)
      injection he with ea eb
      subst ea eb
      have z0 := (hbr.out.cell (p := ⟨e1, f1 + j * 2, none⟩) he1).trans hx0
      have z1 := (hbr.out.cell (p := ⟨e1, f1 + j * 2 + 1, none⟩) he1).trans hy0
      have y0 := (hbr.out.cell (p := ⟨e2, f2 + j * 2, none⟩) he2).trans hx2
      have y1 := (hbr.out.cell (p := ⟨e2, f2 + j * 2 + 1, none⟩) he2).trans hy2
      have hrun : ∀ w, (binOp .neq 95 (.agg #[.int .i64 x, .int .i64 y]) (.agg #[.int .i64 x, .int .i64 y])).run Try.prog w = .ok (.bool false) w := fun w => by
        rw [run_neq_pair]; simp
      clear hx0 hy0 hx2 hy2 he1 he2
      go_wp2
      go_quiet (fail)
      go_wp2
      go_roundw
      case rel => exact ⟨j + 1, by omega, by go_num, Lib.hid (below_drewN' hbr.out _)⟩
      case measure => simp [intOf]; omega
    · obtain rfl : j = n := by omega
      have hlt : ¬ ((j : Int) < j) := by omega
      go_wp2
      go_ret
      exact ⟨rfl, hbr.out⟩
end Go.Proofs.Ytiamkkgnjobljaa
