/-
  Contracts: the reference's Compare, Same, Prefix, Check; words.Compare, words.Prefix; slices.Equal.
-/
import Derived.Test.YtjodhihcckcefaaW1
namespace Go.Proofs.Ytjodhihcckcefaa
open Go.RowKit

theorem wcmp_any (A B : Option Addr) (c d : Nat) (x y : List Int) (w : World) (hx : Rd w A x) (hy : Rd w B y) (hm : x.length ≤ 9223372036854775807) :
    Calls Try.prog 79 #[.slice A x.length c, .slice B y.length d] w fun e w' => e = .returned (.int .i64 (M.cmp x y)) ∧ Below w.heap.size w w' := by
  rcases Nat.lt_trichotomy x.length y.length with h | h | h
  · have hf : Hid (M.cmp x y = -1) := M.cmp_short h
    have hs : Hid (M.sgn x.length y.length = -1) := M.sgn_lt (by omega)
    go_enter Try.func79, Try.ntmps79
    go_wp2_with fail
    refine (cmpc_any _ _ _).mono ?_
    rintro e w1 ⟨rfl, hb1⟩
    rw [hs.out]
    go_wp2
    go_ret
    exact ⟨ret_int hf.out.symm, hb1⟩
  · have H := Lib.hid h
    have hs : Hid (M.sgn x.length y.length = 0) := M.sgn_eq (by omega)
    clear h
    go_enter Try.func79, Try.ntmps79
    go_wp2_with fail
    refine (cmpc_any _ _ _).mono ?_
    rintro e w1 ⟨rfl, hb1⟩
    rw [hs.out]
    go_wp2_with fail
    refine (scmp_loop _ _ _ _ _ _ _ (hx.below hb1) (hy.below hb1) H.out hm).mono ?_
    rintro e w2 ⟨rfl, hb2⟩
    go_wp2
    go_ret
    exact ⟨rfl, below_next hb1 hb2⟩
  · have hf : Hid (M.cmp x y = 1) := M.cmp_long h
    have hs : Hid (M.sgn x.length y.length = 1) := M.sgn_gt (by omega)
    go_enter Try.func79, Try.ntmps79
    go_wp2_with fail
    refine (cmpc_any _ _ _).mono ?_
    rintro e w1 ⟨rfl, hb1⟩
    rw [hs.out]
    go_wp2
    go_ret
    exact ⟨ret_int hf.out.symm, hb1⟩

theorem Rd.take {w : World} {A : Option Addr} {zs : List Int} (h : Rd w A zs) (n : Nat) : Rd w A (zs.take n) := fun hp => by
  have hl : (zs.take n).length ≤ zs.length := by rw [List.length_take]; omega
  obtain ⟨b, off, e, hb, hc⟩ := h (by omega)
  refine ⟨b, off, e, hb, fun k hk => ?_⟩
  rw [hc k (by omega), List.getElem?_take, if_pos (by rw [List.length_take] at hk; omega)]
end Go.Proofs.Ytjodhihcckcefaa
