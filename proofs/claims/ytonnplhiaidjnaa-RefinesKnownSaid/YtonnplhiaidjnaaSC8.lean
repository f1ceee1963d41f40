/-
  Contracts: classes.checkBoth, classes.Finer.
-/
import Derived.Test.YtonnplhiaidjnaaSkC
import Derived.WalkMore
namespace Go.Proofs.Ytonnplhiaidjnaa
open Go.RowKit

namespace M
/-- The error of two partitions. -/
def both (p q : List Int) : Int := if pck p ≠ 0 then pck p else if pck q ≠ 0 then pck q else if p.length ≠ q.length then 16 else 0
theorem both_left {p q : List Int} {e : Int} (h : pck p = e) (h0 : e ≠ 0) : both p q = e := by unfold both; rw [if_pos (by rw [h]; exact h0), h]
theorem both_right {p q : List Int} {e : Int} (h1 : pck p = 0) (h : pck q = e) (h0 : e ≠ 0) : both p q = e := by unfold both; rw [if_neg (by rw [h1]; simp), if_pos (by rw [h]; exact h0), h]
theorem both_count {p q : List Int} (h1 : pck p = 0) (h2 : pck q = 0) (h : p.length ≠ q.length) : both p q = 16 := by unfold both; rw [if_neg (by rw [h1]; simp), if_neg (by rw [h2]; simp), if_pos h]
theorem both_ok {p q : List Int} (h1 : pck p = 0) (h2 : pck q = 0) (h : p.length = q.length) : both p q = 0 := by unfold both; rw [if_neg (by rw [h1]; simp), if_neg (by rw [h2]; simp), if_neg (by simp [h])]
theorem both_zero {p q : List Int} (h : both p q = 0) : Two p q := by
  by_cases h1 : pck p = 0
  · by_cases h2 : pck q = 0
    · by_cases h3 : p.length = q.length
      · obtain ⟨a, b⟩ := pck_zero h1
        exact ⟨b, (pck_zero h2).2, h3, a⟩
      · rw [both_count h1 h2 h3] at h; cases h
    · rw [both_right h1 rfl h2] at h; exact absurd h h2
  · rw [both_left rfl h1] at h; exact absurd h h1
theorem Two.both {p q : List Int} (h : Two p q) : M.both p q = 0 := both_ok (pck_ok (by have := h.most; omega) h.left) (pck_ok (by have := h.most; have := h.same; omega) h.right) h.same
/-- What Finer returns. -/
noncomputable def finV (p q : List Int) : Bool := if both p q = 0 then finB p q else false
theorem finV_err {p q : List Int} {e : Int} (h : both p q = e) (h0 : e ≠ 0) : finV p q = false := by simp [finV, h, h0]
theorem finV_ok {p q : List Int} (h : both p q = 0) : finV p q = finB p q := by simp [finV, h]
end M

theorem both_any (A B : Option Addr) (c d : Nat) (p q : List Int) (w : World) (hp : Rd w A p) (hq : Rd w B q) :
    Calls Try.prog 58 #[.slice A p.length c, .slice B q.length d] w fun e w' => e = .returned (.int .i64 (M.both p q)) ∧ Below w.heap.size w w' := by
  obtain ⟨x, hx⟩ : ∃ x, Hid (M.pck p = x) := ⟨_, rfl⟩
  obtain ⟨y, hy⟩ : ∃ y, Hid (M.pck q = y) := ⟨_, rfl⟩
  have C1 := kcheck_any A c p w hp
  rw [hx.out] at C1
  by_cases hx0 : x = 0
  · subst hx0
    by_cases hy0 : y = 0
    · subst hy0
      by_cases hl : p.length = q.length
      · have hf : Hid (M.both p q = 0) := M.both_ok hx.out hy.out hl
        have hne : ((p.length : Int) != q.length) = false := by simp; omega
        clear hl
        go_enter Try.func58, Try.ntmps58
        go_wp2_with fail
        refine C1.mono ?_
        rintro e w1 ⟨rfl, hb1⟩
        have C2 := kcheck_any B d q w1 (hq.below hb1)
        rw [hy.out] at C2
        go_wp2_with fail
        refine C2.mono ?_
        rintro e w2 ⟨rfl, hb2⟩
        go_wp2
        go_ret
        exact ⟨ret_int hf.out.symm, below_next hb1 hb2⟩
      · have hf : Hid (M.both p q = 16) := M.both_count hx.out hy.out hl
        have hne : ((p.length : Int) != q.length) = true := by simp; omega
        clear hl
        go_enter Try.func58, Try.ntmps58
        go_wp2_with fail
        refine C1.mono ?_
        rintro e w1 ⟨rfl, hb1⟩
        have C2 := kcheck_any B d q w1 (hq.below hb1)
        rw [hy.out] at C2
        go_wp2_with fail
        refine C2.mono ?_
        rintro e w2 ⟨rfl, hb2⟩
        go_wp2
        go_ret
        exact ⟨ret_int hf.out.symm, below_next hb1 hb2⟩
    · have hf : Hid (M.both p q = y) := M.both_right hx.out hy.out hy0
      have hne : (y != 0) = true := by simpa using hy0
      go_enter Try.func58, Try.ntmps58
      go_wp2_with fail
      refine C1.mono ?_
      rintro e w1 ⟨rfl, hb1⟩
      have C2 := kcheck_any B d q w1 (hq.below hb1)
      rw [hy.out] at C2
      go_wp2_with fail
      refine C2.mono ?_
      rintro e w2 ⟨rfl, hb2⟩
      go_wp2
      go_ret
      exact ⟨ret_int hf.out.symm, below_next hb1 hb2⟩
  · have hf : Hid (M.both p q = x) := M.both_left hx.out hx0
    have hne : (x != 0) = true := by simpa using hx0
    go_enter Try.func58, Try.ntmps58
    go_wp2_with fail
    refine C1.mono ?_
    rintro e w1 ⟨rfl, hb1⟩
    go_wp2
    go_ret
    exact ⟨ret_int hf.out.symm, hb1⟩

theorem ret_bi {a c : Bool} {b d : Int} (h1 : a = c) (h2 : b = d) : Ending.returned (.tuple #[.bool a, .int .i64 b]) = .returned (.tuple #[.bool c, .int .i64 d]) := by rw [h1, h2]

end Go.Proofs.Ytonnplhiaidjnaa
