/-
  Contracts: a state, a place, a word of a machine; Step. No statement is proved here.
-/
import Derived.Test.YtonnplhiaidjnaaSMdZ
namespace Go.Proofs.Ytonnplhiaidjnaa
open Go.RowKit
open Mc (Ed Ma Pe)

namespace Mc
/-- The error of a machine and one of its states. -/
def cst (m : Ma) (s : Int) : Int := if chk m ≠ 0 then chk m else if 0 ≤ s ∧ s < m.r.length then 0 else 1
theorem stE_cst (m : Ma) (s i : Int) : stE m s i = if cst m s ≠ 0 then cst m s else if 0 ≤ i ∧ i < m.i then 0 else 1 := by
  unfold stE cst
  split
  · simp [*]
  · split <;> simp
theorem runE_cst (m : Ma) (s : Int) (w : List Int) : runE m s w = if cst m s ≠ 0 then cst m s else M.check w m.i := by
  unfold runE cst
  split
  · simp [*]
  · split <;> simp
theorem cst_val {m : Ma} {s : Int} (h : cst m s = 0) : Val m ∧ 0 ≤ s ∧ s < m.r.length := by
  unfold cst at h
  split at h
  · rename_i h1; exact absurd h h1
  · rename_i h1
    split at h
    · rename_i h2; exact ⟨val_of (by simpa using h1), h2⟩
    · cases h
end Mc

set_option maxHeartbeats 1000000 in
theorem checkState_any (i o s : Int) (rs : List (List Ed)) (A : Option Addr) (n c : Nat) (w : World) (hr : RdR w A rs) (hn : rs.length = n) (hnb : n ≤ 1000000) (hrl : ∀ row ∈ rs, row.length ≤ 1000000) :
    Calls Try.prog 88 #[.agg #[.int .i64 i, .int .i64 o, .slice A n c], .int .i64 s] w fun e w' => e = .returned (.int .i64 (Mc.cst ⟨i, o, rs⟩ s)) ∧ Below w.heap.size w w' := by
  subst hn
  have RL := Lib.hid hrl
  clear hrl
  have hb0 : Below w.heap.size w (boxM w i o A rs.length c) := (Below.refl _ _).alloc (Nat.le_refl _) _
  have hr0 := hr.below hb0
  go_enter Try.func88, Try.ntmps88
  go_wp2_with fail
  refine (pcheck_any i o rs A rs.length c _ hr0 rfl hnb RL.out).mono ?_
  rintro e w1 ⟨rfl, hb1⟩
  have hB1 := below_next hb0 hb1
  obtain ⟨q0, q1, q2⟩ := ((BxM.new w i o A rs.length c).mvB hb1).cells
  clear hb0 hb1
  by_cases hz : Mc.chk ⟨i, o, rs⟩ = 0
  · rw [hz]
    by_cases h1 : s < 0
    · have hv : Hid (Mc.cst ⟨i, o, rs⟩ s = 1) := by show _ = _; unfold Mc.cst; rw [if_neg (by simp [hz]), if_neg (by omega)]
      go_wp2
      go_ret
      exact ⟨ret_int hv.out.symm, hB1⟩
    · by_cases h2 : (rs.length : Int) ≤ s
      · have hv : Hid (Mc.cst ⟨i, o, rs⟩ s = 1) := by show _ = _; unfold Mc.cst; rw [if_neg (by simp [hz]), if_neg (by simp only; omega)]
        go_wp2
        go_ret
        exact ⟨ret_int hv.out.symm, hB1⟩
      · have hv : Hid (Mc.cst ⟨i, o, rs⟩ s = 0) := by show _ = _; unfold Mc.cst; rw [if_neg (by simp [hz]), if_pos (by simp only; omega)]
        go_wp2
        go_ret
        exact ⟨ret_int hv.out.symm, hB1⟩
  · have hzb : (Mc.chk ⟨i, o, rs⟩ == 0) = false := by rw [beq_eq_false_iff_ne]; exact hz
    have hv : Hid (Mc.cst ⟨i, o, rs⟩ s = Mc.chk ⟨i, o, rs⟩) := by show _ = _; unfold Mc.cst; rw [if_pos hz]
    obtain ⟨z, hzz⟩ : ∃ z, Mc.chk ⟨i, o, rs⟩ = z := ⟨_, rfl⟩
    rw [hzz] at hz hzb ⊢
    have HZ := Lib.hid hzz
    clear hzz
    go_wp2
    go_ret
    exact ⟨ret_int (by rw [hv.out, HZ.out]), hB1⟩

set_option maxHeartbeats 1000000 in
theorem checkWord_any (i o s : Int) (rs : List (List Ed)) (ws : List Int) (A W : Option Addr) (n c k d : Nat) (w : World) (hr : RdR w A rs) (hw : Rd w W ws) (hn : rs.length = n) (hnb : n ≤ 1000000) (hrl : ∀ row ∈ rs, row.length ≤ 1000000) (hk : ws.length = k) (hkb : k ≤ 1000000) :
    Calls Try.prog 86 #[.agg #[.int .i64 i, .int .i64 o, .slice A n c], .int .i64 s, .slice W k d] w fun e w' => e = .returned (.int .i64 (Mc.runE ⟨i, o, rs⟩ s ws)) ∧ Below w.heap.size w w' := by
  subst hn hk
  have RL := Lib.hid hrl
  clear hrl
  have hb0 : Below w.heap.size w (boxM w i o A rs.length c) := (Below.refl _ _).alloc (Nat.le_refl _) _
  have hr0 := hr.below hb0
  go_enter Try.func86, Try.ntmps86
  go_wp2_with fail
  refine (checkState_any i o s rs A rs.length c _ hr0 rfl hnb RL.out).mono ?_
  rintro e w1 ⟨rfl, hb1⟩
  have hB1 := below_next hb0 hb1
  obtain ⟨q0, q1, q2⟩ := ((BxM.new w i o A rs.length c).mvB hb1).cells
  have hw1 := hw.below hB1
  clear hb0 hb1
  by_cases hz : Mc.cst ⟨i, o, rs⟩ s = 0
  · rw [hz]
    have hv : Hid (Mc.runE ⟨i, o, rs⟩ s ws = M.check ws i) := by show _ = _; rw [Mc.runE_cst, if_neg (by simp [hz])]
    clear hz
    go_wp2_with fail
    refine (check_any _ _ _ _ _ hw1).mono ?_
    rintro e w2 ⟨rfl, hb2⟩
    go_wp2
    go_ret
    exact ⟨ret_int hv.out.symm, below_next hB1 hb2⟩
  · have hzb : (Mc.cst ⟨i, o, rs⟩ s == 0) = false := by rw [beq_eq_false_iff_ne]; exact hz
    have hv : Hid (Mc.runE ⟨i, o, rs⟩ s ws = Mc.cst ⟨i, o, rs⟩ s) := by show _ = _; rw [Mc.runE_cst, if_pos hz]
    obtain ⟨z, hzz⟩ : ∃ z, Mc.cst ⟨i, o, rs⟩ s = z := ⟨_, rfl⟩
    rw [hzz] at hz hzb ⊢
    have HZ := Lib.hid hzz
    clear hzz
    go_wp2
    go_ret
    exact ⟨ret_int (by rw [hv.out, HZ.out]), hB1⟩

end Go.Proofs.Ytonnplhiaidjnaa
