/-
  Contracts: a state, a place, a word of a machine; Step. No statement is proved here.
-/
import Derived.Test.YtiohfflkolopeaaMd3
namespace Go.Proofs.Ytiohfflkolopeaa
open Go.RowKit
open Mc (Ed Ma Pe)

namespace Mc
/-- The error of a machine and one of its states. -/
def cst (m : Ma) (s : Int) : Int := if chk m ≠ 0 then chk m else if 0 ≤ s ∧ s < m.r.length then 0 else 1
theorem stE_cst (m : Ma) (s i : Int) : stE m s i = if cst m s ≠ 0 then cst m s else if 0 ≤ i ∧ i < m.i then 0 else 1 := by
  unfold stE cst
  split
  · simp [*]
  · split <;> simp
theorem runE_cst (m : Ma) (s : Int) (w : List Int) : runE m s w = if cst m s ≠ 0 then cst m s else M.check w m.i := by
  unfold runE cst
  split
  · simp [*]
  · split <;> simp
theorem cst_val {m : Ma} {s : Int} (h : cst m s = 0) : Val m ∧ 0 ≤ s ∧ s < m.r.length := by
  unfold cst at h
  split at h
  · rename_i h1; exact absurd h h1
  · rename_i h1
    split at h
    · rename_i h2; exact ⟨val_of (by simpa using h1), h2⟩
    · cases h
end Mc

set_option maxHeartbeats 1000000 in
theorem checkState_any (i o s : Int) (rs : List (List Ed)) (A : Option Addr) (n c : Nat) (w : World) (hr : RdR w A rs) (hn : rs.length = n) (hnb : n ≤ 1000000) (hrl : ∀ row ∈ rs, row.length ≤ 1000000) :
    Calls Try.prog 49 #[.agg #[.int .i64 i, .int .i64 o, .slice A n c], .int .i64 s] w fun e w' => e = .returned (.int .i64 (Mc.cst ⟨i, o, rs⟩ s)) ∧ Below w.heap.size w w' := by
  subst hn
  have RL := Lib.hid hrl
  clear hrl
  have hb0 : Below w.heap.size w (boxM w i o A rs.length c) := (Below.refl _ _).alloc (Nat.le_refl _) _
  have hr0 := hr.below hb0
  go_enter Try.func49, Try.ntmps49
  go_wp2_with fail
  refine (pcheck_any i o rs A rs.length c _ hr0 rfl hnb RL.out).mono ?_
  rintro e w1 ⟨rfl, hb1⟩
  have hB1 := below_next hb0 hb1
  obtain ⟨q0, q1, q2⟩ := ((BxM.new w i o A rs.length c).mvB hb1).cells
  clear hb0 hb1
  by_cases hz : Mc.chk ⟨i, o, rs⟩ = 0
  · rw [hz]
    by_cases h1 : s < 0
    · have hv : Hid (Mc.cst ⟨i, o, rs⟩ s = 1) := by show _ = _; unfold Mc.cst; rw [if_neg (by simp [hz]), if_neg (by omega)]
      go_wp2
      go_ret
      exact ⟨ret_int hv.out.symm, hB1⟩
    · by_cases h2 : (rs.length : Int) ≤ s
      · have hv : Hid (Mc.cst ⟨i, o, rs⟩ s = 1) := by show _ = _; unfold Mc.cst; rw [if_neg (by simp [hz]), if_neg (by simp only; omega)]
        go_wp2
        go_ret
        exact ⟨ret_int hv.out.symm, hB1⟩
      · have hv : Hid (Mc.cst ⟨i, o, rs⟩ s = 0) := by show _ = _; unfold Mc.cst; rw [if_neg (by simp [hz]), if_pos (by simp only; omega)]
        go_wp2
        go_ret
        exact ⟨ret_int hv.out.symm, hB1⟩
  · have hzb : (Mc.chk ⟨i, o, rs⟩ == 0) = false := by rw [beq_eq_false_iff_ne]; exact hz
    have hv : Hid (Mc.cst ⟨i, o, rs⟩ s = Mc.chk ⟨i, o, rs⟩) := by show _ = _; unfold Mc.cst; rw [if_pos hz]
    obtain ⟨z, hzz⟩ : ∃ z, Mc.chk ⟨i, o, rs⟩ = z := ⟨_, rfl⟩
    rw [hzz] at hz hzb ⊢
    have HZ := Lib.hid hzz
    clear hzz
    go_wp2
    go_ret
    exact ⟨ret_int (by rw [hv.out, HZ.out]), hB1⟩

set_option maxHeartbeats 1000000 in
theorem checkPlace_any (i o s k : Int) (rs : List (List Ed)) (A : Option Addr) (n c : Nat) (w : World) (hr : RdR w A rs) (hn : rs.length = n) (hnb : n ≤ 1000000) (hrl : ∀ row ∈ rs, row.length ≤ 1000000) :
    Calls Try.prog 42 #[.agg #[.int .i64 i, .int .i64 o, .slice A n c], .int .i64 s, .int .i64 k] w fun e w' => e = .returned (.int .i64 (Mc.stE ⟨i, o, rs⟩ s k)) ∧ Below w.heap.size w w' := by
  subst hn
  have RL := Lib.hid hrl
  clear hrl
  have hb0 : Below w.heap.size w (boxM w i o A rs.length c) := (Below.refl _ _).alloc (Nat.le_refl _) _
  have hr0 := hr.below hb0
  go_enter Try.func42, Try.ntmps42
  go_wp2_with fail
  refine (checkState_any i o s rs A rs.length c _ hr0 rfl hnb RL.out).mono ?_
  rintro e w1 ⟨rfl, hb1⟩
  have hB1 := below_next hb0 hb1
  obtain ⟨q0, q1, q2⟩ := ((BxM.new w i o A rs.length c).mvB hb1).cells
  clear hb0 hb1
  by_cases hz : Mc.cst ⟨i, o, rs⟩ s = 0
  · rw [hz]
    by_cases h1 : k < 0
    · have hv : Hid (Mc.stE ⟨i, o, rs⟩ s k = 1) := by show _ = _; rw [Mc.stE_cst, if_neg (by simp [hz]), if_neg (by omega)]
      go_wp2
      go_ret
      exact ⟨ret_int hv.out.symm, hB1⟩
    · by_cases h2 : i ≤ k
      · have hv : Hid (Mc.stE ⟨i, o, rs⟩ s k = 1) := by show _ = _; rw [Mc.stE_cst, if_neg (by simp [hz]), if_neg (by simp only; omega)]
        go_wp2
        go_ret
        exact ⟨ret_int hv.out.symm, hB1⟩
      · have hv : Hid (Mc.stE ⟨i, o, rs⟩ s k = 0) := by show _ = _; rw [Mc.stE_cst, if_neg (by simp [hz]), if_pos (by simp only; omega)]
        go_wp2
        go_ret
        exact ⟨ret_int hv.out.symm, hB1⟩
  · have hzb : (Mc.cst ⟨i, o, rs⟩ s == 0) = false := by rw [beq_eq_false_iff_ne]; exact hz
    have hv : Hid (Mc.stE ⟨i, o, rs⟩ s k = Mc.cst ⟨i, o, rs⟩ s) := by show _ = _; rw [Mc.stE_cst, if_pos hz]
    obtain ⟨z, hzz⟩ : ∃ z, Mc.cst ⟨i, o, rs⟩ s = z := ⟨_, rfl⟩
    rw [hzz] at hz hzb ⊢
    have HZ := Lib.hid hzz
    clear hzz
    go_wp2
    go_ret
    exact ⟨ret_int (by rw [hv.out, HZ.out]), hB1⟩

set_option maxHeartbeats 1000000 in
theorem checkWord_any (i o s : Int) (rs : List (List Ed)) (ws : List Int) (A W : Option Addr) (n c k d : Nat) (w : World) (hr : RdR w A rs) (hw : Rd w W ws) (hn : rs.length = n) (hnb : n ≤ 1000000) (hrl : ∀ row ∈ rs, row.length ≤ 1000000) (hk : ws.length = k) (hkb : k ≤ 1000000) :
    Calls Try.prog 43 #[.agg #[.int .i64 i, .int .i64 o, .slice A n c], .int .i64 s, .slice W k d] w fun e w' => e = .returned (.int .i64 (Mc.runE ⟨i, o, rs⟩ s ws)) ∧ Below w.heap.size w w' := by
  subst hn hk
  have RL := Lib.hid hrl
  clear hrl
  have hb0 : Below w.heap.size w (boxM w i o A rs.length c) := (Below.refl _ _).alloc (Nat.le_refl _) _
  have hr0 := hr.below hb0
  go_enter Try.func43, Try.ntmps43
  go_wp2_with fail
  refine (checkState_any i o s rs A rs.length c _ hr0 rfl hnb RL.out).mono ?_
  rintro e w1 ⟨rfl, hb1⟩
  have hB1 := below_next hb0 hb1
  obtain ⟨q0, q1, q2⟩ := ((BxM.new w i o A rs.length c).mvB hb1).cells
  have hw1 := hw.below hB1
  clear hb0 hb1
  by_cases hz : Mc.cst ⟨i, o, rs⟩ s = 0
  · rw [hz]
    have hv : Hid (Mc.runE ⟨i, o, rs⟩ s ws = M.check ws i) := by show _ = _; rw [Mc.runE_cst, if_neg (by simp [hz])]
    clear hz
    go_wp2_with fail
    refine (check_any _ _ _ _ _ hw1).mono ?_
    rintro e w2 ⟨rfl, hb2⟩
    go_wp2
    go_ret
    exact ⟨ret_int hv.out.symm, below_next hB1 hb2⟩
  · have hzb : (Mc.cst ⟨i, o, rs⟩ s == 0) = false := by rw [beq_eq_false_iff_ne]; exact hz
    have hv : Hid (Mc.runE ⟨i, o, rs⟩ s ws = Mc.cst ⟨i, o, rs⟩ s) := by show _ = _; rw [Mc.runE_cst, if_pos hz]
    obtain ⟨z, hzz⟩ : ∃ z, Mc.cst ⟨i, o, rs⟩ s = z := ⟨_, rfl⟩
    rw [hzz] at hz hzb ⊢
    have HZ := Lib.hid hzz
    clear hzz
    go_wp2
    go_ret
    exact ⟨ret_int (by rw [hv.out, HZ.out]), hB1⟩

set_option maxHeartbeats 1000000 in
theorem pstep_any (i o s k : Int) (rs : List (List Ed)) (A : Option Addr) (n c : Nat) (w : World) (hr : RdR w A rs) (hn : rs.length = n) (hnb : n ≤ 1000000) (hrl : ∀ row ∈ rs, row.length ≤ 1000000) :
    Calls Try.prog 18 #[.agg #[.int .i64 i, .int .i64 o, .slice A n c], .int .i64 s, .int .i64 k] w fun e w' => e = .returned (.tuple #[.agg #[.int .i64 (Mc.stV ⟨i, o, rs⟩ s k).1, .int .i64 (Mc.stV ⟨i, o, rs⟩ s k).2], .int .i64 (Mc.stE ⟨i, o, rs⟩ s k)]) ∧ Below w.heap.size w w' := by
  subst hn
  have RL := Lib.hid hrl
  clear hrl
  obtain ⟨W1, hW1⟩ : ∃ W1, (w.alloc (.cells #[.int .i64 i, .int .i64 o, .slice A rs.length c] 24)).alloc (.cells #[.int .i64 0, .int .i64 0] 39) = W1 := ⟨_, rfl⟩
  have hb0 : Below w.heap.size w W1 := by rw [← hW1]; exact ((Below.refl _ _).alloc (Nat.le_refl _) _).alloc (by simp) _
  have hM0 : BxM W1 w.heap.size i o A rs.length c := by rw [← hW1]; exact (BxM.new w i o A rs.length c).mvB ((Below.refl _ _).alloc (Nat.le_refl _) _)
  have hE0 : BxE W1 (w.heap.size + 1) 0 0 := by rw [← hW1]; have := BxE.new (boxM w i o A rs.length c) 0 0; rwa [World.size_alloc] at this
  have hr0 := hr.below hb0
  obtain ⟨q0, q1, q2⟩ := hM0.cells
  go_enter Try.func18, Try.ntmps18
  go_wp2_with fail
  refine (checkPlace_any i o s k rs A rs.length c _ hr0 rfl hnb RL.out).mono ?_
  rintro e w1 ⟨rfl, hb1⟩
  have hB1 := below_next hb0 hb1
  have hM1 := hM0.mvB hb1
  have hE1 : BxE w1 (w.heap.size + 1) 0 0 := (hb1.block _ (heap_lt hE0)).trans hE0
  clear q0 q1 q2 hM0 hE0 hW1 hb0 hb1
  obtain ⟨q0, q1, q2⟩ := hM1.cells
  obtain ⟨e0, e1, f0, f1⟩ := hE1.cells
  have hfin : ∀ x y : Int, Below w.heap.size w ((w1.setCell ⟨w.heap.size + 1, 0, none⟩ (.int .i64 x)).setCell ⟨w.heap.size + 1, 1, none⟩ (.int .i64 y)) := fun x y =>
    (hB1.setCell (p := ⟨w.heap.size + 1, 0, none⟩) (by show w.heap.size ≤ w.heap.size + 1; omega) _).setCell (p := ⟨w.heap.size + 1, 1, none⟩) (by show w.heap.size ≤ w.heap.size + 1; omega) _
  have hcell : ∀ x y : Int, (w1.setCell ⟨w.heap.size + 1, 0, none⟩ (.int .i64 x)).cell? ⟨w.heap.size + 1, 0, none⟩ = some (.int .i64 x) ∧ ((w1.setCell ⟨w.heap.size + 1, 0, none⟩ (.int .i64 x)).setCell ⟨w.heap.size + 1, 1, none⟩ (.int .i64 y)).cell? ⟨w.heap.size + 1, 1, none⟩ = some (.int .i64 y) := fun x y => by
    constructor
    · exact World.cell?_setCell_same' _ _ _ (by rw [e0]; rfl)
    · refine World.cell?_setCell_same' _ _ _ ?_
      have h1 : (w1.setCell ⟨w.heap.size + 1, 0, none⟩ (.int .i64 x)).heap[w.heap.size + 1]? = some (.cells #[.int .i64 x, .int .i64 0] 39) := by
        unfold BxE at hE1
        simp [World.setCell, Array.getElem?_modify, hE1]
      rw [cell_of_row _ _ _ _ _ _ h1]; rfl
  have hcx := Lib.hid hcell
  clear hcell
  by_cases hz : Mc.stE ⟨i, o, rs⟩ s k = 0
  · have hc : Mc.cst ⟨i, o, rs⟩ s = 0 := by
      rw [Mc.stE_cst] at hz
      split at hz
      · rename_i h; exact absurd hz h
      · rename_i h; simpa using h
    obtain ⟨V, hs0, hs1⟩ := Mc.cst_val hc
    simp only at hs1
    have hk : 0 ≤ k ∧ k < i := by
      rw [Mc.stE_cst, if_neg (by simp [hc])] at hz
      split at hz
      · assumption
      · cases hz
    obtain ⟨s, rfl⟩ := Int.eq_ofNat_of_zero_le hs0
    obtain ⟨k, rfl⟩ := Int.eq_ofNat_of_zero_le hk.1
    have hl : s < rs.length := by omega
    have hrow := V.len rs[s] (List.getElem_mem hl)
    simp only at hrow
    obtain ⟨b, off, B, d, q, row, rfl, hb, hcw, _, _, _, hp, hln, hq⟩ := hr.at_ hl
    have hrw : row = rs[s] := by have := hq.out; rw [List.getElem?_eq_getElem hl] at this; injection this with this; exact this.symm
    have hkl : k < row.length := by rw [hrw]; omega
    obtain ⟨b2, off2, x, y, rfl, hb2, hx0, hy0, hqe⟩ := hp.at_ hkl
    have hc1 := (hB1.cell (p := ⟨b, off + s, none⟩) hb).trans hcw
    have hx := (hB1.cell (p := ⟨b2, off2 + k * 2, none⟩) hb2).trans hx0
    have hy := (hB1.cell (p := ⟨b2, off2 + k * 2 + 1, none⟩) hb2).trans hy0
    have hkq : k < q := by rw [← hln.out]; exact hkl
    have hv : Hid (Mc.stV ⟨i, o, rs⟩ s k = (x, y)) := by
      show _ = _
      unfold Mc.stV
      rw [if_pos hz]
      exact Mc.nx_at (m := ⟨i, o, rs⟩) hq.out hqe.out
    have HZ := Lib.hid hz
    rw [hz]
    clear hz hc V hs0 hs1 hk hrow hrw hkl hcw hx0 hy0 RL hnb
    obtain ⟨r0, r1⟩ := hcx.out x y
    go_wp2
    refine bodyPost_ret (v := .tuple #[.agg #[.int .i64 x, .int .i64 y], .int .i64 0]) (by simp [results, Try.f18, go_sem, r0, r1]) rfl ?_
    exact ⟨by rw [hv.out, HZ.out], hfin _ _⟩
  · have hzb : (Mc.stE ⟨i, o, rs⟩ s k == 0) = false := by rw [beq_eq_false_iff_ne]; exact hz
    have hv : Hid (Mc.stV ⟨i, o, rs⟩ s k = (0, 0)) := by show _ = _; unfold Mc.stV; rw [if_neg hz]
    obtain ⟨z, hzz⟩ : ∃ z, Mc.stE ⟨i, o, rs⟩ s k = z := ⟨_, rfl⟩
    rw [hzz] at hz hzb ⊢
    have HZ := Lib.hid hzz
    clear hzz
    obtain ⟨r0, r1⟩ := hcx.out 0 0
    go_wp2
    refine bodyPost_ret (v := .tuple #[.agg #[.int .i64 0, .int .i64 0], .int .i64 z]) (by simp [results, Try.f18, go_sem, r0, r1]) rfl ?_
    exact ⟨by rw [hv.out, HZ.out], hfin _ _⟩
end Go.Proofs.Ytiohfflkolopeaa
