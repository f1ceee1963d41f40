/-
  The walk of WalksAccess. No statement is proved here.
-/
import Derived.Test.YtldpfbmkmehadaaWe1
import Derived.BigQuiet
namespace Go.Proofs.Ytldpfbmkmehadaa
open Go.RowKit
open Mc (Ed Ma)

namespace Mc
/-- Prefixes of access words are access words. -/
theorem look_pre {m : Ma} (v : Val m) {s : Int} {w : List Int} (h : (wk m 0).lookup s = some w) (k : Nat) : ∃ t : Nat, aft m 0 (w.take k) = t ∧ t < m.r.length ∧ (wk m 0).lookup (t : Int) = some (w.take k) ∧ Wd m (w.take k) := by
  have h0 := v.r0
  have hb := wk_bf v (s := 0) ⟨by omega, by omega⟩
  rcases hb.look (t := s) with ⟨w', h4, h5, h6, _⟩ | ⟨h4, _⟩
  · rw [h4] at h
    injection h with h
    subst h
    have h7 : 0 ≤ aft m 0 (w'.take k) := aft_take (by rw [h5.to]; exact h6) k
    obtain ⟨t, ht⟩ := Int.eq_ofNat_of_zero_le h7
    have h8 := h5.take v.i0 k
    rcases hb.look (t := (t : Int)) with ⟨u, h9, h10, _, h11⟩ | ⟨_, h10⟩
    · refine ⟨t, ht, by omega, ?_, h8.wd⟩
      rw [h9]
      rw [ht] at h8
      exact congrArg some (h10.uniq v.i0 h8)
    · have := h10 _ h8.wd ht
      omega
  · rw [h4] at h
    cases h
/-- The states that are reached, up to a state. -/
def fl (m : Ma) (k : Nat) : List Int := ((List.range k).filter fun (s : Nat) => oB ((wk m 0).lookup (s : Int))).map fun (s : Nat) => (s : Int)
theorem fl_zero (m : Ma) : fl m 0 = [] := rfl
theorem fl_yes {m : Ma} {k : Nat} (h : oB ((wk m 0).lookup (k : Int)) = true) : fl m (k + 1) = fl m k ++ [(k : Int)] := by
  simp [fl, List.range_succ, List.filter_append, h]
theorem fl_no {m : Ma} {k : Nat} (h : oB ((wk m 0).lookup (k : Int)) = false) : fl m (k + 1) = fl m k := by
  simp [fl, List.range_succ, List.filter_append, h]
theorem fl_len (m : Ma) (k : Nat) : (fl m k).length ≤ k := by
  unfold fl
  rw [List.length_map]
  exact Nat.le_trans (List.length_filter_le _ _) (by simp)
theorem fl_asc {m : Ma} (v : Val m) : fl m m.r.length = asc m := by
  have h0 := v.r0
  have hb := wk_bf v (s := 0) ⟨by omega, by omega⟩
  have hO := ord_cls v
  have hA := asc_cls v
  refine sorted_uniq (fun x => x) _ _ ?_ ?_ fun x => ?_
  · unfold fl
    rw [List.pairwise_map]
    refine List.Pairwise.imp ?_ (List.Pairwise.filter _ List.pairwise_lt_range)
    intro a b h
    omega
  · have h1 : (asc m).Pairwise fun a b => a ≤ b := by
      refine List.Pairwise.imp (fun {a b} h => of_decide_eq_true h) (List.pairwise_mergeSort (le := fun x y : Int => decide (x ≤ y)) ?_ ?_ (ord m))
      · intro a b c h1 h2; simp at h1 h2 ⊢; omega
      · intro a b; simp; omega
    refine List.Pairwise.imp₂ (fun a b h3 h4 => ?_) h1 hA.nd
    have h4 : a ≠ b := h4
    omega
  · rw [show x ∈ asc m ↔ x ∈ ord m from (asc_perm m).mem_iff]
    constructor
    · intro h
      obtain ⟨s, hs, rfl⟩ := List.mem_map.1 h
      obtain ⟨h1, h2⟩ := List.mem_filter.1 hs
      cases h3 : (wk m 0).lookup (s : Int) with
      | none => rw [h3] at h2; cases h2
      | some w => exact List.mem_map.2 ⟨_, look_some h3, rfl⟩
    · intro h
      have hr := hO.rg x h
      obtain ⟨e, he, rfl⟩ := List.mem_map.1 h
      obtain ⟨s, hs⟩ := Int.eq_ofNat_of_zero_le hr.1
      refine List.mem_map.2 ⟨s, List.mem_filter.2 ⟨List.mem_range.2 (by omega), ?_⟩, hs.symm⟩
      have := hb.mem_look v he
      rw [hs] at this
      rw [this]
      rfl
end Mc
theorem Rd.take {w : World} {A : Option Addr} {zs : List Int} (h : Rd w A zs) (k : Nat) : Rd w A (zs.take k) := fun hp => by
  rw [List.length_take] at hp
  obtain ⟨b, off, e, hb, hc⟩ := h (by omega)
  refine ⟨b, off, e, hb, fun j hj => ?_⟩
  rw [List.length_take] at hj
  rw [hc j (by omega), List.getElem?_take, if_pos (by omega)]
/-- Block g holds the words l, without spare room. -/
def Wx (g : Nat) (l : List (List Int)) (W : World) : Prop := ∀ (k : Nat) (x : List Int), l[k]? = some x → ∃ A, W.cell? ⟨g, k, none⟩ = some (.slice A x.length x.length) ∧ Rd W A x
theorem Wx.kept (g : Nat) (l : List (List Int)) : Kept (Wx g l) := fun w w' h hb k x hk => by
  obtain ⟨A, h1, h2⟩ := h k x hk
  exact ⟨A, Cl.kept _ _ w w' h1 hb, h2.below hb⟩
section
variable (m : Ma) (i o : Int) (A : Option Addr) (n c : Nat) (w : World)
theorem acc_at (v : Mc.Val m) (hi : m.i = i) (ho : m.o = o) (hn : m.r.length = n) (hr : RdR w A m.r) :
    Calls Try.prog 12 #[.agg #[.int .i64 i, .int .i64 o, .slice A n c]] w fun e w' => ∃ g1 g2, e = .returned (.tuple #[.slice (some ⟨g1, 0, none⟩) n n, .slice (some ⟨g2, 0, none⟩) n n, .int .i64 0]) ∧ Wx g1 (Mc.tab Mc.oW (Mc.wk m 0) n) w' ∧ BlkB w' g2 (Mc.tab Mc.oB (Mc.wk m 0) n) ∧ Below w.heap.size w w' := by
  have hr1 := v.r1
  have hr0 := v.r0
  have C := wacc_any m.i m.o m.r A m.r.length c w hr rfl (by omega) v.rows
  have e0 : Mc.chk m = 0 := Mc.chk_of v
  have e1 : Mc.accV m = Mc.tab Mc.oW (Mc.wk m 0) m.r.length := by unfold Mc.accV; rw [if_pos e0]
  have e2 : Mc.accB m = Mc.tab Mc.oB (Mc.wk m 0) m.r.length := by unfold Mc.accB; rw [if_pos e0]
  rw [← hi, ← ho, ← hn]
  refine C.mono ?_
  rintro e w' ⟨B, C, k, h0, h1, _, h3, hb⟩
  have h1 : (Mc.accV m).length = k := h1.out
  have h0 : e = .returned (.tuple #[.slice B k k, .slice C k k, .int .i64 (Mc.chk m)]) := h0
  rw [e1, Mc.tab_len] at h1
  subst h1
  rw [e0] at h0
  obtain ⟨g1, g2, rfl, rfl, h4, h5⟩ := h3 (by omega)
  have h4 : WsB w' g1 (Mc.accV m) := h4
  have h5 : BlkB w' g2 (Mc.accB m) := h5
  rw [e1] at h4
  rw [e2] at h5
  exact ⟨g1, g2, h0, fun k x hk => h4.at_ hk, h5, hb⟩
theorem racc_at (v : Mc.Val m) (hi : m.i = i) (ho : m.o = o) (hn : m.r.length = n) (hr : RdR w A m.r) :
    Calls Try.prog 13 #[.agg #[.int .i64 i, .int .i64 o, .slice A n c]] w fun e w' => ∃ g1 g2, e = .returned (.tuple #[.slice (some ⟨g1, 0, none⟩) n n, .slice (some ⟨g2, 0, none⟩) n n]) ∧ Wr g1 (Mc.tab Mc.oW (Mc.wk m 0) n) w' ∧ BlkB w' g2 (Mc.tab Mc.oB (Mc.wk m 0) n) ∧ Below w.heap.size w w' := by
  have hr0 := v.r0
  have hss : (0 : Int) ≤ 0 ∧ (0 : Int) < m.r.length := by omega
  have C := access_any m A c w v hr
  rw [← hi, ← ho, ← hn]
  refine C.mono ?_
  rintro e w' ⟨g1, g2, k, base, l, is, rfl, h1, h2, h3, h4, _, hb⟩
  obtain ⟨x, h5, h6⟩ := h4.out
  obtain ⟨rfl, rfl⟩ := h5.tabs v hss h6
  have h1 := h1.out
  subst h1
  exact ⟨g1, g2, rfl, h2.out.wr, h3.out, hb⟩
theorem reach_at (v : Mc.Val m) (hi : m.i = i) (ho : m.o = o) (hn : m.r.length = n) (hr : RdR w A m.r) :
    Calls Try.prog 17 #[.agg #[.int .i64 i, .int .i64 o, .slice A n c]] w fun e w' => ∃ g q, e = .returned (.tuple #[.slice (some ⟨g, 0, none⟩) q q, .int .i64 0]) ∧ Hid ((Mc.asc m).length = q) ∧ Rd w' (some ⟨g, 0, none⟩) (Mc.asc m) ∧ Below w.heap.size w w' := by
  rw [← hi, ← ho, ← hn]
  refine (wreach_ok m A c w v hr).mono ?_
  rintro e w' ⟨g, q, rfl, hq, hB, hb⟩
  exact ⟨g, q, rfl, hq, hB.out.rd, hb⟩
theorem rafter_at (s : Int) (W : Option Addr) (k d : Nat) (ws : List Int) (v : Mc.Val m) (hi : m.i = i) (ho : m.o = o) (hn : m.r.length = n) (hk : ws.length = k) (hr : RdR w A m.r) (hw : Rd w W ws) (hs : Mc.St m s) (hwd : Mc.Wd m ws) (hd : k ≤ d) :
    Calls Try.prog 15 #[.agg #[.int .i64 i, .int .i64 o, .slice A n c], .int .i64 s, .slice W k d] w fun e w' => e = .returned (.int .i64 (Mc.aft m s ws)) ∧ Below w.heap.size w w' := by
  subst hi ho hn hk
  exact rafter_any m A c v ws s W _ d w hr hw hs hwd rfl hd
theorem rsame_yes (A B : Option Addr) (n c d : Nat) (x : List Int) (w : World) (hx : Rd w A x) (hy : Rd w B x) (hn : x.length = n) (hm : n ≤ 1000000) :
    Calls Try.prog 16 #[.slice A n c, .slice B n d] w fun e w' => e = .returned (.bool true) ∧ Below w.heap.size w w' := by
  subst hn
  have := same_any A B c d x x w hx hy (by omega)
  rwa [M.same_yes rfl] at this
end
end Go.Proofs.Ytldpfbmkmehadaa
