/-
  Several texts in one: We1, We3, We4, Wg1, Wh1. No statement is proved here.
-/
import Derived.Test.YthemaombpddbbaaWd2
import Derived.BigQuiet
namespace Go.Proofs.Ythemaombpddbbaa
open Go.RowKit
open Mc (Ed Ma)

namespace Mc
/-- A state one step away has a word that is at most one symbol longer. -/
theorem look_step {m : Ma} {s : Int} (v : Val m) (hs : 0 ≤ s ∧ s < m.r.length) {k j : Nat} {row : List Ed} {x : Ed} {w : List Int} (hk : m.r[k]? = some row) (hj : row[j]? = some x) (hji : (j : Int) < m.i) (hw : (wk m s).lookup (k : Int) = some w) (hx : 0 ≤ x.1) :
    ∃ u, (wk m s).lookup x.1 = some u ∧ u.length ≤ w.length + 1 := by
  have hb := wk_bf v hs
  rcases hb.look (t := (k : Int)) with ⟨w', h4, h5, _⟩ | ⟨h4, _⟩
  · rw [h4] at hw
    injection hw with hw
    subst hw
    have h6 : aft m s (w' ++ [(j : Int)]) = x.1 := by rw [aft_snoc, h5.to, nx_at hk hj]
    have h7 : Wd m (w' ++ [(j : Int)]) := h5.wd.join ⟨by omega, hji⟩
    rcases hb.look (t := x.1) with ⟨u, h8, h9, _⟩ | ⟨_, h9⟩
    · refine ⟨u, h8, ?_⟩
      have h10 := h9.le _ h7 h6
      rcases Nat.lt_or_ge (w'.length + 1) u.length with h11 | h11
      · have := M.rk_short v.i0 (x := w' ++ [(j : Int)]) (y := u) (by simpa using h11) h7 h9.wd
        omega
      · exact h11
    · have := h9 _ h7 h6
      omega
  · rw [h4] at hw
    cases hw
theorem oD_len (o : Option (List Int)) : oD o = if oB o = true then ((oW o).length : Int) else -1 := by
  cases o <;> rfl
/-- A least word is shorter than the number of states. -/
theorem look_short {m : Ma} {s t : Int} (v : Val m) (hs : 0 ≤ s ∧ s < m.r.length) : (oW ((wk m s).lookup t)).length ≤ 64 := by
  have hb := wk_bf v hs
  rcases hb.look (t := t) with ⟨w', h4, h5, h6⟩ | ⟨h4, _⟩
  · rw [h4]
    have := h5.short v hs (by omega)
    have := v.r1
    show w'.length ≤ 64
    omega
  · rw [h4]
    exact Nat.zero_le _
end Mc

/-! ### Cells -/
/-- Block g holds the words l. -/
def Wr (g : Nat) (l : List (List Int)) (W : World) : Prop := ∀ (k : Nat) (x : List Int), l[k]? = some x → ∃ A c, W.cell? ⟨g, k, none⟩ = some (.slice A x.length c) ∧ Rd W A x
theorem Wr.kept (g : Nat) (l : List (List Int)) : Kept (Wr g l) := fun w w' h hb k x hk => by
  obtain ⟨A, c, h1, h2⟩ := h k x hk
  exact ⟨A, c, Cl.kept _ _ w w' h1 hb, h2.below hb⟩
theorem Ws.wr {w : World} {g base : Nat} {l : List (List Int)} (h : Ws w g base l) : Wr g l w := fun k x hk => by
  obtain ⟨v, h1, y, h2, h3⟩ := h.cell (List.getElem?_eq_some_iff.1 hk).1
  rw [hk] at h2
  injection h2 with h2
  subst h2
  obtain ⟨A, c, rfl, _⟩ := own_formI h3
  exact ⟨A, c, h1, Rd.of_own h3⟩
theorem BlkB.kept (g : Nat) (l : List Bool) : Kept (fun w => BlkB w g l) := fun _ _ h hb => h.below hb h.lt
theorem BlkB.val {w : World} {g k : Nat} {l : List Bool} {b : Bool} (h : BlkB w g l) (hk : l[k]? = some b) : w.cell? ⟨g, k, none⟩ = some (.bool b) := by
  obtain ⟨z, h1, _, h2⟩ := h.at_ (List.getElem?_eq_some_iff.1 hk).1
  have h2 := h2.out
  rw [hk] at h2
  injection h2 with h2
  rw [h2]
  exact h1
theorem Rd.val {w : World} {A : Option Addr} {l : List Int} {k : Nat} {z : Int} (h : Rd w A l) (hk : l[k]? = some z) : ∃ b off, A = some ⟨b, off, none⟩ ∧ w.cell? ⟨b, off + k, none⟩ = some (.int .i64 z) := by
  obtain ⟨b, off, y, h1, _, h2, h3⟩ := h.at_ (List.getElem?_eq_some_iff.1 hk).1
  have h3 := h3.out
  rw [hk] at h3
  simp only [Option.getD_some] at h3
  subst h3
  exact ⟨b, off, h1, h2⟩

/-! ### Contracts -/
theorem mof_at (a b d : Int) (p : Bool) (A : Option Addr) (c : Nat) (es : List Int) (n i o : Nat) (w : World) (hr : Rd16 w A es) (hl : es.length ≤ 9223372036854775807) (ha : 0 ≤ a ∧ a ≤ 255) (hb : 0 ≤ b ∧ b ≤ 255) (hd : 0 ≤ d ∧ d ≤ 255)
    (hn : 1 + a % 6 = n) (hi : 1 + b % 3 = i) (ho : 1 + d % 3 = o) :
    Calls Try.prog 14 #[.agg #[.int .u8 a, .int .u8 b, .int .u8 d, .bool p, .slice A es.length c]] w fun e w' => ∃ B k, e = .returned (.agg #[.int .i64 i, .int .i64 o, .slice B n k]) ∧ RdR w' B (Mc.mkN p n i o es).r ∧ Below w.heap.size w w' := by
  refine (mof_any a b d p A c es n i o w hr hl ha hb hd hn hi ho).mono ?_
  rintro e w' ⟨V, vs, rfl, hB, hbl⟩
  obtain ⟨B, k, rfl, _, _, _, hrd⟩ := hB.out.rd
  rw [Mc.mkN_len]
  exact ⟨B, k, rfl, hrd, hbl⟩
section
variable (m : Ma) (i o : Int) (A : Option Addr) (n c : Nat) (w : World)
theorem path_at (s t : Nat) (v : Mc.Val m) (hi : m.i = i) (ho : m.o = o) (hn : m.r.length = n) (hs : s < n) (ht : t < n) (hr : RdR w A m.r) :
    Calls Try.prog 30 #[.agg #[.int .i64 i, .int .i64 o, .slice A n c], .int .i64 s, .int .i64 t] w fun e w' => ∃ B k, e = .returned (.tuple #[.slice B k k, .bool (Mc.oB ((Mc.wk m s).lookup (t : Int))), .int .i64 0]) ∧ Hid ((Mc.oW ((Mc.wk m s).lookup (t : Int))).length = k) ∧ k ≤ 64 ∧ Rd w' B (Mc.oW ((Mc.wk m s).lookup (t : Int))) ∧ Below w.heap.size w w' := by
  have hr1 := v.r1
  have C := wpath_any m.i m.o m.r A m.r.length c s t w hr rfl (by omega) v.rows
  have e0 : Mc.chkS m [(s : Int), (t : Int)] = 0 := by
    unfold Mc.chkS
    rw [if_neg (by rw [Mc.chk_of v]; simp), if_pos (by simp; omega)]
  have e1 : Mc.pthV m s t = Mc.oW ((Mc.wk m s).lookup (t : Int)) := by unfold Mc.pthV; rw [if_pos e0]
  have e2 : Mc.pthB m s t = Mc.oB ((Mc.wk m s).lookup (t : Int)) := by unfold Mc.pthB; rw [if_pos e0]
  rw [← hi, ← ho, ← hn]
  refine C.mono ?_
  rintro e w' ⟨B, k, h0, h1, h2, hb⟩
  have h1 : (Mc.pthV m s t).length = k := h1.out
  have h2 : Rd w' B (Mc.pthV m s t) := h2
  have h0 : e = .returned (.tuple #[.slice B k k, .bool (Mc.pthB m s t), .int .i64 (Mc.chkS m [(s : Int), (t : Int)])]) := h0
  rw [e1] at h1 h2
  rw [e2, e0] at h0
  have := Mc.look_short (t := (t : Int)) v (s := (s : Int)) ⟨by omega, by omega⟩
  exact ⟨B, k, h0, h1, by omega, h2, hb⟩
theorem dist_at (s : Nat) (v : Mc.Val m) (hi : m.i = i) (ho : m.o = o) (hn : m.r.length = n) (hs : s < n) (hr : RdR w A m.r) :
    Calls Try.prog 29 #[.agg #[.int .i64 i, .int .i64 o, .slice A n c], .int .i64 s] w fun e w' => ∃ B, e = .returned (.tuple #[.slice B n n, .int .i64 0]) ∧ Rd w' B (Mc.tab Mc.oD (Mc.wk m s) n) ∧ Below w.heap.size w w' := by
  have hr1 := v.r1
  have C := wdist_any m.i m.o m.r A m.r.length c s w hr rfl (by omega) v.rows
  have e0 : Mc.chkS m [(s : Int)] = 0 := by
    unfold Mc.chkS
    rw [if_neg (by rw [Mc.chk_of v]; simp), if_pos (by simp; omega)]
  have e1 : Mc.dstV m s = Mc.tab Mc.oD (Mc.wk m s) m.r.length := by unfold Mc.dstV; rw [if_pos e0]
  rw [← hi, ← ho, ← hn]
  refine C.mono ?_
  rintro e w' ⟨B, k, h0, h1, h2, hb⟩
  have h1 : (Mc.dstV m s).length = k := h1.out
  have h2 : Rd w' B (Mc.dstV m s) := h2
  have h0 : e = .returned (.tuple #[.slice B k k, .int .i64 (Mc.chkS m [(s : Int)])]) := h0
  rw [e1] at h1 h2
  rw [Mc.tab_len] at h1
  subst h1
  rw [e0] at h0
  exact ⟨B, h0, h2, hb⟩
theorem paths_at (s : Nat) (v : Mc.Val m) (hi : m.i = i) (ho : m.o = o) (hn : m.r.length = n) (hs : s < n) (hr : RdR w A m.r) :
    Calls Try.prog 66 #[.agg #[.int .i64 i, .int .i64 o, .slice A n c], .int .i64 s] w fun e w' => ∃ g1 g2, e = .returned (.tuple #[.slice (some ⟨g1, 0, none⟩) n n, .slice (some ⟨g2, 0, none⟩) n n]) ∧ Wr g1 (Mc.tab Mc.oW (Mc.wk m s) n) w' ∧ BlkB w' g2 (Mc.tab Mc.oB (Mc.wk m s) n) ∧ Below w.heap.size w w' := by
  have hss : (0 : Int) ≤ s ∧ (s : Int) < m.r.length := by omega
  have C := paths_any m s A c w v hr hss
  rw [← hi, ← ho, ← hn]
  refine C.mono ?_
  rintro e w' ⟨g1, g2, k, base, l, is, rfl, h1, h2, h3, h4, _, hb⟩
  obtain ⟨x, h5, h6⟩ := h4.out
  obtain ⟨rfl, rfl⟩ := h5.tabs v hss h6
  have h1 := h1.out
  subst h1
  exact ⟨g1, g2, rfl, h2.out.wr, h3.out, hb⟩
end
end Go.Proofs.Ythemaombpddbbaa

namespace Go.Proofs.Ythemaombpddbbaa
open Go.RowKit
open Mc (Ed Ma)

namespace Mc
/-- Prefixes of access words are access words. -/
theorem look_pre {m : Ma} (v : Val m) {s : Int} {w : List Int} (h : (wk m 0).lookup s = some w) (k : Nat) : ∃ t : Nat, aft m 0 (w.take k) = t ∧ t < m.r.length ∧ (wk m 0).lookup (t : Int) = some (w.take k) ∧ Wd m (w.take k) := by
  have h0 := v.r0
  have hb := wk_bf v (s := 0) ⟨by omega, by omega⟩
  rcases hb.look (t := s) with ⟨w', h4, h5, h6, _⟩ | ⟨h4, _⟩
  · rw [h4] at h
    injection h with h
    subst h
    have h7 : 0 ≤ aft m 0 (w'.take k) := aft_take (by rw [h5.to]; exact h6) k
    obtain ⟨t, ht⟩ := Int.eq_ofNat_of_zero_le h7
    have h8 := h5.take v.i0 k
    rcases hb.look (t := (t : Int)) with ⟨u, h9, h10, _, h11⟩ | ⟨_, h10⟩
    · refine ⟨t, ht, by omega, ?_, h8.wd⟩
      rw [h9]
      rw [ht] at h8
      exact congrArg some (h10.uniq v.i0 h8)
    · have := h10 _ h8.wd ht
      omega
  · rw [h4] at h
    cases h
/-- The states that are reached, up to a state. -/
def fl (m : Ma) (k : Nat) : List Int := ((List.range k).filter fun (s : Nat) => oB ((wk m 0).lookup (s : Int))).map fun (s : Nat) => (s : Int)
theorem fl_zero (m : Ma) : fl m 0 = [] := rfl
theorem fl_yes {m : Ma} {k : Nat} (h : oB ((wk m 0).lookup (k : Int)) = true) : fl m (k + 1) = fl m k ++ [(k : Int)] := by
  simp [fl, List.range_succ, List.filter_append, h]
theorem fl_no {m : Ma} {k : Nat} (h : oB ((wk m 0).lookup (k : Int)) = false) : fl m (k + 1) = fl m k := by
  simp [fl, List.range_succ, List.filter_append, h]
theorem fl_len (m : Ma) (k : Nat) : (fl m k).length ≤ k := by
  unfold fl
  rw [List.length_map]
  exact Nat.le_trans (List.length_filter_le _ _) (by simp)
theorem fl_asc {m : Ma} (v : Val m) : fl m m.r.length = asc m := by
  have h0 := v.r0
  have hb := wk_bf v (s := 0) ⟨by omega, by omega⟩
  have hO := ord_cls v
  have hA := asc_cls v
  refine sorted_uniq (fun x => x) _ _ ?_ ?_ fun x => ?_
  · unfold fl
    rw [List.pairwise_map]
    refine List.Pairwise.imp ?_ (List.Pairwise.filter _ List.pairwise_lt_range)
    intro a b h
    omega
  · have h1 : (asc m).Pairwise fun a b => a ≤ b := by
      refine List.Pairwise.imp (fun {a b} h => of_decide_eq_true h) (List.pairwise_mergeSort (le := fun x y : Int => decide (x ≤ y)) ?_ ?_ (ord m))
      · intro a b c h1 h2; simp at h1 h2 ⊢; omega
      · intro a b; simp; omega
    refine List.Pairwise.imp₂ (fun a b h3 h4 => ?_) h1 hA.nd
    have h4 : a ≠ b := h4
    omega
  · rw [show x ∈ asc m ↔ x ∈ ord m from (asc_perm m).mem_iff]
    constructor
    · intro h
      obtain ⟨s, hs, rfl⟩ := List.mem_map.1 h
      obtain ⟨h1, h2⟩ := List.mem_filter.1 hs
      cases h3 : (wk m 0).lookup (s : Int) with
      | none => rw [h3] at h2; cases h2
      | some w => exact List.mem_map.2 ⟨_, look_some h3, rfl⟩
    · intro h
      have hr := hO.rg x h
      obtain ⟨e, he, rfl⟩ := List.mem_map.1 h
      obtain ⟨s, hs⟩ := Int.eq_ofNat_of_zero_le hr.1
      refine List.mem_map.2 ⟨s, List.mem_filter.2 ⟨List.mem_range.2 (by omega), ?_⟩, hs.symm⟩
      have := hb.mem_look v he
      rw [hs] at this
      rw [this]
      rfl
end Mc
theorem Rd.take {w : World} {A : Option Addr} {zs : List Int} (h : Rd w A zs) (k : Nat) : Rd w A (zs.take k) := fun hp => by
  rw [List.length_take] at hp
  obtain ⟨b, off, e, hb, hc⟩ := h (by omega)
  refine ⟨b, off, e, hb, fun j hj => ?_⟩
  rw [List.length_take] at hj
  rw [hc j (by omega), List.getElem?_take, if_pos (by omega)]
/-- Block g holds the words l, without spare room. -/
def Wx (g : Nat) (l : List (List Int)) (W : World) : Prop := ∀ (k : Nat) (x : List Int), l[k]? = some x → ∃ A, W.cell? ⟨g, k, none⟩ = some (.slice A x.length x.length) ∧ Rd W A x
theorem Wx.kept (g : Nat) (l : List (List Int)) : Kept (Wx g l) := fun w w' h hb k x hk => by
  obtain ⟨A, h1, h2⟩ := h k x hk
  exact ⟨A, Cl.kept _ _ w w' h1 hb, h2.below hb⟩
section
variable (m : Ma) (i o : Int) (A : Option Addr) (n c : Nat) (w : World)
theorem acc_at (v : Mc.Val m) (hi : m.i = i) (ho : m.o = o) (hn : m.r.length = n) (hr : RdR w A m.r) :
    Calls Try.prog 31 #[.agg #[.int .i64 i, .int .i64 o, .slice A n c]] w fun e w' => ∃ g1 g2, e = .returned (.tuple #[.slice (some ⟨g1, 0, none⟩) n n, .slice (some ⟨g2, 0, none⟩) n n, .int .i64 0]) ∧ Wx g1 (Mc.tab Mc.oW (Mc.wk m 0) n) w' ∧ BlkB w' g2 (Mc.tab Mc.oB (Mc.wk m 0) n) ∧ Below w.heap.size w w' := by
  have hr1 := v.r1
  have hr0 := v.r0
  have C := wacc_any m.i m.o m.r A m.r.length c w hr rfl (by omega) v.rows
  have e0 : Mc.chk m = 0 := Mc.chk_of v
  have e1 : Mc.accV m = Mc.tab Mc.oW (Mc.wk m 0) m.r.length := by unfold Mc.accV; rw [if_pos e0]
  have e2 : Mc.accB m = Mc.tab Mc.oB (Mc.wk m 0) m.r.length := by unfold Mc.accB; rw [if_pos e0]
  rw [← hi, ← ho, ← hn]
  refine C.mono ?_
  rintro e w' ⟨B, C, k, h0, h1, _, h3, hb⟩
  have h1 : (Mc.accV m).length = k := h1.out
  have h0 : e = .returned (.tuple #[.slice B k k, .slice C k k, .int .i64 (Mc.chk m)]) := h0
  rw [e1, Mc.tab_len] at h1
  subst h1
  rw [e0] at h0
  obtain ⟨g1, g2, rfl, rfl, h4, h5⟩ := h3 (by omega)
  have h4 : WsB w' g1 (Mc.accV m) := h4
  have h5 : BlkB w' g2 (Mc.accB m) := h5
  rw [e1] at h4
  rw [e2] at h5
  exact ⟨g1, g2, h0, fun k x hk => h4.at_ hk, h5, hb⟩
theorem racc_at (v : Mc.Val m) (hi : m.i = i) (ho : m.o = o) (hn : m.r.length = n) (hr : RdR w A m.r) :
    Calls Try.prog 26 #[.agg #[.int .i64 i, .int .i64 o, .slice A n c]] w fun e w' => ∃ g1 g2, e = .returned (.tuple #[.slice (some ⟨g1, 0, none⟩) n n, .slice (some ⟨g2, 0, none⟩) n n]) ∧ Wr g1 (Mc.tab Mc.oW (Mc.wk m 0) n) w' ∧ BlkB w' g2 (Mc.tab Mc.oB (Mc.wk m 0) n) ∧ Below w.heap.size w w' := by
  have hr0 := v.r0
  have hss : (0 : Int) ≤ 0 ∧ (0 : Int) < m.r.length := by omega
  have C := access_any m A c w v hr
  rw [← hi, ← ho, ← hn]
  refine C.mono ?_
  rintro e w' ⟨g1, g2, k, base, l, is, rfl, h1, h2, h3, h4, _, hb⟩
  obtain ⟨x, h5, h6⟩ := h4.out
  obtain ⟨rfl, rfl⟩ := h5.tabs v hss h6
  have h1 := h1.out
  subst h1
  exact ⟨g1, g2, rfl, h2.out.wr, h3.out, hb⟩
theorem reach_at (v : Mc.Val m) (hi : m.i = i) (ho : m.o = o) (hn : m.r.length = n) (hr : RdR w A m.r) :
    Calls Try.prog 32 #[.agg #[.int .i64 i, .int .i64 o, .slice A n c]] w fun e w' => ∃ g q, e = .returned (.tuple #[.slice (some ⟨g, 0, none⟩) q q, .int .i64 0]) ∧ Hid ((Mc.asc m).length = q) ∧ Rd w' (some ⟨g, 0, none⟩) (Mc.asc m) ∧ Below w.heap.size w w' := by
  rw [← hi, ← ho, ← hn]
  refine (wreach_ok m A c w v hr).mono ?_
  rintro e w' ⟨g, q, rfl, hq, hB, hb⟩
  exact ⟨g, q, rfl, hq, hB.out.rd, hb⟩
theorem rafter_at (s : Int) (W : Option Addr) (k d : Nat) (ws : List Int) (v : Mc.Val m) (hi : m.i = i) (ho : m.o = o) (hn : m.r.length = n) (hk : ws.length = k) (hr : RdR w A m.r) (hw : Rd w W ws) (hs : Mc.St m s) (hwd : Mc.Wd m ws) (hd : k ≤ d) :
    Calls Try.prog 27 #[.agg #[.int .i64 i, .int .i64 o, .slice A n c], .int .i64 s, .slice W k d] w fun e w' => e = .returned (.int .i64 (Mc.aft m s ws)) ∧ Below w.heap.size w w' := by
  subst hi ho hn hk
  exact rafter_any m A c v ws s W _ d w hr hw hs hwd rfl hd
theorem rsame_yes (A B : Option Addr) (n c d : Nat) (x : List Int) (w : World) (hx : Rd w A x) (hy : Rd w B x) (hn : x.length = n) (hm : n ≤ 1000000) :
    Calls Try.prog 19 #[.slice A n c, .slice B n d] w fun e w' => e = .returned (.bool true) ∧ Below w.heap.size w w' := by
  subst hn
  have := same_any A B c d x x w hx hy (by omega)
  rwa [M.same_yes rfl] at this
end
end Go.Proofs.Ythemaombpddbbaa

namespace Go.Proofs.Ythemaombpddbbaa
open Go.RowKit
open Mc (Ed Ma)

section
variable (i o : Int) (rs : List (List Ed)) (A : Option Addr) (n c : Nat) (w : World) (hr : RdR w A rs) (hn : rs.length = n) (hnb : n ≤ 1000000) (hrl : ∀ row ∈ rs, row.length ≤ 1000000)
include hr hn hnb hrl
theorem reach_z : Calls Try.prog 32 #[.agg #[.int .i64 i, .int .i64 o, .slice A n c]] w fun e w' => ∃ B k, e = .returned (.tuple #[.slice B k k, .int .i64 (Mc.chk ⟨i, o, rs⟩)]) ∧ Hid (Mc.chk ⟨i, o, rs⟩ ≠ 0 → k = 0) ∧ Below w.heap.size w w' := by
  by_cases hz : Mc.chk ⟨i, o, rs⟩ = 0
  · subst hn
    refine (wreach_ok ⟨i, o, rs⟩ A c w (Mc.val_of hz) hr).mono ?_
    rintro e w' ⟨g, q, rfl, _, _, hb⟩
    exact ⟨_, _, by rw [hz], fun h => absurd hz h, hb⟩
  · refine (wreach_err i o rs A n c w hr hn hnb hrl hz).mono ?_
    rintro e w' ⟨rfl, hb⟩
    exact ⟨_, _, rfl, fun _ => rfl, hb⟩
theorem trim_z : Calls Try.prog 33 #[.agg #[.int .i64 i, .int .i64 o, .slice A n c]] w fun e w' => ∃ i' o' B k C j, e = .returned (.tuple #[.agg #[.int .i64 i', .int .i64 o', .slice B k k], .slice C j j, .int .i64 (Mc.chk ⟨i, o, rs⟩)]) ∧ Hid (Mc.chk ⟨i, o, rs⟩ ≠ 0 → k = 0 ∧ j = 0) ∧ Below w.heap.size w w' := by
  by_cases hz : Mc.chk ⟨i, o, rs⟩ = 0
  · subst hn
    refine (wtrim_ok ⟨i, o, rs⟩ A c w (Mc.val_of hz) hr).mono ?_
    rintro e w' ⟨p, k, gs, g, rfl, _, _, _, _, hb⟩
    exact ⟨_, _, _, _, _, _, by rw [hz], fun h => absurd hz h, hb⟩
  · refine (wtrim_err i o rs A n c w hr hn hnb hrl hz).mono ?_
    rintro e w' ⟨rfl, hb⟩
    exact ⟨_, _, _, _, _, _, rfl, fun _ => ⟨rfl, rfl⟩, hb⟩
theorem canon_z : Calls Try.prog 16 #[.agg #[.int .i64 i, .int .i64 o, .slice A n c]] w fun e w' => ∃ i' o' B k, e = .returned (.tuple #[.agg #[.int .i64 i', .int .i64 o', .slice B k k], .int .i64 (Mc.chk ⟨i, o, rs⟩)]) ∧ Hid (Mc.chk ⟨i, o, rs⟩ ≠ 0 → k = 0) ∧ Below w.heap.size w w' := by
  by_cases hz : Mc.chk ⟨i, o, rs⟩ = 0
  · subst hn
    refine (wcanon_ok ⟨i, o, rs⟩ A c w (Mc.val_of hz) hr).mono ?_
    rintro e w' ⟨p, k, gs, rfl, _, _, _, hb⟩
    exact ⟨_, _, _, _, by rw [hz], fun h => absurd hz h, hb⟩
  · refine (wcanon_err i o rs A n c w hr hn hnb hrl hz).mono ?_
    rintro e w' ⟨rfl, hb⟩
    exact ⟨_, _, _, _, rfl, fun _ => rfl, hb⟩
theorem iscan_z : Calls Try.prog 21 #[.agg #[.int .i64 i, .int .i64 o, .slice A n c]] w fun e w' => ∃ b, e = .returned (.tuple #[.bool b, .int .i64 (Mc.chk ⟨i, o, rs⟩)]) ∧ Hid (Mc.chk ⟨i, o, rs⟩ ≠ 0 → b = false) ∧ Below w.heap.size w w' := by
  by_cases hz : Mc.chk ⟨i, o, rs⟩ = 0
  · subst hn
    refine (wiscan_ok ⟨i, o, rs⟩ A c w (Mc.val_of hz) hr).mono ?_
    rintro e w' ⟨rfl, hb⟩
    exact ⟨_, by rw [hz], fun h => absurd hz h, hb⟩
  · refine (wiscan_err i o rs A n c w hr hn hnb hrl hz).mono ?_
    rintro e w' ⟨rfl, hb⟩
    exact ⟨_, rfl, fun _ => rfl, hb⟩
theorem access_z : Calls Try.prog 31 #[.agg #[.int .i64 i, .int .i64 o, .slice A n c]] w fun e w' => ∃ B C k, e = .returned (.tuple #[.slice B k k, .slice C k k, .int .i64 (Mc.chk ⟨i, o, rs⟩)]) ∧ Hid (Mc.chk ⟨i, o, rs⟩ ≠ 0 → k = 0) ∧ Below w.heap.size w w' := by
  refine (wacc_any i o rs A n c w hr hn hnb hrl).mono ?_
  rintro e w' ⟨B, C, k, rfl, h1, _, _, hb⟩
  refine ⟨B, C, k, rfl, fun hz => ?_, hb⟩
  have h1 := h1.out
  unfold Mc.accV at h1
  rw [if_neg hz] at h1
  exact h1.symm
theorem dist_z (s : Int) : Calls Try.prog 29 #[.agg #[.int .i64 i, .int .i64 o, .slice A n c], .int .i64 s] w fun e w' => ∃ B k, e = .returned (.tuple #[.slice B k k, .int .i64 (Mc.chkS ⟨i, o, rs⟩ [s])]) ∧ Hid (Mc.chkS ⟨i, o, rs⟩ [s] ≠ 0 → k = 0) ∧ Below w.heap.size w w' := by
  refine (wdist_any i o rs A n c s w hr hn hnb hrl).mono ?_
  rintro e w' ⟨B, k, rfl, h1, _, hb⟩
  refine ⟨B, k, rfl, fun hz => ?_, hb⟩
  have h1 := h1.out
  unfold Mc.dstV at h1
  rw [if_neg hz] at h1
  exact h1.symm
theorem path_z (s t : Int) : Calls Try.prog 30 #[.agg #[.int .i64 i, .int .i64 o, .slice A n c], .int .i64 s, .int .i64 t] w fun e w' => ∃ B k b, e = .returned (.tuple #[.slice B k k, .bool b, .int .i64 (Mc.chkS ⟨i, o, rs⟩ [s, t])]) ∧ Hid (Mc.chkS ⟨i, o, rs⟩ [s, t] ≠ 0 → k = 0 ∧ b = false) ∧ Below w.heap.size w w' := by
  refine (wpath_any i o rs A n c s t w hr hn hnb hrl).mono ?_
  rintro e w' ⟨B, k, rfl, h1, _, hb⟩
  refine ⟨B, k, _, rfl, fun hz => ?_, hb⟩
  have h1 := h1.out
  unfold Mc.pthV at h1
  rw [if_neg hz] at h1
  refine ⟨h1.symm, ?_⟩
  unfold Mc.pthB
  rw [if_neg hz]
theorem iso_z (m : Ma) (B : Option Addr) (k d : Nat) (v : Mc.Val m) (hq : RdR w B m.r) (hk : m.r.length = k) (i2 o2 : Int) (hi : m.i = i2) (ho : m.o = o2) : Calls Try.prog 25 #[.agg #[.int .i64 i2, .int .i64 o2, .slice B k d], .agg #[.int .i64 i, .int .i64 o, .slice A n c]] w fun e w' => ∃ B k b, e = .returned (.tuple #[.slice B k k, .bool b, .int .i64 (Mc.chk ⟨i, o, rs⟩)]) ∧ Hid (Mc.chk ⟨i, o, rs⟩ ≠ 0 → k = 0 ∧ b = false) ∧ Below w.heap.size w w' := by
  have hv := v.r1
  subst hi ho hk
  refine (wiso_any m ⟨i, o, rs⟩ B A m.r.length d n c w hq hr rfl hn (by omega) hnb v.rows hrl).mono ?_
  rintro e w' ⟨B, k, rfl, h1, _, hb⟩
  have hE : Mc.isoE m ⟨i, o, rs⟩ = Mc.chk ⟨i, o, rs⟩ := by unfold Mc.isoE; rw [if_neg (by rw [Mc.chk_of v]; simp)]
  rw [hE]
  refine ⟨B, k, _, rfl, fun hz => ?_, hb⟩
  have hB : Mc.isoB m ⟨i, o, rs⟩ = false := by unfold Mc.isoB; rw [hE, if_pos hz]
  have h1 := h1.out
  unfold Mc.isoV at h1
  rw [hB] at h1
  exact ⟨h1.symm, hB⟩
end

theorem rmcheck_at (m : Ma) (i o : Int) (A : Option Addr) (n c : Nat) (w : World) (hi : m.i = i) (ho : m.o = o) (hn : m.r.length = n) (hr : RdR w A m.r) (hl : n ≤ 1000000) :
    Calls Try.prog 28 #[.agg #[.int .i64 i, .int .i64 o, .slice A n c]] w fun e w' => e = .returned (.int .i64 (Mc.chk m)) ∧ Below w.heap.size w w' := by
  subst hi ho hn
  exact rmcheck_any m A c w hr hl

namespace Mc
/-- The errors of the states, one after the other. -/
theorem chkS_one (m : Ma) (s : Int) : chkS m [s] = if chk m ≠ 0 then chk m else if s < 0 then 1 else if (m.r.length : Int) ≤ s then 1 else 0 := by
  unfold chkS
  by_cases h : chk m ≠ 0
  · rw [if_pos h, if_pos h]
  · rw [if_neg h, if_neg h]
    by_cases h1 : s < 0
    · rw [if_pos h1, if_neg (by simp; omega)]
    · rw [if_neg h1]
      by_cases h2 : (m.r.length : Int) ≤ s
      · rw [if_pos h2, if_neg (by simp; omega)]
      · rw [if_neg h2, if_pos (by simp; omega)]
theorem chkS_two (m : Ma) (s t : Int) : chkS m [s, t] = if chkS m [s] ≠ 0 then chkS m [s] else if t < 0 then 1 else if (m.r.length : Int) ≤ t then 1 else 0 := by
  by_cases h : chkS m [s] ≠ 0
  · rw [if_pos h]
    rw [chkS_one] at h ⊢
    unfold chkS
    by_cases h0 : chk m ≠ 0
    · rw [if_pos h0, if_pos h0]
    · rw [if_neg h0] at h
      rw [if_neg h0, if_neg h0]
      by_cases h1 : s < 0
      · rw [if_pos h1, if_neg (by simp; omega)]
      · rw [if_neg h1] at h
        rw [if_neg h1]
        by_cases h2 : (m.r.length : Int) ≤ s
        · rw [if_pos h2, if_neg (by simp; omega)]
        · rw [if_neg h2] at h
          simp at h
  · rw [if_neg h]
    rw [chkS_one] at h
    unfold chkS
    by_cases h0 : chk m ≠ 0
    · rw [if_pos h0] at h
      exact absurd h0 h
    · rw [if_neg h0] at h
      rw [if_neg h0]
      have hs0 : ¬ s < 0 := fun hh => by rw [if_pos hh] at h; simp at h
      have hs1 : ¬ (m.r.length : Int) ≤ s := fun hh => by rw [if_neg hs0, if_pos hh] at h; simp at h
      by_cases h1 : t < 0
      · rw [if_pos h1, if_neg (by simp; omega)]
      · rw [if_neg h1]
        by_cases h2 : (m.r.length : Int) ≤ t
        · rw [if_pos h2, if_neg (by simp; omega)]
        · rw [if_neg h2, if_pos (by simp; omega)]
end Mc
end Go.Proofs.Ythemaombpddbbaa

namespace Go.Proofs.Ythemaombpddbbaa.Mc
open M (rk)

/-- A word that leads somewhere shows that the state is reached. -/
theorem rch_word {m : Ma} (v : Val m) : ∀ (k : Nat) (w : List Int), w.length = k → Wd m w → 0 ≤ aft m 0 w → Rch m 0 (aft m 0 w).toNat
  | 0, w, hl, _, _ => by
    obtain rfl : w = [] := List.length_eq_zero_iff.1 hl
    exact Rch.here
  | k + 1, w, hl, hw, h => by
    obtain ⟨p, c, rfl⟩ := snoc_of (l := w) (fun e => by rw [e] at hl; simp at hl)
    have hp := hw.split
    rw [aft_snoc] at h ⊢
    have h0 : 0 ≤ aft m 0 p := by
      rcases Int.lt_or_le (aft m 0 p) 0 with h1 | h1
      · rw [nx_neg h1] at h
        simp at h
      · exact h1
    have hr0 := v.r0
    have hst := aft_st v p 0 (Or.inr ⟨by omega, by omega⟩) hp.1
    have hlt : aft m 0 p < m.r.length := by
      rcases hst with h1 | h1
      · omega
      · exact h1.2
    have ih := rch_word v k p (by simpa using hl) hp.1 h0
    obtain ⟨s, hs⟩ := Int.eq_ofNat_of_zero_le h0
    obtain ⟨d, hd⟩ := Int.eq_ofNat_of_zero_le hp.2.1
    rw [hs] at h ih hlt ⊢
    rw [hd] at h ⊢
    obtain ⟨row, hrow⟩ : ∃ row, m.r[s]? = some row := ⟨_, List.getElem?_eq_getElem (by omega)⟩
    have hrl := v.len row (List.mem_of_getElem? hrow)
    obtain ⟨x, hx⟩ : ∃ x, row[d]? = some x := ⟨_, List.getElem?_eq_getElem (by omega)⟩
    rw [nx_at hrow hx] at h ⊢
    exact Rch.step (s := s) ih hrow hx h
/-- Some states, all of them reached by words: the machine with them is connected. -/
theorem conn_prt {m : Ma} {l : List Int} (v : Val m) (h : Cls m l) (h0 : l[0]? = some 0) (h1 : 1 ≤ l.length) (h2 : l.length ≤ 64) (hall : ∀ s ∈ l, ∃ w, Wd m w ∧ aft m 0 w = s) : conn (prt m l) = true := by
  rw [conn_iff]
  intro s hs
  rw [prt_len] at hs
  obtain ⟨a, ha⟩ : ∃ a, l[s]? = some a := ⟨_, List.getElem?_eq_getElem hs⟩
  obtain ⟨w, hw, ht⟩ := hall a (List.mem_of_getElem? ha)
  have h3 := (prt_aft v h h0 hw).1
  rw [ht, ix_at h.nd ha] at h3
  have h4 := rch_word (prt_val v h h1 h2) w.length w rfl hw (by rw [h3]; omega)
  rw [h3] at h4
  simpa using h4
theorem asc_lt {m : Ma} (v : Val m) : (asc m).Pairwise fun a b => a < b := by
  have h1 : (asc m).Pairwise fun a b => a ≤ b := by
    refine List.Pairwise.imp (fun {a b} h => of_decide_eq_true h) (List.pairwise_mergeSort (le := fun x y : Int => decide (x ≤ y)) ?_ ?_ (ord m))
    · intro a b c h1 h2; simp at h1 h2 ⊢; omega
    · intro a b; simp; omega
  refine List.Pairwise.imp₂ (fun a b h3 h4 => ?_) h1 (asc_cls v).nd
  have h4 : a ≠ b := h4
  omega
theorem asc_bound {m : Ma} (v : Val m) : 1 ≤ (asc m).length ∧ (asc m).length ≤ 64 := by
  have h1 := nodup_le m.r.length _ (asc_cls v).nd (asc_cls v).rg
  have h2 := v.r1
  have h3 := ord_pos v
  have h4 := asc_len m
  omega
theorem asc_zero {m : Ma} (v : Val m) : (asc m)[0]? = some 0 := by
  have hb := asc_bound v
  have h0 : (0 : Int) ∈ asc m := (asc_perm m).mem_iff.2 (List.mem_of_getElem? ((ord_ord v).zero v.i0))
  obtain ⟨k, hk⟩ := List.mem_iff_getElem?.1 h0
  obtain ⟨a, ha⟩ : ∃ a, (asc m)[0]? = some a := ⟨_, List.getElem?_eq_getElem (by omega)⟩
  have hr := (asc_cls v).rg a (List.mem_of_getElem? ha)
  rcases Nat.eq_zero_or_pos k with h1 | h1
  · subst h1; exact hk
  · have hkl := List.getElem?_eq_some_iff.1 hk
    have hal := List.getElem?_eq_some_iff.1 ha
    have h2 := List.pairwise_iff_getElem.1 (asc_lt v) 0 k hal.1 hkl.1 h1
    rw [hal.2, hkl.2] at h2
    omega
theorem asc_val {m : Ma} (v : Val m) : Val (prt m (asc m)) := prt_val v (asc_cls v) (asc_bound v).1 (asc_bound v).2
theorem asc_conn {m : Ma} (v : Val m) : conn (prt m (asc m)) = true :=
  conn_prt v (asc_cls v) (asc_zero v) (asc_bound v).1 (asc_bound v).2 fun s hs => by
    obtain ⟨_, w, h1, h2⟩ := ((ord_ord v).mem s).1 ((asc_perm m).mem_iff.1 hs)
    exact ⟨w, h1, h2⟩
theorem asc_run {m : Ma} (v : Val m) {w : List Int} (hw : Wd m w) : run (prt m (asc m)) 0 w = run m 0 w := (prt_aft v (asc_cls v) (asc_zero v) hw).2
end Go.Proofs.Ythemaombpddbbaa.Mc

namespace Go.Proofs.Ythemaombpddbbaa.Mc
open M (rk)

theorem iso_lt {a b : Ma} (h : prt a (ord a) = prt b (ord b)) : a.i = b.i ∧ (ord a).length = (ord b).length := by
  constructor
  · have := congrArg Ma.i h
    exact this
  · have := congrArg (fun m => m.r.length) h
    rwa [prt_len, prt_len] at this
/-- What corresponds to a state is where its least word leads. -/
theorem iso_at {a b : Ma} (va : Val a) (vb : Val b) (h : prt a (ord a) = prt b (ord b)) {s : Nat} (hs : s < a.r.length) :
    (cor (ord a) (ord b) a.r.length (ord a).length)[s]? = some (if oB ((wk a 0).lookup (s : Int)) = true then aft b 0 (oW ((wk a 0).lookup (s : Int))) else -1) := by
  have h0a := va.r0
  have hb := wk_bf va (s := 0) ⟨by omega, by omega⟩
  have e1 : (cor (ord a) (ord b) a.r.length (ord a).length)[s]? = some (if (s : Int) ∈ ord a then ((ord b)[(ix (ord a) s).toNat]?).getD (-1) else -1) := by
    simp [cor, hs, List.take_length]
  rw [e1]
  cases hk : (wk a 0).lookup (s : Int) with
  | none =>
    have hn : ¬ (s : Int) ∈ ord a := fun hm => by
      obtain ⟨e, he, h1⟩ := List.mem_map.1 hm
      have := hb.mem_look va he
      rw [h1, hk] at this
      cases this
    rw [if_neg hn]
    rfl
  | some w =>
    have hm : (s : Int) ∈ ord a := List.mem_map.2 ⟨_, look_some hk, rfl⟩
    rw [if_pos hm]
    have hLw : Lw a 0 w s := by
      rcases hb.look (t := (s : Int)) with ⟨w', h4, h5, _⟩ | ⟨h4, _⟩
      · rw [hk] at h4
        injection h4 with h4
        rw [h4]
        exact h5
      · rw [hk] at h4
        cases h4
    have h1 := (prt_lw va (ord_cls va) ((ord_ord va).zero va.i0) hm).1 hLw
    rw [h] at h1
    have hlt : (ix (ord a) s).toNat < (ord b).length := by
      have := ix_lt (l := ord a) (s : Int)
      have := (iso_lt h).2
      have := ord_pos vb
      omega
    obtain ⟨t, ht⟩ : ∃ t, (ord b)[(ix (ord a) s).toNat]? = some t := ⟨_, List.getElem?_eq_getElem hlt⟩
    have hix : ix (ord b) t = ix (ord a) s := by
      rw [ix_at (ord_cls vb).nd ht]
      have h2 : 0 ≤ ix (ord a) (s : Int) := by unfold ix; rw [if_pos hm]; omega
      omega
    rw [← hix] at h1
    have h3 := (prt_lw vb (ord_cls vb) ((ord_ord vb).zero vb.i0) (List.mem_of_getElem? ht)).2 h1
    rw [ht]
    show some t = some (aft b 0 w)
    rw [h3.to]
/-- The least words of the one are words of the other one. -/
theorem iso_wd {a b : Ma} (va : Val a) (h : prt a (ord a) = prt b (ord b)) {s : Int} : Wd b (oW ((wk a 0).lookup s)) := by
  have h0a := va.r0
  have hb := wk_bf va (s := 0) ⟨by omega, by omega⟩
  rcases hb.look (t := s) with ⟨w', h4, h5, _⟩ | ⟨h4, _⟩
  · rw [h4]
    intro c hc
    have := h5.wd c hc
    rw [← (iso_lt h).1]
    exact this
  · rw [h4]
    intro c hc
    cases hc
end Go.Proofs.Ythemaombpddbbaa.Mc
