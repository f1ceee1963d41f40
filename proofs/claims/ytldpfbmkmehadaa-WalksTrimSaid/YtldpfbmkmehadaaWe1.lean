/-
  Contracts of walks in the words of a law's walk. No statement is proved here.
-/
import Derived.Test.YtldpfbmkmehadaaWd2
namespace Go.Proofs.Ytldpfbmkmehadaa
open Go.RowKit
open Mc (Ed Ma)

namespace Mc
/-- A state one step away has a word that is at most one symbol longer. -/
theorem look_step {m : Ma} {s : Int} (v : Val m) (hs : 0 ≤ s ∧ s < m.r.length) {k j : Nat} {row : List Ed} {x : Ed} {w : List Int} (hk : m.r[k]? = some row) (hj : row[j]? = some x) (hji : (j : Int) < m.i) (hw : (wk m s).lookup (k : Int) = some w) (hx : 0 ≤ x.1) :
    ∃ u, (wk m s).lookup x.1 = some u ∧ u.length ≤ w.length + 1 := by
  have hb := wk_bf v hs
  rcases hb.look (t := (k : Int)) with ⟨w', h4, h5, _⟩ | ⟨h4, _⟩
  · rw [h4] at hw
    injection hw with hw
    subst hw
    have h6 : aft m s (w' ++ [(j : Int)]) = x.1 := by rw [aft_snoc, h5.to, nx_at hk hj]
    have h7 : Wd m (w' ++ [(j : Int)]) := h5.wd.join ⟨by omega, hji⟩
    rcases hb.look (t := x.1) with ⟨u, h8, h9, _⟩ | ⟨_, h9⟩
    · refine ⟨u, h8, ?_⟩
      have h10 := h9.le _ h7 h6
      rcases Nat.lt_or_ge (w'.length + 1) u.length with h11 | h11
      · have := M.rk_short v.i0 (x := w' ++ [(j : Int)]) (y := u) (by simpa using h11) h7 h9.wd
        omega
      · exact h11
    · have := h9 _ h7 h6
      omega
  · rw [h4] at hw
    cases hw
theorem oD_len (o : Option (List Int)) : oD o = if oB o = true then ((oW o).length : Int) else -1 := by
  cases o <;> rfl
/-- A least word is shorter than the number of states. -/
theorem look_short {m : Ma} {s t : Int} (v : Val m) (hs : 0 ≤ s ∧ s < m.r.length) : (oW ((wk m s).lookup t)).length ≤ 64 := by
  have hb := wk_bf v hs
  rcases hb.look (t := t) with ⟨w', h4, h5, h6⟩ | ⟨h4, _⟩
  · rw [h4]
    have := h5.short v hs (by omega)
    have := v.r1
    show w'.length ≤ 64
    omega
  · rw [h4]
    exact Nat.zero_le _
end Mc

/-! ### Cells -/
/-- Block g holds the words l. -/
def Wr (g : Nat) (l : List (List Int)) (W : World) : Prop := ∀ (k : Nat) (x : List Int), l[k]? = some x → ∃ A c, W.cell? ⟨g, k, none⟩ = some (.slice A x.length c) ∧ Rd W A x
theorem Wr.kept (g : Nat) (l : List (List Int)) : Kept (Wr g l) := fun w w' h hb k x hk => by
  obtain ⟨A, c, h1, h2⟩ := h k x hk
  exact ⟨A, c, Cl.kept _ _ w w' h1 hb, h2.below hb⟩
theorem Ws.wr {w : World} {g base : Nat} {l : List (List Int)} (h : Ws w g base l) : Wr g l w := fun k x hk => by
  obtain ⟨v, h1, y, h2, h3⟩ := h.cell (List.getElem?_eq_some_iff.1 hk).1
  rw [hk] at h2
  injection h2 with h2
  subst h2
  obtain ⟨A, c, rfl, _⟩ := own_formI h3
  exact ⟨A, c, h1, Rd.of_own h3⟩
theorem BlkB.kept (g : Nat) (l : List Bool) : Kept (fun w => BlkB w g l) := fun _ _ h hb => h.below hb h.lt
theorem BlkB.val {w : World} {g k : Nat} {l : List Bool} {b : Bool} (h : BlkB w g l) (hk : l[k]? = some b) : w.cell? ⟨g, k, none⟩ = some (.bool b) := by
  obtain ⟨z, h1, _, h2⟩ := h.at_ (List.getElem?_eq_some_iff.1 hk).1
  have h2 := h2.out
  rw [hk] at h2
  injection h2 with h2
  rw [h2]
  exact h1
theorem Rd.val {w : World} {A : Option Addr} {l : List Int} {k : Nat} {z : Int} (h : Rd w A l) (hk : l[k]? = some z) : ∃ b off, A = some ⟨b, off, none⟩ ∧ w.cell? ⟨b, off + k, none⟩ = some (.int .i64 z) := by
  obtain ⟨b, off, y, h1, _, h2, h3⟩ := h.at_ (List.getElem?_eq_some_iff.1 hk).1
  have h3 := h3.out
  rw [hk] at h3
  simp only [Option.getD_some] at h3
  subst h3
  exact ⟨b, off, h1, h2⟩

/-! ### Contracts -/
theorem mof_at (a b d : Int) (p : Bool) (A : Option Addr) (c : Nat) (es : List Int) (n i o : Nat) (w : World) (hr : Rd16 w A es) (hl : es.length ≤ 9223372036854775807) (ha : 0 ≤ a ∧ a ≤ 255) (hb : 0 ≤ b ∧ b ≤ 255) (hd : 0 ≤ d ∧ d ≤ 255)
    (hn : 1 + a % 6 = n) (hi : 1 + b % 3 = i) (ho : 1 + d % 3 = o) :
    Calls Try.prog 11 #[.agg #[.int .u8 a, .int .u8 b, .int .u8 d, .bool p, .slice A es.length c]] w fun e w' => ∃ B k, e = .returned (.agg #[.int .i64 i, .int .i64 o, .slice B n k]) ∧ RdR w' B (Mc.mkN p n i o es).r ∧ Below w.heap.size w w' := by
  refine (mof_any a b d p A c es n i o w hr hl ha hb hd hn hi ho).mono ?_
  rintro e w' ⟨V, vs, rfl, hB, hbl⟩
  obtain ⟨B, k, rfl, _, _, _, hrd⟩ := hB.out.rd
  rw [Mc.mkN_len]
  exact ⟨B, k, rfl, hrd, hbl⟩
section
variable (m : Ma) (i o : Int) (A : Option Addr) (n c : Nat) (w : World)
theorem path_at (s t : Nat) (v : Mc.Val m) (hi : m.i = i) (ho : m.o = o) (hn : m.r.length = n) (hs : s < n) (ht : t < n) (hr : RdR w A m.r) :
    Calls Try.prog 19 #[.agg #[.int .i64 i, .int .i64 o, .slice A n c], .int .i64 s, .int .i64 t] w fun e w' => ∃ B k, e = .returned (.tuple #[.slice B k k, .bool (Mc.oB ((Mc.wk m s).lookup (t : Int))), .int .i64 0]) ∧ Hid ((Mc.oW ((Mc.wk m s).lookup (t : Int))).length = k) ∧ k ≤ 64 ∧ Rd w' B (Mc.oW ((Mc.wk m s).lookup (t : Int))) ∧ Below w.heap.size w w' := by
  have hr1 := v.r1
  have C := wpath_any m.i m.o m.r A m.r.length c s t w hr rfl (by omega) v.rows
  have e0 : Mc.chkS m [(s : Int), (t : Int)] = 0 := by
    unfold Mc.chkS
    rw [if_neg (by rw [Mc.chk_of v]; simp), if_pos (by simp; omega)]
  have e1 : Mc.pthV m s t = Mc.oW ((Mc.wk m s).lookup (t : Int)) := by unfold Mc.pthV; rw [if_pos e0]
  have e2 : Mc.pthB m s t = Mc.oB ((Mc.wk m s).lookup (t : Int)) := by unfold Mc.pthB; rw [if_pos e0]
  rw [← hi, ← ho, ← hn]
  refine C.mono ?_
  rintro e w' ⟨B, k, h0, h1, h2, hb⟩
  have h1 : (Mc.pthV m s t).length = k := h1.out
  have h2 : Rd w' B (Mc.pthV m s t) := h2
  have h0 : e = .returned (.tuple #[.slice B k k, .bool (Mc.pthB m s t), .int .i64 (Mc.chkS m [(s : Int), (t : Int)])]) := h0
  rw [e1] at h1 h2
  rw [e2, e0] at h0
  have := Mc.look_short (t := (t : Int)) v (s := (s : Int)) ⟨by omega, by omega⟩
  exact ⟨B, k, h0, h1, by omega, h2, hb⟩
theorem dist_at (s : Nat) (v : Mc.Val m) (hi : m.i = i) (ho : m.o = o) (hn : m.r.length = n) (hs : s < n) (hr : RdR w A m.r) :
    Calls Try.prog 20 #[.agg #[.int .i64 i, .int .i64 o, .slice A n c], .int .i64 s] w fun e w' => ∃ B, e = .returned (.tuple #[.slice B n n, .int .i64 0]) ∧ Rd w' B (Mc.tab Mc.oD (Mc.wk m s) n) ∧ Below w.heap.size w w' := by
  have hr1 := v.r1
  have C := wdist_any m.i m.o m.r A m.r.length c s w hr rfl (by omega) v.rows
  have e0 : Mc.chkS m [(s : Int)] = 0 := by
    unfold Mc.chkS
    rw [if_neg (by rw [Mc.chk_of v]; simp), if_pos (by simp; omega)]
  have e1 : Mc.dstV m s = Mc.tab Mc.oD (Mc.wk m s) m.r.length := by unfold Mc.dstV; rw [if_pos e0]
  rw [← hi, ← ho, ← hn]
  refine C.mono ?_
  rintro e w' ⟨B, k, h0, h1, h2, hb⟩
  have h1 : (Mc.dstV m s).length = k := h1.out
  have h2 : Rd w' B (Mc.dstV m s) := h2
  have h0 : e = .returned (.tuple #[.slice B k k, .int .i64 (Mc.chkS m [(s : Int)])]) := h0
  rw [e1] at h1 h2
  rw [Mc.tab_len] at h1
  subst h1
  rw [e0] at h0
  exact ⟨B, h0, h2, hb⟩
theorem paths_at (s : Nat) (v : Mc.Val m) (hi : m.i = i) (ho : m.o = o) (hn : m.r.length = n) (hs : s < n) (hr : RdR w A m.r) :
    Calls Try.prog 21 #[.agg #[.int .i64 i, .int .i64 o, .slice A n c], .int .i64 s] w fun e w' => ∃ g1 g2, e = .returned (.tuple #[.slice (some ⟨g1, 0, none⟩) n n, .slice (some ⟨g2, 0, none⟩) n n]) ∧ Wr g1 (Mc.tab Mc.oW (Mc.wk m s) n) w' ∧ BlkB w' g2 (Mc.tab Mc.oB (Mc.wk m s) n) ∧ Below w.heap.size w w' := by
  have hss : (0 : Int) ≤ s ∧ (s : Int) < m.r.length := by omega
  have C := paths_any m s A c w v hr hss
  rw [← hi, ← ho, ← hn]
  refine C.mono ?_
  rintro e w' ⟨g1, g2, k, base, l, is, rfl, h1, h2, h3, h4, _, hb⟩
  obtain ⟨x, h5, h6⟩ := h4.out
  obtain ⟨rfl, rfl⟩ := h5.tabs v hss h6
  have h1 := h1.out
  subst h1
  exact ⟨g1, g2, rfl, h2.out.wr, h3.out, hb⟩
end
end Go.Proofs.Ytldpfbmkmehadaa
