/-
  Contracts: equals.Equal, equals.Within. No statement is proved here.
-/
import Derived.Test.YtiamkkgnjobljaaEa3
namespace Go.Proofs.Ytiamkkgnjobljaa
open Go.RowKit
open Mc (Ed Ma Wv)

/-- What Equal hands back. -/
def EquP (w : World) (a b : Ma) (e : Ending) (w' : World) : Prop := Below w.heap.size w w' ∧ ∃ (is : Bool) (z : Int), e = .returned (.tuple #[.bool is, .int .i64 z]) ∧ z = ech a b ∧ (z ≠ 0 → is = false) ∧ (z = 0 → (is = true ↔ Mc.Sim a b))
set_option maxRecDepth 100000 in
set_option maxHeartbeats 2000000 in
theorem eequal_any (a b : Ma) (A B : Option Addr) (n c n2 c2 : Nat) (w : World) (hra : RdR w A a.r) (hn : a.r.length = n) (hnb : n ≤ 1000000) (hrl : ∀ row ∈ a.r, row.length ≤ 1000000) (hrb : RdR w B b.r) (hn2 : b.r.length = n2) (hnb2 : n2 ≤ 1000000) (hrl2 : ∀ row ∈ b.r, row.length ≤ 1000000) :
    Calls Try.prog 15 #[.agg #[.int .i64 a.i, .int .i64 a.o, .slice A n c], .agg #[.int .i64 b.i, .int .i64 b.o, .slice B n2 c2]] w (EquP w a b) := by
  have HB : Below w.heap.size w (boxM (boxM w a.i a.o A n c) b.i b.o B n2 c2) := ((Below.refl _ _).alloc (Nat.le_refl _) _).alloc (by simp) _
  have HMA : BxM (boxM (boxM w a.i a.o A n c) b.i b.o B n2 c2) w.heap.size a.i a.o A n c := (BxM.new w a.i a.o A n c).mvB ((Below.refl _ _).alloc (Nat.le_refl _) _)
  have HMB : BxM (boxM (boxM w a.i a.o A n c) b.i b.o B n2 c2) (w.heap.size + 1) b.i b.o B n2 c2 := BxM.newE (by simp [boxM]) b.i b.o B n2 c2
  have HC := Lib.hid (ediffer_any a b A B n c n2 c2 _ (hra.below HB) hn hnb hrl (hrb.below HB) hn2 hnb2 hrl2)
  have HBB := Lib.hid HB
  obtain ⟨x0, x1, x2⟩ := HMA.cells
  obtain ⟨y0, y1, y2⟩ := HMB.cells
  clear HB HMA HMB hrl hrl2
  go_enter Try.func15, Try.ntmps15
  go_wp2_with fail
  refine HC.out.mono ?_
  rintro e w1 ⟨hb1, X, k, ws, is, z, rfl, hrd, hk, hz, hcase⟩
  have hbF := Lib.hid (below_next HBB.out hb1)
  have HZ := Lib.hid hz
  have HCA := Lib.hid hcase
  clear x0 x1 x2 y0 y1 y2 hb1 HC hz hcase hrd hk
  by_cases h0 : z = 0
  · have hzb : (z == 0) = true := by rw [h0]; rfl
    subst h0
    have hs : Hid ((!is) = true ↔ Mc.Sim a b) := by
      show _ ↔ _
      rcases HCA.out with ⟨h1, _, h2⟩ | ⟨h1, _, h2⟩
      · subst h1
        exact ⟨fun h => by simp at h, fun h => absurd h h2.not⟩
      · subst h1
        exact ⟨fun _ => h2 rfl, fun _ => rfl⟩
    go_wp2
    go_ret2
    exact ⟨hbF.out, !is, 0, rfl, HZ.out, fun h => absurd rfl h, fun _ => hs.out⟩
  · have hzb : (z == 0) = false := by rw [beq_eq_false_iff_ne]; exact h0
    have H0 := Lib.hid h0
    clear h0
    go_wp2
    go_ret2
    exact ⟨hbF.out, false, z, rfl, HZ.out, fun _ => rfl, fun h => absurd h H0.out⟩

/-- What Within hands back. -/
def WitP (w : World) (a b : Ma) (k : Int) (e : Ending) (w' : World) : Prop := Below w.heap.size w w' ∧ ∃ (is : Bool) (z : Int), e = .returned (.tuple #[.bool is, .int .i64 z]) ∧ z = (if ech a b ≠ 0 then ech a b else if k < 0 then 1 else 0) ∧ (z ≠ 0 → is = false) ∧ (z = 0 → (is = true ↔ Mc.Sim a b ∨ ∃ ws, Mc.Ldw a b ws ∧ k < (ws.length : Int)))
set_option maxRecDepth 100000 in
set_option maxHeartbeats 2000000 in
theorem ewithin_any (a b : Ma) (A B : Option Addr) (n c n2 c2 : Nat) (k : Int) (w : World) (hra : RdR w A a.r) (hn : a.r.length = n) (hnb : n ≤ 1000000) (hrl : ∀ row ∈ a.r, row.length ≤ 1000000) (hrb : RdR w B b.r) (hn2 : b.r.length = n2) (hnb2 : n2 ≤ 1000000) (hrl2 : ∀ row ∈ b.r, row.length ≤ 1000000) :
    Calls Try.prog 54 #[.agg #[.int .i64 a.i, .int .i64 a.o, .slice A n c], .agg #[.int .i64 b.i, .int .i64 b.o, .slice B n2 c2], .int .i64 k] w (WitP w a b k) := by
  have HB : Below w.heap.size w (boxM (boxM w a.i a.o A n c) b.i b.o B n2 c2) := ((Below.refl _ _).alloc (Nat.le_refl _) _).alloc (by simp) _
  have HMA : BxM (boxM (boxM w a.i a.o A n c) b.i b.o B n2 c2) w.heap.size a.i a.o A n c := (BxM.new w a.i a.o A n c).mvB ((Below.refl _ _).alloc (Nat.le_refl _) _)
  have HMB : BxM (boxM (boxM w a.i a.o A n c) b.i b.o B n2 c2) (w.heap.size + 1) b.i b.o B n2 c2 := BxM.newE (by simp [boxM]) b.i b.o B n2 c2
  have HC := Lib.hid (ediffer_any a b A B n c n2 c2 _ (hra.below HB) hn hnb hrl (hrb.below HB) hn2 hnb2 hrl2)
  have HBB := Lib.hid HB
  obtain ⟨x0, x1, x2⟩ := HMA.cells
  obtain ⟨y0, y1, y2⟩ := HMB.cells
  clear HB HMA HMB hrl hrl2
  go_enter Try.func54, Try.ntmps54
  go_wp2_with fail
  refine HC.out.mono ?_
  rintro e w1 ⟨hb1, X, l, ws, is, z, rfl, hrd, hl, hz, hcase⟩
  have hbF := Lib.hid (below_next HBB.out hb1)
  have HZ := Lib.hid hz
  have HCA := Lib.hid hcase
  have HL := Lib.hid hl
  clear x0 x1 x2 y0 y1 y2 hb1 HC hz hcase hrd hl
  by_cases h0 : z = 0
  · have hzb : (z == 0) = true := by rw [h0]; rfl
    subst h0
    by_cases hk : k < 0
    · have hkd : decide (k < 0) = true := decide_eq_true hk
      have hR : Hid ((1 : Int) = if ech a b ≠ 0 then ech a b else if k < 0 then 1 else 0) := by
        show _ = _
        rw [if_neg (by rw [← HZ.out]; simp), if_pos hk]
      clear hkd
      go_wp2
      go_ret2
      exact ⟨hbF.out, false, 1, rfl, hR.out, fun _ => rfl, fun h => by simp at h⟩
    · have hkd : decide (k < 0) = false := decide_eq_false hk
      have hR : Hid ((0 : Int) = if ech a b ≠ 0 then ech a b else if k < 0 then 1 else 0) := by
        show _ = _
        rw [if_neg (by rw [← HZ.out]; simp), if_neg hk]
      cases is with
      | false =>
        have hs : Hid (Mc.Sim a b) := by
          rcases HCA.out with ⟨h1, _⟩ | ⟨_, _, h2⟩
          · cases h1
          · exact h2 rfl
        go_wp2
        go_ret2
        exact ⟨hbF.out, true, 0, rfl, hR.out, fun h => absurd rfl h, fun _ => ⟨fun _ => Or.inl hs.out, fun _ => rfl⟩⟩
      | true =>
        have hs : Hid (Mc.Ldw a b ws) := by
          rcases HCA.out with ⟨_, _, h2⟩ | ⟨h1, _⟩
          · exact h2
          · cases h1
        have hi1 : Hid (Mc.Val a) := (ech_ok HZ.out.symm).1
        have hq : Hid ((decide ((l : Int) > k)) = true ↔ Mc.Sim a b ∨ ∃ ws, Mc.Ldw a b ws ∧ k < (ws.length : Int)) := by
          show _ ↔ _
          rw [decide_eq_true_iff]
          constructor
          · intro h
            exact Or.inr ⟨ws, hs.out, by rw [HL.out]; exact h⟩
          · rintro (h | ⟨v, h1, h2⟩)
            · exact absurd h hs.out.not
            · rw [h1.uniq hi1.out.i0 hs.out, HL.out] at h2
              exact h2
        go_wp2
        go_ret2
        exact ⟨hbF.out, _, 0, rfl, hR.out, fun h => absurd rfl h, fun _ => by simpa using hq.out⟩
  · have hzb : (z == 0) = false := by rw [beq_eq_false_iff_ne]; exact h0
    have hR : Hid (z = if ech a b ≠ 0 then ech a b else if k < 0 then 1 else 0) := by
      show _ = _
      rw [if_pos (by rw [← HZ.out]; exact h0)]
      exact HZ.out
    have H0 := Lib.hid h0
    clear h0
    go_wp2
    go_ret2
    exact ⟨hbF.out, false, z, rfl, hR.out, fun _ => rfl, fun h => absurd h H0.out⟩
end Go.Proofs.Ytiamkkgnjobljaa
