/-
  Several texts in one: Ec6, Ed0. No statement is proved here.
-/
import Derived.Test.YtomgofgbfdcmhaaEc3
import Derived.Test.YtomgofgbfdcmhaaDof
namespace Go.Proofs.Ytomgofgbfdcmhaa
open Go.RowKit
open Mc (Ed Ma Wv)
namespace Mc
section
variable {a b : Ma} (va : Val a) (vb : Val b) (hi : a.i = b.i) (hl : a.r.length + b.r.length ≤ 64)
include va vb hi hl
theorem sep_ldw (h : sl (bes a b) 0 a.r.length ≠ 0) : Ldw a b (sepw (bes a b) 0 a.r.length) := by
  have v := bes_val va vb hi hl
  have h0 := va.r0
  have h1 := vb.r0
  have hs : 0 < (bes a b).r.length := by rw [bes_len]; omega
  have ht : a.r.length < (bes a b).r.length := by rw [bes_len]; omega
  have hw : Wd a (sepw (bes a b) 0 a.r.length) := sw_wd v _ 0 a.r.length hs ht rfl
  refine ⟨hw, fun e => sw_sep v hs ht h ((bes_sep va vb hi hw).2 e), fun u hu hne => ?_⟩
  exact (sw_le v hs ht (w := u) hu (fun e => hne ((bes_sep va vb hi hu).1 e))).2
theorem sl_sim (h : sl (bes a b) 0 a.r.length = 0) : Sim a b := by
  have v := bes_val va vb hi hl
  have h0 := va.r0
  have h1 := vb.r0
  have hs : 0 < (bes a b).r.length := by rw [bes_len]; omega
  have ht : a.r.length < (bes a b).r.length := by rw [bes_len]; omega
  refine ⟨hi, fun w hw => Classical.byContradiction fun hne => ?_⟩
  exact (sw_le v hs ht (w := w) hw (fun e => hne ((bes_sep va vb hi hw).1 e))).1 h
end
end Mc
/-- The reference's Differ, in the words of chapter 10. -/
def DfrQ (w : World) (a b : Ma) (e : Ending) (w' : World) : Prop := ∃ (X : Option Addr) (k d : Nat) (is : Bool) (ws : List Int), e = .returned (.tuple #[.slice X k d, .bool is]) ∧ Rd w' X ws ∧ ws.length = k ∧ Below w.heap.size w w' ∧ ((is = true ∧ Mc.Ldw a b ws) ∨ (is = false ∧ ws = [] ∧ Mc.Sim a b))
theorem rdiffer_at (a b : Ma) (i : Nat) (ao bo : Int) (A B : Option Addr) (n c n2 c2 : Nat) (w : World) (va : Mc.Val a) (vb : Mc.Val b) (hia : a.i = i) (hib : b.i = i) (hra : RdR w A a.r) (hn : a.r.length = n) (hrb : RdR w B b.r) (hn2 : b.r.length = n2) (hl : n + n2 ≤ 64) :
    Calls Try.prog 18 #[.agg #[.int .i64 i, .int .i64 ao, .slice A n c], .agg #[.int .i64 i, .int .i64 bo, .slice B n2 c2]] w (DfrQ w a b) := by
  refine (rdiffer_any a b i ao bo A B n c n2 c2 w va vb hia hib hra hn hrb hn2 hl).mono ?_
  rintro e w' ⟨X, k, d, is, rfl, hr, hk, his, hb⟩
  rw [← hn] at hr hk his
  have hii : a.i = b.i := by rw [hia, hib]
  have hll : a.r.length + b.r.length ≤ 64 := by rw [hn, hn2]; exact hl
  refine ⟨X, k, d, is, _, rfl, hr, hk, hb, ?_⟩
  by_cases h0 : Mc.sl (Mc.bes a b) 0 a.r.length = 0
  · have hf : is = false := by
      cases is with
      | false => rfl
      | true => exact absurd h0 (his.1 rfl)
    exact Or.inr ⟨hf, List.eq_nil_of_length_eq_zero (by rw [Mc.sepw_len]; exact h0), Mc.sl_sim va vb hii hll h0⟩
  · exact Or.inl ⟨his.2 h0, Mc.sep_ldw va vb hii hll h0⟩
end Go.Proofs.Ytomgofgbfdcmhaa

namespace Go.Proofs.Ytomgofgbfdcmhaa
open Go.RowKit
open Mc (Ed Ma Wv)

set_option maxRecDepth 100000 in
set_option maxHeartbeats 4000000 in
theorem ewit_walk (a b d a2 b2 d2 s0 s1 p0 p1 tx ty : Int) (q q2 al : Bool) (A A2 : Option Addr) (EL c EL2 c2 : Nat) (x : Int) (w : World)
    (HD : ∀ w', Below w.heap.size w w' → Calls Try.prog 16 #[.agg #[.int .u8 a, .int .u8 b, .int .u8 d, .bool q, .slice A EL c, .int .u8 a2, .int .u8 b2, .int .u8 d2, .bool q2, .slice A2 EL2 c2, .bool al, .int .u8 s0, .int .u8 s1, .int .u8 p0, .int .u8 p1, .int .i64 tx, .int .i64 ty]] w' (DoP w')) :
    Calls Try.prog 5 #[.agg #[.int .u8 a, .int .u8 b, .int .u8 d, .bool q, .slice A EL c, .int .u8 a2, .int .u8 b2, .int .u8 d2, .bool q2, .slice A2 EL2 c2, .bool al, .int .u8 s0, .int .u8 s1, .int .u8 p0, .int .u8 p1, .int .i64 tx, .int .i64 ty], .int .i64 x] w fun e w' => e = .returned (.bool true) ∧ Below w.heap.size w w' := by
  have hb0 : Below w.heap.size w (w.alloc (.cells #[.int .u8 a, .int .u8 b, .int .u8 d, .bool q, .slice A EL c, .int .u8 a2, .int .u8 b2, .int .u8 d2, .bool q2, .slice A2 EL2 c2, .bool al, .int .u8 s0, .int .u8 s1, .int .u8 p0, .int .u8 p1, .int .i64 tx, .int .i64 ty] 29)) := (Below.refl _ _).alloc (Nat.le_refl _) _
  have HDD := Lib.hid (HD _ hb0)
  have HB0 := Lib.hid hb0
  clear hb0 HD
  go_enter Try.func5, Try.ntmps5
  go_wp2_with fail
  refine HDD.out.mono ?_
  rintro e w1 ⟨m, m2, i, ao, bo, X, Y, n, k, n2, k2, rfl, hrx, hry, hn, hn2, va, vb, hi, hi2, ho, ho2, hn6, hn26, hb1⟩
  obtain ⟨g, hg⟩ : ∃ g, w1.heap.size = g := ⟨_, rfl⟩
  obtain ⟨W2, hW2⟩ : ∃ W2, boxM (boxM w1 i ao X n k) i bo Y n2 k2 = W2 := ⟨_, rfl⟩
  have hb2 : Below w1.heap.size w1 W2 := by rw [← hW2]; exact ((Below.refl _ _).alloc (Nat.le_refl _) _).alloc (by simp) _
  have hMA : BxM W2 g i ao X n k := by rw [← hW2]; exact (BxM.newE hg i ao X n k).mvB ((Below.refl _ _).alloc (Nat.le_refl _) _)
  have hMB : BxM W2 (g + 1) i bo Y n2 k2 := by rw [← hW2]; exact BxM.newE (by simp [boxM, hg]) i bo Y n2 k2
  have HRX := Lib.hid (hrx.below hb2)
  have HRY := Lib.hid (hry.below hb2)
  have HB2 := Lib.hid (below_next (below_next HB0.out hb1) hb2)
  have HVA := Lib.hid va
  have HVB := Lib.hid vb
  have hii : Hid (m.i = m2.i) := by show _ = _; rw [hi, hi2]
  have HE : Hid (ech m m2 = 0) := ech_zero va vb hii.out
  have hsum : m.r.length + m2.r.length ≤ 64 := by omega
  have HSUM := Lib.hid hsum
  have HN := Lib.hid hn
  have HN2 := Lib.hid hn2
  have CW : Hid (∀ y wr, Below W2.heap.size W2 wr → Calls Try.prog 27 #[.agg #[.int .i64 i, .int .i64 ao, .slice X n k], .agg #[.int .i64 i, .int .i64 bo, .slice Y n2 k2], .int .i64 y] wr (WitP wr m m2 y)) := fun y wr hb => by
    have h1 := ewithin_any m m2 X Y n k n2 k2 y wr (HRX.out.below hb) hn (by omega) va.rowsE (HRY.out.below hb) hn2 (by omega) vb.rowsE
    rw [hi, hi2, ho, ho2] at h1
    exact h1
  have CD : Hid (∀ wr, Below W2.heap.size W2 wr → Calls Try.prog 18 #[.agg #[.int .i64 i, .int .i64 ao, .slice X n k], .agg #[.int .i64 i, .int .i64 bo, .slice Y n2 k2]] wr (DfrQ wr m m2)) := fun wr hb => rdiffer_at m m2 i ao bo X Y n k n2 k2 wr va vb hi hi2 (HRX.out.below hb) hn (HRY.out.below hb) hn2 (by omega)
  have HMA := Lib.hid hMA
  have HMB := Lib.hid hMB
  have HW2 := Lib.hid hW2
  clear hb1 hb2 hrx hry hMA hMB hW2 va vb hi hi2 ho ho2 hn hn2 hsum HB0 HDD
  go_upto_region 2 with fail
  try rw [hg]
  change Code.wp _ _ _ _ (boxM (boxM w1 i ao X n k) i bo Y n2 k2)
  rw [HW2.out]
  clear HW2 hg
  obtain ⟨x0, x1, x2⟩ := HMA.out.cells
  obtain ⟨y0, y1, y2⟩ := HMB.out.cells
  go_wp2_with fail
  refine (CW.out x _ (Below.refl _ _)).mono ?_
  rintro e w3 ⟨hb3, is, z, rfl, hz, hzf, hzs⟩
  rw [HE.out, if_neg (by simp)] at hz
  have HB3 := Lib.hid hb3
  have HF := Lib.hid hzf
  have HS := Lib.hid hzs
  clear hzf hzs x0 x1 x2 y0 y1 y2 hb3
  by_cases hx : x < 0
  · have hxd : decide (x < 0) = true := decide_eq_true hx
    rw [if_pos hx] at hz
    subst hz
    obtain rfl := HF.out (by decide)
    go_wp2_with fail
    refine (elives_walk _).mono ?_
    rintro e w4 ⟨rfl, hb4⟩
    have hfin := Lib.hid (below_next (below_next HB2.out HB3.out) hb4)
    clear hb4
    go_wp2_with fail
    go_ret
    exact ⟨rfl, hfin.out⟩
  · have hxd : decide (x < 0) = false := decide_eq_false hx
    rw [if_neg hx] at hz
    subst hz
    obtain ⟨x0, x1, x2⟩ := (HMA.out.mvB HB3.out).cells
    obtain ⟨y0, y1, y2⟩ := (HMB.out.mvB HB3.out).cells
    go_wp2_with fail
    refine (CD.out _ HB3.out).mono ?_
    rintro e w4 ⟨Xd, kd, dd, th, ws, rfl, hrd, hkd, hb4, hcase⟩
    have HB4 := Lib.hid (below_next HB3.out hb4)
    have HC := Lib.hid hcase
    have HKD := Lib.hid hkd
    clear hb4 hrd hkd hcase x0 x1 x2 y0 y1 y2
    obtain ⟨x0, x1, x2⟩ := (HMA.out.mvB HB4.out).cells
    obtain ⟨y0, y1, y2⟩ := (HMB.out.mvB HB4.out).cells
    go_wp2_with fail
    have hwr1 : IntKind.i64.wrap ((n : Int) + (n2 : Int)) = (n : Int) + n2 := IntWalk.i64_in _ (by omega)
    have hwr2 : IntKind.i64.wrap ((n : Int) + (n2 : Int) - 1) = (n : Int) + n2 - 1 := IntWalk.i64_in _ (by omega)
    refine (CW.out ((n : Int) + n2 - 1) _ HB4.out).mono ?_
    rintro e w5 ⟨hb5, is2, z2, rfl, hz2, _, hs2⟩
    have hm1 : 0 < n := by have h1 := HVA.out.r0; rw [HN.out] at h1; exact h1
    rw [HE.out, if_neg (by simp), if_neg (by omega)] at hz2
    subst hz2
    have HB5 := Lib.hid (below_next HB4.out hb5)
    have HS2 := Lib.hid hs2
    clear hb5 hs2 x0 x1 x2 y0 y1 y2 hwr1 hwr2
    have hcs : (th = false ∧ is = true ∧ is2 = true) ∨ (th = true ∧ is2 = false ∧ is = decide (x < (kd : Int))) := by
      rcases HC.out with ⟨h1, h2⟩ | ⟨h1, h2, h3⟩
      · right
        refine ⟨h1, ?_, ?_⟩
        · cases is2 with
          | false => rfl
          | true =>
            rcases (HS2.out rfl).1 rfl with h4 | ⟨v, h4, h5⟩
            · exact absurd h4 h2.not
            · obtain rfl := h4.uniq HVA.out.i0 h2
              have h6 := Mc.ldw_len HVA.out HVB.out hii.out HSUM.out h2
              rw [HN.out, HN2.out] at h6
              omega
        · have h3 : is = true ↔ x < (kd : Int) := by
            rw [HS.out (by first | trivial | rfl), ← HKD.out]
            constructor
            · rintro (h4 | ⟨v, h4, h5⟩)
              · exact absurd h4 h2.not
              · rw [h4.uniq HVA.out.i0 h2] at h5
                exact h5
            · exact fun h => Or.inr ⟨ws, h2, h⟩
          cases is with
          | true => exact (decide_eq_true (h3.1 rfl)).symm
          | false => exact (decide_eq_false (fun h => by have := h3.2 h; cases this)).symm
      · exact Or.inl ⟨h1, (HS.out (by first | trivial | rfl)).2 (Or.inl h3), (HS2.out rfl).2 (Or.inl h3)⟩
    have hbb : ∀ b : Bool, (b == b) = true := fun b => by simp
    have HB25 := Lib.hid (below_next HB2.out HB5.out)
    clear HC HS HS2 HF HKD
    rcases hcs with ⟨rfl, rfl, rfl⟩ | ⟨rfl, rfl, rfl⟩
    · go_wp2_with fail
      refine (elives_walk _).mono ?_
      rintro e w6 ⟨rfl, hb6⟩
      have hfin := Lib.hid (below_next HB25.out hb6)
      clear hb6
      go_wp2_with fail
      go_ret
      exact ⟨rfl, hfin.out⟩
    · obtain ⟨bk, hbk⟩ : ∃ b, decide (x < (kd : Int)) = b := ⟨_, rfl⟩
      rw [hbk]
      cases bk
      all_goals
        go_wp2_with fail
        refine (elives_walk _).mono ?_
        rintro e w6 ⟨rfl, hb6⟩
        have hfin := Lib.hid (below_next HB25.out hb6)
        clear hb6
        go_wp2_with fail
        go_ret
        exact ⟨rfl, hfin.out⟩
end Go.Proofs.Ytomgofgbfdcmhaa
