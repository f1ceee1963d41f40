/-
  Several texts in one: Q6, Q7. No statement is proved here.
-/
import Derived.Test.YtnodnfailjmpeaaQbZ
import Derived.Deep.QuietTactic
import Derived.BigQuiet
import Derived.Test.YtnodnfailjmpeaaSwZ
namespace Go.Proofs.Ytnodnfailjmpeaa
open Go.RowKit
open Mc (Ed Ma)

namespace Mc
/-- Some element of a list is no state. -/
def hmB (k : Nat) (f : List Int) : Bool := f.any fun x => decide (x < 0) || decide ((k : Int) ≤ x)
/-- The error of a list that should be a homomorphism. -/
def hmE (a b : Ma) (f : List Int) : Int := if chk a ≠ 0 then chk a else if chk b ≠ 0 then chk b else if a.i ≠ b.i then 5 else if f.length ≠ a.r.length then 16 else if hmB b.r.length f = true then 1 else 0
theorem hmB_no {k : Nat} {f : List Int} (h : ∀ x ∈ f, 0 ≤ x ∧ x < k) : hmB k f = false := by
  unfold hmB
  rw [List.any_eq_false]
  intro x hx
  have := h x hx
  simp
  omega
theorem hmB_yes {k : Nat} {f : List Int} {x : Int} (hx : x ∈ f) (h : x < 0 ∨ (k : Int) ≤ x) : hmB k f = true := by
  unfold hmB
  rw [List.any_eq_true]
  exact ⟨x, hx, by simpa using h⟩
theorem hmB_all {k : Nat} {f : List Int} (h : hmB k f = false) : ∀ x ∈ f, 0 ≤ x ∧ x < k := fun x hx => by
  unfold hmB at h
  rw [List.any_eq_false] at h
  have := h x hx
  simp at this
  omega
/-- What the program compares. -/
def HomP (a b : Ma) (f : List Int) : Prop := M.gz f 0 = 0 ∧ ∀ s i : Nat, s < a.r.length → (i : Int) < a.i → nx b (M.gz f s) i = (tgt f (nx a s i).1, (nx a s i).2)
theorem homP_iff {a b : Ma} (va : Val a) (vb : Val b) (hi : a.i = b.i) {f : List Int} (hf : ∀ s : Nat, s < a.r.length → 0 ≤ M.gz f s ∧ M.gz f s < b.r.length) : HomP a b f ↔ Hom a b f := by
  constructor
  · rintro ⟨h1, h2⟩
    refine ⟨h1, fun s i hs hi => ?_, fun s i hs hi h0 => ?_⟩
    · rw [h2 s i hs hi]
    · rw [h2 s i hs hi]
      obtain ⟨t, ht⟩ := Int.eq_ofNat_of_zero_le h0
      rw [ht, tgt_nat, Int.toNat_natCast]
  · intro h
    refine ⟨h.zero, fun s i hs hia => ?_⟩
    have h1 := h.out s i hs hia
    have h2 := h.to s i hs hia
    have hsa : St a (s : Int) := Or.inr ⟨by omega, by omega⟩
    have hsb : St b (M.gz f s) := Or.inr (hf s hs)
    have hc : (0 : Int) ≤ i ∧ (i : Int) < a.i := ⟨by omega, hia⟩
    rcases (nx_st va hsa hc).1 with e | ⟨e1, _⟩
    · have e2 : (nx b (M.gz f s) i).1 = -1 := by
        rw [nx_none vb hsb ⟨hc.1, by rw [← hi]; exact hc.2⟩, ← h1]
        exact (nx_none va hsa hc).1 e
      rw [e]
      exact Prod.ext (by rw [e2]; rfl) h1.symm
    · have h3 := h2 e1
      obtain ⟨t, ht⟩ := Int.eq_ofNat_of_zero_le e1
      rw [ht, Int.toNat_natCast] at h3
      rw [ht]
      exact Prod.ext (by rw [tgt_nat]; exact h3.symm) h1.symm
end Mc
theorem run_neq_edge9 (a b a' b' : Int) (w : World) : (binOp .neq 26 (.agg #[.int .i64 a, .int .i64 b]) (.agg #[.int .i64 a', .int .i64 b'])).run Try.prog w = .ok (.bool (!((a == a') && (b == b')))) w := by
  rw [run_neq_struct, run_equal_edge]; rfl
set_option maxRecDepth 100000 in
set_option maxHeartbeats 4000000 in
theorem qcheck_any (a b : Ma) (A B : Option Addr) (n c k d : Nat) (F : Option Addr) (q e : Nat) (f : List Int) (w : World) (hr : RdR w A a.r) (hq : RdR w B b.r) (hn : a.r.length = n) (hk : b.r.length = k) (hnb : n ≤ 1000000) (hkb : k ≤ 1000000) (hrl : ∀ row ∈ a.r, row.length ≤ 1000000) (hql : ∀ row ∈ b.r, row.length ≤ 1000000)
    (hF : Rd w F f) (hf : f.length = q) (hqb : q ≤ 1000000) :
    Calls Try.prog 74 #[.agg #[.int .i64 a.i, .int .i64 a.o, .slice A n c], .agg #[.int .i64 b.i, .int .i64 b.o, .slice B k d], .slice F q e] w fun e w' => e = .returned (.int .i64 (Mc.hmE a b f)) ∧ Below w.heap.size w w' := by
  have RL := Lib.hid hrl
  have QL := Lib.hid hql
  have HN := Lib.hid hn
  have HK := Lib.hid hk
  have HF := Lib.hid hf
  have h0 : B2 w a b A B n c k d ((boxM w a.i a.o A n c).alloc (.cells #[.int .i64 b.i, .int .i64 b.o, .slice B k d] 24)) :=
    ⟨((Below.refl _ _).alloc (Nat.le_refl _) _).alloc (by simp) _, (BxM.new w _ _ _ _ _).mvB ((Below.refl _ _).alloc (Nat.le_refl _) _), BxM.newE (w := boxM w a.i a.o A n c) (by simp) _ _ _ _ _⟩
  obtain ⟨q0, q1, q2⟩ := h0.ba.cells
  obtain ⟨z0, z1, z2⟩ := h0.bb.cells
  have H0 := Lib.hid h0
  clear hrl hql hn hk h0 hf
  go_enter Try.func74, Try.ntmps74
  go_wp2
  clear q0 q1 q2 z0 z1 z2
  go_loopw [15] (fun v wr => ∃ j : Nat, j ≤ 2 ∧ v = .int .i64 j ∧ (1 ≤ j → Hid (Mc.chk a = 0)) ∧ (2 ≤ j → Hid (Mc.chk b = 0)) ∧ Hid (B2 w a b A B n c k d wr)) (fun v _ => 2 - (intOf v).toNat)
  case atStart => exact ⟨0, by omega, rfl, fun h => absurd h (by omega), fun h => absurd h (by omega), H0⟩
  case round =>
    obtain ⟨j, hj, rfl, h1, h2, hB⟩ := hrel
    clear H0
    have hj3 : j = 0 ∨ j = 1 ∨ j = 2 := by omega
    rcases hj3 with rfl | rfl | rfl
    · have HI0 := fun w => run_idx0 a.i a.o b.i b.o A B n c k d w
      have hB2 := hB.out.below ((Below.refl _ _).alloc (Nat.le_refl _) (.cells #[.int .i64 a.i, .int .i64 a.o, .slice A n c] 24))
      have C := pcheck_any a.i a.o a.r A n c _ (hr.below hB2.bel) HN.out hnb RL.out
      have HB2 := Lib.hid hB2
      clear hB hB2 h1 h2
      go_wp2_with fail
      refine C.mono ?_
      rintro e9 w1 ⟨rfl, hb1⟩
      have HB3 := Lib.hid (HB2.out.below hb1)
      have hb3 := HB3.out.bel
      clear C hb1 HI0 HB2
      by_cases hz : Mc.chk a = 0
      · have hz' : Mc.chk ⟨a.i, a.o, a.r⟩ = 0 := hz
        have HZ := Lib.hid hz
        rw [hz']
        clear hz hz' hb3
        go_wp2
        go_roundw
        case rel => exact ⟨1, by omega, rfl, fun _ => HZ, fun h => absurd h (by omega), HB3⟩
        case measure => simp [intOf]
      · obtain ⟨z, hzz⟩ : ∃ z, Mc.chk ⟨a.i, a.o, a.r⟩ = z := ⟨_, rfl⟩
        have hz0 : z ≠ 0 := by rw [← hzz]; exact hz
        have hzn : (z != 0) = true := by simpa using hz0
        have hzb : (z == 0) = false := by rw [beq_eq_false_iff_ne]; exact hz0
        have hE : Hid (Mc.hmE a b f = z) := by
          show _ = _
          unfold Mc.hmE
          rw [if_pos hz]
          exact hzz
        rw [hzz]
        clear hzz hz HB3
        go_wp2
        go_ret
        exact ⟨ret_int hE.out.symm, hb3⟩
    · have HI0 := fun w => run_idx1 a.i a.o b.i b.o A B n c k d w
      have hB2 := hB.out.below ((Below.refl _ _).alloc (Nat.le_refl _) (.cells #[.int .i64 b.i, .int .i64 b.o, .slice B k d] 24))
      have C := pcheck_any b.i b.o b.r B k d _ (hq.below hB2.bel) HK.out hkb QL.out
      have HB2 := Lib.hid hB2
      have HZA := Lib.hid (h1 (by omega)).out
      clear hB hB2 h1 h2
      go_wp2_with fail
      refine C.mono ?_
      rintro e9 w1 ⟨rfl, hb1⟩
      have HB3 := Lib.hid (HB2.out.below hb1)
      have hb3 := HB3.out.bel
      clear C hb1 HI0 HB2
      by_cases hz : Mc.chk b = 0
      · have hz' : Mc.chk ⟨b.i, b.o, b.r⟩ = 0 := hz
        have HZ := Lib.hid hz
        rw [hz']
        clear hz hz' hb3
        go_wp2
        go_roundw
        case rel => exact ⟨2, by omega, rfl, fun _ => HZA, fun _ => HZ, HB3⟩
        case measure => simp [intOf]
      · obtain ⟨z, hzz⟩ : ∃ z, Mc.chk ⟨b.i, b.o, b.r⟩ = z := ⟨_, rfl⟩
        have hz0 : z ≠ 0 := by rw [← hzz]; exact hz
        have hzn : (z != 0) = true := by simpa using hz0
        have hzb : (z == 0) = false := by rw [beq_eq_false_iff_ne]; exact hz0
        have hE : Hid (Mc.hmE a b f = z) := by
          show _ = _
          unfold Mc.hmE
          rw [if_neg (by rw [HZA.out]; simp), if_pos hz]
          exact hzz
        rw [hzz]
        clear hzz hz HB3
        go_wp2
        go_ret
        exact ⟨ret_int hE.out.symm, hb3⟩
    · have HZA := Lib.hid (h1 (by omega)).out
      have HZB := Lib.hid (h2 (by omega)).out
      have hE : Hid (Mc.hmE a b f = if a.i ≠ b.i then 5 else if f.length ≠ a.r.length then 16 else if Mc.hmB b.r.length f = true then 1 else 0) := by
        show _ = _
        unfold Mc.hmE
        rw [if_neg (by rw [HZA.out]; simp), if_neg (by rw [HZB.out]; simp)]
      obtain ⟨q0, q1, q2⟩ := hB.out.ba.cells
      obtain ⟨z0, z1, z2⟩ := hB.out.bb.cells
      have hbl := Lib.hid hB.out.bel
      clear h1 h2
      by_cases hi : a.i = b.i
      · have hib : (a.i != b.i) = false := by rw [hi]; simp
        by_cases hl : q = n
        · have hlb : ((q : Int) != n) = false := by rw [hl]; simp
          have hE2 : Hid (Mc.hmE a b f = if Mc.hmB k f = true then 1 else 0) := by
            show _ = _
            rw [hE.out, if_neg (fun h => h hi), if_neg (fun h => h (by rw [HF.out, HN.out, hl])), HK.out]
          have HL := Lib.hid hl
          have HII := Lib.hid hi
          clear hl hi
          go_wp2
          clear q0 q1 q2 z0 z1 z2 hib hlb
          go_loopw [37] (fun v wr => ∃ j : Nat, j ≤ q ∧ v = .int .i64 j ∧ Hid (∀ i : Nat, i < j → 0 ≤ M.gz f i ∧ M.gz f i < k) ∧ Hid (B2 w a b A B n c k d wr)) (fun v _ => q - (intOf v).toNat)
          case atStart => exact ⟨0, Nat.zero_le _, rfl, fun i h => absurd h (Nat.not_lt_zero _), hB⟩
          case round =>
            obtain ⟨j, hj, rfl, hG, hB⟩ := hrel
            obtain ⟨z0, z1, z2⟩ := hB.out.bb.cells
            have hbl := Lib.hid hB.out.bel
            by_cases hjq : j < q
            · have hjq' : (j : Int) < q := by omega
              obtain ⟨b9, off, x, rfl, hb9, hc, hx⟩ := (hF.below hB.out.bel).at_ (k := j) (by rw [HF.out]; exact hjq)
              have hxm : Hid (x ∈ f) := by show x ∈ f; rw [← hx.out]; exact M.gz_mem (by rw [HF.out]; exact hjq)
              by_cases hx0 : x < 0
              · have hE3 : Hid (Mc.hmE a b f = 1) := by show _ = _; rw [hE2.out, if_pos (Mc.hmB_yes hxm.out (.inl hx0))]
                clear hG hB
                go_wp2
                go_ret
                exact ⟨ret_int hE3.out.symm, hbl.out⟩
              · have hx0' : decide (x < 0) = false := decide_eq_false hx0
                by_cases hxk : (k : Int) ≤ x
                · have hE3 : Hid (Mc.hmE a b f = 1) := by show _ = _; rw [hE2.out, if_pos (Mc.hmB_yes hxm.out (.inr hxk))]
                  have hxk' : decide ((k : Int) ≤ x) = true := decide_eq_true hxk
                  clear hG hB
                  go_wp2
                  go_ret
                  exact ⟨ret_int hE3.out.symm, hbl.out⟩
                · have hxk' : decide ((k : Int) ≤ x) = false := decide_eq_false hxk
                  have hG2 : Hid (∀ i : Nat, i < j + 1 → 0 ≤ M.gz f i ∧ M.gz f i < k) := fun i h => by
                    rcases Nat.lt_or_ge i j with h2 | h2
                    · exact hG.out i h2
                    · obtain rfl : i = j := by omega
                      rw [show M.gz f i = x from hx.out]
                      omega
                  clear hG hx
                  go_wp2
                  go_roundw
                  case rel => exact ⟨j + 1, by omega, by go_num, hG2, hB⟩
                  case measure => simp [intOf]; omega
            · obtain rfl : j = q := by omega
              have hjq' : ¬ (j : Int) < j := by omega
              have hE3 : Hid (Mc.hmE a b f = 0) := by
                show _ = _
                rw [hE2.out, if_neg]
                rw [Mc.hmB_no fun x hx => by
                  obtain ⟨i, hi, rfl⟩ := M.mem_gz hx
                  exact hG.out i (by rw [← HF.out]; exact hi)]
                simp
              clear hG hB
              go_wp2
              go_ret
              exact ⟨ret_int hE3.out.symm, hbl.out⟩
        · have hlb : ((q : Int) != n) = true := by simp; omega
          have hE2 : Hid (Mc.hmE a b f = 16) := by
            show _ = _
            rw [hE.out, if_neg (fun h => h hi), if_pos (fun h => hl (by rw [← HF.out, ← HN.out, h]))]
          clear hi hl
          go_wp2
          go_ret
          exact ⟨ret_int hE2.out.symm, hbl.out⟩
      · have hib : (a.i != b.i) = true := by simpa using hi
        have hE2 : Hid (Mc.hmE a b f = 5) := by
          show _ = _
          rw [hE.out, if_pos hi]
        clear hi
        go_wp2
        go_ret
        exact ⟨ret_int hE2.out.symm, hbl.out⟩
end Go.Proofs.Ytnodnfailjmpeaa

namespace Go.Proofs.Ytnodnfailjmpeaa
open Go.RowKit
open Mc (Ed Ma)

section
variable (a b : Ma) (i o i' o' : Int) (A B : Option Addr) (n c k d : Nat) (F : Option Addr) (q e : Nat) (f : List Int) (w : World)
set_option maxRecDepth 100000 in
set_option maxHeartbeats 1000000 in
theorem qhom_err (z : Int) (hi : a.i = i) (ho : a.o = o) (hi' : b.i = i') (ho' : b.o = o') (hr : RdR w A a.r) (hq : RdR w B b.r) (hn : a.r.length = n) (hk : b.r.length = k) (hnb : n ≤ 1000000) (hkb : k ≤ 1000000) (hrl : ∀ row ∈ a.r, row.length ≤ 1000000) (hql : ∀ row ∈ b.r, row.length ≤ 1000000)
    (hF : Rd w F f) (hf : f.length = q) (hqb : q ≤ 1000000) (hz : Mc.hmE a b f = z) (hz0 : z ≠ 0) :
    Calls Try.prog 45 #[.agg #[.int .i64 i, .int .i64 o, .slice A n c], .agg #[.int .i64 i', .int .i64 o', .slice B k d], .slice F q e] w fun e w' => e = .returned (.tuple #[.bool false, .int .i64 z]) ∧ Below w.heap.size w w' := by
  subst hi ho hi' ho'
  have h0 : B2 w a b A B n c k d ((boxM w a.i a.o A n c).alloc (.cells #[.int .i64 b.i, .int .i64 b.o, .slice B k d] 24)) :=
    ⟨((Below.refl _ _).alloc (Nat.le_refl _) _).alloc (by simp) _, (BxM.new w _ _ _ _ _).mvB ((Below.refl _ _).alloc (Nat.le_refl _) _), BxM.newE (w := boxM w a.i a.o A n c) (by simp) _ _ _ _ _⟩
  obtain ⟨q0, q1, q2⟩ := h0.ba.cells
  obtain ⟨z0, z1, z2⟩ := h0.bb.cells
  have C := qcheck_any a b A B n c k d F q e f _ (hr.below h0.bel) (hq.below h0.bel) hn hk hnb hkb hrl hql (hF.below h0.bel) hf hqb
  rw [hz] at C
  have hzn : (z != 0) = true := by simpa using hz0
  have hzb : (z == 0) = false := by rw [beq_eq_false_iff_ne]; exact hz0
  have H0 := Lib.hid h0.bel
  clear hr hq hn hk hnb hkb hrl hql hF hf hqb hz h0
  go_enter Try.func45, Try.ntmps45
  go_wp2_with fail
  refine C.mono ?_
  rintro e w1 ⟨rfl, hb1⟩
  have hfin := Lib.hid (below_next H0.out hb1)
  clear C q0 q1 q2 z0 z1 z2 hb1
  go_wp2
  go_ret2
  exact ⟨rfl, hfin.out⟩
set_option maxRecDepth 100000 in
set_option maxHeartbeats 4000000 in
theorem qhom_any (va : Mc.Val a) (vb : Mc.Val b) (hr : RdR w A a.r) (hq : RdR w B b.r) (hn : a.r.length = n) (hk : b.r.length = k) (hF : Rd w F f) (hf : f.length = n) (hii : a.i = b.i) (hfr : ∀ s : Nat, s < n → 0 ≤ M.gz f s ∧ M.gz f s < k) (β : Bool) (hβ : β = true ↔ Mc.HomP a b f) :
    Calls Try.prog 45 #[.agg #[.int .i64 a.i, .int .i64 a.o, .slice A n c], .agg #[.int .i64 b.i, .int .i64 b.o, .slice B k d], .slice F n e] w fun e w' => e = .returned (.tuple #[.bool β, .int .i64 0]) ∧ Below w.heap.size w w' := by
  have h0 : B2 w a b A B n c k d ((boxM w a.i a.o A n c).alloc (.cells #[.int .i64 b.i, .int .i64 b.o, .slice B k d] 24)) :=
    ⟨((Below.refl _ _).alloc (Nat.le_refl _) _).alloc (by simp) _, (BxM.new w _ _ _ _ _).mvB ((Below.refl _ _).alloc (Nat.le_refl _) _), BxM.newE (w := boxM w a.i a.o A n c) (by simp) _ _ _ _ _⟩
  obtain ⟨q0, q1, q2⟩ := h0.ba.cells
  obtain ⟨z0, z1, z2⟩ := h0.bb.cells
  have hn64 : n ≤ 64 := by rw [← hn]; exact va.r1
  have hn1 : 1 ≤ n := by rw [← hn]; exact va.r0
  have C := qcheck_any a b A B n c k d F n e f _ (hr.below h0.bel) (hq.below h0.bel) hn hk (by omega) (by rw [← hk]; have := vb.r1; omega) va.rows vb.rows (hF.below h0.bel) hf (by omega)
  have hz : Mc.hmE a b f = 0 := by
    unfold Mc.hmE
    rw [if_neg (by rw [Mc.chk_of va]; simp), if_neg (by rw [Mc.chk_of vb]; simp), if_neg (fun h => h hii), if_neg (fun h => h (by rw [hf, hn])), if_neg]
    rw [Mc.hmB_no fun x hx => by
      obtain ⟨s, hs, rfl⟩ := M.mem_gz hx
      rw [hk]
      exact hfr s (by omega)]
    simp
  rw [hz] at C
  have H0 := Lib.hid h0
  have HA := Lib.hid va
  have HB := Lib.hid vb
  have HN := Lib.hid hn
  have HK := Lib.hid hk
  have HF := Lib.hid hf
  have HI := Lib.hid hii
  have HR := Lib.hid hfr
  have HBE := Lib.hid hβ
  obtain ⟨ni, hni⟩ : ∃ ni : Nat, a.i = ni := ⟨a.i.toNat, by have := va.i0; omega⟩
  have HNI := Lib.hid hni
  clear va vb hn hk hf hii hfr hβ h0 hz hni
  go_enter Try.func45, Try.ntmps45
  go_wp2_with fail
  refine C.mono ?_
  rintro e1 w1 ⟨rfl, hb1⟩
  have H1 := Lib.hid (H0.out.below hb1)
  clear C q0 q1 q2 z0 z1 z2 hb1 H0
  obtain ⟨bF, oF, u0, rfl, hbF, hcF, hu0⟩ := (hF.below H1.out.bel).at_ (k := 0) (by rw [HF.out]; exact hn1)
  rw [Nat.add_zero] at hcF
  have hn0 : (0 : Int) < n := by omega
  have hbl := Lib.hid H1.out.bel
  have hbF0 : bF < w.heap.size := by
    obtain ⟨b9, o9, e9, h9, _⟩ := hF (by rw [HF.out]; exact hn1)
    injection e9 with e9
    injection e9 with e9 _
    omega
  by_cases hu : u0 = 0
  · subst hu
    obtain ⟨q0, q1, q2⟩ := H1.out.ba.cells
    have HU0 : Hid (M.gz f 0 = 0) := hu0.out
    clear hu0
    go_wp2
    clear q0 q1 q2 hcF hbl
    go_loopw [27] (fun v wr => ∃ s : Nat, s ≤ n ∧ v = .int .i64 s ∧ Hid (∀ s' i : Nat, s' < s → (i : Int) < a.i → Mc.nx b (M.gz f s') i = (Mc.tgt f (Mc.nx a s' i).1, (Mc.nx a s' i).2)) ∧ Hid (B2 w a b A B n c k d wr)) (fun v _ => n - (intOf v).toNat)
    case atStart => exact ⟨0, Nat.zero_le _, rfl, fun s' i h => absurd h (Nat.not_lt_zero _), H1⟩
    case round =>
      obtain ⟨s, hs, rfl, hG, hW⟩ := hrel
      clear H1
      by_cases hsn : s < n
      · have hsn' : (s : Int) < n := by omega
        obtain ⟨q0, q1, q2⟩ := hW.out.ba.cells
        obtain ⟨bA, oA, R, cR, lR, row, hAe, hbA, hcA, _, _, _, hpA, hlA, hqA⟩ := hr.at_ (k := s) (by rw [HN.out]; exact hsn)
        subst hAe
        have hc1 := (hW.out.bel.cell (p := ⟨bA, oA + s, none⟩) hbA).trans hcA
        have hli : lR = ni := by
          have := HA.out.len row (List.mem_of_getElem? hqA.out)
          have := hlA.out
          have := HNI.out
          omega
        subst hli
        obtain ⟨bF2, oF2, u, hFe, hbF2, hcF2, hu2⟩ := hF.at_ (k := s) (by rw [HF.out]; exact hsn)
        injection hFe with hFe
        injection hFe with e1 e2
        subst e1 e2
        have hur := HR.out s hsn
        rw [show M.gz f s = u from hu2.out] at hur
        obtain ⟨t, rfl⟩ := Int.eq_ofNat_of_zero_le hur.1
        have htk : (t : Int) < k := hur.2
        obtain ⟨bB, oB, R2, cR2, lR2, row2, hBe, hbB, hcB, _, _, _, hpB, hlB, hqB⟩ := hq.at_ (k := t) (by rw [HK.out]; omega)
        subst hBe
        have hli2 : lR2 = lR := by
          have := HB.out.len row2 (List.mem_of_getElem? hqB.out)
          have := hlB.out
          have := HNI.out
          have := HI.out
          omega
        subst hli2
        have HUS : Hid (M.gz f s = t) := hu2.out
        have hl16 : lR2 ≤ 16 := by have := HA.out.i1; have := HNI.out; omega
        clear hu2
        go_wp2
        clear q0 q1 q2 hc1
        obtain ⟨wo, rfl⟩ : ∃ wo : World, wo = wr := ⟨_, rfl⟩
        go_loopw [34] (fun v wr => ∃ j : Nat, j ≤ lR2 ∧ v = .int .i64 j ∧ Hid (∀ i : Nat, i < j → Mc.nx b t i = (Mc.tgt f (Mc.nx a s i).1, (Mc.nx a s i).2)) ∧ Hid (B2 w a b (some ⟨bA, oA, none⟩) (some ⟨bB, oB, none⟩) n c k d wr)) (fun v _ => lR2 - (intOf v).toNat)
        case atStart => exact ⟨0, Nat.zero_le _, rfl, fun i h => absurd h (Nat.not_lt_zero _), hW⟩
        case round =>
          clear hW
          obtain ⟨j, hj, rfl, hJ, hW⟩ := hrel
          by_cases hjl : j < lR2
          · have hjl' : (j : Int) < lR2 := by omega
            obtain ⟨b3, off3, ex, ey, rfl, hb3, hx0, hy0, hqe⟩ := hpA.at_ (k := j) (by rw [hlA.out]; exact hjl)
            obtain ⟨b4, off4, gx, gy, rfl, hb4, hgx0, hgy0, hqg⟩ := hpB.at_ (k := j) (by rw [hlB.out]; exact hjl)
            have hnA : Hid (Mc.nx a s j = (ex, ey)) := Mc.nx_at hqA.out hqe.out
            have hnB : Hid (Mc.nx b t j = (gx, gy)) := Mc.nx_at hqB.out hqg.out
            have hok := HA.out.ok row (List.mem_of_getElem? hqA.out) _ (List.mem_of_getElem? hqe.out)
            simp only at hok
            have hexr : ex = -1 ∨ (0 ≤ ex ∧ ex < n) := by rw [HN.out] at hok; omega
            have hx := (hW.out.bel.cell (p := ⟨b3, off3 + j * 2, none⟩) hb3).trans hx0
            have hy := (hW.out.bel.cell (p := ⟨b3, off3 + j * 2 + 1, none⟩) hb3).trans hy0
            have hal : Below wr.heap.size wr (wr.alloc (.cells #[.int .i64 ex, .int .i64 ey] 26)) := (Below.refl _ _).alloc (Nat.le_refl _) _
            have hW2 := hW.out.below hal
            have hbw := hW2.bel
            obtain ⟨z0, z1, z2⟩ := hW2.bb.cells
            obtain ⟨e0, e1, _, _⟩ := (BxE.new wr ex ey).cells
            have hw0 : w.heap.size + 1 < wr.heap.size := heap_lt hW.out.bb
            have f0 : ∀ x : BW (wr.alloc (.cells #[.int .i64 ex, .int .i64 ey] 26)), x.out.cell? ⟨w.heap.size + 1, 2, none⟩ = some (.slice (some ⟨bB, oB, none⟩) k d) := fun x => (x.ok.cell (p := ⟨_, _, none⟩) (by show w.heap.size + 1 < _; simp; omega)).trans z2
            have f1 : ∀ x : BW (wr.alloc (.cells #[.int .i64 ex, .int .i64 ey] 26)), x.out.cell? ⟨bF, oF + s, none⟩ = some (.int .i64 t) := fun x => ((below_next hbw x.ok).cell (p := ⟨bF, oF + s, none⟩) hbF0).trans hcF2
            have f2 : ∀ x : BW (wr.alloc (.cells #[.int .i64 ex, .int .i64 ey] 26)), x.out.cell? ⟨bB, oB + t, none⟩ = some (.slice (some ⟨b4, off4, none⟩) lR2 cR2) := fun x => ((below_next hbw x.ok).cell (p := ⟨bB, oB + t, none⟩) hbB).trans hcB
            have f3 : ∀ x : BW (wr.alloc (.cells #[.int .i64 ex, .int .i64 ey] 26)), x.out.cell? ⟨b4, off4 + j * 2, none⟩ = some (.int .i64 gx) := fun x => ((below_next hbw x.ok).cell (p := ⟨b4, off4 + j * 2, none⟩) hb4).trans hgx0
            have f4 : ∀ x : BW (wr.alloc (.cells #[.int .i64 ex, .int .i64 ey] 26)), x.out.cell? ⟨b4, off4 + j * 2 + 1, none⟩ = some (.int .i64 gy) := fun x => ((below_next hbw x.ok).cell (p := ⟨b4, off4 + j * 2 + 1, none⟩) hb4).trans hgy0
            have f5 : ∀ x : BW (wr.alloc (.cells #[.int .i64 ex, .int .i64 ey] 26)), x.out.cell? ⟨wr.heap.size, 0, none⟩ = some (.int .i64 ex) := fun x => (x.ok.cell (p := ⟨_, _, none⟩) (by show wr.heap.size < _; simp)).trans e0
            have f6 : ∀ x : BW (wr.alloc (.cells #[.int .i64 ex, .int .i64 ey] 26)), x.out.cell? ⟨wr.heap.size, 1, none⟩ = some (.int .i64 ey) := fun x => (x.ok.cell (p := ⟨_, _, none⟩) (by show wr.heap.size < _; simp)).trans e1
            have HCA := Lib.hid (fun (wz : World) (h : Below (wr.alloc (.cells #[.int .i64 ex, .int .i64 ey] 26)).heap.size (wr.alloc (.cells #[.int .i64 ex, .int .i64 ey] 26)) wz) => image_any ex ey (some ⟨bF, oF, none⟩) n e f wz (hF.below (below_next hbw h)) HF.out hexr)
            have HW2 := Lib.hid hW2
            obtain ⟨τ, hτ⟩ : ∃ τ, Mc.tgt f ex = τ := ⟨_, rfl⟩
            rw [hτ] at HCA
            have HT := Lib.hid hτ
            have hns : (s : Int) < n := hsn'
            clear hok hexr hx0 hy0 hgx0 hgy0 hal hbw z0 z1 z2 e0 e1 hτ hW hW2
            by_cases he : gx = τ ∧ gy = ey
            · have hrun : ∀ w, (binOp .neq 26 (.agg #[.int .i64 gx, .int .i64 gy]) (.agg #[.int .i64 τ, .int .i64 ey])).run Try.prog w = .ok (.bool false) w := fun w => by
                rw [run_neq_edge9, he.1, he.2]; simp
              have hJ2 : Hid (∀ i : Nat, i < j + 1 → Mc.nx b t i = (Mc.tgt f (Mc.nx a s i).1, (Mc.nx a s i).2)) := fun i h => by
                rcases Nat.lt_or_ge i j with h3 | h3
                · exact hJ.out i h3
                · obtain rfl : i = j := by omega
                  rw [hnA.out, hnB.out, he.1, he.2, HT.out]
              clear hJ he
              go_wp2_with fail
              refine wp_region_quiet_below (by kernel_rfl) (by kernel_rfl) ?_
              repeat (go_big_quiet_step ((rename_i x; first
                | ((with_reducible refine (HCA.out _ x.ok).mono ?_); rintro e9 w3 ⟨rfl, hb9⟩; exact ⟨rfl, ⟨w3, below_next x.ok hb9⟩, rfl⟩)
                | fail)))
              refine wpQuiet_nil ?_
              intro w11 hw11
              obtain ⟨⟨wx, hbW⟩, hw3⟩ := hw11
              dsimp only at hw3
              subst hw3
              have hW3 := Lib.hid (HW2.out.below hbW)
              have HJL := Lib.hid hjl
              clear f0 f1 f2 f3 f4 f5 f6 hrun
              go_wp2
              go_roundw
              case rel => exact ⟨j + 1, by have := HJL.out; omega, by go_num, hJ2, hW3⟩
              case measure => have := HJL.out; simp [intOf]; omega
            · have hrun : ∀ w, (binOp .neq 26 (.agg #[.int .i64 gx, .int .i64 gy]) (.agg #[.int .i64 τ, .int .i64 ey])).run Try.prog w = .ok (.bool true) w := fun w => by
                rw [run_neq_edge9]
                have : ((gx == τ) && (gy == ey)) = false := by
                  cases h : ((gx == τ) && (gy == ey)) with
                  | false => rfl
                  | true => simp at h; exact absurd h he
                rw [this]; rfl
              have hbf : Hid (β = false) := by
                show _ = _
                rw [← Bool.not_eq_true, HBE.out]
                rintro ⟨_, h1⟩
                have h2 := h1 s j (by rw [HN.out]; exact hsn) (by have := HNI.out; omega)
                rw [HUS.out, hnA.out, hnB.out, HT.out] at h2
                injection h2 with h2 h3
                exact he ⟨h2, h3⟩
              clear hJ he
              go_wp2_with fail
              refine wp_region_quiet_below (by kernel_rfl) (by kernel_rfl) ?_
              repeat (go_big_quiet_step ((rename_i x; first
                | ((with_reducible refine (HCA.out _ x.ok).mono ?_); rintro e9 w3 ⟨rfl, hb9⟩; exact ⟨rfl, ⟨w3, below_next x.ok hb9⟩, rfl⟩)
                | fail)))
              refine wpQuiet_nil ?_
              intro w11 hw11
              obtain ⟨⟨wx, hbW⟩, hw3⟩ := hw11
              dsimp only at hw3
              subst hw3
              have hfin := Lib.hid (HW2.out.below hbW).bel
              clear f0 f1 f2 f3 f4 f5 f6 hrun
              go_wp2
              go_ret2
              exact ⟨by rw [hbf.out]; rfl, hfin.out⟩
          · obtain rfl : j = lR2 := by omega
            have hjl' : ¬ (j : Int) < j := by omega
            have hG2 : Hid (∀ s' i : Nat, s' < s + 1 → (i : Int) < a.i → Mc.nx b (M.gz f s') i = (Mc.tgt f (Mc.nx a s' i).1, (Mc.nx a s' i).2)) := fun s' i h h2 => by
              rcases Nat.lt_or_ge s' s with h3 | h3
              · exact hG.out s' i h3 h2
              · obtain rfl : s' = s := by omega
                rw [HUS.out]
                exact hJ.out i (by have := HNI.out; omega)
            clear hG hJ
            go_wp2
            go_roundw
            case rel => exact ⟨s + 1, by omega, by go_num, hG2, hW⟩
            case measure => simp [intOf]; omega
      · obtain rfl : s = n := by omega
        have hsn' : ¬ (s : Int) < s := by omega
        have hbt : Hid (β = true) := HBE.out.2 ⟨HU0.out, fun s' i h1 h2 => hG.out s' i (by rw [← HN.out]; exact h1) h2⟩
        have hfin := Lib.hid hW.out.bel
        clear hG hW
        go_wp2
        go_ret2
        exact ⟨by rw [hbt.out]; rfl, hfin.out⟩
  · have hun : (u0 != 0) = true := by simpa using hu
    have hbf : Hid (β = false) := by
      show _ = _
      rw [← Bool.not_eq_true, HBE.out]
      rintro ⟨h1, _⟩
      exact hu (hu0.out.symm.trans h1)
    clear hu0 H1
    go_wp2
    go_ret2
    exact ⟨by rw [hbf.out]; rfl, hbl.out⟩
end
end Go.Proofs.Ytnodnfailjmpeaa
