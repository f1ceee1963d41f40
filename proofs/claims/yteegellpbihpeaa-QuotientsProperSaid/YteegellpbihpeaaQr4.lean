/-
  The walk of the law QuotientsProper. No statement is proved here.
-/
import Derived.Test.YteegellpbihpeaaQr0
import Derived.Test.YteegellpbihpeaaWj1
namespace Go.Proofs.Yteegellpbihpeaa
open Go.RowKit
open Mc (Ed Ma)

namespace Mc
/-- The number of classes, and whether two states are in one. -/
theorem cnt_full {p : List Int} : ∀ k, k ≤ p.length → (Go.Proofs.Yteegellpbihpeaa.M.cnt (p.take k) = k ↔ ∀ s t, t < s → s < k → Go.Proofs.Yteegellpbihpeaa.M.gz p s ≠ Go.Proofs.Yteegellpbihpeaa.M.gz p t)
  | 0, _ => ⟨fun _ s t _ h => absurd h (Nat.not_lt_zero _), fun _ => by rw [List.take_zero, Go.Proofs.Yteegellpbihpeaa.M.cnt_nil]⟩
  | k + 1, hk => by
    have ih := cnt_full (p := p) k (by omega)
    have hle := Go.Proofs.Yteegellpbihpeaa.M.cnt_take_le p k
    by_cases h : ∃ t, t < k ∧ Go.Proofs.Yteegellpbihpeaa.M.gz p k = Go.Proofs.Yteegellpbihpeaa.M.gz p t
    · obtain ⟨t, ht, e⟩ := h
      rw [prt_cnt_old (p := p) (s := k) (by omega) ht e]
      constructor
      · intro h2; omega
      · intro h2; exact absurd e (h2 k t ht (by omega))
    · have hn : ∀ t, t < k → Go.Proofs.Yteegellpbihpeaa.M.gz p k ≠ Go.Proofs.Yteegellpbihpeaa.M.gz p t := fun t ht e => h ⟨t, ht, e⟩
      rw [prt_cnt_new (p := p) (s := k) (by omega) hn]
      constructor
      · intro h2 s t h3 h4
        rcases Nat.lt_or_ge s k with h5 | h5
        · exact ih.1 (by omega) s t h3 h5
        · obtain rfl : s = k := by omega
          exact hn t h3
      · intro h2
        have := ih.2 fun s t h3 h4 => h2 s t h3 (by omega)
        omega
/-- One class more, or the same number. -/
theorem cnt_max {p : List Int} (hv : Go.Proofs.Yteegellpbihpeaa.M.Vd p) {k : Nat} (hk : k < p.length) : max ((Go.Proofs.Yteegellpbihpeaa.M.cnt (p.take k) : Nat) : Int) (Go.Proofs.Yteegellpbihpeaa.M.gz p k + 1) = ((Go.Proofs.Yteegellpbihpeaa.M.cnt (p.take (k + 1)) : Nat) : Int) := by
  by_cases h : ∃ t, t < k ∧ Go.Proofs.Yteegellpbihpeaa.M.gz p k = Go.Proofs.Yteegellpbihpeaa.M.gz p t
  · obtain ⟨t, ht, e⟩ := h
    rw [prt_cnt_old hk ht e]
    have h1 := (hv.take k).bound (z := Go.Proofs.Yteegellpbihpeaa.M.gz p t) (by
      rw [← Go.Proofs.Yteegellpbihpeaa.M.gz_take (k := k) ht]
      exact Go.Proofs.Yteegellpbihpeaa.M.gz_mem (by rw [List.length_take]; omega))
    rw [e]
    omega
  · have hn : ∀ t, t < k → Go.Proofs.Yteegellpbihpeaa.M.gz p k ≠ Go.Proofs.Yteegellpbihpeaa.M.gz p t := fun t ht e => h ⟨t, ht, e⟩
    rw [prt_cnt_new hk hn, prt_new hv hk hn]
    omega
/-- Minimal: connected, and as many classes as states. -/
theorem min_cnt {m : Ma} (v : Val m) {n : Nat} (hn : m.r.length = n) : decide ((qn m).r.length = n) = (conn m && decide (Go.Proofs.Yteegellpbihpeaa.M.cnt (cls m) = n)) := by
  subst hn
  by_cases hc : conn m = true
  · rw [hc, Bool.true_and]
    refine decide_eq_decide.2 ?_
    have h1 := cnt_full (p := cls m) m.r.length (by rw [cls_len]; exact Nat.le_refl _)
    rw [List.take_of_length_le (by rw [cls_len]; exact Nat.le_refl _)] at h1
    rw [min_len v hc, h1]
    constructor
    · intro h s t h2 h3 e
      have := h s t h3 (by omega) e
      omega
    · intro h s t hs ht e
      rcases Nat.lt_trichotomy s t with h3 | h3 | h3
      · exact absurd e.symm (h t s h3 ht)
      · exact h3
      · exact absurd e (h s t h3 hs)
  · have : decide ((qn m).r.length = m.r.length) = false := decide_eq_false fun h => hc (min_conn v h)
    rw [this]
    cases h : conn m with
    | false => rfl
    | true => exact absurd h hc
end Mc
set_option maxRecDepth 100000 in
set_option maxHeartbeats 8000000 in
theorem lawQPrp_walk (a b d : Int) (p : Bool) (A : Option Addr) (c : Nat) (es : List Int) (a' b' d' : Int) (T : Option Addr) (tc : Nat) (ts : List Int) (A' : Option Addr) (c' : Nat) (es' : List Int) (w : World)
    (hr : Rd16 w A es) (hr8 : Rd8 w T ts) (hr' : Rd16 w A' es') (hl : es.length ≤ 9223372036854775807) (htl : ts.length ≤ 9223372036854775807)
    (ha : 0 ≤ a ∧ a ≤ 255) (hb : 0 ≤ b ∧ b ≤ 255) (hd : 0 ≤ d ∧ d ≤ 255) (ha' : 0 ≤ a' ∧ a' ≤ 255) (hb' : 0 ≤ b' ∧ b' ≤ 255) (hd' : 0 ≤ d' ∧ d' ≤ 255) :
    Calls Try.prog 6 #[.agg #[.int .u8 a, .int .u8 b, .int .u8 d, .bool p, .slice A es.length c], .agg #[.int .u8 a', .int .u8 b', .int .u8 d', .slice T ts.length tc, .slice A' es'.length c']] w fun e w' => e = .returned (.bool true) ∧ Below w.heap.size w w' := by
  obtain ⟨n, hn⟩ : ∃ n : Nat, 1 + a % 6 = n := ⟨(1 + a % 6).toNat, by omega⟩
  obtain ⟨i, hi⟩ : ∃ i : Nat, 1 + b % 3 = i := ⟨(1 + b % 3).toNat, by omega⟩
  obtain ⟨o, ho⟩ : ∃ o : Nat, 1 + d % 3 = o := ⟨(1 + d % 3).toNat, by omega⟩
  obtain ⟨n', hn'⟩ : ∃ n' : Nat, 1 + a' % 6 = n' := ⟨(1 + a' % 6).toNat, by omega⟩
  obtain ⟨i', hi'⟩ : ∃ i' : Nat, 1 + b' % 3 = i' := ⟨(1 + b' % 3).toNat, by omega⟩
  obtain ⟨o', ho'⟩ : ∃ o' : Nat, 1 + d' % 3 = o' := ⟨(1 + d' % 3).toNat, by omega⟩
  have CM := fun w hr => mofB_at a b d p A c es n i o w hr hl ha hb hd hn hi ho
  have CN := fun w hr8 hr => cof_own a' b' d' T tc ts A' c' es' n' i' o' w hr8 hr htl ha' hb' hd' hn' hi' ho'
  have hn6 : n ≤ 6 := by omega
  have hn1 : 1 ≤ n := by omega
  have hn6' : n' ≤ 6 := by omega
  have V := Lib.hid (Mc.mkN_val (p := p) (n := n) (i := i) (o := o) (es := es) (by omega) (by omega) (by omega) (by omega) (by omega) (by omega))
  have hlen : Hid ((Mc.mkN p n i o es).r.length = n) := Mc.mkN_len _ _ _ _ _
  have hmi : Hid ((Mc.mkN p n i o es).i = i) := rfl
  have hmo : Hid ((Mc.mkN p n i o es).o = o) := rfl
  obtain ⟨M, hM⟩ : ∃ M, Mc.mkN p n i o es = M := ⟨_, rfl⟩
  rw [hM] at V hlen hmi hmo
  simp only [hM] at CM
  clear hM ha hb hd hn hi ho hl ha' hb' hd' hn' hi' ho' htl
  have HR := Lib.hid hr
  have HR8 := Lib.hid hr8
  have HR' := Lib.hid hr'
  obtain ⟨E1, hE1⟩ : ∃ E, es.length = E := ⟨_, rfl⟩
  obtain ⟨E2, hE2⟩ : ∃ E, es'.length = E := ⟨_, rfl⟩
  obtain ⟨F1, hF1⟩ : ∃ E, ts.length = E := ⟨_, rfl⟩
  simp only [hE1] at CM
  simp only [hE2, hF1] at CN
  rw [hE1, hE2, hF1]
  clear hr hr' hr8 hE1 hE2 hF1
  obtain ⟨K0, hK0⟩ : ∃ K0, w.heap.size = K0 := ⟨_, rfl⟩
  have s0 : MT w w [] := MT.start
  have s1 := MT.putK (P := fun w => w.heap[K0]? = some (.cells #[.int .u8 a, .int .u8 b, .int .u8 d, .bool p, .slice A E1 c] 24)) (MT.alloc s0 (.cells #[.int .u8 a, .int .u8 b, .int .u8 d, .bool p, .slice A E1 c] 24))
    (by
      have h := heap_alloc_new w (.cells #[.int .u8 a, .int .u8 b, .int .u8 d, .bool p, .slice A E1 c] 24)
      rw [hK0] at h
      exact h) (fun _ _ h hb => (hb.block _ (heap_lt h)).trans h)
  have s2 := MT.putK (P := fun w => w.heap[K0 + 1]? = some (.cells #[.int .u8 a', .int .u8 b', .int .u8 d', .slice T F1 tc, .slice A' E2 c'] 58)) (MT.alloc s1 (.cells #[.int .u8 a', .int .u8 b', .int .u8 d', .slice T F1 tc, .slice A' E2 c'] 58))
    (by
      have h := heap_alloc_new (w.alloc (.cells #[.int .u8 a, .int .u8 b, .int .u8 d, .bool p, .slice A E1 c] 24)) (.cells #[.int .u8 a', .int .u8 b', .int .u8 d', .slice T F1 tc, .slice A' E2 c'] 58)
      rw [show (w.alloc (.cells #[.int .u8 a, .int .u8 b, .int .u8 d, .bool p, .slice A E1 c] 24)).heap.size = w.heap.size + 1 by simp, hK0] at h
      exact h) (fun _ _ h hb => (hb.block _ (heap_lt h)).trans h)
  clear s0 s1
  go_enter Try.func6, Try.ntmps6
  go_upto_region 1 with fail
  obtain ⟨w1, hW0⟩ : ∃ W0, (w.alloc (.cells #[.int .u8 a, .int .u8 b, .int .u8 d, .bool p, .slice A E1 c] 24)).alloc (.cells #[.int .u8 a', .int .u8 b', .int .u8 d', .slice T F1 tc, .slice A' E2 c'] 58) = W0 := ⟨_, rfl⟩
  rw [hW0] at s2
  try rw [hW0]
  try rw [hK0]
  clear hW0 hK0
  have hw01 := s2.2.1
  have hoA : w1.heap[K0]? = some (.cells #[.int .u8 a, .int .u8 b, .int .u8 d, .bool p, .slice A E1 c] 24) := MK.get s2 1 rfl
  have hoB : w1.heap[K0 + 1]? = some (.cells #[.int .u8 a', .int .u8 b', .int .u8 d', .slice T F1 tc, .slice A' E2 c'] 58) := MK.get s2 0 rfl
  have hKS : ∀ W : World, Below w1.heap.size w1 W → (W.cell? ⟨K0, 0, none⟩ = some (.int .u8 a) ∧ W.cell? ⟨K0, 1, none⟩ = some (.int .u8 b) ∧ W.cell? ⟨K0, 2, none⟩ = some (.int .u8 d) ∧ W.cell? ⟨K0, 3, none⟩ = some (.bool p) ∧ W.cell? ⟨K0, 4, none⟩ = some (.slice A E1 c) ∧
      W.cell? ⟨K0 + 1, 0, none⟩ = some (.int .u8 a') ∧ W.cell? ⟨K0 + 1, 1, none⟩ = some (.int .u8 b') ∧ W.cell? ⟨K0 + 1, 2, none⟩ = some (.int .u8 d') ∧ W.cell? ⟨K0 + 1, 3, none⟩ = some (.slice T F1 tc) ∧ W.cell? ⟨K0 + 1, 4, none⟩ = some (.slice A' E2 c')) := fun W hW => by
    have h1 := (hW.block _ (heap_lt hoA)).trans hoA
    have h2 := (hW.block _ (heap_lt hoB)).trans hoB
    refine ⟨?_, ?_, ?_, ?_, ?_, ?_, ?_, ?_, ?_, ?_⟩
    all_goals
      first
        | (rw [cell_of_row _ _ _ _ _ _ h1]; rfl)
        | (rw [cell_of_row _ _ _ _ _ _ h2]; rfl)
  clear hoA hoB
  have HKS := Lib.hid hKS
  clear hKS
  go_cut [5, 6] from 12 to 15 (fun u v wx => ∃ (N : Ma) (G H : Nat) (R S : Option Addr) (c1 c2 : Nat), u = .pointer (some ⟨G, 0, none⟩) ∧ v = .pointer (some ⟨H, 0, none⟩) ∧ Hid (Mc.Cm n' i' o' N) ∧ Hid (SmR w1 M N G H R S n n' c1 c2 i o i' o' wx))
  case first =>
    go_region_held3 (fun W => W.cell? ⟨K0, 0, none⟩ = some (.int .u8 a) ∧ W.cell? ⟨K0, 1, none⟩ = some (.int .u8 b) ∧ W.cell? ⟨K0, 2, none⟩ = some (.int .u8 d) ∧ W.cell? ⟨K0, 3, none⟩ = some (.bool p) ∧ W.cell? ⟨K0, 4, none⟩ = some (.slice A E1 c) ∧
      W.cell? ⟨K0 + 1, 0, none⟩ = some (.int .u8 a') ∧ W.cell? ⟨K0 + 1, 1, none⟩ = some (.int .u8 b') ∧ W.cell? ⟨K0 + 1, 2, none⟩ = some (.int .u8 d') ∧ W.cell? ⟨K0 + 1, 3, none⟩ = some (.slice T F1 tc) ∧ W.cell? ⟨K0 + 1, 4, none⟩ = some (.slice A' E2 c'))
      ((refine HKS.out _ ?_; repeat (with_reducible (first | refine bS ?_ (by omega) _ | refine bA ?_ _ | refine bD ?_ | exact Below.refl _ _ | refine below_next ?_ (by assumption)))))
      (first
        | (go_at_call 11
           (with_reducible refine (CM _ (HR.out.below (below_next hw01 (by repeat (with_reducible (first | refine bA ?_ _ | refine bD ?_ | exact Below.refl _ _ | refine below_next ?_ (by assumption))))))).mono ?_)
           rintro e wA ⟨R, c1, vsR, rfl, hBR, hbA⟩
           have zA := hbA.size
           try simp at zA
           try (with_reducible have bA0 := BxM.toD (BxM.new1 w1) hbA)
           try (with_reducible have bA0 := BxM.toD ((BxM.new1 w1).al zM) hbA)
           try (with_reducible have bA1 := BxM.toD (BxM.new2 w1 zM) hbA)
           try obtain ⟨⟨x00, x01, x02⟩, ⟨x03, x04, x05⟩, x06⟩ := bA0.all
           try obtain ⟨⟨x10, x11, x12⟩, ⟨x13, x14, x15⟩, x16⟩ := bA1.all
           dsimp only)
        | (go_at_call 26
           (with_reducible refine (CN _ (HR8.out.below (below_next hw01 (by repeat (with_reducible (first | refine bA ?_ _ | refine bD ?_ | exact Below.refl _ _ | refine below_next ?_ (by assumption)))))) (HR'.out.below (below_next hw01 (by repeat (with_reducible (first | refine bA ?_ _ | refine bD ?_ | exact Below.refl _ _ | refine below_next ?_ (by assumption))))))).mono ?_)
           rintro e wB ⟨N, S, c2, vsS, rfl, hCm, hBS, hbB⟩
           have zB := hbB.size
           try simp at zB
           try (with_reducible have bB0 := BxM.to bA0 hbB)
           try (with_reducible have bB0 := BxM.to (bA0.al zM) hbB)
           try (with_reducible have bB1 := BxM.to bA1 hbB)
           try (with_reducible have bB2 := BxM.to (BxM.new1 wA) hbB)
           try (with_reducible have bB2 := BxM.to ((BxM.new1 wA).al zM) hbB)
           try (with_reducible have bB3 := BxM.to (BxM.new2 wA zM) hbB)
           try obtain ⟨⟨y00, y01, y02⟩, ⟨y03, y04, y05⟩, y06⟩ := bB0.all
           try obtain ⟨⟨y10, y11, y12⟩, ⟨y13, y14, y15⟩, y16⟩ := bB1.all
           try obtain ⟨⟨y20, y21, y22⟩, ⟨y23, y24, y25⟩, y26⟩ := bB2.all
           try obtain ⟨⟨y30, y31, y32⟩, ⟨y33, y34, y35⟩, y36⟩ := bB3.all
           dsimp only)
        | fail)
    all_goals
      go_wp2_with fail
      go_meet
      refine ⟨N, _, _, R, S, c1, c2, rfl, rfl, hCm, ?_⟩
      refine ⟨by omega, ?_, ?_, ?_, ?_, ?_⟩
      · repeat (with_reducible (first | exact BxM.new _ _ _ _ _ _ | exact BxM.newS _ _ _ _ _ _ _ _ _ _ | exact BxM.newB2 _ _ _ _ _ _ _ | exact BxM.set3 (by first | assumption | exact BxM.al (by assumption) _) | refine BxM.far3 ?_ (by omega) _ _ _ | refine BxM.al ?_ _))
      · repeat (with_reducible (first | exact BxM.new _ _ _ _ _ _ | exact BxM.newS _ _ _ _ _ _ _ _ _ _ | exact BxM.newB2 _ _ _ _ _ _ _ | exact BxM.set3 (by first | assumption | exact BxM.al (by assumption) _) | exact BxM.set3 (BxM.far3 (by assumption) (by omega) _ _ _) | refine BxM.far3 ?_ (by omega) _ _ _ | refine BxM.al ?_ _))
      · refine Bld.two (Bld.mid hBR.out ?_)
        repeat (with_reducible (first | refine Mid.set3 ?_ (by first | (simp; omega) | simp | omega) _ _ _ | refine Mid.alloc ?_ _ | exact Mid.refl _ _ | refine Mid.next ?_ hbB))
      · refine Bld.two (Bld.mid hBS.out ?_)
        repeat (with_reducible (first | refine Mid.set3 ?_ (by first | (simp; omega) | simp | omega) _ _ _ | refine Mid.alloc ?_ _ | exact Mid.refl _ _))
      · repeat (with_reducible (first | refine bS ?_ (by omega) _ | refine bA ?_ _ | refine bD ?_ | exact Below.refl _ _ | refine below_next ?_ (by assumption)))
  case rest =>
  obtain ⟨N, G, H, R, S, c1, c2, rfl, rfl, hCm, hS⟩ := hcut
  obtain ⟨w2, hw2⟩ : ∃ q, q = wc := ⟨_, rfl⟩
  rw [← hw2] at hS ⊢
  clear hw2
  have s3 := MK.putB (MK.putB (MK.putR (MK.putR (MT.next s2 hS.out.bel) hS.out.rb) hS.out.ra) hS.out.bh) hS.out.bg
  clear hw01 HKS CM CN HR HR' HR8 s2 hS
  have hcl : Hid ((Mc.cls M).length = n) := by show _ = _; rw [Mc.cls_len, hlen.out]
  have hcv : Hid (Go.Proofs.Yteegellpbihpeaa.M.Vd (Mc.cls M)) := Mc.cls_vd M
  obtain ⟨β, hβ⟩ : ∃ β, decide ((Mc.qn M).r.length = n) = β := ⟨_, rfl⟩
  obtain ⟨γ, hγ⟩ : ∃ γ, Mc.conn M = γ := ⟨_, rfl⟩
  have hβγ : Hid (β = (γ && decide (Go.Proofs.Yteegellpbihpeaa.M.cnt (Mc.cls M) = n))) := by show _ = _; rw [← hβ, ← hγ]; exact Mc.min_cnt V.out hlen.out
  obtain ⟨Q, hQ⟩ : ∃ Q, Mc.cls M = Q := ⟨_, rfl⟩
  rw [hQ] at hcl hcv hβγ
  have C1 := rclasses_any M i o R n c1 w2 V.out hmi.out hlen.out (MK.get s3 2 rfl)
  rw [hQ] at C1
  have C2 := fun w hr => qis_at M i o R n c1 w β V.out hmi.out hmo.out hlen.out hβ hr
  have C3 := fun w hr => conn9_at M i o R n c1 w γ V.out hmi.out hmo.out hlen.out hr hγ
  obtain ⟨pa, hpa⟩ : ∃ q, Mc.prp M = q := ⟨_, rfl⟩
  obtain ⟨pb, hpb⟩ : ∃ q, Mc.prp N = q := ⟨_, rfl⟩
  have D1 := fun w hr => qproper_at M i o R n c1 w pa V.out hmi.out hmo.out hlen.out hpa hr
  have D2 := fun w hr => rproper_any M R c1 w i o n pa V.out hmi.out hmo.out hlen.out (by rw [← Mc.prp_prR V.out]; exact hpa) hr
  have VN := hCm.out.val
  have D3 := fun w hr => qproper_at N i' o' S n' c2 w pb VN hCm.out.inp hCm.out.out hCm.out.len hpb hr
  have D4 := fun w hr => rproper_any N S c2 w i' o' n' pb VN hCm.out.inp hCm.out.out hCm.out.len (by rw [← Mc.prp_prR VN]; exact hpb) hr
  have hpb9 : pb ≠ 9 ∧ pb ≠ 11 := by
    rw [← hpb]
    unfold Mc.prp
    have e1 : Mc.cmpV N = true := by
      unfold Mc.cmpV
      rw [Mc.chk_of VN, if_pos rfl, hCm.out.all, hCm.out.len, hCm.out.inp]
      simp
    have e2 : Mc.conV N = true := by unfold Mc.conV; rw [Mc.chk_of VN, hCm.out.con]; rfl
    rw [e1, if_neg (by simp), e2, if_neg (by simp)]
    split <;> omega
  have DD := Lib.hid (And.intro D1 (And.intro D2 (And.intro D3 D4)))
  have CC2 := Lib.hid C2
  have CC3 := Lib.hid C3
  clear C2 C3 D1 D2 D3 D4 VN hβ hγ hpa hpb hCm hQ
  obtain ⟨m0, m1, m2⟩ := BxM.cells (MK.get s3 0 rfl)
  go_wp2_with fail
  clear m0 m1 m2
  refine C1.mono ?_
  rintro e w3 ⟨X, qx, rfl, hx, hbl⟩
  have s4 := MK.putL (MT.next s3 hbl) hx
  clear s3 C1 hx hbl
  go_wp2_with fail
  have S4 := Lib.hid s4
  clear s4
  go_loopw [8, 9] (fun u v wr => ∃ k z : Nat, k ≤ n ∧ v = .int .i64 k ∧ u = .int .i64 z ∧ Hid (Go.Proofs.Yteegellpbihpeaa.M.cnt (Q.take k) = z) ∧ Hid (Below w3.heap.size w3 wr)) (fun _ v _ => n - (intOf v).toNat)
  case atStart => exact ⟨0, 0, Nat.zero_le _, rfl, rfl, by show _ = _; rw [List.take_zero, Go.Proofs.Yteegellpbihpeaa.M.cnt_nil], Below.refl _ _⟩
  case round =>
    obtain ⟨k, z, hk, rfl, rfl, hz, hbk⟩ := hrel
    have sI := MT.next S4.out hbk.out
    by_cases hkn : k < n
    · have hkn' : (k : Int) < n := by omega
      obtain ⟨b1, o1, u, hXe, hb1, hc1, hu⟩ := Rd.at_ (show Rd wr X Q from MK.get sI 0 rfl) (k := k) (by rw [hcl.out]; exact hkn)
      subst hXe
      obtain ⟨z2, hz2⟩ : ∃ z2, Go.Proofs.Yteegellpbihpeaa.M.cnt (Q.take (k + 1)) = z2 := ⟨_, rfl⟩
      have hmax : max (z : Int) (u + 1) = z2 := by
        rw [← hz2, ← Mc.cnt_max hcv.out (by rw [hcl.out]; exact hkn), hz.out, show Go.Proofs.Yteegellpbihpeaa.M.gz Q k = u from hu.out]
      have hub := hcv.out.bound (z := u) (by rw [← hu.out]; exact Go.Proofs.Yteegellpbihpeaa.M.gz_mem (by rw [hcl.out]; exact hkn))
      have hcn := Go.Proofs.Yteegellpbihpeaa.M.cnt_le Q
      have hcl2 := hcl.out
      have huw : IntKind.i64.wrap (u + 1) = u + 1 := IntWalk.i64_in _ (by omega)
      have HZ2 := Lib.hid hz2
      clear hu hz hub hcn hcl2 hz2 sI
      go_wp2_with fail
      go_roundw
      case rel => exact ⟨k + 1, z2, by omega, by go_num, rfl, HZ2, hbk⟩
      case measure => simp [intOf]; omega
    · have hkn2 : n = k := by omega
      subst hkn2
      have hkn' : ¬ (n : Int) < n := by omega
      have hzc : Hid (Go.Proofs.Yteegellpbihpeaa.M.cnt Q = z) := by
        have := hz.out
        rw [List.take_of_length_le (by rw [hcl.out]; exact Nat.le_refl _)] at this
        exact this
      obtain ⟨m0, m1, m2⟩ := BxM.cells (MK.get sI 1 rfl)
      clear S4 hz hbk
      go_wp2_with fail
      clear m0 m1 m2
      refine (CC2.out _ (MK.get sI 3 rfl)).mono ?_
      rintro e w5 ⟨rfl, hbl⟩
      have s6 := MT.next sI hbl
      clear sI hbl
      obtain ⟨m0, m1, m2⟩ := BxM.cells (MK.get s6 1 rfl)
      obtain ⟨m3, m4, m5⟩ := BxM.cells (MK.get s6 2 rfl)
      have lG : G < w5.heap.size := heap_lt (show BxM w5 G i o R n c1 from MK.get s6 1 rfl)
      have lH : H < w5.heap.size := heap_lt (show BxM w5 H i' o' S n' c2 from MK.get s6 2 rfl)
      have rR : RdR w5 R M.r := MK.get s6 3 rfl
      have rS : RdR w5 S N.r := MK.get s6 4 rfl
      have f0 : ∀ x : BW w5, x.out.cell? ⟨G, 0, none⟩ = some (.int .i64 i) := fun x => (x.ok.cell (p := ⟨_, _, none⟩) lG).trans m0
      have f1 : ∀ x : BW w5, x.out.cell? ⟨G, 1, none⟩ = some (.int .i64 o) := fun x => (x.ok.cell (p := ⟨_, _, none⟩) lG).trans m1
      have f2 : ∀ x : BW w5, x.out.cell? ⟨G, 2, none⟩ = some (.slice R n c1) := fun x => (x.ok.cell (p := ⟨_, _, none⟩) lG).trans m2
      have f3 : ∀ x : BW w5, x.out.cell? ⟨H, 0, none⟩ = some (.int .i64 i') := fun x => (x.ok.cell (p := ⟨_, _, none⟩) lH).trans m3
      have f4 : ∀ x : BW w5, x.out.cell? ⟨H, 1, none⟩ = some (.int .i64 o') := fun x => (x.ok.cell (p := ⟨_, _, none⟩) lH).trans m4
      have f5 : ∀ x : BW w5, x.out.cell? ⟨H, 2, none⟩ = some (.slice S n' c2) := fun x => (x.ok.cell (p := ⟨_, _, none⟩) lH).trans m5
      have E1 := Lib.hid (fun x (h : Below w5.heap.size w5 x) => DD.out.1 x (rR.below h))
      have E2 := Lib.hid (fun x (h : Below w5.heap.size w5 x) => DD.out.2.1 x (rR.below h))
      have E3 := Lib.hid (fun x (h : Below w5.heap.size w5 x) => DD.out.2.2.1 x (rS.below h))
      have E4 := Lib.hid (fun x (h : Below w5.heap.size w5 x) => DD.out.2.2.2 x (rS.below h))
      have E5 := Lib.hid (fun x (h : Below w5.heap.size w5 x) => CC3.out x (rR.below h))
      have E6 := Lib.hid (fun x => qlives_walk x)
      have p1 : (pa == pa) = true := by simp
      have p2 : (pb == pb) = true := by simp
      have p3 : (pb != 9) = true := by simpa using hpb9.1
      have p4 : (pb != 11) = true := by simpa using hpb9.2
      have hF := Lib.hid s6.2.1
      clear m0 m1 m2 m3 m4 m5 lG lH rR rS s6 DD CC2 CC3
      cases γ with
      | true =>
        have hd : ((z : Int) == n) = β := by
          rw [hβγ.out, Bool.true_and, hzc.out]
          by_cases h : z = n
          · rw [h]; simp
          · rw [decide_eq_false h, beq_eq_false_iff_ne]; omega
        have hbb : (β == β) = true := by simp
        go_wp2_with fail
        refine wp_region_quiet_below (by kernel_rfl) (by kernel_rfl) ?_
        repeat (go_big_quiet_step ((rename_i x; first
          | ((with_reducible refine (E1.out _ x.ok).mono ?_); rintro e9 w9 ⟨rfl, hb9⟩; exact ⟨rfl, ⟨w9, below_next x.ok hb9⟩, rfl⟩)
          | ((with_reducible refine (E2.out _ x.ok).mono ?_); rintro e9 w9 ⟨rfl, hb9⟩; exact ⟨rfl, ⟨w9, below_next x.ok hb9⟩, rfl⟩)
          | ((with_reducible refine (E3.out _ x.ok).mono ?_); rintro e9 w9 ⟨rfl, hb9⟩; exact ⟨rfl, ⟨w9, below_next x.ok hb9⟩, rfl⟩)
          | ((with_reducible refine (E4.out _ x.ok).mono ?_); rintro e9 w9 ⟨rfl, hb9⟩; exact ⟨rfl, ⟨w9, below_next x.ok hb9⟩, rfl⟩)
          | ((with_reducible refine (E5.out _ x.ok).mono ?_); rintro e9 w9 ⟨rfl, hb9⟩; exact ⟨rfl, ⟨w9, below_next x.ok hb9⟩, rfl⟩)
          | ((with_reducible refine (E6.out _).mono ?_); rintro e9 w9 ⟨rfl, hb9⟩; exact ⟨rfl, ⟨w9, below_next x.ok hb9⟩, rfl⟩)
          | fail)))
        refine wpQuiet_nil ?_
        intro w11 hw11
        obtain ⟨⟨wx, hbW⟩, hw3⟩ := hw11
        dsimp only at hw3
        subst hw3
        have hfin := Lib.hid (below_next hF.out hbW)
        clear f0 f1 f2 f3 f4 f5 hbW
        go_wp2_with fail
        go_ret
        exact ⟨rfl, hfin.out⟩
      | false =>
        have hb0 : β = false := by rw [hβγ.out]; rfl
        subst hb0
        go_wp2_with fail
        refine wp_region_quiet_below (by kernel_rfl) (by kernel_rfl) ?_
        repeat (go_big_quiet_step ((rename_i x; first
          | ((with_reducible refine (E1.out _ x.ok).mono ?_); rintro e9 w9 ⟨rfl, hb9⟩; exact ⟨rfl, ⟨w9, below_next x.ok hb9⟩, rfl⟩)
          | ((with_reducible refine (E2.out _ x.ok).mono ?_); rintro e9 w9 ⟨rfl, hb9⟩; exact ⟨rfl, ⟨w9, below_next x.ok hb9⟩, rfl⟩)
          | ((with_reducible refine (E3.out _ x.ok).mono ?_); rintro e9 w9 ⟨rfl, hb9⟩; exact ⟨rfl, ⟨w9, below_next x.ok hb9⟩, rfl⟩)
          | ((with_reducible refine (E4.out _ x.ok).mono ?_); rintro e9 w9 ⟨rfl, hb9⟩; exact ⟨rfl, ⟨w9, below_next x.ok hb9⟩, rfl⟩)
          | ((with_reducible refine (E5.out _ x.ok).mono ?_); rintro e9 w9 ⟨rfl, hb9⟩; exact ⟨rfl, ⟨w9, below_next x.ok hb9⟩, rfl⟩)
          | ((with_reducible refine (E6.out _).mono ?_); rintro e9 w9 ⟨rfl, hb9⟩; exact ⟨rfl, ⟨w9, below_next x.ok hb9⟩, rfl⟩)
          | fail)))
        refine wpQuiet_nil ?_
        intro w11 hw11
        obtain ⟨⟨wx, hbW⟩, hw3⟩ := hw11
        dsimp only at hw3
        subst hw3
        have hfin := Lib.hid (below_next hF.out hbW)
        clear f0 f1 f2 f3 f4 f5 hbW
        go_wp2_with fail
        go_ret
        exact ⟨rfl, hfin.out⟩
end Go.Proofs.Yteegellpbihpeaa
