/-
  The walk of the law QuotientsHomomorphic. No statement is proved here.
-/
import Derived.Test.YteegellpbihpeaaQr0
import Derived.Test.YteegellpbihpeaaWh0
namespace Go.Proofs.Yteegellpbihpeaa
open Go.RowKit
open Mc (Ed Ma)

namespace Mc
theorem hmE_zero {a b : Ma} (va : Val a) (vb : Val b) {f : List Int} (h : hmE a b f = 0) : a.i = b.i ∧ f.length = a.r.length ∧ hmB b.r.length f = false := by
  unfold hmE at h
  rw [if_neg (by rw [chk_of va]; simp), if_neg (by rw [chk_of vb]; simp)] at h
  by_cases h1 : a.i = b.i
  · rw [if_neg (fun h2 => h2 h1)] at h
    by_cases h2 : f.length = a.r.length
    · rw [if_neg (fun h3 => h3 h2)] at h
      cases h3 : hmB b.r.length f with
      | false => exact ⟨h1, h2, rfl⟩
      | true => rw [h3, if_pos rfl] at h; cases h
    · rw [if_pos h2] at h; cases h
  · rw [if_pos h1] at h; cases h
theorem hmE_val {a b : Ma} (va : Val a) (vb : Val b) (f : List Int) : hmE a b f = if a.i ≠ b.i then 5 else if f.length ≠ a.r.length then 16 else if hmB b.r.length f = true then 1 else 0 := by
  unfold hmE
  rw [if_neg (by rw [chk_of va]; simp), if_neg (by rw [chk_of vb]; simp)]
/-- What is wanted, as far as it is known. -/
def Wnt (f : List Int) (E : Int) (k : Nat) (P : Prop) (s : Nat) (z : Int) : Prop := (z ≠ 0 ∧ z = E) ∨ (z = 0 ∧ P ∧ ∀ i : Nat, i < s → 0 ≤ Go.Proofs.Yteegellpbihpeaa.M.gz f i ∧ Go.Proofs.Yteegellpbihpeaa.M.gz f i < k)
end Mc
theorem qhom_full (a b : Ma) (i o i' o' : Nat) (A B : Option Addr) (n c k d : Nat) (F : Option Addr) (q e : Nat) (f : List Int) (w : World) (z : Int) (β : Bool) (va : Mc.Val a) (vb : Mc.Val b) (hi : a.i = i) (ho : a.o = o) (hi' : b.i = i') (ho' : b.o = o') (hr : RdR w A a.r) (hq : RdR w B b.r) (hn : a.r.length = n) (hk : b.r.length = k)
    (hF : Rd w F f) (hf : f.length = q) (hqb : q ≤ 1000000) (hz : Mc.hmE a b f = z) (h0 : z ≠ 0 → β = false) (h1 : z = 0 → (β = true ↔ Mc.Hom a b f)) :
    Calls Try.prog 23 #[.agg #[.int .i64 i, .int .i64 o, .slice A n c], .agg #[.int .i64 i', .int .i64 o', .slice B k d], .slice F q e] w fun e w' => e = .returned (.tuple #[.bool β, .int .i64 z]) ∧ Below w.heap.size w w' := by
  by_cases hz0 : z = 0
  · obtain ⟨g1, g2, g3⟩ := Mc.hmE_zero va vb (hz.trans hz0)
    have g4 := Mc.hmB_all g3
    rw [hk] at g4
    have hqn : q = n := by rw [← hf, ← hn]; exact g2
    have hii : i' = i := by rw [hi, hi'] at g1; omega
    subst hqn hii
    rw [hz0]
    exact qhom_to a b i' o o' A B q c k d F e f w β va vb hi ho hi' ho' hr hq hn hk hF hf (fun s hs => g4 _ (M.gz_mem (by rw [hf]; exact hs))) (h1 hz0)
  · rw [h0 hz0]
    have v1 := va.r1
    have v2 := vb.r1
    exact qhom_err a b i o i' o' A B n c k d F q e f w z hi ho hi' ho' hr hq hn hk (by omega) (by omega) va.rows vb.rows hF hf hqb hz hz0
set_option maxRecDepth 100000 in
set_option maxHeartbeats 8000000 in
theorem lawQHom_walk (a b d : Int) (p : Bool) (A : Option Addr) (c : Nat) (es : List Int) (a' b' d' : Int) (p' : Bool) (A' : Option Addr) (c' : Nat) (es' : List Int) (F : Option Addr) (e0 : Nat) (f : List Int) (B1 : Option Addr) (e1 : Nat) (ws : List Int) (w : World)
    (hr : Rd16 w A es) (hr' : Rd16 w A' es') (hF : Rd w F f) (hr8 : Rd8 w B1 ws) (hl : es.length ≤ 9223372036854775807) (hl' : es'.length ≤ 9223372036854775807) (hlw : ws.length ≤ 9223372036854775807)
    (ha : 0 ≤ a ∧ a ≤ 255) (hb : 0 ≤ b ∧ b ≤ 255) (hd : 0 ≤ d ∧ d ≤ 255) (ha' : 0 ≤ a' ∧ a' ≤ 255) (hb' : 0 ≤ b' ∧ b' ≤ 255) (hd' : 0 ≤ d' ∧ d' ≤ 255) :
    Calls Try.prog 7 #[.agg #[.int .u8 a, .int .u8 b, .int .u8 d, .bool p, .slice A es.length c, .int .u8 a', .int .u8 b', .int .u8 d', .bool p', .slice A' es'.length c'], .slice F f.length e0, .agg #[.slice B1 ws.length e1]] w fun e w' => e = .returned (.bool true) ∧ Below w.heap.size w w' := by
  obtain ⟨E1, hE1⟩ : ∃ E, es.length = E := ⟨_, rfl⟩
  obtain ⟨E2, hE2⟩ : ∃ E, es'.length = E := ⟨_, rfl⟩
  obtain ⟨F1, hF1⟩ : ∃ E, ws.length = E := ⟨_, rfl⟩
  obtain ⟨q, hq⟩ : ∃ q, f.length = q := ⟨_, rfl⟩
  obtain ⟨n, hn⟩ : ∃ n : Nat, 1 + a % 6 = n := ⟨(1 + a % 6).toNat, by omega⟩
  obtain ⟨i, hi⟩ : ∃ i : Nat, 1 + b % 3 = i := ⟨(1 + b % 3).toNat, by omega⟩
  obtain ⟨o, ho⟩ : ∃ o : Nat, 1 + d % 3 = o := ⟨(1 + d % 3).toNat, by omega⟩
  obtain ⟨n', hn'⟩ : ∃ n' : Nat, 1 + a' % 6 = n' := ⟨(1 + a' % 6).toNat, by omega⟩
  obtain ⟨i', hi'⟩ : ∃ i' : Nat, 1 + b' % 3 = i' := ⟨(1 + b' % 3).toNat, by omega⟩
  obtain ⟨o', ho'⟩ : ∃ o' : Nat, 1 + d' % 3 = o' := ⟨(1 + d' % 3).toNat, by omega⟩
  have CM := fun w hr => mofB_at a b d p A c es n i o w hr hl ha hb hd hn hi ho
  have CN := fun w hr => mofB_at a' b' d' p' A' c' es' n' i' o' w hr hl' ha' hb' hd' hn' hi' ho'
  have hn6 : n ≤ 6 := by omega
  have hn1 : 1 ≤ n := by omega
  have hi1 : 1 ≤ i := by omega
  have hi3 : i ≤ 3 := by omega
  have hn6' : n' ≤ 6 := by omega
  have V := Lib.hid (Mc.mkN_val (p := p) (n := n) (i := i) (o := o) (es := es) (by omega) (by omega) (by omega) (by omega) (by omega) (by omega))
  have V' := Lib.hid (Mc.mkN_val (p := p') (n := n') (i := i') (o := o') (es := es') (by omega) (by omega) (by omega) (by omega) (by omega) (by omega))
  have hlen : Hid ((Mc.mkN p n i o es).r.length = n) := Mc.mkN_len _ _ _ _ _
  have hlen' : Hid ((Mc.mkN p' n' i' o' es').r.length = n') := Mc.mkN_len _ _ _ _ _
  have hmi : Hid ((Mc.mkN p n i o es).i = i) := rfl
  have hmo : Hid ((Mc.mkN p n i o es).o = o) := rfl
  have hmi' : Hid ((Mc.mkN p' n' i' o' es').i = i') := rfl
  have hmo' : Hid ((Mc.mkN p' n' i' o' es').o = o') := rfl
  obtain ⟨M, hM⟩ : ∃ M, Mc.mkN p n i o es = M := ⟨_, rfl⟩
  obtain ⟨N, hN⟩ : ∃ N, Mc.mkN p' n' i' o' es' = N := ⟨_, rfl⟩
  rw [hM] at V hlen hmi hmo
  rw [hN] at V' hlen' hmi' hmo'
  simp only [hM, hE1] at CM
  simp only [hN, hE2] at CN
  clear hM hN ha hb hd hn hi ho hl ha' hb' hd' hn' hi' ho' hl'
  have CW := fun w h => wof9_at B1 e1 ws i w h hi1 (by omega) hlw
  have HW := Lib.hid (Mc.sym_wd9 (m := M) (i := i) (zs := ws) hmi.out (by omega))
  obtain ⟨Y, hY⟩ : ∃ Y, Go.Proofs.Yteegellpbihpeaa.M.sym i ws = Y := ⟨_, rfl⟩
  rw [hY] at HW
  simp only [hY, hF1] at CW
  obtain ⟨Z, hZ⟩ : ∃ Z, Mc.hmE M N f = Z := ⟨_, rfl⟩
  have HZ := Lib.hid hZ
  have HQ := Lib.hid hq
  have HR := Lib.hid hr
  have HR' := Lib.hid hr'
  have HR8 := Lib.hid hr8
  have HFF := Lib.hid hF
  have HCW := Lib.hid CW
  rw [hE1, hE2, hF1, hq]
  clear hr hr' hr8 hF hE1 hE2 hF1 hq hY hZ hlw CW
  obtain ⟨K0, hK0⟩ : ∃ K0, w.heap.size = K0 := ⟨_, rfl⟩
  have s0 : MT w w [] := MT.start
  have s1 := MT.putK (P := fun w => w.heap[K0]? = some (.cells #[.int .u8 a, .int .u8 b, .int .u8 d, .bool p, .slice A E1 c, .int .u8 a', .int .u8 b', .int .u8 d', .bool p', .slice A' E2 c'] 62)) (MT.alloc s0 (.cells #[.int .u8 a, .int .u8 b, .int .u8 d, .bool p, .slice A E1 c, .int .u8 a', .int .u8 b', .int .u8 d', .bool p', .slice A' E2 c'] 62))
    (by
      have h := heap_alloc_new w (.cells #[.int .u8 a, .int .u8 b, .int .u8 d, .bool p, .slice A E1 c, .int .u8 a', .int .u8 b', .int .u8 d', .bool p', .slice A' E2 c'] 62)
      rw [hK0] at h
      exact h) (fun _ _ h hb => (hb.block _ (heap_lt h)).trans h)
  have s2 := MT.putK (P := fun w => w.heap[K0 + 1]? = some (.cells #[.slice B1 F1 e1] 27)) (MT.alloc s1 (.cells #[.slice B1 F1 e1] 27))
    (by
      have h := heap_alloc_new (w.alloc (.cells #[.int .u8 a, .int .u8 b, .int .u8 d, .bool p, .slice A E1 c, .int .u8 a', .int .u8 b', .int .u8 d', .bool p', .slice A' E2 c'] 62)) (.cells #[.slice B1 F1 e1] 27)
      rw [show (w.alloc (.cells #[.int .u8 a, .int .u8 b, .int .u8 d, .bool p, .slice A E1 c, .int .u8 a', .int .u8 b', .int .u8 d', .bool p', .slice A' E2 c'] 62)).heap.size = w.heap.size + 1 by simp, hK0] at h
      exact h) (fun _ _ h hb => (hb.block _ (heap_lt h)).trans h)
  clear s0 s1
  go_enter Try.func7, Try.ntmps7
  go_upto_region 1 with fail
  obtain ⟨w1, hW0⟩ : ∃ W0, (w.alloc (.cells #[.int .u8 a, .int .u8 b, .int .u8 d, .bool p, .slice A E1 c, .int .u8 a', .int .u8 b', .int .u8 d', .bool p', .slice A' E2 c'] 62)).alloc (.cells #[.slice B1 F1 e1] 27) = W0 := ⟨_, rfl⟩
  rw [hW0] at s2
  try rw [hW0]
  try rw [hK0]
  clear hW0 hK0
  by_cases hq80 : 80 < q
  · have hqd : decide ((80 : Int) < q) = true := decide_eq_true (by omega)
    have hqi : (80 : Int) < q := by omega
    have hfin := Lib.hid s2.2.1
    clear s2 CM CN
    go_wp2_with fail
    go_ret
    exact ⟨rfl, hfin.out⟩
  have hqd : decide ((80 : Int) < q) = false := decide_eq_false (by omega)
  have hqi : ¬ (80 : Int) < q := by omega
  have hw01 := s2.2.1
  have hoA : w1.heap[K0]? = some (.cells #[.int .u8 a, .int .u8 b, .int .u8 d, .bool p, .slice A E1 c, .int .u8 a', .int .u8 b', .int .u8 d', .bool p', .slice A' E2 c'] 62) := MK.get s2 1 rfl
  have hKS : ∀ W : World, Below w1.heap.size w1 W → (W.cell? ⟨K0, 0, none⟩ = some (.int .u8 a) ∧ W.cell? ⟨K0, 1, none⟩ = some (.int .u8 b) ∧ W.cell? ⟨K0, 2, none⟩ = some (.int .u8 d) ∧ W.cell? ⟨K0, 3, none⟩ = some (.bool p) ∧ W.cell? ⟨K0, 4, none⟩ = some (.slice A E1 c) ∧
      W.cell? ⟨K0, 5, none⟩ = some (.int .u8 a') ∧ W.cell? ⟨K0, 6, none⟩ = some (.int .u8 b') ∧ W.cell? ⟨K0, 7, none⟩ = some (.int .u8 d') ∧ W.cell? ⟨K0, 8, none⟩ = some (.bool p') ∧ W.cell? ⟨K0, 9, none⟩ = some (.slice A' E2 c')) := fun W hW => by
    have h1 := (hW.block _ (heap_lt hoA)).trans hoA
    refine ⟨?_, ?_, ?_, ?_, ?_, ?_, ?_, ?_, ?_, ?_⟩ <;> (rw [cell_of_row _ _ _ _ _ _ h1]; rfl)
  clear hoA
  have HKS := Lib.hid hKS
  clear hKS
  go_upto_region 3 with fail
  go_cut [7, 8] from 18 to 23 (fun u v wx => ∃ (G H : Nat) (R S : Option Addr) (c1 c2 : Nat), u = .pointer (some ⟨G, 0, none⟩) ∧ v = .pointer (some ⟨H, 0, none⟩) ∧ Hid (SmR w1 M N G H R S n n' c1 c2 i o i' o' wx))
  case first =>
    go_region_held3 (fun W => W.cell? ⟨K0, 0, none⟩ = some (.int .u8 a) ∧ W.cell? ⟨K0, 1, none⟩ = some (.int .u8 b) ∧ W.cell? ⟨K0, 2, none⟩ = some (.int .u8 d) ∧ W.cell? ⟨K0, 3, none⟩ = some (.bool p) ∧ W.cell? ⟨K0, 4, none⟩ = some (.slice A E1 c) ∧
      W.cell? ⟨K0, 5, none⟩ = some (.int .u8 a') ∧ W.cell? ⟨K0, 6, none⟩ = some (.int .u8 b') ∧ W.cell? ⟨K0, 7, none⟩ = some (.int .u8 d') ∧ W.cell? ⟨K0, 8, none⟩ = some (.bool p') ∧ W.cell? ⟨K0, 9, none⟩ = some (.slice A' E2 c'))
      ((refine HKS.out _ ?_; repeat (with_reducible (first | refine bS ?_ (by omega) _ | refine bA ?_ _ | refine bD ?_ | exact Below.refl _ _ | refine below_next ?_ (by assumption)))))
      (first
        | (go_at_call 11
           (with_reducible refine (CM _ (HR.out.below (below_next hw01 (by repeat (with_reducible (first | refine bA ?_ _ | refine bD ?_ | exact Below.refl _ _ | refine below_next ?_ (by assumption))))))).mono ?_)
           rintro e wA ⟨R, c1, vsR, rfl, hBR, hbA⟩
           have zA := hbA.size
           try simp at zA
           try (with_reducible have bA0 := BxM.toD (BxM.new1 w1) hbA)
           try (with_reducible have bA0 := BxM.toD ((BxM.new1 w1).al zM) hbA)
           try (with_reducible have bA1 := BxM.toD (BxM.new2 w1 zM) hbA)
           try obtain ⟨⟨x00, x01, x02⟩, ⟨x03, x04, x05⟩, x06⟩ := bA0.all
           try obtain ⟨⟨x10, x11, x12⟩, ⟨x13, x14, x15⟩, x16⟩ := bA1.all
           dsimp only)
        | (go_at_call 11
           (with_reducible refine (CN _ (HR'.out.below (below_next hw01 (by repeat (with_reducible (first | refine bA ?_ _ | refine bD ?_ | exact Below.refl _ _ | refine below_next ?_ (by assumption))))))).mono ?_)
           rintro e wB ⟨S, c2, vsS, rfl, hBS, hbB⟩
           have zB := hbB.size
           try simp at zB
           try (with_reducible have bB0 := BxM.to bA0 hbB)
           try (with_reducible have bB0 := BxM.to (bA0.al zM) hbB)
           try (with_reducible have bB1 := BxM.to bA1 hbB)
           try (with_reducible have bB2 := BxM.to (BxM.new1 wA) hbB)
           try (with_reducible have bB2 := BxM.to ((BxM.new1 wA).al zM) hbB)
           try (with_reducible have bB3 := BxM.to (BxM.new2 wA zM) hbB)
           try obtain ⟨⟨y00, y01, y02⟩, ⟨y03, y04, y05⟩, y06⟩ := bB0.all
           try obtain ⟨⟨y10, y11, y12⟩, ⟨y13, y14, y15⟩, y16⟩ := bB1.all
           try obtain ⟨⟨y20, y21, y22⟩, ⟨y23, y24, y25⟩, y26⟩ := bB2.all
           try obtain ⟨⟨y30, y31, y32⟩, ⟨y33, y34, y35⟩, y36⟩ := bB3.all
           dsimp only)
        | fail)
    all_goals
      go_wp2_with fail
      go_meet
      refine ⟨_, _, R, S, c1, c2, rfl, rfl, ?_⟩
      refine ⟨by omega, ?_, ?_, ?_, ?_, ?_⟩
      · repeat (with_reducible (first | exact BxM.new _ _ _ _ _ _ | exact BxM.newS _ _ _ _ _ _ _ _ _ _ | exact BxM.newB2 _ _ _ _ _ _ _ | exact BxM.set3 (by first | assumption | exact BxM.al (by assumption) _) | refine BxM.far3 ?_ (by omega) _ _ _ | refine BxM.al ?_ _))
      · repeat (with_reducible (first | exact BxM.new _ _ _ _ _ _ | exact BxM.newS _ _ _ _ _ _ _ _ _ _ | exact BxM.newB2 _ _ _ _ _ _ _ | exact BxM.set3 (by first | assumption | exact BxM.al (by assumption) _) | exact BxM.set3 (BxM.far3 (by assumption) (by omega) _ _ _) | refine BxM.far3 ?_ (by omega) _ _ _ | refine BxM.al ?_ _))
      · refine Bld.two (Bld.mid hBR.out ?_)
        repeat (with_reducible (first | refine Mid.set3 ?_ (by first | (simp; omega) | simp | omega) _ _ _ | refine Mid.alloc ?_ _ | exact Mid.refl _ _ | refine Mid.next ?_ hbB))
      · refine Bld.two (Bld.mid hBS.out ?_)
        repeat (with_reducible (first | refine Mid.set3 ?_ (by first | (simp; omega) | simp | omega) _ _ _ | refine Mid.alloc ?_ _ | exact Mid.refl _ _))
      · repeat (with_reducible (first | refine bS ?_ (by omega) _ | refine bA ?_ _ | refine bD ?_ | exact Below.refl _ _ | refine below_next ?_ (by assumption)))
  case rest =>
  obtain ⟨G, H, R, S, c1, c2, rfl, rfl, hS⟩ := hcut
  obtain ⟨w2, hw2⟩ : ∃ x, x = wc := ⟨_, rfl⟩
  rw [← hw2] at hS ⊢
  clear hw2
  have s3 := MK.putL (MK.putB (MK.putB (MK.putR (MK.putR (MT.next s2 hS.out.bel) hS.out.rb) hS.out.ra) hS.out.bh) hS.out.bg) (HFF.out.below (MT.next s2 hS.out.bel).2.1)
  clear hw01 HKS CM CN HR HR' HFF s2 hS hqd hqi
  obtain ⟨β, hβ0, hβ1⟩ : ∃ β : Bool, (Z ≠ 0 → β = false) ∧ (Z = 0 → (β = true ↔ Mc.Hom M N f)) := by
    by_cases h : Z = 0
    · exact ⟨@decide (Mc.Hom M N f) (Classical.propDecidable _), fun h2 => absurd h h2, fun _ => @decide_eq_true_iff _ (Classical.propDecidable _)⟩
    · exact ⟨false, fun _ => rfl, fun h2 => absurd h2 h⟩
  have HB0 := Lib.hid hβ0
  have HB1 := Lib.hid hβ1
  have hq6 : q ≤ 80 := by omega
  have C1 := fun w hr hq hF => qhom_full M N i o i' o' R S n c1 n' c2 F q e0 f w Z β V.out V'.out hmi.out hmo.out hmi'.out hmo'.out hr hq hlen.out hlen'.out hF HQ.out (by omega) HZ.out HB0.out HB1.out
  clear hβ0 hβ1
  obtain ⟨m0, m1, m2⟩ := BxM.cells (MK.get s3 1 rfl)
  obtain ⟨m3, m4, m5⟩ := BxM.cells (MK.get s3 2 rfl)
  go_wp2_with fail
  clear m0 m1 m2 m3 m4 m5
  refine (C1 _ (MK.get s3 3 rfl) (MK.get s3 4 rfl) (MK.get s3 0 rfl)).mono ?_
  rintro e w3 ⟨rfl, hbl⟩
  have s4 := MT.next s3 hbl
  clear s3 hbl C1
  go_upto_region 5 with fail
  obtain ⟨m0, m1, m2⟩ := BxM.cells (MK.get s4 1 rfl)
  obtain ⟨m3, m4, m5⟩ := BxM.cells (MK.get s4 2 rfl)
  have HE := Lib.hid (Mc.hmE_val V.out V'.out f)
  have S4 := Lib.hid s4
  clear s4
  obtain ⟨z0, hz0, hz1⟩ : ∃ z0 : Int, Hid (Mc.Wnt f Z n' (M.i = N.i ∧ q = n) 0 z0) ∧ ((i ≠ i' ∧ z0 = 5) ∨ (i = i' ∧ q ≠ n ∧ z0 = 16) ∨ (i = i' ∧ q = n ∧ z0 = 0)) := by
    by_cases h1 : i = i'
    · have h2 : M.i = N.i := by rw [hmi.out, hmi'.out, h1]
      by_cases h3 : q = n
      · exact ⟨0, .inr ⟨rfl, ⟨h2, h3⟩, fun j h => absurd h (Nat.not_lt_zero _)⟩, .inr (.inr ⟨h1, h3, rfl⟩)⟩
      · exact ⟨16, .inl ⟨by decide, by rw [← HZ.out, HE.out, if_neg (fun h => h h2), if_pos (fun h => h3 (by rw [← HQ.out, ← hlen.out]; exact h))]⟩, .inr (.inl ⟨h1, h3, rfl⟩)⟩
    · exact ⟨5, .inl ⟨by decide, by rw [← HZ.out, HE.out, if_pos (fun h => h1 (by rw [hmi.out, hmi'.out] at h; omega))]⟩, .inl ⟨h1, rfl⟩⟩
  have hW0 := hz0
  clear hz0
  rcases hz1 with ⟨h1, rfl⟩ | ⟨h1, h2, rfl⟩ | ⟨h1, h2, rfl⟩
  · have hib : ((i : Int) != i') = true := by simp; omega
    have hib2 : ((i : Int) == i') = false := by rw [beq_eq_false_iff_ne]; omega
    have hib3 : ¬ i = i' := h1
    go_wp2_with fail
    clear m0 m1 m2 m3 m4 m5 hib hib2 hib3
    go_loopw [11, 12] (fun u v wr => ∃ (s : Nat) (z : Int), s ≤ q ∧ v = .int .i64 s ∧ u = .int .i64 z ∧ Hid (z ≠ 0 ∧ z = Z) ∧ Hid (Below w3.heap.size w3 wr)) (fun _ _ _ => 0)
    case atStart => exact ⟨0, _, Nat.zero_le _, rfl, rfl, by rcases hW0.out with h | ⟨h, _⟩; exact h; exact absurd h (by decide), Below.refl _ _⟩
    case round =>
      clear hW0
      obtain ⟨s, z, hs, rfl, rfl, hWn, hbr⟩ := hrel
      have sI := MT.next S4.out hbr.out
      have hz := hWn.out.1
      have hzE := hWn.out.2
      subst hzE
      have hβf : β = false := HB0.out hz
      subst hβf
      have hzb : (z == 0) = false := by rw [beq_eq_false_iff_ne]; exact hz
      have hzn : (z != 0) = true := by simpa using hz
      have hzz : (z == z) = true := by simp
      have hF := Lib.hid sI.2.1
      have HZN := Lib.hid hz
      clear sI hWn hz
      by_cases hsq : s < q
      · have hsq' : decide ((s : Int) < q) = true := decide_eq_true (by omega)
        have hsqi : (s : Int) < q := by omega
        go_wp2_with fail
        refine (qlives_walk _).mono ?_
        rintro e w10 ⟨rfl, hbl⟩
        have hfin := Lib.hid (below_next hF.out hbl)
        clear hF hbl
        go_wp2_with fail
        go_ret
        exact ⟨rfl, hfin.out⟩
      · have hsq' : decide ((s : Int) < q) = false := decide_eq_false (by omega)
        have hsqi : ¬ (s : Int) < q := by omega
        go_wp2_with fail
        refine (qlives_walk _).mono ?_
        rintro e w10 ⟨rfl, hbl⟩
        have hfin := Lib.hid (below_next hF.out hbl)
        clear hF hbl
        go_wp2_with fail
        go_ret
        exact ⟨rfl, hfin.out⟩
  · have hib : ((i : Int) != i') = false := by rw [h1]; simp
    have hqb : ((q : Int) != n) = true := by simp; omega
    have hqb2 : ((q : Int) == n) = false := by rw [beq_eq_false_iff_ne]; omega
    have hqb3 : ¬ q = n := h2
    subst h1
    go_wp2_with fail
    clear m0 m1 m2 m3 m4 m5 hib hqb hqb2 hqb3
    go_loopw [11, 12] (fun u v wr => ∃ (s : Nat) (z : Int), s ≤ q ∧ v = .int .i64 s ∧ u = .int .i64 z ∧ Hid (z ≠ 0 ∧ z = Z) ∧ Hid (Below w3.heap.size w3 wr)) (fun _ _ _ => 0)
    case atStart => exact ⟨0, _, Nat.zero_le _, rfl, rfl, by rcases hW0.out with h | ⟨h, _⟩; exact h; exact absurd h (by decide), Below.refl _ _⟩
    case round =>
      clear hW0
      obtain ⟨s, z, hs, rfl, rfl, hWn, hbr⟩ := hrel
      have sI := MT.next S4.out hbr.out
      have hz := hWn.out.1
      have hzE := hWn.out.2
      subst hzE
      have hβf : β = false := HB0.out hz
      subst hβf
      have hzb : (z == 0) = false := by rw [beq_eq_false_iff_ne]; exact hz
      have hzn : (z != 0) = true := by simpa using hz
      have hzz : (z == z) = true := by simp
      have hF := Lib.hid sI.2.1
      have HZN := Lib.hid hz
      clear sI hWn hz
      by_cases hsq : s < q
      · have hsq' : decide ((s : Int) < q) = true := decide_eq_true (by omega)
        have hsqi : (s : Int) < q := by omega
        go_wp2_with fail
        refine (qlives_walk _).mono ?_
        rintro e w10 ⟨rfl, hbl⟩
        have hfin := Lib.hid (below_next hF.out hbl)
        clear hF hbl
        go_wp2_with fail
        go_ret
        exact ⟨rfl, hfin.out⟩
      · have hsq' : decide ((s : Int) < q) = false := decide_eq_false (by omega)
        have hsqi : ¬ (s : Int) < q := by omega
        go_wp2_with fail
        refine (qlives_walk _).mono ?_
        rintro e w10 ⟨rfl, hbl⟩
        have hfin := Lib.hid (below_next hF.out hbl)
        clear hF hbl
        go_wp2_with fail
        go_ret
        exact ⟨rfl, hfin.out⟩
  · have hib : ((i : Int) != i') = false := by rw [h1]; simp
    have hqb : ((q : Int) != n) = false := by rw [h2]; simp
    subst h1
    go_wp2_with fail
    clear m0 m1 m2 m3 m4 m5 hib hqb h2
    go_loopw [11, 12] (fun u v wr => ∃ (s : Nat) (z : Int), s ≤ q ∧ v = .int .i64 s ∧ u = .int .i64 z ∧ Hid (Mc.Wnt f Z n' (M.i = N.i ∧ q = n) s z) ∧ Hid (Below w3.heap.size w3 wr)) (fun _ v _ => q - (intOf v).toNat)
    case atStart => exact ⟨0, _, Nat.zero_le _, rfl, rfl, hW0, Below.refl _ _⟩
    case round =>
      clear hW0
      obtain ⟨s, z, hs, rfl, rfl, hWn, hbr⟩ := hrel
      have sI := MT.next S4.out hbr.out
      by_cases hz : z = 0
      · by_cases hsq : s < q
        · have hsq' : decide ((s : Int) < q) = true := decide_eq_true (by omega)
          have hzb : (z == 0) = true := by rw [hz]; rfl
          have hsqi : (s : Int) < q := by omega
          obtain ⟨hP, hpre⟩ : (M.i = N.i ∧ q = n) ∧ ∀ i : Nat, i < s → 0 ≤ Go.Proofs.Yteegellpbihpeaa.M.gz f i ∧ Go.Proofs.Yteegellpbihpeaa.M.gz f i < n' := by
            rcases hWn.out with ⟨h1, _⟩ | ⟨_, h1, h2⟩
            · exact absurd hz h1
            · exact ⟨h1, h2⟩
          have HP := Lib.hid hP
          have HPre := Lib.hid hpre
          obtain ⟨b1, o1, x, hFe, hb1, hc1, hx⟩ := Rd.at_ (show Rd wr F f from MK.get sI 0 rfl) (k := s) (by rw [HQ.out]; exact hsq)
          subst hFe
          have hxm : Hid (x ∈ f) := by show x ∈ f; rw [← hx.out]; exact Go.Proofs.Yteegellpbihpeaa.M.gz_mem (by rw [HQ.out]; exact hsq)
          have HX : Hid (Go.Proofs.Yteegellpbihpeaa.M.gz f s = x) := hx.out
          obtain ⟨m3, m4, m5⟩ := BxM.cells (MK.get sI 2 rfl)
          have lH : H < wr.heap.size := heap_lt (show BxM wr H i o' S n' c2 from MK.get sI 2 rfl)
          have f0 : ∀ y : BW wr, y.out.cell? ⟨H, 2, none⟩ = some (.slice S n' c2) := fun y => (y.ok.cell (p := ⟨_, _, none⟩) lH).trans m5
          have f1 : ∀ y : BW wr, y.out.cell? ⟨b1, o1 + s, none⟩ = some (.int .i64 x) := fun y => (y.ok.cell (p := ⟨b1, o1 + s, none⟩) hb1).trans hc1
          have hbad : (x < 0 ∨ (n' : Int) ≤ x) → Hid (Mc.Wnt f Z n' (M.i = N.i ∧ q = n) (s + 1) 1) := fun h => .inl ⟨by decide, by
            rw [← HZ.out, HE.out, if_neg (fun h2 => h2 HP.out.1), if_neg (fun h2 => h2 (by rw [HQ.out, hlen.out]; exact HP.out.2)), if_pos]
            rw [hlen'.out]
            exact Mc.hmB_yes hxm.out h⟩
          have hgood : 0 ≤ x → x < n' → Hid (Mc.Wnt f Z n' (M.i = N.i ∧ q = n) (s + 1) 0) := fun h1 h2 => .inr ⟨rfl, HP.out, fun j hj => by
            rcases Nat.lt_or_ge j s with h3 | h3
            · exact HPre.out j h3
            · obtain rfl : j = s := by omega
              rw [HX.out]
              exact ⟨h1, h2⟩⟩
          have HBad := Lib.hid hbad
          have HGood := Lib.hid hgood
          have HSQ := Lib.hid hsq
          subst hz
          clear hP hpre hx hbad hgood m3 m4 m5 hWn sI hc1
          by_cases hx0 : x < 0
          · have hx0' : decide (x < 0) = true := decide_eq_true hx0
            have hW1 := HBad.out (.inl hx0)
            clear hx0
            go_wp2_with fail
            refine wp_region_quiet_below (by kernel_rfl) (by kernel_rfl) ?_
            repeat (go_big_quiet_step (fail))
            refine wpQuiet_nil ?_
            intro w11 hw11
            obtain ⟨⟨wx, hbW⟩, hw3⟩ := hw11
            dsimp only at hw3
            subst hw3
            have hbr2 := Lib.hid (below_next hbr.out hbW)
            clear f0 f1
            go_wp2_with fail
            go_roundw
            case rel => exact ⟨s + 1, 1, by have := HSQ.out; omega, by go_num, rfl, hW1, hbr2⟩
            case measure => have := HSQ.out; simp [intOf]; omega
          · have hx0' : decide (x < 0) = false := decide_eq_false hx0
            by_cases hxk : (n' : Int) ≤ x
            · have hxk' : decide ((n' : Int) ≤ x) = true := decide_eq_true hxk
              have hW1 := HBad.out (.inr hxk)
              clear hx0 hxk
              go_wp2_with fail
              refine wp_region_quiet_below (by kernel_rfl) (by kernel_rfl) ?_
              repeat (go_big_quiet_step (fail))
              refine wpQuiet_nil ?_
              intro w11 hw11
              obtain ⟨⟨wx, hbW⟩, hw3⟩ := hw11
              dsimp only at hw3
              subst hw3
              have hbr2 := Lib.hid (below_next hbr.out hbW)
              clear f0 f1
              go_wp2_with fail
              go_roundw
              case rel => exact ⟨s + 1, 1, by have := HSQ.out; omega, by go_num, rfl, hW1, hbr2⟩
              case measure => have := HSQ.out; simp [intOf]; omega
            · have hxk' : decide ((n' : Int) ≤ x) = false := decide_eq_false hxk
              have hW1 := HGood.out (by omega) (by omega)
              clear hx0 hxk
              go_wp2_with fail
              refine wp_region_quiet_below (by kernel_rfl) (by kernel_rfl) ?_
              repeat (go_big_quiet_step (fail))
              refine wpQuiet_nil ?_
              intro w11 hw11
              obtain ⟨⟨wx, hbW⟩, hw3⟩ := hw11
              dsimp only at hw3
              subst hw3
              have hbr2 := Lib.hid (below_next hbr.out hbW)
              clear f0 f1
              go_wp2_with fail
              go_roundw
              case rel => exact ⟨s + 1, 0, by have := HSQ.out; omega, by go_num, rfl, hW1, hbr2⟩
              case measure => have := HSQ.out; simp [intOf]; omega
        · have hsN : q = s := by omega
          subst hsN
          subst hz
          have hsq' : decide ((q : Int) < q) = false := decide_eq_false (by omega)
          have hsqi : ¬ (q : Int) < q := by omega
          obtain ⟨⟨hP1, hP2⟩, hpre⟩ : (M.i = N.i ∧ q = n) ∧ ∀ i : Nat, i < q → 0 ≤ Go.Proofs.Yteegellpbihpeaa.M.gz f i ∧ Go.Proofs.Yteegellpbihpeaa.M.gz f i < n' := by
            rcases hWn.out with ⟨h1, _⟩ | ⟨_, h1, h2⟩
            · exact absurd rfl h1
            · exact ⟨h1, h2⟩
          have hZ0 : Z = 0 := by
            rw [← HZ.out, HE.out, if_neg (fun h2 => h2 hP1), if_neg (fun h2 => h2 (by rw [HQ.out, hlen.out]; exact hP2)), if_neg]
            rw [hlen'.out, Mc.hmB_no fun x hx => by
              obtain ⟨j, hj, rfl⟩ := Go.Proofs.Yteegellpbihpeaa.M.mem_gz hx
              exact hpre j (by rw [← HQ.out]; exact hj)]
            simp
          subst hP2
          have hHom := HB1.out hZ0
          have HHom := Lib.hid hHom
          have HPre := Lib.hid hpre
          have HII : Hid (M.i = N.i) := hP1
          subst hZ0
          obtain ⟨r, hr1⟩ : ∃ r : Int, (if β = true then 1 else 0) = r := ⟨_, rfl⟩
          have hrb : (r == 1) = β := by rw [← hr1]; cases β <;> rfl
          have C5 := fun w hr hq hF => rhom_to M N i o o' R S q c1 n' c2 F e0 f w r V.out V'.out hmi.out hmo.out hmi'.out hmo'.out hr hq hlen.out hlen'.out hF HQ.out HPre.out (fun h => by rw [← hr1, HHom.out.2 h]; rfl) (fun h => by rw [← hr1, if_neg (fun h2 => h (HHom.out.1 h2))])
          have hbb : (β != β) = false := by simp
          clear hr1 hWn hHom hpre hP1 HB0 HB1 HZ HE
          obtain ⟨m0, m1, m2⟩ := BxM.cells (MK.get sI 1 rfl)
          obtain ⟨m3, m4, m5⟩ := BxM.cells (MK.get sI 2 rfl)
          go_wp2_with fail
          clear m0 m1 m2 m3 m4 m5
          refine (C5 _ (MK.get sI 3 rfl) (MK.get sI 4 rfl) (MK.get sI 0 rfl)).mono ?_
          rintro e w5 ⟨rfl, hbl⟩
          have s6 := MT.next sI hbl
          clear sI hbl C5
          obtain ⟨m0, m1, m2⟩ := BxM.cells (MK.get s6 1 rfl)
          have hpl : w5.heap[K0 + 1]? = some (.cells #[.slice B1 F1 e1] 27) := MK.get s6 5 rfl
          have l0 : w5.cell? ⟨K0 + 1, 0, none⟩ = some (.slice B1 F1 e1) := by rw [cell_of_row _ _ _ _ _ _ hpl]; rfl
          clear hpl
          go_wp2_with fail
          clear m0 m1 m2 l0 hbb hrb
          refine (HCW.out _ (HR8.out.below s6.2.1)).mono ?_
          rintro e w6 ⟨B2, k2, q2, rfl, hk2, h12, hrd, hbl⟩
          have s7 := MK.putL (MT.next s6 hbl) hrd
          clear s6 hrd hbl HCW HR8
          have S7 := Lib.hid s7
          clear s7
          go_wp2_with fail
          go_loopw [14] (fun v wr => ∃ s : Nat, s ≤ q ∧ v = .int .i64 s ∧ Hid (Below w6.heap.size w6 wr)) (fun v _ => q - (intOf v).toNat)
          case atStart => exact ⟨0, Nat.zero_le _, rfl, Below.refl _ _⟩
          case round =>
            obtain ⟨s, hs, rfl, hbr⟩ := hrel
            have sI := MT.next S7.out hbr.out
            by_cases hsq : s < q ∧ β = true
            · obtain ⟨hsq, hβt⟩ := hsq
              have hsq' : decide ((s : Int) < q) = true := decide_eq_true (by omega)
              have hsqi : (s : Int) < q := by omega
              have hH : Mc.Hom M N f := HHom.out.1 hβt
              obtain ⟨b1, o1, x, hFe, hb1, hc1, hx⟩ := Rd.at_ (show Rd wr F f from MK.get sI 1 rfl) (k := s) (by rw [HQ.out]; exact hsq)
              subst hFe
              have hxs : Go.Proofs.Yteegellpbihpeaa.M.gz f s = x := hx.out
              have hrun : Hid (Mc.run M s Y = Mc.run N x Y) := by
                have := hH.run V.out V'.out HII.out (by rw [hlen.out, hlen'.out]; exact HPre.out) Y s (by rw [hlen.out]; exact hsq) HW.out
                rwa [hxs] at this
              have hxr := HPre.out s hsq
              rw [hxs] at hxr
              have HSM : Hid (Mc.St M s) := Or.inr ⟨by omega, by rw [hlen.out]; exact hsqi⟩
              have HSN : Hid (Mc.St N x) := Or.inr ⟨hxr.1, by rw [hlen'.out]; exact hxr.2⟩
              have HWN : Hid (Mc.Wd N Y) := fun c hc => by
                have := HW.out c hc
                rwa [HII.out] at this
              subst hβt
              clear hx hxs hxr hH
              go_upto_region 23 with fail
              go_cut [115] from 103 to 115 (fun f wx => f = .bool false ∧ Below wr.heap.size wr wx)
              case first =>
                have y0 : Below wr.heap.size wr wr.drew := (Below.refl _ _).drew
                have sD := MT.next sI (Below.refl _ _).drew
                obtain ⟨a0, a1, a2⟩ := BxM.cells (MK.get sI 2 rfl)
                obtain ⟨a3, a4, a5⟩ := BxM.cells (MK.get sI 3 rfl)
                go_region_held3 (fun w' => w'.cell? ⟨G, 0, none⟩ = some (.int .i64 i) ∧ w'.cell? ⟨G, 1, none⟩ = some (.int .i64 o) ∧ w'.cell? ⟨G, 2, none⟩ = some (.slice R q c1) ∧ w'.cell? ⟨H, 0, none⟩ = some (.int .i64 i) ∧ w'.cell? ⟨H, 1, none⟩ = some (.int .i64 o') ∧ w'.cell? ⟨H, 2, none⟩ = some (.slice S n' c2) ∧ w'.cell? ⟨b1, o1 + s, none⟩ = some (.int .i64 x))
                  (first | exact ⟨x30, x31, x32, x33, x34, x35, x36⟩ | exact ⟨x20, x21, x22, x23, x24, x25, x26⟩ | exact ⟨x10, x11, x12, x13, x14, x15, x16⟩ | exact ⟨a0, a1, a2, a3, a4, a5, hc1⟩ | go_keep)
                  (first
                    | (go_at_call 17
                       (with_reducible refine (rrun_at M i o R q c1 _ s B2 k2 q2 Y V.out hmi.out hmo.out hlen.out hk2.out (MK.get sD 4 rfl) (MK.get sD 0 rfl) HSM.out HW.out (by omega)).mono ?_)
                       rintro e wa1 ⟨B7, q7, rfl, hr7, hb1'⟩
                       have t1 := MK.putL (MT.next sD hb1') hr7
                       have y1 := below_next y0 hb1'
                       obtain ⟨x10, x11, x12⟩ := BxM.cells (MK.get t1 3 rfl)
                       obtain ⟨x13, x14, x15⟩ := BxM.cells (MK.get t1 4 rfl)
                       have x16 := (y1.cell (p := ⟨b1, o1 + s, none⟩) hb1).trans hc1
                       dsimp only)
                    | (go_at_call 17
                       (with_reducible refine (rrun_at N i o' S n' c2 _ x B2 k2 q2 Y V'.out hmi'.out hmo'.out hlen'.out hk2.out (MK.get t1 6 rfl) (MK.get t1 1 rfl) HSN.out HWN.out (by omega)).mono ?_)
                       rintro e wa2 ⟨B8, q8, rfl, hr8', hb2'⟩
                       have t2 := MK.putL (MT.next t1 hb2') hr8'
                       have y2 := below_next y1 hb2'
                       obtain ⟨x20, x21, x22⟩ := BxM.cells (MK.get t2 4 rfl)
                       obtain ⟨x23, x24, x25⟩ := BxM.cells (MK.get t2 5 rfl)
                       have x26 := (y2.cell (p := ⟨b1, o1 + s, none⟩) hb1).trans hc1
                       dsimp only)
                    | (go_at_call 16
                       (with_reducible refine (rsame9_yes B7 B8 k2 q7 q8 (Mc.run N x Y) _ (by rw [← hrun.out]; exact (MK.get t2 1 rfl)) (MK.get t2 0 rfl) (by rw [Mc.run_len]; exact hk2.out) (by omega)).mono ?_)
                       rintro e wa3 ⟨rfl, hb3'⟩
                       have t3 := MT.next t2 hb3'
                       have y3 := below_next y2 hb3'
                       obtain ⟨x30, x31, x32⟩ := BxM.cells (MK.get t3 4 rfl)
                       obtain ⟨x33, x34, x35⟩ := BxM.cells (MK.get t3 5 rfl)
                       have x36 := (y3.cell (p := ⟨b1, o1 + s, none⟩) hb1).trans hc1
                       dsimp only)
                    | fail)
                all_goals
                  go_wp2_with fail
                  go_meet
                  exact ⟨rfl, y3⟩
              case rest =>
              obtain ⟨rfl, hbc⟩ := hcut
              have hbr2 := Lib.hid (below_next hbr.out hbc)
              clear sI hbc hc1
              go_wp2_with fail
              go_roundw
              case rel => exact ⟨s + 1, by omega, by go_num, hbr2⟩
              case measure => simp [intOf]; omega
            · have hF := Lib.hid sI.2.1
              clear sI
              by_cases hsq2 : s < q
              · have hβf : β = false := by
                  cases hb : β with
                  | false => rfl
                  | true => exact absurd ⟨hsq2, hb⟩ hsq
                subst hβf
                have hsq' : decide ((s : Int) < q) = true := decide_eq_true (by omega)
                have hsqi : (s : Int) < q := by omega
                go_wp2_with fail
                refine (qlives_walk _).mono ?_
                rintro e w10 ⟨rfl, hbl⟩
                have hfin := Lib.hid (below_next hF.out hbl)
                clear hF hbl
                go_wp2_with fail
                go_ret
                exact ⟨rfl, hfin.out⟩
              · have hsq' : decide ((s : Int) < q) = false := decide_eq_false (by omega)
                have hsqi : ¬ (s : Int) < q := by omega
                go_wp2_with fail
                refine (qlives_walk _).mono ?_
                rintro e w10 ⟨rfl, hbl⟩
                have hfin := Lib.hid (below_next hF.out hbl)
                clear hF hbl
                go_wp2_with fail
                go_ret
                exact ⟨rfl, hfin.out⟩
      · have hzE : z = Z := by
          rcases hWn.out with ⟨_, h1⟩ | ⟨h1, _⟩
          · exact h1
          · exact absurd h1 hz
        subst hzE
        have hβf : β = false := HB0.out hz
        subst hβf
        have hzb : (z == 0) = false := by rw [beq_eq_false_iff_ne]; exact hz
        have hzn : (z != 0) = true := by simpa using hz
        have hzz : (z == z) = true := by simp
        have hF := Lib.hid sI.2.1
        have HZN := Lib.hid hz
        clear sI hWn hz
        by_cases hsq : s < q
        · have hsq' : decide ((s : Int) < q) = true := decide_eq_true (by omega)
          have hsqi : (s : Int) < q := by omega
          go_wp2_with fail
          refine (qlives_walk _).mono ?_
          rintro e w10 ⟨rfl, hbl⟩
          have hfin := Lib.hid (below_next hF.out hbl)
          clear hF hbl
          go_wp2_with fail
          go_ret
          exact ⟨rfl, hfin.out⟩
        · have hsq' : decide ((s : Int) < q) = false := decide_eq_false (by omega)
          have hsqi : ¬ (s : Int) < q := by omega
          go_wp2_with fail
          refine (qlives_walk _).mono ?_
          rintro e w10 ⟨rfl, hbl⟩
          have hfin := Lib.hid (below_next hF.out hbl)
          clear hF hbl
          go_wp2_with fail
          go_ret
          exact ⟨rfl, hfin.out⟩
end Go.Proofs.Yteegellpbihpeaa
