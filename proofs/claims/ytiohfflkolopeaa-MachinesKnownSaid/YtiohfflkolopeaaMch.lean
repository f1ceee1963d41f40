/-
  The walk of the law MachinesCheck: its cases together. No statement is proved here.
-/
import Derived.Test.YtiohfflkolopeaaMt4
import Derived.Deep.CutRange
namespace Go.Proofs.Ytiohfflkolopeaa
open Go.RowKit
open Mc (Ed Ma)

namespace Mc
theorem wd_of {m : Ma} {ws : List Int} (h : M.check ws m.i = 0) : Wd m ws ∧ ws.length ≤ 256 := by
  by_cases h1 : 16 < m.i ∨ 256 < ws.length
  · rw [M.check_limit h1] at h; cases h
  by_cases h2 : m.i < 1
  · rw [M.check_arg h1 h2] at h; cases h
  rw [M.check_in (by omega) (by omega) (by omega)] at h
  refine ⟨fun c hc => ?_, by omega⟩
  have h3 : ws.any (M.badB m.i) = false := by
    cases e : ws.any (M.badB m.i) with
    | false => rfl
    | true => simp [M.badI, e] at h
  have h4 := List.any_eq_false.1 h3 c hc
  simp [M.badB] at h4
  omega
section
variable {m : Ma} {s i : Int} {ws : List Int} {x : Ed}
theorem cmpV_no (h : chk m ≠ 0) : cmpV m = false := by unfold cmpV; rw [if_neg h]
theorem conV_no (h : chk m ≠ 0) : conV m = false := by unfold conV; rw [if_neg h]
theorem trV_no (h : chk m ≠ 0) : trV m = 0 := by unfold trV; rw [if_neg h]
theorem unV_no (h : chk m ≠ 0) : unV m = [] := by unfold unV; rw [if_neg h]
theorem stE_bad (h : chk m ≠ 0) : stE m s i = chk m := by unfold stE; rw [if_pos h]
theorem stE_out (h : chk m = 0) (hs : ¬ (0 ≤ s ∧ s < m.r.length)) : stE m s i = 1 := by unfold stE; rw [if_neg (by simp [h]), if_neg hs]
theorem stE_none (h : chk m = 0) (hs : 0 ≤ s ∧ s < m.r.length) (hi : ¬ (0 ≤ i ∧ i < m.i)) : stE m s i = 1 := by unfold stE; rw [if_neg (by simp [h]), if_pos hs, if_neg hi]
theorem stV_no (h : stE m s i ≠ 0) : stV m s i = (0, 0) := by unfold stV; rw [if_neg h]
theorem wiE_no (h : stE m s i ≠ 0) : wiE m s i x = stE m s i := by unfold wiE; rw [if_pos h]
theorem wiE_zero (v : Val m) (hs : 0 ≤ s ∧ s < m.r.length) (hi : 0 ≤ i ∧ i < m.i) : wiE m s i (0, 0) = 0 := by
  have h3 := v.o0; have h5 := v.r0
  unfold wiE
  rw [if_neg (by rw [stE_ok v hs hi]; simp), okE_in (by simp) (by simp; omega) (by simp) (by simp; omega), if_pos rfl]
theorem runE_bad (h : chk m ≠ 0) : runE m s ws = chk m := by unfold runE; rw [if_pos h]
theorem runE_out (h : chk m = 0) (hs : ¬ (0 ≤ s ∧ s < m.r.length)) : runE m s ws = 1 := by unfold runE; rw [if_neg (by simp [h]), if_neg hs]
theorem runE_in (h : chk m = 0) (hs : 0 ≤ s ∧ s < m.r.length) : runE m s ws = M.check ws m.i := by unfold runE; rw [if_neg (by simp [h]), if_pos hs]
theorem runV_no (h : runE m s ws ≠ 0) : runV m s ws = [] := by unfold runV; rw [if_neg h]
theorem aftV_no (h : runE m s ws ≠ 0) : aftV m s ws = 0 := by unfold aftV; rw [if_neg h]
theorem runV_yes (h : runE m s ws = 0) : runV m s ws = run m s ws := by unfold runV; rw [if_pos h]
theorem aftV_yes (h : runE m s ws = 0) : aftV m s ws = aft m s ws := by unfold aftV; rw [if_pos h]
end
end Mc
theorem rwcheck_at (A : Option Addr) (k c : Nat) (zs : List Int) (n : Int) (w : World) (h : Rd w A zs) (hk : zs.length = k) :
    Calls Try.prog 21 #[.slice A k c, .int .i64 n] w fun e w' => e = .returned (.int .i64 (M.check zs n)) ∧ Below w.heap.size w w' := by
  subst hk
  exact (rcheck_any A c zs n w h).mono fun e w' h => h
/-- What is known behind With: its result lies in a box of the call's own. -/
structure WiR (w : World) (G : Nat) (gi go : Int) (B : Option Addr) (j : Nat) (wx : World) : Prop where
  bg : BxM wx G gi go B j j
  bel : Below w.heap.size w wx

set_option maxRecDepth 100000 in
set_option maxHeartbeats 4000000 in
theorem lawCheck_A {E : World → Prop} (P : Pm E) (i o : Int) (rs : List (List Ed)) (A : Option Addr) (c : Nat) (p0 p1 : Int) (U : Option Addr) (d : Nat) (ws : List Int) (w : World) (he : E w) (hr : RdR w A rs) (hw : Rd w U ws) (hwd : ws.length ≤ d) (hg : Mc.grt rs ≠ 1) (hk : ws.length ≤ 300) (hC : Mc.chk ⟨i, o, rs⟩ ≠ 0) :
    Calls Try.prog 3 #[.agg #[.int .i64 i, .int .i64 o, .slice A rs.length c], .agg #[.int .i64 p0, .int .i64 p1], .slice U ws.length d] w fun e w' => e = .returned (.bool true) ∧ Below w.heap.size w w' := by
  have hgr := Lib.hid (Mc.grt_ok hg)
  have hrow := Lib.hid (fun row (h : row ∈ rs) => (show row.length ≤ 1000000 by have := hgr.out.2 row h; omega))
  obtain ⟨L, hL⟩ : ∃ L, rs.length = L := ⟨_, rfl⟩
  obtain ⟨K, hK⟩ : ∃ K, ws.length = K := ⟨_, rfl⟩
  have hL70 : L ≤ 70 := by rw [← hL]; exact hgr.out.1
  obtain ⟨g, hgg, hg1⟩ : ∃ g, Mc.grt rs = g ∧ (g == 1) = false := ⟨_, rfl, by rw [beq_eq_false_iff_ne]; exact hg⟩
  have CG := fun w hr => great_any i o rs A L c w hr hL
  rw [hgg] at CG
  clear hg hgg
  obtain ⟨C, hCC⟩ : ∃ C, Mc.chk ⟨i, o, rs⟩ = C := ⟨_, rfl⟩
  have hst := Mc.stE_bad (s := p0) (i := p1) hC
  have hru := Mc.runE_bad (s := p0) (ws := ws) hC
  have hcm := Mc.cmpV_no hC
  have hco := Mc.conV_no hC
  have htr := Mc.trV_no hC
  have hun := Mc.unV_no hC
  have hwi := Mc.wiE_no (x := (0, 0)) (show Mc.stE ⟨i, o, rs⟩ p0 p1 ≠ 0 by rw [hst]; exact hC)
  have hsv := Mc.stV_no (show Mc.stE ⟨i, o, rs⟩ p0 p1 ≠ 0 by rw [hst]; exact hC)
  have hrv := Mc.runV_no (show Mc.runE ⟨i, o, rs⟩ p0 ws ≠ 0 by rw [hru]; exact hC)
  have hav := Mc.aftV_no (show Mc.runE ⟨i, o, rs⟩ p0 ws ≠ 0 by rw [hru]; exact hC)
  have hwv := Mc.wiV_no (m := ⟨i, o, rs⟩) (s := p0.toNat) (k := p1.toNat) (x := (0, 0))
  have hsm : Mc.samV ⟨i, o, rs⟩ ⟨i, o, rs⟩ = false := by rw [Mc.samV_self, beq_eq_false_iff_ne]; exact hC
  have hwv : Mc.wiV ⟨i, o, rs⟩ p0 p1 (0, 0) = ⟨0, 0, []⟩ := by unfold Mc.wiV; rw [if_neg (by rw [hwi, hst]; exact hC)]
  rw [hst] at hwi
  rw [hCC] at hst hru hwi
  have hCb : (C == 0) = false := by rw [beq_eq_false_iff_ne, ← hCC]; exact hC
  have hCe : (C == C) = true := beq_self_eq_true _
  have hCn : ¬ C = 0 := by rw [← hCC]; exact hC
  have hCm : (C != 0) = true := by simpa using hCn
  obtain ⟨v1, hv1⟩ : ∃ v, Mc.cmpV ⟨i, o, rs⟩ = v := ⟨_, rfl⟩
  obtain ⟨v2, hv2⟩ : ∃ v, Mc.conV ⟨i, o, rs⟩ = v := ⟨_, rfl⟩
  obtain ⟨v3, hv3⟩ : ∃ v, Mc.trV ⟨i, o, rs⟩ = v := ⟨_, rfl⟩
  obtain ⟨v4, hv4⟩ : ∃ v, Mc.unV ⟨i, o, rs⟩ = v := ⟨_, rfl⟩
  obtain rfl : v1 = false := hv1.symm.trans hcm
  obtain rfl : v2 = false := hv2.symm.trans hco
  obtain rfl : v3 = 0 := hv3.symm.trans htr
  obtain rfl : v4 = [] := hv4.symm.trans hun
  clear hcm hco htr hun hC
  have C0 := fun w hr => rmcheck_at ⟨i, o, rs⟩ i o A L c w rfl rfl hL hr (by omega)
  have C1 := fun w he hr => P.complete i o rs A L c w he hr hL (by omega) hrow.out
  have C2 := fun w he hr => P.connected i o rs A L c w he hr hL (by omega) hrow.out
  have C3 := fun w he hr => P.transitions i o rs A L c w he hr hL (by omega) hrow.out
  have C4 := fun w he hr => P.undefined i o rs A L c w he hr hL (by omega) hrow.out
  have C5 := fun w he hr => P.check i o rs A L c w he hr hL (by omega) hrow.out
  have C6 := fun w he hr => P.same i o i o rs rs A A L c L c w he hr hr hL (by omega) hrow.out hL (by omega) hrow.out
  have C7 := fun w he hr => P.step i o p0 p1 rs A L c w he hr hL (by omega) hrow.out
  have C8 := fun w he hr => P.with_ i o p0 p1 0 0 rs A L c w he hr hL (by omega) hrow.out
  have C9 := fun w he hr hw => P.run i o p0 rs ws A U L c K d w he hr hw hL (by omega) hrow.out hK (by omega)
  have C10 := fun w he hr hw => P.after i o p0 rs ws A U L c K d w he hr hw hL (by omega) hrow.out hK (by omega)
  simp only [hCC] at C0
  simp only [hCC, hv1] at C1
  simp only [hCC, hv2] at C2
  simp only [hCC, hv3] at C3
  simp only [hCC, hv4] at C4
  simp only [hCC] at C5
  simp only [hsm] at C6
  simp only [hst, hsv] at C7
  simp only [hwi, hwv] at C8
  simp only [hru, hrv] at C9
  simp only [hru, hav] at C10
  rw [hL, hK]
  have HL := Lib.hid hL
  have HK := Lib.hid hK
  have HCC := Lib.hid hCC
  clear hst hsv hwi hwv hru hrv hav hsm hv1 hv2 hv3 hv4
  have hK3 : ¬ (300 : Int) < K := by omega
  have hKd : K ≤ d := by omega
  clear hL hK hCC hwd hk
  have s0 := ((MK.start he).putR hr).putL hw
  clear he hr hw
  go_enter Try.func3, Try.ntmps3
  have s1 := ((s0.alloc P (.cells #[.int .i64 i, .int .i64 o, .slice A L c] 24)).putB (g := w.heap.size) (heap_alloc_new w _)).alloc P (.cells #[.int .i64 p0, .int .i64 p1] 25) |>.putO (g := w.heap.size + 1) (o := .cells #[.int .i64 p0, .int .i64 p1] 25) (by
      have h := heap_alloc_new (boxM w i o A L c) (.cells #[.int .i64 p0, .int .i64 p1] 25)
      rw [show (boxM w i o A L c).heap.size = w.heap.size + 1 by simp] at h
      exact h)
  clear s0
  go_wp2_with fail
  refine (CG _ (s1.get 3 rfl)).mono ?_
  rintro e w1 ⟨rfl, hbl⟩
  have s2 := s1.next P hbl
  clear s1 hbl CG
  obtain ⟨b0, b1, b2⟩ := BxM.cells (s2.get 1 rfl)
  go_wp2_with fail
  clear b0 b1 b2
  refine (C0 _ (s2.get 3 rfl)).mono ?_
  rintro e w2 ⟨rfl, hbl⟩
  have s3 := (s2.next P hbl)
  clear s2 hbl
  obtain ⟨b0, b1, b2⟩ := BxM.cells (s3.get 1 rfl)
  go_wp2_with fail
  clear b0 b1 b2
  refine (C1 _ s3.1 (s3.get 3 rfl)).mono ?_
  rintro e w3 ⟨rfl, hbl⟩
  have s4 := (s3.next P hbl)
  clear s3 hbl
  obtain ⟨b0, b1, b2⟩ := BxM.cells (s4.get 1 rfl)
  go_wp2_with fail
  clear b0 b1 b2
  refine (C2 _ s4.1 (s4.get 3 rfl)).mono ?_
  rintro e w4 ⟨rfl, hbl⟩
  have s5 := (s4.next P hbl)
  clear s4 hbl
  obtain ⟨b0, b1, b2⟩ := BxM.cells (s5.get 1 rfl)
  go_wp2_with fail
  clear b0 b1 b2
  refine (C3 _ s5.1 (s5.get 3 rfl)).mono ?_
  rintro e w5 ⟨rfl, hbl⟩
  have s6 := (s5.next P hbl)
  clear s5 hbl
  obtain ⟨b0, b1, b2⟩ := BxM.cells (s6.get 1 rfl)
  go_wp2_with fail
  clear b0 b1 b2
  refine (C4 _ s6.1 (s6.get 3 rfl)).mono ?_
  rintro e w6 ⟨B, n, rfl, hun, _, hbl⟩
  have s7 := (s6.next P hbl)
  clear s6 hbl
  obtain rfl : 0 = n := hun.out
  obtain ⟨b0, b1, b2⟩ := BxM.cells (s7.get 1 rfl)
  go_wp2_with fail
  clear b0 b1 b2
  refine (C5 _ s7.1 (s7.get 3 rfl)).mono ?_
  rintro e w7 ⟨rfl, hbl⟩
  have s8 := (s7.next P hbl)
  clear s7 hbl
  obtain ⟨b0, b1, b2⟩ := BxM.cells (s8.get 1 rfl)
  go_wp2_with fail
  clear b0 b1 b2
  refine (C6 _ s8.1 (s8.get 3 rfl)).mono ?_
  rintro e w8 ⟨rfl, hbl⟩
  have s9 := (s8.next P hbl)
  clear s8 hbl
  have hpl : w8.heap[w.heap.size + 1]? = some (.cells #[.int .i64 p0, .int .i64 p1] 25) := s9.get 0 rfl
  have l0 : w8.cell? ⟨w.heap.size + 1, 0, none⟩ = some (.int .i64 p0) := by rw [cell_of_row _ _ _ _ _ _ hpl]; rfl
  have l1 : w8.cell? ⟨w.heap.size + 1, 1, none⟩ = some (.int .i64 p1) := by rw [cell_of_row _ _ _ _ _ _ hpl]; rfl
  clear hpl
  go_wp2_with fail
  go_quiet (fail)
  clear l0 l1
  have s10 := s9.next P (below_drewN' (Below.refl _ _) nq)
  clear s9
  obtain ⟨W, hW⟩ : ∃ W, w8.drewN nq = W := ⟨_, rfl⟩
  rw [hW] at s10 ⊢
  clear hW
  obtain ⟨b0, b1, b2⟩ := BxM.cells (s10.get 1 rfl)
  go_wp2_with fail
  clear b0 b1 b2
  refine (C7 _ s10.1 (s10.get 3 rfl)).mono ?_
  rintro e w9 ⟨rfl, hbl⟩
  have s11 := (s10.next P hbl)
  clear s10 hbl
  have s12 := (s11.alloc P (.cells #[.int .i64 0, .int .i64 0] 39)).putE (g := w9.heap.size) (heap_alloc_new w9 _)
  clear s11
  go_upto_region 14 with fail
  obtain ⟨W2, hW2⟩ : ∃ W, w9.alloc (.cells #[.int .i64 0, .int .i64 0] 39) = W := ⟨_, rfl⟩
  rw [hW2] at s12 ⊢
  clear hW2
  have hE := s12.1
  have HR := Lib.hid (show RdR W2 A rs from s12.get 4 rfl)
  have hBm : BxM W2 w.heap.size i o A L c := s12.get 2 rfl
  have HKS : Hid (∀ W : World, Below W2.heap.size W2 W → (W.cell? ⟨w.heap.size, 0, none⟩ = some (.int .i64 i) ∧ W.cell? ⟨w.heap.size, 1, none⟩ = some (.int .i64 o) ∧ W.cell? ⟨w.heap.size, 2, none⟩ = some (.slice A L c))) := fun W hW => (hBm.to hW).cells
  clear hBm
  go_cut [20, 21] from 132 to 139 (fun u v wx => ∃ (G : Nat) (B : Option Addr) , u = .pointer (some ⟨G, 0, none⟩) ∧ v = .int .i64 C ∧ Hid (WiR W2 G 0 0 B 0 wx))
  case first =>
    go_region_held3 (fun W => W.cell? ⟨w.heap.size, 0, none⟩ = some (.int .i64 i) ∧ W.cell? ⟨w.heap.size, 1, none⟩ = some (.int .i64 o) ∧ W.cell? ⟨w.heap.size, 2, none⟩ = some (.slice A L c))
      ((refine HKS.out _ ?_; repeat (with_reducible (first | refine bS ?_ (by omega) _ | refine bA ?_ _ | refine bD ?_ | exact Below.refl _ _ | refine below_next ?_ (by assumption)))))
      (first
        | (go_at_call 20
           (with_reducible refine (edge_any 0 0 _).mono ?_)
           rintro e wA ⟨rfl, hbA⟩
           have zA := hbA.size
           try simp at zA
           try (with_reducible have bA0 := BxM.toD (BxM.new1 W2) hbA)
           try obtain ⟨⟨x00, x01, x02⟩, ⟨x03, x04, x05⟩, x06⟩ := bA0.all
           dsimp only)
        | (go_at_call 19
           (with_reducible refine (C8 _ (P.keep hE (by repeat (with_reducible (first | refine bA ?_ _ | refine bD ?_ | exact Below.refl _ _ | refine below_next ?_ (by assumption))))) (HR.out.below (by repeat (with_reducible (first | refine bA ?_ _ | refine bD ?_ | exact Below.refl _ _ | refine below_next ?_ (by assumption)))))).mono ?_)
           rintro e wB ⟨B2, j2, vs2, rfl, hj2, _, hbB⟩
           obtain rfl : 0 = j2 := hj2.out
           have zB := hbB.size
           try simp at zB
           try (with_reducible have bB0 := BxM.to bA0 hbB)
           try (with_reducible have bB2 := BxM.to (BxM.new1 wA) hbB)
           try obtain ⟨⟨y00, y01, y02⟩, ⟨y03, y04, y05⟩, y06⟩ := bB0.all
           try obtain ⟨⟨y20, y21, y22⟩, ⟨y23, y24, y25⟩, y26⟩ := bB2.all
           dsimp only)
        | fail)
    all_goals
      go_wp2_with fail
      go_meet
      refine ⟨_, B2, rfl, rfl, ?_⟩
      refine ⟨?_, ?_⟩
      · repeat (with_reducible (first | exact BxM.new _ _ _ _ _ _ | exact BxM.set3 (by first | assumption | exact BxM.al (by assumption) _) | refine BxM.al ?_ _))
      · repeat (with_reducible (first | refine bS ?_ (by omega) _ | refine bA ?_ _ | refine bD ?_ | exact Below.refl _ _ | refine below_next ?_ (by assumption)))
  case rest =>
  obtain ⟨G, B2, rfl, rfl, hWi⟩ := hcut
  have s13 := (s12.next P hWi.out.bel).putB hWi.out.bg
  clear s12 hWi HKS HR hE C0 C1 C2 C3 C4 C5 C6 C7 C8
  obtain ⟨m0, m1, m2⟩ := BxM.cells (s13.get 3 rfl)
  obtain ⟨o0, o1, o2⟩ := BxM.cells (s13.get 0 rfl)
  obtain ⟨t0, t1, _, _⟩ := BxE.cells (s13.get 1 rfl)
  have hlm : w.heap.size < wc.heap.size := heap_lt (s13.get 3 rfl)
  have hlo : G < wc.heap.size := heap_lt (s13.get 0 rfl)
  have hle : w9.heap.size < wc.heap.size := heap_lt (s13.get 1 rfl)
  have hrun : ∀ w, (binOp .neq 39 (.agg #[.int .i64 0, .int .i64 0]) (.agg #[.int .i64 0, .int .i64 0])).run Try.prog w = .ok (.bool false) w := fun w => by rw [run_neq_edge]; simp
  have f0 : ∀ x : BW wc, x.out.cell? ⟨w.heap.size, 0, none⟩ = some (.int .i64 i) := fun x => (x.ok.cell (p := ⟨_, _, none⟩) hlm).trans m0
  have f1 : ∀ x : BW wc, x.out.cell? ⟨w.heap.size, 1, none⟩ = some (.int .i64 o) := fun x => (x.ok.cell (p := ⟨_, _, none⟩) hlm).trans m1
  have f2 : ∀ x : BW wc, x.out.cell? ⟨w.heap.size, 2, none⟩ = some (.slice A L c) := fun x => (x.ok.cell (p := ⟨_, _, none⟩) hlm).trans m2
  have f3 : ∀ x : BW wc, x.out.cell? ⟨G, 0, none⟩ = some (.int .i64 0) := fun x => (x.ok.cell (p := ⟨_, _, none⟩) hlo).trans o0
  have f4 : ∀ x : BW wc, x.out.cell? ⟨G, 1, none⟩ = some (.int .i64 0) := fun x => (x.ok.cell (p := ⟨_, _, none⟩) hlo).trans o1
  have f5 : ∀ x : BW wc, x.out.cell? ⟨G, 2, none⟩ = some (.slice B2 0 0) := fun x => (x.ok.cell (p := ⟨_, _, none⟩) hlo).trans o2
  have f6 : ∀ x : BW wc, x.out.cell? ⟨w9.heap.size, 0, none⟩ = some (.int .i64 0) := fun x => (x.ok.cell (p := ⟨_, _, none⟩) hle).trans t0
  have f7 : ∀ x : BW wc, x.out.cell? ⟨w9.heap.size, 1, none⟩ = some (.int .i64 0) := fun x => (x.ok.cell (p := ⟨_, _, none⟩) hle).trans t1
  go_wp2_with fail
  clear m0 m1 m2 o0 o1 o2 t0 t1
  refine wp_region_quiet_below (by kernel_rfl) (by kernel_rfl) ?_
  repeat (go_big_quiet_step ((rename_i x; refine (edge_any 0 0 _).mono ?_; rintro e w2 ⟨rfl, hb2⟩; exact ⟨rfl, ⟨w2, below_next x.ok hb2⟩, rfl⟩)))
  refine wpQuiet_nil ?_
  intro w20 hw20
  obtain ⟨⟨wx, hbW⟩, hw3⟩ := hw20
  dsimp only at hw3
  subst hw3
  have s14 := s13.next P hbW
  clear s13 hbW f0 f1 f2 f3 f4 f5 f6 f7 hrun hlm hlo hle
  obtain ⟨b0, b1, b2⟩ := BxM.cells (s14.get 3 rfl)
  go_wp2_with fail
  clear b0 b1 b2
  refine (C9 _ s14.1 (s14.get 5 rfl) (s14.get 4 rfl)).mono ?_
  rintro e w30 ⟨B3, j3, rfl, hj3, hrd, hbl⟩
  have s15 := (s14.next P hbl).putL hrd
  clear s14 hbl
  obtain rfl : 0 = j3 := hj3.out
  clear hrd
  obtain ⟨b0, b1, b2⟩ := BxM.cells (s15.get 4 rfl)
  go_wp2_with fail
  clear b0 b1 b2
  refine (C10 _ s15.1 (s15.get 6 rfl) (s15.get 5 rfl)).mono ?_
  rintro e w31 ⟨rfl, hbl⟩
  have s16 := (s15.next P hbl)
  clear s15 hbl
  go_wp2_with fail
  refine (list_yes B3 none 0 0 [] C _ Rd.nil_ Rd.nil_ rfl (Nat.zero_le _)).mono ?_
  rintro e w32 ⟨rfl, hbl⟩
  have s17 := s16.next P hbl
  clear s16 hbl
  go_wp2_with fail
  refine (lives_walk P _ s17.1).mono ?_
  rintro e wl ⟨rfl, hbl⟩
  have s18 := s17.next P hbl
  go_wp2
  go_ret
  exact ⟨rfl, s18.2.1⟩

set_option maxRecDepth 100000 in
set_option maxHeartbeats 4000000 in
theorem lawCheck_B {E : World → Prop} (P : Pm E) (i o : Int) (rs : List (List Ed)) (A : Option Addr) (c : Nat) (p0 p1 : Int) (U : Option Addr) (d : Nat) (ws : List Int) (w : World) (he : E w) (hr : RdR w A rs) (hw : Rd w U ws) (hwd : ws.length ≤ d) (hg : Mc.grt rs ≠ 1) (hk : ws.length ≤ 300) (hC : Mc.chk ⟨i, o, rs⟩ = 0) (hs : p0 < 0) :
    Calls Try.prog 3 #[.agg #[.int .i64 i, .int .i64 o, .slice A rs.length c], .agg #[.int .i64 p0, .int .i64 p1], .slice U ws.length d] w fun e w' => e = .returned (.bool true) ∧ Below w.heap.size w w' := by
  have hgr := Lib.hid (Mc.grt_ok hg)
  have hrow := Lib.hid (fun row (h : row ∈ rs) => (show row.length ≤ 1000000 by have := hgr.out.2 row h; omega))
  obtain ⟨L, hL⟩ : ∃ L, rs.length = L := ⟨_, rfl⟩
  obtain ⟨K, hK⟩ : ∃ K, ws.length = K := ⟨_, rfl⟩
  have hL70 : L ≤ 70 := by rw [← hL]; exact hgr.out.1
  obtain ⟨g, hgg, hg1⟩ : ∃ g, Mc.grt rs = g ∧ (g == 1) = false := ⟨_, rfl, by rw [beq_eq_false_iff_ne]; exact hg⟩
  have CG := fun w hr => great_any i o rs A L c w hr hL
  rw [hgg] at CG
  clear hg hgg
  have hCC : Mc.chk ⟨i, o, rs⟩ = 0 := hC
  have V := Lib.hid (Mc.val_of hC)
  have hsm : Mc.samV ⟨i, o, rs⟩ ⟨i, o, rs⟩ = true := by rw [Mc.samV_self, hC]; rfl
  obtain ⟨v1, hv1⟩ : ∃ v, Mc.cmpV ⟨i, o, rs⟩ = v := ⟨_, rfl⟩
  obtain ⟨v2, hv2⟩ : ∃ v, Mc.conV ⟨i, o, rs⟩ = v := ⟨_, rfl⟩
  obtain ⟨v3, hv3⟩ : ∃ v, Mc.trV ⟨i, o, rs⟩ = v := ⟨_, rfl⟩
  obtain ⟨v4, hv4⟩ : ∃ v, Mc.unV ⟨i, o, rs⟩ = v := ⟨_, rfl⟩
  have hout : ¬ (0 ≤ p0 ∧ p0 < (⟨i, o, rs⟩ : Ma).r.length) := fun h => by simp only at h; omega
  have hst := Mc.stE_out (i := p1) hC hout
  have hru := Mc.runE_out (ws := ws) hC hout
  have hrv := Mc.runV_no (show Mc.runE ⟨i, o, rs⟩ p0 ws ≠ 0 by rw [hru]; decide)
  have hav := Mc.aftV_no (show Mc.runE ⟨i, o, rs⟩ p0 ws ≠ 0 by rw [hru]; decide)
  clear hout
  have hsv := Mc.stV_no (show Mc.stE ⟨i, o, rs⟩ p0 p1 ≠ 0 by rw [hst]; decide)
  have hwi : Mc.wiE ⟨i, o, rs⟩ p0 p1 (0, 0) = 1 := by rw [Mc.wiE_no (by rw [hst]; decide), hst]
  have hwv : Mc.wiV ⟨i, o, rs⟩ p0 p1 (0, 0) = ⟨0, 0, []⟩ := by unfold Mc.wiV; rw [if_neg (by rw [hwi]; decide)]
  have C0 := fun w hr => rmcheck_at ⟨i, o, rs⟩ i o A L c w rfl rfl hL hr (by omega)
  have C1 := fun w he hr => P.complete i o rs A L c w he hr hL (by omega) hrow.out
  have C2 := fun w he hr => P.connected i o rs A L c w he hr hL (by omega) hrow.out
  have C3 := fun w he hr => P.transitions i o rs A L c w he hr hL (by omega) hrow.out
  have C4 := fun w he hr => P.undefined i o rs A L c w he hr hL (by omega) hrow.out
  have C5 := fun w he hr => P.check i o rs A L c w he hr hL (by omega) hrow.out
  have C6 := fun w he hr => P.same i o i o rs rs A A L c L c w he hr hr hL (by omega) hrow.out hL (by omega) hrow.out
  have C7 := fun w he hr => P.step i o p0 p1 rs A L c w he hr hL (by omega) hrow.out
  have C8 := fun w he hr => P.with_ i o p0 p1 0 0 rs A L c w he hr hL (by omega) hrow.out
  have C9 := fun w he hr hw => P.run i o p0 rs ws A U L c K d w he hr hw hL (by omega) hrow.out hK (by omega)
  have C10 := fun w he hr hw => P.after i o p0 rs ws A U L c K d w he hr hw hL (by omega) hrow.out hK (by omega)
  simp only [hCC] at C0
  simp only [hCC, hv1] at C1
  simp only [hCC, hv2] at C2
  simp only [hCC, hv3] at C3
  simp only [hCC, hv4] at C4
  simp only [hCC] at C5
  simp only [hsm] at C6
  simp only [hst, hsv] at C7
  simp only [hwi, hwv] at C8
  simp only [hru, hrv] at C9
  simp only [hru, hav] at C10
  rw [hL, hK]
  have HL := Lib.hid hL
  have HK := Lib.hid hK
  have HCC := Lib.hid hCC
  clear hst hsv hwi hwv hru hrv hav hsm hv1 hv2 hv3 hv4
  have hK3 : ¬ (300 : Int) < K := by omega
  have hKd : K ≤ d := by omega
  clear hC
  clear hL hK hCC hwd hk
  have s0 := ((MK.start he).putR hr).putL hw
  clear he hr hw
  go_enter Try.func3, Try.ntmps3
  have s1 := ((s0.alloc P (.cells #[.int .i64 i, .int .i64 o, .slice A L c] 24)).putB (g := w.heap.size) (heap_alloc_new w _)).alloc P (.cells #[.int .i64 p0, .int .i64 p1] 25) |>.putO (g := w.heap.size + 1) (o := .cells #[.int .i64 p0, .int .i64 p1] 25) (by
      have h := heap_alloc_new (boxM w i o A L c) (.cells #[.int .i64 p0, .int .i64 p1] 25)
      rw [show (boxM w i o A L c).heap.size = w.heap.size + 1 by simp] at h
      exact h)
  clear s0
  go_wp2_with fail
  refine (CG _ (s1.get 3 rfl)).mono ?_
  rintro e w1 ⟨rfl, hbl⟩
  have s2 := s1.next P hbl
  clear s1 hbl CG
  obtain ⟨b0, b1, b2⟩ := BxM.cells (s2.get 1 rfl)
  go_wp2_with fail
  clear b0 b1 b2
  refine (C0 _ (s2.get 3 rfl)).mono ?_
  rintro e w2 ⟨rfl, hbl⟩
  have s3 := (s2.next P hbl)
  clear s2 hbl
  obtain ⟨b0, b1, b2⟩ := BxM.cells (s3.get 1 rfl)
  go_wp2_with fail
  clear b0 b1 b2
  refine (C1 _ s3.1 (s3.get 3 rfl)).mono ?_
  rintro e w3 ⟨rfl, hbl⟩
  have s4 := (s3.next P hbl)
  clear s3 hbl
  obtain ⟨b0, b1, b2⟩ := BxM.cells (s4.get 1 rfl)
  go_wp2_with fail
  clear b0 b1 b2
  refine (C2 _ s4.1 (s4.get 3 rfl)).mono ?_
  rintro e w4 ⟨rfl, hbl⟩
  have s5 := (s4.next P hbl)
  clear s4 hbl
  obtain ⟨b0, b1, b2⟩ := BxM.cells (s5.get 1 rfl)
  go_wp2_with fail
  clear b0 b1 b2
  refine (C3 _ s5.1 (s5.get 3 rfl)).mono ?_
  rintro e w5 ⟨rfl, hbl⟩
  have s6 := (s5.next P hbl)
  clear s5 hbl
  obtain ⟨b0, b1, b2⟩ := BxM.cells (s6.get 1 rfl)
  go_wp2_with fail
  clear b0 b1 b2
  refine (C4 _ s6.1 (s6.get 3 rfl)).mono ?_
  rintro e w6 ⟨B, n, rfl, hun, _, hbl⟩
  have s7 := (s6.next P hbl)
  clear s6 hbl
  obtain ⟨b0, b1, b2⟩ := BxM.cells (s7.get 1 rfl)
  go_wp2_with fail
  clear b0 b1 b2
  refine (C5 _ s7.1 (s7.get 3 rfl)).mono ?_
  rintro e w7 ⟨rfl, hbl⟩
  have s8 := (s7.next P hbl)
  clear s7 hbl
  obtain ⟨b0, b1, b2⟩ := BxM.cells (s8.get 1 rfl)
  go_wp2_with fail
  clear b0 b1 b2
  refine (C6 _ s8.1 (s8.get 3 rfl)).mono ?_
  rintro e w8 ⟨rfl, hbl⟩
  have s9 := (s8.next P hbl)
  clear s8 hbl
  have hpl : w8.heap[w.heap.size + 1]? = some (.cells #[.int .i64 p0, .int .i64 p1] 25) := s9.get 0 rfl
  have l0 : w8.cell? ⟨w.heap.size + 1, 0, none⟩ = some (.int .i64 p0) := by rw [cell_of_row _ _ _ _ _ _ hpl]; rfl
  have l1 : w8.cell? ⟨w.heap.size + 1, 1, none⟩ = some (.int .i64 p1) := by rw [cell_of_row _ _ _ _ _ _ hpl]; rfl
  clear hpl
  go_wp2_with fail
  go_quiet (fail)
  clear l0 l1
  have s10 := s9.next P (below_drewN' (Below.refl _ _) nq)
  clear s9
  obtain ⟨W, hW⟩ : ∃ W, w8.drewN nq = W := ⟨_, rfl⟩
  rw [hW] at s10 ⊢
  clear hW
  obtain ⟨b0, b1, b2⟩ := BxM.cells (s10.get 1 rfl)
  go_wp2_with fail
  clear b0 b1 b2
  refine (C7 _ s10.1 (s10.get 3 rfl)).mono ?_
  rintro e w9 ⟨rfl, hbl⟩
  have s11 := (s10.next P hbl)
  clear s10 hbl
  have s12 := (s11.alloc P (.cells #[.int .i64 0, .int .i64 0] 39)).putE (g := w9.heap.size) (heap_alloc_new w9 _)
  clear s11
  go_upto_region 14 with fail
  obtain ⟨W2, hW2⟩ : ∃ W, w9.alloc (.cells #[.int .i64 0, .int .i64 0] 39) = W := ⟨_, rfl⟩
  rw [hW2] at s12 ⊢
  clear hW2
  have hE := s12.1
  have HR := Lib.hid (show RdR W2 A rs from s12.get 4 rfl)
  have hBm : BxM W2 w.heap.size i o A L c := s12.get 2 rfl
  have HKS : Hid (∀ W : World, Below W2.heap.size W2 W → (W.cell? ⟨w.heap.size, 0, none⟩ = some (.int .i64 i) ∧ W.cell? ⟨w.heap.size, 1, none⟩ = some (.int .i64 o) ∧ W.cell? ⟨w.heap.size, 2, none⟩ = some (.slice A L c))) := fun W hW => (hBm.to hW).cells
  clear hBm
  go_cut [20, 21] from 132 to 139 (fun u v wx => ∃ (G : Nat) (B : Option Addr) , u = .pointer (some ⟨G, 0, none⟩) ∧ v = .int .i64 1 ∧ Hid (WiR W2 G 0 0 B 0 wx))
  case first =>
    go_region_held3 (fun W => W.cell? ⟨w.heap.size, 0, none⟩ = some (.int .i64 i) ∧ W.cell? ⟨w.heap.size, 1, none⟩ = some (.int .i64 o) ∧ W.cell? ⟨w.heap.size, 2, none⟩ = some (.slice A L c))
      ((refine HKS.out _ ?_; repeat (with_reducible (first | refine bS ?_ (by omega) _ | refine bA ?_ _ | refine bD ?_ | exact Below.refl _ _ | refine below_next ?_ (by assumption)))))
      (first
        | (go_at_call 20
           (with_reducible refine (edge_any 0 0 _).mono ?_)
           rintro e wA ⟨rfl, hbA⟩
           have zA := hbA.size
           try simp at zA
           try (with_reducible have bA0 := BxM.toD (BxM.new1 W2) hbA)
           try obtain ⟨⟨x00, x01, x02⟩, ⟨x03, x04, x05⟩, x06⟩ := bA0.all
           dsimp only)
        | (go_at_call 19
           (with_reducible refine (C8 _ (P.keep hE (by repeat (with_reducible (first | refine bA ?_ _ | refine bD ?_ | exact Below.refl _ _ | refine below_next ?_ (by assumption))))) (HR.out.below (by repeat (with_reducible (first | refine bA ?_ _ | refine bD ?_ | exact Below.refl _ _ | refine below_next ?_ (by assumption)))))).mono ?_)
           rintro e wB ⟨B2, j2, vs2, rfl, hj2, _, hbB⟩
           obtain rfl : 0 = j2 := hj2.out
           have zB := hbB.size
           try simp at zB
           try (with_reducible have bB0 := BxM.to bA0 hbB)
           try (with_reducible have bB2 := BxM.to (BxM.new1 wA) hbB)
           try obtain ⟨⟨y00, y01, y02⟩, ⟨y03, y04, y05⟩, y06⟩ := bB0.all
           try obtain ⟨⟨y20, y21, y22⟩, ⟨y23, y24, y25⟩, y26⟩ := bB2.all
           dsimp only)
        | fail)
    all_goals
      go_wp2_with fail
      go_meet
      refine ⟨_, B2, rfl, rfl, ?_⟩
      refine ⟨?_, ?_⟩
      · repeat (with_reducible (first | exact BxM.new _ _ _ _ _ _ | exact BxM.set3 (by first | assumption | exact BxM.al (by assumption) _) | refine BxM.al ?_ _))
      · repeat (with_reducible (first | refine bS ?_ (by omega) _ | refine bA ?_ _ | refine bD ?_ | exact Below.refl _ _ | refine below_next ?_ (by assumption)))
  case rest =>
  obtain ⟨G, B2, rfl, rfl, hWi⟩ := hcut
  have s13 := (s12.next P hWi.out.bel).putB hWi.out.bg
  clear s12 hWi HKS HR hE C0 C1 C2 C3 C4 C5 C6 C7 C8
  obtain ⟨m0, m1, m2⟩ := BxM.cells (s13.get 3 rfl)
  obtain ⟨o0, o1, o2⟩ := BxM.cells (s13.get 0 rfl)
  obtain ⟨t0, t1, _, _⟩ := BxE.cells (s13.get 1 rfl)
  have hlm : w.heap.size < wc.heap.size := heap_lt (s13.get 3 rfl)
  have hlo : G < wc.heap.size := heap_lt (s13.get 0 rfl)
  have hle : w9.heap.size < wc.heap.size := heap_lt (s13.get 1 rfl)
  have hrun : ∀ w, (binOp .neq 39 (.agg #[.int .i64 0, .int .i64 0]) (.agg #[.int .i64 0, .int .i64 0])).run Try.prog w = .ok (.bool false) w := fun w => by rw [run_neq_edge]; simp
  have f0 : ∀ x : BW wc, x.out.cell? ⟨w.heap.size, 0, none⟩ = some (.int .i64 i) := fun x => (x.ok.cell (p := ⟨_, _, none⟩) hlm).trans m0
  have f1 : ∀ x : BW wc, x.out.cell? ⟨w.heap.size, 1, none⟩ = some (.int .i64 o) := fun x => (x.ok.cell (p := ⟨_, _, none⟩) hlm).trans m1
  have f2 : ∀ x : BW wc, x.out.cell? ⟨w.heap.size, 2, none⟩ = some (.slice A L c) := fun x => (x.ok.cell (p := ⟨_, _, none⟩) hlm).trans m2
  have f3 : ∀ x : BW wc, x.out.cell? ⟨G, 0, none⟩ = some (.int .i64 0) := fun x => (x.ok.cell (p := ⟨_, _, none⟩) hlo).trans o0
  have f4 : ∀ x : BW wc, x.out.cell? ⟨G, 1, none⟩ = some (.int .i64 0) := fun x => (x.ok.cell (p := ⟨_, _, none⟩) hlo).trans o1
  have f5 : ∀ x : BW wc, x.out.cell? ⟨G, 2, none⟩ = some (.slice B2 0 0) := fun x => (x.ok.cell (p := ⟨_, _, none⟩) hlo).trans o2
  have f6 : ∀ x : BW wc, x.out.cell? ⟨w9.heap.size, 0, none⟩ = some (.int .i64 0) := fun x => (x.ok.cell (p := ⟨_, _, none⟩) hle).trans t0
  have f7 : ∀ x : BW wc, x.out.cell? ⟨w9.heap.size, 1, none⟩ = some (.int .i64 0) := fun x => (x.ok.cell (p := ⟨_, _, none⟩) hle).trans t1
  go_wp2_with fail
  clear m0 m1 m2 o0 o1 o2 t0 t1
  refine wp_region_quiet_below (by kernel_rfl) (by kernel_rfl) ?_
  repeat (go_big_quiet_step ((rename_i x; refine (edge_any 0 0 _).mono ?_; rintro e w2 ⟨rfl, hb2⟩; exact ⟨rfl, ⟨w2, below_next x.ok hb2⟩, rfl⟩)))
  refine wpQuiet_nil ?_
  intro w20 hw20
  obtain ⟨⟨wx, hbW⟩, hw3⟩ := hw20
  dsimp only at hw3
  subst hw3
  have s14 := s13.next P hbW
  clear s13 hbW f0 f1 f2 f3 f4 f5 f6 f7 hrun hlm hlo hle
  obtain ⟨b0, b1, b2⟩ := BxM.cells (s14.get 3 rfl)
  go_wp2_with fail
  clear b0 b1 b2
  refine (C9 _ s14.1 (s14.get 5 rfl) (s14.get 4 rfl)).mono ?_
  rintro e w30 ⟨B3, j3, rfl, hj3, hrd, hbl⟩
  have s15 := (s14.next P hbl).putL hrd
  clear s14 hbl
  obtain rfl : 0 = j3 := hj3.out
  clear hrd
  obtain ⟨b0, b1, b2⟩ := BxM.cells (s15.get 4 rfl)
  go_wp2_with fail
  clear b0 b1 b2
  refine (C10 _ s15.1 (s15.get 6 rfl) (s15.get 5 rfl)).mono ?_
  rintro e w31 ⟨rfl, hbl⟩
  have s16 := (s15.next P hbl)
  clear s15 hbl
  go_wp2_with fail
  refine (list_yes B3 none 0 0 [] 1 _ Rd.nil_ Rd.nil_ rfl (Nat.zero_le _)).mono ?_
  rintro e w32 ⟨rfl, hbl⟩
  have s17 := s16.next P hbl
  clear s16 hbl
  go_wp2_with fail
  refine (lives_walk P _ s17.1).mono ?_
  rintro e wl ⟨rfl, hbl⟩
  have s18 := s17.next P hbl
  go_wp2
  go_ret
  exact ⟨rfl, s18.2.1⟩

set_option maxRecDepth 100000 in
set_option maxHeartbeats 4000000 in
theorem lawCheck_D {E : World → Prop} (P : Pm E) (i o : Int) (rs : List (List Ed)) (A : Option Addr) (c : Nat) (p0 p1 : Int) (U : Option Addr) (d : Nat) (ws : List Int) (w : World) (he : E w) (hr : RdR w A rs) (hw : Rd w U ws) (hwd : ws.length ≤ d) (hg : Mc.grt rs ≠ 1) (hk : ws.length ≤ 300) (hC : Mc.chk ⟨i, o, rs⟩ = 0) (hs : 0 ≤ p0) (hs2 : (rs.length : Int) ≤ p0) :
    Calls Try.prog 3 #[.agg #[.int .i64 i, .int .i64 o, .slice A rs.length c], .agg #[.int .i64 p0, .int .i64 p1], .slice U ws.length d] w fun e w' => e = .returned (.bool true) ∧ Below w.heap.size w w' := by
  have hgr := Lib.hid (Mc.grt_ok hg)
  have hrow := Lib.hid (fun row (h : row ∈ rs) => (show row.length ≤ 1000000 by have := hgr.out.2 row h; omega))
  obtain ⟨L, hL⟩ : ∃ L, rs.length = L := ⟨_, rfl⟩
  obtain ⟨K, hK⟩ : ∃ K, ws.length = K := ⟨_, rfl⟩
  have hL70 : L ≤ 70 := by rw [← hL]; exact hgr.out.1
  obtain ⟨g, hgg, hg1⟩ : ∃ g, Mc.grt rs = g ∧ (g == 1) = false := ⟨_, rfl, by rw [beq_eq_false_iff_ne]; exact hg⟩
  have CG := fun w hr => great_any i o rs A L c w hr hL
  rw [hgg] at CG
  clear hg hgg
  have hCC : Mc.chk ⟨i, o, rs⟩ = 0 := hC
  have V := Lib.hid (Mc.val_of hC)
  have hsm : Mc.samV ⟨i, o, rs⟩ ⟨i, o, rs⟩ = true := by rw [Mc.samV_self, hC]; rfl
  obtain ⟨v1, hv1⟩ : ∃ v, Mc.cmpV ⟨i, o, rs⟩ = v := ⟨_, rfl⟩
  obtain ⟨v2, hv2⟩ : ∃ v, Mc.conV ⟨i, o, rs⟩ = v := ⟨_, rfl⟩
  obtain ⟨v3, hv3⟩ : ∃ v, Mc.trV ⟨i, o, rs⟩ = v := ⟨_, rfl⟩
  obtain ⟨v4, hv4⟩ : ∃ v, Mc.unV ⟨i, o, rs⟩ = v := ⟨_, rfl⟩
  have hout : ¬ (0 ≤ p0 ∧ p0 < (⟨i, o, rs⟩ : Ma).r.length) := fun h => by simp only at h; omega
  have hst := Mc.stE_out (i := p1) hC hout
  have hru := Mc.runE_out (ws := ws) hC hout
  have hrv := Mc.runV_no (show Mc.runE ⟨i, o, rs⟩ p0 ws ≠ 0 by rw [hru]; decide)
  have hav := Mc.aftV_no (show Mc.runE ⟨i, o, rs⟩ p0 ws ≠ 0 by rw [hru]; decide)
  clear hout
  have hsv := Mc.stV_no (show Mc.stE ⟨i, o, rs⟩ p0 p1 ≠ 0 by rw [hst]; decide)
  have hwi : Mc.wiE ⟨i, o, rs⟩ p0 p1 (0, 0) = 1 := by rw [Mc.wiE_no (by rw [hst]; decide), hst]
  have hwv : Mc.wiV ⟨i, o, rs⟩ p0 p1 (0, 0) = ⟨0, 0, []⟩ := by unfold Mc.wiV; rw [if_neg (by rw [hwi]; decide)]
  have C0 := fun w hr => rmcheck_at ⟨i, o, rs⟩ i o A L c w rfl rfl hL hr (by omega)
  have C1 := fun w he hr => P.complete i o rs A L c w he hr hL (by omega) hrow.out
  have C2 := fun w he hr => P.connected i o rs A L c w he hr hL (by omega) hrow.out
  have C3 := fun w he hr => P.transitions i o rs A L c w he hr hL (by omega) hrow.out
  have C4 := fun w he hr => P.undefined i o rs A L c w he hr hL (by omega) hrow.out
  have C5 := fun w he hr => P.check i o rs A L c w he hr hL (by omega) hrow.out
  have C6 := fun w he hr => P.same i o i o rs rs A A L c L c w he hr hr hL (by omega) hrow.out hL (by omega) hrow.out
  have C7 := fun w he hr => P.step i o p0 p1 rs A L c w he hr hL (by omega) hrow.out
  have C8 := fun w he hr => P.with_ i o p0 p1 0 0 rs A L c w he hr hL (by omega) hrow.out
  have C9 := fun w he hr hw => P.run i o p0 rs ws A U L c K d w he hr hw hL (by omega) hrow.out hK (by omega)
  have C10 := fun w he hr hw => P.after i o p0 rs ws A U L c K d w he hr hw hL (by omega) hrow.out hK (by omega)
  simp only [hCC] at C0
  simp only [hCC, hv1] at C1
  simp only [hCC, hv2] at C2
  simp only [hCC, hv3] at C3
  simp only [hCC, hv4] at C4
  simp only [hCC] at C5
  simp only [hsm] at C6
  simp only [hst, hsv] at C7
  simp only [hwi, hwv] at C8
  simp only [hru, hrv] at C9
  simp only [hru, hav] at C10
  rw [hL, hK]
  have HL := Lib.hid hL
  have HK := Lib.hid hK
  have HCC := Lib.hid hCC
  have hs0 : ¬ p0 < 0 := by omega
  have hsL : (L : Int) ≤ p0 := by omega
  clear hs2
  clear hst hsv hwi hwv hru hrv hav hsm hv1 hv2 hv3 hv4
  have hK3 : ¬ (300 : Int) < K := by omega
  have hKd : K ≤ d := by omega
  clear hC
  clear hL hK hCC hwd hk
  have s0 := ((MK.start he).putR hr).putL hw
  clear he hr hw
  go_enter Try.func3, Try.ntmps3
  have s1 := ((s0.alloc P (.cells #[.int .i64 i, .int .i64 o, .slice A L c] 24)).putB (g := w.heap.size) (heap_alloc_new w _)).alloc P (.cells #[.int .i64 p0, .int .i64 p1] 25) |>.putO (g := w.heap.size + 1) (o := .cells #[.int .i64 p0, .int .i64 p1] 25) (by
      have h := heap_alloc_new (boxM w i o A L c) (.cells #[.int .i64 p0, .int .i64 p1] 25)
      rw [show (boxM w i o A L c).heap.size = w.heap.size + 1 by simp] at h
      exact h)
  clear s0
  go_wp2_with fail
  refine (CG _ (s1.get 3 rfl)).mono ?_
  rintro e w1 ⟨rfl, hbl⟩
  have s2 := s1.next P hbl
  clear s1 hbl CG
  obtain ⟨b0, b1, b2⟩ := BxM.cells (s2.get 1 rfl)
  go_wp2_with fail
  clear b0 b1 b2
  refine (C0 _ (s2.get 3 rfl)).mono ?_
  rintro e w2 ⟨rfl, hbl⟩
  have s3 := (s2.next P hbl)
  clear s2 hbl
  obtain ⟨b0, b1, b2⟩ := BxM.cells (s3.get 1 rfl)
  go_wp2_with fail
  clear b0 b1 b2
  refine (C1 _ s3.1 (s3.get 3 rfl)).mono ?_
  rintro e w3 ⟨rfl, hbl⟩
  have s4 := (s3.next P hbl)
  clear s3 hbl
  obtain ⟨b0, b1, b2⟩ := BxM.cells (s4.get 1 rfl)
  go_wp2_with fail
  clear b0 b1 b2
  refine (C2 _ s4.1 (s4.get 3 rfl)).mono ?_
  rintro e w4 ⟨rfl, hbl⟩
  have s5 := (s4.next P hbl)
  clear s4 hbl
  obtain ⟨b0, b1, b2⟩ := BxM.cells (s5.get 1 rfl)
  go_wp2_with fail
  clear b0 b1 b2
  refine (C3 _ s5.1 (s5.get 3 rfl)).mono ?_
  rintro e w5 ⟨rfl, hbl⟩
  have s6 := (s5.next P hbl)
  clear s5 hbl
  obtain ⟨b0, b1, b2⟩ := BxM.cells (s6.get 1 rfl)
  go_wp2_with fail
  clear b0 b1 b2
  refine (C4 _ s6.1 (s6.get 3 rfl)).mono ?_
  rintro e w6 ⟨B, n, rfl, hun, _, hbl⟩
  have s7 := (s6.next P hbl)
  clear s6 hbl
  obtain ⟨b0, b1, b2⟩ := BxM.cells (s7.get 1 rfl)
  go_wp2_with fail
  clear b0 b1 b2
  refine (C5 _ s7.1 (s7.get 3 rfl)).mono ?_
  rintro e w7 ⟨rfl, hbl⟩
  have s8 := (s7.next P hbl)
  clear s7 hbl
  obtain ⟨b0, b1, b2⟩ := BxM.cells (s8.get 1 rfl)
  go_wp2_with fail
  clear b0 b1 b2
  refine (C6 _ s8.1 (s8.get 3 rfl)).mono ?_
  rintro e w8 ⟨rfl, hbl⟩
  have s9 := (s8.next P hbl)
  clear s8 hbl
  have hpl : w8.heap[w.heap.size + 1]? = some (.cells #[.int .i64 p0, .int .i64 p1] 25) := s9.get 0 rfl
  have l0 : w8.cell? ⟨w.heap.size + 1, 0, none⟩ = some (.int .i64 p0) := by rw [cell_of_row _ _ _ _ _ _ hpl]; rfl
  have l1 : w8.cell? ⟨w.heap.size + 1, 1, none⟩ = some (.int .i64 p1) := by rw [cell_of_row _ _ _ _ _ _ hpl]; rfl
  clear hpl
  go_wp2_with fail
  go_quiet (fail)
  clear l0 l1
  have s10 := s9.next P (below_drewN' (Below.refl _ _) nq)
  clear s9
  obtain ⟨W, hW⟩ : ∃ W, w8.drewN nq = W := ⟨_, rfl⟩
  rw [hW] at s10 ⊢
  clear hW
  obtain ⟨b0, b1, b2⟩ := BxM.cells (s10.get 1 rfl)
  go_wp2_with fail
  clear b0 b1 b2
  refine (C7 _ s10.1 (s10.get 3 rfl)).mono ?_
  rintro e w9 ⟨rfl, hbl⟩
  have s11 := (s10.next P hbl)
  clear s10 hbl
  have s12 := (s11.alloc P (.cells #[.int .i64 0, .int .i64 0] 39)).putE (g := w9.heap.size) (heap_alloc_new w9 _)
  clear s11
  go_upto_region 14 with fail
  obtain ⟨W2, hW2⟩ : ∃ W, w9.alloc (.cells #[.int .i64 0, .int .i64 0] 39) = W := ⟨_, rfl⟩
  rw [hW2] at s12 ⊢
  clear hW2
  have hE := s12.1
  have HR := Lib.hid (show RdR W2 A rs from s12.get 4 rfl)
  have hBm : BxM W2 w.heap.size i o A L c := s12.get 2 rfl
  have HKS : Hid (∀ W : World, Below W2.heap.size W2 W → (W.cell? ⟨w.heap.size, 0, none⟩ = some (.int .i64 i) ∧ W.cell? ⟨w.heap.size, 1, none⟩ = some (.int .i64 o) ∧ W.cell? ⟨w.heap.size, 2, none⟩ = some (.slice A L c))) := fun W hW => (hBm.to hW).cells
  clear hBm
  go_cut [20, 21] from 132 to 139 (fun u v wx => ∃ (G : Nat) (B : Option Addr) , u = .pointer (some ⟨G, 0, none⟩) ∧ v = .int .i64 1 ∧ Hid (WiR W2 G 0 0 B 0 wx))
  case first =>
    go_region_held3 (fun W => W.cell? ⟨w.heap.size, 0, none⟩ = some (.int .i64 i) ∧ W.cell? ⟨w.heap.size, 1, none⟩ = some (.int .i64 o) ∧ W.cell? ⟨w.heap.size, 2, none⟩ = some (.slice A L c))
      ((refine HKS.out _ ?_; repeat (with_reducible (first | refine bS ?_ (by omega) _ | refine bA ?_ _ | refine bD ?_ | exact Below.refl _ _ | refine below_next ?_ (by assumption)))))
      (first
        | (go_at_call 20
           (with_reducible refine (edge_any 0 0 _).mono ?_)
           rintro e wA ⟨rfl, hbA⟩
           have zA := hbA.size
           try simp at zA
           try (with_reducible have bA0 := BxM.toD (BxM.new1 W2) hbA)
           try obtain ⟨⟨x00, x01, x02⟩, ⟨x03, x04, x05⟩, x06⟩ := bA0.all
           dsimp only)
        | (go_at_call 19
           (with_reducible refine (C8 _ (P.keep hE (by repeat (with_reducible (first | refine bA ?_ _ | refine bD ?_ | exact Below.refl _ _ | refine below_next ?_ (by assumption))))) (HR.out.below (by repeat (with_reducible (first | refine bA ?_ _ | refine bD ?_ | exact Below.refl _ _ | refine below_next ?_ (by assumption)))))).mono ?_)
           rintro e wB ⟨B2, j2, vs2, rfl, hj2, _, hbB⟩
           obtain rfl : 0 = j2 := hj2.out
           have zB := hbB.size
           try simp at zB
           try (with_reducible have bB0 := BxM.to bA0 hbB)
           try (with_reducible have bB2 := BxM.to (BxM.new1 wA) hbB)
           try obtain ⟨⟨y00, y01, y02⟩, ⟨y03, y04, y05⟩, y06⟩ := bB0.all
           try obtain ⟨⟨y20, y21, y22⟩, ⟨y23, y24, y25⟩, y26⟩ := bB2.all
           dsimp only)
        | fail)
    all_goals
      go_wp2_with fail
      go_meet
      refine ⟨_, B2, rfl, rfl, ?_⟩
      refine ⟨?_, ?_⟩
      · repeat (with_reducible (first | exact BxM.new _ _ _ _ _ _ | exact BxM.set3 (by first | assumption | exact BxM.al (by assumption) _) | refine BxM.al ?_ _))
      · repeat (with_reducible (first | refine bS ?_ (by omega) _ | refine bA ?_ _ | refine bD ?_ | exact Below.refl _ _ | refine below_next ?_ (by assumption)))
  case rest =>
  obtain ⟨G, B2, rfl, rfl, hWi⟩ := hcut
  have s13 := (s12.next P hWi.out.bel).putB hWi.out.bg
  clear s12 hWi HKS HR hE C0 C1 C2 C3 C4 C5 C6 C7 C8
  obtain ⟨m0, m1, m2⟩ := BxM.cells (s13.get 3 rfl)
  obtain ⟨o0, o1, o2⟩ := BxM.cells (s13.get 0 rfl)
  obtain ⟨t0, t1, _, _⟩ := BxE.cells (s13.get 1 rfl)
  have hlm : w.heap.size < wc.heap.size := heap_lt (s13.get 3 rfl)
  have hlo : G < wc.heap.size := heap_lt (s13.get 0 rfl)
  have hle : w9.heap.size < wc.heap.size := heap_lt (s13.get 1 rfl)
  have hrun : ∀ w, (binOp .neq 39 (.agg #[.int .i64 0, .int .i64 0]) (.agg #[.int .i64 0, .int .i64 0])).run Try.prog w = .ok (.bool false) w := fun w => by rw [run_neq_edge]; simp
  have f0 : ∀ x : BW wc, x.out.cell? ⟨w.heap.size, 0, none⟩ = some (.int .i64 i) := fun x => (x.ok.cell (p := ⟨_, _, none⟩) hlm).trans m0
  have f1 : ∀ x : BW wc, x.out.cell? ⟨w.heap.size, 1, none⟩ = some (.int .i64 o) := fun x => (x.ok.cell (p := ⟨_, _, none⟩) hlm).trans m1
  have f2 : ∀ x : BW wc, x.out.cell? ⟨w.heap.size, 2, none⟩ = some (.slice A L c) := fun x => (x.ok.cell (p := ⟨_, _, none⟩) hlm).trans m2
  have f3 : ∀ x : BW wc, x.out.cell? ⟨G, 0, none⟩ = some (.int .i64 0) := fun x => (x.ok.cell (p := ⟨_, _, none⟩) hlo).trans o0
  have f4 : ∀ x : BW wc, x.out.cell? ⟨G, 1, none⟩ = some (.int .i64 0) := fun x => (x.ok.cell (p := ⟨_, _, none⟩) hlo).trans o1
  have f5 : ∀ x : BW wc, x.out.cell? ⟨G, 2, none⟩ = some (.slice B2 0 0) := fun x => (x.ok.cell (p := ⟨_, _, none⟩) hlo).trans o2
  have f6 : ∀ x : BW wc, x.out.cell? ⟨w9.heap.size, 0, none⟩ = some (.int .i64 0) := fun x => (x.ok.cell (p := ⟨_, _, none⟩) hle).trans t0
  have f7 : ∀ x : BW wc, x.out.cell? ⟨w9.heap.size, 1, none⟩ = some (.int .i64 0) := fun x => (x.ok.cell (p := ⟨_, _, none⟩) hle).trans t1
  go_wp2_with fail
  clear m0 m1 m2 o0 o1 o2 t0 t1
  refine wp_region_quiet_below (by kernel_rfl) (by kernel_rfl) ?_
  repeat (go_big_quiet_step ((rename_i x; refine (edge_any 0 0 _).mono ?_; rintro e w2 ⟨rfl, hb2⟩; exact ⟨rfl, ⟨w2, below_next x.ok hb2⟩, rfl⟩)))
  refine wpQuiet_nil ?_
  intro w20 hw20
  obtain ⟨⟨wx, hbW⟩, hw3⟩ := hw20
  dsimp only at hw3
  subst hw3
  have s14 := s13.next P hbW
  clear s13 hbW f0 f1 f2 f3 f4 f5 f6 f7 hrun hlm hlo hle
  obtain ⟨b0, b1, b2⟩ := BxM.cells (s14.get 3 rfl)
  go_wp2_with fail
  clear b0 b1 b2
  refine (C9 _ s14.1 (s14.get 5 rfl) (s14.get 4 rfl)).mono ?_
  rintro e w30 ⟨B3, j3, rfl, hj3, hrd, hbl⟩
  have s15 := (s14.next P hbl).putL hrd
  clear s14 hbl
  obtain rfl : 0 = j3 := hj3.out
  clear hrd
  obtain ⟨b0, b1, b2⟩ := BxM.cells (s15.get 4 rfl)
  go_wp2_with fail
  clear b0 b1 b2
  refine (C10 _ s15.1 (s15.get 6 rfl) (s15.get 5 rfl)).mono ?_
  rintro e w31 ⟨rfl, hbl⟩
  have s16 := (s15.next P hbl)
  clear s15 hbl
  go_wp2_with fail
  refine (list_yes B3 none 0 0 [] 1 _ Rd.nil_ Rd.nil_ rfl (Nat.zero_le _)).mono ?_
  rintro e w32 ⟨rfl, hbl⟩
  have s17 := s16.next P hbl
  clear s16 hbl
  go_wp2_with fail
  refine (lives_walk P _ s17.1).mono ?_
  rintro e wl ⟨rfl, hbl⟩
  have s18 := s17.next P hbl
  go_wp2
  go_ret
  exact ⟨rfl, s18.2.1⟩

set_option maxRecDepth 100000 in
set_option maxHeartbeats 4000000 in
theorem lawCheck_F {E : World → Prop} (P : Pm E) (i o : Int) (rs : List (List Ed)) (A : Option Addr) (c : Nat) (p0 p1 : Int) (U : Option Addr) (d : Nat) (ws : List Int) (w : World) (he : E w) (hr : RdR w A rs) (hw : Rd w U ws) (hwd : ws.length ≤ d) (hg : Mc.grt rs ≠ 1) (hk : ws.length ≤ 300) (hC : Mc.chk ⟨i, o, rs⟩ = 0) (hs : 0 ≤ p0) (hs2 : p0 < rs.length) (hi : p1 < 0) :
    Calls Try.prog 3 #[.agg #[.int .i64 i, .int .i64 o, .slice A rs.length c], .agg #[.int .i64 p0, .int .i64 p1], .slice U ws.length d] w fun e w' => e = .returned (.bool true) ∧ Below w.heap.size w w' := by
  have hgr := Lib.hid (Mc.grt_ok hg)
  have hrow := Lib.hid (fun row (h : row ∈ rs) => (show row.length ≤ 1000000 by have := hgr.out.2 row h; omega))
  obtain ⟨L, hL⟩ : ∃ L, rs.length = L := ⟨_, rfl⟩
  obtain ⟨K, hK⟩ : ∃ K, ws.length = K := ⟨_, rfl⟩
  have hL70 : L ≤ 70 := by rw [← hL]; exact hgr.out.1
  obtain ⟨g, hgg, hg1⟩ : ∃ g, Mc.grt rs = g ∧ (g == 1) = false := ⟨_, rfl, by rw [beq_eq_false_iff_ne]; exact hg⟩
  have CG := fun w hr => great_any i o rs A L c w hr hL
  rw [hgg] at CG
  clear hg hgg
  have hCC : Mc.chk ⟨i, o, rs⟩ = 0 := hC
  have V := Lib.hid (Mc.val_of hC)
  have hsm : Mc.samV ⟨i, o, rs⟩ ⟨i, o, rs⟩ = true := by rw [Mc.samV_self, hC]; rfl
  obtain ⟨v1, hv1⟩ : ∃ v, Mc.cmpV ⟨i, o, rs⟩ = v := ⟨_, rfl⟩
  obtain ⟨v2, hv2⟩ : ∃ v, Mc.conV ⟨i, o, rs⟩ = v := ⟨_, rfl⟩
  obtain ⟨v3, hv3⟩ : ∃ v, Mc.trV ⟨i, o, rs⟩ = v := ⟨_, rfl⟩
  obtain ⟨v4, hv4⟩ : ∃ v, Mc.unV ⟨i, o, rs⟩ = v := ⟨_, rfl⟩
  obtain ⟨s, rfl⟩ := Int.eq_ofNat_of_zero_le hs
  have hin : 0 ≤ (s : Int) ∧ (s : Int) < (⟨i, o, rs⟩ : Ma).r.length := ⟨hs, hs2⟩
  have hru := Mc.runE_in (ws := ws) hC hin
  obtain ⟨h, hh⟩ : ∃ h, M.check ws i = h := ⟨_, rfl⟩
  simp only [hh] at hru
  have hst := Mc.stE_none (i := p1) hC hin (fun h => by simp only at h; omega)
  have hsv := Mc.stV_no (show Mc.stE ⟨i, o, rs⟩ (s : Int) p1 ≠ 0 by rw [hst]; decide)
  have hwi : Mc.wiE ⟨i, o, rs⟩ (s : Int) p1 (0, 0) = 1 := by rw [Mc.wiE_no (by rw [hst]; decide), hst]
  have hwv : Mc.wiV ⟨i, o, rs⟩ (s : Int) p1 (0, 0) = ⟨0, 0, []⟩ := by unfold Mc.wiV; rw [if_neg (by rw [hwi]; decide)]
  have C0 := fun w hr => rmcheck_at ⟨i, o, rs⟩ i o A L c w rfl rfl hL hr (by omega)
  have C1 := fun w he hr => P.complete i o rs A L c w he hr hL (by omega) hrow.out
  have C2 := fun w he hr => P.connected i o rs A L c w he hr hL (by omega) hrow.out
  have C3 := fun w he hr => P.transitions i o rs A L c w he hr hL (by omega) hrow.out
  have C4 := fun w he hr => P.undefined i o rs A L c w he hr hL (by omega) hrow.out
  have C5 := fun w he hr => P.check i o rs A L c w he hr hL (by omega) hrow.out
  have C6 := fun w he hr => P.same i o i o rs rs A A L c L c w he hr hr hL (by omega) hrow.out hL (by omega) hrow.out
  have C7 := fun w he hr => P.step i o (s : Int) p1 rs A L c w he hr hL (by omega) hrow.out
  have C8 := fun w he hr => P.with_ i o (s : Int) p1 0 0 rs A L c w he hr hL (by omega) hrow.out
  have C9 := fun w he hr hw => P.run i o (s : Int) rs ws A U L c K d w he hr hw hL (by omega) hrow.out hK (by omega)
  have C10 := fun w he hr hw => P.after i o (s : Int) rs ws A U L c K d w he hr hw hL (by omega) hrow.out hK (by omega)
  simp only [hCC] at C0
  simp only [hCC, hv1] at C1
  simp only [hCC, hv2] at C2
  simp only [hCC, hv3] at C3
  simp only [hCC, hv4] at C4
  simp only [hCC] at C5
  simp only [hsm] at C6
  simp only [hst, hsv] at C7
  simp only [hwi, hwv] at C8
  rw [hL, hK]
  have HL := Lib.hid hL
  have HK := Lib.hid hK
  have HCC := Lib.hid hCC
  have HRU := Lib.hid hru
  have HH := Lib.hid hh
  clear hru hh
  have hsL : (s : Int) < L := by omega
  have hs0 : ¬ (s : Int) < 0 := by omega
  have hsL2 : ¬ (L : Int) ≤ s := by omega
  clear hs2 hin
  clear hst hsv hwi hsm hv1 hv2 hv3 hv4
  have hK3 : ¬ (300 : Int) < K := by omega
  have hKd : K ≤ d := by omega
  clear hC
  clear hL hK hCC hwd hk
  have s0 := ((MK.start he).putR hr).putL hw
  clear he hr hw
  go_enter Try.func3, Try.ntmps3
  have s1 := ((s0.alloc P (.cells #[.int .i64 i, .int .i64 o, .slice A L c] 24)).putB (g := w.heap.size) (heap_alloc_new w _)).alloc P (.cells #[.int .i64 (s : Int), .int .i64 p1] 25) |>.putO (g := w.heap.size + 1) (o := .cells #[.int .i64 (s : Int), .int .i64 p1] 25) (by
      have h := heap_alloc_new (boxM w i o A L c) (.cells #[.int .i64 (s : Int), .int .i64 p1] 25)
      rw [show (boxM w i o A L c).heap.size = w.heap.size + 1 by simp] at h
      exact h)
  clear s0
  go_wp2_with fail
  refine (CG _ (s1.get 3 rfl)).mono ?_
  rintro e w1 ⟨rfl, hbl⟩
  have s2 := s1.next P hbl
  clear s1 hbl CG
  obtain ⟨b0, b1, b2⟩ := BxM.cells (s2.get 1 rfl)
  go_wp2_with fail
  clear b0 b1 b2
  refine (C0 _ (s2.get 3 rfl)).mono ?_
  rintro e w2 ⟨rfl, hbl⟩
  have s3 := (s2.next P hbl)
  clear s2 hbl
  obtain ⟨b0, b1, b2⟩ := BxM.cells (s3.get 1 rfl)
  go_wp2_with fail
  clear b0 b1 b2
  refine (C1 _ s3.1 (s3.get 3 rfl)).mono ?_
  rintro e w3 ⟨rfl, hbl⟩
  have s4 := (s3.next P hbl)
  clear s3 hbl
  obtain ⟨b0, b1, b2⟩ := BxM.cells (s4.get 1 rfl)
  go_wp2_with fail
  clear b0 b1 b2
  refine (C2 _ s4.1 (s4.get 3 rfl)).mono ?_
  rintro e w4 ⟨rfl, hbl⟩
  have s5 := (s4.next P hbl)
  clear s4 hbl
  obtain ⟨b0, b1, b2⟩ := BxM.cells (s5.get 1 rfl)
  go_wp2_with fail
  clear b0 b1 b2
  refine (C3 _ s5.1 (s5.get 3 rfl)).mono ?_
  rintro e w5 ⟨rfl, hbl⟩
  have s6 := (s5.next P hbl)
  clear s5 hbl
  obtain ⟨b0, b1, b2⟩ := BxM.cells (s6.get 1 rfl)
  go_wp2_with fail
  clear b0 b1 b2
  refine (C4 _ s6.1 (s6.get 3 rfl)).mono ?_
  rintro e w6 ⟨B, n, rfl, hun, _, hbl⟩
  have s7 := (s6.next P hbl)
  clear s6 hbl
  obtain ⟨b0, b1, b2⟩ := BxM.cells (s7.get 1 rfl)
  go_wp2_with fail
  clear b0 b1 b2
  refine (C5 _ s7.1 (s7.get 3 rfl)).mono ?_
  rintro e w7 ⟨rfl, hbl⟩
  have s8 := (s7.next P hbl)
  clear s7 hbl
  obtain ⟨b0, b1, b2⟩ := BxM.cells (s8.get 1 rfl)
  go_wp2_with fail
  clear b0 b1 b2
  refine (C6 _ s8.1 (s8.get 3 rfl)).mono ?_
  rintro e w8 ⟨rfl, hbl⟩
  have s9 := (s8.next P hbl)
  clear s8 hbl
  have hpl : w8.heap[w.heap.size + 1]? = some (.cells #[.int .i64 (s : Int), .int .i64 p1] 25) := s9.get 0 rfl
  have l0 : w8.cell? ⟨w.heap.size + 1, 0, none⟩ = some (.int .i64 (s : Int)) := by rw [cell_of_row _ _ _ _ _ _ hpl]; rfl
  have l1 : w8.cell? ⟨w.heap.size + 1, 1, none⟩ = some (.int .i64 p1) := by rw [cell_of_row _ _ _ _ _ _ hpl]; rfl
  clear hpl
  go_wp2_with fail
  go_quiet (fail)
  clear l0 l1
  have s10 := s9.next P (below_drewN' (Below.refl _ _) nq)
  clear s9
  obtain ⟨W, hW⟩ : ∃ W, w8.drewN nq = W := ⟨_, rfl⟩
  rw [hW] at s10 ⊢
  clear hW
  obtain ⟨b0, b1, b2⟩ := BxM.cells (s10.get 1 rfl)
  go_wp2_with fail
  clear b0 b1 b2
  refine (C7 _ s10.1 (s10.get 3 rfl)).mono ?_
  rintro e w9 ⟨rfl, hbl⟩
  have s11 := (s10.next P hbl)
  clear s10 hbl
  have s12 := (s11.alloc P (.cells #[.int .i64 0, .int .i64 0] 39)).putE (g := w9.heap.size) (heap_alloc_new w9 _)
  clear s11
  go_upto_region 14 with fail
  obtain ⟨W2, hW2⟩ : ∃ W, w9.alloc (.cells #[.int .i64 0, .int .i64 0] 39) = W := ⟨_, rfl⟩
  rw [hW2] at s12 ⊢
  clear hW2
  have hE := s12.1
  have HR := Lib.hid (show RdR W2 A rs from s12.get 4 rfl)
  have hBm : BxM W2 w.heap.size i o A L c := s12.get 2 rfl
  have HKS : Hid (∀ W : World, Below W2.heap.size W2 W → (W.cell? ⟨w.heap.size, 0, none⟩ = some (.int .i64 i) ∧ W.cell? ⟨w.heap.size, 1, none⟩ = some (.int .i64 o) ∧ W.cell? ⟨w.heap.size, 2, none⟩ = some (.slice A L c))) := fun W hW => (hBm.to hW).cells
  clear hBm
  go_cut [20, 21] from 132 to 139 (fun u v wx => ∃ (G : Nat) (B : Option Addr) , u = .pointer (some ⟨G, 0, none⟩) ∧ v = .int .i64 1 ∧ Hid (WiR W2 G 0 0 B 0 wx))
  case first =>
    go_region_held3 (fun W => W.cell? ⟨w.heap.size, 0, none⟩ = some (.int .i64 i) ∧ W.cell? ⟨w.heap.size, 1, none⟩ = some (.int .i64 o) ∧ W.cell? ⟨w.heap.size, 2, none⟩ = some (.slice A L c))
      ((refine HKS.out _ ?_; repeat (with_reducible (first | refine bS ?_ (by omega) _ | refine bA ?_ _ | refine bD ?_ | exact Below.refl _ _ | refine below_next ?_ (by assumption)))))
      (first
        | (go_at_call 20
           (with_reducible refine (edge_any 0 0 _).mono ?_)
           rintro e wA ⟨rfl, hbA⟩
           have zA := hbA.size
           try simp at zA
           try (with_reducible have bA0 := BxM.toD (BxM.new1 W2) hbA)
           try obtain ⟨⟨x00, x01, x02⟩, ⟨x03, x04, x05⟩, x06⟩ := bA0.all
           dsimp only)
        | (go_at_call 19
           (with_reducible refine (C8 _ (P.keep hE (by repeat (with_reducible (first | refine bA ?_ _ | refine bD ?_ | exact Below.refl _ _ | refine below_next ?_ (by assumption))))) (HR.out.below (by repeat (with_reducible (first | refine bA ?_ _ | refine bD ?_ | exact Below.refl _ _ | refine below_next ?_ (by assumption)))))).mono ?_)
           rintro e wB ⟨B2, j2, vs2, rfl, hj2, _, hbB⟩
           obtain rfl : 0 = j2 := hj2.out
           have zB := hbB.size
           try simp at zB
           try (with_reducible have bB0 := BxM.to bA0 hbB)
           try (with_reducible have bB2 := BxM.to (BxM.new1 wA) hbB)
           try obtain ⟨⟨y00, y01, y02⟩, ⟨y03, y04, y05⟩, y06⟩ := bB0.all
           try obtain ⟨⟨y20, y21, y22⟩, ⟨y23, y24, y25⟩, y26⟩ := bB2.all
           dsimp only)
        | fail)
    all_goals
      go_wp2_with fail
      go_meet
      refine ⟨_, B2, rfl, rfl, ?_⟩
      refine ⟨?_, ?_⟩
      · repeat (with_reducible (first | exact BxM.new _ _ _ _ _ _ | exact BxM.set3 (by first | assumption | exact BxM.al (by assumption) _) | refine BxM.al ?_ _))
      · repeat (with_reducible (first | refine bS ?_ (by omega) _ | refine bA ?_ _ | refine bD ?_ | exact Below.refl _ _ | refine below_next ?_ (by assumption)))
  case rest =>
  obtain ⟨G, B2, rfl, rfl, hWi⟩ := hcut
  have s13 := (s12.next P hWi.out.bel).putB hWi.out.bg
  clear s12 hWi HKS HR hE C0 C1 C2 C3 C4 C5 C6 C7 C8
  obtain ⟨m0, m1, m2⟩ := BxM.cells (s13.get 3 rfl)
  obtain ⟨o0, o1, o2⟩ := BxM.cells (s13.get 0 rfl)
  obtain ⟨t0, t1, _, _⟩ := BxE.cells (s13.get 1 rfl)
  have hlm : w.heap.size < wc.heap.size := heap_lt (s13.get 3 rfl)
  have hlo : G < wc.heap.size := heap_lt (s13.get 0 rfl)
  have hle : w9.heap.size < wc.heap.size := heap_lt (s13.get 1 rfl)
  have hrun : ∀ w, (binOp .neq 39 (.agg #[.int .i64 0, .int .i64 0]) (.agg #[.int .i64 0, .int .i64 0])).run Try.prog w = .ok (.bool false) w := fun w => by rw [run_neq_edge]; simp
  have f0 : ∀ x : BW wc, x.out.cell? ⟨w.heap.size, 0, none⟩ = some (.int .i64 i) := fun x => (x.ok.cell (p := ⟨_, _, none⟩) hlm).trans m0
  have f1 : ∀ x : BW wc, x.out.cell? ⟨w.heap.size, 1, none⟩ = some (.int .i64 o) := fun x => (x.ok.cell (p := ⟨_, _, none⟩) hlm).trans m1
  have f2 : ∀ x : BW wc, x.out.cell? ⟨w.heap.size, 2, none⟩ = some (.slice A L c) := fun x => (x.ok.cell (p := ⟨_, _, none⟩) hlm).trans m2
  have f3 : ∀ x : BW wc, x.out.cell? ⟨G, 0, none⟩ = some (.int .i64 0) := fun x => (x.ok.cell (p := ⟨_, _, none⟩) hlo).trans o0
  have f4 : ∀ x : BW wc, x.out.cell? ⟨G, 1, none⟩ = some (.int .i64 0) := fun x => (x.ok.cell (p := ⟨_, _, none⟩) hlo).trans o1
  have f5 : ∀ x : BW wc, x.out.cell? ⟨G, 2, none⟩ = some (.slice B2 0 0) := fun x => (x.ok.cell (p := ⟨_, _, none⟩) hlo).trans o2
  have f6 : ∀ x : BW wc, x.out.cell? ⟨w9.heap.size, 0, none⟩ = some (.int .i64 0) := fun x => (x.ok.cell (p := ⟨_, _, none⟩) hle).trans t0
  have f7 : ∀ x : BW wc, x.out.cell? ⟨w9.heap.size, 1, none⟩ = some (.int .i64 0) := fun x => (x.ok.cell (p := ⟨_, _, none⟩) hle).trans t1
  go_wp2_with fail
  clear m0 m1 m2 o0 o1 o2 t0 t1
  refine wp_region_quiet_below (by kernel_rfl) (by kernel_rfl) ?_
  repeat (go_big_quiet_step ((rename_i x; refine (edge_any 0 0 _).mono ?_; rintro e w2 ⟨rfl, hb2⟩; exact ⟨rfl, ⟨w2, below_next x.ok hb2⟩, rfl⟩)))
  refine wpQuiet_nil ?_
  intro w20 hw20
  obtain ⟨⟨wx, hbW⟩, hw3⟩ := hw20
  dsimp only at hw3
  subst hw3
  have s14 := s13.next P hbW
  clear s13 hbW f0 f1 f2 f3 f4 f5 f6 f7 hrun hlm hlo hle
  have CW := fun w hw => rwcheck_at U K d ws i w hw HK.out
  rw [HH.out] at CW
  obtain ⟨b0, b1, b2⟩ := BxM.cells (s14.get 3 rfl)
  go_wp2_with fail
  clear b0 b1 b2
  refine (CW _ (s14.get 4 rfl)).mono ?_
  rintro e w21 ⟨rfl, hbl⟩
  replace s14 := s14.next P hbl
  clear hbl CW
  by_cases hh0 : h = 0
  case neg =>
    have hrv := Mc.runV_no (show Mc.runE ⟨i, o, rs⟩ (s : Int) ws ≠ 0 by rw [HRU.out]; exact hh0)
    have hav := Mc.aftV_no (show Mc.runE ⟨i, o, rs⟩ (s : Int) ws ≠ 0 by rw [HRU.out]; exact hh0)
    simp only [HRU.out, hrv] at C9
    simp only [HRU.out, hav] at C10
    have hhb : (h == 0) = false := by rw [beq_eq_false_iff_ne]; exact hh0
    have hhm : (h != 0) = true := by simpa using hh0
    have hhe : (h == h) = true := beq_self_eq_true _
    clear hrv hav
    obtain ⟨b0, b1, b2⟩ := BxM.cells (s14.get 3 rfl)
    go_wp2_with fail
    clear b0 b1 b2
    refine (C9 _ s14.1 (s14.get 5 rfl) (s14.get 4 rfl)).mono ?_
    rintro e w30 ⟨B3, j3, rfl, hj3, hrd, hbl⟩
    have s15 := (s14.next P hbl).putL hrd
    clear s14 hbl
    obtain rfl : 0 = j3 := hj3.out
    clear hrd
    obtain ⟨b0, b1, b2⟩ := BxM.cells (s15.get 4 rfl)
    go_wp2_with fail
    clear b0 b1 b2
    refine (C10 _ s15.1 (s15.get 6 rfl) (s15.get 5 rfl)).mono ?_
    rintro e w31 ⟨rfl, hbl⟩
    have s16 := (s15.next P hbl)
    clear s15 hbl
    go_wp2_with fail
    refine (list_yes B3 none 0 0 [] h _ Rd.nil_ Rd.nil_ rfl (Nat.zero_le _)).mono ?_
    rintro e w32 ⟨rfl, hbl⟩
    have s17 := s16.next P hbl
    clear s16 hbl
    go_wp2_with fail
    refine (lives_walk P _ s17.1).mono ?_
    rintro e wl ⟨rfl, hbl⟩
    have s18 := s17.next P hbl
    go_wp2
    go_ret
    exact ⟨rfl, s18.2.1⟩
  case pos =>
    subst hh0
    have hrv := Mc.runV_yes HRU.out
    have hav := Mc.aftV_yes HRU.out
    obtain ⟨hwd, hw256⟩ := Mc.wd_of (m := ⟨i, o, rs⟩) HH.out
    have HWD := Lib.hid hwd
    have hK6 : K ≤ 256 := by rw [← HK.out]; exact hw256
    obtain ⟨l, hl⟩ : ∃ l, Mc.run ⟨i, o, rs⟩ (s : Int) ws = l := ⟨_, rfl⟩
    obtain ⟨z, hz⟩ : ∃ z, Mc.aft ⟨i, o, rs⟩ (s : Int) ws = z := ⟨_, rfl⟩
    have HLL : Hid (l.length = K) := by show _ = _; rw [← hl, Mc.run_len]; exact HK.out
    simp only [HRU.out, hrv, hl] at C9
    simp only [HRU.out, hav, hz] at C10
    have CR := fun w hr hw => rrun_at ⟨i, o, rs⟩ i o s A U L c K d ws w V.out rfl rfl HL.out HK.out hr hw (Or.inr ⟨by omega, by rw [HL.out]; omega⟩) HWD.out (by omega)
    have CF := fun w hr hw => rafter_at ⟨i, o, rs⟩ i o s A U L c K d ws w V.out rfl rfl HL.out HK.out hr hw (Or.inr ⟨by omega, by rw [HL.out]; omega⟩) HWD.out hKd
    simp only [hl] at CR
    simp only [hz] at CF
    have hzz : (z == z) = true := beq_self_eq_true _
    clear hrv hav hwd hw256 hl hz
    obtain ⟨b0, b1, b2⟩ := BxM.cells (s14.get 3 rfl)
    go_wp2_with fail
    clear b0 b1 b2
    refine (C9 _ s14.1 (s14.get 5 rfl) (s14.get 4 rfl)).mono ?_
    rintro e w30 ⟨B3, j3, rfl, hj3, hrd, hbl⟩
    have s15 := (s14.next P hbl).putL hrd
    clear s14 hbl
    obtain rfl : j3 = K := hj3.out.symm.trans HLL.out
    clear hrd
    obtain ⟨b0, b1, b2⟩ := BxM.cells (s15.get 4 rfl)
    go_wp2_with fail
    clear b0 b1 b2
    refine (C10 _ s15.1 (s15.get 6 rfl) (s15.get 5 rfl)).mono ?_
    rintro e w31 ⟨rfl, hbl⟩
    have s16 := (s15.next P hbl)
    clear s15 hbl
    obtain ⟨b0, b1, b2⟩ := BxM.cells (s16.get 4 rfl)
    go_wp2_with fail
    clear b0 b1 b2
    refine (CR _ (s16.get 6 rfl) (s16.get 5 rfl)).mono ?_
    rintro e w32 ⟨Br, q, rfl, hrd, hbl⟩
    have s17 := (s16.next P hbl).putL hrd
    clear s16 hbl
    go_wp2_with fail
    refine (list_yes B3 Br j3 q l 0 _ (s17.get 1 rfl) (s17.get 0 rfl) HLL.out (by omega)).mono ?_
    rintro e w33 ⟨rfl, hbl⟩
    have s18 := s17.next P hbl
    clear s17 hbl hrd
    obtain ⟨b0, b1, b2⟩ := BxM.cells (s18.get 5 rfl)
    go_wp2_with fail
    clear b0 b1 b2
    refine (CF _ (s18.get 7 rfl) (s18.get 6 rfl)).mono ?_
    rintro e w34 ⟨rfl, hbl⟩
    have s19 := (s18.next P hbl)
    clear s18 hbl
    go_wp2_with fail
    refine (lives_walk P _ s19.1).mono ?_
    rintro e wl ⟨rfl, hbl⟩
    have s20 := s19.next P hbl
    go_wp2
    go_ret
    exact ⟨rfl, s20.2.1⟩

set_option maxRecDepth 100000 in
set_option maxHeartbeats 4000000 in
theorem lawCheck_G {E : World → Prop} (P : Pm E) (i o : Int) (rs : List (List Ed)) (A : Option Addr) (c : Nat) (p0 p1 : Int) (U : Option Addr) (d : Nat) (ws : List Int) (w : World) (he : E w) (hr : RdR w A rs) (hw : Rd w U ws) (hwd : ws.length ≤ d) (hg : Mc.grt rs ≠ 1) (hk : ws.length ≤ 300) (hC : Mc.chk ⟨i, o, rs⟩ = 0) (hs : 0 ≤ p0) (hs2 : p0 < rs.length) (hi : 0 ≤ p1) (hi2 : i ≤ p1) :
    Calls Try.prog 3 #[.agg #[.int .i64 i, .int .i64 o, .slice A rs.length c], .agg #[.int .i64 p0, .int .i64 p1], .slice U ws.length d] w fun e w' => e = .returned (.bool true) ∧ Below w.heap.size w w' := by
  have hgr := Lib.hid (Mc.grt_ok hg)
  have hrow := Lib.hid (fun row (h : row ∈ rs) => (show row.length ≤ 1000000 by have := hgr.out.2 row h; omega))
  obtain ⟨L, hL⟩ : ∃ L, rs.length = L := ⟨_, rfl⟩
  obtain ⟨K, hK⟩ : ∃ K, ws.length = K := ⟨_, rfl⟩
  have hL70 : L ≤ 70 := by rw [← hL]; exact hgr.out.1
  obtain ⟨g, hgg, hg1⟩ : ∃ g, Mc.grt rs = g ∧ (g == 1) = false := ⟨_, rfl, by rw [beq_eq_false_iff_ne]; exact hg⟩
  have CG := fun w hr => great_any i o rs A L c w hr hL
  rw [hgg] at CG
  clear hg hgg
  have hCC : Mc.chk ⟨i, o, rs⟩ = 0 := hC
  have V := Lib.hid (Mc.val_of hC)
  have hsm : Mc.samV ⟨i, o, rs⟩ ⟨i, o, rs⟩ = true := by rw [Mc.samV_self, hC]; rfl
  obtain ⟨v1, hv1⟩ : ∃ v, Mc.cmpV ⟨i, o, rs⟩ = v := ⟨_, rfl⟩
  obtain ⟨v2, hv2⟩ : ∃ v, Mc.conV ⟨i, o, rs⟩ = v := ⟨_, rfl⟩
  obtain ⟨v3, hv3⟩ : ∃ v, Mc.trV ⟨i, o, rs⟩ = v := ⟨_, rfl⟩
  obtain ⟨v4, hv4⟩ : ∃ v, Mc.unV ⟨i, o, rs⟩ = v := ⟨_, rfl⟩
  obtain ⟨s, rfl⟩ := Int.eq_ofNat_of_zero_le hs
  have hin : 0 ≤ (s : Int) ∧ (s : Int) < (⟨i, o, rs⟩ : Ma).r.length := ⟨hs, hs2⟩
  have hru := Mc.runE_in (ws := ws) hC hin
  obtain ⟨h, hh⟩ : ∃ h, M.check ws i = h := ⟨_, rfl⟩
  simp only [hh] at hru
  have hst := Mc.stE_none (i := p1) hC hin (fun h => by simp only at h; omega)
  have hsv := Mc.stV_no (show Mc.stE ⟨i, o, rs⟩ (s : Int) p1 ≠ 0 by rw [hst]; decide)
  have hwi : Mc.wiE ⟨i, o, rs⟩ (s : Int) p1 (0, 0) = 1 := by rw [Mc.wiE_no (by rw [hst]; decide), hst]
  have hwv : Mc.wiV ⟨i, o, rs⟩ (s : Int) p1 (0, 0) = ⟨0, 0, []⟩ := by unfold Mc.wiV; rw [if_neg (by rw [hwi]; decide)]
  have C0 := fun w hr => rmcheck_at ⟨i, o, rs⟩ i o A L c w rfl rfl hL hr (by omega)
  have C1 := fun w he hr => P.complete i o rs A L c w he hr hL (by omega) hrow.out
  have C2 := fun w he hr => P.connected i o rs A L c w he hr hL (by omega) hrow.out
  have C3 := fun w he hr => P.transitions i o rs A L c w he hr hL (by omega) hrow.out
  have C4 := fun w he hr => P.undefined i o rs A L c w he hr hL (by omega) hrow.out
  have C5 := fun w he hr => P.check i o rs A L c w he hr hL (by omega) hrow.out
  have C6 := fun w he hr => P.same i o i o rs rs A A L c L c w he hr hr hL (by omega) hrow.out hL (by omega) hrow.out
  have C7 := fun w he hr => P.step i o (s : Int) p1 rs A L c w he hr hL (by omega) hrow.out
  have C8 := fun w he hr => P.with_ i o (s : Int) p1 0 0 rs A L c w he hr hL (by omega) hrow.out
  have C9 := fun w he hr hw => P.run i o (s : Int) rs ws A U L c K d w he hr hw hL (by omega) hrow.out hK (by omega)
  have C10 := fun w he hr hw => P.after i o (s : Int) rs ws A U L c K d w he hr hw hL (by omega) hrow.out hK (by omega)
  simp only [hCC] at C0
  simp only [hCC, hv1] at C1
  simp only [hCC, hv2] at C2
  simp only [hCC, hv3] at C3
  simp only [hCC, hv4] at C4
  simp only [hCC] at C5
  simp only [hsm] at C6
  simp only [hst, hsv] at C7
  simp only [hwi, hwv] at C8
  rw [hL, hK]
  have HL := Lib.hid hL
  have HK := Lib.hid hK
  have HCC := Lib.hid hCC
  have HRU := Lib.hid hru
  have HH := Lib.hid hh
  clear hru hh
  have hsL : (s : Int) < L := by omega
  have hs0 : ¬ (s : Int) < 0 := by omega
  have hsL2 : ¬ (L : Int) ≤ s := by omega
  have hi0 : ¬ p1 < 0 := by omega
  clear hs2 hin
  clear hst hsv hwi hsm hv1 hv2 hv3 hv4
  have hK3 : ¬ (300 : Int) < K := by omega
  have hKd : K ≤ d := by omega
  clear hC
  clear hL hK hCC hwd hk
  have s0 := ((MK.start he).putR hr).putL hw
  clear he hr hw
  go_enter Try.func3, Try.ntmps3
  have s1 := ((s0.alloc P (.cells #[.int .i64 i, .int .i64 o, .slice A L c] 24)).putB (g := w.heap.size) (heap_alloc_new w _)).alloc P (.cells #[.int .i64 (s : Int), .int .i64 p1] 25) |>.putO (g := w.heap.size + 1) (o := .cells #[.int .i64 (s : Int), .int .i64 p1] 25) (by
      have h := heap_alloc_new (boxM w i o A L c) (.cells #[.int .i64 (s : Int), .int .i64 p1] 25)
      rw [show (boxM w i o A L c).heap.size = w.heap.size + 1 by simp] at h
      exact h)
  clear s0
  go_wp2_with fail
  refine (CG _ (s1.get 3 rfl)).mono ?_
  rintro e w1 ⟨rfl, hbl⟩
  have s2 := s1.next P hbl
  clear s1 hbl CG
  obtain ⟨b0, b1, b2⟩ := BxM.cells (s2.get 1 rfl)
  go_wp2_with fail
  clear b0 b1 b2
  refine (C0 _ (s2.get 3 rfl)).mono ?_
  rintro e w2 ⟨rfl, hbl⟩
  have s3 := (s2.next P hbl)
  clear s2 hbl
  obtain ⟨b0, b1, b2⟩ := BxM.cells (s3.get 1 rfl)
  go_wp2_with fail
  clear b0 b1 b2
  refine (C1 _ s3.1 (s3.get 3 rfl)).mono ?_
  rintro e w3 ⟨rfl, hbl⟩
  have s4 := (s3.next P hbl)
  clear s3 hbl
  obtain ⟨b0, b1, b2⟩ := BxM.cells (s4.get 1 rfl)
  go_wp2_with fail
  clear b0 b1 b2
  refine (C2 _ s4.1 (s4.get 3 rfl)).mono ?_
  rintro e w4 ⟨rfl, hbl⟩
  have s5 := (s4.next P hbl)
  clear s4 hbl
  obtain ⟨b0, b1, b2⟩ := BxM.cells (s5.get 1 rfl)
  go_wp2_with fail
  clear b0 b1 b2
  refine (C3 _ s5.1 (s5.get 3 rfl)).mono ?_
  rintro e w5 ⟨rfl, hbl⟩
  have s6 := (s5.next P hbl)
  clear s5 hbl
  obtain ⟨b0, b1, b2⟩ := BxM.cells (s6.get 1 rfl)
  go_wp2_with fail
  clear b0 b1 b2
  refine (C4 _ s6.1 (s6.get 3 rfl)).mono ?_
  rintro e w6 ⟨B, n, rfl, hun, _, hbl⟩
  have s7 := (s6.next P hbl)
  clear s6 hbl
  obtain ⟨b0, b1, b2⟩ := BxM.cells (s7.get 1 rfl)
  go_wp2_with fail
  clear b0 b1 b2
  refine (C5 _ s7.1 (s7.get 3 rfl)).mono ?_
  rintro e w7 ⟨rfl, hbl⟩
  have s8 := (s7.next P hbl)
  clear s7 hbl
  obtain ⟨b0, b1, b2⟩ := BxM.cells (s8.get 1 rfl)
  go_wp2_with fail
  clear b0 b1 b2
  refine (C6 _ s8.1 (s8.get 3 rfl)).mono ?_
  rintro e w8 ⟨rfl, hbl⟩
  have s9 := (s8.next P hbl)
  clear s8 hbl
  have hpl : w8.heap[w.heap.size + 1]? = some (.cells #[.int .i64 (s : Int), .int .i64 p1] 25) := s9.get 0 rfl
  have l0 : w8.cell? ⟨w.heap.size + 1, 0, none⟩ = some (.int .i64 (s : Int)) := by rw [cell_of_row _ _ _ _ _ _ hpl]; rfl
  have l1 : w8.cell? ⟨w.heap.size + 1, 1, none⟩ = some (.int .i64 p1) := by rw [cell_of_row _ _ _ _ _ _ hpl]; rfl
  clear hpl
  go_wp2_with fail
  go_quiet (fail)
  clear l0 l1
  have s10 := s9.next P (below_drewN' (Below.refl _ _) nq)
  clear s9
  obtain ⟨W, hW⟩ : ∃ W, w8.drewN nq = W := ⟨_, rfl⟩
  rw [hW] at s10 ⊢
  clear hW
  obtain ⟨b0, b1, b2⟩ := BxM.cells (s10.get 1 rfl)
  go_wp2_with fail
  clear b0 b1 b2
  refine (C7 _ s10.1 (s10.get 3 rfl)).mono ?_
  rintro e w9 ⟨rfl, hbl⟩
  have s11 := (s10.next P hbl)
  clear s10 hbl
  have s12 := (s11.alloc P (.cells #[.int .i64 0, .int .i64 0] 39)).putE (g := w9.heap.size) (heap_alloc_new w9 _)
  clear s11
  go_upto_region 14 with fail
  obtain ⟨W2, hW2⟩ : ∃ W, w9.alloc (.cells #[.int .i64 0, .int .i64 0] 39) = W := ⟨_, rfl⟩
  rw [hW2] at s12 ⊢
  clear hW2
  have hE := s12.1
  have HR := Lib.hid (show RdR W2 A rs from s12.get 4 rfl)
  have hBm : BxM W2 w.heap.size i o A L c := s12.get 2 rfl
  have HKS : Hid (∀ W : World, Below W2.heap.size W2 W → (W.cell? ⟨w.heap.size, 0, none⟩ = some (.int .i64 i) ∧ W.cell? ⟨w.heap.size, 1, none⟩ = some (.int .i64 o) ∧ W.cell? ⟨w.heap.size, 2, none⟩ = some (.slice A L c))) := fun W hW => (hBm.to hW).cells
  clear hBm
  go_cut [20, 21] from 132 to 139 (fun u v wx => ∃ (G : Nat) (B : Option Addr) , u = .pointer (some ⟨G, 0, none⟩) ∧ v = .int .i64 1 ∧ Hid (WiR W2 G 0 0 B 0 wx))
  case first =>
    go_region_held3 (fun W => W.cell? ⟨w.heap.size, 0, none⟩ = some (.int .i64 i) ∧ W.cell? ⟨w.heap.size, 1, none⟩ = some (.int .i64 o) ∧ W.cell? ⟨w.heap.size, 2, none⟩ = some (.slice A L c))
      ((refine HKS.out _ ?_; repeat (with_reducible (first | refine bS ?_ (by omega) _ | refine bA ?_ _ | refine bD ?_ | exact Below.refl _ _ | refine below_next ?_ (by assumption)))))
      (first
        | (go_at_call 20
           (with_reducible refine (edge_any 0 0 _).mono ?_)
           rintro e wA ⟨rfl, hbA⟩
           have zA := hbA.size
           try simp at zA
           try (with_reducible have bA0 := BxM.toD (BxM.new1 W2) hbA)
           try obtain ⟨⟨x00, x01, x02⟩, ⟨x03, x04, x05⟩, x06⟩ := bA0.all
           dsimp only)
        | (go_at_call 19
           (with_reducible refine (C8 _ (P.keep hE (by repeat (with_reducible (first | refine bA ?_ _ | refine bD ?_ | exact Below.refl _ _ | refine below_next ?_ (by assumption))))) (HR.out.below (by repeat (with_reducible (first | refine bA ?_ _ | refine bD ?_ | exact Below.refl _ _ | refine below_next ?_ (by assumption)))))).mono ?_)
           rintro e wB ⟨B2, j2, vs2, rfl, hj2, _, hbB⟩
           obtain rfl : 0 = j2 := hj2.out
           have zB := hbB.size
           try simp at zB
           try (with_reducible have bB0 := BxM.to bA0 hbB)
           try (with_reducible have bB2 := BxM.to (BxM.new1 wA) hbB)
           try obtain ⟨⟨y00, y01, y02⟩, ⟨y03, y04, y05⟩, y06⟩ := bB0.all
           try obtain ⟨⟨y20, y21, y22⟩, ⟨y23, y24, y25⟩, y26⟩ := bB2.all
           dsimp only)
        | fail)
    all_goals
      go_wp2_with fail
      go_meet
      refine ⟨_, B2, rfl, rfl, ?_⟩
      refine ⟨?_, ?_⟩
      · repeat (with_reducible (first | exact BxM.new _ _ _ _ _ _ | exact BxM.set3 (by first | assumption | exact BxM.al (by assumption) _) | refine BxM.al ?_ _))
      · repeat (with_reducible (first | refine bS ?_ (by omega) _ | refine bA ?_ _ | refine bD ?_ | exact Below.refl _ _ | refine below_next ?_ (by assumption)))
  case rest =>
  obtain ⟨G, B2, rfl, rfl, hWi⟩ := hcut
  have s13 := (s12.next P hWi.out.bel).putB hWi.out.bg
  clear s12 hWi HKS HR hE C0 C1 C2 C3 C4 C5 C6 C7 C8
  obtain ⟨m0, m1, m2⟩ := BxM.cells (s13.get 3 rfl)
  obtain ⟨o0, o1, o2⟩ := BxM.cells (s13.get 0 rfl)
  obtain ⟨t0, t1, _, _⟩ := BxE.cells (s13.get 1 rfl)
  have hlm : w.heap.size < wc.heap.size := heap_lt (s13.get 3 rfl)
  have hlo : G < wc.heap.size := heap_lt (s13.get 0 rfl)
  have hle : w9.heap.size < wc.heap.size := heap_lt (s13.get 1 rfl)
  have hrun : ∀ w, (binOp .neq 39 (.agg #[.int .i64 0, .int .i64 0]) (.agg #[.int .i64 0, .int .i64 0])).run Try.prog w = .ok (.bool false) w := fun w => by rw [run_neq_edge]; simp
  have f0 : ∀ x : BW wc, x.out.cell? ⟨w.heap.size, 0, none⟩ = some (.int .i64 i) := fun x => (x.ok.cell (p := ⟨_, _, none⟩) hlm).trans m0
  have f1 : ∀ x : BW wc, x.out.cell? ⟨w.heap.size, 1, none⟩ = some (.int .i64 o) := fun x => (x.ok.cell (p := ⟨_, _, none⟩) hlm).trans m1
  have f2 : ∀ x : BW wc, x.out.cell? ⟨w.heap.size, 2, none⟩ = some (.slice A L c) := fun x => (x.ok.cell (p := ⟨_, _, none⟩) hlm).trans m2
  have f3 : ∀ x : BW wc, x.out.cell? ⟨G, 0, none⟩ = some (.int .i64 0) := fun x => (x.ok.cell (p := ⟨_, _, none⟩) hlo).trans o0
  have f4 : ∀ x : BW wc, x.out.cell? ⟨G, 1, none⟩ = some (.int .i64 0) := fun x => (x.ok.cell (p := ⟨_, _, none⟩) hlo).trans o1
  have f5 : ∀ x : BW wc, x.out.cell? ⟨G, 2, none⟩ = some (.slice B2 0 0) := fun x => (x.ok.cell (p := ⟨_, _, none⟩) hlo).trans o2
  have f6 : ∀ x : BW wc, x.out.cell? ⟨w9.heap.size, 0, none⟩ = some (.int .i64 0) := fun x => (x.ok.cell (p := ⟨_, _, none⟩) hle).trans t0
  have f7 : ∀ x : BW wc, x.out.cell? ⟨w9.heap.size, 1, none⟩ = some (.int .i64 0) := fun x => (x.ok.cell (p := ⟨_, _, none⟩) hle).trans t1
  go_wp2_with fail
  clear m0 m1 m2 o0 o1 o2 t0 t1
  refine wp_region_quiet_below (by kernel_rfl) (by kernel_rfl) ?_
  repeat (go_big_quiet_step ((rename_i x; refine (edge_any 0 0 _).mono ?_; rintro e w2 ⟨rfl, hb2⟩; exact ⟨rfl, ⟨w2, below_next x.ok hb2⟩, rfl⟩)))
  refine wpQuiet_nil ?_
  intro w20 hw20
  obtain ⟨⟨wx, hbW⟩, hw3⟩ := hw20
  dsimp only at hw3
  subst hw3
  have s14 := s13.next P hbW
  clear s13 hbW f0 f1 f2 f3 f4 f5 f6 f7 hrun hlm hlo hle
  have CW := fun w hw => rwcheck_at U K d ws i w hw HK.out
  rw [HH.out] at CW
  obtain ⟨b0, b1, b2⟩ := BxM.cells (s14.get 3 rfl)
  go_wp2_with fail
  clear b0 b1 b2
  refine (CW _ (s14.get 4 rfl)).mono ?_
  rintro e w21 ⟨rfl, hbl⟩
  replace s14 := s14.next P hbl
  clear hbl CW
  by_cases hh0 : h = 0
  case neg =>
    have hrv := Mc.runV_no (show Mc.runE ⟨i, o, rs⟩ (s : Int) ws ≠ 0 by rw [HRU.out]; exact hh0)
    have hav := Mc.aftV_no (show Mc.runE ⟨i, o, rs⟩ (s : Int) ws ≠ 0 by rw [HRU.out]; exact hh0)
    simp only [HRU.out, hrv] at C9
    simp only [HRU.out, hav] at C10
    have hhb : (h == 0) = false := by rw [beq_eq_false_iff_ne]; exact hh0
    have hhm : (h != 0) = true := by simpa using hh0
    have hhe : (h == h) = true := beq_self_eq_true _
    clear hrv hav
    obtain ⟨b0, b1, b2⟩ := BxM.cells (s14.get 3 rfl)
    go_wp2_with fail
    clear b0 b1 b2
    refine (C9 _ s14.1 (s14.get 5 rfl) (s14.get 4 rfl)).mono ?_
    rintro e w30 ⟨B3, j3, rfl, hj3, hrd, hbl⟩
    have s15 := (s14.next P hbl).putL hrd
    clear s14 hbl
    obtain rfl : 0 = j3 := hj3.out
    clear hrd
    obtain ⟨b0, b1, b2⟩ := BxM.cells (s15.get 4 rfl)
    go_wp2_with fail
    clear b0 b1 b2
    refine (C10 _ s15.1 (s15.get 6 rfl) (s15.get 5 rfl)).mono ?_
    rintro e w31 ⟨rfl, hbl⟩
    have s16 := (s15.next P hbl)
    clear s15 hbl
    go_wp2_with fail
    refine (list_yes B3 none 0 0 [] h _ Rd.nil_ Rd.nil_ rfl (Nat.zero_le _)).mono ?_
    rintro e w32 ⟨rfl, hbl⟩
    have s17 := s16.next P hbl
    clear s16 hbl
    go_wp2_with fail
    refine (lives_walk P _ s17.1).mono ?_
    rintro e wl ⟨rfl, hbl⟩
    have s18 := s17.next P hbl
    go_wp2
    go_ret
    exact ⟨rfl, s18.2.1⟩
  case pos =>
    subst hh0
    have hrv := Mc.runV_yes HRU.out
    have hav := Mc.aftV_yes HRU.out
    obtain ⟨hwd, hw256⟩ := Mc.wd_of (m := ⟨i, o, rs⟩) HH.out
    have HWD := Lib.hid hwd
    have hK6 : K ≤ 256 := by rw [← HK.out]; exact hw256
    obtain ⟨l, hl⟩ : ∃ l, Mc.run ⟨i, o, rs⟩ (s : Int) ws = l := ⟨_, rfl⟩
    obtain ⟨z, hz⟩ : ∃ z, Mc.aft ⟨i, o, rs⟩ (s : Int) ws = z := ⟨_, rfl⟩
    have HLL : Hid (l.length = K) := by show _ = _; rw [← hl, Mc.run_len]; exact HK.out
    simp only [HRU.out, hrv, hl] at C9
    simp only [HRU.out, hav, hz] at C10
    have CR := fun w hr hw => rrun_at ⟨i, o, rs⟩ i o s A U L c K d ws w V.out rfl rfl HL.out HK.out hr hw (Or.inr ⟨by omega, by rw [HL.out]; omega⟩) HWD.out (by omega)
    have CF := fun w hr hw => rafter_at ⟨i, o, rs⟩ i o s A U L c K d ws w V.out rfl rfl HL.out HK.out hr hw (Or.inr ⟨by omega, by rw [HL.out]; omega⟩) HWD.out hKd
    simp only [hl] at CR
    simp only [hz] at CF
    have hzz : (z == z) = true := beq_self_eq_true _
    clear hrv hav hwd hw256 hl hz
    obtain ⟨b0, b1, b2⟩ := BxM.cells (s14.get 3 rfl)
    go_wp2_with fail
    clear b0 b1 b2
    refine (C9 _ s14.1 (s14.get 5 rfl) (s14.get 4 rfl)).mono ?_
    rintro e w30 ⟨B3, j3, rfl, hj3, hrd, hbl⟩
    have s15 := (s14.next P hbl).putL hrd
    clear s14 hbl
    obtain rfl : j3 = K := hj3.out.symm.trans HLL.out
    clear hrd
    obtain ⟨b0, b1, b2⟩ := BxM.cells (s15.get 4 rfl)
    go_wp2_with fail
    clear b0 b1 b2
    refine (C10 _ s15.1 (s15.get 6 rfl) (s15.get 5 rfl)).mono ?_
    rintro e w31 ⟨rfl, hbl⟩
    have s16 := (s15.next P hbl)
    clear s15 hbl
    obtain ⟨b0, b1, b2⟩ := BxM.cells (s16.get 4 rfl)
    go_wp2_with fail
    clear b0 b1 b2
    refine (CR _ (s16.get 6 rfl) (s16.get 5 rfl)).mono ?_
    rintro e w32 ⟨Br, q, rfl, hrd, hbl⟩
    have s17 := (s16.next P hbl).putL hrd
    clear s16 hbl
    go_wp2_with fail
    refine (list_yes B3 Br j3 q l 0 _ (s17.get 1 rfl) (s17.get 0 rfl) HLL.out (by omega)).mono ?_
    rintro e w33 ⟨rfl, hbl⟩
    have s18 := s17.next P hbl
    clear s17 hbl hrd
    obtain ⟨b0, b1, b2⟩ := BxM.cells (s18.get 5 rfl)
    go_wp2_with fail
    clear b0 b1 b2
    refine (CF _ (s18.get 7 rfl) (s18.get 6 rfl)).mono ?_
    rintro e w34 ⟨rfl, hbl⟩
    have s19 := (s18.next P hbl)
    clear s18 hbl
    go_wp2_with fail
    refine (lives_walk P _ s19.1).mono ?_
    rintro e wl ⟨rfl, hbl⟩
    have s20 := s19.next P hbl
    go_wp2
    go_ret
    exact ⟨rfl, s20.2.1⟩

set_option maxRecDepth 100000 in
set_option maxHeartbeats 4000000 in
theorem lawCheck_H {E : World → Prop} (P : Pm E) (i o : Int) (rs : List (List Ed)) (A : Option Addr) (c : Nat) (p0 p1 : Int) (U : Option Addr) (d : Nat) (ws : List Int) (w : World) (he : E w) (hr : RdR w A rs) (hw : Rd w U ws) (hwd : ws.length ≤ d) (hg : Mc.grt rs ≠ 1) (hk : ws.length ≤ 300) (hC : Mc.chk ⟨i, o, rs⟩ = 0) (hs : 0 ≤ p0) (hs2 : p0 < rs.length) (hi : 0 ≤ p1) (hi2 : p1 < i) :
    Calls Try.prog 3 #[.agg #[.int .i64 i, .int .i64 o, .slice A rs.length c], .agg #[.int .i64 p0, .int .i64 p1], .slice U ws.length d] w fun e w' => e = .returned (.bool true) ∧ Below w.heap.size w w' := by
  have hgr := Lib.hid (Mc.grt_ok hg)
  have hrow := Lib.hid (fun row (h : row ∈ rs) => (show row.length ≤ 1000000 by have := hgr.out.2 row h; omega))
  obtain ⟨L, hL⟩ : ∃ L, rs.length = L := ⟨_, rfl⟩
  obtain ⟨K, hK⟩ : ∃ K, ws.length = K := ⟨_, rfl⟩
  have hL70 : L ≤ 70 := by rw [← hL]; exact hgr.out.1
  obtain ⟨g, hgg, hg1⟩ : ∃ g, Mc.grt rs = g ∧ (g == 1) = false := ⟨_, rfl, by rw [beq_eq_false_iff_ne]; exact hg⟩
  have CG := fun w hr => great_any i o rs A L c w hr hL
  rw [hgg] at CG
  clear hg hgg
  have hCC : Mc.chk ⟨i, o, rs⟩ = 0 := hC
  have V := Lib.hid (Mc.val_of hC)
  have hsm : Mc.samV ⟨i, o, rs⟩ ⟨i, o, rs⟩ = true := by rw [Mc.samV_self, hC]; rfl
  obtain ⟨v1, hv1⟩ : ∃ v, Mc.cmpV ⟨i, o, rs⟩ = v := ⟨_, rfl⟩
  obtain ⟨v2, hv2⟩ : ∃ v, Mc.conV ⟨i, o, rs⟩ = v := ⟨_, rfl⟩
  obtain ⟨v3, hv3⟩ : ∃ v, Mc.trV ⟨i, o, rs⟩ = v := ⟨_, rfl⟩
  obtain ⟨v4, hv4⟩ : ∃ v, Mc.unV ⟨i, o, rs⟩ = v := ⟨_, rfl⟩
  obtain ⟨s, rfl⟩ := Int.eq_ofNat_of_zero_le hs
  have hin : 0 ≤ (s : Int) ∧ (s : Int) < (⟨i, o, rs⟩ : Ma).r.length := ⟨hs, hs2⟩
  have hru := Mc.runE_in (ws := ws) hC hin
  obtain ⟨h, hh⟩ : ∃ h, M.check ws i = h := ⟨_, rfl⟩
  simp only [hh] at hru
  obtain ⟨k, rfl⟩ := Int.eq_ofNat_of_zero_le hi
  have hst := Mc.stE_ok (i := (k : Int)) V.out hin ⟨hi, hi2⟩
  have hsl : s < rs.length := by omega
  obtain ⟨row, hrs⟩ : ∃ row, rs[s]? = some row := ⟨_, List.getElem?_eq_getElem hsl⟩
  have hrl : (row.length : Int) = i := V.out.len row (List.mem_of_getElem? hrs)
  have hkl : k < row.length := by omega
  obtain ⟨⟨yx, yy⟩, hrk⟩ : ∃ y, row[k]? = some y := ⟨_, List.getElem?_eq_getElem hkl⟩
  have hsv : Mc.stV ⟨i, o, rs⟩ (s : Int) (k : Int) = (yx, yy) := by rw [Mc.stV_ok V.out hin ⟨hi, hi2⟩]; exact Mc.nx_at hrs hrk
  have hwi := Mc.wiE_zero V.out hin (i := (k : Int)) ⟨hi, hi2⟩
  obtain ⟨Gm, hwv⟩ : ∃ Gm, Mc.wiV ⟨i, o, rs⟩ (s : Int) (k : Int) (0, 0) = Gm := ⟨_, rfl⟩
  have C0 := fun w hr => rmcheck_at ⟨i, o, rs⟩ i o A L c w rfl rfl hL hr (by omega)
  have C1 := fun w he hr => P.complete i o rs A L c w he hr hL (by omega) hrow.out
  have C2 := fun w he hr => P.connected i o rs A L c w he hr hL (by omega) hrow.out
  have C3 := fun w he hr => P.transitions i o rs A L c w he hr hL (by omega) hrow.out
  have C4 := fun w he hr => P.undefined i o rs A L c w he hr hL (by omega) hrow.out
  have C5 := fun w he hr => P.check i o rs A L c w he hr hL (by omega) hrow.out
  have C6 := fun w he hr => P.same i o i o rs rs A A L c L c w he hr hr hL (by omega) hrow.out hL (by omega) hrow.out
  have C7 := fun w he hr => P.step i o (s : Int) (k : Int) rs A L c w he hr hL (by omega) hrow.out
  have C8 := fun w he hr => P.with_ i o (s : Int) (k : Int) 0 0 rs A L c w he hr hL (by omega) hrow.out
  have C9 := fun w he hr hw => P.run i o (s : Int) rs ws A U L c K d w he hr hw hL (by omega) hrow.out hK (by omega)
  have C10 := fun w he hr hw => P.after i o (s : Int) rs ws A U L c K d w he hr hw hL (by omega) hrow.out hK (by omega)
  simp only [hCC] at C0
  simp only [hCC, hv1] at C1
  simp only [hCC, hv2] at C2
  simp only [hCC, hv3] at C3
  simp only [hCC, hv4] at C4
  simp only [hCC] at C5
  simp only [hsm] at C6
  simp only [hst, hsv] at C7
  simp only [hwi, hwv] at C8
  rw [hL, hK]
  have HL := Lib.hid hL
  have HK := Lib.hid hK
  have HCC := Lib.hid hCC
  have HRU := Lib.hid hru
  have HH := Lib.hid hh
  clear hru hh
  have hsL : (s : Int) < L := by omega
  have hs0 : ¬ (s : Int) < 0 := by omega
  have hsL2 : ¬ (L : Int) ≤ s := by omega
  have hki : (k : Int) < i := hi2
  have hk0 : ¬ (k : Int) < 0 := by omega
  have hki2 : ¬ i ≤ (k : Int) := by omega
  have HRS := Lib.hid hrs
  have HRK := Lib.hid hrk
  have HRL := Lib.hid hrl
  clear hs2 hin hrs hrk hrl hkl hsl hwv
  clear hst hsv hwi hsm hv1 hv2 hv3 hv4
  have hK3 : ¬ (300 : Int) < K := by omega
  have hKd : K ≤ d := by omega
  clear hC
  clear hL hK hCC hwd hk
  have s0 := ((MK.start he).putR hr).putL hw
  clear he hr hw
  go_enter Try.func3, Try.ntmps3
  have s1 := ((s0.alloc P (.cells #[.int .i64 i, .int .i64 o, .slice A L c] 24)).putB (g := w.heap.size) (heap_alloc_new w _)).alloc P (.cells #[.int .i64 (s : Int), .int .i64 (k : Int)] 25) |>.putO (g := w.heap.size + 1) (o := .cells #[.int .i64 (s : Int), .int .i64 (k : Int)] 25) (by
      have h := heap_alloc_new (boxM w i o A L c) (.cells #[.int .i64 (s : Int), .int .i64 (k : Int)] 25)
      rw [show (boxM w i o A L c).heap.size = w.heap.size + 1 by simp] at h
      exact h)
  clear s0
  go_wp2_with fail
  refine (CG _ (s1.get 3 rfl)).mono ?_
  rintro e w1 ⟨rfl, hbl⟩
  have s2 := s1.next P hbl
  clear s1 hbl CG
  obtain ⟨b0, b1, b2⟩ := BxM.cells (s2.get 1 rfl)
  go_wp2_with fail
  clear b0 b1 b2
  refine (C0 _ (s2.get 3 rfl)).mono ?_
  rintro e w2 ⟨rfl, hbl⟩
  have s3 := (s2.next P hbl)
  clear s2 hbl
  obtain ⟨b0, b1, b2⟩ := BxM.cells (s3.get 1 rfl)
  go_wp2_with fail
  clear b0 b1 b2
  refine (C1 _ s3.1 (s3.get 3 rfl)).mono ?_
  rintro e w3 ⟨rfl, hbl⟩
  have s4 := (s3.next P hbl)
  clear s3 hbl
  obtain ⟨b0, b1, b2⟩ := BxM.cells (s4.get 1 rfl)
  go_wp2_with fail
  clear b0 b1 b2
  refine (C2 _ s4.1 (s4.get 3 rfl)).mono ?_
  rintro e w4 ⟨rfl, hbl⟩
  have s5 := (s4.next P hbl)
  clear s4 hbl
  obtain ⟨b0, b1, b2⟩ := BxM.cells (s5.get 1 rfl)
  go_wp2_with fail
  clear b0 b1 b2
  refine (C3 _ s5.1 (s5.get 3 rfl)).mono ?_
  rintro e w5 ⟨rfl, hbl⟩
  have s6 := (s5.next P hbl)
  clear s5 hbl
  obtain ⟨b0, b1, b2⟩ := BxM.cells (s6.get 1 rfl)
  go_wp2_with fail
  clear b0 b1 b2
  refine (C4 _ s6.1 (s6.get 3 rfl)).mono ?_
  rintro e w6 ⟨B, n, rfl, hun, _, hbl⟩
  have s7 := (s6.next P hbl)
  clear s6 hbl
  obtain ⟨b0, b1, b2⟩ := BxM.cells (s7.get 1 rfl)
  go_wp2_with fail
  clear b0 b1 b2
  refine (C5 _ s7.1 (s7.get 3 rfl)).mono ?_
  rintro e w7 ⟨rfl, hbl⟩
  have s8 := (s7.next P hbl)
  clear s7 hbl
  obtain ⟨b0, b1, b2⟩ := BxM.cells (s8.get 1 rfl)
  go_wp2_with fail
  clear b0 b1 b2
  refine (C6 _ s8.1 (s8.get 3 rfl)).mono ?_
  rintro e w8 ⟨rfl, hbl⟩
  have s9 := (s8.next P hbl)
  clear s8 hbl
  have hpl : w8.heap[w.heap.size + 1]? = some (.cells #[.int .i64 (s : Int), .int .i64 (k : Int)] 25) := s9.get 0 rfl
  have l0 : w8.cell? ⟨w.heap.size + 1, 0, none⟩ = some (.int .i64 (s : Int)) := by rw [cell_of_row _ _ _ _ _ _ hpl]; rfl
  have l1 : w8.cell? ⟨w.heap.size + 1, 1, none⟩ = some (.int .i64 (k : Int)) := by rw [cell_of_row _ _ _ _ _ _ hpl]; rfl
  clear hpl
  go_wp2_with fail
  go_quiet (fail)
  clear l0 l1
  have s10 := s9.next P (below_drewN' (Below.refl _ _) nq)
  clear s9
  obtain ⟨W, hW⟩ : ∃ W, w8.drewN nq = W := ⟨_, rfl⟩
  rw [hW] at s10 ⊢
  clear hW
  obtain ⟨b0, b1, b2⟩ := BxM.cells (s10.get 1 rfl)
  go_wp2_with fail
  clear b0 b1 b2
  refine (C7 _ s10.1 (s10.get 3 rfl)).mono ?_
  rintro e w9 ⟨rfl, hbl⟩
  have s11 := (s10.next P hbl)
  clear s10 hbl
  have s12 := (s11.alloc P (.cells #[.int .i64 yx, .int .i64 yy] 39)).putE (g := w9.heap.size) (heap_alloc_new w9 _)
  clear s11
  go_upto_region 14 with fail
  obtain ⟨W2, hW2⟩ : ∃ W, w9.alloc (.cells #[.int .i64 yx, .int .i64 yy] 39) = W := ⟨_, rfl⟩
  rw [hW2] at s12 ⊢
  clear hW2
  have hE := s12.1
  have HR := Lib.hid (show RdR W2 A rs from s12.get 4 rfl)
  have hBm : BxM W2 w.heap.size i o A L c := s12.get 2 rfl
  have HKS : Hid (∀ W : World, Below W2.heap.size W2 W → (W.cell? ⟨w.heap.size, 0, none⟩ = some (.int .i64 i) ∧ W.cell? ⟨w.heap.size, 1, none⟩ = some (.int .i64 o) ∧ W.cell? ⟨w.heap.size, 2, none⟩ = some (.slice A L c))) := fun W hW => (hBm.to hW).cells
  clear hBm
  go_cut [20, 21] from 132 to 139 (fun u v wx => ∃ (G : Nat) (B : Option Addr) (j : Nat), u = .pointer (some ⟨G, 0, none⟩) ∧ v = .int .i64 0 ∧ Hid (WiR W2 G Gm.i Gm.o B j wx))
  case first =>
    go_region_held3 (fun W => W.cell? ⟨w.heap.size, 0, none⟩ = some (.int .i64 i) ∧ W.cell? ⟨w.heap.size, 1, none⟩ = some (.int .i64 o) ∧ W.cell? ⟨w.heap.size, 2, none⟩ = some (.slice A L c))
      ((refine HKS.out _ ?_; repeat (with_reducible (first | refine bS ?_ (by omega) _ | refine bA ?_ _ | refine bD ?_ | exact Below.refl _ _ | refine below_next ?_ (by assumption)))))
      (first
        | (go_at_call 20
           (with_reducible refine (edge_any 0 0 _).mono ?_)
           rintro e wA ⟨rfl, hbA⟩
           have zA := hbA.size
           try simp at zA
           try (with_reducible have bA0 := BxM.toD (BxM.new1 W2) hbA)
           try obtain ⟨⟨x00, x01, x02⟩, ⟨x03, x04, x05⟩, x06⟩ := bA0.all
           dsimp only)
        | (go_at_call 19
           (with_reducible refine (C8 _ (P.keep hE (by repeat (with_reducible (first | refine bA ?_ _ | refine bD ?_ | exact Below.refl _ _ | refine below_next ?_ (by assumption))))) (HR.out.below (by repeat (with_reducible (first | refine bA ?_ _ | refine bD ?_ | exact Below.refl _ _ | refine below_next ?_ (by assumption)))))).mono ?_)
           rintro e wB ⟨B2, j2, vs2, rfl, hj2, _, hbB⟩
           skip
           have zB := hbB.size
           try simp at zB
           try (with_reducible have bB0 := BxM.to bA0 hbB)
           try (with_reducible have bB2 := BxM.to (BxM.new1 wA) hbB)
           try obtain ⟨⟨y00, y01, y02⟩, ⟨y03, y04, y05⟩, y06⟩ := bB0.all
           try obtain ⟨⟨y20, y21, y22⟩, ⟨y23, y24, y25⟩, y26⟩ := bB2.all
           dsimp only)
        | fail)
    all_goals
      go_wp2_with fail
      go_meet
      refine ⟨_, B2, j2, rfl, rfl, ?_⟩
      refine ⟨?_, ?_⟩
      · repeat (with_reducible (first | exact BxM.new _ _ _ _ _ _ | exact BxM.set3 (by first | assumption | exact BxM.al (by assumption) _) | refine BxM.al ?_ _))
      · repeat (with_reducible (first | refine bS ?_ (by omega) _ | refine bA ?_ _ | refine bD ?_ | exact Below.refl _ _ | refine below_next ?_ (by assumption)))
  case rest =>
  obtain ⟨G, B2, j, rfl, rfl, hWi⟩ := hcut
  have s13 := (s12.next P hWi.out.bel).putB hWi.out.bg
  clear s12 hWi HKS HR hE C0 C1 C2 C3 C4 C5 C6 C7 C8
  obtain ⟨m0, m1, m2⟩ := BxM.cells (s13.get 3 rfl)
  obtain ⟨o0, o1, o2⟩ := BxM.cells (s13.get 0 rfl)
  obtain ⟨t0, t1, _, _⟩ := BxE.cells (s13.get 1 rfl)
  have hlm : w.heap.size < wc.heap.size := heap_lt (s13.get 3 rfl)
  have hlo : G < wc.heap.size := heap_lt (s13.get 0 rfl)
  have hle : w9.heap.size < wc.heap.size := heap_lt (s13.get 1 rfl)
  have hRM : RdR wc A rs := s13.get 5 rfl
  obtain ⟨br, offr, Be, de, qe, row', rfl, hbr, hcr, _, _, _, hpe, hqe, hrw⟩ := hRM.at_ (k := s) (by rw [HL.out]; omega)
  have hrr : row' = row := by have := hrw.out; rw [HRS.out] at this; injection this with this; exact this.symm
  subst hrr
  obtain ⟨be, offe, ex, ey, rfl, hbe, hce0, hce1, hex⟩ := hpe.at_ (k := k) (by have := HRL.out; omega)
  have hee : ((ex, ey) : Ed) = (yx, yy) := by have := hex.out; rw [HRK.out] at this; injection this with this; exact this.symm
  injection hee with he1 he2
  subst he1 he2
  have hqi : (qe : Int) = i := by rw [← hqe.out]; exact HRL.out
  have hkq : (k : Int) < qe := by omega
  have f9 : ∀ x : BW wc, x.out.cell? ⟨br, offr + s, none⟩ = some (.slice (some ⟨be, offe, none⟩) qe de) := fun x => (x.ok.cell (p := ⟨_, _, none⟩) hbr).trans hcr
  have f10 : ∀ x : BW wc, x.out.cell? ⟨be, offe + k * 2, none⟩ = some (.int .i64 ex) := fun x => (x.ok.cell (p := ⟨_, _, none⟩) hbe).trans hce0
  have f11 : ∀ x : BW wc, x.out.cell? ⟨be, offe + k * 2 + 1, none⟩ = some (.int .i64 ey) := fun x => (x.ok.cell (p := ⟨_, _, none⟩) hbe).trans hce1
  have HQI := Lib.hid hqi
  clear hRM hpe hqe hrw hex hcr hce0 hce1 hqi
  have hrun : ∀ w, (binOp .neq 39 (.agg #[.int .i64 ex, .int .i64 ey]) (.agg #[.int .i64 ex, .int .i64 ey])).run Try.prog w = .ok (.bool false) w := fun w => by rw [run_neq_edge]; simp
  have f0 : ∀ x : BW wc, x.out.cell? ⟨w.heap.size, 0, none⟩ = some (.int .i64 i) := fun x => (x.ok.cell (p := ⟨_, _, none⟩) hlm).trans m0
  have f1 : ∀ x : BW wc, x.out.cell? ⟨w.heap.size, 1, none⟩ = some (.int .i64 o) := fun x => (x.ok.cell (p := ⟨_, _, none⟩) hlm).trans m1
  have f2 : ∀ x : BW wc, x.out.cell? ⟨w.heap.size, 2, none⟩ = some (.slice (some ⟨br, offr, none⟩) L c) := fun x => (x.ok.cell (p := ⟨_, _, none⟩) hlm).trans m2
  have f3 : ∀ x : BW wc, x.out.cell? ⟨G, 0, none⟩ = some (.int .i64 Gm.i) := fun x => (x.ok.cell (p := ⟨_, _, none⟩) hlo).trans o0
  have f4 : ∀ x : BW wc, x.out.cell? ⟨G, 1, none⟩ = some (.int .i64 Gm.o) := fun x => (x.ok.cell (p := ⟨_, _, none⟩) hlo).trans o1
  have f5 : ∀ x : BW wc, x.out.cell? ⟨G, 2, none⟩ = some (.slice B2 j j) := fun x => (x.ok.cell (p := ⟨_, _, none⟩) hlo).trans o2
  have f6 : ∀ x : BW wc, x.out.cell? ⟨w9.heap.size, 0, none⟩ = some (.int .i64 ex) := fun x => (x.ok.cell (p := ⟨_, _, none⟩) hle).trans t0
  have f7 : ∀ x : BW wc, x.out.cell? ⟨w9.heap.size, 1, none⟩ = some (.int .i64 ey) := fun x => (x.ok.cell (p := ⟨_, _, none⟩) hle).trans t1
  go_wp2_with fail
  clear m0 m1 m2 o0 o1 o2 t0 t1
  refine wp_region_quiet_below (by kernel_rfl) (by kernel_rfl) ?_
  repeat (go_big_quiet_step ((rename_i x; refine (edge_any 0 0 _).mono ?_; rintro e w2 ⟨rfl, hb2⟩; exact ⟨rfl, ⟨w2, below_next x.ok hb2⟩, rfl⟩)))
  refine wpQuiet_nil ?_
  intro w20 hw20
  obtain ⟨⟨wx, hbW⟩, hw3⟩ := hw20
  dsimp only at hw3
  subst hw3
  have s14 := s13.next P hbW
  clear s13 hbW f0 f1 f2 f3 f4 f5 f6 f7 hrun hlm hlo hle
  clear f9 f10 f11 hkq
  have CW := fun w hw => rwcheck_at U K d ws i w hw HK.out
  rw [HH.out] at CW
  obtain ⟨b0, b1, b2⟩ := BxM.cells (s14.get 3 rfl)
  go_wp2_with fail
  clear b0 b1 b2
  refine (CW _ (s14.get 4 rfl)).mono ?_
  rintro e w21 ⟨rfl, hbl⟩
  replace s14 := s14.next P hbl
  clear hbl CW
  by_cases hh0 : h = 0
  case neg =>
    have hrv := Mc.runV_no (show Mc.runE ⟨i, o, rs⟩ (s : Int) ws ≠ 0 by rw [HRU.out]; exact hh0)
    have hav := Mc.aftV_no (show Mc.runE ⟨i, o, rs⟩ (s : Int) ws ≠ 0 by rw [HRU.out]; exact hh0)
    simp only [HRU.out, hrv] at C9
    simp only [HRU.out, hav] at C10
    have hhb : (h == 0) = false := by rw [beq_eq_false_iff_ne]; exact hh0
    have hhm : (h != 0) = true := by simpa using hh0
    have hhe : (h == h) = true := beq_self_eq_true _
    clear hrv hav
    obtain ⟨b0, b1, b2⟩ := BxM.cells (s14.get 3 rfl)
    go_wp2_with fail
    clear b0 b1 b2
    refine (C9 _ s14.1 (s14.get 5 rfl) (s14.get 4 rfl)).mono ?_
    rintro e w30 ⟨B3, j3, rfl, hj3, hrd, hbl⟩
    have s15 := (s14.next P hbl).putL hrd
    clear s14 hbl
    obtain rfl : 0 = j3 := hj3.out
    clear hrd
    obtain ⟨b0, b1, b2⟩ := BxM.cells (s15.get 4 rfl)
    go_wp2_with fail
    clear b0 b1 b2
    refine (C10 _ s15.1 (s15.get 6 rfl) (s15.get 5 rfl)).mono ?_
    rintro e w31 ⟨rfl, hbl⟩
    have s16 := (s15.next P hbl)
    clear s15 hbl
    go_wp2_with fail
    refine (list_yes B3 none 0 0 [] h _ Rd.nil_ Rd.nil_ rfl (Nat.zero_le _)).mono ?_
    rintro e w32 ⟨rfl, hbl⟩
    have s17 := s16.next P hbl
    clear s16 hbl
    go_wp2_with fail
    refine (lives_walk P _ s17.1).mono ?_
    rintro e wl ⟨rfl, hbl⟩
    have s18 := s17.next P hbl
    go_wp2
    go_ret
    exact ⟨rfl, s18.2.1⟩
  case pos =>
    subst hh0
    have hrv := Mc.runV_yes HRU.out
    have hav := Mc.aftV_yes HRU.out
    obtain ⟨hwd, hw256⟩ := Mc.wd_of (m := ⟨i, o, rs⟩) HH.out
    have HWD := Lib.hid hwd
    have hK6 : K ≤ 256 := by rw [← HK.out]; exact hw256
    obtain ⟨l, hl⟩ : ∃ l, Mc.run ⟨i, o, rs⟩ (s : Int) ws = l := ⟨_, rfl⟩
    obtain ⟨z, hz⟩ : ∃ z, Mc.aft ⟨i, o, rs⟩ (s : Int) ws = z := ⟨_, rfl⟩
    have HLL : Hid (l.length = K) := by show _ = _; rw [← hl, Mc.run_len]; exact HK.out
    simp only [HRU.out, hrv, hl] at C9
    simp only [HRU.out, hav, hz] at C10
    have CR := fun w hr hw => rrun_at ⟨i, o, rs⟩ i o s (some ⟨br, offr, none⟩) U L c K d ws w V.out rfl rfl HL.out HK.out hr hw (Or.inr ⟨by omega, by rw [HL.out]; omega⟩) HWD.out (by omega)
    have CF := fun w hr hw => rafter_at ⟨i, o, rs⟩ i o s (some ⟨br, offr, none⟩) U L c K d ws w V.out rfl rfl HL.out HK.out hr hw (Or.inr ⟨by omega, by rw [HL.out]; omega⟩) HWD.out hKd
    simp only [hl] at CR
    simp only [hz] at CF
    have hzz : (z == z) = true := beq_self_eq_true _
    clear hrv hav hwd hw256 hl hz
    obtain ⟨b0, b1, b2⟩ := BxM.cells (s14.get 3 rfl)
    go_wp2_with fail
    clear b0 b1 b2
    refine (C9 _ s14.1 (s14.get 5 rfl) (s14.get 4 rfl)).mono ?_
    rintro e w30 ⟨B3, j3, rfl, hj3, hrd, hbl⟩
    have s15 := (s14.next P hbl).putL hrd
    clear s14 hbl
    obtain rfl : j3 = K := hj3.out.symm.trans HLL.out
    clear hrd
    obtain ⟨b0, b1, b2⟩ := BxM.cells (s15.get 4 rfl)
    go_wp2_with fail
    clear b0 b1 b2
    refine (C10 _ s15.1 (s15.get 6 rfl) (s15.get 5 rfl)).mono ?_
    rintro e w31 ⟨rfl, hbl⟩
    have s16 := (s15.next P hbl)
    clear s15 hbl
    obtain ⟨b0, b1, b2⟩ := BxM.cells (s16.get 4 rfl)
    go_wp2_with fail
    clear b0 b1 b2
    refine (CR _ (s16.get 6 rfl) (s16.get 5 rfl)).mono ?_
    rintro e w32 ⟨Br, q, rfl, hrd, hbl⟩
    have s17 := (s16.next P hbl).putL hrd
    clear s16 hbl
    go_wp2_with fail
    refine (list_yes B3 Br j3 q l 0 _ (s17.get 1 rfl) (s17.get 0 rfl) HLL.out (by omega)).mono ?_
    rintro e w33 ⟨rfl, hbl⟩
    have s18 := s17.next P hbl
    clear s17 hbl hrd
    obtain ⟨b0, b1, b2⟩ := BxM.cells (s18.get 5 rfl)
    go_wp2_with fail
    clear b0 b1 b2
    refine (CF _ (s18.get 7 rfl) (s18.get 6 rfl)).mono ?_
    rintro e w34 ⟨rfl, hbl⟩
    have s19 := (s18.next P hbl)
    clear s18 hbl
    go_wp2_with fail
    refine (lives_walk P _ s19.1).mono ?_
    rintro e wl ⟨rfl, hbl⟩
    have s20 := s19.next P hbl
    go_wp2
    go_ret
    exact ⟨rfl, s20.2.1⟩

set_option maxRecDepth 100000 in
theorem lawCheck_walk {E : World → Prop} (P : Pm E) (i o : Int) (rs : List (List Ed)) (A : Option Addr) (c : Nat) (p0 p1 : Int) (U : Option Addr) (d : Nat) (ws : List Int) (w : World) (he : E w) (hr : RdR w A rs) (hw : Rd w U ws) (hwd : ws.length ≤ d) :
    Calls Try.prog 3 #[.agg #[.int .i64 i, .int .i64 o, .slice A rs.length c], .agg #[.int .i64 p0, .int .i64 p1], .slice U ws.length d] w fun e w' => e = .returned (.bool true) ∧ Below w.heap.size w w' := by
  obtain ⟨L, hL⟩ : ∃ L, rs.length = L := ⟨_, rfl⟩
  by_cases hg : Mc.grt rs = 1
  · obtain ⟨K, hK⟩ : ∃ K, ws.length = K := ⟨_, rfl⟩
    have CG := fun w hr => great_any i o rs A L c w hr hL
    rw [hL, hK]
    rw [hg] at CG
    have s1 := ((MK.start he).putR hr).alloc P (.cells #[.int .i64 i, .int .i64 o, .slice A L c] 24) |>.alloc P (.cells #[.int .i64 p0, .int .i64 p1] 25)
    clear hg hL hK hwd hr hw he
    go_enter Try.func3, Try.ntmps3
    go_wp2_with fail
    refine (CG _ (s1.get 0 rfl)).mono ?_
    rintro e w1 ⟨rfl, hbl⟩
    have s2 := s1.next P hbl
    go_wp2
    go_ret
    exact ⟨rfl, s2.2.1⟩
  by_cases hk : ws.length ≤ 300
  case neg =>
    obtain ⟨K, hK⟩ : ∃ K, ws.length = K := ⟨_, rfl⟩
    obtain ⟨g, hgg, hg1⟩ : ∃ g, Mc.grt rs = g ∧ (g == 1) = false := ⟨_, rfl, by rw [beq_eq_false_iff_ne]; exact hg⟩
    have CG := fun w hr => great_any i o rs A L c w hr hL
    rw [hL, hK]
    rw [hgg] at CG
    have hK3 : (300 : Int) < K := by omega
    have s1 := ((MK.start he).putR hr).alloc P (.cells #[.int .i64 i, .int .i64 o, .slice A L c] 24) |>.alloc P (.cells #[.int .i64 p0, .int .i64 p1] 25)
    clear hg hgg hL hK hwd hr hw he hk
    go_enter Try.func3, Try.ntmps3
    go_wp2_with fail
    refine (CG _ (s1.get 0 rfl)).mono ?_
    rintro e w1 ⟨rfl, hbl⟩
    have s2 := s1.next P hbl
    go_wp2
    go_ret
    exact ⟨rfl, s2.2.1⟩
  clear hL L
  by_cases hC : Mc.chk ⟨i, o, rs⟩ = 0
  case neg => exact lawCheck_A P i o rs A c p0 p1 U d ws w he hr hw hwd hg hk hC
  by_cases hs : p0 < 0
  · exact lawCheck_B P i o rs A c p0 p1 U d ws w he hr hw hwd hg hk hC hs
  by_cases hs2 : (rs.length : Int) ≤ p0
  · exact lawCheck_D P i o rs A c p0 p1 U d ws w he hr hw hwd hg hk hC (by omega) hs2
  by_cases hi : p1 < 0
  · exact lawCheck_F P i o rs A c p0 p1 U d ws w he hr hw hwd hg hk hC (by omega) (by omega) hi
  by_cases hi2 : i ≤ p1
  · exact lawCheck_G P i o rs A c p0 p1 U d ws w he hr hw hwd hg hk hC (by omega) (by omega) (by omega) hi2
  · exact lawCheck_H P i o rs A c p0 p1 U d ws w he hr hw hwd hg hk hC (by omega) (by omega) (by omega) (by omega)

end Go.Proofs.Ytiohfflkolopeaa
