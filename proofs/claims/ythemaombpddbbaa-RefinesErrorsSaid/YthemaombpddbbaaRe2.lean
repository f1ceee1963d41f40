/-
  The walk of RefinesErrors, in cases (two). No statement is proved here.
-/
import Derived.Test.YthemaombpddbbaaRe1
namespace Go.Proofs.Ythemaombpddbbaa
open Go.RowKit
open Mc (Ed Ma)

set_option maxRecDepth 100000 in
set_option maxHeartbeats 4000000 in
/-- the first number is no state; the partition is not valid. -/
theorem rerr_Vc1 (ri ro : Int) (X P : Option Addr) (cx d l N : Nat) (rs : List (List Ed)) (p : List Int) (z0 z1 : Int) (w : World) (hx : RdR w X rs) (hp : Rd w P p) (hN : rs.length = N) (hl : p.length = l)
    (h70 : N ≤ 70) (h300 : l ≤ 300) (hrw : ∀ row ∈ rs, row.length ≤ 20) (hz : Mc.chk ⟨ri, ro, rs⟩ = 0) (hz0 : 0 ≤ z0) (hz1 : 0 ≤ z1) (hz2 : (N : Int) ≤ z0) (hq : M.pck p ≠ 0) :
    Calls Try.prog 12 #[.agg #[.int .i64 ri, .int .i64 ro, .slice X N cx], .slice P l d, .agg #[.int .i64 z0, .int .i64 z1]] w fun e w' => e = .returned (.bool true) ∧ Below w.heap.size w w' := by
  have hk6 : N ≤ 1000000 := by omega
  have hrl : ∀ row ∈ rs, row.length ≤ 1000000 := fun row hrow => by have := hrw row hrow; omega
  have HN := Lib.hid hN
  have HRW := Lib.hid hrw
  have hchk : Mc.chk ⟨ri, ro, rs⟩ = 0 := hz
  obtain ⟨V1, hV1, hL1⟩ : ∃ V1, Mc.rdV ⟨ri, ro, rs⟩ z0 = V1 ∧ V1.length = N := ⟨_, rfl, by unfold Mc.rdV; rw [if_pos hz, if_neg (by omega), Mc.rnd_len]; exact hN⟩
  have hE1 : Mc.rdE ⟨ri, ro, rs⟩ z0 = 0 := by unfold Mc.rdE; rw [if_pos hz, if_neg (by omega)]
  obtain ⟨V2, hV2, hL2⟩ : ∃ V2, Mc.clV ⟨ri, ro, rs⟩ = V2 ∧ V2.length = N := ⟨_, rfl, by unfold Mc.clV Mc.cls; rw [if_pos hz, Mc.rnd_len]; exact hN⟩
  obtain ⟨K2, hN2⟩ : ∃ K2, Mc.clN ⟨ri, ro, rs⟩ = K2 := ⟨_, rfl⟩
  have hR : ¬ Mc.inR ⟨ri, ro, rs⟩ z0 z1 := by unfold Mc.inR; simp only [hN]; omega
  have hcb : Mc.eqV ⟨ri, ro, rs⟩ z0 z1 = false := by unfold Mc.eqV; rw [decide_eq_false hR]; simp
  have hg : Mc.eqE ⟨ri, ro, rs⟩ z0 z1 = 1 := by unfold Mc.eqE; rw [if_pos hz, if_neg hR]
  obtain ⟨f, hpc⟩ : ∃ f, M.pck p = f := ⟨_, rfl⟩
  have hh : Mc.rsE ⟨ri, ro, rs⟩ p = f := by unfold Mc.rsE; rw [if_pos hz, if_neg hq, hpc]
  have hrb : Mc.rsV ⟨ri, ro, rs⟩ p = false := by unfold Mc.rsV; rw [hh, ← hpc, decide_eq_false hq]; rfl
  rw [hpc] at hq
  have f1 : (f == 0) = false := by simp [hq]
  have f2 : (f == f) = true := by simp
  have d0 : decide (z0 < 0) = false := decide_eq_false (by omega)
  have d0' : decide (0 ≤ z0) = true := decide_eq_true hz0
  have d1 : decide (0 ≤ z1) = true := decide_eq_true hz1
  have d2 : decide (z0 < (N : Int)) = false := decide_eq_false (by omega)
  have nn : ((N : Int) != N) = false := by simp
  have nn2 : ((N : Int) == N) = true := by simp
  clear hz hq hR
  have CK : Hid (∀ w, RdR w X rs → Calls Try.prog 28 #[.agg #[.int .i64 ri, .int .i64 ro, .slice X N cx]] w fun e w' => e = .returned (.int .i64 0) ∧ Below w.heap.size w w') := fun w hr => by
    have h := rmcheck_any ⟨ri, ro, rs⟩ X cx w hr (by simp only; omega)
    simp only [hN, hchk] at h
    exact h
  have C1 : Hid (∀ w, RdR w X rs → Calls Try.prog 40 #[.agg #[.int .i64 ri, .int .i64 ro, .slice X N cx], .int .i64 z0] w fun e w' => ∃ B, e = .returned (.tuple #[.slice B N N, .int .i64 0]) ∧ Rd w' B V1 ∧ Below w.heap.size w w') := fun w hr => by
    refine (rounds_any ri ro rs X N cx z0 w hr hN hk6 hrl).mono ?_
    rintro e w' ⟨B, rfl, h1, h2⟩
    rw [hV1, hE1] at *
    exact ⟨B, by rw [hL1], h1, h2⟩
  have C2 : Hid (∀ w, RdR w X rs → Calls Try.prog 44 #[.agg #[.int .i64 ri, .int .i64 ro, .slice X N cx]] w fun e w' => ∃ B, e = .returned (.tuple #[.slice B N N, .int .i64 K2, .int .i64 0]) ∧ Rd w' B V2 ∧ Below w.heap.size w w') := fun w hr => by
    refine (classes_any ri ro rs X N cx w hr hN hk6 hrl).mono ?_
    rintro e w' ⟨B, rfl, h1, h2⟩
    rw [hV2, hN2, hchk] at *
    exact ⟨B, by rw [hL2], h1, h2⟩
  have C3 : Hid (∀ w, RdR w X rs → Calls Try.prog 49 #[.agg #[.int .i64 ri, .int .i64 ro, .slice X N cx], .int .i64 z0, .int .i64 z1] w fun e w' => e = .returned (.tuple #[.bool false, .int .i64 1]) ∧ Below w.heap.size w w') := fun w hr => by
    have h := equiv_any ri ro rs X N cx z0 z1 w hr hN hk6 hrl
    rw [hcb, hg] at h
    exact h
  have C4 : Hid (∀ w, RdR w X rs → Rd w P p → Calls Try.prog 51 #[.agg #[.int .i64 ri, .int .i64 ro, .slice X N cx], .slice P l d] w fun e w' => e = .returned (.tuple #[.bool false, .int .i64 f]) ∧ Below w.heap.size w w') := fun w hr hp => by
    have h := respects_any ri ro rs X P N cx d l p w hr hN hk6 hrl hp hl
    rw [hrb, hh] at h
    exact h
  have C5 : Hid (∀ w, Rd w P p → Calls Try.prog 41 #[.slice P l d] w fun e w' => e = .returned (.int .i64 f) ∧ Below w.heap.size w w') := fun w hp => by
    have h := rcheck_any P d p w hp
    rw [hl, hpc] at h
    exact h
  clear hN hl hrw hchk hV1 hE1 hV2 hN2 hcb hg hrb hh hL1 hL2 hrl hpc
  have s1 : MT w w _ := MK.putR MT.start hx
  have s1' := MT.putK (P := fun w => Rd w P p) s1 hp (fun _ _ h hb => h.below hb)
  clear hx hp s1
  obtain ⟨K0, hK0⟩ : ∃ K0, w.heap.size = K0 := ⟨_, rfl⟩
  have s2 := MK.putB (g := w.heap.size) (MT.alloc s1' (.cells #[.int .i64 ri, .int .i64 ro, .slice X N cx] 30)) (heap_alloc_new w _)
  have s4 := MT.putK (P := fun w => w.heap[K0 + 1]? = some (.cells #[.int .i64 z0, .int .i64 z1] 56)) (MT.alloc s2 (.cells #[.int .i64 z0, .int .i64 z1] 56))
    (by
      have h := heap_alloc_new (w.alloc (.cells #[.int .i64 ri, .int .i64 ro, .slice X N cx] 30)) (.cells #[.int .i64 z0, .int .i64 z1] 56)
      rw [World.size_alloc, hK0] at h
      exact h) (fun _ _ h hb => (hb.block _ (heap_lt h)).trans h)
  rw [hK0] at s4
  clear s1' s2
  go_enter Try.func12, Try.ntmps12
  go_upto_region 1 with fail
  obtain ⟨W0, hW0⟩ : ∃ W0, (w.alloc (.cells #[.int .i64 ri, .int .i64 ro, .slice X N cx] 30)).alloc (.cells #[.int .i64 z0, .int .i64 z1] 56) = W0 := ⟨_, rfl⟩
  rw [hW0] at s4
  rw [hW0]
  clear hW0
  obtain ⟨q0, q1, q2⟩ := BxM.cells (MK.get s4 1 rfl)
  have hd70 : decide ((70 : Int) < N) = false := decide_eq_false (by omega)
  have hd300 : decide ((300 : Int) < l) = false := decide_eq_false (by omega)
  go_wp2
  clear q0 q1 q2 hd70 hd300
  have SF := Lib.hid s4
  clear s4
  go_loopw [7] (fun v wr => ∃ k : Nat, k ≤ N ∧ v = .int .i64 k ∧ Hid (Below W0.heap.size W0 wr)) (fun v _ => N - (intOf v).toNat)
  case atStart => exact ⟨0, by omega, rfl, Below.refl _ _⟩
  case round =>
    obtain ⟨k, hk, rfl, hbr⟩ := hrel
    have sK := MT.next SF.out hbr.out
    obtain ⟨q0, q1, q2⟩ := BxM.cells (MK.get sK 1 rfl)
    by_cases hlt : k < N
    · have hkn : (k : Int) < N := by omega
      obtain ⟨br, ofr, Br, cr, nr, row, rfl, _, hcr, _, _, _, _, hrl, hrk⟩ := (MK.get sK 3 rfl).at_ (k := k) (by rw [HN.out]; exact hlt)
      have hnr : nr ≤ 20 := by rw [← hrl.out]; exact HRW.out row (List.mem_of_getElem? hrk.out)
      have hd20 : decide ((20 : Int) < nr) = false := decide_eq_false (by omega)
      clear sK hrl hrk
      go_wp2
      go_roundw
      case rel => exact ⟨k + 1, by omega, by go_num, hbr⟩
      case measure => simp [intOf]; omega
    · have hkn : decide ((k : Int) < N) = false := decide_eq_false (by omega)
      clear SF hbr HRW HN
      have ZK : Hid (∀ (V : World) (L : List (World → Prop)), MT w V ((fun w => w.heap[K0 + 1]? = some (.cells #[.int .i64 z0, .int .i64 z1] 56)) :: L) → V.cell? ⟨K0 + 1, 0, none⟩ = some (.int .i64 z0) ∧ V.cell? ⟨K0 + 1, 1, none⟩ = some (.int .i64 z1)) := fun V L h => by
        have h1 := MK.get h 0 rfl
        refine ⟨?_, ?_⟩ <;> (rw [cell_of_row _ _ _ _ _ _ h1]; rfl)
      go_wp2_with fail
      refine (CK.out _ (MK.get sK 3 rfl)).mono ?_
      rintro e w1 ⟨rfl, hb⟩
      have t1 := MT.next sK hb
      clear hb sK q0 q1 q2 CK
      obtain ⟨q0, q1, q2⟩ := BxM.cells (MK.get t1 1 rfl)
      obtain ⟨y0, y1⟩ := ZK.out _ _ t1
      go_wp2_with fail
      refine (C1.out _ (MK.get t1 3 rfl)).mono ?_
      rintro e w2 ⟨B1, rfl, h1, hb⟩
      have t2 := MT.next t1 hb
      have H1 := Lib.hid h1
      clear hb t1 q0 q1 q2 y0 y1 C1 h1
      obtain ⟨q0, q1, q2⟩ := BxM.cells (MK.get t2 1 rfl)
      go_wp2_with fail
      refine (C2.out _ (MK.get t2 3 rfl)).mono ?_
      rintro e w3 ⟨B2, rfl, h2, hb⟩
      have t3 := MT.next t2 hb
      have H1' := Lib.hid (H1.out.below hb)
      have H2 := Lib.hid h2
      clear hb t2 q0 q1 q2 C2 h2 H1
      obtain ⟨q0, q1, q2⟩ := BxM.cells (MK.get t3 1 rfl)
      obtain ⟨y0, y1⟩ := ZK.out _ _ t3
      go_wp2_with fail
      refine (C3.out _ (MK.get t3 3 rfl)).mono ?_
      rintro e w4 ⟨rfl, hb⟩
      have t4 := MT.next t3 hb
      have H1 := Lib.hid (H1'.out.below hb)
      have H2' := Lib.hid (H2.out.below hb)
      clear hb t3 q0 q1 q2 y0 y1 C3 H1' H2
      obtain ⟨q0, q1, q2⟩ := BxM.cells (MK.get t4 1 rfl)
      go_wp2_with fail
      refine (C4.out _ (MK.get t4 3 rfl) (MK.get t4 2 rfl)).mono ?_
      rintro e w5 ⟨rfl, hb⟩
      have t5 := MT.next t4 hb
      have H1' := Lib.hid (H1.out.below hb)
      have H2 := Lib.hid (H2'.out.below hb)
      clear hb t4 q0 q1 q2 C4 H1 H2'
      obtain ⟨q0, q1, q2⟩ := BxM.cells (MK.get t5 1 rfl)
      obtain ⟨y0, y1⟩ := ZK.out _ _ t5
      go_wp2_with fail
      refine (C5.out _ (MK.get t5 2 rfl)).mono ?_
      rintro e w6 ⟨rfl, hb⟩
      have t6 := MT.next t5 hb
      clear hb t5 q0 q1 q2 y0 y1 C5
      obtain ⟨q0, q1, q2⟩ := BxM.cells (MK.get t6 1 rfl)
      go_wp2_with fail
      clear q0 q1 q2
      refine (lives_walk _).mono ?_
      rintro e w7 ⟨rfl, hb⟩
      have hfin := (MT.next t6 hb).2.1
      clear hb t6
      go_wp2_with fail
      go_ret
      exact ⟨rfl, hfin⟩

set_option maxRecDepth 100000 in
set_option maxHeartbeats 4000000 in
/-- the first number is no state; the partition has another number of states. -/
theorem rerr_Vc2 (ri ro : Int) (X P : Option Addr) (cx d l N : Nat) (rs : List (List Ed)) (p : List Int) (z0 z1 : Int) (w : World) (hx : RdR w X rs) (hp : Rd w P p) (hN : rs.length = N) (hl : p.length = l)
    (h70 : N ≤ 70) (h300 : l ≤ 300) (hrw : ∀ row ∈ rs, row.length ≤ 20) (hz : Mc.chk ⟨ri, ro, rs⟩ = 0) (hz0 : 0 ≤ z0) (hz1 : 0 ≤ z1) (hz2 : (N : Int) ≤ z0) (hq : M.pck p = 0) (hq2 : l ≠ N) :
    Calls Try.prog 12 #[.agg #[.int .i64 ri, .int .i64 ro, .slice X N cx], .slice P l d, .agg #[.int .i64 z0, .int .i64 z1]] w fun e w' => e = .returned (.bool true) ∧ Below w.heap.size w w' := by
  have hk6 : N ≤ 1000000 := by omega
  have hrl : ∀ row ∈ rs, row.length ≤ 1000000 := fun row hrow => by have := hrw row hrow; omega
  have HN := Lib.hid hN
  have HRW := Lib.hid hrw
  have hchk : Mc.chk ⟨ri, ro, rs⟩ = 0 := hz
  obtain ⟨V1, hV1, hL1⟩ : ∃ V1, Mc.rdV ⟨ri, ro, rs⟩ z0 = V1 ∧ V1.length = N := ⟨_, rfl, by unfold Mc.rdV; rw [if_pos hz, if_neg (by omega), Mc.rnd_len]; exact hN⟩
  have hE1 : Mc.rdE ⟨ri, ro, rs⟩ z0 = 0 := by unfold Mc.rdE; rw [if_pos hz, if_neg (by omega)]
  obtain ⟨V2, hV2, hL2⟩ : ∃ V2, Mc.clV ⟨ri, ro, rs⟩ = V2 ∧ V2.length = N := ⟨_, rfl, by unfold Mc.clV Mc.cls; rw [if_pos hz, Mc.rnd_len]; exact hN⟩
  obtain ⟨K2, hN2⟩ : ∃ K2, Mc.clN ⟨ri, ro, rs⟩ = K2 := ⟨_, rfl⟩
  have hR : ¬ Mc.inR ⟨ri, ro, rs⟩ z0 z1 := by unfold Mc.inR; simp only [hN]; omega
  have hcb : Mc.eqV ⟨ri, ro, rs⟩ z0 z1 = false := by unfold Mc.eqV; rw [decide_eq_false hR]; simp
  have hg : Mc.eqE ⟨ri, ro, rs⟩ z0 z1 = 1 := by unfold Mc.eqE; rw [if_pos hz, if_neg hR]
  have hpc : M.pck p = 0 := hq
  have hh : Mc.rsE ⟨ri, ro, rs⟩ p = 16 := by unfold Mc.rsE; rw [if_pos hz, if_pos hq, hl]; simp only [hN]; rw [if_neg hq2]
  have hrb : Mc.rsV ⟨ri, ro, rs⟩ p = false := by unfold Mc.rsV; rw [hh]; rfl
  have f1 : ((l : Int) != N) = true := by simp; omega
  have f2 : ((l : Int) == N) = false := by simp; omega
  have d0 : decide (z0 < 0) = false := decide_eq_false (by omega)
  have d0' : decide (0 ≤ z0) = true := decide_eq_true hz0
  have d1 : decide (0 ≤ z1) = true := decide_eq_true hz1
  have d2 : decide (z0 < (N : Int)) = false := decide_eq_false (by omega)
  have nn : ((N : Int) != N) = false := by simp
  have nn2 : ((N : Int) == N) = true := by simp
  clear hz hq hR
  clear hq2
  have CK : Hid (∀ w, RdR w X rs → Calls Try.prog 28 #[.agg #[.int .i64 ri, .int .i64 ro, .slice X N cx]] w fun e w' => e = .returned (.int .i64 0) ∧ Below w.heap.size w w') := fun w hr => by
    have h := rmcheck_any ⟨ri, ro, rs⟩ X cx w hr (by simp only; omega)
    simp only [hN, hchk] at h
    exact h
  have C1 : Hid (∀ w, RdR w X rs → Calls Try.prog 40 #[.agg #[.int .i64 ri, .int .i64 ro, .slice X N cx], .int .i64 z0] w fun e w' => ∃ B, e = .returned (.tuple #[.slice B N N, .int .i64 0]) ∧ Rd w' B V1 ∧ Below w.heap.size w w') := fun w hr => by
    refine (rounds_any ri ro rs X N cx z0 w hr hN hk6 hrl).mono ?_
    rintro e w' ⟨B, rfl, h1, h2⟩
    rw [hV1, hE1] at *
    exact ⟨B, by rw [hL1], h1, h2⟩
  have C2 : Hid (∀ w, RdR w X rs → Calls Try.prog 44 #[.agg #[.int .i64 ri, .int .i64 ro, .slice X N cx]] w fun e w' => ∃ B, e = .returned (.tuple #[.slice B N N, .int .i64 K2, .int .i64 0]) ∧ Rd w' B V2 ∧ Below w.heap.size w w') := fun w hr => by
    refine (classes_any ri ro rs X N cx w hr hN hk6 hrl).mono ?_
    rintro e w' ⟨B, rfl, h1, h2⟩
    rw [hV2, hN2, hchk] at *
    exact ⟨B, by rw [hL2], h1, h2⟩
  have C3 : Hid (∀ w, RdR w X rs → Calls Try.prog 49 #[.agg #[.int .i64 ri, .int .i64 ro, .slice X N cx], .int .i64 z0, .int .i64 z1] w fun e w' => e = .returned (.tuple #[.bool false, .int .i64 1]) ∧ Below w.heap.size w w') := fun w hr => by
    have h := equiv_any ri ro rs X N cx z0 z1 w hr hN hk6 hrl
    rw [hcb, hg] at h
    exact h
  have C4 : Hid (∀ w, RdR w X rs → Rd w P p → Calls Try.prog 51 #[.agg #[.int .i64 ri, .int .i64 ro, .slice X N cx], .slice P l d] w fun e w' => e = .returned (.tuple #[.bool false, .int .i64 16]) ∧ Below w.heap.size w w') := fun w hr hp => by
    have h := respects_any ri ro rs X P N cx d l p w hr hN hk6 hrl hp hl
    rw [hrb, hh] at h
    exact h
  have C5 : Hid (∀ w, Rd w P p → Calls Try.prog 41 #[.slice P l d] w fun e w' => e = .returned (.int .i64 0) ∧ Below w.heap.size w w') := fun w hp => by
    have h := rcheck_any P d p w hp
    rw [hl, hpc] at h
    exact h
  clear hN hl hrw hchk hV1 hE1 hV2 hN2 hcb hg hrb hh hL1 hL2 hrl hpc
  have s1 : MT w w _ := MK.putR MT.start hx
  have s1' := MT.putK (P := fun w => Rd w P p) s1 hp (fun _ _ h hb => h.below hb)
  clear hx hp s1
  obtain ⟨K0, hK0⟩ : ∃ K0, w.heap.size = K0 := ⟨_, rfl⟩
  have s2 := MK.putB (g := w.heap.size) (MT.alloc s1' (.cells #[.int .i64 ri, .int .i64 ro, .slice X N cx] 30)) (heap_alloc_new w _)
  have s4 := MT.putK (P := fun w => w.heap[K0 + 1]? = some (.cells #[.int .i64 z0, .int .i64 z1] 56)) (MT.alloc s2 (.cells #[.int .i64 z0, .int .i64 z1] 56))
    (by
      have h := heap_alloc_new (w.alloc (.cells #[.int .i64 ri, .int .i64 ro, .slice X N cx] 30)) (.cells #[.int .i64 z0, .int .i64 z1] 56)
      rw [World.size_alloc, hK0] at h
      exact h) (fun _ _ h hb => (hb.block _ (heap_lt h)).trans h)
  rw [hK0] at s4
  clear s1' s2
  go_enter Try.func12, Try.ntmps12
  go_upto_region 1 with fail
  obtain ⟨W0, hW0⟩ : ∃ W0, (w.alloc (.cells #[.int .i64 ri, .int .i64 ro, .slice X N cx] 30)).alloc (.cells #[.int .i64 z0, .int .i64 z1] 56) = W0 := ⟨_, rfl⟩
  rw [hW0] at s4
  rw [hW0]
  clear hW0
  obtain ⟨q0, q1, q2⟩ := BxM.cells (MK.get s4 1 rfl)
  have hd70 : decide ((70 : Int) < N) = false := decide_eq_false (by omega)
  have hd300 : decide ((300 : Int) < l) = false := decide_eq_false (by omega)
  go_wp2
  clear q0 q1 q2 hd70 hd300
  have SF := Lib.hid s4
  clear s4
  go_loopw [7] (fun v wr => ∃ k : Nat, k ≤ N ∧ v = .int .i64 k ∧ Hid (Below W0.heap.size W0 wr)) (fun v _ => N - (intOf v).toNat)
  case atStart => exact ⟨0, by omega, rfl, Below.refl _ _⟩
  case round =>
    obtain ⟨k, hk, rfl, hbr⟩ := hrel
    have sK := MT.next SF.out hbr.out
    obtain ⟨q0, q1, q2⟩ := BxM.cells (MK.get sK 1 rfl)
    by_cases hlt : k < N
    · have hkn : (k : Int) < N := by omega
      obtain ⟨br, ofr, Br, cr, nr, row, rfl, _, hcr, _, _, _, _, hrl, hrk⟩ := (MK.get sK 3 rfl).at_ (k := k) (by rw [HN.out]; exact hlt)
      have hnr : nr ≤ 20 := by rw [← hrl.out]; exact HRW.out row (List.mem_of_getElem? hrk.out)
      have hd20 : decide ((20 : Int) < nr) = false := decide_eq_false (by omega)
      clear sK hrl hrk
      go_wp2
      go_roundw
      case rel => exact ⟨k + 1, by omega, by go_num, hbr⟩
      case measure => simp [intOf]; omega
    · have hkn : decide ((k : Int) < N) = false := decide_eq_false (by omega)
      clear SF hbr HRW HN
      have ZK : Hid (∀ (V : World) (L : List (World → Prop)), MT w V ((fun w => w.heap[K0 + 1]? = some (.cells #[.int .i64 z0, .int .i64 z1] 56)) :: L) → V.cell? ⟨K0 + 1, 0, none⟩ = some (.int .i64 z0) ∧ V.cell? ⟨K0 + 1, 1, none⟩ = some (.int .i64 z1)) := fun V L h => by
        have h1 := MK.get h 0 rfl
        refine ⟨?_, ?_⟩ <;> (rw [cell_of_row _ _ _ _ _ _ h1]; rfl)
      go_wp2_with fail
      refine (CK.out _ (MK.get sK 3 rfl)).mono ?_
      rintro e w1 ⟨rfl, hb⟩
      have t1 := MT.next sK hb
      clear hb sK q0 q1 q2 CK
      obtain ⟨q0, q1, q2⟩ := BxM.cells (MK.get t1 1 rfl)
      obtain ⟨y0, y1⟩ := ZK.out _ _ t1
      go_wp2_with fail
      refine (C1.out _ (MK.get t1 3 rfl)).mono ?_
      rintro e w2 ⟨B1, rfl, h1, hb⟩
      have t2 := MT.next t1 hb
      have H1 := Lib.hid h1
      clear hb t1 q0 q1 q2 y0 y1 C1 h1
      obtain ⟨q0, q1, q2⟩ := BxM.cells (MK.get t2 1 rfl)
      go_wp2_with fail
      refine (C2.out _ (MK.get t2 3 rfl)).mono ?_
      rintro e w3 ⟨B2, rfl, h2, hb⟩
      have t3 := MT.next t2 hb
      have H1' := Lib.hid (H1.out.below hb)
      have H2 := Lib.hid h2
      clear hb t2 q0 q1 q2 C2 h2 H1
      obtain ⟨q0, q1, q2⟩ := BxM.cells (MK.get t3 1 rfl)
      obtain ⟨y0, y1⟩ := ZK.out _ _ t3
      go_wp2_with fail
      refine (C3.out _ (MK.get t3 3 rfl)).mono ?_
      rintro e w4 ⟨rfl, hb⟩
      have t4 := MT.next t3 hb
      have H1 := Lib.hid (H1'.out.below hb)
      have H2' := Lib.hid (H2.out.below hb)
      clear hb t3 q0 q1 q2 y0 y1 C3 H1' H2
      obtain ⟨q0, q1, q2⟩ := BxM.cells (MK.get t4 1 rfl)
      go_wp2_with fail
      refine (C4.out _ (MK.get t4 3 rfl) (MK.get t4 2 rfl)).mono ?_
      rintro e w5 ⟨rfl, hb⟩
      have t5 := MT.next t4 hb
      have H1' := Lib.hid (H1.out.below hb)
      have H2 := Lib.hid (H2'.out.below hb)
      clear hb t4 q0 q1 q2 C4 H1 H2'
      obtain ⟨q0, q1, q2⟩ := BxM.cells (MK.get t5 1 rfl)
      obtain ⟨y0, y1⟩ := ZK.out _ _ t5
      go_wp2_with fail
      refine (C5.out _ (MK.get t5 2 rfl)).mono ?_
      rintro e w6 ⟨rfl, hb⟩
      have t6 := MT.next t5 hb
      clear hb t5 q0 q1 q2 y0 y1 C5
      obtain ⟨q0, q1, q2⟩ := BxM.cells (MK.get t6 1 rfl)
      go_wp2_with fail
      clear q0 q1 q2
      refine (lives_walk _).mono ?_
      rintro e w7 ⟨rfl, hb⟩
      have hfin := (MT.next t6 hb).2.1
      clear hb t6
      go_wp2_with fail
      go_ret
      exact ⟨rfl, hfin⟩

set_option maxRecDepth 100000 in
set_option maxHeartbeats 4000000 in
/-- the first number is no state; the partition is one of the states. -/
theorem rerr_Vc3 (ri ro : Int) (X P : Option Addr) (cx d l N : Nat) (rs : List (List Ed)) (p : List Int) (z0 z1 : Int) (w : World) (hx : RdR w X rs) (hp : Rd w P p) (hN : rs.length = N) (hl : p.length = l)
    (h70 : N ≤ 70) (h300 : l ≤ 300) (hrw : ∀ row ∈ rs, row.length ≤ 20) (hz : Mc.chk ⟨ri, ro, rs⟩ = 0) (hz0 : 0 ≤ z0) (hz1 : 0 ≤ z1) (hz2 : (N : Int) ≤ z0) (hq : M.pck p = 0) (hq2 : l = N) :
    Calls Try.prog 12 #[.agg #[.int .i64 ri, .int .i64 ro, .slice X N cx], .slice P l d, .agg #[.int .i64 z0, .int .i64 z1]] w fun e w' => e = .returned (.bool true) ∧ Below w.heap.size w w' := by
  have hk6 : N ≤ 1000000 := by omega
  have hrl : ∀ row ∈ rs, row.length ≤ 1000000 := fun row hrow => by have := hrw row hrow; omega
  have HN := Lib.hid hN
  have HRW := Lib.hid hrw
  have hchk : Mc.chk ⟨ri, ro, rs⟩ = 0 := hz
  obtain ⟨V1, hV1, hL1⟩ : ∃ V1, Mc.rdV ⟨ri, ro, rs⟩ z0 = V1 ∧ V1.length = N := ⟨_, rfl, by unfold Mc.rdV; rw [if_pos hz, if_neg (by omega), Mc.rnd_len]; exact hN⟩
  have hE1 : Mc.rdE ⟨ri, ro, rs⟩ z0 = 0 := by unfold Mc.rdE; rw [if_pos hz, if_neg (by omega)]
  obtain ⟨V2, hV2, hL2⟩ : ∃ V2, Mc.clV ⟨ri, ro, rs⟩ = V2 ∧ V2.length = N := ⟨_, rfl, by unfold Mc.clV Mc.cls; rw [if_pos hz, Mc.rnd_len]; exact hN⟩
  obtain ⟨K2, hN2⟩ : ∃ K2, Mc.clN ⟨ri, ro, rs⟩ = K2 := ⟨_, rfl⟩
  have hR : ¬ Mc.inR ⟨ri, ro, rs⟩ z0 z1 := by unfold Mc.inR; simp only [hN]; omega
  have hcb : Mc.eqV ⟨ri, ro, rs⟩ z0 z1 = false := by unfold Mc.eqV; rw [decide_eq_false hR]; simp
  have hg : Mc.eqE ⟨ri, ro, rs⟩ z0 z1 = 1 := by unfold Mc.eqE; rw [if_pos hz, if_neg hR]
  have hpc : M.pck p = 0 := hq
  have hh : Mc.rsE ⟨ri, ro, rs⟩ p = 0 := by unfold Mc.rsE; rw [if_pos hz, if_pos hq, hl]; simp only [hN]; rw [if_pos hq2]
  obtain ⟨rb, hrb⟩ : ∃ rb, Mc.rsV ⟨ri, ro, rs⟩ p = rb := ⟨_, rfl⟩
  have f1 : ((l : Int) != N) = false := by simp; omega
  have f2 : ((l : Int) == N) = true := by simp; omega
  have d0 : decide (z0 < 0) = false := decide_eq_false (by omega)
  have d0' : decide (0 ≤ z0) = true := decide_eq_true hz0
  have d1 : decide (0 ≤ z1) = true := decide_eq_true hz1
  have d2 : decide (z0 < (N : Int)) = false := decide_eq_false (by omega)
  have nn : ((N : Int) != N) = false := by simp
  have nn2 : ((N : Int) == N) = true := by simp
  clear hz hq hR
  clear hq2
  have CK : Hid (∀ w, RdR w X rs → Calls Try.prog 28 #[.agg #[.int .i64 ri, .int .i64 ro, .slice X N cx]] w fun e w' => e = .returned (.int .i64 0) ∧ Below w.heap.size w w') := fun w hr => by
    have h := rmcheck_any ⟨ri, ro, rs⟩ X cx w hr (by simp only; omega)
    simp only [hN, hchk] at h
    exact h
  have C1 : Hid (∀ w, RdR w X rs → Calls Try.prog 40 #[.agg #[.int .i64 ri, .int .i64 ro, .slice X N cx], .int .i64 z0] w fun e w' => ∃ B, e = .returned (.tuple #[.slice B N N, .int .i64 0]) ∧ Rd w' B V1 ∧ Below w.heap.size w w') := fun w hr => by
    refine (rounds_any ri ro rs X N cx z0 w hr hN hk6 hrl).mono ?_
    rintro e w' ⟨B, rfl, h1, h2⟩
    rw [hV1, hE1] at *
    exact ⟨B, by rw [hL1], h1, h2⟩
  have C2 : Hid (∀ w, RdR w X rs → Calls Try.prog 44 #[.agg #[.int .i64 ri, .int .i64 ro, .slice X N cx]] w fun e w' => ∃ B, e = .returned (.tuple #[.slice B N N, .int .i64 K2, .int .i64 0]) ∧ Rd w' B V2 ∧ Below w.heap.size w w') := fun w hr => by
    refine (classes_any ri ro rs X N cx w hr hN hk6 hrl).mono ?_
    rintro e w' ⟨B, rfl, h1, h2⟩
    rw [hV2, hN2, hchk] at *
    exact ⟨B, by rw [hL2], h1, h2⟩
  have C3 : Hid (∀ w, RdR w X rs → Calls Try.prog 49 #[.agg #[.int .i64 ri, .int .i64 ro, .slice X N cx], .int .i64 z0, .int .i64 z1] w fun e w' => e = .returned (.tuple #[.bool false, .int .i64 1]) ∧ Below w.heap.size w w') := fun w hr => by
    have h := equiv_any ri ro rs X N cx z0 z1 w hr hN hk6 hrl
    rw [hcb, hg] at h
    exact h
  have C4 : Hid (∀ w, RdR w X rs → Rd w P p → Calls Try.prog 51 #[.agg #[.int .i64 ri, .int .i64 ro, .slice X N cx], .slice P l d] w fun e w' => e = .returned (.tuple #[.bool rb, .int .i64 0]) ∧ Below w.heap.size w w') := fun w hr hp => by
    have h := respects_any ri ro rs X P N cx d l p w hr hN hk6 hrl hp hl
    rw [hrb, hh] at h
    exact h
  have C5 : Hid (∀ w, Rd w P p → Calls Try.prog 41 #[.slice P l d] w fun e w' => e = .returned (.int .i64 0) ∧ Below w.heap.size w w') := fun w hp => by
    have h := rcheck_any P d p w hp
    rw [hl, hpc] at h
    exact h
  clear hN hl hrw hchk hV1 hE1 hV2 hN2 hcb hg hrb hh hL1 hL2 hrl hpc
  have s1 : MT w w _ := MK.putR MT.start hx
  have s1' := MT.putK (P := fun w => Rd w P p) s1 hp (fun _ _ h hb => h.below hb)
  clear hx hp s1
  obtain ⟨K0, hK0⟩ : ∃ K0, w.heap.size = K0 := ⟨_, rfl⟩
  have s2 := MK.putB (g := w.heap.size) (MT.alloc s1' (.cells #[.int .i64 ri, .int .i64 ro, .slice X N cx] 30)) (heap_alloc_new w _)
  have s4 := MT.putK (P := fun w => w.heap[K0 + 1]? = some (.cells #[.int .i64 z0, .int .i64 z1] 56)) (MT.alloc s2 (.cells #[.int .i64 z0, .int .i64 z1] 56))
    (by
      have h := heap_alloc_new (w.alloc (.cells #[.int .i64 ri, .int .i64 ro, .slice X N cx] 30)) (.cells #[.int .i64 z0, .int .i64 z1] 56)
      rw [World.size_alloc, hK0] at h
      exact h) (fun _ _ h hb => (hb.block _ (heap_lt h)).trans h)
  rw [hK0] at s4
  clear s1' s2
  go_enter Try.func12, Try.ntmps12
  go_upto_region 1 with fail
  obtain ⟨W0, hW0⟩ : ∃ W0, (w.alloc (.cells #[.int .i64 ri, .int .i64 ro, .slice X N cx] 30)).alloc (.cells #[.int .i64 z0, .int .i64 z1] 56) = W0 := ⟨_, rfl⟩
  rw [hW0] at s4
  rw [hW0]
  clear hW0
  obtain ⟨q0, q1, q2⟩ := BxM.cells (MK.get s4 1 rfl)
  have hd70 : decide ((70 : Int) < N) = false := decide_eq_false (by omega)
  have hd300 : decide ((300 : Int) < l) = false := decide_eq_false (by omega)
  go_wp2
  clear q0 q1 q2 hd70 hd300
  have SF := Lib.hid s4
  clear s4
  go_loopw [7] (fun v wr => ∃ k : Nat, k ≤ N ∧ v = .int .i64 k ∧ Hid (Below W0.heap.size W0 wr)) (fun v _ => N - (intOf v).toNat)
  case atStart => exact ⟨0, by omega, rfl, Below.refl _ _⟩
  case round =>
    obtain ⟨k, hk, rfl, hbr⟩ := hrel
    have sK := MT.next SF.out hbr.out
    obtain ⟨q0, q1, q2⟩ := BxM.cells (MK.get sK 1 rfl)
    by_cases hlt : k < N
    · have hkn : (k : Int) < N := by omega
      obtain ⟨br, ofr, Br, cr, nr, row, rfl, _, hcr, _, _, _, _, hrl, hrk⟩ := (MK.get sK 3 rfl).at_ (k := k) (by rw [HN.out]; exact hlt)
      have hnr : nr ≤ 20 := by rw [← hrl.out]; exact HRW.out row (List.mem_of_getElem? hrk.out)
      have hd20 : decide ((20 : Int) < nr) = false := decide_eq_false (by omega)
      clear sK hrl hrk
      go_wp2
      go_roundw
      case rel => exact ⟨k + 1, by omega, by go_num, hbr⟩
      case measure => simp [intOf]; omega
    · have hkn : decide ((k : Int) < N) = false := decide_eq_false (by omega)
      clear SF hbr HRW HN
      have ZK : Hid (∀ (V : World) (L : List (World → Prop)), MT w V ((fun w => w.heap[K0 + 1]? = some (.cells #[.int .i64 z0, .int .i64 z1] 56)) :: L) → V.cell? ⟨K0 + 1, 0, none⟩ = some (.int .i64 z0) ∧ V.cell? ⟨K0 + 1, 1, none⟩ = some (.int .i64 z1)) := fun V L h => by
        have h1 := MK.get h 0 rfl
        refine ⟨?_, ?_⟩ <;> (rw [cell_of_row _ _ _ _ _ _ h1]; rfl)
      go_wp2_with fail
      refine (CK.out _ (MK.get sK 3 rfl)).mono ?_
      rintro e w1 ⟨rfl, hb⟩
      have t1 := MT.next sK hb
      clear hb sK q0 q1 q2 CK
      obtain ⟨q0, q1, q2⟩ := BxM.cells (MK.get t1 1 rfl)
      obtain ⟨y0, y1⟩ := ZK.out _ _ t1
      go_wp2_with fail
      refine (C1.out _ (MK.get t1 3 rfl)).mono ?_
      rintro e w2 ⟨B1, rfl, h1, hb⟩
      have t2 := MT.next t1 hb
      have H1 := Lib.hid h1
      clear hb t1 q0 q1 q2 y0 y1 C1 h1
      obtain ⟨q0, q1, q2⟩ := BxM.cells (MK.get t2 1 rfl)
      go_wp2_with fail
      refine (C2.out _ (MK.get t2 3 rfl)).mono ?_
      rintro e w3 ⟨B2, rfl, h2, hb⟩
      have t3 := MT.next t2 hb
      have H1' := Lib.hid (H1.out.below hb)
      have H2 := Lib.hid h2
      clear hb t2 q0 q1 q2 C2 h2 H1
      obtain ⟨q0, q1, q2⟩ := BxM.cells (MK.get t3 1 rfl)
      obtain ⟨y0, y1⟩ := ZK.out _ _ t3
      go_wp2_with fail
      refine (C3.out _ (MK.get t3 3 rfl)).mono ?_
      rintro e w4 ⟨rfl, hb⟩
      have t4 := MT.next t3 hb
      have H1 := Lib.hid (H1'.out.below hb)
      have H2' := Lib.hid (H2.out.below hb)
      clear hb t3 q0 q1 q2 y0 y1 C3 H1' H2
      obtain ⟨q0, q1, q2⟩ := BxM.cells (MK.get t4 1 rfl)
      go_wp2_with fail
      refine (C4.out _ (MK.get t4 3 rfl) (MK.get t4 2 rfl)).mono ?_
      rintro e w5 ⟨rfl, hb⟩
      have t5 := MT.next t4 hb
      have H1' := Lib.hid (H1.out.below hb)
      have H2 := Lib.hid (H2'.out.below hb)
      clear hb t4 q0 q1 q2 C4 H1 H2'
      obtain ⟨q0, q1, q2⟩ := BxM.cells (MK.get t5 1 rfl)
      obtain ⟨y0, y1⟩ := ZK.out _ _ t5
      go_wp2_with fail
      refine (C5.out _ (MK.get t5 2 rfl)).mono ?_
      rintro e w6 ⟨rfl, hb⟩
      have t6 := MT.next t5 hb
      clear hb t5 q0 q1 q2 y0 y1 C5
      obtain ⟨q0, q1, q2⟩ := BxM.cells (MK.get t6 1 rfl)
      go_wp2_with fail
      clear q0 q1 q2
      refine (lives_walk _).mono ?_
      rintro e w7 ⟨rfl, hb⟩
      have hfin := (MT.next t6 hb).2.1
      clear hb t6
      go_wp2_with fail
      go_ret
      exact ⟨rfl, hfin⟩

set_option maxRecDepth 100000 in
set_option maxHeartbeats 4000000 in
/-- the second number is no state; the partition is not valid. -/
theorem rerr_Vd1 (ri ro : Int) (X P : Option Addr) (cx d l N : Nat) (rs : List (List Ed)) (p : List Int) (z0 z1 : Int) (w : World) (hx : RdR w X rs) (hp : Rd w P p) (hN : rs.length = N) (hl : p.length = l)
    (h70 : N ≤ 70) (h300 : l ≤ 300) (hrw : ∀ row ∈ rs, row.length ≤ 20) (hz : Mc.chk ⟨ri, ro, rs⟩ = 0) (hz0 : 0 ≤ z0) (hz1 : 0 ≤ z1) (hz2 : z0 < (N : Int)) (hz3 : (N : Int) ≤ z1) (hq : M.pck p ≠ 0) :
    Calls Try.prog 12 #[.agg #[.int .i64 ri, .int .i64 ro, .slice X N cx], .slice P l d, .agg #[.int .i64 z0, .int .i64 z1]] w fun e w' => e = .returned (.bool true) ∧ Below w.heap.size w w' := by
  have hk6 : N ≤ 1000000 := by omega
  have hrl : ∀ row ∈ rs, row.length ≤ 1000000 := fun row hrow => by have := hrw row hrow; omega
  have HN := Lib.hid hN
  have HRW := Lib.hid hrw
  have hchk : Mc.chk ⟨ri, ro, rs⟩ = 0 := hz
  obtain ⟨V1, hV1, hL1⟩ : ∃ V1, Mc.rdV ⟨ri, ro, rs⟩ z0 = V1 ∧ V1.length = N := ⟨_, rfl, by unfold Mc.rdV; rw [if_pos hz, if_neg (by omega), Mc.rnd_len]; exact hN⟩
  have hE1 : Mc.rdE ⟨ri, ro, rs⟩ z0 = 0 := by unfold Mc.rdE; rw [if_pos hz, if_neg (by omega)]
  obtain ⟨V2, hV2, hL2⟩ : ∃ V2, Mc.clV ⟨ri, ro, rs⟩ = V2 ∧ V2.length = N := ⟨_, rfl, by unfold Mc.clV Mc.cls; rw [if_pos hz, Mc.rnd_len]; exact hN⟩
  obtain ⟨K2, hN2⟩ : ∃ K2, Mc.clN ⟨ri, ro, rs⟩ = K2 := ⟨_, rfl⟩
  have hR : ¬ Mc.inR ⟨ri, ro, rs⟩ z0 z1 := by unfold Mc.inR; simp only [hN]; omega
  have hcb : Mc.eqV ⟨ri, ro, rs⟩ z0 z1 = false := by unfold Mc.eqV; rw [decide_eq_false hR]; simp
  have hg : Mc.eqE ⟨ri, ro, rs⟩ z0 z1 = 1 := by unfold Mc.eqE; rw [if_pos hz, if_neg hR]
  obtain ⟨f, hpc⟩ : ∃ f, M.pck p = f := ⟨_, rfl⟩
  have hh : Mc.rsE ⟨ri, ro, rs⟩ p = f := by unfold Mc.rsE; rw [if_pos hz, if_neg hq, hpc]
  have hrb : Mc.rsV ⟨ri, ro, rs⟩ p = false := by unfold Mc.rsV; rw [hh, ← hpc, decide_eq_false hq]; rfl
  rw [hpc] at hq
  have f1 : (f == 0) = false := by simp [hq]
  have f2 : (f == f) = true := by simp
  have d0 : decide (z0 < 0) = false := decide_eq_false (by omega)
  have d0' : decide (0 ≤ z0) = true := decide_eq_true hz0
  have d1 : decide (0 ≤ z1) = true := decide_eq_true hz1
  have d2 : decide (z0 < (N : Int)) = true := decide_eq_true hz2
  have d3 : decide (z1 < (N : Int)) = false := decide_eq_false (by omega)
  have nn : ((N : Int) != N) = false := by simp
  have nn2 : ((N : Int) == N) = true := by simp
  clear hz hq hR
  have CK : Hid (∀ w, RdR w X rs → Calls Try.prog 28 #[.agg #[.int .i64 ri, .int .i64 ro, .slice X N cx]] w fun e w' => e = .returned (.int .i64 0) ∧ Below w.heap.size w w') := fun w hr => by
    have h := rmcheck_any ⟨ri, ro, rs⟩ X cx w hr (by simp only; omega)
    simp only [hN, hchk] at h
    exact h
  have C1 : Hid (∀ w, RdR w X rs → Calls Try.prog 40 #[.agg #[.int .i64 ri, .int .i64 ro, .slice X N cx], .int .i64 z0] w fun e w' => ∃ B, e = .returned (.tuple #[.slice B N N, .int .i64 0]) ∧ Rd w' B V1 ∧ Below w.heap.size w w') := fun w hr => by
    refine (rounds_any ri ro rs X N cx z0 w hr hN hk6 hrl).mono ?_
    rintro e w' ⟨B, rfl, h1, h2⟩
    rw [hV1, hE1] at *
    exact ⟨B, by rw [hL1], h1, h2⟩
  have C2 : Hid (∀ w, RdR w X rs → Calls Try.prog 44 #[.agg #[.int .i64 ri, .int .i64 ro, .slice X N cx]] w fun e w' => ∃ B, e = .returned (.tuple #[.slice B N N, .int .i64 K2, .int .i64 0]) ∧ Rd w' B V2 ∧ Below w.heap.size w w') := fun w hr => by
    refine (classes_any ri ro rs X N cx w hr hN hk6 hrl).mono ?_
    rintro e w' ⟨B, rfl, h1, h2⟩
    rw [hV2, hN2, hchk] at *
    exact ⟨B, by rw [hL2], h1, h2⟩
  have C3 : Hid (∀ w, RdR w X rs → Calls Try.prog 49 #[.agg #[.int .i64 ri, .int .i64 ro, .slice X N cx], .int .i64 z0, .int .i64 z1] w fun e w' => e = .returned (.tuple #[.bool false, .int .i64 1]) ∧ Below w.heap.size w w') := fun w hr => by
    have h := equiv_any ri ro rs X N cx z0 z1 w hr hN hk6 hrl
    rw [hcb, hg] at h
    exact h
  have C4 : Hid (∀ w, RdR w X rs → Rd w P p → Calls Try.prog 51 #[.agg #[.int .i64 ri, .int .i64 ro, .slice X N cx], .slice P l d] w fun e w' => e = .returned (.tuple #[.bool false, .int .i64 f]) ∧ Below w.heap.size w w') := fun w hr hp => by
    have h := respects_any ri ro rs X P N cx d l p w hr hN hk6 hrl hp hl
    rw [hrb, hh] at h
    exact h
  have C5 : Hid (∀ w, Rd w P p → Calls Try.prog 41 #[.slice P l d] w fun e w' => e = .returned (.int .i64 f) ∧ Below w.heap.size w w') := fun w hp => by
    have h := rcheck_any P d p w hp
    rw [hl, hpc] at h
    exact h
  clear hN hl hrw hchk hV1 hE1 hV2 hN2 hcb hg hrb hh hL1 hL2 hrl hpc
  have s1 : MT w w _ := MK.putR MT.start hx
  have s1' := MT.putK (P := fun w => Rd w P p) s1 hp (fun _ _ h hb => h.below hb)
  clear hx hp s1
  obtain ⟨K0, hK0⟩ : ∃ K0, w.heap.size = K0 := ⟨_, rfl⟩
  have s2 := MK.putB (g := w.heap.size) (MT.alloc s1' (.cells #[.int .i64 ri, .int .i64 ro, .slice X N cx] 30)) (heap_alloc_new w _)
  have s4 := MT.putK (P := fun w => w.heap[K0 + 1]? = some (.cells #[.int .i64 z0, .int .i64 z1] 56)) (MT.alloc s2 (.cells #[.int .i64 z0, .int .i64 z1] 56))
    (by
      have h := heap_alloc_new (w.alloc (.cells #[.int .i64 ri, .int .i64 ro, .slice X N cx] 30)) (.cells #[.int .i64 z0, .int .i64 z1] 56)
      rw [World.size_alloc, hK0] at h
      exact h) (fun _ _ h hb => (hb.block _ (heap_lt h)).trans h)
  rw [hK0] at s4
  clear s1' s2
  go_enter Try.func12, Try.ntmps12
  go_upto_region 1 with fail
  obtain ⟨W0, hW0⟩ : ∃ W0, (w.alloc (.cells #[.int .i64 ri, .int .i64 ro, .slice X N cx] 30)).alloc (.cells #[.int .i64 z0, .int .i64 z1] 56) = W0 := ⟨_, rfl⟩
  rw [hW0] at s4
  rw [hW0]
  clear hW0
  obtain ⟨q0, q1, q2⟩ := BxM.cells (MK.get s4 1 rfl)
  have hd70 : decide ((70 : Int) < N) = false := decide_eq_false (by omega)
  have hd300 : decide ((300 : Int) < l) = false := decide_eq_false (by omega)
  go_wp2
  clear q0 q1 q2 hd70 hd300
  have SF := Lib.hid s4
  clear s4
  go_loopw [7] (fun v wr => ∃ k : Nat, k ≤ N ∧ v = .int .i64 k ∧ Hid (Below W0.heap.size W0 wr)) (fun v _ => N - (intOf v).toNat)
  case atStart => exact ⟨0, by omega, rfl, Below.refl _ _⟩
  case round =>
    obtain ⟨k, hk, rfl, hbr⟩ := hrel
    have sK := MT.next SF.out hbr.out
    obtain ⟨q0, q1, q2⟩ := BxM.cells (MK.get sK 1 rfl)
    by_cases hlt : k < N
    · have hkn : (k : Int) < N := by omega
      obtain ⟨br, ofr, Br, cr, nr, row, rfl, _, hcr, _, _, _, _, hrl, hrk⟩ := (MK.get sK 3 rfl).at_ (k := k) (by rw [HN.out]; exact hlt)
      have hnr : nr ≤ 20 := by rw [← hrl.out]; exact HRW.out row (List.mem_of_getElem? hrk.out)
      have hd20 : decide ((20 : Int) < nr) = false := decide_eq_false (by omega)
      clear sK hrl hrk
      go_wp2
      go_roundw
      case rel => exact ⟨k + 1, by omega, by go_num, hbr⟩
      case measure => simp [intOf]; omega
    · have hkn : decide ((k : Int) < N) = false := decide_eq_false (by omega)
      clear SF hbr HRW HN
      have ZK : Hid (∀ (V : World) (L : List (World → Prop)), MT w V ((fun w => w.heap[K0 + 1]? = some (.cells #[.int .i64 z0, .int .i64 z1] 56)) :: L) → V.cell? ⟨K0 + 1, 0, none⟩ = some (.int .i64 z0) ∧ V.cell? ⟨K0 + 1, 1, none⟩ = some (.int .i64 z1)) := fun V L h => by
        have h1 := MK.get h 0 rfl
        refine ⟨?_, ?_⟩ <;> (rw [cell_of_row _ _ _ _ _ _ h1]; rfl)
      go_wp2_with fail
      refine (CK.out _ (MK.get sK 3 rfl)).mono ?_
      rintro e w1 ⟨rfl, hb⟩
      have t1 := MT.next sK hb
      clear hb sK q0 q1 q2 CK
      obtain ⟨q0, q1, q2⟩ := BxM.cells (MK.get t1 1 rfl)
      obtain ⟨y0, y1⟩ := ZK.out _ _ t1
      go_wp2_with fail
      refine (C1.out _ (MK.get t1 3 rfl)).mono ?_
      rintro e w2 ⟨B1, rfl, h1, hb⟩
      have t2 := MT.next t1 hb
      have H1 := Lib.hid h1
      clear hb t1 q0 q1 q2 y0 y1 C1 h1
      obtain ⟨q0, q1, q2⟩ := BxM.cells (MK.get t2 1 rfl)
      go_wp2_with fail
      refine (C2.out _ (MK.get t2 3 rfl)).mono ?_
      rintro e w3 ⟨B2, rfl, h2, hb⟩
      have t3 := MT.next t2 hb
      have H1' := Lib.hid (H1.out.below hb)
      have H2 := Lib.hid h2
      clear hb t2 q0 q1 q2 C2 h2 H1
      obtain ⟨q0, q1, q2⟩ := BxM.cells (MK.get t3 1 rfl)
      obtain ⟨y0, y1⟩ := ZK.out _ _ t3
      go_wp2_with fail
      refine (C3.out _ (MK.get t3 3 rfl)).mono ?_
      rintro e w4 ⟨rfl, hb⟩
      have t4 := MT.next t3 hb
      have H1 := Lib.hid (H1'.out.below hb)
      have H2' := Lib.hid (H2.out.below hb)
      clear hb t3 q0 q1 q2 y0 y1 C3 H1' H2
      obtain ⟨q0, q1, q2⟩ := BxM.cells (MK.get t4 1 rfl)
      go_wp2_with fail
      refine (C4.out _ (MK.get t4 3 rfl) (MK.get t4 2 rfl)).mono ?_
      rintro e w5 ⟨rfl, hb⟩
      have t5 := MT.next t4 hb
      have H1' := Lib.hid (H1.out.below hb)
      have H2 := Lib.hid (H2'.out.below hb)
      clear hb t4 q0 q1 q2 C4 H1 H2'
      obtain ⟨q0, q1, q2⟩ := BxM.cells (MK.get t5 1 rfl)
      obtain ⟨y0, y1⟩ := ZK.out _ _ t5
      go_wp2_with fail
      refine (C5.out _ (MK.get t5 2 rfl)).mono ?_
      rintro e w6 ⟨rfl, hb⟩
      have t6 := MT.next t5 hb
      clear hb t5 q0 q1 q2 y0 y1 C5
      obtain ⟨q0, q1, q2⟩ := BxM.cells (MK.get t6 1 rfl)
      go_wp2_with fail
      clear q0 q1 q2
      refine (lives_walk _).mono ?_
      rintro e w7 ⟨rfl, hb⟩
      have hfin := (MT.next t6 hb).2.1
      clear hb t6
      go_wp2_with fail
      go_ret
      exact ⟨rfl, hfin⟩

set_option maxRecDepth 100000 in
set_option maxHeartbeats 4000000 in
/-- the second number is no state; the partition has another number of states. -/
theorem rerr_Vd2 (ri ro : Int) (X P : Option Addr) (cx d l N : Nat) (rs : List (List Ed)) (p : List Int) (z0 z1 : Int) (w : World) (hx : RdR w X rs) (hp : Rd w P p) (hN : rs.length = N) (hl : p.length = l)
    (h70 : N ≤ 70) (h300 : l ≤ 300) (hrw : ∀ row ∈ rs, row.length ≤ 20) (hz : Mc.chk ⟨ri, ro, rs⟩ = 0) (hz0 : 0 ≤ z0) (hz1 : 0 ≤ z1) (hz2 : z0 < (N : Int)) (hz3 : (N : Int) ≤ z1) (hq : M.pck p = 0) (hq2 : l ≠ N) :
    Calls Try.prog 12 #[.agg #[.int .i64 ri, .int .i64 ro, .slice X N cx], .slice P l d, .agg #[.int .i64 z0, .int .i64 z1]] w fun e w' => e = .returned (.bool true) ∧ Below w.heap.size w w' := by
  have hk6 : N ≤ 1000000 := by omega
  have hrl : ∀ row ∈ rs, row.length ≤ 1000000 := fun row hrow => by have := hrw row hrow; omega
  have HN := Lib.hid hN
  have HRW := Lib.hid hrw
  have hchk : Mc.chk ⟨ri, ro, rs⟩ = 0 := hz
  obtain ⟨V1, hV1, hL1⟩ : ∃ V1, Mc.rdV ⟨ri, ro, rs⟩ z0 = V1 ∧ V1.length = N := ⟨_, rfl, by unfold Mc.rdV; rw [if_pos hz, if_neg (by omega), Mc.rnd_len]; exact hN⟩
  have hE1 : Mc.rdE ⟨ri, ro, rs⟩ z0 = 0 := by unfold Mc.rdE; rw [if_pos hz, if_neg (by omega)]
  obtain ⟨V2, hV2, hL2⟩ : ∃ V2, Mc.clV ⟨ri, ro, rs⟩ = V2 ∧ V2.length = N := ⟨_, rfl, by unfold Mc.clV Mc.cls; rw [if_pos hz, Mc.rnd_len]; exact hN⟩
  obtain ⟨K2, hN2⟩ : ∃ K2, Mc.clN ⟨ri, ro, rs⟩ = K2 := ⟨_, rfl⟩
  have hR : ¬ Mc.inR ⟨ri, ro, rs⟩ z0 z1 := by unfold Mc.inR; simp only [hN]; omega
  have hcb : Mc.eqV ⟨ri, ro, rs⟩ z0 z1 = false := by unfold Mc.eqV; rw [decide_eq_false hR]; simp
  have hg : Mc.eqE ⟨ri, ro, rs⟩ z0 z1 = 1 := by unfold Mc.eqE; rw [if_pos hz, if_neg hR]
  have hpc : M.pck p = 0 := hq
  have hh : Mc.rsE ⟨ri, ro, rs⟩ p = 16 := by unfold Mc.rsE; rw [if_pos hz, if_pos hq, hl]; simp only [hN]; rw [if_neg hq2]
  have hrb : Mc.rsV ⟨ri, ro, rs⟩ p = false := by unfold Mc.rsV; rw [hh]; rfl
  have f1 : ((l : Int) != N) = true := by simp; omega
  have f2 : ((l : Int) == N) = false := by simp; omega
  have d0 : decide (z0 < 0) = false := decide_eq_false (by omega)
  have d0' : decide (0 ≤ z0) = true := decide_eq_true hz0
  have d1 : decide (0 ≤ z1) = true := decide_eq_true hz1
  have d2 : decide (z0 < (N : Int)) = true := decide_eq_true hz2
  have d3 : decide (z1 < (N : Int)) = false := decide_eq_false (by omega)
  have nn : ((N : Int) != N) = false := by simp
  have nn2 : ((N : Int) == N) = true := by simp
  clear hz hq hR
  clear hq2
  have CK : Hid (∀ w, RdR w X rs → Calls Try.prog 28 #[.agg #[.int .i64 ri, .int .i64 ro, .slice X N cx]] w fun e w' => e = .returned (.int .i64 0) ∧ Below w.heap.size w w') := fun w hr => by
    have h := rmcheck_any ⟨ri, ro, rs⟩ X cx w hr (by simp only; omega)
    simp only [hN, hchk] at h
    exact h
  have C1 : Hid (∀ w, RdR w X rs → Calls Try.prog 40 #[.agg #[.int .i64 ri, .int .i64 ro, .slice X N cx], .int .i64 z0] w fun e w' => ∃ B, e = .returned (.tuple #[.slice B N N, .int .i64 0]) ∧ Rd w' B V1 ∧ Below w.heap.size w w') := fun w hr => by
    refine (rounds_any ri ro rs X N cx z0 w hr hN hk6 hrl).mono ?_
    rintro e w' ⟨B, rfl, h1, h2⟩
    rw [hV1, hE1] at *
    exact ⟨B, by rw [hL1], h1, h2⟩
  have C2 : Hid (∀ w, RdR w X rs → Calls Try.prog 44 #[.agg #[.int .i64 ri, .int .i64 ro, .slice X N cx]] w fun e w' => ∃ B, e = .returned (.tuple #[.slice B N N, .int .i64 K2, .int .i64 0]) ∧ Rd w' B V2 ∧ Below w.heap.size w w') := fun w hr => by
    refine (classes_any ri ro rs X N cx w hr hN hk6 hrl).mono ?_
    rintro e w' ⟨B, rfl, h1, h2⟩
    rw [hV2, hN2, hchk] at *
    exact ⟨B, by rw [hL2], h1, h2⟩
  have C3 : Hid (∀ w, RdR w X rs → Calls Try.prog 49 #[.agg #[.int .i64 ri, .int .i64 ro, .slice X N cx], .int .i64 z0, .int .i64 z1] w fun e w' => e = .returned (.tuple #[.bool false, .int .i64 1]) ∧ Below w.heap.size w w') := fun w hr => by
    have h := equiv_any ri ro rs X N cx z0 z1 w hr hN hk6 hrl
    rw [hcb, hg] at h
    exact h
  have C4 : Hid (∀ w, RdR w X rs → Rd w P p → Calls Try.prog 51 #[.agg #[.int .i64 ri, .int .i64 ro, .slice X N cx], .slice P l d] w fun e w' => e = .returned (.tuple #[.bool false, .int .i64 16]) ∧ Below w.heap.size w w') := fun w hr hp => by
    have h := respects_any ri ro rs X P N cx d l p w hr hN hk6 hrl hp hl
    rw [hrb, hh] at h
    exact h
  have C5 : Hid (∀ w, Rd w P p → Calls Try.prog 41 #[.slice P l d] w fun e w' => e = .returned (.int .i64 0) ∧ Below w.heap.size w w') := fun w hp => by
    have h := rcheck_any P d p w hp
    rw [hl, hpc] at h
    exact h
  clear hN hl hrw hchk hV1 hE1 hV2 hN2 hcb hg hrb hh hL1 hL2 hrl hpc
  have s1 : MT w w _ := MK.putR MT.start hx
  have s1' := MT.putK (P := fun w => Rd w P p) s1 hp (fun _ _ h hb => h.below hb)
  clear hx hp s1
  obtain ⟨K0, hK0⟩ : ∃ K0, w.heap.size = K0 := ⟨_, rfl⟩
  have s2 := MK.putB (g := w.heap.size) (MT.alloc s1' (.cells #[.int .i64 ri, .int .i64 ro, .slice X N cx] 30)) (heap_alloc_new w _)
  have s4 := MT.putK (P := fun w => w.heap[K0 + 1]? = some (.cells #[.int .i64 z0, .int .i64 z1] 56)) (MT.alloc s2 (.cells #[.int .i64 z0, .int .i64 z1] 56))
    (by
      have h := heap_alloc_new (w.alloc (.cells #[.int .i64 ri, .int .i64 ro, .slice X N cx] 30)) (.cells #[.int .i64 z0, .int .i64 z1] 56)
      rw [World.size_alloc, hK0] at h
      exact h) (fun _ _ h hb => (hb.block _ (heap_lt h)).trans h)
  rw [hK0] at s4
  clear s1' s2
  go_enter Try.func12, Try.ntmps12
  go_upto_region 1 with fail
  obtain ⟨W0, hW0⟩ : ∃ W0, (w.alloc (.cells #[.int .i64 ri, .int .i64 ro, .slice X N cx] 30)).alloc (.cells #[.int .i64 z0, .int .i64 z1] 56) = W0 := ⟨_, rfl⟩
  rw [hW0] at s4
  rw [hW0]
  clear hW0
  obtain ⟨q0, q1, q2⟩ := BxM.cells (MK.get s4 1 rfl)
  have hd70 : decide ((70 : Int) < N) = false := decide_eq_false (by omega)
  have hd300 : decide ((300 : Int) < l) = false := decide_eq_false (by omega)
  go_wp2
  clear q0 q1 q2 hd70 hd300
  have SF := Lib.hid s4
  clear s4
  go_loopw [7] (fun v wr => ∃ k : Nat, k ≤ N ∧ v = .int .i64 k ∧ Hid (Below W0.heap.size W0 wr)) (fun v _ => N - (intOf v).toNat)
  case atStart => exact ⟨0, by omega, rfl, Below.refl _ _⟩
  case round =>
    obtain ⟨k, hk, rfl, hbr⟩ := hrel
    have sK := MT.next SF.out hbr.out
    obtain ⟨q0, q1, q2⟩ := BxM.cells (MK.get sK 1 rfl)
    by_cases hlt : k < N
    · have hkn : (k : Int) < N := by omega
      obtain ⟨br, ofr, Br, cr, nr, row, rfl, _, hcr, _, _, _, _, hrl, hrk⟩ := (MK.get sK 3 rfl).at_ (k := k) (by rw [HN.out]; exact hlt)
      have hnr : nr ≤ 20 := by rw [← hrl.out]; exact HRW.out row (List.mem_of_getElem? hrk.out)
      have hd20 : decide ((20 : Int) < nr) = false := decide_eq_false (by omega)
      clear sK hrl hrk
      go_wp2
      go_roundw
      case rel => exact ⟨k + 1, by omega, by go_num, hbr⟩
      case measure => simp [intOf]; omega
    · have hkn : decide ((k : Int) < N) = false := decide_eq_false (by omega)
      clear SF hbr HRW HN
      have ZK : Hid (∀ (V : World) (L : List (World → Prop)), MT w V ((fun w => w.heap[K0 + 1]? = some (.cells #[.int .i64 z0, .int .i64 z1] 56)) :: L) → V.cell? ⟨K0 + 1, 0, none⟩ = some (.int .i64 z0) ∧ V.cell? ⟨K0 + 1, 1, none⟩ = some (.int .i64 z1)) := fun V L h => by
        have h1 := MK.get h 0 rfl
        refine ⟨?_, ?_⟩ <;> (rw [cell_of_row _ _ _ _ _ _ h1]; rfl)
      go_wp2_with fail
      refine (CK.out _ (MK.get sK 3 rfl)).mono ?_
      rintro e w1 ⟨rfl, hb⟩
      have t1 := MT.next sK hb
      clear hb sK q0 q1 q2 CK
      obtain ⟨q0, q1, q2⟩ := BxM.cells (MK.get t1 1 rfl)
      obtain ⟨y0, y1⟩ := ZK.out _ _ t1
      go_wp2_with fail
      refine (C1.out _ (MK.get t1 3 rfl)).mono ?_
      rintro e w2 ⟨B1, rfl, h1, hb⟩
      have t2 := MT.next t1 hb
      have H1 := Lib.hid h1
      clear hb t1 q0 q1 q2 y0 y1 C1 h1
      obtain ⟨q0, q1, q2⟩ := BxM.cells (MK.get t2 1 rfl)
      go_wp2_with fail
      refine (C2.out _ (MK.get t2 3 rfl)).mono ?_
      rintro e w3 ⟨B2, rfl, h2, hb⟩
      have t3 := MT.next t2 hb
      have H1' := Lib.hid (H1.out.below hb)
      have H2 := Lib.hid h2
      clear hb t2 q0 q1 q2 C2 h2 H1
      obtain ⟨q0, q1, q2⟩ := BxM.cells (MK.get t3 1 rfl)
      obtain ⟨y0, y1⟩ := ZK.out _ _ t3
      go_wp2_with fail
      refine (C3.out _ (MK.get t3 3 rfl)).mono ?_
      rintro e w4 ⟨rfl, hb⟩
      have t4 := MT.next t3 hb
      have H1 := Lib.hid (H1'.out.below hb)
      have H2' := Lib.hid (H2.out.below hb)
      clear hb t3 q0 q1 q2 y0 y1 C3 H1' H2
      obtain ⟨q0, q1, q2⟩ := BxM.cells (MK.get t4 1 rfl)
      go_wp2_with fail
      refine (C4.out _ (MK.get t4 3 rfl) (MK.get t4 2 rfl)).mono ?_
      rintro e w5 ⟨rfl, hb⟩
      have t5 := MT.next t4 hb
      have H1' := Lib.hid (H1.out.below hb)
      have H2 := Lib.hid (H2'.out.below hb)
      clear hb t4 q0 q1 q2 C4 H1 H2'
      obtain ⟨q0, q1, q2⟩ := BxM.cells (MK.get t5 1 rfl)
      obtain ⟨y0, y1⟩ := ZK.out _ _ t5
      go_wp2_with fail
      refine (C5.out _ (MK.get t5 2 rfl)).mono ?_
      rintro e w6 ⟨rfl, hb⟩
      have t6 := MT.next t5 hb
      clear hb t5 q0 q1 q2 y0 y1 C5
      obtain ⟨q0, q1, q2⟩ := BxM.cells (MK.get t6 1 rfl)
      go_wp2_with fail
      clear q0 q1 q2
      refine (lives_walk _).mono ?_
      rintro e w7 ⟨rfl, hb⟩
      have hfin := (MT.next t6 hb).2.1
      clear hb t6
      go_wp2_with fail
      go_ret
      exact ⟨rfl, hfin⟩

set_option maxRecDepth 100000 in
set_option maxHeartbeats 4000000 in
/-- the second number is no state; the partition is one of the states. -/
theorem rerr_Vd3 (ri ro : Int) (X P : Option Addr) (cx d l N : Nat) (rs : List (List Ed)) (p : List Int) (z0 z1 : Int) (w : World) (hx : RdR w X rs) (hp : Rd w P p) (hN : rs.length = N) (hl : p.length = l)
    (h70 : N ≤ 70) (h300 : l ≤ 300) (hrw : ∀ row ∈ rs, row.length ≤ 20) (hz : Mc.chk ⟨ri, ro, rs⟩ = 0) (hz0 : 0 ≤ z0) (hz1 : 0 ≤ z1) (hz2 : z0 < (N : Int)) (hz3 : (N : Int) ≤ z1) (hq : M.pck p = 0) (hq2 : l = N) :
    Calls Try.prog 12 #[.agg #[.int .i64 ri, .int .i64 ro, .slice X N cx], .slice P l d, .agg #[.int .i64 z0, .int .i64 z1]] w fun e w' => e = .returned (.bool true) ∧ Below w.heap.size w w' := by
  have hk6 : N ≤ 1000000 := by omega
  have hrl : ∀ row ∈ rs, row.length ≤ 1000000 := fun row hrow => by have := hrw row hrow; omega
  have HN := Lib.hid hN
  have HRW := Lib.hid hrw
  have hchk : Mc.chk ⟨ri, ro, rs⟩ = 0 := hz
  obtain ⟨V1, hV1, hL1⟩ : ∃ V1, Mc.rdV ⟨ri, ro, rs⟩ z0 = V1 ∧ V1.length = N := ⟨_, rfl, by unfold Mc.rdV; rw [if_pos hz, if_neg (by omega), Mc.rnd_len]; exact hN⟩
  have hE1 : Mc.rdE ⟨ri, ro, rs⟩ z0 = 0 := by unfold Mc.rdE; rw [if_pos hz, if_neg (by omega)]
  obtain ⟨V2, hV2, hL2⟩ : ∃ V2, Mc.clV ⟨ri, ro, rs⟩ = V2 ∧ V2.length = N := ⟨_, rfl, by unfold Mc.clV Mc.cls; rw [if_pos hz, Mc.rnd_len]; exact hN⟩
  obtain ⟨K2, hN2⟩ : ∃ K2, Mc.clN ⟨ri, ro, rs⟩ = K2 := ⟨_, rfl⟩
  have hR : ¬ Mc.inR ⟨ri, ro, rs⟩ z0 z1 := by unfold Mc.inR; simp only [hN]; omega
  have hcb : Mc.eqV ⟨ri, ro, rs⟩ z0 z1 = false := by unfold Mc.eqV; rw [decide_eq_false hR]; simp
  have hg : Mc.eqE ⟨ri, ro, rs⟩ z0 z1 = 1 := by unfold Mc.eqE; rw [if_pos hz, if_neg hR]
  have hpc : M.pck p = 0 := hq
  have hh : Mc.rsE ⟨ri, ro, rs⟩ p = 0 := by unfold Mc.rsE; rw [if_pos hz, if_pos hq, hl]; simp only [hN]; rw [if_pos hq2]
  obtain ⟨rb, hrb⟩ : ∃ rb, Mc.rsV ⟨ri, ro, rs⟩ p = rb := ⟨_, rfl⟩
  have f1 : ((l : Int) != N) = false := by simp; omega
  have f2 : ((l : Int) == N) = true := by simp; omega
  have d0 : decide (z0 < 0) = false := decide_eq_false (by omega)
  have d0' : decide (0 ≤ z0) = true := decide_eq_true hz0
  have d1 : decide (0 ≤ z1) = true := decide_eq_true hz1
  have d2 : decide (z0 < (N : Int)) = true := decide_eq_true hz2
  have d3 : decide (z1 < (N : Int)) = false := decide_eq_false (by omega)
  have nn : ((N : Int) != N) = false := by simp
  have nn2 : ((N : Int) == N) = true := by simp
  clear hz hq hR
  clear hq2
  have CK : Hid (∀ w, RdR w X rs → Calls Try.prog 28 #[.agg #[.int .i64 ri, .int .i64 ro, .slice X N cx]] w fun e w' => e = .returned (.int .i64 0) ∧ Below w.heap.size w w') := fun w hr => by
    have h := rmcheck_any ⟨ri, ro, rs⟩ X cx w hr (by simp only; omega)
    simp only [hN, hchk] at h
    exact h
  have C1 : Hid (∀ w, RdR w X rs → Calls Try.prog 40 #[.agg #[.int .i64 ri, .int .i64 ro, .slice X N cx], .int .i64 z0] w fun e w' => ∃ B, e = .returned (.tuple #[.slice B N N, .int .i64 0]) ∧ Rd w' B V1 ∧ Below w.heap.size w w') := fun w hr => by
    refine (rounds_any ri ro rs X N cx z0 w hr hN hk6 hrl).mono ?_
    rintro e w' ⟨B, rfl, h1, h2⟩
    rw [hV1, hE1] at *
    exact ⟨B, by rw [hL1], h1, h2⟩
  have C2 : Hid (∀ w, RdR w X rs → Calls Try.prog 44 #[.agg #[.int .i64 ri, .int .i64 ro, .slice X N cx]] w fun e w' => ∃ B, e = .returned (.tuple #[.slice B N N, .int .i64 K2, .int .i64 0]) ∧ Rd w' B V2 ∧ Below w.heap.size w w') := fun w hr => by
    refine (classes_any ri ro rs X N cx w hr hN hk6 hrl).mono ?_
    rintro e w' ⟨B, rfl, h1, h2⟩
    rw [hV2, hN2, hchk] at *
    exact ⟨B, by rw [hL2], h1, h2⟩
  have C3 : Hid (∀ w, RdR w X rs → Calls Try.prog 49 #[.agg #[.int .i64 ri, .int .i64 ro, .slice X N cx], .int .i64 z0, .int .i64 z1] w fun e w' => e = .returned (.tuple #[.bool false, .int .i64 1]) ∧ Below w.heap.size w w') := fun w hr => by
    have h := equiv_any ri ro rs X N cx z0 z1 w hr hN hk6 hrl
    rw [hcb, hg] at h
    exact h
  have C4 : Hid (∀ w, RdR w X rs → Rd w P p → Calls Try.prog 51 #[.agg #[.int .i64 ri, .int .i64 ro, .slice X N cx], .slice P l d] w fun e w' => e = .returned (.tuple #[.bool rb, .int .i64 0]) ∧ Below w.heap.size w w') := fun w hr hp => by
    have h := respects_any ri ro rs X P N cx d l p w hr hN hk6 hrl hp hl
    rw [hrb, hh] at h
    exact h
  have C5 : Hid (∀ w, Rd w P p → Calls Try.prog 41 #[.slice P l d] w fun e w' => e = .returned (.int .i64 0) ∧ Below w.heap.size w w') := fun w hp => by
    have h := rcheck_any P d p w hp
    rw [hl, hpc] at h
    exact h
  clear hN hl hrw hchk hV1 hE1 hV2 hN2 hcb hg hrb hh hL1 hL2 hrl hpc
  have s1 : MT w w _ := MK.putR MT.start hx
  have s1' := MT.putK (P := fun w => Rd w P p) s1 hp (fun _ _ h hb => h.below hb)
  clear hx hp s1
  obtain ⟨K0, hK0⟩ : ∃ K0, w.heap.size = K0 := ⟨_, rfl⟩
  have s2 := MK.putB (g := w.heap.size) (MT.alloc s1' (.cells #[.int .i64 ri, .int .i64 ro, .slice X N cx] 30)) (heap_alloc_new w _)
  have s4 := MT.putK (P := fun w => w.heap[K0 + 1]? = some (.cells #[.int .i64 z0, .int .i64 z1] 56)) (MT.alloc s2 (.cells #[.int .i64 z0, .int .i64 z1] 56))
    (by
      have h := heap_alloc_new (w.alloc (.cells #[.int .i64 ri, .int .i64 ro, .slice X N cx] 30)) (.cells #[.int .i64 z0, .int .i64 z1] 56)
      rw [World.size_alloc, hK0] at h
      exact h) (fun _ _ h hb => (hb.block _ (heap_lt h)).trans h)
  rw [hK0] at s4
  clear s1' s2
  go_enter Try.func12, Try.ntmps12
  go_upto_region 1 with fail
  obtain ⟨W0, hW0⟩ : ∃ W0, (w.alloc (.cells #[.int .i64 ri, .int .i64 ro, .slice X N cx] 30)).alloc (.cells #[.int .i64 z0, .int .i64 z1] 56) = W0 := ⟨_, rfl⟩
  rw [hW0] at s4
  rw [hW0]
  clear hW0
  obtain ⟨q0, q1, q2⟩ := BxM.cells (MK.get s4 1 rfl)
  have hd70 : decide ((70 : Int) < N) = false := decide_eq_false (by omega)
  have hd300 : decide ((300 : Int) < l) = false := decide_eq_false (by omega)
  go_wp2
  clear q0 q1 q2 hd70 hd300
  have SF := Lib.hid s4
  clear s4
  go_loopw [7] (fun v wr => ∃ k : Nat, k ≤ N ∧ v = .int .i64 k ∧ Hid (Below W0.heap.size W0 wr)) (fun v _ => N - (intOf v).toNat)
  case atStart => exact ⟨0, by omega, rfl, Below.refl _ _⟩
  case round =>
    obtain ⟨k, hk, rfl, hbr⟩ := hrel
    have sK := MT.next SF.out hbr.out
    obtain ⟨q0, q1, q2⟩ := BxM.cells (MK.get sK 1 rfl)
    by_cases hlt : k < N
    · have hkn : (k : Int) < N := by omega
      obtain ⟨br, ofr, Br, cr, nr, row, rfl, _, hcr, _, _, _, _, hrl, hrk⟩ := (MK.get sK 3 rfl).at_ (k := k) (by rw [HN.out]; exact hlt)
      have hnr : nr ≤ 20 := by rw [← hrl.out]; exact HRW.out row (List.mem_of_getElem? hrk.out)
      have hd20 : decide ((20 : Int) < nr) = false := decide_eq_false (by omega)
      clear sK hrl hrk
      go_wp2
      go_roundw
      case rel => exact ⟨k + 1, by omega, by go_num, hbr⟩
      case measure => simp [intOf]; omega
    · have hkn : decide ((k : Int) < N) = false := decide_eq_false (by omega)
      clear SF hbr HRW HN
      have ZK : Hid (∀ (V : World) (L : List (World → Prop)), MT w V ((fun w => w.heap[K0 + 1]? = some (.cells #[.int .i64 z0, .int .i64 z1] 56)) :: L) → V.cell? ⟨K0 + 1, 0, none⟩ = some (.int .i64 z0) ∧ V.cell? ⟨K0 + 1, 1, none⟩ = some (.int .i64 z1)) := fun V L h => by
        have h1 := MK.get h 0 rfl
        refine ⟨?_, ?_⟩ <;> (rw [cell_of_row _ _ _ _ _ _ h1]; rfl)
      go_wp2_with fail
      refine (CK.out _ (MK.get sK 3 rfl)).mono ?_
      rintro e w1 ⟨rfl, hb⟩
      have t1 := MT.next sK hb
      clear hb sK q0 q1 q2 CK
      obtain ⟨q0, q1, q2⟩ := BxM.cells (MK.get t1 1 rfl)
      obtain ⟨y0, y1⟩ := ZK.out _ _ t1
      go_wp2_with fail
      refine (C1.out _ (MK.get t1 3 rfl)).mono ?_
      rintro e w2 ⟨B1, rfl, h1, hb⟩
      have t2 := MT.next t1 hb
      have H1 := Lib.hid h1
      clear hb t1 q0 q1 q2 y0 y1 C1 h1
      obtain ⟨q0, q1, q2⟩ := BxM.cells (MK.get t2 1 rfl)
      go_wp2_with fail
      refine (C2.out _ (MK.get t2 3 rfl)).mono ?_
      rintro e w3 ⟨B2, rfl, h2, hb⟩
      have t3 := MT.next t2 hb
      have H1' := Lib.hid (H1.out.below hb)
      have H2 := Lib.hid h2
      clear hb t2 q0 q1 q2 C2 h2 H1
      obtain ⟨q0, q1, q2⟩ := BxM.cells (MK.get t3 1 rfl)
      obtain ⟨y0, y1⟩ := ZK.out _ _ t3
      go_wp2_with fail
      refine (C3.out _ (MK.get t3 3 rfl)).mono ?_
      rintro e w4 ⟨rfl, hb⟩
      have t4 := MT.next t3 hb
      have H1 := Lib.hid (H1'.out.below hb)
      have H2' := Lib.hid (H2.out.below hb)
      clear hb t3 q0 q1 q2 y0 y1 C3 H1' H2
      obtain ⟨q0, q1, q2⟩ := BxM.cells (MK.get t4 1 rfl)
      go_wp2_with fail
      refine (C4.out _ (MK.get t4 3 rfl) (MK.get t4 2 rfl)).mono ?_
      rintro e w5 ⟨rfl, hb⟩
      have t5 := MT.next t4 hb
      have H1' := Lib.hid (H1.out.below hb)
      have H2 := Lib.hid (H2'.out.below hb)
      clear hb t4 q0 q1 q2 C4 H1 H2'
      obtain ⟨q0, q1, q2⟩ := BxM.cells (MK.get t5 1 rfl)
      obtain ⟨y0, y1⟩ := ZK.out _ _ t5
      go_wp2_with fail
      refine (C5.out _ (MK.get t5 2 rfl)).mono ?_
      rintro e w6 ⟨rfl, hb⟩
      have t6 := MT.next t5 hb
      clear hb t5 q0 q1 q2 y0 y1 C5
      obtain ⟨q0, q1, q2⟩ := BxM.cells (MK.get t6 1 rfl)
      go_wp2_with fail
      clear q0 q1 q2
      refine (lives_walk _).mono ?_
      rintro e w7 ⟨rfl, hb⟩
      have hfin := (MT.next t6 hb).2.1
      clear hb t6
      go_wp2_with fail
      go_ret
      exact ⟨rfl, hfin⟩

set_option maxRecDepth 100000 in
set_option maxHeartbeats 4000000 in
/-- both numbers are states; the partition is not valid. -/
theorem rerr_Ve1 (ri ro : Int) (X P : Option Addr) (cx d l N : Nat) (rs : List (List Ed)) (p : List Int) (z0 z1 : Int) (w : World) (hx : RdR w X rs) (hp : Rd w P p) (hN : rs.length = N) (hl : p.length = l)
    (h70 : N ≤ 70) (h300 : l ≤ 300) (hrw : ∀ row ∈ rs, row.length ≤ 20) (hz : Mc.chk ⟨ri, ro, rs⟩ = 0) (hz0 : 0 ≤ z0) (hz1 : 0 ≤ z1) (hz2 : z0 < (N : Int)) (hz3 : z1 < (N : Int)) (hq : M.pck p ≠ 0) :
    Calls Try.prog 12 #[.agg #[.int .i64 ri, .int .i64 ro, .slice X N cx], .slice P l d, .agg #[.int .i64 z0, .int .i64 z1]] w fun e w' => e = .returned (.bool true) ∧ Below w.heap.size w w' := by
  have hk6 : N ≤ 1000000 := by omega
  have hrl : ∀ row ∈ rs, row.length ≤ 1000000 := fun row hrow => by have := hrw row hrow; omega
  have HN := Lib.hid hN
  have HRW := Lib.hid hrw
  have hchk : Mc.chk ⟨ri, ro, rs⟩ = 0 := hz
  obtain ⟨V1, hV1, hL1⟩ : ∃ V1, Mc.rdV ⟨ri, ro, rs⟩ z0 = V1 ∧ V1.length = N := ⟨_, rfl, by unfold Mc.rdV; rw [if_pos hz, if_neg (by omega), Mc.rnd_len]; exact hN⟩
  have hE1 : Mc.rdE ⟨ri, ro, rs⟩ z0 = 0 := by unfold Mc.rdE; rw [if_pos hz, if_neg (by omega)]
  obtain ⟨V2, hV2, hL2⟩ : ∃ V2, Mc.clV ⟨ri, ro, rs⟩ = V2 ∧ V2.length = N := ⟨_, rfl, by unfold Mc.clV Mc.cls; rw [if_pos hz, Mc.rnd_len]; exact hN⟩
  obtain ⟨K2, hN2⟩ : ∃ K2, Mc.clN ⟨ri, ro, rs⟩ = K2 := ⟨_, rfl⟩
  have hR : Mc.inR ⟨ri, ro, rs⟩ z0 z1 := by unfold Mc.inR; simp only [hN]; omega
  obtain ⟨cb, hcb⟩ : ∃ cb, Mc.eqV ⟨ri, ro, rs⟩ z0 z1 = cb := ⟨_, rfl⟩
  have hg : Mc.eqE ⟨ri, ro, rs⟩ z0 z1 = 0 := by unfold Mc.eqE; rw [if_pos hz, if_pos hR]
  obtain ⟨f, hpc⟩ : ∃ f, M.pck p = f := ⟨_, rfl⟩
  have hh : Mc.rsE ⟨ri, ro, rs⟩ p = f := by unfold Mc.rsE; rw [if_pos hz, if_neg hq, hpc]
  have hrb : Mc.rsV ⟨ri, ro, rs⟩ p = false := by unfold Mc.rsV; rw [hh, ← hpc, decide_eq_false hq]; rfl
  rw [hpc] at hq
  have f1 : (f == 0) = false := by simp [hq]
  have f2 : (f == f) = true := by simp
  have d0 : decide (z0 < 0) = false := decide_eq_false (by omega)
  have d0' : decide (0 ≤ z0) = true := decide_eq_true hz0
  have d1 : decide (0 ≤ z1) = true := decide_eq_true hz1
  have d2 : decide (z0 < (N : Int)) = true := decide_eq_true hz2
  have d3 : decide (z1 < (N : Int)) = true := decide_eq_true hz3
  have nn : ((N : Int) != N) = false := by simp
  have nn2 : ((N : Int) == N) = true := by simp
  clear hz hq hR
  have CK : Hid (∀ w, RdR w X rs → Calls Try.prog 28 #[.agg #[.int .i64 ri, .int .i64 ro, .slice X N cx]] w fun e w' => e = .returned (.int .i64 0) ∧ Below w.heap.size w w') := fun w hr => by
    have h := rmcheck_any ⟨ri, ro, rs⟩ X cx w hr (by simp only; omega)
    simp only [hN, hchk] at h
    exact h
  have C1 : Hid (∀ w, RdR w X rs → Calls Try.prog 40 #[.agg #[.int .i64 ri, .int .i64 ro, .slice X N cx], .int .i64 z0] w fun e w' => ∃ B, e = .returned (.tuple #[.slice B N N, .int .i64 0]) ∧ Rd w' B V1 ∧ Below w.heap.size w w') := fun w hr => by
    refine (rounds_any ri ro rs X N cx z0 w hr hN hk6 hrl).mono ?_
    rintro e w' ⟨B, rfl, h1, h2⟩
    rw [hV1, hE1] at *
    exact ⟨B, by rw [hL1], h1, h2⟩
  have C2 : Hid (∀ w, RdR w X rs → Calls Try.prog 44 #[.agg #[.int .i64 ri, .int .i64 ro, .slice X N cx]] w fun e w' => ∃ B, e = .returned (.tuple #[.slice B N N, .int .i64 K2, .int .i64 0]) ∧ Rd w' B V2 ∧ Below w.heap.size w w') := fun w hr => by
    refine (classes_any ri ro rs X N cx w hr hN hk6 hrl).mono ?_
    rintro e w' ⟨B, rfl, h1, h2⟩
    rw [hV2, hN2, hchk] at *
    exact ⟨B, by rw [hL2], h1, h2⟩
  have C3 : Hid (∀ w, RdR w X rs → Calls Try.prog 49 #[.agg #[.int .i64 ri, .int .i64 ro, .slice X N cx], .int .i64 z0, .int .i64 z1] w fun e w' => e = .returned (.tuple #[.bool cb, .int .i64 0]) ∧ Below w.heap.size w w') := fun w hr => by
    have h := equiv_any ri ro rs X N cx z0 z1 w hr hN hk6 hrl
    rw [hcb, hg] at h
    exact h
  have C4 : Hid (∀ w, RdR w X rs → Rd w P p → Calls Try.prog 51 #[.agg #[.int .i64 ri, .int .i64 ro, .slice X N cx], .slice P l d] w fun e w' => e = .returned (.tuple #[.bool false, .int .i64 f]) ∧ Below w.heap.size w w') := fun w hr hp => by
    have h := respects_any ri ro rs X P N cx d l p w hr hN hk6 hrl hp hl
    rw [hrb, hh] at h
    exact h
  have C5 : Hid (∀ w, Rd w P p → Calls Try.prog 41 #[.slice P l d] w fun e w' => e = .returned (.int .i64 f) ∧ Below w.heap.size w w') := fun w hp => by
    have h := rcheck_any P d p w hp
    rw [hl, hpc] at h
    exact h
  clear hN hl hrw hchk hV1 hE1 hV2 hN2 hcb hg hrb hh hL1 hL2 hrl hpc
  have s1 : MT w w _ := MK.putR MT.start hx
  have s1' := MT.putK (P := fun w => Rd w P p) s1 hp (fun _ _ h hb => h.below hb)
  clear hx hp s1
  obtain ⟨K0, hK0⟩ : ∃ K0, w.heap.size = K0 := ⟨_, rfl⟩
  have s2 := MK.putB (g := w.heap.size) (MT.alloc s1' (.cells #[.int .i64 ri, .int .i64 ro, .slice X N cx] 30)) (heap_alloc_new w _)
  have s4 := MT.putK (P := fun w => w.heap[K0 + 1]? = some (.cells #[.int .i64 z0, .int .i64 z1] 56)) (MT.alloc s2 (.cells #[.int .i64 z0, .int .i64 z1] 56))
    (by
      have h := heap_alloc_new (w.alloc (.cells #[.int .i64 ri, .int .i64 ro, .slice X N cx] 30)) (.cells #[.int .i64 z0, .int .i64 z1] 56)
      rw [World.size_alloc, hK0] at h
      exact h) (fun _ _ h hb => (hb.block _ (heap_lt h)).trans h)
  rw [hK0] at s4
  clear s1' s2
  go_enter Try.func12, Try.ntmps12
  go_upto_region 1 with fail
  obtain ⟨W0, hW0⟩ : ∃ W0, (w.alloc (.cells #[.int .i64 ri, .int .i64 ro, .slice X N cx] 30)).alloc (.cells #[.int .i64 z0, .int .i64 z1] 56) = W0 := ⟨_, rfl⟩
  rw [hW0] at s4
  rw [hW0]
  clear hW0
  obtain ⟨q0, q1, q2⟩ := BxM.cells (MK.get s4 1 rfl)
  have hd70 : decide ((70 : Int) < N) = false := decide_eq_false (by omega)
  have hd300 : decide ((300 : Int) < l) = false := decide_eq_false (by omega)
  go_wp2
  clear q0 q1 q2 hd70 hd300
  have SF := Lib.hid s4
  clear s4
  go_loopw [7] (fun v wr => ∃ k : Nat, k ≤ N ∧ v = .int .i64 k ∧ Hid (Below W0.heap.size W0 wr)) (fun v _ => N - (intOf v).toNat)
  case atStart => exact ⟨0, by omega, rfl, Below.refl _ _⟩
  case round =>
    obtain ⟨k, hk, rfl, hbr⟩ := hrel
    have sK := MT.next SF.out hbr.out
    obtain ⟨q0, q1, q2⟩ := BxM.cells (MK.get sK 1 rfl)
    by_cases hlt : k < N
    · have hkn : (k : Int) < N := by omega
      obtain ⟨br, ofr, Br, cr, nr, row, rfl, _, hcr, _, _, _, _, hrl, hrk⟩ := (MK.get sK 3 rfl).at_ (k := k) (by rw [HN.out]; exact hlt)
      have hnr : nr ≤ 20 := by rw [← hrl.out]; exact HRW.out row (List.mem_of_getElem? hrk.out)
      have hd20 : decide ((20 : Int) < nr) = false := decide_eq_false (by omega)
      clear sK hrl hrk
      go_wp2
      go_roundw
      case rel => exact ⟨k + 1, by omega, by go_num, hbr⟩
      case measure => simp [intOf]; omega
    · have hkn : decide ((k : Int) < N) = false := decide_eq_false (by omega)
      clear SF hbr HRW HN
      have ZK : Hid (∀ (V : World) (L : List (World → Prop)), MT w V ((fun w => w.heap[K0 + 1]? = some (.cells #[.int .i64 z0, .int .i64 z1] 56)) :: L) → V.cell? ⟨K0 + 1, 0, none⟩ = some (.int .i64 z0) ∧ V.cell? ⟨K0 + 1, 1, none⟩ = some (.int .i64 z1)) := fun V L h => by
        have h1 := MK.get h 0 rfl
        refine ⟨?_, ?_⟩ <;> (rw [cell_of_row _ _ _ _ _ _ h1]; rfl)
      go_wp2_with fail
      refine (CK.out _ (MK.get sK 3 rfl)).mono ?_
      rintro e w1 ⟨rfl, hb⟩
      have t1 := MT.next sK hb
      clear hb sK q0 q1 q2 CK
      obtain ⟨q0, q1, q2⟩ := BxM.cells (MK.get t1 1 rfl)
      obtain ⟨y0, y1⟩ := ZK.out _ _ t1
      go_wp2_with fail
      refine (C1.out _ (MK.get t1 3 rfl)).mono ?_
      rintro e w2 ⟨B1, rfl, h1, hb⟩
      have t2 := MT.next t1 hb
      have H1 := Lib.hid h1
      clear hb t1 q0 q1 q2 y0 y1 C1 h1
      obtain ⟨q0, q1, q2⟩ := BxM.cells (MK.get t2 1 rfl)
      go_wp2_with fail
      refine (C2.out _ (MK.get t2 3 rfl)).mono ?_
      rintro e w3 ⟨B2, rfl, h2, hb⟩
      have t3 := MT.next t2 hb
      have H1' := Lib.hid (H1.out.below hb)
      have H2 := Lib.hid h2
      clear hb t2 q0 q1 q2 C2 h2 H1
      obtain ⟨q0, q1, q2⟩ := BxM.cells (MK.get t3 1 rfl)
      obtain ⟨y0, y1⟩ := ZK.out _ _ t3
      go_wp2_with fail
      refine (C3.out _ (MK.get t3 3 rfl)).mono ?_
      rintro e w4 ⟨rfl, hb⟩
      have t4 := MT.next t3 hb
      have H1 := Lib.hid (H1'.out.below hb)
      have H2' := Lib.hid (H2.out.below hb)
      clear hb t3 q0 q1 q2 y0 y1 C3 H1' H2
      obtain ⟨q0, q1, q2⟩ := BxM.cells (MK.get t4 1 rfl)
      go_wp2_with fail
      refine (C4.out _ (MK.get t4 3 rfl) (MK.get t4 2 rfl)).mono ?_
      rintro e w5 ⟨rfl, hb⟩
      have t5 := MT.next t4 hb
      have H1' := Lib.hid (H1.out.below hb)
      have H2 := Lib.hid (H2'.out.below hb)
      clear hb t4 q0 q1 q2 C4 H1 H2'
      obtain ⟨q0, q1, q2⟩ := BxM.cells (MK.get t5 1 rfl)
      obtain ⟨y0, y1⟩ := ZK.out _ _ t5
      go_wp2_with fail
      refine (C5.out _ (MK.get t5 2 rfl)).mono ?_
      rintro e w6 ⟨rfl, hb⟩
      have t6 := MT.next t5 hb
      clear hb t5 q0 q1 q2 y0 y1 C5
      obtain ⟨q0, q1, q2⟩ := BxM.cells (MK.get t6 1 rfl)
      go_wp2_with fail
      clear q0 q1 q2
      refine (lives_walk _).mono ?_
      rintro e w7 ⟨rfl, hb⟩
      have hfin := (MT.next t6 hb).2.1
      clear hb t6
      go_wp2_with fail
      go_ret
      exact ⟨rfl, hfin⟩

set_option maxRecDepth 100000 in
set_option maxHeartbeats 4000000 in
/-- both numbers are states; the partition has another number of states. -/
theorem rerr_Ve2 (ri ro : Int) (X P : Option Addr) (cx d l N : Nat) (rs : List (List Ed)) (p : List Int) (z0 z1 : Int) (w : World) (hx : RdR w X rs) (hp : Rd w P p) (hN : rs.length = N) (hl : p.length = l)
    (h70 : N ≤ 70) (h300 : l ≤ 300) (hrw : ∀ row ∈ rs, row.length ≤ 20) (hz : Mc.chk ⟨ri, ro, rs⟩ = 0) (hz0 : 0 ≤ z0) (hz1 : 0 ≤ z1) (hz2 : z0 < (N : Int)) (hz3 : z1 < (N : Int)) (hq : M.pck p = 0) (hq2 : l ≠ N) :
    Calls Try.prog 12 #[.agg #[.int .i64 ri, .int .i64 ro, .slice X N cx], .slice P l d, .agg #[.int .i64 z0, .int .i64 z1]] w fun e w' => e = .returned (.bool true) ∧ Below w.heap.size w w' := by
  have hk6 : N ≤ 1000000 := by omega
  have hrl : ∀ row ∈ rs, row.length ≤ 1000000 := fun row hrow => by have := hrw row hrow; omega
  have HN := Lib.hid hN
  have HRW := Lib.hid hrw
  have hchk : Mc.chk ⟨ri, ro, rs⟩ = 0 := hz
  obtain ⟨V1, hV1, hL1⟩ : ∃ V1, Mc.rdV ⟨ri, ro, rs⟩ z0 = V1 ∧ V1.length = N := ⟨_, rfl, by unfold Mc.rdV; rw [if_pos hz, if_neg (by omega), Mc.rnd_len]; exact hN⟩
  have hE1 : Mc.rdE ⟨ri, ro, rs⟩ z0 = 0 := by unfold Mc.rdE; rw [if_pos hz, if_neg (by omega)]
  obtain ⟨V2, hV2, hL2⟩ : ∃ V2, Mc.clV ⟨ri, ro, rs⟩ = V2 ∧ V2.length = N := ⟨_, rfl, by unfold Mc.clV Mc.cls; rw [if_pos hz, Mc.rnd_len]; exact hN⟩
  obtain ⟨K2, hN2⟩ : ∃ K2, Mc.clN ⟨ri, ro, rs⟩ = K2 := ⟨_, rfl⟩
  have hR : Mc.inR ⟨ri, ro, rs⟩ z0 z1 := by unfold Mc.inR; simp only [hN]; omega
  obtain ⟨cb, hcb⟩ : ∃ cb, Mc.eqV ⟨ri, ro, rs⟩ z0 z1 = cb := ⟨_, rfl⟩
  have hg : Mc.eqE ⟨ri, ro, rs⟩ z0 z1 = 0 := by unfold Mc.eqE; rw [if_pos hz, if_pos hR]
  have hpc : M.pck p = 0 := hq
  have hh : Mc.rsE ⟨ri, ro, rs⟩ p = 16 := by unfold Mc.rsE; rw [if_pos hz, if_pos hq, hl]; simp only [hN]; rw [if_neg hq2]
  have hrb : Mc.rsV ⟨ri, ro, rs⟩ p = false := by unfold Mc.rsV; rw [hh]; rfl
  have f1 : ((l : Int) != N) = true := by simp; omega
  have f2 : ((l : Int) == N) = false := by simp; omega
  have d0 : decide (z0 < 0) = false := decide_eq_false (by omega)
  have d0' : decide (0 ≤ z0) = true := decide_eq_true hz0
  have d1 : decide (0 ≤ z1) = true := decide_eq_true hz1
  have d2 : decide (z0 < (N : Int)) = true := decide_eq_true hz2
  have d3 : decide (z1 < (N : Int)) = true := decide_eq_true hz3
  have nn : ((N : Int) != N) = false := by simp
  have nn2 : ((N : Int) == N) = true := by simp
  clear hz hq hR
  clear hq2
  have CK : Hid (∀ w, RdR w X rs → Calls Try.prog 28 #[.agg #[.int .i64 ri, .int .i64 ro, .slice X N cx]] w fun e w' => e = .returned (.int .i64 0) ∧ Below w.heap.size w w') := fun w hr => by
    have h := rmcheck_any ⟨ri, ro, rs⟩ X cx w hr (by simp only; omega)
    simp only [hN, hchk] at h
    exact h
  have C1 : Hid (∀ w, RdR w X rs → Calls Try.prog 40 #[.agg #[.int .i64 ri, .int .i64 ro, .slice X N cx], .int .i64 z0] w fun e w' => ∃ B, e = .returned (.tuple #[.slice B N N, .int .i64 0]) ∧ Rd w' B V1 ∧ Below w.heap.size w w') := fun w hr => by
    refine (rounds_any ri ro rs X N cx z0 w hr hN hk6 hrl).mono ?_
    rintro e w' ⟨B, rfl, h1, h2⟩
    rw [hV1, hE1] at *
    exact ⟨B, by rw [hL1], h1, h2⟩
  have C2 : Hid (∀ w, RdR w X rs → Calls Try.prog 44 #[.agg #[.int .i64 ri, .int .i64 ro, .slice X N cx]] w fun e w' => ∃ B, e = .returned (.tuple #[.slice B N N, .int .i64 K2, .int .i64 0]) ∧ Rd w' B V2 ∧ Below w.heap.size w w') := fun w hr => by
    refine (classes_any ri ro rs X N cx w hr hN hk6 hrl).mono ?_
    rintro e w' ⟨B, rfl, h1, h2⟩
    rw [hV2, hN2, hchk] at *
    exact ⟨B, by rw [hL2], h1, h2⟩
  have C3 : Hid (∀ w, RdR w X rs → Calls Try.prog 49 #[.agg #[.int .i64 ri, .int .i64 ro, .slice X N cx], .int .i64 z0, .int .i64 z1] w fun e w' => e = .returned (.tuple #[.bool cb, .int .i64 0]) ∧ Below w.heap.size w w') := fun w hr => by
    have h := equiv_any ri ro rs X N cx z0 z1 w hr hN hk6 hrl
    rw [hcb, hg] at h
    exact h
  have C4 : Hid (∀ w, RdR w X rs → Rd w P p → Calls Try.prog 51 #[.agg #[.int .i64 ri, .int .i64 ro, .slice X N cx], .slice P l d] w fun e w' => e = .returned (.tuple #[.bool false, .int .i64 16]) ∧ Below w.heap.size w w') := fun w hr hp => by
    have h := respects_any ri ro rs X P N cx d l p w hr hN hk6 hrl hp hl
    rw [hrb, hh] at h
    exact h
  have C5 : Hid (∀ w, Rd w P p → Calls Try.prog 41 #[.slice P l d] w fun e w' => e = .returned (.int .i64 0) ∧ Below w.heap.size w w') := fun w hp => by
    have h := rcheck_any P d p w hp
    rw [hl, hpc] at h
    exact h
  clear hN hl hrw hchk hV1 hE1 hV2 hN2 hcb hg hrb hh hL1 hL2 hrl hpc
  have s1 : MT w w _ := MK.putR MT.start hx
  have s1' := MT.putK (P := fun w => Rd w P p) s1 hp (fun _ _ h hb => h.below hb)
  clear hx hp s1
  obtain ⟨K0, hK0⟩ : ∃ K0, w.heap.size = K0 := ⟨_, rfl⟩
  have s2 := MK.putB (g := w.heap.size) (MT.alloc s1' (.cells #[.int .i64 ri, .int .i64 ro, .slice X N cx] 30)) (heap_alloc_new w _)
  have s4 := MT.putK (P := fun w => w.heap[K0 + 1]? = some (.cells #[.int .i64 z0, .int .i64 z1] 56)) (MT.alloc s2 (.cells #[.int .i64 z0, .int .i64 z1] 56))
    (by
      have h := heap_alloc_new (w.alloc (.cells #[.int .i64 ri, .int .i64 ro, .slice X N cx] 30)) (.cells #[.int .i64 z0, .int .i64 z1] 56)
      rw [World.size_alloc, hK0] at h
      exact h) (fun _ _ h hb => (hb.block _ (heap_lt h)).trans h)
  rw [hK0] at s4
  clear s1' s2
  go_enter Try.func12, Try.ntmps12
  go_upto_region 1 with fail
  obtain ⟨W0, hW0⟩ : ∃ W0, (w.alloc (.cells #[.int .i64 ri, .int .i64 ro, .slice X N cx] 30)).alloc (.cells #[.int .i64 z0, .int .i64 z1] 56) = W0 := ⟨_, rfl⟩
  rw [hW0] at s4
  rw [hW0]
  clear hW0
  obtain ⟨q0, q1, q2⟩ := BxM.cells (MK.get s4 1 rfl)
  have hd70 : decide ((70 : Int) < N) = false := decide_eq_false (by omega)
  have hd300 : decide ((300 : Int) < l) = false := decide_eq_false (by omega)
  go_wp2
  clear q0 q1 q2 hd70 hd300
  have SF := Lib.hid s4
  clear s4
  go_loopw [7] (fun v wr => ∃ k : Nat, k ≤ N ∧ v = .int .i64 k ∧ Hid (Below W0.heap.size W0 wr)) (fun v _ => N - (intOf v).toNat)
  case atStart => exact ⟨0, by omega, rfl, Below.refl _ _⟩
  case round =>
    obtain ⟨k, hk, rfl, hbr⟩ := hrel
    have sK := MT.next SF.out hbr.out
    obtain ⟨q0, q1, q2⟩ := BxM.cells (MK.get sK 1 rfl)
    by_cases hlt : k < N
    · have hkn : (k : Int) < N := by omega
      obtain ⟨br, ofr, Br, cr, nr, row, rfl, _, hcr, _, _, _, _, hrl, hrk⟩ := (MK.get sK 3 rfl).at_ (k := k) (by rw [HN.out]; exact hlt)
      have hnr : nr ≤ 20 := by rw [← hrl.out]; exact HRW.out row (List.mem_of_getElem? hrk.out)
      have hd20 : decide ((20 : Int) < nr) = false := decide_eq_false (by omega)
      clear sK hrl hrk
      go_wp2
      go_roundw
      case rel => exact ⟨k + 1, by omega, by go_num, hbr⟩
      case measure => simp [intOf]; omega
    · have hkn : decide ((k : Int) < N) = false := decide_eq_false (by omega)
      clear SF hbr HRW HN
      have ZK : Hid (∀ (V : World) (L : List (World → Prop)), MT w V ((fun w => w.heap[K0 + 1]? = some (.cells #[.int .i64 z0, .int .i64 z1] 56)) :: L) → V.cell? ⟨K0 + 1, 0, none⟩ = some (.int .i64 z0) ∧ V.cell? ⟨K0 + 1, 1, none⟩ = some (.int .i64 z1)) := fun V L h => by
        have h1 := MK.get h 0 rfl
        refine ⟨?_, ?_⟩ <;> (rw [cell_of_row _ _ _ _ _ _ h1]; rfl)
      go_wp2_with fail
      refine (CK.out _ (MK.get sK 3 rfl)).mono ?_
      rintro e w1 ⟨rfl, hb⟩
      have t1 := MT.next sK hb
      clear hb sK q0 q1 q2 CK
      obtain ⟨q0, q1, q2⟩ := BxM.cells (MK.get t1 1 rfl)
      obtain ⟨y0, y1⟩ := ZK.out _ _ t1
      go_wp2_with fail
      refine (C1.out _ (MK.get t1 3 rfl)).mono ?_
      rintro e w2 ⟨B1, rfl, h1, hb⟩
      have t2 := MT.next t1 hb
      have H1 := Lib.hid h1
      clear hb t1 q0 q1 q2 y0 y1 C1 h1
      obtain ⟨q0, q1, q2⟩ := BxM.cells (MK.get t2 1 rfl)
      go_wp2_with fail
      refine (C2.out _ (MK.get t2 3 rfl)).mono ?_
      rintro e w3 ⟨B2, rfl, h2, hb⟩
      have t3 := MT.next t2 hb
      have H1' := Lib.hid (H1.out.below hb)
      have H2 := Lib.hid h2
      clear hb t2 q0 q1 q2 C2 h2 H1
      obtain ⟨q0, q1, q2⟩ := BxM.cells (MK.get t3 1 rfl)
      obtain ⟨y0, y1⟩ := ZK.out _ _ t3
      go_wp2_with fail
      refine (C3.out _ (MK.get t3 3 rfl)).mono ?_
      rintro e w4 ⟨rfl, hb⟩
      have t4 := MT.next t3 hb
      have H1 := Lib.hid (H1'.out.below hb)
      have H2' := Lib.hid (H2.out.below hb)
      clear hb t3 q0 q1 q2 y0 y1 C3 H1' H2
      obtain ⟨q0, q1, q2⟩ := BxM.cells (MK.get t4 1 rfl)
      go_wp2_with fail
      refine (C4.out _ (MK.get t4 3 rfl) (MK.get t4 2 rfl)).mono ?_
      rintro e w5 ⟨rfl, hb⟩
      have t5 := MT.next t4 hb
      have H1' := Lib.hid (H1.out.below hb)
      have H2 := Lib.hid (H2'.out.below hb)
      clear hb t4 q0 q1 q2 C4 H1 H2'
      obtain ⟨q0, q1, q2⟩ := BxM.cells (MK.get t5 1 rfl)
      obtain ⟨y0, y1⟩ := ZK.out _ _ t5
      go_wp2_with fail
      refine (C5.out _ (MK.get t5 2 rfl)).mono ?_
      rintro e w6 ⟨rfl, hb⟩
      have t6 := MT.next t5 hb
      clear hb t5 q0 q1 q2 y0 y1 C5
      obtain ⟨q0, q1, q2⟩ := BxM.cells (MK.get t6 1 rfl)
      go_wp2_with fail
      clear q0 q1 q2
      refine (lives_walk _).mono ?_
      rintro e w7 ⟨rfl, hb⟩
      have hfin := (MT.next t6 hb).2.1
      clear hb t6
      go_wp2_with fail
      go_ret
      exact ⟨rfl, hfin⟩

set_option maxRecDepth 100000 in
set_option maxHeartbeats 4000000 in
/-- both numbers are states; the partition is one of the states. -/
theorem rerr_Ve3 (ri ro : Int) (X P : Option Addr) (cx d l N : Nat) (rs : List (List Ed)) (p : List Int) (z0 z1 : Int) (w : World) (hx : RdR w X rs) (hp : Rd w P p) (hN : rs.length = N) (hl : p.length = l)
    (h70 : N ≤ 70) (h300 : l ≤ 300) (hrw : ∀ row ∈ rs, row.length ≤ 20) (hz : Mc.chk ⟨ri, ro, rs⟩ = 0) (hz0 : 0 ≤ z0) (hz1 : 0 ≤ z1) (hz2 : z0 < (N : Int)) (hz3 : z1 < (N : Int)) (hq : M.pck p = 0) (hq2 : l = N) :
    Calls Try.prog 12 #[.agg #[.int .i64 ri, .int .i64 ro, .slice X N cx], .slice P l d, .agg #[.int .i64 z0, .int .i64 z1]] w fun e w' => e = .returned (.bool true) ∧ Below w.heap.size w w' := by
  have hk6 : N ≤ 1000000 := by omega
  have hrl : ∀ row ∈ rs, row.length ≤ 1000000 := fun row hrow => by have := hrw row hrow; omega
  have HN := Lib.hid hN
  have HRW := Lib.hid hrw
  have hchk : Mc.chk ⟨ri, ro, rs⟩ = 0 := hz
  obtain ⟨V1, hV1, hL1⟩ : ∃ V1, Mc.rdV ⟨ri, ro, rs⟩ z0 = V1 ∧ V1.length = N := ⟨_, rfl, by unfold Mc.rdV; rw [if_pos hz, if_neg (by omega), Mc.rnd_len]; exact hN⟩
  have hE1 : Mc.rdE ⟨ri, ro, rs⟩ z0 = 0 := by unfold Mc.rdE; rw [if_pos hz, if_neg (by omega)]
  obtain ⟨V2, hV2, hL2⟩ : ∃ V2, Mc.clV ⟨ri, ro, rs⟩ = V2 ∧ V2.length = N := ⟨_, rfl, by unfold Mc.clV Mc.cls; rw [if_pos hz, Mc.rnd_len]; exact hN⟩
  obtain ⟨K2, hN2⟩ : ∃ K2, Mc.clN ⟨ri, ro, rs⟩ = K2 := ⟨_, rfl⟩
  have hR : Mc.inR ⟨ri, ro, rs⟩ z0 z1 := by unfold Mc.inR; simp only [hN]; omega
  obtain ⟨cb, hcb⟩ : ∃ cb, Mc.eqV ⟨ri, ro, rs⟩ z0 z1 = cb := ⟨_, rfl⟩
  have hg : Mc.eqE ⟨ri, ro, rs⟩ z0 z1 = 0 := by unfold Mc.eqE; rw [if_pos hz, if_pos hR]
  have hpc : M.pck p = 0 := hq
  have hh : Mc.rsE ⟨ri, ro, rs⟩ p = 0 := by unfold Mc.rsE; rw [if_pos hz, if_pos hq, hl]; simp only [hN]; rw [if_pos hq2]
  obtain ⟨rb, hrb⟩ : ∃ rb, Mc.rsV ⟨ri, ro, rs⟩ p = rb := ⟨_, rfl⟩
  have f1 : ((l : Int) != N) = false := by simp; omega
  have f2 : ((l : Int) == N) = true := by simp; omega
  have d0 : decide (z0 < 0) = false := decide_eq_false (by omega)
  have d0' : decide (0 ≤ z0) = true := decide_eq_true hz0
  have d1 : decide (0 ≤ z1) = true := decide_eq_true hz1
  have d2 : decide (z0 < (N : Int)) = true := decide_eq_true hz2
  have d3 : decide (z1 < (N : Int)) = true := decide_eq_true hz3
  have nn : ((N : Int) != N) = false := by simp
  have nn2 : ((N : Int) == N) = true := by simp
  clear hz hq hR
  clear hq2
  have CK : Hid (∀ w, RdR w X rs → Calls Try.prog 28 #[.agg #[.int .i64 ri, .int .i64 ro, .slice X N cx]] w fun e w' => e = .returned (.int .i64 0) ∧ Below w.heap.size w w') := fun w hr => by
    have h := rmcheck_any ⟨ri, ro, rs⟩ X cx w hr (by simp only; omega)
    simp only [hN, hchk] at h
    exact h
  have C1 : Hid (∀ w, RdR w X rs → Calls Try.prog 40 #[.agg #[.int .i64 ri, .int .i64 ro, .slice X N cx], .int .i64 z0] w fun e w' => ∃ B, e = .returned (.tuple #[.slice B N N, .int .i64 0]) ∧ Rd w' B V1 ∧ Below w.heap.size w w') := fun w hr => by
    refine (rounds_any ri ro rs X N cx z0 w hr hN hk6 hrl).mono ?_
    rintro e w' ⟨B, rfl, h1, h2⟩
    rw [hV1, hE1] at *
    exact ⟨B, by rw [hL1], h1, h2⟩
  have C2 : Hid (∀ w, RdR w X rs → Calls Try.prog 44 #[.agg #[.int .i64 ri, .int .i64 ro, .slice X N cx]] w fun e w' => ∃ B, e = .returned (.tuple #[.slice B N N, .int .i64 K2, .int .i64 0]) ∧ Rd w' B V2 ∧ Below w.heap.size w w') := fun w hr => by
    refine (classes_any ri ro rs X N cx w hr hN hk6 hrl).mono ?_
    rintro e w' ⟨B, rfl, h1, h2⟩
    rw [hV2, hN2, hchk] at *
    exact ⟨B, by rw [hL2], h1, h2⟩
  have C3 : Hid (∀ w, RdR w X rs → Calls Try.prog 49 #[.agg #[.int .i64 ri, .int .i64 ro, .slice X N cx], .int .i64 z0, .int .i64 z1] w fun e w' => e = .returned (.tuple #[.bool cb, .int .i64 0]) ∧ Below w.heap.size w w') := fun w hr => by
    have h := equiv_any ri ro rs X N cx z0 z1 w hr hN hk6 hrl
    rw [hcb, hg] at h
    exact h
  have C4 : Hid (∀ w, RdR w X rs → Rd w P p → Calls Try.prog 51 #[.agg #[.int .i64 ri, .int .i64 ro, .slice X N cx], .slice P l d] w fun e w' => e = .returned (.tuple #[.bool rb, .int .i64 0]) ∧ Below w.heap.size w w') := fun w hr hp => by
    have h := respects_any ri ro rs X P N cx d l p w hr hN hk6 hrl hp hl
    rw [hrb, hh] at h
    exact h
  have C5 : Hid (∀ w, Rd w P p → Calls Try.prog 41 #[.slice P l d] w fun e w' => e = .returned (.int .i64 0) ∧ Below w.heap.size w w') := fun w hp => by
    have h := rcheck_any P d p w hp
    rw [hl, hpc] at h
    exact h
  clear hN hl hrw hchk hV1 hE1 hV2 hN2 hcb hg hrb hh hL1 hL2 hrl hpc
  have s1 : MT w w _ := MK.putR MT.start hx
  have s1' := MT.putK (P := fun w => Rd w P p) s1 hp (fun _ _ h hb => h.below hb)
  clear hx hp s1
  obtain ⟨K0, hK0⟩ : ∃ K0, w.heap.size = K0 := ⟨_, rfl⟩
  have s2 := MK.putB (g := w.heap.size) (MT.alloc s1' (.cells #[.int .i64 ri, .int .i64 ro, .slice X N cx] 30)) (heap_alloc_new w _)
  have s4 := MT.putK (P := fun w => w.heap[K0 + 1]? = some (.cells #[.int .i64 z0, .int .i64 z1] 56)) (MT.alloc s2 (.cells #[.int .i64 z0, .int .i64 z1] 56))
    (by
      have h := heap_alloc_new (w.alloc (.cells #[.int .i64 ri, .int .i64 ro, .slice X N cx] 30)) (.cells #[.int .i64 z0, .int .i64 z1] 56)
      rw [World.size_alloc, hK0] at h
      exact h) (fun _ _ h hb => (hb.block _ (heap_lt h)).trans h)
  rw [hK0] at s4
  clear s1' s2
  go_enter Try.func12, Try.ntmps12
  go_upto_region 1 with fail
  obtain ⟨W0, hW0⟩ : ∃ W0, (w.alloc (.cells #[.int .i64 ri, .int .i64 ro, .slice X N cx] 30)).alloc (.cells #[.int .i64 z0, .int .i64 z1] 56) = W0 := ⟨_, rfl⟩
  rw [hW0] at s4
  rw [hW0]
  clear hW0
  obtain ⟨q0, q1, q2⟩ := BxM.cells (MK.get s4 1 rfl)
  have hd70 : decide ((70 : Int) < N) = false := decide_eq_false (by omega)
  have hd300 : decide ((300 : Int) < l) = false := decide_eq_false (by omega)
  go_wp2
  clear q0 q1 q2 hd70 hd300
  have SF := Lib.hid s4
  clear s4
  go_loopw [7] (fun v wr => ∃ k : Nat, k ≤ N ∧ v = .int .i64 k ∧ Hid (Below W0.heap.size W0 wr)) (fun v _ => N - (intOf v).toNat)
  case atStart => exact ⟨0, by omega, rfl, Below.refl _ _⟩
  case round =>
    obtain ⟨k, hk, rfl, hbr⟩ := hrel
    have sK := MT.next SF.out hbr.out
    obtain ⟨q0, q1, q2⟩ := BxM.cells (MK.get sK 1 rfl)
    by_cases hlt : k < N
    · have hkn : (k : Int) < N := by omega
      obtain ⟨br, ofr, Br, cr, nr, row, rfl, _, hcr, _, _, _, _, hrl, hrk⟩ := (MK.get sK 3 rfl).at_ (k := k) (by rw [HN.out]; exact hlt)
      have hnr : nr ≤ 20 := by rw [← hrl.out]; exact HRW.out row (List.mem_of_getElem? hrk.out)
      have hd20 : decide ((20 : Int) < nr) = false := decide_eq_false (by omega)
      clear sK hrl hrk
      go_wp2
      go_roundw
      case rel => exact ⟨k + 1, by omega, by go_num, hbr⟩
      case measure => simp [intOf]; omega
    · have hkn : decide ((k : Int) < N) = false := decide_eq_false (by omega)
      clear SF hbr HRW HN
      have ZK : Hid (∀ (V : World) (L : List (World → Prop)), MT w V ((fun w => w.heap[K0 + 1]? = some (.cells #[.int .i64 z0, .int .i64 z1] 56)) :: L) → V.cell? ⟨K0 + 1, 0, none⟩ = some (.int .i64 z0) ∧ V.cell? ⟨K0 + 1, 1, none⟩ = some (.int .i64 z1)) := fun V L h => by
        have h1 := MK.get h 0 rfl
        refine ⟨?_, ?_⟩ <;> (rw [cell_of_row _ _ _ _ _ _ h1]; rfl)
      go_wp2_with fail
      refine (CK.out _ (MK.get sK 3 rfl)).mono ?_
      rintro e w1 ⟨rfl, hb⟩
      have t1 := MT.next sK hb
      clear hb sK q0 q1 q2 CK
      obtain ⟨q0, q1, q2⟩ := BxM.cells (MK.get t1 1 rfl)
      obtain ⟨y0, y1⟩ := ZK.out _ _ t1
      go_wp2_with fail
      refine (C1.out _ (MK.get t1 3 rfl)).mono ?_
      rintro e w2 ⟨B1, rfl, h1, hb⟩
      have t2 := MT.next t1 hb
      have H1 := Lib.hid h1
      clear hb t1 q0 q1 q2 y0 y1 C1 h1
      obtain ⟨q0, q1, q2⟩ := BxM.cells (MK.get t2 1 rfl)
      go_wp2_with fail
      refine (C2.out _ (MK.get t2 3 rfl)).mono ?_
      rintro e w3 ⟨B2, rfl, h2, hb⟩
      have t3 := MT.next t2 hb
      have H1' := Lib.hid (H1.out.below hb)
      have H2 := Lib.hid h2
      clear hb t2 q0 q1 q2 C2 h2 H1
      obtain ⟨q0, q1, q2⟩ := BxM.cells (MK.get t3 1 rfl)
      obtain ⟨y0, y1⟩ := ZK.out _ _ t3
      go_wp2_with fail
      refine (C3.out _ (MK.get t3 3 rfl)).mono ?_
      rintro e w4 ⟨rfl, hb⟩
      have t4 := MT.next t3 hb
      have H1 := Lib.hid (H1'.out.below hb)
      have H2' := Lib.hid (H2.out.below hb)
      clear hb t3 q0 q1 q2 y0 y1 C3 H1' H2
      obtain ⟨q0, q1, q2⟩ := BxM.cells (MK.get t4 1 rfl)
      go_wp2_with fail
      refine (C4.out _ (MK.get t4 3 rfl) (MK.get t4 2 rfl)).mono ?_
      rintro e w5 ⟨rfl, hb⟩
      have t5 := MT.next t4 hb
      have H1' := Lib.hid (H1.out.below hb)
      have H2 := Lib.hid (H2'.out.below hb)
      clear hb t4 q0 q1 q2 C4 H1 H2'
      obtain ⟨q0, q1, q2⟩ := BxM.cells (MK.get t5 1 rfl)
      obtain ⟨y0, y1⟩ := ZK.out _ _ t5
      go_wp2_with fail
      refine (C5.out _ (MK.get t5 2 rfl)).mono ?_
      rintro e w6 ⟨rfl, hb⟩
      have t6 := MT.next t5 hb
      clear hb t5 q0 q1 q2 y0 y1 C5
      obtain ⟨q0, q1, q2⟩ := BxM.cells (MK.get t6 1 rfl)
      go_wp2_with fail
      clear q0 q1 q2
      refine (lives_walk _).mono ?_
      rintro e w7 ⟨rfl, hb⟩
      have hfin := (MT.next t6 hb).2.1
      clear hb t6
      go_wp2_with fail
      go_ret
      exact ⟨rfl, hfin⟩

theorem rerr_walk (ri ro : Int) (X P : Option Addr) (cx d : Nat) (rs : List (List Ed)) (p : List Int) (z0 z1 : Int) (w : World) (hx : RdR w X rs) (hp : Rd w P p) :
    Calls Try.prog 12 #[.agg #[.int .i64 ri, .int .i64 ro, .slice X rs.length cx], .slice P p.length d, .agg #[.int .i64 z0, .int .i64 z1]] w fun e w' => e = .returned (.bool true) ∧ Below w.heap.size w w' := by
  by_cases g1 : 70 < rs.length
  · exact rerr_early ri ro X P cx d _ _ rs p z0 z1 w hx hp rfl rfl (.inl g1)
  by_cases g2 : 300 < p.length
  · exact rerr_early ri ro X P cx d _ _ rs p z0 z1 w hx hp rfl rfl (.inr (.inl g2))
  by_cases g3 : ∃ (j : Nat) (row : List Ed), rs[j]? = some row ∧ 20 < row.length
  · exact rerr_early ri ro X P cx d _ _ rs p z0 z1 w hx hp rfl rfl (.inr (.inr ⟨by omega, g3⟩))
  have hrw : ∀ row ∈ rs, row.length ≤ 20 := fun row hrow => by
    obtain ⟨j, hj⟩ := List.mem_iff_getElem?.1 hrow
    rcases Nat.lt_or_ge 20 row.length with h | h
    · exact absurd ⟨j, row, hj, h⟩ g3
    · exact h
  by_cases hz : Mc.chk ⟨ri, ro, rs⟩ = 0
  · by_cases hq : M.pck p = 0
    · by_cases hq2 : p.length = rs.length
      · by_cases y0 : z0 < 0
        · exact rerr_Va3 ri ro X P cx d _ _ rs p z0 z1 w hx hp rfl rfl (by omega) (by omega) hrw hz y0 hq hq2
        by_cases y1 : z1 < 0
        · exact rerr_Vb3 ri ro X P cx d _ _ rs p z0 z1 w hx hp rfl rfl (by omega) (by omega) hrw hz (by omega) y1 hq hq2
        by_cases y2 : z0 < (rs.length : Int)
        · by_cases y3 : z1 < (rs.length : Int)
          · exact rerr_Ve3 ri ro X P cx d _ _ rs p z0 z1 w hx hp rfl rfl (by omega) (by omega) hrw hz (by omega) (by omega) y2 y3 hq hq2
          · exact rerr_Vd3 ri ro X P cx d _ _ rs p z0 z1 w hx hp rfl rfl (by omega) (by omega) hrw hz (by omega) (by omega) y2 (by omega) hq hq2
        · exact rerr_Vc3 ri ro X P cx d _ _ rs p z0 z1 w hx hp rfl rfl (by omega) (by omega) hrw hz (by omega) (by omega) (by omega) hq hq2
      · by_cases y0 : z0 < 0
        · exact rerr_Va2 ri ro X P cx d _ _ rs p z0 z1 w hx hp rfl rfl (by omega) (by omega) hrw hz y0 hq hq2
        by_cases y1 : z1 < 0
        · exact rerr_Vb2 ri ro X P cx d _ _ rs p z0 z1 w hx hp rfl rfl (by omega) (by omega) hrw hz (by omega) y1 hq hq2
        by_cases y2 : z0 < (rs.length : Int)
        · by_cases y3 : z1 < (rs.length : Int)
          · exact rerr_Ve2 ri ro X P cx d _ _ rs p z0 z1 w hx hp rfl rfl (by omega) (by omega) hrw hz (by omega) (by omega) y2 y3 hq hq2
          · exact rerr_Vd2 ri ro X P cx d _ _ rs p z0 z1 w hx hp rfl rfl (by omega) (by omega) hrw hz (by omega) (by omega) y2 (by omega) hq hq2
        · exact rerr_Vc2 ri ro X P cx d _ _ rs p z0 z1 w hx hp rfl rfl (by omega) (by omega) hrw hz (by omega) (by omega) (by omega) hq hq2
    · by_cases y0 : z0 < 0
      · exact rerr_Va1 ri ro X P cx d _ _ rs p z0 z1 w hx hp rfl rfl (by omega) (by omega) hrw hz y0 hq
      by_cases y1 : z1 < 0
      · exact rerr_Vb1 ri ro X P cx d _ _ rs p z0 z1 w hx hp rfl rfl (by omega) (by omega) hrw hz (by omega) y1 hq
      by_cases y2 : z0 < (rs.length : Int)
      · by_cases y3 : z1 < (rs.length : Int)
        · exact rerr_Ve1 ri ro X P cx d _ _ rs p z0 z1 w hx hp rfl rfl (by omega) (by omega) hrw hz (by omega) (by omega) y2 y3 hq
        · exact rerr_Vd1 ri ro X P cx d _ _ rs p z0 z1 w hx hp rfl rfl (by omega) (by omega) hrw hz (by omega) (by omega) y2 (by omega) hq
      · exact rerr_Vc1 ri ro X P cx d _ _ rs p z0 z1 w hx hp rfl rfl (by omega) (by omega) hrw hz (by omega) (by omega) (by omega) hq
  · exact rerr_A ri ro X P cx d _ _ rs p z0 z1 w hx hp rfl rfl (by omega) (by omega) hrw hz
end Go.Proofs.Ythemaombpddbbaa
