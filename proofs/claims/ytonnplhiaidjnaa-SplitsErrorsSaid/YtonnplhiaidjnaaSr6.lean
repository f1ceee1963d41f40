/-
  The walk of SplitsErrors, in cases. No statement is proved here.
-/
import Derived.Test.YtonnplhiaidjnaaSb2
import Derived.Test.YtonnplhiaidjnaaSqT
import Derived.Test.YtonnplhiaidjnaaSck
namespace Go.Proofs.Ytonnplhiaidjnaa
open Go.RowKit
open Mc (Ed Ma)

set_option maxRecDepth 100000 in
set_option maxHeartbeats 4000000 in
/-- Too many rows, or too few and too many, more than 300 numbers, or a row of more than 20 edges: nothing is asked. -/
theorem serr_early (ri ro : Int) (X P : Option Addr) (cx d l N : Nat) (rs : List (List Ed)) (p : List Int) (z0 z1 : Int) (w : World) (hx : RdR w X rs) (hp : Rd w P p) (hN : rs.length = N) (_hl : p.length = l)
    (hgr : 70 < N ∨ (20 < N ∧ N < 65) ∨ 300 < l ∨ ∃ (j : Nat) (row : List Ed), rs[j]? = some row ∧ 20 < row.length) :
    Calls Try.prog 12 #[.agg #[.int .i64 ri, .int .i64 ro, .slice X N cx], .slice P l d, .agg #[.int .i64 z0, .int .i64 z1]] w fun e w' => e = .returned (.bool true) ∧ Below w.heap.size w w' := by
  have HN := Lib.hid hN
  have HGR := Lib.hid hgr
  clear hN hgr _hl
  have s1 : MT w w _ := MK.putR MT.start hx
  have s1' := MT.putK (P := fun w => Rd w P p) s1 hp (fun _ _ h hb => h.below hb)
  clear hx hp s1
  obtain ⟨K0, hK0⟩ : ∃ K0, w.heap.size = K0 := ⟨_, rfl⟩
  have s2 := MK.putB (g := w.heap.size) (MT.alloc s1' (.cells #[.int .i64 ri, .int .i64 ro, .slice X N cx] 27)) (heap_alloc_new w _)
  have s4 := MT.putK (P := fun w => w.heap[K0 + 1]? = some (.cells #[.int .i64 z0, .int .i64 z1] 42)) (MT.alloc s2 (.cells #[.int .i64 z0, .int .i64 z1] 42))
    (by
      have h := heap_alloc_new (w.alloc (.cells #[.int .i64 ri, .int .i64 ro, .slice X N cx] 27)) (.cells #[.int .i64 z0, .int .i64 z1] 42)
      rw [World.size_alloc, hK0] at h
      exact h) (fun _ _ h hb => (hb.block _ (heap_lt h)).trans h)
  rw [hK0] at s4
  clear s1' s2
  go_enter Try.func12, Try.ntmps12
  go_upto_region 1 with fail
  obtain ⟨W0, hW0⟩ : ∃ W0, (w.alloc (.cells #[.int .i64 ri, .int .i64 ro, .slice X N cx] 27)).alloc (.cells #[.int .i64 z0, .int .i64 z1] 42) = W0 := ⟨_, rfl⟩
  rw [hW0] at s4
  rw [hW0]
  clear hW0
  obtain ⟨q0, q1, q2⟩ := BxM.cells (MK.get s4 1 rfl)
  by_cases h70 : 70 < N
  · have hd20 : decide ((20 : Int) < N) = true := decide_eq_true (by omega)
    have hd65 : decide ((N : Int) < 65) = false := decide_eq_false (by omega)
    have hd70 : decide ((70 : Int) < N) = true := decide_eq_true (by omega)
    have hfin := s4.2.1
    clear s4 HGR
    go_wp2
    go_ret
    exact ⟨rfl, hfin⟩
  have hd70 : decide ((70 : Int) < N) = false := decide_eq_false (by omega)
  by_cases h2065 : 20 < N ∧ N < 65
  · have hd20 : decide ((20 : Int) < N) = true := decide_eq_true (by omega)
    have hd65 : decide ((N : Int) < 65) = true := decide_eq_true (by omega)
    have hfin := s4.2.1
    clear s4 HGR
    go_wp2
    go_ret
    exact ⟨rfl, hfin⟩
  obtain ⟨b20, hd20⟩ : ∃ b, decide ((20 : Int) < N) = b := ⟨_, rfl⟩
  obtain ⟨b65, hd65⟩ : ∃ b, decide ((N : Int) < 65) = b := ⟨_, rfl⟩
  have hbb : b20 = false ∨ (b20 = true ∧ b65 = false) := by
    by_cases h : 20 < N
    · right
      exact ⟨by rw [← hd20]; exact decide_eq_true (by omega), by rw [← hd65]; exact decide_eq_false (by omega)⟩
    · left
      rw [← hd20]; exact decide_eq_false (by omega)
  rcases hbb with rfl | ⟨rfl, rfl⟩
  all_goals
    by_cases h300 : 300 < l
    · have hd300 : decide ((300 : Int) < l) = true := decide_eq_true (by omega)
      have hfin := s4.2.1
      clear s4 HGR
      go_wp2
      go_ret
      exact ⟨rfl, hfin⟩
    have hd300 : decide ((300 : Int) < l) = false := decide_eq_false (by omega)
    go_wp2
    clear q0 q1 q2 hd70 hd300 hd20 hd65
    have SF := Lib.hid s4
    clear s4
    go_loopw [7] (fun v wr => ∃ k : Nat, k ≤ N ∧ v = .int .i64 k ∧ Hid (∀ (j : Nat) row, j < k → rs[j]? = some row → row.length ≤ 20) ∧ Hid (Below W0.heap.size W0 wr)) (fun v _ => N - (intOf v).toNat)
    case atStart => exact ⟨0, by omega, rfl, fun j row h => absurd h (by omega), Below.refl _ _⟩
    case round =>
      obtain ⟨k, hk, rfl, hRk, hbr⟩ := hrel
      have sK := MT.next SF.out hbr.out
      obtain ⟨q0, q1, q2⟩ := BxM.cells (MK.get sK 1 rfl)
      have hlt : k < N := by
        rcases Nat.lt_or_ge k N with h1 | h1
        · exact h1
        · rcases HGR.out with h2 | h2 | h2 | ⟨j, row, hj, h3⟩
          · omega
          · omega
          · omega
          · have h4 := (List.getElem?_eq_some_iff.1 hj).1
            have h5 := HN.out
            have := hRk.out j row (by omega) hj
            omega
      have hkn : (k : Int) < N := by omega
      obtain ⟨br, ofr, Br, cr, nr, row, rfl, _, hcr, _, _, _, _, hrl, hrk⟩ := (MK.get sK 3 rfl).at_ (k := k) (by rw [HN.out]; exact hlt)
      by_cases h20 : 20 < nr
      · have hd20 : decide ((20 : Int) < nr) = true := decide_eq_true (by omega)
        have hfin := sK.2.1
        clear sK SF hRk HGR
        go_wp2
        go_ret
        exact ⟨rfl, hfin⟩
      · have hd20 : decide ((20 : Int) < nr) = false := decide_eq_false (by omega)
        have hRk' : Hid (∀ (j : Nat) row, j < k + 1 → rs[j]? = some row → row.length ≤ 20) := fun j row' hj hjr => by
          rcases Nat.lt_or_ge j k with h1 | h1
          · exact hRk.out j row' h1 hjr
          · obtain rfl : j = k := by omega
            rw [hrk.out] at hjr
            injection hjr with hjr
            rw [← hjr, hrl.out]
            omega
        clear sK hRk HGR
        go_wp2
        go_roundw
        case rel => exact ⟨k + 1, by omega, by go_num, hRk', hbr⟩
        case measure => simp [intOf]; omega

set_option maxRecDepth 100000 in
set_option maxHeartbeats 4000000 in
/-- The machine is not valid. -/
theorem serr_A1 (ri ro : Int) (X P : Option Addr) (cx d l N : Nat) (rs : List (List Ed)) (p : List Int) (z0 z1 : Int) (w : World) (hx : RdR w X rs) (hp : Rd w P p) (hN : rs.length = N) (_hl : p.length = l)
    (h70 : N ≤ 70) (h300 : l ≤ 300) (hrw : ∀ row ∈ rs, row.length ≤ 20) (hz : Mc.chk ⟨ri, ro, rs⟩ ≠ 0) (hbig : N ≤ 20) :
    Calls Try.prog 12 #[.agg #[.int .i64 ri, .int .i64 ro, .slice X N cx], .slice P l d, .agg #[.int .i64 z0, .int .i64 z1]] w fun e w' => e = .returned (.bool true) ∧ Below w.heap.size w w' := by
  have hk6 : N ≤ 1000000 := by omega
  have hrl : ∀ row ∈ rs, row.length ≤ 1000000 := fun row hrow => by have := hrw row hrow; omega
  have HN := Lib.hid hN
  have HRW := Lib.hid hrw
  have CK : Hid (∀ w, RdR w X rs → Calls Try.prog 45 #[.agg #[.int .i64 ri, .int .i64 ro, .slice X N cx]] w fun e w' => e = .returned (.int .i64 (Mc.chk ⟨ri, ro, rs⟩)) ∧ Below w.heap.size w w') := fun w hr => by
    have h := rmcheck_any ⟨ri, ro, rs⟩ X cx w hr (by simp only; omega)
    simp only [hN] at h
    exact h
  obtain ⟨Z, hchk⟩ : ∃ Z, Mc.chk ⟨ri, ro, rs⟩ = Z := ⟨_, rfl⟩
  have hsk : Mc.skE ⟨ri, ro, rs⟩ [z0, z1] = Z := (Mc.skE_bad hz).trans hchk
  rw [hchk] at hz CK
  have CT : Hid (∀ w, RdR w X rs → Calls Try.prog 40 #[.agg #[.int .i64 ri, .int .i64 ro, .slice X N cx]] w fun e w' => ∃ B, e = .returned (.tuple #[.slice B 0 0, .int .i64 Z]) ∧ Below w.heap.size w w') := fun w hr => by
    refine (table_err ri ro rs X N cx w hr hN hk6 hrl Z hchk hz).mono ?_
    rintro e w' ⟨rfl, h⟩
    exact ⟨_, rfl, h⟩
  have CH : Hid (∀ w, RdR w X rs → Calls Try.prog 41 #[.agg #[.int .i64 ri, .int .i64 ro, .slice X N cx]] w fun e w' => e = .returned (.tuple #[.int .i64 0, .int .i64 Z]) ∧ Below w.heap.size w w') := fun w hr => by
    exact height_err ri ro rs X N cx w hr hN hk6 hrl Z hchk hz
  have CF : Hid (∀ w, RdR w X rs → Rd w P p → Calls Try.prog 43 #[.agg #[.int .i64 ri, .int .i64 ro, .slice X N cx], .slice P l d] w fun e w' => ∃ B, e = .returned (.tuple #[.slice B 0 0, .int .i64 Z]) ∧ Below w.heap.size w w') := fun w hr _hp => by
    refine (after_err ri ro rs X P N cx l d w hr hN hk6 hrl Z hchk hz).mono ?_
    rintro e w' ⟨rfl, h⟩
    exact ⟨_, rfl, h⟩
  have CS : Hid (∀ w, RdR w X rs → Calls Try.prog 33 #[.agg #[.int .i64 ri, .int .i64 ro, .slice X N cx], .int .i64 z0, .int .i64 z1] w fun e w' => ∃ B, e = .returned (.tuple #[.slice B 0 0, .bool false, .int .i64 Z]) ∧ Below w.heap.size w w') := fun w hr => by
    refine (separate_err ri ro rs X N cx z0 z1 w hr hN hk6 hrl Z hsk hz).mono ?_
    rintro e w' ⟨rfl, h⟩
    exact ⟨_, rfl, h⟩
  have CP : Hid (∀ w, RdR w X rs → Rd w P p → Calls Try.prog 38 #[.agg #[.int .i64 ri, .int .i64 ro, .slice X N cx], .slice P l d, .int .i64 z0, .int .i64 z1] w fun e w' => e = .returned (.tuple #[.bool false, .int .i64 Z]) ∧ Below w.heap.size w w') := fun w hr _hp => by
    exact separates_err ri ro rs X P N cx l d z0 z1 w hr hN hk6 hrl Z hsk hz
  have hzn : (Z != 0) = true := by simp [hz]
  have hz2 : (Z == 0) = false := by simp [hz]
  have hzz : (Z == Z) = true := by simp
  clear hN hrw hrl hchk hsk hz
  have s1 : MT w w _ := MK.putR MT.start hx
  have s1' := MT.putK (P := fun w => Rd w P p) s1 hp (fun _ _ h hb => h.below hb)
  clear hx hp s1
  obtain ⟨K0, hK0⟩ : ∃ K0, w.heap.size = K0 := ⟨_, rfl⟩
  have s2 := MK.putB (g := w.heap.size) (MT.alloc s1' (.cells #[.int .i64 ri, .int .i64 ro, .slice X N cx] 27)) (heap_alloc_new w _)
  have s4 := MT.putK (P := fun w => w.heap[K0 + 1]? = some (.cells #[.int .i64 z0, .int .i64 z1] 42)) (MT.alloc s2 (.cells #[.int .i64 z0, .int .i64 z1] 42))
    (by
      have h := heap_alloc_new (w.alloc (.cells #[.int .i64 ri, .int .i64 ro, .slice X N cx] 27)) (.cells #[.int .i64 z0, .int .i64 z1] 42)
      rw [World.size_alloc, hK0] at h
      exact h) (fun _ _ h hb => (hb.block _ (heap_lt h)).trans h)
  rw [hK0] at s4
  clear s1' s2
  go_enter Try.func12, Try.ntmps12
  go_upto_region 1 with fail
  obtain ⟨W0, hW0⟩ : ∃ W0, (w.alloc (.cells #[.int .i64 ri, .int .i64 ro, .slice X N cx] 27)).alloc (.cells #[.int .i64 z0, .int .i64 z1] 42) = W0 := ⟨_, rfl⟩
  rw [hW0] at s4
  rw [hW0]
  clear hW0
  obtain ⟨q0, q1, q2⟩ := BxM.cells (MK.get s4 1 rfl)
  have hd20 : decide ((20 : Int) < N) = false := decide_eq_false (by omega)
  have hd70 : decide ((70 : Int) < N) = false := decide_eq_false (by omega)
  have hd300 : decide ((300 : Int) < l) = false := decide_eq_false (by omega)
  go_wp2
  clear q0 q1 q2 hd70 hd300 hd20
  have SF := Lib.hid s4
  clear s4
  go_loopw [7] (fun v wr => ∃ k : Nat, k ≤ N ∧ v = .int .i64 k ∧ Hid (Below W0.heap.size W0 wr)) (fun v _ => N - (intOf v).toNat)
  case atStart => exact ⟨0, by omega, rfl, Below.refl _ _⟩
  case round =>
    obtain ⟨k, hk, rfl, hbr⟩ := hrel
    have sK := MT.next SF.out hbr.out
    obtain ⟨q0, q1, q2⟩ := BxM.cells (MK.get sK 1 rfl)
    by_cases hlt : k < N
    · have hkn : (k : Int) < N := by omega
      obtain ⟨br, ofr, Br, cr, nr, row, rfl, _, hcr, _, _, _, _, hrl, hrk⟩ := (MK.get sK 3 rfl).at_ (k := k) (by rw [HN.out]; exact hlt)
      have hnr : nr ≤ 20 := by rw [← hrl.out]; exact HRW.out row (List.mem_of_getElem? hrk.out)
      have hd20 : decide ((20 : Int) < nr) = false := decide_eq_false (by omega)
      clear sK hrl hrk
      go_wp2
      go_roundw
      case rel => exact ⟨k + 1, by omega, by go_num, hbr⟩
      case measure => simp [intOf]; omega
    · have hkn : decide ((k : Int) < N) = false := decide_eq_false (by omega)
      clear SF hbr HRW HN
      have ZK : Hid (∀ (V : World) (L : List (World → Prop)), MT w V ((fun w => w.heap[K0 + 1]? = some (.cells #[.int .i64 z0, .int .i64 z1] 42)) :: L) → V.cell? ⟨K0 + 1, 0, none⟩ = some (.int .i64 z0) ∧ V.cell? ⟨K0 + 1, 1, none⟩ = some (.int .i64 z1)) := fun V L h => by
        have h1 := MK.get h 0 rfl
        refine ⟨?_, ?_⟩ <;> (rw [cell_of_row _ _ _ _ _ _ h1]; rfl)
      go_wp2_with fail
      refine (CK.out _ (MK.get sK 3 rfl)).mono ?_
      rintro e w1 ⟨rfl, hb⟩
      have t1 := MT.next sK hb
      clear hb sK q0 q1 q2 CK
      obtain ⟨q0, q1, q2⟩ := BxM.cells (MK.get t1 1 rfl)
      go_wp2_with fail
      refine (CT.out _ (MK.get t1 3 rfl)).mono ?_
      rintro e w2 ⟨B1, rfl, hb⟩
      have t2 := MT.next t1 hb
      clear hb t1 q0 q1 q2 CT
      obtain ⟨q0, q1, q2⟩ := BxM.cells (MK.get t2 1 rfl)
      go_wp2_with fail
      refine (CH.out _ (MK.get t2 3 rfl)).mono ?_
      rintro e w3 ⟨rfl, hb⟩
      have t3 := MT.next t2 hb
      clear hb t2 q0 q1 q2 CH
      obtain ⟨q0, q1, q2⟩ := BxM.cells (MK.get t3 1 rfl)
      go_wp2_with fail
      have t4 := t3
      clear t3
      refine (CF.out _ (MK.get t4 3 rfl) (MK.get t4 2 rfl)).mono ?_
      rintro e w5 ⟨B2, rfl, hb⟩
      have t5 := MT.next t4 hb
      clear hb t4 q0 q1 q2 CF
      obtain ⟨q0, q1, q2⟩ := BxM.cells (MK.get t5 1 rfl)
      obtain ⟨y0, y1⟩ := ZK.out _ _ t5
      go_wp2_with fail
      refine (CS.out _ (MK.get t5 3 rfl)).mono ?_
      rintro e w6 ⟨B3, rfl, hb⟩
      have t6 := MT.next t5 hb
      clear hb t5 q0 q1 q2 y0 y1 CS
      obtain ⟨q0, q1, q2⟩ := BxM.cells (MK.get t6 1 rfl)
      obtain ⟨y0, y1⟩ := ZK.out _ _ t6
      go_wp2_with fail
      refine (CP.out _ (MK.get t6 3 rfl) (MK.get t6 2 rfl)).mono ?_
      rintro e w7 ⟨rfl, hb⟩
      have t7 := MT.next t6 hb
      clear hb t6 q0 q1 q2 y0 y1 CP
      go_wp2_with fail
      refine (slives_walk _).mono ?_
      rintro e w8 ⟨rfl, hb⟩
      have hfin := (MT.next t7 hb).2.1
      clear hb t7
      go_wp2_with fail
      go_ret
      exact ⟨rfl, hfin⟩

set_option maxRecDepth 100000 in
set_option maxHeartbeats 4000000 in
/-- The machine is not valid. -/
theorem serr_A2 (ri ro : Int) (X P : Option Addr) (cx d l N : Nat) (rs : List (List Ed)) (p : List Int) (z0 z1 : Int) (w : World) (hx : RdR w X rs) (hp : Rd w P p) (hN : rs.length = N) (_hl : p.length = l)
    (h70 : N ≤ 70) (h300 : l ≤ 300) (hrw : ∀ row ∈ rs, row.length ≤ 20) (hz : Mc.chk ⟨ri, ro, rs⟩ ≠ 0) (hbig : 65 ≤ N) :
    Calls Try.prog 12 #[.agg #[.int .i64 ri, .int .i64 ro, .slice X N cx], .slice P l d, .agg #[.int .i64 z0, .int .i64 z1]] w fun e w' => e = .returned (.bool true) ∧ Below w.heap.size w w' := by
  have hk6 : N ≤ 1000000 := by omega
  have hrl : ∀ row ∈ rs, row.length ≤ 1000000 := fun row hrow => by have := hrw row hrow; omega
  have HN := Lib.hid hN
  have HRW := Lib.hid hrw
  have CK : Hid (∀ w, RdR w X rs → Calls Try.prog 45 #[.agg #[.int .i64 ri, .int .i64 ro, .slice X N cx]] w fun e w' => e = .returned (.int .i64 (Mc.chk ⟨ri, ro, rs⟩)) ∧ Below w.heap.size w w') := fun w hr => by
    have h := rmcheck_any ⟨ri, ro, rs⟩ X cx w hr (by simp only; omega)
    simp only [hN] at h
    exact h
  obtain ⟨Z, hchk⟩ : ∃ Z, Mc.chk ⟨ri, ro, rs⟩ = Z := ⟨_, rfl⟩
  have hsk : Mc.skE ⟨ri, ro, rs⟩ [z0, z1] = Z := (Mc.skE_bad hz).trans hchk
  rw [hchk] at hz CK
  have CT : Hid (∀ w, RdR w X rs → Calls Try.prog 40 #[.agg #[.int .i64 ri, .int .i64 ro, .slice X N cx]] w fun e w' => ∃ B, e = .returned (.tuple #[.slice B 0 0, .int .i64 Z]) ∧ Below w.heap.size w w') := fun w hr => by
    refine (table_err ri ro rs X N cx w hr hN hk6 hrl Z hchk hz).mono ?_
    rintro e w' ⟨rfl, h⟩
    exact ⟨_, rfl, h⟩
  have CH : Hid (∀ w, RdR w X rs → Calls Try.prog 41 #[.agg #[.int .i64 ri, .int .i64 ro, .slice X N cx]] w fun e w' => e = .returned (.tuple #[.int .i64 0, .int .i64 Z]) ∧ Below w.heap.size w w') := fun w hr => by
    exact height_err ri ro rs X N cx w hr hN hk6 hrl Z hchk hz
  have CF : Hid (∀ w, RdR w X rs → Rd w P p → Calls Try.prog 43 #[.agg #[.int .i64 ri, .int .i64 ro, .slice X N cx], .slice P l d] w fun e w' => ∃ B, e = .returned (.tuple #[.slice B 0 0, .int .i64 Z]) ∧ Below w.heap.size w w') := fun w hr _hp => by
    refine (after_err ri ro rs X P N cx l d w hr hN hk6 hrl Z hchk hz).mono ?_
    rintro e w' ⟨rfl, h⟩
    exact ⟨_, rfl, h⟩
  have CS : Hid (∀ w, RdR w X rs → Calls Try.prog 33 #[.agg #[.int .i64 ri, .int .i64 ro, .slice X N cx], .int .i64 z0, .int .i64 z1] w fun e w' => ∃ B, e = .returned (.tuple #[.slice B 0 0, .bool false, .int .i64 Z]) ∧ Below w.heap.size w w') := fun w hr => by
    refine (separate_err ri ro rs X N cx z0 z1 w hr hN hk6 hrl Z hsk hz).mono ?_
    rintro e w' ⟨rfl, h⟩
    exact ⟨_, rfl, h⟩
  have CP : Hid (∀ w, RdR w X rs → Rd w P p → Calls Try.prog 38 #[.agg #[.int .i64 ri, .int .i64 ro, .slice X N cx], .slice P l d, .int .i64 z0, .int .i64 z1] w fun e w' => e = .returned (.tuple #[.bool false, .int .i64 Z]) ∧ Below w.heap.size w w') := fun w hr _hp => by
    exact separates_err ri ro rs X P N cx l d z0 z1 w hr hN hk6 hrl Z hsk hz
  have hzn : (Z != 0) = true := by simp [hz]
  have hz2 : (Z == 0) = false := by simp [hz]
  have hzz : (Z == Z) = true := by simp
  clear hN hrw hrl hchk hsk hz
  have s1 : MT w w _ := MK.putR MT.start hx
  have s1' := MT.putK (P := fun w => Rd w P p) s1 hp (fun _ _ h hb => h.below hb)
  clear hx hp s1
  obtain ⟨K0, hK0⟩ : ∃ K0, w.heap.size = K0 := ⟨_, rfl⟩
  have s2 := MK.putB (g := w.heap.size) (MT.alloc s1' (.cells #[.int .i64 ri, .int .i64 ro, .slice X N cx] 27)) (heap_alloc_new w _)
  have s4 := MT.putK (P := fun w => w.heap[K0 + 1]? = some (.cells #[.int .i64 z0, .int .i64 z1] 42)) (MT.alloc s2 (.cells #[.int .i64 z0, .int .i64 z1] 42))
    (by
      have h := heap_alloc_new (w.alloc (.cells #[.int .i64 ri, .int .i64 ro, .slice X N cx] 27)) (.cells #[.int .i64 z0, .int .i64 z1] 42)
      rw [World.size_alloc, hK0] at h
      exact h) (fun _ _ h hb => (hb.block _ (heap_lt h)).trans h)
  rw [hK0] at s4
  clear s1' s2
  go_enter Try.func12, Try.ntmps12
  go_upto_region 1 with fail
  obtain ⟨W0, hW0⟩ : ∃ W0, (w.alloc (.cells #[.int .i64 ri, .int .i64 ro, .slice X N cx] 27)).alloc (.cells #[.int .i64 z0, .int .i64 z1] 42) = W0 := ⟨_, rfl⟩
  rw [hW0] at s4
  rw [hW0]
  clear hW0
  obtain ⟨q0, q1, q2⟩ := BxM.cells (MK.get s4 1 rfl)
  have hd20 : decide ((20 : Int) < N) = true := decide_eq_true (by omega)
  have hd65 : decide ((N : Int) < 65) = false := decide_eq_false (by omega)
  have hd70 : decide ((70 : Int) < N) = false := decide_eq_false (by omega)
  have hd300 : decide ((300 : Int) < l) = false := decide_eq_false (by omega)
  go_wp2
  clear q0 q1 q2 hd70 hd300 hd20 hd65
  have SF := Lib.hid s4
  clear s4
  go_loopw [7] (fun v wr => ∃ k : Nat, k ≤ N ∧ v = .int .i64 k ∧ Hid (Below W0.heap.size W0 wr)) (fun v _ => N - (intOf v).toNat)
  case atStart => exact ⟨0, by omega, rfl, Below.refl _ _⟩
  case round =>
    obtain ⟨k, hk, rfl, hbr⟩ := hrel
    have sK := MT.next SF.out hbr.out
    obtain ⟨q0, q1, q2⟩ := BxM.cells (MK.get sK 1 rfl)
    by_cases hlt : k < N
    · have hkn : (k : Int) < N := by omega
      obtain ⟨br, ofr, Br, cr, nr, row, rfl, _, hcr, _, _, _, _, hrl, hrk⟩ := (MK.get sK 3 rfl).at_ (k := k) (by rw [HN.out]; exact hlt)
      have hnr : nr ≤ 20 := by rw [← hrl.out]; exact HRW.out row (List.mem_of_getElem? hrk.out)
      have hd20 : decide ((20 : Int) < nr) = false := decide_eq_false (by omega)
      clear sK hrl hrk
      go_wp2
      go_roundw
      case rel => exact ⟨k + 1, by omega, by go_num, hbr⟩
      case measure => simp [intOf]; omega
    · have hkn : decide ((k : Int) < N) = false := decide_eq_false (by omega)
      clear SF hbr HRW HN
      have ZK : Hid (∀ (V : World) (L : List (World → Prop)), MT w V ((fun w => w.heap[K0 + 1]? = some (.cells #[.int .i64 z0, .int .i64 z1] 42)) :: L) → V.cell? ⟨K0 + 1, 0, none⟩ = some (.int .i64 z0) ∧ V.cell? ⟨K0 + 1, 1, none⟩ = some (.int .i64 z1)) := fun V L h => by
        have h1 := MK.get h 0 rfl
        refine ⟨?_, ?_⟩ <;> (rw [cell_of_row _ _ _ _ _ _ h1]; rfl)
      go_wp2_with fail
      refine (CK.out _ (MK.get sK 3 rfl)).mono ?_
      rintro e w1 ⟨rfl, hb⟩
      have t1 := MT.next sK hb
      clear hb sK q0 q1 q2 CK
      obtain ⟨q0, q1, q2⟩ := BxM.cells (MK.get t1 1 rfl)
      go_wp2_with fail
      refine (CT.out _ (MK.get t1 3 rfl)).mono ?_
      rintro e w2 ⟨B1, rfl, hb⟩
      have t2 := MT.next t1 hb
      clear hb t1 q0 q1 q2 CT
      obtain ⟨q0, q1, q2⟩ := BxM.cells (MK.get t2 1 rfl)
      go_wp2_with fail
      refine (CH.out _ (MK.get t2 3 rfl)).mono ?_
      rintro e w3 ⟨rfl, hb⟩
      have t3 := MT.next t2 hb
      clear hb t2 q0 q1 q2 CH
      obtain ⟨q0, q1, q2⟩ := BxM.cells (MK.get t3 1 rfl)
      go_wp2_with fail
      have t4 := t3
      clear t3
      refine (CF.out _ (MK.get t4 3 rfl) (MK.get t4 2 rfl)).mono ?_
      rintro e w5 ⟨B2, rfl, hb⟩
      have t5 := MT.next t4 hb
      clear hb t4 q0 q1 q2 CF
      obtain ⟨q0, q1, q2⟩ := BxM.cells (MK.get t5 1 rfl)
      obtain ⟨y0, y1⟩ := ZK.out _ _ t5
      go_wp2_with fail
      refine (CS.out _ (MK.get t5 3 rfl)).mono ?_
      rintro e w6 ⟨B3, rfl, hb⟩
      have t6 := MT.next t5 hb
      clear hb t5 q0 q1 q2 y0 y1 CS
      obtain ⟨q0, q1, q2⟩ := BxM.cells (MK.get t6 1 rfl)
      obtain ⟨y0, y1⟩ := ZK.out _ _ t6
      go_wp2_with fail
      refine (CP.out _ (MK.get t6 3 rfl) (MK.get t6 2 rfl)).mono ?_
      rintro e w7 ⟨rfl, hb⟩
      have t7 := MT.next t6 hb
      clear hb t6 q0 q1 q2 y0 y1 CP
      go_wp2_with fail
      refine (slives_walk _).mono ?_
      rintro e w8 ⟨rfl, hb⟩
      have hfin := (MT.next t7 hb).2.1
      clear hb t7
      go_wp2_with fail
      go_ret
      exact ⟨rfl, hfin⟩

set_option maxRecDepth 100000 in
set_option maxHeartbeats 4000000 in
/-- The first number is negative; the word is not valid. -/
theorem serr_Va1 (i : Nat) (ro : Int) (X P : Option Addr) (cx d l N : Nat) (rs : List (List Ed)) (p : List Int) (z0 z1 : Int) (w : World) (hx : RdR w X rs) (hp : Rd w P p) (hN : rs.length = N) (hl : p.length = l)
    (h70 : N ≤ 70) (h300 : l ≤ 300) (hrw : ∀ row ∈ rs, row.length ≤ 20) (h65 : ¬ (20 < N ∧ N < 65)) (hz : Mc.chk ⟨i, ro, rs⟩ = 0) (hz0 : z0 < 0) (hc : M.check p i ≠ 0) :
    Calls Try.prog 12 #[.agg #[.int .i64 i, .int .i64 ro, .slice X N cx], .slice P l d, .agg #[.int .i64 z0, .int .i64 z1]] w fun e w' => e = .returned (.bool true) ∧ Below w.heap.size w w' := by
  have hk6 : N ≤ 1000000 := by omega
  have hrl : ∀ row ∈ rs, row.length ≤ 1000000 := fun row hrow => by have := hrw row hrow; omega
  have HN := Lib.hid hN
  have HRW := Lib.hid hrw
  have CK : Hid (∀ w, RdR w X rs → Calls Try.prog 45 #[.agg #[.int .i64 i, .int .i64 ro, .slice X N cx]] w fun e w' => e = .returned (.int .i64 (Mc.chk ⟨i, ro, rs⟩)) ∧ Below w.heap.size w w') := fun w hr => by
    have h := rmcheck_any ⟨i, ro, rs⟩ X cx w hr (by simp only; omega)
    simp only [hN] at h
    exact h
  have v : Mc.Val ⟨i, ro, rs⟩ := Mc.val_of hz
  rw [hz] at CK
  obtain ⟨NT, hNT⟩ : ∃ n, (Mc.prs N).length = n := ⟨_, rfl⟩
  obtain ⟨H0, hH0⟩ : ∃ n, Mc.hgt ⟨i, ro, rs⟩ = n := ⟨_, rfl⟩
  obtain ⟨C, hC⟩ : ∃ C, M.check p i = C := ⟨_, rfl⟩
  rw [hC] at hc
  have hsk : Mc.skE ⟨i, ro, rs⟩ [z0, z1] = 1 := Mc.skE_out (k := 0) (s := z0) hz rfl (by unfold Mc.inS; simp; omega)
  have CT : Hid (∀ w, RdR w X rs → Calls Try.prog 40 #[.agg #[.int .i64 i, .int .i64 ro, .slice X N cx]] w fun e w' => ∃ B, e = .returned (.tuple #[.slice B NT NT, .int .i64 0]) ∧ Below w.heap.size w w') := fun w hr => by
    refine (table_ok ⟨i, ro, rs⟩ i ro X N cx w v rfl rfl hN hr).mono ?_
    rintro e w' ⟨G, rfl, _, h⟩
    exact ⟨_, by rw [hNT], h⟩
  have CH : Hid (∀ w, RdR w X rs → Calls Try.prog 41 #[.agg #[.int .i64 i, .int .i64 ro, .slice X N cx]] w fun e w' => e = .returned (.tuple #[.int .i64 H0, .int .i64 0]) ∧ Below w.heap.size w w') := fun w hr => by
    have h := height_ok ⟨i, ro, rs⟩ i ro X N cx w v rfl rfl hN hr
    rw [hH0] at h
    exact h
  have CC : Hid (∀ w, Rd w P p → Calls Try.prog 46 #[.slice P l d, .int .i64 i] w fun e w' => e = .returned (.int .i64 C) ∧ Below w.heap.size w w') := fun w hp => by
    have h := rwcheck_any P d p i w hp
    rw [hl, hC] at h
    exact h
  have CF : Hid (∀ w, RdR w X rs → Rd w P p → Calls Try.prog 43 #[.agg #[.int .i64 i, .int .i64 ro, .slice X N cx], .slice P l d] w fun e w' => ∃ B, e = .returned (.tuple #[.slice B 0 0, .int .i64 C]) ∧ Below w.heap.size w w') := fun w hr hp => by
    refine (after_val ⟨i, ro, rs⟩ i ro X P N cx l d p w C v rfl rfl hN hl hr hp (by omega) hC).mono ?_
    rintro e w' ⟨h1, h2, h3⟩
    exact ⟨none, h1 hc, h3⟩
  have CS : Hid (∀ w, RdR w X rs → Calls Try.prog 33 #[.agg #[.int .i64 i, .int .i64 ro, .slice X N cx], .int .i64 z0, .int .i64 z1] w fun e w' => ∃ B, e = .returned (.tuple #[.slice B 0 0, .bool false, .int .i64 1]) ∧ Below w.heap.size w w') := fun w hr => by
    refine (separate_err i ro rs X N cx z0 z1 w hr hN hk6 hrl 1 hsk (by decide)).mono ?_
    rintro e w' ⟨rfl, h⟩
    exact ⟨_, rfl, h⟩
  have CP : Hid (∀ w, RdR w X rs → Rd w P p → Calls Try.prog 38 #[.agg #[.int .i64 i, .int .i64 ro, .slice X N cx], .slice P l d, .int .i64 z0, .int .i64 z1] w fun e w' => e = .returned (.tuple #[.bool false, .int .i64 1]) ∧ Below w.heap.size w w') := fun w hr _hp => by
    exact separates_err i ro rs X P N cx l d z0 z1 w hr hN hk6 hrl 1 hsk (by decide)
  have hN20 : N ≤ 20 := by have := v.r1; simp only [hN] at this; omega
  have d0 : decide (z0 < 0) = true := decide_eq_true hz0
  have c1 : (C != 0) = true := by simp [hc]
  have c2 : (C == 0) = false := by simp [hc]
  have c3 : (C == C) = true := by simp
  have nn : ((N : Int) != N) = false := by simp
  clear hN hl hrw hrl hz hNT hH0 hC hc v hsk 
  have s1 : MT w w _ := MK.putR MT.start hx
  have s1' := MT.putK (P := fun w => Rd w P p) s1 hp (fun _ _ h hb => h.below hb)
  clear hx hp s1
  obtain ⟨K0, hK0⟩ : ∃ K0, w.heap.size = K0 := ⟨_, rfl⟩
  have s2 := MK.putB (g := w.heap.size) (MT.alloc s1' (.cells #[.int .i64 i, .int .i64 ro, .slice X N cx] 27)) (heap_alloc_new w _)
  have s4 := MT.putK (P := fun w => w.heap[K0 + 1]? = some (.cells #[.int .i64 z0, .int .i64 z1] 42)) (MT.alloc s2 (.cells #[.int .i64 z0, .int .i64 z1] 42))
    (by
      have h := heap_alloc_new (w.alloc (.cells #[.int .i64 i, .int .i64 ro, .slice X N cx] 27)) (.cells #[.int .i64 z0, .int .i64 z1] 42)
      rw [World.size_alloc, hK0] at h
      exact h) (fun _ _ h hb => (hb.block _ (heap_lt h)).trans h)
  rw [hK0] at s4
  clear s1' s2
  go_enter Try.func12, Try.ntmps12
  go_upto_region 1 with fail
  obtain ⟨W0, hW0⟩ : ∃ W0, (w.alloc (.cells #[.int .i64 i, .int .i64 ro, .slice X N cx] 27)).alloc (.cells #[.int .i64 z0, .int .i64 z1] 42) = W0 := ⟨_, rfl⟩
  rw [hW0] at s4
  rw [hW0]
  clear hW0
  obtain ⟨q0, q1, q2⟩ := BxM.cells (MK.get s4 1 rfl)
  have hd20 : decide ((20 : Int) < N) = false := decide_eq_false (by omega)
  have hd70 : decide ((70 : Int) < N) = false := decide_eq_false (by omega)
  have hd300 : decide ((300 : Int) < l) = false := decide_eq_false (by omega)
  go_wp2
  clear q0 q1 q2 hd70 hd300 hd20
  have SF := Lib.hid s4
  clear s4
  go_loopw [7] (fun v wr => ∃ k : Nat, k ≤ N ∧ v = .int .i64 k ∧ Hid (Below W0.heap.size W0 wr)) (fun v _ => N - (intOf v).toNat)
  case atStart => exact ⟨0, by omega, rfl, Below.refl _ _⟩
  case round =>
    obtain ⟨k, hk, rfl, hbr⟩ := hrel
    have sK := MT.next SF.out hbr.out
    obtain ⟨q0, q1, q2⟩ := BxM.cells (MK.get sK 1 rfl)
    by_cases hlt : k < N
    · have hkn : (k : Int) < N := by omega
      obtain ⟨br, ofr, Br, cr, nr, row, rfl, _, hcr, _, _, _, _, hrl, hrk⟩ := (MK.get sK 3 rfl).at_ (k := k) (by rw [HN.out]; exact hlt)
      have hnr : nr ≤ 20 := by rw [← hrl.out]; exact HRW.out row (List.mem_of_getElem? hrk.out)
      have hd20 : decide ((20 : Int) < nr) = false := decide_eq_false (by omega)
      clear sK hrl hrk
      go_wp2
      go_roundw
      case rel => exact ⟨k + 1, by omega, by go_num, hbr⟩
      case measure => simp [intOf]; omega
    · have hkn : decide ((k : Int) < N) = false := decide_eq_false (by omega)
      clear SF hbr HRW HN
      have ZK : Hid (∀ (V : World) (L : List (World → Prop)), MT w V ((fun w => w.heap[K0 + 1]? = some (.cells #[.int .i64 z0, .int .i64 z1] 42)) :: L) → V.cell? ⟨K0 + 1, 0, none⟩ = some (.int .i64 z0) ∧ V.cell? ⟨K0 + 1, 1, none⟩ = some (.int .i64 z1)) := fun V L h => by
        have h1 := MK.get h 0 rfl
        refine ⟨?_, ?_⟩ <;> (rw [cell_of_row _ _ _ _ _ _ h1]; rfl)
      go_wp2_with fail
      refine (CK.out _ (MK.get sK 3 rfl)).mono ?_
      rintro e w1 ⟨rfl, hb⟩
      have t1 := MT.next sK hb
      clear hb sK q0 q1 q2 CK
      obtain ⟨q0, q1, q2⟩ := BxM.cells (MK.get t1 1 rfl)
      go_wp2_with fail
      refine (CT.out _ (MK.get t1 3 rfl)).mono ?_
      rintro e w2 ⟨B1, rfl, hb⟩
      have t2 := MT.next t1 hb
      clear hb t1 q0 q1 q2 CT
      obtain ⟨q0, q1, q2⟩ := BxM.cells (MK.get t2 1 rfl)
      go_wp2_with fail
      refine (CH.out _ (MK.get t2 3 rfl)).mono ?_
      rintro e w3 ⟨rfl, hb⟩
      have t3 := MT.next t2 hb
      clear hb t2 q0 q1 q2 CH
      obtain ⟨q0, q1, q2⟩ := BxM.cells (MK.get t3 1 rfl)
      go_wp2_with fail
      refine (CC.out _ (MK.get t3 2 rfl)).mono ?_
      rintro e w4 ⟨rfl, hb⟩
      have t4 := MT.next t3 hb
      clear hb t3 q0 q1 q2 CC
      obtain ⟨q0, q1, q2⟩ := BxM.cells (MK.get t4 1 rfl)
      go_wp2_with fail
      refine (CF.out _ (MK.get t4 3 rfl) (MK.get t4 2 rfl)).mono ?_
      rintro e w5 ⟨B2, rfl, hb⟩
      have t5 := MT.next t4 hb
      clear hb t4 q0 q1 q2 CF
      obtain ⟨q0, q1, q2⟩ := BxM.cells (MK.get t5 1 rfl)
      obtain ⟨y0, y1⟩ := ZK.out _ _ t5
      go_wp2_with fail
      refine (CS.out _ (MK.get t5 3 rfl)).mono ?_
      rintro e w6 ⟨B3, rfl, hb⟩
      have t6 := MT.next t5 hb
      clear hb t5 q0 q1 q2 y0 y1 CS
      obtain ⟨q0, q1, q2⟩ := BxM.cells (MK.get t6 1 rfl)
      obtain ⟨y0, y1⟩ := ZK.out _ _ t6
      go_wp2_with fail
      refine (CP.out _ (MK.get t6 3 rfl) (MK.get t6 2 rfl)).mono ?_
      rintro e w7 ⟨rfl, hb⟩
      have t7 := MT.next t6 hb
      clear hb t6 q0 q1 q2 y0 y1 CP
      go_wp2_with fail
      refine (slives_walk _).mono ?_
      rintro e w8 ⟨rfl, hb⟩
      have hfin := (MT.next t7 hb).2.1
      clear hb t7
      go_wp2_with fail
      go_ret
      exact ⟨rfl, hfin⟩

set_option maxRecDepth 100000 in
set_option maxHeartbeats 4000000 in
/-- The first number is negative; the word is valid. -/
theorem serr_Va2 (i : Nat) (ro : Int) (X P : Option Addr) (cx d l N : Nat) (rs : List (List Ed)) (p : List Int) (z0 z1 : Int) (w : World) (hx : RdR w X rs) (hp : Rd w P p) (hN : rs.length = N) (hl : p.length = l)
    (h70 : N ≤ 70) (h300 : l ≤ 300) (hrw : ∀ row ∈ rs, row.length ≤ 20) (h65 : ¬ (20 < N ∧ N < 65)) (hz : Mc.chk ⟨i, ro, rs⟩ = 0) (hz0 : z0 < 0) (hc : M.check p i = 0) :
    Calls Try.prog 12 #[.agg #[.int .i64 i, .int .i64 ro, .slice X N cx], .slice P l d, .agg #[.int .i64 z0, .int .i64 z1]] w fun e w' => e = .returned (.bool true) ∧ Below w.heap.size w w' := by
  have hk6 : N ≤ 1000000 := by omega
  have hrl : ∀ row ∈ rs, row.length ≤ 1000000 := fun row hrow => by have := hrw row hrow; omega
  have HN := Lib.hid hN
  have HRW := Lib.hid hrw
  have CK : Hid (∀ w, RdR w X rs → Calls Try.prog 45 #[.agg #[.int .i64 i, .int .i64 ro, .slice X N cx]] w fun e w' => e = .returned (.int .i64 (Mc.chk ⟨i, ro, rs⟩)) ∧ Below w.heap.size w w') := fun w hr => by
    have h := rmcheck_any ⟨i, ro, rs⟩ X cx w hr (by simp only; omega)
    simp only [hN] at h
    exact h
  have v : Mc.Val ⟨i, ro, rs⟩ := Mc.val_of hz
  rw [hz] at CK
  obtain ⟨NT, hNT⟩ : ∃ n, (Mc.prs N).length = n := ⟨_, rfl⟩
  obtain ⟨H0, hH0⟩ : ∃ n, Mc.hgt ⟨i, ro, rs⟩ = n := ⟨_, rfl⟩
  have hC : M.check p i = 0 := hc
  have hsk : Mc.skE ⟨i, ro, rs⟩ [z0, z1] = 1 := Mc.skE_out (k := 0) (s := z0) hz rfl (by unfold Mc.inS; simp; omega)
  have CT : Hid (∀ w, RdR w X rs → Calls Try.prog 40 #[.agg #[.int .i64 i, .int .i64 ro, .slice X N cx]] w fun e w' => ∃ B, e = .returned (.tuple #[.slice B NT NT, .int .i64 0]) ∧ Below w.heap.size w w') := fun w hr => by
    refine (table_ok ⟨i, ro, rs⟩ i ro X N cx w v rfl rfl hN hr).mono ?_
    rintro e w' ⟨G, rfl, _, h⟩
    exact ⟨_, by rw [hNT], h⟩
  have CH : Hid (∀ w, RdR w X rs → Calls Try.prog 41 #[.agg #[.int .i64 i, .int .i64 ro, .slice X N cx]] w fun e w' => e = .returned (.tuple #[.int .i64 H0, .int .i64 0]) ∧ Below w.heap.size w w') := fun w hr => by
    have h := height_ok ⟨i, ro, rs⟩ i ro X N cx w v rfl rfl hN hr
    rw [hH0] at h
    exact h
  have CC : Hid (∀ w, Rd w P p → Calls Try.prog 46 #[.slice P l d, .int .i64 i] w fun e w' => e = .returned (.int .i64 0) ∧ Below w.heap.size w w') := fun w hp => by
    have h := rwcheck_any P d p i w hp
    rw [hl, hC] at h
    exact h
  have CF : Hid (∀ w, RdR w X rs → Rd w P p → Calls Try.prog 43 #[.agg #[.int .i64 i, .int .i64 ro, .slice X N cx], .slice P l d] w fun e w' => ∃ B, e = .returned (.tuple #[.slice B N N, .int .i64 0]) ∧ Below w.heap.size w w') := fun w hr hp => by
    refine (after_val ⟨i, ro, rs⟩ i ro X P N cx l d p w 0 v rfl rfl hN hl hr hp (by omega) hC).mono ?_
    rintro e w' ⟨h1, h2, h3⟩
    obtain ⟨B, h4, _⟩ := h2 rfl
    exact ⟨B, h4, h3⟩
  have CS : Hid (∀ w, RdR w X rs → Calls Try.prog 33 #[.agg #[.int .i64 i, .int .i64 ro, .slice X N cx], .int .i64 z0, .int .i64 z1] w fun e w' => ∃ B, e = .returned (.tuple #[.slice B 0 0, .bool false, .int .i64 1]) ∧ Below w.heap.size w w') := fun w hr => by
    refine (separate_err i ro rs X N cx z0 z1 w hr hN hk6 hrl 1 hsk (by decide)).mono ?_
    rintro e w' ⟨rfl, h⟩
    exact ⟨_, rfl, h⟩
  have CP : Hid (∀ w, RdR w X rs → Rd w P p → Calls Try.prog 38 #[.agg #[.int .i64 i, .int .i64 ro, .slice X N cx], .slice P l d, .int .i64 z0, .int .i64 z1] w fun e w' => e = .returned (.tuple #[.bool false, .int .i64 1]) ∧ Below w.heap.size w w') := fun w hr _hp => by
    exact separates_err i ro rs X P N cx l d z0 z1 w hr hN hk6 hrl 1 hsk (by decide)
  have hN20 : N ≤ 20 := by have := v.r1; simp only [hN] at this; omega
  have d0 : decide (z0 < 0) = true := decide_eq_true hz0
  have nn : ((N : Int) != N) = false := by simp
  clear hN hl hrw hrl hz hNT hH0 hC hc v hsk 
  have s1 : MT w w _ := MK.putR MT.start hx
  have s1' := MT.putK (P := fun w => Rd w P p) s1 hp (fun _ _ h hb => h.below hb)
  clear hx hp s1
  obtain ⟨K0, hK0⟩ : ∃ K0, w.heap.size = K0 := ⟨_, rfl⟩
  have s2 := MK.putB (g := w.heap.size) (MT.alloc s1' (.cells #[.int .i64 i, .int .i64 ro, .slice X N cx] 27)) (heap_alloc_new w _)
  have s4 := MT.putK (P := fun w => w.heap[K0 + 1]? = some (.cells #[.int .i64 z0, .int .i64 z1] 42)) (MT.alloc s2 (.cells #[.int .i64 z0, .int .i64 z1] 42))
    (by
      have h := heap_alloc_new (w.alloc (.cells #[.int .i64 i, .int .i64 ro, .slice X N cx] 27)) (.cells #[.int .i64 z0, .int .i64 z1] 42)
      rw [World.size_alloc, hK0] at h
      exact h) (fun _ _ h hb => (hb.block _ (heap_lt h)).trans h)
  rw [hK0] at s4
  clear s1' s2
  go_enter Try.func12, Try.ntmps12
  go_upto_region 1 with fail
  obtain ⟨W0, hW0⟩ : ∃ W0, (w.alloc (.cells #[.int .i64 i, .int .i64 ro, .slice X N cx] 27)).alloc (.cells #[.int .i64 z0, .int .i64 z1] 42) = W0 := ⟨_, rfl⟩
  rw [hW0] at s4
  rw [hW0]
  clear hW0
  obtain ⟨q0, q1, q2⟩ := BxM.cells (MK.get s4 1 rfl)
  have hd20 : decide ((20 : Int) < N) = false := decide_eq_false (by omega)
  have hd70 : decide ((70 : Int) < N) = false := decide_eq_false (by omega)
  have hd300 : decide ((300 : Int) < l) = false := decide_eq_false (by omega)
  go_wp2
  clear q0 q1 q2 hd70 hd300 hd20
  have SF := Lib.hid s4
  clear s4
  go_loopw [7] (fun v wr => ∃ k : Nat, k ≤ N ∧ v = .int .i64 k ∧ Hid (Below W0.heap.size W0 wr)) (fun v _ => N - (intOf v).toNat)
  case atStart => exact ⟨0, by omega, rfl, Below.refl _ _⟩
  case round =>
    obtain ⟨k, hk, rfl, hbr⟩ := hrel
    have sK := MT.next SF.out hbr.out
    obtain ⟨q0, q1, q2⟩ := BxM.cells (MK.get sK 1 rfl)
    by_cases hlt : k < N
    · have hkn : (k : Int) < N := by omega
      obtain ⟨br, ofr, Br, cr, nr, row, rfl, _, hcr, _, _, _, _, hrl, hrk⟩ := (MK.get sK 3 rfl).at_ (k := k) (by rw [HN.out]; exact hlt)
      have hnr : nr ≤ 20 := by rw [← hrl.out]; exact HRW.out row (List.mem_of_getElem? hrk.out)
      have hd20 : decide ((20 : Int) < nr) = false := decide_eq_false (by omega)
      clear sK hrl hrk
      go_wp2
      go_roundw
      case rel => exact ⟨k + 1, by omega, by go_num, hbr⟩
      case measure => simp [intOf]; omega
    · have hkn : decide ((k : Int) < N) = false := decide_eq_false (by omega)
      clear SF hbr HRW HN
      have ZK : Hid (∀ (V : World) (L : List (World → Prop)), MT w V ((fun w => w.heap[K0 + 1]? = some (.cells #[.int .i64 z0, .int .i64 z1] 42)) :: L) → V.cell? ⟨K0 + 1, 0, none⟩ = some (.int .i64 z0) ∧ V.cell? ⟨K0 + 1, 1, none⟩ = some (.int .i64 z1)) := fun V L h => by
        have h1 := MK.get h 0 rfl
        refine ⟨?_, ?_⟩ <;> (rw [cell_of_row _ _ _ _ _ _ h1]; rfl)
      go_wp2_with fail
      refine (CK.out _ (MK.get sK 3 rfl)).mono ?_
      rintro e w1 ⟨rfl, hb⟩
      have t1 := MT.next sK hb
      clear hb sK q0 q1 q2 CK
      obtain ⟨q0, q1, q2⟩ := BxM.cells (MK.get t1 1 rfl)
      go_wp2_with fail
      refine (CT.out _ (MK.get t1 3 rfl)).mono ?_
      rintro e w2 ⟨B1, rfl, hb⟩
      have t2 := MT.next t1 hb
      clear hb t1 q0 q1 q2 CT
      obtain ⟨q0, q1, q2⟩ := BxM.cells (MK.get t2 1 rfl)
      go_wp2_with fail
      refine (CH.out _ (MK.get t2 3 rfl)).mono ?_
      rintro e w3 ⟨rfl, hb⟩
      have t3 := MT.next t2 hb
      clear hb t2 q0 q1 q2 CH
      obtain ⟨q0, q1, q2⟩ := BxM.cells (MK.get t3 1 rfl)
      go_wp2_with fail
      refine (CC.out _ (MK.get t3 2 rfl)).mono ?_
      rintro e w4 ⟨rfl, hb⟩
      have t4 := MT.next t3 hb
      clear hb t3 q0 q1 q2 CC
      obtain ⟨q0, q1, q2⟩ := BxM.cells (MK.get t4 1 rfl)
      go_wp2_with fail
      refine (CF.out _ (MK.get t4 3 rfl) (MK.get t4 2 rfl)).mono ?_
      rintro e w5 ⟨B2, rfl, hb⟩
      have t5 := MT.next t4 hb
      clear hb t4 q0 q1 q2 CF
      obtain ⟨q0, q1, q2⟩ := BxM.cells (MK.get t5 1 rfl)
      obtain ⟨y0, y1⟩ := ZK.out _ _ t5
      go_wp2_with fail
      refine (CS.out _ (MK.get t5 3 rfl)).mono ?_
      rintro e w6 ⟨B3, rfl, hb⟩
      have t6 := MT.next t5 hb
      clear hb t5 q0 q1 q2 y0 y1 CS
      obtain ⟨q0, q1, q2⟩ := BxM.cells (MK.get t6 1 rfl)
      obtain ⟨y0, y1⟩ := ZK.out _ _ t6
      go_wp2_with fail
      refine (CP.out _ (MK.get t6 3 rfl) (MK.get t6 2 rfl)).mono ?_
      rintro e w7 ⟨rfl, hb⟩
      have t7 := MT.next t6 hb
      clear hb t6 q0 q1 q2 y0 y1 CP
      go_wp2_with fail
      refine (slives_walk _).mono ?_
      rintro e w8 ⟨rfl, hb⟩
      have hfin := (MT.next t7 hb).2.1
      clear hb t7
      go_wp2_with fail
      go_ret
      exact ⟨rfl, hfin⟩

set_option maxRecDepth 100000 in
set_option maxHeartbeats 4000000 in
/-- The second number is negative; the word is not valid. -/
theorem serr_Vb1 (i : Nat) (ro : Int) (X P : Option Addr) (cx d l N : Nat) (rs : List (List Ed)) (p : List Int) (z0 z1 : Int) (w : World) (hx : RdR w X rs) (hp : Rd w P p) (hN : rs.length = N) (hl : p.length = l)
    (h70 : N ≤ 70) (h300 : l ≤ 300) (hrw : ∀ row ∈ rs, row.length ≤ 20) (h65 : ¬ (20 < N ∧ N < 65)) (hz : Mc.chk ⟨i, ro, rs⟩ = 0) (hz0 : 0 ≤ z0) (hz1 : z1 < 0) (hc : M.check p i ≠ 0) :
    Calls Try.prog 12 #[.agg #[.int .i64 i, .int .i64 ro, .slice X N cx], .slice P l d, .agg #[.int .i64 z0, .int .i64 z1]] w fun e w' => e = .returned (.bool true) ∧ Below w.heap.size w w' := by
  have hk6 : N ≤ 1000000 := by omega
  have hrl : ∀ row ∈ rs, row.length ≤ 1000000 := fun row hrow => by have := hrw row hrow; omega
  have HN := Lib.hid hN
  have HRW := Lib.hid hrw
  have CK : Hid (∀ w, RdR w X rs → Calls Try.prog 45 #[.agg #[.int .i64 i, .int .i64 ro, .slice X N cx]] w fun e w' => e = .returned (.int .i64 (Mc.chk ⟨i, ro, rs⟩)) ∧ Below w.heap.size w w') := fun w hr => by
    have h := rmcheck_any ⟨i, ro, rs⟩ X cx w hr (by simp only; omega)
    simp only [hN] at h
    exact h
  have v : Mc.Val ⟨i, ro, rs⟩ := Mc.val_of hz
  rw [hz] at CK
  obtain ⟨NT, hNT⟩ : ∃ n, (Mc.prs N).length = n := ⟨_, rfl⟩
  obtain ⟨H0, hH0⟩ : ∃ n, Mc.hgt ⟨i, ro, rs⟩ = n := ⟨_, rfl⟩
  obtain ⟨C, hC⟩ : ∃ C, M.check p i = C := ⟨_, rfl⟩
  rw [hC] at hc
  have hsk : Mc.skE ⟨i, ro, rs⟩ [z0, z1] = 1 := Mc.skE_out (k := 1) (s := z1) hz rfl (by unfold Mc.inS; simp; omega)
  have CT : Hid (∀ w, RdR w X rs → Calls Try.prog 40 #[.agg #[.int .i64 i, .int .i64 ro, .slice X N cx]] w fun e w' => ∃ B, e = .returned (.tuple #[.slice B NT NT, .int .i64 0]) ∧ Below w.heap.size w w') := fun w hr => by
    refine (table_ok ⟨i, ro, rs⟩ i ro X N cx w v rfl rfl hN hr).mono ?_
    rintro e w' ⟨G, rfl, _, h⟩
    exact ⟨_, by rw [hNT], h⟩
  have CH : Hid (∀ w, RdR w X rs → Calls Try.prog 41 #[.agg #[.int .i64 i, .int .i64 ro, .slice X N cx]] w fun e w' => e = .returned (.tuple #[.int .i64 H0, .int .i64 0]) ∧ Below w.heap.size w w') := fun w hr => by
    have h := height_ok ⟨i, ro, rs⟩ i ro X N cx w v rfl rfl hN hr
    rw [hH0] at h
    exact h
  have CC : Hid (∀ w, Rd w P p → Calls Try.prog 46 #[.slice P l d, .int .i64 i] w fun e w' => e = .returned (.int .i64 C) ∧ Below w.heap.size w w') := fun w hp => by
    have h := rwcheck_any P d p i w hp
    rw [hl, hC] at h
    exact h
  have CF : Hid (∀ w, RdR w X rs → Rd w P p → Calls Try.prog 43 #[.agg #[.int .i64 i, .int .i64 ro, .slice X N cx], .slice P l d] w fun e w' => ∃ B, e = .returned (.tuple #[.slice B 0 0, .int .i64 C]) ∧ Below w.heap.size w w') := fun w hr hp => by
    refine (after_val ⟨i, ro, rs⟩ i ro X P N cx l d p w C v rfl rfl hN hl hr hp (by omega) hC).mono ?_
    rintro e w' ⟨h1, h2, h3⟩
    exact ⟨none, h1 hc, h3⟩
  have CS : Hid (∀ w, RdR w X rs → Calls Try.prog 33 #[.agg #[.int .i64 i, .int .i64 ro, .slice X N cx], .int .i64 z0, .int .i64 z1] w fun e w' => ∃ B, e = .returned (.tuple #[.slice B 0 0, .bool false, .int .i64 1]) ∧ Below w.heap.size w w') := fun w hr => by
    refine (separate_err i ro rs X N cx z0 z1 w hr hN hk6 hrl 1 hsk (by decide)).mono ?_
    rintro e w' ⟨rfl, h⟩
    exact ⟨_, rfl, h⟩
  have CP : Hid (∀ w, RdR w X rs → Rd w P p → Calls Try.prog 38 #[.agg #[.int .i64 i, .int .i64 ro, .slice X N cx], .slice P l d, .int .i64 z0, .int .i64 z1] w fun e w' => e = .returned (.tuple #[.bool false, .int .i64 1]) ∧ Below w.heap.size w w') := fun w hr _hp => by
    exact separates_err i ro rs X P N cx l d z0 z1 w hr hN hk6 hrl 1 hsk (by decide)
  have hN20 : N ≤ 20 := by have := v.r1; simp only [hN] at this; omega
  have d0 : decide (z0 < 0) = false := decide_eq_false (by omega)
  have d1 : decide (z1 < 0) = true := decide_eq_true hz1
  have c1 : (C != 0) = true := by simp [hc]
  have c2 : (C == 0) = false := by simp [hc]
  have c3 : (C == C) = true := by simp
  have nn : ((N : Int) != N) = false := by simp
  clear hN hl hrw hrl hz hNT hH0 hC hc v hsk 
  have s1 : MT w w _ := MK.putR MT.start hx
  have s1' := MT.putK (P := fun w => Rd w P p) s1 hp (fun _ _ h hb => h.below hb)
  clear hx hp s1
  obtain ⟨K0, hK0⟩ : ∃ K0, w.heap.size = K0 := ⟨_, rfl⟩
  have s2 := MK.putB (g := w.heap.size) (MT.alloc s1' (.cells #[.int .i64 i, .int .i64 ro, .slice X N cx] 27)) (heap_alloc_new w _)
  have s4 := MT.putK (P := fun w => w.heap[K0 + 1]? = some (.cells #[.int .i64 z0, .int .i64 z1] 42)) (MT.alloc s2 (.cells #[.int .i64 z0, .int .i64 z1] 42))
    (by
      have h := heap_alloc_new (w.alloc (.cells #[.int .i64 i, .int .i64 ro, .slice X N cx] 27)) (.cells #[.int .i64 z0, .int .i64 z1] 42)
      rw [World.size_alloc, hK0] at h
      exact h) (fun _ _ h hb => (hb.block _ (heap_lt h)).trans h)
  rw [hK0] at s4
  clear s1' s2
  go_enter Try.func12, Try.ntmps12
  go_upto_region 1 with fail
  obtain ⟨W0, hW0⟩ : ∃ W0, (w.alloc (.cells #[.int .i64 i, .int .i64 ro, .slice X N cx] 27)).alloc (.cells #[.int .i64 z0, .int .i64 z1] 42) = W0 := ⟨_, rfl⟩
  rw [hW0] at s4
  rw [hW0]
  clear hW0
  obtain ⟨q0, q1, q2⟩ := BxM.cells (MK.get s4 1 rfl)
  have hd20 : decide ((20 : Int) < N) = false := decide_eq_false (by omega)
  have hd70 : decide ((70 : Int) < N) = false := decide_eq_false (by omega)
  have hd300 : decide ((300 : Int) < l) = false := decide_eq_false (by omega)
  go_wp2
  clear q0 q1 q2 hd70 hd300 hd20
  have SF := Lib.hid s4
  clear s4
  go_loopw [7] (fun v wr => ∃ k : Nat, k ≤ N ∧ v = .int .i64 k ∧ Hid (Below W0.heap.size W0 wr)) (fun v _ => N - (intOf v).toNat)
  case atStart => exact ⟨0, by omega, rfl, Below.refl _ _⟩
  case round =>
    obtain ⟨k, hk, rfl, hbr⟩ := hrel
    have sK := MT.next SF.out hbr.out
    obtain ⟨q0, q1, q2⟩ := BxM.cells (MK.get sK 1 rfl)
    by_cases hlt : k < N
    · have hkn : (k : Int) < N := by omega
      obtain ⟨br, ofr, Br, cr, nr, row, rfl, _, hcr, _, _, _, _, hrl, hrk⟩ := (MK.get sK 3 rfl).at_ (k := k) (by rw [HN.out]; exact hlt)
      have hnr : nr ≤ 20 := by rw [← hrl.out]; exact HRW.out row (List.mem_of_getElem? hrk.out)
      have hd20 : decide ((20 : Int) < nr) = false := decide_eq_false (by omega)
      clear sK hrl hrk
      go_wp2
      go_roundw
      case rel => exact ⟨k + 1, by omega, by go_num, hbr⟩
      case measure => simp [intOf]; omega
    · have hkn : decide ((k : Int) < N) = false := decide_eq_false (by omega)
      clear SF hbr HRW HN
      have ZK : Hid (∀ (V : World) (L : List (World → Prop)), MT w V ((fun w => w.heap[K0 + 1]? = some (.cells #[.int .i64 z0, .int .i64 z1] 42)) :: L) → V.cell? ⟨K0 + 1, 0, none⟩ = some (.int .i64 z0) ∧ V.cell? ⟨K0 + 1, 1, none⟩ = some (.int .i64 z1)) := fun V L h => by
        have h1 := MK.get h 0 rfl
        refine ⟨?_, ?_⟩ <;> (rw [cell_of_row _ _ _ _ _ _ h1]; rfl)
      go_wp2_with fail
      refine (CK.out _ (MK.get sK 3 rfl)).mono ?_
      rintro e w1 ⟨rfl, hb⟩
      have t1 := MT.next sK hb
      clear hb sK q0 q1 q2 CK
      obtain ⟨q0, q1, q2⟩ := BxM.cells (MK.get t1 1 rfl)
      go_wp2_with fail
      refine (CT.out _ (MK.get t1 3 rfl)).mono ?_
      rintro e w2 ⟨B1, rfl, hb⟩
      have t2 := MT.next t1 hb
      clear hb t1 q0 q1 q2 CT
      obtain ⟨q0, q1, q2⟩ := BxM.cells (MK.get t2 1 rfl)
      go_wp2_with fail
      refine (CH.out _ (MK.get t2 3 rfl)).mono ?_
      rintro e w3 ⟨rfl, hb⟩
      have t3 := MT.next t2 hb
      clear hb t2 q0 q1 q2 CH
      obtain ⟨q0, q1, q2⟩ := BxM.cells (MK.get t3 1 rfl)
      go_wp2_with fail
      refine (CC.out _ (MK.get t3 2 rfl)).mono ?_
      rintro e w4 ⟨rfl, hb⟩
      have t4 := MT.next t3 hb
      clear hb t3 q0 q1 q2 CC
      obtain ⟨q0, q1, q2⟩ := BxM.cells (MK.get t4 1 rfl)
      go_wp2_with fail
      refine (CF.out _ (MK.get t4 3 rfl) (MK.get t4 2 rfl)).mono ?_
      rintro e w5 ⟨B2, rfl, hb⟩
      have t5 := MT.next t4 hb
      clear hb t4 q0 q1 q2 CF
      obtain ⟨q0, q1, q2⟩ := BxM.cells (MK.get t5 1 rfl)
      obtain ⟨y0, y1⟩ := ZK.out _ _ t5
      go_wp2_with fail
      refine (CS.out _ (MK.get t5 3 rfl)).mono ?_
      rintro e w6 ⟨B3, rfl, hb⟩
      have t6 := MT.next t5 hb
      clear hb t5 q0 q1 q2 y0 y1 CS
      obtain ⟨q0, q1, q2⟩ := BxM.cells (MK.get t6 1 rfl)
      obtain ⟨y0, y1⟩ := ZK.out _ _ t6
      go_wp2_with fail
      refine (CP.out _ (MK.get t6 3 rfl) (MK.get t6 2 rfl)).mono ?_
      rintro e w7 ⟨rfl, hb⟩
      have t7 := MT.next t6 hb
      clear hb t6 q0 q1 q2 y0 y1 CP
      go_wp2_with fail
      refine (slives_walk _).mono ?_
      rintro e w8 ⟨rfl, hb⟩
      have hfin := (MT.next t7 hb).2.1
      clear hb t7
      go_wp2_with fail
      go_ret
      exact ⟨rfl, hfin⟩

set_option maxRecDepth 100000 in
set_option maxHeartbeats 4000000 in
/-- The second number is negative; the word is valid. -/
theorem serr_Vb2 (i : Nat) (ro : Int) (X P : Option Addr) (cx d l N : Nat) (rs : List (List Ed)) (p : List Int) (z0 z1 : Int) (w : World) (hx : RdR w X rs) (hp : Rd w P p) (hN : rs.length = N) (hl : p.length = l)
    (h70 : N ≤ 70) (h300 : l ≤ 300) (hrw : ∀ row ∈ rs, row.length ≤ 20) (h65 : ¬ (20 < N ∧ N < 65)) (hz : Mc.chk ⟨i, ro, rs⟩ = 0) (hz0 : 0 ≤ z0) (hz1 : z1 < 0) (hc : M.check p i = 0) :
    Calls Try.prog 12 #[.agg #[.int .i64 i, .int .i64 ro, .slice X N cx], .slice P l d, .agg #[.int .i64 z0, .int .i64 z1]] w fun e w' => e = .returned (.bool true) ∧ Below w.heap.size w w' := by
  have hk6 : N ≤ 1000000 := by omega
  have hrl : ∀ row ∈ rs, row.length ≤ 1000000 := fun row hrow => by have := hrw row hrow; omega
  have HN := Lib.hid hN
  have HRW := Lib.hid hrw
  have CK : Hid (∀ w, RdR w X rs → Calls Try.prog 45 #[.agg #[.int .i64 i, .int .i64 ro, .slice X N cx]] w fun e w' => e = .returned (.int .i64 (Mc.chk ⟨i, ro, rs⟩)) ∧ Below w.heap.size w w') := fun w hr => by
    have h := rmcheck_any ⟨i, ro, rs⟩ X cx w hr (by simp only; omega)
    simp only [hN] at h
    exact h
  have v : Mc.Val ⟨i, ro, rs⟩ := Mc.val_of hz
  rw [hz] at CK
  obtain ⟨NT, hNT⟩ : ∃ n, (Mc.prs N).length = n := ⟨_, rfl⟩
  obtain ⟨H0, hH0⟩ : ∃ n, Mc.hgt ⟨i, ro, rs⟩ = n := ⟨_, rfl⟩
  have hC : M.check p i = 0 := hc
  have hsk : Mc.skE ⟨i, ro, rs⟩ [z0, z1] = 1 := Mc.skE_out (k := 1) (s := z1) hz rfl (by unfold Mc.inS; simp; omega)
  have CT : Hid (∀ w, RdR w X rs → Calls Try.prog 40 #[.agg #[.int .i64 i, .int .i64 ro, .slice X N cx]] w fun e w' => ∃ B, e = .returned (.tuple #[.slice B NT NT, .int .i64 0]) ∧ Below w.heap.size w w') := fun w hr => by
    refine (table_ok ⟨i, ro, rs⟩ i ro X N cx w v rfl rfl hN hr).mono ?_
    rintro e w' ⟨G, rfl, _, h⟩
    exact ⟨_, by rw [hNT], h⟩
  have CH : Hid (∀ w, RdR w X rs → Calls Try.prog 41 #[.agg #[.int .i64 i, .int .i64 ro, .slice X N cx]] w fun e w' => e = .returned (.tuple #[.int .i64 H0, .int .i64 0]) ∧ Below w.heap.size w w') := fun w hr => by
    have h := height_ok ⟨i, ro, rs⟩ i ro X N cx w v rfl rfl hN hr
    rw [hH0] at h
    exact h
  have CC : Hid (∀ w, Rd w P p → Calls Try.prog 46 #[.slice P l d, .int .i64 i] w fun e w' => e = .returned (.int .i64 0) ∧ Below w.heap.size w w') := fun w hp => by
    have h := rwcheck_any P d p i w hp
    rw [hl, hC] at h
    exact h
  have CF : Hid (∀ w, RdR w X rs → Rd w P p → Calls Try.prog 43 #[.agg #[.int .i64 i, .int .i64 ro, .slice X N cx], .slice P l d] w fun e w' => ∃ B, e = .returned (.tuple #[.slice B N N, .int .i64 0]) ∧ Below w.heap.size w w') := fun w hr hp => by
    refine (after_val ⟨i, ro, rs⟩ i ro X P N cx l d p w 0 v rfl rfl hN hl hr hp (by omega) hC).mono ?_
    rintro e w' ⟨h1, h2, h3⟩
    obtain ⟨B, h4, _⟩ := h2 rfl
    exact ⟨B, h4, h3⟩
  have CS : Hid (∀ w, RdR w X rs → Calls Try.prog 33 #[.agg #[.int .i64 i, .int .i64 ro, .slice X N cx], .int .i64 z0, .int .i64 z1] w fun e w' => ∃ B, e = .returned (.tuple #[.slice B 0 0, .bool false, .int .i64 1]) ∧ Below w.heap.size w w') := fun w hr => by
    refine (separate_err i ro rs X N cx z0 z1 w hr hN hk6 hrl 1 hsk (by decide)).mono ?_
    rintro e w' ⟨rfl, h⟩
    exact ⟨_, rfl, h⟩
  have CP : Hid (∀ w, RdR w X rs → Rd w P p → Calls Try.prog 38 #[.agg #[.int .i64 i, .int .i64 ro, .slice X N cx], .slice P l d, .int .i64 z0, .int .i64 z1] w fun e w' => e = .returned (.tuple #[.bool false, .int .i64 1]) ∧ Below w.heap.size w w') := fun w hr _hp => by
    exact separates_err i ro rs X P N cx l d z0 z1 w hr hN hk6 hrl 1 hsk (by decide)
  have hN20 : N ≤ 20 := by have := v.r1; simp only [hN] at this; omega
  have d0 : decide (z0 < 0) = false := decide_eq_false (by omega)
  have d1 : decide (z1 < 0) = true := decide_eq_true hz1
  have nn : ((N : Int) != N) = false := by simp
  clear hN hl hrw hrl hz hNT hH0 hC hc v hsk 
  have s1 : MT w w _ := MK.putR MT.start hx
  have s1' := MT.putK (P := fun w => Rd w P p) s1 hp (fun _ _ h hb => h.below hb)
  clear hx hp s1
  obtain ⟨K0, hK0⟩ : ∃ K0, w.heap.size = K0 := ⟨_, rfl⟩
  have s2 := MK.putB (g := w.heap.size) (MT.alloc s1' (.cells #[.int .i64 i, .int .i64 ro, .slice X N cx] 27)) (heap_alloc_new w _)
  have s4 := MT.putK (P := fun w => w.heap[K0 + 1]? = some (.cells #[.int .i64 z0, .int .i64 z1] 42)) (MT.alloc s2 (.cells #[.int .i64 z0, .int .i64 z1] 42))
    (by
      have h := heap_alloc_new (w.alloc (.cells #[.int .i64 i, .int .i64 ro, .slice X N cx] 27)) (.cells #[.int .i64 z0, .int .i64 z1] 42)
      rw [World.size_alloc, hK0] at h
      exact h) (fun _ _ h hb => (hb.block _ (heap_lt h)).trans h)
  rw [hK0] at s4
  clear s1' s2
  go_enter Try.func12, Try.ntmps12
  go_upto_region 1 with fail
  obtain ⟨W0, hW0⟩ : ∃ W0, (w.alloc (.cells #[.int .i64 i, .int .i64 ro, .slice X N cx] 27)).alloc (.cells #[.int .i64 z0, .int .i64 z1] 42) = W0 := ⟨_, rfl⟩
  rw [hW0] at s4
  rw [hW0]
  clear hW0
  obtain ⟨q0, q1, q2⟩ := BxM.cells (MK.get s4 1 rfl)
  have hd20 : decide ((20 : Int) < N) = false := decide_eq_false (by omega)
  have hd70 : decide ((70 : Int) < N) = false := decide_eq_false (by omega)
  have hd300 : decide ((300 : Int) < l) = false := decide_eq_false (by omega)
  go_wp2
  clear q0 q1 q2 hd70 hd300 hd20
  have SF := Lib.hid s4
  clear s4
  go_loopw [7] (fun v wr => ∃ k : Nat, k ≤ N ∧ v = .int .i64 k ∧ Hid (Below W0.heap.size W0 wr)) (fun v _ => N - (intOf v).toNat)
  case atStart => exact ⟨0, by omega, rfl, Below.refl _ _⟩
  case round =>
    obtain ⟨k, hk, rfl, hbr⟩ := hrel
    have sK := MT.next SF.out hbr.out
    obtain ⟨q0, q1, q2⟩ := BxM.cells (MK.get sK 1 rfl)
    by_cases hlt : k < N
    · have hkn : (k : Int) < N := by omega
      obtain ⟨br, ofr, Br, cr, nr, row, rfl, _, hcr, _, _, _, _, hrl, hrk⟩ := (MK.get sK 3 rfl).at_ (k := k) (by rw [HN.out]; exact hlt)
      have hnr : nr ≤ 20 := by rw [← hrl.out]; exact HRW.out row (List.mem_of_getElem? hrk.out)
      have hd20 : decide ((20 : Int) < nr) = false := decide_eq_false (by omega)
      clear sK hrl hrk
      go_wp2
      go_roundw
      case rel => exact ⟨k + 1, by omega, by go_num, hbr⟩
      case measure => simp [intOf]; omega
    · have hkn : decide ((k : Int) < N) = false := decide_eq_false (by omega)
      clear SF hbr HRW HN
      have ZK : Hid (∀ (V : World) (L : List (World → Prop)), MT w V ((fun w => w.heap[K0 + 1]? = some (.cells #[.int .i64 z0, .int .i64 z1] 42)) :: L) → V.cell? ⟨K0 + 1, 0, none⟩ = some (.int .i64 z0) ∧ V.cell? ⟨K0 + 1, 1, none⟩ = some (.int .i64 z1)) := fun V L h => by
        have h1 := MK.get h 0 rfl
        refine ⟨?_, ?_⟩ <;> (rw [cell_of_row _ _ _ _ _ _ h1]; rfl)
      go_wp2_with fail
      refine (CK.out _ (MK.get sK 3 rfl)).mono ?_
      rintro e w1 ⟨rfl, hb⟩
      have t1 := MT.next sK hb
      clear hb sK q0 q1 q2 CK
      obtain ⟨q0, q1, q2⟩ := BxM.cells (MK.get t1 1 rfl)
      go_wp2_with fail
      refine (CT.out _ (MK.get t1 3 rfl)).mono ?_
      rintro e w2 ⟨B1, rfl, hb⟩
      have t2 := MT.next t1 hb
      clear hb t1 q0 q1 q2 CT
      obtain ⟨q0, q1, q2⟩ := BxM.cells (MK.get t2 1 rfl)
      go_wp2_with fail
      refine (CH.out _ (MK.get t2 3 rfl)).mono ?_
      rintro e w3 ⟨rfl, hb⟩
      have t3 := MT.next t2 hb
      clear hb t2 q0 q1 q2 CH
      obtain ⟨q0, q1, q2⟩ := BxM.cells (MK.get t3 1 rfl)
      go_wp2_with fail
      refine (CC.out _ (MK.get t3 2 rfl)).mono ?_
      rintro e w4 ⟨rfl, hb⟩
      have t4 := MT.next t3 hb
      clear hb t3 q0 q1 q2 CC
      obtain ⟨q0, q1, q2⟩ := BxM.cells (MK.get t4 1 rfl)
      go_wp2_with fail
      refine (CF.out _ (MK.get t4 3 rfl) (MK.get t4 2 rfl)).mono ?_
      rintro e w5 ⟨B2, rfl, hb⟩
      have t5 := MT.next t4 hb
      clear hb t4 q0 q1 q2 CF
      obtain ⟨q0, q1, q2⟩ := BxM.cells (MK.get t5 1 rfl)
      obtain ⟨y0, y1⟩ := ZK.out _ _ t5
      go_wp2_with fail
      refine (CS.out _ (MK.get t5 3 rfl)).mono ?_
      rintro e w6 ⟨B3, rfl, hb⟩
      have t6 := MT.next t5 hb
      clear hb t5 q0 q1 q2 y0 y1 CS
      obtain ⟨q0, q1, q2⟩ := BxM.cells (MK.get t6 1 rfl)
      obtain ⟨y0, y1⟩ := ZK.out _ _ t6
      go_wp2_with fail
      refine (CP.out _ (MK.get t6 3 rfl) (MK.get t6 2 rfl)).mono ?_
      rintro e w7 ⟨rfl, hb⟩
      have t7 := MT.next t6 hb
      clear hb t6 q0 q1 q2 y0 y1 CP
      go_wp2_with fail
      refine (slives_walk _).mono ?_
      rintro e w8 ⟨rfl, hb⟩
      have hfin := (MT.next t7 hb).2.1
      clear hb t7
      go_wp2_with fail
      go_ret
      exact ⟨rfl, hfin⟩

set_option maxRecDepth 100000 in
set_option maxHeartbeats 4000000 in
/-- The first number is no state; the word is not valid. -/
theorem serr_Vc1 (i : Nat) (ro : Int) (X P : Option Addr) (cx d l N : Nat) (rs : List (List Ed)) (p : List Int) (z0 z1 : Int) (w : World) (hx : RdR w X rs) (hp : Rd w P p) (hN : rs.length = N) (hl : p.length = l)
    (h70 : N ≤ 70) (h300 : l ≤ 300) (hrw : ∀ row ∈ rs, row.length ≤ 20) (h65 : ¬ (20 < N ∧ N < 65)) (hz : Mc.chk ⟨i, ro, rs⟩ = 0) (hz0 : 0 ≤ z0) (hz1 : 0 ≤ z1) (hz2 : (N : Int) ≤ z0) (hc : M.check p i ≠ 0) :
    Calls Try.prog 12 #[.agg #[.int .i64 i, .int .i64 ro, .slice X N cx], .slice P l d, .agg #[.int .i64 z0, .int .i64 z1]] w fun e w' => e = .returned (.bool true) ∧ Below w.heap.size w w' := by
  have hk6 : N ≤ 1000000 := by omega
  have hrl : ∀ row ∈ rs, row.length ≤ 1000000 := fun row hrow => by have := hrw row hrow; omega
  have HN := Lib.hid hN
  have HRW := Lib.hid hrw
  have CK : Hid (∀ w, RdR w X rs → Calls Try.prog 45 #[.agg #[.int .i64 i, .int .i64 ro, .slice X N cx]] w fun e w' => e = .returned (.int .i64 (Mc.chk ⟨i, ro, rs⟩)) ∧ Below w.heap.size w w') := fun w hr => by
    have h := rmcheck_any ⟨i, ro, rs⟩ X cx w hr (by simp only; omega)
    simp only [hN] at h
    exact h
  have v : Mc.Val ⟨i, ro, rs⟩ := Mc.val_of hz
  rw [hz] at CK
  obtain ⟨NT, hNT⟩ : ∃ n, (Mc.prs N).length = n := ⟨_, rfl⟩
  obtain ⟨H0, hH0⟩ : ∃ n, Mc.hgt ⟨i, ro, rs⟩ = n := ⟨_, rfl⟩
  obtain ⟨C, hC⟩ : ∃ C, M.check p i = C := ⟨_, rfl⟩
  rw [hC] at hc
  have hsk : Mc.skE ⟨i, ro, rs⟩ [z0, z1] = 1 := Mc.skE_out (k := 0) (s := z0) hz rfl (by unfold Mc.inS; simp; omega)
  have CT : Hid (∀ w, RdR w X rs → Calls Try.prog 40 #[.agg #[.int .i64 i, .int .i64 ro, .slice X N cx]] w fun e w' => ∃ B, e = .returned (.tuple #[.slice B NT NT, .int .i64 0]) ∧ Below w.heap.size w w') := fun w hr => by
    refine (table_ok ⟨i, ro, rs⟩ i ro X N cx w v rfl rfl hN hr).mono ?_
    rintro e w' ⟨G, rfl, _, h⟩
    exact ⟨_, by rw [hNT], h⟩
  have CH : Hid (∀ w, RdR w X rs → Calls Try.prog 41 #[.agg #[.int .i64 i, .int .i64 ro, .slice X N cx]] w fun e w' => e = .returned (.tuple #[.int .i64 H0, .int .i64 0]) ∧ Below w.heap.size w w') := fun w hr => by
    have h := height_ok ⟨i, ro, rs⟩ i ro X N cx w v rfl rfl hN hr
    rw [hH0] at h
    exact h
  have CC : Hid (∀ w, Rd w P p → Calls Try.prog 46 #[.slice P l d, .int .i64 i] w fun e w' => e = .returned (.int .i64 C) ∧ Below w.heap.size w w') := fun w hp => by
    have h := rwcheck_any P d p i w hp
    rw [hl, hC] at h
    exact h
  have CF : Hid (∀ w, RdR w X rs → Rd w P p → Calls Try.prog 43 #[.agg #[.int .i64 i, .int .i64 ro, .slice X N cx], .slice P l d] w fun e w' => ∃ B, e = .returned (.tuple #[.slice B 0 0, .int .i64 C]) ∧ Below w.heap.size w w') := fun w hr hp => by
    refine (after_val ⟨i, ro, rs⟩ i ro X P N cx l d p w C v rfl rfl hN hl hr hp (by omega) hC).mono ?_
    rintro e w' ⟨h1, h2, h3⟩
    exact ⟨none, h1 hc, h3⟩
  have CS : Hid (∀ w, RdR w X rs → Calls Try.prog 33 #[.agg #[.int .i64 i, .int .i64 ro, .slice X N cx], .int .i64 z0, .int .i64 z1] w fun e w' => ∃ B, e = .returned (.tuple #[.slice B 0 0, .bool false, .int .i64 1]) ∧ Below w.heap.size w w') := fun w hr => by
    refine (separate_err i ro rs X N cx z0 z1 w hr hN hk6 hrl 1 hsk (by decide)).mono ?_
    rintro e w' ⟨rfl, h⟩
    exact ⟨_, rfl, h⟩
  have CP : Hid (∀ w, RdR w X rs → Rd w P p → Calls Try.prog 38 #[.agg #[.int .i64 i, .int .i64 ro, .slice X N cx], .slice P l d, .int .i64 z0, .int .i64 z1] w fun e w' => e = .returned (.tuple #[.bool false, .int .i64 1]) ∧ Below w.heap.size w w') := fun w hr _hp => by
    exact separates_err i ro rs X P N cx l d z0 z1 w hr hN hk6 hrl 1 hsk (by decide)
  have hN20 : N ≤ 20 := by have := v.r1; simp only [hN] at this; omega
  have d0 : decide (z0 < 0) = false := decide_eq_false (by omega)
  have d1 : decide (z1 < 0) = false := decide_eq_false (by omega)
  have d2 : decide ((N : Int) ≤ z0) = true := decide_eq_true hz2
  have c1 : (C != 0) = true := by simp [hc]
  have c2 : (C == 0) = false := by simp [hc]
  have c3 : (C == C) = true := by simp
  have nn : ((N : Int) != N) = false := by simp
  clear hN hl hrw hrl hz hNT hH0 hC hc v hsk 
  have s1 : MT w w _ := MK.putR MT.start hx
  have s1' := MT.putK (P := fun w => Rd w P p) s1 hp (fun _ _ h hb => h.below hb)
  clear hx hp s1
  obtain ⟨K0, hK0⟩ : ∃ K0, w.heap.size = K0 := ⟨_, rfl⟩
  have s2 := MK.putB (g := w.heap.size) (MT.alloc s1' (.cells #[.int .i64 i, .int .i64 ro, .slice X N cx] 27)) (heap_alloc_new w _)
  have s4 := MT.putK (P := fun w => w.heap[K0 + 1]? = some (.cells #[.int .i64 z0, .int .i64 z1] 42)) (MT.alloc s2 (.cells #[.int .i64 z0, .int .i64 z1] 42))
    (by
      have h := heap_alloc_new (w.alloc (.cells #[.int .i64 i, .int .i64 ro, .slice X N cx] 27)) (.cells #[.int .i64 z0, .int .i64 z1] 42)
      rw [World.size_alloc, hK0] at h
      exact h) (fun _ _ h hb => (hb.block _ (heap_lt h)).trans h)
  rw [hK0] at s4
  clear s1' s2
  go_enter Try.func12, Try.ntmps12
  go_upto_region 1 with fail
  obtain ⟨W0, hW0⟩ : ∃ W0, (w.alloc (.cells #[.int .i64 i, .int .i64 ro, .slice X N cx] 27)).alloc (.cells #[.int .i64 z0, .int .i64 z1] 42) = W0 := ⟨_, rfl⟩
  rw [hW0] at s4
  rw [hW0]
  clear hW0
  obtain ⟨q0, q1, q2⟩ := BxM.cells (MK.get s4 1 rfl)
  have hd20 : decide ((20 : Int) < N) = false := decide_eq_false (by omega)
  have hd70 : decide ((70 : Int) < N) = false := decide_eq_false (by omega)
  have hd300 : decide ((300 : Int) < l) = false := decide_eq_false (by omega)
  go_wp2
  clear q0 q1 q2 hd70 hd300 hd20
  have SF := Lib.hid s4
  clear s4
  go_loopw [7] (fun v wr => ∃ k : Nat, k ≤ N ∧ v = .int .i64 k ∧ Hid (Below W0.heap.size W0 wr)) (fun v _ => N - (intOf v).toNat)
  case atStart => exact ⟨0, by omega, rfl, Below.refl _ _⟩
  case round =>
    obtain ⟨k, hk, rfl, hbr⟩ := hrel
    have sK := MT.next SF.out hbr.out
    obtain ⟨q0, q1, q2⟩ := BxM.cells (MK.get sK 1 rfl)
    by_cases hlt : k < N
    · have hkn : (k : Int) < N := by omega
      obtain ⟨br, ofr, Br, cr, nr, row, rfl, _, hcr, _, _, _, _, hrl, hrk⟩ := (MK.get sK 3 rfl).at_ (k := k) (by rw [HN.out]; exact hlt)
      have hnr : nr ≤ 20 := by rw [← hrl.out]; exact HRW.out row (List.mem_of_getElem? hrk.out)
      have hd20 : decide ((20 : Int) < nr) = false := decide_eq_false (by omega)
      clear sK hrl hrk
      go_wp2
      go_roundw
      case rel => exact ⟨k + 1, by omega, by go_num, hbr⟩
      case measure => simp [intOf]; omega
    · have hkn : decide ((k : Int) < N) = false := decide_eq_false (by omega)
      clear SF hbr HRW HN
      have ZK : Hid (∀ (V : World) (L : List (World → Prop)), MT w V ((fun w => w.heap[K0 + 1]? = some (.cells #[.int .i64 z0, .int .i64 z1] 42)) :: L) → V.cell? ⟨K0 + 1, 0, none⟩ = some (.int .i64 z0) ∧ V.cell? ⟨K0 + 1, 1, none⟩ = some (.int .i64 z1)) := fun V L h => by
        have h1 := MK.get h 0 rfl
        refine ⟨?_, ?_⟩ <;> (rw [cell_of_row _ _ _ _ _ _ h1]; rfl)
      go_wp2_with fail
      refine (CK.out _ (MK.get sK 3 rfl)).mono ?_
      rintro e w1 ⟨rfl, hb⟩
      have t1 := MT.next sK hb
      clear hb sK q0 q1 q2 CK
      obtain ⟨q0, q1, q2⟩ := BxM.cells (MK.get t1 1 rfl)
      go_wp2_with fail
      refine (CT.out _ (MK.get t1 3 rfl)).mono ?_
      rintro e w2 ⟨B1, rfl, hb⟩
      have t2 := MT.next t1 hb
      clear hb t1 q0 q1 q2 CT
      obtain ⟨q0, q1, q2⟩ := BxM.cells (MK.get t2 1 rfl)
      go_wp2_with fail
      refine (CH.out _ (MK.get t2 3 rfl)).mono ?_
      rintro e w3 ⟨rfl, hb⟩
      have t3 := MT.next t2 hb
      clear hb t2 q0 q1 q2 CH
      obtain ⟨q0, q1, q2⟩ := BxM.cells (MK.get t3 1 rfl)
      go_wp2_with fail
      refine (CC.out _ (MK.get t3 2 rfl)).mono ?_
      rintro e w4 ⟨rfl, hb⟩
      have t4 := MT.next t3 hb
      clear hb t3 q0 q1 q2 CC
      obtain ⟨q0, q1, q2⟩ := BxM.cells (MK.get t4 1 rfl)
      go_wp2_with fail
      refine (CF.out _ (MK.get t4 3 rfl) (MK.get t4 2 rfl)).mono ?_
      rintro e w5 ⟨B2, rfl, hb⟩
      have t5 := MT.next t4 hb
      clear hb t4 q0 q1 q2 CF
      obtain ⟨q0, q1, q2⟩ := BxM.cells (MK.get t5 1 rfl)
      obtain ⟨y0, y1⟩ := ZK.out _ _ t5
      go_wp2_with fail
      refine (CS.out _ (MK.get t5 3 rfl)).mono ?_
      rintro e w6 ⟨B3, rfl, hb⟩
      have t6 := MT.next t5 hb
      clear hb t5 q0 q1 q2 y0 y1 CS
      obtain ⟨q0, q1, q2⟩ := BxM.cells (MK.get t6 1 rfl)
      obtain ⟨y0, y1⟩ := ZK.out _ _ t6
      go_wp2_with fail
      refine (CP.out _ (MK.get t6 3 rfl) (MK.get t6 2 rfl)).mono ?_
      rintro e w7 ⟨rfl, hb⟩
      have t7 := MT.next t6 hb
      clear hb t6 q0 q1 q2 y0 y1 CP
      go_wp2_with fail
      refine (slives_walk _).mono ?_
      rintro e w8 ⟨rfl, hb⟩
      have hfin := (MT.next t7 hb).2.1
      clear hb t7
      go_wp2_with fail
      go_ret
      exact ⟨rfl, hfin⟩

set_option maxRecDepth 100000 in
set_option maxHeartbeats 4000000 in
/-- The first number is no state; the word is valid. -/
theorem serr_Vc2 (i : Nat) (ro : Int) (X P : Option Addr) (cx d l N : Nat) (rs : List (List Ed)) (p : List Int) (z0 z1 : Int) (w : World) (hx : RdR w X rs) (hp : Rd w P p) (hN : rs.length = N) (hl : p.length = l)
    (h70 : N ≤ 70) (h300 : l ≤ 300) (hrw : ∀ row ∈ rs, row.length ≤ 20) (h65 : ¬ (20 < N ∧ N < 65)) (hz : Mc.chk ⟨i, ro, rs⟩ = 0) (hz0 : 0 ≤ z0) (hz1 : 0 ≤ z1) (hz2 : (N : Int) ≤ z0) (hc : M.check p i = 0) :
    Calls Try.prog 12 #[.agg #[.int .i64 i, .int .i64 ro, .slice X N cx], .slice P l d, .agg #[.int .i64 z0, .int .i64 z1]] w fun e w' => e = .returned (.bool true) ∧ Below w.heap.size w w' := by
  have hk6 : N ≤ 1000000 := by omega
  have hrl : ∀ row ∈ rs, row.length ≤ 1000000 := fun row hrow => by have := hrw row hrow; omega
  have HN := Lib.hid hN
  have HRW := Lib.hid hrw
  have CK : Hid (∀ w, RdR w X rs → Calls Try.prog 45 #[.agg #[.int .i64 i, .int .i64 ro, .slice X N cx]] w fun e w' => e = .returned (.int .i64 (Mc.chk ⟨i, ro, rs⟩)) ∧ Below w.heap.size w w') := fun w hr => by
    have h := rmcheck_any ⟨i, ro, rs⟩ X cx w hr (by simp only; omega)
    simp only [hN] at h
    exact h
  have v : Mc.Val ⟨i, ro, rs⟩ := Mc.val_of hz
  rw [hz] at CK
  obtain ⟨NT, hNT⟩ : ∃ n, (Mc.prs N).length = n := ⟨_, rfl⟩
  obtain ⟨H0, hH0⟩ : ∃ n, Mc.hgt ⟨i, ro, rs⟩ = n := ⟨_, rfl⟩
  have hC : M.check p i = 0 := hc
  have hsk : Mc.skE ⟨i, ro, rs⟩ [z0, z1] = 1 := Mc.skE_out (k := 0) (s := z0) hz rfl (by unfold Mc.inS; simp; omega)
  have CT : Hid (∀ w, RdR w X rs → Calls Try.prog 40 #[.agg #[.int .i64 i, .int .i64 ro, .slice X N cx]] w fun e w' => ∃ B, e = .returned (.tuple #[.slice B NT NT, .int .i64 0]) ∧ Below w.heap.size w w') := fun w hr => by
    refine (table_ok ⟨i, ro, rs⟩ i ro X N cx w v rfl rfl hN hr).mono ?_
    rintro e w' ⟨G, rfl, _, h⟩
    exact ⟨_, by rw [hNT], h⟩
  have CH : Hid (∀ w, RdR w X rs → Calls Try.prog 41 #[.agg #[.int .i64 i, .int .i64 ro, .slice X N cx]] w fun e w' => e = .returned (.tuple #[.int .i64 H0, .int .i64 0]) ∧ Below w.heap.size w w') := fun w hr => by
    have h := height_ok ⟨i, ro, rs⟩ i ro X N cx w v rfl rfl hN hr
    rw [hH0] at h
    exact h
  have CC : Hid (∀ w, Rd w P p → Calls Try.prog 46 #[.slice P l d, .int .i64 i] w fun e w' => e = .returned (.int .i64 0) ∧ Below w.heap.size w w') := fun w hp => by
    have h := rwcheck_any P d p i w hp
    rw [hl, hC] at h
    exact h
  have CF : Hid (∀ w, RdR w X rs → Rd w P p → Calls Try.prog 43 #[.agg #[.int .i64 i, .int .i64 ro, .slice X N cx], .slice P l d] w fun e w' => ∃ B, e = .returned (.tuple #[.slice B N N, .int .i64 0]) ∧ Below w.heap.size w w') := fun w hr hp => by
    refine (after_val ⟨i, ro, rs⟩ i ro X P N cx l d p w 0 v rfl rfl hN hl hr hp (by omega) hC).mono ?_
    rintro e w' ⟨h1, h2, h3⟩
    obtain ⟨B, h4, _⟩ := h2 rfl
    exact ⟨B, h4, h3⟩
  have CS : Hid (∀ w, RdR w X rs → Calls Try.prog 33 #[.agg #[.int .i64 i, .int .i64 ro, .slice X N cx], .int .i64 z0, .int .i64 z1] w fun e w' => ∃ B, e = .returned (.tuple #[.slice B 0 0, .bool false, .int .i64 1]) ∧ Below w.heap.size w w') := fun w hr => by
    refine (separate_err i ro rs X N cx z0 z1 w hr hN hk6 hrl 1 hsk (by decide)).mono ?_
    rintro e w' ⟨rfl, h⟩
    exact ⟨_, rfl, h⟩
  have CP : Hid (∀ w, RdR w X rs → Rd w P p → Calls Try.prog 38 #[.agg #[.int .i64 i, .int .i64 ro, .slice X N cx], .slice P l d, .int .i64 z0, .int .i64 z1] w fun e w' => e = .returned (.tuple #[.bool false, .int .i64 1]) ∧ Below w.heap.size w w') := fun w hr _hp => by
    exact separates_err i ro rs X P N cx l d z0 z1 w hr hN hk6 hrl 1 hsk (by decide)
  have hN20 : N ≤ 20 := by have := v.r1; simp only [hN] at this; omega
  have d0 : decide (z0 < 0) = false := decide_eq_false (by omega)
  have d1 : decide (z1 < 0) = false := decide_eq_false (by omega)
  have d2 : decide ((N : Int) ≤ z0) = true := decide_eq_true hz2
  have nn : ((N : Int) != N) = false := by simp
  clear hN hl hrw hrl hz hNT hH0 hC hc v hsk 
  have s1 : MT w w _ := MK.putR MT.start hx
  have s1' := MT.putK (P := fun w => Rd w P p) s1 hp (fun _ _ h hb => h.below hb)
  clear hx hp s1
  obtain ⟨K0, hK0⟩ : ∃ K0, w.heap.size = K0 := ⟨_, rfl⟩
  have s2 := MK.putB (g := w.heap.size) (MT.alloc s1' (.cells #[.int .i64 i, .int .i64 ro, .slice X N cx] 27)) (heap_alloc_new w _)
  have s4 := MT.putK (P := fun w => w.heap[K0 + 1]? = some (.cells #[.int .i64 z0, .int .i64 z1] 42)) (MT.alloc s2 (.cells #[.int .i64 z0, .int .i64 z1] 42))
    (by
      have h := heap_alloc_new (w.alloc (.cells #[.int .i64 i, .int .i64 ro, .slice X N cx] 27)) (.cells #[.int .i64 z0, .int .i64 z1] 42)
      rw [World.size_alloc, hK0] at h
      exact h) (fun _ _ h hb => (hb.block _ (heap_lt h)).trans h)
  rw [hK0] at s4
  clear s1' s2
  go_enter Try.func12, Try.ntmps12
  go_upto_region 1 with fail
  obtain ⟨W0, hW0⟩ : ∃ W0, (w.alloc (.cells #[.int .i64 i, .int .i64 ro, .slice X N cx] 27)).alloc (.cells #[.int .i64 z0, .int .i64 z1] 42) = W0 := ⟨_, rfl⟩
  rw [hW0] at s4
  rw [hW0]
  clear hW0
  obtain ⟨q0, q1, q2⟩ := BxM.cells (MK.get s4 1 rfl)
  have hd20 : decide ((20 : Int) < N) = false := decide_eq_false (by omega)
  have hd70 : decide ((70 : Int) < N) = false := decide_eq_false (by omega)
  have hd300 : decide ((300 : Int) < l) = false := decide_eq_false (by omega)
  go_wp2
  clear q0 q1 q2 hd70 hd300 hd20
  have SF := Lib.hid s4
  clear s4
  go_loopw [7] (fun v wr => ∃ k : Nat, k ≤ N ∧ v = .int .i64 k ∧ Hid (Below W0.heap.size W0 wr)) (fun v _ => N - (intOf v).toNat)
  case atStart => exact ⟨0, by omega, rfl, Below.refl _ _⟩
  case round =>
    obtain ⟨k, hk, rfl, hbr⟩ := hrel
    have sK := MT.next SF.out hbr.out
    obtain ⟨q0, q1, q2⟩ := BxM.cells (MK.get sK 1 rfl)
    by_cases hlt : k < N
    · have hkn : (k : Int) < N := by omega
      obtain ⟨br, ofr, Br, cr, nr, row, rfl, _, hcr, _, _, _, _, hrl, hrk⟩ := (MK.get sK 3 rfl).at_ (k := k) (by rw [HN.out]; exact hlt)
      have hnr : nr ≤ 20 := by rw [← hrl.out]; exact HRW.out row (List.mem_of_getElem? hrk.out)
      have hd20 : decide ((20 : Int) < nr) = false := decide_eq_false (by omega)
      clear sK hrl hrk
      go_wp2
      go_roundw
      case rel => exact ⟨k + 1, by omega, by go_num, hbr⟩
      case measure => simp [intOf]; omega
    · have hkn : decide ((k : Int) < N) = false := decide_eq_false (by omega)
      clear SF hbr HRW HN
      have ZK : Hid (∀ (V : World) (L : List (World → Prop)), MT w V ((fun w => w.heap[K0 + 1]? = some (.cells #[.int .i64 z0, .int .i64 z1] 42)) :: L) → V.cell? ⟨K0 + 1, 0, none⟩ = some (.int .i64 z0) ∧ V.cell? ⟨K0 + 1, 1, none⟩ = some (.int .i64 z1)) := fun V L h => by
        have h1 := MK.get h 0 rfl
        refine ⟨?_, ?_⟩ <;> (rw [cell_of_row _ _ _ _ _ _ h1]; rfl)
      go_wp2_with fail
      refine (CK.out _ (MK.get sK 3 rfl)).mono ?_
      rintro e w1 ⟨rfl, hb⟩
      have t1 := MT.next sK hb
      clear hb sK q0 q1 q2 CK
      obtain ⟨q0, q1, q2⟩ := BxM.cells (MK.get t1 1 rfl)
      go_wp2_with fail
      refine (CT.out _ (MK.get t1 3 rfl)).mono ?_
      rintro e w2 ⟨B1, rfl, hb⟩
      have t2 := MT.next t1 hb
      clear hb t1 q0 q1 q2 CT
      obtain ⟨q0, q1, q2⟩ := BxM.cells (MK.get t2 1 rfl)
      go_wp2_with fail
      refine (CH.out _ (MK.get t2 3 rfl)).mono ?_
      rintro e w3 ⟨rfl, hb⟩
      have t3 := MT.next t2 hb
      clear hb t2 q0 q1 q2 CH
      obtain ⟨q0, q1, q2⟩ := BxM.cells (MK.get t3 1 rfl)
      go_wp2_with fail
      refine (CC.out _ (MK.get t3 2 rfl)).mono ?_
      rintro e w4 ⟨rfl, hb⟩
      have t4 := MT.next t3 hb
      clear hb t3 q0 q1 q2 CC
      obtain ⟨q0, q1, q2⟩ := BxM.cells (MK.get t4 1 rfl)
      go_wp2_with fail
      refine (CF.out _ (MK.get t4 3 rfl) (MK.get t4 2 rfl)).mono ?_
      rintro e w5 ⟨B2, rfl, hb⟩
      have t5 := MT.next t4 hb
      clear hb t4 q0 q1 q2 CF
      obtain ⟨q0, q1, q2⟩ := BxM.cells (MK.get t5 1 rfl)
      obtain ⟨y0, y1⟩ := ZK.out _ _ t5
      go_wp2_with fail
      refine (CS.out _ (MK.get t5 3 rfl)).mono ?_
      rintro e w6 ⟨B3, rfl, hb⟩
      have t6 := MT.next t5 hb
      clear hb t5 q0 q1 q2 y0 y1 CS
      obtain ⟨q0, q1, q2⟩ := BxM.cells (MK.get t6 1 rfl)
      obtain ⟨y0, y1⟩ := ZK.out _ _ t6
      go_wp2_with fail
      refine (CP.out _ (MK.get t6 3 rfl) (MK.get t6 2 rfl)).mono ?_
      rintro e w7 ⟨rfl, hb⟩
      have t7 := MT.next t6 hb
      clear hb t6 q0 q1 q2 y0 y1 CP
      go_wp2_with fail
      refine (slives_walk _).mono ?_
      rintro e w8 ⟨rfl, hb⟩
      have hfin := (MT.next t7 hb).2.1
      clear hb t7
      go_wp2_with fail
      go_ret
      exact ⟨rfl, hfin⟩

set_option maxRecDepth 100000 in
set_option maxHeartbeats 4000000 in
/-- The second number is no state; the word is not valid. -/
theorem serr_Vd1 (i : Nat) (ro : Int) (X P : Option Addr) (cx d l N : Nat) (rs : List (List Ed)) (p : List Int) (z0 z1 : Int) (w : World) (hx : RdR w X rs) (hp : Rd w P p) (hN : rs.length = N) (hl : p.length = l)
    (h70 : N ≤ 70) (h300 : l ≤ 300) (hrw : ∀ row ∈ rs, row.length ≤ 20) (h65 : ¬ (20 < N ∧ N < 65)) (hz : Mc.chk ⟨i, ro, rs⟩ = 0) (hz0 : 0 ≤ z0) (hz1 : 0 ≤ z1) (hz2 : z0 < (N : Int)) (hz3 : (N : Int) ≤ z1) (hc : M.check p i ≠ 0) :
    Calls Try.prog 12 #[.agg #[.int .i64 i, .int .i64 ro, .slice X N cx], .slice P l d, .agg #[.int .i64 z0, .int .i64 z1]] w fun e w' => e = .returned (.bool true) ∧ Below w.heap.size w w' := by
  have hk6 : N ≤ 1000000 := by omega
  have hrl : ∀ row ∈ rs, row.length ≤ 1000000 := fun row hrow => by have := hrw row hrow; omega
  have HN := Lib.hid hN
  have HRW := Lib.hid hrw
  have CK : Hid (∀ w, RdR w X rs → Calls Try.prog 45 #[.agg #[.int .i64 i, .int .i64 ro, .slice X N cx]] w fun e w' => e = .returned (.int .i64 (Mc.chk ⟨i, ro, rs⟩)) ∧ Below w.heap.size w w') := fun w hr => by
    have h := rmcheck_any ⟨i, ro, rs⟩ X cx w hr (by simp only; omega)
    simp only [hN] at h
    exact h
  have v : Mc.Val ⟨i, ro, rs⟩ := Mc.val_of hz
  rw [hz] at CK
  obtain ⟨NT, hNT⟩ : ∃ n, (Mc.prs N).length = n := ⟨_, rfl⟩
  obtain ⟨H0, hH0⟩ : ∃ n, Mc.hgt ⟨i, ro, rs⟩ = n := ⟨_, rfl⟩
  obtain ⟨C, hC⟩ : ∃ C, M.check p i = C := ⟨_, rfl⟩
  rw [hC] at hc
  have hsk : Mc.skE ⟨i, ro, rs⟩ [z0, z1] = 1 := Mc.skE_out (k := 1) (s := z1) hz rfl (by unfold Mc.inS; simp; omega)
  have CT : Hid (∀ w, RdR w X rs → Calls Try.prog 40 #[.agg #[.int .i64 i, .int .i64 ro, .slice X N cx]] w fun e w' => ∃ B, e = .returned (.tuple #[.slice B NT NT, .int .i64 0]) ∧ Below w.heap.size w w') := fun w hr => by
    refine (table_ok ⟨i, ro, rs⟩ i ro X N cx w v rfl rfl hN hr).mono ?_
    rintro e w' ⟨G, rfl, _, h⟩
    exact ⟨_, by rw [hNT], h⟩
  have CH : Hid (∀ w, RdR w X rs → Calls Try.prog 41 #[.agg #[.int .i64 i, .int .i64 ro, .slice X N cx]] w fun e w' => e = .returned (.tuple #[.int .i64 H0, .int .i64 0]) ∧ Below w.heap.size w w') := fun w hr => by
    have h := height_ok ⟨i, ro, rs⟩ i ro X N cx w v rfl rfl hN hr
    rw [hH0] at h
    exact h
  have CC : Hid (∀ w, Rd w P p → Calls Try.prog 46 #[.slice P l d, .int .i64 i] w fun e w' => e = .returned (.int .i64 C) ∧ Below w.heap.size w w') := fun w hp => by
    have h := rwcheck_any P d p i w hp
    rw [hl, hC] at h
    exact h
  have CF : Hid (∀ w, RdR w X rs → Rd w P p → Calls Try.prog 43 #[.agg #[.int .i64 i, .int .i64 ro, .slice X N cx], .slice P l d] w fun e w' => ∃ B, e = .returned (.tuple #[.slice B 0 0, .int .i64 C]) ∧ Below w.heap.size w w') := fun w hr hp => by
    refine (after_val ⟨i, ro, rs⟩ i ro X P N cx l d p w C v rfl rfl hN hl hr hp (by omega) hC).mono ?_
    rintro e w' ⟨h1, h2, h3⟩
    exact ⟨none, h1 hc, h3⟩
  have CS : Hid (∀ w, RdR w X rs → Calls Try.prog 33 #[.agg #[.int .i64 i, .int .i64 ro, .slice X N cx], .int .i64 z0, .int .i64 z1] w fun e w' => ∃ B, e = .returned (.tuple #[.slice B 0 0, .bool false, .int .i64 1]) ∧ Below w.heap.size w w') := fun w hr => by
    refine (separate_err i ro rs X N cx z0 z1 w hr hN hk6 hrl 1 hsk (by decide)).mono ?_
    rintro e w' ⟨rfl, h⟩
    exact ⟨_, rfl, h⟩
  have CP : Hid (∀ w, RdR w X rs → Rd w P p → Calls Try.prog 38 #[.agg #[.int .i64 i, .int .i64 ro, .slice X N cx], .slice P l d, .int .i64 z0, .int .i64 z1] w fun e w' => e = .returned (.tuple #[.bool false, .int .i64 1]) ∧ Below w.heap.size w w') := fun w hr _hp => by
    exact separates_err i ro rs X P N cx l d z0 z1 w hr hN hk6 hrl 1 hsk (by decide)
  have hN20 : N ≤ 20 := by have := v.r1; simp only [hN] at this; omega
  have d0 : decide (z0 < 0) = false := decide_eq_false (by omega)
  have d1 : decide (z1 < 0) = false := decide_eq_false (by omega)
  have d2 : decide ((N : Int) ≤ z0) = false := decide_eq_false (by omega)
  have d3 : decide ((N : Int) ≤ z1) = true := decide_eq_true hz3
  have c1 : (C != 0) = true := by simp [hc]
  have c2 : (C == 0) = false := by simp [hc]
  have c3 : (C == C) = true := by simp
  have nn : ((N : Int) != N) = false := by simp
  clear hN hl hrw hrl hz hNT hH0 hC hc v hsk 
  have s1 : MT w w _ := MK.putR MT.start hx
  have s1' := MT.putK (P := fun w => Rd w P p) s1 hp (fun _ _ h hb => h.below hb)
  clear hx hp s1
  obtain ⟨K0, hK0⟩ : ∃ K0, w.heap.size = K0 := ⟨_, rfl⟩
  have s2 := MK.putB (g := w.heap.size) (MT.alloc s1' (.cells #[.int .i64 i, .int .i64 ro, .slice X N cx] 27)) (heap_alloc_new w _)
  have s4 := MT.putK (P := fun w => w.heap[K0 + 1]? = some (.cells #[.int .i64 z0, .int .i64 z1] 42)) (MT.alloc s2 (.cells #[.int .i64 z0, .int .i64 z1] 42))
    (by
      have h := heap_alloc_new (w.alloc (.cells #[.int .i64 i, .int .i64 ro, .slice X N cx] 27)) (.cells #[.int .i64 z0, .int .i64 z1] 42)
      rw [World.size_alloc, hK0] at h
      exact h) (fun _ _ h hb => (hb.block _ (heap_lt h)).trans h)
  rw [hK0] at s4
  clear s1' s2
  go_enter Try.func12, Try.ntmps12
  go_upto_region 1 with fail
  obtain ⟨W0, hW0⟩ : ∃ W0, (w.alloc (.cells #[.int .i64 i, .int .i64 ro, .slice X N cx] 27)).alloc (.cells #[.int .i64 z0, .int .i64 z1] 42) = W0 := ⟨_, rfl⟩
  rw [hW0] at s4
  rw [hW0]
  clear hW0
  obtain ⟨q0, q1, q2⟩ := BxM.cells (MK.get s4 1 rfl)
  have hd20 : decide ((20 : Int) < N) = false := decide_eq_false (by omega)
  have hd70 : decide ((70 : Int) < N) = false := decide_eq_false (by omega)
  have hd300 : decide ((300 : Int) < l) = false := decide_eq_false (by omega)
  go_wp2
  clear q0 q1 q2 hd70 hd300 hd20
  have SF := Lib.hid s4
  clear s4
  go_loopw [7] (fun v wr => ∃ k : Nat, k ≤ N ∧ v = .int .i64 k ∧ Hid (Below W0.heap.size W0 wr)) (fun v _ => N - (intOf v).toNat)
  case atStart => exact ⟨0, by omega, rfl, Below.refl _ _⟩
  case round =>
    obtain ⟨k, hk, rfl, hbr⟩ := hrel
    have sK := MT.next SF.out hbr.out
    obtain ⟨q0, q1, q2⟩ := BxM.cells (MK.get sK 1 rfl)
    by_cases hlt : k < N
    · have hkn : (k : Int) < N := by omega
      obtain ⟨br, ofr, Br, cr, nr, row, rfl, _, hcr, _, _, _, _, hrl, hrk⟩ := (MK.get sK 3 rfl).at_ (k := k) (by rw [HN.out]; exact hlt)
      have hnr : nr ≤ 20 := by rw [← hrl.out]; exact HRW.out row (List.mem_of_getElem? hrk.out)
      have hd20 : decide ((20 : Int) < nr) = false := decide_eq_false (by omega)
      clear sK hrl hrk
      go_wp2
      go_roundw
      case rel => exact ⟨k + 1, by omega, by go_num, hbr⟩
      case measure => simp [intOf]; omega
    · have hkn : decide ((k : Int) < N) = false := decide_eq_false (by omega)
      clear SF hbr HRW HN
      have ZK : Hid (∀ (V : World) (L : List (World → Prop)), MT w V ((fun w => w.heap[K0 + 1]? = some (.cells #[.int .i64 z0, .int .i64 z1] 42)) :: L) → V.cell? ⟨K0 + 1, 0, none⟩ = some (.int .i64 z0) ∧ V.cell? ⟨K0 + 1, 1, none⟩ = some (.int .i64 z1)) := fun V L h => by
        have h1 := MK.get h 0 rfl
        refine ⟨?_, ?_⟩ <;> (rw [cell_of_row _ _ _ _ _ _ h1]; rfl)
      go_wp2_with fail
      refine (CK.out _ (MK.get sK 3 rfl)).mono ?_
      rintro e w1 ⟨rfl, hb⟩
      have t1 := MT.next sK hb
      clear hb sK q0 q1 q2 CK
      obtain ⟨q0, q1, q2⟩ := BxM.cells (MK.get t1 1 rfl)
      go_wp2_with fail
      refine (CT.out _ (MK.get t1 3 rfl)).mono ?_
      rintro e w2 ⟨B1, rfl, hb⟩
      have t2 := MT.next t1 hb
      clear hb t1 q0 q1 q2 CT
      obtain ⟨q0, q1, q2⟩ := BxM.cells (MK.get t2 1 rfl)
      go_wp2_with fail
      refine (CH.out _ (MK.get t2 3 rfl)).mono ?_
      rintro e w3 ⟨rfl, hb⟩
      have t3 := MT.next t2 hb
      clear hb t2 q0 q1 q2 CH
      obtain ⟨q0, q1, q2⟩ := BxM.cells (MK.get t3 1 rfl)
      go_wp2_with fail
      refine (CC.out _ (MK.get t3 2 rfl)).mono ?_
      rintro e w4 ⟨rfl, hb⟩
      have t4 := MT.next t3 hb
      clear hb t3 q0 q1 q2 CC
      obtain ⟨q0, q1, q2⟩ := BxM.cells (MK.get t4 1 rfl)
      go_wp2_with fail
      refine (CF.out _ (MK.get t4 3 rfl) (MK.get t4 2 rfl)).mono ?_
      rintro e w5 ⟨B2, rfl, hb⟩
      have t5 := MT.next t4 hb
      clear hb t4 q0 q1 q2 CF
      obtain ⟨q0, q1, q2⟩ := BxM.cells (MK.get t5 1 rfl)
      obtain ⟨y0, y1⟩ := ZK.out _ _ t5
      go_wp2_with fail
      refine (CS.out _ (MK.get t5 3 rfl)).mono ?_
      rintro e w6 ⟨B3, rfl, hb⟩
      have t6 := MT.next t5 hb
      clear hb t5 q0 q1 q2 y0 y1 CS
      obtain ⟨q0, q1, q2⟩ := BxM.cells (MK.get t6 1 rfl)
      obtain ⟨y0, y1⟩ := ZK.out _ _ t6
      go_wp2_with fail
      refine (CP.out _ (MK.get t6 3 rfl) (MK.get t6 2 rfl)).mono ?_
      rintro e w7 ⟨rfl, hb⟩
      have t7 := MT.next t6 hb
      clear hb t6 q0 q1 q2 y0 y1 CP
      go_wp2_with fail
      refine (slives_walk _).mono ?_
      rintro e w8 ⟨rfl, hb⟩
      have hfin := (MT.next t7 hb).2.1
      clear hb t7
      go_wp2_with fail
      go_ret
      exact ⟨rfl, hfin⟩

set_option maxRecDepth 100000 in
set_option maxHeartbeats 4000000 in
/-- The second number is no state; the word is valid. -/
theorem serr_Vd2 (i : Nat) (ro : Int) (X P : Option Addr) (cx d l N : Nat) (rs : List (List Ed)) (p : List Int) (z0 z1 : Int) (w : World) (hx : RdR w X rs) (hp : Rd w P p) (hN : rs.length = N) (hl : p.length = l)
    (h70 : N ≤ 70) (h300 : l ≤ 300) (hrw : ∀ row ∈ rs, row.length ≤ 20) (h65 : ¬ (20 < N ∧ N < 65)) (hz : Mc.chk ⟨i, ro, rs⟩ = 0) (hz0 : 0 ≤ z0) (hz1 : 0 ≤ z1) (hz2 : z0 < (N : Int)) (hz3 : (N : Int) ≤ z1) (hc : M.check p i = 0) :
    Calls Try.prog 12 #[.agg #[.int .i64 i, .int .i64 ro, .slice X N cx], .slice P l d, .agg #[.int .i64 z0, .int .i64 z1]] w fun e w' => e = .returned (.bool true) ∧ Below w.heap.size w w' := by
  have hk6 : N ≤ 1000000 := by omega
  have hrl : ∀ row ∈ rs, row.length ≤ 1000000 := fun row hrow => by have := hrw row hrow; omega
  have HN := Lib.hid hN
  have HRW := Lib.hid hrw
  have CK : Hid (∀ w, RdR w X rs → Calls Try.prog 45 #[.agg #[.int .i64 i, .int .i64 ro, .slice X N cx]] w fun e w' => e = .returned (.int .i64 (Mc.chk ⟨i, ro, rs⟩)) ∧ Below w.heap.size w w') := fun w hr => by
    have h := rmcheck_any ⟨i, ro, rs⟩ X cx w hr (by simp only; omega)
    simp only [hN] at h
    exact h
  have v : Mc.Val ⟨i, ro, rs⟩ := Mc.val_of hz
  rw [hz] at CK
  obtain ⟨NT, hNT⟩ : ∃ n, (Mc.prs N).length = n := ⟨_, rfl⟩
  obtain ⟨H0, hH0⟩ : ∃ n, Mc.hgt ⟨i, ro, rs⟩ = n := ⟨_, rfl⟩
  have hC : M.check p i = 0 := hc
  have hsk : Mc.skE ⟨i, ro, rs⟩ [z0, z1] = 1 := Mc.skE_out (k := 1) (s := z1) hz rfl (by unfold Mc.inS; simp; omega)
  have CT : Hid (∀ w, RdR w X rs → Calls Try.prog 40 #[.agg #[.int .i64 i, .int .i64 ro, .slice X N cx]] w fun e w' => ∃ B, e = .returned (.tuple #[.slice B NT NT, .int .i64 0]) ∧ Below w.heap.size w w') := fun w hr => by
    refine (table_ok ⟨i, ro, rs⟩ i ro X N cx w v rfl rfl hN hr).mono ?_
    rintro e w' ⟨G, rfl, _, h⟩
    exact ⟨_, by rw [hNT], h⟩
  have CH : Hid (∀ w, RdR w X rs → Calls Try.prog 41 #[.agg #[.int .i64 i, .int .i64 ro, .slice X N cx]] w fun e w' => e = .returned (.tuple #[.int .i64 H0, .int .i64 0]) ∧ Below w.heap.size w w') := fun w hr => by
    have h := height_ok ⟨i, ro, rs⟩ i ro X N cx w v rfl rfl hN hr
    rw [hH0] at h
    exact h
  have CC : Hid (∀ w, Rd w P p → Calls Try.prog 46 #[.slice P l d, .int .i64 i] w fun e w' => e = .returned (.int .i64 0) ∧ Below w.heap.size w w') := fun w hp => by
    have h := rwcheck_any P d p i w hp
    rw [hl, hC] at h
    exact h
  have CF : Hid (∀ w, RdR w X rs → Rd w P p → Calls Try.prog 43 #[.agg #[.int .i64 i, .int .i64 ro, .slice X N cx], .slice P l d] w fun e w' => ∃ B, e = .returned (.tuple #[.slice B N N, .int .i64 0]) ∧ Below w.heap.size w w') := fun w hr hp => by
    refine (after_val ⟨i, ro, rs⟩ i ro X P N cx l d p w 0 v rfl rfl hN hl hr hp (by omega) hC).mono ?_
    rintro e w' ⟨h1, h2, h3⟩
    obtain ⟨B, h4, _⟩ := h2 rfl
    exact ⟨B, h4, h3⟩
  have CS : Hid (∀ w, RdR w X rs → Calls Try.prog 33 #[.agg #[.int .i64 i, .int .i64 ro, .slice X N cx], .int .i64 z0, .int .i64 z1] w fun e w' => ∃ B, e = .returned (.tuple #[.slice B 0 0, .bool false, .int .i64 1]) ∧ Below w.heap.size w w') := fun w hr => by
    refine (separate_err i ro rs X N cx z0 z1 w hr hN hk6 hrl 1 hsk (by decide)).mono ?_
    rintro e w' ⟨rfl, h⟩
    exact ⟨_, rfl, h⟩
  have CP : Hid (∀ w, RdR w X rs → Rd w P p → Calls Try.prog 38 #[.agg #[.int .i64 i, .int .i64 ro, .slice X N cx], .slice P l d, .int .i64 z0, .int .i64 z1] w fun e w' => e = .returned (.tuple #[.bool false, .int .i64 1]) ∧ Below w.heap.size w w') := fun w hr _hp => by
    exact separates_err i ro rs X P N cx l d z0 z1 w hr hN hk6 hrl 1 hsk (by decide)
  have hN20 : N ≤ 20 := by have := v.r1; simp only [hN] at this; omega
  have d0 : decide (z0 < 0) = false := decide_eq_false (by omega)
  have d1 : decide (z1 < 0) = false := decide_eq_false (by omega)
  have d2 : decide ((N : Int) ≤ z0) = false := decide_eq_false (by omega)
  have d3 : decide ((N : Int) ≤ z1) = true := decide_eq_true hz3
  have nn : ((N : Int) != N) = false := by simp
  clear hN hl hrw hrl hz hNT hH0 hC hc v hsk 
  have s1 : MT w w _ := MK.putR MT.start hx
  have s1' := MT.putK (P := fun w => Rd w P p) s1 hp (fun _ _ h hb => h.below hb)
  clear hx hp s1
  obtain ⟨K0, hK0⟩ : ∃ K0, w.heap.size = K0 := ⟨_, rfl⟩
  have s2 := MK.putB (g := w.heap.size) (MT.alloc s1' (.cells #[.int .i64 i, .int .i64 ro, .slice X N cx] 27)) (heap_alloc_new w _)
  have s4 := MT.putK (P := fun w => w.heap[K0 + 1]? = some (.cells #[.int .i64 z0, .int .i64 z1] 42)) (MT.alloc s2 (.cells #[.int .i64 z0, .int .i64 z1] 42))
    (by
      have h := heap_alloc_new (w.alloc (.cells #[.int .i64 i, .int .i64 ro, .slice X N cx] 27)) (.cells #[.int .i64 z0, .int .i64 z1] 42)
      rw [World.size_alloc, hK0] at h
      exact h) (fun _ _ h hb => (hb.block _ (heap_lt h)).trans h)
  rw [hK0] at s4
  clear s1' s2
  go_enter Try.func12, Try.ntmps12
  go_upto_region 1 with fail
  obtain ⟨W0, hW0⟩ : ∃ W0, (w.alloc (.cells #[.int .i64 i, .int .i64 ro, .slice X N cx] 27)).alloc (.cells #[.int .i64 z0, .int .i64 z1] 42) = W0 := ⟨_, rfl⟩
  rw [hW0] at s4
  rw [hW0]
  clear hW0
  obtain ⟨q0, q1, q2⟩ := BxM.cells (MK.get s4 1 rfl)
  have hd20 : decide ((20 : Int) < N) = false := decide_eq_false (by omega)
  have hd70 : decide ((70 : Int) < N) = false := decide_eq_false (by omega)
  have hd300 : decide ((300 : Int) < l) = false := decide_eq_false (by omega)
  go_wp2
  clear q0 q1 q2 hd70 hd300 hd20
  have SF := Lib.hid s4
  clear s4
  go_loopw [7] (fun v wr => ∃ k : Nat, k ≤ N ∧ v = .int .i64 k ∧ Hid (Below W0.heap.size W0 wr)) (fun v _ => N - (intOf v).toNat)
  case atStart => exact ⟨0, by omega, rfl, Below.refl _ _⟩
  case round =>
    obtain ⟨k, hk, rfl, hbr⟩ := hrel
    have sK := MT.next SF.out hbr.out
    obtain ⟨q0, q1, q2⟩ := BxM.cells (MK.get sK 1 rfl)
    by_cases hlt : k < N
    · have hkn : (k : Int) < N := by omega
      obtain ⟨br, ofr, Br, cr, nr, row, rfl, _, hcr, _, _, _, _, hrl, hrk⟩ := (MK.get sK 3 rfl).at_ (k := k) (by rw [HN.out]; exact hlt)
      have hnr : nr ≤ 20 := by rw [← hrl.out]; exact HRW.out row (List.mem_of_getElem? hrk.out)
      have hd20 : decide ((20 : Int) < nr) = false := decide_eq_false (by omega)
      clear sK hrl hrk
      go_wp2
      go_roundw
      case rel => exact ⟨k + 1, by omega, by go_num, hbr⟩
      case measure => simp [intOf]; omega
    · have hkn : decide ((k : Int) < N) = false := decide_eq_false (by omega)
      clear SF hbr HRW HN
      have ZK : Hid (∀ (V : World) (L : List (World → Prop)), MT w V ((fun w => w.heap[K0 + 1]? = some (.cells #[.int .i64 z0, .int .i64 z1] 42)) :: L) → V.cell? ⟨K0 + 1, 0, none⟩ = some (.int .i64 z0) ∧ V.cell? ⟨K0 + 1, 1, none⟩ = some (.int .i64 z1)) := fun V L h => by
        have h1 := MK.get h 0 rfl
        refine ⟨?_, ?_⟩ <;> (rw [cell_of_row _ _ _ _ _ _ h1]; rfl)
      go_wp2_with fail
      refine (CK.out _ (MK.get sK 3 rfl)).mono ?_
      rintro e w1 ⟨rfl, hb⟩
      have t1 := MT.next sK hb
      clear hb sK q0 q1 q2 CK
      obtain ⟨q0, q1, q2⟩ := BxM.cells (MK.get t1 1 rfl)
      go_wp2_with fail
      refine (CT.out _ (MK.get t1 3 rfl)).mono ?_
      rintro e w2 ⟨B1, rfl, hb⟩
      have t2 := MT.next t1 hb
      clear hb t1 q0 q1 q2 CT
      obtain ⟨q0, q1, q2⟩ := BxM.cells (MK.get t2 1 rfl)
      go_wp2_with fail
      refine (CH.out _ (MK.get t2 3 rfl)).mono ?_
      rintro e w3 ⟨rfl, hb⟩
      have t3 := MT.next t2 hb
      clear hb t2 q0 q1 q2 CH
      obtain ⟨q0, q1, q2⟩ := BxM.cells (MK.get t3 1 rfl)
      go_wp2_with fail
      refine (CC.out _ (MK.get t3 2 rfl)).mono ?_
      rintro e w4 ⟨rfl, hb⟩
      have t4 := MT.next t3 hb
      clear hb t3 q0 q1 q2 CC
      obtain ⟨q0, q1, q2⟩ := BxM.cells (MK.get t4 1 rfl)
      go_wp2_with fail
      refine (CF.out _ (MK.get t4 3 rfl) (MK.get t4 2 rfl)).mono ?_
      rintro e w5 ⟨B2, rfl, hb⟩
      have t5 := MT.next t4 hb
      clear hb t4 q0 q1 q2 CF
      obtain ⟨q0, q1, q2⟩ := BxM.cells (MK.get t5 1 rfl)
      obtain ⟨y0, y1⟩ := ZK.out _ _ t5
      go_wp2_with fail
      refine (CS.out _ (MK.get t5 3 rfl)).mono ?_
      rintro e w6 ⟨B3, rfl, hb⟩
      have t6 := MT.next t5 hb
      clear hb t5 q0 q1 q2 y0 y1 CS
      obtain ⟨q0, q1, q2⟩ := BxM.cells (MK.get t6 1 rfl)
      obtain ⟨y0, y1⟩ := ZK.out _ _ t6
      go_wp2_with fail
      refine (CP.out _ (MK.get t6 3 rfl) (MK.get t6 2 rfl)).mono ?_
      rintro e w7 ⟨rfl, hb⟩
      have t7 := MT.next t6 hb
      clear hb t6 q0 q1 q2 y0 y1 CP
      go_wp2_with fail
      refine (slives_walk _).mono ?_
      rintro e w8 ⟨rfl, hb⟩
      have hfin := (MT.next t7 hb).2.1
      clear hb t7
      go_wp2_with fail
      go_ret
      exact ⟨rfl, hfin⟩

set_option maxRecDepth 100000 in
set_option maxHeartbeats 4000000 in
/-- Both numbers are states; the word is not valid. -/
theorem serr_Ve1 (i : Nat) (ro : Int) (X P : Option Addr) (cx d l N : Nat) (rs : List (List Ed)) (p : List Int) (s t : Nat) (w : World) (hx : RdR w X rs) (hp : Rd w P p) (hN : rs.length = N) (hl : p.length = l)
    (h70 : N ≤ 70) (h300 : l ≤ 300) (hrw : ∀ row ∈ rs, row.length ≤ 20) (h65 : ¬ (20 < N ∧ N < 65)) (hz : Mc.chk ⟨i, ro, rs⟩ = 0) (hs : s < N) (ht : t < N) (hc : M.check p i ≠ 0) :
    Calls Try.prog 12 #[.agg #[.int .i64 i, .int .i64 ro, .slice X N cx], .slice P l d, .agg #[.int .i64 s, .int .i64 t]] w fun e w' => e = .returned (.bool true) ∧ Below w.heap.size w w' := by
  have hk6 : N ≤ 1000000 := by omega
  have hrl : ∀ row ∈ rs, row.length ≤ 1000000 := fun row hrow => by have := hrw row hrow; omega
  have HN := Lib.hid hN
  have HRW := Lib.hid hrw
  have CK : Hid (∀ w, RdR w X rs → Calls Try.prog 45 #[.agg #[.int .i64 i, .int .i64 ro, .slice X N cx]] w fun e w' => e = .returned (.int .i64 (Mc.chk ⟨i, ro, rs⟩)) ∧ Below w.heap.size w w') := fun w hr => by
    have h := rmcheck_any ⟨i, ro, rs⟩ X cx w hr (by simp only; omega)
    simp only [hN] at h
    exact h
  have v : Mc.Val ⟨i, ro, rs⟩ := Mc.val_of hz
  rw [hz] at CK
  obtain ⟨NT, hNT⟩ : ∃ n, (Mc.prs N).length = n := ⟨_, rfl⟩
  obtain ⟨H0, hH0⟩ : ∃ n, Mc.hgt ⟨i, ro, rs⟩ = n := ⟨_, rfl⟩
  obtain ⟨C, hC⟩ : ∃ C, M.check p i = C := ⟨_, rfl⟩
  rw [hC] at hc
  obtain ⟨L, hL⟩ : ∃ L, Mc.sl ⟨i, ro, rs⟩ s t = L := ⟨_, rfl⟩
  obtain ⟨bs, hbs⟩ : ∃ b, decide (0 < L) = b := ⟨_, rfl⟩
  obtain ⟨bb, hbb⟩ : ∃ b, M.same (Mc.run ⟨i, ro, rs⟩ s p) (Mc.run ⟨i, ro, rs⟩ t p) = b := ⟨_, rfl⟩
  have CT : Hid (∀ w, RdR w X rs → Calls Try.prog 40 #[.agg #[.int .i64 i, .int .i64 ro, .slice X N cx]] w fun e w' => ∃ B, e = .returned (.tuple #[.slice B NT NT, .int .i64 0]) ∧ Below w.heap.size w w') := fun w hr => by
    refine (table_ok ⟨i, ro, rs⟩ i ro X N cx w v rfl rfl hN hr).mono ?_
    rintro e w' ⟨G, rfl, _, h⟩
    exact ⟨_, by rw [hNT], h⟩
  have CH : Hid (∀ w, RdR w X rs → Calls Try.prog 41 #[.agg #[.int .i64 i, .int .i64 ro, .slice X N cx]] w fun e w' => e = .returned (.tuple #[.int .i64 H0, .int .i64 0]) ∧ Below w.heap.size w w') := fun w hr => by
    have h := height_ok ⟨i, ro, rs⟩ i ro X N cx w v rfl rfl hN hr
    rw [hH0] at h
    exact h
  have CC : Hid (∀ w, Rd w P p → Calls Try.prog 46 #[.slice P l d, .int .i64 i] w fun e w' => e = .returned (.int .i64 C) ∧ Below w.heap.size w w') := fun w hp => by
    have h := rwcheck_any P d p i w hp
    rw [hl, hC] at h
    exact h
  have CF : Hid (∀ w, RdR w X rs → Rd w P p → Calls Try.prog 43 #[.agg #[.int .i64 i, .int .i64 ro, .slice X N cx], .slice P l d] w fun e w' => ∃ B, e = .returned (.tuple #[.slice B 0 0, .int .i64 C]) ∧ Below w.heap.size w w') := fun w hr hp => by
    refine (after_val ⟨i, ro, rs⟩ i ro X P N cx l d p w C v rfl rfl hN hl hr hp (by omega) hC).mono ?_
    rintro e w' ⟨h1, h2, h3⟩
    exact ⟨none, h1 hc, h3⟩
  have CS : Hid (∀ w, RdR w X rs → Calls Try.prog 33 #[.agg #[.int .i64 i, .int .i64 ro, .slice X N cx], .int .i64 s, .int .i64 t] w fun e w' => ∃ B, e = .returned (.tuple #[.slice B L L, .bool bs, .int .i64 0]) ∧ Below w.heap.size w w') := fun w hr => by
    refine (separate_ok ⟨i, ro, rs⟩ i ro X N cx w s t L v rfl rfl hN hr hs ht hL).mono ?_
    rintro e w' ⟨B, rfl, _, h⟩
    exact ⟨_, by rw [hbs], h⟩
  have CP : Hid (∀ w, RdR w X rs → Rd w P p → Calls Try.prog 38 #[.agg #[.int .i64 i, .int .i64 ro, .slice X N cx], .slice P l d, .int .i64 s, .int .i64 t] w fun e w' => e = .returned (.tuple #[.bool false, .int .i64 C]) ∧ Below w.heap.size w w') := fun w hr hp => by
    exact separates_bad ⟨i, ro, rs⟩ i ro X P N cx l d p s t w C v rfl rfl hN hl hr hp hs ht (by omega) hC hc
  have hN20 : N ≤ 20 := by have := v.r1; simp only [hN] at this; omega
  have d2 : decide ((N : Int) ≤ s) = false := decide_eq_false (by omega)
  have d3 : decide ((N : Int) ≤ t) = false := decide_eq_false (by omega)
  have c1 : (C != 0) = true := by simp [hc]
  have c2 : (C == 0) = false := by simp [hc]
  have c3 : (C == C) = true := by simp
  have nn : ((N : Int) != N) = false := by simp
  clear hN hl hrw hrl hz hNT hH0 hC hc v hL hbs hbb 
  have s1 : MT w w _ := MK.putR MT.start hx
  have s1' := MT.putK (P := fun w => Rd w P p) s1 hp (fun _ _ h hb => h.below hb)
  clear hx hp s1
  obtain ⟨K0, hK0⟩ : ∃ K0, w.heap.size = K0 := ⟨_, rfl⟩
  have s2 := MK.putB (g := w.heap.size) (MT.alloc s1' (.cells #[.int .i64 i, .int .i64 ro, .slice X N cx] 27)) (heap_alloc_new w _)
  have s4 := MT.putK (P := fun w => w.heap[K0 + 1]? = some (.cells #[.int .i64 s, .int .i64 t] 42)) (MT.alloc s2 (.cells #[.int .i64 s, .int .i64 t] 42))
    (by
      have h := heap_alloc_new (w.alloc (.cells #[.int .i64 i, .int .i64 ro, .slice X N cx] 27)) (.cells #[.int .i64 s, .int .i64 t] 42)
      rw [World.size_alloc, hK0] at h
      exact h) (fun _ _ h hb => (hb.block _ (heap_lt h)).trans h)
  rw [hK0] at s4
  clear s1' s2
  go_enter Try.func12, Try.ntmps12
  go_upto_region 1 with fail
  obtain ⟨W0, hW0⟩ : ∃ W0, (w.alloc (.cells #[.int .i64 i, .int .i64 ro, .slice X N cx] 27)).alloc (.cells #[.int .i64 s, .int .i64 t] 42) = W0 := ⟨_, rfl⟩
  rw [hW0] at s4
  rw [hW0]
  clear hW0
  obtain ⟨q0, q1, q2⟩ := BxM.cells (MK.get s4 1 rfl)
  have hd20 : decide ((20 : Int) < N) = false := decide_eq_false (by omega)
  have hd70 : decide ((70 : Int) < N) = false := decide_eq_false (by omega)
  have hd300 : decide ((300 : Int) < l) = false := decide_eq_false (by omega)
  go_wp2
  clear q0 q1 q2 hd70 hd300 hd20
  have SF := Lib.hid s4
  clear s4
  go_loopw [7] (fun v wr => ∃ k : Nat, k ≤ N ∧ v = .int .i64 k ∧ Hid (Below W0.heap.size W0 wr)) (fun v _ => N - (intOf v).toNat)
  case atStart => exact ⟨0, by omega, rfl, Below.refl _ _⟩
  case round =>
    obtain ⟨k, hk, rfl, hbr⟩ := hrel
    have sK := MT.next SF.out hbr.out
    obtain ⟨q0, q1, q2⟩ := BxM.cells (MK.get sK 1 rfl)
    by_cases hlt : k < N
    · have hkn : (k : Int) < N := by omega
      obtain ⟨br, ofr, Br, cr, nr, row, rfl, _, hcr, _, _, _, _, hrl, hrk⟩ := (MK.get sK 3 rfl).at_ (k := k) (by rw [HN.out]; exact hlt)
      have hnr : nr ≤ 20 := by rw [← hrl.out]; exact HRW.out row (List.mem_of_getElem? hrk.out)
      have hd20 : decide ((20 : Int) < nr) = false := decide_eq_false (by omega)
      clear sK hrl hrk
      go_wp2
      go_roundw
      case rel => exact ⟨k + 1, by omega, by go_num, hbr⟩
      case measure => simp [intOf]; omega
    · have hkn : decide ((k : Int) < N) = false := decide_eq_false (by omega)
      clear SF hbr HRW HN
      have ZK : Hid (∀ (V : World) (L : List (World → Prop)), MT w V ((fun w => w.heap[K0 + 1]? = some (.cells #[.int .i64 s, .int .i64 t] 42)) :: L) → V.cell? ⟨K0 + 1, 0, none⟩ = some (.int .i64 s) ∧ V.cell? ⟨K0 + 1, 1, none⟩ = some (.int .i64 t)) := fun V L h => by
        have h1 := MK.get h 0 rfl
        refine ⟨?_, ?_⟩ <;> (rw [cell_of_row _ _ _ _ _ _ h1]; rfl)
      go_wp2_with fail
      refine (CK.out _ (MK.get sK 3 rfl)).mono ?_
      rintro e w1 ⟨rfl, hb⟩
      have t1 := MT.next sK hb
      clear hb sK q0 q1 q2 CK
      obtain ⟨q0, q1, q2⟩ := BxM.cells (MK.get t1 1 rfl)
      go_wp2_with fail
      refine (CT.out _ (MK.get t1 3 rfl)).mono ?_
      rintro e w2 ⟨B1, rfl, hb⟩
      have t2 := MT.next t1 hb
      clear hb t1 q0 q1 q2 CT
      obtain ⟨q0, q1, q2⟩ := BxM.cells (MK.get t2 1 rfl)
      go_wp2_with fail
      refine (CH.out _ (MK.get t2 3 rfl)).mono ?_
      rintro e w3 ⟨rfl, hb⟩
      have t3 := MT.next t2 hb
      clear hb t2 q0 q1 q2 CH
      obtain ⟨q0, q1, q2⟩ := BxM.cells (MK.get t3 1 rfl)
      go_wp2_with fail
      refine (CC.out _ (MK.get t3 2 rfl)).mono ?_
      rintro e w4 ⟨rfl, hb⟩
      have t4 := MT.next t3 hb
      clear hb t3 q0 q1 q2 CC
      obtain ⟨q0, q1, q2⟩ := BxM.cells (MK.get t4 1 rfl)
      go_wp2_with fail
      refine (CF.out _ (MK.get t4 3 rfl) (MK.get t4 2 rfl)).mono ?_
      rintro e w5 ⟨B2, rfl, hb⟩
      have t5 := MT.next t4 hb
      clear hb t4 q0 q1 q2 CF
      obtain ⟨q0, q1, q2⟩ := BxM.cells (MK.get t5 1 rfl)
      obtain ⟨y0, y1⟩ := ZK.out _ _ t5
      go_wp2_with fail
      refine (CS.out _ (MK.get t5 3 rfl)).mono ?_
      rintro e w6 ⟨B3, rfl, hb⟩
      have t6 := MT.next t5 hb
      clear hb t5 q0 q1 q2 y0 y1 CS
      obtain ⟨q0, q1, q2⟩ := BxM.cells (MK.get t6 1 rfl)
      obtain ⟨y0, y1⟩ := ZK.out _ _ t6
      go_wp2_with fail
      refine (CP.out _ (MK.get t6 3 rfl) (MK.get t6 2 rfl)).mono ?_
      rintro e w7 ⟨rfl, hb⟩
      have t7 := MT.next t6 hb
      clear hb t6 q0 q1 q2 y0 y1 CP
      go_wp2_with fail
      refine (slives_walk _).mono ?_
      rintro e w8 ⟨rfl, hb⟩
      have hfin := (MT.next t7 hb).2.1
      clear hb t7
      go_wp2_with fail
      go_ret
      exact ⟨rfl, hfin⟩

set_option maxRecDepth 100000 in
set_option maxHeartbeats 4000000 in
/-- Both numbers are states; the word is valid. -/
theorem serr_Ve2 (i : Nat) (ro : Int) (X P : Option Addr) (cx d l N : Nat) (rs : List (List Ed)) (p : List Int) (s t : Nat) (w : World) (hx : RdR w X rs) (hp : Rd w P p) (hN : rs.length = N) (hl : p.length = l)
    (h70 : N ≤ 70) (h300 : l ≤ 300) (hrw : ∀ row ∈ rs, row.length ≤ 20) (h65 : ¬ (20 < N ∧ N < 65)) (hz : Mc.chk ⟨i, ro, rs⟩ = 0) (hs : s < N) (ht : t < N) (hc : M.check p i = 0) :
    Calls Try.prog 12 #[.agg #[.int .i64 i, .int .i64 ro, .slice X N cx], .slice P l d, .agg #[.int .i64 s, .int .i64 t]] w fun e w' => e = .returned (.bool true) ∧ Below w.heap.size w w' := by
  have hk6 : N ≤ 1000000 := by omega
  have hrl : ∀ row ∈ rs, row.length ≤ 1000000 := fun row hrow => by have := hrw row hrow; omega
  have HN := Lib.hid hN
  have HRW := Lib.hid hrw
  have CK : Hid (∀ w, RdR w X rs → Calls Try.prog 45 #[.agg #[.int .i64 i, .int .i64 ro, .slice X N cx]] w fun e w' => e = .returned (.int .i64 (Mc.chk ⟨i, ro, rs⟩)) ∧ Below w.heap.size w w') := fun w hr => by
    have h := rmcheck_any ⟨i, ro, rs⟩ X cx w hr (by simp only; omega)
    simp only [hN] at h
    exact h
  have v : Mc.Val ⟨i, ro, rs⟩ := Mc.val_of hz
  rw [hz] at CK
  obtain ⟨NT, hNT⟩ : ∃ n, (Mc.prs N).length = n := ⟨_, rfl⟩
  obtain ⟨H0, hH0⟩ : ∃ n, Mc.hgt ⟨i, ro, rs⟩ = n := ⟨_, rfl⟩
  have hC : M.check p i = 0 := hc
  obtain ⟨L, hL⟩ : ∃ L, Mc.sl ⟨i, ro, rs⟩ s t = L := ⟨_, rfl⟩
  obtain ⟨bs, hbs⟩ : ∃ b, decide (0 < L) = b := ⟨_, rfl⟩
  obtain ⟨bb, hbb⟩ : ∃ b, M.same (Mc.run ⟨i, ro, rs⟩ s p) (Mc.run ⟨i, ro, rs⟩ t p) = b := ⟨_, rfl⟩
  have CT : Hid (∀ w, RdR w X rs → Calls Try.prog 40 #[.agg #[.int .i64 i, .int .i64 ro, .slice X N cx]] w fun e w' => ∃ B, e = .returned (.tuple #[.slice B NT NT, .int .i64 0]) ∧ Below w.heap.size w w') := fun w hr => by
    refine (table_ok ⟨i, ro, rs⟩ i ro X N cx w v rfl rfl hN hr).mono ?_
    rintro e w' ⟨G, rfl, _, h⟩
    exact ⟨_, by rw [hNT], h⟩
  have CH : Hid (∀ w, RdR w X rs → Calls Try.prog 41 #[.agg #[.int .i64 i, .int .i64 ro, .slice X N cx]] w fun e w' => e = .returned (.tuple #[.int .i64 H0, .int .i64 0]) ∧ Below w.heap.size w w') := fun w hr => by
    have h := height_ok ⟨i, ro, rs⟩ i ro X N cx w v rfl rfl hN hr
    rw [hH0] at h
    exact h
  have CC : Hid (∀ w, Rd w P p → Calls Try.prog 46 #[.slice P l d, .int .i64 i] w fun e w' => e = .returned (.int .i64 0) ∧ Below w.heap.size w w') := fun w hp => by
    have h := rwcheck_any P d p i w hp
    rw [hl, hC] at h
    exact h
  have CF : Hid (∀ w, RdR w X rs → Rd w P p → Calls Try.prog 43 #[.agg #[.int .i64 i, .int .i64 ro, .slice X N cx], .slice P l d] w fun e w' => ∃ B, e = .returned (.tuple #[.slice B N N, .int .i64 0]) ∧ Below w.heap.size w w') := fun w hr hp => by
    refine (after_val ⟨i, ro, rs⟩ i ro X P N cx l d p w 0 v rfl rfl hN hl hr hp (by omega) hC).mono ?_
    rintro e w' ⟨h1, h2, h3⟩
    obtain ⟨B, h4, _⟩ := h2 rfl
    exact ⟨B, h4, h3⟩
  have CS : Hid (∀ w, RdR w X rs → Calls Try.prog 33 #[.agg #[.int .i64 i, .int .i64 ro, .slice X N cx], .int .i64 s, .int .i64 t] w fun e w' => ∃ B, e = .returned (.tuple #[.slice B L L, .bool bs, .int .i64 0]) ∧ Below w.heap.size w w') := fun w hr => by
    refine (separate_ok ⟨i, ro, rs⟩ i ro X N cx w s t L v rfl rfl hN hr hs ht hL).mono ?_
    rintro e w' ⟨B, rfl, _, h⟩
    exact ⟨_, by rw [hbs], h⟩
  have CP : Hid (∀ w, RdR w X rs → Rd w P p → Calls Try.prog 38 #[.agg #[.int .i64 i, .int .i64 ro, .slice X N cx], .slice P l d, .int .i64 s, .int .i64 t] w fun e w' => e = .returned (.tuple #[.bool !bb, .int .i64 0]) ∧ Below w.heap.size w w') := fun w hr hp => by
    exact separates_ok ⟨i, ro, rs⟩ i ro X P N cx l d p s t w bb v rfl rfl hN hl hr hp hs ht (by omega) hC hbb
  have hN20 : N ≤ 20 := by have := v.r1; simp only [hN] at this; omega
  have d2 : decide ((N : Int) ≤ s) = false := decide_eq_false (by omega)
  have d3 : decide ((N : Int) ≤ t) = false := decide_eq_false (by omega)
  have nn : ((N : Int) != N) = false := by simp
  clear hN hl hrw hrl hz hNT hH0 hC hc v hL hbs hbb 
  have s1 : MT w w _ := MK.putR MT.start hx
  have s1' := MT.putK (P := fun w => Rd w P p) s1 hp (fun _ _ h hb => h.below hb)
  clear hx hp s1
  obtain ⟨K0, hK0⟩ : ∃ K0, w.heap.size = K0 := ⟨_, rfl⟩
  have s2 := MK.putB (g := w.heap.size) (MT.alloc s1' (.cells #[.int .i64 i, .int .i64 ro, .slice X N cx] 27)) (heap_alloc_new w _)
  have s4 := MT.putK (P := fun w => w.heap[K0 + 1]? = some (.cells #[.int .i64 s, .int .i64 t] 42)) (MT.alloc s2 (.cells #[.int .i64 s, .int .i64 t] 42))
    (by
      have h := heap_alloc_new (w.alloc (.cells #[.int .i64 i, .int .i64 ro, .slice X N cx] 27)) (.cells #[.int .i64 s, .int .i64 t] 42)
      rw [World.size_alloc, hK0] at h
      exact h) (fun _ _ h hb => (hb.block _ (heap_lt h)).trans h)
  rw [hK0] at s4
  clear s1' s2
  go_enter Try.func12, Try.ntmps12
  go_upto_region 1 with fail
  obtain ⟨W0, hW0⟩ : ∃ W0, (w.alloc (.cells #[.int .i64 i, .int .i64 ro, .slice X N cx] 27)).alloc (.cells #[.int .i64 s, .int .i64 t] 42) = W0 := ⟨_, rfl⟩
  rw [hW0] at s4
  rw [hW0]
  clear hW0
  obtain ⟨q0, q1, q2⟩ := BxM.cells (MK.get s4 1 rfl)
  have hd20 : decide ((20 : Int) < N) = false := decide_eq_false (by omega)
  have hd70 : decide ((70 : Int) < N) = false := decide_eq_false (by omega)
  have hd300 : decide ((300 : Int) < l) = false := decide_eq_false (by omega)
  go_wp2
  clear q0 q1 q2 hd70 hd300 hd20
  have SF := Lib.hid s4
  clear s4
  go_loopw [7] (fun v wr => ∃ k : Nat, k ≤ N ∧ v = .int .i64 k ∧ Hid (Below W0.heap.size W0 wr)) (fun v _ => N - (intOf v).toNat)
  case atStart => exact ⟨0, by omega, rfl, Below.refl _ _⟩
  case round =>
    obtain ⟨k, hk, rfl, hbr⟩ := hrel
    have sK := MT.next SF.out hbr.out
    obtain ⟨q0, q1, q2⟩ := BxM.cells (MK.get sK 1 rfl)
    by_cases hlt : k < N
    · have hkn : (k : Int) < N := by omega
      obtain ⟨br, ofr, Br, cr, nr, row, rfl, _, hcr, _, _, _, _, hrl, hrk⟩ := (MK.get sK 3 rfl).at_ (k := k) (by rw [HN.out]; exact hlt)
      have hnr : nr ≤ 20 := by rw [← hrl.out]; exact HRW.out row (List.mem_of_getElem? hrk.out)
      have hd20 : decide ((20 : Int) < nr) = false := decide_eq_false (by omega)
      clear sK hrl hrk
      go_wp2
      go_roundw
      case rel => exact ⟨k + 1, by omega, by go_num, hbr⟩
      case measure => simp [intOf]; omega
    · have hkn : decide ((k : Int) < N) = false := decide_eq_false (by omega)
      clear SF hbr HRW HN
      have ZK : Hid (∀ (V : World) (L : List (World → Prop)), MT w V ((fun w => w.heap[K0 + 1]? = some (.cells #[.int .i64 s, .int .i64 t] 42)) :: L) → V.cell? ⟨K0 + 1, 0, none⟩ = some (.int .i64 s) ∧ V.cell? ⟨K0 + 1, 1, none⟩ = some (.int .i64 t)) := fun V L h => by
        have h1 := MK.get h 0 rfl
        refine ⟨?_, ?_⟩ <;> (rw [cell_of_row _ _ _ _ _ _ h1]; rfl)
      go_wp2_with fail
      refine (CK.out _ (MK.get sK 3 rfl)).mono ?_
      rintro e w1 ⟨rfl, hb⟩
      have t1 := MT.next sK hb
      clear hb sK q0 q1 q2 CK
      obtain ⟨q0, q1, q2⟩ := BxM.cells (MK.get t1 1 rfl)
      go_wp2_with fail
      refine (CT.out _ (MK.get t1 3 rfl)).mono ?_
      rintro e w2 ⟨B1, rfl, hb⟩
      have t2 := MT.next t1 hb
      clear hb t1 q0 q1 q2 CT
      obtain ⟨q0, q1, q2⟩ := BxM.cells (MK.get t2 1 rfl)
      go_wp2_with fail
      refine (CH.out _ (MK.get t2 3 rfl)).mono ?_
      rintro e w3 ⟨rfl, hb⟩
      have t3 := MT.next t2 hb
      clear hb t2 q0 q1 q2 CH
      obtain ⟨q0, q1, q2⟩ := BxM.cells (MK.get t3 1 rfl)
      go_wp2_with fail
      refine (CC.out _ (MK.get t3 2 rfl)).mono ?_
      rintro e w4 ⟨rfl, hb⟩
      have t4 := MT.next t3 hb
      clear hb t3 q0 q1 q2 CC
      obtain ⟨q0, q1, q2⟩ := BxM.cells (MK.get t4 1 rfl)
      go_wp2_with fail
      refine (CF.out _ (MK.get t4 3 rfl) (MK.get t4 2 rfl)).mono ?_
      rintro e w5 ⟨B2, rfl, hb⟩
      have t5 := MT.next t4 hb
      clear hb t4 q0 q1 q2 CF
      obtain ⟨q0, q1, q2⟩ := BxM.cells (MK.get t5 1 rfl)
      obtain ⟨y0, y1⟩ := ZK.out _ _ t5
      go_wp2_with fail
      refine (CS.out _ (MK.get t5 3 rfl)).mono ?_
      rintro e w6 ⟨B3, rfl, hb⟩
      have t6 := MT.next t5 hb
      clear hb t5 q0 q1 q2 y0 y1 CS
      obtain ⟨q0, q1, q2⟩ := BxM.cells (MK.get t6 1 rfl)
      obtain ⟨y0, y1⟩ := ZK.out _ _ t6
      go_wp2_with fail
      refine (CP.out _ (MK.get t6 3 rfl) (MK.get t6 2 rfl)).mono ?_
      rintro e w7 ⟨rfl, hb⟩
      have t7 := MT.next t6 hb
      clear hb t6 q0 q1 q2 y0 y1 CP
      go_wp2_with fail
      refine (slives_walk _).mono ?_
      rintro e w8 ⟨rfl, hb⟩
      have hfin := (MT.next t7 hb).2.1
      clear hb t7
      go_wp2_with fail
      go_ret
      exact ⟨rfl, hfin⟩

theorem serr_walk (ri ro : Int) (X P : Option Addr) (cx d : Nat) (rs : List (List Ed)) (p : List Int) (z0 z1 : Int) (w : World) (hx : RdR w X rs) (hp : Rd w P p) :
    Calls Try.prog 12 #[.agg #[.int .i64 ri, .int .i64 ro, .slice X rs.length cx], .slice P p.length d, .agg #[.int .i64 z0, .int .i64 z1]] w fun e w' => e = .returned (.bool true) ∧ Below w.heap.size w w' := by
  by_cases g1 : 70 < rs.length
  · exact serr_early ri ro X P cx d _ _ rs p z0 z1 w hx hp rfl rfl (.inl g1)
  by_cases g4 : 20 < rs.length ∧ rs.length < 65
  · exact serr_early ri ro X P cx d _ _ rs p z0 z1 w hx hp rfl rfl (.inr (.inl g4))
  by_cases g2 : 300 < p.length
  · exact serr_early ri ro X P cx d _ _ rs p z0 z1 w hx hp rfl rfl (.inr (.inr (.inl g2)))
  by_cases g3 : ∃ (j : Nat) (row : List Ed), rs[j]? = some row ∧ 20 < row.length
  · exact serr_early ri ro X P cx d _ _ rs p z0 z1 w hx hp rfl rfl (.inr (.inr (.inr g3)))
  have hrw : ∀ row ∈ rs, row.length ≤ 20 := fun row hrow => by
    obtain ⟨j, hj⟩ := List.mem_iff_getElem?.1 hrow
    rcases Nat.lt_or_ge 20 row.length with h | h
    · exact absurd ⟨j, row, hj, h⟩ g3
    · exact h
  by_cases hz : Mc.chk ⟨ri, ro, rs⟩ = 0
  · have hi0 : 1 ≤ ri := (Mc.val_of hz).i0
    obtain ⟨i, rfl⟩ := Int.eq_ofNat_of_zero_le (show 0 ≤ ri by omega)
    by_cases hc : M.check p i = 0
    · by_cases y0 : z0 < 0
      · exact serr_Va2 i ro X P cx d _ _ rs p z0 z1 w hx hp rfl rfl (by omega) (by omega) hrw g4 hz y0 hc
      by_cases y1 : z1 < 0
      · exact serr_Vb2 i ro X P cx d _ _ rs p z0 z1 w hx hp rfl rfl (by omega) (by omega) hrw g4 hz (by omega) y1 hc
      by_cases y2 : z0 < (rs.length : Int)
      · by_cases y3 : z1 < (rs.length : Int)
        · obtain ⟨s, rfl⟩ := Int.eq_ofNat_of_zero_le (show 0 ≤ z0 by omega)
          obtain ⟨t, rfl⟩ := Int.eq_ofNat_of_zero_le (show 0 ≤ z1 by omega)
          exact serr_Ve2 i ro X P cx d _ _ rs p s t w hx hp rfl rfl (by omega) (by omega) hrw g4 hz (by omega) (by omega) hc
        · exact serr_Vd2 i ro X P cx d _ _ rs p z0 z1 w hx hp rfl rfl (by omega) (by omega) hrw g4 hz (by omega) (by omega) y2 (by omega) hc
      · exact serr_Vc2 i ro X P cx d _ _ rs p z0 z1 w hx hp rfl rfl (by omega) (by omega) hrw g4 hz (by omega) (by omega) (by omega) hc
    · by_cases y0 : z0 < 0
      · exact serr_Va1 i ro X P cx d _ _ rs p z0 z1 w hx hp rfl rfl (by omega) (by omega) hrw g4 hz y0 hc
      by_cases y1 : z1 < 0
      · exact serr_Vb1 i ro X P cx d _ _ rs p z0 z1 w hx hp rfl rfl (by omega) (by omega) hrw g4 hz (by omega) y1 hc
      by_cases y2 : z0 < (rs.length : Int)
      · by_cases y3 : z1 < (rs.length : Int)
        · obtain ⟨s, rfl⟩ := Int.eq_ofNat_of_zero_le (show 0 ≤ z0 by omega)
          obtain ⟨t, rfl⟩ := Int.eq_ofNat_of_zero_le (show 0 ≤ z1 by omega)
          exact serr_Ve1 i ro X P cx d _ _ rs p s t w hx hp rfl rfl (by omega) (by omega) hrw g4 hz (by omega) (by omega) hc
        · exact serr_Vd1 i ro X P cx d _ _ rs p z0 z1 w hx hp rfl rfl (by omega) (by omega) hrw g4 hz (by omega) (by omega) y2 (by omega) hc
      · exact serr_Vc1 i ro X P cx d _ _ rs p z0 z1 w hx hp rfl rfl (by omega) (by omega) hrw g4 hz (by omega) (by omega) (by omega) hc
  · by_cases hb : rs.length ≤ 20
    · exact serr_A1 ri ro X P cx d _ _ rs p z0 z1 w hx hp rfl rfl (by omega) (by omega) hrw hz hb
    · exact serr_A2 ri ro X P cx d _ _ rs p z0 z1 w hx hp rfl rfl (by omega) (by omega) hrw hz (by omega)
end Go.Proofs.Ytonnplhiaidjnaa
