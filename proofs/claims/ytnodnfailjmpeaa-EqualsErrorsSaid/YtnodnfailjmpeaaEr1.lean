/-
  The walk of EqualsErrors, in cases. No statement is proved here.
-/
import Derived.Test.YtnodnfailjmpeaaEr0
import Derived.Deep.RegionHeld3
import Derived.Deep.CutRange
namespace Go.Proofs.Ytnodnfailjmpeaa
open Go.RowKit
open Mc (Ed Ma)

set_option maxRecDepth 100000 in
set_option maxHeartbeats 4000000 in
/-- Too many rows, or too few and too many, or too many pairs, or a row of more than 20 edges: nothing is asked. -/
theorem eerr_early (ri ro : Int) (X : Option Addr) (cx N : Nat) (rs : List (List Ed)) (a b dd : Int) (q : Bool) (A : Option Addr) (ca EL : Nat) (P : Option Addr) (KR cP : Nat) (R : List (Int × Int)) (w : World) (hx : RdR w X rs) (hN : rs.length = N) (hp : RdP w P R) (_ : R.length = KR)
    (hgr : 70 < N ∨ (20 < N ∧ N < 65) ∨ 60 < KR ∨ ∃ (j : Nat) (row : List Ed), rs[j]? = some row ∧ 20 < row.length) :
    Calls Try.prog 8 #[.agg #[.int .i64 ri, .int .i64 ro, .slice X N cx], .agg #[.int .u8 a, .int .u8 b, .int .u8 dd, .bool q, .slice A EL ca], .slice P KR cP] w fun e w' => e = .returned (.bool true) ∧ Below w.heap.size w w' := by
  have HN := Lib.hid hN
  have HGR := Lib.hid hgr
  clear hN hgr
  have s1 : MT w w _ := MK.putR (MK.putP MT.start hp) hx
  clear hx hp
  obtain ⟨K0, hK0⟩ : ∃ K0, w.heap.size = K0 := ⟨_, rfl⟩
  have s2 := MK.putB (g := w.heap.size) (MT.alloc s1 (.cells #[.int .i64 ri, .int .i64 ro, .slice X N cx] 24)) (heap_alloc_new w _)
  have s4 := MT.putK (P := fun w => w.heap[K0 + 1]? = some (.cells #[.int .u8 a, .int .u8 b, .int .u8 dd, .bool q, .slice A EL ca] 39)) (MT.alloc s2 (.cells #[.int .u8 a, .int .u8 b, .int .u8 dd, .bool q, .slice A EL ca] 39))
    (by
      have h := heap_alloc_new (w.alloc (.cells #[.int .i64 ri, .int .i64 ro, .slice X N cx] 24)) (.cells #[.int .u8 a, .int .u8 b, .int .u8 dd, .bool q, .slice A EL ca] 39)
      rw [World.size_alloc, hK0] at h
      exact h) (fun _ _ h hb => (hb.block _ (heap_lt h)).trans h)
  rw [hK0] at s4
  clear s1 s2
  go_enter Try.func8, Try.ntmps8
  go_upto_region 1 with fail
  obtain ⟨W0, hW0⟩ : ∃ W0, (w.alloc (.cells #[.int .i64 ri, .int .i64 ro, .slice X N cx] 24)).alloc (.cells #[.int .u8 a, .int .u8 b, .int .u8 dd, .bool q, .slice A EL ca] 39) = W0 := ⟨_, rfl⟩
  rw [hW0] at s4
  rw [hW0]
  clear hW0
  obtain ⟨q0, q1, q2⟩ := BxM.cells (MK.get s4 1 rfl)
  by_cases h70 : 70 < N
  · have hd20 : decide ((20 : Int) < N) = true := decide_eq_true (by omega)
    have hd65 : decide ((N : Int) < 65) = false := decide_eq_false (by omega)
    have hd70 : decide ((70 : Int) < N) = true := decide_eq_true (by omega)
    have hfin := s4.2.1
    clear s4 HGR
    go_wp2
    go_ret
    exact ⟨rfl, hfin⟩
  have hd70 : decide ((70 : Int) < N) = false := decide_eq_false (by omega)
  by_cases h2065 : 20 < N ∧ N < 65
  · have hd20 : decide ((20 : Int) < N) = true := decide_eq_true (by omega)
    have hd65 : decide ((N : Int) < 65) = true := decide_eq_true (by omega)
    have hfin := s4.2.1
    clear s4 HGR
    go_wp2
    go_ret
    exact ⟨rfl, hfin⟩
  obtain ⟨b20, hd20⟩ : ∃ b, decide ((20 : Int) < N) = b := ⟨_, rfl⟩
  obtain ⟨b65, hd65⟩ : ∃ b, decide ((N : Int) < 65) = b := ⟨_, rfl⟩
  have hbb : b20 = false ∨ (b20 = true ∧ b65 = false) := by
    by_cases h : 20 < N
    · right
      exact ⟨by rw [← hd20]; exact decide_eq_true (by omega), by rw [← hd65]; exact decide_eq_false (by omega)⟩
    · left
      rw [← hd20]; exact decide_eq_false (by omega)
  rcases hbb with rfl | ⟨rfl, rfl⟩
  all_goals
    by_cases h60 : 60 < KR
    · have hd60 : decide ((60 : Int) < KR) = true := decide_eq_true (by omega)
      have hfin := s4.2.1
      clear s4 HGR
      go_wp2
      go_ret
      exact ⟨rfl, hfin⟩
    have hd60 : decide ((60 : Int) < KR) = false := decide_eq_false (by omega)
    go_wp2
    clear q0 q1 q2 hd70 hd20 hd65 hd60
    have SF := Lib.hid s4
    clear s4
    go_loopw [7] (fun v wr => ∃ k : Nat, k ≤ N ∧ v = .int .i64 k ∧ Hid (∀ (j : Nat) row, j < k → rs[j]? = some row → row.length ≤ 20) ∧ Hid (Below W0.heap.size W0 wr)) (fun v _ => N - (intOf v).toNat)
    case atStart => exact ⟨0, by omega, rfl, fun j row h => absurd h (by omega), Below.refl _ _⟩
    case round =>
      obtain ⟨k, hk, rfl, hRk, hbr⟩ := hrel
      have sK := MT.next SF.out hbr.out
      obtain ⟨q0, q1, q2⟩ := BxM.cells (MK.get sK 1 rfl)
      have hlt : k < N := by
        rcases Nat.lt_or_ge k N with h1 | h1
        · exact h1
        · rcases HGR.out with h2 | h2 | h2 | ⟨j, row, hj, h3⟩
          · omega
          · omega
          · omega
          · have h4 := (List.getElem?_eq_some_iff.1 hj).1
            have h5 := HN.out
            have := hRk.out j row (by omega) hj
            omega
      have hkn : (k : Int) < N := by omega
      obtain ⟨br, ofr, Br, cr, nr, row, rfl, _, hcr, _, _, _, _, hrl, hrk⟩ := (MK.get sK 2 rfl).at_ (k := k) (by rw [HN.out]; exact hlt)
      by_cases h20 : 20 < nr
      · have hd20 : decide ((20 : Int) < nr) = true := decide_eq_true (by omega)
        have hfin := sK.2.1
        clear sK SF hRk HGR
        go_wp2
        go_ret
        exact ⟨rfl, hfin⟩
      · have hd20 : decide ((20 : Int) < nr) = false := decide_eq_false (by omega)
        have hRk' : Hid (∀ (j : Nat) row, j < k + 1 → rs[j]? = some row → row.length ≤ 20) := fun j row' hj hjr => by
          rcases Nat.lt_or_ge j k with h1 | h1
          · exact hRk.out j row' h1 hjr
          · obtain rfl : j = k := by omega
            rw [hrk.out] at hjr
            injection hjr with hjr
            rw [← hjr, hrl.out]
            omega
        clear sK hRk HGR
        go_wp2
        go_roundw
        case rel => exact ⟨k + 1, by omega, by go_num, hRk', hbr⟩
        case measure => simp [intOf]; omega

set_option maxRecDepth 100000 in
set_option maxHeartbeats 4000000 in
/-- The machine is not valid; few rows. -/
theorem eerr_A1 (ri ro : Int) (X : Option Addr) (cx N : Nat) (rs : List (List Ed)) (a b dd : Int) (q : Bool) (A : Option Addr) (ca EL : Nat) (P : Option Addr) (KR cP : Nat) (R : List (Int × Int)) (w : World) (hx : RdR w X rs) (hN : rs.length = N) (hp : RdP w P R) (hKR : R.length = KR)
    (h70 : N ≤ 70) (h60 : KR ≤ 60) (hrw : ∀ row ∈ rs, row.length ≤ 20) (es : List Int) (h16 : Rd16 w A es) (hEL : es.length = EL) (hle : es.length ≤ 9223372036854775807) (ha : 0 ≤ a ∧ a ≤ 255) (hb : 0 ≤ b ∧ b ≤ 255) (hd : 0 ≤ dd ∧ dd ≤ 255) (hz : Mc.chk ⟨ri, ro, rs⟩ ≠ 0) (hbig : N ≤ 20) :
    Calls Try.prog 8 #[.agg #[.int .i64 ri, .int .i64 ro, .slice X N cx], .agg #[.int .u8 a, .int .u8 b, .int .u8 dd, .bool q, .slice A EL ca], .slice P KR cP] w fun e w' => e = .returned (.bool true) ∧ Below w.heap.size w w' := by
  have hk6 : N ≤ 1000000 := by omega
  have hrl : ∀ row ∈ rs, row.length ≤ 1000000 := fun row hrow => by have := hrw row hrow; omega
  have HN := Lib.hid hN
  have HRW := Lib.hid hrw
  obtain ⟨n, hn⟩ : ∃ n : Nat, 1 + a % 6 = n := ⟨(1 + a % 6).toNat, by omega⟩
  obtain ⟨i, hi⟩ : ∃ i : Nat, 1 + b % 3 = i := ⟨(1 + b % 3).toNat, by omega⟩
  obtain ⟨o, ho⟩ : ∃ o : Nat, 1 + dd % 3 = o := ⟨(1 + dd % 3).toNat, by omega⟩
  have V := Lib.hid (Mc.mkN_val (p := q) (n := n) (i := i) (o := o) (es := es) (by omega) (by omega) (by omega) (by omega) (by omega) (by omega))
  have hlen : Hid ((Mc.mkN q n i o es).r.length = n) := Mc.mkN_len _ _ _ _ _
  have hmi : Hid ((Mc.mkN q n i o es).i = i) := rfl
  have hmo : Hid ((Mc.mkN q n i o es).o = o) := rfl
  obtain ⟨M, hM⟩ : ∃ M, Mc.mkN q n i o es = M := ⟨_, rfl⟩
  rw [hM] at V hlen hmi hmo
  have hn6 : n ≤ 6 := by omega
  have CO : Hid (∀ w, Rd16 w A es → Calls Try.prog 37 #[.agg #[.int .u8 a, .int .u8 b, .int .u8 dd, .bool q, .slice A EL ca]] w fun e w' => ∃ B k, e = .returned (.agg #[.int .i64 i, .int .i64 o, .slice B n k]) ∧ RdR w' B M.r ∧ Below w.heap.size w w') := fun w hr => by
    have h := mof_at a b dd q A ca es n i o w hr hle ha hb hd hn hi ho
    rw [hEL, hM] at h
    exact h
  obtain ⟨Z, hchk⟩ : ∃ Z, Mc.chk ⟨ri, ro, rs⟩ = Z := ⟨_, rfl⟩
  rw [hchk] at hz
  have hE1 : ech ⟨ri, ro, rs⟩ M = Z := by unfold ech; rw [hchk, if_pos hz]
  have hE2 : ech M ⟨ri, ro, rs⟩ = Z := by unfold ech; rw [if_neg (by rw [Mc.chk_of V.out]; simp), hchk, if_pos hz]
  have CK : Hid (∀ w, RdR w X rs → Calls Try.prog 38 #[.agg #[.int .i64 ri, .int .i64 ro, .slice X N cx]] w fun e w' => e = .returned (.int .i64 Z) ∧ Below w.heap.size w w') := fun w hr => by
    have h := rmcheck_any ⟨ri, ro, rs⟩ X cx w hr (by simp only; omega)
    simp only [hN, hchk] at h
    exact h
  have CD : Hid (∀ B k w, RdR w X rs → RdR w B M.r → RdP w P R → Calls Try.prog 21 #[.agg #[.int .i64 ri, .int .i64 ro, .slice X N cx], .agg #[.int .i64 i, .int .i64 o, .slice B n k]] w fun e w' => ∃ X, e = .returned (.tuple #[.slice X 0 0, .bool false, .int .i64 Z]) ∧ Below w.heap.size w w') := fun B k w hr hrM hrp =>
    dif_Z ⟨ri, ro, rs⟩ M ri ro i o X B N cx n k w Z rfl rfl hmi.out hmo.out hr hN hk6 hrl hrM hlen.out (by omega) V.out.rowsE hE1 hz
  have CE : Hid (∀ B k w, RdR w X rs → RdR w B M.r → RdP w P R → Calls Try.prog 21 #[.agg #[.int .i64 i, .int .i64 o, .slice B n k], .agg #[.int .i64 ri, .int .i64 ro, .slice X N cx]] w fun e w' => ∃ X, e = .returned (.tuple #[.slice X 0 0, .bool false, .int .i64 Z]) ∧ Below w.heap.size w w') := fun B k w hr hrM hrp =>
    dif_Z M ⟨ri, ro, rs⟩ i o ri ro B X n k N cx w Z hmi.out hmo.out rfl rfl hrM hlen.out (by omega) V.out.rowsE hr hN hk6 hrl hE2 hz
  have CQ : Hid (∀ B k w, RdR w X rs → RdR w B M.r → RdP w P R → Calls Try.prog 28 #[.agg #[.int .i64 i, .int .i64 o, .slice B n k], .agg #[.int .i64 ri, .int .i64 ro, .slice X N cx]] w fun e w' => e = .returned (.tuple #[.bool false, .int .i64 Z]) ∧ Below w.heap.size w w') := fun B k w hr hrM hrp =>
    equ_Z M ⟨ri, ro, rs⟩ i o ri ro B X n k N cx w Z hmi.out hmo.out rfl rfl hrM hlen.out (by omega) V.out.rowsE hr hN hk6 hrl hE2 hz
  have CR : Hid (∀ B k w, RdR w X rs → RdR w B M.r → RdP w P R → Calls Try.prog 32 #[.agg #[.int .i64 i, .int .i64 o, .slice B n k], .agg #[.int .i64 ri, .int .i64 ro, .slice X N cx]] w fun e w' => e = .returned (.tuple #[.slice none 0 0, .bool false, .int .i64 Z]) ∧ Below w.heap.size w w') := fun B k w hr hrM hrp =>
    rel_Z M ⟨ri, ro, rs⟩ i o ri ro B X n k N cx w Z hmi.out hmo.out rfl rfl hrM hlen.out (by omega) V.out.rowsE hr hN hk6 hrl hE2 hz
  have hpc : pck ⟨ri, ro, rs⟩ M R = Z := by unfold pck; rw [hE1, if_pos hz]
  have CC : Hid (∀ B k w, RdR w X rs → RdR w B M.r → RdP w P R → Calls Try.prog 35 #[.agg #[.int .i64 ri, .int .i64 ro, .slice X N cx], .agg #[.int .i64 i, .int .i64 o, .slice B n k], .slice P KR cP] w fun e w' => e = .returned (.tuple #[.bool false, .int .i64 Z]) ∧ Below w.heap.size w w') := fun B k w hr hrM hrp =>
    cre_Z ⟨ri, ro, rs⟩ M ri ro i o X B N cx n k w Z rfl rfl hmi.out hmo.out hr hN hk6 hrl hrM hlen.out (by omega) V.out.rowsE P KR cP R hrp hKR (by omega) hpc hz
  have CW : Hid (∀ B k w, RdR w X rs → RdR w B M.r → RdP w P R → Calls Try.prog 31 #[.agg #[.int .i64 ri, .int .i64 ro, .slice X N cx], .agg #[.int .i64 i, .int .i64 o, .slice B n k], .int .i64 (-1)] w fun e w' => e = .returned (.tuple #[.bool false, .int .i64 Z]) ∧ Below w.heap.size w w') := fun B k w hr hrM hrp =>
    win_N ⟨ri, ro, rs⟩ M ri ro i o X B N cx n k w Z rfl rfl hmi.out hmo.out hr hN hk6 hrl hrM hlen.out (by omega) V.out.rowsE hE1 Z (if_pos hz)
  have HR := Lib.hid h16
  have hz2 : (Z == 0) = false := by simp [hz]
  have hz3 : ¬ Z = 0 := hz
  clear hN hrw hrl hKR hchk hz hpc h16 hEL hle ha hb hd hn hi ho V hlen hmi hmo hM hE1 hE2
  have s1 : MT w w _ := MK.putR (MK.putP MT.start hp) hx
  clear hx hp
  obtain ⟨K0, hK0⟩ : ∃ K0, w.heap.size = K0 := ⟨_, rfl⟩
  have s2 := MK.putB (g := w.heap.size) (MT.alloc s1 (.cells #[.int .i64 ri, .int .i64 ro, .slice X N cx] 24)) (heap_alloc_new w _)
  have s4 := MT.putK (P := fun w => w.heap[K0 + 1]? = some (.cells #[.int .u8 a, .int .u8 b, .int .u8 dd, .bool q, .slice A EL ca] 39)) (MT.alloc s2 (.cells #[.int .u8 a, .int .u8 b, .int .u8 dd, .bool q, .slice A EL ca] 39))
    (by
      have h := heap_alloc_new (w.alloc (.cells #[.int .i64 ri, .int .i64 ro, .slice X N cx] 24)) (.cells #[.int .u8 a, .int .u8 b, .int .u8 dd, .bool q, .slice A EL ca] 39)
      rw [World.size_alloc, hK0] at h
      exact h) (fun _ _ h hb => (hb.block _ (heap_lt h)).trans h)
  rw [hK0] at s4
  clear s1 s2
  go_enter Try.func8, Try.ntmps8
  go_upto_region 1 with fail
  obtain ⟨W0, hW0⟩ : ∃ W0, (w.alloc (.cells #[.int .i64 ri, .int .i64 ro, .slice X N cx] 24)).alloc (.cells #[.int .u8 a, .int .u8 b, .int .u8 dd, .bool q, .slice A EL ca] 39) = W0 := ⟨_, rfl⟩
  rw [hW0] at s4
  rw [hW0]
  clear hW0
  obtain ⟨q0, q1, q2⟩ := BxM.cells (MK.get s4 1 rfl)
  have hd20 : decide ((20 : Int) < N) = false := decide_eq_false (by omega)
  have hd70 : decide ((70 : Int) < N) = false := decide_eq_false (by omega)
  have hd60 : decide ((60 : Int) < KR) = false := decide_eq_false (by omega)
  go_wp2
  clear q0 q1 q2 hd70 hd20 hd60
  have SF := Lib.hid s4
  clear s4
  go_loopw [7] (fun v wr => ∃ k : Nat, k ≤ N ∧ v = .int .i64 k ∧ Hid (Below W0.heap.size W0 wr)) (fun v _ => N - (intOf v).toNat)
  case atStart => exact ⟨0, by omega, rfl, Below.refl _ _⟩
  case round =>
    obtain ⟨k, hk, rfl, hbr⟩ := hrel
    have sK := MT.next SF.out hbr.out
    obtain ⟨q0, q1, q2⟩ := BxM.cells (MK.get sK 1 rfl)
    by_cases hlt : k < N
    · have hkn : (k : Int) < N := by omega
      obtain ⟨br, ofr, Br, cr, nr, row, rfl, _, hcr, _, _, _, _, hrl, hrk⟩ := (MK.get sK 2 rfl).at_ (k := k) (by rw [HN.out]; exact hlt)
      have hnr : nr ≤ 20 := by rw [← hrl.out]; exact HRW.out row (List.mem_of_getElem? hrk.out)
      have hd20 : decide ((20 : Int) < nr) = false := decide_eq_false (by omega)
      clear sK hrl hrk
      go_wp2
      go_roundw
      case rel => exact ⟨k + 1, by omega, by go_num, hbr⟩
      case measure => simp [intOf]; omega
    · have hkn : decide ((k : Int) < N) = false := decide_eq_false (by omega)
      have HHR := Lib.hid (HR.out.below sK.2.1)
      have y5 : wr.cell? ⟨K0 + 1, 0, none⟩ = some (.int .u8 a) ∧ wr.cell? ⟨K0 + 1, 1, none⟩ = some (.int .u8 b) ∧ wr.cell? ⟨K0 + 1, 2, none⟩ = some (.int .u8 dd) ∧ wr.cell? ⟨K0 + 1, 3, none⟩ = some (.bool q) ∧ wr.cell? ⟨K0 + 1, 4, none⟩ = some (.slice A EL ca) := by
        have h1 := MK.get sK 0 rfl
        refine ⟨?_, ?_, ?_, ?_, ?_⟩ <;> (rw [cell_of_row _ _ _ _ _ _ h1]; rfl)
      obtain ⟨a3, a4, a5, a6, a7⟩ := y5
      clear SF hbr HRW
      go_wp2_with fail
      refine (CO.out _ HHR.out).mono ?_
      rintro e w1 ⟨B, k1, rfl, hrB, hb⟩
      have t1 := MK.putB (g := w1.heap.size) (MT.alloc (MK.putR (MT.next sK hb) hrB) (.cells #[.int .i64 i, .int .i64 o, .slice B n k1] 24)) (heap_alloc_new w1 _)
      clear hb hrB sK q0 q1 q2 a3 a4 a5 a6 a7 CO
      go_upto_region 9 with fail
      obtain ⟨gc, hgc⟩ : ∃ g, w1.heap.size = g := ⟨_, rfl⟩
      obtain ⟨W2, hW2⟩ : ∃ W, w1.alloc (.cells #[.int .i64 i, .int .i64 o, .slice B n k1] 24) = W := ⟨_, rfl⟩
      rw [hgc, hW2] at t1
      try rw [hgc]
      try rw [hW2]
      clear hgc hW2
      obtain ⟨q0, q1, q2⟩ := BxM.cells (MK.get t1 3 rfl)
      go_wp2_with fail
      refine (CK.out _ (MK.get t1 4 rfl)).mono ?_
      rintro e w2 ⟨rfl, hb⟩
      have t2 := MT.next t1 hb
      clear hb t1 q0 q1 q2 CK
      obtain ⟨q0, q1, q2⟩ := BxM.cells (MK.get t2 3 rfl)
      obtain ⟨p0, p1, p2⟩ := BxM.cells (MK.get t2 0 rfl)
      go_wp2_with fail
      refine (CD.out _ _ _ (MK.get t2 4 rfl) (MK.get t2 1 rfl) (MK.get t2 5 rfl)).mono ?_
      rintro e w3 ⟨X1, rfl, hb⟩
      have t3 := MT.next t2 hb
      clear hb t2 q0 q1 q2 p0 p1 p2 CD
      obtain ⟨q0, q1, q2⟩ := BxM.cells (MK.get t3 3 rfl)
      obtain ⟨p0, p1, p2⟩ := BxM.cells (MK.get t3 0 rfl)
      go_wp2_with fail
      refine (CE.out _ _ _ (MK.get t3 4 rfl) (MK.get t3 1 rfl) (MK.get t3 5 rfl)).mono ?_
      rintro e w4 ⟨X2, rfl, hb⟩
      have t4 := MT.next t3 hb
      clear hb t3 q0 q1 q2 p0 p1 p2 CE
      obtain ⟨q0, q1, q2⟩ := BxM.cells (MK.get t4 3 rfl)
      obtain ⟨p0, p1, p2⟩ := BxM.cells (MK.get t4 0 rfl)
      go_wp2_with fail
      refine (CQ.out _ _ _ (MK.get t4 4 rfl) (MK.get t4 1 rfl) (MK.get t4 5 rfl)).mono ?_
      rintro e w5 ⟨rfl, hb⟩
      have t5 := MT.next t4 hb
      clear hb t4 q0 q1 q2 p0 p1 p2 CQ
      obtain ⟨q0, q1, q2⟩ := BxM.cells (MK.get t5 3 rfl)
      obtain ⟨p0, p1, p2⟩ := BxM.cells (MK.get t5 0 rfl)
      go_wp2_with fail
      refine (CW.out _ _ _ (MK.get t5 4 rfl) (MK.get t5 1 rfl) (MK.get t5 5 rfl)).mono ?_
      rintro e w6 ⟨rfl, hb⟩
      have t6 := MT.next t5 hb
      clear hb t5 q0 q1 q2 p0 p1 p2 CW
      obtain ⟨q0, q1, q2⟩ := BxM.cells (MK.get t6 3 rfl)
      obtain ⟨p0, p1, p2⟩ := BxM.cells (MK.get t6 0 rfl)
      go_wp2_with fail
      refine (CR.out _ _ _ (MK.get t6 4 rfl) (MK.get t6 1 rfl) (MK.get t6 5 rfl)).mono ?_
      rintro e w7 ⟨rfl, hb⟩
      have t7 := MT.next t6 hb
      clear hb t6 q0 q1 q2 p0 p1 p2 CR
      have HT := Lib.hid t7
      clear t7
      rcases Nat.eq_zero_or_pos KR with hk0 | hk0
      case inl =>
        subst hk0
        go_wp2_with fail
        go_loopw [9, 23] (fun u v wr => u = .int .i64 Z ∧ v = .int .i64 0 ∧ wr = w7) (fun _ _ _ => 0)
        case atStart => exact ⟨rfl, rfl, rfl⟩
        case round =>
          obtain ⟨rfl, rfl, rfl⟩ := hrel
          have u0 := HT.out
          obtain ⟨q0, q1, q2⟩ := BxM.cells (MK.get u0 3 rfl)
          obtain ⟨p0, p1, p2⟩ := BxM.cells (MK.get u0 0 rfl)
          clear HT
          go_wp2_with fail
          refine (CC.out _ _ _ (MK.get u0 4 rfl) (MK.get u0 1 rfl) (MK.get u0 5 rfl)).mono ?_
          rintro e w8 ⟨rfl, hb⟩
          have u1 := MT.next u0 hb
          clear hb u0 q0 q1 q2 p0 p1 p2 CC
          go_wp2_with fail
          refine (elives_walk _).mono ?_
          rintro e w9 ⟨rfl, hb⟩
          have hfin := (MT.next u1 hb).2.1
          clear hb u1
          go_wp2_with fail
          go_ret
          exact ⟨rfl, hfin⟩
      case inr =>
        have hkd : decide ((0 : Int) < KR) = true := decide_eq_true (by omega)
        go_wp2_with fail
        go_loopw [9, 23] (fun u v wr => u = .int .i64 Z ∧ v = .int .i64 0 ∧ wr = w7) (fun _ _ _ => 0)
        case atStart => exact ⟨rfl, rfl, rfl⟩
        case round =>
          obtain ⟨rfl, rfl, rfl⟩ := hrel
          have u0 := HT.out
          obtain ⟨q0, q1, q2⟩ := BxM.cells (MK.get u0 3 rfl)
          obtain ⟨p0, p1, p2⟩ := BxM.cells (MK.get u0 0 rfl)
          clear HT
          go_wp2_with fail
          refine (CC.out _ _ _ (MK.get u0 4 rfl) (MK.get u0 1 rfl) (MK.get u0 5 rfl)).mono ?_
          rintro e w8 ⟨rfl, hb⟩
          have u1 := MT.next u0 hb
          clear hb u0 q0 q1 q2 p0 p1 p2 CC
          go_wp2_with fail
          refine (elives_walk _).mono ?_
          rintro e w9 ⟨rfl, hb⟩
          have hfin := (MT.next u1 hb).2.1
          clear hb u1
          go_wp2_with fail
          go_ret
          exact ⟨rfl, hfin⟩

set_option maxRecDepth 100000 in
set_option maxHeartbeats 4000000 in
/-- The machine is not valid; many rows. -/
theorem eerr_A2 (ri ro : Int) (X : Option Addr) (cx N : Nat) (rs : List (List Ed)) (a b dd : Int) (q : Bool) (A : Option Addr) (ca EL : Nat) (P : Option Addr) (KR cP : Nat) (R : List (Int × Int)) (w : World) (hx : RdR w X rs) (hN : rs.length = N) (hp : RdP w P R) (hKR : R.length = KR)
    (h70 : N ≤ 70) (h60 : KR ≤ 60) (hrw : ∀ row ∈ rs, row.length ≤ 20) (es : List Int) (h16 : Rd16 w A es) (hEL : es.length = EL) (hle : es.length ≤ 9223372036854775807) (ha : 0 ≤ a ∧ a ≤ 255) (hb : 0 ≤ b ∧ b ≤ 255) (hd : 0 ≤ dd ∧ dd ≤ 255) (hz : Mc.chk ⟨ri, ro, rs⟩ ≠ 0) (hbig : 65 ≤ N) :
    Calls Try.prog 8 #[.agg #[.int .i64 ri, .int .i64 ro, .slice X N cx], .agg #[.int .u8 a, .int .u8 b, .int .u8 dd, .bool q, .slice A EL ca], .slice P KR cP] w fun e w' => e = .returned (.bool true) ∧ Below w.heap.size w w' := by
  have hk6 : N ≤ 1000000 := by omega
  have hrl : ∀ row ∈ rs, row.length ≤ 1000000 := fun row hrow => by have := hrw row hrow; omega
  have HN := Lib.hid hN
  have HRW := Lib.hid hrw
  obtain ⟨n, hn⟩ : ∃ n : Nat, 1 + a % 6 = n := ⟨(1 + a % 6).toNat, by omega⟩
  obtain ⟨i, hi⟩ : ∃ i : Nat, 1 + b % 3 = i := ⟨(1 + b % 3).toNat, by omega⟩
  obtain ⟨o, ho⟩ : ∃ o : Nat, 1 + dd % 3 = o := ⟨(1 + dd % 3).toNat, by omega⟩
  have V := Lib.hid (Mc.mkN_val (p := q) (n := n) (i := i) (o := o) (es := es) (by omega) (by omega) (by omega) (by omega) (by omega) (by omega))
  have hlen : Hid ((Mc.mkN q n i o es).r.length = n) := Mc.mkN_len _ _ _ _ _
  have hmi : Hid ((Mc.mkN q n i o es).i = i) := rfl
  have hmo : Hid ((Mc.mkN q n i o es).o = o) := rfl
  obtain ⟨M, hM⟩ : ∃ M, Mc.mkN q n i o es = M := ⟨_, rfl⟩
  rw [hM] at V hlen hmi hmo
  have hn6 : n ≤ 6 := by omega
  have CO : Hid (∀ w, Rd16 w A es → Calls Try.prog 37 #[.agg #[.int .u8 a, .int .u8 b, .int .u8 dd, .bool q, .slice A EL ca]] w fun e w' => ∃ B k, e = .returned (.agg #[.int .i64 i, .int .i64 o, .slice B n k]) ∧ RdR w' B M.r ∧ Below w.heap.size w w') := fun w hr => by
    have h := mof_at a b dd q A ca es n i o w hr hle ha hb hd hn hi ho
    rw [hEL, hM] at h
    exact h
  obtain ⟨Z, hchk⟩ : ∃ Z, Mc.chk ⟨ri, ro, rs⟩ = Z := ⟨_, rfl⟩
  rw [hchk] at hz
  have hE1 : ech ⟨ri, ro, rs⟩ M = Z := by unfold ech; rw [hchk, if_pos hz]
  have hE2 : ech M ⟨ri, ro, rs⟩ = Z := by unfold ech; rw [if_neg (by rw [Mc.chk_of V.out]; simp), hchk, if_pos hz]
  have CK : Hid (∀ w, RdR w X rs → Calls Try.prog 38 #[.agg #[.int .i64 ri, .int .i64 ro, .slice X N cx]] w fun e w' => e = .returned (.int .i64 Z) ∧ Below w.heap.size w w') := fun w hr => by
    have h := rmcheck_any ⟨ri, ro, rs⟩ X cx w hr (by simp only; omega)
    simp only [hN, hchk] at h
    exact h
  have CD : Hid (∀ B k w, RdR w X rs → RdR w B M.r → RdP w P R → Calls Try.prog 21 #[.agg #[.int .i64 ri, .int .i64 ro, .slice X N cx], .agg #[.int .i64 i, .int .i64 o, .slice B n k]] w fun e w' => ∃ X, e = .returned (.tuple #[.slice X 0 0, .bool false, .int .i64 Z]) ∧ Below w.heap.size w w') := fun B k w hr hrM hrp =>
    dif_Z ⟨ri, ro, rs⟩ M ri ro i o X B N cx n k w Z rfl rfl hmi.out hmo.out hr hN hk6 hrl hrM hlen.out (by omega) V.out.rowsE hE1 hz
  have CE : Hid (∀ B k w, RdR w X rs → RdR w B M.r → RdP w P R → Calls Try.prog 21 #[.agg #[.int .i64 i, .int .i64 o, .slice B n k], .agg #[.int .i64 ri, .int .i64 ro, .slice X N cx]] w fun e w' => ∃ X, e = .returned (.tuple #[.slice X 0 0, .bool false, .int .i64 Z]) ∧ Below w.heap.size w w') := fun B k w hr hrM hrp =>
    dif_Z M ⟨ri, ro, rs⟩ i o ri ro B X n k N cx w Z hmi.out hmo.out rfl rfl hrM hlen.out (by omega) V.out.rowsE hr hN hk6 hrl hE2 hz
  have CQ : Hid (∀ B k w, RdR w X rs → RdR w B M.r → RdP w P R → Calls Try.prog 28 #[.agg #[.int .i64 i, .int .i64 o, .slice B n k], .agg #[.int .i64 ri, .int .i64 ro, .slice X N cx]] w fun e w' => e = .returned (.tuple #[.bool false, .int .i64 Z]) ∧ Below w.heap.size w w') := fun B k w hr hrM hrp =>
    equ_Z M ⟨ri, ro, rs⟩ i o ri ro B X n k N cx w Z hmi.out hmo.out rfl rfl hrM hlen.out (by omega) V.out.rowsE hr hN hk6 hrl hE2 hz
  have CR : Hid (∀ B k w, RdR w X rs → RdR w B M.r → RdP w P R → Calls Try.prog 32 #[.agg #[.int .i64 i, .int .i64 o, .slice B n k], .agg #[.int .i64 ri, .int .i64 ro, .slice X N cx]] w fun e w' => e = .returned (.tuple #[.slice none 0 0, .bool false, .int .i64 Z]) ∧ Below w.heap.size w w') := fun B k w hr hrM hrp =>
    rel_Z M ⟨ri, ro, rs⟩ i o ri ro B X n k N cx w Z hmi.out hmo.out rfl rfl hrM hlen.out (by omega) V.out.rowsE hr hN hk6 hrl hE2 hz
  have hpc : pck ⟨ri, ro, rs⟩ M R = Z := by unfold pck; rw [hE1, if_pos hz]
  have CC : Hid (∀ B k w, RdR w X rs → RdR w B M.r → RdP w P R → Calls Try.prog 35 #[.agg #[.int .i64 ri, .int .i64 ro, .slice X N cx], .agg #[.int .i64 i, .int .i64 o, .slice B n k], .slice P KR cP] w fun e w' => e = .returned (.tuple #[.bool false, .int .i64 Z]) ∧ Below w.heap.size w w') := fun B k w hr hrM hrp =>
    cre_Z ⟨ri, ro, rs⟩ M ri ro i o X B N cx n k w Z rfl rfl hmi.out hmo.out hr hN hk6 hrl hrM hlen.out (by omega) V.out.rowsE P KR cP R hrp hKR (by omega) hpc hz
  have CW : Hid (∀ B k w, RdR w X rs → RdR w B M.r → RdP w P R → Calls Try.prog 31 #[.agg #[.int .i64 ri, .int .i64 ro, .slice X N cx], .agg #[.int .i64 i, .int .i64 o, .slice B n k], .int .i64 (-1)] w fun e w' => e = .returned (.tuple #[.bool false, .int .i64 Z]) ∧ Below w.heap.size w w') := fun B k w hr hrM hrp =>
    win_N ⟨ri, ro, rs⟩ M ri ro i o X B N cx n k w Z rfl rfl hmi.out hmo.out hr hN hk6 hrl hrM hlen.out (by omega) V.out.rowsE hE1 Z (if_pos hz)
  have HR := Lib.hid h16
  have hz2 : (Z == 0) = false := by simp [hz]
  have hz3 : ¬ Z = 0 := hz
  clear hN hrw hrl hKR hchk hz hpc h16 hEL hle ha hb hd hn hi ho V hlen hmi hmo hM hE1 hE2
  have s1 : MT w w _ := MK.putR (MK.putP MT.start hp) hx
  clear hx hp
  obtain ⟨K0, hK0⟩ : ∃ K0, w.heap.size = K0 := ⟨_, rfl⟩
  have s2 := MK.putB (g := w.heap.size) (MT.alloc s1 (.cells #[.int .i64 ri, .int .i64 ro, .slice X N cx] 24)) (heap_alloc_new w _)
  have s4 := MT.putK (P := fun w => w.heap[K0 + 1]? = some (.cells #[.int .u8 a, .int .u8 b, .int .u8 dd, .bool q, .slice A EL ca] 39)) (MT.alloc s2 (.cells #[.int .u8 a, .int .u8 b, .int .u8 dd, .bool q, .slice A EL ca] 39))
    (by
      have h := heap_alloc_new (w.alloc (.cells #[.int .i64 ri, .int .i64 ro, .slice X N cx] 24)) (.cells #[.int .u8 a, .int .u8 b, .int .u8 dd, .bool q, .slice A EL ca] 39)
      rw [World.size_alloc, hK0] at h
      exact h) (fun _ _ h hb => (hb.block _ (heap_lt h)).trans h)
  rw [hK0] at s4
  clear s1 s2
  go_enter Try.func8, Try.ntmps8
  go_upto_region 1 with fail
  obtain ⟨W0, hW0⟩ : ∃ W0, (w.alloc (.cells #[.int .i64 ri, .int .i64 ro, .slice X N cx] 24)).alloc (.cells #[.int .u8 a, .int .u8 b, .int .u8 dd, .bool q, .slice A EL ca] 39) = W0 := ⟨_, rfl⟩
  rw [hW0] at s4
  rw [hW0]
  clear hW0
  obtain ⟨q0, q1, q2⟩ := BxM.cells (MK.get s4 1 rfl)
  have hd20 : decide ((20 : Int) < N) = true := decide_eq_true (by omega)
  have hd65 : decide ((N : Int) < 65) = false := decide_eq_false (by omega)
  have hd70 : decide ((70 : Int) < N) = false := decide_eq_false (by omega)
  have hd60 : decide ((60 : Int) < KR) = false := decide_eq_false (by omega)
  go_wp2
  clear q0 q1 q2 hd70 hd20 hd60 hd65
  have SF := Lib.hid s4
  clear s4
  go_loopw [7] (fun v wr => ∃ k : Nat, k ≤ N ∧ v = .int .i64 k ∧ Hid (Below W0.heap.size W0 wr)) (fun v _ => N - (intOf v).toNat)
  case atStart => exact ⟨0, by omega, rfl, Below.refl _ _⟩
  case round =>
    obtain ⟨k, hk, rfl, hbr⟩ := hrel
    have sK := MT.next SF.out hbr.out
    obtain ⟨q0, q1, q2⟩ := BxM.cells (MK.get sK 1 rfl)
    by_cases hlt : k < N
    · have hkn : (k : Int) < N := by omega
      obtain ⟨br, ofr, Br, cr, nr, row, rfl, _, hcr, _, _, _, _, hrl, hrk⟩ := (MK.get sK 2 rfl).at_ (k := k) (by rw [HN.out]; exact hlt)
      have hnr : nr ≤ 20 := by rw [← hrl.out]; exact HRW.out row (List.mem_of_getElem? hrk.out)
      have hd20 : decide ((20 : Int) < nr) = false := decide_eq_false (by omega)
      clear sK hrl hrk
      go_wp2
      go_roundw
      case rel => exact ⟨k + 1, by omega, by go_num, hbr⟩
      case measure => simp [intOf]; omega
    · have hkn : decide ((k : Int) < N) = false := decide_eq_false (by omega)
      have HHR := Lib.hid (HR.out.below sK.2.1)
      have y5 : wr.cell? ⟨K0 + 1, 0, none⟩ = some (.int .u8 a) ∧ wr.cell? ⟨K0 + 1, 1, none⟩ = some (.int .u8 b) ∧ wr.cell? ⟨K0 + 1, 2, none⟩ = some (.int .u8 dd) ∧ wr.cell? ⟨K0 + 1, 3, none⟩ = some (.bool q) ∧ wr.cell? ⟨K0 + 1, 4, none⟩ = some (.slice A EL ca) := by
        have h1 := MK.get sK 0 rfl
        refine ⟨?_, ?_, ?_, ?_, ?_⟩ <;> (rw [cell_of_row _ _ _ _ _ _ h1]; rfl)
      obtain ⟨a3, a4, a5, a6, a7⟩ := y5
      clear SF hbr HRW
      go_wp2_with fail
      refine (CO.out _ HHR.out).mono ?_
      rintro e w1 ⟨B, k1, rfl, hrB, hb⟩
      have t1 := MK.putB (g := w1.heap.size) (MT.alloc (MK.putR (MT.next sK hb) hrB) (.cells #[.int .i64 i, .int .i64 o, .slice B n k1] 24)) (heap_alloc_new w1 _)
      clear hb hrB sK q0 q1 q2 a3 a4 a5 a6 a7 CO
      go_upto_region 9 with fail
      obtain ⟨gc, hgc⟩ : ∃ g, w1.heap.size = g := ⟨_, rfl⟩
      obtain ⟨W2, hW2⟩ : ∃ W, w1.alloc (.cells #[.int .i64 i, .int .i64 o, .slice B n k1] 24) = W := ⟨_, rfl⟩
      rw [hgc, hW2] at t1
      try rw [hgc]
      try rw [hW2]
      clear hgc hW2
      obtain ⟨q0, q1, q2⟩ := BxM.cells (MK.get t1 3 rfl)
      go_wp2_with fail
      refine (CK.out _ (MK.get t1 4 rfl)).mono ?_
      rintro e w2 ⟨rfl, hb⟩
      have t2 := MT.next t1 hb
      clear hb t1 q0 q1 q2 CK
      obtain ⟨q0, q1, q2⟩ := BxM.cells (MK.get t2 3 rfl)
      obtain ⟨p0, p1, p2⟩ := BxM.cells (MK.get t2 0 rfl)
      go_wp2_with fail
      refine (CD.out _ _ _ (MK.get t2 4 rfl) (MK.get t2 1 rfl) (MK.get t2 5 rfl)).mono ?_
      rintro e w3 ⟨X1, rfl, hb⟩
      have t3 := MT.next t2 hb
      clear hb t2 q0 q1 q2 p0 p1 p2 CD
      obtain ⟨q0, q1, q2⟩ := BxM.cells (MK.get t3 3 rfl)
      obtain ⟨p0, p1, p2⟩ := BxM.cells (MK.get t3 0 rfl)
      go_wp2_with fail
      refine (CE.out _ _ _ (MK.get t3 4 rfl) (MK.get t3 1 rfl) (MK.get t3 5 rfl)).mono ?_
      rintro e w4 ⟨X2, rfl, hb⟩
      have t4 := MT.next t3 hb
      clear hb t3 q0 q1 q2 p0 p1 p2 CE
      obtain ⟨q0, q1, q2⟩ := BxM.cells (MK.get t4 3 rfl)
      obtain ⟨p0, p1, p2⟩ := BxM.cells (MK.get t4 0 rfl)
      go_wp2_with fail
      refine (CQ.out _ _ _ (MK.get t4 4 rfl) (MK.get t4 1 rfl) (MK.get t4 5 rfl)).mono ?_
      rintro e w5 ⟨rfl, hb⟩
      have t5 := MT.next t4 hb
      clear hb t4 q0 q1 q2 p0 p1 p2 CQ
      obtain ⟨q0, q1, q2⟩ := BxM.cells (MK.get t5 3 rfl)
      obtain ⟨p0, p1, p2⟩ := BxM.cells (MK.get t5 0 rfl)
      go_wp2_with fail
      refine (CW.out _ _ _ (MK.get t5 4 rfl) (MK.get t5 1 rfl) (MK.get t5 5 rfl)).mono ?_
      rintro e w6 ⟨rfl, hb⟩
      have t6 := MT.next t5 hb
      clear hb t5 q0 q1 q2 p0 p1 p2 CW
      obtain ⟨q0, q1, q2⟩ := BxM.cells (MK.get t6 3 rfl)
      obtain ⟨p0, p1, p2⟩ := BxM.cells (MK.get t6 0 rfl)
      go_wp2_with fail
      refine (CR.out _ _ _ (MK.get t6 4 rfl) (MK.get t6 1 rfl) (MK.get t6 5 rfl)).mono ?_
      rintro e w7 ⟨rfl, hb⟩
      have t7 := MT.next t6 hb
      clear hb t6 q0 q1 q2 p0 p1 p2 CR
      have HT := Lib.hid t7
      clear t7
      rcases Nat.eq_zero_or_pos KR with hk0 | hk0
      case inl =>
        subst hk0
        go_wp2_with fail
        go_loopw [9, 23] (fun u v wr => u = .int .i64 Z ∧ v = .int .i64 0 ∧ wr = w7) (fun _ _ _ => 0)
        case atStart => exact ⟨rfl, rfl, rfl⟩
        case round =>
          obtain ⟨rfl, rfl, rfl⟩ := hrel
          have u0 := HT.out
          obtain ⟨q0, q1, q2⟩ := BxM.cells (MK.get u0 3 rfl)
          obtain ⟨p0, p1, p2⟩ := BxM.cells (MK.get u0 0 rfl)
          clear HT
          go_wp2_with fail
          refine (CC.out _ _ _ (MK.get u0 4 rfl) (MK.get u0 1 rfl) (MK.get u0 5 rfl)).mono ?_
          rintro e w8 ⟨rfl, hb⟩
          have u1 := MT.next u0 hb
          clear hb u0 q0 q1 q2 p0 p1 p2 CC
          go_wp2_with fail
          refine (elives_walk _).mono ?_
          rintro e w9 ⟨rfl, hb⟩
          have hfin := (MT.next u1 hb).2.1
          clear hb u1
          go_wp2_with fail
          go_ret
          exact ⟨rfl, hfin⟩
      case inr =>
        have hkd : decide ((0 : Int) < KR) = true := decide_eq_true (by omega)
        go_wp2_with fail
        go_loopw [9, 23] (fun u v wr => u = .int .i64 Z ∧ v = .int .i64 0 ∧ wr = w7) (fun _ _ _ => 0)
        case atStart => exact ⟨rfl, rfl, rfl⟩
        case round =>
          obtain ⟨rfl, rfl, rfl⟩ := hrel
          have u0 := HT.out
          obtain ⟨q0, q1, q2⟩ := BxM.cells (MK.get u0 3 rfl)
          obtain ⟨p0, p1, p2⟩ := BxM.cells (MK.get u0 0 rfl)
          clear HT
          go_wp2_with fail
          refine (CC.out _ _ _ (MK.get u0 4 rfl) (MK.get u0 1 rfl) (MK.get u0 5 rfl)).mono ?_
          rintro e w8 ⟨rfl, hb⟩
          have u1 := MT.next u0 hb
          clear hb u0 q0 q1 q2 p0 p1 p2 CC
          go_wp2_with fail
          refine (elives_walk _).mono ?_
          rintro e w9 ⟨rfl, hb⟩
          have hfin := (MT.next u1 hb).2.1
          clear hb u1
          go_wp2_with fail
          go_ret
          exact ⟨rfl, hfin⟩

set_option maxRecDepth 100000 in
set_option maxHeartbeats 4000000 in
/-- The machines have not as many inputs. -/
theorem eerr_B (ri ro : Int) (X : Option Addr) (cx N : Nat) (rs : List (List Ed)) (a b dd : Int) (q : Bool) (A : Option Addr) (ca EL : Nat) (P : Option Addr) (KR cP : Nat) (R : List (Int × Int)) (w : World) (hx : RdR w X rs) (hN : rs.length = N) (hp : RdP w P R) (hKR : R.length = KR)
    (h70 : N ≤ 70) (h60 : KR ≤ 60) (hrw : ∀ row ∈ rs, row.length ≤ 20) (es : List Int) (h16 : Rd16 w A es) (hEL : es.length = EL) (hle : es.length ≤ 9223372036854775807) (ha : 0 ≤ a ∧ a ≤ 255) (hb : 0 ≤ b ∧ b ≤ 255) (hd : 0 ≤ dd ∧ dd ≤ 255) (hz : Mc.chk ⟨ri, ro, rs⟩ = 0) (hbig : N ≤ 20) (hii0 : ri ≠ 1 + b % 3) :
    Calls Try.prog 8 #[.agg #[.int .i64 ri, .int .i64 ro, .slice X N cx], .agg #[.int .u8 a, .int .u8 b, .int .u8 dd, .bool q, .slice A EL ca], .slice P KR cP] w fun e w' => e = .returned (.bool true) ∧ Below w.heap.size w w' := by
  have hk6 : N ≤ 1000000 := by omega
  have hrl : ∀ row ∈ rs, row.length ≤ 1000000 := fun row hrow => by have := hrw row hrow; omega
  have HN := Lib.hid hN
  have HRW := Lib.hid hrw
  obtain ⟨n, hn⟩ : ∃ n : Nat, 1 + a % 6 = n := ⟨(1 + a % 6).toNat, by omega⟩
  obtain ⟨i, hi⟩ : ∃ i : Nat, 1 + b % 3 = i := ⟨(1 + b % 3).toNat, by omega⟩
  obtain ⟨o, ho⟩ : ∃ o : Nat, 1 + dd % 3 = o := ⟨(1 + dd % 3).toNat, by omega⟩
  have V := Lib.hid (Mc.mkN_val (p := q) (n := n) (i := i) (o := o) (es := es) (by omega) (by omega) (by omega) (by omega) (by omega) (by omega))
  have hlen : Hid ((Mc.mkN q n i o es).r.length = n) := Mc.mkN_len _ _ _ _ _
  have hmi : Hid ((Mc.mkN q n i o es).i = i) := rfl
  have hmo : Hid ((Mc.mkN q n i o es).o = o) := rfl
  obtain ⟨M, hM⟩ : ∃ M, Mc.mkN q n i o es = M := ⟨_, rfl⟩
  rw [hM] at V hlen hmi hmo
  have hn6 : n ≤ 6 := by omega
  have CO : Hid (∀ w, Rd16 w A es → Calls Try.prog 37 #[.agg #[.int .u8 a, .int .u8 b, .int .u8 dd, .bool q, .slice A EL ca]] w fun e w' => ∃ B k, e = .returned (.agg #[.int .i64 i, .int .i64 o, .slice B n k]) ∧ RdR w' B M.r ∧ Below w.heap.size w w') := fun w hr => by
    have h := mof_at a b dd q A ca es n i o w hr hle ha hb hd hn hi ho
    rw [hEL, hM] at h
    exact h
  have hchk := hz
  have hii : ri ≠ i := by rw [← hi]; exact hii0
  have hE1 : ech ⟨ri, ro, rs⟩ M = 5 := by unfold ech; rw [if_neg (by rw [hz]; simp), if_neg (by rw [Mc.chk_of V.out]; simp), if_pos (by rw [hmi.out]; exact hii)]
  have hE2 : ech M ⟨ri, ro, rs⟩ = 5 := by unfold ech; rw [if_neg (by rw [Mc.chk_of V.out]; simp), if_neg (by rw [hz]; simp), if_pos (by rw [hmi.out]; exact fun e => hii e.symm)]
  have CK : Hid (∀ w, RdR w X rs → Calls Try.prog 38 #[.agg #[.int .i64 ri, .int .i64 ro, .slice X N cx]] w fun e w' => e = .returned (.int .i64 0) ∧ Below w.heap.size w w') := fun w hr => by
    have h := rmcheck_any ⟨ri, ro, rs⟩ X cx w hr (by simp only; omega)
    simp only [hN, hchk] at h
    exact h
  have CD : Hid (∀ B k w, RdR w X rs → RdR w B M.r → RdP w P R → Calls Try.prog 21 #[.agg #[.int .i64 ri, .int .i64 ro, .slice X N cx], .agg #[.int .i64 i, .int .i64 o, .slice B n k]] w fun e w' => ∃ X, e = .returned (.tuple #[.slice X 0 0, .bool false, .int .i64 5]) ∧ Below w.heap.size w w') := fun B k w hr hrM hrp =>
    dif_Z ⟨ri, ro, rs⟩ M ri ro i o X B N cx n k w 5 rfl rfl hmi.out hmo.out hr hN hk6 hrl hrM hlen.out (by omega) V.out.rowsE hE1 (by decide)
  have CE : Hid (∀ B k w, RdR w X rs → RdR w B M.r → RdP w P R → Calls Try.prog 21 #[.agg #[.int .i64 i, .int .i64 o, .slice B n k], .agg #[.int .i64 ri, .int .i64 ro, .slice X N cx]] w fun e w' => ∃ X, e = .returned (.tuple #[.slice X 0 0, .bool false, .int .i64 5]) ∧ Below w.heap.size w w') := fun B k w hr hrM hrp =>
    dif_Z M ⟨ri, ro, rs⟩ i o ri ro B X n k N cx w 5 hmi.out hmo.out rfl rfl hrM hlen.out (by omega) V.out.rowsE hr hN hk6 hrl hE2 (by decide)
  have CQ : Hid (∀ B k w, RdR w X rs → RdR w B M.r → RdP w P R → Calls Try.prog 28 #[.agg #[.int .i64 i, .int .i64 o, .slice B n k], .agg #[.int .i64 ri, .int .i64 ro, .slice X N cx]] w fun e w' => e = .returned (.tuple #[.bool false, .int .i64 5]) ∧ Below w.heap.size w w') := fun B k w hr hrM hrp =>
    equ_Z M ⟨ri, ro, rs⟩ i o ri ro B X n k N cx w 5 hmi.out hmo.out rfl rfl hrM hlen.out (by omega) V.out.rowsE hr hN hk6 hrl hE2 (by decide)
  have CR : Hid (∀ B k w, RdR w X rs → RdR w B M.r → RdP w P R → Calls Try.prog 32 #[.agg #[.int .i64 i, .int .i64 o, .slice B n k], .agg #[.int .i64 ri, .int .i64 ro, .slice X N cx]] w fun e w' => e = .returned (.tuple #[.slice none 0 0, .bool false, .int .i64 5]) ∧ Below w.heap.size w w') := fun B k w hr hrM hrp =>
    rel_Z M ⟨ri, ro, rs⟩ i o ri ro B X n k N cx w 5 hmi.out hmo.out rfl rfl hrM hlen.out (by omega) V.out.rowsE hr hN hk6 hrl hE2 (by decide)
  have hpc : pck ⟨ri, ro, rs⟩ M R = 5 := by unfold pck; rw [hE1, if_pos (by decide)]
  have CC : Hid (∀ B k w, RdR w X rs → RdR w B M.r → RdP w P R → Calls Try.prog 35 #[.agg #[.int .i64 ri, .int .i64 ro, .slice X N cx], .agg #[.int .i64 i, .int .i64 o, .slice B n k], .slice P KR cP] w fun e w' => e = .returned (.tuple #[.bool false, .int .i64 5]) ∧ Below w.heap.size w w') := fun B k w hr hrM hrp =>
    cre_Z ⟨ri, ro, rs⟩ M ri ro i o X B N cx n k w 5 rfl rfl hmi.out hmo.out hr hN hk6 hrl hrM hlen.out (by omega) V.out.rowsE P KR cP R hrp hKR (by omega) hpc (by decide)
  have CW : Hid (∀ B k w, RdR w X rs → RdR w B M.r → RdP w P R → Calls Try.prog 31 #[.agg #[.int .i64 ri, .int .i64 ro, .slice X N cx], .agg #[.int .i64 i, .int .i64 o, .slice B n k], .int .i64 (-1)] w fun e w' => e = .returned (.tuple #[.bool false, .int .i64 5]) ∧ Below w.heap.size w w') := fun B k w hr hrM hrp =>
    win_N ⟨ri, ro, rs⟩ M ri ro i o X B N cx n k w 5 rfl rfl hmi.out hmo.out hr hN hk6 hrl hrM hlen.out (by omega) V.out.rowsE hE1 5 (by decide)
  have HR := Lib.hid h16
  have hib : (ri == (i : Int)) = false := by rw [beq_eq_false_iff_ne]; exact hii
  clear hN hrw hrl hKR hchk hz hpc h16 hEL hle ha hb hd hn hi ho V hlen hmi hmo hM hE1 hE2
  have s1 : MT w w _ := MK.putR (MK.putP MT.start hp) hx
  clear hx hp
  obtain ⟨K0, hK0⟩ : ∃ K0, w.heap.size = K0 := ⟨_, rfl⟩
  have s2 := MK.putB (g := w.heap.size) (MT.alloc s1 (.cells #[.int .i64 ri, .int .i64 ro, .slice X N cx] 24)) (heap_alloc_new w _)
  have s4 := MT.putK (P := fun w => w.heap[K0 + 1]? = some (.cells #[.int .u8 a, .int .u8 b, .int .u8 dd, .bool q, .slice A EL ca] 39)) (MT.alloc s2 (.cells #[.int .u8 a, .int .u8 b, .int .u8 dd, .bool q, .slice A EL ca] 39))
    (by
      have h := heap_alloc_new (w.alloc (.cells #[.int .i64 ri, .int .i64 ro, .slice X N cx] 24)) (.cells #[.int .u8 a, .int .u8 b, .int .u8 dd, .bool q, .slice A EL ca] 39)
      rw [World.size_alloc, hK0] at h
      exact h) (fun _ _ h hb => (hb.block _ (heap_lt h)).trans h)
  rw [hK0] at s4
  clear s1 s2
  go_enter Try.func8, Try.ntmps8
  go_upto_region 1 with fail
  obtain ⟨W0, hW0⟩ : ∃ W0, (w.alloc (.cells #[.int .i64 ri, .int .i64 ro, .slice X N cx] 24)).alloc (.cells #[.int .u8 a, .int .u8 b, .int .u8 dd, .bool q, .slice A EL ca] 39) = W0 := ⟨_, rfl⟩
  rw [hW0] at s4
  rw [hW0]
  clear hW0
  obtain ⟨q0, q1, q2⟩ := BxM.cells (MK.get s4 1 rfl)
  have hd20 : decide ((20 : Int) < N) = false := decide_eq_false (by omega)
  have hd70 : decide ((70 : Int) < N) = false := decide_eq_false (by omega)
  have hd60 : decide ((60 : Int) < KR) = false := decide_eq_false (by omega)
  go_wp2
  clear q0 q1 q2 hd70 hd20 hd60
  have SF := Lib.hid s4
  clear s4
  go_loopw [7] (fun v wr => ∃ k : Nat, k ≤ N ∧ v = .int .i64 k ∧ Hid (Below W0.heap.size W0 wr)) (fun v _ => N - (intOf v).toNat)
  case atStart => exact ⟨0, by omega, rfl, Below.refl _ _⟩
  case round =>
    obtain ⟨k, hk, rfl, hbr⟩ := hrel
    have sK := MT.next SF.out hbr.out
    obtain ⟨q0, q1, q2⟩ := BxM.cells (MK.get sK 1 rfl)
    by_cases hlt : k < N
    · have hkn : (k : Int) < N := by omega
      obtain ⟨br, ofr, Br, cr, nr, row, rfl, _, hcr, _, _, _, _, hrl, hrk⟩ := (MK.get sK 2 rfl).at_ (k := k) (by rw [HN.out]; exact hlt)
      have hnr : nr ≤ 20 := by rw [← hrl.out]; exact HRW.out row (List.mem_of_getElem? hrk.out)
      have hd20 : decide ((20 : Int) < nr) = false := decide_eq_false (by omega)
      clear sK hrl hrk
      go_wp2
      go_roundw
      case rel => exact ⟨k + 1, by omega, by go_num, hbr⟩
      case measure => simp [intOf]; omega
    · have hkn : decide ((k : Int) < N) = false := decide_eq_false (by omega)
      have HHR := Lib.hid (HR.out.below sK.2.1)
      have y5 : wr.cell? ⟨K0 + 1, 0, none⟩ = some (.int .u8 a) ∧ wr.cell? ⟨K0 + 1, 1, none⟩ = some (.int .u8 b) ∧ wr.cell? ⟨K0 + 1, 2, none⟩ = some (.int .u8 dd) ∧ wr.cell? ⟨K0 + 1, 3, none⟩ = some (.bool q) ∧ wr.cell? ⟨K0 + 1, 4, none⟩ = some (.slice A EL ca) := by
        have h1 := MK.get sK 0 rfl
        refine ⟨?_, ?_, ?_, ?_, ?_⟩ <;> (rw [cell_of_row _ _ _ _ _ _ h1]; rfl)
      obtain ⟨a3, a4, a5, a6, a7⟩ := y5
      clear SF hbr HRW
      go_wp2_with fail
      refine (CO.out _ HHR.out).mono ?_
      rintro e w1 ⟨B, k1, rfl, hrB, hb⟩
      have t1 := MK.putB (g := w1.heap.size) (MT.alloc (MK.putR (MT.next sK hb) hrB) (.cells #[.int .i64 i, .int .i64 o, .slice B n k1] 24)) (heap_alloc_new w1 _)
      clear hb hrB sK q0 q1 q2 a3 a4 a5 a6 a7 CO
      go_upto_region 9 with fail
      obtain ⟨gc, hgc⟩ : ∃ g, w1.heap.size = g := ⟨_, rfl⟩
      obtain ⟨W2, hW2⟩ : ∃ W, w1.alloc (.cells #[.int .i64 i, .int .i64 o, .slice B n k1] 24) = W := ⟨_, rfl⟩
      rw [hgc, hW2] at t1
      try rw [hgc]
      try rw [hW2]
      clear hgc hW2
      obtain ⟨q0, q1, q2⟩ := BxM.cells (MK.get t1 3 rfl)
      go_wp2_with fail
      refine (CK.out _ (MK.get t1 4 rfl)).mono ?_
      rintro e w2 ⟨rfl, hb⟩
      have t2 := MT.next t1 hb
      clear hb t1 q0 q1 q2 CK
      obtain ⟨q0, q1, q2⟩ := BxM.cells (MK.get t2 3 rfl)
      obtain ⟨p0, p1, p2⟩ := BxM.cells (MK.get t2 0 rfl)
      go_wp2_with fail
      refine (CD.out _ _ _ (MK.get t2 4 rfl) (MK.get t2 1 rfl) (MK.get t2 5 rfl)).mono ?_
      rintro e w3 ⟨X1, rfl, hb⟩
      have t3 := MT.next t2 hb
      clear hb t2 q0 q1 q2 p0 p1 p2 CD
      obtain ⟨q0, q1, q2⟩ := BxM.cells (MK.get t3 3 rfl)
      obtain ⟨p0, p1, p2⟩ := BxM.cells (MK.get t3 0 rfl)
      go_wp2_with fail
      refine (CE.out _ _ _ (MK.get t3 4 rfl) (MK.get t3 1 rfl) (MK.get t3 5 rfl)).mono ?_
      rintro e w4 ⟨X2, rfl, hb⟩
      have t4 := MT.next t3 hb
      clear hb t3 q0 q1 q2 p0 p1 p2 CE
      obtain ⟨q0, q1, q2⟩ := BxM.cells (MK.get t4 3 rfl)
      obtain ⟨p0, p1, p2⟩ := BxM.cells (MK.get t4 0 rfl)
      go_wp2_with fail
      refine (CQ.out _ _ _ (MK.get t4 4 rfl) (MK.get t4 1 rfl) (MK.get t4 5 rfl)).mono ?_
      rintro e w5 ⟨rfl, hb⟩
      have t5 := MT.next t4 hb
      clear hb t4 q0 q1 q2 p0 p1 p2 CQ
      obtain ⟨q0, q1, q2⟩ := BxM.cells (MK.get t5 3 rfl)
      obtain ⟨p0, p1, p2⟩ := BxM.cells (MK.get t5 0 rfl)
      go_wp2_with fail
      refine (CW.out _ _ _ (MK.get t5 4 rfl) (MK.get t5 1 rfl) (MK.get t5 5 rfl)).mono ?_
      rintro e w6 ⟨rfl, hb⟩
      have t6 := MT.next t5 hb
      clear hb t5 q0 q1 q2 p0 p1 p2 CW
      obtain ⟨q0, q1, q2⟩ := BxM.cells (MK.get t6 3 rfl)
      obtain ⟨p0, p1, p2⟩ := BxM.cells (MK.get t6 0 rfl)
      go_wp2_with fail
      refine (CR.out _ _ _ (MK.get t6 4 rfl) (MK.get t6 1 rfl) (MK.get t6 5 rfl)).mono ?_
      rintro e w7 ⟨rfl, hb⟩
      have t7 := MT.next t6 hb
      clear hb t6 q0 q1 q2 p0 p1 p2 CR
      have HT := Lib.hid t7
      clear t7
      rcases Nat.eq_zero_or_pos KR with hk0 | hk0
      case inl =>
        subst hk0
        go_wp2_with fail
        go_loopw [9, 23] (fun u v wr => u = .int .i64 5 ∧ v = .int .i64 0 ∧ wr = w7) (fun _ _ _ => 0)
        case atStart => exact ⟨rfl, rfl, rfl⟩
        case round =>
          obtain ⟨rfl, rfl, rfl⟩ := hrel
          have u0 := HT.out
          obtain ⟨q0, q1, q2⟩ := BxM.cells (MK.get u0 3 rfl)
          obtain ⟨p0, p1, p2⟩ := BxM.cells (MK.get u0 0 rfl)
          clear HT
          go_wp2_with fail
          refine (CC.out _ _ _ (MK.get u0 4 rfl) (MK.get u0 1 rfl) (MK.get u0 5 rfl)).mono ?_
          rintro e w8 ⟨rfl, hb⟩
          have u1 := MT.next u0 hb
          clear hb u0 q0 q1 q2 p0 p1 p2 CC
          go_wp2_with fail
          refine (elives_walk _).mono ?_
          rintro e w9 ⟨rfl, hb⟩
          have hfin := (MT.next u1 hb).2.1
          clear hb u1
          go_wp2_with fail
          go_ret
          exact ⟨rfl, hfin⟩
      case inr =>
        have hkd : decide ((0 : Int) < KR) = true := decide_eq_true (by omega)
        go_wp2_with fail
        go_loopw [9, 23] (fun u v wr => u = .int .i64 5 ∧ v = .int .i64 0 ∧ wr = w7) (fun _ _ _ => 0)
        case atStart => exact ⟨rfl, rfl, rfl⟩
        case round =>
          obtain ⟨rfl, rfl, rfl⟩ := hrel
          have u0 := HT.out
          obtain ⟨q0, q1, q2⟩ := BxM.cells (MK.get u0 3 rfl)
          obtain ⟨p0, p1, p2⟩ := BxM.cells (MK.get u0 0 rfl)
          clear HT
          go_wp2_with fail
          refine (CC.out _ _ _ (MK.get u0 4 rfl) (MK.get u0 1 rfl) (MK.get u0 5 rfl)).mono ?_
          rintro e w8 ⟨rfl, hb⟩
          have u1 := MT.next u0 hb
          clear hb u0 q0 q1 q2 p0 p1 p2 CC
          go_wp2_with fail
          refine (elives_walk _).mono ?_
          rintro e w9 ⟨rfl, hb⟩
          have hfin := (MT.next u1 hb).2.1
          clear hb u1
          go_wp2_with fail
          go_ret
          exact ⟨rfl, hfin⟩

set_option maxRecDepth 100000 in
set_option maxHeartbeats 4000000 in
/-- No error. -/
theorem eerr_V (ri ro : Int) (X : Option Addr) (cx N : Nat) (rs : List (List Ed)) (a b dd : Int) (q : Bool) (A : Option Addr) (ca EL : Nat) (P : Option Addr) (KR cP : Nat) (R : List (Int × Int)) (w : World) (hx : RdR w X rs) (hN : rs.length = N) (hp : RdP w P R) (hKR : R.length = KR)
    (h70 : N ≤ 70) (h60 : KR ≤ 60) (hrw : ∀ row ∈ rs, row.length ≤ 20) (es : List Int) (h16 : Rd16 w A es) (hEL : es.length = EL) (hle : es.length ≤ 9223372036854775807) (ha : 0 ≤ a ∧ a ≤ 255) (hb : 0 ≤ b ∧ b ≤ 255) (hd : 0 ≤ dd ∧ dd ≤ 255) (hz : Mc.chk ⟨ri, ro, rs⟩ = 0) (hbig : N ≤ 20) (hri : ri = 1 + b % 3) :
    Calls Try.prog 8 #[.agg #[.int .i64 ri, .int .i64 ro, .slice X N cx], .agg #[.int .u8 a, .int .u8 b, .int .u8 dd, .bool q, .slice A EL ca], .slice P KR cP] w fun e w' => e = .returned (.bool true) ∧ Below w.heap.size w w' := by
  have hk6 : N ≤ 1000000 := by omega
  have hrl : ∀ row ∈ rs, row.length ≤ 1000000 := fun row hrow => by have := hrw row hrow; omega
  have HN := Lib.hid hN
  have HRW := Lib.hid hrw
  obtain ⟨n, hn⟩ : ∃ n : Nat, 1 + a % 6 = n := ⟨(1 + a % 6).toNat, by omega⟩
  obtain ⟨i, hi⟩ : ∃ i : Nat, 1 + b % 3 = i := ⟨(1 + b % 3).toNat, by omega⟩
  obtain ⟨o, ho⟩ : ∃ o : Nat, 1 + dd % 3 = o := ⟨(1 + dd % 3).toNat, by omega⟩
  have V := Lib.hid (Mc.mkN_val (p := q) (n := n) (i := i) (o := o) (es := es) (by omega) (by omega) (by omega) (by omega) (by omega) (by omega))
  have hlen : Hid ((Mc.mkN q n i o es).r.length = n) := Mc.mkN_len _ _ _ _ _
  have hmi : Hid ((Mc.mkN q n i o es).i = i) := rfl
  have hmo : Hid ((Mc.mkN q n i o es).o = o) := rfl
  obtain ⟨M, hM⟩ : ∃ M, Mc.mkN q n i o es = M := ⟨_, rfl⟩
  rw [hM] at V hlen hmi hmo
  have hn6 : n ≤ 6 := by omega
  have CO : Hid (∀ w, Rd16 w A es → Calls Try.prog 37 #[.agg #[.int .u8 a, .int .u8 b, .int .u8 dd, .bool q, .slice A EL ca]] w fun e w' => ∃ B k, e = .returned (.agg #[.int .i64 i, .int .i64 o, .slice B n k]) ∧ RdR w' B M.r ∧ Below w.heap.size w w') := fun w hr => by
    have h := mof_at a b dd q A ca es n i o w hr hle ha hb hd hn hi ho
    rw [hEL, hM] at h
    exact h
  have hchk := hz
  have hii : ri = i := by rw [hri]; exact hi
  have hE1 : ech ⟨ri, ro, rs⟩ M = 0 := ech_zero (Mc.val_of hz) V.out (by rw [hmi.out]; exact hii)
  have hE2 : ech M ⟨ri, ro, rs⟩ = 0 := ech_zero V.out (Mc.val_of hz) (by rw [hmi.out]; exact hii.symm)
  have CK : Hid (∀ w, RdR w X rs → Calls Try.prog 38 #[.agg #[.int .i64 ri, .int .i64 ro, .slice X N cx]] w fun e w' => e = .returned (.int .i64 0) ∧ Below w.heap.size w w') := fun w hr => by
    have h := rmcheck_any ⟨ri, ro, rs⟩ X cx w hr (by simp only; omega)
    simp only [hN, hchk] at h
    exact h
  have CD : Hid (∀ B k w, RdR w X rs → RdR w B M.r → RdP w P R → Calls Try.prog 21 #[.agg #[.int .i64 ri, .int .i64 ro, .slice X N cx], .agg #[.int .i64 i, .int .i64 o, .slice B n k]] w fun e w' => ∃ X k is, e = .returned (.tuple #[.slice X k k, .bool is, .int .i64 0]) ∧ Below w.heap.size w w') := fun B k w hr hrM hrp =>
    dif_0 ⟨ri, ro, rs⟩ M ri ro i o X B N cx n k w rfl rfl hmi.out hmo.out hr hN hk6 hrl hrM hlen.out (by omega) V.out.rowsE hE1
  have CE : Hid (∀ B k w, RdR w X rs → RdR w B M.r → RdP w P R → Calls Try.prog 21 #[.agg #[.int .i64 i, .int .i64 o, .slice B n k], .agg #[.int .i64 ri, .int .i64 ro, .slice X N cx]] w fun e w' => ∃ X k is, e = .returned (.tuple #[.slice X k k, .bool is, .int .i64 0]) ∧ Below w.heap.size w w') := fun B k w hr hrM hrp =>
    dif_0 M ⟨ri, ro, rs⟩ i o ri ro B X n k N cx w hmi.out hmo.out rfl rfl hrM hlen.out (by omega) V.out.rowsE hr hN hk6 hrl hE2
  have CQ : Hid (∀ B k w, RdR w X rs → RdR w B M.r → RdP w P R → Calls Try.prog 28 #[.agg #[.int .i64 i, .int .i64 o, .slice B n k], .agg #[.int .i64 ri, .int .i64 ro, .slice X N cx]] w (EqZ w)) := fun B k w hr hrM hrp =>
    equ_0 M ⟨ri, ro, rs⟩ i o ri ro B X n k N cx w hmi.out hmo.out rfl rfl hrM hlen.out (by omega) V.out.rowsE hr hN hk6 hrl hE2
  have CR : Hid (∀ B k w, RdR w X rs → RdR w B M.r → RdP w P R → Calls Try.prog 32 #[.agg #[.int .i64 i, .int .i64 o, .slice B n k], .agg #[.int .i64 ri, .int .i64 ro, .slice X N cx]] w fun e w' => ∃ X k is, e = .returned (.tuple #[.slice X k k, .bool is, .int .i64 0]) ∧ Below w.heap.size w w') := fun B k w hr hrM hrp =>
    rel_0 M ⟨ri, ro, rs⟩ i o ri ro B X n k N cx w hmi.out hmo.out rfl rfl hrM hlen.out (by omega) V.out.rowsE hr hN hk6 hrl hE2
  have hpk : ∀ z, (if ∀ p ∈ R, inR N n p then (0 : Int) else 1) = z → pck ⟨ri, ro, rs⟩ M R = z := fun z h => by
    unfold pck
    rw [if_neg (by rw [hE1]; simp), if_neg (by omega), hN, hlen.out]
    exact h
  have C1 : Hid ((¬ ∀ p ∈ R, inR N n p) → ∀ B k w, RdR w X rs → RdR w B M.r → RdP w P R → Calls Try.prog 35 #[.agg #[.int .i64 ri, .int .i64 ro, .slice X N cx], .agg #[.int .i64 i, .int .i64 o, .slice B n k], .slice P KR cP] w fun e w' => e = .returned (.tuple #[.bool false, .int .i64 1]) ∧ Below w.heap.size w w') := fun hno B k w hr hrM hrp =>
    cre_Z ⟨ri, ro, rs⟩ M ri ro i o X B N cx n k w 1 rfl rfl hmi.out hmo.out hr hN hk6 hrl hrM hlen.out (by omega) V.out.rowsE P KR cP R hrp hKR (by omega) (hpk 1 (if_neg hno)) (by decide)
  have C0 : Hid ((∀ p ∈ R, inR N n p) → ∀ B k w, RdR w X rs → RdR w B M.r → RdP w P R → Calls Try.prog 35 #[.agg #[.int .i64 ri, .int .i64 ro, .slice X N cx], .agg #[.int .i64 i, .int .i64 o, .slice B n k], .slice P KR cP] w (EqZ w)) := fun hyes B k w hr hrM hrp =>
    cre_0 ⟨ri, ro, rs⟩ M ri ro i o X B N cx n k w rfl rfl hmi.out hmo.out hr hN hk6 hrl hrM hlen.out (by omega) V.out.rowsE P KR cP R hrp hKR (by omega) (hpk 0 (if_pos hyes))
  have HKR := Lib.hid hKR
  have CW : Hid (∀ B k w, RdR w X rs → RdR w B M.r → RdP w P R → Calls Try.prog 31 #[.agg #[.int .i64 ri, .int .i64 ro, .slice X N cx], .agg #[.int .i64 i, .int .i64 o, .slice B n k], .int .i64 (-1)] w fun e w' => e = .returned (.tuple #[.bool false, .int .i64 1]) ∧ Below w.heap.size w w') := fun B k w hr hrM hrp =>
    win_N ⟨ri, ro, rs⟩ M ri ro i o X B N cx n k w 0 rfl rfl hmi.out hmo.out hr hN hk6 hrl hrM hlen.out (by omega) V.out.rowsE hE1 1 (by decide)
  have HR := Lib.hid h16
  have hib : (ri == (i : Int)) = true := by rw [hii]; simp
  clear hN hrw hrl hKR hchk hz hpk hri hii h16 hEL hle ha hb hd hn hi ho V hlen hmi hmo hM hE1 hE2
  have s1 : MT w w _ := MK.putR (MK.putP MT.start hp) hx
  clear hx hp
  obtain ⟨K0, hK0⟩ : ∃ K0, w.heap.size = K0 := ⟨_, rfl⟩
  have s2 := MK.putB (g := w.heap.size) (MT.alloc s1 (.cells #[.int .i64 ri, .int .i64 ro, .slice X N cx] 24)) (heap_alloc_new w _)
  have s4 := MT.putK (P := fun w => w.heap[K0 + 1]? = some (.cells #[.int .u8 a, .int .u8 b, .int .u8 dd, .bool q, .slice A EL ca] 39)) (MT.alloc s2 (.cells #[.int .u8 a, .int .u8 b, .int .u8 dd, .bool q, .slice A EL ca] 39))
    (by
      have h := heap_alloc_new (w.alloc (.cells #[.int .i64 ri, .int .i64 ro, .slice X N cx] 24)) (.cells #[.int .u8 a, .int .u8 b, .int .u8 dd, .bool q, .slice A EL ca] 39)
      rw [World.size_alloc, hK0] at h
      exact h) (fun _ _ h hb => (hb.block _ (heap_lt h)).trans h)
  rw [hK0] at s4
  clear s1 s2
  go_enter Try.func8, Try.ntmps8
  go_upto_region 1 with fail
  obtain ⟨W0, hW0⟩ : ∃ W0, (w.alloc (.cells #[.int .i64 ri, .int .i64 ro, .slice X N cx] 24)).alloc (.cells #[.int .u8 a, .int .u8 b, .int .u8 dd, .bool q, .slice A EL ca] 39) = W0 := ⟨_, rfl⟩
  rw [hW0] at s4
  rw [hW0]
  clear hW0
  obtain ⟨q0, q1, q2⟩ := BxM.cells (MK.get s4 1 rfl)
  have hd20 : decide ((20 : Int) < N) = false := decide_eq_false (by omega)
  have hd70 : decide ((70 : Int) < N) = false := decide_eq_false (by omega)
  have hd60 : decide ((60 : Int) < KR) = false := decide_eq_false (by omega)
  go_wp2
  clear q0 q1 q2 hd70 hd20 hd60
  have SF := Lib.hid s4
  clear s4
  go_loopw [7] (fun v wr => ∃ k : Nat, k ≤ N ∧ v = .int .i64 k ∧ Hid (Below W0.heap.size W0 wr)) (fun v _ => N - (intOf v).toNat)
  case atStart => exact ⟨0, by omega, rfl, Below.refl _ _⟩
  case round =>
    obtain ⟨k, hk, rfl, hbr⟩ := hrel
    have sK := MT.next SF.out hbr.out
    obtain ⟨q0, q1, q2⟩ := BxM.cells (MK.get sK 1 rfl)
    by_cases hlt : k < N
    · have hkn : (k : Int) < N := by omega
      obtain ⟨br, ofr, Br, cr, nr, row, rfl, _, hcr, _, _, _, _, hrl, hrk⟩ := (MK.get sK 2 rfl).at_ (k := k) (by rw [HN.out]; exact hlt)
      have hnr : nr ≤ 20 := by rw [← hrl.out]; exact HRW.out row (List.mem_of_getElem? hrk.out)
      have hd20 : decide ((20 : Int) < nr) = false := decide_eq_false (by omega)
      clear sK hrl hrk
      go_wp2
      go_roundw
      case rel => exact ⟨k + 1, by omega, by go_num, hbr⟩
      case measure => simp [intOf]; omega
    · have hkn : decide ((k : Int) < N) = false := decide_eq_false (by omega)
      have HHR := Lib.hid (HR.out.below sK.2.1)
      have y5 : wr.cell? ⟨K0 + 1, 0, none⟩ = some (.int .u8 a) ∧ wr.cell? ⟨K0 + 1, 1, none⟩ = some (.int .u8 b) ∧ wr.cell? ⟨K0 + 1, 2, none⟩ = some (.int .u8 dd) ∧ wr.cell? ⟨K0 + 1, 3, none⟩ = some (.bool q) ∧ wr.cell? ⟨K0 + 1, 4, none⟩ = some (.slice A EL ca) := by
        have h1 := MK.get sK 0 rfl
        refine ⟨?_, ?_, ?_, ?_, ?_⟩ <;> (rw [cell_of_row _ _ _ _ _ _ h1]; rfl)
      obtain ⟨a3, a4, a5, a6, a7⟩ := y5
      clear SF hbr HRW
      go_wp2_with fail
      refine (CO.out _ HHR.out).mono ?_
      rintro e w1 ⟨B, k1, rfl, hrB, hb⟩
      have t1 := MK.putB (g := w1.heap.size) (MT.alloc (MK.putR (MT.next sK hb) hrB) (.cells #[.int .i64 i, .int .i64 o, .slice B n k1] 24)) (heap_alloc_new w1 _)
      clear hb hrB sK q0 q1 q2 a3 a4 a5 a6 a7 CO
      go_upto_region 9 with fail
      obtain ⟨gc, hgc⟩ : ∃ g, w1.heap.size = g := ⟨_, rfl⟩
      obtain ⟨W2, hW2⟩ : ∃ W, w1.alloc (.cells #[.int .i64 i, .int .i64 o, .slice B n k1] 24) = W := ⟨_, rfl⟩
      rw [hgc, hW2] at t1
      try rw [hgc]
      try rw [hW2]
      clear hgc hW2
      obtain ⟨q0, q1, q2⟩ := BxM.cells (MK.get t1 3 rfl)
      go_wp2_with fail
      refine (CK.out _ (MK.get t1 4 rfl)).mono ?_
      rintro e w2 ⟨rfl, hb⟩
      have t2 := MT.next t1 hb
      clear hb t1 q0 q1 q2 CK
      obtain ⟨q0, q1, q2⟩ := BxM.cells (MK.get t2 3 rfl)
      obtain ⟨p0, p1, p2⟩ := BxM.cells (MK.get t2 0 rfl)
      go_wp2_with fail
      refine (CD.out _ _ _ (MK.get t2 4 rfl) (MK.get t2 1 rfl) (MK.get t2 5 rfl)).mono ?_
      rintro e w3 ⟨X1, k1, is1, rfl, hb⟩
      have t3 := MT.next t2 hb
      clear hb t2 q0 q1 q2 p0 p1 p2 CD
      obtain ⟨q0, q1, q2⟩ := BxM.cells (MK.get t3 3 rfl)
      obtain ⟨p0, p1, p2⟩ := BxM.cells (MK.get t3 0 rfl)
      go_wp2_with fail
      refine (CE.out _ _ _ (MK.get t3 4 rfl) (MK.get t3 1 rfl) (MK.get t3 5 rfl)).mono ?_
      rintro e w4 ⟨X2, k2, is2, rfl, hb⟩
      have t4 := MT.next t3 hb
      clear hb t3 q0 q1 q2 p0 p1 p2 CE
      obtain ⟨q0, q1, q2⟩ := BxM.cells (MK.get t4 3 rfl)
      obtain ⟨p0, p1, p2⟩ := BxM.cells (MK.get t4 0 rfl)
      go_wp2_with fail
      refine (CQ.out _ _ _ (MK.get t4 4 rfl) (MK.get t4 1 rfl) (MK.get t4 5 rfl)).mono ?_
      rintro e w5 ⟨is3, rfl, hb⟩
      have t5 := MT.next t4 hb
      clear hb t4 q0 q1 q2 p0 p1 p2 CQ
      obtain ⟨q0, q1, q2⟩ := BxM.cells (MK.get t5 3 rfl)
      obtain ⟨p0, p1, p2⟩ := BxM.cells (MK.get t5 0 rfl)
      go_wp2_with fail
      refine (CW.out _ _ _ (MK.get t5 4 rfl) (MK.get t5 1 rfl) (MK.get t5 5 rfl)).mono ?_
      rintro e w6 ⟨rfl, hb⟩
      have t6 := MT.next t5 hb
      clear hb t5 q0 q1 q2 p0 p1 p2 CW
      obtain ⟨q0, q1, q2⟩ := BxM.cells (MK.get t6 3 rfl)
      obtain ⟨p0, p1, p2⟩ := BxM.cells (MK.get t6 0 rfl)
      go_wp2_with fail
      refine (CR.out _ _ _ (MK.get t6 4 rfl) (MK.get t6 1 rfl) (MK.get t6 5 rfl)).mono ?_
      rintro e w7 ⟨X5, k5, is5, rfl, hb⟩
      have t7 := MT.next t6 hb
      clear hb t6 q0 q1 q2 p0 p1 p2 CR
      have HT := Lib.hid t7
      clear t7
      go_wp2_with fail
      go_loopw [9, 23] (fun u v wr => ∃ (j : Nat) (z : Int), j ≤ KR ∧ v = .int .i64 j ∧ u = .int .i64 z ∧ (z = 0 ∨ z = 1) ∧ Hid (ErA z R N n j) ∧ Hid (ErN z R N n) ∧ Hid (Below w7.heap.size w7 wr)) (fun _ v _ => KR - (intOf v).toNat)
      case atStart => exact ⟨0, 0, by omega, rfl, rfl, Or.inl rfl, (fun _ q p h => by omega), (fun h => by cases h), Below.refl _ _⟩
      case round =>
        obtain ⟨j, z, hj, rfl, rfl, hz, hall, hno, hbr⟩ := hrel
        by_cases hjk : j < KR
        · have hjd : decide ((j : Int) < KR) = true := decide_eq_true (by omega)
          rcases hz with rfl | rfl
          · have u0 := MT.next HT.out hbr.out
            obtain ⟨q0, q1, q2⟩ := BxM.cells (MK.get u0 3 rfl)
            obtain ⟨p0, p1, p2⟩ := BxM.cells (MK.get u0 0 rfl)
            obtain ⟨e1, f1, x, y, rfl, he1, hx0, hy0, hqe1⟩ := (MK.get u0 5 rfl).at_ (k := j) (by rw [HKR.out]; exact hjk)
            have hjk' : (j : Int) < KR := by omega
            have hbad : Hid (¬ inR N n (x, y) → ErN 1 R N n) := fun h _ hh => h (hh _ (List.mem_of_getElem? hqe1.out))
            have h10 : Hid (ErA 1 R N n (j + 1)) := fun h => by cases h
            have hnx : Hid (inR N n (x, y) → ErA 0 R N n (j + 1)) := fun h _ q p hq hp => by
              rcases Nat.lt_or_ge q j with h1 | h1
              · exact hall.out rfl q p h1 hp
              · obtain rfl : q = j := by omega
                rw [hqe1.out] at hp
                injection hp with hp
                subst hp
                exact h
            have h01 : Hid (ErN 0 R N n) := fun h => by cases h
            clear u0 HT hall hno C0 C1 hqe1 he1
            by_cases g1 : x < 0
            · have d1 : decide (x < 0) = true := decide_eq_true g1
              have hb1 : Hid (ErN 1 R N n) := hbad.out (by unfold inR; simp only; omega)
              go_wp2
              go_quiet (fail)
              go_wp2
              go_roundw
              case rel => exact ⟨j + 1, 1, by omega, by go_num, rfl, Or.inr rfl, h10, hb1, Lib.hid (below_drewN' hbr.out _)⟩
              case measure => simp [intOf]; omega
            have d1 : decide (x < 0) = false := decide_eq_false g1
            by_cases g2 : y < 0
            · have d2 : decide (y < 0) = true := decide_eq_true g2
              have hb1 : Hid (ErN 1 R N n) := hbad.out (by unfold inR; simp only; omega)
              go_wp2
              go_quiet (fail)
              go_wp2
              go_roundw
              case rel => exact ⟨j + 1, 1, by omega, by go_num, rfl, Or.inr rfl, h10, hb1, Lib.hid (below_drewN' hbr.out _)⟩
              case measure => simp [intOf]; omega
            have d2 : decide (y < 0) = false := decide_eq_false g2
            by_cases g3 : (N : Int) ≤ x
            · have d3 : decide ((N : Int) ≤ x) = true := decide_eq_true g3
              have hb1 : Hid (ErN 1 R N n) := hbad.out (by unfold inR; simp only; omega)
              go_wp2
              go_quiet (fail)
              go_wp2
              go_roundw
              case rel => exact ⟨j + 1, 1, by omega, by go_num, rfl, Or.inr rfl, h10, hb1, Lib.hid (below_drewN' hbr.out _)⟩
              case measure => simp [intOf]; omega
            have d3 : decide ((N : Int) ≤ x) = false := decide_eq_false g3
            by_cases g4 : (n : Int) ≤ y
            · have d4 : decide ((n : Int) ≤ y) = true := decide_eq_true g4
              have hb1 : Hid (ErN 1 R N n) := hbad.out (by unfold inR; simp only; omega)
              go_wp2
              go_quiet (fail)
              go_wp2
              go_roundw
              case rel => exact ⟨j + 1, 1, by omega, by go_num, rfl, Or.inr rfl, h10, hb1, Lib.hid (below_drewN' hbr.out _)⟩
              case measure => simp [intOf]; omega
            have d4 : decide ((n : Int) ≤ y) = false := decide_eq_false g4
            have hb1 : Hid (ErA 0 R N n (j + 1)) := hnx.out (by unfold inR; simp only; omega)
            go_wp2
            go_quiet (fail)
            go_wp2
            go_roundw
            case rel => exact ⟨j + 1, 0, by omega, by go_num, rfl, Or.inl rfl, hb1, h01, Lib.hid (below_drewN' hbr.out _)⟩
            case measure => simp [intOf]; omega
          · have hno1 : Hid (¬ ∀ p ∈ R, inR N n p) := hno.out rfl
            clear hall hno
            have u0 := MT.next HT.out hbr.out
            obtain ⟨q0, q1, q2⟩ := BxM.cells (MK.get u0 3 rfl)
            obtain ⟨p0, p1, p2⟩ := BxM.cells (MK.get u0 0 rfl)
            clear HT hbr
            go_wp2_with fail
            refine (C1.out hno1.out _ _ _ (MK.get u0 4 rfl) (MK.get u0 1 rfl) (MK.get u0 5 rfl)).mono ?_
            rintro e w8 ⟨rfl, hb⟩
            have u1 := MT.next u0 hb
            clear hb u0 q0 q1 q2 p0 p1 p2 C0 C1
            go_wp2_with fail
            refine (elives_walk _).mono ?_
            rintro e w9 ⟨rfl, hb⟩
            have hfin := (MT.next u1 hb).2.1
            clear hb u1
            go_wp2_with fail
            go_ret
            exact ⟨rfl, hfin⟩
        · have hjd : decide ((j : Int) < KR) = false := decide_eq_false (by omega)
          rcases hz with rfl | rfl
          · have hyes : Hid (∀ p ∈ R, inR N n p) := fun p hp => by
              obtain ⟨q, hq, rfl⟩ := List.getElem_of_mem hp
              exact hall.out rfl q _ (by have := HKR.out; omega) (List.getElem?_eq_getElem hq)
            clear hall hno
            have u0 := MT.next HT.out hbr.out
            obtain ⟨q0, q1, q2⟩ := BxM.cells (MK.get u0 3 rfl)
            obtain ⟨p0, p1, p2⟩ := BxM.cells (MK.get u0 0 rfl)
            clear HT hbr
            go_wp2_with fail
            refine (C0.out hyes.out _ _ _ (MK.get u0 4 rfl) (MK.get u0 1 rfl) (MK.get u0 5 rfl)).mono ?_
            rintro e w8 ⟨is8, rfl, hb⟩
            have u1 := MT.next u0 hb
            clear hb u0 q0 q1 q2 p0 p1 p2 C0 C1
            go_wp2_with fail
            refine (elives_walk _).mono ?_
            rintro e w9 ⟨rfl, hb⟩
            have hfin := (MT.next u1 hb).2.1
            clear hb u1
            go_wp2_with fail
            go_ret
            exact ⟨rfl, hfin⟩
          · have hno1 : Hid (¬ ∀ p ∈ R, inR N n p) := hno.out rfl
            clear hall hno
            have u0 := MT.next HT.out hbr.out
            obtain ⟨q0, q1, q2⟩ := BxM.cells (MK.get u0 3 rfl)
            obtain ⟨p0, p1, p2⟩ := BxM.cells (MK.get u0 0 rfl)
            clear HT hbr
            go_wp2_with fail
            refine (C1.out hno1.out _ _ _ (MK.get u0 4 rfl) (MK.get u0 1 rfl) (MK.get u0 5 rfl)).mono ?_
            rintro e w8 ⟨rfl, hb⟩
            have u1 := MT.next u0 hb
            clear hb u0 q0 q1 q2 p0 p1 p2 C0 C1
            go_wp2_with fail
            refine (elives_walk _).mono ?_
            rintro e w9 ⟨rfl, hb⟩
            have hfin := (MT.next u1 hb).2.1
            clear hb u1
            go_wp2_with fail
            go_ret
            exact ⟨rfl, hfin⟩

theorem eerr_walk (ri ro : Int) (X : Option Addr) (cx : Nat) (rs : List (List Ed)) (a b dd : Int) (q : Bool) (A : Option Addr) (ca : Nat) (es : List Int) (P : Option Addr) (cP : Nat) (R : List (Int × Int)) (w : World) (hx : RdR w X rs) (hp : RdP w P R) (h16 : Rd16 w A es) (hle : es.length ≤ 9223372036854775807) (ha : 0 ≤ a ∧ a ≤ 255) (hb : 0 ≤ b ∧ b ≤ 255) (hd : 0 ≤ dd ∧ dd ≤ 255) :
    Calls Try.prog 8 #[.agg #[.int .i64 ri, .int .i64 ro, .slice X rs.length cx], .agg #[.int .u8 a, .int .u8 b, .int .u8 dd, .bool q, .slice A es.length ca], .slice P R.length cP] w fun e w' => e = .returned (.bool true) ∧ Below w.heap.size w w' := by
  by_cases g1 : 70 < rs.length
  · exact eerr_early ri ro X cx _ rs a b dd q A ca _ P _ cP R w hx rfl hp rfl (.inl g1)
  by_cases g4 : 20 < rs.length ∧ rs.length < 65
  · exact eerr_early ri ro X cx _ rs a b dd q A ca _ P _ cP R w hx rfl hp rfl (.inr (.inl g4))
  by_cases g6 : 60 < R.length
  · exact eerr_early ri ro X cx _ rs a b dd q A ca _ P _ cP R w hx rfl hp rfl (.inr (.inr (.inl g6)))
  by_cases g3 : ∃ (j : Nat) (row : List Ed), rs[j]? = some row ∧ 20 < row.length
  · exact eerr_early ri ro X cx _ rs a b dd q A ca _ P _ cP R w hx rfl hp rfl (.inr (.inr (.inr g3)))
  have hrw : ∀ row ∈ rs, row.length ≤ 20 := fun row hrow => by
    obtain ⟨j, hj⟩ := List.mem_iff_getElem?.1 hrow
    rcases Nat.lt_or_ge 20 row.length with h | h
    · exact absurd ⟨j, row, hj, h⟩ g3
    · exact h
  by_cases hz : Mc.chk ⟨ri, ro, rs⟩ = 0
  · have hN20 : rs.length ≤ 20 := by
      have := (Mc.val_of hz).r1
      simp only at this
      omega
    by_cases hri : ri = 1 + b % 3
    · exact eerr_V ri ro X cx _ rs a b dd q A ca _ P _ cP R w hx rfl hp rfl (by omega) (by omega) hrw es h16 rfl hle ha hb hd hz hN20 hri
    · exact eerr_B ri ro X cx _ rs a b dd q A ca _ P _ cP R w hx rfl hp rfl (by omega) (by omega) hrw es h16 rfl hle ha hb hd hz hN20 hri
  · by_cases hb20 : rs.length ≤ 20
    · exact eerr_A1 ri ro X cx _ rs a b dd q A ca _ P _ cP R w hx rfl hp rfl (by omega) (by omega) hrw es h16 rfl hle ha hb hd hz hb20
    · exact eerr_A2 ri ro X cx _ rs a b dd q A ca _ P _ cP R w hx rfl hp rfl (by omega) (by omega) hrw es h16 rfl hle ha hb hd hz (by omega)
end Go.Proofs.Ytnodnfailjmpeaa
