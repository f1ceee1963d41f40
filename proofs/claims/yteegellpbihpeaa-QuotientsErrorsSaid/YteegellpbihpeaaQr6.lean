/-
  The walk of QuotientsErrors, in cases. No statement is proved here.
-/
import Derived.Test.YteegellpbihpeaaQr0
import Derived.Test.YteegellpbihpeaaWh0
namespace Go.Proofs.Yteegellpbihpeaa
open Go.RowKit
open Mc (Ed Ma)

set_option maxRecDepth 100000 in
set_option maxHeartbeats 4000000 in
/-- Too many rows, or too few and too many, or a row of more than 20 edges: nothing is asked. -/
theorem qerr_early (ri ro : Int) (X : Option Addr) (cx N : Nat) (rs : List (List Ed)) (a b dd : Int) (q : Bool) (A : Option Addr) (ca EL : Nat) (w : World) (hx : RdR w X rs) (hN : rs.length = N)
    (hgr : 70 < N ∨ (20 < N ∧ N < 65) ∨ ∃ (j : Nat) (row : List Ed), rs[j]? = some row ∧ 20 < row.length) :
    Calls Try.prog 8 #[.agg #[.int .i64 ri, .int .i64 ro, .slice X N cx], .agg #[.int .u8 a, .int .u8 b, .int .u8 dd, .bool q, .slice A EL ca]] w fun e w' => e = .returned (.bool true) ∧ Below w.heap.size w w' := by
  have HN := Lib.hid hN
  have HGR := Lib.hid hgr
  clear hN hgr
  have s1 : MT w w _ := MK.putR MT.start hx
  clear hx
  obtain ⟨K0, hK0⟩ : ∃ K0, w.heap.size = K0 := ⟨_, rfl⟩
  have s2 := MK.putB (g := w.heap.size) (MT.alloc s1 (.cells #[.int .i64 ri, .int .i64 ro, .slice X N cx] 30)) (heap_alloc_new w _)
  have s4 := MT.putK (P := fun w => w.heap[K0 + 1]? = some (.cells #[.int .u8 a, .int .u8 b, .int .u8 dd, .bool q, .slice A EL ca] 24)) (MT.alloc s2 (.cells #[.int .u8 a, .int .u8 b, .int .u8 dd, .bool q, .slice A EL ca] 24))
    (by
      have h := heap_alloc_new (w.alloc (.cells #[.int .i64 ri, .int .i64 ro, .slice X N cx] 30)) (.cells #[.int .u8 a, .int .u8 b, .int .u8 dd, .bool q, .slice A EL ca] 24)
      rw [World.size_alloc, hK0] at h
      exact h) (fun _ _ h hb => (hb.block _ (heap_lt h)).trans h)
  rw [hK0] at s4
  clear s1 s2
  go_enter Try.func8, Try.ntmps8
  go_upto_region 1 with fail
  obtain ⟨W0, hW0⟩ : ∃ W0, (w.alloc (.cells #[.int .i64 ri, .int .i64 ro, .slice X N cx] 30)).alloc (.cells #[.int .u8 a, .int .u8 b, .int .u8 dd, .bool q, .slice A EL ca] 24) = W0 := ⟨_, rfl⟩
  rw [hW0] at s4
  rw [hW0]
  clear hW0
  obtain ⟨q0, q1, q2⟩ := BxM.cells (MK.get s4 1 rfl)
  by_cases h70 : 70 < N
  · have hd20 : decide ((20 : Int) < N) = true := decide_eq_true (by omega)
    have hd65 : decide ((N : Int) < 65) = false := decide_eq_false (by omega)
    have hd70 : decide ((70 : Int) < N) = true := decide_eq_true (by omega)
    have hfin := s4.2.1
    clear s4 HGR
    go_wp2
    go_ret
    exact ⟨rfl, hfin⟩
  have hd70 : decide ((70 : Int) < N) = false := decide_eq_false (by omega)
  by_cases h2065 : 20 < N ∧ N < 65
  · have hd20 : decide ((20 : Int) < N) = true := decide_eq_true (by omega)
    have hd65 : decide ((N : Int) < 65) = true := decide_eq_true (by omega)
    have hfin := s4.2.1
    clear s4 HGR
    go_wp2
    go_ret
    exact ⟨rfl, hfin⟩
  obtain ⟨b20, hd20⟩ : ∃ b, decide ((20 : Int) < N) = b := ⟨_, rfl⟩
  obtain ⟨b65, hd65⟩ : ∃ b, decide ((N : Int) < 65) = b := ⟨_, rfl⟩
  have hbb : b20 = false ∨ (b20 = true ∧ b65 = false) := by
    by_cases h : 20 < N
    · right
      exact ⟨by rw [← hd20]; exact decide_eq_true (by omega), by rw [← hd65]; exact decide_eq_false (by omega)⟩
    · left
      rw [← hd20]; exact decide_eq_false (by omega)
  rcases hbb with rfl | ⟨rfl, rfl⟩
  all_goals
    go_wp2
    clear q0 q1 q2 hd70 hd20 hd65
    have SF := Lib.hid s4
    clear s4
    go_loopw [5] (fun v wr => ∃ k : Nat, k ≤ N ∧ v = .int .i64 k ∧ Hid (∀ (j : Nat) row, j < k → rs[j]? = some row → row.length ≤ 20) ∧ Hid (Below W0.heap.size W0 wr)) (fun v _ => N - (intOf v).toNat)
    case atStart => exact ⟨0, by omega, rfl, fun j row h => absurd h (by omega), Below.refl _ _⟩
    case round =>
      obtain ⟨k, hk, rfl, hRk, hbr⟩ := hrel
      have sK := MT.next SF.out hbr.out
      obtain ⟨q0, q1, q2⟩ := BxM.cells (MK.get sK 1 rfl)
      have hlt : k < N := by
        rcases Nat.lt_or_ge k N with h1 | h1
        · exact h1
        · rcases HGR.out with h2 | h2 | ⟨j, row, hj, h3⟩
          · omega
          · omega
          · have h4 := (List.getElem?_eq_some_iff.1 hj).1
            have h5 := HN.out
            have := hRk.out j row (by omega) hj
            omega
      have hkn : (k : Int) < N := by omega
      obtain ⟨br, ofr, Br, cr, nr, row, rfl, _, hcr, _, _, _, _, hrl, hrk⟩ := (MK.get sK 2 rfl).at_ (k := k) (by rw [HN.out]; exact hlt)
      by_cases h20 : 20 < nr
      · have hd20 : decide ((20 : Int) < nr) = true := decide_eq_true (by omega)
        have hfin := sK.2.1
        clear sK SF hRk HGR
        go_wp2
        go_ret
        exact ⟨rfl, hfin⟩
      · have hd20 : decide ((20 : Int) < nr) = false := decide_eq_false (by omega)
        have hRk' : Hid (∀ (j : Nat) row, j < k + 1 → rs[j]? = some row → row.length ≤ 20) := fun j row' hj hjr => by
          rcases Nat.lt_or_ge j k with h1 | h1
          · exact hRk.out j row' h1 hjr
          · obtain rfl : j = k := by omega
            rw [hrk.out] at hjr
            injection hjr with hjr
            rw [← hjr, hrl.out]
            omega
        clear sK hRk HGR
        go_wp2
        go_roundw
        case rel => exact ⟨k + 1, by omega, by go_num, hRk', hbr⟩
        case measure => simp [intOf]; omega

set_option maxRecDepth 100000 in
set_option maxHeartbeats 2000000 in
/-- The machine is not valid. -/
theorem qerr_A1 (ri ro : Int) (X : Option Addr) (cx N : Nat) (rs : List (List Ed)) (a b dd : Int) (q : Bool) (A : Option Addr) (ca EL : Nat) (w : World) (hx : RdR w X rs) (hN : rs.length = N)
    (h70 : N ≤ 70) (hrw : ∀ row ∈ rs, row.length ≤ 20) (es : List Int) (h16 : Rd16 w A es) (hEL : es.length = EL) (hle : es.length ≤ 9223372036854775807) (ha : 0 ≤ a ∧ a ≤ 255) (hb : 0 ≤ b ∧ b ≤ 255) (hd : 0 ≤ dd ∧ dd ≤ 255) (hz : Mc.chk ⟨ri, ro, rs⟩ ≠ 0) (hbig : N ≤ 20) :
    Calls Try.prog 8 #[.agg #[.int .i64 ri, .int .i64 ro, .slice X N cx], .agg #[.int .u8 a, .int .u8 b, .int .u8 dd, .bool q, .slice A EL ca]] w fun e w' => e = .returned (.bool true) ∧ Below w.heap.size w w' := by
  have hk6 : N ≤ 1000000 := by omega
  have hrl : ∀ row ∈ rs, row.length ≤ 1000000 := fun row hrow => by have := hrw row hrow; omega
  have HN := Lib.hid hN
  have HRW := Lib.hid hrw
  have CK : Hid (∀ w, RdR w X rs → Calls Try.prog 31 #[.agg #[.int .i64 ri, .int .i64 ro, .slice X N cx]] w fun e w' => e = .returned (.int .i64 (Mc.chk ⟨ri, ro, rs⟩)) ∧ Below w.heap.size w w') := fun w hr => by
    have h := rmcheck_any ⟨ri, ro, rs⟩ X cx w hr (by simp only; omega)
    simp only [hN] at h
    exact h
  obtain ⟨Z, hchk⟩ : ∃ Z, Mc.chk ⟨ri, ro, rs⟩ = Z := ⟨_, rfl⟩
  rw [hchk] at hz CK
  have CM : Hid (∀ w, RdR w X rs → Calls Try.prog 13 #[.agg #[.int .i64 ri, .int .i64 ro, .slice X N cx]] w fun e w' => e = .returned (.tuple #[.agg #[.int .i64 0, .int .i64 0, .slice none 0 0], .int .i64 Z]) ∧ Below w.heap.size w w') := fun w hr => by
    exact qmin_err ri ro rs X N cx w Z hr hN hk6 hrl hchk hz
  have CP : Hid (∀ w, RdR w X rs → Calls Try.prog 20 #[.agg #[.int .i64 ri, .int .i64 ro, .slice X N cx]] w fun e w' => e = .returned (.tuple #[.slice none 0 0, .int .i64 Z]) ∧ Below w.heap.size w w') := fun w hr => by
    exact qmap_err ri ro rs X N cx w Z hr hN hk6 hrl hchk hz
  have CI : Hid (∀ w, RdR w X rs → Calls Try.prog 18 #[.agg #[.int .i64 ri, .int .i64 ro, .slice X N cx]] w fun e w' => e = .returned (.tuple #[.bool false, .int .i64 Z]) ∧ Below w.heap.size w w') := fun w hr => by
    exact qis_err ri ro rs X N cx w Z hr hN hk6 hrl hchk hz
  have CQ : Hid (∀ w, RdR w X rs → Calls Try.prog 28 #[.agg #[.int .i64 ri, .int .i64 ro, .slice X N cx]] w fun e w' => e = .returned (.int .i64 Z) ∧ Below w.heap.size w w') := fun w hr => by
    exact qproper_err ri ro rs X N cx w Z hr hN hk6 hrl hchk hz
  have CR : Hid (∀ w, RdR w X rs → Calls Try.prog 29 #[.agg #[.int .i64 ri, .int .i64 ro, .slice X N cx]] w fun e w' => e = .returned (.int .i64 Z) ∧ Below w.heap.size w w') := fun w hr => by
    have h := rproper_err ⟨ri, ro, rs⟩ X cx w Z hchk hz hr (by simp only; omega)
    simp only [hN] at h
    exact h
  obtain ⟨n, hn⟩ : ∃ n : Nat, 1 + a % 6 = n := ⟨(1 + a % 6).toNat, by omega⟩
  obtain ⟨i, hi⟩ : ∃ i : Nat, 1 + b % 3 = i := ⟨(1 + b % 3).toNat, by omega⟩
  obtain ⟨o, ho⟩ : ∃ o : Nat, 1 + dd % 3 = o := ⟨(1 + dd % 3).toNat, by omega⟩
  have V := Lib.hid (Mc.mkN_val (p := q) (n := n) (i := i) (o := o) (es := es) (by omega) (by omega) (by omega) (by omega) (by omega) (by omega))
  have hlen : Hid ((Mc.mkN q n i o es).r.length = n) := Mc.mkN_len _ _ _ _ _
  have hmi : Hid ((Mc.mkN q n i o es).i = i) := rfl
  have hmo : Hid ((Mc.mkN q n i o es).o = o) := rfl
  obtain ⟨M, hM⟩ : ∃ M, Mc.mkN q n i o es = M := ⟨_, rfl⟩
  rw [hM] at V hlen hmi hmo
  have CO : Hid (∀ w, Rd16 w A es → Calls Try.prog 11 #[.agg #[.int .u8 a, .int .u8 b, .int .u8 dd, .bool q, .slice A EL ca]] w fun e w' => ∃ B k, e = .returned (.agg #[.int .i64 i, .int .i64 o, .slice B n k]) ∧ RdR w' B M.r ∧ Below w.heap.size w w') := fun w hr => by
    have h := mofB_at a b dd q A ca es n i o w hr hle ha hb hd hn hi ho
    rw [hEL] at h
    refine h.mono ?_
    rintro e w' ⟨B, k, vs, rfl, hB, hbl⟩
    obtain ⟨B2, k2, hE, _, _, _, hrd⟩ := hB.out.rd
    injection hE with h1 h2 h3
    subst h1
    exact ⟨B, k, rfl, by rw [← hM]; exact hrd, hbl⟩
  have hn6 : n ≤ 6 := by omega
  have CHA : Hid (∀ B k w, RdR w X rs → RdR w B M.r → Calls Try.prog 23 #[.agg #[.int .i64 ri, .int .i64 ro, .slice X N cx], .agg #[.int .i64 i, .int .i64 o, .slice B n k], .slice none 0 0] w fun e w' => e = .returned (.tuple #[.bool false, .int .i64 Z]) ∧ Below w.heap.size w w') := fun B k w hr hrM =>
    qhom_err ⟨ri, ro, rs⟩ M ri ro i o X B N cx n k none 0 0 [] w Z rfl rfl hmi.out hmo.out hr hrM hN hlen.out hk6 (by omega) hrl V.out.rows (Rd.nil_) rfl (by omega) (by unfold Mc.hmE; rw [if_pos (by rw [hchk]; exact hz), hchk]) hz
  have CHB : Hid (∀ B k w, RdR w X rs → RdR w B M.r → Calls Try.prog 23 #[.agg #[.int .i64 i, .int .i64 o, .slice B n k], .agg #[.int .i64 ri, .int .i64 ro, .slice X N cx], .slice none 0 0] w fun e w' => e = .returned (.tuple #[.bool false, .int .i64 Z]) ∧ Below w.heap.size w w') := fun B k w hr hrM =>
    qhom_err M ⟨ri, ro, rs⟩ i o ri ro B X n k N cx none 0 0 [] w Z hmi.out hmo.out rfl rfl hrM hr hlen.out hN (by omega) hk6 V.out.rows hrl (Rd.nil_) rfl (by omega) (by unfold Mc.hmE; rw [if_neg (by rw [Mc.chk_of V.out]; simp), if_pos (by rw [hchk]; exact hz), hchk]) hz
  have HR := Lib.hid h16
  have hz2 : (Z == 0) = false := by simp [hz]
  have hz3 : ¬ Z = 0 := hz

  clear hN hrw hrl hchk hz h16 hEL hle ha hb hd hn hi ho V hlen hmi hmo hM
  have s1 : MT w w _ := MK.putR MT.start hx
  clear hx
  obtain ⟨K0, hK0⟩ : ∃ K0, w.heap.size = K0 := ⟨_, rfl⟩
  have s2 := MK.putB (g := w.heap.size) (MT.alloc s1 (.cells #[.int .i64 ri, .int .i64 ro, .slice X N cx] 30)) (heap_alloc_new w _)
  have s4 := MT.putK (P := fun w => w.heap[K0 + 1]? = some (.cells #[.int .u8 a, .int .u8 b, .int .u8 dd, .bool q, .slice A EL ca] 24)) (MT.alloc s2 (.cells #[.int .u8 a, .int .u8 b, .int .u8 dd, .bool q, .slice A EL ca] 24))
    (by
      have h := heap_alloc_new (w.alloc (.cells #[.int .i64 ri, .int .i64 ro, .slice X N cx] 30)) (.cells #[.int .u8 a, .int .u8 b, .int .u8 dd, .bool q, .slice A EL ca] 24)
      rw [World.size_alloc, hK0] at h
      exact h) (fun _ _ h hb => (hb.block _ (heap_lt h)).trans h)
  rw [hK0] at s4
  clear s1 s2
  go_enter Try.func8, Try.ntmps8
  go_upto_region 1 with fail
  obtain ⟨W0, hW0⟩ : ∃ W0, (w.alloc (.cells #[.int .i64 ri, .int .i64 ro, .slice X N cx] 30)).alloc (.cells #[.int .u8 a, .int .u8 b, .int .u8 dd, .bool q, .slice A EL ca] 24) = W0 := ⟨_, rfl⟩
  rw [hW0] at s4
  rw [hW0]
  clear hW0
  obtain ⟨q0, q1, q2⟩ := BxM.cells (MK.get s4 1 rfl)
  have hd20 : decide ((20 : Int) < N) = false := decide_eq_false (by omega)
  have hd70 : decide ((70 : Int) < N) = false := decide_eq_false (by omega)
  go_wp2
  clear q0 q1 q2 hd70 hd20
  have SF := Lib.hid s4
  clear s4
  go_loopw [5] (fun v wr => ∃ k : Nat, k ≤ N ∧ v = .int .i64 k ∧ Hid (Below W0.heap.size W0 wr)) (fun v _ => N - (intOf v).toNat)
  case atStart => exact ⟨0, by omega, rfl, Below.refl _ _⟩
  case round =>
    obtain ⟨k, hk, rfl, hbr⟩ := hrel
    have sK := MT.next SF.out hbr.out
    obtain ⟨q0, q1, q2⟩ := BxM.cells (MK.get sK 1 rfl)
    by_cases hlt : k < N
    · have hkn : (k : Int) < N := by omega
      obtain ⟨br, ofr, Br, cr, nr, row, rfl, _, hcr, _, _, _, _, hrl, hrk⟩ := (MK.get sK 2 rfl).at_ (k := k) (by rw [HN.out]; exact hlt)
      have hnr : nr ≤ 20 := by rw [← hrl.out]; exact HRW.out row (List.mem_of_getElem? hrk.out)
      have hd20 : decide ((20 : Int) < nr) = false := decide_eq_false (by omega)
      clear sK hrl hrk
      go_wp2
      go_roundw
      case rel => exact ⟨k + 1, by omega, by go_num, hbr⟩
      case measure => simp [intOf]; omega
    · have hkn : decide ((k : Int) < N) = false := decide_eq_false (by omega)
      clear SF hbr HRW HN
      go_wp2_with fail
      refine (CK.out _ (MK.get sK 2 rfl)).mono ?_
      rintro e w1 ⟨rfl, hb⟩
      have t1 := MT.next sK hb
      clear hb sK q0 q1 q2 CK
      obtain ⟨q0, q1, q2⟩ := BxM.cells (MK.get t1 1 rfl)
      go_wp2_with fail
      refine (CM.out _ (MK.get t1 2 rfl)).mono ?_
      rintro e w2 ⟨rfl, hb⟩
      have t2 := MK.putB (g := w2.heap.size) (MT.alloc (MT.next t1 hb) (.cells #[.int .i64 0, .int .i64 0, .slice none 0 0] 30)) (heap_alloc_new w2 _)
      clear hb t1 q0 q1 q2 CM
      go_upto_region 10 with fail
      obtain ⟨gc, hgc⟩ : ∃ g, w2.heap.size = g := ⟨_, rfl⟩
      obtain ⟨W2, hW2⟩ : ∃ W, w2.alloc (.cells #[.int .i64 0, .int .i64 0, .slice none 0 0] 30) = W := ⟨_, rfl⟩
      rw [hgc, hW2] at t2
      try rw [hgc]
      try rw [hW2]
      clear hgc hW2
      obtain ⟨q0, q1, q2⟩ := BxM.cells (MK.get t2 2 rfl)
      go_wp2_with fail
      refine (CP.out _ (MK.get t2 3 rfl)).mono ?_
      rintro e w3 ⟨rfl, hb⟩
      have t3 := MT.next t2 hb
      clear hb t2 q0 q1 q2 CP
      obtain ⟨q0, q1, q2⟩ := BxM.cells (MK.get t3 2 rfl)
      go_wp2_with fail
      refine (CI.out _ (MK.get t3 3 rfl)).mono ?_
      rintro e w4 ⟨rfl, hb⟩
      have t4 := MT.next t3 hb
      clear hb t3 q0 q1 q2 CI
      go_upto_region 12 with fail
      go_cut [83] from 64 to 83 (fun f wx => f = .bool false ∧ Below w4.heap.size w4 wx)
      case first =>
        have sD := MT.next t4 (Below.refl _ _).drew
        have y0 : Below w4.heap.size w4 w4.drew := (Below.refl _ _).drew
        obtain ⟨a0, a1, a2⟩ := BxM.cells (MK.get t4 2 rfl)
        clear t4
        go_region_held3 (fun w' => w'.cell? ⟨K0, 0, none⟩ = some (.int .i64 ri) ∧ w'.cell? ⟨K0, 1, none⟩ = some (.int .i64 ro) ∧ w'.cell? ⟨K0, 2, none⟩ = some (.slice X N cx))
          (first | exact ⟨x20, x21, x22⟩ | exact ⟨x10, x11, x12⟩ | exact ⟨a0, a1, a2⟩ | go_keep)
          (first
            | (go_at_call 28
               (with_reducible refine (CQ.out _ (MK.get sD 3 rfl)).mono ?_)
               rintro e wa1 ⟨rfl, hb1⟩
               have t1 := MT.next sD hb1
               have y1 := below_next y0 hb1
               obtain ⟨x10, x11, x12⟩ := BxM.cells (MK.get t1 2 rfl)
               dsimp only)
            | (go_at_call 29
               (with_reducible refine (CR.out _ (MK.get t1 3 rfl)).mono ?_)
               rintro e wa2 ⟨rfl, hb2⟩
               have t2 := MT.next t1 hb2
               have y2 := below_next y1 hb2
               obtain ⟨x20, x21, x22⟩ := BxM.cells (MK.get t2 2 rfl)
               dsimp only)
            | fail)
        all_goals
          go_wp2_with fail
          go_meet
          exact ⟨rfl, y2⟩
      case rest =>
      obtain ⟨rfl, hbc⟩ := hcut
      have t5 := MT.next t4 hbc
      clear t4 hbc CQ CR
      have ZK : Hid (∀ (V : World) (L : List (World → Prop)), MT w V L → L[1]? = some (fun w => w.heap[K0 + 1]? = some (.cells #[.int .u8 a, .int .u8 b, .int .u8 dd, .bool q, .slice A EL ca] 24)) → V.cell? ⟨K0 + 1, 0, none⟩ = some (.int .u8 a) ∧ V.cell? ⟨K0 + 1, 1, none⟩ = some (.int .u8 b) ∧ V.cell? ⟨K0 + 1, 2, none⟩ = some (.int .u8 dd) ∧ V.cell? ⟨K0 + 1, 3, none⟩ = some (.bool q) ∧ V.cell? ⟨K0 + 1, 4, none⟩ = some (.slice A EL ca)) := fun V L h hL => by
        have h1 := MK.get h 1 hL
        refine ⟨?_, ?_, ?_, ?_, ?_⟩ <;> (rw [cell_of_row _ _ _ _ _ _ h1]; rfl)
      go_upto_region 16 with fail
      go_cut [13, 14] from 88 to 93 (fun u v wx => u = .bool false ∧ v = .int .i64 Z ∧ Below wc.heap.size wc wx)
      case first =>
        have sD := MT.next t5 (Below.refl _ _).drew
        have y0 : Below wc.heap.size wc wc.drew := (Below.refl _ _).drew
        obtain ⟨a0, a1, a2⟩ := BxM.cells (MK.get t5 2 rfl)
        obtain ⟨a3, a4, a5, a6, a7⟩ := ZK.out _ _ t5 rfl
        clear t5
        go_region_held3 (fun w' => w'.cell? ⟨K0, 0, none⟩ = some (.int .i64 ri) ∧ w'.cell? ⟨K0, 1, none⟩ = some (.int .i64 ro) ∧ w'.cell? ⟨K0, 2, none⟩ = some (.slice X N cx) ∧ w'.cell? ⟨K0 + 1, 0, none⟩ = some (.int .u8 a) ∧ w'.cell? ⟨K0 + 1, 1, none⟩ = some (.int .u8 b) ∧ w'.cell? ⟨K0 + 1, 2, none⟩ = some (.int .u8 dd) ∧ w'.cell? ⟨K0 + 1, 3, none⟩ = some (.bool q) ∧ w'.cell? ⟨K0 + 1, 4, none⟩ = some (.slice A EL ca))
          (first | exact ⟨x20, x21, x22, x23, x24, x25, x26, x27⟩ | exact ⟨x10, x11, x12, x13, x14, x15, x16, x17⟩ | exact ⟨a0, a1, a2, a3, a4, a5, a6, a7⟩ | go_keep)
          (first
            | (go_at_call 11
               have TT := CO.out _ (HR.out.below sD.2.1)
               refine TT.mono ?_
               rintro e wa1 ⟨B5, k5, rfl, hr5, hb1⟩
               have u1 := MK.putR (MT.next sD hb1) hr5
               have y1 := below_next y0 hb1
               obtain ⟨x10, x11, x12⟩ := BxM.cells (MK.get u1 3 rfl)
               obtain ⟨x13, x14, x15, x16, x17⟩ := ZK.out _ _ (MT.next sD hb1) rfl
               dsimp only)
            | (go_at_call 23
               (with_reducible refine (CHA.out B5 k5 _ (MK.get u1 4 rfl) (MK.get u1 0 rfl)).mono ?_)
               rintro e wa2 ⟨rfl, hb2⟩
               have u2 := MT.next u1 hb2
               have y2 := below_next y1 hb2
               obtain ⟨x20, x21, x22⟩ := BxM.cells (MK.get u2 3 rfl)
               obtain ⟨x23, x24, x25, x26, x27⟩ := ZK.out _ _ (MT.next (MT.next sD hb1) hb2) rfl
               dsimp only)
            | fail)
        all_goals
          go_wp2_with fail
          go_meet
          exact ⟨rfl, rfl, y2⟩
      case rest =>
      obtain ⟨rfl, rfl, hbc⟩ := hcut
      have t6 := MT.next t5 hbc
      clear t5 hbc
      obtain ⟨w6, hw6⟩ : ∃ x, x = wc := ⟨_, rfl⟩
      rw [← hw6] at t6 ⊢
      clear hw6
      go_upto_region 17 with fail
      go_cut [15, 16] from 95 to 100 (fun u v wx => u = .bool false ∧ v = .int .i64 Z ∧ Below w6.heap.size w6 wx)
      case first =>
        have sD := MT.next t6 (Below.refl _ _).drew
        have y0 : Below w6.heap.size w6 w6.drew := (Below.refl _ _).drew
        obtain ⟨a0, a1, a2⟩ := BxM.cells (MK.get t6 2 rfl)
        obtain ⟨a3, a4, a5, a6, a7⟩ := ZK.out _ _ t6 rfl
        clear t6
        go_region_held3 (fun w' => w'.cell? ⟨K0, 0, none⟩ = some (.int .i64 ri) ∧ w'.cell? ⟨K0, 1, none⟩ = some (.int .i64 ro) ∧ w'.cell? ⟨K0, 2, none⟩ = some (.slice X N cx) ∧ w'.cell? ⟨K0 + 1, 0, none⟩ = some (.int .u8 a) ∧ w'.cell? ⟨K0 + 1, 1, none⟩ = some (.int .u8 b) ∧ w'.cell? ⟨K0 + 1, 2, none⟩ = some (.int .u8 dd) ∧ w'.cell? ⟨K0 + 1, 3, none⟩ = some (.bool q) ∧ w'.cell? ⟨K0 + 1, 4, none⟩ = some (.slice A EL ca))
          (first | exact ⟨x20, x21, x22, x23, x24, x25, x26, x27⟩ | exact ⟨x10, x11, x12, x13, x14, x15, x16, x17⟩ | exact ⟨a0, a1, a2, a3, a4, a5, a6, a7⟩ | go_keep)
          (first
            | (go_at_call 11
               have TT := CO.out _ (HR.out.below sD.2.1)
               refine TT.mono ?_
               rintro e wa1 ⟨B5, k5, rfl, hr5, hb1⟩
               have u1 := MK.putR (MT.next sD hb1) hr5
               have y1 := below_next y0 hb1
               obtain ⟨x10, x11, x12⟩ := BxM.cells (MK.get u1 3 rfl)
               obtain ⟨x13, x14, x15, x16, x17⟩ := ZK.out _ _ (MT.next sD hb1) rfl
               dsimp only)
            | (go_at_call 23
               (with_reducible refine (CHB.out B5 k5 _ (MK.get u1 4 rfl) (MK.get u1 0 rfl)).mono ?_)
               rintro e wa2 ⟨rfl, hb2⟩
               have u2 := MT.next u1 hb2
               have y2 := below_next y1 hb2
               obtain ⟨x20, x21, x22⟩ := BxM.cells (MK.get u2 3 rfl)
               obtain ⟨x23, x24, x25, x26, x27⟩ := ZK.out _ _ (MT.next (MT.next sD hb1) hb2) rfl
               dsimp only)
            | fail)
        all_goals
          go_wp2_with fail
          go_meet
          exact ⟨rfl, rfl, y2⟩
      case rest =>
      obtain ⟨rfl, rfl, hbc⟩ := hcut
      have t7 := MT.next t6 hbc
      clear t6 hbc
      obtain ⟨q0, q1, q2⟩ := BxM.cells (MK.get t7 0 rfl)
      have hZZ : (Z == Z) = true := by simp
      clear ZK CO CHA CHB
      go_wp2_with fail
      refine (qlives_walk _).mono ?_
      rintro e w8 ⟨rfl, hb⟩
      have hfin := (MT.next t7 hb).2.1
      clear hb t7 q0 q1 q2
      go_wp2_with fail
      go_ret
      exact ⟨rfl, hfin⟩

set_option maxRecDepth 100000 in
set_option maxHeartbeats 2000000 in
/-- The machine is not valid. -/
theorem qerr_A2 (ri ro : Int) (X : Option Addr) (cx N : Nat) (rs : List (List Ed)) (a b dd : Int) (q : Bool) (A : Option Addr) (ca EL : Nat) (w : World) (hx : RdR w X rs) (hN : rs.length = N)
    (h70 : N ≤ 70) (hrw : ∀ row ∈ rs, row.length ≤ 20) (es : List Int) (h16 : Rd16 w A es) (hEL : es.length = EL) (hle : es.length ≤ 9223372036854775807) (ha : 0 ≤ a ∧ a ≤ 255) (hb : 0 ≤ b ∧ b ≤ 255) (hd : 0 ≤ dd ∧ dd ≤ 255) (hz : Mc.chk ⟨ri, ro, rs⟩ ≠ 0) (hbig : 65 ≤ N) :
    Calls Try.prog 8 #[.agg #[.int .i64 ri, .int .i64 ro, .slice X N cx], .agg #[.int .u8 a, .int .u8 b, .int .u8 dd, .bool q, .slice A EL ca]] w fun e w' => e = .returned (.bool true) ∧ Below w.heap.size w w' := by
  have hk6 : N ≤ 1000000 := by omega
  have hrl : ∀ row ∈ rs, row.length ≤ 1000000 := fun row hrow => by have := hrw row hrow; omega
  have HN := Lib.hid hN
  have HRW := Lib.hid hrw
  have CK : Hid (∀ w, RdR w X rs → Calls Try.prog 31 #[.agg #[.int .i64 ri, .int .i64 ro, .slice X N cx]] w fun e w' => e = .returned (.int .i64 (Mc.chk ⟨ri, ro, rs⟩)) ∧ Below w.heap.size w w') := fun w hr => by
    have h := rmcheck_any ⟨ri, ro, rs⟩ X cx w hr (by simp only; omega)
    simp only [hN] at h
    exact h
  obtain ⟨Z, hchk⟩ : ∃ Z, Mc.chk ⟨ri, ro, rs⟩ = Z := ⟨_, rfl⟩
  rw [hchk] at hz CK
  have CM : Hid (∀ w, RdR w X rs → Calls Try.prog 13 #[.agg #[.int .i64 ri, .int .i64 ro, .slice X N cx]] w fun e w' => e = .returned (.tuple #[.agg #[.int .i64 0, .int .i64 0, .slice none 0 0], .int .i64 Z]) ∧ Below w.heap.size w w') := fun w hr => by
    exact qmin_err ri ro rs X N cx w Z hr hN hk6 hrl hchk hz
  have CP : Hid (∀ w, RdR w X rs → Calls Try.prog 20 #[.agg #[.int .i64 ri, .int .i64 ro, .slice X N cx]] w fun e w' => e = .returned (.tuple #[.slice none 0 0, .int .i64 Z]) ∧ Below w.heap.size w w') := fun w hr => by
    exact qmap_err ri ro rs X N cx w Z hr hN hk6 hrl hchk hz
  have CI : Hid (∀ w, RdR w X rs → Calls Try.prog 18 #[.agg #[.int .i64 ri, .int .i64 ro, .slice X N cx]] w fun e w' => e = .returned (.tuple #[.bool false, .int .i64 Z]) ∧ Below w.heap.size w w') := fun w hr => by
    exact qis_err ri ro rs X N cx w Z hr hN hk6 hrl hchk hz
  have CQ : Hid (∀ w, RdR w X rs → Calls Try.prog 28 #[.agg #[.int .i64 ri, .int .i64 ro, .slice X N cx]] w fun e w' => e = .returned (.int .i64 Z) ∧ Below w.heap.size w w') := fun w hr => by
    exact qproper_err ri ro rs X N cx w Z hr hN hk6 hrl hchk hz
  have CR : Hid (∀ w, RdR w X rs → Calls Try.prog 29 #[.agg #[.int .i64 ri, .int .i64 ro, .slice X N cx]] w fun e w' => e = .returned (.int .i64 Z) ∧ Below w.heap.size w w') := fun w hr => by
    have h := rproper_err ⟨ri, ro, rs⟩ X cx w Z hchk hz hr (by simp only; omega)
    simp only [hN] at h
    exact h
  obtain ⟨n, hn⟩ : ∃ n : Nat, 1 + a % 6 = n := ⟨(1 + a % 6).toNat, by omega⟩
  obtain ⟨i, hi⟩ : ∃ i : Nat, 1 + b % 3 = i := ⟨(1 + b % 3).toNat, by omega⟩
  obtain ⟨o, ho⟩ : ∃ o : Nat, 1 + dd % 3 = o := ⟨(1 + dd % 3).toNat, by omega⟩
  have V := Lib.hid (Mc.mkN_val (p := q) (n := n) (i := i) (o := o) (es := es) (by omega) (by omega) (by omega) (by omega) (by omega) (by omega))
  have hlen : Hid ((Mc.mkN q n i o es).r.length = n) := Mc.mkN_len _ _ _ _ _
  have hmi : Hid ((Mc.mkN q n i o es).i = i) := rfl
  have hmo : Hid ((Mc.mkN q n i o es).o = o) := rfl
  obtain ⟨M, hM⟩ : ∃ M, Mc.mkN q n i o es = M := ⟨_, rfl⟩
  rw [hM] at V hlen hmi hmo
  have CO : Hid (∀ w, Rd16 w A es → Calls Try.prog 11 #[.agg #[.int .u8 a, .int .u8 b, .int .u8 dd, .bool q, .slice A EL ca]] w fun e w' => ∃ B k, e = .returned (.agg #[.int .i64 i, .int .i64 o, .slice B n k]) ∧ RdR w' B M.r ∧ Below w.heap.size w w') := fun w hr => by
    have h := mofB_at a b dd q A ca es n i o w hr hle ha hb hd hn hi ho
    rw [hEL] at h
    refine h.mono ?_
    rintro e w' ⟨B, k, vs, rfl, hB, hbl⟩
    obtain ⟨B2, k2, hE, _, _, _, hrd⟩ := hB.out.rd
    injection hE with h1 h2 h3
    subst h1
    exact ⟨B, k, rfl, by rw [← hM]; exact hrd, hbl⟩
  have hn6 : n ≤ 6 := by omega
  have CHA : Hid (∀ B k w, RdR w X rs → RdR w B M.r → Calls Try.prog 23 #[.agg #[.int .i64 ri, .int .i64 ro, .slice X N cx], .agg #[.int .i64 i, .int .i64 o, .slice B n k], .slice none 0 0] w fun e w' => e = .returned (.tuple #[.bool false, .int .i64 Z]) ∧ Below w.heap.size w w') := fun B k w hr hrM =>
    qhom_err ⟨ri, ro, rs⟩ M ri ro i o X B N cx n k none 0 0 [] w Z rfl rfl hmi.out hmo.out hr hrM hN hlen.out hk6 (by omega) hrl V.out.rows (Rd.nil_) rfl (by omega) (by unfold Mc.hmE; rw [if_pos (by rw [hchk]; exact hz), hchk]) hz
  have CHB : Hid (∀ B k w, RdR w X rs → RdR w B M.r → Calls Try.prog 23 #[.agg #[.int .i64 i, .int .i64 o, .slice B n k], .agg #[.int .i64 ri, .int .i64 ro, .slice X N cx], .slice none 0 0] w fun e w' => e = .returned (.tuple #[.bool false, .int .i64 Z]) ∧ Below w.heap.size w w') := fun B k w hr hrM =>
    qhom_err M ⟨ri, ro, rs⟩ i o ri ro B X n k N cx none 0 0 [] w Z hmi.out hmo.out rfl rfl hrM hr hlen.out hN (by omega) hk6 V.out.rows hrl (Rd.nil_) rfl (by omega) (by unfold Mc.hmE; rw [if_neg (by rw [Mc.chk_of V.out]; simp), if_pos (by rw [hchk]; exact hz), hchk]) hz
  have HR := Lib.hid h16
  have hz2 : (Z == 0) = false := by simp [hz]
  have hz3 : ¬ Z = 0 := hz

  clear hN hrw hrl hchk hz h16 hEL hle ha hb hd hn hi ho V hlen hmi hmo hM
  have s1 : MT w w _ := MK.putR MT.start hx
  clear hx
  obtain ⟨K0, hK0⟩ : ∃ K0, w.heap.size = K0 := ⟨_, rfl⟩
  have s2 := MK.putB (g := w.heap.size) (MT.alloc s1 (.cells #[.int .i64 ri, .int .i64 ro, .slice X N cx] 30)) (heap_alloc_new w _)
  have s4 := MT.putK (P := fun w => w.heap[K0 + 1]? = some (.cells #[.int .u8 a, .int .u8 b, .int .u8 dd, .bool q, .slice A EL ca] 24)) (MT.alloc s2 (.cells #[.int .u8 a, .int .u8 b, .int .u8 dd, .bool q, .slice A EL ca] 24))
    (by
      have h := heap_alloc_new (w.alloc (.cells #[.int .i64 ri, .int .i64 ro, .slice X N cx] 30)) (.cells #[.int .u8 a, .int .u8 b, .int .u8 dd, .bool q, .slice A EL ca] 24)
      rw [World.size_alloc, hK0] at h
      exact h) (fun _ _ h hb => (hb.block _ (heap_lt h)).trans h)
  rw [hK0] at s4
  clear s1 s2
  go_enter Try.func8, Try.ntmps8
  go_upto_region 1 with fail
  obtain ⟨W0, hW0⟩ : ∃ W0, (w.alloc (.cells #[.int .i64 ri, .int .i64 ro, .slice X N cx] 30)).alloc (.cells #[.int .u8 a, .int .u8 b, .int .u8 dd, .bool q, .slice A EL ca] 24) = W0 := ⟨_, rfl⟩
  rw [hW0] at s4
  rw [hW0]
  clear hW0
  obtain ⟨q0, q1, q2⟩ := BxM.cells (MK.get s4 1 rfl)
  have hd20 : decide ((20 : Int) < N) = true := decide_eq_true (by omega)
  have hd65 : decide ((N : Int) < 65) = false := decide_eq_false (by omega)
  have hd70 : decide ((70 : Int) < N) = false := decide_eq_false (by omega)
  go_wp2
  clear q0 q1 q2 hd70 hd20 hd65
  have SF := Lib.hid s4
  clear s4
  go_loopw [5] (fun v wr => ∃ k : Nat, k ≤ N ∧ v = .int .i64 k ∧ Hid (Below W0.heap.size W0 wr)) (fun v _ => N - (intOf v).toNat)
  case atStart => exact ⟨0, by omega, rfl, Below.refl _ _⟩
  case round =>
    obtain ⟨k, hk, rfl, hbr⟩ := hrel
    have sK := MT.next SF.out hbr.out
    obtain ⟨q0, q1, q2⟩ := BxM.cells (MK.get sK 1 rfl)
    by_cases hlt : k < N
    · have hkn : (k : Int) < N := by omega
      obtain ⟨br, ofr, Br, cr, nr, row, rfl, _, hcr, _, _, _, _, hrl, hrk⟩ := (MK.get sK 2 rfl).at_ (k := k) (by rw [HN.out]; exact hlt)
      have hnr : nr ≤ 20 := by rw [← hrl.out]; exact HRW.out row (List.mem_of_getElem? hrk.out)
      have hd20 : decide ((20 : Int) < nr) = false := decide_eq_false (by omega)
      clear sK hrl hrk
      go_wp2
      go_roundw
      case rel => exact ⟨k + 1, by omega, by go_num, hbr⟩
      case measure => simp [intOf]; omega
    · have hkn : decide ((k : Int) < N) = false := decide_eq_false (by omega)
      clear SF hbr HRW HN
      go_wp2_with fail
      refine (CK.out _ (MK.get sK 2 rfl)).mono ?_
      rintro e w1 ⟨rfl, hb⟩
      have t1 := MT.next sK hb
      clear hb sK q0 q1 q2 CK
      obtain ⟨q0, q1, q2⟩ := BxM.cells (MK.get t1 1 rfl)
      go_wp2_with fail
      refine (CM.out _ (MK.get t1 2 rfl)).mono ?_
      rintro e w2 ⟨rfl, hb⟩
      have t2 := MK.putB (g := w2.heap.size) (MT.alloc (MT.next t1 hb) (.cells #[.int .i64 0, .int .i64 0, .slice none 0 0] 30)) (heap_alloc_new w2 _)
      clear hb t1 q0 q1 q2 CM
      go_upto_region 10 with fail
      obtain ⟨gc, hgc⟩ : ∃ g, w2.heap.size = g := ⟨_, rfl⟩
      obtain ⟨W2, hW2⟩ : ∃ W, w2.alloc (.cells #[.int .i64 0, .int .i64 0, .slice none 0 0] 30) = W := ⟨_, rfl⟩
      rw [hgc, hW2] at t2
      try rw [hgc]
      try rw [hW2]
      clear hgc hW2
      obtain ⟨q0, q1, q2⟩ := BxM.cells (MK.get t2 2 rfl)
      go_wp2_with fail
      refine (CP.out _ (MK.get t2 3 rfl)).mono ?_
      rintro e w3 ⟨rfl, hb⟩
      have t3 := MT.next t2 hb
      clear hb t2 q0 q1 q2 CP
      obtain ⟨q0, q1, q2⟩ := BxM.cells (MK.get t3 2 rfl)
      go_wp2_with fail
      refine (CI.out _ (MK.get t3 3 rfl)).mono ?_
      rintro e w4 ⟨rfl, hb⟩
      have t4 := MT.next t3 hb
      clear hb t3 q0 q1 q2 CI
      go_upto_region 12 with fail
      go_cut [83] from 64 to 83 (fun f wx => f = .bool false ∧ Below w4.heap.size w4 wx)
      case first =>
        have sD := MT.next t4 (Below.refl _ _).drew
        have y0 : Below w4.heap.size w4 w4.drew := (Below.refl _ _).drew
        obtain ⟨a0, a1, a2⟩ := BxM.cells (MK.get t4 2 rfl)
        clear t4
        go_region_held3 (fun w' => w'.cell? ⟨K0, 0, none⟩ = some (.int .i64 ri) ∧ w'.cell? ⟨K0, 1, none⟩ = some (.int .i64 ro) ∧ w'.cell? ⟨K0, 2, none⟩ = some (.slice X N cx))
          (first | exact ⟨x20, x21, x22⟩ | exact ⟨x10, x11, x12⟩ | exact ⟨a0, a1, a2⟩ | go_keep)
          (first
            | (go_at_call 28
               (with_reducible refine (CQ.out _ (MK.get sD 3 rfl)).mono ?_)
               rintro e wa1 ⟨rfl, hb1⟩
               have t1 := MT.next sD hb1
               have y1 := below_next y0 hb1
               obtain ⟨x10, x11, x12⟩ := BxM.cells (MK.get t1 2 rfl)
               dsimp only)
            | (go_at_call 29
               (with_reducible refine (CR.out _ (MK.get t1 3 rfl)).mono ?_)
               rintro e wa2 ⟨rfl, hb2⟩
               have t2 := MT.next t1 hb2
               have y2 := below_next y1 hb2
               obtain ⟨x20, x21, x22⟩ := BxM.cells (MK.get t2 2 rfl)
               dsimp only)
            | fail)
        all_goals
          go_wp2_with fail
          go_meet
          exact ⟨rfl, y2⟩
      case rest =>
      obtain ⟨rfl, hbc⟩ := hcut
      have t5 := MT.next t4 hbc
      clear t4 hbc CQ CR
      have ZK : Hid (∀ (V : World) (L : List (World → Prop)), MT w V L → L[1]? = some (fun w => w.heap[K0 + 1]? = some (.cells #[.int .u8 a, .int .u8 b, .int .u8 dd, .bool q, .slice A EL ca] 24)) → V.cell? ⟨K0 + 1, 0, none⟩ = some (.int .u8 a) ∧ V.cell? ⟨K0 + 1, 1, none⟩ = some (.int .u8 b) ∧ V.cell? ⟨K0 + 1, 2, none⟩ = some (.int .u8 dd) ∧ V.cell? ⟨K0 + 1, 3, none⟩ = some (.bool q) ∧ V.cell? ⟨K0 + 1, 4, none⟩ = some (.slice A EL ca)) := fun V L h hL => by
        have h1 := MK.get h 1 hL
        refine ⟨?_, ?_, ?_, ?_, ?_⟩ <;> (rw [cell_of_row _ _ _ _ _ _ h1]; rfl)
      go_upto_region 16 with fail
      go_cut [13, 14] from 88 to 93 (fun u v wx => u = .bool false ∧ v = .int .i64 Z ∧ Below wc.heap.size wc wx)
      case first =>
        have sD := MT.next t5 (Below.refl _ _).drew
        have y0 : Below wc.heap.size wc wc.drew := (Below.refl _ _).drew
        obtain ⟨a0, a1, a2⟩ := BxM.cells (MK.get t5 2 rfl)
        obtain ⟨a3, a4, a5, a6, a7⟩ := ZK.out _ _ t5 rfl
        clear t5
        go_region_held3 (fun w' => w'.cell? ⟨K0, 0, none⟩ = some (.int .i64 ri) ∧ w'.cell? ⟨K0, 1, none⟩ = some (.int .i64 ro) ∧ w'.cell? ⟨K0, 2, none⟩ = some (.slice X N cx) ∧ w'.cell? ⟨K0 + 1, 0, none⟩ = some (.int .u8 a) ∧ w'.cell? ⟨K0 + 1, 1, none⟩ = some (.int .u8 b) ∧ w'.cell? ⟨K0 + 1, 2, none⟩ = some (.int .u8 dd) ∧ w'.cell? ⟨K0 + 1, 3, none⟩ = some (.bool q) ∧ w'.cell? ⟨K0 + 1, 4, none⟩ = some (.slice A EL ca))
          (first | exact ⟨x20, x21, x22, x23, x24, x25, x26, x27⟩ | exact ⟨x10, x11, x12, x13, x14, x15, x16, x17⟩ | exact ⟨a0, a1, a2, a3, a4, a5, a6, a7⟩ | go_keep)
          (first
            | (go_at_call 11
               have TT := CO.out _ (HR.out.below sD.2.1)
               refine TT.mono ?_
               rintro e wa1 ⟨B5, k5, rfl, hr5, hb1⟩
               have u1 := MK.putR (MT.next sD hb1) hr5
               have y1 := below_next y0 hb1
               obtain ⟨x10, x11, x12⟩ := BxM.cells (MK.get u1 3 rfl)
               obtain ⟨x13, x14, x15, x16, x17⟩ := ZK.out _ _ (MT.next sD hb1) rfl
               dsimp only)
            | (go_at_call 23
               (with_reducible refine (CHA.out B5 k5 _ (MK.get u1 4 rfl) (MK.get u1 0 rfl)).mono ?_)
               rintro e wa2 ⟨rfl, hb2⟩
               have u2 := MT.next u1 hb2
               have y2 := below_next y1 hb2
               obtain ⟨x20, x21, x22⟩ := BxM.cells (MK.get u2 3 rfl)
               obtain ⟨x23, x24, x25, x26, x27⟩ := ZK.out _ _ (MT.next (MT.next sD hb1) hb2) rfl
               dsimp only)
            | fail)
        all_goals
          go_wp2_with fail
          go_meet
          exact ⟨rfl, rfl, y2⟩
      case rest =>
      obtain ⟨rfl, rfl, hbc⟩ := hcut
      have t6 := MT.next t5 hbc
      clear t5 hbc
      obtain ⟨w6, hw6⟩ : ∃ x, x = wc := ⟨_, rfl⟩
      rw [← hw6] at t6 ⊢
      clear hw6
      go_upto_region 17 with fail
      go_cut [15, 16] from 95 to 100 (fun u v wx => u = .bool false ∧ v = .int .i64 Z ∧ Below w6.heap.size w6 wx)
      case first =>
        have sD := MT.next t6 (Below.refl _ _).drew
        have y0 : Below w6.heap.size w6 w6.drew := (Below.refl _ _).drew
        obtain ⟨a0, a1, a2⟩ := BxM.cells (MK.get t6 2 rfl)
        obtain ⟨a3, a4, a5, a6, a7⟩ := ZK.out _ _ t6 rfl
        clear t6
        go_region_held3 (fun w' => w'.cell? ⟨K0, 0, none⟩ = some (.int .i64 ri) ∧ w'.cell? ⟨K0, 1, none⟩ = some (.int .i64 ro) ∧ w'.cell? ⟨K0, 2, none⟩ = some (.slice X N cx) ∧ w'.cell? ⟨K0 + 1, 0, none⟩ = some (.int .u8 a) ∧ w'.cell? ⟨K0 + 1, 1, none⟩ = some (.int .u8 b) ∧ w'.cell? ⟨K0 + 1, 2, none⟩ = some (.int .u8 dd) ∧ w'.cell? ⟨K0 + 1, 3, none⟩ = some (.bool q) ∧ w'.cell? ⟨K0 + 1, 4, none⟩ = some (.slice A EL ca))
          (first | exact ⟨x20, x21, x22, x23, x24, x25, x26, x27⟩ | exact ⟨x10, x11, x12, x13, x14, x15, x16, x17⟩ | exact ⟨a0, a1, a2, a3, a4, a5, a6, a7⟩ | go_keep)
          (first
            | (go_at_call 11
               have TT := CO.out _ (HR.out.below sD.2.1)
               refine TT.mono ?_
               rintro e wa1 ⟨B5, k5, rfl, hr5, hb1⟩
               have u1 := MK.putR (MT.next sD hb1) hr5
               have y1 := below_next y0 hb1
               obtain ⟨x10, x11, x12⟩ := BxM.cells (MK.get u1 3 rfl)
               obtain ⟨x13, x14, x15, x16, x17⟩ := ZK.out _ _ (MT.next sD hb1) rfl
               dsimp only)
            | (go_at_call 23
               (with_reducible refine (CHB.out B5 k5 _ (MK.get u1 4 rfl) (MK.get u1 0 rfl)).mono ?_)
               rintro e wa2 ⟨rfl, hb2⟩
               have u2 := MT.next u1 hb2
               have y2 := below_next y1 hb2
               obtain ⟨x20, x21, x22⟩ := BxM.cells (MK.get u2 3 rfl)
               obtain ⟨x23, x24, x25, x26, x27⟩ := ZK.out _ _ (MT.next (MT.next sD hb1) hb2) rfl
               dsimp only)
            | fail)
        all_goals
          go_wp2_with fail
          go_meet
          exact ⟨rfl, rfl, y2⟩
      case rest =>
      obtain ⟨rfl, rfl, hbc⟩ := hcut
      have t7 := MT.next t6 hbc
      clear t6 hbc
      obtain ⟨q0, q1, q2⟩ := BxM.cells (MK.get t7 0 rfl)
      have hZZ : (Z == Z) = true := by simp
      clear ZK CO CHA CHB
      go_wp2_with fail
      refine (qlives_walk _).mono ?_
      rintro e w8 ⟨rfl, hb⟩
      have hfin := (MT.next t7 hb).2.1
      clear hb t7 q0 q1 q2
      go_wp2_with fail
      go_ret
      exact ⟨rfl, hfin⟩

set_option maxRecDepth 100000 in
set_option maxHeartbeats 2000000 in
/-- The machine is valid. -/
theorem qerr_V (ri ro : Int) (X : Option Addr) (cx N : Nat) (rs : List (List Ed)) (a b dd : Int) (q : Bool) (A : Option Addr) (ca EL : Nat) (w : World) (hx : RdR w X rs) (hN : rs.length = N)
    (h70 : N ≤ 70) (hrw : ∀ row ∈ rs, row.length ≤ 20) (h65 : ¬ (20 < N ∧ N < 65)) (hz : Mc.chk ⟨ri, ro, rs⟩ = 0) :
    Calls Try.prog 8 #[.agg #[.int .i64 ri, .int .i64 ro, .slice X N cx], .agg #[.int .u8 a, .int .u8 b, .int .u8 dd, .bool q, .slice A EL ca]] w fun e w' => e = .returned (.bool true) ∧ Below w.heap.size w w' := by
  have hk6 : N ≤ 1000000 := by omega
  have hrl : ∀ row ∈ rs, row.length ≤ 1000000 := fun row hrow => by have := hrw row hrow; omega
  have HN := Lib.hid hN
  have HRW := Lib.hid hrw
  have CK : Hid (∀ w, RdR w X rs → Calls Try.prog 31 #[.agg #[.int .i64 ri, .int .i64 ro, .slice X N cx]] w fun e w' => e = .returned (.int .i64 (Mc.chk ⟨ri, ro, rs⟩)) ∧ Below w.heap.size w w') := fun w hr => by
    have h := rmcheck_any ⟨ri, ro, rs⟩ X cx w hr (by simp only; omega)
    simp only [hN] at h
    exact h
  have v : Mc.Val ⟨ri, ro, rs⟩ := Mc.val_of hz
  rw [hz] at CK
  obtain ⟨NM, hNM⟩ : ∃ n, (Mc.qn ⟨ri, ro, rs⟩).r.length = n := ⟨_, rfl⟩
  obtain ⟨bI, hbI⟩ : ∃ b, decide ((Mc.qn ⟨ri, ro, rs⟩).r.length = N) = b := ⟨_, rfl⟩
  obtain ⟨Z2, hZ2⟩ : ∃ z, Mc.prp ⟨ri, ro, rs⟩ = z := ⟨_, rfl⟩
  have hZ3 : Mc.prR ⟨ri, ro, rs⟩ = Z2 := by rw [← Mc.prp_prR v]; exact hZ2
  have CM : Hid (∀ w, RdR w X rs → Calls Try.prog 13 #[.agg #[.int .i64 ri, .int .i64 ro, .slice X N cx]] w fun e w' => ∃ P, e = .returned (.tuple #[.agg #[.int .i64 ri, .int .i64 ro, .slice (some ⟨P, 0, none⟩) NM NM], .int .i64 0]) ∧ Below w.heap.size w w') := fun w hr => by
    refine (qmin_at ⟨ri, ro, rs⟩ ri ro X N cx w NM v rfl rfl hN hNM hr).mono ?_
    rintro e w' ⟨P, rfl, _, h⟩
    exact ⟨P, rfl, h⟩
  have CP : Hid (∀ w, RdR w X rs → Calls Try.prog 20 #[.agg #[.int .i64 ri, .int .i64 ro, .slice X N cx]] w fun e w' => ∃ g, e = .returned (.tuple #[.slice (some ⟨g, 0, none⟩) N N, .int .i64 0]) ∧ Below w.heap.size w w') := fun w hr => by
    refine (qmap_at ⟨ri, ro, rs⟩ ri ro X N cx w v rfl rfl hN hr).mono ?_
    rintro e w' ⟨g, rfl, _, h⟩
    exact ⟨g, rfl, h⟩
  have CI : Hid (∀ w, RdR w X rs → Calls Try.prog 18 #[.agg #[.int .i64 ri, .int .i64 ro, .slice X N cx]] w fun e w' => e = .returned (.tuple #[.bool bI, .int .i64 0]) ∧ Below w.heap.size w w') := fun w hr =>
    qis_at ⟨ri, ro, rs⟩ ri ro X N cx w bI v rfl rfl hN hbI hr
  have CQ : Hid (∀ w, RdR w X rs → Calls Try.prog 28 #[.agg #[.int .i64 ri, .int .i64 ro, .slice X N cx]] w fun e w' => e = .returned (.int .i64 Z2) ∧ Below w.heap.size w w') := fun w hr =>
    qproper_at ⟨ri, ro, rs⟩ ri ro X N cx w Z2 v rfl rfl hN hZ2 hr
  obtain ⟨ni, hni⟩ := Int.eq_ofNat_of_zero_le (show 0 ≤ ri by have := v.i0; simp only at this; omega)
  have CR : Hid (∀ w, RdR w X rs → Calls Try.prog 29 #[.agg #[.int .i64 ri, .int .i64 ro, .slice X N cx]] w fun e w' => e = .returned (.int .i64 Z2) ∧ Below w.heap.size w w') := fun w hr => by
    have h := rproper_any ⟨ri, ro, rs⟩ X cx w ni ro N Z2 v hni rfl hN hZ3 hr
    rw [← hni] at h
    exact h
  have hN20 : N ≤ 20 := by have := v.r1; simp only [hN] at this; omega

  clear hN hrw hrl hz v hNM hbI hZ2 hZ3 hni h65
  have s1 : MT w w _ := MK.putR MT.start hx
  clear hx
  obtain ⟨K0, hK0⟩ : ∃ K0, w.heap.size = K0 := ⟨_, rfl⟩
  have s2 := MK.putB (g := w.heap.size) (MT.alloc s1 (.cells #[.int .i64 ri, .int .i64 ro, .slice X N cx] 30)) (heap_alloc_new w _)
  have s4 := MT.putK (P := fun w => w.heap[K0 + 1]? = some (.cells #[.int .u8 a, .int .u8 b, .int .u8 dd, .bool q, .slice A EL ca] 24)) (MT.alloc s2 (.cells #[.int .u8 a, .int .u8 b, .int .u8 dd, .bool q, .slice A EL ca] 24))
    (by
      have h := heap_alloc_new (w.alloc (.cells #[.int .i64 ri, .int .i64 ro, .slice X N cx] 30)) (.cells #[.int .u8 a, .int .u8 b, .int .u8 dd, .bool q, .slice A EL ca] 24)
      rw [World.size_alloc, hK0] at h
      exact h) (fun _ _ h hb => (hb.block _ (heap_lt h)).trans h)
  rw [hK0] at s4
  clear s1 s2
  go_enter Try.func8, Try.ntmps8
  go_upto_region 1 with fail
  obtain ⟨W0, hW0⟩ : ∃ W0, (w.alloc (.cells #[.int .i64 ri, .int .i64 ro, .slice X N cx] 30)).alloc (.cells #[.int .u8 a, .int .u8 b, .int .u8 dd, .bool q, .slice A EL ca] 24) = W0 := ⟨_, rfl⟩
  rw [hW0] at s4
  rw [hW0]
  clear hW0
  obtain ⟨q0, q1, q2⟩ := BxM.cells (MK.get s4 1 rfl)
  have hd20 : decide ((20 : Int) < N) = false := decide_eq_false (by omega)
  have hd70 : decide ((70 : Int) < N) = false := decide_eq_false (by omega)
  go_wp2
  clear q0 q1 q2 hd70 hd20
  have SF := Lib.hid s4
  clear s4
  go_loopw [5] (fun v wr => ∃ k : Nat, k ≤ N ∧ v = .int .i64 k ∧ Hid (Below W0.heap.size W0 wr)) (fun v _ => N - (intOf v).toNat)
  case atStart => exact ⟨0, by omega, rfl, Below.refl _ _⟩
  case round =>
    obtain ⟨k, hk, rfl, hbr⟩ := hrel
    have sK := MT.next SF.out hbr.out
    obtain ⟨q0, q1, q2⟩ := BxM.cells (MK.get sK 1 rfl)
    by_cases hlt : k < N
    · have hkn : (k : Int) < N := by omega
      obtain ⟨br, ofr, Br, cr, nr, row, rfl, _, hcr, _, _, _, _, hrl, hrk⟩ := (MK.get sK 2 rfl).at_ (k := k) (by rw [HN.out]; exact hlt)
      have hnr : nr ≤ 20 := by rw [← hrl.out]; exact HRW.out row (List.mem_of_getElem? hrk.out)
      have hd20 : decide ((20 : Int) < nr) = false := decide_eq_false (by omega)
      clear sK hrl hrk
      go_wp2
      go_roundw
      case rel => exact ⟨k + 1, by omega, by go_num, hbr⟩
      case measure => simp [intOf]; omega
    · have hkn : decide ((k : Int) < N) = false := decide_eq_false (by omega)
      clear SF hbr HRW HN
      go_wp2_with fail
      refine (CK.out _ (MK.get sK 2 rfl)).mono ?_
      rintro e w1 ⟨rfl, hb⟩
      have t1 := MT.next sK hb
      clear hb sK q0 q1 q2 CK
      obtain ⟨q0, q1, q2⟩ := BxM.cells (MK.get t1 1 rfl)
      go_wp2_with fail
      refine (CM.out _ (MK.get t1 2 rfl)).mono ?_
      rintro e w2 ⟨p1, rfl, hb⟩
      have t2 := MK.putB (g := w2.heap.size) (MT.alloc (MT.next t1 hb) (.cells #[.int .i64 ri, .int .i64 ro, .slice (some ⟨p1, 0, none⟩) NM NM] 30)) (heap_alloc_new w2 _)
      clear hb t1 q0 q1 q2 CM
      go_upto_region 10 with fail
      obtain ⟨gc, hgc⟩ : ∃ g, w2.heap.size = g := ⟨_, rfl⟩
      obtain ⟨W2, hW2⟩ : ∃ W, w2.alloc (.cells #[.int .i64 ri, .int .i64 ro, .slice (some ⟨p1, 0, none⟩) NM NM] 30) = W := ⟨_, rfl⟩
      rw [hgc, hW2] at t2
      try rw [hgc]
      try rw [hW2]
      clear hgc hW2
      obtain ⟨q0, q1, q2⟩ := BxM.cells (MK.get t2 2 rfl)
      go_wp2_with fail
      refine (CP.out _ (MK.get t2 3 rfl)).mono ?_
      rintro e w3 ⟨g2, rfl, hb⟩
      have t3 := MT.next t2 hb
      clear hb t2 q0 q1 q2 CP
      obtain ⟨q0, q1, q2⟩ := BxM.cells (MK.get t3 2 rfl)
      go_wp2_with fail
      refine (CI.out _ (MK.get t3 3 rfl)).mono ?_
      rintro e w4 ⟨rfl, hb⟩
      have t4 := MT.next t3 hb
      clear hb t3 q0 q1 q2 CI
      go_upto_region 12 with fail
      go_cut [83] from 64 to 83 (fun f wx => f = .bool false ∧ Below w4.heap.size w4 wx)
      case first =>
        have sD := MT.next t4 (Below.refl _ _).drew
        have y0 : Below w4.heap.size w4 w4.drew := (Below.refl _ _).drew
        obtain ⟨a0, a1, a2⟩ := BxM.cells (MK.get t4 2 rfl)
        clear t4
        go_region_held3 (fun w' => w'.cell? ⟨K0, 0, none⟩ = some (.int .i64 ri) ∧ w'.cell? ⟨K0, 1, none⟩ = some (.int .i64 ro) ∧ w'.cell? ⟨K0, 2, none⟩ = some (.slice X N cx))
          (first | exact ⟨x20, x21, x22⟩ | exact ⟨x10, x11, x12⟩ | exact ⟨a0, a1, a2⟩ | go_keep)
          (first
            | (go_at_call 28
               (with_reducible refine (CQ.out _ (MK.get sD 3 rfl)).mono ?_)
               rintro e wa1 ⟨rfl, hb1⟩
               have t1 := MT.next sD hb1
               have y1 := below_next y0 hb1
               obtain ⟨x10, x11, x12⟩ := BxM.cells (MK.get t1 2 rfl)
               dsimp only)
            | (go_at_call 29
               (with_reducible refine (CR.out _ (MK.get t1 3 rfl)).mono ?_)
               rintro e wa2 ⟨rfl, hb2⟩
               have t2 := MT.next t1 hb2
               have y2 := below_next y1 hb2
               obtain ⟨x20, x21, x22⟩ := BxM.cells (MK.get t2 2 rfl)
               dsimp only)
            | fail)
        all_goals
          go_wp2_with fail
          go_meet
          exact ⟨rfl, y2⟩
      case rest =>
      obtain ⟨rfl, hbc⟩ := hcut
      have t5 := MT.next t4 hbc
      clear t4 hbc CQ CR
      go_wp2_with fail
      refine (qlives_walk _).mono ?_
      rintro e w8 ⟨rfl, hb⟩
      have hfin := (MT.next t5 hb).2.1
      clear hb t5
      go_wp2_with fail
      go_ret
      exact ⟨rfl, hfin⟩

theorem qerr_walk (ri ro : Int) (X : Option Addr) (cx : Nat) (rs : List (List Ed)) (a b dd : Int) (q : Bool) (A : Option Addr) (ca : Nat) (es : List Int) (w : World) (hx : RdR w X rs) (h16 : Rd16 w A es) (hle : es.length ≤ 9223372036854775807) (ha : 0 ≤ a ∧ a ≤ 255) (hb : 0 ≤ b ∧ b ≤ 255) (hd : 0 ≤ dd ∧ dd ≤ 255) :
    Calls Try.prog 8 #[.agg #[.int .i64 ri, .int .i64 ro, .slice X rs.length cx], .agg #[.int .u8 a, .int .u8 b, .int .u8 dd, .bool q, .slice A es.length ca]] w fun e w' => e = .returned (.bool true) ∧ Below w.heap.size w w' := by
  by_cases g1 : 70 < rs.length
  · exact qerr_early ri ro X cx _ rs a b dd q A ca _ w hx rfl (.inl g1)
  by_cases g4 : 20 < rs.length ∧ rs.length < 65
  · exact qerr_early ri ro X cx _ rs a b dd q A ca _ w hx rfl (.inr (.inl g4))
  by_cases g3 : ∃ (j : Nat) (row : List Ed), rs[j]? = some row ∧ 20 < row.length
  · exact qerr_early ri ro X cx _ rs a b dd q A ca _ w hx rfl (.inr (.inr g3))
  have hrw : ∀ row ∈ rs, row.length ≤ 20 := fun row hrow => by
    obtain ⟨j, hj⟩ := List.mem_iff_getElem?.1 hrow
    rcases Nat.lt_or_ge 20 row.length with h | h
    · exact absurd ⟨j, row, hj, h⟩ g3
    · exact h
  by_cases hz : Mc.chk ⟨ri, ro, rs⟩ = 0
  · exact qerr_V ri ro X cx _ rs a b dd q A ca _ w hx rfl (by omega) hrw g4 hz
  · by_cases hb20 : rs.length ≤ 20
    · exact qerr_A1 ri ro X cx _ rs a b dd q A ca _ w hx rfl (by omega) hrw es h16 rfl hle ha hb hd hz hb20
    · exact qerr_A2 ri ro X cx _ rs a b dd q A ca _ w hx rfl (by omega) hrw es h16 rfl hle ha hb hd hz (by omega)
end Go.Proofs.Yteegellpbihpeaa
