/-
  The walk of WalksErrors, in six cases. No statement is proved here.
-/
import Derived.Test.YthemaombpddbbaaWeZ
import Derived.Deep.RegionHeld3
import Derived.Deep.CutRange
namespace Go.Proofs.Ythemaombpddbbaa
open Go.RowKit
open Mc (Ed Ma)

set_option maxRecDepth 100000 in
set_option maxHeartbeats 4000000 in
/-- Machines of more than 70 rows, or with a row of more than 20 edges: nothing is asked. -/
theorem lawErr_early (ri ro : Int) (X : Option Addr) (cx : Nat) (rs : List (List Ed)) (a b d : Int) (p : Bool) (A : Option Addr) (c : Nat) (es : List Int) (z0 z1 : Int) (w : World) (hx : RdR w X rs)
    (hgr : 70 < rs.length ∨ (rs.length ≤ 70 ∧ ∃ (j : Nat) (row : List Ed), rs[j]? = some row ∧ 20 < row.length)) :
    Calls Try.prog 5 #[.agg #[.int .i64 ri, .int .i64 ro, .slice X rs.length cx], .agg #[.int .u8 a, .int .u8 b, .int .u8 d, .bool p, .slice A es.length c], .agg #[.int .i64 z0, .int .i64 z1]] w fun e w' => e = .returned (.bool true) ∧ Below w.heap.size w w' := by
  obtain ⟨N, hN⟩ : ∃ N, rs.length = N := ⟨_, rfl⟩
  have HN := Lib.hid hN
  rw [hN]
  rw [hN] at hgr
  have HGR := Lib.hid hgr
  clear hN hgr
  have s1 : MT w w _ := MK.putR MT.start hx
  clear hx
  obtain ⟨K0, hK0⟩ : ∃ K0, w.heap.size = K0 := ⟨_, rfl⟩
  have s2 := MK.putB (g := w.heap.size) (MT.alloc s1 (.cells #[.int .i64 ri, .int .i64 ro, .slice X N cx] 30)) (heap_alloc_new w _)
  have s3 := MT.putK (P := fun w => w.heap[K0 + 1]? = some (.cells #[.int .u8 a, .int .u8 b, .int .u8 d, .bool p, .slice A es.length c] 24)) (MT.alloc s2 (.cells #[.int .u8 a, .int .u8 b, .int .u8 d, .bool p, .slice A es.length c] 24))
    (by
      have h := heap_alloc_new (w.alloc (.cells #[.int .i64 ri, .int .i64 ro, .slice X N cx] 30)) (.cells #[.int .u8 a, .int .u8 b, .int .u8 d, .bool p, .slice A es.length c] 24)
      rw [show (w.alloc (.cells #[.int .i64 ri, .int .i64 ro, .slice X N cx] 30)).heap.size = w.heap.size + 1 by simp, hK0] at h
      exact h) (fun _ _ h hb => (hb.block _ (heap_lt h)).trans h)
  have s4 := MT.putK (P := fun w => w.heap[K0 + 1 + 1]? = some (.cells #[.int .i64 z0, .int .i64 z1] 56)) (MT.alloc s3 (.cells #[.int .i64 z0, .int .i64 z1] 56))
    (by
      have h := heap_alloc_new ((w.alloc (.cells #[.int .i64 ri, .int .i64 ro, .slice X N cx] 30)).alloc (.cells #[.int .u8 a, .int .u8 b, .int .u8 d, .bool p, .slice A es.length c] 24)) (.cells #[.int .i64 z0, .int .i64 z1] 56)
      rw [show ((w.alloc (.cells #[.int .i64 ri, .int .i64 ro, .slice X N cx] 30)).alloc (.cells #[.int .u8 a, .int .u8 b, .int .u8 d, .bool p, .slice A es.length c] 24)).heap.size = w.heap.size + 1 + 1 by simp, hK0] at h
      exact h) (fun _ _ h hb => (hb.block _ (heap_lt h)).trans h)
  rw [hK0] at s4
  clear s1 s2 s3
  go_enter Try.func5, Try.ntmps5
  go_upto_region 1 with fail
  obtain ⟨W0, hW0⟩ : ∃ W0, ((w.alloc (.cells #[.int .i64 ri, .int .i64 ro, .slice X N cx] 30)).alloc (.cells #[.int .u8 a, .int .u8 b, .int .u8 d, .bool p, .slice A es.length c] 24)).alloc (.cells #[.int .i64 z0, .int .i64 z1] 56) = W0 := ⟨_, rfl⟩
  rw [hW0] at s4
  rw [hW0]
  clear hW0
  obtain ⟨q0, q1, q2⟩ := BxM.cells (MK.get s4 2 rfl)
  by_cases h70 : 70 < N
  · have hd70 : decide ((70 : Int) < N) = true := decide_eq_true (by omega)
    have hfin := s4.2.1
    clear s4 HGR
    go_wp2
    go_ret
    exact ⟨rfl, hfin⟩
  have hd70 : decide ((70 : Int) < N) = false := decide_eq_false (by omega)
  go_wp2
  clear q0 q1 q2 hd70
  have SF := Lib.hid s4
  clear s4
  go_loopw [7] (fun v wr => ∃ k : Nat, k ≤ N ∧ v = .int .i64 k ∧ Hid (∀ (j : Nat) row, j < k → rs[j]? = some row → row.length ≤ 20) ∧ Hid (Below W0.heap.size W0 wr)) (fun v _ => N - (intOf v).toNat)
  case atStart => exact ⟨0, by omega, rfl, fun j row h => absurd h (by omega), Below.refl _ _⟩
  case round =>
    obtain ⟨k, hk, rfl, hRk, hbr⟩ := hrel
    have sK := MT.next SF.out hbr.out
    obtain ⟨q0, q1, q2⟩ := BxM.cells (MK.get sK 2 rfl)
    have hlt : k < N := by
      rcases Nat.lt_or_ge k N with h1 | h1
      · exact h1
      · rcases HGR.out with h2 | ⟨_, j, row, hj, h3⟩
        · omega
        · have h4 := (List.getElem?_eq_some_iff.1 hj).1
          have h5 := HN.out
          have := hRk.out j row (by omega) hj
          omega
    have hkn : (k : Int) < N := by omega
    obtain ⟨br, ofr, Br, cr, nr, row, rfl, _, hcr, _, _, _, _, hrl, hrk⟩ := (MK.get sK 3 rfl).at_ (k := k) (by rw [HN.out]; exact hlt)
    by_cases h20 : 20 < nr
    · have hd20 : decide ((20 : Int) < nr) = true := decide_eq_true (by omega)
      have hfin := sK.2.1
      clear sK SF hRk HGR
      go_wp2
      go_ret
      exact ⟨rfl, hfin⟩
    · have hd20 : decide ((20 : Int) < nr) = false := decide_eq_false (by omega)
      have hRk' : Hid (∀ (j : Nat) row, j < k + 1 → rs[j]? = some row → row.length ≤ 20) := fun j row' hj hjr => by
        rcases Nat.lt_or_ge j k with h1 | h1
        · exact hRk.out j row' h1 hjr
        · obtain rfl : j = k := by omega
          rw [hrk.out] at hjr
          injection hjr with hjr
          rw [← hjr, hrl.out]
          omega
      clear sK hRk HGR
      go_wp2
      go_roundw
      case rel => exact ⟨k + 1, by omega, by go_num, hRk', hbr⟩
      case measure => simp [intOf]; omega
set_option maxRecDepth 100000 in
set_option maxHeartbeats 8000000 in
/-- The machine is not valid. -/
theorem lawErr_A (ri ro : Int) (X : Option Addr) (cx : Nat) (rs : List (List Ed)) (a b d : Int) (p : Bool) (A : Option Addr) (c : Nat) (es : List Int) (z0 z1 : Int) (w : World) (hx : RdR w X rs) (hr : Rd16 w A es) (hl : es.length ≤ 9223372036854775807)
    (ha : 0 ≤ a ∧ a ≤ 255) (hb : 0 ≤ b ∧ b ≤ 255) (hd : 0 ≤ d ∧ d ≤ 255)
    (h70 : rs.length ≤ 70) (hrw : ∀ row ∈ rs, row.length ≤ 20) (hz : Mc.chk ⟨ri, ro, rs⟩ ≠ 0) :
    Calls Try.prog 5 #[.agg #[.int .i64 ri, .int .i64 ro, .slice X rs.length cx], .agg #[.int .u8 a, .int .u8 b, .int .u8 d, .bool p, .slice A es.length c], .agg #[.int .i64 z0, .int .i64 z1]] w fun e w' => e = .returned (.bool true) ∧ Below w.heap.size w w' := by
  obtain ⟨n, hn⟩ : ∃ n : Nat, 1 + a % 6 = n := ⟨(1 + a % 6).toNat, by omega⟩
  obtain ⟨i, hi⟩ : ∃ i : Nat, 1 + b % 3 = i := ⟨(1 + b % 3).toNat, by omega⟩
  obtain ⟨o, ho⟩ : ∃ o : Nat, 1 + d % 3 = o := ⟨(1 + d % 3).toNat, by omega⟩
  have CM := fun w hr => mof_at a b d p A c es n i o w hr hl ha hb hd hn hi ho
  obtain ⟨M, hM⟩ : ∃ M, Mc.mkN p n i o es = M := ⟨_, rfl⟩
  have V := Lib.hid (Mc.mkN_val (p := p) (n := n) (i := i) (o := o) (es := es) (by omega) (by omega) (by omega) (by omega) (by omega) (by omega))
  have hlen : Hid ((Mc.mkN p n i o es).r.length = n) := Mc.mkN_len _ _ _ _ _
  have hmi : Hid ((Mc.mkN p n i o es).i = i) := rfl
  have hmo : Hid ((Mc.mkN p n i o es).o = o) := rfl
  rw [hM] at V hlen hmi hmo
  simp only [hM] at CM
  clear hM ha hb hd hn hi ho hl
  have E1 := Mc.chkS_one ⟨ri, ro, rs⟩ z0
  have E2 := Mc.chkS_two ⟨ri, ro, rs⟩ z0 z1
  obtain ⟨Z, hZ⟩ : ∃ Z, Mc.chk ⟨ri, ro, rs⟩ = Z := ⟨_, rfl⟩
  rw [hZ] at hz
  have hZ1 : Mc.chkS ⟨ri, ro, rs⟩ [z0] = Z := by rw [E1, hZ, if_pos hz]
  have hZ2 : Mc.chkS ⟨ri, ro, rs⟩ [z0, z1] = Z := by rw [E2, hZ1, if_pos hz]
  clear E1 E2
  obtain ⟨N, hN⟩ : ∃ N, rs.length = N := ⟨_, rfl⟩
  have HN := Lib.hid hN
  have CK := fun w hr h => rmcheck_at ⟨ri, ro, rs⟩ ri ro X N cx w rfl rfl hN hr h
  have CD := fun w hr h hrl => dist_z ri ro rs X N cx w hr hN h hrl z0
  have CP := fun w hr h hrl => path_z ri ro rs X N cx w hr hN h hrl z0 z1
  have CA := fun w hr h hrl => access_z ri ro rs X N cx w hr hN h hrl
  have CR := fun w hr h hrl => reach_z ri ro rs X N cx w hr hN h hrl
  have CT := fun w hr h hrl => trim_z ri ro rs X N cx w hr hN h hrl
  have CC := fun w hr h hrl => canon_z ri ro rs X N cx w hr hN h hrl
  have CI := fun w hr h hrl => iscan_z ri ro rs X N cx w hr hN h hrl
  have CO := fun w hr h hrl R c1 (hq : RdR w R M.r) => iso_z ri ro rs X N cx w hr hN h hrl M R n c1 V.out hq hlen.out i o hmi.out hmo.out
  simp only [hZ, hZ1, hZ2] at CK CD CP CA CR CT CC CI CO
  clear hZ hZ1 hZ2
  rw [hN]
  rw [hN] at h70
  have hk6 : N ≤ 1000000 := by omega
  have HRL : Hid (∀ row ∈ rs, row.length ≤ 1000000) := fun row hrow => by have := hrw row hrow; omega
  have HRW := Lib.hid hrw
  clear hN hrw
  have hzb : (Z == 0) = false := by simp [hz]
  have hzn : (Z != 0) = true := by simp [hz]
  have hzz : (Z != Z) = false := by simp
  have HZN := Lib.hid hz
  clear hz
  have s1 : MT w w _ := MK.putR MT.start hx
  have HR := Lib.hid hr
  clear hx hr
  obtain ⟨K0, hK0⟩ : ∃ K0, w.heap.size = K0 := ⟨_, rfl⟩
  have s2 := MK.putB (g := w.heap.size) (MT.alloc s1 (.cells #[.int .i64 ri, .int .i64 ro, .slice X N cx] 30)) (heap_alloc_new w _)
  have s3 := MT.putK (P := fun w => w.heap[K0 + 1]? = some (.cells #[.int .u8 a, .int .u8 b, .int .u8 d, .bool p, .slice A es.length c] 24)) (MT.alloc s2 (.cells #[.int .u8 a, .int .u8 b, .int .u8 d, .bool p, .slice A es.length c] 24))
    (by
      have h := heap_alloc_new (w.alloc (.cells #[.int .i64 ri, .int .i64 ro, .slice X N cx] 30)) (.cells #[.int .u8 a, .int .u8 b, .int .u8 d, .bool p, .slice A es.length c] 24)
      rw [show (w.alloc (.cells #[.int .i64 ri, .int .i64 ro, .slice X N cx] 30)).heap.size = w.heap.size + 1 by simp, hK0] at h
      exact h) (fun _ _ h hb => (hb.block _ (heap_lt h)).trans h)
  have s4 := MT.putK (P := fun w => w.heap[K0 + 1 + 1]? = some (.cells #[.int .i64 z0, .int .i64 z1] 56)) (MT.alloc s3 (.cells #[.int .i64 z0, .int .i64 z1] 56))
    (by
      have h := heap_alloc_new ((w.alloc (.cells #[.int .i64 ri, .int .i64 ro, .slice X N cx] 30)).alloc (.cells #[.int .u8 a, .int .u8 b, .int .u8 d, .bool p, .slice A es.length c] 24)) (.cells #[.int .i64 z0, .int .i64 z1] 56)
      rw [show ((w.alloc (.cells #[.int .i64 ri, .int .i64 ro, .slice X N cx] 30)).alloc (.cells #[.int .u8 a, .int .u8 b, .int .u8 d, .bool p, .slice A es.length c] 24)).heap.size = w.heap.size + 1 + 1 by simp, hK0] at h
      exact h) (fun _ _ h hb => (hb.block _ (heap_lt h)).trans h)
  rw [hK0] at s4
  clear s1 s2 s3
  go_enter Try.func5, Try.ntmps5
  go_upto_region 1 with fail
  obtain ⟨W0, hW0⟩ : ∃ W0, ((w.alloc (.cells #[.int .i64 ri, .int .i64 ro, .slice X N cx] 30)).alloc (.cells #[.int .u8 a, .int .u8 b, .int .u8 d, .bool p, .slice A es.length c] 24)).alloc (.cells #[.int .i64 z0, .int .i64 z1] 56) = W0 := ⟨_, rfl⟩
  rw [hW0] at s4
  rw [hW0]
  clear hW0
  obtain ⟨q0, q1, q2⟩ := BxM.cells (MK.get s4 2 rfl)
  have hd70 : decide ((70 : Int) < N) = false := decide_eq_false (by omega)
  go_wp2
  clear q0 q1 q2 hd70
  have SF := Lib.hid s4
  clear s4
  go_loopw [7] (fun v wr => ∃ k : Nat, k ≤ N ∧ v = .int .i64 k ∧ Hid (Below W0.heap.size W0 wr)) (fun v _ => N - (intOf v).toNat)
  case atStart => exact ⟨0, by omega, rfl, Below.refl _ _⟩
  case round =>
    obtain ⟨k, hk, rfl, hbr⟩ := hrel
    have sK := MT.next SF.out hbr.out
    obtain ⟨q0, q1, q2⟩ := BxM.cells (MK.get sK 2 rfl)
    by_cases hlt : k < N
    · have hkn : (k : Int) < N := by omega
      obtain ⟨br, ofr, Br, cr, nr, row, rfl, _, hcr, _, _, _, _, hrl, hrk⟩ := (MK.get sK 3 rfl).at_ (k := k) (by rw [HN.out]; exact hlt)
      have hnr : nr ≤ 20 := by rw [← hrl.out]; exact HRW.out row (List.mem_of_getElem? hrk.out)
      have hd20 : decide ((20 : Int) < nr) = false := decide_eq_false (by omega)
      clear sK CM CK CD CP CA CR CT CC CI CO hrl hrk
      go_wp2
      go_roundw
      case rel => exact ⟨k + 1, by omega, by go_num, hbr⟩
      case measure => simp [intOf]; omega
    · have ek : k = N := by omega
      have hkN : ¬ (k : Int) < N := by omega
      clear hbr SF hlt HRW hk
      go_wp2_with fail
      clear q0 q1 q2 hkN ek
      refine (CK _ (MK.get sK 3 rfl) hk6).mono ?_
      rintro e w1 ⟨rfl, hbl⟩
      have s2 := MT.next sK hbl
      clear sK hbl CK
      have hpl : w1.heap[K0 + 1 + 1]? = some (.cells #[.int .i64 z0, .int .i64 z1] 56) := MK.get s2 0 rfl
      have l0 : w1.cell? ⟨K0 + 1 + 1, 0, none⟩ = some (.int .i64 z0) := by rw [cell_of_row _ _ _ _ _ _ hpl]; rfl
      obtain ⟨q0, q1, q2⟩ := BxM.cells (MK.get s2 2 rfl)
      clear hpl
      go_wp2_with fail
      clear l0 q0 q1 q2
      refine (CD _ (MK.get s2 3 rfl) hk6 HRL.out).mono ?_
      rintro e w3 ⟨B1, k1, rfl, hk1, hbl⟩
      have s4 := MT.next s2 hbl
      clear s2 hbl CD
      obtain rfl := hk1.out HZN.out
      clear hk1
      have hpl : w3.heap[K0 + 1 + 1]? = some (.cells #[.int .i64 z0, .int .i64 z1] 56) := MK.get s4 0 rfl
      have l0 : w3.cell? ⟨K0 + 1 + 1, 0, none⟩ = some (.int .i64 z0) := by rw [cell_of_row _ _ _ _ _ _ hpl]; rfl
      have l1 : w3.cell? ⟨K0 + 1 + 1, 1, none⟩ = some (.int .i64 z1) := by rw [cell_of_row _ _ _ _ _ _ hpl]; rfl
      obtain ⟨q0, q1, q2⟩ := BxM.cells (MK.get s4 2 rfl)
      clear hpl
      go_wp2_with fail
      clear l0 l1 q0 q1 q2
      refine (CP _ (MK.get s4 3 rfl) hk6 HRL.out).mono ?_
      rintro e w6 ⟨B2, k2, y2, rfl, hk2, hbl⟩
      have s7 := MT.next s4 hbl
      clear s4 hbl CP
      obtain ⟨rfl, rfl⟩ := hk2.out HZN.out
      clear hk2
      obtain ⟨q0, q1, q2⟩ := BxM.cells (MK.get s7 2 rfl)
      go_wp2_with fail
      clear q0 q1 q2
      refine (CA _ (MK.get s7 3 rfl) hk6 HRL.out).mono ?_
      rintro e w8 ⟨B3, C3, k3, rfl, hk3, hbl⟩
      have s8 := MT.next s7 hbl
      clear s7 hbl CA
      obtain rfl := hk3.out HZN.out
      clear hk3
      obtain ⟨q0, q1, q2⟩ := BxM.cells (MK.get s8 2 rfl)
      go_wp2_with fail
      clear q0 q1 q2
      refine (CR _ (MK.get s8 3 rfl) hk6 HRL.out).mono ?_
      rintro e w9 ⟨B4, k4, rfl, hk4, hbl⟩
      have s9 := MT.next s8 hbl
      clear s8 hbl CR
      obtain rfl := hk4.out HZN.out
      clear hk4
      obtain ⟨q0, q1, q2⟩ := BxM.cells (MK.get s9 2 rfl)
      go_wp2_with fail
      clear q0 q1 q2
      refine (CT _ (MK.get s9 3 rfl) hk6 HRL.out).mono ?_
      rintro e w10 ⟨i5, o5, B5, k5, C5, j5, rfl, hk5, hbl⟩
      obtain ⟨rfl, rfl⟩ := hk5.out HZN.out
      have s10 := MK.putB (g := w10.heap.size) (MT.alloc (MT.next s9 hbl) (.cells #[.int .i64 i5, .int .i64 o5, .slice B5 0 0] 30)) (heap_alloc_new w10 _)
      clear s9 hbl CT hk5
      obtain ⟨q0, q1, q2⟩ := BxM.cells (MK.get s10 3 rfl)
      go_wp2_with fail
      clear q0 q1 q2
      refine (CC _ (MK.get s10 4 rfl) hk6 HRL.out).mono ?_
      rintro e w11 ⟨i6, o6, B6, k6, rfl, hk6', hbl⟩
      obtain rfl := hk6'.out HZN.out
      have s11 := MK.putB (g := w11.heap.size) (MT.alloc (MT.next s10 hbl) (.cells #[.int .i64 i6, .int .i64 o6, .slice B6 0 0] 30)) (heap_alloc_new w11 _)
      clear s10 hbl CC hk6'
      obtain ⟨q0, q1, q2⟩ := BxM.cells (MK.get s11 4 rfl)
      go_wp2_with fail
      clear q0 q1 q2
      refine (CI _ (MK.get s11 5 rfl) hk6 HRL.out).mono ?_
      rintro e w12 ⟨y7, rfl, hk7, hbl⟩
      have s12 := MT.next s11 hbl
      clear s11 hbl CI
      obtain rfl := hk7.out HZN.out
      clear hk7
      obtain ⟨g5, hg5⟩ : ∃ g, w10.heap.size = g := ⟨_, rfl⟩
      obtain ⟨g6, hg6⟩ : ∃ g, w11.heap.size = g := ⟨_, rfl⟩
      rw [hg5, hg6] at s12
      rw [hg5, hg6]
      clear hg5 hg6
      have hpm : w12.heap[K0 + 1]? = some (.cells #[.int .u8 a, .int .u8 b, .int .u8 d, .bool p, .slice A es.length c] 24) := MK.get s12 3 rfl
      have p0 : w12.cell? ⟨K0 + 1, 0, none⟩ = some (.int .u8 a) := by rw [cell_of_row _ _ _ _ _ _ hpm]; rfl
      have p1 : w12.cell? ⟨K0 + 1, 1, none⟩ = some (.int .u8 b) := by rw [cell_of_row _ _ _ _ _ _ hpm]; rfl
      have p2 : w12.cell? ⟨K0 + 1, 2, none⟩ = some (.int .u8 d) := by rw [cell_of_row _ _ _ _ _ _ hpm]; rfl
      have p3 : w12.cell? ⟨K0 + 1, 3, none⟩ = some (.bool p) := by rw [cell_of_row _ _ _ _ _ _ hpm]; rfl
      have p4 : w12.cell? ⟨K0 + 1, 4, none⟩ = some (.slice A es.length c) := by rw [cell_of_row _ _ _ _ _ _ hpm]; rfl
      obtain ⟨q0, q1, q2⟩ := BxM.cells (MK.get s12 4 rfl)
      clear hpm
      have HMB1 : ∀ {w' : World} {L : List (World → Prop)} {P0 P1 P2 P3 : World → Prop}, MT w w' (P0 :: P1 :: P2 :: P3 :: (fun w => w.heap[K0 + 1]? = some (.cells #[.int .u8 a, .int .u8 b, .int .u8 d, .bool p, .slice A es.length c] 24)) :: L) → (w'.cell? ⟨K0 + 1, 0, none⟩ = some (.int .u8 a) ∧ w'.cell? ⟨K0 + 1, 1, none⟩ = some (.int .u8 b) ∧ w'.cell? ⟨K0 + 1, 2, none⟩ = some (.int .u8 d) ∧ w'.cell? ⟨K0 + 1, 3, none⟩ = some (.bool p) ∧ w'.cell? ⟨K0 + 1, 4, none⟩ = some (.slice A es.length c)) := fun h => by
        have hpm := MK.get h 4 rfl
        refine ⟨?_, ?_, ?_, ?_, ?_⟩ <;> (rw [cell_of_row _ _ _ _ _ _ hpm]; rfl)
      have sD := MT.next s12 (Below.refl _ _).drew
      have hbD : Below w.heap.size w w12.drew := sD.2.1
      clear s12
      go_upto_region 25 with fail
      go_region_held3 (fun W => W.cell? ⟨K0, 0, none⟩ = some (.int .i64 ri) ∧ W.cell? ⟨K0, 1, none⟩ = some (.int .i64 ro) ∧ W.cell? ⟨K0, 2, none⟩ = some (.slice X N cx) ∧ W.cell? ⟨K0 + 1, 0, none⟩ = some (.int .u8 a) ∧ W.cell? ⟨K0 + 1, 1, none⟩ = some (.int .u8 b) ∧ W.cell? ⟨K0 + 1, 2, none⟩ = some (.int .u8 d) ∧ W.cell? ⟨K0 + 1, 3, none⟩ = some (.bool p) ∧ W.cell? ⟨K0 + 1, 4, none⟩ = some (.slice A es.length c))
        (first | exact ⟨y20, y21, y22, HMB1 t2⟩ | exact ⟨y10, y11, y12, HMB1 t1⟩ | exact ⟨q0, q1, q2, p0, p1, p2, p3, p4⟩ | go_keep)
        (first
          | (go_at_call 14
             (with_reducible refine (CM _ (HR.out.below hbD)).mono ?_)
             rintro e wa1 ⟨R, c1, rfl, hrd, hb1⟩
             have t1 := MK.putR (MT.next sD hb1) hrd
             obtain ⟨y10, y11, y12⟩ := BxM.cells (MK.get t1 5 rfl)
             dsimp only)
          | (go_at_call 25
             (with_reducible refine (CO _ (MK.get t1 6 rfl) hk6 HRL.out R c1 (MK.get t1 0 rfl)).mono ?_)
             rintro e wa2 ⟨B8, k8, y8, rfl, hk8, hb2⟩
             have t2 := MT.next t1 hb2
             obtain ⟨y20, y21, y22⟩ := BxM.cells (MK.get t2 5 rfl)
             dsimp only)
          | fail)
      all_goals
        obtain ⟨rfl, rfl⟩ := hk8.out HZN.out
        clear HMB1 hk8 p0 p1 p2 p3 p4 q0 q1 q2
        try clear y10 y11 y12 y20 y21 y22 hrd
        obtain ⟨m0, m1, m2⟩ := BxM.cells (MK.get t2 1 rfl)
        obtain ⟨m3, m4, m5⟩ := BxM.cells (MK.get t2 2 rfl)
        clear CM CO
        go_wp2_with fail
        clear m0 m1 m2 m3 m4 m5
        refine (lives_walk _).mono ?_
        rintro e w16 ⟨rfl, hb16⟩
        have hfin := below_next t2.2.1 hb16
        clear t2
        go_wp2
        go_ret
        exact ⟨rfl, hfin⟩
set_option maxRecDepth 100000 in
set_option maxHeartbeats 8000000 in
/-- The first state is below 0. -/
theorem lawErr_B (ri ro : Int) (X : Option Addr) (cx : Nat) (rs : List (List Ed)) (a b d : Int) (p : Bool) (A : Option Addr) (c : Nat) (es : List Int) (z0 z1 : Int) (w : World) (hx : RdR w X rs) (hr : Rd16 w A es) (hl : es.length ≤ 9223372036854775807)
    (ha : 0 ≤ a ∧ a ≤ 255) (hb : 0 ≤ b ∧ b ≤ 255) (hd : 0 ≤ d ∧ d ≤ 255)
    (h70 : rs.length ≤ 70) (hrw : ∀ row ∈ rs, row.length ≤ 20) (hz : Mc.chk ⟨ri, ro, rs⟩ = 0) (h0 : z0 < 0) :
    Calls Try.prog 5 #[.agg #[.int .i64 ri, .int .i64 ro, .slice X rs.length cx], .agg #[.int .u8 a, .int .u8 b, .int .u8 d, .bool p, .slice A es.length c], .agg #[.int .i64 z0, .int .i64 z1]] w fun e w' => e = .returned (.bool true) ∧ Below w.heap.size w w' := by
  obtain ⟨n, hn⟩ : ∃ n : Nat, 1 + a % 6 = n := ⟨(1 + a % 6).toNat, by omega⟩
  obtain ⟨i, hi⟩ : ∃ i : Nat, 1 + b % 3 = i := ⟨(1 + b % 3).toNat, by omega⟩
  obtain ⟨o, ho⟩ : ∃ o : Nat, 1 + d % 3 = o := ⟨(1 + d % 3).toNat, by omega⟩
  have CM := fun w hr => mof_at a b d p A c es n i o w hr hl ha hb hd hn hi ho
  obtain ⟨M, hM⟩ : ∃ M, Mc.mkN p n i o es = M := ⟨_, rfl⟩
  have V := Lib.hid (Mc.mkN_val (p := p) (n := n) (i := i) (o := o) (es := es) (by omega) (by omega) (by omega) (by omega) (by omega) (by omega))
  have hlen : Hid ((Mc.mkN p n i o es).r.length = n) := Mc.mkN_len _ _ _ _ _
  have hmi : Hid ((Mc.mkN p n i o es).i = i) := rfl
  have hmo : Hid ((Mc.mkN p n i o es).o = o) := rfl
  rw [hM] at V hlen hmi hmo
  simp only [hM] at CM
  clear hM ha hb hd hn hi ho hl
  have E1 := Mc.chkS_one ⟨ri, ro, rs⟩ z0
  have E2 := Mc.chkS_two ⟨ri, ro, rs⟩ z0 z1
  have hZ : Mc.chk ⟨ri, ro, rs⟩ = 0 := hz
  have hZ1 : Mc.chkS ⟨ri, ro, rs⟩ [z0] = 1 := by rw [E1, if_neg (by rw [hz]; simp)]; simp only; (repeat (first | rw [if_pos (by omega)] | rw [if_neg (by omega)]))
  have hZ2 : Mc.chkS ⟨ri, ro, rs⟩ [z0, z1] = 1 := by rw [E2, hZ1]; simp only; (repeat (first | rw [if_pos (by omega)] | rw [if_neg (by omega)]))
  clear E1 E2
  obtain ⟨N, hN⟩ : ∃ N, rs.length = N := ⟨_, rfl⟩
  have HN := Lib.hid hN
  have CK := fun w hr h => rmcheck_at ⟨ri, ro, rs⟩ ri ro X N cx w rfl rfl hN hr h
  have CD := fun w hr h hrl => dist_z ri ro rs X N cx w hr hN h hrl z0
  have CP := fun w hr h hrl => path_z ri ro rs X N cx w hr hN h hrl z0 z1
  have CA := fun w hr h hrl => access_z ri ro rs X N cx w hr hN h hrl
  have CR := fun w hr h hrl => reach_z ri ro rs X N cx w hr hN h hrl
  have CT := fun w hr h hrl => trim_z ri ro rs X N cx w hr hN h hrl
  have CC := fun w hr h hrl => canon_z ri ro rs X N cx w hr hN h hrl
  have CI := fun w hr h hrl => iscan_z ri ro rs X N cx w hr hN h hrl
  have CO := fun w hr h hrl R c1 (hq : RdR w R M.r) => iso_z ri ro rs X N cx w hr hN h hrl M R n c1 V.out hq hlen.out i o hmi.out hmo.out
  simp only [hZ, hZ1, hZ2] at CK CD CP CA CR CT CC CI CO
  clear hZ hZ1 hZ2
  rw [hN]
  rw [hN] at h70
  have t1 : decide (z0 < 0) = true := decide_eq_true h0
  clear h0
  have hk6 : N ≤ 1000000 := by omega
  have HRL : Hid (∀ row ∈ rs, row.length ≤ 1000000) := fun row hrow => by have := hrw row hrow; omega
  have HRW := Lib.hid hrw
  clear hN hrw
  have s1 : MT w w _ := MK.putR MT.start hx
  have HR := Lib.hid hr
  clear hx hr
  obtain ⟨K0, hK0⟩ : ∃ K0, w.heap.size = K0 := ⟨_, rfl⟩
  have s2 := MK.putB (g := w.heap.size) (MT.alloc s1 (.cells #[.int .i64 ri, .int .i64 ro, .slice X N cx] 30)) (heap_alloc_new w _)
  have s3 := MT.putK (P := fun w => w.heap[K0 + 1]? = some (.cells #[.int .u8 a, .int .u8 b, .int .u8 d, .bool p, .slice A es.length c] 24)) (MT.alloc s2 (.cells #[.int .u8 a, .int .u8 b, .int .u8 d, .bool p, .slice A es.length c] 24))
    (by
      have h := heap_alloc_new (w.alloc (.cells #[.int .i64 ri, .int .i64 ro, .slice X N cx] 30)) (.cells #[.int .u8 a, .int .u8 b, .int .u8 d, .bool p, .slice A es.length c] 24)
      rw [show (w.alloc (.cells #[.int .i64 ri, .int .i64 ro, .slice X N cx] 30)).heap.size = w.heap.size + 1 by simp, hK0] at h
      exact h) (fun _ _ h hb => (hb.block _ (heap_lt h)).trans h)
  have s4 := MT.putK (P := fun w => w.heap[K0 + 1 + 1]? = some (.cells #[.int .i64 z0, .int .i64 z1] 56)) (MT.alloc s3 (.cells #[.int .i64 z0, .int .i64 z1] 56))
    (by
      have h := heap_alloc_new ((w.alloc (.cells #[.int .i64 ri, .int .i64 ro, .slice X N cx] 30)).alloc (.cells #[.int .u8 a, .int .u8 b, .int .u8 d, .bool p, .slice A es.length c] 24)) (.cells #[.int .i64 z0, .int .i64 z1] 56)
      rw [show ((w.alloc (.cells #[.int .i64 ri, .int .i64 ro, .slice X N cx] 30)).alloc (.cells #[.int .u8 a, .int .u8 b, .int .u8 d, .bool p, .slice A es.length c] 24)).heap.size = w.heap.size + 1 + 1 by simp, hK0] at h
      exact h) (fun _ _ h hb => (hb.block _ (heap_lt h)).trans h)
  rw [hK0] at s4
  clear s1 s2 s3
  go_enter Try.func5, Try.ntmps5
  go_upto_region 1 with fail
  obtain ⟨W0, hW0⟩ : ∃ W0, ((w.alloc (.cells #[.int .i64 ri, .int .i64 ro, .slice X N cx] 30)).alloc (.cells #[.int .u8 a, .int .u8 b, .int .u8 d, .bool p, .slice A es.length c] 24)).alloc (.cells #[.int .i64 z0, .int .i64 z1] 56) = W0 := ⟨_, rfl⟩
  rw [hW0] at s4
  rw [hW0]
  clear hW0
  obtain ⟨q0, q1, q2⟩ := BxM.cells (MK.get s4 2 rfl)
  have hd70 : decide ((70 : Int) < N) = false := decide_eq_false (by omega)
  go_wp2
  clear q0 q1 q2 hd70
  have SF := Lib.hid s4
  clear s4
  go_loopw [7] (fun v wr => ∃ k : Nat, k ≤ N ∧ v = .int .i64 k ∧ Hid (Below W0.heap.size W0 wr)) (fun v _ => N - (intOf v).toNat)
  case atStart => exact ⟨0, by omega, rfl, Below.refl _ _⟩
  case round =>
    obtain ⟨k, hk, rfl, hbr⟩ := hrel
    have sK := MT.next SF.out hbr.out
    obtain ⟨q0, q1, q2⟩ := BxM.cells (MK.get sK 2 rfl)
    by_cases hlt : k < N
    · have hkn : (k : Int) < N := by omega
      obtain ⟨br, ofr, Br, cr, nr, row, rfl, _, hcr, _, _, _, _, hrl, hrk⟩ := (MK.get sK 3 rfl).at_ (k := k) (by rw [HN.out]; exact hlt)
      have hnr : nr ≤ 20 := by rw [← hrl.out]; exact HRW.out row (List.mem_of_getElem? hrk.out)
      have hd20 : decide ((20 : Int) < nr) = false := decide_eq_false (by omega)
      clear sK CM CK CD CP CA CR CT CC CI CO hrl hrk
      go_wp2
      go_roundw
      case rel => exact ⟨k + 1, by omega, by go_num, hbr⟩
      case measure => simp [intOf]; omega
    · have ek : k = N := by omega
      have hkN : ¬ (k : Int) < N := by omega
      clear hbr SF hlt HRW hk
      go_wp2_with fail
      clear q0 q1 q2 hkN ek
      refine (CK _ (MK.get sK 3 rfl) hk6).mono ?_
      rintro e w1 ⟨rfl, hbl⟩
      have s2 := MT.next sK hbl
      clear sK hbl CK
      have hpl : w1.heap[K0 + 1 + 1]? = some (.cells #[.int .i64 z0, .int .i64 z1] 56) := MK.get s2 0 rfl
      have l0 : w1.cell? ⟨K0 + 1 + 1, 0, none⟩ = some (.int .i64 z0) := by rw [cell_of_row _ _ _ _ _ _ hpl]; rfl
      obtain ⟨q0, q1, q2⟩ := BxM.cells (MK.get s2 2 rfl)
      clear hpl
      go_wp2_with fail
      clear l0 q0 q1 q2
      refine (CD _ (MK.get s2 3 rfl) hk6 HRL.out).mono ?_
      rintro e w3 ⟨B1, k1, rfl, hk1, hbl⟩
      have s4 := MT.next s2 hbl
      clear s2 hbl CD
      obtain rfl := hk1.out (by decide)
      clear hk1
      have hpl : w3.heap[K0 + 1 + 1]? = some (.cells #[.int .i64 z0, .int .i64 z1] 56) := MK.get s4 0 rfl
      have l0 : w3.cell? ⟨K0 + 1 + 1, 0, none⟩ = some (.int .i64 z0) := by rw [cell_of_row _ _ _ _ _ _ hpl]; rfl
      have l1 : w3.cell? ⟨K0 + 1 + 1, 1, none⟩ = some (.int .i64 z1) := by rw [cell_of_row _ _ _ _ _ _ hpl]; rfl
      obtain ⟨q0, q1, q2⟩ := BxM.cells (MK.get s4 2 rfl)
      clear hpl
      go_wp2_with fail
      clear l0 l1 q0 q1 q2
      refine (CP _ (MK.get s4 3 rfl) hk6 HRL.out).mono ?_
      rintro e w6 ⟨B2, k2, y2, rfl, hk2, hbl⟩
      have s7 := MT.next s4 hbl
      clear s4 hbl CP
      obtain ⟨rfl, rfl⟩ := hk2.out (by decide)
      clear hk2
      obtain ⟨q0, q1, q2⟩ := BxM.cells (MK.get s7 2 rfl)
      go_wp2_with fail
      clear q0 q1 q2
      refine (CA _ (MK.get s7 3 rfl) hk6 HRL.out).mono ?_
      rintro e w8 ⟨B3, C3, k3, rfl, hk3, hbl⟩
      have s8 := MT.next s7 hbl
      clear s7 hbl CA
      clear hk3
      obtain ⟨q0, q1, q2⟩ := BxM.cells (MK.get s8 2 rfl)
      go_wp2_with fail
      clear q0 q1 q2
      refine (CR _ (MK.get s8 3 rfl) hk6 HRL.out).mono ?_
      rintro e w9 ⟨B4, k4, rfl, hk4, hbl⟩
      have s9 := MT.next s8 hbl
      clear s8 hbl CR
      clear hk4
      obtain ⟨q0, q1, q2⟩ := BxM.cells (MK.get s9 2 rfl)
      go_wp2_with fail
      clear q0 q1 q2
      refine (CT _ (MK.get s9 3 rfl) hk6 HRL.out).mono ?_
      rintro e w10 ⟨i5, o5, B5, k5, C5, j5, rfl, hk5, hbl⟩
      have s10 := MK.putB (g := w10.heap.size) (MT.alloc (MT.next s9 hbl) (.cells #[.int .i64 i5, .int .i64 o5, .slice B5 k5 k5] 30)) (heap_alloc_new w10 _)
      clear s9 hbl CT hk5
      obtain ⟨q0, q1, q2⟩ := BxM.cells (MK.get s10 3 rfl)
      go_wp2_with fail
      clear q0 q1 q2
      refine (CC _ (MK.get s10 4 rfl) hk6 HRL.out).mono ?_
      rintro e w11 ⟨i6, o6, B6, k6, rfl, hk6', hbl⟩
      have s11 := MK.putB (g := w11.heap.size) (MT.alloc (MT.next s10 hbl) (.cells #[.int .i64 i6, .int .i64 o6, .slice B6 k6 k6] 30)) (heap_alloc_new w11 _)
      clear s10 hbl CC hk6'
      obtain ⟨q0, q1, q2⟩ := BxM.cells (MK.get s11 4 rfl)
      go_wp2_with fail
      clear q0 q1 q2
      refine (CI _ (MK.get s11 5 rfl) hk6 HRL.out).mono ?_
      rintro e w12 ⟨y7, rfl, hk7, hbl⟩
      have s12 := MT.next s11 hbl
      clear s11 hbl CI
      clear hk7
      obtain ⟨g5, hg5⟩ : ∃ g, w10.heap.size = g := ⟨_, rfl⟩
      obtain ⟨g6, hg6⟩ : ∃ g, w11.heap.size = g := ⟨_, rfl⟩
      rw [hg5, hg6] at s12
      rw [hg5, hg6]
      clear hg5 hg6
      have hpm : w12.heap[K0 + 1]? = some (.cells #[.int .u8 a, .int .u8 b, .int .u8 d, .bool p, .slice A es.length c] 24) := MK.get s12 3 rfl
      have p0 : w12.cell? ⟨K0 + 1, 0, none⟩ = some (.int .u8 a) := by rw [cell_of_row _ _ _ _ _ _ hpm]; rfl
      have p1 : w12.cell? ⟨K0 + 1, 1, none⟩ = some (.int .u8 b) := by rw [cell_of_row _ _ _ _ _ _ hpm]; rfl
      have p2 : w12.cell? ⟨K0 + 1, 2, none⟩ = some (.int .u8 d) := by rw [cell_of_row _ _ _ _ _ _ hpm]; rfl
      have p3 : w12.cell? ⟨K0 + 1, 3, none⟩ = some (.bool p) := by rw [cell_of_row _ _ _ _ _ _ hpm]; rfl
      have p4 : w12.cell? ⟨K0 + 1, 4, none⟩ = some (.slice A es.length c) := by rw [cell_of_row _ _ _ _ _ _ hpm]; rfl
      obtain ⟨q0, q1, q2⟩ := BxM.cells (MK.get s12 4 rfl)
      clear hpm
      have HMB1 : ∀ {w' : World} {L : List (World → Prop)} {P0 P1 P2 P3 : World → Prop}, MT w w' (P0 :: P1 :: P2 :: P3 :: (fun w => w.heap[K0 + 1]? = some (.cells #[.int .u8 a, .int .u8 b, .int .u8 d, .bool p, .slice A es.length c] 24)) :: L) → (w'.cell? ⟨K0 + 1, 0, none⟩ = some (.int .u8 a) ∧ w'.cell? ⟨K0 + 1, 1, none⟩ = some (.int .u8 b) ∧ w'.cell? ⟨K0 + 1, 2, none⟩ = some (.int .u8 d) ∧ w'.cell? ⟨K0 + 1, 3, none⟩ = some (.bool p) ∧ w'.cell? ⟨K0 + 1, 4, none⟩ = some (.slice A es.length c)) := fun h => by
        have hpm := MK.get h 4 rfl
        refine ⟨?_, ?_, ?_, ?_, ?_⟩ <;> (rw [cell_of_row _ _ _ _ _ _ hpm]; rfl)
      have sD := MT.next s12 (Below.refl _ _).drew
      have hbD : Below w.heap.size w w12.drew := sD.2.1
      clear s12
      go_upto_region 25 with fail
      go_region_held3 (fun W => W.cell? ⟨K0, 0, none⟩ = some (.int .i64 ri) ∧ W.cell? ⟨K0, 1, none⟩ = some (.int .i64 ro) ∧ W.cell? ⟨K0, 2, none⟩ = some (.slice X N cx) ∧ W.cell? ⟨K0 + 1, 0, none⟩ = some (.int .u8 a) ∧ W.cell? ⟨K0 + 1, 1, none⟩ = some (.int .u8 b) ∧ W.cell? ⟨K0 + 1, 2, none⟩ = some (.int .u8 d) ∧ W.cell? ⟨K0 + 1, 3, none⟩ = some (.bool p) ∧ W.cell? ⟨K0 + 1, 4, none⟩ = some (.slice A es.length c))
        (first | exact ⟨y20, y21, y22, HMB1 t2⟩ | exact ⟨y10, y11, y12, HMB1 t1⟩ | exact ⟨q0, q1, q2, p0, p1, p2, p3, p4⟩ | go_keep)
        (first
          | (go_at_call 14
             (with_reducible refine (CM _ (HR.out.below hbD)).mono ?_)
             rintro e wa1 ⟨R, c1, rfl, hrd, hb1⟩
             have t1 := MK.putR (MT.next sD hb1) hrd
             obtain ⟨y10, y11, y12⟩ := BxM.cells (MK.get t1 5 rfl)
             dsimp only)
          | (go_at_call 25
             (with_reducible refine (CO _ (MK.get t1 6 rfl) hk6 HRL.out R c1 (MK.get t1 0 rfl)).mono ?_)
             rintro e wa2 ⟨B8, k8, y8, rfl, hk8, hb2⟩
             have t2 := MT.next t1 hb2
             obtain ⟨y20, y21, y22⟩ := BxM.cells (MK.get t2 5 rfl)
             dsimp only)
          | fail)
      all_goals
        clear HMB1 hk8 p0 p1 p2 p3 p4 q0 q1 q2
        try clear y10 y11 y12 y20 y21 y22 hrd
        obtain ⟨m0, m1, m2⟩ := BxM.cells (MK.get t2 1 rfl)
        obtain ⟨m3, m4, m5⟩ := BxM.cells (MK.get t2 2 rfl)
        clear CM CO
        go_wp2_with fail
        clear m0 m1 m2 m3 m4 m5
        refine (lives_walk _).mono ?_
        rintro e w16 ⟨rfl, hb16⟩
        have hfin := below_next t2.2.1 hb16
        clear t2
        go_wp2
        go_ret
        exact ⟨rfl, hfin⟩
set_option maxRecDepth 100000 in
set_option maxHeartbeats 8000000 in
/-- The first state is too large. -/
theorem lawErr_C (ri ro : Int) (X : Option Addr) (cx : Nat) (rs : List (List Ed)) (a b d : Int) (p : Bool) (A : Option Addr) (c : Nat) (es : List Int) (z0 z1 : Int) (w : World) (hx : RdR w X rs) (hr : Rd16 w A es) (hl : es.length ≤ 9223372036854775807)
    (ha : 0 ≤ a ∧ a ≤ 255) (hb : 0 ≤ b ∧ b ≤ 255) (hd : 0 ≤ d ∧ d ≤ 255)
    (h70 : rs.length ≤ 70) (hrw : ∀ row ∈ rs, row.length ≤ 20) (hz : Mc.chk ⟨ri, ro, rs⟩ = 0) (h0 : ¬ z0 < 0) (h1 : (rs.length : Int) ≤ z0) :
    Calls Try.prog 5 #[.agg #[.int .i64 ri, .int .i64 ro, .slice X rs.length cx], .agg #[.int .u8 a, .int .u8 b, .int .u8 d, .bool p, .slice A es.length c], .agg #[.int .i64 z0, .int .i64 z1]] w fun e w' => e = .returned (.bool true) ∧ Below w.heap.size w w' := by
  obtain ⟨n, hn⟩ : ∃ n : Nat, 1 + a % 6 = n := ⟨(1 + a % 6).toNat, by omega⟩
  obtain ⟨i, hi⟩ : ∃ i : Nat, 1 + b % 3 = i := ⟨(1 + b % 3).toNat, by omega⟩
  obtain ⟨o, ho⟩ : ∃ o : Nat, 1 + d % 3 = o := ⟨(1 + d % 3).toNat, by omega⟩
  have CM := fun w hr => mof_at a b d p A c es n i o w hr hl ha hb hd hn hi ho
  obtain ⟨M, hM⟩ : ∃ M, Mc.mkN p n i o es = M := ⟨_, rfl⟩
  have V := Lib.hid (Mc.mkN_val (p := p) (n := n) (i := i) (o := o) (es := es) (by omega) (by omega) (by omega) (by omega) (by omega) (by omega))
  have hlen : Hid ((Mc.mkN p n i o es).r.length = n) := Mc.mkN_len _ _ _ _ _
  have hmi : Hid ((Mc.mkN p n i o es).i = i) := rfl
  have hmo : Hid ((Mc.mkN p n i o es).o = o) := rfl
  rw [hM] at V hlen hmi hmo
  simp only [hM] at CM
  clear hM ha hb hd hn hi ho hl
  have E1 := Mc.chkS_one ⟨ri, ro, rs⟩ z0
  have E2 := Mc.chkS_two ⟨ri, ro, rs⟩ z0 z1
  have hZ : Mc.chk ⟨ri, ro, rs⟩ = 0 := hz
  have hZ1 : Mc.chkS ⟨ri, ro, rs⟩ [z0] = 1 := by rw [E1, if_neg (by rw [hz]; simp)]; simp only; (repeat (first | rw [if_pos (by omega)] | rw [if_neg (by omega)]))
  have hZ2 : Mc.chkS ⟨ri, ro, rs⟩ [z0, z1] = 1 := by rw [E2, hZ1]; simp only; (repeat (first | rw [if_pos (by omega)] | rw [if_neg (by omega)]))
  clear E1 E2
  obtain ⟨N, hN⟩ : ∃ N, rs.length = N := ⟨_, rfl⟩
  have HN := Lib.hid hN
  have CK := fun w hr h => rmcheck_at ⟨ri, ro, rs⟩ ri ro X N cx w rfl rfl hN hr h
  have CD := fun w hr h hrl => dist_z ri ro rs X N cx w hr hN h hrl z0
  have CP := fun w hr h hrl => path_z ri ro rs X N cx w hr hN h hrl z0 z1
  have CA := fun w hr h hrl => access_z ri ro rs X N cx w hr hN h hrl
  have CR := fun w hr h hrl => reach_z ri ro rs X N cx w hr hN h hrl
  have CT := fun w hr h hrl => trim_z ri ro rs X N cx w hr hN h hrl
  have CC := fun w hr h hrl => canon_z ri ro rs X N cx w hr hN h hrl
  have CI := fun w hr h hrl => iscan_z ri ro rs X N cx w hr hN h hrl
  have CO := fun w hr h hrl R c1 (hq : RdR w R M.r) => iso_z ri ro rs X N cx w hr hN h hrl M R n c1 V.out hq hlen.out i o hmi.out hmo.out
  simp only [hZ, hZ1, hZ2] at CK CD CP CA CR CT CC CI CO
  clear hZ hZ1 hZ2
  rw [hN]
  rw [hN] at h70
  rw [hN] at h1
  have t1 : decide (z0 < 0) = false := decide_eq_false h0
  have t2 : decide ((N : Int) ≤ z0) = true := decide_eq_true h1
  clear h0 h1
  have hk6 : N ≤ 1000000 := by omega
  have HRL : Hid (∀ row ∈ rs, row.length ≤ 1000000) := fun row hrow => by have := hrw row hrow; omega
  have HRW := Lib.hid hrw
  clear hN hrw
  have s1 : MT w w _ := MK.putR MT.start hx
  have HR := Lib.hid hr
  clear hx hr
  obtain ⟨K0, hK0⟩ : ∃ K0, w.heap.size = K0 := ⟨_, rfl⟩
  have s2 := MK.putB (g := w.heap.size) (MT.alloc s1 (.cells #[.int .i64 ri, .int .i64 ro, .slice X N cx] 30)) (heap_alloc_new w _)
  have s3 := MT.putK (P := fun w => w.heap[K0 + 1]? = some (.cells #[.int .u8 a, .int .u8 b, .int .u8 d, .bool p, .slice A es.length c] 24)) (MT.alloc s2 (.cells #[.int .u8 a, .int .u8 b, .int .u8 d, .bool p, .slice A es.length c] 24))
    (by
      have h := heap_alloc_new (w.alloc (.cells #[.int .i64 ri, .int .i64 ro, .slice X N cx] 30)) (.cells #[.int .u8 a, .int .u8 b, .int .u8 d, .bool p, .slice A es.length c] 24)
      rw [show (w.alloc (.cells #[.int .i64 ri, .int .i64 ro, .slice X N cx] 30)).heap.size = w.heap.size + 1 by simp, hK0] at h
      exact h) (fun _ _ h hb => (hb.block _ (heap_lt h)).trans h)
  have s4 := MT.putK (P := fun w => w.heap[K0 + 1 + 1]? = some (.cells #[.int .i64 z0, .int .i64 z1] 56)) (MT.alloc s3 (.cells #[.int .i64 z0, .int .i64 z1] 56))
    (by
      have h := heap_alloc_new ((w.alloc (.cells #[.int .i64 ri, .int .i64 ro, .slice X N cx] 30)).alloc (.cells #[.int .u8 a, .int .u8 b, .int .u8 d, .bool p, .slice A es.length c] 24)) (.cells #[.int .i64 z0, .int .i64 z1] 56)
      rw [show ((w.alloc (.cells #[.int .i64 ri, .int .i64 ro, .slice X N cx] 30)).alloc (.cells #[.int .u8 a, .int .u8 b, .int .u8 d, .bool p, .slice A es.length c] 24)).heap.size = w.heap.size + 1 + 1 by simp, hK0] at h
      exact h) (fun _ _ h hb => (hb.block _ (heap_lt h)).trans h)
  rw [hK0] at s4
  clear s1 s2 s3
  go_enter Try.func5, Try.ntmps5
  go_upto_region 1 with fail
  obtain ⟨W0, hW0⟩ : ∃ W0, ((w.alloc (.cells #[.int .i64 ri, .int .i64 ro, .slice X N cx] 30)).alloc (.cells #[.int .u8 a, .int .u8 b, .int .u8 d, .bool p, .slice A es.length c] 24)).alloc (.cells #[.int .i64 z0, .int .i64 z1] 56) = W0 := ⟨_, rfl⟩
  rw [hW0] at s4
  rw [hW0]
  clear hW0
  obtain ⟨q0, q1, q2⟩ := BxM.cells (MK.get s4 2 rfl)
  have hd70 : decide ((70 : Int) < N) = false := decide_eq_false (by omega)
  go_wp2
  clear q0 q1 q2 hd70
  have SF := Lib.hid s4
  clear s4
  go_loopw [7] (fun v wr => ∃ k : Nat, k ≤ N ∧ v = .int .i64 k ∧ Hid (Below W0.heap.size W0 wr)) (fun v _ => N - (intOf v).toNat)
  case atStart => exact ⟨0, by omega, rfl, Below.refl _ _⟩
  case round =>
    obtain ⟨k, hk, rfl, hbr⟩ := hrel
    have sK := MT.next SF.out hbr.out
    obtain ⟨q0, q1, q2⟩ := BxM.cells (MK.get sK 2 rfl)
    by_cases hlt : k < N
    · have hkn : (k : Int) < N := by omega
      obtain ⟨br, ofr, Br, cr, nr, row, rfl, _, hcr, _, _, _, _, hrl, hrk⟩ := (MK.get sK 3 rfl).at_ (k := k) (by rw [HN.out]; exact hlt)
      have hnr : nr ≤ 20 := by rw [← hrl.out]; exact HRW.out row (List.mem_of_getElem? hrk.out)
      have hd20 : decide ((20 : Int) < nr) = false := decide_eq_false (by omega)
      clear sK CM CK CD CP CA CR CT CC CI CO hrl hrk
      go_wp2
      go_roundw
      case rel => exact ⟨k + 1, by omega, by go_num, hbr⟩
      case measure => simp [intOf]; omega
    · have ek : k = N := by omega
      have hkN : ¬ (k : Int) < N := by omega
      clear hbr SF hlt HRW hk
      go_wp2_with fail
      clear q0 q1 q2 hkN ek
      refine (CK _ (MK.get sK 3 rfl) hk6).mono ?_
      rintro e w1 ⟨rfl, hbl⟩
      have s2 := MT.next sK hbl
      clear sK hbl CK
      have hpl : w1.heap[K0 + 1 + 1]? = some (.cells #[.int .i64 z0, .int .i64 z1] 56) := MK.get s2 0 rfl
      have l0 : w1.cell? ⟨K0 + 1 + 1, 0, none⟩ = some (.int .i64 z0) := by rw [cell_of_row _ _ _ _ _ _ hpl]; rfl
      obtain ⟨q0, q1, q2⟩ := BxM.cells (MK.get s2 2 rfl)
      clear hpl
      go_wp2_with fail
      clear l0 q0 q1 q2
      refine (CD _ (MK.get s2 3 rfl) hk6 HRL.out).mono ?_
      rintro e w3 ⟨B1, k1, rfl, hk1, hbl⟩
      have s4 := MT.next s2 hbl
      clear s2 hbl CD
      obtain rfl := hk1.out (by decide)
      clear hk1
      have hpl : w3.heap[K0 + 1 + 1]? = some (.cells #[.int .i64 z0, .int .i64 z1] 56) := MK.get s4 0 rfl
      have l0 : w3.cell? ⟨K0 + 1 + 1, 0, none⟩ = some (.int .i64 z0) := by rw [cell_of_row _ _ _ _ _ _ hpl]; rfl
      have l1 : w3.cell? ⟨K0 + 1 + 1, 1, none⟩ = some (.int .i64 z1) := by rw [cell_of_row _ _ _ _ _ _ hpl]; rfl
      obtain ⟨q0, q1, q2⟩ := BxM.cells (MK.get s4 2 rfl)
      clear hpl
      go_wp2_with fail
      clear l0 l1 q0 q1 q2
      refine (CP _ (MK.get s4 3 rfl) hk6 HRL.out).mono ?_
      rintro e w6 ⟨B2, k2, y2, rfl, hk2, hbl⟩
      have s7 := MT.next s4 hbl
      clear s4 hbl CP
      obtain ⟨rfl, rfl⟩ := hk2.out (by decide)
      clear hk2
      obtain ⟨q0, q1, q2⟩ := BxM.cells (MK.get s7 2 rfl)
      go_wp2_with fail
      clear q0 q1 q2
      refine (CA _ (MK.get s7 3 rfl) hk6 HRL.out).mono ?_
      rintro e w8 ⟨B3, C3, k3, rfl, hk3, hbl⟩
      have s8 := MT.next s7 hbl
      clear s7 hbl CA
      clear hk3
      obtain ⟨q0, q1, q2⟩ := BxM.cells (MK.get s8 2 rfl)
      go_wp2_with fail
      clear q0 q1 q2
      refine (CR _ (MK.get s8 3 rfl) hk6 HRL.out).mono ?_
      rintro e w9 ⟨B4, k4, rfl, hk4, hbl⟩
      have s9 := MT.next s8 hbl
      clear s8 hbl CR
      clear hk4
      obtain ⟨q0, q1, q2⟩ := BxM.cells (MK.get s9 2 rfl)
      go_wp2_with fail
      clear q0 q1 q2
      refine (CT _ (MK.get s9 3 rfl) hk6 HRL.out).mono ?_
      rintro e w10 ⟨i5, o5, B5, k5, C5, j5, rfl, hk5, hbl⟩
      have s10 := MK.putB (g := w10.heap.size) (MT.alloc (MT.next s9 hbl) (.cells #[.int .i64 i5, .int .i64 o5, .slice B5 k5 k5] 30)) (heap_alloc_new w10 _)
      clear s9 hbl CT hk5
      obtain ⟨q0, q1, q2⟩ := BxM.cells (MK.get s10 3 rfl)
      go_wp2_with fail
      clear q0 q1 q2
      refine (CC _ (MK.get s10 4 rfl) hk6 HRL.out).mono ?_
      rintro e w11 ⟨i6, o6, B6, k6, rfl, hk6', hbl⟩
      have s11 := MK.putB (g := w11.heap.size) (MT.alloc (MT.next s10 hbl) (.cells #[.int .i64 i6, .int .i64 o6, .slice B6 k6 k6] 30)) (heap_alloc_new w11 _)
      clear s10 hbl CC hk6'
      obtain ⟨q0, q1, q2⟩ := BxM.cells (MK.get s11 4 rfl)
      go_wp2_with fail
      clear q0 q1 q2
      refine (CI _ (MK.get s11 5 rfl) hk6 HRL.out).mono ?_
      rintro e w12 ⟨y7, rfl, hk7, hbl⟩
      have s12 := MT.next s11 hbl
      clear s11 hbl CI
      clear hk7
      obtain ⟨g5, hg5⟩ : ∃ g, w10.heap.size = g := ⟨_, rfl⟩
      obtain ⟨g6, hg6⟩ : ∃ g, w11.heap.size = g := ⟨_, rfl⟩
      rw [hg5, hg6] at s12
      rw [hg5, hg6]
      clear hg5 hg6
      have hpm : w12.heap[K0 + 1]? = some (.cells #[.int .u8 a, .int .u8 b, .int .u8 d, .bool p, .slice A es.length c] 24) := MK.get s12 3 rfl
      have p0 : w12.cell? ⟨K0 + 1, 0, none⟩ = some (.int .u8 a) := by rw [cell_of_row _ _ _ _ _ _ hpm]; rfl
      have p1 : w12.cell? ⟨K0 + 1, 1, none⟩ = some (.int .u8 b) := by rw [cell_of_row _ _ _ _ _ _ hpm]; rfl
      have p2 : w12.cell? ⟨K0 + 1, 2, none⟩ = some (.int .u8 d) := by rw [cell_of_row _ _ _ _ _ _ hpm]; rfl
      have p3 : w12.cell? ⟨K0 + 1, 3, none⟩ = some (.bool p) := by rw [cell_of_row _ _ _ _ _ _ hpm]; rfl
      have p4 : w12.cell? ⟨K0 + 1, 4, none⟩ = some (.slice A es.length c) := by rw [cell_of_row _ _ _ _ _ _ hpm]; rfl
      obtain ⟨q0, q1, q2⟩ := BxM.cells (MK.get s12 4 rfl)
      clear hpm
      have HMB1 : ∀ {w' : World} {L : List (World → Prop)} {P0 P1 P2 P3 : World → Prop}, MT w w' (P0 :: P1 :: P2 :: P3 :: (fun w => w.heap[K0 + 1]? = some (.cells #[.int .u8 a, .int .u8 b, .int .u8 d, .bool p, .slice A es.length c] 24)) :: L) → (w'.cell? ⟨K0 + 1, 0, none⟩ = some (.int .u8 a) ∧ w'.cell? ⟨K0 + 1, 1, none⟩ = some (.int .u8 b) ∧ w'.cell? ⟨K0 + 1, 2, none⟩ = some (.int .u8 d) ∧ w'.cell? ⟨K0 + 1, 3, none⟩ = some (.bool p) ∧ w'.cell? ⟨K0 + 1, 4, none⟩ = some (.slice A es.length c)) := fun h => by
        have hpm := MK.get h 4 rfl
        refine ⟨?_, ?_, ?_, ?_, ?_⟩ <;> (rw [cell_of_row _ _ _ _ _ _ hpm]; rfl)
      have sD := MT.next s12 (Below.refl _ _).drew
      have hbD : Below w.heap.size w w12.drew := sD.2.1
      clear s12
      go_upto_region 25 with fail
      go_region_held3 (fun W => W.cell? ⟨K0, 0, none⟩ = some (.int .i64 ri) ∧ W.cell? ⟨K0, 1, none⟩ = some (.int .i64 ro) ∧ W.cell? ⟨K0, 2, none⟩ = some (.slice X N cx) ∧ W.cell? ⟨K0 + 1, 0, none⟩ = some (.int .u8 a) ∧ W.cell? ⟨K0 + 1, 1, none⟩ = some (.int .u8 b) ∧ W.cell? ⟨K0 + 1, 2, none⟩ = some (.int .u8 d) ∧ W.cell? ⟨K0 + 1, 3, none⟩ = some (.bool p) ∧ W.cell? ⟨K0 + 1, 4, none⟩ = some (.slice A es.length c))
        (first | exact ⟨y20, y21, y22, HMB1 t2⟩ | exact ⟨y10, y11, y12, HMB1 t1⟩ | exact ⟨q0, q1, q2, p0, p1, p2, p3, p4⟩ | go_keep)
        (first
          | (go_at_call 14
             (with_reducible refine (CM _ (HR.out.below hbD)).mono ?_)
             rintro e wa1 ⟨R, c1, rfl, hrd, hb1⟩
             have t1 := MK.putR (MT.next sD hb1) hrd
             obtain ⟨y10, y11, y12⟩ := BxM.cells (MK.get t1 5 rfl)
             dsimp only)
          | (go_at_call 25
             (with_reducible refine (CO _ (MK.get t1 6 rfl) hk6 HRL.out R c1 (MK.get t1 0 rfl)).mono ?_)
             rintro e wa2 ⟨B8, k8, y8, rfl, hk8, hb2⟩
             have t2 := MT.next t1 hb2
             obtain ⟨y20, y21, y22⟩ := BxM.cells (MK.get t2 5 rfl)
             dsimp only)
          | fail)
      all_goals
        clear HMB1 hk8 p0 p1 p2 p3 p4 q0 q1 q2
        try clear y10 y11 y12 y20 y21 y22 hrd
        obtain ⟨m0, m1, m2⟩ := BxM.cells (MK.get t2 1 rfl)
        obtain ⟨m3, m4, m5⟩ := BxM.cells (MK.get t2 2 rfl)
        clear CM CO
        go_wp2_with fail
        clear m0 m1 m2 m3 m4 m5
        refine (lives_walk _).mono ?_
        rintro e w16 ⟨rfl, hb16⟩
        have hfin := below_next t2.2.1 hb16
        clear t2
        go_wp2
        go_ret
        exact ⟨rfl, hfin⟩
set_option maxRecDepth 100000 in
set_option maxHeartbeats 8000000 in
/-- The second state is below 0. -/
theorem lawErr_D (ri ro : Int) (X : Option Addr) (cx : Nat) (rs : List (List Ed)) (a b d : Int) (p : Bool) (A : Option Addr) (c : Nat) (es : List Int) (z0 z1 : Int) (w : World) (hx : RdR w X rs) (hr : Rd16 w A es) (hl : es.length ≤ 9223372036854775807)
    (ha : 0 ≤ a ∧ a ≤ 255) (hb : 0 ≤ b ∧ b ≤ 255) (hd : 0 ≤ d ∧ d ≤ 255)
    (h70 : rs.length ≤ 70) (hrw : ∀ row ∈ rs, row.length ≤ 20) (hz : Mc.chk ⟨ri, ro, rs⟩ = 0) (h0 : ¬ z0 < 0) (h1 : ¬ (rs.length : Int) ≤ z0) (h2 : z1 < 0) :
    Calls Try.prog 5 #[.agg #[.int .i64 ri, .int .i64 ro, .slice X rs.length cx], .agg #[.int .u8 a, .int .u8 b, .int .u8 d, .bool p, .slice A es.length c], .agg #[.int .i64 z0, .int .i64 z1]] w fun e w' => e = .returned (.bool true) ∧ Below w.heap.size w w' := by
  obtain ⟨n, hn⟩ : ∃ n : Nat, 1 + a % 6 = n := ⟨(1 + a % 6).toNat, by omega⟩
  obtain ⟨i, hi⟩ : ∃ i : Nat, 1 + b % 3 = i := ⟨(1 + b % 3).toNat, by omega⟩
  obtain ⟨o, ho⟩ : ∃ o : Nat, 1 + d % 3 = o := ⟨(1 + d % 3).toNat, by omega⟩
  have CM := fun w hr => mof_at a b d p A c es n i o w hr hl ha hb hd hn hi ho
  obtain ⟨M, hM⟩ : ∃ M, Mc.mkN p n i o es = M := ⟨_, rfl⟩
  have V := Lib.hid (Mc.mkN_val (p := p) (n := n) (i := i) (o := o) (es := es) (by omega) (by omega) (by omega) (by omega) (by omega) (by omega))
  have hlen : Hid ((Mc.mkN p n i o es).r.length = n) := Mc.mkN_len _ _ _ _ _
  have hmi : Hid ((Mc.mkN p n i o es).i = i) := rfl
  have hmo : Hid ((Mc.mkN p n i o es).o = o) := rfl
  rw [hM] at V hlen hmi hmo
  simp only [hM] at CM
  clear hM ha hb hd hn hi ho hl
  have E1 := Mc.chkS_one ⟨ri, ro, rs⟩ z0
  have E2 := Mc.chkS_two ⟨ri, ro, rs⟩ z0 z1
  have hZ : Mc.chk ⟨ri, ro, rs⟩ = 0 := hz
  have hZ1 : Mc.chkS ⟨ri, ro, rs⟩ [z0] = 0 := by rw [E1, if_neg (by rw [hz]; simp)]; simp only; (repeat (first | rw [if_pos (by omega)] | rw [if_neg (by omega)]))
  have hZ2 : Mc.chkS ⟨ri, ro, rs⟩ [z0, z1] = 1 := by rw [E2, hZ1]; simp only; (repeat (first | rw [if_pos (by omega)] | rw [if_neg (by omega)]))
  clear E1 E2
  obtain ⟨N, hN⟩ : ∃ N, rs.length = N := ⟨_, rfl⟩
  have HN := Lib.hid hN
  have CK := fun w hr h => rmcheck_at ⟨ri, ro, rs⟩ ri ro X N cx w rfl rfl hN hr h
  have CD := fun w hr h hrl => dist_z ri ro rs X N cx w hr hN h hrl z0
  have CP := fun w hr h hrl => path_z ri ro rs X N cx w hr hN h hrl z0 z1
  have CA := fun w hr h hrl => access_z ri ro rs X N cx w hr hN h hrl
  have CR := fun w hr h hrl => reach_z ri ro rs X N cx w hr hN h hrl
  have CT := fun w hr h hrl => trim_z ri ro rs X N cx w hr hN h hrl
  have CC := fun w hr h hrl => canon_z ri ro rs X N cx w hr hN h hrl
  have CI := fun w hr h hrl => iscan_z ri ro rs X N cx w hr hN h hrl
  have CO := fun w hr h hrl R c1 (hq : RdR w R M.r) => iso_z ri ro rs X N cx w hr hN h hrl M R n c1 V.out hq hlen.out i o hmi.out hmo.out
  simp only [hZ, hZ1, hZ2] at CK CD CP CA CR CT CC CI CO
  clear hZ hZ1 hZ2
  rw [hN]
  rw [hN] at h70
  rw [hN] at h1
  have t1 : decide (z0 < 0) = false := decide_eq_false h0
  have t2 : decide ((N : Int) ≤ z0) = false := decide_eq_false h1
  have t3 : decide (z1 < 0) = true := decide_eq_true h2
  clear h0 h1 h2
  have hk6 : N ≤ 1000000 := by omega
  have HRL : Hid (∀ row ∈ rs, row.length ≤ 1000000) := fun row hrow => by have := hrw row hrow; omega
  have HRW := Lib.hid hrw
  clear hN hrw
  have s1 : MT w w _ := MK.putR MT.start hx
  have HR := Lib.hid hr
  clear hx hr
  obtain ⟨K0, hK0⟩ : ∃ K0, w.heap.size = K0 := ⟨_, rfl⟩
  have s2 := MK.putB (g := w.heap.size) (MT.alloc s1 (.cells #[.int .i64 ri, .int .i64 ro, .slice X N cx] 30)) (heap_alloc_new w _)
  have s3 := MT.putK (P := fun w => w.heap[K0 + 1]? = some (.cells #[.int .u8 a, .int .u8 b, .int .u8 d, .bool p, .slice A es.length c] 24)) (MT.alloc s2 (.cells #[.int .u8 a, .int .u8 b, .int .u8 d, .bool p, .slice A es.length c] 24))
    (by
      have h := heap_alloc_new (w.alloc (.cells #[.int .i64 ri, .int .i64 ro, .slice X N cx] 30)) (.cells #[.int .u8 a, .int .u8 b, .int .u8 d, .bool p, .slice A es.length c] 24)
      rw [show (w.alloc (.cells #[.int .i64 ri, .int .i64 ro, .slice X N cx] 30)).heap.size = w.heap.size + 1 by simp, hK0] at h
      exact h) (fun _ _ h hb => (hb.block _ (heap_lt h)).trans h)
  have s4 := MT.putK (P := fun w => w.heap[K0 + 1 + 1]? = some (.cells #[.int .i64 z0, .int .i64 z1] 56)) (MT.alloc s3 (.cells #[.int .i64 z0, .int .i64 z1] 56))
    (by
      have h := heap_alloc_new ((w.alloc (.cells #[.int .i64 ri, .int .i64 ro, .slice X N cx] 30)).alloc (.cells #[.int .u8 a, .int .u8 b, .int .u8 d, .bool p, .slice A es.length c] 24)) (.cells #[.int .i64 z0, .int .i64 z1] 56)
      rw [show ((w.alloc (.cells #[.int .i64 ri, .int .i64 ro, .slice X N cx] 30)).alloc (.cells #[.int .u8 a, .int .u8 b, .int .u8 d, .bool p, .slice A es.length c] 24)).heap.size = w.heap.size + 1 + 1 by simp, hK0] at h
      exact h) (fun _ _ h hb => (hb.block _ (heap_lt h)).trans h)
  rw [hK0] at s4
  clear s1 s2 s3
  go_enter Try.func5, Try.ntmps5
  go_upto_region 1 with fail
  obtain ⟨W0, hW0⟩ : ∃ W0, ((w.alloc (.cells #[.int .i64 ri, .int .i64 ro, .slice X N cx] 30)).alloc (.cells #[.int .u8 a, .int .u8 b, .int .u8 d, .bool p, .slice A es.length c] 24)).alloc (.cells #[.int .i64 z0, .int .i64 z1] 56) = W0 := ⟨_, rfl⟩
  rw [hW0] at s4
  rw [hW0]
  clear hW0
  obtain ⟨q0, q1, q2⟩ := BxM.cells (MK.get s4 2 rfl)
  have hd70 : decide ((70 : Int) < N) = false := decide_eq_false (by omega)
  go_wp2
  clear q0 q1 q2 hd70
  have SF := Lib.hid s4
  clear s4
  go_loopw [7] (fun v wr => ∃ k : Nat, k ≤ N ∧ v = .int .i64 k ∧ Hid (Below W0.heap.size W0 wr)) (fun v _ => N - (intOf v).toNat)
  case atStart => exact ⟨0, by omega, rfl, Below.refl _ _⟩
  case round =>
    obtain ⟨k, hk, rfl, hbr⟩ := hrel
    have sK := MT.next SF.out hbr.out
    obtain ⟨q0, q1, q2⟩ := BxM.cells (MK.get sK 2 rfl)
    by_cases hlt : k < N
    · have hkn : (k : Int) < N := by omega
      obtain ⟨br, ofr, Br, cr, nr, row, rfl, _, hcr, _, _, _, _, hrl, hrk⟩ := (MK.get sK 3 rfl).at_ (k := k) (by rw [HN.out]; exact hlt)
      have hnr : nr ≤ 20 := by rw [← hrl.out]; exact HRW.out row (List.mem_of_getElem? hrk.out)
      have hd20 : decide ((20 : Int) < nr) = false := decide_eq_false (by omega)
      clear sK CM CK CD CP CA CR CT CC CI CO hrl hrk
      go_wp2
      go_roundw
      case rel => exact ⟨k + 1, by omega, by go_num, hbr⟩
      case measure => simp [intOf]; omega
    · have ek : k = N := by omega
      have hkN : ¬ (k : Int) < N := by omega
      clear hbr SF hlt HRW hk
      go_wp2_with fail
      clear q0 q1 q2 hkN ek
      refine (CK _ (MK.get sK 3 rfl) hk6).mono ?_
      rintro e w1 ⟨rfl, hbl⟩
      have s2 := MT.next sK hbl
      clear sK hbl CK
      have hpl : w1.heap[K0 + 1 + 1]? = some (.cells #[.int .i64 z0, .int .i64 z1] 56) := MK.get s2 0 rfl
      have l0 : w1.cell? ⟨K0 + 1 + 1, 0, none⟩ = some (.int .i64 z0) := by rw [cell_of_row _ _ _ _ _ _ hpl]; rfl
      obtain ⟨q0, q1, q2⟩ := BxM.cells (MK.get s2 2 rfl)
      clear hpl
      go_wp2_with fail
      clear l0 q0 q1 q2
      refine (CD _ (MK.get s2 3 rfl) hk6 HRL.out).mono ?_
      rintro e w3 ⟨B1, k1, rfl, hk1, hbl⟩
      have s4 := MT.next s2 hbl
      clear s2 hbl CD
      clear hk1
      have hpl : w3.heap[K0 + 1 + 1]? = some (.cells #[.int .i64 z0, .int .i64 z1] 56) := MK.get s4 0 rfl
      have l0 : w3.cell? ⟨K0 + 1 + 1, 0, none⟩ = some (.int .i64 z0) := by rw [cell_of_row _ _ _ _ _ _ hpl]; rfl
      have l1 : w3.cell? ⟨K0 + 1 + 1, 1, none⟩ = some (.int .i64 z1) := by rw [cell_of_row _ _ _ _ _ _ hpl]; rfl
      obtain ⟨q0, q1, q2⟩ := BxM.cells (MK.get s4 2 rfl)
      clear hpl
      go_wp2_with fail
      clear l0 l1 q0 q1 q2
      refine (CP _ (MK.get s4 3 rfl) hk6 HRL.out).mono ?_
      rintro e w6 ⟨B2, k2, y2, rfl, hk2, hbl⟩
      have s7 := MT.next s4 hbl
      clear s4 hbl CP
      obtain ⟨rfl, rfl⟩ := hk2.out (by decide)
      clear hk2
      obtain ⟨q0, q1, q2⟩ := BxM.cells (MK.get s7 2 rfl)
      go_wp2_with fail
      clear q0 q1 q2
      refine (CA _ (MK.get s7 3 rfl) hk6 HRL.out).mono ?_
      rintro e w8 ⟨B3, C3, k3, rfl, hk3, hbl⟩
      have s8 := MT.next s7 hbl
      clear s7 hbl CA
      clear hk3
      obtain ⟨q0, q1, q2⟩ := BxM.cells (MK.get s8 2 rfl)
      go_wp2_with fail
      clear q0 q1 q2
      refine (CR _ (MK.get s8 3 rfl) hk6 HRL.out).mono ?_
      rintro e w9 ⟨B4, k4, rfl, hk4, hbl⟩
      have s9 := MT.next s8 hbl
      clear s8 hbl CR
      clear hk4
      obtain ⟨q0, q1, q2⟩ := BxM.cells (MK.get s9 2 rfl)
      go_wp2_with fail
      clear q0 q1 q2
      refine (CT _ (MK.get s9 3 rfl) hk6 HRL.out).mono ?_
      rintro e w10 ⟨i5, o5, B5, k5, C5, j5, rfl, hk5, hbl⟩
      have s10 := MK.putB (g := w10.heap.size) (MT.alloc (MT.next s9 hbl) (.cells #[.int .i64 i5, .int .i64 o5, .slice B5 k5 k5] 30)) (heap_alloc_new w10 _)
      clear s9 hbl CT hk5
      obtain ⟨q0, q1, q2⟩ := BxM.cells (MK.get s10 3 rfl)
      go_wp2_with fail
      clear q0 q1 q2
      refine (CC _ (MK.get s10 4 rfl) hk6 HRL.out).mono ?_
      rintro e w11 ⟨i6, o6, B6, k6, rfl, hk6', hbl⟩
      have s11 := MK.putB (g := w11.heap.size) (MT.alloc (MT.next s10 hbl) (.cells #[.int .i64 i6, .int .i64 o6, .slice B6 k6 k6] 30)) (heap_alloc_new w11 _)
      clear s10 hbl CC hk6'
      obtain ⟨q0, q1, q2⟩ := BxM.cells (MK.get s11 4 rfl)
      go_wp2_with fail
      clear q0 q1 q2
      refine (CI _ (MK.get s11 5 rfl) hk6 HRL.out).mono ?_
      rintro e w12 ⟨y7, rfl, hk7, hbl⟩
      have s12 := MT.next s11 hbl
      clear s11 hbl CI
      clear hk7
      obtain ⟨g5, hg5⟩ : ∃ g, w10.heap.size = g := ⟨_, rfl⟩
      obtain ⟨g6, hg6⟩ : ∃ g, w11.heap.size = g := ⟨_, rfl⟩
      rw [hg5, hg6] at s12
      rw [hg5, hg6]
      clear hg5 hg6
      have hpm : w12.heap[K0 + 1]? = some (.cells #[.int .u8 a, .int .u8 b, .int .u8 d, .bool p, .slice A es.length c] 24) := MK.get s12 3 rfl
      have p0 : w12.cell? ⟨K0 + 1, 0, none⟩ = some (.int .u8 a) := by rw [cell_of_row _ _ _ _ _ _ hpm]; rfl
      have p1 : w12.cell? ⟨K0 + 1, 1, none⟩ = some (.int .u8 b) := by rw [cell_of_row _ _ _ _ _ _ hpm]; rfl
      have p2 : w12.cell? ⟨K0 + 1, 2, none⟩ = some (.int .u8 d) := by rw [cell_of_row _ _ _ _ _ _ hpm]; rfl
      have p3 : w12.cell? ⟨K0 + 1, 3, none⟩ = some (.bool p) := by rw [cell_of_row _ _ _ _ _ _ hpm]; rfl
      have p4 : w12.cell? ⟨K0 + 1, 4, none⟩ = some (.slice A es.length c) := by rw [cell_of_row _ _ _ _ _ _ hpm]; rfl
      obtain ⟨q0, q1, q2⟩ := BxM.cells (MK.get s12 4 rfl)
      clear hpm
      have HMB1 : ∀ {w' : World} {L : List (World → Prop)} {P0 P1 P2 P3 : World → Prop}, MT w w' (P0 :: P1 :: P2 :: P3 :: (fun w => w.heap[K0 + 1]? = some (.cells #[.int .u8 a, .int .u8 b, .int .u8 d, .bool p, .slice A es.length c] 24)) :: L) → (w'.cell? ⟨K0 + 1, 0, none⟩ = some (.int .u8 a) ∧ w'.cell? ⟨K0 + 1, 1, none⟩ = some (.int .u8 b) ∧ w'.cell? ⟨K0 + 1, 2, none⟩ = some (.int .u8 d) ∧ w'.cell? ⟨K0 + 1, 3, none⟩ = some (.bool p) ∧ w'.cell? ⟨K0 + 1, 4, none⟩ = some (.slice A es.length c)) := fun h => by
        have hpm := MK.get h 4 rfl
        refine ⟨?_, ?_, ?_, ?_, ?_⟩ <;> (rw [cell_of_row _ _ _ _ _ _ hpm]; rfl)
      have sD := MT.next s12 (Below.refl _ _).drew
      have hbD : Below w.heap.size w w12.drew := sD.2.1
      clear s12
      go_upto_region 25 with fail
      go_region_held3 (fun W => W.cell? ⟨K0, 0, none⟩ = some (.int .i64 ri) ∧ W.cell? ⟨K0, 1, none⟩ = some (.int .i64 ro) ∧ W.cell? ⟨K0, 2, none⟩ = some (.slice X N cx) ∧ W.cell? ⟨K0 + 1, 0, none⟩ = some (.int .u8 a) ∧ W.cell? ⟨K0 + 1, 1, none⟩ = some (.int .u8 b) ∧ W.cell? ⟨K0 + 1, 2, none⟩ = some (.int .u8 d) ∧ W.cell? ⟨K0 + 1, 3, none⟩ = some (.bool p) ∧ W.cell? ⟨K0 + 1, 4, none⟩ = some (.slice A es.length c))
        (first | exact ⟨y20, y21, y22, HMB1 t2⟩ | exact ⟨y10, y11, y12, HMB1 t1⟩ | exact ⟨q0, q1, q2, p0, p1, p2, p3, p4⟩ | go_keep)
        (first
          | (go_at_call 14
             (with_reducible refine (CM _ (HR.out.below hbD)).mono ?_)
             rintro e wa1 ⟨R, c1, rfl, hrd, hb1⟩
             have t1 := MK.putR (MT.next sD hb1) hrd
             obtain ⟨y10, y11, y12⟩ := BxM.cells (MK.get t1 5 rfl)
             dsimp only)
          | (go_at_call 25
             (with_reducible refine (CO _ (MK.get t1 6 rfl) hk6 HRL.out R c1 (MK.get t1 0 rfl)).mono ?_)
             rintro e wa2 ⟨B8, k8, y8, rfl, hk8, hb2⟩
             have t2 := MT.next t1 hb2
             obtain ⟨y20, y21, y22⟩ := BxM.cells (MK.get t2 5 rfl)
             dsimp only)
          | fail)
      all_goals
        clear HMB1 hk8 p0 p1 p2 p3 p4 q0 q1 q2
        try clear y10 y11 y12 y20 y21 y22 hrd
        obtain ⟨m0, m1, m2⟩ := BxM.cells (MK.get t2 1 rfl)
        obtain ⟨m3, m4, m5⟩ := BxM.cells (MK.get t2 2 rfl)
        clear CM CO
        go_wp2_with fail
        clear m0 m1 m2 m3 m4 m5
        refine (lives_walk _).mono ?_
        rintro e w16 ⟨rfl, hb16⟩
        have hfin := below_next t2.2.1 hb16
        clear t2
        go_wp2
        go_ret
        exact ⟨rfl, hfin⟩
set_option maxRecDepth 100000 in
set_option maxHeartbeats 8000000 in
/-- The second state is too large. -/
theorem lawErr_E (ri ro : Int) (X : Option Addr) (cx : Nat) (rs : List (List Ed)) (a b d : Int) (p : Bool) (A : Option Addr) (c : Nat) (es : List Int) (z0 z1 : Int) (w : World) (hx : RdR w X rs) (hr : Rd16 w A es) (hl : es.length ≤ 9223372036854775807)
    (ha : 0 ≤ a ∧ a ≤ 255) (hb : 0 ≤ b ∧ b ≤ 255) (hd : 0 ≤ d ∧ d ≤ 255)
    (h70 : rs.length ≤ 70) (hrw : ∀ row ∈ rs, row.length ≤ 20) (hz : Mc.chk ⟨ri, ro, rs⟩ = 0) (h0 : ¬ z0 < 0) (h1 : ¬ (rs.length : Int) ≤ z0) (h2 : ¬ z1 < 0) (h3 : (rs.length : Int) ≤ z1) :
    Calls Try.prog 5 #[.agg #[.int .i64 ri, .int .i64 ro, .slice X rs.length cx], .agg #[.int .u8 a, .int .u8 b, .int .u8 d, .bool p, .slice A es.length c], .agg #[.int .i64 z0, .int .i64 z1]] w fun e w' => e = .returned (.bool true) ∧ Below w.heap.size w w' := by
  obtain ⟨n, hn⟩ : ∃ n : Nat, 1 + a % 6 = n := ⟨(1 + a % 6).toNat, by omega⟩
  obtain ⟨i, hi⟩ : ∃ i : Nat, 1 + b % 3 = i := ⟨(1 + b % 3).toNat, by omega⟩
  obtain ⟨o, ho⟩ : ∃ o : Nat, 1 + d % 3 = o := ⟨(1 + d % 3).toNat, by omega⟩
  have CM := fun w hr => mof_at a b d p A c es n i o w hr hl ha hb hd hn hi ho
  obtain ⟨M, hM⟩ : ∃ M, Mc.mkN p n i o es = M := ⟨_, rfl⟩
  have V := Lib.hid (Mc.mkN_val (p := p) (n := n) (i := i) (o := o) (es := es) (by omega) (by omega) (by omega) (by omega) (by omega) (by omega))
  have hlen : Hid ((Mc.mkN p n i o es).r.length = n) := Mc.mkN_len _ _ _ _ _
  have hmi : Hid ((Mc.mkN p n i o es).i = i) := rfl
  have hmo : Hid ((Mc.mkN p n i o es).o = o) := rfl
  rw [hM] at V hlen hmi hmo
  simp only [hM] at CM
  clear hM ha hb hd hn hi ho hl
  have E1 := Mc.chkS_one ⟨ri, ro, rs⟩ z0
  have E2 := Mc.chkS_two ⟨ri, ro, rs⟩ z0 z1
  have hZ : Mc.chk ⟨ri, ro, rs⟩ = 0 := hz
  have hZ1 : Mc.chkS ⟨ri, ro, rs⟩ [z0] = 0 := by rw [E1, if_neg (by rw [hz]; simp)]; simp only; (repeat (first | rw [if_pos (by omega)] | rw [if_neg (by omega)]))
  have hZ2 : Mc.chkS ⟨ri, ro, rs⟩ [z0, z1] = 1 := by rw [E2, hZ1]; simp only; (repeat (first | rw [if_pos (by omega)] | rw [if_neg (by omega)]))
  clear E1 E2
  obtain ⟨N, hN⟩ : ∃ N, rs.length = N := ⟨_, rfl⟩
  have HN := Lib.hid hN
  have CK := fun w hr h => rmcheck_at ⟨ri, ro, rs⟩ ri ro X N cx w rfl rfl hN hr h
  have CD := fun w hr h hrl => dist_z ri ro rs X N cx w hr hN h hrl z0
  have CP := fun w hr h hrl => path_z ri ro rs X N cx w hr hN h hrl z0 z1
  have CA := fun w hr h hrl => access_z ri ro rs X N cx w hr hN h hrl
  have CR := fun w hr h hrl => reach_z ri ro rs X N cx w hr hN h hrl
  have CT := fun w hr h hrl => trim_z ri ro rs X N cx w hr hN h hrl
  have CC := fun w hr h hrl => canon_z ri ro rs X N cx w hr hN h hrl
  have CI := fun w hr h hrl => iscan_z ri ro rs X N cx w hr hN h hrl
  have CO := fun w hr h hrl R c1 (hq : RdR w R M.r) => iso_z ri ro rs X N cx w hr hN h hrl M R n c1 V.out hq hlen.out i o hmi.out hmo.out
  simp only [hZ, hZ1, hZ2] at CK CD CP CA CR CT CC CI CO
  clear hZ hZ1 hZ2
  rw [hN]
  rw [hN] at h70
  rw [hN] at h1 h3
  have t1 : decide (z0 < 0) = false := decide_eq_false h0
  have t2 : decide ((N : Int) ≤ z0) = false := decide_eq_false h1
  have t3 : decide (z1 < 0) = false := decide_eq_false h2
  have t4 : decide ((N : Int) ≤ z1) = true := decide_eq_true h3
  clear h0 h1 h2 h3
  have hk6 : N ≤ 1000000 := by omega
  have HRL : Hid (∀ row ∈ rs, row.length ≤ 1000000) := fun row hrow => by have := hrw row hrow; omega
  have HRW := Lib.hid hrw
  clear hN hrw
  have s1 : MT w w _ := MK.putR MT.start hx
  have HR := Lib.hid hr
  clear hx hr
  obtain ⟨K0, hK0⟩ : ∃ K0, w.heap.size = K0 := ⟨_, rfl⟩
  have s2 := MK.putB (g := w.heap.size) (MT.alloc s1 (.cells #[.int .i64 ri, .int .i64 ro, .slice X N cx] 30)) (heap_alloc_new w _)
  have s3 := MT.putK (P := fun w => w.heap[K0 + 1]? = some (.cells #[.int .u8 a, .int .u8 b, .int .u8 d, .bool p, .slice A es.length c] 24)) (MT.alloc s2 (.cells #[.int .u8 a, .int .u8 b, .int .u8 d, .bool p, .slice A es.length c] 24))
    (by
      have h := heap_alloc_new (w.alloc (.cells #[.int .i64 ri, .int .i64 ro, .slice X N cx] 30)) (.cells #[.int .u8 a, .int .u8 b, .int .u8 d, .bool p, .slice A es.length c] 24)
      rw [show (w.alloc (.cells #[.int .i64 ri, .int .i64 ro, .slice X N cx] 30)).heap.size = w.heap.size + 1 by simp, hK0] at h
      exact h) (fun _ _ h hb => (hb.block _ (heap_lt h)).trans h)
  have s4 := MT.putK (P := fun w => w.heap[K0 + 1 + 1]? = some (.cells #[.int .i64 z0, .int .i64 z1] 56)) (MT.alloc s3 (.cells #[.int .i64 z0, .int .i64 z1] 56))
    (by
      have h := heap_alloc_new ((w.alloc (.cells #[.int .i64 ri, .int .i64 ro, .slice X N cx] 30)).alloc (.cells #[.int .u8 a, .int .u8 b, .int .u8 d, .bool p, .slice A es.length c] 24)) (.cells #[.int .i64 z0, .int .i64 z1] 56)
      rw [show ((w.alloc (.cells #[.int .i64 ri, .int .i64 ro, .slice X N cx] 30)).alloc (.cells #[.int .u8 a, .int .u8 b, .int .u8 d, .bool p, .slice A es.length c] 24)).heap.size = w.heap.size + 1 + 1 by simp, hK0] at h
      exact h) (fun _ _ h hb => (hb.block _ (heap_lt h)).trans h)
  rw [hK0] at s4
  clear s1 s2 s3
  go_enter Try.func5, Try.ntmps5
  go_upto_region 1 with fail
  obtain ⟨W0, hW0⟩ : ∃ W0, ((w.alloc (.cells #[.int .i64 ri, .int .i64 ro, .slice X N cx] 30)).alloc (.cells #[.int .u8 a, .int .u8 b, .int .u8 d, .bool p, .slice A es.length c] 24)).alloc (.cells #[.int .i64 z0, .int .i64 z1] 56) = W0 := ⟨_, rfl⟩
  rw [hW0] at s4
  rw [hW0]
  clear hW0
  obtain ⟨q0, q1, q2⟩ := BxM.cells (MK.get s4 2 rfl)
  have hd70 : decide ((70 : Int) < N) = false := decide_eq_false (by omega)
  go_wp2
  clear q0 q1 q2 hd70
  have SF := Lib.hid s4
  clear s4
  go_loopw [7] (fun v wr => ∃ k : Nat, k ≤ N ∧ v = .int .i64 k ∧ Hid (Below W0.heap.size W0 wr)) (fun v _ => N - (intOf v).toNat)
  case atStart => exact ⟨0, by omega, rfl, Below.refl _ _⟩
  case round =>
    obtain ⟨k, hk, rfl, hbr⟩ := hrel
    have sK := MT.next SF.out hbr.out
    obtain ⟨q0, q1, q2⟩ := BxM.cells (MK.get sK 2 rfl)
    by_cases hlt : k < N
    · have hkn : (k : Int) < N := by omega
      obtain ⟨br, ofr, Br, cr, nr, row, rfl, _, hcr, _, _, _, _, hrl, hrk⟩ := (MK.get sK 3 rfl).at_ (k := k) (by rw [HN.out]; exact hlt)
      have hnr : nr ≤ 20 := by rw [← hrl.out]; exact HRW.out row (List.mem_of_getElem? hrk.out)
      have hd20 : decide ((20 : Int) < nr) = false := decide_eq_false (by omega)
      clear sK CM CK CD CP CA CR CT CC CI CO hrl hrk
      go_wp2
      go_roundw
      case rel => exact ⟨k + 1, by omega, by go_num, hbr⟩
      case measure => simp [intOf]; omega
    · have ek : k = N := by omega
      have hkN : ¬ (k : Int) < N := by omega
      clear hbr SF hlt HRW hk
      go_wp2_with fail
      clear q0 q1 q2 hkN ek
      refine (CK _ (MK.get sK 3 rfl) hk6).mono ?_
      rintro e w1 ⟨rfl, hbl⟩
      have s2 := MT.next sK hbl
      clear sK hbl CK
      have hpl : w1.heap[K0 + 1 + 1]? = some (.cells #[.int .i64 z0, .int .i64 z1] 56) := MK.get s2 0 rfl
      have l0 : w1.cell? ⟨K0 + 1 + 1, 0, none⟩ = some (.int .i64 z0) := by rw [cell_of_row _ _ _ _ _ _ hpl]; rfl
      obtain ⟨q0, q1, q2⟩ := BxM.cells (MK.get s2 2 rfl)
      clear hpl
      go_wp2_with fail
      clear l0 q0 q1 q2
      refine (CD _ (MK.get s2 3 rfl) hk6 HRL.out).mono ?_
      rintro e w3 ⟨B1, k1, rfl, hk1, hbl⟩
      have s4 := MT.next s2 hbl
      clear s2 hbl CD
      clear hk1
      have hpl : w3.heap[K0 + 1 + 1]? = some (.cells #[.int .i64 z0, .int .i64 z1] 56) := MK.get s4 0 rfl
      have l0 : w3.cell? ⟨K0 + 1 + 1, 0, none⟩ = some (.int .i64 z0) := by rw [cell_of_row _ _ _ _ _ _ hpl]; rfl
      have l1 : w3.cell? ⟨K0 + 1 + 1, 1, none⟩ = some (.int .i64 z1) := by rw [cell_of_row _ _ _ _ _ _ hpl]; rfl
      obtain ⟨q0, q1, q2⟩ := BxM.cells (MK.get s4 2 rfl)
      clear hpl
      go_wp2_with fail
      clear l0 l1 q0 q1 q2
      refine (CP _ (MK.get s4 3 rfl) hk6 HRL.out).mono ?_
      rintro e w6 ⟨B2, k2, y2, rfl, hk2, hbl⟩
      have s7 := MT.next s4 hbl
      clear s4 hbl CP
      obtain ⟨rfl, rfl⟩ := hk2.out (by decide)
      clear hk2
      obtain ⟨q0, q1, q2⟩ := BxM.cells (MK.get s7 2 rfl)
      go_wp2_with fail
      clear q0 q1 q2
      refine (CA _ (MK.get s7 3 rfl) hk6 HRL.out).mono ?_
      rintro e w8 ⟨B3, C3, k3, rfl, hk3, hbl⟩
      have s8 := MT.next s7 hbl
      clear s7 hbl CA
      clear hk3
      obtain ⟨q0, q1, q2⟩ := BxM.cells (MK.get s8 2 rfl)
      go_wp2_with fail
      clear q0 q1 q2
      refine (CR _ (MK.get s8 3 rfl) hk6 HRL.out).mono ?_
      rintro e w9 ⟨B4, k4, rfl, hk4, hbl⟩
      have s9 := MT.next s8 hbl
      clear s8 hbl CR
      clear hk4
      obtain ⟨q0, q1, q2⟩ := BxM.cells (MK.get s9 2 rfl)
      go_wp2_with fail
      clear q0 q1 q2
      refine (CT _ (MK.get s9 3 rfl) hk6 HRL.out).mono ?_
      rintro e w10 ⟨i5, o5, B5, k5, C5, j5, rfl, hk5, hbl⟩
      have s10 := MK.putB (g := w10.heap.size) (MT.alloc (MT.next s9 hbl) (.cells #[.int .i64 i5, .int .i64 o5, .slice B5 k5 k5] 30)) (heap_alloc_new w10 _)
      clear s9 hbl CT hk5
      obtain ⟨q0, q1, q2⟩ := BxM.cells (MK.get s10 3 rfl)
      go_wp2_with fail
      clear q0 q1 q2
      refine (CC _ (MK.get s10 4 rfl) hk6 HRL.out).mono ?_
      rintro e w11 ⟨i6, o6, B6, k6, rfl, hk6', hbl⟩
      have s11 := MK.putB (g := w11.heap.size) (MT.alloc (MT.next s10 hbl) (.cells #[.int .i64 i6, .int .i64 o6, .slice B6 k6 k6] 30)) (heap_alloc_new w11 _)
      clear s10 hbl CC hk6'
      obtain ⟨q0, q1, q2⟩ := BxM.cells (MK.get s11 4 rfl)
      go_wp2_with fail
      clear q0 q1 q2
      refine (CI _ (MK.get s11 5 rfl) hk6 HRL.out).mono ?_
      rintro e w12 ⟨y7, rfl, hk7, hbl⟩
      have s12 := MT.next s11 hbl
      clear s11 hbl CI
      clear hk7
      obtain ⟨g5, hg5⟩ : ∃ g, w10.heap.size = g := ⟨_, rfl⟩
      obtain ⟨g6, hg6⟩ : ∃ g, w11.heap.size = g := ⟨_, rfl⟩
      rw [hg5, hg6] at s12
      rw [hg5, hg6]
      clear hg5 hg6
      have hpm : w12.heap[K0 + 1]? = some (.cells #[.int .u8 a, .int .u8 b, .int .u8 d, .bool p, .slice A es.length c] 24) := MK.get s12 3 rfl
      have p0 : w12.cell? ⟨K0 + 1, 0, none⟩ = some (.int .u8 a) := by rw [cell_of_row _ _ _ _ _ _ hpm]; rfl
      have p1 : w12.cell? ⟨K0 + 1, 1, none⟩ = some (.int .u8 b) := by rw [cell_of_row _ _ _ _ _ _ hpm]; rfl
      have p2 : w12.cell? ⟨K0 + 1, 2, none⟩ = some (.int .u8 d) := by rw [cell_of_row _ _ _ _ _ _ hpm]; rfl
      have p3 : w12.cell? ⟨K0 + 1, 3, none⟩ = some (.bool p) := by rw [cell_of_row _ _ _ _ _ _ hpm]; rfl
      have p4 : w12.cell? ⟨K0 + 1, 4, none⟩ = some (.slice A es.length c) := by rw [cell_of_row _ _ _ _ _ _ hpm]; rfl
      obtain ⟨q0, q1, q2⟩ := BxM.cells (MK.get s12 4 rfl)
      clear hpm
      have HMB1 : ∀ {w' : World} {L : List (World → Prop)} {P0 P1 P2 P3 : World → Prop}, MT w w' (P0 :: P1 :: P2 :: P3 :: (fun w => w.heap[K0 + 1]? = some (.cells #[.int .u8 a, .int .u8 b, .int .u8 d, .bool p, .slice A es.length c] 24)) :: L) → (w'.cell? ⟨K0 + 1, 0, none⟩ = some (.int .u8 a) ∧ w'.cell? ⟨K0 + 1, 1, none⟩ = some (.int .u8 b) ∧ w'.cell? ⟨K0 + 1, 2, none⟩ = some (.int .u8 d) ∧ w'.cell? ⟨K0 + 1, 3, none⟩ = some (.bool p) ∧ w'.cell? ⟨K0 + 1, 4, none⟩ = some (.slice A es.length c)) := fun h => by
        have hpm := MK.get h 4 rfl
        refine ⟨?_, ?_, ?_, ?_, ?_⟩ <;> (rw [cell_of_row _ _ _ _ _ _ hpm]; rfl)
      have sD := MT.next s12 (Below.refl _ _).drew
      have hbD : Below w.heap.size w w12.drew := sD.2.1
      clear s12
      go_upto_region 25 with fail
      go_region_held3 (fun W => W.cell? ⟨K0, 0, none⟩ = some (.int .i64 ri) ∧ W.cell? ⟨K0, 1, none⟩ = some (.int .i64 ro) ∧ W.cell? ⟨K0, 2, none⟩ = some (.slice X N cx) ∧ W.cell? ⟨K0 + 1, 0, none⟩ = some (.int .u8 a) ∧ W.cell? ⟨K0 + 1, 1, none⟩ = some (.int .u8 b) ∧ W.cell? ⟨K0 + 1, 2, none⟩ = some (.int .u8 d) ∧ W.cell? ⟨K0 + 1, 3, none⟩ = some (.bool p) ∧ W.cell? ⟨K0 + 1, 4, none⟩ = some (.slice A es.length c))
        (first | exact ⟨y20, y21, y22, HMB1 t2⟩ | exact ⟨y10, y11, y12, HMB1 t1⟩ | exact ⟨q0, q1, q2, p0, p1, p2, p3, p4⟩ | go_keep)
        (first
          | (go_at_call 14
             (with_reducible refine (CM _ (HR.out.below hbD)).mono ?_)
             rintro e wa1 ⟨R, c1, rfl, hrd, hb1⟩
             have t1 := MK.putR (MT.next sD hb1) hrd
             obtain ⟨y10, y11, y12⟩ := BxM.cells (MK.get t1 5 rfl)
             dsimp only)
          | (go_at_call 25
             (with_reducible refine (CO _ (MK.get t1 6 rfl) hk6 HRL.out R c1 (MK.get t1 0 rfl)).mono ?_)
             rintro e wa2 ⟨B8, k8, y8, rfl, hk8, hb2⟩
             have t2 := MT.next t1 hb2
             obtain ⟨y20, y21, y22⟩ := BxM.cells (MK.get t2 5 rfl)
             dsimp only)
          | fail)
      all_goals
        clear HMB1 hk8 p0 p1 p2 p3 p4 q0 q1 q2
        try clear y10 y11 y12 y20 y21 y22 hrd
        obtain ⟨m0, m1, m2⟩ := BxM.cells (MK.get t2 1 rfl)
        obtain ⟨m3, m4, m5⟩ := BxM.cells (MK.get t2 2 rfl)
        clear CM CO
        go_wp2_with fail
        clear m0 m1 m2 m3 m4 m5
        refine (lives_walk _).mono ?_
        rintro e w16 ⟨rfl, hb16⟩
        have hfin := below_next t2.2.1 hb16
        clear t2
        go_wp2
        go_ret
        exact ⟨rfl, hfin⟩
set_option maxRecDepth 100000 in
set_option maxHeartbeats 8000000 in
/-- Nothing is wrong. -/
theorem lawErr_F (ri ro : Int) (X : Option Addr) (cx : Nat) (rs : List (List Ed)) (a b d : Int) (p : Bool) (A : Option Addr) (c : Nat) (es : List Int) (z0 z1 : Int) (w : World) (hx : RdR w X rs) (hr : Rd16 w A es) (hl : es.length ≤ 9223372036854775807)
    (ha : 0 ≤ a ∧ a ≤ 255) (hb : 0 ≤ b ∧ b ≤ 255) (hd : 0 ≤ d ∧ d ≤ 255)
    (h70 : rs.length ≤ 70) (hrw : ∀ row ∈ rs, row.length ≤ 20) (hz : Mc.chk ⟨ri, ro, rs⟩ = 0) (h0 : ¬ z0 < 0) (h1 : ¬ (rs.length : Int) ≤ z0) (h2 : ¬ z1 < 0) (h3 : ¬ (rs.length : Int) ≤ z1) :
    Calls Try.prog 5 #[.agg #[.int .i64 ri, .int .i64 ro, .slice X rs.length cx], .agg #[.int .u8 a, .int .u8 b, .int .u8 d, .bool p, .slice A es.length c], .agg #[.int .i64 z0, .int .i64 z1]] w fun e w' => e = .returned (.bool true) ∧ Below w.heap.size w w' := by
  obtain ⟨n, hn⟩ : ∃ n : Nat, 1 + a % 6 = n := ⟨(1 + a % 6).toNat, by omega⟩
  obtain ⟨i, hi⟩ : ∃ i : Nat, 1 + b % 3 = i := ⟨(1 + b % 3).toNat, by omega⟩
  obtain ⟨o, ho⟩ : ∃ o : Nat, 1 + d % 3 = o := ⟨(1 + d % 3).toNat, by omega⟩
  have CM := fun w hr => mof_at a b d p A c es n i o w hr hl ha hb hd hn hi ho
  obtain ⟨M, hM⟩ : ∃ M, Mc.mkN p n i o es = M := ⟨_, rfl⟩
  have V := Lib.hid (Mc.mkN_val (p := p) (n := n) (i := i) (o := o) (es := es) (by omega) (by omega) (by omega) (by omega) (by omega) (by omega))
  have hlen : Hid ((Mc.mkN p n i o es).r.length = n) := Mc.mkN_len _ _ _ _ _
  have hmi : Hid ((Mc.mkN p n i o es).i = i) := rfl
  have hmo : Hid ((Mc.mkN p n i o es).o = o) := rfl
  rw [hM] at V hlen hmi hmo
  simp only [hM] at CM
  clear hM ha hb hd hn hi ho hl
  have E1 := Mc.chkS_one ⟨ri, ro, rs⟩ z0
  have E2 := Mc.chkS_two ⟨ri, ro, rs⟩ z0 z1
  have hZ : Mc.chk ⟨ri, ro, rs⟩ = 0 := hz
  have hZ1 : Mc.chkS ⟨ri, ro, rs⟩ [z0] = 0 := by rw [E1, if_neg (by rw [hz]; simp)]; simp only; (repeat (first | rw [if_pos (by omega)] | rw [if_neg (by omega)]))
  have hZ2 : Mc.chkS ⟨ri, ro, rs⟩ [z0, z1] = 0 := by rw [E2, hZ1]; simp only; (repeat (first | rw [if_pos (by omega)] | rw [if_neg (by omega)]))
  clear E1 E2
  obtain ⟨N, hN⟩ : ∃ N, rs.length = N := ⟨_, rfl⟩
  have HN := Lib.hid hN
  have CK := fun w hr h => rmcheck_at ⟨ri, ro, rs⟩ ri ro X N cx w rfl rfl hN hr h
  have CD := fun w hr h hrl => dist_z ri ro rs X N cx w hr hN h hrl z0
  have CP := fun w hr h hrl => path_z ri ro rs X N cx w hr hN h hrl z0 z1
  have CA := fun w hr h hrl => access_z ri ro rs X N cx w hr hN h hrl
  have CR := fun w hr h hrl => reach_z ri ro rs X N cx w hr hN h hrl
  have CT := fun w hr h hrl => trim_z ri ro rs X N cx w hr hN h hrl
  have CC := fun w hr h hrl => canon_z ri ro rs X N cx w hr hN h hrl
  have CI := fun w hr h hrl => iscan_z ri ro rs X N cx w hr hN h hrl
  have CO := fun w hr h hrl R c1 (hq : RdR w R M.r) => iso_z ri ro rs X N cx w hr hN h hrl M R n c1 V.out hq hlen.out i o hmi.out hmo.out
  simp only [hZ, hZ1, hZ2] at CK CD CP CA CR CT CC CI CO
  clear hZ hZ1 hZ2
  rw [hN]
  rw [hN] at h70
  rw [hN] at h1 h3
  have t1 : decide (z0 < 0) = false := decide_eq_false h0
  have t2 : decide ((N : Int) ≤ z0) = false := decide_eq_false h1
  have t3 : decide (z1 < 0) = false := decide_eq_false h2
  have t4 : decide ((N : Int) ≤ z1) = false := decide_eq_false h3
  clear h0 h1 h2 h3
  have hk6 : N ≤ 1000000 := by omega
  have HRL : Hid (∀ row ∈ rs, row.length ≤ 1000000) := fun row hrow => by have := hrw row hrow; omega
  have HRW := Lib.hid hrw
  clear hN hrw
  have s1 : MT w w _ := MK.putR MT.start hx
  have HR := Lib.hid hr
  clear hx hr
  obtain ⟨K0, hK0⟩ : ∃ K0, w.heap.size = K0 := ⟨_, rfl⟩
  have s2 := MK.putB (g := w.heap.size) (MT.alloc s1 (.cells #[.int .i64 ri, .int .i64 ro, .slice X N cx] 30)) (heap_alloc_new w _)
  have s3 := MT.putK (P := fun w => w.heap[K0 + 1]? = some (.cells #[.int .u8 a, .int .u8 b, .int .u8 d, .bool p, .slice A es.length c] 24)) (MT.alloc s2 (.cells #[.int .u8 a, .int .u8 b, .int .u8 d, .bool p, .slice A es.length c] 24))
    (by
      have h := heap_alloc_new (w.alloc (.cells #[.int .i64 ri, .int .i64 ro, .slice X N cx] 30)) (.cells #[.int .u8 a, .int .u8 b, .int .u8 d, .bool p, .slice A es.length c] 24)
      rw [show (w.alloc (.cells #[.int .i64 ri, .int .i64 ro, .slice X N cx] 30)).heap.size = w.heap.size + 1 by simp, hK0] at h
      exact h) (fun _ _ h hb => (hb.block _ (heap_lt h)).trans h)
  have s4 := MT.putK (P := fun w => w.heap[K0 + 1 + 1]? = some (.cells #[.int .i64 z0, .int .i64 z1] 56)) (MT.alloc s3 (.cells #[.int .i64 z0, .int .i64 z1] 56))
    (by
      have h := heap_alloc_new ((w.alloc (.cells #[.int .i64 ri, .int .i64 ro, .slice X N cx] 30)).alloc (.cells #[.int .u8 a, .int .u8 b, .int .u8 d, .bool p, .slice A es.length c] 24)) (.cells #[.int .i64 z0, .int .i64 z1] 56)
      rw [show ((w.alloc (.cells #[.int .i64 ri, .int .i64 ro, .slice X N cx] 30)).alloc (.cells #[.int .u8 a, .int .u8 b, .int .u8 d, .bool p, .slice A es.length c] 24)).heap.size = w.heap.size + 1 + 1 by simp, hK0] at h
      exact h) (fun _ _ h hb => (hb.block _ (heap_lt h)).trans h)
  rw [hK0] at s4
  clear s1 s2 s3
  go_enter Try.func5, Try.ntmps5
  go_upto_region 1 with fail
  obtain ⟨W0, hW0⟩ : ∃ W0, ((w.alloc (.cells #[.int .i64 ri, .int .i64 ro, .slice X N cx] 30)).alloc (.cells #[.int .u8 a, .int .u8 b, .int .u8 d, .bool p, .slice A es.length c] 24)).alloc (.cells #[.int .i64 z0, .int .i64 z1] 56) = W0 := ⟨_, rfl⟩
  rw [hW0] at s4
  rw [hW0]
  clear hW0
  obtain ⟨q0, q1, q2⟩ := BxM.cells (MK.get s4 2 rfl)
  have hd70 : decide ((70 : Int) < N) = false := decide_eq_false (by omega)
  go_wp2
  clear q0 q1 q2 hd70
  have SF := Lib.hid s4
  clear s4
  go_loopw [7] (fun v wr => ∃ k : Nat, k ≤ N ∧ v = .int .i64 k ∧ Hid (Below W0.heap.size W0 wr)) (fun v _ => N - (intOf v).toNat)
  case atStart => exact ⟨0, by omega, rfl, Below.refl _ _⟩
  case round =>
    obtain ⟨k, hk, rfl, hbr⟩ := hrel
    have sK := MT.next SF.out hbr.out
    obtain ⟨q0, q1, q2⟩ := BxM.cells (MK.get sK 2 rfl)
    by_cases hlt : k < N
    · have hkn : (k : Int) < N := by omega
      obtain ⟨br, ofr, Br, cr, nr, row, rfl, _, hcr, _, _, _, _, hrl, hrk⟩ := (MK.get sK 3 rfl).at_ (k := k) (by rw [HN.out]; exact hlt)
      have hnr : nr ≤ 20 := by rw [← hrl.out]; exact HRW.out row (List.mem_of_getElem? hrk.out)
      have hd20 : decide ((20 : Int) < nr) = false := decide_eq_false (by omega)
      clear sK CM CK CD CP CA CR CT CC CI CO hrl hrk
      go_wp2
      go_roundw
      case rel => exact ⟨k + 1, by omega, by go_num, hbr⟩
      case measure => simp [intOf]; omega
    · have ek : k = N := by omega
      have hkN : ¬ (k : Int) < N := by omega
      clear hbr SF hlt HRW hk
      go_wp2_with fail
      clear q0 q1 q2 hkN ek
      refine (CK _ (MK.get sK 3 rfl) hk6).mono ?_
      rintro e w1 ⟨rfl, hbl⟩
      have s2 := MT.next sK hbl
      clear sK hbl CK
      have hpl : w1.heap[K0 + 1 + 1]? = some (.cells #[.int .i64 z0, .int .i64 z1] 56) := MK.get s2 0 rfl
      have l0 : w1.cell? ⟨K0 + 1 + 1, 0, none⟩ = some (.int .i64 z0) := by rw [cell_of_row _ _ _ _ _ _ hpl]; rfl
      obtain ⟨q0, q1, q2⟩ := BxM.cells (MK.get s2 2 rfl)
      clear hpl
      go_wp2_with fail
      clear l0 q0 q1 q2
      refine (CD _ (MK.get s2 3 rfl) hk6 HRL.out).mono ?_
      rintro e w3 ⟨B1, k1, rfl, hk1, hbl⟩
      have s4 := MT.next s2 hbl
      clear s2 hbl CD
      clear hk1
      have hpl : w3.heap[K0 + 1 + 1]? = some (.cells #[.int .i64 z0, .int .i64 z1] 56) := MK.get s4 0 rfl
      have l0 : w3.cell? ⟨K0 + 1 + 1, 0, none⟩ = some (.int .i64 z0) := by rw [cell_of_row _ _ _ _ _ _ hpl]; rfl
      have l1 : w3.cell? ⟨K0 + 1 + 1, 1, none⟩ = some (.int .i64 z1) := by rw [cell_of_row _ _ _ _ _ _ hpl]; rfl
      obtain ⟨q0, q1, q2⟩ := BxM.cells (MK.get s4 2 rfl)
      clear hpl
      go_wp2_with fail
      clear l0 l1 q0 q1 q2
      refine (CP _ (MK.get s4 3 rfl) hk6 HRL.out).mono ?_
      rintro e w6 ⟨B2, k2, y2, rfl, hk2, hbl⟩
      have s7 := MT.next s4 hbl
      clear s4 hbl CP
      clear hk2
      obtain ⟨q0, q1, q2⟩ := BxM.cells (MK.get s7 2 rfl)
      go_wp2_with fail
      clear q0 q1 q2
      refine (CA _ (MK.get s7 3 rfl) hk6 HRL.out).mono ?_
      rintro e w8 ⟨B3, C3, k3, rfl, hk3, hbl⟩
      have s8 := MT.next s7 hbl
      clear s7 hbl CA
      clear hk3
      obtain ⟨q0, q1, q2⟩ := BxM.cells (MK.get s8 2 rfl)
      go_wp2_with fail
      clear q0 q1 q2
      refine (CR _ (MK.get s8 3 rfl) hk6 HRL.out).mono ?_
      rintro e w9 ⟨B4, k4, rfl, hk4, hbl⟩
      have s9 := MT.next s8 hbl
      clear s8 hbl CR
      clear hk4
      obtain ⟨q0, q1, q2⟩ := BxM.cells (MK.get s9 2 rfl)
      go_wp2_with fail
      clear q0 q1 q2
      refine (CT _ (MK.get s9 3 rfl) hk6 HRL.out).mono ?_
      rintro e w10 ⟨i5, o5, B5, k5, C5, j5, rfl, hk5, hbl⟩
      have s10 := MK.putB (g := w10.heap.size) (MT.alloc (MT.next s9 hbl) (.cells #[.int .i64 i5, .int .i64 o5, .slice B5 k5 k5] 30)) (heap_alloc_new w10 _)
      clear s9 hbl CT hk5
      obtain ⟨q0, q1, q2⟩ := BxM.cells (MK.get s10 3 rfl)
      go_wp2_with fail
      clear q0 q1 q2
      refine (CC _ (MK.get s10 4 rfl) hk6 HRL.out).mono ?_
      rintro e w11 ⟨i6, o6, B6, k6, rfl, hk6', hbl⟩
      have s11 := MK.putB (g := w11.heap.size) (MT.alloc (MT.next s10 hbl) (.cells #[.int .i64 i6, .int .i64 o6, .slice B6 k6 k6] 30)) (heap_alloc_new w11 _)
      clear s10 hbl CC hk6'
      obtain ⟨q0, q1, q2⟩ := BxM.cells (MK.get s11 4 rfl)
      go_wp2_with fail
      clear q0 q1 q2
      refine (CI _ (MK.get s11 5 rfl) hk6 HRL.out).mono ?_
      rintro e w12 ⟨y7, rfl, hk7, hbl⟩
      have s12 := MT.next s11 hbl
      clear s11 hbl CI
      clear hk7
      obtain ⟨g5, hg5⟩ : ∃ g, w10.heap.size = g := ⟨_, rfl⟩
      obtain ⟨g6, hg6⟩ : ∃ g, w11.heap.size = g := ⟨_, rfl⟩
      rw [hg5, hg6] at s12
      rw [hg5, hg6]
      clear hg5 hg6
      have hpm : w12.heap[K0 + 1]? = some (.cells #[.int .u8 a, .int .u8 b, .int .u8 d, .bool p, .slice A es.length c] 24) := MK.get s12 3 rfl
      have p0 : w12.cell? ⟨K0 + 1, 0, none⟩ = some (.int .u8 a) := by rw [cell_of_row _ _ _ _ _ _ hpm]; rfl
      have p1 : w12.cell? ⟨K0 + 1, 1, none⟩ = some (.int .u8 b) := by rw [cell_of_row _ _ _ _ _ _ hpm]; rfl
      have p2 : w12.cell? ⟨K0 + 1, 2, none⟩ = some (.int .u8 d) := by rw [cell_of_row _ _ _ _ _ _ hpm]; rfl
      have p3 : w12.cell? ⟨K0 + 1, 3, none⟩ = some (.bool p) := by rw [cell_of_row _ _ _ _ _ _ hpm]; rfl
      have p4 : w12.cell? ⟨K0 + 1, 4, none⟩ = some (.slice A es.length c) := by rw [cell_of_row _ _ _ _ _ _ hpm]; rfl
      obtain ⟨q0, q1, q2⟩ := BxM.cells (MK.get s12 4 rfl)
      clear hpm
      have HMB1 : ∀ {w' : World} {L : List (World → Prop)} {P0 P1 P2 P3 : World → Prop}, MT w w' (P0 :: P1 :: P2 :: P3 :: (fun w => w.heap[K0 + 1]? = some (.cells #[.int .u8 a, .int .u8 b, .int .u8 d, .bool p, .slice A es.length c] 24)) :: L) → (w'.cell? ⟨K0 + 1, 0, none⟩ = some (.int .u8 a) ∧ w'.cell? ⟨K0 + 1, 1, none⟩ = some (.int .u8 b) ∧ w'.cell? ⟨K0 + 1, 2, none⟩ = some (.int .u8 d) ∧ w'.cell? ⟨K0 + 1, 3, none⟩ = some (.bool p) ∧ w'.cell? ⟨K0 + 1, 4, none⟩ = some (.slice A es.length c)) := fun h => by
        have hpm := MK.get h 4 rfl
        refine ⟨?_, ?_, ?_, ?_, ?_⟩ <;> (rw [cell_of_row _ _ _ _ _ _ hpm]; rfl)
      have sD := MT.next s12 (Below.refl _ _).drew
      have hbD : Below w.heap.size w w12.drew := sD.2.1
      clear s12
      go_upto_region 25 with fail
      go_region_held3 (fun W => W.cell? ⟨K0, 0, none⟩ = some (.int .i64 ri) ∧ W.cell? ⟨K0, 1, none⟩ = some (.int .i64 ro) ∧ W.cell? ⟨K0, 2, none⟩ = some (.slice X N cx) ∧ W.cell? ⟨K0 + 1, 0, none⟩ = some (.int .u8 a) ∧ W.cell? ⟨K0 + 1, 1, none⟩ = some (.int .u8 b) ∧ W.cell? ⟨K0 + 1, 2, none⟩ = some (.int .u8 d) ∧ W.cell? ⟨K0 + 1, 3, none⟩ = some (.bool p) ∧ W.cell? ⟨K0 + 1, 4, none⟩ = some (.slice A es.length c))
        (first | exact ⟨y20, y21, y22, HMB1 t2⟩ | exact ⟨y10, y11, y12, HMB1 t1⟩ | exact ⟨q0, q1, q2, p0, p1, p2, p3, p4⟩ | go_keep)
        (first
          | (go_at_call 14
             (with_reducible refine (CM _ (HR.out.below hbD)).mono ?_)
             rintro e wa1 ⟨R, c1, rfl, hrd, hb1⟩
             have t1 := MK.putR (MT.next sD hb1) hrd
             obtain ⟨y10, y11, y12⟩ := BxM.cells (MK.get t1 5 rfl)
             dsimp only)
          | (go_at_call 25
             (with_reducible refine (CO _ (MK.get t1 6 rfl) hk6 HRL.out R c1 (MK.get t1 0 rfl)).mono ?_)
             rintro e wa2 ⟨B8, k8, y8, rfl, hk8, hb2⟩
             have t2 := MT.next t1 hb2
             obtain ⟨y20, y21, y22⟩ := BxM.cells (MK.get t2 5 rfl)
             dsimp only)
          | fail)
      all_goals
        clear HMB1 hk8 p0 p1 p2 p3 p4 q0 q1 q2
        try clear y10 y11 y12 y20 y21 y22 hrd
        obtain ⟨m0, m1, m2⟩ := BxM.cells (MK.get t2 1 rfl)
        obtain ⟨m3, m4, m5⟩ := BxM.cells (MK.get t2 2 rfl)
        clear CM CO
        go_wp2_with fail
        clear m0 m1 m2 m3 m4 m5
        refine (lives_walk _).mono ?_
        rintro e w16 ⟨rfl, hb16⟩
        have hfin := below_next t2.2.1 hb16
        clear t2
        go_wp2
        go_ret
        exact ⟨rfl, hfin⟩
theorem lawErr_walk (ri ro : Int) (X : Option Addr) (cx : Nat) (rs : List (List Ed)) (a b d : Int) (p : Bool) (A : Option Addr) (c : Nat) (es : List Int) (z0 z1 : Int) (w : World) (hx : RdR w X rs) (hr : Rd16 w A es) (hl : es.length ≤ 9223372036854775807)
    (ha : 0 ≤ a ∧ a ≤ 255) (hb : 0 ≤ b ∧ b ≤ 255) (hd : 0 ≤ d ∧ d ≤ 255) :
    Calls Try.prog 5 #[.agg #[.int .i64 ri, .int .i64 ro, .slice X rs.length cx], .agg #[.int .u8 a, .int .u8 b, .int .u8 d, .bool p, .slice A es.length c], .agg #[.int .i64 z0, .int .i64 z1]] w fun e w' => e = .returned (.bool true) ∧ Below w.heap.size w w' := by
  by_cases g0 : 70 < rs.length
  · exact lawErr_early ri ro X cx rs a b d p A c es z0 z1 w hx (Or.inl g0)
  by_cases g1 : ∃ (j : Nat) (row : List Ed), rs[j]? = some row ∧ 20 < row.length
  · exact lawErr_early ri ro X cx rs a b d p A c es z0 z1 w hx (Or.inr ⟨by omega, g1⟩)
  have h70 : rs.length ≤ 70 := by omega
  have hrw : ∀ row ∈ rs, row.length ≤ 20 := fun row hrow => by
    obtain ⟨j, hj⟩ := List.mem_iff_getElem?.1 hrow
    rcases Nat.lt_or_ge 20 row.length with h | h
    · exact absurd ⟨j, row, hj, h⟩ g1
    · exact h
  by_cases hz : Mc.chk ⟨ri, ro, rs⟩ = 0
  · by_cases h0 : z0 < 0
    · exact lawErr_B ri ro X cx rs a b d p A c es z0 z1 w hx hr hl ha hb hd h70 hrw hz h0
    by_cases h1 : (rs.length : Int) ≤ z0
    · exact lawErr_C ri ro X cx rs a b d p A c es z0 z1 w hx hr hl ha hb hd h70 hrw hz h0 h1
    by_cases h2 : z1 < 0
    · exact lawErr_D ri ro X cx rs a b d p A c es z0 z1 w hx hr hl ha hb hd h70 hrw hz h0 h1 h2
    by_cases h3 : (rs.length : Int) ≤ z1
    · exact lawErr_E ri ro X cx rs a b d p A c es z0 z1 w hx hr hl ha hb hd h70 hrw hz h0 h1 h2 h3
    exact lawErr_F ri ro X cx rs a b d p A c es z0 z1 w hx hr hl ha hb hd h70 hrw hz h0 h1 h2 h3
  · exact lawErr_A ri ro X cx rs a b d p A c es z0 z1 w hx hr hl ha hb hd h70 hrw hz
end Go.Proofs.Ythemaombpddbbaa
