/-
  The walk of the law SplitsTable. No statement is proved here.
-/
import Derived.Test.YtonnplhiaidjnaaSr0
import Derived.Test.YtonnplhiaidjnaaSqT
namespace Go.Proofs.Ytonnplhiaidjnaa
open Go.RowKit
open Mc (Ed Ma)

set_option maxRecDepth 100000 in
set_option maxHeartbeats 8000000 in
theorem lawTable_walk (a b d : Int) (p : Bool) (A : Option Addr) (c : Nat) (es : List Int) (w : World) (hr : Rd16 w A es) (hl : es.length ≤ 9223372036854775807) (ha : 0 ≤ a ∧ a ≤ 255) (hb : 0 ≤ b ∧ b ≤ 255) (hd : 0 ≤ d ∧ d ≤ 255) :
    Calls Try.prog 9 #[.agg #[.int .u8 a, .int .u8 b, .int .u8 d, .bool p, .slice A es.length c]] w fun e w' => e = .returned (.bool true) ∧ Below w.heap.size w w' := by
  obtain ⟨n, hn⟩ : ∃ n : Nat, 1 + a % 6 = n := ⟨(1 + a % 6).toNat, by omega⟩
  obtain ⟨i, hi⟩ : ∃ i : Nat, 1 + b % 3 = i := ⟨(1 + b % 3).toNat, by omega⟩
  obtain ⟨o, ho⟩ : ∃ o : Nat, 1 + d % 3 = o := ⟨(1 + d % 3).toNat, by omega⟩
  have hn6 : n ≤ 6 := by omega
  have hn1 : 1 ≤ n := by omega
  have CM := fun w hr => mof_at a b d p A c es n i o w hr hl ha hb hd hn hi ho
  obtain ⟨M, hM⟩ : ∃ M, Mc.mkN p n i o es = M := ⟨_, rfl⟩
  have V := Lib.hid (Mc.mkN_val (p := p) (n := n) (i := i) (o := o) (es := es) (by omega) (by omega) (by omega) (by omega) (by omega) (by omega))
  have hlen : Hid ((Mc.mkN p n i o es).r.length = n) := Mc.mkN_len _ _ _ _ _
  have hmi : Hid ((Mc.mkN p n i o es).i = i) := rfl
  have hmo : Hid ((Mc.mkN p n i o es).o = o) := rfl
  rw [hM] at V hlen hmi hmo
  simp only [hM] at CM
  have HR := Lib.hid hr
  obtain ⟨E2, hE2⟩ : ∃ E, es.length = E := ⟨_, rfl⟩
  simp only [hE2] at CM
  rw [hE2]
  obtain ⟨N, hN⟩ : ∃ N, (Mc.prs n).length = N := ⟨_, rfl⟩
  have CT := fun R c1 w hr => table_ok M i o R n c1 w V.out hmi.out hmo.out hlen.out hr
  have CH := fun R c1 w hr => height_ok M i o R n c1 w V.out hmi.out hmo.out hlen.out hr
  obtain ⟨H0, hH0⟩ : ∃ H, Mc.hgt M = H := ⟨_, rfl⟩
  have HH0 : Hid (Mc.hgtTo M n N = H0) := by show _ = _; rw [← hH0, ← hN, ← hlen.out]; rfl
  rw [hH0] at CH
  rw [hN] at CT
  have HNN := Lib.hid hN
  have hN6 : N ≤ 36 := by
    have h1 := Mc.prs_two n
    rw [hN] at h1
    have := Nat.mul_le_mul hn6 hn6
    omega
  have CR := fun R c1 w s t L b hr hs ht hL hb => rseparate_b M i o R n c1 w s t L b V.out hmi.out hmo.out hlen.out hr hs ht hL hb
  clear hH0 hN
  clear hM ha hb hd hn hi ho hl hr hE2
  obtain ⟨K0, hK0⟩ : ∃ K0, w.heap.size = K0 := ⟨_, rfl⟩
  have s0 : MT w w [] := MT.start
  have s1 := MT.putK (P := fun w => w.heap[K0]? = some (.cells #[.int .u8 a, .int .u8 b, .int .u8 d, .bool p, .slice A E2 c] 24)) (MT.alloc s0 (.cells #[.int .u8 a, .int .u8 b, .int .u8 d, .bool p, .slice A E2 c] 24))
    (by rw [← hK0]; exact heap_alloc_new w _) (fun _ _ h hb => (hb.block _ (heap_lt h)).trans h)
  clear s0
  go_enter Try.func9, Try.ntmps9
  go_upto_region 1 with fail
  obtain ⟨W0, hW0⟩ : ∃ W0, w.alloc (.cells #[.int .u8 a, .int .u8 b, .int .u8 d, .bool p, .slice A E2 c] 24) = W0 := ⟨_, rfl⟩
  rw [hW0] at s1
  try rw [hW0]
  try rw [hK0]
  clear hW0 hK0
  have kM : W0.cell? ⟨K0, 0, none⟩ = some (.int .u8 a) ∧ W0.cell? ⟨K0, 1, none⟩ = some (.int .u8 b) ∧ W0.cell? ⟨K0, 2, none⟩ = some (.int .u8 d) ∧ W0.cell? ⟨K0, 3, none⟩ = some (.bool p) ∧ W0.cell? ⟨K0, 4, none⟩ = some (.slice A E2 c) := by
    have h1 := MK.get s1 0 rfl
    refine ⟨?_, ?_, ?_, ?_, ?_⟩ <;> (rw [cell_of_row _ _ _ _ _ _ h1]; rfl)
  obtain ⟨c0, c1, c2, c3, c4⟩ := kM
  go_wp2_with fail
  clear c0 c1 c2 c3 c4
  refine (CM _ (HR.out.below s1.2.1)).mono ?_
  rintro e w1 ⟨R, c1, rfl, hrd, hbl⟩
  have s3 := MK.putB (g := w1.heap.size) (MT.alloc (MK.putR (MT.next s1 hbl) hrd) (.cells #[.int .i64 i, .int .i64 o, .slice R n c1] 27)) (heap_alloc_new w1 _)
  clear s1 hrd hbl CM HR
  go_upto_region 2 with fail
  obtain ⟨g, hg⟩ : ∃ g, w1.heap.size = g := ⟨_, rfl⟩
  obtain ⟨W2, hW2⟩ : ∃ W, w1.alloc (.cells #[.int .i64 i, .int .i64 o, .slice R n c1] 27) = W := ⟨_, rfl⟩
  rw [hg, hW2] at s3
  try rw [hg]
  try rw [hW2]
  clear hg hW2
  obtain ⟨m0, m1, m2⟩ := BxM.cells (MK.get s3 0 rfl)
  go_wp2_with fail
  clear m0 m1 m2
  refine (CT R c1 _ (MK.get s3 1 rfl)).mono ?_
  rintro e w3 ⟨G, rfl, hPT, hbl⟩
  have s4 := MT.putK (P := fun w => PrT M w G (Mc.prs n)) (MT.next s3 hbl) hPT (fun _ _ h hb => h.below hb)
  clear s3 hPT hbl CT
  obtain ⟨m0, m1, m2⟩ := BxM.cells (MK.get s4 1 rfl)
  go_wp2_with fail
  clear m0 m1 m2
  refine (CH R c1 _ (MK.get s4 2 rfl)).mono ?_
  rintro e w4 ⟨rfl, hbl⟩
  have S5 := Lib.hid (MT.next s4 hbl)
  clear s4 hbl CH
  go_wp2_with fail
  have hz : Hid (Below w4.heap.size w4 w4) := Below.refl _ _
  go_loopw [8, 9, 10] (fun v8 v9 v10 wr => ∃ (s K z : Nat), s ≤ n ∧ v8 = .int .i64 K ∧ v9 = .int .i64 z ∧ v10 = .int .i64 s ∧ Hid (K = Mc.posP n s) ∧ Hid (Mc.hgtTo M n K = z) ∧ Hid (Below w4.heap.size w4 wr)) (fun _ _ v _ => n - (intOf v).toNat)
  case atStart => exact ⟨0, 0, 0, Nat.zero_le _, rfl, rfl, rfl, rfl, rfl, hz⟩
  case round =>
    clear hz
    obtain ⟨s, K, z, hs, rfl, rfl, rfl, hK, hZ, hbr⟩ := hrel
    have sI := MT.next S5.out hbr.out
    obtain ⟨m0, m1, m2⟩ := BxM.cells (MK.get sI 1 rfl)
    by_cases hsn : s < n
    · have hsn' : decide ((s : Int) < n) = true := decide_eq_true (by omega)
      clear sI
      go_wp2_with fail
      clear m0 m1 m2
      go_loopw [8, 9, 11] (fun v8 v9 v11 wr => ∃ (t K z : Nat), s < t ∧ t ≤ n ∧ v8 = .int .i64 K ∧ v9 = .int .i64 z ∧ v11 = .int .i64 t ∧ Hid (K = Mc.posP n s + (t - (s + 1))) ∧ Hid (Mc.hgtTo M n K = z) ∧ Hid (Below w4.heap.size w4 wr)) (fun _ _ v _ => n - (intOf v).toNat)
      case atStart => exact ⟨s + 1, K, z, by omega, by omega, rfl, rfl, by go_num, by show _ = _; rw [hK.out]; omega, hZ, hbr⟩
      case round =>
        clear hK hZ hbr
        obtain ⟨t, K, z, hst, htn, rfl, rfl, rfl, hK, hZ, hbr⟩ := hrel
        have sI := MT.next S5.out hbr.out
        obtain ⟨m0, m1, m2⟩ := BxM.cells (MK.get sI 1 rfl)
        by_cases htl : t < n
        · have htl' : decide ((t : Int) < n) = true := decide_eq_true (by omega)
          go_wp2_with fail
          clear m0 m1 m2
          obtain ⟨L, hL⟩ : ∃ L, Mc.sl M s t = L := ⟨_, rfl⟩
          obtain ⟨bb, hbb⟩ : ∃ b, decide (0 < L) = b := ⟨_, rfl⟩
          obtain ⟨X, hX⟩ : ∃ X, Mc.sepw M s t = X := ⟨_, rfl⟩
          refine (CR R c1 _ s t L bb (MK.get sI 2 rfl) hsn htl hL hbb).mono ?_
          rintro e w5 ⟨B2, q2, rfl, hrd, hbl⟩
          have sJ := MT.next sI hbl
          have hbr5 := Lib.hid (below_next hbr.out hbl)
          have hp : (Mc.prs n)[K]? = some (s, t) := by
            have h := Mc.prs_at (n := n) (s := s) (j := t - (s + 1)) (by omega)
            rw [← hK.out, show s + 1 + (t - (s + 1)) = t by omega] at h
            exact h
          have hKN : K < N := by rw [← HNN.out]; exact (List.getElem?_eq_some_iff.1 hp).1
          have hKne : ((K : Int) == N) = false := by simp; omega
          have hKNI : (K : Int) < N := by omega
          obtain ⟨B1, k0, k1, k2, k3, hrd1⟩ := (show PrT M w5 G (Mc.prs n) from MK.get sJ 0 rfl).at_ hp
          rw [hX] at hrd hrd1
          rw [hL] at k2 k3
          rw [hbb] at k3
          have HXL : Hid (X.length = L) := by show _ = _; rw [← hX, Mc.sepw_len, hL]
          have HK2 : Hid (K + 1 = Mc.posP n s + (t + 1 - (s + 1))) := by show _ = _; rw [hK.out]; omega
          have hLn : L < n := by have := Mc.sl_lt V.out (s := s) (t := t) (by rw [hlen.out]; omega) (by rw [hlen.out]; omega); rw [hlen.out] at this; omega
          have hmx : max (z : Int) (L : Int) = ((max z L : Nat) : Int) := by omega
          have HZ2 : Hid (Mc.hgtTo M n (K + 1) = max z L) := by show _ = _; rw [Mc.hgtTo_step hp, hZ.out]; show max z (Mc.sl M s t) = _; rw [hL]
          have CL := slist_yes (some ⟨B1, 0, none⟩) B2 L q2 X 0 w5 hrd1 hrd HXL.out (by omega)
          clear hp hL hbb hX hrd hrd1 hbl sI sJ hK hZ hbr
          go_wp2_with fail
          refine CL.mono ?_
          rintro e w6 ⟨rfl, hb6⟩
          have hbr6 := Lib.hid (below_next hbr5.out hb6)
          clear CL hb6 hbr5
          go_wp2_with fail
          go_roundw
          case rel => exact ⟨t + 1, K + 1, max z L, by omega, by omega, by go_num, rfl, by go_num, HK2, HZ2, hbr6⟩
          case measure => simp [intOf]; omega
        · obtain rfl : t = n := by omega
          have hK2 : Hid (K = Mc.posP t (s + 1)) := by show _ = _; rw [Mc.posP_next, hK.out]
          clear sI hK
          go_wp2_with fail
          clear m0 m1 m2
          go_roundw
          case rel => exact ⟨s + 1, K, z, by omega, rfl, rfl, by go_num, hK2, hZ, hbr⟩
          case measure => simp [intOf]; omega
    · obtain rfl : s = n := by omega
      have hKN : K = N := by rw [hK.out, ← HNN.out]; rfl
      subst hKN
      have hz0 : z = H0 := by rw [← hZ.out]; exact HH0.out
      subst hz0
      have hbF := Lib.hid sI.2.1
      clear sI hK hZ hbr
      go_wp2_with fail
      clear m0 m1 m2
      refine (slives_walk _).mono ?_
      rintro e w6 ⟨rfl, hb6⟩
      have hbE := Lib.hid (below_next hbF.out hb6)
      clear hb6
      go_wp2_with fail
      go_ret
      exact ⟨rfl, hbE.out⟩
end Go.Proofs.Ytonnplhiaidjnaa
