/-
  The walk of the law MachinesSplit. No statement is proved here.
-/
import Derived.Test.YtiohfflkolopeaaMc12
import Derived.Test.YtiohfflkolopeaaMs0
namespace Go.Proofs.Ytiohfflkolopeaa
open Go.RowKit
open Mc (Ed Ma)

set_option maxRecDepth 100000 in
set_option maxHeartbeats 1000000 in
theorem lawSplit_walk {E : World → Prop} (P : Pm E) (a b d : Int) (p : Bool) (A B1 B2 : Option Addr) (c k1 k2 : Nat) (es ws1 ws2 : List Int) (fr : Int) (w : World) (he : E w) (hr : Rd16 w A es) (hw1 : Rd8 w B1 ws1) (hw2 : Rd8 w B2 ws2) (hl : es.length ≤ 9223372036854775807) (hl1 : ws1.length ≤ 9223372036854775807) (hl2 : ws2.length ≤ 9223372036854775807)
    (ha : 0 ≤ a ∧ a ≤ 255) (hb : 0 ≤ b ∧ b ≤ 255) (hd : 0 ≤ d ∧ d ≤ 255) (hf : 0 ≤ fr ∧ fr ≤ 255) :
    Calls Try.prog 6 #[.agg #[.int .u8 a, .int .u8 b, .int .u8 d, .bool p, .slice A es.length c], .agg #[.slice B1 ws1.length k1, .slice B2 ws2.length k2], .int .u8 fr] w fun e w' => e = .returned (.bool true) ∧ Below w.heap.size w w' := by
  obtain ⟨n, hn⟩ : ∃ n : Nat, 1 + a % 6 = n := ⟨(1 + a % 6).toNat, by omega⟩
  obtain ⟨i, hi⟩ : ∃ i : Nat, 1 + b % 3 = i := ⟨(1 + b % 3).toNat, by omega⟩
  obtain ⟨o, ho⟩ : ∃ o : Nat, 1 + d % 3 = o := ⟨(1 + d % 3).toNat, by omega⟩
  have CM := fun w hr => mof_at a b d p A c es n i o w hr hl ha hb hd hn hi ho
  have CW1 := fun w hw => wof_at B1 k1 ws1 i w hw (by omega) (by omega) hl1
  have CW2 := fun w hw => wof_at B2 k2 ws2 i w hw (by omega) (by omega) hl2
  have V := Lib.hid (Mc.mkN_val (p := p) (n := n) (i := i) (o := o) (es := es) (by omega) (by omega) (by omega) (by omega) (by omega) (by omega))
  have hlen : Hid ((Mc.mkN p n i o es).r.length = n) := Mc.mkN_len _ _ _ _ _
  have hwd1 := Lib.hid (Mc.sym_wd (m := Mc.mkN p n i o es) (i := i) (zs := ws1) rfl (by omega))
  have hwd2 := Lib.hid (Mc.sym_wd (m := Mc.mkN p n i o es) (i := i) (zs := ws2) rfl (by omega))
  have s0 := MK.start he
  have HR := Lib.hid hr
  have HW1 := Lib.hid hw1
  have HW2 := Lib.hid hw2
  clear he hr hw1 hw2
  go_enter Try.func6, Try.ntmps6
  have s1 := ((s0.alloc P (.cells #[.int .u8 a, .int .u8 b, .int .u8 d, .bool p, .slice A es.length c] 57)).alloc P (.cells #[.slice B1 ws1.length k1, .slice B2 ws2.length k2] 66)).putO (g := w.heap.size + 1)
    (by
      have h := heap_alloc_new (w.alloc (.cells #[.int .u8 a, .int .u8 b, .int .u8 d, .bool p, .slice A es.length c] 57)) (.cells #[.slice B1 ws1.length k1, .slice B2 ws2.length k2] 66)
      rw [show (w.alloc (.cells #[.int .u8 a, .int .u8 b, .int .u8 d, .bool p, .slice A es.length c] 57)).heap.size = w.heap.size + 1 by simp] at h
      exact h)
  clear s0
  go_wp2_with fail
  refine (CM _ (HR.out.below s1.2.1)).mono ?_
  rintro e w1 ⟨R, c1, rfl, hrd, hbl⟩
  have s2 := (((s1.next P hbl).putR hrd).alloc P (.cells #[.int .i64 i, .int .i64 o, .slice R n c1] 24)).putB (g := w1.heap.size) (heap_alloc_new w1 _)
  clear s1 hrd hbl
  obtain ⟨W2, hW2⟩ : ∃ W2, w1.alloc (.cells #[.int .i64 i, .int .i64 o, .slice R n c1] 24) = W2 := ⟨_, rfl⟩
  rw [hW2] at s2
  have hob : ∀ {w' : World}, w'.heap[w.heap.size + 1]? = some (.cells #[.slice B1 ws1.length k1, .slice B2 ws2.length k2] 66) → w'.cell? ⟨w.heap.size + 1, 0, none⟩ = some (.slice B1 ws1.length k1) ∧ w'.cell? ⟨w.heap.size + 1, 1, none⟩ = some (.slice B2 ws2.length k2) := fun h => by
    constructor <;> (rw [cell_of_row _ _ _ _ _ _ h]; rfl)
  have OB := @hob
  clear hob
  obtain ⟨g0, g1⟩ := OB (s2.get 2 rfl)
  obtain ⟨m0, m1, m2⟩ := BxM.cells (s2.get 0 rfl)
  have sD := s2.next P (Below.refl _ _).drew
  have bD := HW1.out.below sD.2.1
  go_upto_region 2 with fail
  go_region_held3 (fun w' => w'.cell? ⟨w.heap.size + 1, 0, none⟩ = some (.slice B1 ws1.length k1) ∧ w'.cell? ⟨w.heap.size + 1, 1, none⟩ = some (.slice B2 ws2.length k2) ∧ w'.cell? ⟨w1.heap.size, 0, none⟩ = some (.int .i64 i)) (first | exact ⟨r0, r1, r2⟩ | exact ⟨n0, n1, n2⟩ | exact ⟨g0, g1, m0⟩ | go_keep)
    (first
      | (go_at_call 32
         (with_reducible refine (CW1 _ bD).mono ?_)
         rintro e w3 ⟨B3, k3, q3, rfl, hk3, hk312, hkq3, hrd3, hbl3⟩
         have sU := (sD.next P hbl3).putL hrd3
         have bU := HW2.out.below sU.2.1
         obtain ⟨n0, n1⟩ := OB (sU.get 3 rfl)
         obtain ⟨n2, _, _⟩ := BxM.cells (sU.get 1 rfl)
         dsimp only)
      | (go_at_call 32
         (with_reducible refine (CW2 _ bU).mono ?_)
         rintro e w4 ⟨B4, k4, q4, rfl, hk4, hk412, hkq4, hrd4, hbl4⟩
         have sV := (sU.next P hbl4).putL hrd4
         obtain ⟨r0, r1⟩ := OB (sV.get 4 rfl)
         obtain ⟨r2, _, _⟩ := BxM.cells (sV.get 2 rfl)
         dsimp only))
  clear sU sD bD bU n0 n1 n2 r0 r1 r2 g0 g1 m0 m1 m2 s2
  obtain ⟨b0, b1, b2⟩ := BxM.cells (sV.get 2 rfl)
  have hn0 : ((n : Int) == 0) = false := by rw [beq_eq_false_iff_ne]; omega
  have hn0a : ¬ n = 0 := by omega
  obtain ⟨f1, f2⟩ := hf
  obtain ⟨s, hs, hsn⟩ : ∃ s : Nat, fr % (n : Int) = s ∧ s < n := ⟨(fr % (n : Int)).toNat, by have := Int.emod_nonneg fr (show (n : Int) ≠ 0 by omega); omega, by have := Int.emod_lt_of_pos fr (show (0 : Int) < n by omega); have := Int.emod_nonneg fr (show (n : Int) ≠ 0 by omega); omega⟩
  have hss : 0 ≤ (s : Int) ∧ (s : Int) < n := by omega
  have hkj : Hid ((M.sym i ws1 ++ M.sym i ws2).length = k3 + k4) := by show _ = _; rw [List.length_append, hk3.out, hk4.out]
  go_wp2_with fail
  clear b0 b1 b2
  have sEa := sV.next P (Below.refl _ _).drew
  have cja := rjoin_at B3 B4 k3 q3 k4 q4 _ _ _ (sEa.get 1 rfl) (sEa.get 0 rfl) hk3.out hk4.out (by omega)
  obtain ⟨m0, m1, m2⟩ := BxM.cells (sV.get 2 rfl)
  go_region_held3 (fun w' => w'.cell? ⟨w1.heap.size, 0, none⟩ = some (.int .i64 i) ∧ w'.cell? ⟨w1.heap.size, 1, none⟩ = some (.int .i64 o) ∧ w'.cell? ⟨w1.heap.size, 2, none⟩ = some (.slice R n c1)) (first | exact ⟨y0, y1, y2⟩ | exact ⟨x0, x1, x2⟩ | exact ⟨m0, m1, m2⟩ | go_keep)
    (first
      | (go_at_call 33
         (with_reducible refine cja.mono ?_)
         rintro e wja ⟨Bja, qja, rfl, hrdja, hblja⟩
         have sFa := (sEa.next P hblja).putL hrdja
         have cra := prun_ok P _ V.out i o s R n c1 rfl rfl hlen.out hss (M.sym i ws1 ++ M.sym i ws2) (hwd1.out.app hwd2.out) Bja (k3 + k4) qja hkj.out (by omega) wja sFa.1 (sFa.get 4 rfl) (sFa.get 0 rfl)
         obtain ⟨x0, x1, x2⟩ := BxM.cells (sFa.get 3 rfl)
         dsimp only)
      | (go_at_call 22
         (with_reducible refine cra.mono ?_)
         rintro e wka ⟨B6, rfl, hrd6, hbl6⟩
         have sGa := (sFa.next P hbl6).putL hrd6
         obtain ⟨y0, y1, y2⟩ := BxM.cells (sGa.get 4 rfl)
         dsimp only))
  clear m0 m1 m2 x0 x1 x2 y0 y1 y2 cja cra sEa sFa
  obtain ⟨t, ht⟩ : ∃ t, Mc.aft (Mc.mkN p n i o es) s (M.sym i ws1) = t := ⟨_, rfl⟩
  obtain ⟨z, hz⟩ : ∃ z, Mc.aft (Mc.mkN p n i o es) s (M.sym i ws1 ++ M.sym i ws2) = z := ⟨_, rfl⟩
  have hzz := Lib.hid hz
  have hzt : Hid (Mc.aft (Mc.mkN p n i o es) t (M.sym i ws2) = z) := by show _ = _; rw [← hz, Mc.aft_app, ht]
  have hall : Hid (Mc.run (Mc.mkN p n i o es) s (M.sym i ws1 ++ M.sym i ws2) = Mc.run (Mc.mkN p n i o es) s (M.sym i ws1) ++ Mc.run (Mc.mkN p n i o es) t (M.sym i ws2)) := by show _ = _; rw [Mc.run_app, ht]
  have htS : Hid (Mc.St (Mc.mkN p n i o es) t) := by show _; rw [← ht]; exact Mc.aft_st V.out _ _ (Or.inr (by rw [hlen.out]; exact hss)) hwd1.out
  have htt := Lib.hid ht
  clear ht hz
  obtain ⟨b0, b1, b2⟩ := BxM.cells (sGa.get 4 rfl)
  go_wp2_with fail
  clear b0 b1 b2
  refine (prun_ok P _ V.out i o s R n c1 rfl rfl hlen.out hss (M.sym i ws1) hwd1.out B3 k3 q3 hk3.out (by omega) _ sGa.1 (sGa.get 5 rfl) (sGa.get 3 rfl)).mono ?_
  rintro e w7 ⟨B7, rfl, hrd7, hbl7⟩
  have s7 := (sGa.next P hbl7).putL hrd7
  clear sGa hrd7 hbl7
  obtain ⟨b0, b1, b2⟩ := BxM.cells (s7.get 5 rfl)
  go_wp2_with fail
  clear b0 b1 b2
  have ca := pafter_ok P _ V.out i o s R n c1 rfl rfl hlen.out hss (M.sym i ws1) hwd1.out B3 k3 q3 hk3.out (by omega) _ s7.1 (s7.get 6 rfl) (s7.get 4 rfl)
  rw [htt.out] at ca
  refine ca.mono ?_
  rintro e w8 ⟨rfl, hbl8⟩
  have s8 := s7.next P hbl8
  clear s7 hbl8 ca
  obtain ⟨b0, b1, b2⟩ := BxM.cells (s8.get 5 rfl)
  go_wp2_with fail
  clear b0 b1 b2
  have sEb := s8.next P (Below.refl _ _).drew
  have cjb := rjoin_at B3 B4 k3 q3 k4 q4 _ _ _ (sEb.get 4 rfl) (sEb.get 3 rfl) hk3.out hk4.out (by omega)
  obtain ⟨m0, m1, m2⟩ := BxM.cells (s8.get 5 rfl)
  go_region_held3 (fun w' => w'.cell? ⟨w1.heap.size, 0, none⟩ = some (.int .i64 i) ∧ w'.cell? ⟨w1.heap.size, 1, none⟩ = some (.int .i64 o) ∧ w'.cell? ⟨w1.heap.size, 2, none⟩ = some (.slice R n c1)) (first | exact ⟨y0, y1, y2⟩ | exact ⟨x0, x1, x2⟩ | exact ⟨m0, m1, m2⟩ | go_keep)
    (first
      | (go_at_call 33
         (with_reducible refine cjb.mono ?_)
         rintro e wjb ⟨Bjb, qjb, rfl, hrdjb, hbljb⟩
         have sFb := (sEb.next P hbljb).putL hrdjb
         have crb := pafter_ok P _ V.out i o s R n c1 rfl rfl hlen.out hss (M.sym i ws1 ++ M.sym i ws2) (hwd1.out.app hwd2.out) Bjb (k3 + k4) qjb hkj.out (by omega) wjb sFb.1 (sFb.get 7 rfl) (sFb.get 0 rfl)
         rw [hzz.out] at crb
         obtain ⟨x0, x1, x2⟩ := BxM.cells (sFb.get 6 rfl)
         dsimp only)
      | (go_at_call 23
         (with_reducible refine crb.mono ?_)
         rintro e wkb ⟨rfl, hbl9⟩
         have sGb := sFb.next P hbl9
         obtain ⟨y0, y1, y2⟩ := BxM.cells (sGb.get 6 rfl)
         dsimp only))
  clear m0 m1 m2 x0 x1 x2 y0 y1 y2 cjb crb sEb sFb
  go_wp2_with fail
  have hA6 := Lib.hid (show Rd wkb B6 (Mc.run (Mc.mkN p n i o es) s (M.sym i ws1) ++ Mc.run (Mc.mkN p n i o es) t (M.sym i ws2)) from hall.out ▸ (show Rd wkb B6 (Mc.run (Mc.mkN p n i o es) s (M.sym i ws1 ++ M.sym i ws2)) from sGb.get 2 rfl))
  have hl3 : Hid ((Mc.run (Mc.mkN p n i o es) s (M.sym i ws1)).length = k3) := by show _ = _; rw [Mc.run_len]; exact hk3.out
  have hl4 : Hid ((Mc.run (Mc.mkN p n i o es) t (M.sym i ws2)).length = k4) := by show _ = _; rw [Mc.run_len]; exact hk4.out
  refine (same_yes B6 B7 k3 (k3 + k4) k3 (Mc.run (Mc.mkN p n i o es) s (M.sym i ws1)) _ hA6.out.pre (sGb.get 1 rfl) hl3.out (by omega)).mono ?_
  rintro e w10 ⟨rfl, hbl10⟩
  have s10 := sGb.next P hbl10
  have hA10 := Lib.hid (hA6.out.below hbl10)
  clear sGb hbl10 hA6 s8
  rcases htS.out with rfl | ⟨ht0, htn⟩
  · have hz1 : z = -1 := by rw [← hzt.out]; exact Mc.aft_none _ _ _ rfl
    subst hz1
    have hnone := Lib.hid (Mc.run_none (Mc.mkN p n i o es) (M.sym i ws2) (-1) (by omega))
    go_wp2_with fail
    go_loopw [19] (fun v wr => ∃ q : Nat, k3 ≤ q ∧ q ≤ k3 + k4 ∧ v = .int .i64 q ∧ Below w10.heap.size w10 wr) (fun v _ => k3 + k4 - (intOf v).toNat)
    case atStart => exact ⟨k3, Nat.le_refl _, by omega, rfl, Below.refl _ _⟩
    case round =>
      obtain ⟨q, hq1, hq2, rfl, hbq⟩ := hrel
      have s11 := s10.next P hbq
      have hA11 := hA10.out.below hbq
      clear s10
      by_cases hql : q < k3 + k4
      · obtain ⟨b2, off2, y2, rfl, hb2, hc2, hy2⟩ := hA11.at_ (k := q) (by rw [List.length_append, hl3.out, hl4.out]; omega)
        have hy : y2 = -1 := by
          rw [← hy2.out, hnone.out, List.getElem?_append_right (by rw [hl3.out]; omega), List.getElem?_map]
          cases h : (M.sym i ws2)[q - (Mc.run (Mc.mkN p n i o es) s (M.sym i ws1)).length]? with
          | none =>
            rw [List.getElem?_eq_none_iff, hl3.out] at h
            have := hk4.out
            omega
          | some c => rfl
        subst hy
        go_wp2
        go_roundw
        case rel => exact ⟨q + 1, by omega, by omega, by go_num, hbq⟩
        case measure => simp [intOf]; omega
      · have hqe : q = k3 + k4 := by omega
        subst hqe
        go_wp2_with fail
        refine (lives_walk P _ s11.1).mono ?_
        rintro e wl ⟨rfl, hbl⟩
        have s12 := s11.next P hbl
        go_wp2
        go_ret
        exact ⟨rfl, s12.2.1⟩
  · have htb : (t == -1) = false := by rw [beq_eq_false_iff_ne]; omega
    obtain ⟨b0, b1, b2⟩ := BxM.cells (s10.get 6 rfl)
    go_wp2_with fail
    clear b0 b1 b2
    refine (prun_ok P _ V.out i o t R n c1 rfl rfl hlen.out ⟨ht0, by rw [← hlen.out]; exact htn⟩ (M.sym i ws2) hwd2.out B4 k4 q4 hk4.out (by omega) _ s10.1 (s10.get 7 rfl) (s10.get 4 rfl)).mono ?_
    rintro e w11 ⟨B8, rfl, hrd8, hbl11⟩
    have s11 := (s10.next P hbl11).putL hrd8
    have hA11 := Lib.hid (hA10.out.below hbl11)
    clear s10 hrd8 hbl11 hA10
    obtain ⟨b0, b1, b2⟩ := BxM.cells (s11.get 7 rfl)
    go_wp2_with fail
    clear b0 b1 b2
    have ca := pafter_ok P _ V.out i o t R n c1 rfl rfl hlen.out ⟨ht0, by rw [← hlen.out]; exact htn⟩ (M.sym i ws2) hwd2.out B4 k4 q4 hk4.out (by omega) _ s11.1 (s11.get 8 rfl) (s11.get 5 rfl)
    rw [hzt.out] at ca
    refine ca.mono ?_
    rintro e w12 ⟨rfl, hbl12⟩
    have s12 := s11.next P hbl12
    have hA12 := Lib.hid (hA11.out.below hbl12)
    clear s11 hbl12 ca hA11
    have hzb : (z == z) = true := beq_self_eq_true z
    have hS := hA12.out.sufO
    rw [hl3.out] at hS
    have HS12 := Lib.hid hS
    have h8 := Lib.hid (show Rd w12 B8 (Mc.run (Mc.mkN p n i o es) t (M.sym i ws2)) from s12.get 0 rfl)
    have h9 : Hid (k4 ≤ 9223372036854775807) := by show _ ≤ _; omega
    have h10 : Hid (k4 = 0 → Rd w12 B6 (Mc.run (Mc.mkN p n i o es) t (M.sym i ws2))) := fun h => Rd.none_ (by rw [hl4.out, h])
    clear hS hA12
    go_wp2_with fail
    all_goals
      first
        | (with_reducible refine (same_yes (Option.map (fun x => x.add k3) B6) B8 k4 k4 k4 (Mc.run (Mc.mkN p n i o es) t (M.sym i ws2)) _ HS12.out h8.out hl4.out h9.out).mono ?_)
        | (have h0 : k4 = 0 := by omega
           have h11 := hl4.out.trans h0
           have h12 := h10.out h0
           with_reducible refine (same_yes B6 B8 0 0 0 (Mc.run (Mc.mkN p n i o es) t (M.sym i ws2)) _ h12 h8.out h11 (Nat.zero_le _)).mono ?_)
      rintro e w13 ⟨rfl, hbl13⟩
      have s13 := s12.next P hbl13
      clear s12 hbl13
      go_wp2_with fail
      refine (lives_walk P _ s13.1).mono ?_
      rintro e wl ⟨rfl, hbl⟩
      have s14 := s13.next P hbl
      go_wp2
      go_ret
      exact ⟨rfl, s14.2.1⟩
end Go.Proofs.Ytiohfflkolopeaa
