/-
  Contract: equals.CheckRelation. No statement is proved here.
-/
import Derived.Test.YtiamkkgnjobljaaEa9
namespace Go.Proofs.Ytiamkkgnjobljaa
open Go.RowKit
open Mc (Ed Ma Wv)

/-- What CheckRelation hands back. -/
def CrP (w : World) (a b : Ma) (R : List (Int × Int)) (e : Ending) (w' : World) : Prop := Below w.heap.size w w' ∧ ∃ (is : Bool) (z : Int), e = .returned (.tuple #[.bool is, .int .i64 z]) ∧ z = pck a b R ∧ (z ≠ 0 → is = false) ∧ (z = 0 → (is = true ↔ (∀ p ∈ R, kps a b R p.1 p.2) ∧ ((0, 0) : Int × Int) ∈ R))
set_option maxRecDepth 100000 in
set_option maxHeartbeats 4000000 in
theorem checkRel_any (a b : Ma) (A B X : Option Addr) (n c n2 c2 k cX : Nat) (R : List (Int × Int)) (w : World) (hra : RdR w A a.r) (hn : a.r.length = n) (hnb : n ≤ 1000000) (hrl : ∀ row ∈ a.r, row.length ≤ 1000000) (hrb : RdR w B b.r) (hn2 : b.r.length = n2) (hnb2 : n2 ≤ 1000000) (hrl2 : ∀ row ∈ b.r, row.length ≤ 1000000) (hrx : RdP w X R) (hk : R.length = k) (hkb : k ≤ 1000000) :
    Calls Try.prog 23 #[.agg #[.int .i64 a.i, .int .i64 a.o, .slice A n c], .agg #[.int .i64 b.i, .int .i64 b.o, .slice B n2 c2], .slice X k cX] w (CrP w a b R) := by
  obtain ⟨W1, hW1⟩ : ∃ W1, boxM (boxM w a.i a.o A n c) b.i b.o B n2 c2 = W1 := ⟨_, rfl⟩
  have HB : Below w.heap.size w W1 := by rw [← hW1]; exact ((Below.refl _ _).alloc (Nat.le_refl _) _).alloc (by simp) _
  have HMA : BxM W1 w.heap.size a.i a.o A n c := by rw [← hW1]; exact (BxM.new w a.i a.o A n c).mvB ((Below.refl _ _).alloc (Nat.le_refl _) _)
  have HMB : BxM W1 (w.heap.size + 1) b.i b.o B n2 c2 := by rw [← hW1]; exact BxM.newE (by simp [boxM]) b.i b.o B n2 c2
  have HC := Lib.hid (checkPairs_any a b A B X n c n2 c2 k cX R W1 (hra.below HB) hn hnb hrl (hrb.below HB) hn2 hnb2 hrl2 (hrx.below HB) hk hkb)
  have HKE := Lib.hid (fun (va : Mc.Val a) (vb : Mc.Val b) (hi : a.i = b.i) (wr : World) (hbr : Below w.heap.size w wr) (mb N : Nat) (hm : PSet wr mb N R) (s t : Nat) (hs : s < n) (ht : t < n2) => keeps_any a b va vb hi A B n c n2 c2 mb N R s t wr (hra.below hbr) hn (hrb.below hbr) hn2 hm hs ht)
  have HBB := Lib.hid HB
  obtain ⟨x0, x1, x2⟩ := HMA.cells
  obtain ⟨y0, y1, y2⟩ := HMB.cells
  have HK := Lib.hid hk
  have HN := Lib.hid hn
  have HN2 := Lib.hid hn2
  have HM1 := Lib.hid HMA
  have HM2 := Lib.hid HMB
  obtain ⟨Z, hZ⟩ : ∃ Z, pck a b R = Z := ⟨_, rfl⟩
  rw [hZ] at HC
  have HZ : Hid (Z = pck a b R) := hZ.symm
  obtain ⟨ai, hai⟩ : ∃ x, a.i = x := ⟨_, rfl⟩
  obtain ⟨ao, hao⟩ : ∃ x, a.o = x := ⟨_, rfl⟩
  obtain ⟨bi, hbi⟩ : ∃ x, b.i = x := ⟨_, rfl⟩
  obtain ⟨bo, hbo⟩ : ∃ x, b.o = x := ⟨_, rfl⟩
  simp only [hai, hao, hbi, hbo] at HC HKE HM1 HM2 x0 x1 x2 y0 y1 y2 hW1 ⊢
  have HII : Hid (a.i = b.i ↔ ai = bi) := by show _ ↔ _; rw [hai, hbi]
  clear HB HMA HMB hrl hrl2 hn hn2 hk hZ hai hao hbi hbo hra hrb
  have hmm := @run_makeMap Try.prog
  go_enter Try.func23, Try.ntmps23
  go_wp2_with fail
  refine HC.out.mono ?_
  rintro e w1 ⟨rfl, hb1⟩
  have hBW := below_next HBB.out hb1
  have HBW := Lib.hid hBW
  have HA1 := Lib.hid (HM1.out.mvB hb1)
  have HB1 := Lib.hid (HM2.out.mvB hb1)
  have HRX := Lib.hid (hrx.below hBW)
  clear x0 x1 x2 y0 y1 y2 hb1 hBW HC hW1 HM1 HM2 HBB
  by_cases h0 : Z = 0
  · subst h0
    obtain ⟨he, hkl, hin⟩ := pck_ok HZ.out.symm
    obtain ⟨va, vb, hi⟩ := ech_ok he
    rw [HN.out, HN2.out] at hin
    have hkm : k ≤ 4096 := by rw [← HK.out]; exact hkl
    have HIN := Lib.hid hin
    have HVA := Lib.hid va
    have HVB := Lib.hid vb
    have HI := Lib.hid hi
    have hnm : n ≤ 64 := by rw [← HN.out]; exact va.r1
    have hnm2 : n2 ≤ 64 := by rw [← HN2.out]; exact vb.r1
    have HINP : Hid (∀ p ∈ R, InQ p) := fun p hp => by
      have h1 := hin p hp
      unfold inR at h1
      exact ⟨⟨by omega, by omega⟩, by omega, by omega⟩
    clear he hkl hin va vb hi
    have hS0 := PSet.made w1
    have hsz0 : (w1.alloc (.map #[] 0)).heap.size = w1.heap.size + 1 := by simp
    have HS0 := Lib.hid hS0
    have hb0 : Hid (Below w1.heap.size w1 (w1.alloc (.map #[] 0))) := (Below.refl _ _).alloc (Nat.le_refl _) _
    clear hS0
    go_wp2_with fail
    go_loopw [24] (fun z wr => ∃ j : Nat, j ≤ k ∧ z = .int .i64 j ∧ Hid (PSet wr w1.heap.size j (R.take j)) ∧ Hid (Below w1.heap.size w1 wr)) (fun z _ => k - (intOf z).toNat)
    case atStart => exact ⟨0, by omega, rfl, HS0, hb0⟩
    case round =>
      clear HS0 hb0
      obtain ⟨j, hj, rfl, hS, hbr⟩ := hrel
      by_cases hjk : j < k
      · have hjk' : (j : Int) < k := by omega
        obtain ⟨e1, f1, x, y, rfl, he1, hx0, hy0, hqe1⟩ := HRX.out.at_ (k := j) (by rw [HK.out]; exact hjk)
        have z0 := (hbr.out.cell (p := ⟨e1, f1 + j * 2, none⟩) he1).trans hx0
        have z1 := (hbr.out.cell (p := ⟨e1, f1 + j * 2 + 1, none⟩) he1).trans hy0
        have hpi : InQ (x, y) := HINP.out _ (List.mem_of_getElem? hqe1.out)
        have hbA : Below wr.heap.size wr (wr.alloc (.cells #[.int .i64 x, .int .i64 y] 95)) := (Below.refl _ _).alloc (Nat.le_refl _) _
        obtain ⟨wp, hput, hps, hpg⟩ := (hS.out.below hbA).put (by unfold maxLen; omega) hpi
        have hbA2 := below_next hbr.out hbA
        have hbp : Hid (Below w1.heap.size w1 wp) := hbA2.grown hpg hbA2.size (fun q e => by injection e with e; omega)
        have hpS : Hid (PSet wp w1.heap.size (j + 1) (R.take (j + 1))) := by
          show PSet _ _ _ _
          rw [List.take_add_one, hqe1.out]
          exact hps
        clear hbA hbA2 hps hpg hpi hx0 hy0 he1 hbr hS
        go_wp2
        go_roundw
        case rel => exact ⟨j + 1, by omega, by go_num, hpS, hbp⟩
        case measure => simp [intOf]; omega
      · obtain rfl : j = k := by omega
        have hlt : ¬ ((j : Int) < j) := by omega
        have hSR : Hid (PSet wr w1.heap.size j R) := by
          have h1 := hS.out
          rw [← HK.out, List.take_length, HK.out] at h1
          exact h1
        have HBR := Lib.hid hbr.out
        clear hS hbr hlt
        go_wp2_with fail
        go_loopw [33] (fun z wr => ∃ q : Nat, q ≤ j ∧ z = .int .i64 q ∧ Hid (∀ (i : Nat) p, i < q → R[i]? = some p → kps a b R p.1 p.2) ∧ Hid (PSet wr w1.heap.size j R) ∧ Hid (Below w1.heap.size w1 wr)) (fun z _ => j - (intOf z).toNat)
        case atStart => exact ⟨0, by omega, rfl, fun i p h => by omega, hSR, HBR⟩
        case round =>
          clear hSR HBR
          obtain ⟨q, hq, rfl, hall, hS, hbr⟩ := hrel
          by_cases hqj : q < j
          · have hqj' : (q : Int) < j := by omega
            obtain ⟨e1, f1, x, y, rfl, he1, hx0, hy0, hqe1⟩ := HRX.out.at_ (k := q) (by rw [HK.out]; exact hqj)
            have z0 := (hbr.out.cell (p := ⟨e1, f1 + q * 2, none⟩) he1).trans hx0
            have z1 := (hbr.out.cell (p := ⟨e1, f1 + q * 2 + 1, none⟩) he1).trans hy0
            have hpi := HIN.out _ (List.mem_of_getElem? hqe1.out)
            unfold inR at hpi
            obtain ⟨⟨g1, g2⟩, g3, g4⟩ := hpi
            simp only at g1 g2 g3 g4
            obtain ⟨s, rfl⟩ := Int.eq_ofNat_of_zero_le g1
            obtain ⟨t, rfl⟩ := Int.eq_ofNat_of_zero_le g3
            have hbA : Below wr.heap.size wr (wr.alloc (.cells #[.int .i64 s, .int .i64 t] 95)) := (Below.refl _ _).alloc (Nat.le_refl _) _
            have hS2 := hS.out.below hbA
            have hb2 := below_next hbr.out hbA
            have HB2 := Lib.hid hb2
            obtain ⟨_, _, x2⟩ := (HA1.out.mvB hb2).cells
            obtain ⟨x0, x1, _⟩ := (HA1.out.mvB hb2).cells
            obtain ⟨y0, y1, y2⟩ := (HB1.out.mvB hb2).cells
            have HKX := Lib.hid (HKE.out HVA.out HVB.out (HII.out.1 HI.out) _ (below_next HBW.out hb2) _ _ hS2 s t (by omega) (by omega))
            have HS2 := Lib.hid hS2
            clear hbA hb2 hS2 hx0 hy0 he1 hbr hS g1 g2 g3 g4
            go_wp2_with fail
            refine HKX.out.mono ?_
            rintro e w3 ⟨is, rfl, his, hb3⟩
            have HB3 := Lib.hid (below_next HB2.out hb3)
            have HS3 := Lib.hid (HS2.out.below hb3)
            have HIS := Lib.hid his
            clear x0 x1 x2 y0 y1 y2 z0 z1 his hb3 HKX HB2 HS2
            cases is with
            | false =>
              have hno : Hid (¬ ((∀ p ∈ R, kps a b R p.1 p.2) ∧ ((0, 0) : Int × Int) ∈ R)) := fun h => by
                have h1 := HIS.out.2 (h.1 _ (List.mem_of_getElem? hqe1.out))
                cases h1
              have hbF := Lib.hid (below_next HBW.out HB3.out)
              go_wp2
              go_ret2
              exact ⟨hbF.out, false, 0, rfl, HZ.out, fun _ => rfl, fun _ => ⟨(fun h => by cases h), fun h => absurd h hno.out⟩⟩
            | true =>
              have hall2 : Hid (∀ (i : Nat) p, i < q + 1 → R[i]? = some p → kps a b R p.1 p.2) := fun i p h1 h2 => by
                rcases Nat.lt_or_ge i q with h | h
                · exact hall.out i p h h2
                · obtain rfl : i = q := by omega
                  rw [hqe1.out] at h2
                  injection h2 with h2
                  subst h2
                  exact HIS.out.1 rfl
              go_wp2
              go_roundw
              case rel => exact ⟨q + 1, by omega, by go_num, hall2, HS3, HB3⟩
              case measure => simp [intOf]; omega
          · obtain rfl : q = j := by omega
            have hlt : ¬ ((q : Int) < q) := by omega
            have hlook := hS.out.look (x := 0) (y := 0) (by unfold InQ; omega)
            have hyes : Hid (decide (((0, 0) : Int × Int) ∈ R) = true ↔ (∀ p ∈ R, kps a b R p.1 p.2) ∧ ((0, 0) : Int × Int) ∈ R) := by
              show _ ↔ _
              rw [decide_eq_true_iff]
              refine ⟨fun h => ⟨fun p hp => ?_, h⟩, fun h => h.2⟩
              obtain ⟨i, hi, rfl⟩ := List.getElem_of_mem hp
              exact hall.out i _ (by rw [← HK.out]; exact hi) (List.getElem?_eq_getElem hi)
            have hbF := Lib.hid (below_next HBW.out hbr.out)
            obtain ⟨is, his⟩ : ∃ is, decide (((0, 0) : Int × Int) ∈ R) = is := ⟨_, rfl⟩
            rw [his] at hlook hyes
            clear his
            go_wp2
            go_ret2
            exact ⟨hbF.out, is, 0, rfl, HZ.out, fun h => absurd rfl h, fun _ => hyes.out⟩
  · have hzb : (Z == 0) = false := by rw [beq_eq_false_iff_ne]; exact h0
    have H0 := Lib.hid h0
    clear h0
    go_wp2
    go_ret2
    exact ⟨HBW.out, false, Z, rfl, HZ.out, fun _ => rfl, fun h => absurd h H0.out⟩
end Go.Proofs.Ytiamkkgnjobljaa
