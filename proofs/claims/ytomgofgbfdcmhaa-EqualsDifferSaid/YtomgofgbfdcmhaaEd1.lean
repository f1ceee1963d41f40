/-
  The walk of EqualsDiffer, given what D.Of hands back. No statement is proved here.
-/
import Derived.Test.YtomgofgbfdcmhaaEd0
import Derived.Deep.RegionHeld3
namespace Go.Proofs.Ytomgofgbfdcmhaa
open Go.RowKit
open Mc (Ed Ma Wv)

theorem Mc.dropLast_getLast {α : Type} : ∀ {l : List α} (h : l ≠ []), l.dropLast ++ [l.getLast h] = l
  | [], h => absurd rfl h
  | [x], _ => rfl
  | x :: y :: l, _ => by
    have := Mc.dropLast_getLast (l := y :: l) (by simp)
    simp only [List.dropLast_cons_cons, List.cons_append, List.getLast_cons_cons]
    rw [this]
set_option maxRecDepth 100000 in
set_option maxHeartbeats 4000000 in
theorem edif_walk (a b d a2 b2 d2 s0 s1 p0 p1 tx ty : Int) (q q2 al : Bool) (A A2 : Option Addr) (EL c EL2 c2 : Nat) (w : World)
    (HD : ∀ w', Below w.heap.size w w' → Calls Try.prog 16 #[.agg #[.int .u8 a, .int .u8 b, .int .u8 d, .bool q, .slice A EL c, .int .u8 a2, .int .u8 b2, .int .u8 d2, .bool q2, .slice A2 EL2 c2, .bool al, .int .u8 s0, .int .u8 s1, .int .u8 p0, .int .u8 p1, .int .i64 tx, .int .i64 ty]] w' (DoP w')) :
    Calls Try.prog 3 #[.agg #[.int .u8 a, .int .u8 b, .int .u8 d, .bool q, .slice A EL c, .int .u8 a2, .int .u8 b2, .int .u8 d2, .bool q2, .slice A2 EL2 c2, .bool al, .int .u8 s0, .int .u8 s1, .int .u8 p0, .int .u8 p1, .int .i64 tx, .int .i64 ty]] w fun e w' => e = .returned (.bool true) ∧ Below w.heap.size w w' := by
  have hb0 : Below w.heap.size w (w.alloc (.cells #[.int .u8 a, .int .u8 b, .int .u8 d, .bool q, .slice A EL c, .int .u8 a2, .int .u8 b2, .int .u8 d2, .bool q2, .slice A2 EL2 c2, .bool al, .int .u8 s0, .int .u8 s1, .int .u8 p0, .int .u8 p1, .int .i64 tx, .int .i64 ty] 29)) := (Below.refl _ _).alloc (Nat.le_refl _) _
  have HDD := Lib.hid (HD _ hb0)
  have HB0 := Lib.hid hb0
  clear hb0 HD
  go_enter Try.func3, Try.ntmps3
  go_wp2_with fail
  refine HDD.out.mono ?_
  rintro e w1 ⟨m, m2, i, ao, bo, X, Y, n, k, n2, k2, rfl, hrx, hry, hn, hn2, va, vb, hi, hi2, ho, ho2, hn6, hn26, hb1⟩
  obtain ⟨g, hg⟩ : ∃ g, w1.heap.size = g := ⟨_, rfl⟩
  obtain ⟨W2, hW2⟩ : ∃ W2, boxM (boxM w1 i ao X n k) i bo Y n2 k2 = W2 := ⟨_, rfl⟩
  have hb2 : Below w1.heap.size w1 W2 := by rw [← hW2]; exact ((Below.refl _ _).alloc (Nat.le_refl _) _).alloc (by simp) _
  have hMA : BxM W2 g i ao X n k := by rw [← hW2]; exact (BxM.newE hg i ao X n k).mvB ((Below.refl _ _).alloc (Nat.le_refl _) _)
  have hMB : BxM W2 (g + 1) i bo Y n2 k2 := by rw [← hW2]; exact BxM.newE (by simp [boxM, hg]) i bo Y n2 k2
  have HRX := Lib.hid (hrx.below hb2)
  have HRY := Lib.hid (hry.below hb2)
  have HB2 := Lib.hid (below_next (below_next HB0.out hb1) hb2)
  have HVA := Lib.hid va
  have HVB := Lib.hid vb
  have hii : Hid (m.i = m2.i) := by show _ = _; rw [hi, hi2]
  have HE : Hid (ech m m2 = 0) := ech_zero va vb hii.out
  have hsum : m.r.length + m2.r.length ≤ 64 := by omega
  have HSUM := Lib.hid hsum
  have HN := Lib.hid hn
  have HN2 := Lib.hid hn2
  have CD : Hid (∀ wr, Below W2.heap.size W2 wr → Calls Try.prog 18 #[.agg #[.int .i64 i, .int .i64 ao, .slice X n k], .agg #[.int .i64 i, .int .i64 bo, .slice Y n2 k2]] wr (DfrQ wr m m2)) := fun wr hb => rdiffer_at m m2 i ao bo X Y n k n2 k2 wr va vb hi hi2 (HRX.out.below hb) hn (HRY.out.below hb) hn2 (by omega)
  have CE : Hid (∀ wr, Below W2.heap.size W2 wr → Calls Try.prog 17 #[.agg #[.int .i64 i, .int .i64 ao, .slice X n k], .agg #[.int .i64 i, .int .i64 bo, .slice Y n2 k2]] wr (DifP wr m m2)) := fun wr hb => by
    have h1 := ediffer_any m m2 X Y n k n2 k2 wr (HRX.out.below hb) hn (by omega) va.rowsE (HRY.out.below hb) hn2 (by omega) vb.rowsE
    rw [hi, hi2, ho, ho2] at h1
    exact h1
  have CF : Hid (∀ wr, Below W2.heap.size W2 wr → Calls Try.prog 17 #[.agg #[.int .i64 i, .int .i64 bo, .slice Y n2 k2], .agg #[.int .i64 i, .int .i64 ao, .slice X n k]] wr (DifP wr m2 m)) := fun wr hb => by
    have h1 := ediffer_any m2 m Y X n2 k2 n k wr (HRY.out.below hb) hn2 (by omega) vb.rowsE (HRX.out.below hb) hn (by omega) va.rowsE
    rw [hi, hi2, ho, ho2] at h1
    exact h1
  have HE2 : Hid (ech m2 m = 0) := ech_zero vb va hii.out.symm
  have CR : Hid (∀ (wr : World) (U : Option Addr) (q q' : Nat) (u : List Int), Below W2.heap.size W2 wr → u.length = q → Rd wr U u → Mc.Wd m u → q ≤ 65536 → Calls Try.prog 21 #[.agg #[.int .i64 i, .int .i64 ao, .slice X n k], .int .i64 0, .slice U q q'] wr fun e w' => ∃ B q9, e = .returned (.slice B q q9) ∧ Rd w' B (Mc.run m 0 u) ∧ Below wr.heap.size wr w') := fun wr U q q' u hb hq hu hwd hl => by
    subst hq
    exact rrun_at m i ao X n k wr 0 U u.length q' u va hi ho hn rfl (HRX.out.below hb) hu (Mc.zero_st va) hwd hl
  have CS : Hid (∀ (wr : World) (U : Option Addr) (q q' : Nat) (u : List Int), Below W2.heap.size W2 wr → u.length = q → Rd wr U u → Mc.Wd m2 u → q ≤ 65536 → Calls Try.prog 21 #[.agg #[.int .i64 i, .int .i64 bo, .slice Y n2 k2], .int .i64 0, .slice U q q'] wr fun e w' => ∃ B q9, e = .returned (.slice B q q9) ∧ Rd w' B (Mc.run m2 0 u) ∧ Below wr.heap.size wr w') := fun wr U q q' u hb hq hu hwd hl => by
    subst hq
    exact rrun_at m2 i bo Y n2 k2 wr 0 U u.length q' u vb hi2 ho2 hn2 rfl (HRY.out.below hb) hu (Mc.zero_st vb) hwd hl
  have HMA := Lib.hid hMA
  have HMB := Lib.hid hMB
  have HW2 := Lib.hid hW2
  clear hb1 hb2 hrx hry hMA hMB hW2 va vb hi hi2 ho ho2 hn hn2 hsum HB0 HDD
  go_upto_region 2 with fail
  try rw [hg]
  change Code.wp _ _ _ _ (boxM (boxM w1 i ao X n k) i bo Y n2 k2)
  rw [HW2.out]
  clear HW2 hg
  obtain ⟨x0, x1, x2⟩ := HMA.out.cells
  obtain ⟨y0, y1, y2⟩ := HMB.out.cells
  go_wp2_with fail
  refine (CE.out _ (Below.refl _ _)).mono ?_
  rintro e w3 ⟨hb3, X1, k3, u, f1, z1, rfl, hr3, hk3, hz3, hc3⟩
  rw [HE.out] at hz3
  subst hz3
  have HR3 := Lib.hid hr3
  have HK3 := Lib.hid hk3
  have HC3 := Lib.hid hc3
  have HB3 := Lib.hid hb3
  clear hr3 hk3 hc3 hb3 x0 x1 x2 y0 y1 y2
  obtain ⟨x0, x1, x2⟩ := (HMA.out.mvB HB3.out).cells
  obtain ⟨y0, y1, y2⟩ := (HMB.out.mvB HB3.out).cells
  go_wp2_with fail
  refine (CF.out _ HB3.out).mono ?_
  rintro e w4 ⟨hb4, X2, k4, u2, f2, z2, rfl, hr4, hk4, hz4, hc4⟩
  rw [HE2.out] at hz4
  subst hz4
  have HR4 := Lib.hid hr4
  have HK4 := Lib.hid hk4
  have HC4 := Lib.hid hc4
  have HR3b := Lib.hid (HR3.out.below hb4)
  have HB4 := Lib.hid (below_next HB3.out hb4)
  clear hr4 hk4 hc4 hb4 x0 x1 x2 y0 y1 y2 HR3
  obtain ⟨x0, x1, x2⟩ := (HMA.out.mvB HB4.out).cells
  obtain ⟨y0, y1, y2⟩ := (HMB.out.mvB HB4.out).cells
  go_wp2_with fail
  refine (CD.out _ HB4.out).mono ?_
  rintro e w5 ⟨X3, k5, d5, th, u3, rfl, hr5, hk5, hb5, hc5⟩
  have HB5 := Lib.hid (below_next HB4.out hb5)
  have HR3 := Lib.hid (HR3b.out.below hb5)
  have HR4b := Lib.hid (HR4.out.below hb5)
  have HR5 := Lib.hid hr5
  have HB25 := Lib.hid (below_next HB2.out HB5.out)
  clear hb5 hr5 HR3b HR4 x0 x1 x2 y0 y1 y2 HB3 HB4 CE CF CD
  -- the three words are one
  have hall : u2 = u ∧ u3 = u ∧ f1 = th ∧ f2 = th ∧ ((th = true ∧ Mc.Ldw m m2 u) ∨ (th = false ∧ u = [])) := by
    rcases hc5 with ⟨h1, h2⟩ | ⟨h1, h2, h3⟩
    · have a1 : f1 = true ∧ Mc.Ldw m m2 u := by
        rcases HC3.out with ⟨a, _, b⟩ | ⟨_, _, b⟩
        · exact ⟨a, b⟩
        · exact absurd (b (by first | trivial | rfl)) h2.not
      have a2 : f2 = true ∧ Mc.Ldw m2 m u2 := by
        rcases HC4.out with ⟨a, _, b⟩ | ⟨_, _, b⟩
        · exact ⟨a, b⟩
        · exact absurd (b (by first | trivial | rfl)).symm h2.not
      exact ⟨(a2.2.comm hii.out.symm).uniq HVA.out.i0 a1.2, h2.uniq HVA.out.i0 a1.2, by rw [a1.1, h1], by rw [a2.1, h1], Or.inl ⟨h1, a1.2⟩⟩
    · have a1 : f1 = false ∧ u = [] := by
        rcases HC3.out with ⟨_, _, b⟩ | ⟨a, b, _⟩
        · exact absurd h3 b.not
        · exact ⟨a, b⟩
      have a2 : f2 = false ∧ u2 = [] := by
        rcases HC4.out with ⟨_, _, b⟩ | ⟨a, b, _⟩
        · exact absurd h3.symm b.not
        · exact ⟨a, b⟩
      exact ⟨by rw [a2.2, a1.2], by rw [h2, a1.2], by rw [a1.1, h1], by rw [a2.1, h1], Or.inr ⟨h1, a1.2⟩⟩
  obtain ⟨rfl, rfl, rfl, rfl, hca⟩ := hall
  obtain rfl : k4 = k3 := HK4.out.symm.trans HK3.out
  obtain rfl : k5 = k4 := hk5.symm.trans HK3.out
  clear hk5 hc5 HC3 HC4 HK4
  have hulen : k5 ≤ 65536 := by
    rcases hca with ⟨_, h⟩ | ⟨_, h⟩
    · have h6 := Mc.ldw_len HVA.out HVB.out hii.out HSUM.out h
      have := HSUM.out
      have := HK3.out
      omega
    · have := HK3.out
      rw [h] at this
      simp at this
      omega
  have CL : Hid (∀ wr (P Q : Option Addr) (d : Nat), Rd wr P u3 → Rd wr Q u3 → Calls Try.prog 19 #[.slice P k5 k5, .int .i64 0, .slice Q k5 d, .int .i64 0] wr fun e w' => e = .returned (.bool true) ∧ Below wr.heap.size wr w') := fun wr P Q d h1 h2 => elist_yes P Q k5 d u3 0 wr h1 h2 HK3.out (by omega)
  go_wp2_with fail
  refine (CL.out _ _ _ _ HR3.out HR5.out).mono ?_
  rintro e w6 ⟨rfl, hb6⟩
  have HR3c := Lib.hid (HR3.out.below hb6)
  have HR4c := Lib.hid (HR4b.out.below hb6)
  have HR5c := Lib.hid (HR5.out.below hb6)
  have HB6 := Lib.hid (below_next HB5.out hb6)
  clear hb6 HR3 HR4b HR5
  go_wp2_with fail
  refine (CL.out _ _ _ _ HR4c.out HR5c.out).mono ?_
  rintro e w7 ⟨rfl, hb7⟩
  have HR7 := Lib.hid (HR3c.out.below hb7)
  have HB7 := Lib.hid (below_next HB6.out hb7)
  have HB27 := Lib.hid (below_next HB2.out HB7.out)
  clear hb7 HR3c HR4c HR5c HB6 HB5 HB25 CL
  rcases hca with ⟨rfl, hl⟩ | ⟨rfl, hl⟩
  case inr =>
    go_upto_region 7 with fail
    go_quiet (fail)
    go_wp2_with fail
    refine (elives_walk _).mono ?_
    rintro e w8 ⟨rfl, hb8⟩
    have hfin := Lib.hid (below_next (below_drewN' HB27.out nq) hb8)
    clear hb8
    go_wp2_with fail
    go_ret
    exact ⟨rfl, hfin.out⟩
  case inl =>
    obtain ⟨v, c, rfl⟩ : ∃ v c, u3 = v ++ [c] := ⟨u3.dropLast, u3.getLast hl.pos, (Mc.dropLast_getLast hl.pos).symm⟩
    obtain ⟨K, hK⟩ : ∃ K, v.length = K := ⟨_, rfl⟩
    have hk1 : k5 = K + 1 := by have := HK3.out; simp at this; omega
    have hlt : k5 < n + n2 := by
      have h6 := Mc.ldw_len HVA.out HVB.out hii.out HSUM.out hl
      have := HK3.out
      rw [HN.out, HN2.out] at h6
      omega
    have hltI : (k5 : Int) < (n : Int) + n2 := by omega
    have hwd : Mc.Wd m (v ++ [c]) := hl.wd
    have HWA := Lib.hid hwd
    have HWB : Hid (Mc.Wd m2 (v ++ [c])) := hwd.of_i hii.out
    have HWC : Hid (Mc.Wd m v) := fun x hx => hwd x (by simp [hx])
    have HWD : Hid (Mc.Wd m2 v) := fun x hx => HWB.out x (by simp [hx])
    have hno : Hid (Go.Proofs.Ytomgofgbfdcmhaa.M.same (Mc.run m 0 (v ++ [c])) (Mc.run m2 0 (v ++ [c])) = false) := by
      show _ = _
      cases h : Go.Proofs.Ytomgofgbfdcmhaa.M.same (Mc.run m 0 (v ++ [c])) (Mc.run m2 0 (v ++ [c])) with
      | false => rfl
      | true => exact absurd ((Mc.same_iff').1 h) hl.ne
    have hyes : Hid (Go.Proofs.Ytomgofgbfdcmhaa.M.same (Mc.run m 0 v) (Mc.run m2 0 v) = true) := Go.Proofs.Ytomgofgbfdcmhaa.M.same_yes (hl.pre HVA.out.i0)
    have HRV : Hid (∀ wr, Rd wr X1 (v ++ [c]) → Rd wr X1 v) := fun wr h hp => by
      obtain ⟨b', o', e1, e2, e3⟩ := h (by simp)
      exact ⟨b', o', e1, e2, fun j hj => by
        have h4 := e3 j (by simp; omega)
        rw [h4]
        rw [List.getElem?_append_left hj]⟩
    have hwr0 : IntKind.i64.wrap ((k5 : Int) - 1) = (K : Int) := by rw [IntWalk.i64_in _ (by omega)]; omega
    have hwrK : IntKind.i64.wrap (K : Int) = (K : Int) := IntWalk.i64_in _ (by omega)
    have hwr1 : IntKind.i64.wrap ((n : Int) + (n2 : Int)) = (n : Int) + n2 := IntWalk.i64_in _ (by have := HSUM.out; have := HN.out; have := HN2.out; omega)
    have hKk : K ≤ k5 := by omega
    have HK := Lib.hid hK
    have HKK := Lib.hid hk1
    have HUL := Lib.hid hulen
    have HK3' : Hid ((v ++ [c]).length = k5) := HK3.out
    clear hk1 hK hlt hl hwd hulen HK3
    have HS : ∀ w' : World, Below W2.heap.size W2 w' → (w'.cell? ⟨g, 0, none⟩ = some (.int .i64 i) ∧ w'.cell? ⟨g, 1, none⟩ = some (.int .i64 ao) ∧ w'.cell? ⟨g, 2, none⟩ = some (.slice X n k) ∧ w'.cell? ⟨g + 1, 0, none⟩ = some (.int .i64 i) ∧ w'.cell? ⟨g + 1, 1, none⟩ = some (.int .i64 bo) ∧ w'.cell? ⟨g + 1, 2, none⟩ = some (.slice Y n2 k2)) := fun w' hb => by
      obtain ⟨a0, a1, a2⟩ := (HMA.out.mvB hb).cells
      obtain ⟨b0, b1, b2⟩ := (HMB.out.mvB hb).cells
      exact ⟨a0, a1, a2, b0, b1, b2⟩
    have CQ : Hid (∀ (wr : World) (P Q : Option Addr) (d d' : Nat), Rd wr P (Mc.run m 0 (v ++ [c])) → Rd wr Q (Mc.run m2 0 (v ++ [c])) → Calls Try.prog 20 #[.slice P k5 d, .slice Q k5 d'] wr fun e w' => e = .returned (.bool false) ∧ Below wr.heap.size wr w') := fun wr P Q d d' h1 h2 => by
      have h := same_at wr P Q k5 d d' _ _ h1 h2 ((Mc.run_len _ _ _).trans HK3'.out) ((Mc.run_len _ _ _).trans HK3'.out) (by have := HUL.out; omega)
      rwa [hno.out] at h
    have CP : Hid (∀ (wr : World) (P Q : Option Addr) (d d' : Nat), Rd wr P (Mc.run m 0 v) → Rd wr Q (Mc.run m2 0 v) → Calls Try.prog 20 #[.slice P K d, .slice Q K d'] wr fun e w' => e = .returned (.bool true) ∧ Below wr.heap.size wr w') := fun wr P Q d d' h1 h2 => by
      have h := same_at wr P Q K d d' _ _ h1 h2 ((Mc.run_len _ _ _).trans HK.out) ((Mc.run_len _ _ _).trans HK.out) (by have := HUL.out; have := HKK.out; omega)
      rwa [hyes.out] at h
    have HKL : Hid (K ≤ 65536) := by show _ ≤ _; have := HUL.out; have := HKK.out; omega
    have s0 := HS _ HB7.out
    have sD := HS w7.drew HB7.out.drew
    obtain ⟨x0, x1, x2, y0, y1, y2⟩ := HS _ HB7.out
    have HBd : Hid (Below W2.heap.size W2 w7.drew) := HB7.out.drew
    have HRd : Hid (Rd w7.drew X1 (v ++ [c])) := HR7.out.below (Below.refl _ _).drew
    go_upto_region 7 with fail
    go_region_held3 (fun w' => w'.cell? ⟨g, 0, none⟩ = some (.int .i64 i) ∧ w'.cell? ⟨g, 1, none⟩ = some (.int .i64 ao) ∧ w'.cell? ⟨g, 2, none⟩ = some (.slice X n k) ∧ w'.cell? ⟨g + 1, 0, none⟩ = some (.int .i64 i) ∧ w'.cell? ⟨g + 1, 1, none⟩ = some (.int .i64 bo) ∧ w'.cell? ⟨g + 1, 2, none⟩ = some (.slice Y n2 k2))
      (first | (with_reducible exact s6) | (with_reducible exact s5) | (with_reducible exact s4) | (with_reducible exact s3) | (with_reducible exact s2) | (with_reducible exact s1) | (with_reducible exact s0) | (with_reducible exact sD) | go_keep)
      (first
        | (go_at_call 21
           (with_reducible refine (CR.out _ _ _ _ (v ++ [c]) HBd.out HK3'.out HRd.out HWA.out HUL.out).mono ?_)
           rintro e a1 ⟨B1, q1, rfl, hr1, hb1⟩
           have t1 := Lib.hid (below_next HBd.out hb1)
           have r1 := Lib.hid hr1
           have v1 := Lib.hid (HRd.out.below hb1)
           have s1 := HS _ t1.out
           dsimp only)
        | (go_at_call 21
           (with_reducible refine (CS.out _ _ _ _ (v ++ [c]) t1.out HK3'.out v1.out HWB.out HUL.out).mono ?_)
           rintro e a2 ⟨B2, q2, rfl, hr2, hb2⟩
           have t2 := Lib.hid (below_next t1.out hb2)
           have r2 := Lib.hid hr2
           have r1b := Lib.hid (r1.out.below hb2)
           have v2 := Lib.hid (v1.out.below hb2)
           have s2 := HS _ t2.out
           dsimp only)
        | (go_at_call 20
           (with_reducible refine (CQ.out _ _ _ _ _ r1b.out r2.out).mono ?_)
           rintro e a3 ⟨rfl, hb3⟩
           have t3 := Lib.hid (below_next t2.out hb3)
           have v3 := Lib.hid (v2.out.below hb3)
           have s3 := HS _ t3.out
           dsimp only)
        | (go_at_call 21
           (with_reducible refine (CR.out _ _ _ _ v t3.out HK.out (HRV.out _ v3.out) HWC.out HKL.out).mono ?_)
           rintro e a4 ⟨B4, q4, rfl, hr4, hb4⟩
           have t4 := Lib.hid (below_next t3.out hb4)
           have r4 := Lib.hid hr4
           have v4 := Lib.hid (v3.out.below hb4)
           have s4 := HS _ t4.out
           dsimp only)
        | (go_at_call 21
           (with_reducible refine (CS.out _ _ _ _ v t4.out HK.out (HRV.out _ v4.out) HWD.out HKL.out).mono ?_)
           rintro e a5 ⟨B5, q5, rfl, hr5, hb5⟩
           have t5 := Lib.hid (below_next t4.out hb5)
           have r5 := Lib.hid hr5
           have r4b := Lib.hid (r4.out.below hb5)
           have s5 := HS _ t5.out
           dsimp only)
        | (go_at_call 20
           (with_reducible refine (CP.out _ _ _ _ _ r4b.out r5.out).mono ?_)
           rintro e a6 ⟨rfl, hb6⟩
           have t6 := Lib.hid (below_next t5.out hb6)
           have s6 := HS _ t6.out
           dsimp only)
        | fail)
    all_goals
      have HBF := Lib.hid (below_next HB2.out t6.out)
      go_wp2_with fail
      refine (elives_walk _).mono ?_
      rintro e w8 ⟨rfl, hb8⟩
      have hfin := Lib.hid (below_next HBF.out hb8)
      clear hb8
      go_wp2_with fail
      go_ret
      exact ⟨rfl, hfin.out⟩
end Go.Proofs.Ytomgofgbfdcmhaa
