/-
  Contracts: the reference: Check, Minus, Reduce. No statement is proved here.
-/
import Derived.Test.YtjodhihcckcefaaV2
import Derived.Test.YtjodhihcckcefaaU10
namespace Go.Proofs.Ytjodhihcckcefaa
open Go.RowKit Go.Maps

set_option maxRecDepth 100000 in
set_option maxHeartbeats 1000000 in
theorem vcheck_any (L : Option Addr) (c N : Nat) (rows : List (List Int)) (n : Int) (w : World) (h : RdS w L rows) (hN : rows.length = N) (hm : N ≤ 9223372036854775807) :
    Calls Try.prog 13 #[.slice L N c, .int .i64 n] w fun e w' => e = .returned (.int .i64 (M.chE rows n)) ∧ Below w.heap.size w w' := by
  have CL := Lib.hid (vloose_any L c N rows n w h hN hm)
  obtain ⟨R, hR⟩ : ∃ R, M.chE rows n = R := ⟨_, rfl⟩
  rw [hR]
  by_cases hz : M.cwE rows n = 0
  · have hby := cw_by hz
    have hall : Wl rows := fun x hx => by have := (hby.2 x hx).2; omega
    unfold M.chE at hR
    rw [if_neg (by omega)] at hR
    rw [hz] at CL
    have CS := Lib.hid (fun w' (hb : Below w.heap.size w w') => vsteps_any L c N rows w' (h.below hb) hN (by omega) hall)
    have HR := Lib.hid hR
    have HN := Lib.hid hN
    have HH := Lib.hid h
    have HA := Lib.hid hby.2
    have hN4 : N ≤ 4096 := by omega
    clear hR hN h hz hby hall
    go_enter Try.func13, Try.ntmps13
    go_wp2_with fail
    refine CL.out.mono ?_
    rintro e w0 ⟨rfl, hb0⟩
    have HB0 := Lib.hid hb0
    clear hb0 CL
    go_wp2
    go_loopw [6] (fun v wr => ∃ j : Nat, (j < N ∨ j = 0) ∧ v = .int .i64 (j + 1) ∧ Hid (M.adj rows (j + 1)) ∧ Hid (Below w.heap.size w wr)) (fun v _ => N - (intOf v).toNat)
    case atStart => exact ⟨0, Or.inr rfl, rfl, fun j hj => by omega, HB0.out⟩
    case round =>
      obtain ⟨j, hj, rfl, ha, hb⟩ := hrel
      by_cases hlt : j + 1 < N
      · have hlti : (j : Int) + 1 < N := by omega
        obtain ⟨b, off, A, ca, m, rfl, hbl, hc, hrd, hml⟩ := (HH.out.below hb.out).at_ (k := j) (by rw [HN.out]; omega)
        obtain ⟨b', off', A', ca', m', hLe, _, hc', hrd', hml'⟩ := (HH.out.below hb.out).at_ (k := j + 1) (by rw [HN.out]; omega)
        injection hLe with hLe
        injection hLe with hL1 hL2 _
        subst hL1 hL2
        have hmb : m ≤ 9223372036854775807 := by
          have := (HA.out _ (M.row_mem (l := rows) (k := j) (by rw [HN.out]; omega))).2
          rw [hml.out] at this
          omega
        have hw1 : IntKind.i64.wrap (j : Int) = j := IntWalk.i64_in _ (by omega)
        have hj1 : (j : Int) < N := by omega
        have hj0 : (0 : Int) ≤ (j : Int) + 1 := by omega
        have hj2 : (0 : Int) ≤ (j : Int) := by omega
        have C1 : Hid (∀ wx, Below wr.heap.size wr wx → Calls Try.prog 48 #[.slice A m ca, .slice A' m' ca'] wx fun e w' => e = .returned (.int .i64 (M.cmp (M.row rows j) (M.row rows (j + 1)))) ∧ Below wx.heap.size wx w') := fun wx hbx => vcmp_at A A' m m' ca ca' _ _ wx (hrd.below hbx) (hrd'.below hbx) hml.out hml'.out hmb
        obtain ⟨q, hq⟩ : ∃ q, M.cmp (M.row rows j) (M.row rows (j + 1)) = q := ⟨_, rfl⟩
        rw [hq] at C1
        have HQ := Lib.hid hq
        have hqr : q = -1 ∨ q = 0 ∨ q = 1 := by rw [← hq]; exact M.cmp_range _ _
        have hc2 : wr.cell? ⟨b, off + (j + 1), none⟩ = some (.slice A' m' ca') := hc'
        have HD : Hid (Below wr.heap.size wr wr.drew) := (Below.refl _ _).drew
        have sD : wr.drew.cell? ⟨b, off + j, none⟩ = some (.slice A m ca) ∧ wr.drew.cell? ⟨b, off + (j + 1), none⟩ = some (.slice A' m' ca') := ⟨hc, hc'⟩
        have s0 : wr.cell? ⟨b, off + j, none⟩ = some (.slice A m ca) ∧ wr.cell? ⟨b, off + (j + 1), none⟩ = some (.slice A' m' ca') := ⟨hc, hc'⟩
        have HS : ∀ wx, Below wr.heap.size wr wx → wx.cell? ⟨b, off + j, none⟩ = some (.slice A m ca) ∧ wx.cell? ⟨b, off + (j + 1), none⟩ = some (.slice A' m' ca') := fun wx hbx => ⟨(hbx.cell (p := ⟨b, off + j, none⟩) hbl).trans hc, (hbx.cell (p := ⟨b, off + (j + 1), none⟩) hbl).trans hc'⟩
        clear hq hc' hrd hrd'
        by_cases hq0 : 0 ≤ q
        · have hq0d : decide (0 ≤ q) = true := decide_eq_true hq0
          have hna : ¬ M.asc rows := fun h9 => by
            have h9 := M.asc_adj.2 h9 j (by rw [HN.out]; exact hlt)
            rw [HQ.out] at h9
            omega
          obtain rfl : R = 1 := by rw [← HR.out, if_pos hna]
          clear hqr hq0 hna
          go_wp2_with fail
          go_region_held3 (fun wx => wx.cell? ⟨b, off + j, none⟩ = some (.slice A m ca) ∧ wx.cell? ⟨b, off + (j + 1), none⟩ = some (.slice A' m' ca'))
            (first | (with_reducible exact s1) | (with_reducible exact s0) | (with_reducible exact sD) | go_keep)
            (first
              | (go_at_call 48
                 (with_reducible refine (C1.out _ HD.out).mono ?_)
                 rintro e z1 ⟨rfl, hz1⟩
                 have t1 := Lib.hid (below_next HD.out hz1)
                 have s1 := HS _ t1.out
                 dsimp only)
              | fail)
          have HF := Lib.hid (below_next hb.out t1.out)
          go_wp2
          go_ret
          exact ⟨rfl, HF.out⟩
        · have hq0d : decide (0 ≤ q) = false := decide_eq_false hq0
          have hN2 : Hid (M.adj rows (j + 1 + 1)) := M.adj_next ha.out (by rw [HQ.out]; omega)
          clear hqr hq0
          go_wp2_with fail
          go_region_held3 (fun wx => wx.cell? ⟨b, off + j, none⟩ = some (.slice A m ca) ∧ wx.cell? ⟨b, off + (j + 1), none⟩ = some (.slice A' m' ca'))
            (first | (with_reducible exact s1) | (with_reducible exact s0) | (with_reducible exact sD) | go_keep)
            (first
              | (go_at_call 48
                 (with_reducible refine (C1.out _ HD.out).mono ?_)
                 rintro e z1 ⟨rfl, hz1⟩
                 have t1 := Lib.hid (below_next HD.out hz1)
                 have s1 := HS _ t1.out
                 dsimp only)
              | fail)
          have HF := Lib.hid (below_next hb.out t1.out)
          clear ha HQ HS s0 sD s1 t1 C1 HD hc hc2
          go_wp2
          go_roundw
          case rel => exact ⟨j + 1, Or.inl hlt, by go_num, hN2, HF⟩
          case measure => simp [intOf]; omega
      · have hlti : ¬ (j : Int) + 1 < N := by omega
        have hasc : M.asc rows := M.asc_adj.1 fun i hi => by
          rw [HN.out] at hi
          exact ha.out i (by omega)
        have hR3 := HR.out
        rw [if_neg (fun h => h hasc)] at hR3
        have CS2 := Lib.hid (CS.out wr hb.out)
        obtain ⟨T, hT⟩ : ∃ T : Nat, M.total rows = T := ⟨_, rfl⟩
        rw [hT] at hR3 CS2
        clear ha hasc hT
        by_cases hbig : 65536 < T
        · have d1 : decide ((65536 : Int) < T) = true := decide_eq_true (by omega)
          have d2 : (65536 : Int) < T := by omega
          rw [if_pos hbig] at hR3
          subst hR3
          go_wp2_with fail
          refine CS2.out.mono ?_
          rintro e w1 ⟨rfl, rfl⟩
          go_wp2
          go_ret
          exact ⟨rfl, hb.out⟩
        · have d1 : decide ((65536 : Int) < T) = false := decide_eq_false (by omega)
          have d2 : ¬ (65536 : Int) < T := by omega
          rw [if_neg hbig] at hR3
          subst hR3
          go_wp2_with fail
          refine CS2.out.mono ?_
          rintro e w1 ⟨rfl, rfl⟩
          go_wp2
          go_ret
          exact ⟨rfl, hb.out⟩
  · have hR2 : R = M.cwE rows n := by rw [← hR]; unfold M.chE; rw [if_pos hz]
    rw [← hR2] at CL hz
    have hz1 : (R != 0) = true := by simpa using hz
    clear hR hR2 hz hN h
    go_enter Try.func13, Try.ntmps13
    go_wp2_with fail
    refine CL.out.mono ?_
    rintro e w1 ⟨rfl, hb1⟩
    go_wp2
    go_ret
    exact ⟨rfl, hb1⟩
/-! ### Minus -/
set_option maxRecDepth 100000 in
set_option maxHeartbeats 1000000 in
theorem vminus_any (L K : Option Addr) (c d N N2 : Nat) (rows rows2 : List (List Int)) (w : World) (h : RdS w L rows) (h2 : RdS w K rows2) (hN : rows.length = N) (hN2 : rows2.length = N2) (hm : N ≤ 1000000) (hm2 : N2 ≤ 1000000) (hall : Wl rows2) :
    Calls Try.prog 34 #[.slice L N c, .slice K N2 d] w fun e w' => ∃ v, e = .returned v ∧ OwL false w' w.heap.size v (rows.filter fun x => !memB rows2 x) ∧ Below w.heap.size w w' := by
  obtain ⟨p, hp⟩ : ∃ p : List Int → Bool, (fun x => !memB rows2 x) = p := ⟨_, rfl⟩
  rw [hp]
  have HP := Lib.hid hp
  have HN := Lib.hid (And.intro hN hN2)
  have HH := Lib.hid (And.intro h h2)
  have HA := Lib.hid hall
  have HFL : Hid (∀ k, ((rows.take k).filter p).length ≤ 1000000) := fun k => by
    have h1 := List.length_filter_le p (rows.take k)
    have h2 : (rows.take k).length ≤ rows.length := by simp; omega
    omega
  clear hp hN hN2 h h2 hall
  go_enter Try.func34, Try.ntmps34
  go_wp2
  go_loopw [5, 6] (fun v z wr => ∃ k : Nat, k ≤ N ∧ z = .int .i64 k ∧ Hid (OwL false wr w.heap.size v ((rows.take k).filter p)) ∧ Hid (Below w.heap.size w wr)) (fun _ z _ => N - (intOf z).toNat)
  case atStart => exact ⟨0, Nat.zero_le _, rfl, OwL.nil_ _ _, Below.refl _ _⟩
  case round =>
    obtain ⟨k, hk, rfl, hO, hb⟩ := hrel
    by_cases hlt : k < N
    · have hkl : k < rows.length := by rw [HN.out.1]; exact hlt
      obtain ⟨b, off, A, cc, m, rfl, hbl, hc0, hrd, hml⟩ := HH.out.1.at_ hkl
      have hc := ((bcell hb.out).1 b (off + k) hbl).trans hc0
      have CH := vhas_any K A d cc N2 m rows2 (M.row rows k) wr (HH.out.2.below hb.out) HN.out.2 hm2 HA.out (hrd.below hb.out) hml.out
      have HT := Lib.hid (take_row hkl)
      obtain ⟨x, hx⟩ : ∃ x, M.row rows k = x := ⟨_, rfl⟩
      rw [hx] at CH HT hrd hml
      have HRD := Lib.hid hrd
      clear hrd hx hc0
      cases hpx : p x with
      | false =>
        have hmb : memB rows2 x = true := by rw [← HP.out] at hpx; simpa using hpx
        rw [hmb] at CH
        have CH := Lib.hid CH
        clear hmb
        go_wp2_with fail
        refine CH.out.mono ?_
        rintro e w1 ⟨rfl, hb1⟩
        have hO2 := hO.out.below hb1
        rw [← filter_snoc_f (l := rows.take k) hpx, ← HT.out] at hO2
        have HO1 := Lib.hid hO2
        have HB := Lib.hid (below_next hb.out hb1)
        clear hO2 hb hb1 hO hc CH
        go_wp2
        go_roundw
        case rel => exact ⟨k + 1, by omega, by go_num, HO1, HB⟩
        case measure => simp [intOf]; omega
      | true =>
        have hmb : memB rows2 x = false := by rw [← HP.out] at hpx; simpa using hpx
        rw [hmb] at CH
        have CH := Lib.hid CH
        clear hmb
        go_wp2_with fail
        refine CH.out.mono ?_
        rintro e w1 ⟨rfl, hb1⟩
        have hO2 := hO.out.below hb1
        have B2 := below_next hb.out hb1
        have hc1 := ((bcell B2).1 b (off + k) hbl).trans (((bcell hb.out).1 b (off + k) hbl).symm.trans hc)
        have hK := RdK.old HRD.out B2 (Nat.le_refl _) B2.size
        clear hb hb1 hO hc CH
        go_wp2_with (first
          | (refine wpList_append_w w1 hO2 (HFL.out k) hK hml.out (fun h => by cases h) B2 B2.size rfl _ _ rfl rfl rfl ?_
             intro v1 w4 hO4 hb4 _)
          | fail)
        rw [← filter_snoc_t (l := rows.take k) hpx, ← HT.out] at hO4
        have HO4 := Lib.hid hO4
        have HB4 := Lib.hid hb4
        clear hO4 hb4 hO2 B2 hc1 hK
        go_roundw
        case rel => exact ⟨k + 1, by omega, by go_num, HO4, HB4⟩
        case measure => simp [intOf]; omega
    · obtain rfl : k = N := by omega
      have hO1 := hO.out
      rw [List.take_of_length_le (by rw [HN.out.1]; omega)] at hO1
      have HO1 := Lib.hid hO1
      clear hO hO1
      go_wp2
      go_ret
      exact ⟨_, rfl, HO1.out, hb.out⟩
end Go.Proofs.Ytjodhihcckcefaa
