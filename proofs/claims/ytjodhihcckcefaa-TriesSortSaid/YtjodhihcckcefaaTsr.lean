/-
  The walk of the law TriesSort. No statement is proved here.
-/
import Derived.Test.YtjodhihcckcefaaTl
import Derived.Test.YtjodhihcckcefaaTf
namespace Go.Proofs.Ytjodhihcckcefaa
open Go.RowKit Go.Maps

theorem cw_zero {rows : List (List Int)} {n : Int} (h : M.cwE rows n = 0) : 1 ≤ n ∧ n ≤ 16 ∧ rows.length ≤ 4096 ∧ ∀ x ∈ rows, M.check x n = 0 := by
  unfold M.cwE at h
  split at h
  · cases h
  · split at h
    · cases h
    · split at h
      · cases h
      · exact ⟨by omega, by omega, by omega, M.ferr_zero.1 h⟩
theorem wl_ck {rows : List (List Int)} {n : Int} (h : ∀ x ∈ rows, M.check x n = 0) : Wl rows := fun x hx => by have := (M.check_zero_u (h x hx)).2.2.1; omega
set_option maxRecDepth 100000 in
set_option maxHeartbeats 4000000 in
theorem tsort_walk (L : Option Addr) (c : Nat) (rows : List (List Int)) (n : Int) (W : World) (h : RdS W L rows) (hm : rows.length ≤ 9223372036854775807) :
    Calls Try.prog 4 #[.slice L rows.length c, .int .i64 n] W fun e W' => e = .returned (.bool true) ∧ Below W.heap.size W W' := by
  obtain ⟨N, hN⟩ : ∃ N, rows.length = N := ⟨_, rfl⟩
  rw [hN] at hm ⊢
  obtain ⟨S, hS, hmem⟩ := asc_of rows
  have CF := Lib.hid (few_any L c N rows W h hN hm)
  have CL := Lib.hid (vloose_any L c N rows n W h hN hm)
  obtain ⟨E, hE⟩ : ∃ E, M.cwE rows n = E := ⟨_, rfl⟩
  rw [hE] at CL
  obtain ⟨R, hR⟩ : ∃ R, gE (M.cwE rows n) S n = R := ⟨_, rfl⟩
  have CS := Lib.hid (fun w' (hb : Below W.heap.size W w') => sort_any L c N rows S n w' (h.below hb) hN hm hS hmem R hR)
  have HH := Lib.hid h
  have HN := Lib.hid hN
  have HS := Lib.hid (And.intro hS hmem)
  have HE := Lib.hid hE
  by_cases hz : E = 0
  · subst hz
    obtain ⟨hn1, hn2, hl, hck⟩ := cw_zero hE
    have HCK := Lib.hid hck
    have hSl := nodup_le_len (M.asc_nodup hS) (fun x hx => (hmem x).1 hx)
    have HLv : Hid (N ≤ 60 → M.Lv S n) := fun h60 => by
      have ht := total_le_mul (l := S) (b := 256) fun x hx => (M.check_zero_u (hck x ((hmem x).1 hx))).2.2.1
      exact ⟨by omega, hn1, hn2, fun x hx => hck x ((hmem x).1 hx), hS, by omega⟩
    have HR : Hid (N ≤ 60 → R = 0) := fun h60 => by rw [← hR]; exact gE_zero hE (HLv.out h60)
    have HSL := Lib.hid hSl
    clear h hN hS hmem hE hR hn1 hn2 hl hck hSl
    go_enter Try.func4, Try.ntmps4
    go_wp2_with fail
    refine CF.out.mono ?_
    rintro e w1 ⟨⟨r, rfl, hr, h60⟩, hw1⟩
    obtain rfl : W = w1 := hw1.symm
    rcases hr with rfl | rfl
    · have hN60 := h60 rfl
      obtain rfl := HR.out hN60
      go_wp2_with fail
      refine CL.out.mono ?_
      rintro e w2 ⟨rfl, hb2⟩
      go_wp2_with fail
      refine (CS.out _ hb2).mono ?_
      rintro e w3 ⟨A, q, rfl, hq, hx, hb3⟩
      rw [okL_ok] at hq hx
      have B3 := Lib.hid (below_next hb2 hb3)
      have HX := Lib.hid hx
      have HQ := Lib.hid hq
      have HRD := Lib.hid (HH.out.below B3.out)
      clear hb2 hb3 hx hq CF CL CS
      go_wp2_with fail
      refine (vsort_any L c N rows w3 HRD.out HN.out (by omega) (wl_ck HCK.out)).mono ?_
      rintro e w4 ⟨v, S2, rfl, hO, ha, hm4, hb4⟩
      obtain rfl : S2 = S := M.asc_uniq ha HS.out.1 fun y => by rw [hm4, HS.out.2]
      obtain ⟨A2, c2, rfl, _, _⟩ := hO.form
      have hO2 := hO.rds
      rw [← HQ.out]
      have HO := Lib.hid hO2
      have HX4 := Lib.hid (HX.out.below hb4)
      have B4 := Lib.hid (below_next B3.out hb4)
      have hq60 : q ≤ 60 := by rw [HQ.out]; have := HSL.out; have := HN.out; omega
      clear hO hO2 ha hm4 hb4
      go_wp2_with fail
      refine (same_yes A A2 q c2 S2 w4 HX4.out HO.out HQ.out.symm (by omega) (wl_ck ((HLv.out hN60).ck))).mono ?_
      rintro e w5 ⟨rfl, hb5⟩
      have HX5 := Lib.hid (HX4.out.below hb5)
      have B5 := Lib.hid (below_next B4.out hb5)
      clear hb5
      go_wp2_with fail
      refine (tcheck_any A q q S2 n w5 HX5.out.rds HQ.out.symm (by omega)).mono ?_
      rintro e w6 ⟨rfl, hb6⟩
      rw [M.chE_zero.2 (HLv.out hN60)]
      have B6 := Lib.hid (below_next B5.out hb6)
      clear hb6
      go_wp2_with fail
      refine (tlives_walk _).mono ?_
      rintro e w7 ⟨rfl, hb7⟩
      have B7 := Lib.hid (below_next B6.out hb7)
      clear hb7
      go_wp2
      go_ret
      exact ⟨rfl, B7.out⟩
    · go_wp2
      go_ret
      exact ⟨rfl, Below.refl _ _⟩
  · have hR2 : R = E := by rw [← hR, gE_err (by rw [hE]; exact hz), hE]
    subst hR2
    have hz1 : (R != 0) = true := by simpa using hz
    have hz2 : (R != R) = false := by simp
    have hz3 : ¬ R = 0 := hz
    clear h hN hS hmem hE hR
    go_enter Try.func4, Try.ntmps4
    go_wp2_with fail
    refine CF.out.mono ?_
    rintro e w1 ⟨⟨r, rfl, hr, h60⟩, hw1⟩
    obtain rfl : W = w1 := hw1.symm
    rcases hr with rfl | rfl
    · go_wp2_with fail
      refine CL.out.mono ?_
      rintro e w2 ⟨rfl, hb2⟩
      go_wp2_with fail
      refine (CS.out _ hb2).mono ?_
      rintro e w3 ⟨A, q, rfl, hq, hx, hb3⟩
      rw [okL_err hz] at hq
      obtain rfl : q = 0 := hq
      have B3 := Lib.hid (below_next hb2 hb3)
      clear hb2 hb3 hx CF CL CS
      go_wp2_with fail
      refine (tlives_walk _).mono ?_
      rintro e w7 ⟨rfl, hb7⟩
      have B7 := Lib.hid (below_next B3.out hb7)
      clear hb7
      go_wp2
      go_ret
      exact ⟨rfl, B7.out⟩
    · go_wp2
      go_ret
      exact ⟨rfl, Below.refl _ _⟩
end Go.Proofs.Ytjodhihcckcefaa
