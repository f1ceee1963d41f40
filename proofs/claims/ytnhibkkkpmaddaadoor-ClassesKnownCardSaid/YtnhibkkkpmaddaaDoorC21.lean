/-
  Contracts: lives, the examples of the chapter.
-/
import Derived.Test.YtnhibkkkpmaddaaDoorC20
namespace Go.Proofs.YtnhibkkkpmaddaaDoor
open Go.RowKit

theorem rdx_at {w : World} {G m : Nat} {row : Nat → List Int} (h : RdX w (some ⟨G, 0, none⟩) m row) {k : Nat} (hk : k < m) {zs : List Int} (e : row k = zs) : ∃ A, G < w.heap.size ∧ w.cell? ⟨G, k, none⟩ = some (.slice A zs.length zs.length) ∧ Rd w A zs := by
  subst e
  obtain ⟨b, e, hl, hc⟩ := h (by omega)
  injection e with e
  injection e with e _
  subst e
  obtain ⟨A, h1, h2⟩ := hc k hk
  exact ⟨A, hl, h1, h2⟩

set_option maxRecDepth 100000 in
set_option maxHeartbeats 4000000 in
theorem lives_any (w : World) (he : Env w) : Calls Tryd.prog 15 #[] w fun e w' => e = .returned (.bool true) ∧ Below w.heap.size w w' := by
  have h0 := St.start w
  go_enter Tryd.func15, Tryd.ntmps15
  go_wp2_with fail
  refine (of_lit _ _ _ [7, 3, 7, 9] [0, 1, 0, 2] _ (rd_snd w [7, 3, 7, 9] _) rfl (by intro z hz; simp at hz; omega) (by decide) (by decide +kernel)).mono ?_
  rintro e w1 ⟨A1, rfl, hr1, hb1⟩
  have hp0 := (rd_fst w [0, 1, 0, 2] (.cells (ints [7, 3, 7, 9]).toArray 3)).below hb1
  have h1 := ((h0.two hb1).put hr1).put hp0
  clear h0 hr1 hb1 hp0
  go_wp2_with fail
  refine (blocks_lit _ _ _ 3 [0, 1, 0, 2] _ (h1.rd 0 rfl) rfl (by decide +kernel) (by decide +kernel)).mono ?_
  rintro e w2 ⟨L, rfl, hX2, hb2⟩
  obtain ⟨G, rfl, _⟩ := hX2 (by decide)
  have h2 := h1.next hb2
  clear h1 hb2
  go_wp2_with fail
  refine (text_lit _ _ _ [0, 1, 0, 2] _ _ (h2.env he) (h2.rd 0 rfl) rfl (by decide +kernel) text_ex).mono ?_
  rintro e w3 ⟨rfl, hb3⟩
  have h3 := h2.next hb3
  have hX3 := hX2.below hb3
  clear h2 hb3 hX2
  go_wp2_with fail
  refine (count_lit _ _ _ 3 [0, 1, 0, 2] _ (h3.rd 0 rfl) rfl (by decide +kernel) (by decide +kernel)).mono ?_
  rintro e w4 ⟨rfl, hb4⟩
  have h4 := h3.next hb4
  have hX4 := hX3.below hb4
  clear h3 hb4 hX3
  go_wp2_with fail
  refine (meet_lit _ _ _ _ _ _ [0, 0, 1, 1] [0, 1, 1, 1] [0, 1, 2, 2] _ (rd_fst w4 [0, 0, 1, 1] _) (rd_snd w4 [0, 1, 1, 1] _) rfl rfl (by decide +kernel) (by decide +kernel)).mono ?_
  rintro e w5 ⟨A5, rfl, hr5, hb5⟩
  have h5 := (h4.two hb5).put hr5
  have hX5 := ((hX4.below ((Below.refl _ _).alloc (Nat.le_refl _) _)).below ((Below.refl _ _).alloc (Nat.le_refl _) _)).below hb5
  clear h4 hb5 hX4 hr5
  go_wp2_with fail
  refine (join_lit _ _ _ _ _ _ [0, 0, 1, 1] [0, 1, 1, 1] [0, 0, 0, 0] _ (rd_fst w5 [0, 0, 1, 1] _) (rd_snd w5 [0, 1, 1, 1] _) rfl rfl (by decide +kernel) (by decide +kernel)).mono ?_
  rintro e w6 ⟨A6, rfl, hr6, hb6⟩
  have h6 := (h5.two hb6).put hr6
  have hX6 := ((hX5.below ((Below.refl _ _).alloc (Nat.le_refl _) _)).below ((Below.refl _ _).alloc (Nat.le_refl _) _)).below hb6
  clear h5 hb6 hX5 hr6
  go_wp2_with fail
  refine (list_yes _ _ _ _ [0, 1, 0, 2] _ _ (h6.rd 3 rfl) (h6.rd 2 rfl) rfl (by decide)).mono ?_
  rintro e w7 ⟨rfl, hb7⟩
  have h7 := h6.next hb7
  have hX7 := hX6.below hb7
  clear h6 hb7 hX6
  go_wp2_with fail
  refine (check_lit _ _ _ [0, 1, 0, 2] 0 _ (h7.rd 2 rfl) rfl (by decide +kernel)).mono ?_
  rintro e w8 ⟨rfl, hb8⟩
  have h8 := h7.next hb8
  have hX8 := hX7.below hb8
  clear h7 hb8 hX7
  go_wp2_with fail
  refine (check_lit _ _ _ [1, 0] 1 _ (rd_lit w8 [1, 0]) rfl (by decide +kernel)).mono ?_
  rintro e w9 ⟨rfl, hb9⟩
  have h9 := h8.one hb9
  have hX9 := (hX8.below ((Below.refl _ _).alloc (Nat.le_refl _) _)).below hb9
  clear h8 hb9 hX8
  go_wp2_with fail
  refine (check_lit _ _ _ [0, 2] 1 _ (rd_lit w9 [0, 2]) rfl (by decide +kernel)).mono ?_
  rintro e w10 ⟨rfl, hb10⟩
  have h10 := h9.one hb10
  have hX10 := (hX9.below ((Below.refl _ _).alloc (Nat.le_refl _) _)).below hb10
  clear h9 hb10 hX9
  obtain ⟨B11, hG11, hcB11, hrB11⟩ := rdx_at hX10 (k := 0) (by decide) (zs := [0, 2]) (by decide +kernel)
  go_wp2_with fail
  refine (list_yes _ _ _ _ [0, 2] _ _ (hrB11.alloc _) (rd_lit w10 [0, 2]) rfl (by decide)).mono ?_
  rintro e w11 ⟨rfl, hb11⟩
  have h11 := h10.one hb11
  have hX11 := (hX10.below ((Below.refl _ _).alloc (Nat.le_refl _) _)).below hb11
  clear h10 hb11 hX10
  clear hG11 hcB11 hrB11
  obtain ⟨B12, hG12, hcB12, hrB12⟩ := rdx_at hX11 (k := 1) (by decide) (zs := [1]) (by decide +kernel)
  go_wp2_with fail
  refine (list_yes _ _ _ _ [1] _ _ (hrB12.alloc _) (rd_lit w11 [1]) rfl (by decide)).mono ?_
  rintro e w12 ⟨rfl, hb12⟩
  have h12 := h11.one hb12
  have hX12 := (hX11.below ((Below.refl _ _).alloc (Nat.le_refl _) _)).below hb12
  clear h11 hb12 hX11
  clear hG12 hcB12 hrB12
  obtain ⟨B13, hG13, hcB13, hrB13⟩ := rdx_at hX12 (k := 2) (by decide) (zs := [3]) (by decide +kernel)
  go_wp2_with fail
  refine (list_yes _ _ _ _ [3] _ _ (hrB13.alloc _) (rd_lit w12 [3]) rfl (by decide)).mono ?_
  rintro e w13 ⟨rfl, hb13⟩
  have h13 := h12.one hb13
  clear h12 hb13
  clear hG13 hcB13 hrB13
  go_wp2_with fail
  refine (list_yes _ _ _ _ [0, 1, 2, 2] _ _ ((h13.rd 1 rfl).alloc _) (rd_lit w13 [0, 1, 2, 2]) rfl (by decide)).mono ?_
  rintro e w14 ⟨rfl, hb14⟩
  have h14 := h13.one hb14
  clear h13 hb14
  go_wp2_with fail
  refine (list_yes _ _ _ _ [0, 0, 0, 0] _ _ ((h14.rd 0 rfl).alloc _) (rd_lit w14 [0, 0, 0, 0]) rfl (by decide)).mono ?_
  rintro e w15 ⟨rfl, hb15⟩
  have h15 := h14.one hb15
  clear h14 hb15
  have E := clE_lit (n := 5) (ps := [(1, 3), (3, 4)]) (by decide) (by decide +kernel)
  go_wp2_with fail
  refine (close_lit _ _ _ (5 : Nat) 0 [(1, 3), (3, 4)] [0, 1, 2, 1, 1] _ (rdp_lit w15 [(1, 3), (3, 4)]) rfl (by decide) E (clV_lit E (by decide +kernel))).mono ?_
  rintro e w16 ⟨A16, rfl, hr16, hb16⟩
  have h16 := (h15.one hb16).put hr16
  clear h15 hb16 hr16
  go_wp2_with fail
  refine (finer_lit _ _ _ _ _ _ [0, 1, 2] [0, 0, 1] true 0 _ (rd_fst w16 [0, 1, 2] _) (rd_snd w16 [0, 0, 1] _) rfl rfl (by decide +kernel) (finV_yes (by decide +kernel) (by decide +kernel))).mono ?_
  rintro e w17 ⟨rfl, hb17⟩
  have h17 := h16.two hb17
  clear h16 hb17
  go_wp2_with fail
  refine (finer_lit _ _ _ _ _ _ [0, 0, 1] [0, 1, 2] false 0 _ (rd_fst w17 [0, 0, 1] _) (rd_snd w17 [0, 1, 2] _) rfl rfl (by decide +kernel) (finV_no (by decide +kernel) (by decide +kernel))).mono ?_
  rintro e w18 ⟨rfl, hb18⟩
  have h18 := h17.two hb18
  clear h17 hb18
  go_wp2_with fail
  refine (finer_lit _ _ _ _ _ _ [0, 1] [0] false 16 _ (rd_fst w18 [0, 1] _) (rd_snd w18 [0] _) rfl rfl (by decide +kernel) (M.finV_err (e := 16) (by decide +kernel) (by decide))).mono ?_
  rintro e w19 ⟨rfl, hb19⟩
  have h19 := h18.two hb19
  clear h18 hb19
  go_wp2_with fail
  refine (parse_lit _ [0, 1, 0] 0 _ (h19.env he) parse_ex1).mono ?_
  rintro e w20 ⟨A20, rfl, hr20, hb20⟩
  have h20 := (h19.next hb20).put hr20
  clear h19 hb20 hr20
  go_wp2_with fail
  refine (parse_lit _ [] 4 _ (h20.env he) parse_ex2).mono ?_
  rintro e w21 ⟨A21, rfl, _, hb21⟩
  have h21 := h20.next hb21
  clear h20 hb21
  go_wp2_with fail
  refine (parse_lit _ [] 4 _ (h21.env he) parse_ex3).mono ?_
  rintro e w22 ⟨A22, rfl, _, hb22⟩
  have h22 := h21.next hb22
  clear h21 hb22
  go_wp2_with fail
  refine (list_yes _ _ _ _ [0, 1, 2, 1, 1] _ _ ((h22.rd 1 rfl).alloc _) (rd_lit w22 [0, 1, 2, 1, 1]) rfl (by decide)).mono ?_
  rintro e w23 ⟨rfl, hb23⟩
  have h23 := h22.one hb23
  clear h22 hb23
  go_wp2_with fail
  refine (list_yes _ _ _ _ [0, 1, 0] _ _ ((h23.rd 0 rfl).alloc _) (rd_lit w23 [0, 1, 0]) rfl (by decide)).mono ?_
  rintro e w24 ⟨rfl, hb24⟩
  have h24 := h23.one hb24
  clear h23 hb24
  go_wp2
  go_ret
  exact ⟨rfl, h24.1⟩
end Go.Proofs.YtnhibkkkpmaddaaDoor
