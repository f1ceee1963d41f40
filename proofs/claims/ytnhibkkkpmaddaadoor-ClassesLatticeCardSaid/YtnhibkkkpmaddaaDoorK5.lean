/-
  The walk of the law ClassesLattice.
-/
import Derived.Test.YtnhibkkkpmaddaaDoorK4
namespace Go.Proofs.YtnhibkkkpmaddaaDoor
open Go.RowKit

theorem same_lit (A B : Option Addr) (n c d : Nat) (x y : List Int) (b : Bool) (w : World) (hx : Rd w A x) (hy : Rd w B y) (hn : x.length = n) (hm : y.length = n) (hl : n ≤ 1000000) (hb : M.same x y = b) :
    Calls Tryd.prog 30 #[.slice A n c, .slice B n d] w fun e w' => e = .returned (.bool b) ∧ Below w.heap.size w w' := by
  subst hn hb
  have C := same_any A B c d x y w hx hy (by omega)
  rwa [hm] at C
theorem same_fin {P Q : List Int} (h : M.Two P Q) : M.same (M.meet P Q) P = M.finV P Q := by
  rw [M.finV_ok h.both]
  by_cases hf : M.fin P Q
  · rw [M.finB_yes hf, M.same_yes ((M.fin_meet h).1 hf)]
  · rw [M.finB_no hf, M.same_no fun e => hf ((M.fin_meet h).2 e)]
theorem same_fin2 {P Q : List Int} (h : M.Two P Q) : M.same (M.pjoin P Q) Q = M.finV P Q := by
  rw [M.finV_ok h.both]
  by_cases hf : M.fin P Q
  · rw [M.finB_yes hf, M.same_yes ((M.fin_join h).1 hf)]
  · rw [M.finB_no hf, M.same_no fun e => hf ((M.fin_join h).2 e)]

set_option maxRecDepth 100000 in
set_option maxHeartbeats 8000000 in
theorem classesLattice_walk (A B C : Option Addr) (ca cb cc : Nat) (xs ys zs : List Int) (w : World) (he : Env w) (hx : Rd8 w A xs) (hy : Rd8 w B ys) (hz : Rd8 w C zs) (hmx : xs.length ≤ 9223372036854775807) :
    Calls Tryd.prog 7 #[.agg #[.slice A xs.length ca], .agg #[.slice B ys.length cb], .agg #[.slice C zs.length cc]] w fun e w' => e = .returned (.bool true) ∧ Below w.heap.size w w' := by
  obtain ⟨n, hn⟩ : ∃ n, Hid (min xs.length 14 = n) := ⟨_, rfl⟩
  have hn14 : n ≤ 14 := by have := hn.out; omega
  obtain ⟨P, hP⟩ : ∃ P, Hid (M.ofL (M.pad xs n) = P) := ⟨_, rfl⟩
  have hPl : Hid (P.length = n) := by rw [Hid, ← hP.out, M.ofL_len, M.pad_len]
  have hPv : M.Vd P := by rw [← hP.out]; exact M.Vd.of_ _
  obtain ⟨Q, hQ⟩ : ∃ Q, Hid (M.ofL (M.pad ys n) = Q) := ⟨_, rfl⟩
  have hQl : Hid (Q.length = n) := by rw [Hid, ← hQ.out, M.ofL_len, M.pad_len]
  have hQv : M.Vd Q := by rw [← hQ.out]; exact M.Vd.of_ _
  obtain ⟨R, hR⟩ : ∃ R, Hid (M.ofL (M.pad zs n) = R) := ⟨_, rfl⟩
  have hRl : Hid (R.length = n) := by rw [Hid, ← hR.out, M.ofL_len, M.pad_len]
  have hRv : M.Vd R := by rw [← hR.out]; exact M.Vd.of_ _
  have tPQ := two_of hPv hQv hPl.out hQl.out (by omega)
  have tPR := two_of hPv hRv hPl.out hRl.out (by omega)
  have tQR := two_of hQv hRv hQl.out hRl.out (by omega)
  obtain ⟨X, hX⟩ : ∃ X, Hid (M.meet P Q = X) := ⟨_, rfl⟩
  obtain ⟨Y, hY⟩ : ∃ Y, Hid (M.pjoin P Q = Y) := ⟨_, rfl⟩
  obtain ⟨V, hV⟩ : ∃ V, Hid (M.meet Q R = V) := ⟨_, rfl⟩
  obtain ⟨Z, hZ⟩ : ∃ Z, Hid (M.pjoin Q R = Z) := ⟨_, rfl⟩
  obtain ⟨U, hU⟩ : ∃ U, Hid (M.meet X R = U) := ⟨_, rfl⟩
  obtain ⟨T, hT⟩ : ∃ T, Hid (M.pjoin Y R = T) := ⟨_, rfl⟩
  have hXl : Hid (X.length = n) := by rw [Hid, ← hX.out, M.meet_len, hPl.out]
  have hYl : Hid (Y.length = n) := by rw [Hid, ← hY.out, M.join_len, hPl.out]
  have hVl : Hid (V.length = n) := by rw [Hid, ← hV.out, M.meet_len, hQl.out]
  have hZl : Hid (Z.length = n) := by rw [Hid, ← hZ.out, M.join_len, hQl.out]
  have hUl : Hid (U.length = n) := by rw [Hid, ← hU.out, M.meet_len, hXl.out]
  have hTl : Hid (T.length = n) := by rw [Hid, ← hT.out, M.join_len, hYl.out]
  have hXv : M.Vd X := by rw [← hX.out]; exact M.meet_vd _ _
  have hYv : M.Vd Y := by rw [← hY.out]; exact M.join_vd _ _
  have hVv : M.Vd V := by rw [← hV.out]; exact M.meet_vd _ _
  have hZv : M.Vd Z := by rw [← hZ.out]; exact M.join_vd _ _
  have bPQ := Lib.hid tPQ.both
  have bQP := Lib.hid tPQ.swap.both
  have bQR := Lib.hid tQR.both
  have bPY := Lib.hid (two_of hPv hYv hPl.out hYl.out (by omega)).both
  have bPX := Lib.hid (two_of hPv hXv hPl.out hXl.out (by omega)).both
  have bXP := Lib.hid (two_of hXv hPv hXl.out hPl.out (by omega)).both
  have bXR := Lib.hid (two_of hXv hRv hXl.out hRl.out (by omega)).both
  have bYR := Lib.hid (two_of hYv hRv hYl.out hRl.out (by omega)).both
  have bPV := Lib.hid (two_of hPv hVv hPl.out hVl.out (by omega)).both
  have bPZ := Lib.hid (two_of hPv hZv hPl.out hZl.out (by omega)).both
  have mQP : Hid (M.meet Q P = X) := by rw [Hid, ← M.meet_comm tPQ]; exact hX.out
  have jQP : Hid (M.pjoin Q P = Y) := by rw [Hid, ← M.join_comm tPQ.same]; exact hY.out
  have mPY : Hid (M.meet P Y = P) := by rw [Hid, ← hY.out]; exact M.meet_absorb tPQ
  have jPX : Hid (M.pjoin P X = P) := by rw [Hid, ← hX.out]; exact M.join_absorb tPQ
  have mPV : Hid (M.meet P V = U) := by rw [Hid, ← hV.out, ← M.meet_assoc tPQ tPR, hX.out]; exact hU.out
  have jPZ : Hid (M.pjoin P Z = T) := by rw [Hid, ← hZ.out, ← M.join_assoc tPQ.same, hY.out]; exact hT.out
  obtain ⟨fb, hf1⟩ : ∃ fb, Hid (M.finV P Q = fb) := ⟨_, rfl⟩
  have sXP : Hid (M.same X P = fb) := by rw [Hid, ← hX.out, same_fin tPQ]; exact hf1.out
  have sYQ : Hid (M.same Y Q = fb) := by rw [Hid, ← hY.out, same_fin2 tPQ]; exact hf1.out
  have fXP : Hid (M.finV X P = true) := by rw [Hid, M.finV_ok bXP.out, ← hX.out]; exact M.finB_yes (M.fin_less tPQ)
  have fPY : Hid (M.finV P Y = true) := by rw [Hid, M.finV_ok bPY.out, ← hY.out]; exact M.finB_yes (M.fin_more P Q)
  obtain ⟨nX, hnX⟩ : ∃ k, Hid (M.cnt X = k) := ⟨_, rfl⟩
  obtain ⟨nY, hnY⟩ : ∃ k, Hid (M.cnt Y = k) := ⟨_, rfl⟩
  obtain ⟨nP, hnP⟩ : ∃ k, Hid (M.cnt P = k) := ⟨_, rfl⟩
  have cPX : nP ≤ nX := by have := M.cnt_meet tPQ; rw [hX.out, hnX.out, hnP.out] at this; exact this
  have cYP : nY ≤ nP := by have := M.cnt_join P Q; rw [hY.out, hnY.out, hnP.out] at this; exact this
  have HPv := Lib.hid hPv
  have HXv := Lib.hid hXv
  have HYv := Lib.hid hYv
  obtain ⟨mx, hmx2⟩ : ∃ mx, Hid (xs.length = mx) := ⟨_, rfl⟩
  obtain ⟨my, hmy2⟩ : ∃ my, Hid (ys.length = my) := ⟨_, rfl⟩
  obtain ⟨mz, hmz2⟩ : ∃ mz, Hid (zs.length = mz) := ⟨_, rfl⟩
  rw [hmx2.out] at hmx hn ⊢
  rw [hmy2.out, hmz2.out]
  clear tPQ tPR tQR hPv hQv hRv hXv hYv hVv hZv
  have q1 : (((w.alloc (.cells #[.slice A mx ca] 50)).alloc (.cells #[.slice B my cb] 50)).alloc (.cells #[.slice C mz cc] 50)).cell? ⟨w.heap.size, 0, none⟩ = some (.slice A mx ca) := by
    rw [World.cell?_alloc_past _ _ _ (by simp; omega), World.cell?_alloc_past _ _ _ (by simp), World.cell?_alloc_at _ _ _ _ rfl]; rfl
  have q2 : (((w.alloc (.cells #[.slice A mx ca] 50)).alloc (.cells #[.slice B my cb] 50)).alloc (.cells #[.slice C mz cc] 50)).cell? ⟨w.heap.size + 1, 0, none⟩ = some (.slice B my cb) := by
    rw [World.cell?_alloc_past _ _ _ (by simp), World.cell?_alloc_at _ _ _ _ (by simp)]; rfl
  have q3 : (((w.alloc (.cells #[.slice A mx ca] 50)).alloc (.cells #[.slice B my cb] 50)).alloc (.cells #[.slice C mz cc] 50)).cell? ⟨w.heap.size + 2, 0, none⟩ = some (.slice C mz cc) := by
    rw [World.cell?_alloc_at _ _ _ _ (by simp)]; rfl
  have q4 : Below w.heap.size w (((w.alloc (.cells #[.slice A mx ca] 50)).alloc (.cells #[.slice B my cb] 50)).alloc (.cells #[.slice C mz cc] 50)) := (((Below.refl _ _).alloc (Nat.le_refl _) _).alloc (by simp) _).alloc (by simp; omega) _
  have q5 : w.heap.size + 3 ≤ (((w.alloc (.cells #[.slice A mx ca] 50)).alloc (.cells #[.slice B my cb] 50)).alloc (.cells #[.slice C mz cc] 50)).heap.size := by simp
  go_enter Tryd.func7, Tryd.ntmps7
  go_wp2_with fail
  refine (psize_lit A mx ca n _ hmx hn.out).mono ?_
  rintro e w0 ⟨rfl, hb0⟩
  have q1' : w0.cell? ⟨w.heap.size, 0, none⟩ = some (.slice A mx ca) := (hb0.cell (p := ⟨w.heap.size, 0, none⟩) (by show w.heap.size < _; omega)).trans q1
  have q2' : w0.cell? ⟨w.heap.size + 1, 0, none⟩ = some (.slice B my cb) := (hb0.cell (p := ⟨w.heap.size + 1, 0, none⟩) (by show w.heap.size + 1 < _; omega)).trans q2
  have q3' : w0.cell? ⟨w.heap.size + 2, 0, none⟩ = some (.slice C mz cc) := (hb0.cell (p := ⟨w.heap.size + 2, 0, none⟩) (by show w.heap.size + 2 < _; omega)).trans q3
  have q4' : Below w.heap.size w w0 := below_next q4 hb0
  have q5' : w.heap.size + 3 ≤ w0.heap.size := by have := hb0.size; omega
  clear q1 q2 q3 q4 q5 hb0
  go_wp2_with fail
  have q6 : Below w.heap.size w w0.drew := q4'.drew
  have e0 : w0.drew.heap.size = w0.heap.size := rfl
  have X1 := Lib.hid (hx.below q6)
  go_region_held3 (fun w' => w'.cell? ⟨w.heap.size, 0, none⟩ = some (.slice A mx ca) ∧ w'.cell? ⟨w.heap.size + 1, 0, none⟩ = some (.slice B my cb) ∧ w'.cell? ⟨w.heap.size + 2, 0, none⟩ = some (.slice C mz cc)) (first | exact ⟨g1, g2, g3⟩ | exact ⟨e1, e2, e3⟩ | exact ⟨k1, k2, k3⟩ | go_keep)
    (first
      | (go_at_call 26
         (with_reducible refine (pof_lit A mx ca xs n P _ X1.out hmx2.out (by omega) hP.out).mono ?_)
         rintro e w1 ⟨B1, d1, rfl, hr1, hb1⟩
         have z1 := hb1.size
         have g1 : w1.cell? ⟨w.heap.size, 0, none⟩ = some (.slice A mx ca) := (hb1.cell (p := ⟨w.heap.size, 0, none⟩) (by show w.heap.size < w0.heap.size; omega)).trans q1'
         have g2 : w1.cell? ⟨w.heap.size + 1, 0, none⟩ = some (.slice B my cb) := (hb1.cell (p := ⟨w.heap.size + 1, 0, none⟩) (by show w.heap.size + 1 < w0.heap.size; omega)).trans q2'
         have g3 : w1.cell? ⟨w.heap.size + 2, 0, none⟩ = some (.slice C mz cc) := (hb1.cell (p := ⟨w.heap.size + 2, 0, none⟩) (by show w.heap.size + 2 < w0.heap.size; omega)).trans q3'
         have q7 := below_next q6 hb1
         have X2 := Lib.hid (hy.below q7))
      | (go_at_call 26
         (with_reducible refine (pof_lit B my cb ys n Q _ X2.out hmy2.out (by omega) hQ.out).mono ?_)
         rintro e w2 ⟨B2, d2, rfl, hr2, hb2⟩
         have z2 := hb2.size
         have e1 : w2.cell? ⟨w.heap.size, 0, none⟩ = some (.slice A mx ca) := (hb2.cell (p := ⟨w.heap.size, 0, none⟩) (by show w.heap.size < w1.heap.size; omega)).trans g1
         have e2 : w2.cell? ⟨w.heap.size + 1, 0, none⟩ = some (.slice B my cb) := (hb2.cell (p := ⟨w.heap.size + 1, 0, none⟩) (by show w.heap.size + 1 < w1.heap.size; omega)).trans g2
         have e3 : w2.cell? ⟨w.heap.size + 2, 0, none⟩ = some (.slice C mz cc) := (hb2.cell (p := ⟨w.heap.size + 2, 0, none⟩) (by show w.heap.size + 2 < w1.heap.size; omega)).trans g3
         have q8 := below_next q7 hb2
         have X3 := Lib.hid (hz.below q8))
      | (go_at_call 26
         (with_reducible refine (pof_lit C mz cc zs n R _ X3.out hmz2.out (by omega) hR.out).mono ?_)
         rintro e w3 ⟨B3, d3, rfl, hr3, hb3⟩
         have z3 := hb3.size
         have k1 : w3.cell? ⟨w.heap.size, 0, none⟩ = some (.slice A mx ca) := (hb3.cell (p := ⟨w.heap.size, 0, none⟩) (by show w.heap.size < w2.heap.size; omega)).trans e1
         have k2 : w3.cell? ⟨w.heap.size + 1, 0, none⟩ = some (.slice B my cb) := (hb3.cell (p := ⟨w.heap.size + 1, 0, none⟩) (by show w.heap.size + 1 < w2.heap.size; omega)).trans e2
         have k3 : w3.cell? ⟨w.heap.size + 2, 0, none⟩ = some (.slice C mz cc) := (hb3.cell (p := ⟨w.heap.size + 2, 0, none⟩) (by show w.heap.size + 2 < w2.heap.size; omega)).trans e3))
  have s3 : St w w3 [(B1, P), (B2, Q), (B3, R)] := St.put (St.put (St.put (show St w w3 [] from ⟨below_next q8 hb3, fun _ h => by cases h⟩) hr3) (hr2.below hb3)) ((hr1.below hb2).below hb3)
  clear q1' q2' q3' q4' q5' q6 q7 q8 X1 X2 X3 hr1 hr2 hr3 hb1 hb2 hb3 g1 g2 g3 e1 e2 e3 k1 k2 k3 z1 z2 z3 e0 hx hy hz
  go_wp2_with fail
  refine (meet_lit B1 B2 n n d1 d2 P Q X _ (s3.rd 0 rfl) (s3.rd 1 rfl) hPl.out hQl.out bPQ.out hX.out).mono ?_
  rintro e w4 ⟨D1, rfl, hr4, hb4⟩
  have s4 := (s3.next hb4).put hr4
  rw [hXl.out]
  clear s3 hb4 hr4
  go_wp2_with fail
  refine (join_lit B1 B2 n n d1 d2 P Q Y _ (s4.rd 1 rfl) (s4.rd 2 rfl) hPl.out hQl.out bPQ.out hY.out).mono ?_
  rintro e w5 ⟨D2, rfl, hr5, hb5⟩
  have s5 := (s4.next hb5).put hr5
  rw [hYl.out]
  clear s4 hb5 hr5
  go_wp2_with fail
  refine (meet_lit B2 B1 n n d2 d1 Q P X _ (s5.rd 3 rfl) (s5.rd 2 rfl) hQl.out hPl.out bQP.out mQP.out).mono ?_
  rintro e w6 ⟨D3, rfl, hr6, hb6⟩
  have s6 := (s5.next hb6).put hr6
  rw [hXl.out]
  clear s5 hb6 hr6
  go_wp2_with fail
  refine (join_lit B2 B1 n n d2 d1 Q P Y _ (s6.rd 4 rfl) (s6.rd 3 rfl) hQl.out hPl.out bQP.out jQP.out).mono ?_
  rintro e w7 ⟨D4, rfl, hr7, hb7⟩
  have s7 := (s6.next hb7).put hr7
  rw [hYl.out]
  clear s6 hb7 hr7
  go_wp2_with fail
  refine (list_eq D3 D1 n n X 0 _ (s7.rd 1 rfl) (s7.rd 3 rfl) hXl.out (by omega)).mono ?_
  rintro e w8 ⟨rfl, hb8⟩
  have s8 := s7.next hb8
  clear s7 hb8
  go_wp2_with fail
  refine (list_eq D4 D2 n n Y 0 _ (s8.rd 0 rfl) (s8.rd 2 rfl) hYl.out (by omega)).mono ?_
  rintro e w9 ⟨rfl, hb9⟩
  have s9 := s8.next hb9
  clear s8 hb9
  go_wp2_with fail
  refine (meet_lit B1 D2 n n d1 n P Y P _ (s9.rd 4 rfl) (s9.rd 2 rfl) hPl.out hYl.out bPY.out mPY.out).mono ?_
  rintro e w10 ⟨D5, rfl, hr10, hb10⟩
  have s10 := (s9.next hb10).put hr10
  rw [hPl.out]
  clear s9 hb10 hr10
  go_wp2_with fail
  refine (join_lit B1 D1 n n d1 n P X P _ (s10.rd 5 rfl) (s10.rd 4 rfl) hPl.out hXl.out bPX.out jPX.out).mono ?_
  rintro e w11 ⟨D6, rfl, hr11, hb11⟩
  have s11 := (s10.next hb11).put hr11
  rw [hPl.out]
  clear s10 hb11 hr11
  go_wp2_with fail
  refine (meet_lit D1 B3 n n n d3 X R U _ (s11.rd 5 rfl) (s11.rd 8 rfl) hXl.out hRl.out bXR.out hU.out).mono ?_
  rintro e w12 ⟨D7, rfl, hr12, hb12⟩
  have s12 := (s11.next hb12).put hr12
  rw [hUl.out]
  clear s11 hb12 hr12
  go_wp2_with fail
  refine (meet_lit B2 B3 n n d2 d3 Q R V _ (s12.rd 8 rfl) (s12.rd 9 rfl) hQl.out hRl.out bQR.out hV.out).mono ?_
  rintro e w13 ⟨D8, rfl, hr13, hb13⟩
  have s13 := (s12.next hb13).put hr13
  rw [hVl.out]
  clear s12 hb13 hr13
  go_wp2_with fail
  refine (meet_lit B1 D8 n n d1 n P V U _ (s13.rd 8 rfl) (s13.rd 0 rfl) hPl.out hVl.out bPV.out mPV.out).mono ?_
  rintro e w14 ⟨D9, rfl, hr14, hb14⟩
  have s14 := (s13.next hb14).put hr14
  rw [hUl.out]
  clear s13 hb14 hr14
  go_wp2_with fail
  refine (list_eq D5 B1 n d1 P 0 _ (s14.rd 4 rfl) (s14.rd 9 rfl) hPl.out (by omega)).mono ?_
  rintro e w15 ⟨rfl, hb15⟩
  have s15 := s14.next hb15
  clear s14 hb15
  go_wp2_with fail
  refine (list_eq D6 B1 n d1 P 0 _ (s15.rd 3 rfl) (s15.rd 9 rfl) hPl.out (by omega)).mono ?_
  rintro e w16 ⟨rfl, hb16⟩
  have s16 := s15.next hb16
  clear s15 hb16
  go_wp2_with fail
  refine (list_eq D7 D9 n n U 0 _ (s16.rd 2 rfl) (s16.rd 0 rfl) hUl.out (by omega)).mono ?_
  rintro e w17 ⟨rfl, hb17⟩
  have s17 := s16.next hb17
  clear s16 hb17
  go_wp2_with fail
  refine (join_lit D2 B3 n n n d3 Y R T _ (s17.rd 7 rfl) (s17.rd 11 rfl) hYl.out hRl.out bYR.out hT.out).mono ?_
  rintro e w18 ⟨D10, rfl, hr18, hb18⟩
  have s18 := (s17.next hb18).put hr18
  rw [hTl.out]
  clear s17 hb18 hr18
  go_wp2_with fail
  refine (join_lit B2 B3 n n d2 d3 Q R Z _ (s18.rd 11 rfl) (s18.rd 12 rfl) hQl.out hRl.out bQR.out hZ.out).mono ?_
  rintro e w19 ⟨D11, rfl, hr19, hb19⟩
  have s19 := (s18.next hb19).put hr19
  rw [hZl.out]
  clear s18 hb19 hr19
  go_wp2_with fail
  refine (join_lit B1 D11 n n d1 n P Z T _ (s19.rd 11 rfl) (s19.rd 0 rfl) hPl.out hZl.out bPZ.out jPZ.out).mono ?_
  rintro e w20 ⟨D12, rfl, hr20, hb20⟩
  have s20 := (s19.next hb20).put hr20
  rw [hTl.out]
  clear s19 hb20 hr20
  go_wp2_with fail
  refine (list_eq D10 D12 n n T 0 _ (s20.rd 2 rfl) (s20.rd 0 rfl) hTl.out (by omega)).mono ?_
  rintro e w21 ⟨rfl, hb21⟩
  have s21 := s20.next hb21
  clear s20 hb21
  go_wp2_with fail
  refine (finer_lit B1 B2 n n d1 d2 P Q fb 0 _ (s21.rd 12 rfl) (s21.rd 13 rfl) hPl.out hQl.out bPQ.out hf1.out).mono ?_
  rintro e w22 ⟨rfl, hb22⟩
  have s22 := s21.next hb22
  clear s21 hb22
  go_wp2_with fail
  refine (finer_lit D1 B1 n n n d1 X P true 0 _ (s22.rd 11 rfl) (s22.rd 12 rfl) hXl.out hPl.out bXP.out fXP.out).mono ?_
  rintro e w23 ⟨rfl, hb23⟩
  have s23 := s22.next hb23
  clear s22 hb23
  go_wp2_with fail
  refine (finer_lit B1 D2 n n d1 n P Y true 0 _ (s23.rd 12 rfl) (s23.rd 10 rfl) hPl.out hYl.out bPY.out fPY.out).mono ?_
  rintro e w24 ⟨rfl, hb24⟩
  have s24 := s23.next hb24
  clear s23 hb24
  go_wp2_with fail
  refine (count_is D1 n n nX X _ (s24.rd 11 rfl) hXl.out HXv.out (by omega) hnX.out).mono ?_
  rintro e w25 ⟨rfl, hb25⟩
  have s25 := s24.next hb25
  clear s24 hb25
  go_wp2_with fail
  refine (count_is D2 n n nY Y _ (s25.rd 10 rfl) hYl.out HYv.out (by omega) hnY.out).mono ?_
  rintro e w26 ⟨rfl, hb26⟩
  have s26 := s25.next hb26
  clear s25 hb26
  go_wp2_with fail
  refine (count_is B1 n d1 nP P _ (s26.rd 12 rfl) hPl.out HPv.out (by omega) hnP.out).mono ?_
  rintro e w27 ⟨rfl, hb27⟩
  have s27 := s26.next hb27
  clear s26 hb27
  cases fb
  all_goals
    go_wp2_with fail
    refine (same_lit D1 B1 n n d1 X P _ _ (s27.rd 11 rfl) (s27.rd 12 rfl) hXl.out hPl.out (by omega) sXP.out).mono ?_
    rintro e w28 ⟨rfl, hb28⟩
    have s28 := s27.next hb28
    clear s27 hb28
    go_wp2_with fail
    refine (same_lit D2 B2 n n d2 Y Q _ _ (s28.rd 10 rfl) (s28.rd 13 rfl) hYl.out hQl.out (by omega) sYQ.out).mono ?_
    rintro e w29 ⟨rfl, hb29⟩
    have s29 := s28.next hb29
    clear s28 hb29
    go_wp2_with fail
    refine (lives_any _ (s29.env he)).mono ?_
    rintro e w30 ⟨rfl, hb30⟩
    have s30 := s29.next hb30
    clear s29 hb30
    go_wp2
    go_ret
    exact ⟨rfl, s30.1⟩
end Go.Proofs.YtnhibkkkpmaddaaDoor
