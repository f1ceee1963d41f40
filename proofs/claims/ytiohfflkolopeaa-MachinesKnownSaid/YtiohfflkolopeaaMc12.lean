/-
  The law's own lives: the examples of the chapter, out of what the program's functions are held to.
-/
import Derived.Test.YtiohfflkolopeaaMcR15
import Derived.Test.YtiohfflkolopeaaMcR17
import Derived.Test.YtiohfflkolopeaaMcR18
namespace Go.Proofs.Ytiohfflkolopeaa
open Go.RowKit
open Mc (Ed Ma)

set_option maxRecDepth 100000 in
set_option maxHeartbeats 4000000 in
theorem lives_walk {E : World → Prop} (P : Pm E) (w : World) (he : E w) : Calls Try.prog 25 #[] w fun e w' => e = .returned (.bool true) ∧ Below w.heap.size w w' := by
  have s0 := MK.start he
  clear he
  go_enter Try.func25, Try.ntmps25
  go_wp2_with fail
  refine (edge_any 1 0 _).mono ?_
  rintro e w1 ⟨rfl, hb⟩
  have s1 := s0.next P hb
  clear hb s0
  go_wp2_with fail
  refine (edge_any 0 1 _).mono ?_
  rintro e w2 ⟨rfl, hb⟩
  have s2 := s1.next P hb
  clear hb s1
  have s3 := (s2.alloc P (.cells #[.int .i64 1, .int .i64 0, .int .i64 0, .int .i64 1] 39)).putP (rdp_lit w2 Mc.r0 _ rfl)
  clear s2
  go_wp2_with fail
  refine (edge_any (-1) (-1) _).mono ?_
  rintro e w3 ⟨rfl, hb⟩
  have s4 := s3.next P hb
  clear hb s3
  go_wp2_with fail
  refine (edge_any 0 0 _).mono ?_
  rintro e w4 ⟨rfl, hb⟩
  have s5 := s4.next P hb
  clear hb s4
  have s6 := (s5.alloc P (.cells #[.int .i64 (-1), .int .i64 (-1), .int .i64 0, .int .i64 0] 39)).putP (rdp_lit w4 Mc.r1 _ rfl)
  clear s5
  have s7 := (s6.alloc P (.cells #[.slice (some ⟨w2.heap.size, 0, none⟩) 2 2, .slice (some ⟨w4.heap.size, 0, none⟩) 2 2] 45)).putR
    (by
      have h := rdr_two _ (some ⟨w2.heap.size, 0, none⟩) (some ⟨w4.heap.size, 0, none⟩) Mc.r0 Mc.r1 2 2 rfl rfl (by simp) (by simp) (s6.get 1 rfl) (s6.get 0 rfl) (by decide) (by decide)
      rw [show (w4.alloc (.cells #[.int .i64 (-1), .int .i64 (-1), .int .i64 0, .int .i64 0] 39)).heap.size = w4.heap.size + 1 by simp] at h
      exact h)
  clear s6
  have s8 := (s7.alloc P (.cells #[.int .i64 2, .int .i64 2, .slice (some ⟨w4.heap.size + 1, 0, none⟩) 2 2] 24)).putB (g := w4.heap.size + 1 + 1)
    (by
      have h := heap_alloc_new ((w4.alloc (.cells #[.int .i64 (-1), .int .i64 (-1), .int .i64 0, .int .i64 0] 39)).alloc (.cells #[.slice (some ⟨w2.heap.size, 0, none⟩) 2 2, .slice (some ⟨w4.heap.size, 0, none⟩) 2 2] 45)) (.cells #[.int .i64 2, .int .i64 2, .slice (some ⟨w4.heap.size + 1, 0, none⟩) 2 2] 24)
      rw [show ((w4.alloc (.cells #[.int .i64 (-1), .int .i64 (-1), .int .i64 0, .int .i64 0] 39)).alloc (.cells #[.slice (some ⟨w2.heap.size, 0, none⟩) 2 2, .slice (some ⟨w4.heap.size, 0, none⟩) 2 2] 45)).heap.size = w4.heap.size + 1 + 1 by simp] at h
      exact h)
  clear s7
  go_wp2_with fail
  obtain ⟨w5, hw5⟩ : ∃ w5, ((w4.alloc (.cells #[.int .i64 (-1), .int .i64 (-1), .int .i64 0, .int .i64 0] 39)).alloc (.cells #[.slice (some ⟨w2.heap.size, 0, none⟩) 2 2, .slice (some ⟨w4.heap.size, 0, none⟩) 2 2] 45)).alloc (.cells #[.int .i64 2, .int .i64 2, .slice (some ⟨w4.heap.size + 1, 0, none⟩) 2 2] 24) = w5 := ⟨_, rfl⟩
  obtain ⟨G, hG⟩ : ∃ G, w4.heap.size + 1 + 1 = G := ⟨_, rfl⟩
  obtain ⟨Q, hQ⟩ : ∃ Q, w4.heap.size + 1 = Q := ⟨_, rfl⟩
  rw [hw5] at s8 ⊢
  rw [hG] at s8 ⊢
  rw [hQ] at s8 ⊢
  clear hw5 hG hQ
  refine (l_complete P _ _ s8.1 (s8.get 1 rfl)).mono ?_
  rintro e w6 ⟨rfl, hb⟩
  have s9 := s8.next P hb
  clear hb s8
  obtain ⟨b0, b1, b2⟩ := BxM.cells (s9.get 0 rfl)
  go_wp2_with fail
  clear b0 b1 b2
  refine (l_connected P _ _ s9.1 (s9.get 1 rfl)).mono ?_
  rintro e w7 ⟨rfl, hb⟩
  have s10 := s9.next P hb
  clear hb s9
  obtain ⟨b0, b1, b2⟩ := BxM.cells (s10.get 0 rfl)
  go_wp2_with fail
  clear b0 b1 b2
  refine (l_transitions P _ _ s10.1 (s10.get 1 rfl)).mono ?_
  rintro e w8 ⟨rfl, hb⟩
  have s11 := s10.next P hb
  clear hb s10
  obtain ⟨b0, b1, b2⟩ := BxM.cells (s11.get 0 rfl)
  go_wp2_with fail
  clear b0 b1 b2
  refine (l_undefined P _ _ s11.1 (s11.get 1 rfl)).mono ?_
  rintro e w9 ⟨B1, rfl, hrp, hb⟩
  have s12 := (s11.next P hb).putP hrp
  clear hb s11 hrp
  obtain ⟨b0, b1, b2⟩ := BxM.cells (s12.get 1 rfl)
  go_wp2_with fail
  clear b0 b1 b2
  refine (l_check P _ _ s12.1 (s12.get 2 rfl)).mono ?_
  rintro e w10 ⟨rfl, hb⟩
  have s13 := s12.next P hb
  clear hb s12
  obtain ⟨b0, b1, b2⟩ := BxM.cells (s13.get 1 rfl)
  obtain ⟨bq, oq, x, y, rfl, hbq, hx, hy, hq⟩ := RdP.at_ (k := 0) (s13.get 0 rfl) (by decide)
  have hq := hq.out
  simp at hq
  obtain ⟨rfl, rfl⟩ := hq
  have hcmp : ∀ w, (binOp .neq 25 (.agg #[.int .i64 1, .int .i64 0]) (.agg #[.int .i64 1, .int .i64 0])).run Try.prog w = .ok (.bool false) w := fun _ => by kernel_rfl
  simp only [Nat.zero_mul, Nat.add_zero] at hx hy
  have s14 := (s13.alloc P (.cells #[.int .i64 1, .int .i64 0, .int .i64 1, .int .i64 1] 3)).putL (rd_lit w10 [1, 0, 1, 1])
  go_wp2_with fail
  clear b0 b1 b2 hcmp hx hy hbq s13
  refine (l_run4 P _ _ _ s14.1 (s14.get 3 rfl) (s14.get 0 rfl)).mono ?_
  rintro e w11 ⟨B2, rfl, hrl, hb⟩
  have s15 := (s14.next P hb).putL hrl
  clear hb s14 hrl
  have s16 := (s15.alloc P (.cells #[.int .i64 1, .int .i64 0, .int .i64 1, .int .i64 1] 3)).putL (rd_lit w11 [1, 0, 1, 1])
  obtain ⟨b0, b1, b2⟩ := BxM.cells (s15.get 3 rfl)
  go_wp2_with fail
  clear b0 b1 b2 s15
  refine (l_after4 P _ _ _ s16.1 (s16.get 5 rfl) (s16.get 0 rfl)).mono ?_
  rintro e w12 ⟨rfl, hb⟩
  have s17 := s16.next P hb
  clear hb s16
  have s18 := (s17.alloc P (.cells #[.int .i64 0, .int .i64 0, .int .i64 1] 3)).putL (rd_lit w12 [0, 0, 1])
  obtain ⟨b0, b1, b2⟩ := BxM.cells (s17.get 4 rfl)
  go_wp2_with fail
  clear b0 b1 b2 s17
  refine (l_run3 P _ _ _ s18.1 (s18.get 6 rfl) (s18.get 0 rfl)).mono ?_
  rintro e w13 ⟨B3, rfl, hrl, hb⟩
  have s19 := (s18.next P hb).putL hrl
  clear hb s18 hrl
  have s20 := (s19.alloc P (.cells #[.int .i64 0, .int .i64 0, .int .i64 1] 3)).putL (rd_lit w13 [0, 0, 1])
  obtain ⟨b0, b1, b2⟩ := BxM.cells (s19.get 6 rfl)
  go_wp2_with fail
  clear b0 b1 b2 s19
  refine (l_after3 P _ _ _ s20.1 (s20.get 8 rfl) (s20.get 0 rfl)).mono ?_
  rintro e w14 ⟨rfl, hb⟩
  have s21 := s20.next P hb
  clear hb s20
  obtain ⟨b0, b1, b2⟩ := BxM.cells (s21.get 7 rfl)
  go_wp2_with fail
  clear b0 b1 b2
  refine (l_step P _ _ s21.1 1 0 (-1) (-1) 0 (s21.get 8 rfl) (by decide) (by decide)).mono ?_
  rintro e w15 ⟨rfl, hb⟩
  have s22 := s21.next P hb
  clear hb s21
  have s23 := (s22.alloc P (.cells #[.int .i64 (-1), .int .i64 (-1)] 39)).putE (g := w15.heap.size) (heap_alloc_new w15 _)
  clear s22
  obtain ⟨b0, b1, b2⟩ := BxM.cells (s23.get 8 rfl)
  go_wp2_with fail
  clear b0 b1 b2
  refine (l_step P _ _ s23.1 2 0 0 0 1 (s23.get 9 rfl) (by decide) (by decide)).mono ?_
  rintro e w16 ⟨rfl, hb⟩
  have s24 := (s23.next P hb).alloc P (.cells #[.int .i64 0, .int .i64 0] 39)
  clear hb s23
  obtain ⟨b0, b1, b2⟩ := BxM.cells (s24.get 8 rfl)
  go_upto_region 14 with fail
  obtain ⟨w17, hw17⟩ : ∃ q, (w16.alloc (.cells #[.int .i64 0, .int .i64 0] 39)) = q := ⟨_, rfl⟩
  rw [hw17] at s24 b0 b1 b2 ⊢
  clear hw17
  go_cut [22, 23] from 32 to 225 (fun p f wx => f = .int .i64 1 ∧ p = p ∧ Below w17.heap.size w17 wx)
  case first =>
    go_wp2_with fail
    refine (l_step P _ _ s24.1 0 2 0 0 1 (s24.get 9 rfl) (by decide) (by decide)).mono ?_
    rintro e wq ⟨rfl, hb⟩
    dsimp only
    go_wp2_with fail
    go_meet
    exact ⟨rfl, rfl, hb.alloc hb.size _⟩
  case rest =>
  obtain ⟨rfl, _, hbc⟩ := hcut
  have ⟨w18, hw18⟩ : ∃ q, q = wc := ⟨_, rfl⟩
  rw [← hw18] at hbc ⊢
  clear hw18
  have s25 := s24.next P hbc
  clear s24 hbc b0 b1 b2
  obtain ⟨b0, b1, b2⟩ := BxM.cells (s25.get 8 rfl)
  go_upto_region 15 with fail
  refine live15 P s25.1 (s25.get 8 rfl) (s25.get 9 rfl) ?_
  rintro G2
  intro v32 v33 v34 v35 v36 v37 v38 v39 v40 v41 v42 v43 v44 v45 v46 v47 v48 v49 v50 v51 v52 v53 v54 v55 v56 v57 v58 v59 v60 v61 v62 v63 v64 v65 v66 v67 v68 v69 v70 v71 v72 v73 v74 v75 v76 v77 v78 v79 v80 v81 v82 v83 v84 v85 v86 v87 v88 v89 v90 v91 v92 v93 v94 v95 v96 v97 v98 v99 v100 v101 v102 v103 v104 v105 v106 v107 v108 v109 v110 v111 v112 v113 v114 v115 v116 v117 v118 v119 v120 v121 v122 v123 v124 v125 v126 v127 v128 v129 v130 v131 v132 v133 v134 v135 v136 v137 v138 v139 v140 v141 v142 v143 v144 v145 v146 v147 v148 v149 v150 v151 v152 v153 v154 v155 v156 v157 v158 v159 v160 v161 v162 v163 v164 v165 v166 v167 v168 v169 v170 v171 v172 v173 v174 v175 v176 v177 v178 v179 v180 v181 v182 v183 v184 v185 v186 v187 v188 v189 v190 v191 v192 v193 v194 v195 v196 v197 v198 v199 v200 v201 v202 v203 v204 v205 v206 v207 v208 v209 v210 v211 v212 v213 v214 v215 v216 v217 v218 v219 v220 v221 v222 v223 v224 v225
  rintro wc ⟨⟨B4, hBx, hR1⟩, hbc⟩
  have s26 := ((s25.next P hbc).putR hR1.out).putB hBx.out
  clear s25 b0 b1 b2 hBx hR1 hbc
  obtain ⟨b0, b1, b2⟩ := BxM.cells (s26.get 0 rfl)
  go_wp2_with fail
  clear b0 b1 b2
  refine (l_complete1 P _ _ s26.1 (s26.get 1 rfl)).mono ?_
  rintro e w19 ⟨rfl, hb⟩
  have s27 := s26.next P hb
  clear hb s26
  obtain ⟨b0, b1, b2⟩ := BxM.cells (s27.get 10 rfl)
  go_upto_region 17 with fail
  refine live17 P s27.1 (s27.get 10 rfl) (s27.get 11 rfl) ?_
  intro G3
  intro v32 v33 v34 v35 v36 v37 v38 v39 v40 v41 v42 v43 v44 v45 v46 v47 v48 v49 v50 v51 v52 v53 v54 v55 v56 v57 v58 v59 v60 v61 v62 v63 v64 v65 v66 v67 v68 v69 v70 v71 v72 v73 v74 v75 v76 v77 v78 v79 v80 v81 v82 v83 v84 v85 v86 v87 v88 v89 v90 v91 v92 v93 v94 v95 v96 v97 v98 v99 v100 v101 v102 v103 v104 v105 v106 v107 v108 v109 v110 v111 v112 v113 v114 v115 v116 v117 v118 v119 v120 v121 v122 v123 v124 v125 v126 v127 v128 v129 v130 v131 v132 v133 v134 v135 v136 v137 v138 v139 v140 v141 v142 v143 v144 v145 v146 v147 v148 v149 v150 v151 v152 v153 v154 v155 v156 v157 v158 v159 v160 v161 v162 v163 v164 v165 v166 v167 v168 v169 v170 v171 v172 v173 v174 v175 v176 v177 v178 v179 v180 v181 v182 v183 v184 v185 v186 v187 v188 v189 v190 v191 v192 v193 v194 v195 v196 v197 v198 v199 v200 v201 v202 v203 v204 v205 v206 v207 v208 v209 v210 v211 v212 v213 v214 v215 v216 v217 v218 v219 v220 v221 v222 v223 v224 v225
  intro wc hbc
  have ⟨w20, hw20⟩ : ∃ q, q = wc := ⟨_, rfl⟩
  rw [← hw20] at hbc ⊢
  clear hw20
  have s28 := s27.next P hbc
  clear s27 b0 b1 b2 hbc
  obtain ⟨b0, b1, b2⟩ := BxM.cells (s28.get 10 rfl)
  go_upto_region 18 with fail
  refine live18 P s28.1 (s28.get 10 rfl) (s28.get 11 rfl) ?_
  intro G4
  intro v32 v33 v34 v35 v36 v37 v38 v39 v40 v41 v42 v43 v44 v45 v46 v47 v48 v49 v50 v51 v52 v53 v54 v55 v56 v57 v58 v59 v60 v61 v62 v63 v64 v65 v66 v67 v68 v69 v70 v71 v72 v73 v74 v75 v76 v77 v78 v79 v80 v81 v82 v83 v84 v85 v86 v87 v88 v89 v90 v91 v92 v93 v94 v95 v96 v97 v98 v99 v100 v101 v102 v103 v104 v105 v106 v107 v108 v109 v110 v111 v112 v113 v114 v115 v116 v117 v118 v119 v120 v121 v122 v123 v124 v125 v126 v127 v128 v129 v130 v131 v132 v133 v134 v135 v136 v137 v138 v139 v140 v141 v142 v143 v144 v145 v146 v147 v148 v149 v150 v151 v152 v153 v154 v155 v156 v157 v158 v159 v160 v161 v162 v163 v164 v165 v166 v167 v168 v169 v170 v171 v172 v173 v174 v175 v176 v177 v178 v179 v180 v181 v182 v183 v184 v185 v186 v187 v188 v189 v190 v191 v192 v193 v194 v195 v196 v197 v198 v199 v200 v201 v202 v203 v204 v205 v206 v207 v208 v209 v210 v211 v212 v213 v214 v215 v216 v217 v218 v219 v220 v221 v222 v223 v224 v225
  intro wc hbc
  have ⟨w21, hw21⟩ : ∃ q, q = wc := ⟨_, rfl⟩
  rw [← hw21] at hbc ⊢
  clear hw21
  have s29 := s28.next P hbc
  clear s28 b0 b1 b2 hbc
  have hcmp2 : ∀ w, (binOp .eql 39 (.agg #[.int .i64 (-1), .int .i64 (-1)]) (.agg #[.int .i64 (-1), .int .i64 (-1)])).run Try.prog w = .ok (.bool true) w := fun _ => by kernel_rfl
  have sL1 := ((s29.alloc P (.cells (ints [1, 0, 0, 1]).toArray 3)).putL (rd_lit w21 [1, 0, 0, 1])).next P (Below.refl _ _).drew
  obtain ⟨b0, b1, _, _⟩ := BxE.cells (s29.get 2 rfl)
  obtain ⟨c0, c1, _, _⟩ := BxE.cells (sL1.get 3 rfl)
  go_upto_region 19 with fail
  go_region_held3 (fun w' => w'.cell? ⟨w15.heap.size, 0, none⟩ = some (.int .i64 (-1)) ∧ w'.cell? ⟨w15.heap.size, 1, none⟩ = some (.int .i64 (-1))) (first | exact ⟨g0, g1⟩ | exact ⟨f0, f1⟩ | exact ⟨e0, e1⟩ | exact ⟨d0, d1⟩ | exact ⟨c0, c1⟩ | exact ⟨b0, b1⟩ | go_keep)
    (first
      | (go_at_call 24
         (with_reducible refine (list_yes B2 (some ⟨w21.heap.size, 0, none⟩) 4 4 [1, 0, 0, 1] 0 _ (sL1.get 8 rfl) (sL1.get 0 rfl) rfl (by decide)).mono ?_)
         rintro e wp ⟨rfl, hbp⟩
         have sL2 := sL1.next P hbp
         have sL3 := (sL2.alloc P (.cells (ints [0, -1, -1]).toArray 3)).putL (rd_lit wp [0, -1, -1])
         obtain ⟨d0, d1, _, _⟩ := BxE.cells (sL2.get 3 rfl)
         obtain ⟨e0, e1, _, _⟩ := BxE.cells (sL3.get 4 rfl)
         dsimp only)
      | (go_at_call 24
         (with_reducible refine (list_yes B3 (some ⟨wp.heap.size, 0, none⟩) 3 3 [0, -1, -1] 0 _ (sL3.get 6 rfl) (sL3.get 0 rfl) rfl (by decide)).mono ?_)
         rintro e wq ⟨rfl, hbq⟩
         have sL4 := sL3.next P hbq
         obtain ⟨f0, f1, _, _⟩ := BxE.cells (sL4.get 4 rfl)
         dsimp only)
      | (go_at_call 20
         (with_reducible refine (edge_any (-1) (-1) _).mono ?_)
         rintro e wr ⟨rfl, hbr⟩
         have sL5 := sL4.next P hbr
         obtain ⟨g0, g1, _, _⟩ := BxE.cells (sL5.get 4 rfl)
         dsimp only))
  all_goals
    go_wp2
    go_ret
    exact ⟨rfl, sL5.2.1⟩
end Go.Proofs.Ytiohfflkolopeaa
