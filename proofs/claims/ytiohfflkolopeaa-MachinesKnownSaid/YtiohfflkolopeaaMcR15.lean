/-
  A region of the law's own lives, which draws its order: edge and With. No statement is proved here.
-/
import Derived.Test.YtiohfflkolopeaaMcReg
namespace Go.Proofs.Ytiohfflkolopeaa
open Go.RowKit
open Mc (Ed Ma)

set_option maxRecDepth 1000000 in
set_option maxHeartbeats 4000000 in
theorem live15 {E : World → Prop} (P : Pm E) {G Q : Nat} {w : World} (he : E w) (hbx : BxM w G 2 2 (some ⟨Q, 0, none⟩) 2 2) (hr : RdR w (some ⟨Q, 0, none⟩) Mc.R0) {R : Exit → Act → World → Prop} {u0 u2 u3 u4 u5 u6 u7 u8 u9 u10 u11 u12 u13 u14 u15 u16 u17 u18 u19 u20 u21 u22 u23 u24 u25 u26 u27 u28 u29 u30 u31 u32 u33 u34 u35 u36 u37 u38 u39 u40 u41 u42 u43 u44 u45 u46 u47 u48 u49 u50 u51 u52 u53 u54 u55 u56 u57 u58 u59 u60 u61 u62 u63 u64 u65 u66 u67 u68 u69 u70 u71 u72 u73 u74 u75 u76 u77 u78 u79 u80 u81 u82 u83 u84 u85 u86 u87 u88 u89 u90 u91 u92 u93 u94 u95 u96 u97 u98 u99 u100 u101 u102 u103 u104 u105 u106 u107 u108 u109 u110 u111 u112 u113 u114 u115 u116 u117 u118 u119 u120 u121 u122 u123 u124 u125 u126 u127 u128 u129 u130 u131 u132 u133 u134 u135 u136 u137 u138 u139 u140 u141 u142 u143 u144 u145 u146 u147 u148 u149 u150 u151 u152 u153 u154 u155 u156 u157 u158 u159 u160 u161 u162 u163 u164 u165 u166 u167 u168 u169 u170 u171 u172 u173 u174 u175 u176 u177 u178 u179 u180 u181 u182 u183 u184 u185 u186 u187 u188 u189 u190 u191 u192 u193 u194 u195 u196 u197 u198 u199 u200 u201 u202 u203 u204 u205 u206 u207 u208 u209 u210 u211 u212 u213 u214 u215 u216 u217 u218 u219 u220 u221 u222 u223 u224 u225 : Value}
    (hQ : ∀ (G2 : Nat) (v32 v33 v34 v35 v36 v37 v38 v39 v40 v41 v42 v43 v44 v45 v46 v47 v48 v49 v50 v51 v52 v53 v54 v55 v56 v57 v58 v59 v60 v61 v62 v63 v64 v65 v66 v67 v68 v69 v70 v71 v72 v73 v74 v75 v76 v77 v78 v79 v80 v81 v82 v83 v84 v85 v86 v87 v88 v89 v90 v91 v92 v93 v94 v95 v96 v97 v98 v99 v100 v101 v102 v103 v104 v105 v106 v107 v108 v109 v110 v111 v112 v113 v114 v115 v116 v117 v118 v119 v120 v121 v122 v123 v124 v125 v126 v127 v128 v129 v130 v131 v132 v133 v134 v135 v136 v137 v138 v139 v140 v141 v142 v143 v144 v145 v146 v147 v148 v149 v150 v151 v152 v153 v154 v155 v156 v157 v158 v159 v160 v161 v162 v163 v164 v165 v166 v167 v168 v169 v170 v171 v172 v173 v174 v175 v176 v177 v178 v179 v180 v181 v182 v183 v184 v185 v186 v187 v188 v189 v190 v191 v192 v193 v194 v195 v196 v197 v198 v199 v200 v201 v202 v203 v204 v205 v206 v207 v208 v209 v210 v211 v212 v213 v214 v215 v216 v217 v218 v219 v220 v221 v222 v223 v224 v225 : Value) (wx : World), (∃ B, Hid (BxM wx G2 2 2 B 2 2) ∧ Hid (RdR wx B Mc.R1)) ∧ Below w.heap.size w wx → R .normal ⟨#[u0, .pointer (some ⟨G, 0, none⟩), u2, u3, u4, u5, u6, u7, u8, u9, u10, u11, u12, u13, u14, u15, u16, u17, u18, u19, u20, u21, u22, u23, .pointer (some ⟨G2, 0, none⟩), .int .i64 0, u26, u27, u28, u29, u30, u31, v32, v33, v34, v35, v36, v37, v38, v39, v40, v41, v42, v43, v44, v45, v46, v47, v48, v49, v50, v51, v52, v53, v54, v55, v56, v57, v58, v59, v60, v61, v62, v63, v64, v65, v66, v67, v68, v69, v70, v71, v72, v73, v74, v75, v76, v77, v78, v79, v80, v81, v82, v83, v84, v85, v86, v87, v88, v89, v90, v91, v92, v93, v94, v95, v96, v97, v98, v99, v100, v101, v102, v103, v104, v105, v106, v107, v108, v109, v110, v111, v112, v113, v114, v115, v116, v117, v118, v119, v120, v121, v122, v123, v124, v125, v126, v127, v128, v129, v130, v131, v132, v133, v134, v135, v136, v137, v138, v139, v140, v141, v142, v143, v144, v145, v146, v147, v148, v149, v150, v151, v152, v153, v154, v155, v156, v157, v158, v159, v160, v161, v162, v163, v164, v165, v166, v167, v168, v169, v170, v171, v172, v173, v174, v175, v176, v177, v178, v179, v180, v181, v182, v183, v184, v185, v186, v187, v188, v189, v190, v191, v192, v193, v194, v195, v196, v197, v198, v199, v200, v201, v202, v203, v204, v205, v206, v207, v208, v209, v210, v211, v212, v213, v214, v215, v216, v217, v218, v219, v220, v221, v222, v223, v224, v225], []⟩ wx) :
    Code.wp Try.prog (liveReg 15) R ⟨#[u0, .pointer (some ⟨G, 0, none⟩), u2, u3, u4, u5, u6, u7, u8, u9, u10, u11, u12, u13, u14, u15, u16, u17, u18, u19, u20, u21, u22, u23, u24, u25, u26, u27, u28, u29, u30, u31, u32, u33, u34, u35, u36, u37, u38, u39, u40, u41, u42, u43, u44, u45, u46, u47, u48, u49, u50, u51, u52, u53, u54, u55, u56, u57, u58, u59, u60, u61, u62, u63, u64, u65, u66, u67, u68, u69, u70, u71, u72, u73, u74, u75, u76, u77, u78, u79, u80, u81, u82, u83, u84, u85, u86, u87, u88, u89, u90, u91, u92, u93, u94, u95, u96, u97, u98, u99, u100, u101, u102, u103, u104, u105, u106, u107, u108, u109, u110, u111, u112, u113, u114, u115, u116, u117, u118, u119, u120, u121, u122, u123, u124, u125, u126, u127, u128, u129, u130, u131, u132, u133, u134, u135, u136, u137, u138, u139, u140, u141, u142, u143, u144, u145, u146, u147, u148, u149, u150, u151, u152, u153, u154, u155, u156, u157, u158, u159, u160, u161, u162, u163, u164, u165, u166, u167, u168, u169, u170, u171, u172, u173, u174, u175, u176, u177, u178, u179, u180, u181, u182, u183, u184, u185, u186, u187, u188, u189, u190, u191, u192, u193, u194, u195, u196, u197, u198, u199, u200, u201, u202, u203, u204, u205, u206, u207, u208, u209, u210, u211, u212, u213, u214, u215, u216, u217, u218, u219, u220, u221, u222, u223, u224, u225], []⟩ w := by
  have s25 := ((MK.start he).putR hr).putB hbx
  conv => arg 2; whnf
  have sA := ((s25.alloc P zM).putB (g := w.heap.size) (heap_alloc_new w _)).next P (Below.refl _ _).drew
  have sB := s25.next P (Below.refl _ _).drew
  obtain ⟨a0, a1, a2⟩ := BxM.cells (sA.get 1 rfl)
  obtain ⟨z0, z1, z2⟩ := BxM.cells (sA.get 0 rfl)
  obtain ⟨y0, y1, y2⟩ := BxM.frozen (sA.get 0 rfl)
  obtain ⟨b0, b1, b2⟩ := BxM.cells (s25.get 0 rfl)
  have hGl : G < w.heap.size := heap_lt (s25.get 0 rfl)
  have HQ := Lib.hid hQ
  clear hQ hbx hr he
  go_region_held3 (fun w' => w'.cell? ⟨G, 0, none⟩ = some (.int .i64 2) ∧ w'.cell? ⟨G, 1, none⟩ = some (.int .i64 2) ∧ w'.cell? ⟨G, 2, none⟩ = some (.slice (some ⟨Q, 0, none⟩) 2 2)) (first | exact ⟨k0, k1, k2⟩ | exact ⟨e0, e1, e2⟩ | exact ⟨h0, h1, h2⟩ | exact ⟨d0, d1, d2⟩ | exact ⟨a0, a1, a2⟩ | exact ⟨b0, b1, b2⟩ | go_keep)
    (first
      | (go_at_call 20
         (with_reducible refine (edge_any (1) (1) _).mono ?_)
         rintro e wa ⟨rfl, hba⟩
         have tA := sA.next P hba
         have tAR : RdR wa (some ⟨Q, 0, none⟩) Mc.R0 := tA.get 2 rfl
         obtain ⟨d0, d1, d2⟩ := BxM.cells (tA.get 1 rfl)
         dsimp only)
      | (go_at_call 20
         (with_reducible refine (edge_any (1) (1) _).mono ?_)
         rintro e wa ⟨rfl, hba⟩
         have tB := sB.next P hba
         have tBR : RdR wa (some ⟨Q, 0, none⟩) Mc.R0 := tB.get 1 rfl
         have tC := (tB.alloc P zM).putB (g := wa.heap.size) (heap_alloc_new wa _)
         have tCR : RdR (wa.alloc zM) (some ⟨Q, 0, none⟩) Mc.R0 := tC.get 2 rfl
         obtain ⟨h0, h1, h2⟩ := BxM.cells (tC.get 1 rfl)
         have hGa : G < wa.heap.size := heap_lt (tB.get 0 rfl)
         have hwa : w.heap.size ≤ wa.heap.size := hba.size
         obtain ⟨d0, d1, d2⟩ := BxM.cells (tB.get 0 rfl)
         dsimp only)
      | (go_at_call 19
         (with_reducible refine (l_with1 P _ _ tA.env tAR).mono ?_)
         rintro e wb ⟨B, vs, rfl, hrB, hbb⟩
         have uA := tA.next P hbb
         obtain ⟨e0, e1, e2⟩ := BxM.cells (uA.get 1 rfl)
         obtain ⟨p0, p1, p2⟩ := BxM.cells (uA.get 0 rfl)
         obtain ⟨p3, p4, p5⟩ := BxM.frozen (uA.get 0 rfl)
         have hs3 := below_set3 (Below.refl w.heap.size wb) (Nat.le_refl w.heap.size) (.int .i64 2) (.int .i64 2) (.slice B 2 2)
         have k0 := (hs3.cell (p := ⟨G, 0, none⟩) hGl).trans e0
         have k1 := (hs3.cell (p := ⟨G, 1, none⟩) hGl).trans e1
         have k2 := (hs3.cell (p := ⟨G, 2, none⟩) hGl).trans e2
         dsimp only)
      | (go_at_call 19
         (with_reducible refine (l_with1 P _ _ tC.env tCR).mono ?_)
         rintro e wb ⟨B, vs, rfl, hrB, hbb⟩
         have uC := tC.next P hbb
         obtain ⟨e0, e1, e2⟩ := BxM.cells (uC.get 1 rfl)
         obtain ⟨p0, p1, p2⟩ := BxM.cells (uC.get 0 rfl)
         obtain ⟨p3, p4, p5⟩ := BxM.frozen (uC.get 0 rfl)
         have hs3 := below_set3 (Below.refl wa.heap.size wb) (Nat.le_refl wa.heap.size) (.int .i64 2) (.int .i64 2) (.slice B 2 2)
         have k0 := (hs3.cell (p := ⟨G, 0, none⟩) hGa).trans e0
         have k1 := (hs3.cell (p := ⟨G, 1, none⟩) hGa).trans e1
         have k2 := (hs3.cell (p := ⟨G, 2, none⟩) hGa).trans e2
         dsimp only)
      | (go_at_call 19
         (with_reducible refine (l_with1 P _ _ tB.env tBR).mono ?_)
         rintro e wb ⟨B, vs, rfl, hrB, hbb⟩
         have uB := tB.next P hbb
         obtain ⟨e0, e1, e2⟩ := BxM.cells (uB.get 0 rfl)
         dsimp only))
  all_goals
    apply HQ.out
    first
      | exact ⟨⟨B, BxM.set3 (uA.get 0 rfl), (hrB.out.set3 (heap_lt (tA.get 0 rfl)) _ _ _).two⟩, below_set3 ((((Below.refl w.heap.size w).alloc (Nat.le_refl _) zM).drew.trans ((hba.mono (by show w.heap.size ≤ (w.alloc zM).heap.size; simp)).trans (hbb.mono (Nat.le_of_lt (heap_lt (tA.get 0 rfl))))))) (Nat.le_refl _) _ _ _⟩
      | exact ⟨⟨B, BxM.set3 (uC.get 0 rfl), (hrB.out.set3 (by show wa.heap.size < (wa.alloc zM).heap.size; simp) _ _ _).two⟩, below_set3 (((Below.refl w.heap.size w).drew.trans hba).alloc hwa zM |>.trans (hbb.mono (by show w.heap.size ≤ (wa.alloc zM).heap.size; simp; omega))) hwa _ _ _⟩
      | exact ⟨⟨B, heap_alloc_new wb _, (hrB.out.below ((Below.refl _ _).alloc (Nat.le_refl _) _)).two⟩, (((Below.refl w.heap.size w).drew.trans hba).trans (hbb.mono hwa)).alloc (Nat.le_trans hwa hbb.size) _⟩
end Go.Proofs.Ytiohfflkolopeaa
