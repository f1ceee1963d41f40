/-
  The walk of the law TriesCheck. No statement is proved here.
-/
import Derived.Test.YtjodhihcckcefaaTsr
namespace Go.Proofs.Ytjodhihcckcefaa
open Go.RowKit Go.Maps

theorem cwE_one {x : List Int} {n : Int} (h1 : 1 ≤ n) (h2 : n ≤ 16) : M.cwE [x] n = M.check x n := by
  unfold M.cwE
  rw [if_neg (by simp), if_neg (by omega), if_neg (by omega)]
  unfold M.ferr
  by_cases h : M.check x n = 0
  · rw [if_pos h, h]; rfl
  · rw [if_neg h]
set_option maxRecDepth 100000 in
set_option maxHeartbeats 4000000 in
theorem tcheck_walk (L X : Option Addr) (c d : Nat) (rows : List (List Int)) (x : List Int) (n : Int) (W : World) (h : RdS W L rows) (hm : rows.length ≤ 9223372036854775807) (hx : Rd W X x) :
    Calls Try.prog 3 #[.slice L rows.length c, .slice X x.length d, .int .i64 n] W fun e W' => e = .returned (.bool true) ∧ Below W.heap.size W W' := by
  obtain ⟨N, hN⟩ : ∃ N, rows.length = N := ⟨_, rfl⟩
  obtain ⟨q, hq⟩ : ∃ q, x.length = q := ⟨_, rfl⟩
  rw [hN] at hm ⊢
  rw [hq]
  have CF := Lib.hid (few_any L c N rows W h hN hm)
  have CC := Lib.hid (vcheck_any L c N rows n W h hN hm)
  obtain ⟨F, hF⟩ : ∃ F, M.chE rows n = F := ⟨_, rfl⟩
  rw [hF] at CC
  obtain ⟨G, hG⟩ : ∃ G, hE rows x n = G := ⟨_, rfl⟩
  obtain ⟨r0, hr0⟩ : ∃ r0 : Bool, r0 = true ↔ G = 0 ∧ x ∈ rows := ⟨decide (G = 0 ∧ x ∈ rows), by rw [decide_eq_true_iff]⟩
  have CH := Lib.hid (fun w' (hb : Below W.heap.size W w') => thas_any L X c d N q rows x n w' (h.below hb) hN hm (hx.below hb) hq G hG r0 hr0)
  have CS := Lib.hid (fun w' (hb : Below W.heap.size W w') => steps_any L c N rows n w' (h.below hb) hN hm F hF)
  have CK := Lib.hid (fun w' (hb : Below W.heap.size W w') => tcheck_any L c N rows n w' (h.below hb) hN hm)
  have HH := Lib.hid (And.intro h hx)
  have HN := Lib.hid (And.intro hN hq)
  have HF := Lib.hid hF
  have HG := Lib.hid hG
  have HR0 := Lib.hid hr0
  have hFG : F ≠ 0 → G = F := fun hz => by rw [← hG, ← hF]; unfold hE; rw [if_pos (by rw [hF]; exact hz)]
  by_cases hz : F = 0
  · subst hz
    have hv := M.chE_zero.1 hF
    have HV := Lib.hid hv
    have hGc : M.cwE [x] n = G := by
      rw [cwE_one hv.n0 hv.n1, ← hG]
      unfold hE
      rw [if_neg (by rw [hF]; decide)]
    have CW := Lib.hid (fun (K : Option Addr) (d' : Nat) w' (hK : RdS w' K [x]) => vloose_any K d' 1 [x] n w' hK rfl (by omega))
    rw [hGc] at CW
    rw [if_pos rfl] at CS
    have hWl := wl_ck hv.ck
    have CM := Lib.hid (fun w' (hb : Below W.heap.size W w') (h60 : N ≤ 60) => vhas_any L X c d N q rows x w' (h.below hb) hN (by omega) hWl (hx.below hb) hq)
    have CT := Lib.hid (fun w' (hb : Below W.heap.size W w') (h60 : N ≤ 60) => vsteps_any L c N rows w' (h.below hb) hN (by omega) hWl)
    clear h hN hq hF hG hr0 hx hFG hv hGc hWl
    go_enter Try.func3, Try.ntmps3
    go_wp2_with fail
    refine CF.out.mono ?_
    rintro e w1 ⟨⟨r, rfl, hr, h60⟩, hw1⟩
    obtain rfl : W = w1 := hw1.symm
    rcases hr with rfl | rfl
    · have hN60 := h60 rfl
      by_cases hq3 : 300 < q
      · have d1 : decide ((300 : Int) < q) = true := decide_eq_true (by omega)
        have d2 : (300 : Int) < q := by omega
        go_wp2
        go_ret
        exact ⟨rfl, Below.refl _ _⟩
      · have d1 : decide ((300 : Int) < q) = false := decide_eq_false (by omega)
        have d2 : ¬ (300 : Int) < q := by omega
        go_wp2_with fail
        refine CC.out.mono ?_
        rintro e w2 ⟨rfl, hb2⟩
        have B2 := Lib.hid hb2
        clear hb2 CC CF
        go_wp2_with fail
        refine (CH.out _ B2.out).mono ?_
        rintro e w3 ⟨rfl, hb3⟩
        have B3 := Lib.hid (below_next B2.out hb3)
        clear hb3 CH
        go_wp2_with fail
        have hbA : Below w3.heap.size w3 (w3.alloc (.cells #[.slice X q d] 23)) := (Below.refl _ _).alloc (Nat.le_refl _) _
        have hrA : RdS (w3.alloc (.cells #[.slice X q d] 23)) (some ⟨w3.heap.size, 0, none⟩) [x] := rds_lit (vs := [.slice X q d]) (heap_alloc_new w3 _) fun k hk => by
          match k, hk with
          | 0, _ => exact ⟨X, d, by rw [show (M.row [x] 0) = x from rfl, HN.out.2]; rfl, (HH.out.2.below B3.out).below hbA⟩
        refine (list_any _ _ _ _).mono ?_
        rintro e w4 ⟨rfl, hw4⟩
        rw [← hw4] at hbA hrA
        have B4 := Lib.hid (below_next B3.out hbA)
        have CW4 := Lib.hid (CW.out _ 1 w4 hrA)
        clear hw4 hbA hrA CW
        go_wp2_with fail
        refine CW4.out.mono ?_
        rintro e w5 ⟨rfl, hb5⟩
        have B5 := Lib.hid (below_next B4.out hb5)
        clear hb5 CW4
        go_wp2_with fail
        refine (CS.out _ B5.out).mono ?_
        rintro e w6 ⟨rfl, hb6⟩
        have B6 := Lib.hid (below_next B5.out hb6)
        clear hb6 CS
        go_wp2_with fail
        refine (CK.out _ B6.out).mono ?_
        rintro e w7 ⟨rfl, hb7⟩
        rw [HF.out]
        have B7 := Lib.hid (below_next B6.out hb7)
        have e1 : (G != G) = false := by simp
        clear hb7 CK
        by_cases hg : G = 0
        · subst hg
          have hrb : r0 = memB rows x := by
            have h1 := HR0.out
            have h2 := memB_iff (rows := rows) (x := x)
            cases hr : r0 <;> cases hb : memB rows x <;> simp_all
          subst hrb
          obtain ⟨mb, hmb⟩ : ∃ mb, memB rows x = mb := ⟨_, rfl⟩
          have CMx := Lib.hid (CM.out _ B7.out hN60)
          rw [hmb] at CMx ⊢
          have e2 : (mb != mb) = false := by simp
          clear hmb HR0 CM
          go_wp2_with fail
          refine CMx.out.mono ?_
          rintro e w8 ⟨rfl, hb8⟩
          have B8 := Lib.hid (below_next B7.out hb8)
          clear hb8 CMx
          go_wp2_with fail
          refine (CT.out _ B8.out hN60).mono ?_
          rintro e w9 ⟨rfl, hw9⟩
          obtain rfl : w8 = w9 := hw9.symm
          have e3 : ((M.total rows : Int) == (M.total rows : Int)) = true := by simp
          go_wp2_with fail
          refine (tlives_walk _).mono ?_
          rintro e w10 ⟨rfl, hb10⟩
          have B10 := Lib.hid (below_next B8.out hb10)
          clear hb10
          go_wp2
          go_ret
          exact ⟨rfl, B10.out⟩
        · obtain rfl : r0 = false := by
            cases hr : r0 with
            | false => rfl
            | true => exact absurd (HR0.out.1 hr).1 hg
          have e2 : (G == 0) = false := by rw [beq_eq_false_iff_ne]; exact hg
          clear HR0 CM
          go_wp2_with fail
          refine (CT.out _ B7.out hN60).mono ?_
          rintro e w9 ⟨rfl, hw9⟩
          obtain rfl : w7 = w9 := hw9.symm
          have e3 : ((M.total rows : Int) == (M.total rows : Int)) = true := by simp
          go_wp2_with fail
          refine (tlives_walk _).mono ?_
          rintro e w10 ⟨rfl, hb10⟩
          have B10 := Lib.hid (below_next B7.out hb10)
          clear hb10
          go_wp2
          go_ret
          exact ⟨rfl, B10.out⟩
    · go_wp2
      go_ret
      exact ⟨rfl, Below.refl _ _⟩
  · obtain rfl : G = F := hFG hz
    obtain rfl : r0 = false := by
      cases hr : r0 with
      | false => rfl
      | true => exact absurd (hr0.1 hr).1 hz
    rw [if_neg hz] at CS
    have e0 : (G == 0) = false := by rw [beq_eq_false_iff_ne]; exact hz
    have e1 : (G != G) = false := by simp
    have e2 : (G != 0) = true := by simpa using hz
    clear h hN hq hF hG hr0 hx hFG
    go_enter Try.func3, Try.ntmps3
    go_wp2_with fail
    refine CF.out.mono ?_
    rintro e w1 ⟨⟨r, rfl, hr, h60⟩, hw1⟩
    obtain rfl : W = w1 := hw1.symm
    rcases hr with rfl | rfl
    · by_cases hq3 : 300 < q
      · have d1 : decide ((300 : Int) < q) = true := decide_eq_true (by omega)
        have d2 : (300 : Int) < q := by omega
        go_wp2
        go_ret
        exact ⟨rfl, Below.refl _ _⟩
      · have d1 : decide ((300 : Int) < q) = false := decide_eq_false (by omega)
        have d2 : ¬ (300 : Int) < q := by omega
        go_wp2_with fail
        refine CC.out.mono ?_
        rintro e w2 ⟨rfl, hb2⟩
        have B2 := Lib.hid hb2
        clear hb2 CC CF
        go_wp2_with fail
        refine (CH.out _ B2.out).mono ?_
        rintro e w3 ⟨rfl, hb3⟩
        have B3 := Lib.hid (below_next B2.out hb3)
        clear hb3 CH
        go_wp2_with fail
        refine (CS.out _ B3.out).mono ?_
        rintro e w6 ⟨rfl, hb6⟩
        have B6 := Lib.hid (below_next B3.out hb6)
        clear hb6 CS
        go_wp2_with fail
        refine (CK.out _ B6.out).mono ?_
        rintro e w7 ⟨rfl, hb7⟩
        rw [HF.out]
        have B7 := Lib.hid (below_next B6.out hb7)
        clear hb7 CK
        go_wp2_with fail
        refine (tlives_walk _).mono ?_
        rintro e w10 ⟨rfl, hb10⟩
        have B10 := Lib.hid (below_next B7.out hb10)
        clear hb10
        go_wp2
        go_ret
        exact ⟨rfl, B10.out⟩
    · go_wp2
      go_ret
      exact ⟨rfl, Below.refl _ _⟩
end Go.Proofs.Ytjodhihcckcefaa
