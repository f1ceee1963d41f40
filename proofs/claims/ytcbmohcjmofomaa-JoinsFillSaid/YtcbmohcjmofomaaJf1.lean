/-
  The walk of the law JoinsFill. No statement is proved here.
-/
import Derived.Test.YtcbmohcjmofomaaJb2
import Derived.Test.YtcbmohcjmofomaaJfM
import Derived.Deep.RegionHeld3
import Derived.Deep.CutRange
import Derived.Deep.QuietTactic
namespace Go.Proofs.Ytcbmohcjmofomaa
open Go.RowKit
open Mc (Ed Ma nE)

set_option maxRecDepth 100000 in
set_option maxHeartbeats 4000000 in
theorem jfil_walk (a b d : Int) (p : Bool) (A : Option Addr) (c : Nat) (es : List Int) (wy out : Int) (w : World)
    (hr : Rd16 w A es) (hl : es.length ≤ 9223372036854775807) (ha : 0 ≤ a ∧ a ≤ 255) (hb : 0 ≤ b ∧ b ≤ 255) (hd : 0 ≤ d ∧ d ≤ 255) (hwy : 0 ≤ wy) :
    Calls Try.prog 7 #[.agg #[.int .u8 a, .int .u8 b, .int .u8 d, .bool p, .slice A es.length c], .int .u8 wy, .int .i64 out] w fun e w' => e = .returned (.bool true) ∧ Below w.heap.size w w' := by
  obtain ⟨E1, hE1⟩ : ∃ E, es.length = E := ⟨_, rfl⟩
  obtain ⟨n, hn⟩ : ∃ n : Nat, 1 + a % 6 = n := ⟨(1 + a % 6).toNat, by omega⟩
  obtain ⟨i, hi⟩ : ∃ i : Nat, 1 + b % 3 = i := ⟨(1 + b % 3).toNat, by omega⟩
  obtain ⟨o, ho⟩ : ∃ o : Nat, 1 + d % 3 = o := ⟨(1 + d % 3).toNat, by omega⟩
  have CM := fun w hr => mofB_at a b d p A c es n i o w hr hl ha hb hd hn hi ho
  have hn6 : n ≤ 6 := by omega
  have hn1 : 1 ≤ n := by omega
  have hi1 : 1 ≤ i := by omega
  have hi3 : i ≤ 3 := by omega
  have ho1 : 1 ≤ o := by omega
  have ho3 : o ≤ 3 := by omega
  have V := Lib.hid (Mc.mkN_val (p := p) (n := n) (i := i) (o := o) (es := es) (by omega) (by omega) (by omega) (by omega) (by omega) (by omega))
  have hlen : Hid ((Mc.mkN p n i o es).r.length = n) := Mc.mkN_len _ _ _ _ _
  have hmi : Hid ((Mc.mkN p n i o es).i = i) := rfl
  have hmo : Hid ((Mc.mkN p n i o es).o = o) := rfl
  obtain ⟨M, hM⟩ : ∃ M, Mc.mkN p n i o es = M := ⟨_, rfl⟩
  rw [hM] at V hlen hmi hmo
  simp only [hM, hE1] at CM
  have HR := Lib.hid hr
  rw [hE1]
  clear hM ha hb hd hn hi ho hl hr hE1
  obtain ⟨K0, hK0⟩ : ∃ K0, w.heap.size = K0 := ⟨_, rfl⟩
  have hB0 : Below w.heap.size w (w.alloc (.cells #[.int .u8 a, .int .u8 b, .int .u8 d, .bool p, .slice A E1 c] 40)) := (Below.refl _ _).alloc (Nat.le_refl _) _
  have hX0 : BxX (w.alloc (.cells #[.int .u8 a, .int .u8 b, .int .u8 d, .bool p, .slice A E1 c] 40)) K0 a b d p A E1 c := by
    have h : BxX (w.alloc (.cells #[.int .u8 a, .int .u8 b, .int .u8 d, .bool p, .slice A E1 c] 40)) K0 a b d p A E1 c := by rw [← hK0]; exact heap_alloc_new w _
    exact h
  go_enter Try.func7, Try.ntmps7
  go_upto_region 1 with fail
  obtain ⟨W0, hW0⟩ : ∃ W0, (w.alloc (.cells #[.int .u8 a, .int .u8 b, .int .u8 d, .bool p, .slice A E1 c] 40)) = W0 := ⟨_, rfl⟩
  rw [hW0] at hB0 hX0 
  try rw [hW0]
  try rw [hK0]
  have HX := Lib.hid hX0
  have HB0 := Lib.hid hB0
  
  clear hW0 hK0 hB0 hX0 

  obtain ⟨a0, a1, a2, a3, a4⟩ := HX.out.cells
  go_wp2_with fail
  clear a0 a1 a2 a3 a4
  refine (CM _ (HR.out.below HB0.out)).mono ?_
  rintro e w1 ⟨R, c1, vsR, rfl, hBR, hb1⟩
  have s1 : MT w w1 [] := MT.next (MT.next MT.start HB0.out) hb1
  have s2 := MK.putR s1 hBR.out.two
  
  have s3 := MK.putB (g := w1.heap.size) (MT.alloc s2 (.cells #[.int .i64 i, .int .i64 o, .slice R n c1] 24)) (heap_alloc_new w1 _)
  clear s1 s2 hBR hb1 CM HR HX HB0 
  go_upto_region 2 with fail
  obtain ⟨w2, hw⟩ : ∃ q, w1.alloc (.cells #[.int .i64 i, .int .i64 o, .slice R n c1] 24) = q := ⟨_, rfl⟩
  obtain ⟨G, hG⟩ : ∃ G, w1.heap.size = G := ⟨_, rfl⟩
  rw [hw, hG] at s3
  try rw [hw]
  try rw [hG]
  clear hw hG

  -- 0: G, 1: M.r
  obtain ⟨x, hx⟩ : ∃ x, fech M wy out = x := ⟨_, rfl⟩
  have HXX := Lib.hid hx
  obtain ⟨NF, hNF⟩ : ∃ NF, (filT M wy out).length = NF := ⟨_, rfl⟩
  have HN9 := Lib.hid hNF
  have hN7 : NF ≤ 7 := by
    have h := filT_len M wy out
    rw [hNF, hlen.out] at h
    split at h <;> omega
  have CF : Hid (∀ wr, RdR wr R M.r → Calls Try.prog 34 #[.agg #[.int .i64 i, .int .i64 o, .slice R n c1], .int .u8 wy, .int .i64 out] wr fun e w' => ∃ (ri ro : Int) (RP : Option Addr) (rk rk' : Nat), e = .returned (.tuple #[.agg #[.int .i64 ri, .int .i64 ro, .slice RP rk rk'], .int .i64 x]) ∧ Hid ((x ≠ 0 ∧ ri = 0 ∧ ro = 0 ∧ RP = none ∧ rk = 0 ∧ rk' = 0) ∨ (x = 0 ∧ ri = i ∧ ro = o ∧ ∃ P, RP = some ⟨P, 0, none⟩ ∧ rk = NF ∧ rk' = NF ∧ Ex w' P NF (filT M wy out))) ∧ Below wr.heap.size wr w') := fun wr hR => by
    have h : Calls Try.prog 34 #[.agg #[.int .i64 M.i, .int .i64 M.o, .slice R n c1], .int .u8 wy, .int .i64 out] wr (JeP wr (fech M wy out) M.i M.o (filT M wy out)) := by
      rcases (show wy = 0 ∨ wy = 1 ∨ 1 < wy by omega) with rfl | rfl | h1
      · exact fill_w0 M R n c1 out wr hR hlen.out (by omega) (fun row hr => by have := V.out.len row hr; have := V.out.i1; omega)
      · exact fill_w1 M R n c1 out wr hR hlen.out (by omega) (fun row hr => by have := V.out.len row hr; have := V.out.i1; omega)
      · exact fill_wX M R n c1 wy out wr hR hlen.out (by omega) (fun row hr => by have := V.out.len row hr; have := V.out.i1; omega) h1
    rw [hmi.out, hmo.out, HXX.out] at h
    refine h.mono fun e w' h => ?_
    rcases h with ⟨h1, rfl, h2⟩ | ⟨h1, h2⟩
    · exact ⟨0, 0, none, 0, 0, rfl, Or.inl ⟨h1, rfl, rfl, rfl, rfl, rfl⟩, h2⟩
    · have hv := HXX.out
      rw [fech_val V.out (by rw [hlen.out]; omega), h1] at hv
      have hw01 : wy = 0 ∨ wy = 1 := by
        by_cases h3 : 1 < wy
        · rw [if_pos h3] at hv; cases hv
        · omega
      rw [if_neg (by omega)] at hv
      have ho9 : 0 ≤ out ∧ out < M.o := by
        by_cases h3 : out < 0
        · rw [if_pos h3] at hv; cases hv
        · rw [if_neg h3] at hv
          by_cases h4 : M.o ≤ out
          · rw [if_pos h4] at hv; cases hv
          · omega
      obtain ⟨P, rfl, hX, hb⟩ := JeP.ok (Or.inr ⟨h1, h2⟩) h1 HN9.out (by omega) (fun row hr => by
        have := (fil_ent V.out hw01 ho9 hr).1
        have := V.out.i1
        omega)
      exact ⟨_, _, _, _, _, by rw [h1], Or.inr ⟨h1, rfl, rfl, P, rfl, rfl, rfl, hX⟩, hb⟩
  clear hx hNF
  obtain ⟨m0, m1, m2⟩ := BxM.cells (MK.get s3 0 rfl)
  go_wp2_with fail
  clear m0 m1 m2
  refine (CF.out _ (MK.get s3 1 rfl)).mono ?_
  rintro e w3 ⟨ri, ro, RP, rk, rk', rfl, hRE, hb3⟩
  have s4 := MK.putB (g := w3.heap.size) (MT.alloc (MT.next s3 hb3) (.cells #[.int .i64 ri, .int .i64 ro, .slice RP rk rk'] 24)) (heap_alloc_new w3 _)
  have hRE2 : Hid ((x ≠ 0 ∧ ri = 0 ∧ ro = 0 ∧ RP = none ∧ rk = 0 ∧ rk' = 0) ∨ (x = 0 ∧ ri = i ∧ ro = o ∧ ∃ P, RP = some ⟨P, 0, none⟩ ∧ rk = NF ∧ rk' = NF ∧ Ex (w3.alloc (.cells #[.int .i64 ri, .int .i64 ro, .slice RP rk rk'] 24)) P NF (filT M wy out))) := by
    rcases hRE.out with h | ⟨h1, h2, h3, P, h4, h5, h6, h7⟩
    · exact Or.inl h
    · exact Or.inr ⟨h1, h2, h3, P, h4, h5, h6, h7.below ((Below.refl _ _).alloc (Nat.le_refl _) _)⟩
  clear s3 hb3 hRE CF
  go_upto_region 3 with fail
  obtain ⟨w4, hw⟩ : ∃ q, w3.alloc (.cells #[.int .i64 ri, .int .i64 ro, .slice RP rk rk'] 24) = q := ⟨_, rfl⟩
  obtain ⟨T, hT⟩ : ∃ T, w3.heap.size = T := ⟨_, rfl⟩
  rw [hT, hw] at s4
  rw [hw] at hRE2
  try rw [hw]
  try rw [hT]
  have HRE := hRE2
  clear hw hT hRE2
  have S4 := Lib.hid s4
  clear s4
  -- 0: T, 1: G, 2: M.r
  have HRV : Hid (x = if 1 < wy then 1 else if out < 0 then 1 else if (o : Int) ≤ out then 1 else 0) := by
    show _ = _
    rw [← HXX.out, fech_val V.out (by rw [hlen.out]; omega), hmo.out]
  by_cases h1w : 1 < wy
  · have h1d : decide (1 < wy) = true := decide_eq_true h1w
    have hxz : x = 1 := by rw [HRV.out, if_pos h1w]
    subst hxz
    obtain ⟨rfl, rfl, rfl, rfl, rfl⟩ : ri = 0 ∧ ro = 0 ∧ RP = none ∧ rk = 0 ∧ rk' = 0 := by
      rcases HRE.out with ⟨_, h⟩ | ⟨h, _⟩
      · exact h
      · exact absurd h (by decide)
    have sE := S4.out
    obtain ⟨m0, m1, m2⟩ := BxM.cells (MK.get sE 0 rfl)
    obtain ⟨g0, g1, g2⟩ := BxM.cells (MK.get sE 1 rfl)
    clear HRE
    go_wp2_with fail
    clear m0 m1 m2 g0 g1 g2
    refine (nothing_yes 1 _).mono ?_
    rintro e w8 ⟨rfl, hb8⟩
    have sE2 := MT.next sE hb8
    clear sE hb8
    go_wp2_with fail
    refine (jlives_walk _).mono ?_
    rintro e w9 ⟨rfl, hb9⟩
    have hfin := Lib.hid (MT.next sE2 hb9).2.1
    clear sE2 hb9
    go_wp2
    go_ret
    exact ⟨rfl, hfin.out⟩

  have h1d : decide (1 < wy) = false := decide_eq_false h1w
  by_cases hon : out < 0
  · have h2d : decide (out < 0) = true := decide_eq_true hon
    have hxz : x = 1 := by rw [HRV.out, if_neg h1w, if_pos hon]
    subst hxz
    obtain ⟨rfl, rfl, rfl, rfl, rfl⟩ : ri = 0 ∧ ro = 0 ∧ RP = none ∧ rk = 0 ∧ rk' = 0 := by
      rcases HRE.out with ⟨_, h⟩ | ⟨h, _⟩
      · exact h
      · exact absurd h (by decide)
    have sE := S4.out
    obtain ⟨m0, m1, m2⟩ := BxM.cells (MK.get sE 0 rfl)
    obtain ⟨g0, g1, g2⟩ := BxM.cells (MK.get sE 1 rfl)
    clear HRE
    go_wp2_with fail
    clear m0 m1 m2 g0 g1 g2
    refine (nothing_yes 1 _).mono ?_
    rintro e w8 ⟨rfl, hb8⟩
    have sE2 := MT.next sE hb8
    clear sE hb8
    go_wp2_with fail
    refine (jlives_walk _).mono ?_
    rintro e w9 ⟨rfl, hb9⟩
    have hfin := Lib.hid (MT.next sE2 hb9).2.1
    clear sE2 hb9
    go_wp2
    go_ret
    exact ⟨rfl, hfin.out⟩

  have h2d : decide (out < 0) = false := decide_eq_false hon
  by_cases hoo : (o : Int) ≤ out
  · have h3d : decide ((o : Int) ≤ out) = true := decide_eq_true hoo
    have hxz : x = 1 := by rw [HRV.out, if_neg h1w, if_neg hon, if_pos hoo]
    subst hxz
    obtain ⟨rfl, rfl, rfl, rfl, rfl⟩ : ri = 0 ∧ ro = 0 ∧ RP = none ∧ rk = 0 ∧ rk' = 0 := by
      rcases HRE.out with ⟨_, h⟩ | ⟨h, _⟩
      · exact h
      · exact absurd h (by decide)
    have sE := S4.out
    obtain ⟨m0, m1, m2⟩ := BxM.cells (MK.get sE 0 rfl)
    obtain ⟨g0, g1, g2⟩ := BxM.cells (MK.get sE 1 rfl)
    clear HRE
    go_wp2_with fail
    clear m0 m1 m2 g0 g1 g2
    refine (nothing_yes 1 _).mono ?_
    rintro e w8 ⟨rfl, hb8⟩
    have sE2 := MT.next sE hb8
    clear sE hb8
    go_wp2_with fail
    refine (jlives_walk _).mono ?_
    rintro e w9 ⟨rfl, hb9⟩
    have hfin := Lib.hid (MT.next sE2 hb9).2.1
    clear sE2 hb9
    go_wp2
    go_ret
    exact ⟨rfl, hfin.out⟩

  have h3d : decide ((o : Int) ≤ out) = false := decide_eq_false hoo
  have hx0 : x = 0 := by rw [HRV.out, if_neg h1w, if_neg hon, if_neg hoo]
  obtain ⟨P, rfl, rfl, rfl, hnk, hnk', hX⟩ : ∃ P, RP = some ⟨P, 0, none⟩ ∧ ri = i ∧ ro = o ∧ NF = rk ∧ NF = rk' ∧ Ex w4 P NF (filT M wy out) := by
    rcases HRE.out with ⟨h, _⟩ | ⟨_, h2, h3, P, h4, h5, h6, h7⟩
    · exact absurd hx0 h
    · exact ⟨P, h4, h2, h3, h5.symm, h6.symm, h7⟩
  subst hnk hnk' hx0
  have HXP := Lib.hid hX
  have hw01 : wy = 0 ∨ wy = 1 := by omega
  clear HRE hX HRV
  have sE := S4.out
  obtain ⟨g0, g1, g2⟩ := BxM.cells (MK.get sE 1 rfl)
  go_wp2_with fail
  clear g0 g1 g2
  have CC := copy_any M R c1 w4 (MK.get sE 2 rfl) (by rw [hlen.out]; omega) (fun row hr => by have := V.out.len row hr; rw [hmi.out] at this; omega)
  rw [hmi.out, hmo.out, hlen.out] at CC
  have HCC := Lib.hid CC
  clear CC sE
  refine HCC.out.mono ?_
  rintro e w5 ⟨Pw0, kk, vs0, he5, hB5, hD5, hb5⟩
  rw [hmi.out, hmo.out, hlen.out] at he5
  rw [hlen.out] at hB5
  subst he5
  clear HCC
  obtain ⟨row0, hrow0⟩ : ∃ row, M.r[0]? = some row := ⟨_, List.getElem?_eq_getElem (by rw [hlen.out]; omega)⟩
  have hrow0l : 0 < row0.length := by have := V.out.len _ (List.mem_of_getElem? hrow0); have := V.out.i0; omega
  obtain ⟨Pw, rfl⟩ : ∃ Pw, Pw0 = some ⟨Pw, 0, none⟩ := by
    obtain ⟨p, _, _, h1, _⟩ := hB5.out.edge hrow0 (List.getElem?_eq_getElem hrow0l)
    exact ⟨p, h1⟩
  clear hrow0 hrow0l
  have hxT : BxM (w5.alloc (.cells #[.int .i64 i, .int .i64 o, .slice (some ⟨Pw, 0, none⟩) n kk] 24)) w5.heap.size i o (some ⟨Pw, 0, none⟩) n kk := heap_alloc_new w5 _
  have hB6 := hB5.out.below ((Below.refl _ _).alloc (Nat.le_refl _) (.cells #[.int .i64 i, .int .i64 o, .slice (some ⟨Pw, 0, none⟩) n kk] 24))
  have hb6 : Below w4.heap.size w4 (w5.alloc (.cells #[.int .i64 i, .int .i64 o, .slice (some ⟨Pw, 0, none⟩) n kk] 24)) := hb5.alloc hb5.size _
  have hTwl : w4.heap.size ≤ w5.heap.size := hb5.size
  go_upto_region 6 with fail
  obtain ⟨w6, hw⟩ : ∃ q, w5.alloc (.cells #[.int .i64 i, .int .i64 o, .slice (some ⟨Pw, 0, none⟩) n kk] 24) = q := ⟨_, rfl⟩
  obtain ⟨Tw, hT⟩ : ∃ T, w5.heap.size = T := ⟨_, rfl⟩
  rw [hT] at hxT hTwl
  rw [hw] at hxT hB6 hb6
  try rw [hw]
  try rw [hT]
  clear hw hT hb5 hB5
  obtain ⟨TT, hTT⟩ : ∃ TT, filR (tgtF wy n) out M.r = TT := ⟨_, rfl⟩
  have HTT := Lib.hid hTT
  have HTL : Hid (TT.length = M.r.length) := by show _ = _; rw [← hTT, filR_len]
  have HTA : Hid (∀ (s : Nat) (row : List Ed), M.r[s]? = some row → TT[s]? = some (row.map fun x => if x.1 = -1 then (tgtF wy n s, out) else x)) := fun s row h => by rw [← hTT]; exact filR_at h
  clear hTT
  obtain ⟨g0, g1, g2⟩ := BxM.cells (MK.get (MT.next S4.out hb6) 1 rfl)
  have HX6 := Lib.hid hxT
  have HBL6 : Hid (∃ vs, Bld w6 w4.heap.size (.slice (some ⟨Pw, 0, none⟩) n kk) (putK M.r TT 0 0) vs ∧ DstV vs) := ⟨vs0, by rw [putK_zero]; exact hB6, hD5.out⟩
  have HB6 := Lib.hid hb6
  clear hxT hB6 hb6 hD5
  go_wp2_with fail
  clear g0 g1 g2
  go_loopw [12] (fun v wr => ∃ s : Nat, s ≤ n ∧ v = .int .i64 s ∧ Hid (∃ vs, Bld wr w4.heap.size (.slice (some ⟨Pw, 0, none⟩) n kk) (putK M.r TT 0 s) vs ∧ DstV vs) ∧ Hid (BxM wr Tw i o (some ⟨Pw, 0, none⟩) n kk) ∧ Hid (Below w4.heap.size w4 wr)) (fun v _ => n - (intOf v).toNat)
  case atStart => exact ⟨0, Nat.zero_le _, rfl, HBL6, HX6, HB6⟩
  case round =>
    obtain ⟨s, hs, rfl, hBL, hBX, hbr⟩ := hrel
    clear HBL6 HX6 HB6
    by_cases hlt : s < n
    · have hlti : (s : Int) < n := by omega
      obtain ⟨row, hrow⟩ : ∃ row, M.r[s]? = some row := ⟨_, List.getElem?_eq_getElem (by rw [hlen.out]; exact hlt)⟩
      obtain ⟨rowT, hrowT⟩ : ∃ rowT, (row.map fun x => if x.1 = -1 then (tgtF wy n s, out) else x) = rowT := ⟨_, rfl⟩
      have HRO := Lib.hid hrow
      have HRT := Lib.hid hrowT
      have HRL : Hid (row.length = i) := by show _ = _; have := V.out.len _ (List.mem_of_getElem? hrow); rw [hmi.out] at this; omega
      have HRTL : Hid (rowT.length = row.length) := by show _ = _; rw [← hrowT, List.length_map]
      have HTS : Hid (TT[s]? = some rowT) := by show _ = _; rw [HTA.out s row hrow, hrowT]
      have hBL0 : Hid (∃ vs, Bld wr w4.heap.size (.slice (some ⟨Pw, 0, none⟩) n kk) (stJ M.r TT s rowT row 0) vs ∧ DstV vs) := by
        show ∃ _, _
        rw [st_zero HTL.out hrow]
        exact hBL.out
      clear hrow hrowT hBL
      go_wp2_with fail
      go_loopw [13] (fun v wr => ∃ j : Nat, j ≤ i ∧ v = .int .i64 j ∧ Hid (∃ vs, Bld wr w4.heap.size (.slice (some ⟨Pw, 0, none⟩) n kk) (stJ M.r TT s rowT row j) vs ∧ DstV vs) ∧ Hid (BxM wr Tw i o (some ⟨Pw, 0, none⟩) n kk) ∧ Hid (Below w4.heap.size w4 wr)) (fun v _ => i - (intOf v).toNat)
      case atStart => exact ⟨0, Nat.zero_le _, rfl, hBL0, hBX, hbr⟩
      case round =>
        clear hBL0 hBX hbr
        obtain ⟨j, hj, rfl, hBL, hBX, hbr⟩ := hrel
        obtain ⟨g0, g1, g2⟩ := BxM.cells (MK.get (MT.next S4.out hbr.out) 1 rfl)
        by_cases hjl : j < i
        · have hjli : (j : Int) < i := by omega
          have hsM : s < M.r.length := by rw [hlen.out]; exact hlt
          have hcl := curK_len (row := rowT) (old := row) (j := j) HRTL.out (by rw [HRTL.out, HRL.out]; omega)
          obtain ⟨⟨ex, ey⟩, hed⟩ : ∃ x : Ed, row[j]? = some x := ⟨_, List.getElem?_eq_getElem (by rw [HRL.out]; exact hjl)⟩
          have hcur : (curK rowT row j)[j]? = some (ex, ey) := by rw [curK_get HRTL.out (by rw [HRTL.out, HRL.out]; omega)]; exact hed
          have hTed : rowT[j]? = some (if ex = -1 then (tgtF wy n s, out) else (ex, ey)) := by rw [← HRT.out, List.getElem?_map, hed]; rfl
          obtain ⟨vs, hBd, hDv⟩ := hBL.out
          have hsAt := st_at (rs := M.r) (T := TT) (s := s) (rowT := rowT) (row := row) (j := j) HTL.out hsM
          obtain ⟨p9, g, cc, hpe, hp1, hp2, hg1, hg2, hpg, e0, e1, e2, f1, f2, hvs, hcells⟩ := hBd.edge hsAt hcur
          injection hpe with hpe
          injection hpe with hpe _ _
          subst hpe
          have hcli : (curK rowT row j).length = i := by rw [hcl, HRTL.out, HRL.out]
          rw [hcli] at e0 hvs
          have hgT : Tw ≠ g := fun e => by
            obtain ⟨cur, hc⟩ := hcells.out
            rw [← e, hBX.out] at hc
            injection hc with hc
            injection hc with _ hc _
            exact absurd hc (by decide)
          have HBd := Lib.hid hBd
          have HDv := Lib.hid hDv
          have HVS := Lib.hid hvs
          have HGB := Lib.hid hg1
          have HGS := Lib.hid hg2
          have HPB := Lib.hid hp2
          have HAT := Lib.hid hsAt
          have HCU := Lib.hid hcur
          have HTE := Lib.hid hTed
          have HED := Lib.hid hed
          have HGT := Lib.hid hgT
          have HPG := Lib.hid hpg
          have HCL := Lib.hid hcli
          clear hBd hDv hvs hg1 hg2 hp1 hp2 hpg hsAt hcur hTed hed hcells hBL hcl hgT hcli
          obtain ⟨t0, t1, t2⟩ := hBX.out.cells
          have hni : (n : Int) ≤ 6 := by omega
          by_cases hex : 0 ≤ ex
          · have hexd : decide (0 ≤ ex) = true := decide_eq_true hex
            have hN : Hid (∃ vs, Bld wr w4.heap.size (.slice (some ⟨Pw, 0, none⟩) n kk) (stJ M.r TT s rowT row (j + 1)) vs ∧ DstV vs) := by
              show ∃ _, _
              rw [st_skip (x := (ex, ey)) (by rw [HTE.out, if_neg (by omega)]) HED.out]
              exact ⟨vs, HBd.out, HDv.out⟩
            clear HBd HDv
            go_wp2_with fail
            clear e0 e1 e2 f1 f2 g0 g1 g2 t0 t1 t2
            go_roundw
            case rel => exact ⟨j + 1, by omega, by go_num, hN, hBX, hbr⟩
            case measure => simp [intOf]; omega
          · have hexd : decide (0 ≤ ex) = false := decide_eq_false hex
            have hex1 : ex = -1 := by
              rcases V.out.ok _ (List.mem_of_getElem? HRO.out) (ex, ey) (List.mem_of_getElem? HED.out) with ⟨h, _⟩ | ⟨h, _⟩
              · exact h
              · exact absurd h hex
            have HD : Hid (Below wr.heap.size wr wr.drew) := (Below.refl _ _).drew
            have HSS : Hid (∀ W : World, Below wr.heap.size wr W → (W.cell? ⟨Tw, 2, none⟩ = some (.slice (some ⟨Pw, 0, none⟩) n kk) ∧ W.cell? ⟨Pw, s, none⟩ = some (.slice (some ⟨g, 0, none⟩) i cc) ∧ W.frozen? ⟨g, j * 2, none⟩ = false ∧ W.frozen? ⟨g, j * 2 + 1, none⟩ = false ∧ W.cell? ⟨g, j * 2, none⟩ = some (.int .i64 ex) ∧ W.cell? ⟨g, j * 2 + 1, none⟩ = some (.int .i64 ey))) := fun W hb =>
              ⟨(hb.cell (p := ⟨Tw, 2, none⟩) (heap_lt hBX.out)).trans t2, (hb.cell (p := ⟨Pw, s, none⟩) HPB.out).trans e0, by rw [below_frz hb HGS.out]; exact f1, by rw [below_frz hb HGS.out]; exact f2, (hb.cell (p := ⟨g, j * 2, none⟩) HGS.out).trans e1, (hb.cell (p := ⟨g, j * 2 + 1, none⟩) HGS.out).trans e2⟩
            have HVC : Hid (vs[s]? = some (.slice (some ⟨g, 0, none⟩) (curK rowT row j).length cc)) := by show _ = _; rw [HCL.out]; exact HVS.out
            have hjc : j < (curK rowT row j).length := by rw [HCL.out]; exact hjl
            have HJC := Lib.hid hjc
            clear hjc
            have HS2 : Hid (∀ W : World, Below wr.heap.size wr W → (W.cell? ⟨Tw, 2, none⟩ = some (.slice (some ⟨Pw, 0, none⟩) n kk) ∧ W.cell? ⟨Pw, s, none⟩ = some (.slice (some ⟨g, 0, none⟩) i cc))) := fun W hb => ⟨(HSS.out W hb).1, (HSS.out W hb).2.1⟩
            have s0 := HS2.out _ (Below.refl _ _)
            have sD := HS2.out _ HD.out
            go_wp2_with fail
            go_region_held3 (fun W => (W.cell? ⟨Tw, 2, none⟩ = some (.slice (some ⟨Pw, 0, none⟩) n kk) ∧ W.cell? ⟨Pw, s, none⟩ = some (.slice (some ⟨g, 0, none⟩) i cc)))
              (first | (with_reducible exact s2) | (with_reducible exact s1) | (with_reducible exact s0) | (with_reducible exact sD) | go_keep)
              (first
                | (go_at_call 36
                   (with_reducible refine (jedge_any (s : Int) out _).mono ?_)
                   rintro e z1 ⟨rfl, hz1⟩
                   have t1 := Lib.hid (below_next HD.out hz1)
                   have s1 := HS2.out _ t1.out
                   obtain ⟨y0, y1, y2, y3, y4, y5⟩ := HSS.out _ t1.out
                   have s2 : ((z1.setCell ⟨g, j * 2, none⟩ (.int .i64 s)).setCell ⟨g, j * 2 + 1, none⟩ (.int .i64 out)).cell? ⟨Tw, 2, none⟩ = some (.slice (some ⟨Pw, 0, none⟩) n kk) ∧ ((z1.setCell ⟨g, j * 2, none⟩ (.int .i64 s)).setCell ⟨g, j * 2 + 1, none⟩ (.int .i64 out)).cell? ⟨Pw, s, none⟩ = some (.slice (some ⟨g, 0, none⟩) i cc) := ⟨(cell_farJ HGT.out _).trans ((cell_farJ HGT.out _).trans y0), (cell_farJ HPG.out _).trans ((cell_farJ HPG.out _).trans y1)⟩
                   dsimp only)
                | fail)
            have hBd1 := (HBd.out.below t1.out).setE (x := ((s : Int), out)) HDv.out HAT.out HJC.out HVC.out
            have hBX1 := ((hBX.out.mvB t1.out).farK (g' := g) (k := j * 2) HGT.out (.int .i64 s)).farK (g' := g) (k := j * 2 + 1) HGT.out (.int .i64 out)
            have hbr1 := ((below_next hbr.out t1.out).setCell (p := ⟨g, j * 2, none⟩) HGB.out (.int .i64 s)).setCell (p := ⟨g, j * 2 + 1, none⟩) HGB.out (.int .i64 out)
            obtain ⟨W2, hW2⟩ : ∃ W2, (z1.setCell ⟨g, j * 2, none⟩ (.int .i64 s)).setCell ⟨g, j * 2 + 1, none⟩ (.int .i64 out) = W2 := ⟨_, rfl⟩
            simp only [hW2] at hBd1 hBX1 hbr1
            have HBD1 := Lib.hid hBd1
            have HBX1 := Lib.hid hBX1
            have HBR1 := Lib.hid hbr1
            have hP2 : Hid (Pw < W2.heap.size ∧ W2.cell? ⟨Pw, s, none⟩ = some (.slice (some ⟨g, 0, none⟩) i cc) ∧ W2.frozen? ⟨g, j * 2, none⟩ = false) := by
              obtain ⟨p9, g9, cc9, hpe, _, hp2, _, _, _, e0', _, _, f1', _, hvs', _⟩ := hBd1.edge (s := s) (k := j) (row := (curK rowT row j).set j ((s : Int), out)) (x := (s : Int)) (y := out) (by rw [List.getElem?_set_self (List.getElem?_eq_some_iff.1 HAT.out).1]) (by rw [List.getElem?_set_self HJC.out])
              injection hpe with hpe
              injection hpe with hpe _ _
              subst hpe
              rw [HVS.out, List.length_set, HCL.out] at hvs'
              have hv9 := hvs'.out
              injection hv9 with hv9
              injection hv9 with hv9 _ hv8
              injection hv9 with hv9
              injection hv9 with hv9 _ _
              subst hv9 hv8
              rw [List.length_set, HCL.out] at e0'
              exact ⟨hp2, e0', f1'⟩
            clear hBd1 hBX1 hbr1 s0 sD s1 s2 y0 y1 y2 y3 y4 y5 e0 e1 e2 f1 f2 t0 t1 t2 g0 g1 g2
            by_cases hw1 : wy = 1
            · have hwb : (wy == 1) = true := by rw [beq_iff_eq]; exact hw1
              have HW1 := Lib.hid hw1
              clear hw1
              obtain ⟨t0, t1, t2⟩ := HBX1.out.cells
              obtain ⟨_, e0, f1⟩ := hP2.out
              have hst := HBD1.out.setToJ (s := s) (k := j) (g := g) (c := cc) (row := (curK rowT row j).set j ((s : Int), out)) (x := ((s : Int), out)) (y := (n : Int)) HDv.out (by rw [List.getElem?_set_self (List.getElem?_eq_some_iff.1 HAT.out).1]) (by rw [List.getElem?_set_self HJC.out]) (by rw [List.length_set, HCL.out]; exact HVS.out)
              rw [List.set_set, List.set_set, st_set (x := ((n : Int), out)) HRTL.out (by rw [HTE.out, if_pos hex1]; unfold tgtF; rw [if_pos HW1.out])] at hst
              have hN : Hid (∃ vs, Bld (W2.setCell ⟨g, j * 2, none⟩ (.int .i64 n)) w4.heap.size (.slice (some ⟨Pw, 0, none⟩) n kk) (stJ M.r TT s rowT row (j + 1)) vs ∧ DstV vs) := ⟨vs, hst, HDv.out⟩
              have hX2 := Lib.hid (HBX1.out.farK (g' := g) (k := j * 2) HGT.out (.int .i64 n))
              have hb2 := Lib.hid (HBR1.out.setCell (p := ⟨g, j * 2, none⟩) HGB.out (.int .i64 n))
              have hcl2 : W2.cell? ⟨g, j * 2, none⟩ = some (.int .i64 s) := by
                obtain ⟨p9, g9, cc9, hpe, _, hp2, _, _, _, e0', e1', _, f1', _, hvs', _⟩ := HBD1.out.edge (s := s) (k := j) (row := (curK rowT row j).set j ((s : Int), out)) (x := (s : Int)) (y := out) (by rw [List.getElem?_set_self (List.getElem?_eq_some_iff.1 HAT.out).1]) (by rw [List.getElem?_set_self HJC.out])
                have hv9 := hvs'.out
                rw [HVS.out] at hv9
                injection hv9 with hv9
                injection hv9 with hv9 _ _
                injection hv9 with hv9
                injection hv9 with hv9 _ _
                subst hv9
                exact e1'
              clear hst HBd HBD1
              go_wp2_with fail
              try rw [hW2]
              go_wp2_with fail
              clear hW2 t0 t1 t2 e0 f1 hcl2
              go_roundw
              case rel => exact ⟨j + 1, by omega, by go_num, hN, hX2, hb2⟩
              case measure => simp [intOf]; omega
            · have hwb : (wy == 1) = false := by rw [beq_eq_false_iff_ne]; exact hw1
              have HW1 := Lib.hid hw1
              clear hw1
              have hst := HBD1.out
              rw [st_set (x := ((s : Int), out)) HRTL.out (by rw [HTE.out, if_pos hex1]; unfold tgtF; rw [if_neg HW1.out])] at hst
              have hN : Hid (∃ vs, Bld W2 w4.heap.size (.slice (some ⟨Pw, 0, none⟩) n kk) (stJ M.r TT s rowT row (j + 1)) vs ∧ DstV vs) := ⟨vs, hst, HDv.out⟩
              clear hst HBd HBD1
              go_wp2_with fail
              try rw [hW2]
              clear hW2
              go_roundw
              case rel => exact ⟨j + 1, by omega, by go_num, hN, HBX1, HBR1⟩
              case measure => simp [intOf]; omega
        · have hjli : ¬ (j : Int) < i := by omega
          have hN : Hid (∃ vs, Bld wr w4.heap.size (.slice (some ⟨Pw, 0, none⟩) n kk) (putK M.r TT 0 (s + 1)) vs ∧ DstV vs) := by
            have h := hBL.out
            rw [show j = rowT.length by rw [HRTL.out, HRL.out]; omega, st_end HTL.out HRTL.out HTS.out] at h
            exact h
          clear hBL
          go_wp2_with fail
          clear g0 g1 g2
          go_roundw
          case rel => exact ⟨s + 1, by omega, by go_num, hN, hBX, hbr⟩
          case measure => simp [intOf]; omega
    · have hlti : ¬ (s : Int) < n := by omega
      obtain ⟨vs, hBd, hDv⟩ := hBL.out
      rw [show s = n by omega, show putK M.r TT 0 n = TT by rw [← hlen.out]; exact put_all HTL.out] at hBd
      have hFT : Hid (filT M wy out = TT ++ if wy = 1 ∧ Mc.cmpV M = false then [List.replicate i ((n : Int), out)] else []) := by
        show _ = _
        rw [filT_eq, hlen.out, HTT.out, hmi.out]
        rfl
      have hLT : Hid (NF = n + if wy = 1 ∧ Mc.cmpV M = false then 1 else 0) := by
        show _ = _
        rw [← HN9.out, filT_len, hlen.out]
      clear hBL hDv
      by_cases hw1 : wy = 1
      · have hwb : (wy == 1) = true := by rw [beq_iff_eq]; exact hw1
        obtain ⟨g0, g1, g2⟩ := BxM.cells (MK.get (MT.next S4.out hbr.out) 1 rfl)
        have hcm := complete_any M R c1 wr V.out (MK.get (MT.next S4.out hbr.out) 2 rfl)
        have hcv : ((Mc.dfd M.r : Int) == M.r.length * M.i) = Mc.cmpV M := by unfold Mc.cmpV; rw [if_pos (Mc.chk_of V.out)]
        rw [hcv, hmi.out, hmo.out, hlen.out] at hcm
        have HCM := Lib.hid hcm
        have HW1 := Lib.hid hw1
        have HBD := Lib.hid hBd
        clear hcm hcv hw1 hBd
        go_wp2_with fail
        refine HCM.out.mono ?_
        rintro e w7 ⟨rfl, hb7⟩
        have HB7 := Lib.hid (below_next hbr.out hb7)
        have HBX7 := Lib.hid (hBX.out.mvB hb7)
        have HBD7 := Lib.hid (HBD.out.below hb7)
        clear hb7 HCM hbr hBX HBD g0 g1 g2
        obtain ⟨cv, hcv⟩ : ∃ cv, Mc.cmpV M = cv := ⟨_, rfl⟩
        have HCV := Lib.hid hcv
        rw [hcv]
        clear hcv
        cases cv with
        | true =>
          obtain rfl : n = NF := by rw [hLT.out, if_neg (fun h => by rw [HCV.out] at h; cases h.2)]; rfl
          have HRW : Hid (RdR w7 (some ⟨Pw, 0, none⟩) (filT M wy out)) := by
            show RdR _ _ _
            rw [hFT.out, if_neg (fun h => by rw [HCV.out] at h; cases h.2), List.append_nil]
            exact HBD7.out.two
          have hbF := HB7.out
          have HBX := HBX7
          clear HBD7 HBX7 HB7
          have HBF := Lib.hid hbF
          clear hbF
          have sF := MT.next S4.out HBF.out
          obtain ⟨m0, m1, m2⟩ := BxM.cells (MK.get sF 0 rfl)
          obtain ⟨q0, q1, q2⟩ := HBX.out.cells
          go_wp2_with fail
          clear m0 m1 m2 q0 q1 q2
          refine (jmachine_yes i o (filT M wy out) P n kk _ _ (HXP.out.below HBF.out) HRW.out).mono ?_
          rintro e w10 ⟨rfl, hb10⟩
          have HB10 := Lib.hid (below_next HBF.out hb10)
          clear sF hb10 HBX HRW
          have sF := MT.next S4.out HB10.out
          obtain ⟨m0, m1, m2⟩ := BxM.cells (MK.get sF 0 rfl)
          have hcm := complete_any (filM M wy out) (some ⟨P, 0, none⟩) n w10 (fil_val V.out (by rw [hlen.out]; omega) hw01 (by rw [hmo.out]; omega)) (Ex.rd (HXP.out.below HB10.out))
          rw [show (filM M wy out).i = i from hmi.out, show (filM M wy out).o = o from hmo.out] at hcm
          have hcf := fil_cmp V.out hw01 (out := out) (by rw [hmo.out]; omega)
          rw [show (filM M wy out).i = i from hmi.out] at hcf
          rw [hcf, show (filM M wy out).r.length = n from HN9.out] at hcm
          have HCM := Lib.hid hcm
          clear hcm hcf
          go_wp2_with fail
          clear m0 m1 m2
          refine HCM.out.mono ?_
          rintro e w11 ⟨rfl, hb11⟩
          have HB11 := Lib.hid (below_next HB10.out hb11)
          clear sF hb11 HCM
          go_wp2_with fail
          refine (jlives_walk _).mono ?_
          rintro e w12 ⟨rfl, hb12⟩
          have hfin := Lib.hid (MT.next S4.out (below_next HB11.out hb12)).2.1
          clear hb12
          go_wp2
          go_ret
          exact ⟨rfl, hfin.out⟩
        | false =>
          obtain ⟨r0, hr0, hr1, hr2, hr3⟩ := info_parts row_info
          have hcnd : Hid (wy = 1 ∧ Mc.cmpV M = false) := ⟨HW1.out, HCV.out⟩
          obtain rfl : NF = n + 1 := by rw [hLT.out, if_pos hcnd.out]
          have hni : (n : Int) ≤ 6 := by omega
          go_wp2_with fail
          go_loopw [14, 15] (fun u v wr => ∃ (k : Nat) (xs : List Ed), k ≤ i ∧ v = .int .i64 k ∧ Hid (xs = List.replicate k ((n : Int), out)) ∧ wr.ownsRow w7.heap.size 27 2 u xs.length (eC xs) ∧ Hid (0 < k → u ≠ .slice none 0 0) ∧ Hid (Below w7.heap.size w7 wr)) (fun _ v _ => i - (intOf v).toNat)
          case atStart => exact ⟨0, [], Nat.zero_le _, rfl, rfl, World.ownsRow_nil _ _ _ _, fun h => absurd h (Nat.lt_irrefl _), Below.refl _ _⟩
          case round =>
            obtain ⟨k, xs, hk, rfl, hxs, hown, hnn, hb⟩ := hrel
            have hxl : Hid (xs.length = k) := by show _ = _; rw [hxs.out, List.length_replicate]
            obtain ⟨g0, g1, g2⟩ := BxM.cells (MK.get (MT.next S4.out (below_next HB7.out hb.out)) 1 rfl)
            by_cases hkl : k < i
            · have hkli : (k : Int) < i := by omega
              go_wp2_with fail
              refine (jedge_any (n : Int) out _).mono ?_
              rintro e w8 ⟨rfl, hb8⟩
              have hown8 := own_below hown hb8
              have hbb := below_next hb.out hb8
              have hsz := hbb.size
              have hxl6 : xs.length ≤ 1000000 := by have := hxl.out; omega
              have hN : Hid (xs ++ [((n : Int), out)] = List.replicate (k + 1) ((n : Int), out)) := by show _ = _; rw [hxs.out, List.replicate_succ']
              clear hown hb8 g0 g1 g2
              go_wp2_with (at_builtin; refine wpList_append_edge _ (n : Int) out hown8 hxl6 hsz hbb rfl _ _ rfl rfl rfl ?_)
              intro v1 wr1 hown1 hnn1 hb1
              have HBB := Lib.hid hb1
              have HNN := Lib.hid (fun (_ : 0 < k + 1) => hnn1)
              clear hown8 hbb hsz hb1 hnn1 hb
              go_wp2
              go_roundw
              case rel => exact ⟨k + 1, _, by omega, by go_num, hN, (by rw [List.length_append]; exact hown1), HNN, HBB⟩
              case measure => simp [intOf]; omega
            · have hkli : ¬ (k : Int) < i := by omega
              have hki : k = i := by omega
              have hxi : Hid (xs = List.replicate i ((n : Int), out)) := by show _ = _; rw [hxs.out, hki]
              have hxk : xs.length = i := by have := hxl.out; omega
              rw [hxk] at hown
              obtain ⟨gq, cq, rfl, hcq⟩ := edge_form hown (hnn.out (by omega))
              have HXK := Lib.hid hxk
              have HBL := Lib.hid (HBD7.out.below hb.out)
              have HBX8 := Lib.hid (HBX7.out.mvB hb.out)
              have HB8 := Lib.hid (below_next HB7.out hb.out)
              have hown' := own_base hown (show w4.heap.size ≤ w7.heap.size from HB7.out.size)
              have HOW := Lib.hid hown'
              clear hxl hxk hxs hnn hki hown hown'
              have hS1 := Lib.hid (cell_one_new wr (t := 29) (.slice (some ⟨gq, 0, none⟩) i cq))
              have hts : TT.length = n := by rw [HTL.out, hlen.out]
              have hown17 := (HBL.out.1.alloc (.cells #[.slice (some ⟨gq, 0, none⟩) i cq] 29))
              rw [hts] at hown17
              have hS2 : Hid (∀ u ∈ ([.slice (some ⟨gq, 0, none⟩) i cq] : List Value), u.oneCell' = true) := fun u hu => by simp at hu; subst hu; rfl
              have hS3 : n + 1 ≤ maxLen := by unfold maxLen; omega
              have hS4 : (n + 1) * 24 ≤ 140737488355328 := by omega
              have hS5 : w4.heap.size ≤ (wr.alloc (.cells #[.slice (some ⟨gq, 0, none⟩) i cq] 29)).heap.size := by have := HB8.out.size; simp; omega
              have HTS := Lib.hid hts
              obtain ⟨q0, q1, q2⟩ := HBX8.out.cells
              clear hts
              go_wp2_with (at_builtin; refine wpList_append_own _ rfl _ _ 22 rfl (w4.heap.size) 29 r0 (.slice none 0 0) 1 24 Try.underlying22 hr0 hr1 hr2 hr3 rfl (by decide) _ _ _ rfl hown17 ⟨wr.heap.size, 0, none⟩ 1 1 [.slice (some ⟨gq, 0, none⟩) i cq] rfl rfl hS1.out hS2.out hS3 hS4 hS5 ?_)
              intro v1 w9 hown1 hg1 hnil1
              have hTP : some Tw ≠ (Value.slice (some ⟨Pw, 0, none⟩) n kk).ownBlock := fun e => by
                rcases own_notJ HBL.out.1 HBX8.out (show (24 : TypeId) ≠ 29 by decide) with h | h
                · rw [h] at e; cases e
                · exact h e.symm
              have hBX9 : BxM w9 Tw i o (some ⟨Pw, 0, none⟩) n kk := by
                show _ = _
                rw [hg1.block Tw (by have := heap_lt HBX8.out; simp; omega) hTP, heap_alloc_old wr _ (heap_lt HBX8.out)]
                exact HBX8.out
              have hpush := HBL.out.push (row := xs) (g := gq) (c := cq) (V1 := v1) (w1 := w9) (o := .cells #[.slice (some ⟨gq, 0, none⟩) i cq] 29) (by unfold OwR; rw [HXK.out]; exact HOW.out) (by rw [HTS.out, HXK.out]; exact hown1) hg1
              obtain ⟨A1, kk9, rfl, _, _, _, _⟩ := hpush.rd
              have hl1 : (TT ++ [xs]).length = n + 1 := by rw [List.length_append, HTS.out]; rfl
              rw [hl1] at hpush ⊢
              have HRW : Hid (RdR (w9.setCell ⟨Tw, 2, none⟩ (.slice A1 (n + 1) kk9)) A1 (filT M wy out)) := by
                show RdR _ _ _
                rw [hFT.out, if_pos hcnd.out, ← hxi.out]
                exact (hpush.farJ hBX9 _).two
              have HBX := Lib.hid (hBX9.set2 (A' := A1) (n' := n + 1) (c' := kk9))
              have hbF : Below w4.heap.size w4 (w9.setCell ⟨Tw, 2, none⟩ (.slice A1 (n + 1) kk9)) :=
                ((HB8.out.alloc HB8.out.size (.cells #[.slice (some ⟨gq, 0, none⟩) i cq] 29)).grown hg1 hS5 (fun j hj => by have := (hown17.lt _ hj).1; omega)).setCell (p := ⟨Tw, 2, none⟩) hTwl _
              have q2' := hBX9.cells.2.2
              obtain ⟨f0, f1, f2⟩ := BxM.frozen hBX9
              obtain ⟨wF, hwF⟩ : ∃ wF, w9.setCell ⟨Tw, 2, none⟩ (.slice A1 (n + 1) kk9) = wF := ⟨_, rfl⟩
              rw [hwF] at HRW HBX hbF
              clear hown1 hg1 hpush hown17 hS1 hS2 hS3 hS4 hS5 hTP hBX9 HBL HBX8 HOW q0 q1 q2 hl1 g0 g1 g2 hb
              go_upto_region 24 with fail
              try rw [hwF]
              clear hwF q2' f0 f1 f2
              have HBF := Lib.hid hbF
              clear hbF
              have sF := MT.next S4.out HBF.out
              obtain ⟨m0, m1, m2⟩ := BxM.cells (MK.get sF 0 rfl)
              obtain ⟨q0, q1, q2⟩ := HBX.out.cells
              go_wp2_with fail
              clear m0 m1 m2 q0 q1 q2
              refine (jmachine_yes i o (filT M wy out) P (n + 1) kk9 _ _ (HXP.out.below HBF.out) HRW.out).mono ?_
              rintro e w10 ⟨rfl, hb10⟩
              have HB10 := Lib.hid (below_next HBF.out hb10)
              clear sF hb10 HBX HRW
              have sF := MT.next S4.out HB10.out
              obtain ⟨m0, m1, m2⟩ := BxM.cells (MK.get sF 0 rfl)
              have hcm := complete_any (filM M wy out) (some ⟨P, 0, none⟩) (n + 1) w10 (fil_val V.out (by rw [hlen.out]; omega) hw01 (by rw [hmo.out]; omega)) (Ex.rd (HXP.out.below HB10.out))
              rw [show (filM M wy out).i = i from hmi.out, show (filM M wy out).o = o from hmo.out] at hcm
              have hcf := fil_cmp V.out hw01 (out := out) (by rw [hmo.out]; omega)
              rw [show (filM M wy out).i = i from hmi.out] at hcf
              rw [hcf, show (filM M wy out).r.length = (n + 1) from HN9.out] at hcm
              have HCM := Lib.hid hcm
              clear hcm hcf
              go_wp2_with fail
              clear m0 m1 m2
              refine HCM.out.mono ?_
              rintro e w11 ⟨rfl, hb11⟩
              have HB11 := Lib.hid (below_next HB10.out hb11)
              clear sF hb11 HCM
              go_wp2_with fail
              refine (jlives_walk _).mono ?_
              rintro e w12 ⟨rfl, hb12⟩
              have hfin := Lib.hid (MT.next S4.out (below_next HB11.out hb12)).2.1
              clear hb12
              go_wp2
              go_ret
              exact ⟨rfl, hfin.out⟩
      · have hwb : (wy == 1) = false := by rw [beq_eq_false_iff_ne]; exact hw1
        obtain rfl : n = NF := by rw [hLT.out, if_neg (fun h => hw1 h.1)]; rfl
        have HRW : Hid (RdR wr (some ⟨Pw, 0, none⟩) (filT M wy out)) := by
          show RdR _ _ _
          rw [hFT.out, if_neg (fun h => hw1 h.1), List.append_nil]
          exact hBd.two
        have hbF := hbr.out
        have HBX := hBX
        clear hBd hbr hBX hw1
        have HBF := Lib.hid hbF
        clear hbF
        have sF := MT.next S4.out HBF.out
        obtain ⟨m0, m1, m2⟩ := BxM.cells (MK.get sF 0 rfl)
        obtain ⟨q0, q1, q2⟩ := HBX.out.cells
        go_wp2_with fail
        clear m0 m1 m2 q0 q1 q2
        refine (jmachine_yes i o (filT M wy out) P n kk _ _ (HXP.out.below HBF.out) HRW.out).mono ?_
        rintro e w10 ⟨rfl, hb10⟩
        have HB10 := Lib.hid (below_next HBF.out hb10)
        clear sF hb10 HBX HRW
        have sF := MT.next S4.out HB10.out
        obtain ⟨m0, m1, m2⟩ := BxM.cells (MK.get sF 0 rfl)
        have hcm := complete_any (filM M wy out) (some ⟨P, 0, none⟩) n w10 (fil_val V.out (by rw [hlen.out]; omega) hw01 (by rw [hmo.out]; omega)) (Ex.rd (HXP.out.below HB10.out))
        rw [show (filM M wy out).i = i from hmi.out, show (filM M wy out).o = o from hmo.out] at hcm
        have hcf := fil_cmp V.out hw01 (out := out) (by rw [hmo.out]; omega)
        rw [show (filM M wy out).i = i from hmi.out] at hcf
        rw [hcf, show (filM M wy out).r.length = n from HN9.out] at hcm
        have HCM := Lib.hid hcm
        clear hcm hcf
        go_wp2_with fail
        clear m0 m1 m2
        refine HCM.out.mono ?_
        rintro e w11 ⟨rfl, hb11⟩
        have HB11 := Lib.hid (below_next HB10.out hb11)
        clear sF hb11 HCM
        go_wp2_with fail
        refine (jlives_walk _).mono ?_
        rintro e w12 ⟨rfl, hb12⟩
        have hfin := Lib.hid (MT.next S4.out (below_next HB11.out hb12)).2.1
        clear hb12
        go_wp2
        go_ret
        exact ⟨rfl, hfin.out⟩
end Go.Proofs.Ytcbmohcjmofomaa
