/-
  The walk of the law JoinsRename. No statement is proved here.
-/
import Derived.Test.YtgafpmgdpigliaaJb2
import Derived.Test.YtgafpmgdpigliaaJnB
import Derived.Test.YtgafpmgdpigliaaJk0
import Derived.Deep.RegionHeld3
import Derived.Deep.CutRange
import Derived.Deep.QuietTactic
namespace Go.Proofs.Ytgafpmgdpigliaa
open Go.RowKit
open Mc (Ed Ma)

theorem run_outQ {m : Ma} (v : Mc.Val m) : ∀ (w : List Int) (s : Int), Mc.St m s → Mc.Wd m w → ∀ x ∈ Mc.run m s w, -1 ≤ x ∧ x < m.o
  | [], _, _, _, x, hx => by cases hx
  | c :: w, s, hs, hw, x, hx => by
    have h := Mc.nx_st v hs (hw c (by simp))
    rcases List.mem_cons.1 (show x ∈ (Mc.nx m s c).2 :: Mc.run m (Mc.nx m s c).1 w from hx) with rfl | hx
    · exact ⟨h.2.2.1, h.2.2.2.1⟩
    · exact run_outQ v w _ h.1 (fun d hd => hw d (by simp [hd])) x hx
theorem mul01 {p q : Int} (hp : p = 0 ∨ p = 1) (hq : q = 0 ∨ q = 1) : IntKind.i64.wrap (p * q) = p * q ∧ (p * q = 0 ∨ p * q = 1) := by
  rcases hp with rfl | rfl <;> rcases hq with rfl | rfl <;> exact ⟨by decide, by decide⟩
set_option maxRecDepth 100000 in
set_option maxHeartbeats 4000000 in
theorem jren_walk (a b d : Int) (p : Bool) (A : Option Addr) (c : Nat) (es : List Int) (I O S : Option Addr) (cI cO cS : Nat) (ins outs sts : List Int) (B1 : Option Addr) (e1 : Nat) (ws : List Int) (w : World)
    (hr : Rd16 w A es) (hl : es.length ≤ 9223372036854775807) (ha : 0 ≤ a ∧ a ≤ 255) (hb : 0 ≤ b ∧ b ≤ 255) (hd : 0 ≤ d ∧ d ≤ 255) (hI : Rd w I ins) (hO : Rd w O outs) (hS : Rd w S sts) (hr8 : Rd8 w B1 ws) (hlw : ws.length ≤ 9223372036854775807) :
    Calls Try.prog 5 #[.agg #[.int .u8 a, .int .u8 b, .int .u8 d, .bool p, .slice A es.length c], .agg #[.slice I ins.length cI, .slice O outs.length cO, .slice S sts.length cS], .agg #[.slice B1 ws.length e1]] w fun e w' => e = .returned (.bool true) ∧ Below w.heap.size w w' := by
  obtain ⟨E1, hE1⟩ : ∃ E, es.length = E := ⟨_, rfl⟩
  obtain ⟨n, hn⟩ : ∃ n : Nat, 1 + a % 6 = n := ⟨(1 + a % 6).toNat, by omega⟩
  obtain ⟨i, hi⟩ : ∃ i : Nat, 1 + b % 3 = i := ⟨(1 + b % 3).toNat, by omega⟩
  obtain ⟨o, ho⟩ : ∃ o : Nat, 1 + d % 3 = o := ⟨(1 + d % 3).toNat, by omega⟩
  have CM := fun w hr => mofB_at a b d p A c es n i o w hr hl ha hb hd hn hi ho
  have hn6 : n ≤ 6 := by omega
  have hn1 : 1 ≤ n := by omega
  have hi1 : 1 ≤ i := by omega
  have hi3 : i ≤ 3 := by omega
  have ho1 : 1 ≤ o := by omega
  have ho3 : o ≤ 3 := by omega
  have V := Lib.hid (Mc.mkN_val (p := p) (n := n) (i := i) (o := o) (es := es) (by omega) (by omega) (by omega) (by omega) (by omega) (by omega))
  have hlen : Hid ((Mc.mkN p n i o es).r.length = n) := Mc.mkN_len _ _ _ _ _
  have hmi : Hid ((Mc.mkN p n i o es).i = i) := rfl
  have hmo : Hid ((Mc.mkN p n i o es).o = o) := rfl
  obtain ⟨M, hM⟩ : ∃ M, Mc.mkN p n i o es = M := ⟨_, rfl⟩
  rw [hM] at V hlen hmi hmo
  simp only [hM, hE1] at CM
  have HR := Lib.hid hr
  rw [hE1]
  obtain ⟨F1, hF1⟩ : ∃ E, ws.length = E := ⟨_, rfl⟩
  have HF1 := Lib.hid hF1
  have HLW := Lib.hid hlw
  have HR8 := Lib.hid hr8
  rw [hF1]
  obtain ⟨L0, hL0⟩ : ∃ L, ins.length = L := ⟨_, rfl⟩
  obtain ⟨L1, hL1⟩ : ∃ L, outs.length = L := ⟨_, rfl⟩
  obtain ⟨L2, hL2⟩ : ∃ L, sts.length = L := ⟨_, rfl⟩
  have HI := Lib.hid hI
  have HO := Lib.hid hO
  have HS := Lib.hid hS
  have HL0 := Lib.hid hL0
  have HL1 := Lib.hid hL1
  have HL2 := Lib.hid hL2
  rw [hL0, hL1, hL2]
  clear hF1 hlw hr8 hI hO hS hL0 hL1 hL2
  clear hM ha hb hd hn hi ho hl hr hE1
  obtain ⟨K0, hK0⟩ : ∃ K0, w.heap.size = K0 := ⟨_, rfl⟩
  have hB0 : Below w.heap.size w (((w.alloc (.cells #[.int .u8 a, .int .u8 b, .int .u8 d, .bool p, .slice A E1 c] 40)).alloc (.cells #[.slice I L0 cI, .slice O L1 cO, .slice S L2 cS] 68)).alloc (.cells #[.slice B1 F1 e1] 48)) := (((Below.refl _ _).alloc (Nat.le_refl _) _).alloc (by simp) _).alloc (by simp; omega) _
  have hX0 : BxX (((w.alloc (.cells #[.int .u8 a, .int .u8 b, .int .u8 d, .bool p, .slice A E1 c] 40)).alloc (.cells #[.slice I L0 cI, .slice O L1 cO, .slice S L2 cS] 68)).alloc (.cells #[.slice B1 F1 e1] 48)) K0 a b d p A E1 c := by
    have h : BxX (w.alloc (.cells #[.int .u8 a, .int .u8 b, .int .u8 d, .bool p, .slice A E1 c] 40)) K0 a b d p A E1 c := by rw [← hK0]; exact heap_alloc_new w _
    exact (h.below ((Below.refl _ _).alloc (Nat.le_refl _) _)).below ((Below.refl _ _).alloc (Nat.le_refl _) _)
  have hN0 : BxN (((w.alloc (.cells #[.int .u8 a, .int .u8 b, .int .u8 d, .bool p, .slice A E1 c] 40)).alloc (.cells #[.slice I L0 cI, .slice O L1 cO, .slice S L2 cS] 68)).alloc (.cells #[.slice B1 F1 e1] 48)) (K0 + 1) I L0 cI O L1 cO S L2 cS := by
    have h : BxN ((w.alloc (.cells #[.int .u8 a, .int .u8 b, .int .u8 d, .bool p, .slice A E1 c] 40)).alloc (.cells #[.slice I L0 cI, .slice O L1 cO, .slice S L2 cS] 68)) (K0 + 1) I L0 cI O L1 cO S L2 cS := by
      have h := heap_alloc_new (w.alloc (.cells #[.int .u8 a, .int .u8 b, .int .u8 d, .bool p, .slice A E1 c] 40)) (.cells #[.slice I L0 cI, .slice O L1 cO, .slice S L2 cS] 68)
      rw [World.size_alloc, hK0] at h
      exact h
    exact h.below ((Below.refl _ _).alloc (Nat.le_refl _) _)
  have hZ0 : (((w.alloc (.cells #[.int .u8 a, .int .u8 b, .int .u8 d, .bool p, .slice A E1 c] 40)).alloc (.cells #[.slice I L0 cI, .slice O L1 cO, .slice S L2 cS] 68)).alloc (.cells #[.slice B1 F1 e1] 48)).heap[K0 + 1 + 1]? = some (.cells #[.slice B1 F1 e1] 48) := by
    have h := heap_alloc_new ((w.alloc (.cells #[.int .u8 a, .int .u8 b, .int .u8 d, .bool p, .slice A E1 c] 40)).alloc (.cells #[.slice I L0 cI, .slice O L1 cO, .slice S L2 cS] 68)) (.cells #[.slice B1 F1 e1] 48)
    rw [World.size_alloc, World.size_alloc, hK0] at h
    exact h
  go_enter Try.func5, Try.ntmps5
  go_upto_region 1 with fail
  obtain ⟨W0, hW0⟩ : ∃ W0, (((w.alloc (.cells #[.int .u8 a, .int .u8 b, .int .u8 d, .bool p, .slice A E1 c] 40)).alloc (.cells #[.slice I L0 cI, .slice O L1 cO, .slice S L2 cS] 68)).alloc (.cells #[.slice B1 F1 e1] 48)) = W0 := ⟨_, rfl⟩
  rw [hW0] at hB0 hX0 hN0 hZ0
  try rw [hW0]
  try rw [hK0]
  have HX := Lib.hid hX0
  have HB0 := Lib.hid hB0
  have HN := Lib.hid hN0
  have HZ := Lib.hid hZ0
  clear hW0 hK0 hB0 hX0 hZ0 hN0
  obtain ⟨n0, n1, n2⟩ := HN.out.cells
  by_cases h70 : 70 < L0
  · have h70d : decide ((70 : Int) < L0) = true := decide_eq_true (by omega)
    have h70i : (70 : Int) < L0 := by omega
    have hfin := HB0
    clear HX HZ CM HR HN
    go_wp2_with fail
    go_ret
    exact ⟨rfl, hfin.out⟩
  have h70d : decide ((70 : Int) < L0) = false := decide_eq_false (by omega)
  have h70i : ¬ (70 : Int) < L0 := by omega
  by_cases h71 : 70 < L1
  · have h71d : decide ((70 : Int) < L1) = true := decide_eq_true (by omega)
    have h71i : (70 : Int) < L1 := by omega
    have hfin := HB0
    clear HX HZ CM HR HN
    go_wp2_with fail
    go_ret
    exact ⟨rfl, hfin.out⟩
  have h71d : decide ((70 : Int) < L1) = false := decide_eq_false (by omega)
  have h71i : ¬ (70 : Int) < L1 := by omega
  by_cases h72 : 70 < L2
  · have h72d : decide ((70 : Int) < L2) = true := decide_eq_true (by omega)
    have h72i : (70 : Int) < L2 := by omega
    have hfin := HB0
    clear HX HZ CM HR HN
    go_wp2_with fail
    go_ret
    exact ⟨rfl, hfin.out⟩
  have h72d : decide ((70 : Int) < L2) = false := decide_eq_false (by omega)
  have h72i : ¬ (70 : Int) < L2 := by omega
  obtain ⟨a0, a1, a2, a3, a4⟩ := HX.out.cells
  go_wp2_with fail
  clear a0 a1 a2 a3 a4 n0 n1 n2 h70d h70i h71d h71i h72d h72i
  refine (CM _ (HR.out.below HB0.out)).mono ?_
  rintro e w1 ⟨R, c1, vsR, rfl, hBR, hb1⟩
  have s1 : MT w w1 [] := MT.next (MT.next MT.start HB0.out) hb1
  have s2 := MK.putR s1 hBR.out.two
  have s2 := MT.putK (P := fun w => BxN w (K0 + 1) I L0 cI O L1 cO S L2 cS) s2 (HN.out.below hb1) (fun _ _ h hb => h.below hb)
  have s2 := MT.putK (P := fun w => w.heap[K0 + 1 + 1]? = some (.cells #[.slice B1 F1 e1] 48)) s2 ((hb1.block _ (heap_lt HZ.out)).trans HZ.out) (fun _ _ h hb => (hb.block _ (heap_lt h)).trans h)
  have s3 := MK.putB (g := w1.heap.size) (MT.alloc s2 (.cells #[.int .i64 i, .int .i64 o, .slice R n c1] 24)) (heap_alloc_new w1 _)
  clear s1 s2 hBR hb1 CM HR HX HB0 HZ HN
  go_upto_region 4 with fail
  obtain ⟨w2, hw⟩ : ∃ q, w1.alloc (.cells #[.int .i64 i, .int .i64 o, .slice R n c1] 24) = q := ⟨_, rfl⟩
  obtain ⟨G, hG⟩ : ∃ G, w1.heap.size = G := ⟨_, rfl⟩
  rw [hw, hG] at s3
  try rw [hw]
  try rw [hG]
  clear hw hG
  -- 0: G, 1: the word's box, 2: the lists' box, 3: M.r
  obtain ⟨x, hx⟩ : ∃ x, xR M ins outs sts = x := ⟨_, rfl⟩
  have HXX := Lib.hid hx
  have HRW : Hid (∀ row ∈ M.r, row.length ≤ 1000000) := fun row hr => by have := V.out.len row hr; have := V.out.i1; omega
  have hit : Hid (M.i.toNat = i) := by show _ = _; rw [hmi.out, Int.toNat_natCast]
  have CRs : Hid (∀ wr, RdR wr R M.r → Rd wr I ins → Rd wr O outs → Rd wr S sts → Calls Try.prog 26 #[.agg #[.int .i64 i, .int .i64 o, .slice R n c1], .slice I L0 cI, .slice O L1 cO, .slice S L2 cS] wr fun e w' => ∃ (ri ro : Int) (RP : Option Addr) (rk rk' : Nat), e = .returned (.tuple #[.agg #[.int .i64 ri, .int .i64 ro, .slice RP rk rk'], .int .i64 x]) ∧ Hid ((x ≠ 0 ∧ ri = 0 ∧ ro = 0 ∧ RP = none ∧ rk = 0 ∧ rk' = 0) ∨ (x = 0 ∧ ri = i ∧ ro = o ∧ ∃ P, RP = some ⟨P, 0, none⟩ ∧ rk = n ∧ rk' = n ∧ Ex w' P n (renM M ins outs sts).r)) ∧ Below wr.heap.size wr w') := fun wr hR hI hO hS => by
    have h := rename_any M R n c1 ins outs sts I O S L0 cI L1 cO L2 cS wr hR hlen.out (by omega) HRW.out hI HL0.out hO HL1.out hS HL2.out (by omega) (by omega) (by omega)
    have hnn : renT M ins outs sts n M.i.toNat = (renM M ins outs sts).r := by rw [← hlen.out]; rfl
    rw [hnn, hmi.out, hmo.out, kech_x V.out, HXX.out] at h
    refine h.mono fun e w' h => ?_
    rcases h with ⟨h1, rfl, h2⟩ | ⟨h1, h2⟩
    · exact ⟨0, 0, none, 0, 0, rfl, Or.inl ⟨h1, rfl, rfl, rfl, rfl, rfl⟩, h2⟩
    · have hRn := (xR_zero V.out (HXX.out.trans h1)).1
      have VR := rn_val hRn
      obtain ⟨P, rfl, hX, hb⟩ := JeP.ok (Or.inr ⟨h1, h2⟩) h1 (rn_len.trans hlen.out) (by omega) (fun row hr => by
        have h3 := VR.len row hr
        have h4 := VR.i1
        omega)
      exact ⟨_, _, _, _, _, by rw [h1], Or.inr ⟨h1, rfl, rfl, P, rfl, rfl, rfl, hX⟩, hb⟩
  clear hx
  have HI2 := Lib.hid (HI.out.below s3.2.1)
  have HO2 := Lib.hid (HO.out.below s3.2.1)
  have HS2 := Lib.hid (HS.out.below s3.2.1)
  obtain ⟨m0, m1, m2⟩ := BxM.cells (MK.get s3 0 rfl)
  obtain ⟨n0, n1, n2⟩ := BxN.cells (MK.get s3 2 rfl)
  go_wp2_with fail
  clear m0 m1 m2 n0 n1 n2
  refine (CRs.out _ (MK.get s3 3 rfl) HI2.out HO2.out HS2.out).mono ?_
  rintro e w3 ⟨ri, ro, RP, rk, rk', rfl, hRE, hb3⟩
  have s4 := MK.putB (g := w3.heap.size) (MT.alloc (MT.next s3 hb3) (.cells #[.int .i64 ri, .int .i64 ro, .slice RP rk rk'] 24)) (heap_alloc_new w3 _)
  have hRE2 : Hid ((x ≠ 0 ∧ ri = 0 ∧ ro = 0 ∧ RP = none ∧ rk = 0 ∧ rk' = 0) ∨ (x = 0 ∧ ri = i ∧ ro = o ∧ ∃ P, RP = some ⟨P, 0, none⟩ ∧ rk = n ∧ rk' = n ∧ Ex (w3.alloc (.cells #[.int .i64 ri, .int .i64 ro, .slice RP rk rk'] 24)) P n (renM M ins outs sts).r)) := by
    rcases hRE.out with h | ⟨h1, h2, h3, P, h4, h5, h6, h7⟩
    · exact Or.inl h
    · exact Or.inr ⟨h1, h2, h3, P, h4, h5, h6, h7.below ((Below.refl _ _).alloc (Nat.le_refl _) _)⟩
  clear s3 hb3 hRE CRs HI2 HO2 HS2
  go_upto_region 5 with fail
  obtain ⟨w4, hw⟩ : ∃ q, w3.alloc (.cells #[.int .i64 ri, .int .i64 ro, .slice RP rk rk'] 24) = q := ⟨_, rfl⟩
  obtain ⟨T, hT⟩ : ∃ T, w3.heap.size = T := ⟨_, rfl⟩
  rw [hT, hw] at s4
  rw [hw] at hRE2
  try rw [hw]
  try rw [hT]
  have HRE := hRE2
  clear hw hT hRE2
  have S4 := Lib.hid s4
  clear s4
  -- 0: T, 1: G, 2: the word's box, 3: the lists' box, 4: M.r
  have HI4 := Lib.hid (HI.out.below S4.out.2.1)
  have HO4 := Lib.hid (HO.out.below S4.out.2.1)
  have HS4 := Lib.hid (HS.out.below S4.out.2.1)
  clear HI HO HS
  have HRV : Hid (x = if (L0 : Int) ≠ i ∨ (L1 : Int) ≠ o ∨ L2 ≠ n then 16 else if permV ins * permV outs * permV sts = 0 ∨ sts[0]? ≠ some 0 then 1 else 0) := by
    show _ = _
    rw [← HXX.out]
    unfold xR
    rw [HL0.out, HL1.out, HL2.out, hmi.out, hmo.out, hlen.out]
  have sE := S4.out
  by_cases hq0 : (L0 : Int) = i
  case neg =>
    have hq0b : ((L0 : Int) != i) = true := by rw [bne_iff_ne]; exact hq0
    have h : (L0 : Int) ≠ i := hq0
    have hxz : x = 16 := by rw [HRV.out, if_pos (Or.inl h)]
    subst hxz
    obtain ⟨rfl, rfl, rfl, rfl, rfl⟩ : ri = 0 ∧ ro = 0 ∧ RP = none ∧ rk = 0 ∧ rk' = 0 := by
      rcases HRE.out with ⟨_, h⟩ | ⟨h, _⟩
      · exact h
      · exact absurd h (by decide)
    clear HRE
    obtain ⟨m0, m1, m2⟩ := BxM.cells (MK.get sE 0 rfl)
    obtain ⟨g0, g1, g2⟩ := BxM.cells (MK.get sE 1 rfl)
    obtain ⟨n0, n1, n2⟩ := BxN.cells (MK.get sE 3 rfl)
    go_wp2_with fail
    clear m0 m1 m2 g0 g1 g2 n0 n1 n2
    clear hq0b h
    refine (nothing_yes 16 _).mono ?_
    rintro e w8 ⟨rfl, hb8⟩
    have sE2 := MT.next sE hb8
    clear sE hb8
    go_wp2_with fail
    refine (jlives_walk _).mono ?_
    rintro e w9 ⟨rfl, hb9⟩
    have hfin := Lib.hid (MT.next sE2 hb9).2.1
    clear sE2 hb9
    go_wp2
    go_ret
    exact ⟨rfl, hfin.out⟩
  have hq0b : ((L0 : Int) != i) = false := by rw [hq0]; exact bne_self_eq_false _
  have HQ0 : Hid (L0 = i) := by show _ = _; omega
  clear hq0
  by_cases hq1 : (L1 : Int) = o
  case neg =>
    have hq1b : ((L1 : Int) != o) = true := by rw [bne_iff_ne]; exact hq1
    have h : (L1 : Int) ≠ o := hq1
    have hxz : x = 16 := by rw [HRV.out, if_pos (Or.inr (Or.inl h))]
    subst hxz
    obtain ⟨rfl, rfl, rfl, rfl, rfl⟩ : ri = 0 ∧ ro = 0 ∧ RP = none ∧ rk = 0 ∧ rk' = 0 := by
      rcases HRE.out with ⟨_, h⟩ | ⟨h, _⟩
      · exact h
      · exact absurd h (by decide)
    clear HRE
    obtain ⟨m0, m1, m2⟩ := BxM.cells (MK.get sE 0 rfl)
    obtain ⟨g0, g1, g2⟩ := BxM.cells (MK.get sE 1 rfl)
    obtain ⟨n0, n1, n2⟩ := BxN.cells (MK.get sE 3 rfl)
    go_wp2_with fail
    clear m0 m1 m2 g0 g1 g2 n0 n1 n2
    clear hq1b h
    refine (nothing_yes 16 _).mono ?_
    rintro e w8 ⟨rfl, hb8⟩
    have sE2 := MT.next sE hb8
    clear sE hb8
    go_wp2_with fail
    refine (jlives_walk _).mono ?_
    rintro e w9 ⟨rfl, hb9⟩
    have hfin := Lib.hid (MT.next sE2 hb9).2.1
    clear sE2 hb9
    go_wp2
    go_ret
    exact ⟨rfl, hfin.out⟩
  have hq1b : ((L1 : Int) != o) = false := by rw [hq1]; exact bne_self_eq_false _
  have HQ1 : Hid (L1 = o) := by show _ = _; omega
  clear hq1
  by_cases hq2 : (L2 : Int) = n
  case neg =>
    have hq2b : ((L2 : Int) != n) = true := by rw [bne_iff_ne]; exact hq2
    have h : L2 ≠ n := fun e => hq2 (by rw [e])
    have hxz : x = 16 := by rw [HRV.out, if_pos (Or.inr (Or.inr h))]
    subst hxz
    obtain ⟨rfl, rfl, rfl, rfl, rfl⟩ : ri = 0 ∧ ro = 0 ∧ RP = none ∧ rk = 0 ∧ rk' = 0 := by
      rcases HRE.out with ⟨_, h⟩ | ⟨h, _⟩
      · exact h
      · exact absurd h (by decide)
    clear HRE
    obtain ⟨m0, m1, m2⟩ := BxM.cells (MK.get sE 0 rfl)
    obtain ⟨g0, g1, g2⟩ := BxM.cells (MK.get sE 1 rfl)
    obtain ⟨n0, n1, n2⟩ := BxN.cells (MK.get sE 3 rfl)
    go_wp2_with fail
    clear m0 m1 m2 g0 g1 g2 n0 n1 n2
    clear hq2b h
    refine (nothing_yes 16 _).mono ?_
    rintro e w8 ⟨rfl, hb8⟩
    have sE2 := MT.next sE hb8
    clear sE hb8
    go_wp2_with fail
    refine (jlives_walk _).mono ?_
    rintro e w9 ⟨rfl, hb9⟩
    have hfin := Lib.hid (MT.next sE2 hb9).2.1
    clear sE2 hb9
    go_wp2
    go_ret
    exact ⟨rfl, hfin.out⟩
  have hq2b : ((L2 : Int) != n) = false := by rw [hq2]; exact bne_self_eq_false _
  have HQ2 : Hid (L2 = n) := by show _ = _; omega
  clear hq2
  -- the products
  obtain ⟨p0, hp0⟩ : ∃ z, permV ins = z := ⟨_, rfl⟩
  obtain ⟨p1, hp1⟩ : ∃ z, permV outs = z := ⟨_, rfl⟩
  obtain ⟨p2, hp2⟩ : ∃ z, permV sts = z := ⟨_, rfl⟩
  have z0 := hp0 ▸ permV_01 ins
  have z1 := hp1 ▸ permV_01 outs
  have z2 := hp2 ▸ permV_01 sts
  obtain ⟨y0', y1⟩ := mul01 z0 z1
  obtain ⟨q1, hq1⟩ : ∃ z, p0 * p1 = z := ⟨_, rfl⟩
  have y0 := y0'.trans hq1
  clear y0'
  rw [hq1] at y1
  obtain ⟨y2', y3⟩ := mul01 y1 z2
  obtain ⟨q2, hq2⟩ : ∃ z, q1 * p2 = z := ⟨_, rfl⟩
  have y2 := y2'.trans hq2
  clear y2'
  have HQ : Hid (x = if q2 = 0 ∨ sts[0]? ≠ some 0 then 1 else 0) := by
    show _ = _
    rw [HRV.out, if_neg (by have := HQ0.out; have := HQ1.out; have := HQ2.out; omega), hp0, hp1, hp2, hq1, hq2]
  clear HRV hq1 hq2 z0 z1 z2 y1 y3
  have CP : ∀ (l : List Int) (A9 : Option Addr) (n9 c9 : Nat) (z : Int), l.length = n9 → n9 ≤ 1000000 → permV l = z → (∀ wr, Below w4.heap.size w4 wr → Rd wr A9 l) → Hid (∀ wr, Below w4.heap.size w4 wr → Calls Try.prog 27 #[.slice A9 n9 c9] wr fun e w' => e = .returned (.int .i64 z) ∧ Below wr.heap.size wr w') := fun l A9 n9 c9 z h1 h2 h3 h4 wr hb => by
    have h := rperm_any l A9 n9 c9 wr (h4 wr hb) h1 h2
    rwa [h3] at h
  have CP0 := CP ins I L0 cI p0 HL0.out (by omega) hp0 (fun wr hb => HI4.out.below hb)
  have CP1 := CP outs O L1 cO p1 HL1.out (by omega) hp1 (fun wr hb => HO4.out.below hb)
  have CP2 := CP sts S L2 cS p2 HL2.out (by omega) hp2 (fun wr hb => HS4.out.below hb)
  clear CP hp0 hp1 hp2
  obtain ⟨bS, oS, y, hSe, hbS, _, hy⟩ := rd_nth HS4.out (k := 0) (by rw [HL2.out, HQ2.out]; exact hn1)
  have HY := Lib.hid hy
  subst hSe
  have HBS := Lib.hid hbS
  clear hy hbS
  have f0 : ∀ x : BW w4, x.out.cell? ⟨K0 + 1, 0, none⟩ = some (.slice I L0 cI) := fun x => (BxN.cells (MK.get (MT.next S4.out x.ok) 3 rfl)).1
  have f1 : ∀ x : BW w4, x.out.cell? ⟨K0 + 1, 1, none⟩ = some (.slice O L1 cO) := fun x => (BxN.cells (MK.get (MT.next S4.out x.ok) 3 rfl)).2.1
  have f2 : ∀ x : BW w4, x.out.cell? ⟨K0 + 1, 2, none⟩ = some (.slice (some ⟨bS, oS, none⟩) L2 cS) := fun x => (BxN.cells (MK.get (MT.next S4.out x.ok) 3 rfl)).2.2
  have f3 : ∀ x : BW w4, x.out.cell? ⟨bS, oS, none⟩ = some (.int .i64 y) := fun x => by
    obtain ⟨_, _, y2, h1, _, h2, h3⟩ := rd_nth (HS4.out.below x.ok) (k := 0) (by rw [HL2.out, HQ2.out]; exact hn1)
    injection h1 with h1
    injection h1 with h1 h1' _
    subst h1 h1'
    rw [HY.out] at h3
    injection h3 with h3
    subst h3
    exact h2
  have hL2p : (0 : Int) < L2 := by have := HQ2.out; omega
  have hL2n : 0 < L2 := by have := HQ2.out; omega
  by_cases hqz : q2 = 0
  case pos =>
    have hqb : (q2 == 0) = true := by rw [beq_iff_eq]; exact hqz
    have hX1 : Hid (x = 1) := by show _ = _; rw [HQ.out, if_pos (Or.inl hqz)]
    clear HQ hqz
    obtain ⟨m0, m1, m2⟩ := BxM.cells (MK.get sE 0 rfl)
    obtain ⟨g0, g1, g2⟩ := BxM.cells (MK.get sE 1 rfl)
    obtain ⟨n0, n1, n2⟩ := BxN.cells (MK.get sE 3 rfl)
    go_upto_region 7 with fail
    clear m0 m1 m2 g0 g1 g2 n0 n1 n2
    refine wp_region_quiet_below (by kernel_rfl) (by kernel_rfl) ?_
    repeat (go_big_quiet_step ((rename_i x; first
      | ((with_reducible refine (CP0.out _ x.ok).mono ?_); rintro e w2 ⟨rfl, hb2⟩; exact ⟨rfl, ⟨w2, below_next x.ok hb2⟩, rfl⟩)
      | ((with_reducible refine (CP1.out _ x.ok).mono ?_); rintro e w2 ⟨rfl, hb2⟩; exact ⟨rfl, ⟨w2, below_next x.ok hb2⟩, rfl⟩)
      | ((with_reducible refine (CP2.out _ x.ok).mono ?_); rintro e w2 ⟨rfl, hb2⟩; exact ⟨rfl, ⟨w2, below_next x.ok hb2⟩, rfl⟩)
      | fail)))
    refine wpQuiet_nil ?_
    intro w11 hw11
    obtain ⟨⟨wx, hbW⟩, hw3⟩ := hw11
    dsimp only at hw3
    subst hw3
    clear f0 f1 f2 f3
    have HBW := Lib.hid hbW
    clear hbW
    have sE := MT.next S4.out HBW.out
    have hxz : x = 1 := hX1.out
    subst hxz
    obtain ⟨rfl, rfl, rfl, rfl, rfl⟩ : ri = 0 ∧ ro = 0 ∧ RP = none ∧ rk = 0 ∧ rk' = 0 := by
      rcases HRE.out with ⟨_, h⟩ | ⟨h, _⟩
      · exact h
      · exact absurd h (by decide)
    clear HRE
    obtain ⟨m0, m1, m2⟩ := BxM.cells (MK.get sE 0 rfl)
    go_wp2_with fail
    clear m0 m1 m2
    refine (nothing_yes 1 _).mono ?_
    rintro e w8 ⟨rfl, hb8⟩
    have sE2 := MT.next sE hb8
    clear sE hb8
    go_wp2_with fail
    refine (jlives_walk _).mono ?_
    rintro e w9 ⟨rfl, hb9⟩
    have hfin := Lib.hid (MT.next sE2 hb9).2.1
    clear sE2 hb9
    go_wp2
    go_ret
    exact ⟨rfl, hfin.out⟩
  have hqb : (q2 == 0) = false := by rw [beq_eq_false_iff_ne]; exact hqz
  by_cases hy0 : y = 0
  case neg =>
    have hyb : (y != 0) = true := by rw [bne_iff_ne]; exact hy0
    have hX1 : Hid (x = 1) := by show _ = _; rw [HQ.out, if_pos (Or.inr (by rw [HY.out]; intro e; injection e with e; exact hy0 e))]
    clear HQ hqz hy0
    obtain ⟨m0, m1, m2⟩ := BxM.cells (MK.get sE 0 rfl)
    obtain ⟨g0, g1, g2⟩ := BxM.cells (MK.get sE 1 rfl)
    obtain ⟨n0, n1, n2⟩ := BxN.cells (MK.get sE 3 rfl)
    go_upto_region 7 with fail
    clear m0 m1 m2 g0 g1 g2 n0 n1 n2
    refine wp_region_quiet_below (by kernel_rfl) (by kernel_rfl) ?_
    repeat (go_big_quiet_step ((rename_i x; first
      | ((with_reducible refine (CP0.out _ x.ok).mono ?_); rintro e w2 ⟨rfl, hb2⟩; exact ⟨rfl, ⟨w2, below_next x.ok hb2⟩, rfl⟩)
      | ((with_reducible refine (CP1.out _ x.ok).mono ?_); rintro e w2 ⟨rfl, hb2⟩; exact ⟨rfl, ⟨w2, below_next x.ok hb2⟩, rfl⟩)
      | ((with_reducible refine (CP2.out _ x.ok).mono ?_); rintro e w2 ⟨rfl, hb2⟩; exact ⟨rfl, ⟨w2, below_next x.ok hb2⟩, rfl⟩)
      | fail)))
    refine wpQuiet_nil ?_
    intro w11 hw11
    obtain ⟨⟨wx, hbW⟩, hw3⟩ := hw11
    dsimp only at hw3
    subst hw3
    clear f0 f1 f2 f3
    have HBW := Lib.hid hbW
    clear hbW
    have sE := MT.next S4.out HBW.out
    have hxz : x = 1 := hX1.out
    subst hxz
    obtain ⟨rfl, rfl, rfl, rfl, rfl⟩ : ri = 0 ∧ ro = 0 ∧ RP = none ∧ rk = 0 ∧ rk' = 0 := by
      rcases HRE.out with ⟨_, h⟩ | ⟨h, _⟩
      · exact h
      · exact absurd h (by decide)
    clear HRE
    obtain ⟨m0, m1, m2⟩ := BxM.cells (MK.get sE 0 rfl)
    go_wp2_with fail
    clear m0 m1 m2
    refine (nothing_yes 1 _).mono ?_
    rintro e w8 ⟨rfl, hb8⟩
    have sE2 := MT.next sE hb8
    clear sE hb8
    go_wp2_with fail
    refine (jlives_walk _).mono ?_
    rintro e w9 ⟨rfl, hb9⟩
    have hfin := Lib.hid (MT.next sE2 hb9).2.1
    clear sE2 hb9
    go_wp2
    go_ret
    exact ⟨rfl, hfin.out⟩
  have hyb : (y != 0) = false := by rw [hy0]; rfl
  have hx0 : x = 0 := by rw [HQ.out, if_neg (by rw [HY.out, hy0]; simp [hqz])]
  obtain ⟨P, rfl, rfl, rfl, hnk, hnk', hX⟩ : ∃ P, RP = some ⟨P, 0, none⟩ ∧ ri = i ∧ ro = o ∧ n = rk ∧ n = rk' ∧ Ex w4 P n (renM M ins outs sts).r := by
    rcases HRE.out with ⟨h, _⟩ | ⟨_, h2, h3, P, h4, h5, h6, h7⟩
    · exact absurd hx0 h
    · exact ⟨P, h4, h2, h3, h5.symm, h6.symm, h7⟩
  subst hnk hnk'
  have hRn0 := xR_zero V.out (HXX.out.trans hx0)
  have HJ := Lib.hid hRn0.1
  have HZS := Lib.hid hRn0.2
  have VR := Lib.hid (rn_val hRn0.1)
  have HXP := Lib.hid hX
  subst hx0
  clear HRE hX HQ hqz hRn0 hy0 HXX
  obtain ⟨m0, m1, m2⟩ := BxM.cells (MK.get sE 0 rfl)
  obtain ⟨g0, g1, g2⟩ := BxM.cells (MK.get sE 1 rfl)
  obtain ⟨n0, n1, n2⟩ := BxN.cells (MK.get sE 3 rfl)
  go_upto_region 7 with fail
  clear m0 m1 m2 g0 g1 g2 n0 n1 n2
  refine wp_region_quiet_below (by kernel_rfl) (by kernel_rfl) ?_
  repeat (go_big_quiet_step ((rename_i x; first
    | ((with_reducible refine (CP0.out _ x.ok).mono ?_); rintro e w2 ⟨rfl, hb2⟩; exact ⟨rfl, ⟨w2, below_next x.ok hb2⟩, rfl⟩)
    | ((with_reducible refine (CP1.out _ x.ok).mono ?_); rintro e w2 ⟨rfl, hb2⟩; exact ⟨rfl, ⟨w2, below_next x.ok hb2⟩, rfl⟩)
    | ((with_reducible refine (CP2.out _ x.ok).mono ?_); rintro e w2 ⟨rfl, hb2⟩; exact ⟨rfl, ⟨w2, below_next x.ok hb2⟩, rfl⟩)
    | fail)))
  refine wpQuiet_nil ?_
  intro w11 hw11
  obtain ⟨⟨wx, hbW⟩, hw3⟩ := hw11
  dsimp only at hw3
  subst hw3
  clear f0 f1 f2 f3
  have HBW := Lib.hid hbW
  clear hbW
  have sE := MT.next S4.out HBW.out
  have hLL : ((i : Int) != i) = false := by simp
  have hoo : ((o : Int) != o) = false := by simp
  have hnn : ((n : Int) != n) = false := by simp
  obtain ⟨m0, m1, m2⟩ := BxM.cells (MK.get sE 0 rfl)
  obtain ⟨g0, g1, g2⟩ := BxM.cells (MK.get sE 1 rfl)
  go_wp2_with fail
  clear m0 m1 m2 g0 g1 g2
  refine (clipped_yes i o (renM M ins outs sts).r P n _ (HXP.out.below HBW.out)).mono ?_
  rintro e w5 ⟨rfl, hb5⟩
  have HB5 := Lib.hid (below_next HBW.out hb5)
  clear sE hb5
  have sE := MT.next S4.out HB5.out
  obtain ⟨m0, m1, m2⟩ := BxM.cells (MK.get sE 0 rfl)
  obtain ⟨g0, g1, g2⟩ := BxM.cells (MK.get sE 1 rfl)
  have hz2 : w5.heap[K0 + 1 + 1]? = some (.cells #[.slice B1 F1 e1] 48) := MK.get sE 2 rfl
  have z0 : w5.cell? ⟨K0 + 1 + 1, 0, none⟩ = some (.slice B1 F1 e1) := by rw [cell_of_row _ _ _ _ _ _ hz2]; rfl
  have CW := wof_atJ B1 e1 ws i w5 (HR8.out.below sE.2.1) (by omega) (by omega) HLW.out
  rw [HF1.out] at CW
  obtain ⟨Y, hY⟩ : ∃ Y, Go.Proofs.Ytgafpmgdpigliaa.M.sym i ws = Y := ⟨_, rfl⟩
  rw [hY] at CW
  have HWR : Hid (Mc.Wd M Y) := by show Mc.Wd _ _; rw [← hY]; exact sym_wdJ hmi.out (by omega)
  have HCW := Lib.hid CW
  clear CW hY sE hz2
  go_wp2_with fail
  clear m0 m1 m2 g0 g1 g2 z0 hLL hoo hnn
  refine HCW.out.mono ?_
  rintro e w6 ⟨UB, ku, qu, rfl, hku, h12, hru, hkq, hb6⟩
  have HB6 := Lib.hid (below_next HB5.out hb6)
  have HRU := Lib.hid hru
  have hku' : Hid (Y.length = ku) := hku
  clear HCW hb6 hru HB5 hku
  have HS6 : Hid (∀ W : World, Below w6.heap.size w6 W → (W.cell? ⟨T, 0, none⟩ = some (.int .i64 i) ∧ W.cell? ⟨T, 1, none⟩ = some (.int .i64 o) ∧ W.cell? ⟨T, 2, none⟩ = some (.slice (some ⟨P, 0, none⟩) n n) ∧ W.cell? ⟨G, 0, none⟩ = some (.int .i64 i) ∧ W.cell? ⟨G, 1, none⟩ = some (.int .i64 o) ∧ W.cell? ⟨G, 2, none⟩ = some (.slice R n c1) ∧ W.cell? ⟨K0 + 1, 0, none⟩ = some (.slice I L0 cI) ∧ W.cell? ⟨K0 + 1, 1, none⟩ = some (.slice O L1 cO) ∧ W.cell? ⟨K0 + 1, 2, none⟩ = some (.slice (some ⟨bS, oS, none⟩) L2 cS))) := fun W hb => by
    have s6 := MT.next S4.out (below_next HB6.out hb)
    obtain ⟨a0, a1, a2⟩ := BxM.cells (MK.get s6 0 rfl)
    obtain ⟨b0, b1, b2⟩ := BxM.cells (MK.get s6 1 rfl)
    obtain ⟨d0, d1, d2⟩ := BxN.cells (MK.get s6 3 rfl)
    exact ⟨a0, a1, a2, b0, b1, b2, d0, d1, d2⟩
  have HI6 := Lib.hid (HI4.out.below HB6.out)
  have HO6 := Lib.hid (HO4.out.below HB6.out)
  have HSS6 := Lib.hid (HS4.out.below HB6.out)
  clear HI4 HO4 HS4
  have hji : (ins.length : Int) = i := by rw [HL0.out, HQ0.out]
  have HJI := Lib.hid hji
  clear hji
  obtain ⟨i0, hi0, hz0, hz1, hz2⟩ := info_parts int_info
  go_wp2_with fail
  go_loopw [11, 12] (fun u v wr => ∃ (k : Nat) (xs : List Int), k ≤ ku ∧ v = .int .i64 k ∧ Hid (xs = (Y.take k).map (gzN ins)) ∧ wr.ownsRow w6.heap.size 3 1 u xs.length (ints xs) ∧ Hid (Below w6.heap.size w6 wr)) (fun _ v _ => ku - (intOf v).toNat)
  case atStart => exact ⟨0, [], Nat.zero_le _, rfl, by show _ = _; simp, World.ownsRow_nil _ _ _ _, Below.refl _ _⟩
  case round =>
    obtain ⟨k, xs, hk, rfl, hxs, hown, hb⟩ := hrel
    have hxl : Hid (xs.length = k) := by show _ = _; rw [hxs.out, List.length_map, List.length_take, hku'.out]; omega
    by_cases hlt : k < ku
    · have hlti : (k : Int) < ku := by omega
      obtain ⟨bU, oU, y9, rfl, hbU, u0, hy⟩ := rd_nth HRU.out (k := k) (by rw [hku'.out]; exact hlt)
      have hyr := HWR.out y9 (List.mem_of_getElem? hy)
      have hyL : 0 ≤ y9 ∧ y9 < L0 := by have := hmi.out; have := HQ0.out; omega
      obtain ⟨t, rfl⟩ := Int.eq_ofNat_of_zero_le hyL.1
      have htL : t < L0 := by omega
      have htLi : (t : Int) < L0 := by omega
      obtain ⟨bI, oI, q, rfl, hbI, q0, hq⟩ := rd_nth HI6.out (k := t) (by rw [HL0.out]; exact htL)
      have hN : Hid (xs ++ [q] = (Y.take (k + 1)).map (gzN ins)) := by
        show _ = _
        rw [hxs.out, List.take_add_one, hy, List.map_append]
        simp [gzN, hq]
      have hsz := hb.out.size
      have hxl6 : xs.length ≤ 1000000 := by have := hxl.out; omega
      have hownE : (wr.alloc (.cells #[.int .i64 q] 3)).drew.ownsRow w6.heap.size 3 1 u11 xs.length (ints xs) := hown.alloc _
      have S1 := Lib.hid (cell_one_new wr (.int .i64 q) 3)
      have S2 : Hid (∀ v ∈ ([.int .i64 q] : List Value), v.oneCell' = true) := by intro v hv; simp at hv; subst hv; rfl
      have hbrE : Below w6.heap.size w6 (wr.alloc (.cells #[.int .i64 q] 3)).drew := (hb.out.alloc hsz _).drew
      have s3 : xs.length + 1 ≤ maxLen := by unfold maxLen; omega
      have s4 : (xs.length + 1) * 8 ≤ 140737488355328 := by omega
      have s5 : w6.heap.size ≤ (wr.alloc (.cells #[.int .i64 q] 3)).drew.heap.size := by show _ ≤ (wr.alloc _).heap.size; simp; omega
      have HSX : ∀ wx : World, Below w6.heap.size w6 wx → (wx.cell? ⟨K0 + 1, 0, none⟩ = some (.slice (some ⟨bI, oI, none⟩) L0 cI) ∧ wx.cell? ⟨bU, oU + k, none⟩ = some (.int .i64 t) ∧ wx.cell? ⟨bI, oI + t, none⟩ = some (.int .i64 q)) := fun wx hbx =>
        ⟨(HS6.out wx hbx).2.2.2.2.2.2.1, (hbx.cell (p := ⟨bU, oU + k, none⟩) hbU).trans u0, (hbx.cell (p := ⟨bI, oI + t, none⟩) hbI).trans q0⟩
      have sw := HSX wr hb.out
      have sv := HSX wr.drew hb.out.drew
      have se := HSX (wr.alloc (.cells #[.int .i64 q] 3)) (hb.out.alloc hsz _)
      have sd := HSX _ hbrE
      clear hy hq hyr hyL hxs hown hxl u0 q0 hb
      go_wp2_with fail
      go_region_held3 (fun wx => wx.cell? ⟨K0 + 1, 0, none⟩ = some (.slice (some ⟨bI, oI, none⟩) L0 cI) ∧ wx.cell? ⟨bU, oU + k, none⟩ = some (.int .i64 t) ∧ wx.cell? ⟨bI, oI + t, none⟩ = some (.int .i64 q))
        (first | (with_reducible exact sw) | (with_reducible exact sv) | (with_reducible exact sd) | (with_reducible exact se) | (with_reducible exact s1') | go_keep)
        ((refine step_append_lies _ rfl (.tmp 147) (.tmp 156) 30 rfl w6.heap.size 3 i0 (.int .i64 0) 1 8 Try.underlying30 hi0 hz0 hz1 hz2 rfl (by decide) u11 xs.length (ints xs) (by simp [Act.eval]) hownE ⟨wr.heap.size, 0, none⟩ 1 1 [.int .i64 q] (by simp [Act.eval]) rfl S1.out S2.out (by decide) s3 s4 s5 _ rfl ?_; intro g2 c3 w1 hown1 hg1 hat1 hlt1; have s1' := HSX w1 (hbrE.grown hg1 s5 (fun j hj => (hownE.lt j hj).1))))
      all_goals
        have hbr4 := Lib.hid (hbrE.grown hg1 s5 (fun j hj => (hownE.lt j hj).1))
        have hown2 : w1.ownsRow w6.heap.size 3 1 (.slice (some ⟨g2, 0, none⟩) (xs.length + 1) c3) (xs ++ [q]).length (ints (xs ++ [q])) := by
          rw [← ints_snoc, List.length_append]
          exact hown1
        clear hown1 hg1 hownE hat1 hlt1 S1 S2 s3 s4 s5 hbrE sw sv sd se s1' HSX
        go_wp2_with fail
        go_roundw
        case rel => exact ⟨k + 1, _, by omega, by go_num, hN, hown2, hbr4⟩
        case measure => simp [intOf]; omega
    · have hlti : ¬ (k : Int) < ku := by omega
      obtain ⟨Z, hZ⟩ : ∃ Z, Y.map (gzN ins) = Z := ⟨_, rfl⟩
      have hxz : xs = Z := by rw [hxs.out, List.take_of_length_le (by rw [hku'.out]; omega)]; exact hZ
      subst hxz
      have hxk : xs.length = ku := by have := hxl.out; omega
      rw [hxk] at hown
      obtain ⟨VA, vc, rfl, hrv, hvc⟩ := own_formJ hown
      have HKX := Lib.hid hxk
      have HZ := Lib.hid hZ
      have hb7 := hb.out
      clear hown hxk hxl hxs hZ hb
      obtain ⟨w7, hw7⟩ : ∃ q, q = wr := ⟨_, rfl⟩
      rw [← hw7] at hb7 hrv ⊢
      clear hw7
      have HRV2 := Lib.hid hrv
      have HRU7 := Lib.hid (HRU.out.below hb7)
      have HI7 := Lib.hid (HI6.out.below hb7)
      have HO7 := Lib.hid (HO6.out.below hb7)
      have HSS7 := Lib.hid (HSS6.out.below hb7)
      have HRX := Lib.hid (HXP.out.below (below_next HB6.out hb7))
      have S7 := Lib.hid (MT.next S4.out (below_next HB6.out hb7))
      have HS : Hid (∀ W : World, Below w7.heap.size w7 W → (W.cell? ⟨T, 0, none⟩ = some (.int .i64 i) ∧ W.cell? ⟨T, 1, none⟩ = some (.int .i64 o) ∧ W.cell? ⟨T, 2, none⟩ = some (.slice (some ⟨P, 0, none⟩) n n) ∧ W.cell? ⟨G, 0, none⟩ = some (.int .i64 i) ∧ W.cell? ⟨G, 1, none⟩ = some (.int .i64 o) ∧ W.cell? ⟨G, 2, none⟩ = some (.slice R n c1) ∧ W.cell? ⟨K0 + 1, 0, none⟩ = some (.slice I L0 cI) ∧ W.cell? ⟨K0 + 1, 1, none⟩ = some (.slice O L1 cO) ∧ W.cell? ⟨K0 + 1, 2, none⟩ = some (.slice (some ⟨bS, oS, none⟩) L2 cS))) := fun W hb => HS6.out W (below_next hb7 hb)
      clear hb7 hrv HRU HI6 HO6 HSS6 HXP S4 HS6
      have HWZ : Hid (Mc.Wd (renM M ins outs sts) xs) := by
        intro c hc
        rw [← HZ.out] at hc
        obtain ⟨z, hz, rfl⟩ := List.mem_map.1 hc
        have h1 := HWR.out z hz
        have h2 := gzN_at HJ.out.di HJ.out.li h1.1 (by omega)
        show 0 ≤ _ ∧ _ < M.i
        have := V.out.i0
        omega
      have HRL : Hid ((renM M ins outs sts).r.length = n) := by show _ = _; rw [rn_len, hlen.out]
      have CR1 : Hid (∀ (wr : World) (s : Nat), Below w7.heap.size w7 wr → s < n → Calls Try.prog 21 #[.agg #[.int .i64 i, .int .i64 o, .slice R n c1], .int .i64 s, .slice UB ku qu] wr fun e w' => ∃ B q, e = .returned (.slice B ku q) ∧ Rd w' B (Mc.run M s Y) ∧ Below wr.heap.size wr w') := fun wr s hb hs =>
        rrun_atJ M i o R n c1 wr s UB ku qu Y V.out hmi.out hmo.out hlen.out hku'.out (MK.get (MT.next S7.out hb) 4 rfl) (HRU7.out.below hb) (Or.inr ⟨by omega, by rw [hlen.out]; omega⟩) HWR.out (by omega)
      have CR2 : Hid (∀ (wr : World) (s t : Nat), Below w7.heap.size w7 wr → s < n → sts[s]? = some (t : Int) → Calls Try.prog 21 #[.agg #[.int .i64 i, .int .i64 o, .slice (some ⟨P, 0, none⟩) n n], .int .i64 t, .slice VA ku vc] wr fun e w' => ∃ B q, e = .returned (.slice B ku q) ∧ Rd w' B ((Mc.run M s Y).map (osN outs)) ∧ Below wr.heap.size wr w') := fun wr s t hb hs ht => by
        have h1 := gzN_at HJ.out.ds HJ.out.ls (z := s) (by omega) (by rw [hlen.out]; omega)
        have h2 : gzN sts (s : Int) = (t : Int) := by
          have := h1.1
          rw [Int.toNat_natCast, ht] at this
          injection this with this
          exact this.symm
        have h3 := rrun_atJ (renM M ins outs sts) i o (some ⟨P, 0, none⟩) n n wr t VA ku vc xs VR.out hmi.out hmo.out HRL.out HKX.out (Ex.rd (HRX.out.below hb)) (HRV2.out.below hb) (Or.inr ⟨by omega, by rw [rn_len, ← h2]; exact h1.2.2⟩) HWZ.out (by omega)
        have h4 := rn_run HJ.out Y (s : Int) (Or.inr ⟨by omega, by rw [hlen.out]; omega⟩) HWR.out
        rw [HZ.out, show osN sts (s : Int) = (t : Int) by unfold osN; rw [if_pos (by omega)]; exact h2] at h4
        rwa [h4] at h3
      go_wp2_with fail
      go_loopw [13] (fun v wr => ∃ s : Nat, s ≤ n ∧ v = .int .i64 s ∧ Hid (Below w7.heap.size w7 wr)) (fun v _ => n - (intOf v).toNat)
      case atStart => exact ⟨0, Nat.zero_le _, rfl, Below.refl _ _⟩
      case round =>
        obtain ⟨s, hs, rfl, hb⟩ := hrel
        obtain ⟨a0, a1, a2, b0, b1, b2, d0, d1, d2⟩ := HS.out _ hb.out
        by_cases hlt : s < n
        · have hlt' : (s : Int) < n := by omega
          have hltL : (s : Int) < L2 := by have := HQ2.out; omega
          obtain ⟨bS', oS', t, hSe, hbS', st0, hst⟩ := rd_nth (HSS7.out.below hb.out) (k := s) (by rw [HL2.out, HQ2.out]; exact hlt)
          injection hSe with hSe
          injection hSe with hS1 hS2 _
          subst hS1 hS2
          have htr := HJ.out.ds.2 t (List.mem_of_getElem? hst)
          obtain ⟨t, rfl⟩ := Int.eq_ofNat_of_zero_le htr.1
          have HST := Lib.hid hst
          have HS9 : Hid (∀ W : World, Below wr.heap.size wr W → ((W.cell? ⟨T, 0, none⟩ = some (.int .i64 i) ∧ W.cell? ⟨T, 1, none⟩ = some (.int .i64 o) ∧ W.cell? ⟨T, 2, none⟩ = some (.slice (some ⟨P, 0, none⟩) n n) ∧ W.cell? ⟨G, 0, none⟩ = some (.int .i64 i) ∧ W.cell? ⟨G, 1, none⟩ = some (.int .i64 o) ∧ W.cell? ⟨G, 2, none⟩ = some (.slice R n c1) ∧ W.cell? ⟨K0 + 1, 0, none⟩ = some (.slice I L0 cI) ∧ W.cell? ⟨K0 + 1, 1, none⟩ = some (.slice O L1 cO) ∧ W.cell? ⟨K0 + 1, 2, none⟩ = some (.slice (some ⟨bS, oS, none⟩) L2 cS)) ∧ W.cell? ⟨bS, oS + s, none⟩ = some (.int .i64 t))) := fun W hbW => ⟨HS.out W (below_next hb.out hbW), (hbW.cell (p := ⟨bS, oS + s, none⟩) hbS').trans st0⟩
          have HD : Hid (Below wr.heap.size wr wr.drew) := (Below.refl _ _).drew
          have s0 := HS9.out _ (Below.refl _ _)
          have sD := HS9.out _ HD.out
          clear hst htr
          go_wp2_with fail
          go_region_held3 (fun W => ((W.cell? ⟨T, 0, none⟩ = some (.int .i64 i) ∧ W.cell? ⟨T, 1, none⟩ = some (.int .i64 o) ∧ W.cell? ⟨T, 2, none⟩ = some (.slice (some ⟨P, 0, none⟩) n n) ∧ W.cell? ⟨G, 0, none⟩ = some (.int .i64 i) ∧ W.cell? ⟨G, 1, none⟩ = some (.int .i64 o) ∧ W.cell? ⟨G, 2, none⟩ = some (.slice R n c1) ∧ W.cell? ⟨K0 + 1, 0, none⟩ = some (.slice I L0 cI) ∧ W.cell? ⟨K0 + 1, 1, none⟩ = some (.slice O L1 cO) ∧ W.cell? ⟨K0 + 1, 2, none⟩ = some (.slice (some ⟨bS, oS, none⟩) L2 cS)) ∧ W.cell? ⟨bS, oS + s, none⟩ = some (.int .i64 t)))
            (first | (with_reducible exact s2) | (with_reducible exact s1) | (with_reducible exact s0) | (with_reducible exact sD) | go_keep)
            (first
              | (go_at_call 21
                 (with_reducible refine (CR1.out _ s (below_next hb.out HD.out) hlt).mono ?_)
                 rintro e z1 ⟨B8, e8, rfl, hr8, hz1⟩
                 have t1 := Lib.hid (below_next HD.out hz1)
                 have s1 := HS9.out _ t1.out
                 dsimp only)
              | (go_at_call 21
                 (with_reducible refine (CR2.out _ s t (below_next hb.out t1.out) hlt HST.out).mono ?_)
                 rintro e z2 ⟨B9, e9, rfl, hr9, hz2⟩
                 have t2 := Lib.hid (below_next t1.out hz2)
                 have s2 := HS9.out _ t2.out
                 dsimp only)
              | fail)
          have HZ3 := Lib.hid (below_next hb.out t2.out)
          have R8 := Lib.hid (hr8.below hz2)
          have R9 := Lib.hid hr9
          clear s0 s1 s2 sD a0 a1 a2 b0 b1 b2 d0 d1 d2 t1 t2 hz1 hz2 hr8 hr9 hb HD HS9 st0
          go_wp2_with fail
          go_loopw [16] (fun v wr => ∃ k : Nat, k ≤ ku ∧ v = .int .i64 k ∧ Hid (Below z2.heap.size z2 wr)) (fun v _ => ku - (intOf v).toNat)
          case atStart => exact ⟨0, Nat.zero_le _, rfl, Below.refl _ _⟩
          case round =>
            obtain ⟨k, hk, rfl, hb⟩ := hrel
            by_cases hlt : k < ku
            · have hlti : (k : Int) < ku := by omega
              obtain ⟨g7, o7, x7, rfl, _, x0, hx⟩ := rd_nth (R8.out.below hb.out) (k := k) (by rw [Mc.run_len, hku'.out]; exact hlt)
              obtain ⟨g8, o8, y8, rfl, _, y0, hy⟩ := rd_nth (R9.out.below hb.out) (k := k) (by rw [List.length_map, Mc.run_len, hku'.out]; exact hlt)
              have hye : y8 = osN outs x7 := by
                rw [List.getElem?_map, hx] at hy
                injection hy with hy
                exact hy.symm
              have hx3 := run_outQ V.out Y s (Or.inr ⟨by omega, by rw [hlen.out]; omega⟩) HWR.out x7 (List.mem_of_getElem? hx)
              rw [hmo.out] at hx3
              clear hx hy
              obtain ⟨_, _, _, _, _, _, _, d1, _⟩ := HS.out _ (below_next HZ3.out hb.out)
              by_cases hx0 : 0 ≤ x7
              · have hx0d : decide (0 ≤ x7) = true := decide_eq_true hx0
                obtain ⟨x7, rfl⟩ := Int.eq_ofNat_of_zero_le hx0
                have hxL : x7 < L1 := by have := HQ1.out; omega
                have hxLi : (x7 : Int) < L1 := by omega
                obtain ⟨bO, oO, v8, rfl, _, v0, hv⟩ := rd_nth (HO7.out.below (below_next HZ3.out hb.out)) (k := x7) (by rw [HL1.out]; exact hxL)
                obtain rfl : y8 = v8 := by
                  rw [hye]
                  unfold osN
                  rw [if_pos hx0]
                  unfold gzN
                  rw [Int.toNat_natCast, hv]
                  rfl
                have hzn : (y8 != y8) = false := by simp
                clear hye hv hx0 hx3
                go_wp2_with fail
                go_quiet (fail)
                obtain ⟨W3, hW3⟩ : ∃ W3, wr.drewN nq = W3 := ⟨_, rfl⟩
                have hbd : Below wr.heap.size wr W3 := by rw [← hW3]; exact below_drewN' (Below.refl _ _) _
                rw [hW3]
                have HB := Lib.hid (below_next hb.out hbd)
                have y0' : W3.cell? ⟨g8, o8 + k, none⟩ = some (.int .i64 y8) := by rw [← hW3]; exact y0
                clear hW3 hbd x0 y0 d1 v0 hb
                go_wp2_with fail
                go_roundw
                case rel => exact ⟨k + 1, by omega, by go_num, HB⟩
                case measure => simp [intOf]; omega
              · have hx0d : decide (0 ≤ x7) = false := decide_eq_false hx0
                obtain rfl : y8 = -1 := by rw [hye]; unfold osN; rw [if_neg hx0]
                clear hye
                go_wp2_with fail
                clear x0 y0 d1
                go_roundw
                case rel => exact ⟨k + 1, by omega, by go_num, hb⟩
                case measure => simp [intOf]; omega
            · have hlti : ¬ (k : Int) < ku := by omega
              have HB := Lib.hid (below_next HZ3.out hb.out)
              clear hb HZ3 R8 R9
              go_wp2_with fail
              go_roundw
              case rel => exact ⟨s + 1, by omega, by go_num, HB⟩
              case measure => simp [intOf]; omega
        · have hlt' : ¬ (s : Int) < n := by omega
          have HB8 := hb
          clear hb hs hlt CR1 CR2
          go_wp2_with fail
          go_upto_region 29 with fail
          clear a0 a1 a2 b0 b1 b2 d0 d1 d2
          obtain ⟨w8, hw8⟩ : ∃ q, q = wr := ⟨_, rfl⟩
          rw [← hw8] at HB8 ⊢
          clear hw8
          obtain ⟨_, _, _, _, _, _, n0, n1, n2⟩ := HS.out _ HB8.out
          go_cut [18] from 202 to 214 (fun u wx => ∃ G9 Q0 Q1 Q2 : Nat, u = .pointer (some ⟨G9, 0, none⟩) ∧ Hid (NvJ w8 G9 Q0 Q1 Q2 L0 L1 L2 (List.replicate L0 0) (List.replicate L1 0) (List.replicate L2 0) wx))
          case first =>
            have hKl : K0 + 1 < w8.heap.size := by
              have h9 : BxN w8 (K0 + 1) I L0 cI O L1 cO (some ⟨bS, oS, none⟩) L2 cS := MK.get (MT.next S7.out HB8.out) 3 rfl
              exact heap_lt h9
            refine region_boxes (n := 281) (W := w8) [some 202, some 203, some 204, some 205, some 206, some 207, some 208, some 209, some 210, some 211, some 212, some 213, some 214, some 18, none] [.hop (kx (.pointer (some ⟨K0 + 1, 0, none⟩))), .hop (kx (.slice I L0 cI)), .hop (kx (.int .i64 L0)), .new (.cells (ints (List.replicate L0 0)).toArray 3) (fun g => .slice (some ⟨g, 0, none⟩) L0 L0) none, .hop (kx (.pointer (some ⟨K0 + 1, 1, none⟩))), .hop (kx (.slice O L1 cO)), .hop (kx (.int .i64 L1)), .new (.cells (ints (List.replicate L1 0)).toArray 3) (fun g => .slice (some ⟨g, 0, none⟩) L1 L1) none, .hop (kx (.pointer (some ⟨K0 + 1, 2, none⟩))), .hop (kx (.slice (some ⟨bS, oS, none⟩) L2 cS)), .hop (kx (.int .i64 L2)), .new (.cells (ints (List.replicate L2 0)).toArray 3) (fun g => .slice (some ⟨g, 0, none⟩) L2 L2) none, .hop (kN3 w8 L0 L1 L2), .new (.cells #[.slice none 0 0, .slice none 0 0, .slice none 0 0] 68) (fun g => .pointer (some ⟨g, 0, none⟩)) (some 14), .st 13 12 68 aggC] (by rfl) (by kernel_rfl) (by kernel_rfl) (by kernel_rfl) rfl (fun _ => rfl) rfl ?hops (fun f adr wx hbx hh hnw hinj hst => ?ends)
            case hops =>
              refine ⟨bopN_field (g := K0 + 1) rfl (by decide) rfl rfl rfl rfl rfl, ?_⟩
              refine ⟨bop_loadL (j := 0) rfl rfl rfl rfl rfl rfl n0 hKl rfl, ?_⟩
              refine ⟨bop_len (j := 1) rfl rfl rfl rfl rfl rfl rfl, ?_⟩
              refine ⟨bop_make (j := 2) rfl rfl rfl rfl rfl rfl (by omega) rfl, ?_⟩
              refine ⟨bopN_field (g := K0 + 1) rfl (by decide) rfl rfl rfl rfl rfl, ?_⟩
              refine ⟨bop_loadL (j := 4) rfl rfl rfl rfl rfl rfl n1 hKl rfl, ?_⟩
              refine ⟨bop_len (j := 5) rfl rfl rfl rfl rfl rfl rfl, ?_⟩
              refine ⟨bop_make (j := 6) rfl rfl rfl rfl rfl rfl (by omega) rfl, ?_⟩
              refine ⟨bopN_field (g := K0 + 1) rfl (by decide) rfl rfl rfl rfl rfl, ?_⟩
              refine ⟨bop_loadL (j := 8) rfl rfl rfl rfl rfl rfl n2 hKl rfl, ?_⟩
              refine ⟨bop_len (j := 9) rfl rfl rfl rfl rfl rfl rfl, ?_⟩
              refine ⟨bop_make (j := 10) rfl rfl rfl rfl rfl rfl (by omega) rfl, ?_⟩
              refine ⟨bop_build3 (j0 := 3) (j1 := 7) (j2 := 11) rfl rfl rfl rfl rfl rfl rfl rfl rfl (by decide) (by decide) (by decide) rfl rfl rfl rfl, ?_⟩
              refine ⟨bopN_alloc rfl rfl rfl rfl, ?_⟩
              refine ⟨bopN_store (j := 13) (k := 12) rfl rfl rfl rfl rfl rfl rfl rfl rfl rfl, ?_⟩
              trivial
            case ends =>
              obtain ⟨Q0, Q1, Q2, e12, k0, k1, k2, n01, n02, n12, g0, g1, g2⟩ := hh 12 _ rfl
              obtain ⟨e13, _, _, _⟩ := hnw 13 _ _ _ rfl
              have e14 := hst 14 13 12 _ _ rfl
              rw [e12] at e14
              have hNv : NvJ w8 (adr 13) Q0 Q1 Q2 L0 L1 L2 (List.replicate L0 0) (List.replicate L1 0) (List.replicate L2 0) wx := ⟨hbx, e14, k0, k1, k2, n01, n02, n12, g0, g1, g2⟩
              clear hh hnw hinj hst k0 k1 k2 n01 n02 n12 g0 g1 g2 e14 hbx
              simp only [putN]
              rw [e13]
              simp [Act.put]
              go_wp2_with fail
              go_meet
              exact ⟨adr 13, Q0, Q1, Q2, rfl, hNv⟩
          case rest =>
          obtain ⟨G9, Q0, Q1, Q2, rfl, hNv⟩ := hcut
          have HI8 := Lib.hid (HI7.out.below HB8.out)
          have HO8 := Lib.hid (HO7.out.below HB8.out)
          have HSS8 := Lib.hid (HSS7.out.below HB8.out)
          have HRX8 := Lib.hid (HRX.out.below HB8.out)
          have S8 := Lib.hid (MT.next S7.out HB8.out)
          have HSB : Hid (∀ W : World, Below w8.heap.size w8 W → (W.cell? ⟨T, 0, none⟩ = some (.int .i64 i) ∧ W.cell? ⟨T, 1, none⟩ = some (.int .i64 o) ∧ W.cell? ⟨T, 2, none⟩ = some (.slice (some ⟨P, 0, none⟩) n n) ∧ W.cell? ⟨G, 0, none⟩ = some (.int .i64 i) ∧ W.cell? ⟨G, 1, none⟩ = some (.int .i64 o) ∧ W.cell? ⟨G, 2, none⟩ = some (.slice R n c1) ∧ W.cell? ⟨K0 + 1, 0, none⟩ = some (.slice I L0 cI) ∧ W.cell? ⟨K0 + 1, 1, none⟩ = some (.slice O L1 cO) ∧ W.cell? ⟨K0 + 1, 2, none⟩ = some (.slice (some ⟨bS, oS, none⟩) L2 cS))) := fun W hb => HS.out W (below_next HB8.out hb)
          have CR3 : Hid (∀ wr, Below w8.heap.size w8 wr → Rd wr (some ⟨Q0, 0, none⟩) (invN ins) → Rd wr (some ⟨Q1, 0, none⟩) (invN outs) → Rd wr (some ⟨Q2, 0, none⟩) (invN sts) → Calls Try.prog 26 #[.agg #[.int .i64 i, .int .i64 o, .slice (some ⟨P, 0, none⟩) n n], .slice (some ⟨Q0, 0, none⟩) L0 L0, .slice (some ⟨Q1, 0, none⟩) L1 L1, .slice (some ⟨Q2, 0, none⟩) L2 L2] wr fun e w' => ∃ P2, e = .returned (.tuple #[.agg #[.int .i64 i, .int .i64 o, .slice (some ⟨P2, 0, none⟩) n n], .int .i64 0]) ∧ Ex w' P2 n M.r ∧ Below wr.heap.size wr w') := fun wr hb h0 h1 h2 => by
            have h := rename_any (renM M ins outs sts) (some ⟨P, 0, none⟩) n n (invN ins) (invN outs) (invN sts) (some ⟨Q0, 0, none⟩) (some ⟨Q1, 0, none⟩) (some ⟨Q2, 0, none⟩) L0 L0 L1 L1 L2 L2 wr (Ex.rd (HRX8.out.below hb)) HRL.out (by omega) (fun row hr => by have := VR.out.len row hr; have := VR.out.i1; omega) h0 (by rw [invN_len]; exact HL0.out) h1 (by rw [invN_len]; exact HL1.out) h2 (by rw [invN_len]; exact HL2.out) (by omega) (by omega) (by omega)
            have e1 : (renM M ins outs sts).i = i := hmi.out
            have e2 : (renM M ins outs sts).o = o := hmo.out
            have e3 : renT (renM M ins outs sts) (invN ins) (invN outs) (invN sts) n (renM M ins outs sts).i.toNat = M.r := by rw [← hlen.out]; exact rn_back HJ.out
            rw [e3, e1, e2, kech_x VR.out, rn_back_x HJ.out HZS.out] at h
            exact h.mono fun e w' h => JeP.ok h rfl hlen.out (by omega) HRW.out
          clear HI7 HO7 HSS7 HRX S7 HS HRU7 HRV2 n0 n1 n2 HB8
          go_wp2_with fail
          go_loopw [19] (fun v wr => ∃ k : Nat, k ≤ L0 ∧ v = .int .i64 k ∧ Hid (NvJ w8 G9 Q0 Q1 Q2 L0 L1 L2 (invK ins k) (List.replicate L1 0) (List.replicate L2 0) wr)) (fun v _ => L0 - (intOf v).toNat)
          case atStart => exact ⟨0, Nat.zero_le _, rfl, by show NvJ _ _ _ _ _ _ _ _ _ _ _ _; rw [invK_zero, HL0.out]; exact hNv.out⟩
          case round =>
            clear hNv
            obtain ⟨k, hk, rfl, hv⟩ := hrel
            obtain ⟨_, _, _, _, _, _, n0, n1, n2⟩ := HSB.out _ hv.out.bel
            by_cases hlt : k < L0
            · have hlti : (k : Int) < L0 := by omega
              obtain ⟨bI, oI, z, rfl, hbI, q0, hz⟩ := rd_nth (HI8.out.below hv.out.bel) (k := k) (by rw [HL0.out]; exact hlt)
              have hzr := HJ.out.di.2 z (List.mem_of_getElem? hz)
              obtain ⟨z, rfl⟩ := Int.eq_ofNat_of_zero_le hzr.1
              have hzL : z < L0 := by have := HJ.out.li; have := HL0.out; omega
              have hzLi : (z : Int) < L0 := by omega
              have hzb : z < L0 := hzL
              obtain ⟨old, c0, f0, _⟩ := hv.out.k0.at_ (k := z) (by rw [invK_len, HL0.out]; exact hzL)
              have hNw := hv.out.set0 z (k : Int)
              rw [invK_step HJ.out.di HJ.out.li hz] at hNw
              have HN := Lib.hid (hNw.to (Below.refl _ _).drew)
              have HSX : ∀ (W : World) (x0 x1 x2 : List Int), NvJ w8 G9 Q0 Q1 Q2 L0 L1 L2 x0 x1 x2 W → W.cell? ⟨bI, oI + k, none⟩ = some (.int .i64 z) → (W.cell? ⟨K0 + 1, 0, none⟩ = some (.slice (some ⟨bI, oI, none⟩) L0 cI) ∧ W.cell? ⟨G9, 0, none⟩ = some (.slice (some ⟨Q0, 0, none⟩) L0 L0) ∧ W.cell? ⟨bI, oI + k, none⟩ = some (.int .i64 z)) := fun W x0 x1 x2 h1 h2 => ⟨(HSB.out W h1.bel).2.2.2.2.2.2.1, h1.bx.cells.1, h2⟩
              have hbq : bI ≠ Q0 := by
                obtain ⟨_, _, _, h1, h2, _⟩ := rd_nth HI8.out (k := k) (by rw [HL0.out]; exact hlt)
                injection h1 with h1
                injection h1 with h1 _ _
                subst h1
                have := hv.out.g0
                omega
              have q1 : (wr.setCell ⟨Q0, z, none⟩ (.int .i64 k)).cell? ⟨bI, oI + k, none⟩ = some (.int .i64 z) := by
                rw [← q0]
                unfold World.cell?
                rw [Below.heap_setCell _ _ _ _ (show bI ≠ Q0 from hbq)]
              have sw := HSX wr _ _ _ hv.out q0
              have sD := HSX wr.drew _ _ _ (hv.out.to (Below.refl _ _).drew) q0
              have sN := HSX _ _ _ _ hNw q1
              have sM := HSX (wr.setCell ⟨Q0, z, none⟩ (.int .i64 k)).drew _ _ _ HN.out q1
              have c0d : wr.drew.cell? ⟨Q0, z, none⟩ = some (.int .i64 old) := c0
              have f0d : wr.drew.frozen? ⟨Q0, z, none⟩ = false := f0
              clear hv hz hzr hNw HSX q1 hbq
              go_wp2_with fail
              go_region_held3 (fun W => (W.cell? ⟨K0 + 1, 0, none⟩ = some (.slice (some ⟨bI, oI, none⟩) L0 cI) ∧ W.cell? ⟨G9, 0, none⟩ = some (.slice (some ⟨Q0, 0, none⟩) L0 L0) ∧ W.cell? ⟨bI, oI + k, none⟩ = some (.int .i64 z)))
                (first | (with_reducible exact sw) | (with_reducible exact sD) | (with_reducible exact sN) | (with_reducible exact sM) | go_keep) (fail)
              clear sw sD sN sM c0 c0d f0 f0d q0 n0 n1 n2
              go_wp2
              go_roundw
              case rel => exact ⟨k + 1, by omega, by go_num, HN⟩
              case measure => simp [intOf]; omega
            · have hlti : ¬ (k : Int) < L0 := by omega
              have hv0 : Hid (NvJ w8 G9 Q0 Q1 Q2 L0 L1 L2 (invN ins) (List.replicate L1 0) (List.replicate L2 0) wr) := by
                have h := hv.out
                have hk2 : k = M.i.toNat := by have := HJ.out.li; have := HL0.out; omega
                rw [hk2, invK_done HJ.out.di HJ.out.li] at h
                exact h
              clear hv hk hlt
              go_wp2_with fail
              go_loopw [20] (fun v wr => ∃ k : Nat, k ≤ L1 ∧ v = .int .i64 k ∧ Hid (NvJ w8 G9 Q0 Q1 Q2 L0 L1 L2 (invN ins) (invK outs k) (List.replicate L2 0) wr)) (fun v _ => L1 - (intOf v).toNat)
              case atStart => exact ⟨0, Nat.zero_le _, rfl, by show NvJ _ _ _ _ _ _ _ _ _ _ _ _; rw [invK_zero, HL1.out]; exact hv0.out⟩
              case round =>
                clear hv0
                obtain ⟨k, hk, rfl, hv⟩ := hrel
                obtain ⟨_, _, _, _, _, _, n0, n1, n2⟩ := HSB.out _ hv.out.bel
                by_cases hlt : k < L1
                · have hlti : (k : Int) < L1 := by omega
                  obtain ⟨bI, oI, z, rfl, hbI, q0, hz⟩ := rd_nth (HO8.out.below hv.out.bel) (k := k) (by rw [HL1.out]; exact hlt)
                  have hzr := HJ.out.do_.2 z (List.mem_of_getElem? hz)
                  obtain ⟨z, rfl⟩ := Int.eq_ofNat_of_zero_le hzr.1
                  have hzL : z < L1 := by have := HJ.out.lo; have := HL1.out; omega
                  have hzLi : (z : Int) < L1 := by omega
                  have hzb : z < L1 := hzL
                  obtain ⟨old, c0, f0, _⟩ := hv.out.k1.at_ (k := z) (by rw [invK_len, HL1.out]; exact hzL)
                  have hNw := hv.out.set1 z (k : Int)
                  rw [invK_step HJ.out.do_ HJ.out.lo hz] at hNw
                  have HN := Lib.hid (hNw.to (Below.refl _ _).drew)
                  have HSX : ∀ (W : World) (x0 x1 x2 : List Int), NvJ w8 G9 Q0 Q1 Q2 L0 L1 L2 x0 x1 x2 W → W.cell? ⟨bI, oI + k, none⟩ = some (.int .i64 z) → (W.cell? ⟨K0 + 1, 1, none⟩ = some (.slice (some ⟨bI, oI, none⟩) L1 cO) ∧ W.cell? ⟨G9, 1, none⟩ = some (.slice (some ⟨Q1, 0, none⟩) L1 L1) ∧ W.cell? ⟨bI, oI + k, none⟩ = some (.int .i64 z)) := fun W x0 x1 x2 h1 h2 => ⟨(HSB.out W h1.bel).2.2.2.2.2.2.2.1, h1.bx.cells.2.1, h2⟩
                  have hbq : bI ≠ Q1 := by
                    obtain ⟨_, _, _, h1, h2, _⟩ := rd_nth HO8.out (k := k) (by rw [HL1.out]; exact hlt)
                    injection h1 with h1
                    injection h1 with h1 _ _
                    subst h1
                    have := hv.out.g1
                    omega
                  have q1 : (wr.setCell ⟨Q1, z, none⟩ (.int .i64 k)).cell? ⟨bI, oI + k, none⟩ = some (.int .i64 z) := by
                    rw [← q0]
                    unfold World.cell?
                    rw [Below.heap_setCell _ _ _ _ (show bI ≠ Q1 from hbq)]
                  have sw := HSX wr _ _ _ hv.out q0
                  have sD := HSX wr.drew _ _ _ (hv.out.to (Below.refl _ _).drew) q0
                  have sN := HSX _ _ _ _ hNw q1
                  have sM := HSX (wr.setCell ⟨Q1, z, none⟩ (.int .i64 k)).drew _ _ _ HN.out q1
                  have c0d : wr.drew.cell? ⟨Q1, z, none⟩ = some (.int .i64 old) := c0
                  have f0d : wr.drew.frozen? ⟨Q1, z, none⟩ = false := f0
                  clear hv hz hzr hNw HSX q1 hbq
                  go_wp2_with fail
                  go_region_held3 (fun W => (W.cell? ⟨K0 + 1, 1, none⟩ = some (.slice (some ⟨bI, oI, none⟩) L1 cO) ∧ W.cell? ⟨G9, 1, none⟩ = some (.slice (some ⟨Q1, 0, none⟩) L1 L1) ∧ W.cell? ⟨bI, oI + k, none⟩ = some (.int .i64 z)))
                    (first | (with_reducible exact sw) | (with_reducible exact sD) | (with_reducible exact sN) | (with_reducible exact sM) | go_keep) (fail)
                  clear sw sD sN sM c0 c0d f0 f0d q0 n0 n1 n2
                  go_wp2
                  go_roundw
                  case rel => exact ⟨k + 1, by omega, by go_num, HN⟩
                  case measure => simp [intOf]; omega
                · have hlti : ¬ (k : Int) < L1 := by omega
                  have hv1 : Hid (NvJ w8 G9 Q0 Q1 Q2 L0 L1 L2 (invN ins) (invN outs) (List.replicate L2 0) wr) := by
                    have h := hv.out
                    have hk2 : k = M.o.toNat := by have := HJ.out.lo; have := HL1.out; omega
                    rw [hk2, invK_done HJ.out.do_ HJ.out.lo] at h
                    exact h
                  clear hv hk hlt
                  go_wp2_with fail
                  go_loopw [21] (fun v wr => ∃ k : Nat, k ≤ L2 ∧ v = .int .i64 k ∧ Hid (NvJ w8 G9 Q0 Q1 Q2 L0 L1 L2 (invN ins) (invN outs) (invK sts k) wr)) (fun v _ => L2 - (intOf v).toNat)
                  case atStart => exact ⟨0, Nat.zero_le _, rfl, by show NvJ _ _ _ _ _ _ _ _ _ _ _ _; rw [invK_zero, HL2.out]; exact hv1.out⟩
                  case round =>
                    clear hv1
                    obtain ⟨k, hk, rfl, hv⟩ := hrel
                    obtain ⟨_, _, _, _, _, _, n0, n1, n2⟩ := HSB.out _ hv.out.bel
                    by_cases hlt : k < L2
                    · have hlti : (k : Int) < L2 := by omega
                      obtain ⟨_, _, z, hSe, hbI, q0, hz⟩ := rd_nth (HSS8.out.below hv.out.bel) (k := k) (by rw [HL2.out]; exact hlt)
                      injection hSe with hSe
                      injection hSe with hS1 hS2 _
                      subst hS1 hS2
                      have hzr := HJ.out.ds.2 z (List.mem_of_getElem? hz)
                      obtain ⟨z, rfl⟩ := Int.eq_ofNat_of_zero_le hzr.1
                      have hzL : z < L2 := by have := HJ.out.ls; have := HL2.out; omega
                      have hzLi : (z : Int) < L2 := by omega
                      have hzb : z < L2 := hzL
                      obtain ⟨old, c0, f0, _⟩ := hv.out.k2.at_ (k := z) (by rw [invK_len, HL2.out]; exact hzL)
                      have hNw := hv.out.set2 z (k : Int)
                      rw [invK_step HJ.out.ds HJ.out.ls hz] at hNw
                      have HN := Lib.hid (hNw.to (Below.refl _ _).drew)
                      have HSX : ∀ (W : World) (x0 x1 x2 : List Int), NvJ w8 G9 Q0 Q1 Q2 L0 L1 L2 x0 x1 x2 W → W.cell? ⟨bS, oS + k, none⟩ = some (.int .i64 z) → (W.cell? ⟨K0 + 1, 2, none⟩ = some (.slice (some ⟨bS, oS, none⟩) L2 cS) ∧ W.cell? ⟨G9, 2, none⟩ = some (.slice (some ⟨Q2, 0, none⟩) L2 L2) ∧ W.cell? ⟨bS, oS + k, none⟩ = some (.int .i64 z)) := fun W x0 x1 x2 h1 h2 => ⟨(HSB.out W h1.bel).2.2.2.2.2.2.2.2, h1.bx.cells.2.2, h2⟩
                      have hbq : bS ≠ Q2 := by
                        obtain ⟨_, _, _, h1, h2, _⟩ := rd_nth HSS8.out (k := k) (by rw [HL2.out]; exact hlt)
                        injection h1 with h1
                        injection h1 with h1 _ _
                        subst h1
                        have := hv.out.g2
                        omega
                      have q1 : (wr.setCell ⟨Q2, z, none⟩ (.int .i64 k)).cell? ⟨bS, oS + k, none⟩ = some (.int .i64 z) := by
                        rw [← q0]
                        unfold World.cell?
                        rw [Below.heap_setCell _ _ _ _ (show bS ≠ Q2 from hbq)]
                      have sw := HSX wr _ _ _ hv.out q0
                      have sD := HSX wr.drew _ _ _ (hv.out.to (Below.refl _ _).drew) q0
                      have sN := HSX _ _ _ _ hNw q1
                      have sM := HSX (wr.setCell ⟨Q2, z, none⟩ (.int .i64 k)).drew _ _ _ HN.out q1
                      have c0d : wr.drew.cell? ⟨Q2, z, none⟩ = some (.int .i64 old) := c0
                      have f0d : wr.drew.frozen? ⟨Q2, z, none⟩ = false := f0
                      clear hv hz hzr hNw HSX q1 hbq
                      go_wp2_with fail
                      go_region_held3 (fun W => (W.cell? ⟨K0 + 1, 2, none⟩ = some (.slice (some ⟨bS, oS, none⟩) L2 cS) ∧ W.cell? ⟨G9, 2, none⟩ = some (.slice (some ⟨Q2, 0, none⟩) L2 L2) ∧ W.cell? ⟨bS, oS + k, none⟩ = some (.int .i64 z)))
                        (first | (with_reducible exact sw) | (with_reducible exact sD) | (with_reducible exact sN) | (with_reducible exact sM) | go_keep) (fail)
                      clear sw sD sN sM c0 c0d f0 f0d q0 n0 n1 n2
                      go_wp2
                      go_roundw
                      case rel => exact ⟨k + 1, by omega, by go_num, HN⟩
                      case measure => simp [intOf]; omega
                    · have hlti : ¬ (k : Int) < L2 := by omega
                      have hv2 : Hid (NvJ w8 G9 Q0 Q1 Q2 L0 L1 L2 (invN ins) (invN outs) (invN sts) wr) := by
                        have h := hv.out
                        have hk2 : k = M.r.length := by have := HJ.out.ls; have := HL2.out; omega
                        rw [hk2, invK_done HJ.out.ds HJ.out.ls] at h
                        exact h
                      clear hv hk hlt
                      obtain ⟨w9, hw9⟩ : ∃ q, q = wr := ⟨_, rfl⟩
                      rw [← hw9] at hv2 n0 n1 n2 ⊢
                      clear hw9
                      have S9 := Lib.hid (MT.next S8.out hv2.out.bel)
                      obtain ⟨m0, m1, m2⟩ := BxM.cells (MK.get S9.out 0 rfl)
                      obtain ⟨x0, x1, x2⟩ := hv2.out.bx.cells
                      go_wp2_with fail
                      clear m0 m1 m2 x0 x1 x2 n0 n1 n2
                      refine (CR3.out _ hv2.out.bel hv2.out.k0.rd hv2.out.k1.rd hv2.out.k2.rd).mono ?_
                      rintro e w10 ⟨P2, rfl, hX2, hb10⟩
                      have s10 := MK.putXJ (MT.next S9.out hb10) hX2
                      have s11 := MK.putB (g := w10.heap.size) (MT.alloc s10 (.cells #[.int .i64 i, .int .i64 o, .slice (some ⟨P2, 0, none⟩) n n] 24)) (heap_alloc_new w10 _)
                      clear s10 hb10 hX2 CR3
                      go_upto_region 43 with fail
                      obtain ⟨w11, hw⟩ : ∃ q, w10.alloc (.cells #[.int .i64 i, .int .i64 o, .slice (some ⟨P2, 0, none⟩) n n] 24) = q := ⟨_, rfl⟩
                      obtain ⟨T2, hT2⟩ : ∃ T, w10.heap.size = T := ⟨_, rfl⟩
                      rw [hw, hT2] at s11
                      try rw [hw]
                      try rw [hT2]
                      clear hw hT2
                      -- 0: T2, 1: the rows, 2: T, 3: G, .., 6: M.r
                      obtain ⟨m0, m1, m2⟩ := BxM.cells (MK.get s11 0 rfl)
                      obtain ⟨g0, g1, g2⟩ := BxM.cells (MK.get s11 3 rfl)
                      go_wp2_with fail
                      clear m0 m1 m2 g0 g1 g2
                      refine (jmachine_yes i o M.r P2 n c1 R _ (MK.get s11 1 rfl) (MK.get s11 6 rfl)).mono ?_
                      rintro e w12 ⟨rfl, hb12⟩
                      have s12 := MT.next s11 hb12
                      clear s11 hb12
                      go_wp2_with fail
                      refine (jlives_walk _).mono ?_
                      rintro e w13 ⟨rfl, hb13⟩
                      have hfin := Lib.hid (MT.next s12 hb13).2.1
                      clear s12 hb13
                      go_wp2
                      go_ret
                      exact ⟨rfl, hfin.out⟩
end Go.Proofs.Ytgafpmgdpigliaa
