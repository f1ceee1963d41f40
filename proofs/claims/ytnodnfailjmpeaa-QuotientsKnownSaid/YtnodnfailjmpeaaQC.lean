/-
  Contracts of the reference of layer 9: Homomorphic. No statement is proved here.
-/
import Derived.Test.YtnodnfailjmpeaaQnI
import Derived.Test.YtnodnfailjmpeaaRfY
import Derived.Test.YtnodnfailjmpeaaWiZ
import Derived.Deep.QuietTactic
import Derived.Deep.CutRange
namespace Go.Proofs.Ytnodnfailjmpeaa
open Go.RowKit
open Mc (Ed Ma)

/-- The edges of a state and of its image agree. -/
def Agr (a b : Ma) (f : List Int) (s i : Nat) : Prop := (Mc.nx a s i).2 = (Mc.nx b (M.gz f s) i).2 ∧ (0 ≤ (Mc.nx a s i).1 → M.gz f (Mc.nx a s i).1.toNat = (Mc.nx b (M.gz f s) i).1)
theorem agr_hom {a b : Ma} {f : List Int} (h0 : M.gz f 0 = 0) (h : ∀ s i : Nat, s < a.r.length → (i : Int) < a.i → Agr a b f s i) : Mc.Hom a b f := ⟨h0, fun s i h1 h2 => (h s i h1 h2).1, fun s i h1 h2 => (h s i h1 h2).2⟩
theorem hom_agr {a b : Ma} {f : List Int} (h : Mc.Hom a b f) {s i : Nat} (h1 : s < a.r.length) (h2 : (i : Int) < a.i) : Agr a b f s i := ⟨h.out s i h1 h2, h.to s i h1 h2⟩
set_option maxRecDepth 100000 in
set_option maxHeartbeats 4000000 in
theorem rhom_any (a b : Ma) (A B : Option Addr) (n c k d : Nat) (F : Option Addr) (e : Nat) (f : List Int) (w : World) (va : Mc.Val a) (vb : Mc.Val b) (hr : RdR w A a.r) (hq : RdR w B b.r) (hn : a.r.length = n) (hk : b.r.length = k) (hF : Rd w F f) (hf : f.length = n) (hii : a.i = b.i) (hfr : ∀ s : Nat, s < n → 0 ≤ M.gz f s ∧ M.gz f s < k) (r : Int) (hr1 : Mc.Hom a b f → r = 1) (hr0 : ¬ Mc.Hom a b f → r = 0) :
    Calls Try.prog 51 #[.agg #[.int .i64 a.i, .int .i64 a.o, .slice A n c], .agg #[.int .i64 b.i, .int .i64 b.o, .slice B k d], .slice F n e] w fun e w' => e = .returned (.int .i64 r) ∧ Below w.heap.size w w' := by
  have h0 : B2 w a b A B n c k d ((boxM w a.i a.o A n c).alloc (.cells #[.int .i64 b.i, .int .i64 b.o, .slice B k d] 24)) :=
    ⟨((Below.refl _ _).alloc (Nat.le_refl _) _).alloc (by simp) _, (BxM.new w _ _ _ _ _).mvB ((Below.refl _ _).alloc (Nat.le_refl _) _), BxM.newE (w := boxM w a.i a.o A n c) (by simp) _ _ _ _ _⟩
  have hn64 : n ≤ 64 := by rw [← hn]; exact va.r1
  have hn1 : 1 ≤ n := by rw [← hn]; exact va.r0
  have H0 := Lib.hid h0
  have HA := Lib.hid va
  have HB := Lib.hid vb
  have HN := Lib.hid hn
  have HK := Lib.hid hk
  have HF := Lib.hid hf
  have HI := Lib.hid hii
  have HR := Lib.hid hfr
  have HR1 := Lib.hid hr1
  have HR0 := Lib.hid hr0
  obtain ⟨ni, hni⟩ : ∃ ni : Nat, a.i = ni := ⟨a.i.toNat, by have := va.i0; omega⟩
  have hni16 : ni ≤ 16 := by have := va.i1; omega
  have HNI := Lib.hid hni
  obtain ⟨bF, oF, u0, rfl, hbF, hcF, hu0⟩ := (hF.below h0.bel).at_ (k := 0) (by rw [hf]; exact hn1)
  rw [Nat.add_zero] at hcF
  have hn0 : (0 : Int) < n := by omega
  have hbF0 : bF < w.heap.size := by
    obtain ⟨b9, o9, e9, h9, _⟩ := hF (by rw [hf]; exact hn1)
    injection e9 with e9
    injection e9 with e9 _
    omega
  have hbl := Lib.hid h0.bel
  clear va vb hn hk hf hii hfr hr1 hr0 h0 hni
  go_enter Try.func51, Try.ntmps51
  by_cases hu : u0 = 0
  · subst hu
    have HU0 : Hid (M.gz f 0 = 0) := hu0.out
    clear hu0
    go_wp2
    clear hcF hbl
    go_loopw [7] (fun v wr => ∃ s : Nat, s ≤ n ∧ v = .int .i64 s ∧ Hid (∀ s' i : Nat, s' < s → i < ni → Agr a b f s' i) ∧ Hid (B2 w a b A B n c k d wr)) (fun v _ => n - (intOf v).toNat)
    case atStart => exact ⟨0, Nat.zero_le _, rfl, fun s' i h => absurd h (Nat.not_lt_zero _), H0⟩
    case round =>
      obtain ⟨s, hs, rfl, hG, hW⟩ := hrel
      clear H0
      obtain ⟨q0, q1, q2⟩ := hW.out.ba.cells
      by_cases hsn : s < n
      · have hsn' : (s : Int) < n := by omega
        obtain ⟨bA, oA, R, cR, lR, row, hAe, hbA, hcA, _, _, _, hpA, hlA, hqA⟩ := hr.at_ (k := s) (by rw [HN.out]; exact hsn)
        subst hAe
        have hli : lR = ni := by
          have := HA.out.len row (List.mem_of_getElem? hqA.out)
          have := hlA.out
          have := HNI.out
          omega
        subst hli
        obtain ⟨bF2, oF2, u, hFe, hbF2, hcF2, hu2⟩ := hF.at_ (k := s) (by rw [HF.out]; exact hsn)
        injection hFe with hFe
        injection hFe with e1 e2
        subst e1 e2
        have hur := HR.out s hsn
        rw [show M.gz f s = u from hu2.out] at hur
        obtain ⟨t, rfl⟩ := Int.eq_ofNat_of_zero_le hur.1
        have htk : (t : Int) < k := hur.2
        obtain ⟨bB, oB, R2, cR2, lR2, row2, hBe, hbB, hcB, _, _, _, hpB, hlB, hqB⟩ := hq.at_ (k := t) (by rw [HK.out]; omega)
        subst hBe
        have hli2 : lR2 = lR := by
          have := HB.out.len row2 (List.mem_of_getElem? hqB.out)
          have := hlB.out
          have := HNI.out
          have := HI.out
          omega
        subst hli2
        have HUS : Hid (M.gz f s = t) := hu2.out
        clear hu2
        go_wp2
        clear q0 q1 q2
        obtain ⟨wo, rfl⟩ : ∃ wo : World, wo = wr := ⟨_, rfl⟩
        go_loopw [8] (fun v wr => ∃ j : Nat, j ≤ lR2 ∧ v = .int .i64 j ∧ Hid (∀ i : Nat, i < j → Agr a b f s i) ∧ Hid (B2 w a b (some ⟨bA, oA, none⟩) (some ⟨bB, oB, none⟩) n c k d wr)) (fun v _ => lR2 - (intOf v).toNat)
        case atStart => exact ⟨0, Nat.zero_le _, rfl, fun i h => absurd h (Nat.not_lt_zero _), hW⟩
        case round =>
          clear hW
          obtain ⟨j, hj, rfl, hJ, hW⟩ := hrel
          obtain ⟨q0, q1, q2⟩ := hW.out.ba.cells
          obtain ⟨z0, z1, z2⟩ := hW.out.bb.cells
          by_cases hjl : j < lR2
          · have hjl' : (j : Int) < lR2 := by omega
            have hja : (j : Int) < a.i := by have := HNI.out; omega
            have HJL := Lib.hid hjl
            obtain ⟨b3, off3, ex, ey, rfl, hb3, hx0, hy0, hqe⟩ := hpA.at_ (k := j) (by rw [hlA.out]; exact hjl)
            obtain ⟨b4, off4, gx, gy, rfl, hb4, hgx0, hgy0, hqg⟩ := hpB.at_ (k := j) (by rw [hlB.out]; exact hjl)
            have hnA : Hid (Mc.nx a s j = (ex, ey)) := Mc.nx_at hqA.out hqe.out
            have hnB : Hid (Mc.nx b t j = (gx, gy)) := Mc.nx_at hqB.out hqg.out
            have hok := HA.out.ok row (List.mem_of_getElem? hqA.out) _ (List.mem_of_getElem? hqe.out)
            simp only at hok
            have hexr : ex = -1 ∨ (0 ≤ ex ∧ ex < n) := by rw [HN.out] at hok; omega
            have hbw := hW.out.bel
            have d1 := (hbw.cell (p := ⟨bA, oA + s, none⟩) hbA).trans hcA
            have d2 := (hbw.cell (p := ⟨bB, oB + t, none⟩) hbB).trans hcB
            have d3 := (hbw.cell (p := ⟨b3, off3 + j * 2, none⟩) hb3).trans hx0
            have d4 := (hbw.cell (p := ⟨b3, off3 + j * 2 + 1, none⟩) hb3).trans hy0
            have d5 := (hbw.cell (p := ⟨b4, off4 + j * 2, none⟩) hb4).trans hgx0
            have d6 := (hbw.cell (p := ⟨b4, off4 + j * 2 + 1, none⟩) hb4).trans hgy0
            have d7 := (hbw.cell (p := ⟨bF, oF + s, none⟩) hbF0).trans hcF2
            have hsz := hbw.size
            have y0 : w.heap.size + 1 < wr.heap.size := heap_lt hW.out.bb
            have y6 : w.heap.size < wr.heap.size := by omega
            have y1 : b3 < wr.heap.size := by omega
            have y2 : b4 < wr.heap.size := by omega
            have y3 : bA < wr.heap.size := by omega
            have y4 : bB < wr.heap.size := by omega
            have y5 : bF < wr.heap.size := by omega
            clear hok hx0 hy0 hgx0 hgy0 hcA hcB
            go_upto_region 9 with fail
            go_cut [9, 10] from 28 to 46 (fun u v wx => ∃ gA gB, u = .pointer (some ⟨gA, 0, none⟩) ∧ v = .pointer (some ⟨gB, 0, none⟩) ∧ Hid (BxE wx gA ex ey) ∧ Hid (BxE wx gB gx gy) ∧ Hid (Below wr.heap.size wr wx))
            case first =>
              go_region
              all_goals
                go_wp2_with fail
                go_meet
                first
                  | exact ⟨_, _, rfl, rfl, (two_edges wr ex ey gx gy).1, (two_edges wr ex ey gx gy).2.1, (two_edges wr ex ey gx gy).2.2⟩
                  | exact ⟨_, _, rfl, rfl, (two_edges wr gx gy ex ey).2.1, (two_edges wr gx gy ex ey).1, (two_edges wr gx gy ex ey).2.2⟩
            case rest =>
            obtain ⟨gA, gB, rfl, rfl, hgA, hgB, hbc⟩ := hcut
            have hW2 := Lib.hid (hW.out.below hbc.out)
            obtain ⟨u1, u2, _, _⟩ := hgA.out.cells
            obtain ⟨u3, u4, _, _⟩ := hgB.out.cells
            have HBW := Lib.hid hW2.out.bel
            have HEX := Lib.hid hexr
            clear hgA hgB hbc hW d1 d2 d3 d4 d5 d6 d7 y0 y6 y1 y2 y3 y4 y5 hsz q0 q1 q2 z0 z1 z2 hbw hexr hpA hpB hqe hqg
            have hno : Hid (¬ Agr a b f s j → r = 0) := fun h => HR0.out fun h2 => h (hom_agr h2 (by rw [HN.out]; exact hsn) (by rw [HNI.out]; have := HJL.out; omega))
            have hyes : Hid (Agr a b f s j → ∀ i : Nat, i < j + 1 → Agr a b f s i) := fun h i h2 => by
              rcases Nat.lt_or_ge i j with h3 | h3
              · exact hJ.out i h3
              · obtain rfl : i = j := by omega
                exact h
            by_cases ho : ey = gy
            · have ho2 : (ey != gy) = false := by simp [ho]
              have ho3 : (ey == gy) = true := by simp [ho]
              by_cases hx : 0 ≤ ex
              · have hx' : decide (0 ≤ ex) = true := decide_eq_true hx
                obtain ⟨t2, rfl⟩ : ∃ q : Nat, ex = q := ⟨ex.toNat, by omega⟩
                have htn : t2 < n := by have := HEX.out; omega
                have htn' : (t2 : Int) < n := by omega
                obtain ⟨b6, o6, g, hFe6, _, hc6, hg6⟩ := hF.at_ (k := t2) (by rw [HF.out]; exact htn)
                injection hFe6 with hFe6
                injection hFe6 with e3 e4
                subst e3 e4
                have c6 := (HBW.out.cell (p := ⟨bF, oF + t2, none⟩) hbF0).trans hc6
                have HG6 : Hid (M.gz f t2 = g) := hg6.out
                clear hg6 hc6
                by_cases hg : g = gx
                · have hg2 : (g != gx) = false := by simp [hg]
                  have hJ2 := Lib.hid (hyes.out ⟨by rw [hnA.out, HUS.out, hnB.out, ho], fun _ => by rw [hnA.out, HUS.out, hnB.out, Int.toNat_natCast, HG6.out, hg]⟩)
                  clear hno hyes hg hJ ho
                  go_wp2_with fail
                  go_quiet (fail)
                  go_wp2_with fail
                  go_roundw
                  case rel => exact ⟨j + 1, by have := HJL.out; omega, by go_num, hJ2, Lib.hid (hW2.out.below (below_drewN' (Below.refl _ _) _))⟩
                  case measure => have := HJL.out; simp [intOf]; omega
                · have hg2 : (g != gx) = true := by simpa using hg
                  have hz : Hid (r = 0) := hno.out fun h => hg (by
                    have := h.2
                    rw [hnA.out, HUS.out, hnB.out, Int.toNat_natCast, HG6.out] at this
                    exact this hx)
                  clear hno hyes hg hJ ho
                  go_wp2_with fail
                  go_quiet (fail)
                  go_wp2_with fail
                  go_ret
                  exact ⟨ret_int hz.out.symm, below_drewN' HBW.out _⟩
              · have hx' : decide (0 ≤ ex) = false := decide_eq_false hx
                have hJ2 := Lib.hid (hyes.out ⟨by rw [hnA.out, HUS.out, hnB.out, ho], fun h => by rw [hnA.out] at h; exact absurd h hx⟩)
                clear hno hyes hJ ho
                go_wp2_with fail
                go_quiet (fail)
                go_wp2_with fail
                go_roundw
                case rel => exact ⟨j + 1, by have := HJL.out; omega, by go_num, hJ2, Lib.hid (hW2.out.below (below_drewN' (Below.refl _ _) _))⟩
                case measure => have := HJL.out; simp [intOf]; omega
            · have ho2 : (ey != gy) = true := by simpa using ho
              have ho3 : (ey == gy) = false := by rw [beq_eq_false_iff_ne]; exact ho
              have hz : Hid (r = 0) := hno.out fun h => ho (by
                have := h.1
                rw [hnA.out, HUS.out, hnB.out] at this
                exact this)
              clear hno hyes hJ ho
              go_wp2_with fail
              go_quiet (fail)
              go_wp2_with fail
              go_ret
              exact ⟨ret_int hz.out.symm, below_drewN' HBW.out _⟩
          · obtain rfl : j = lR2 := by omega
            have hjl' : ¬ (j : Int) < j := by omega
            have hja : ¬ (j : Int) < a.i := by have := HNI.out; omega
            have hG2 : Hid (∀ s' i : Nat, s' < s + 1 → i < j → Agr a b f s' i) := fun s' i h h2 => by
              rcases Nat.lt_or_ge s' s with h3 | h3
              · exact hG.out s' i h3 h2
              · obtain rfl : s' = s := by omega
                exact hJ.out i h2
            clear hG hJ
            go_wp2
            go_roundw
            case rel => exact ⟨s + 1, by omega, by go_num, hG2, hW⟩
            case measure => simp [intOf]; omega
      · obtain rfl : s = n := by omega
        have hsn' : ¬ (s : Int) < s := by omega
        have hz : Hid (r = 1) := HR1.out (agr_hom HU0.out fun s' i h1 h2 => hG.out s' i (by rw [← HN.out]; exact h1) (by rw [HNI.out] at h2; omega))
        have hfin := Lib.hid hW.out.bel
        clear hG hW
        go_wp2
        go_ret
        exact ⟨ret_int hz.out.symm, hfin.out⟩
  · have hun : (u0 != 0) = true := by simpa using hu
    have hz : Hid (r = 0) := HR0.out fun h => hu (hu0.out.symm.trans h.zero)
    clear hu0
    go_wp2
    go_ret
    exact ⟨ret_int hz.out.symm, hbl.out⟩
end Go.Proofs.Ytnodnfailjmpeaa
