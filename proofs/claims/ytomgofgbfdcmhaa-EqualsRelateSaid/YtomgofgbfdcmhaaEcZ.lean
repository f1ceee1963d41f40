/-
  Several texts in one: Ec4, Ec5, EqP. No statement is proved here.
-/
import Derived.Test.YtomgofgbfdcmhaaEc2
namespace Go.Proofs.Ytomgofgbfdcmhaa
open Go.RowKit
open Mc (Ed Ma Wv)

set_option maxRecDepth 100000 in
set_option maxHeartbeats 2000000 in
theorem rin_any (X : Option Addr) (k c : Nat) (R : List (Int × Int)) (x y : Int) (w : World) (hr : RdP w X R) (hk : R.length = k) (hkb : k ≤ 1000000) :
    Calls Try.prog 70 #[.slice X k c, .agg #[.int .i64 x, .int .i64 y]] w fun e w' => e = .returned (.int .i64 (if (x, y) ∈ R then 1 else 0)) ∧ Below w.heap.size w w' := by
  obtain ⟨z, hz⟩ : ∃ z : Int, (if (x, y) ∈ R then 1 else 0) = z := ⟨_, rfl⟩
  rw [hz]
  have HZ := Lib.hid hz
  have HK := Lib.hid hk
  have hg := pair_guard
  have hB : Hid (Below w.heap.size w (w.alloc (.cells #[.int .i64 x, .int .i64 y] 64))) := (Below.refl _ _).alloc (Nat.le_refl _) _
  have q0 : Hid ((w.alloc (.cells #[.int .i64 x, .int .i64 y] 64)).cell? ⟨w.heap.size, 0, none⟩ = some (.int .i64 x)) := by show _ = _; rw [World.cell?_alloc_at _ _ _ _ rfl]; rfl
  have q1 : Hid ((w.alloc (.cells #[.int .i64 x, .int .i64 y] 64)).cell? ⟨w.heap.size, 1, none⟩ = some (.int .i64 y)) := by show _ = _; rw [World.cell?_alloc_at _ _ _ _ rfl]; rfl
  clear hz hk
  go_enter Try.func70, Try.ntmps70
  go_wp2_with fail
  go_loopw [5] (fun v wr => ∃ j : Nat, j ≤ k ∧ v = .int .i64 j ∧ Hid (∀ (i : Nat), i < j → R[i]? ≠ some (x, y)) ∧ Hid (Below (w.heap.size + 1) (w.alloc (.cells #[.int .i64 x, .int .i64 y] 64)) wr)) (fun v _ => k - (intOf v).toNat)
  case atStart => exact ⟨0, by omega, rfl, fun i h => by omega, Below.refl _ _⟩
  case round =>
    obtain ⟨j, hj, rfl, hno, hbr⟩ := hrel
    have hbw : Below w.heap.size w wr := hB.out.trans (hbr.out.mono (by omega))
    have HBW := Lib.hid hbw
    by_cases hjk : j < k
    · have hjk' : (j : Int) < k := by omega
      obtain ⟨e1, f1, x', y', rfl, he1, hx0, hy0, hqe⟩ := hr.at_ (k := j) (by rw [HK.out]; exact hjk)
      have z0 := (hbw.cell (p := ⟨e1, f1 + j * 2, none⟩) he1).trans hx0
      have z1 := (hbw.cell (p := ⟨e1, f1 + j * 2 + 1, none⟩) he1).trans hy0
      have p0 := (hbr.out.cell (p := ⟨w.heap.size, 0, none⟩) (by show w.heap.size < _; omega)).trans q0.out
      have p1 := (hbr.out.cell (p := ⟨w.heap.size, 1, none⟩) (by show w.heap.size < _; omega)).trans q1.out
      by_cases he : x' = x ∧ y' = y
      · obtain ⟨rfl, rfl⟩ := he
        have hrun : ∀ w, (binOp .eql 64 (.agg #[.int .i64 x', .int .i64 y']) (.agg #[.int .i64 x', .int .i64 y'])).run Try.prog w = .ok (.bool true) w := fun w => by
          rw [run_eql_pair]; simp
        obtain rfl : z = 1 := by rw [← HZ.out, if_pos (List.mem_of_getElem? hqe.out)]
        clear hbw hx0 hy0
        go_wp2
        go_quiet (fail)
        go_wp2
        go_ret
        exact ⟨rfl, below_drewN' HBW.out _⟩
      · have hrun : ∀ w, (binOp .eql 64 (.agg #[.int .i64 x', .int .i64 y']) (.agg #[.int .i64 x, .int .i64 y])).run Try.prog w = .ok (.bool false) w := fun w => by
          rw [run_eql_pair]
          have : ((x' == x) && (y' == y)) = false := by
            rw [Bool.eq_false_iff]
            intro h
            simp at h
            exact he h
          rw [this]
        have hno2 : Hid (∀ (i : Nat), i < j + 1 → R[i]? ≠ some (x, y)) := fun i hi h => by
          rcases Nat.lt_or_ge i j with h1 | h1
          · exact hno.out i h1 h
          · obtain rfl : i = j := by omega
            rw [hqe.out] at h
            injection h with h
            injection h with h2 h3
            exact he ⟨h2, h3⟩
        clear hbw hx0 hy0
        go_wp2
        go_quiet (fail)
        go_wp2
        go_roundw
        case rel => exact ⟨j + 1, by omega, by go_num, hno2, Lib.hid (below_drewN' hbr.out _)⟩
        case measure => simp [intOf]; omega
    · obtain rfl : j = k := by omega
      have hlt : ¬ ((j : Int) < j) := by omega
      obtain rfl : z = 0 := by
        rw [← HZ.out, if_neg]
        intro h
        obtain ⟨i, hi, e⟩ := List.getElem_of_mem h
        exact hno.out i (by rw [← HK.out]; exact hi) (by rw [List.getElem?_eq_getElem hi, e])
      clear hbw
      go_wp2
      go_ret
      exact ⟨rfl, HBW.out⟩
end Go.Proofs.Ytomgofgbfdcmhaa

namespace Go.Proofs.Ytomgofgbfdcmhaa
open Go.RowKit
open Mc (Ed Ma Wv)

def CtfP (a b : Ma) (R : List (Int × Int)) : Prop := (∀ p ∈ R, kps a b R p.1 p.2) ∧ ((0, 0) : Int × Int) ∈ R
/-- What Certifies hands back. -/
def CtP (w : World) (a b : Ma) (R : List (Int × Int)) (e : Ending) (w' : World) : Prop := ∃ z : Int, e = .returned (.int .i64 z) ∧ (z = 1 ↔ CtfP a b R) ∧ (z = 0 ↔ ¬ CtfP a b R) ∧ Below w.heap.size w w'
theorem CtP.yes {w w' : World} {a b : Ma} {R : List (Int × Int)} (h : CtfP a b R) (hb : Below w.heap.size w w') : CtP w a b R (.returned (.int .i64 1)) w' := ⟨1, rfl, ⟨fun _ => h, fun _ => rfl⟩, ⟨(fun e => by cases e), fun e => absurd h e⟩, hb⟩
theorem CtP.no {w w' : World} {a b : Ma} {R : List (Int × Int)} (h : ¬ CtfP a b R) (hb : Below w.heap.size w w') : CtP w a b R (.returned (.int .i64 0)) w' := ⟨0, rfl, ⟨(fun e => by cases e), fun e => absurd e h⟩, ⟨fun _ => h, fun _ => rfl⟩, hb⟩
set_option maxRecDepth 100000 in
set_option maxHeartbeats 4000000 in
theorem rcert_any (a b : Ma) (va : Mc.Val a) (vb : Mc.Val b) (i : Nat) (ao bo : Int) (hia : a.i = i) (hib : b.i = i) (A B X : Option Addr) (n c n2 c2 k cX : Nat) (R : List (Int × Int)) (w : World) (hra : RdR w A a.r) (hn : a.r.length = n) (hrb : RdR w B b.r) (hn2 : b.r.length = n2) (hrx : RdP w X R) (hk : R.length = k) (hkb : k ≤ 1000000) (hin : ∀ p ∈ R, inR n n2 p) :
    Calls Try.prog 32 #[.agg #[.int .i64 i, .int .i64 ao, .slice A n c], .agg #[.int .i64 i, .int .i64 bo, .slice B n2 c2], .slice X k cX] w (CtP w a b R) := by
  obtain ⟨h, hh⟩ : ∃ h, w.heap.size = h := ⟨_, rfl⟩
  obtain ⟨W1, hW1⟩ : ∃ W1, boxM (boxM w i ao A n c) i bo B n2 c2 = W1 := ⟨_, rfl⟩
  have hB1 : Below w.heap.size w W1 := by rw [← hW1]; exact ((Below.refl _ _).alloc (Nat.le_refl _) _).alloc (by simp) _
  have hM1 : BxM W1 h i ao A n c := by rw [← hW1]; exact (BxM.newE hh i ao A n c).mvB ((Below.refl _ _).alloc (Nat.le_refl _) _)
  have hM2 : BxM W1 (h + 1) i bo B n2 c2 := by rw [← hW1]; exact BxM.newE (by simp [boxM, hh]) i bo B n2 c2
  have HM1 := Lib.hid hM1
  have HM2 := Lib.hid hM2
  have HB1 := Lib.hid hB1
  have HRA := Lib.hid (hra.below hB1)
  have HRB := Lib.hid (hrb.below hB1)
  have HRX := Lib.hid (hrx.below hB1)
  have HIA := Lib.hid hia
  have HIB := Lib.hid hib
  have HN := Lib.hid hn
  have HN2 := Lib.hid hn2
  have HK := Lib.hid hk
  have HIN := Lib.hid hin
  have VA := Lib.hid va
  have VB := Lib.hid vb
  have CI : Hid (∀ wr x y, Below W1.heap.size W1 wr → Calls Try.prog 70 #[.slice X k cX, .agg #[.int .i64 x, .int .i64 y]] wr fun e w' => e = .returned (.int .i64 (if (x, y) ∈ R then 1 else 0)) ∧ Below wr.heap.size wr w') := fun wr x y hb => rin_any X k cX R x y wr (HRX.out.below hb) hk hkb
  have hi16 : i ≤ 16 := by have := va.i1; rw [hia] at this; omega
  clear hB1 hM1 hM2 hra hrb hrx hia hib hn hn2 hk hin va vb
  go_enter Try.func32, Try.ntmps32
  go_wp2_with fail
  refine (CI.out W1 0 0 (Below.refl _ _)).mono ?_
  rintro e w2 ⟨rfl, hb2⟩
  have HB2 := Lib.hid hb2
  clear hb2 hW1
  by_cases h00 : ((0, 0) : Int × Int) ∈ R
  · rw [if_pos h00]
    have H00 := Lib.hid h00
    clear h00
    go_wp2_with fail
    go_loopw [7] (fun v wr => ∃ j : Nat, j ≤ k ∧ v = .int .i64 j ∧ Hid (∀ (q : Nat) p, q < j → R[q]? = some p → kps a b R p.1 p.2) ∧ Hid (Below W1.heap.size W1 wr)) (fun v _ => k - (intOf v).toNat)
    case atStart => exact ⟨0, by omega, rfl, fun q p h => by omega, HB2⟩
    case round =>
      clear HB2
      obtain ⟨j, hj, rfl, hall, hbr⟩ := hrel
      by_cases hjk : j < k
      · have hjk' : (j : Int) < k := by omega
        obtain ⟨e1, f1, x, y, rfl, he1, hx0, hy0, hqe1⟩ := HRX.out.at_ (k := j) (by rw [HK.out]; exact hjk)
        have hpi := HIN.out _ (List.mem_of_getElem? hqe1.out)
        unfold inR at hpi
        obtain ⟨⟨g1, g2⟩, g3, g4⟩ := hpi
        simp only at g1 g2 g3 g4
        obtain ⟨s, rfl⟩ := Int.eq_ofNat_of_zero_le g1
        obtain ⟨t, rfl⟩ := Int.eq_ofNat_of_zero_le g3
        obtain ⟨b1, o1, R1, d1, r1n, row1, rfl, hb1, hcw1, _, _, _, hpw1, hln1, hqr1⟩ := HRA.out.at_ (k := s) (by rw [HN.out]; omega)
        obtain ⟨b2, o2, R2, d2, r2n, row2, rfl, hb2, hcw2, _, _, _, hpw2, hln2, hqr2⟩ := HRB.out.at_ (k := t) (by rw [HN2.out]; omega)
        obtain rfl : i = r1n := by have := VA.out.len row1 (List.mem_of_getElem? hqr1.out); have := hln1.out; have := HIA.out; omega
        obtain rfl : i = r2n := by have := VB.out.len row2 (List.mem_of_getElem? hqr2.out); have := hln2.out; have := HIB.out; omega
        go_wp2_with fail
        go_loopw [8] (fun v wr => ∃ q : Nat, q ≤ i ∧ v = .int .i64 q ∧ Hid (∀ d : Int, 0 ≤ d → d < q → (Mc.nx a s d).2 = (Mc.nx b t d).2 ∧ ((Mc.nx a s d).1 = -1 ∨ ((Mc.nx a s d).1, (Mc.nx b t d).1) ∈ R)) ∧ Hid (Below W1.heap.size W1 wr)) (fun v _ => i - (intOf v).toNat)
        case atStart => exact ⟨0, by omega, rfl, fun d h0 h1 => by omega, hbr⟩
        case round =>
          clear hbr
          obtain ⟨q, hq, rfl, hsm, hbr⟩ := hrel
          obtain ⟨m0, m1, m2⟩ := BxM.cells (HM1.out.mvB hbr.out)
          obtain ⟨l0, l1, l2⟩ := BxM.cells (HM2.out.mvB hbr.out)
          by_cases hqi : q < i
          · have hqd : decide ((q : Int) < i) = true := decide_eq_true (by omega)
            obtain ⟨q1, r1, x0, x1, rfl, hq1, d3, d4, hxe⟩ := hpw1.at_ (k := q) (by have := hln1.out; omega)
            obtain ⟨q2, r2, y0, y1, rfl, hq2, d5, d6, hye⟩ := hpw2.at_ (k := q) (by have := hln2.out; omega)
            have e3 := (hbr.out.cell (p := ⟨q1, r1 + q * 2, none⟩) hq1).trans d3
            have e4 := (hbr.out.cell (p := ⟨q1, r1 + q * 2 + 1, none⟩) hq1).trans d4
            have e5 := (hbr.out.cell (p := ⟨q2, r2 + q * 2, none⟩) hq2).trans d5
            have e6 := (hbr.out.cell (p := ⟨q2, r2 + q * 2 + 1, none⟩) hq2).trans d6
            have e7 := (hbr.out.cell (p := ⟨b1, o1 + s, none⟩) hb1).trans hcw1
            have e8 := (hbr.out.cell (p := ⟨b2, o2 + t, none⟩) hb2).trans hcw2
            have e9 := (hbr.out.cell (p := ⟨e1, f1 + j * 2, none⟩) he1).trans hx0
            have e10 := (hbr.out.cell (p := ⟨e1, f1 + j * 2 + 1, none⟩) he1).trans hy0
            have hsz := hbr.out.size
            have z0 : h < wr.heap.size := by have := heap_lt (HM1.out.mvB hbr.out); omega
            have z1 : h + 1 < wr.heap.size := by have := heap_lt (HM2.out.mvB hbr.out); omega
            have z2 : b1 < wr.heap.size := by omega
            have z3 : b2 < wr.heap.size := by omega
            have z4 : q1 < wr.heap.size := by omega
            have z5 : q2 < wr.heap.size := by omega
            have z6 : e1 < wr.heap.size := by omega
            go_upto_region 9 with fail
            go_cut [9, 10] from 27 to 50 (fun u v wx => ∃ gx gy, u = .pointer (some ⟨gx, 0, none⟩) ∧ v = .pointer (some ⟨gy, 0, none⟩) ∧ Hid (BxE wx gx x0 x1) ∧ Hid (BxE wx gy y0 y1) ∧ Hid (Below wr.heap.size wr wx))
            case first =>
              go_region
              all_goals
                go_wp2_with fail
                go_meet
                first
                  | exact ⟨_, _, rfl, rfl, (two_edges wr x0 x1 y0 y1).1, (two_edges wr x0 x1 y0 y1).2.1, (two_edges wr x0 x1 y0 y1).2.2⟩
                  | exact ⟨_, _, rfl, rfl, (two_edges wr y0 y1 x0 x1).2.1, (two_edges wr y0 y1 x0 x1).1, (two_edges wr y0 y1 x0 x1).2.2⟩
            case rest =>
            obtain ⟨gx, gy, rfl, rfl, hgx, hgy, hbc⟩ := hcut
            have HB5 := Lib.hid (below_next hbr.out hbc.out)
            have hfin := Lib.hid (below_next HB1.out HB5.out)
            obtain ⟨u0, u1, _, _⟩ := hgx.out.cells
            obtain ⟨u2, u3, _, _⟩ := hgy.out.cells
            have nxx : Hid (Mc.nx a s q = (x0, x1)) := Mc.nx_at hqr1.out hxe.out
            have nxy : Hid (Mc.nx b t q = (y0, y1)) := Mc.nx_at hqr2.out hye.out
            have hX1 : Hid (x0 = -1 ∨ 0 ≤ x0) := by
              obtain ⟨h1, _⟩ := Mc.nx_st VA.out (s := (s : Int)) (i := (q : Int)) (Or.inr ⟨by omega, by rw [HN.out]; omega⟩) ⟨by omega, by have := HIA.out; omega⟩
              rw [nxx.out] at h1
              rcases h1 with h1 | h1
              · exact Or.inl h1
              · exact Or.inr h1.1
            have hbadk : Hid (¬ ((Mc.nx a s q).2 = (Mc.nx b t q).2 ∧ ((Mc.nx a s q).1 = -1 ∨ ((Mc.nx a s q).1, (Mc.nx b t q).1) ∈ R)) → ¬ CtfP a b R) := fun h1 h2 => h1 (h2.1 _ (List.mem_of_getElem? hqe1.out) q (by omega) (by have := HIA.out; omega))
            have hgok : Hid ((Mc.nx a s q).2 = (Mc.nx b t q).2 ∧ ((Mc.nx a s q).1 = -1 ∨ ((Mc.nx a s q).1, (Mc.nx b t q).1) ∈ R) → ∀ d : Int, 0 ≤ d → d < ((q + 1 : Nat) : Int) → (Mc.nx a s d).2 = (Mc.nx b t d).2 ∧ ((Mc.nx a s d).1 = -1 ∨ ((Mc.nx a s d).1, (Mc.nx b t d).1) ∈ R)) := fun h1 d h2 h3 => by
              rcases Int.lt_or_le d q with h4 | h4
              · exact hsm.out d h2 h4
              · obtain rfl : d = q := by omega
                exact h1
            rw [nxx.out, nxy.out] at hbadk hgok
            clear hgx hgy hbc hbr d3 d4 d5 d6 e3 e4 e5 e6 e7 e8 e9 e10 z0 z1 z2 z3 z4 z5 z6 hsz m0 m1 m2 l0 l1 l2 nxx nxy hq1 hq2
            by_cases ho : x1 = y1
            · have ho2 : (x1 == y1) = true := by simp [ho]
              have ho3 : (x1 != y1) = false := by simp [ho]
              by_cases hx : 0 ≤ x0
              · have hx' : decide (0 ≤ x0) = true := decide_eq_true hx
                go_wp2_with fail
                refine (CI.out _ x0 y0 HB5.out).mono ?_
                rintro e w6 ⟨rfl, hb6⟩
                have HB6 := Lib.hid (below_next HB5.out hb6)
                have hfin6 := Lib.hid (below_next HB1.out HB6.out)
                clear hb6 u0 u1 u2 u3
                by_cases hm : (x0, y0) ∈ R
                · rw [if_pos hm]
                  have hno2 := Lib.hid (hgok.out ⟨ho, Or.inr hm⟩)
                  clear hm
                  go_wp2
                  go_roundw
                  case rel => exact ⟨q + 1, by omega, by go_num, hno2, HB6⟩
                  case measure => simp [intOf]; omega
                · rw [if_neg hm]
                  have hno2 := Lib.hid (hbadk.out (fun h => by
                    rcases h.2 with h1 | h1
                    · omega
                    · exact hm h1))
                  clear hm
                  go_wp2
                  go_ret
                  exact CtP.no hno2.out hfin6.out
              · have hx' : decide (0 ≤ x0) = false := decide_eq_false hx
                have hno2 := Lib.hid (hgok.out ⟨ho, Or.inl (hX1.out.resolve_right hx)⟩)
                go_wp2
                go_roundw
                case rel => exact ⟨q + 1, by omega, by go_num, hno2, HB5⟩
                case measure => simp [intOf]; omega
            · have ho2 : (x1 == y1) = false := by simp [ho]
              have ho3 : (x1 != y1) = true := by simp [ho]
              have hno2 := Lib.hid (hbadk.out (fun h => ho h.1))
              go_wp2
              go_ret
              exact CtP.no hno2.out hfin.out
          · obtain rfl : q = i := by omega
            have hqd : decide ((q : Int) < q) = false := decide_eq_false (by omega)
            have hall2 : Hid (∀ (q' : Nat) p, q' < j + 1 → R[q']? = some p → kps a b R p.1 p.2) := fun q' p h1 h2 => by
              rcases Nat.lt_or_ge q' j with h3 | h3
              · exact hall.out q' p h3 h2
              · obtain rfl : q' = j := by omega
                rw [hqe1.out] at h2
                injection h2 with h2
                subst h2
                intro d h4 h5
                exact hsm.out d h4 (by rw [HIA.out] at h5; exact h5)
            have HBX := Lib.hid hbr.out
            clear hbr
            go_wp2
            go_roundw
            case rel => exact ⟨j + 1, by omega, by go_num, hall2, HBX⟩
            case measure => simp [intOf]; omega
      · obtain rfl : j = k := by omega
        have hlt : ¬ ((j : Int) < j) := by omega
        have hyes : Hid (CtfP a b R) := ⟨fun p hp => by
          obtain ⟨q, hq, rfl⟩ := List.getElem_of_mem hp
          exact hall.out q _ (by rw [← HK.out]; exact hq) (List.getElem?_eq_getElem hq), H00.out⟩
        have hfin := Lib.hid (below_next HB1.out hbr.out)
        clear hbr
        go_wp2
        go_ret
        exact CtP.yes hyes.out hfin.out
  · rw [if_neg h00]
    have hno : Hid (¬ CtfP a b R) := fun h => h00 h.2
    have hfin := Lib.hid (below_next HB1.out HB2.out)
    go_wp2
    go_ret
    exact CtP.no hno.out hfin.out
end Go.Proofs.Ytomgofgbfdcmhaa

namespace Go.Proofs.Ytomgofgbfdcmhaa
open Mc (Ed Ma Wv)
namespace Mc
/-- A pair of states after the same word. -/
def PR (a b : Ma) (s t : Int) : Prop := ∃ w, Wd a w ∧ aft a 0 w = s ∧ aft b 0 w = t ∧ 0 ≤ s ∧ 0 ≤ t
/-- .. after a word of at most k symbols. -/
def PRk (a b : Ma) (k : Nat) (s t : Int) : Prop := ∃ w, Wd a w ∧ w.length ≤ k ∧ aft a 0 w = s ∧ aft b 0 w = t ∧ 0 ≤ s ∧ 0 ≤ t
section
variable {a b : Ma} (va : Val a) (vb : Val b) (hi : a.i = b.i)
theorem wd_snoc {w : List Int} {c : Int} (hw : Wd a (w ++ [c])) : Wd a w ∧ (0 ≤ c ∧ c < a.i) := ⟨fun d hd => hw d (by simp [hd]), hw c (by simp)⟩
theorem aft_snocE (m : Ma) (s : Int) (w : List Int) (c : Int) : aft m s (w ++ [c]) = (nx m (aft m s w) c).1 := by rw [aft_app]; rfl
theorem aft_pos {m : Ma} {s : Int} {w : List Int} {c : Int} (h : 0 ≤ aft m s (w ++ [c])) : 0 ≤ aft m s w := by
  rcases Int.lt_or_le (aft m s w) 0 with h1 | h1
  · rw [aft_snocE, nx_neg h1] at h
    exact absurd h (by decide)
  · exact h1
theorem dropLast_getLastE {α : Type} : ∀ {l : List α} (h : l ≠ []), l.dropLast ++ [l.getLast h] = l
  | [], h => absurd rfl h
  | [x], _ => rfl
  | x :: y :: l, _ => by
    have := dropLast_getLastE (l := y :: l) (by simp)
    simp only [List.dropLast_cons_cons, List.cons_append, List.getLast_cons_cons]
    rw [this]
theorem snoc_ind {P : List Int → Prop} (h0 : P []) (h1 : ∀ w c, P w → P (w ++ [c])) (w : List Int) : P w := by
  have key : ∀ (n : Nat) (w : List Int), w.length = n → P w := by
    intro n
    induction n with
    | zero => intro w hw; rw [List.eq_nil_of_length_eq_zero hw]; exact h0
    | succ n ih =>
      intro w hw
      have hne : w ≠ [] := fun e => by subst e; simp at hw
      rw [← dropLast_getLastE hne]
      exact h1 _ _ (ih _ (by rw [List.length_dropLast]; omega))
  exact key _ w rfl
theorem PRk.zero (a b : Ma) : PRk a b 0 0 0 := ⟨[], fun c h => by simp at h, Nat.le_refl _, rfl, rfl, by omega, by omega⟩
theorem PRk.le {k l : Nat} {s t : Int} (h : PRk a b k s t) (hk : k ≤ l) : PRk a b l s t := by
  obtain ⟨w, h1, h2, h3⟩ := h
  exact ⟨w, h1, by omega, h3⟩
theorem PRk.pr {k : Nat} {s t : Int} (h : PRk a b k s t) : PR a b s t := by
  obtain ⟨w, h1, h2, h3⟩ := h
  exact ⟨w, h1, h3⟩
theorem PR.step {s t c : Int} (h : PR a b s t) (hc : 0 ≤ c ∧ c < a.i) (h1 : 0 ≤ (nx a s c).1) (h2 : 0 ≤ (nx b t c).1) : PR a b (nx a s c).1 (nx b t c).1 := by
  obtain ⟨w, hw, rfl, rfl, _⟩ := h
  exact ⟨w ++ [c], Wd.join hw hc, aft_snocE _ _ _ _, aft_snocE _ _ _ _, h1, h2⟩
/-- A pair after at most one symbol more is an old one, or one step behind an old one. -/
theorem PRk.back {k : Nat} {s t : Int} (h : PRk a b (k + 1) s t) : PRk a b k s t ∨ ∃ s' t' c, PRk a b k s' t' ∧ (0 ≤ c ∧ c < a.i) ∧ (nx a s' c).1 = s ∧ (nx b t' c).1 = t := by
  obtain ⟨w, hw, hl, h1, h2, h3, h4⟩ := h
  by_cases hk : w.length ≤ k
  · exact Or.inl ⟨w, hw, hk, h1, h2, h3, h4⟩
  · right
    have hne : w ≠ [] := fun e => by subst e; simp at hk
    obtain ⟨u, c, rfl⟩ : ∃ u c, w = u ++ [c] := ⟨w.dropLast, w.getLast hne, (dropLast_getLastE hne).symm⟩
    obtain ⟨hu, hc⟩ := wd_snoc hw
    refine ⟨aft a 0 u, aft b 0 u, c, ⟨u, hu, by simp at hl; omega, rfl, rfl, aft_pos (by rw [h1]; exact h3), aft_pos (by rw [h2]; exact h4)⟩, hc, ?_, ?_⟩
    · rw [← h1, aft_snocE]
    · rw [← h2, aft_snocE]
theorem PR.st {s t : Int} (va : Val a) (vb : Val b) (hi : a.i = b.i) (h : PR a b s t) : (0 ≤ s ∧ s < a.r.length) ∧ (0 ≤ t ∧ t < b.r.length) := by
  obtain ⟨w, hw, rfl, rfl, h1, h2⟩ := h
  have e1 := aft_st va w 0 (zero_st va) hw
  have e2 := aft_st vb w 0 (zero_st vb) (hw.of_i hi)
  unfold St at e1 e2
  omega
theorem cd_zero (n : Nat) : cd n 0 0 = 0 := by unfold cd; rw [if_pos (by omega)]; simp
theorem pr_word (va : Val a) (vb : Val b) (hi : a.i = b.i) {w : List Int} (hw : Wd a w) : aft (pr a b) 0 w = cd b.r.length (aft a 0 w) (aft b 0 w) := by
  have h := pr_aft va vb hi w 0 0 (zero_st va) (zero_st vb) hw
  rw [cd_zero] at h
  exact h
theorem pr_bf (va : Val a) (vb : Val b) (hi : a.i = b.i) : BF (pr a b) 0 (wk (pr a b) 0) (wk (pr a b) 0).length 0 :=
  wk_bfQ (pr_vq va vb hi) ⟨by omega, by rw [pr_len]; exact_mod_cast Nat.mul_pos va.r0 vb.r0⟩
theorem BF.reach {m : Ma} {Q : List Wv} (h : BF m 0 Q Q.length 0) (w : List Int) : Wd m w → 0 ≤ aft m 0 w → ∃ e ∈ Q, e.1 = aft m 0 w := by
  refine snoc_ind (P := fun w => Wd m w → 0 ≤ aft m 0 w → ∃ e ∈ Q, e.1 = aft m 0 w) (fun _ _ => ⟨_, List.mem_of_getElem? h.hd, rfl⟩) (fun u c ih hw h0 => ?_) w
  obtain ⟨hu, hc⟩ := wd_snoc hw
  obtain ⟨e, he, h1⟩ := ih hu (aft_pos h0)
  obtain ⟨k, hk⟩ := List.getElem?_of_mem he
  rw [aft_snocE, ← h1] at h0 ⊢
  exact h.clo k e c hk hc.1 hc.2 (Or.inl (List.getElem?_eq_some_iff.1 hk).1) h0
/-- The pairs of the queue are the pairs after the same words. -/
theorem pr_mem (va : Val a) (vb : Val b) (hi : a.i = b.i) {s t : Int} : PR a b s t ↔ (s, t) ∈ (wk (pr a b) 0).map (pq b.r.length) := by
  constructor
  · intro h
    obtain ⟨⟨h1, h2⟩, h3, h4⟩ := h.st va vb hi
    obtain ⟨w, hw, e1, e2, _⟩ := h
    obtain ⟨s, rfl⟩ := Int.eq_ofNat_of_zero_le h1
    obtain ⟨t, rfl⟩ := Int.eq_ofNat_of_zero_le h3
    have hp := pr_word va vb hi hw
    rw [e1, e2, cd_nat] at hp
    obtain ⟨e, he, h5⟩ := (pr_bf va vb hi).reach w hw (by rw [hp]; omega)
    refine List.mem_map.2 ⟨e, he, ?_⟩
    rw [hp] at h5
    unfold pq
    rw [h5, ← Int.natCast_ediv, ← Int.natCast_emod, cd_div (by omega), cd_mod (by omega)]
  · intro h
    obtain ⟨e, he, h1⟩ := List.mem_map.1 h
    obtain ⟨⟨h2, h3⟩, hl⟩ := (pr_bf va vb hi).lw e he
    have hw : Wd a e.2 := hl.wd
    have hp := pr_word va vb hi hw
    rw [hl.to] at hp
    have e1 := aft_st va e.2 0 (zero_st va) hw
    have e2 := aft_st vb e.2 0 (zero_st vb) (hw.of_i hi)
    rcases e1 with e1 | ⟨e1, e3⟩
    · rw [e1, cd_none1] at hp; omega
    rcases e2 with e2 | ⟨e2, e4⟩
    · rw [e2, cd_none2] at hp; omega
    obtain ⟨s', hs'⟩ := Int.eq_ofNat_of_zero_le e1
    obtain ⟨t', ht'⟩ := Int.eq_ofNat_of_zero_le e2
    rw [hs', ht', cd_nat] at hp
    unfold pq at h1
    rw [hp, ← Int.natCast_ediv, ← Int.natCast_emod, cd_div (by omega), cd_mod (by omega)] at h1
    injection h1 with h5 h6
    exact ⟨e.2, hw, by rw [hs', h5], by rw [ht', h6], by omega, by omega⟩
/-- Each pair after the same words is one after a word that is shorter than the number of all pairs. -/
theorem PR.short (va : Val a) (vb : Val b) (hi : a.i = b.i) {s t : Int} (h : PR a b s t) : PRk a b (a.r.length * b.r.length) s t := by
  obtain ⟨⟨h1, h2⟩, h3, h4⟩ := h.st va vb hi
  obtain ⟨w, hw, e1, e2, h5, h6⟩ := h
  have hp := pr_word va vb hi hw
  obtain ⟨s, rfl⟩ := Int.eq_ofNat_of_zero_le h1
  obtain ⟨t, rfl⟩ := Int.eq_ofNat_of_zero_le h3
  rw [e1, e2, cd_nat] at hp
  obtain ⟨e, he, h7⟩ := (pr_bf va vb hi).reach w hw (by rw [hp]; omega)
  obtain ⟨⟨h8, h9⟩, hl⟩ := (pr_bf va vb hi).lw e he
  have hlen := hl.shortQ (pr_vq va vb hi) ⟨by omega, by rw [pr_len]; exact_mod_cast Nat.mul_pos va.r0 vb.r0⟩ h8
  rw [pr_len] at hlen
  have hw2 : Wd a e.2 := hl.wd
  have hp2 := pr_word va vb hi hw2
  rw [hl.to, h7, hp] at hp2
  have e3 := aft_st va e.2 0 (zero_st va) hw2
  have e4 := aft_st vb e.2 0 (zero_st vb) (hw2.of_i hi)
  rcases e3 with e3 | ⟨e3, e5⟩
  · rw [e3, cd_none1] at hp2; omega
  rcases e4 with e4 | ⟨e4, e6⟩
  · rw [e4, cd_none2] at hp2; omega
  obtain ⟨s', hs'⟩ := Int.eq_ofNat_of_zero_le e3
  obtain ⟨t', ht'⟩ := Int.eq_ofNat_of_zero_le e4
  rw [hs', ht', cd_nat] at hp2
  have hc := cd_inj (n := b.r.length) (s := s) (t := t) (s' := s') (t' := t') (by omega) (by omega) (by omega)
  exact ⟨e.2, hw2, by omega, by rw [hs', hc.1], by rw [ht', hc.2], by omega, by omega⟩
/-- What certifies holds all pairs after the same words. -/
theorem cert_sub {R : List (Int × Int)} (h0 : ((0, 0) : Int × Int) ∈ R) (hk : ∀ p ∈ R, kps a b R p.1 p.2) {s t : Int} (h : PR a b s t) : (s, t) ∈ R := by
  obtain ⟨w, hw, rfl, rfl, h1, h2⟩ := h
  refine snoc_ind (P := fun w => Wd a w → 0 ≤ aft a 0 w → 0 ≤ aft b 0 w → (aft a 0 w, aft b 0 w) ∈ R) (fun _ _ _ => h0) (fun u c ih hw h1 h2 => ?_) w hw h1 h2
  obtain ⟨hu, hc⟩ := wd_snoc hw
  have h3 := hk _ (ih hu (aft_pos h1) (aft_pos h2)) c hc.1 hc.2
  rw [aft_snocE, aft_snocE]
  rw [aft_snocE] at h1
  rcases h3.2 with h4 | h4
  · dsimp only at h4; omega
  · exact h4
theorem cert_run (va : Val a) (vb : Val b) (hi : a.i = b.i) {R : List (Int × Int)} (hk : ∀ p ∈ R, kps a b R p.1 p.2) (hin : ∀ p ∈ R, inR a.r.length b.r.length p) : ∀ (w : List Int) (s t : Int), (s, t) ∈ R → Wd a w → run a s w = run b t w
  | [], _, _, _, _ => rfl
  | c :: w, s, t, hm, hw => by
    have hc := hw c (by simp)
    have h1 := hk _ hm c hc.1 hc.2
    have h2 := hin _ hm
    unfold inR at h2
    dsimp only at h1 h2
    simp only [run]
    rw [h1.1]
    congr 1
    rcases h1.2 with h3 | h3
    · have h4 := (nx_none va (Or.inr h2.1) hc).1 h3
      have h5 := (nx_none vb (s := t) (c := c) (Or.inr h2.2) (by rw [← hi]; exact hc)).2 (by rw [← h1.1]; exact h4)
      rw [h3, h5, run_none _ _ _ (by omega), run_none _ _ _ (by omega)]
    · exact cert_run va vb hi hk hin w _ _ h3 (fun d hd => hw d (by simp [hd]))
theorem cert_sim (va : Val a) (vb : Val b) (hi : a.i = b.i) {R : List (Int × Int)} (h0 : ((0, 0) : Int × Int) ∈ R) (hk : ∀ p ∈ R, kps a b R p.1 p.2) (hin : ∀ p ∈ R, inR a.r.length b.r.length p) : Sim a b :=
  ⟨hi, fun w hw => cert_run va vb hi hk hin w 0 0 h0 hw⟩
/-- The pairs after the same words certify that equal machines are equal. -/
theorem sim_cert (va : Val a) (vb : Val b) (hi : a.i = b.i) (h : Sim a b) {R : List (Int × Int)} (hR : ∀ s t, (s, t) ∈ R ↔ PR a b s t) : (∀ p ∈ R, kps a b R p.1 p.2) ∧ ((0, 0) : Int × Int) ∈ R := by
  refine ⟨fun p hp d h0 h1 => ?_, (hR 0 0).2 (PRk.zero a b).pr⟩
  obtain ⟨s, t⟩ := p
  have hpr := (hR s t).1 hp
  obtain ⟨hs, ht⟩ := hpr.st va vb hi
  have hout : (nx a s d).2 = (nx b t d).2 := by
    obtain ⟨w, hw, rfl, rfl, _⟩ := hpr
    exact h.out hw ⟨h0, h1⟩
  refine ⟨hout, ?_⟩
  have hd : 0 ≤ d ∧ d < b.i := by rw [← hi]; exact ⟨h0, h1⟩
  have e1 := (nx_st va (s := s) (Or.inr hs) ⟨h0, h1⟩).1
  have e2 := (nx_st vb (s := t) (Or.inr ht) hd).1
  rcases e1 with e1 | e1
  · exact Or.inl e1
  · right
    refine (hR _ _).2 (hpr.step ⟨h0, h1⟩ e1.1 ?_)
    rcases e2 with e2 | e2
    · have e3 := (nx_none vb (s := t) (Or.inr ht) hd).1 e2
      rw [← hout] at e3
      have e4 := (nx_none va (s := s) (Or.inr hs) ⟨h0, h1⟩).2 e3
      omega
    · exact e2.1
/-! ### The rounds of the reference -/
/-- What is marked: pairs after the same words, and at least those of at most k symbols. -/
structure Mk (a b : Ma) (k : Nat) (f : Nat → Nat → Bool) : Prop where
  snd : ∀ s t : Nat, f s t = true → PR a b s t
  cmp : ∀ s t : Nat, PRk a b k s t → f s t = true
/-- Pairs in front of a place of the matrix have been gone through. -/
structure Mdo (a b : Ma) (k : Nat) (f : Nat → Nat → Bool) (p q : Nat) (j : Int) : Prop where
  ok : Mk a b k f
  don : ∀ (s t : Nat) (c : Int), PRk a b k s t → 0 ≤ c → c < a.i → (s < p ∨ (s = p ∧ (t < q ∨ (t = q ∧ c < j)))) → 0 ≤ (nx a s c).1 → 0 ≤ (nx b t c).1 → f (nx a s c).1.toNat (nx b t c).1.toNat = true
def stF (f : Nat → Nat → Bool) (s t : Nat) : Nat → Nat → Bool := fun x y => if x = s ∧ y = t then true else f x y
theorem Mdo.start {k : Nat} {f : Nat → Nat → Bool} (h : Mk a b k f) : Mdo a b k f 0 0 0 := ⟨h, fun s t c _ h0 _ h2 _ _ => by omega⟩
/-- An edge of a marked pair is gone through. -/
theorem Mdo.edge {k : Nat} {f : Nat → Nat → Bool} {p q : Nat} {j : Int} (h : Mdo a b k f p q j) (hf : f p q = true) (hj : 0 ≤ j ∧ j < a.i) (h1 : 0 ≤ (nx a p j).1) (h2 : 0 ≤ (nx b q j).1) : Mdo a b k (stF f (nx a p j).1.toNat (nx b q j).1.toNat) p q (j + 1) := by
  refine ⟨⟨fun s t hst => ?_, fun s t hk => ?_⟩, fun s t c hk h3 h4 h5 h6 h7 => ?_⟩
  · unfold stF at hst
    split at hst
    · rename_i he
      have := (h.ok.snd p q hf).step hj h1 h2
      rw [he.1, he.2, Int.toNat_of_nonneg h1, Int.toNat_of_nonneg h2]
      exact this
    · exact h.ok.snd s t hst
  · unfold stF
    split
    · rfl
    · exact h.ok.cmp s t hk
  · unfold stF
    split
    · rfl
    · rename_i hne
      refine h.don s t c hk h3 h4 ?_ h6 h7
      rcases h5 with h5 | ⟨rfl, h5⟩
      · exact Or.inl h5
      · rcases h5 with h5 | ⟨rfl, h5⟩
        · exact Or.inr ⟨rfl, Or.inl h5⟩
        · by_cases hcj : c = j
          · subst hcj; exact absurd ⟨rfl, rfl⟩ hne
          · exact Or.inr ⟨rfl, Or.inr ⟨rfl, by omega⟩⟩
theorem Mdo.skip {k : Nat} {f : Nat → Nat → Bool} {p q : Nat} {j : Int} (h : Mdo a b k f p q j) (hn : ¬ (0 ≤ (nx a p j).1 ∧ 0 ≤ (nx b q j).1)) : Mdo a b k f p q (j + 1) := by
  refine ⟨h.ok, fun s t c hk h3 h4 h5 h6 h7 => ?_⟩
  refine h.don s t c hk h3 h4 ?_ h6 h7
  rcases h5 with h5 | ⟨rfl, h5⟩
  · exact Or.inl h5
  · rcases h5 with h5 | ⟨rfl, h5⟩
    · exact Or.inr ⟨rfl, Or.inl h5⟩
    · by_cases hcj : c = j
      · subst hcj; exact absurd ⟨h6, h7⟩ hn
      · exact Or.inr ⟨rfl, Or.inr ⟨rfl, by omega⟩⟩
theorem Mdo.next {k : Nat} {f : Nat → Nat → Bool} {p q : Nat} {j : Int} (h : Mdo a b k f p q j) (hj : f p q = false ∨ a.i ≤ j) : Mdo a b k f p (q + 1) 0 := by
  refine ⟨h.ok, fun s t c hk h3 h4 h5 h6 h7 => ?_⟩
  refine h.don s t c hk h3 h4 ?_ h6 h7
  rcases h5 with h5 | ⟨rfl, h5⟩
  · exact Or.inl h5
  · rcases h5 with h5 | ⟨rfl, h5⟩
    · rcases Nat.lt_or_ge t q with h8 | h8
      · exact Or.inr ⟨rfl, Or.inl h8⟩
      · obtain rfl : t = q := by omega
        rcases hj with hj | hj
        · rw [h.ok.cmp s t hk] at hj; cases hj
        · exact Or.inr ⟨rfl, Or.inr ⟨rfl, by omega⟩⟩
    · omega
theorem Mdo.row {k : Nat} {f : Nat → Nat → Bool} {p q : Nat} {j : Int} (va : Val a) (vb : Val b) (hi : a.i = b.i) (h : Mdo a b k f p q j) (hq : b.r.length ≤ q) : Mdo a b k f (p + 1) 0 0 := by
  refine ⟨h.ok, fun s t c hk h3 h4 h5 h6 h7 => ?_⟩
  refine h.don s t c hk h3 h4 ?_ h6 h7
  have := hk.pr.st va vb hi
  omega
theorem Mdo.round {k : Nat} {f : Nat → Nat → Bool} {p q : Nat} {j : Int} (va : Val a) (vb : Val b) (hi : a.i = b.i) (h : Mdo a b k f p q j) (hp : a.r.length ≤ p) : Mk a b (k + 1) f := by
  refine ⟨h.ok.snd, fun s t hk => ?_⟩
  rcases hk.back with hk | ⟨s', t', c, h1, h2, h3, h4⟩
  · exact h.ok.cmp s t hk
  · have h5 := h1.pr.st va vb hi
    obtain ⟨s', rfl⟩ := Int.eq_ofNat_of_zero_le h5.1.1
    obtain ⟨t', rfl⟩ := Int.eq_ofNat_of_zero_le h5.2.1
    have h6 := h.don s' t' c h1 h2.1 h2.2 (Or.inl (by omega)) (by rw [h3]; omega) (by rw [h4]; omega)
    rw [h3, h4] at h6
    simpa using h6
/-- After all rounds exactly the pairs after the same words are marked. -/
theorem Mk.all {f : Nat → Nat → Bool} (va : Val a) (vb : Val b) (hi : a.i = b.i) (h : Mk a b (a.r.length * b.r.length) f) (s t : Nat) : f s t = true ↔ PR a b s t :=
  ⟨h.snd s t, fun hp => h.cmp s t (hp.short va vb hi)⟩
def f00 : Nat → Nat → Bool := fun x y => decide (x = 0 ∧ y = 0)
theorem Mk.zero (a b : Ma) : Mk a b 0 f00 := by
  refine ⟨fun s t h => ?_, fun s t h => ?_⟩
  · unfold f00 at h
    have := of_decide_eq_true h
    rw [this.1, this.2]
    exact (PRk.zero a b).pr
  · obtain ⟨w, _, hl, h1, h2, _⟩ := h
    have : w = [] := List.eq_nil_of_length_eq_zero (by omega)
    subst this
    unfold f00
    have h1 : (0 : Int) = s := h1
    have h2 : (0 : Int) = t := h2
    exact decide_eq_true (by omega)
/-- The marked pairs, ascending. -/
def prR (f : Nat → Nat → Bool) (s n : Nat) : List (Int × Int) := ((List.range n).filter fun t => f s t).map fun (t : Nat) => ((s : Int), (t : Int))
def prL (f : Nat → Nat → Bool) (p n : Nat) : List (Int × Int) := (List.range p).flatMap fun s => prR f s n
theorem prR_snoc (f : Nat → Nat → Bool) (s n : Nat) : prR f s (n + 1) = prR f s n ++ (if f s n = true then [((s : Int), (n : Int))] else []) := by
  unfold prR
  rw [List.range_succ, List.filter_append, List.map_append]
  congr 1
  by_cases h : f s n = true <;> simp [h]
theorem prL_snoc (f : Nat → Nat → Bool) (p n : Nat) : prL f (p + 1) n = prL f p n ++ prR f p n := by
  unfold prL
  rw [List.range_succ, List.flatMap_append]
  simp
theorem prR_mem (f : Nat → Nat → Bool) (s n : Nat) (x : Int × Int) : x ∈ prR f s n ↔ ∃ t : Nat, t < n ∧ f s t = true ∧ x = ((s : Int), (t : Int)) := by
  unfold prR
  simp only [List.mem_map, List.mem_filter, List.mem_range]
  constructor
  · rintro ⟨t, ⟨h1, h2⟩, h3⟩; exact ⟨t, h1, h2, h3.symm⟩
  · rintro ⟨t, h1, h2, h3⟩; exact ⟨t, ⟨h1, h2⟩, h3.symm⟩
theorem prL_mem (f : Nat → Nat → Bool) (p n : Nat) (x : Int × Int) : x ∈ prL f p n ↔ ∃ s t : Nat, s < p ∧ t < n ∧ f s t = true ∧ x = ((s : Int), (t : Int)) := by
  unfold prL
  simp only [List.mem_flatMap, List.mem_range, prR_mem]
  constructor
  · rintro ⟨s, h1, t, h2⟩; exact ⟨s, t, h1, h2⟩
  · rintro ⟨s, t, h1, h2⟩; exact ⟨s, h1, t, h2⟩
theorem prR_len (f : Nat → Nat → Bool) (s n : Nat) : (prR f s n).length ≤ n := by
  unfold prR
  rw [List.length_map]
  exact Nat.le_trans (List.length_filter_le _ _) (by simp)
theorem prL_len (f : Nat → Nat → Bool) (p n : Nat) : (prL f p n).length ≤ p * n := by
  induction p with
  | zero => simp [prL]
  | succ p ih => rw [prL_snoc, List.length_append, Nat.succ_mul]; have := prR_len f p n; omega
def ltP (p q : Int × Int) : Prop := p.1 < q.1 ∨ (p.1 = q.1 ∧ p.2 < q.2)
theorem prL_asc (f : Nat → Nat → Bool) (p n : Nat) : (prL f p n).Pairwise ltP := by
  induction p with
  | zero => simp [prL]
  | succ p ih =>
    rw [prL_snoc, List.pairwise_append]
    refine ⟨ih, ?_, fun x hx y hy => ?_⟩
    · unfold prR
      rw [List.pairwise_map]
      refine List.Pairwise.imp (fun {t u} (h : t < u) => ?_) (List.Pairwise.filter _ List.pairwise_lt_range)
      exact Or.inr ⟨rfl, by show (t : Int) < u; omega⟩
    · obtain ⟨s, t, h1, _, _, rfl⟩ := (prL_mem f p n x).1 hx
      obtain ⟨u, _, _, rfl⟩ := (prR_mem f p n y).1 hy
      exact Or.inl (by show (s : Int) < p; omega)
end
end Mc
end Go.Proofs.Ytomgofgbfdcmhaa
