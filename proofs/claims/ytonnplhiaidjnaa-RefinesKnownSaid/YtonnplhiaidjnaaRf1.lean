/-
  Contracts of the reference of layer 7: apart. No statement is proved here.
-/
import Derived.Test.YtonnplhiaidjnaaRd1
import Derived.Deep.CutRange
import Derived.Deep.QuietTactic
import Derived.BigQuiet
import Derived.Deep.RegionHeld3
namespace Go.Proofs.Ytonnplhiaidjnaa
open Go.RowKit
open Mc (Ed Ma)

/-- A slice over address A reads as a square of bools. -/
def RdMx (w : World) (A : Option Addr) (n : Nat) (f : Nat → Nat → Bool) : Prop :=
  0 < n → ∃ b off, A = some ⟨b, off, none⟩ ∧ b < w.heap.size ∧ ∀ s, s < n → ∃ gb go c, w.cell? ⟨b, off + s, none⟩ = some (.slice (some ⟨gb, go, none⟩) n c) ∧ gb < w.heap.size ∧ ∀ t, t < n → w.cell? ⟨gb, go + t, none⟩ = some (.bool (f s t))
theorem RdMx.below {w w' : World} {A : Option Addr} {n : Nat} {f : Nat → Nat → Bool} (h : RdMx w A n f) (hb : Below w.heap.size w w') : RdMx w' A n f := fun hp => by
  obtain ⟨b, off, e, h1, h2⟩ := h hp
  have hs := hb.size
  refine ⟨b, off, e, by omega, fun s hs => ?_⟩
  obtain ⟨gb, go, c, h3, h4, h5⟩ := h2 s hs
  exact ⟨gb, go, c, (hb.cell (p := ⟨b, off + s, none⟩) h1).trans h3, by omega, fun t ht => (hb.cell (p := ⟨gb, go + t, none⟩) h4).trans (h5 t ht)⟩
/-- The pairs that a partition parts. -/
def prd (p : List Int) (s t : Nat) : Bool := decide (M.gz p s ≠ M.gz p t)

theorem two_edges (wr : World) (x0 x1 y0 y1 : Int) : BxE ((wr.alloc (.cells #[.int .i64 x0, .int .i64 x1] 58)).alloc (.cells #[.int .i64 y0, .int .i64 y1] 58)).drew wr.heap.size x0 x1 ∧ BxE ((wr.alloc (.cells #[.int .i64 x0, .int .i64 x1] 58)).alloc (.cells #[.int .i64 y0, .int .i64 y1] 58)).drew (wr.heap.size + 1) y0 y1 ∧
    Below wr.heap.size wr ((wr.alloc (.cells #[.int .i64 x0, .int .i64 x1] 58)).alloc (.cells #[.int .i64 y0, .int .i64 y1] 58)).drew := by
  have h1 : Below wr.heap.size wr (wr.alloc (.cells #[.int .i64 x0, .int .i64 x1] 58)) := (Below.refl _ _).alloc (Nat.le_refl _) _
  have h2 := BxE.new (wr.alloc (.cells #[.int .i64 x0, .int .i64 x1] 58)) y0 y1
  rw [World.size_alloc] at h2
  exact ⟨(((Below.refl _ _).alloc (Nat.le_refl _) _).block _ (by simp)).trans (BxE.new wr x0 x1), h2, (h1.alloc (by simp) _).drew⟩
set_option maxRecDepth 100000 in
set_option maxHeartbeats 4000000 in
theorem apart_any (m : Ma) (i : Nat) (o : Int) (A X : Option Addr) (n c k s t : Nat) (p : List Int) (w : World) (v : Mc.Val m) (hi : m.i = i) (hn : m.r.length = n) (hr : RdR w A m.r) (hx : RdMx w X n (prd p)) (hs : s < n) (ht : t < n) :
    Calls Try.prog 76 #[.agg #[.int .i64 i, .int .i64 o, .slice A n c], .slice X n k, .int .i64 s, .int .i64 t] w fun e w' => e = .returned (.int .i64 (if Mc.apt m p s t i then 1 else 0)) ∧ Below w.heap.size w w' := by
  obtain ⟨r, hrr⟩ : ∃ r : Int, (if Mc.apt m p s t i then 1 else 0) = r := ⟨_, rfl⟩
  have HRR : Hid (r = if Mc.apt m p s t i then 1 else 0) := hrr.symm
  rw [hrr]
  clear hrr
  obtain ⟨b, off, rfl, hb, hX⟩ := hx (by omega)
  have HX := Lib.hid hX
  have HI := Lib.hid hi
  have hi16 : i ≤ 16 := by have := v.i1; omega
  have HV := Lib.hid v
  have HN := Lib.hid hn
  clear hx hX hi v hn
  have EB : Below w.heap.size w (boxM w i o A n c) := (Below.refl _ _).alloc (Nat.le_refl _) _
  have HB := Lib.hid EB
  have HM := Lib.hid (BxM.new w i o A n c)
  clear EB
  go_enter Try.func76, Try.ntmps76
  go_wp2_with fail
  go_loopw [9] (fun x wr => ∃ j : Nat, j ≤ i ∧ x = .int .i64 j ∧ Hid (Mc.apt m p s t j = false) ∧ Hid (BxM wr w.heap.size i o A n c) ∧ Hid (Below w.heap.size w wr)) (fun x _ => i - (intOf x).toNat)
  case atStart => exact ⟨0, Nat.zero_le _, rfl, rfl, HM, HB⟩
  case round =>
    clear HM HB
    obtain ⟨j, hj, rfl, hap, hM, hbr⟩ := hrel
    obtain ⟨m0, m1, m2⟩ := BxM.cells hM.out
    by_cases hji : j < i
    · have hji' : decide ((j : Int) < i) = true := decide_eq_true (by omega)
      obtain ⟨b1, o1, B1, c1, n1, row1, rfl, hb1, hc1, _, _, _, hp1, hl1, hr1⟩ := hr.at_ (k := s) (by have := HN.out; omega)
      obtain ⟨b2, o2, B2, c2, n2, row2, e2, hb2, hc2, _, _, _, hp2, hl2, hr2⟩ := hr.at_ (k := t) (by have := HN.out; omega)
      injection e2 with e2
      injection e2 with e2 e3
      subst e2 e3
      have hn1 : n1 = i := by have := HV.out.len row1 (List.mem_of_getElem? hr1.out); have := hl1.out; have := HI.out; omega
      have hn2 : n2 = i := by have := HV.out.len row2 (List.mem_of_getElem? hr2.out); have := hl2.out; have := HI.out; omega
      subst hn1
      subst hn2
      obtain ⟨q1, r1, x0, x1, rfl, hq1, hx0, hx1, hxe⟩ := hp1.at_ (k := j) (by have := hl1.out; omega)
      obtain ⟨q2, r2, y0, y1, rfl, hq2, hy0, hy1, hye⟩ := hp2.at_ (k := j) (by have := hl2.out; omega)
      have d1 := (hbr.out.cell (p := ⟨b1, o1 + s, none⟩) hb1).trans hc1
      have d2 := (hbr.out.cell (p := ⟨b1, o1 + t, none⟩) hb1).trans hc2
      have d3 := (hbr.out.cell (p := ⟨q1, r1 + j * 2, none⟩) hq1).trans hx0
      have d4 := (hbr.out.cell (p := ⟨q1, r1 + j * 2 + 1, none⟩) hq1).trans hx1
      have d5 := (hbr.out.cell (p := ⟨q2, r2 + j * 2, none⟩) hq2).trans hy0
      have d6 := (hbr.out.cell (p := ⟨q2, r2 + j * 2 + 1, none⟩) hq2).trans hy1
      have hsz := hbr.out.size
      have z0 : w.heap.size < wr.heap.size := heap_lt hM.out
      have z1 : b1 < wr.heap.size := by omega
      have z2 : q1 < wr.heap.size := by omega
      have z3 : q2 < wr.heap.size := by omega
      go_upto_region 4 with fail
      go_cut [10, 11] from 18 to 33 (fun u v wx => ∃ gx gy, u = .pointer (some ⟨gx, 0, none⟩) ∧ v = .pointer (some ⟨gy, 0, none⟩) ∧ Hid (BxE wx gx x0 x1) ∧ Hid (BxE wx gy y0 y1) ∧ Hid (Below wr.heap.size wr wx))
      case first =>
        go_region
        all_goals
          go_wp2_with fail
          go_meet
          first
            | exact ⟨_, _, rfl, rfl, (two_edges wr x0 x1 y0 y1).1, (two_edges wr x0 x1 y0 y1).2.1, (two_edges wr x0 x1 y0 y1).2.2⟩
            | exact ⟨_, _, rfl, rfl, (two_edges wr y0 y1 x0 x1).2.1, (two_edges wr y0 y1 x0 x1).1, (two_edges wr y0 y1 x0 x1).2.2⟩
      case rest =>
      obtain ⟨gx, gy, rfl, rfl, hgx, hgy, hbc⟩ := hcut
      have hM2 := Lib.hid (hM.out.mvB hbc.out)
      have hbr2 := Lib.hid (below_next hbr.out hbc.out)
      obtain ⟨u0, u1, _, _⟩ := hgx.out.cells
      obtain ⟨u2, u3, _, _⟩ := hgy.out.cells
      have nxx : Hid (Mc.nx m s j = (x0, x1)) := Mc.nx_at hr1.out hxe.out
      have nxy : Hid (Mc.nx m t j = (y0, y1)) := Mc.nx_at hr2.out hye.out
      have hstep : Hid (Mc.apt m p s t (j + 1) = Mc.apE p (x0, x1) (y0, y1)) := by show _ = _; rw [Mc.apt_snoc, hap.out, Bool.false_or, nxx.out, nxy.out]
      have hX1 : Hid (0 ≤ x0 → x0 < n) := fun h => by
        obtain ⟨a, _⟩ := Mc.nx_st HV.out (s := (s : Int)) (i := (j : Int)) (Or.inr ⟨by omega, by have := HN.out; omega⟩) ⟨by omega, by have := HI.out; omega⟩
        rw [nxx.out] at a
        have := HN.out
        rcases a with a | ⟨_, a⟩ <;> simp at a <;> omega
      have hY1 : Hid (0 ≤ y0 → y0 < n) := fun h => by
        obtain ⟨a, _⟩ := Mc.nx_st HV.out (s := (t : Int)) (i := (j : Int)) (Or.inr ⟨by omega, by have := HN.out; omega⟩) ⟨by omega, by have := HI.out; omega⟩
        rw [nxy.out] at a
        have := HN.out
        rcases a with a | ⟨_, a⟩ <;> simp at a <;> omega
      clear hgx hgy hbc hM hbr d1 d2 d3 d4 d5 d6 z0 z1 z2 z3 hsz hx0 hx1 hy0 hy1 hc1 hc2 m0 m1 m2 hap hp1 hp2 hq1 hq2
      by_cases ho : x1 = y1
      · have ho' : (x1 == y1) = true := by simp [ho]
        have ho2 : (x1 != y1) = false := by simp [ho]
        by_cases hx : 0 ≤ x0
        · have hx' : decide (0 ≤ x0) = true := decide_eq_true hx
          by_cases hy : 0 ≤ y0
          · have hy' : decide (0 ≤ y0) = true := decide_eq_true hy
            obtain ⟨x0, rfl⟩ : ∃ k : Nat, x0 = k := ⟨x0.toNat, by omega⟩
            obtain ⟨y0, rfl⟩ : ∃ k : Nat, y0 = k := ⟨y0.toNat, by omega⟩
            have hxn : x0 < n := by have := hX1.out hx; omega
            have hyn : y0 < n := by have := hY1.out hy; omega
            obtain ⟨gb, go, cc, k1, k2, k3⟩ := HX.out x0 hxn
            have e1 := (hbr2.out.cell (p := ⟨b, off + x0, none⟩) hb).trans k1
            have e2 := (hbr2.out.cell (p := ⟨gb, go + y0, none⟩) k2).trans (k3 y0 hyn)
            obtain ⟨f, hf⟩ : ∃ f, prd p x0 y0 = f := ⟨_, rfl⟩
            have hf2 : Hid (Mc.apt m p s t (j + 1) = f) := by
              show _ = _
              rw [hstep.out, ← hf]
              unfold Mc.apE prd
              simp [ho]
            rw [hf] at e2
            clear hf k1 k2 k3
            cases f with
            | true =>
              have hyes : Hid (Mc.apt m p s t n2 = true) := Mc.apt_hit hji (by rw [nxx.out, nxy.out, ← hstep.out]; exact hf2.out)
              clear hf2 hstep nxx nxy
              go_wp2_with fail
              go_quiet (fail)
              go_wp2_with fail
              go_ret
              exact ⟨ret_int (by rw [HRR.out, hyes.out]; rfl), below_drewN' hbr2.out _⟩
            | false =>
              have hno := hf2
              clear hstep nxx nxy
              go_wp2_with fail
              go_quiet (fail)
              go_wp2_with fail
              go_roundw
              case rel => exact ⟨j + 1, by omega, by go_num, hno, hM2, below_drewN' hbr2.out _⟩
              case measure => simp [intOf]; omega
          · have hy' : decide (0 ≤ y0) = false := decide_eq_false hy
            have hno : Hid (Mc.apt m p s t (j + 1) = false) := by
              show _ = _
              rw [hstep.out]
              unfold Mc.apE
              simp [ho, hy]
            clear hstep nxx nxy
            go_wp2_with fail
            go_quiet (fail)
            go_wp2_with fail
            go_roundw
            case rel => exact ⟨j + 1, by omega, by go_num, hno, hM2, below_drewN' hbr2.out _⟩
            case measure => simp [intOf]; omega
        · have hx' : decide (0 ≤ x0) = false := decide_eq_false hx
          have hno : Hid (Mc.apt m p s t (j + 1) = false) := by
            show _ = _
            rw [hstep.out]
            unfold Mc.apE
            simp [ho, hx]
          clear hstep nxx nxy
          go_wp2_with fail
          go_quiet (fail)
          go_wp2_with fail
          go_roundw
          case rel => exact ⟨j + 1, by omega, by go_num, hno, hM2, below_drewN' hbr2.out _⟩
          case measure => simp [intOf]; omega
      · have ho' : (x1 == y1) = false := by simp [ho]
        have ho2 : (x1 != y1) = true := by simp [ho]
        have hyes : Hid (Mc.apt m p s t n2 = true) := Mc.apt_hit hji (by rw [nxx.out, nxy.out]; unfold Mc.apE; simp [ho])
        clear hstep nxx nxy
        go_wp2_with fail
        go_quiet (fail)
        go_wp2_with fail
        go_ret
        exact ⟨ret_int (by rw [HRR.out, hyes.out]; rfl), below_drewN' hbr2.out _⟩
    · have hji' : decide ((j : Int) < i) = false := decide_eq_false (by omega)
      obtain rfl : j = i := by omega
      go_wp2_with fail
      go_ret
      exact ⟨ret_int (by rw [HRR.out, hap.out]; rfl), hbr.out⟩
end Go.Proofs.Ytonnplhiaidjnaa
