/-
  Several texts in one: Rf1, Rf2, Rf4, Rf5, Rf6, Rf7. No statement is proved here.
-/
import Derived.Test.YtiamkkgnjobljaaRbZ
import Derived.Deep.CutRange
import Derived.Deep.QuietTactic
import Derived.BigQuiet
import Derived.Deep.RegionHeld3
namespace Go.Proofs.Ytiamkkgnjobljaa
open Go.RowKit
open Mc (Ed Ma)

/-- A slice over address A reads as a square of bools. -/
def RdMx (w : World) (A : Option Addr) (n : Nat) (f : Nat → Nat → Bool) : Prop :=
  0 < n → ∃ b off, A = some ⟨b, off, none⟩ ∧ b < w.heap.size ∧ ∀ s, s < n → ∃ gb go c, w.cell? ⟨b, off + s, none⟩ = some (.slice (some ⟨gb, go, none⟩) n c) ∧ gb < w.heap.size ∧ ∀ t, t < n → w.cell? ⟨gb, go + t, none⟩ = some (.bool (f s t))
theorem RdMx.below {w w' : World} {A : Option Addr} {n : Nat} {f : Nat → Nat → Bool} (h : RdMx w A n f) (hb : Below w.heap.size w w') : RdMx w' A n f := fun hp => by
  obtain ⟨b, off, e, h1, h2⟩ := h hp
  have hs := hb.size
  refine ⟨b, off, e, by omega, fun s hs => ?_⟩
  obtain ⟨gb, go, c, h3, h4, h5⟩ := h2 s hs
  exact ⟨gb, go, c, (hb.cell (p := ⟨b, off + s, none⟩) h1).trans h3, by omega, fun t ht => (hb.cell (p := ⟨gb, go + t, none⟩) h4).trans (h5 t ht)⟩
/-- The pairs that a partition parts. -/
def prd (p : List Int) (s t : Nat) : Bool := decide (M.gz p s ≠ M.gz p t)

theorem two_edges (wr : World) (x0 x1 y0 y1 : Int) : BxE ((wr.alloc (.cells #[.int .i64 x0, .int .i64 x1] 27)).alloc (.cells #[.int .i64 y0, .int .i64 y1] 27)).drew wr.heap.size x0 x1 ∧ BxE ((wr.alloc (.cells #[.int .i64 x0, .int .i64 x1] 27)).alloc (.cells #[.int .i64 y0, .int .i64 y1] 27)).drew (wr.heap.size + 1) y0 y1 ∧
    Below wr.heap.size wr ((wr.alloc (.cells #[.int .i64 x0, .int .i64 x1] 27)).alloc (.cells #[.int .i64 y0, .int .i64 y1] 27)).drew := by
  have h1 : Below wr.heap.size wr (wr.alloc (.cells #[.int .i64 x0, .int .i64 x1] 27)) := (Below.refl _ _).alloc (Nat.le_refl _) _
  have h2 := BxE.new (wr.alloc (.cells #[.int .i64 x0, .int .i64 x1] 27)) y0 y1
  rw [World.size_alloc] at h2
  exact ⟨(((Below.refl _ _).alloc (Nat.le_refl _) _).block _ (by simp)).trans (BxE.new wr x0 x1), h2, (h1.alloc (by simp) _).drew⟩
set_option maxRecDepth 100000 in
set_option maxHeartbeats 4000000 in
theorem apart_any (m : Ma) (i : Nat) (o : Int) (A X : Option Addr) (n c k s t : Nat) (p : List Int) (w : World) (v : Mc.Val m) (hi : m.i = i) (hn : m.r.length = n) (hr : RdR w A m.r) (hx : RdMx w X n (prd p)) (hs : s < n) (ht : t < n) :
    Calls Try.prog 100 #[.agg #[.int .i64 i, .int .i64 o, .slice A n c], .slice X n k, .int .i64 s, .int .i64 t] w fun e w' => e = .returned (.int .i64 (if Mc.apt m p s t i then 1 else 0)) ∧ Below w.heap.size w w' := by
  obtain ⟨r, hrr⟩ : ∃ r : Int, (if Mc.apt m p s t i then 1 else 0) = r := ⟨_, rfl⟩
  have HRR : Hid (r = if Mc.apt m p s t i then 1 else 0) := hrr.symm
  rw [hrr]
  clear hrr
  obtain ⟨b, off, rfl, hb, hX⟩ := hx (by omega)
  have HX := Lib.hid hX
  have HI := Lib.hid hi
  have hi16 : i ≤ 16 := by have := v.i1; omega
  have HV := Lib.hid v
  have HN := Lib.hid hn
  clear hx hX hi v hn
  have EB : Below w.heap.size w (boxM w i o A n c) := (Below.refl _ _).alloc (Nat.le_refl _) _
  have HB := Lib.hid EB
  have HM := Lib.hid (BxM.new w i o A n c)
  clear EB
  go_enter Try.func100, Try.ntmps100
  go_wp2_with fail
  go_loopw [9] (fun x wr => ∃ j : Nat, j ≤ i ∧ x = .int .i64 j ∧ Hid (Mc.apt m p s t j = false) ∧ Hid (BxM wr w.heap.size i o A n c) ∧ Hid (Below w.heap.size w wr)) (fun x _ => i - (intOf x).toNat)
  case atStart => exact ⟨0, Nat.zero_le _, rfl, rfl, HM, HB⟩
  case round =>
    clear HM HB
    obtain ⟨j, hj, rfl, hap, hM, hbr⟩ := hrel
    obtain ⟨m0, m1, m2⟩ := BxM.cells hM.out
    by_cases hji : j < i
    · have hji' : decide ((j : Int) < i) = true := decide_eq_true (by omega)
      obtain ⟨b1, o1, B1, c1, n1, row1, rfl, hb1, hc1, _, _, _, hp1, hl1, hr1⟩ := hr.at_ (k := s) (by have := HN.out; omega)
      obtain ⟨b2, o2, B2, c2, n2, row2, e2, hb2, hc2, _, _, _, hp2, hl2, hr2⟩ := hr.at_ (k := t) (by have := HN.out; omega)
      injection e2 with e2
      injection e2 with e2 e3
      subst e2 e3
      have hn1 : n1 = i := by have := HV.out.len row1 (List.mem_of_getElem? hr1.out); have := hl1.out; have := HI.out; omega
      have hn2 : n2 = i := by have := HV.out.len row2 (List.mem_of_getElem? hr2.out); have := hl2.out; have := HI.out; omega
      subst hn1
      subst hn2
      obtain ⟨q1, r1, x0, x1, rfl, hq1, hx0, hx1, hxe⟩ := hp1.at_ (k := j) (by have := hl1.out; omega)
      obtain ⟨q2, r2, y0, y1, rfl, hq2, hy0, hy1, hye⟩ := hp2.at_ (k := j) (by have := hl2.out; omega)
      have d1 := (hbr.out.cell (p := ⟨b1, o1 + s, none⟩) hb1).trans hc1
      have d2 := (hbr.out.cell (p := ⟨b1, o1 + t, none⟩) hb1).trans hc2
      have d3 := (hbr.out.cell (p := ⟨q1, r1 + j * 2, none⟩) hq1).trans hx0
      have d4 := (hbr.out.cell (p := ⟨q1, r1 + j * 2 + 1, none⟩) hq1).trans hx1
      have d5 := (hbr.out.cell (p := ⟨q2, r2 + j * 2, none⟩) hq2).trans hy0
      have d6 := (hbr.out.cell (p := ⟨q2, r2 + j * 2 + 1, none⟩) hq2).trans hy1
      have hsz := hbr.out.size
      have z0 : w.heap.size < wr.heap.size := heap_lt hM.out
      have z1 : b1 < wr.heap.size := by omega
      have z2 : q1 < wr.heap.size := by omega
      have z3 : q2 < wr.heap.size := by omega
      go_upto_region 4 with fail
      go_cut [10, 11] from 18 to 33 (fun u v wx => ∃ gx gy, u = .pointer (some ⟨gx, 0, none⟩) ∧ v = .pointer (some ⟨gy, 0, none⟩) ∧ Hid (BxE wx gx x0 x1) ∧ Hid (BxE wx gy y0 y1) ∧ Hid (Below wr.heap.size wr wx))
      case first =>
        go_region
        all_goals
          go_wp2_with fail
          go_meet
          first
            | exact ⟨_, _, rfl, rfl, (two_edges wr x0 x1 y0 y1).1, (two_edges wr x0 x1 y0 y1).2.1, (two_edges wr x0 x1 y0 y1).2.2⟩
            | exact ⟨_, _, rfl, rfl, (two_edges wr y0 y1 x0 x1).2.1, (two_edges wr y0 y1 x0 x1).1, (two_edges wr y0 y1 x0 x1).2.2⟩
      case rest =>
      obtain ⟨gx, gy, rfl, rfl, hgx, hgy, hbc⟩ := hcut
      have hM2 := Lib.hid (hM.out.mvB hbc.out)
      have hbr2 := Lib.hid (below_next hbr.out hbc.out)
      obtain ⟨u0, u1, _, _⟩ := hgx.out.cells
      obtain ⟨u2, u3, _, _⟩ := hgy.out.cells
      have nxx : Hid (Mc.nx m s j = (x0, x1)) := Mc.nx_at hr1.out hxe.out
      have nxy : Hid (Mc.nx m t j = (y0, y1)) := Mc.nx_at hr2.out hye.out
      have hstep : Hid (Mc.apt m p s t (j + 1) = Mc.apE p (x0, x1) (y0, y1)) := by show _ = _; rw [Mc.apt_snoc, hap.out, Bool.false_or, nxx.out, nxy.out]
      have hX1 : Hid (0 ≤ x0 → x0 < n) := fun h => by
        obtain ⟨a, _⟩ := Mc.nx_st HV.out (s := (s : Int)) (i := (j : Int)) (Or.inr ⟨by omega, by have := HN.out; omega⟩) ⟨by omega, by have := HI.out; omega⟩
        rw [nxx.out] at a
        have := HN.out
        rcases a with a | ⟨_, a⟩ <;> simp at a <;> omega
      have hY1 : Hid (0 ≤ y0 → y0 < n) := fun h => by
        obtain ⟨a, _⟩ := Mc.nx_st HV.out (s := (t : Int)) (i := (j : Int)) (Or.inr ⟨by omega, by have := HN.out; omega⟩) ⟨by omega, by have := HI.out; omega⟩
        rw [nxy.out] at a
        have := HN.out
        rcases a with a | ⟨_, a⟩ <;> simp at a <;> omega
      clear hgx hgy hbc hM hbr d1 d2 d3 d4 d5 d6 z0 z1 z2 z3 hsz hx0 hx1 hy0 hy1 hc1 hc2 m0 m1 m2 hap hp1 hp2 hq1 hq2
      by_cases ho : x1 = y1
      · have ho' : (x1 == y1) = true := by simp [ho]
        have ho2 : (x1 != y1) = false := by simp [ho]
        by_cases hx : 0 ≤ x0
        · have hx' : decide (0 ≤ x0) = true := decide_eq_true hx
          by_cases hy : 0 ≤ y0
          · have hy' : decide (0 ≤ y0) = true := decide_eq_true hy
            obtain ⟨x0, rfl⟩ : ∃ k : Nat, x0 = k := ⟨x0.toNat, by omega⟩
            obtain ⟨y0, rfl⟩ : ∃ k : Nat, y0 = k := ⟨y0.toNat, by omega⟩
            have hxn : x0 < n := by have := hX1.out hx; omega
            have hyn : y0 < n := by have := hY1.out hy; omega
            obtain ⟨gb, go, cc, k1, k2, k3⟩ := HX.out x0 hxn
            have e1 := (hbr2.out.cell (p := ⟨b, off + x0, none⟩) hb).trans k1
            have e2 := (hbr2.out.cell (p := ⟨gb, go + y0, none⟩) k2).trans (k3 y0 hyn)
            obtain ⟨f, hf⟩ : ∃ f, prd p x0 y0 = f := ⟨_, rfl⟩
            have hf2 : Hid (Mc.apt m p s t (j + 1) = f) := by
              show _ = _
              rw [hstep.out, ← hf]
              unfold Mc.apE prd
              simp [ho]
            rw [hf] at e2
            clear hf k1 k2 k3
            cases f with
            | true =>
              have hyes : Hid (Mc.apt m p s t n2 = true) := Mc.apt_hit hji (by rw [nxx.out, nxy.out, ← hstep.out]; exact hf2.out)
              clear hf2 hstep nxx nxy
              go_wp2_with fail
              go_quiet (fail)
              go_wp2_with fail
              go_ret
              exact ⟨ret_int (by rw [HRR.out, hyes.out]; rfl), below_drewN' hbr2.out _⟩
            | false =>
              have hno := hf2
              clear hstep nxx nxy
              go_wp2_with fail
              go_quiet (fail)
              go_wp2_with fail
              go_roundw
              case rel => exact ⟨j + 1, by omega, by go_num, hno, hM2, below_drewN' hbr2.out _⟩
              case measure => simp [intOf]; omega
          · have hy' : decide (0 ≤ y0) = false := decide_eq_false hy
            have hno : Hid (Mc.apt m p s t (j + 1) = false) := by
              show _ = _
              rw [hstep.out]
              unfold Mc.apE
              simp [ho, hy]
            clear hstep nxx nxy
            go_wp2_with fail
            go_quiet (fail)
            go_wp2_with fail
            go_roundw
            case rel => exact ⟨j + 1, by omega, by go_num, hno, hM2, below_drewN' hbr2.out _⟩
            case measure => simp [intOf]; omega
        · have hx' : decide (0 ≤ x0) = false := decide_eq_false hx
          have hno : Hid (Mc.apt m p s t (j + 1) = false) := by
            show _ = _
            rw [hstep.out]
            unfold Mc.apE
            simp [ho, hx]
          clear hstep nxx nxy
          go_wp2_with fail
          go_quiet (fail)
          go_wp2_with fail
          go_roundw
          case rel => exact ⟨j + 1, by omega, by go_num, hno, hM2, below_drewN' hbr2.out _⟩
          case measure => simp [intOf]; omega
      · have ho' : (x1 == y1) = false := by simp [ho]
        have ho2 : (x1 != y1) = true := by simp [ho]
        have hyes : Hid (Mc.apt m p s t n2 = true) := Mc.apt_hit hji (by rw [nxx.out, nxy.out]; unfold Mc.apE; simp [ho])
        clear hstep nxx nxy
        go_wp2_with fail
        go_quiet (fail)
        go_wp2_with fail
        go_ret
        exact ⟨ret_int (by rw [HRR.out, hyes.out]; rfl), below_drewN' hbr2.out _⟩
    · have hji' : decide ((j : Int) < i) = false := decide_eq_false (by omega)
      obtain rfl : j = i := by omega
      go_wp2_with fail
      go_ret
      exact ⟨ret_int (by rw [HRR.out, hap.out]; rfl), hbr.out⟩
end Go.Proofs.Ytiamkkgnjobljaa

namespace Go.Proofs.Ytiamkkgnjobljaa
open Go.RowKit
open Mc (Ed Ma)

theorem own_len' {w : World} {base n sz : Nat} {t : TypeId} {v : Value} {xs : List Value} (h : w.ownsRow base t sz v n xs) : ∃ A c, v = .slice A n c ∧ n ≤ c := by
  rcases h.2 with ⟨rfl, h0⟩ | ⟨g, cap, cur, rfl, _, _, hc, _⟩
  · exact ⟨none, 0, by rw [h0], by omega⟩
  · exact ⟨_, _, rfl, hc⟩
set_option maxRecDepth 100000 in
set_option maxHeartbeats 4000000 in
theorem partition_any (X : Option Addr) (n k : Nat) (p : List Int) (w : World) (hx : RdMx w X n (prd p)) (hv : M.Vd p) (hl : p.length = n) (hn : n ≤ 64) :
    Calls Try.prog 105 #[.slice X n k] w fun e w' => ∃ B q, e = .returned (.slice B n q) ∧ Rd w' B p ∧ Below w.heap.size w w' := by
  obtain ⟨i0, hi0, hz0, hz1, hz2⟩ := info_parts int_info
  have HV := Lib.hid hv
  have HL := Lib.hid hl
  have HX := Lib.hid hx
  clear hv hl hx
  have HG : Hid (∀ s, s < n → 0 ≤ M.gz p s ∧ M.gz p s < 64) := fun s hs => by
    have h1 := M.vd_gz HV.out (i := s) (by have := HL.out; omega)
    have h2 := HL.out
    omega
  go_enter Try.func105, Try.ntmps105
  go_wp2
  go_loopw [3, 4, 5] (fun u x y wr => ∃ (s q : Nat), s ≤ n ∧ y = .int .i64 s ∧ x = .int .i64 q ∧ q ≤ s ∧ Hid (q = M.cnt (p.take s)) ∧ Hid (wr.ownsRow w.heap.size 3 1 u s (ints (p.take s))) ∧ Hid (Below w.heap.size w wr)) (fun _ _ y _ => n - (intOf y).toNat)
  case atStart => exact ⟨0, 0, Nat.zero_le _, rfl, rfl, Nat.le_refl _, by show _ = _; simp [M.cnt_nil], World.ownsRow_nil _ _ _ _, Below.refl _ _⟩
  case round =>
    obtain ⟨s, q, hs, rfl, rfl, hqs, hq, hown, hbr⟩ := hrel
    obtain ⟨O, oc, rfl, hoc⟩ := own_len' hown.out
    by_cases hsn : s < n
    · have hsn' : (s : Int) < n := by omega
      have hrO := Rd.of_own hown.out
      have HRO := Lib.hid hrO
      clear hrO
      obtain ⟨xb, xo, rfl, hxb, hxr⟩ := HX.out (by omega)
      obtain ⟨gb, go, gc, k1, k2, k3⟩ := hxr s hsn
      have d1 := (hbr.out.cell (p := ⟨xb, xo + s, none⟩) hxb).trans k1
      have K3 : Hid (∀ t, t < n → wr.cell? ⟨gb, go + t, none⟩ = some (.bool (prd p s t))) := fun t ht => (hbr.out.cell (p := ⟨gb, go + t, none⟩) k2).trans (k3 t ht)
      clear k1 k2 k3 hxr hxb
      obtain ⟨z, hz, hzz⟩ : ∃ z, M.gz p s = z ∧ Hid (0 ≤ z ∧ z < 64) := ⟨_, rfl, HG.out s hsn⟩
      have HZ := Lib.hid hz
      clear hz
      go_wp2_with fail
      go_loopw [6, 7] (fun x y wx => ∃ (b : Int) (t : Nat), t ≤ s ∧ x = .int .i64 b ∧ y = .int .i64 t ∧ wx = wr ∧ Hid ((b = -1 ∧ ∀ j, j < t → M.gz p s ≠ M.gz p j) ∨ (b = z ∧ ∃ j, j < t ∧ M.gz p s = M.gz p j))) (fun _ y _ => s - (intOf y).toNat)
      case atStart => exact ⟨-1, 0, Nat.zero_le _, rfl, rfl, rfl, .inl ⟨rfl, fun j h => absurd h (by omega)⟩⟩
      case round =>
        obtain ⟨b, t, ht, rfl, rfl, rfl, hb⟩ := hrel
        by_cases hts : t < s
        · have hts' : (t : Int) < s := by omega
          have d2 := K3.out t (by omega)
          by_cases he : M.gz p s = M.gz p t
          · have hf : prd p s t = false := by unfold prd; simp [he]
            rw [hf] at d2
            obtain ⟨ob, oo, rfl⟩ := HRO.out.opn (by rw [List.length_take]; have := HL.out; omega)
            obtain ⟨y, hyb, hyc, hy⟩ := HRO.out.cl (k := t) (by rw [List.length_take]; have := HL.out; omega)
            have hyz : Hid (y = z) := by
              show _ = _
              rw [← hy.out, M.gz_take (by omega), ← he, HZ.out]
            have hb2 : Hid ((y = -1 ∧ ∀ j, j < t + 1 → M.gz p s ≠ M.gz p j) ∨ (y = z ∧ ∃ j, j < t + 1 ∧ M.gz p s = M.gz p j)) := .inr ⟨hyz.out, t, by omega, he⟩
            have htn : t < n := by omega
            clear hb hf he
            go_wp2_with fail
            go_roundw
            case rel => exact ⟨y, t + 1, by omega, rfl, by go_num, trivial, hb2⟩
            case measure => simp [intOf]; omega
          · have hf : prd p s t = true := by unfold prd; simp [he]
            rw [hf] at d2
            have hb2 : Hid ((b = -1 ∧ ∀ j, j < t + 1 → M.gz p s ≠ M.gz p j) ∨ (b = z ∧ ∃ j, j < t + 1 ∧ M.gz p s = M.gz p j)) := by
              rcases hb.out with ⟨h1, h2⟩ | ⟨h1, j, h2, h3⟩
              · refine .inl ⟨h1, fun j hj => ?_⟩
                rcases Nat.lt_or_ge j t with h4 | h4
                · exact h2 j h4
                · obtain rfl : j = t := by omega
                  exact he
              · exact .inr ⟨h1, j, by omega, h3⟩
            have htn : t < n := by omega
            clear hb hf he
            go_wp2_with fail
            go_roundw
            case rel => exact ⟨b, t + 1, by omega, rfl, by go_num, trivial, hb2⟩
            case measure => simp [intOf]; omega
        · have hts' : decide ((t : Int) < s) = false := decide_eq_false (by omega)
          obtain rfl : t = s := by omega
          have hsz := hbr.out.size
          have h3 : t + 1 ≤ maxLen := by unfold maxLen; omega
          have h4 : (t + 1) * 8 ≤ 140737488355328 := by omega
          have hownA := Lib.hid (hown.out.alloc (.cells #[.int .i64 z] 3))
          have h1 := Lib.hid (cell_one_new wr (t := 3) (.int .i64 z))
          have h2 : Hid (∀ u ∈ ([.int .i64 z] : List Value), u.oneCell' = true) := fun u hu => by simp at hu; subst hu; rfl
          have h5 : w.heap.size ≤ (wr.alloc (.cells #[.int .i64 z] 3)).heap.size := by simp; omega
          have htk : Hid (p.take (t + 1) = p.take t ++ [z]) := by show _ = _; rw [M.take_gz (by have := HL.out; omega), HZ.out]
          rcases hb.out with ⟨rfl, hnew⟩ | ⟨rfl, j, hj, hold⟩
          · have hzq : Hid (z = (q : Int)) := by
              show _ = _
              rw [← HZ.out, Mc.prt_new HV.out (by have := HL.out; omega) hnew, hq.out]
            have hcn : Hid (q + 1 = M.cnt (p.take (t + 1))) := by show _ = _; rw [Mc.prt_cnt_new (by have := HL.out; omega) hnew, hq.out]
            have hqz := hzq.out
            subst hqz
            clear hb hnew hzq
            go_wp2_with (at_builtin; refine wpList_append_own _ rfl _ _ 38 rfl w.heap.size 3 i0 (.int .i64 0) 1 8 Try.underlying38 hi0 hz0 hz1 hz2 rfl (by decide) _ _ _ rfl hownA.out ⟨wr.heap.size, 0, none⟩ 1 1 [.int .i64 q] rfl rfl h1.out h2.out h3 h4 h5 ?_)
            intro v1 w5 hown1 hg1 _
            have hb5 := Lib.hid ((hbr.out.alloc hsz (.cells #[.int .i64 q] 3)).grown hg1 h5 (fun j hj => (hownA.out.lt j hj).1))
            rw [ints_snoc, ← htk.out] at hown1
            have hown2 := Lib.hid hown1
            clear hown1 hg1 hownA h1 h2 h3 h4 h5 hbr hown
            go_wp2_with fail
            go_roundw
            case rel => exact ⟨t + 1, q + 1, by omega, by go_num, by go_num, by omega, hcn, hown2, hb5⟩
            case measure => simp [intOf]; omega
          · have hcn : Hid (q = M.cnt (p.take (t + 1))) := by show _ = _; rw [Mc.prt_cnt_old (by have := HL.out; omega) hj hold, hq.out]
            have hzn : decide (b < 0) = false := decide_eq_false (by have := hzz.out; omega)
            clear hb hold
            go_wp2_with (at_builtin; refine wpList_append_own _ rfl _ _ 38 rfl w.heap.size 3 i0 (.int .i64 0) 1 8 Try.underlying38 hi0 hz0 hz1 hz2 rfl (by decide) _ _ _ rfl hownA.out ⟨wr.heap.size, 0, none⟩ 1 1 [.int .i64 b] rfl rfl h1.out h2.out h3 h4 h5 ?_)
            intro v1 w5 hown1 hg1 _
            have hb5 := Lib.hid ((hbr.out.alloc hsz (.cells #[.int .i64 b] 3)).grown hg1 h5 (fun j hj => (hownA.out.lt j hj).1))
            rw [ints_snoc, ← htk.out] at hown1
            have hown2 := Lib.hid hown1
            clear hown1 hg1 hownA h1 h2 h3 h4 h5 hbr hown
            go_wp2_with fail
            go_roundw
            case rel => exact ⟨t + 1, q, by omega, by go_num, rfl, by omega, hcn, hown2, hb5⟩
            case measure => simp [intOf]; omega
    · have hsn' : decide ((s : Int) < n) = false := decide_eq_false (by omega)
      obtain rfl : s = n := by omega
      have hrO := Rd.of_own hown.out
      rw [List.take_of_length_le (by have := HL.out; omega)] at hrO
      have HRO := Lib.hid hrO
      clear hrO
      go_wp2_with fail
      go_ret
      exact ⟨O, oc, rfl, HRO.out, hbr.out⟩
end Go.Proofs.Ytiamkkgnjobljaa

namespace Go.Proofs.Ytiamkkgnjobljaa
open Go.RowKit
open Mc (Ed Ma)

/-- The headers of rows of n bools, each in a block of its own. -/
def hdB (n : Nat) (gs : List Nat) : List Value := gs.map fun g => .slice (some ⟨g, 0, none⟩) n n
theorem hdB_len (n : Nat) (gs : List Nat) : (hdB n gs).length = gs.length := by simp [hdB]
theorem hdB_snoc (n : Nat) (gs : List Nat) (g : Nat) : hdB n gs ++ [.slice (some ⟨g, 0, none⟩) n n] = hdB n (gs ++ [g]) := by simp [hdB]
def MxB (w : World) (base : Nat) (V : Value) (n : Nat) (gs : List Nat) (L : List (List Bool)) : Prop :=
  w.ownsRow base 119 1 V gs.length (hdB n gs) ∧ gs.length = L.length ∧ gs.Nodup ∧ ∀ (k g : Nat) row, gs[k]? = some g → L[k]? = some row → base ≤ g ∧ row.length = n ∧ BlkB w g row
section
variable {w w' : World} {base n : Nat} {V : Value} {gs : List Nat} {L : List (List Bool)}
theorem MxB.nil_ (w : World) (base n : Nat) : MxB w base (.slice none 0 0) n [] [] := ⟨World.ownsRow_nil _ _ _ _, rfl, List.nodup_nil, fun k g row h => by simp at h⟩
theorem MxB.below (h : MxB w base V n gs L) (hb : Below w.heap.size w w') : MxB w' base V n gs L :=
  ⟨h.1.kept (grown_below hb) (by cases V.ownBlock <;> simp), h.2.1, h.2.2.1, fun k g row h1 h2 => by
    obtain ⟨a, b, c⟩ := h.2.2.2 k g row h1 h2
    exact ⟨a, b, (hb.block _ (heap_lt c)).trans c⟩⟩
/-- A row's block is not the block of the headers. -/
theorem MxB.apart (h : MxB w base V n gs L) {g : Nat} {row : List Bool} (hg : BlkB w g row) : some g ≠ V.ownBlock := fun e => by
  rcases h.1.2 with ⟨rfl, _⟩ | ⟨p, cap, cur, rfl, _, hp, _⟩
  · simp [Value.ownBlock] at e
  · simp [Value.ownBlock] at e
    subst e
    unfold BlkB at hg
    rw [hg] at hp
    simp at hp
theorem MxB.push {g : Nat} {row : List Bool} {w3 : World} {V1 : Value} (h : MxB w base V n gs L) (hnew : ∀ x ∈ gs, x ≠ g) (hr : BlkB w g row) (hbg : base ≤ g) (hrl : row.length = n)
    (h1 : w3.ownsRow base 119 1 V1 (gs.length + 1) (hdB n gs ++ [.slice (some ⟨g, 0, none⟩) n n])) (hg : w.grownBy w3 V.ownBlock) : MxB w3 base V1 n (gs ++ [g]) (L ++ [row]) := by
  have key : ∀ {g' : Nat} {r : List Bool}, BlkB w g' r → BlkB w3 g' r := fun {g'} {r} hb => (hg.block g' (heap_lt hb) (h.apart hb)).trans hb
  refine ⟨by rw [List.length_append, ← hdB_snoc]; exact h1, by simp [h.2.1], ?_, fun k g' r h2 h3 => ?_⟩
  · rw [List.nodup_append]
    exact ⟨h.2.2.1, by simp, fun a ha b hb => by rw [List.mem_singleton.1 hb]; exact hnew a ha⟩
  · rw [List.getElem?_append] at h2 h3
    have hl := h.2.1
    split at h2
    · rename_i hlt
      rw [if_pos (by omega)] at h3
      obtain ⟨a, b, c⟩ := h.2.2.2 k g' r h2 h3
      exact ⟨a, b, key c⟩
    · rename_i hge
      rw [if_neg (by omega)] at h3
      rcases Nat.eq_zero_or_pos (k - gs.length) with h0 | h0
      · rw [h0] at h2
        rw [← hl, h0] at h3
        simp at h2 h3
        subst h2 h3
        exact ⟨hbg, hrl, key hr⟩
      · rw [List.getElem?_eq_none (by simp; omega)] at h2
        cases h2
theorem MxB.set_ (h : MxB w base V n gs L) {k g : Nat} {row : List Bool} (hk : gs[k]? = some g) (hL : L[k]? = some row) (t : Nat) (b : Bool) : MxB (w.setCell ⟨g, t, none⟩ (.bool b)) base V n gs (L.set k (row.set t b)) := by
  obtain ⟨h1, h2, h3⟩ := h.2.2.2 k g row hk hL
  have hne := h.apart h3
  refine ⟨h.1.kept (grown_setCell w ⟨g, t, none⟩ (.bool b)) (by cases hv : V.ownBlock with
    | none => exact .inl rfl
    | some x => exact .inr fun e => hne (by rw [hv]; exact e.symm)), by rw [List.length_set]; exact h.2.1, h.2.2.1, fun j g' r hj hr => ?_⟩
  by_cases hjk : j = k
  · subst hjk
    rw [hk] at hj
    injection hj with hj
    subst hj
    rw [List.getElem?_set_self (List.getElem?_eq_some_iff.1 hL).1] at hr
    injection hr with hr
    subst hr
    exact ⟨h1, by simp [h2], h3.set_ t b⟩
  · rw [List.getElem?_set_ne (by omega)] at hr
    obtain ⟨a, c, d⟩ := h.2.2.2 j g' r hj hr
    have hgg : g' ≠ g := fun e => by
      subst e
      have i1 := (List.getElem?_eq_some_iff.1 hj)
      have i2 := (List.getElem?_eq_some_iff.1 hk)
      obtain ⟨i1, e1⟩ := i1
      obtain ⟨i2, e2⟩ := i2
      have hp := List.pairwise_iff_getElem.1 h.2.2.1
      rcases Nat.lt_trichotomy j k with h4 | h4 | h4
      · exact hp j k i1 i2 h4 (e1.trans e2.symm)
      · exact hjk h4
      · exact hp k j i2 i1 h4 (e2.trans e1.symm)
    exact ⟨a, c, (Below.heap_setCell w ⟨g, t, none⟩ (.bool b) g' hgg).trans d⟩
theorem MxB.lt (h : MxB w base V n gs L) {x : Nat} (hx : x ∈ gs) : x < w.heap.size := by
  obtain ⟨k, hk, e⟩ := List.getElem_of_mem hx
  have hl := h.2.1
  obtain ⟨_, _, hc⟩ := h.2.2.2 k x _ (by rw [List.getElem?_eq_getElem hk, e]) (List.getElem?_eq_getElem (show k < L.length by omega))
  exact heap_lt hc
/-- What a walk loads. -/
theorem MxB.at_ (h : MxB w base V n gs L) {k : Nat} (hk : k < gs.length) : ∃ p c g row, V = .slice (some ⟨p, 0, none⟩) gs.length c ∧ gs[k]? = some g ∧ L[k]? = some row ∧ p < w.heap.size ∧ w.cell? ⟨p, k, none⟩ = some (.slice (some ⟨g, 0, none⟩) n n) ∧ BlkB w g row ∧ row.length = n := by
  have hl := h.2.1
  have h1 := List.getElem?_eq_getElem hk
  have h2 := List.getElem?_eq_getElem (show k < L.length by omega)
  obtain ⟨_, hb, hc⟩ := h.2.2.2 k _ _ h1 h2
  rcases h.1.2 with ⟨_, h0⟩ | ⟨p, cap, cur, hv, _, hp, _⟩
  · omega
  · subst hv
    have hcell := h.1.cells (g := p) rfl k (.slice (some ⟨gs[k], 0, none⟩) n n) (by simp [hdB, h1])
    rw [Addr.add_lit] at hcell
    exact ⟨p, cap, _, _, rfl, h1, h2, heap_lt hp, by simpa using hcell, hc, hb⟩
theorem MxB.rd (h : MxB w base V n gs L) (hl : gs.length = n) {f : Nat → Nat → Bool} (hf : ∀ s t, s < n → t < n → (L[s]?.getD [])[t]? = some (f s t)) : ∃ A c, V = .slice A n c ∧ RdMx w A n f := by
  rcases h.1.2 with ⟨hv, h0⟩ | ⟨p, cap, cur, hv, _, hp, _⟩
  · exact ⟨none, 0, by rw [hv, ← hl, h0], fun h => by omega⟩
  · refine ⟨some ⟨p, 0, none⟩, cap, by rw [hv, hl], fun _ => ⟨p, 0, rfl, heap_lt hp, fun s hs => ?_⟩⟩
    obtain ⟨p', c', g, row, e, h2, h3, _, h5, h6, h7⟩ := h.at_ (k := s) (by omega)
    rw [hv] at e
    injection e with e
    injection e with e
    injection e with e
    subst e
    refine ⟨g, 0, n, by rw [Nat.zero_add]; exact h5, heap_lt h6, fun t ht => ?_⟩
    have h8 := hf s t hs ht
    rw [h3] at h8
    rw [Nat.zero_add, cell_of_row w g t _ 4 (0, 0) h6]
    simp only [Option.getD_some] at h8
    simp [h8]
end
end Go.Proofs.Ytiamkkgnjobljaa

namespace Go.Proofs.Ytiamkkgnjobljaa
open Go.RowKit
open Mc (Ed Ma)

theorem boolrow_info : (Try.prog.info? 119).map (fun i => (i.zero, i.size, i.bytes)) = some (some (.slice none 0 0), 1, 24) := by kernel_rfl
set_option maxRecDepth 100000 in
set_option maxHeartbeats 4000000 in
theorem marked_any (m : Ma) (i k : Nat) (o : Int) (A : Option Addr) (n c : Nat) (w : World) (v : Mc.Val m) (hi : m.i = i) (hn : m.r.length = n) (hr : RdR w A m.r) (hk6 : k ≤ 1000000) :
    Calls Try.prog 87 #[.agg #[.int .i64 i, .int .i64 o, .slice A n c], .int .i64 k] w fun e w' => ∃ X q, e = .returned (.slice X n q) ∧ RdMx w' X n (prd (Mc.rnd m k)) ∧ Below w.heap.size w w' := by
  obtain ⟨i0, hi0, hz0, hz1, hz2⟩ := info_parts boolrow_info
  have hn64 : n ≤ 64 := by have := v.r1; omega
  have HI := Lib.hid hi
  have HV := Lib.hid v
  have HN := Lib.hid hn
  have HR := Lib.hid hr
  clear hi v hn hr
  have EB : Below w.heap.size w (boxM w i o A n c) := (Below.refl _ _).alloc (Nat.le_refl _) _
  have HB := Lib.hid EB
  have HM := Lib.hid (BxM.new w i o A n c)
  clear EB
  obtain ⟨m0, m1, m2⟩ := BxM.cells HM.out
  go_enter Try.func87, Try.ntmps87
  go_wp2_with fail
  clear m0 m1 m2
  go_loopw [6, 7] (fun x y wr => ∃ (s : Nat) (gs : List Nat), s ≤ n ∧ y = .int .i64 s ∧ Hid (gs.length = s) ∧ Hid (MxB wr (w.heap.size + 1) x n gs (List.replicate s (List.replicate n false))) ∧ Hid (BxM wr w.heap.size i o A n c) ∧ Hid (Below w.heap.size w wr)) (fun _ y _ => n - (intOf y).toNat)
  case atStart => exact ⟨0, [], Nat.zero_le _, rfl, rfl, MxB.nil_ _ _ _, HM, HB⟩
  case round =>
    clear HM HB
    obtain ⟨s, gs, hs, rfl, hgl, hX, hM, hbr⟩ := hrel
    by_cases hsn : s < n
    · have hsn' : (s : Int) < n := by omega
      go_wp2_with (at_make; refine wpList_make_bools _ rfl _ _ rfl _ n rfl rfl rfl (by omega) ?_)
      intro w1 hB1 hb1
      have hX1 := hX.out.below hb1
      have hlt := Lib.hid (fun x hx => MxB.lt hX.out (x := x) hx)
      have hM1 := Lib.hid (show BxM w1 w.heap.size i o A n c from hM.out.mvB hb1)
      have hbw := Lib.hid (below_next hbr.out hb1)
      have hgl2 := hgl.out
      have hsz := hb1.size
      have hown0 := hX1.1
      rw [hgl2] at hown0
      have hownA := hown0.alloc (.cells #[.slice (some ⟨wr.heap.size, 0, none⟩) n n] 119)
      have hm0 : w.heap.size < wr.heap.size := heap_lt hM.out
      have h1 := Lib.hid (cell_one_new w1 (t := 119) (.slice (some ⟨wr.heap.size, 0, none⟩) n n))
      have h2 : Hid (∀ u ∈ ([.slice (some ⟨wr.heap.size, 0, none⟩) n n] : List Value), u.oneCell' = true) := fun u hu => by simp at hu; subst hu; rfl
      have h3 : s + 1 ≤ maxLen := by unfold maxLen; omega
      have h4 : (s + 1) * 24 ≤ 140737488355328 := by omega
      have h5 : w.heap.size + 1 ≤ (w1.alloc (.cells #[.slice (some ⟨wr.heap.size, 0, none⟩) n n] 119)).heap.size := by simp; omega
      clear hX hM hbr
      go_wp2_with (at_builtin; refine wpList_append_own _ rfl _ _ 118 rfl (w.heap.size + 1) 119 i0 (.slice none 0 0) 1 24 Try.underlying118 hi0 hz0 hz1 hz2 rfl (by decide) _ _ _ rfl hownA ⟨w1.heap.size, 0, none⟩ 1 1 [.slice (some ⟨wr.heap.size, 0, none⟩) n n] rfl rfl h1.out h2.out h3 h4 h5 ?_)
      intro v1 w5 hown1 hg1 _
      have hX5 : Hid (MxB w5 (w.heap.size + 1) v1 n (gs ++ [wr.heap.size]) (List.replicate (s + 1) (List.replicate n false))) := by
        show MxB _ _ _ _ _ _
        rw [List.replicate_succ']
        have hXa := hX1.below ((Below.refl _ _).alloc (Nat.le_refl _) (.cells #[.slice (some ⟨wr.heap.size, 0, none⟩) n n] 119))
        refine hXa.push (fun x hx e => by have := hlt.out x hx; omega) ((((Below.refl _ _).alloc (Nat.le_refl _) _).block _ hB1.out.lt).trans hB1.out) (by omega) (by simp) (by rw [hgl2]; exact hown1) hg1
      have hbF := Lib.hid ((hbw.out.alloc hbw.out.size (.cells #[.slice (some ⟨wr.heap.size, 0, none⟩) n n] 119)).grown hg1 (by simp; omega) (fun j hj => by have := (hownA.lt j hj).1; omega))
      have hM5 : Hid (BxM w5 w.heap.size i o A n c) := by
        show BxM _ _ _ _ _ _ _
        have h0 : BxM (w1.alloc (.cells #[.slice (some ⟨wr.heap.size, 0, none⟩) n n] 119)) w.heap.size i o A n c := hM1.out.mvB ((Below.refl _ _).alloc (Nat.le_refl _) _)
        exact (hg1.block _ (heap_lt h0) (fun e => by have := (hownA.lt _ e.symm).1; omega)).trans h0
      have hgl5 : Hid ((gs ++ [wr.heap.size]).length = s + 1) := by show _ = _; simp [hgl2]
      clear hown1 hg1 hownA hown0 hX1 h1 h2 h3 h4 h5 hlt hB1 hb1 hM1 hbw
      go_wp2_with fail
      go_roundw
      case rel => exact ⟨s + 1, _, by omega, by go_num, hgl5, hX5, hM5, hbF⟩
      case measure => simp [intOf]; omega
    · have hsn' : decide ((s : Int) < n) = false := decide_eq_false (by omega)
      obtain rfl : s = n := by omega
      obtain ⟨X0, q0, rfl, hx0⟩ := hX.out.rd hgl.out (f := prd (Mc.rnd m 0)) (fun s' t' h1 h2 => by
        have h0 : prd (Mc.rnd m 0) s' t' = false := by
          unfold prd
          rw [Mc.rnd, Mc.rep_gz (by have := HN.out; omega), Mc.rep_gz (by have := HN.out; omega)]
          rfl
        rw [h0, List.getElem?_replicate, if_pos h1, Option.getD_some, List.getElem?_replicate, if_pos h2])
      have HX0 := Lib.hid hx0
      clear hx0 hX
      go_wp2_with fail
      go_loopw [6, 8] (fun x y wr => ∃ (r : Nat) (X : Option Addr) (q : Nat), r ≤ k ∧ y = .int .i64 r ∧ x = .slice X s q ∧ Hid (RdMx wr X s (prd (Mc.rnd m r))) ∧ Hid (BxM wr w.heap.size i o A s c) ∧ Hid (Below w.heap.size w wr)) (fun _ y _ => k - (intOf y).toNat)
      case atStart => exact ⟨0, X0, q0, Nat.zero_le _, rfl, rfl, HX0, hM, hbr⟩
      case round =>
        clear HX0 hM hbr
        obtain ⟨r, X, q, hrk, rfl, rfl, hX, hM, hbr⟩ := hrel
        by_cases hrk2 : r < k
        · have hrk' : decide ((r : Int) < k) = true := decide_eq_true (by omega)
          go_wp2_with fail
          obtain ⟨wo, rfl⟩ : ∃ wo : World, wo = wr := ⟨_, rfl⟩
          go_loopw [9, 10] (fun x y wr => ∃ (u : Nat) (gs : List Nat) (L : List (List Bool)), u ≤ s ∧ y = .int .i64 u ∧ Hid (gs.length = u) ∧ Hid (MxB wr wo.heap.size x s gs L) ∧ Hid (∀ s' t', s' < u → t' < s → (L[s']?.getD [])[t']? = some (prd (Mc.rnd m (r + 1)) s' t')) ∧ Hid (Below wo.heap.size wo wr)) (fun _ y _ => s - (intOf y).toNat)
          case atStart => exact ⟨0, [], [], Nat.zero_le _, rfl, rfl, MxB.nil_ _ _ _, fun _ _ h => absurd h (by omega), Below.refl _ _⟩
          case round =>
            obtain ⟨u, gs, L, hu, rfl, hgl9, hY, hval, hbw⟩ := hrel
            by_cases hus : u < s
            · have hus' : decide ((u : Int) < s) = true := decide_eq_true (by omega)
              go_wp2_with (at_make; refine wpList_make_bools _ rfl _ _ rfl _ s rfl rfl rfl (by omega) ?_)
              intro w1 hB1 hb1
              have hX1 := hY.out.below hb1
              have hlt := Lib.hid (fun x hx => MxB.lt hY.out (x := x) hx)
              have hbw1 := Lib.hid (below_next hbw.out hb1)
              have hgl2 := hgl9.out
              have hLL : Hid (L.length = u) := by have := hY.out.2.1; show _ = _; omega
              have hsz := hb1.size
              have hsz2 := hbw.out.size
              have hown0 := hX1.1
              rw [hgl2] at hown0
              have hownA := hown0.alloc (.cells #[.slice (some ⟨wr.heap.size, 0, none⟩) s s] 119)
              have h1 := Lib.hid (cell_one_new w1 (t := 119) (.slice (some ⟨wr.heap.size, 0, none⟩) s s))
              have h2 : Hid (∀ u ∈ ([.slice (some ⟨wr.heap.size, 0, none⟩) s s] : List Value), u.oneCell' = true) := fun u hu => by simp at hu; subst hu; rfl
              have h3 : u + 1 ≤ maxLen := by unfold maxLen; omega
              have h4 : (u + 1) * 24 ≤ 140737488355328 := by omega
              have h5 : wo.heap.size ≤ (w1.alloc (.cells #[.slice (some ⟨wr.heap.size, 0, none⟩) s s] 119)).heap.size := by simp; omega
              clear hY hbw
              go_wp2_with (at_builtin; refine wpList_append_own _ rfl _ _ 118 rfl wo.heap.size 119 i0 (.slice none 0 0) 1 24 Try.underlying118 hi0 hz0 hz1 hz2 rfl (by decide) _ _ _ rfl hownA ⟨w1.heap.size, 0, none⟩ 1 1 [.slice (some ⟨wr.heap.size, 0, none⟩) s s] rfl rfl h1.out h2.out h3 h4 h5 ?_)
              intro v1 w5 hown1 hg1 _
              have hX5 : Hid (MxB w5 wo.heap.size v1 s (gs ++ [wr.heap.size]) (L ++ [List.replicate s false])) := by
                show MxB _ _ _ _ _ _
                have hXa := hX1.below ((Below.refl _ _).alloc (Nat.le_refl _) (.cells #[.slice (some ⟨wr.heap.size, 0, none⟩) s s] 119))
                exact hXa.push (fun x hx e => by have := hlt.out x hx; omega) ((((Below.refl _ _).alloc (Nat.le_refl _) _).block _ hB1.out.lt).trans hB1.out) (by omega) (by simp) (by rw [hgl2]; exact hown1) hg1
              have hbF := Lib.hid ((hbw1.out.alloc hbw1.out.size (.cells #[.slice (some ⟨wr.heap.size, 0, none⟩) s s] 119)).grown hg1 h5 (fun j hj => (hownA.lt j hj).1))
              have hgl5 : Hid ((gs ++ [wr.heap.size]).length = u + 1) := by show _ = _; simp [hgl2]
              clear hown1 hg1 hownA hown0 hX1 h1 h2 h3 h4 h5 hlt hB1 hb1 hbw1 hgl9 hgl2
              obtain ⟨gs1, hgs1⟩ : ∃ gs1, gs ++ [wr.heap.size] = gs1 := ⟨_, rfl⟩
              rw [hgs1] at hX5 hgl5
              clear hgs1
              go_wp2_with fail
              go_loopw [11] (fun y wy => ∃ (t : Nat) (row : List Bool), t ≤ s ∧ y = .int .i64 t ∧ Hid (MxB wy wo.heap.size v1 s gs1 (L ++ [row])) ∧ Hid (∀ t', t' < t → row[t']? = some (prd (Mc.rnd m (r + 1)) u t')) ∧ Hid (Below wo.heap.size wo wy)) (fun y _ => s - (intOf y).toNat)
              case atStart => exact ⟨0, _, Nat.zero_le _, rfl, hX5, fun _ h => absurd h (by omega), hbF⟩
              case round =>
                clear hX5 hbF
                obtain ⟨t, row, ht, rfl, hY, hrow, hbw⟩ := hrel
                by_cases hts : t < s
                · have hts' : decide ((t : Int) < s) = true := decide_eq_true (by omega)
                  obtain ⟨p9, c9, g9, row9, hv9, e9, l9, hp9, k9, hb9, hl9⟩ := hY.out.at_ (k := u) (by have := hgl5.out; omega)
                  have hrr : row9 = row := by
                    rw [List.getElem?_append_right (by have := hLL.out; omega), hLL.out, Nat.sub_self] at l9
                    simp at l9
                    exact l9.symm
                  subst hrr
                  rw [hgl5.out] at hv9
                  subst hv9
                  obtain ⟨zz, kz, fz, _⟩ := hb9.at_ (k := t) (by omega)
                  obtain ⟨xb, xo, rfl, hxb, hxr⟩ := (hX.out.below hbw.out) (by omega)
                  obtain ⟨gb, go, gc, x1, x2, x3⟩ := hxr u hus
                  have x4 := x3 t hts
                  have hMy := Lib.hid (show BxM wr w.heap.size i o A s c from hM.out.mvB hbw.out)
                  have hAI := Mc.apt_iff HV.out (Mc.rnd m r) (s := u) (t := t) (i := i) (by have := HN.out; omega) (by have := HN.out; omega) HI.out
                  have HA := Lib.hid hAI
                  have hpl := Lib.hid hp9
                  have z1 : xb < wr.heap.size := hxb
                  have z2 : gb < wr.heap.size := x2
                  have z3 : p9 < wr.heap.size := hp9
                  have HG9 := Lib.hid hb9
                  have hfin : ∀ b : Bool, b = prd (Mc.rnd m (r + 1)) u t → ∀ t', t' < t + 1 → (row9.set t b)[t']? = some (prd (Mc.rnd m (r + 1)) u t') := fun b e t' h => by
                    rcases Nat.lt_or_ge t' t with h4 | h4
                    · rw [List.getElem?_set_ne (by omega)]
                      exact hrow.out t' h4
                    · obtain rfl : t' = t := by omega
                      rw [List.getElem?_set_self (by omega), e]
                  have HF := Lib.hid hfin
                  have hset : ∀ b : Bool, (L ++ [row9]).set u (row9.set t b) = L ++ [row9.set t b] := fun b => by
                    rw [List.set_append_right _ _ (by have := hLL.out; omega), hLL.out, Nat.sub_self]
                    rfl
                  have HS := Lib.hid hset
                  have HL9 := Lib.hid l9
                  have HE9 := Lib.hid e9
                  clear hAI hp9 hxb x2 x3 hxr hb9 hrow hfin hset l9 e9 hl9
                  cases hf0 : prd (Mc.rnd m r) u t with
                  | true =>
                    rw [hf0] at x4
                    have hnew : Hid (true = prd (Mc.rnd m (r + 1)) u t) := by
                      show _ = _
                      have h := HA.out
                      unfold prd at hf0 ⊢
                      rw [hf0, Bool.true_or] at h
                      rw [h]
                      rfl
                    go_upto_region 18 with fail
                    go_region
                    all_goals
                      have hb0 : wo.heap.size ≤ g9 := (hY.out.2.2.2 u g9 row9 HE9.out HL9.out).1
                      have hYn := Lib.hid ((hY.out.set_ HE9.out HL9.out t true).below (Below.refl _ _).drew)
                      rw [HS.out] at hYn
                      have hbn := Lib.hid ((hbw.out.setCell (p := ⟨g9, t, none⟩) hb0 (.bool true)).drew)
                      have hrn := Lib.hid (HF.out true hnew.out)
                      clear hY hbw hb0 HF hMy
                      go_wp2_with fail
                      go_roundw
                      case rel => exact ⟨t + 1, row9.set t true, by omega, by go_num, hYn, hrn, hbn⟩
                      case measure => simp [intOf]; omega
                  | false =>
                    rw [hf0] at x4
                    obtain ⟨f, hf⟩ : ∃ f, Mc.apt m (Mc.rnd m r) u t i = f := ⟨_, rfl⟩
                    have hnew : Hid (f = prd (Mc.rnd m (r + 1)) u t) := by
                      show _ = _
                      have h := HA.out
                      unfold prd at hf0 ⊢
                      rw [hf0, Bool.false_or, hf] at h
                      exact h
                    obtain ⟨m0, m1, m2⟩ := BxM.cells hMy.out
                    have CA := fun w1 h1 h2 => apart_any m i o A (some ⟨xb, xo, none⟩) s c q u t (Mc.rnd m r) w1 HV.out HI.out HN.out h1 h2 hus hts
                    rw [hf] at CA
                    have HXm := Lib.hid (hX.out.below hbw.out)
                    have HRm := Lib.hid (HR.out.below (below_next hbr.out hbw.out))
                    have z4 : w.heap.size < wr.heap.size := heap_lt hMy.out
                    have z5 : g9 < wr.heap.size := heap_lt HG9.out
                    have hub : (u : Int) < (u : Int) + 1 := by omega
                    have hlen9 := (hY.out.2.2.2 u g9 row9 HE9.out HL9.out).2.1
                    have HLEN := Lib.hid hlen9
                    clear hf hf0 hlen9
                    go_upto_region 18 with fail
                    cases f with
                    | true =>
                      go_region_law
                        (first
                          | (go_simp
                             go_at_call 100
                             (with_reducible refine (CA _ (HRm.out.below (Below.refl _ _).drew) (HXm.out.below (Below.refl _ _).drew)).mono ?_)
                             rintro e w7 ⟨rfl, hb7⟩
                             have q7 := below_next (Below.refl _ _).drew hb7
                             have c1 := (q7.cell (p := ⟨p9, u, none⟩) z3).trans k9
                             have hb9' := (q7.block _ z5).trans HG9.out
                             obtain ⟨z7, k7, f7, _⟩ := BlkB.at_ (show BlkB w7 g9 row9 from hb9') (k := t) (by rw [HLEN.out]; exact hts)
                             dsimp only)
                          | fail)
                      all_goals
                        have hb0 : wo.heap.size ≤ g9 := (hY.out.2.2.2 u g9 row9 HE9.out HL9.out).1
                        have hYn := Lib.hid ((hY.out.below q7).set_ HE9.out HL9.out t true)
                        rw [HS.out] at hYn
                        have hbn := Lib.hid ((below_next hbw.out q7).setCell (p := ⟨g9, t, none⟩) hb0 (.bool true))
                        have hrn := Lib.hid (HF.out true hnew.out)
                        clear hY hbw hb0 HF hMy HXm HRm CA q7 hb7 k7 f7 c1 m0 m1 m2
                        go_wp2_with fail
                        go_roundw
                        case rel => exact ⟨t + 1, row9.set t true, by omega, by go_num, hYn, hrn, hbn⟩
                        case measure => simp [intOf]; omega
                    | false =>
                      go_region_law
                        (first
                          | (go_simp
                             go_at_call 100
                             (with_reducible refine (CA _ (HRm.out.below (Below.refl _ _).drew) (HXm.out.below (Below.refl _ _).drew)).mono ?_)
                             rintro e w7 ⟨rfl, hb7⟩
                             have q7 := below_next (Below.refl _ _).drew hb7
                             have c1 := (q7.cell (p := ⟨p9, u, none⟩) z3).trans k9
                             have hb9' := (q7.block _ z5).trans HG9.out
                             obtain ⟨z7, k7, f7, _⟩ := BlkB.at_ (show BlkB w7 g9 row9 from hb9') (k := t) (by rw [HLEN.out]; exact hts)
                             dsimp only)
                          | fail)
                      all_goals
                        have hb0 : wo.heap.size ≤ g9 := (hY.out.2.2.2 u g9 row9 HE9.out HL9.out).1
                        have hYn := Lib.hid ((hY.out.below q7).set_ HE9.out HL9.out t false)
                        rw [HS.out] at hYn
                        have hbn := Lib.hid ((below_next hbw.out q7).setCell (p := ⟨g9, t, none⟩) hb0 (.bool false))
                        have hrn := Lib.hid (HF.out false hnew.out)
                        clear hY hbw hb0 HF hMy HXm HRm CA q7 hb7 k7 f7 c1 m0 m1 m2
                        go_wp2_with fail
                        go_roundw
                        case rel => exact ⟨t + 1, row9.set t false, by omega, by go_num, hYn, hrn, hbn⟩
                        case measure => simp [intOf]; omega
                · have hts' : decide ((t : Int) < s) = false := decide_eq_false (by omega)
                  obtain rfl : t = s := by omega
                  have hval2 : Hid (∀ s' t', s' < u + 1 → t' < t → ((L ++ [row])[s']?.getD [])[t']? = some (prd (Mc.rnd m (r + 1)) s' t')) := fun s' t' h1 h2 => by
                    rcases Nat.lt_or_ge s' u with h3 | h3
                    · rw [List.getElem?_append_left (by have := hLL.out; omega)]
                      exact hval.out s' t' h3 h2
                    · obtain rfl : s' = u := by omega
                      rw [List.getElem?_append_right (by have := hLL.out; omega), hLL.out, Nat.sub_self]
                      exact hrow.out t' h2
                  go_wp2_with fail
                  go_roundw
                  case rel => exact ⟨u + 1, gs1, _, by omega, by go_num, hgl5, hY, hval2, hbw⟩
                  case measure => simp [intOf]; omega
            · have hus' : decide ((u : Int) < s) = false := decide_eq_false (by omega)
              obtain rfl : u = s := by omega
              obtain ⟨X9, q9, rfl, hx9⟩ := hY.out.rd hgl9.out (f := prd (Mc.rnd m (r + 1))) (fun s' t' h1 h2 => hval.out s' t' h1 h2)
              have HX9 := Lib.hid hx9
              have hM9 := Lib.hid (show BxM wr w.heap.size i o A u c from hM.out.mvB hbw.out)
              have hb9 := Lib.hid (below_next hbr.out hbw.out)
              clear hx9 hY hval
              go_wp2_with fail
              go_roundw
              case rel => exact ⟨r + 1, X9, q9, by omega, by go_num, rfl, HX9, hM9, hb9⟩
              case measure => simp [intOf]; omega
        · have hrk' : decide ((r : Int) < k) = false := decide_eq_false (by omega)
          obtain rfl : r = k := by omega
          go_wp2_with fail
          go_ret
          exact ⟨X, q, rfl, hX.out, hbr.out⟩
end Go.Proofs.Ytiamkkgnjobljaa

namespace Go.Proofs.Ytiamkkgnjobljaa
open Go.RowKit
open Mc (Ed Ma)

set_option maxRecDepth 100000 in
theorem rrounds_any (m : Ma) (i k : Nat) (o : Int) (A : Option Addr) (n c : Nat) (w : World) (v : Mc.Val m) (hi : m.i = i) (hn : m.r.length = n) (hr : RdR w A m.r) (hk6 : k ≤ 1000000) :
    Calls Try.prog 93 #[.agg #[.int .i64 i, .int .i64 o, .slice A n c], .int .i64 k] w fun e w' => ∃ B q, e = .returned (.slice B n q) ∧ Rd w' B (Mc.rnd m k) ∧ Below w.heap.size w w' := by
  have EB : Below w.heap.size w (boxM w i o A n c) := (Below.refl _ _).alloc (Nat.le_refl _) _
  have C1 := marked_any m i k o A n c _ v hi hn (hr.below EB) hk6
  obtain ⟨m0, m1, m2⟩ := BxM.cells (BxM.new w i o A n c)
  have HB := Lib.hid EB
  have hrl := Lib.hid (Mc.rnd_len m k)
  have hn64 : n ≤ 64 := by have := v.r1; omega
  have HN := Lib.hid hn
  clear EB v hi hn hr
  go_enter Try.func93, Try.ntmps93
  go_wp2_with fail
  refine C1.mono ?_
  rintro e w1 ⟨X, q, rfl, hx, hb1⟩
  clear C1 m0 m1 m2
  have hbF := Lib.hid (below_next HB.out hb1)
  have C2 := partition_any X n q (Mc.rnd m k) w1 hx (Mc.rnd_vd m k) (by rw [hrl.out]; exact HN.out) hn64
  clear hx hb1
  go_wp2_with fail
  refine C2.mono ?_
  rintro e w2 ⟨B, q2, rfl, hrd, hb2⟩
  go_wp2_with fail
  go_ret
  exact ⟨B, q2, rfl, hrd, below_next hbF.out hb2⟩
end Go.Proofs.Ytiamkkgnjobljaa

namespace Go.Proofs.Ytiamkkgnjobljaa
open Go.RowKit
open Mc (Ed Ma)

set_option maxRecDepth 100000 in
theorem rclasses_any (m : Ma) (i : Nat) (o : Int) (A : Option Addr) (n c : Nat) (w : World) (v : Mc.Val m) (hi : m.i = i) (hn : m.r.length = n) (hr : RdR w A m.r) :
    Calls Try.prog 78 #[.agg #[.int .i64 i, .int .i64 o, .slice A n c]] w fun e w' => ∃ B q, e = .returned (.slice B n q) ∧ Rd w' B (Mc.cls m) ∧ Below w.heap.size w w' := by
  have EB : Below w.heap.size w (boxM w i o A n c) := (Below.refl _ _).alloc (Nat.le_refl _) _
  have h1 := v.r0
  have h64 := v.r1
  have C1 := rrounds_any m i n o A n c _ v hi hn (hr.below EB) (by omega)
  rw [show Mc.rnd m n = Mc.cls m by rw [← hn]; exact Mc.cls_all (by omega)] at C1
  obtain ⟨m0, m1, m2⟩ := BxM.cells (BxM.new w i o A n c)
  have HB := Lib.hid EB
  clear EB v hi hn hr
  go_enter Try.func78, Try.ntmps78
  go_wp2_with fail
  refine C1.mono ?_
  rintro e w1 ⟨X, q, rfl, hx, hb1⟩
  go_wp2_with fail
  go_ret
  exact ⟨X, q, rfl, hx, below_next HB.out hb1⟩
end Go.Proofs.Ytiamkkgnjobljaa
