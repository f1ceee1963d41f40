/-
  Contract: the reference's less and Access. No statement is proved here.
-/
import Derived.Test.YtldpfbmkmehadaaSWk2
namespace Go.Proofs.Ytldpfbmkmehadaa
open Go.RowKit
open Mc (Ed Ma)

/-- Whether a word comes before another one. -/
def M.le1 (x y : List Int) : Int := if M.cmp x y = -1 then 1 else 0
theorem M.le1_yes {x y : List Int} (h : M.cmp x y = -1) : M.le1 x y = 1 := if_pos h
theorem M.le1_no {x y : List Int} (h : M.cmp x y = 1 ∨ M.cmp x y = 0) : M.le1 x y = 0 := if_neg (by omega)
set_option maxHeartbeats 400000 in
theorem less_loop (A B : Option Addr) (c d : Nat) (x y : List Int) (w : World) (hx : Rd w A x) (hy : Rd w B y) (h1 : x.length = y.length) (hm : x.length ≤ 9223372036854775807) :
    Calls Try.prog 58 #[.slice A x.length c, .slice B y.length d] w fun e w' => e = .returned (.int .i64 (M.le1 x y)) ∧ Below w.heap.size w w' := by
  have H1 := Lib.hid h1
  have h2 : (x.length : Int) = y.length := by omega
  clear h1
  go_enter Try.func58, Try.ntmps58
  go_wp2
  clear h2
  go_loopw [5] (fun i wr => ∃ k : Nat, k ≤ x.length ∧ i = .int .i64 k ∧ Hid (x.take k = y.take k) ∧ Below w.heap.size w wr) (fun i _ => x.length - (intOf i).toNat)
  case atStart => exact ⟨0, Nat.zero_le _, rfl, by simp [Hid], Below.refl _ _⟩
  case round =>
    obtain ⟨k, hk, rfl, hn, hbr⟩ := hrel
    by_cases hlt : k < x.length
    · obtain ⟨b, off, z, rfl, hb, hc, hz⟩ := (hx.below hbr).at_ hlt
      obtain ⟨b2, off2, z2, rfl, hb2, hc2, hz2⟩ := (hy.below hbr).at_ (k := k) (by have := H1.out; omega)
      have hk2 : (k : Int) < y.length := by have := H1.out; omega
      rcases Int.lt_trichotomy z z2 with hzz | hzz | hzz
      · have hfin : Hid (M.le1 x y = 1) := M.le1_yes (M.cmp_lt H1.out hlt hn.out (by rw [hz.out, hz2.out]; exact hzz))
        have hne : ¬ z = z2 := by omega
        go_wp2
        go_quiet (fail)
        go_wp2
        go_quiet (fail)
        go_wp2
        go_ret
        exact ⟨ret_int hfin.out.symm, below_drewN' (below_drewN' hbr _) _⟩
      · subst hzz
        have hn' : Hid (x.take (k + 1) = y.take (k + 1)) := M.take_snoc_eq hlt (by omega) hn.out (by rw [hz.out, hz2.out])
        go_wp2
        go_quiet (fail)
        go_wp2
        go_roundw
        case rel => exact ⟨k + 1, by omega, by go_num, hn', below_drewN' hbr _⟩
        case measure => simp [intOf] <;> omega
      · have hfin : Hid (M.le1 x y = 0) := M.le1_no (Or.inl (M.cmp_gt H1.out hlt hn.out (by rw [hz.out, hz2.out]; exact hzz)))
        have hne : ¬ z = z2 := by omega
        go_wp2
        go_quiet (fail)
        go_wp2
        go_quiet (fail)
        go_wp2
        go_ret
        exact ⟨ret_int hfin.out.symm, below_drewN' (below_drewN' hbr _) _⟩
    · have hfin : Hid (M.le1 x y = 0) := M.le1_no (Or.inr (M.cmp_end (by omega) (by have := H1.out; omega) hn.out))
      go_wp2
      go_ret
      exact ⟨ret_int hfin.out.symm, hbr⟩
theorem less_any (A B : Option Addr) (c d : Nat) (x y : List Int) (w : World) (hx : Rd w A x) (hy : Rd w B y) (hm : x.length ≤ 9223372036854775807) :
    Calls Try.prog 58 #[.slice A x.length c, .slice B y.length d] w fun e w' => e = .returned (.int .i64 (M.le1 x y)) ∧ Below w.heap.size w w' := by
  rcases Nat.lt_trichotomy x.length y.length with h | h | h
  · have hf : Hid (M.le1 x y = 1) := M.le1_yes (M.cmp_short h)
    have hne : ¬ (x.length : Int) = y.length := by omega
    go_enter Try.func58, Try.ntmps58
    go_wp2
    go_ret
    exact ⟨ret_int hf.out.symm, Below.refl _ _⟩
  · exact less_loop A B c d x y w hx hy h hm
  · have hf : Hid (M.le1 x y = 0) := M.le1_no (Or.inl (M.cmp_long h))
    have hne : ¬ (x.length : Int) = y.length := by omega
    go_enter Try.func58, Try.ntmps58
    go_wp2
    go_ret
    exact ⟨ret_int hf.out.symm, Below.refl _ _⟩
/-- Less is less in rank. -/
theorem M.le1_rk {n : Int} (hn : 1 ≤ n) {x y : List Int} (hx : M.Val n x) (hy : M.Val n y) : (M.le1 x y = 1 ↔ M.rk n x < M.rk n y) := by
  unfold M.le1
  rw [M.rk_cmp hn hx hy]
  by_cases h : M.rk n x < M.rk n y
  · rw [M.sgn_lt h, if_pos rfl]
    exact ⟨fun _ => h, fun _ => rfl⟩
  · have h2 : ¬ M.sgn (M.rk n x) (M.rk n y) = -1 := by
      unfold M.sgn
      rw [if_neg h]
      split <;> decide
    rw [if_neg h2]
    exact ⟨fun e => absurd e (by decide), fun e => absurd e h⟩
set_option maxHeartbeats 1000000 in
/-- Access. -/
theorem access_any (m : Ma) (A : Option Addr) (c : Nat) (w : World) (v : Mc.Val m) (hr : RdR w A m.r) :
    Calls Try.prog 13 #[.agg #[.int .i64 m.i, .int .i64 m.o, .slice A m.r.length c]] w (Pths w m 0) := by
  have h0 := v.r0
  have hb0 : Below (w.heap.size + 1) (boxM w m.i m.o A m.r.length c) (boxM w m.i m.o A m.r.length c) := Below.refl _ _
  have C := paths_any m 0 A c (boxM w m.i m.o A m.r.length c) v (hr.below (box_below hb0)) ⟨by omega, by omega⟩
  clear v h0
  go_enter Try.func13, Try.ntmps13
  go_wp2_with fail
  refine C.mono ?_
  rintro e w1 ⟨g1, g2, n, base, l, is, rfl, hn, hW, hB, hP, hg, hb⟩
  go_wp2
  go_ret2
  exact ⟨g1, g2, n, base, l, is, rfl, hn, hW, hB, hP, ⟨by have := hg.out; simp at this; omega, hg.out.2.1, by have := hg.out; simp at this; omega, hg.out.2.2.2⟩, box_below (hb.mono (by simp))⟩
end Go.Proofs.Ytldpfbmkmehadaa
