/-
  Contracts: classes.Count, classes.Check, the reference's Count.
-/
import Derived.Test.YtnhibkkkpmaddaaDoorProg
import Derived.Test.YtnhibkkkpmaddaaDoorBase
import Derived.Test.YtnhibkkkpmaddaaDoorRefM
import Derived.Outline
import Derived.Deep.LoopGhost
import Derived.Deep.QuietTactic
import Derived.BigQuiet
namespace Go.Proofs.YtnhibkkkpmaddaaDoor
open Go.RowKit

namespace M
/-- What Count returns. -/
def cntV (p : List Int) : Int := if pck p = 0 then cnt p else 0
theorem cntV_err {p : List Int} {q : Int} (h : pck p = q) (h1 : q ≠ 0) : cntV p = 0 := by rw [cntV, if_neg (by omega)]
theorem cntV_ok {p : List Int} (h : pck p = 0) : cntV p = cnt p := by rw [cntV, if_pos h]
end M
theorem ret_two {a b c d : Int} (h1 : a = c) (h2 : b = d) : Ending.returned (.tuple #[.int .i64 a, .int .i64 b]) = .returned (.tuple #[.int .i64 c, .int .i64 d]) := by rw [h1, h2]

set_option maxHeartbeats 400000 in
theorem count_any (A : Option Addr) (c : Nat) (zs : List Int) (w : World) (h : Rd w A zs) :
    Calls Tryd.prog 12 #[.slice A zs.length c] w fun e w' => e = .returned (.tuple #[.int .i64 (M.cntV zs), .int .i64 (M.pck zs)]) ∧ Below w.heap.size w w' := by
  by_cases h1 : 256 < zs.length
  · have hf : Hid (M.pck zs = 3) := M.pck_limit h1
    go_enter Tryd.func12, Tryd.ntmps12
    go_wp2
    go_ret2
    exact ⟨ret_two (M.cntV_err hf.out (by omega)).symm hf.out.symm, Below.refl _ _⟩
  · go_enter Tryd.func12, Tryd.ntmps12
    go_wp2
    go_loop [4, 12] (fun d i => ∃ k m : Nat, k ≤ zs.length ∧ i = .int .i64 k ∧ d = .int .i64 m ∧ m ≤ k ∧ Hid (M.cnt (zs.take k) = m) ∧ Hid (M.Vd (zs.take k))) (fun _ i => zs.length - (intOf i).toNat)
    case atStart => exact ⟨0, 0, Nat.zero_le _, rfl, rfl, Nat.zero_le _, by simp [Hid, M.cnt_nil], M.Vd.nil_⟩
    case round =>
      obtain ⟨k, m, hk, rfl, rfl, hmk, hm, hv⟩ := hrel
      by_cases hlt : k < zs.length
      · obtain ⟨b, off, z, rfl, hb, hc, hz⟩ := h.at_ hlt
        have hz : Hid (M.gz zs k = z) := hz
        by_cases hbad : z < 0 ∨ (m : Int) < z
        · have hp : Hid (M.pck zs = 1) := M.pck_arg (by omega) (M.cnt_bad hlt hv.out (by rw [hz.out, hm.out]; exact hbad))
          rcases hbad with h2 | h2
          · go_wp2
            go_ret2
            exact ⟨ret_two (M.cntV_err hp.out (by omega)).symm hp.out.symm, Below.refl _ _⟩
          · have h3 : ¬ z < 0 := by omega
            go_wp2
            go_ret2
            exact ⟨ret_two (M.cntV_err hp.out (by omega)).symm hp.out.symm, Below.refl _ _⟩
        · have h2 : ¬ z < 0 := by omega
          have h3 : ¬ (m : Int) < z := by omega
          have hv' : Hid (M.Vd (zs.take (k + 1))) := M.cnt_good hlt hv.out (by rw [hz.out]; omega) (by rw [hz.out, hm.out]; omega)
          by_cases he : z = m
          · subst he
            have hm' : Hid (M.cnt (zs.take (k + 1)) = m + 1) := by
              have := hv.out.cnt_next (z := (m : Int)) (by rw [hm.out])
              rw [← hz.out, ← M.take_gz hlt, hm.out] at this
              exact this
            clear hbad hm hv
            go_wp2
            go_round
            case rel => exact ⟨k + 1, m + 1, by omega, by go_num, by go_num, by omega, hm', hv'⟩
            case measure => simp [intOf]; omega
          · have hm' : Hid (M.cnt (zs.take (k + 1)) = m) := by
              have := hv.out.cnt_same (z := z) (by omega) (by rw [hm.out]; omega)
              rw [← hz.out, ← M.take_gz hlt, hm.out] at this
              exact this
            clear hbad hm hv
            go_wp2
            go_round
            case rel => exact ⟨k + 1, m, by omega, by go_num, rfl, by omega, hm', hv'⟩
            case measure => simp [intOf]; omega
      · have hk2 : zs.take k = zs := List.take_of_length_le (by omega)
        have hv := hv.out
        have hm := hm.out
        rw [hk2] at hv hm
        have hf : Hid (M.pck zs = 0) := M.pck_ok (by omega) hv
        have hc : Hid (M.cntV zs = m) := by rw [Hid, M.cntV_ok hf.out, hm]
        clear hv hm hk2
        go_wp2
        go_ret2
        exact ⟨ret_two hc.out.symm hf.out.symm, Below.refl _ _⟩

theorem check_any (A : Option Addr) (c : Nat) (zs : List Int) (w : World) (h : Rd w A zs) :
    Calls Tryd.prog 11 #[.slice A zs.length c] w fun e w' => e = .returned (.int .i64 (M.pck zs)) ∧ Below w.heap.size w w' := by
  go_enter Tryd.func11, Tryd.ntmps11
  go_wp2_with fail
  refine (count_any _ _ _ _ h).mono ?_
  rintro e w1 ⟨rfl, hb1⟩
  go_wp2
  go_ret
  exact ⟨rfl, hb1⟩

theorem Rd.cl {w : World} {b off : Nat} {zs : List Int} (h : Rd w (some ⟨b, off, none⟩) zs) {k : Nat} (hk : k < zs.length) : ∃ z, b < w.heap.size ∧ w.cell? ⟨b, off + k, none⟩ = some (.int .i64 z) ∧ Hid (M.gz zs k = z) := by
  obtain ⟨b', off', e, hb, hc⟩ := h (by omega)
  injection e with e
  injection e with e1 e2
  subst e1 e2
  exact ⟨_, hb, hc k hk, rfl⟩
theorem Rd.opn {w : World} {A : Option Addr} {zs : List Int} (h : Rd w A zs) (hp : 0 < zs.length) : ∃ b off, A = some ⟨b, off, none⟩ := by
  obtain ⟨b, off, e, _, _⟩ := h hp
  exact ⟨b, off, e⟩

set_option maxHeartbeats 400000 in
theorem rcount_any (A : Option Addr) (c : Nat) (zs : List Int) (w : World) (h : Rd w A zs) (hv : M.Vd zs) (hm : zs.length ≤ 1000) :
    Calls Tryd.prog 22 #[.slice A zs.length c] w fun e w' => e = .returned (.int .i64 (M.cnt zs)) ∧ Below w.heap.size w w' := by
  have HV := Lib.hid hv
  clear hv
  go_enter Tryd.func22, Tryd.ntmps22
  go_wp2
  go_loopw [3, 4] (fun d i wr => ∃ k m : Nat, k ≤ zs.length ∧ i = .int .i64 k ∧ d = .int .i64 m ∧ m ≤ k ∧ Hid (M.cnt (zs.take k) = m) ∧ Below w.heap.size w wr) (fun _ i _ => zs.length - (intOf i).toNat)
  case atStart => exact ⟨0, 0, Nat.zero_le _, rfl, rfl, Nat.zero_le _, by simp [Hid, M.cnt_nil], Below.refl _ _⟩
  case round =>
    obtain ⟨k, m, hk, rfl, rfl, hmk, hm, hbr⟩ := hrel
    by_cases hlt : k < zs.length
    · obtain ⟨b, off, rfl⟩ := h.opn (by omega)
      obtain ⟨z, hb, hc, hz⟩ := (h.below hbr).cl hlt
      by_cases he : (m : Int) ≤ z
      · have hm' := M.count_up HV.out hlt (by rw [hm.out, hz.out]; exact he)
        rw [hz.out] at hm'
        have hz0 := (M.vd_gz HV.out hlt)
        rw [hz.out] at hz0
        obtain ⟨hz0, hz1⟩ := hz0
        have hm2 : M.cnt (zs.take (k + 1)) ≤ k + 1 := M.cnt_take_le _ _
        obtain ⟨u, rfl⟩ : ∃ u : Nat, z = u := ⟨z.toNat, by omega⟩
        have hm3 : Hid (M.cnt (zs.take (k + 1)) = u + 1) := by rw [Hid]; omega
        clear hm hm'
        go_wp2
        go_roundw
        case rel => exact ⟨k + 1, u + 1, by omega, by go_num, by go_num, by have := hm3.out; omega, hm3, hbr⟩
        case measure => simp [intOf]; omega
      · have hm' : Hid (M.cnt (zs.take (k + 1)) = m) := (M.count_same HV.out hlt (by rw [hm.out, hz.out]; exact he)).trans hm.out
        clear hm
        go_wp2
        go_roundw
        case rel => exact ⟨k + 1, m, by omega, by go_num, rfl, by omega, hm', hbr⟩
        case measure => simp [intOf]; omega
    · have hk2 : zs.take k = zs := List.take_of_length_le (by omega)
      have hm := hm.out
      rw [hk2] at hm
      have hm := Lib.hid hm
      clear hk2
      go_wp2
      go_ret
      exact ⟨ret_int (by rw [hm.out]), hbr⟩
end Go.Proofs.YtnhibkkkpmaddaaDoor
