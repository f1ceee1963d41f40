/-
  Contracts: Check of a list of words, and what it calls. No statement is proved here.
-/
import Derived.Test.YtjodhihcckcefaaW2
import Derived.Test.YtjodhihcckcefaaW8
import Derived.Test.YtjodhihcckcefaaUmM
import Derived.Deep.RegionHeld3
import Derived.Deep.CutRange
namespace Go.Proofs.Ytjodhihcckcefaa
open Go.RowKit

theorem cinputs_any (n : Int) (w : World) : Calls Try.prog 72 #[.int .i64 n] w fun e w' => e = .returned (.int .i64 (if 16 < n then 3 else if n < 1 then 1 else 0)) ∧ w' = w := by
  by_cases h1 : 16 < n
  · have h1d : decide ((16 : Int) < n) = true := decide_eq_true h1
    rw [if_pos h1]
    go_enter Try.func72, Try.ntmps72
    go_wp2
    go_ret
    exact ⟨rfl, rfl⟩
  · have h1d : decide ((16 : Int) < n) = false := decide_eq_false h1
    rw [if_neg h1]
    by_cases h2 : n < 1
    · have h2d : decide (n < 1) = true := decide_eq_true h2
      rw [if_pos h2]
      go_enter Try.func72, Try.ntmps72
      go_wp2
      go_ret
      exact ⟨rfl, rfl⟩
    · have h2d : decide (n < 1) = false := decide_eq_false h2
      rw [if_neg h2]
      go_enter Try.func72, Try.ntmps72
      go_wp2
      go_ret
      exact ⟨rfl, rfl⟩
set_option maxRecDepth 100000 in
set_option maxHeartbeats 1000000 in
theorem cwords_any (L : Option Addr) (c N : Nat) (rows : List (List Int)) (n : Int) (w : World) (h : RdS w L rows) (hN : rows.length = N) (hm : N ≤ 9223372036854775807) :
    Calls Try.prog 54 #[.slice L N c, .int .i64 n] w fun e w' => e = .returned (.int .i64 (M.cwE rows n)) ∧ Below w.heap.size w w' := by
  obtain ⟨R, hR⟩ : ∃ R, M.cwE rows n = R := ⟨_, rfl⟩
  rw [hR]
  have HR := Lib.hid hR
  have HN := Lib.hid hN
  have HH := Lib.hid h
  clear hR hN h
  by_cases h0 : 4096 < N
  · have h0d : decide ((4096 : Int) < N) = true := decide_eq_true (by omega)
    have h0i : (4096 : Int) < N := by omega
    obtain rfl : R = 3 := by rw [← HR.out]; unfold M.cwE; rw [if_pos (by rw [HN.out]; exact h0)]
    go_enter Try.func54, Try.ntmps54
    go_wp2
    go_ret
    exact ⟨rfl, Below.refl _ _⟩
  have h0d : decide ((4096 : Int) < N) = false := decide_eq_false (by omega)
  have h0i : ¬ (4096 : Int) < N := by omega
  obtain ⟨E, hE⟩ : ∃ E : Int, (if 16 < n then 3 else if n < 1 then 1 else 0) = E := ⟨_, rfl⟩
  have CI := cinputs_any n w
  rw [hE] at CI
  by_cases hz : E = 0
  · subst hz
    have hn : ¬ 16 < n ∧ ¬ n < 1 := by
      constructor
      · intro h; rw [if_pos h] at hE; cases hE
      · intro h
        by_cases h1 : 16 < n
        · rw [if_pos h1] at hE; cases hE
        · rw [if_neg h1, if_pos h] at hE; cases hE
    have HR2 : Hid (R = M.ferr n rows) := by
      show _ = _
      rw [← HR.out]
      unfold M.cwE
      rw [if_neg (by rw [HN.out]; exact h0), if_neg hn.1, if_neg hn.2]
    clear hE HR hn h0
    go_enter Try.func54, Try.ntmps54
    go_wp2_with fail
    refine CI.mono ?_
    rintro e w' ⟨rfl, rfl⟩
    clear CI h0d h0i
    go_wp2
    go_loopw [19] (fun v wr => ∃ k : Nat, k ≤ N ∧ v = .int .i64 k ∧ Hid (M.ferr n (rows.take k) = 0) ∧ Hid (Below w'.heap.size w' wr)) (fun v _ => N - (intOf v).toNat)
    case atStart => exact ⟨0, Nat.zero_le _, rfl, rfl, Below.refl _ _⟩
    case round =>
      obtain ⟨k, hk, rfl, hf, hb⟩ := hrel
      by_cases hlt : k < N
      · have hlti : (k : Int) < N := by omega
        have hkl : k < rows.length := by rw [HN.out]; exact hlt
        obtain ⟨b, off, A, cc, m, rfl, _, hc, hrd, hml⟩ := (HH.out.below hb.out).at_ hkl
        by_cases hq : M.check (M.row rows k) n = 0
        · have hN2 : Hid (M.ferr n (rows.take (k + 1)) = 0) := M.ferr_snoc hkl hf.out hq
          have HQ := Lib.hid hq
          clear hq hf
          go_wp2_with fail
          refine (check_at _ _ _ _ _ _ hrd hml.out).mono ?_
          rintro e w1 ⟨rfl, hb1⟩
          rw [HQ.out]
          have HB := Lib.hid (below_next hb.out hb1)
          clear hb hb1 hc hrd
          go_wp2
          go_roundw
          case rel => exact ⟨k + 1, by omega, by go_num, hN2, HB⟩
          case measure => simp [intOf]; omega
        · obtain ⟨q, hqq⟩ : ∃ q, M.check (M.row rows k) n = q := ⟨_, rfl⟩
          have hq0 : q ≠ 0 := by rw [← hqq]; exact hq
          obtain rfl : R = q := by rw [HR2.out]; exact M.ferr_hit hkl hf.out hqq hq0
          have HQ := Lib.hid hqq
          have hq1 : (R != 0) = true := by simpa using hq0
          clear hqq hq hq0 hf HR2
          go_wp2_with fail
          refine (check_at _ _ _ _ _ _ hrd hml.out).mono ?_
          rintro e w1 ⟨rfl, hb1⟩
          rw [HQ.out]
          have HB := Lib.hid (below_next hb.out hb1)
          clear hb hb1 hc hrd
          go_wp2
          go_ret
          exact ⟨rfl, HB.out⟩
      · have hlti : ¬ (k : Int) < N := by omega
        obtain rfl : R = 0 := by
          have := hf.out
          rw [List.take_of_length_le (by rw [HN.out]; omega)] at this
          rw [HR2.out, this]
        clear hf HR2
        go_wp2
        go_ret
        exact ⟨rfl, hb.out⟩
  · have hz1 : (E != 0) = true := by simpa using hz
    obtain rfl : R = E := by
      rw [← HR.out, ← hE]
      unfold M.cwE
      rw [if_neg (by rw [HN.out]; exact h0)]
      by_cases h1 : 16 < n
      · rw [if_pos h1, if_pos h1]
      · rw [if_neg h1, if_neg h1]
        by_cases h2 : n < 1
        · rw [if_pos h2, if_pos h2]
        · rw [if_neg h1, if_neg h2] at hE
          exact absurd hE.symm hz
    clear hE HR h0 hz
    go_enter Try.func54, Try.ntmps54
    go_wp2_with fail
    refine CI.mono ?_
    rintro e w' ⟨rfl, rfl⟩
    go_wp2
    go_ret
    exact ⟨rfl, Below.refl _ _⟩
theorem wcmp_at (A B : Option Addr) (m n c d : Nat) (x y : List Int) (w : World) (hx : Rd w A x) (hy : Rd w B y) (h1 : x.length = m) (h2 : y.length = n) (hm : m ≤ 9223372036854775807) :
    Calls Try.prog 79 #[.slice A m c, .slice B n d] w fun e w' => e = .returned (.int .i64 (M.cmp x y)) ∧ Below w.heap.size w w' := by
  subst h1 h2
  exact wcmp_any A B c d x y w hx hy hm
set_option maxRecDepth 100000 in
set_option maxHeartbeats 1000000 in
theorem ascending_any (L : Option Addr) (c N : Nat) (rows : List (List Int)) (w : World) (h : RdS w L rows) (hN : rows.length = N) (hm : N ≤ 1000000) (hall : ∀ x ∈ rows, x.length ≤ 1000000) (R : Bool) (hR : R = true ↔ M.asc rows) :
    Calls Try.prog 55 #[.slice L N c] w fun e w' => e = .returned (.bool R) ∧ Below w.heap.size w w' := by
  have HR := Lib.hid hR
  have HN := Lib.hid hN
  have HH := Lib.hid h
  have HA := Lib.hid hall
  clear hR hN h hall
  go_enter Try.func55, Try.ntmps55
  go_wp2
  go_loopw [3] (fun v wr => ∃ j : Nat, (j < N ∨ j = 0) ∧ v = .int .i64 (j + 1) ∧ Hid (M.adj rows (j + 1)) ∧ Hid (Below w.heap.size w wr)) (fun v _ => N - (intOf v).toNat)
  case atStart => exact ⟨0, Or.inr rfl, rfl, fun j hj => by omega, Below.refl _ _⟩
  case round =>
    obtain ⟨j, hj, rfl, ha, hb⟩ := hrel
    by_cases hlt : j + 1 < N
    · have hlti : (j : Int) + 1 < N := by omega
      obtain ⟨b, off, A, ca, m, rfl, hbl, hc, hrd, hml⟩ := (HH.out.below hb.out).at_ (k := j) (by rw [HN.out]; omega)
      obtain ⟨b', off', A', ca', m', hLe, _, hc', hrd', hml'⟩ := (HH.out.below hb.out).at_ (k := j + 1) (by rw [HN.out]; omega)
      injection hLe with hLe
      injection hLe with hL1 hL2 _
      subst hL1 hL2
      have hmb : m ≤ 9223372036854775807 := by
        have := HA.out _ (M.row_mem (l := rows) (k := j) (by rw [HN.out]; omega))
        rw [hml.out] at this
        omega
      have hw1 : IntKind.i64.wrap (j : Int) = j := IntWalk.i64_in _ (by omega)
      have hj1 : (j : Int) < N := by omega
      have h00 : (0 : Int) ≤ (j : Int) := by omega
      have h01 : (0 : Int) ≤ (j : Int) + 1 := by omega
      have hw2 : IntKind.i64.wrap ((j : Int) + 1 - 1) = j := by rw [show ((j : Int) + 1 - 1) = j by omega]; exact hw1
      have HC := Lib.hid (fun wr (hbr : Below wr.heap.size wr wr) => hbr)
      have C1 : Hid (∀ wx, Below wr.heap.size wr wx → Calls Try.prog 79 #[.slice A m ca, .slice A' m' ca'] wx fun e w' => e = .returned (.int .i64 (M.cmp (M.row rows j) (M.row rows (j + 1)))) ∧ Below wx.heap.size wx w') := fun wx hbx => wcmp_at A A' m m' ca ca' _ _ wx (hrd.below hbx) (hrd'.below hbx) hml.out hml'.out hmb
      obtain ⟨q, hq⟩ : ∃ q, M.cmp (M.row rows j) (M.row rows (j + 1)) = q := ⟨_, rfl⟩
      rw [hq] at C1
      have HQ := Lib.hid hq
      have hqr : q = -1 ∨ q = 0 ∨ q = 1 := by rw [← hq]; exact M.cmp_range _ _
      have hc2 : wr.cell? ⟨b, off + (j + 1), none⟩ = some (.slice A' m' ca') := hc'
      have HD : Hid (Below wr.heap.size wr wr.drew) := (Below.refl _ _).drew
      have sD : wr.drew.cell? ⟨b, off + j, none⟩ = some (.slice A m ca) ∧ wr.drew.cell? ⟨b, off + (j + 1), none⟩ = some (.slice A' m' ca') := ⟨hc, hc'⟩
      have s0 : wr.cell? ⟨b, off + j, none⟩ = some (.slice A m ca) ∧ wr.cell? ⟨b, off + (j + 1), none⟩ = some (.slice A' m' ca') := ⟨hc, hc'⟩
      have HS : ∀ wx, Below wr.heap.size wr wx → wx.cell? ⟨b, off + j, none⟩ = some (.slice A m ca) ∧ wx.cell? ⟨b, off + (j + 1), none⟩ = some (.slice A' m' ca') := fun wx hbx => ⟨(hbx.cell (p := ⟨b, off + j, none⟩) hbl).trans hc, (hbx.cell (p := ⟨b, off + (j + 1), none⟩) hbl).trans hc'⟩
      clear hq hc' hrd hrd' HC
      by_cases hq0 : 0 ≤ q
      · have hq0d : decide (0 ≤ q) = true := decide_eq_true hq0
        obtain rfl : R = false := by
          cases hRR : R with
          | false => rfl
          | true =>
            exfalso
            have h9 := M.asc_adj.2 (HR.out.1 hRR) j (by rw [HN.out]; exact hlt)
            rw [HQ.out] at h9
            omega
        clear hqr hq0
        go_wp2_with fail
        go_region_held3 (fun wx => wx.cell? ⟨b, off + j, none⟩ = some (.slice A m ca) ∧ wx.cell? ⟨b, off + (j + 1), none⟩ = some (.slice A' m' ca'))
          (first | (with_reducible exact s1) | (with_reducible exact s0) | (with_reducible exact sD) | go_keep)
          (first
            | (go_at_call 79
               (with_reducible refine (C1.out _ HD.out).mono ?_)
               rintro e z1 ⟨rfl, hz1⟩
               have t1 := Lib.hid (below_next HD.out hz1)
               have s1 := HS _ t1.out
               dsimp only)
            | fail)
        have HF := Lib.hid (below_next hb.out t1.out)
        go_wp2
        go_ret
        exact ⟨rfl, HF.out⟩
      · have hq0d : decide (0 ≤ q) = false := decide_eq_false hq0
        have hN2 : Hid (M.adj rows (j + 1 + 1)) := M.adj_next ha.out (by rw [HQ.out]; omega)
        clear hqr hq0
        go_wp2_with fail
        go_region_held3 (fun wx => wx.cell? ⟨b, off + j, none⟩ = some (.slice A m ca) ∧ wx.cell? ⟨b, off + (j + 1), none⟩ = some (.slice A' m' ca'))
          (first | (with_reducible exact s1) | (with_reducible exact s0) | (with_reducible exact sD) | go_keep)
          (first
            | (go_at_call 79
               (with_reducible refine (C1.out _ HD.out).mono ?_)
               rintro e z1 ⟨rfl, hz1⟩
               have t1 := Lib.hid (below_next HD.out hz1)
               have s1 := HS _ t1.out
               dsimp only)
            | fail)
        have HF := Lib.hid (below_next hb.out t1.out)
        clear s0 s1 sD HS t1 hz1 hc hc2
        go_wp2
        go_roundw
        case rel => exact ⟨j + 1, Or.inl hlt, by go_num, hN2, HF⟩
        case measure => simp [intOf]; omega
    · have hlti : ¬ (j : Int) + 1 < N := by omega
      obtain rfl : R = true := by
        refine HR.out.2 (M.asc_adj.1 fun i hi => ha.out i ?_)
        rw [HN.out] at hi
        omega
      go_wp2
      go_ret
      exact ⟨rfl, hb.out⟩
end Go.Proofs.Ytjodhihcckcefaa
