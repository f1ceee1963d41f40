/-
  Contracts: the reference: Loose, Steps, Check, Has, prefix. No statement is proved here.
-/
import Derived.Test.YtjodhihcckcefaaV1
import Derived.Test.YtjodhihcckcefaaU11
namespace Go.Proofs.Ytjodhihcckcefaa
open Go.RowKit Go.Maps

theorem vword_any (A : Option Addr) (m c : Nat) (w : World) : Calls Try.prog 51 #[.slice A m c] w fun e w' => e = .returned (.int .i64 (if 256 < m then 3 else 0)) ∧ w' = w := by
  by_cases h : 256 < m
  · have d1 : decide ((256 : Int) < m) = true := decide_eq_true (by omega)
    have d2 : (256 : Int) < m := by omega
    rw [if_pos h]
    go_enter Try.func51, Try.ntmps51
    go_wp2
    go_ret
    exact ⟨rfl, rfl⟩
  · have d1 : decide ((256 : Int) < m) = false := decide_eq_false (by omega)
    have d2 : ¬ (256 : Int) < m := by omega
    rw [if_neg h]
    go_enter Try.func51, Try.ntmps51
    go_wp2
    go_ret
    exact ⟨rfl, rfl⟩
set_option maxHeartbeats 400000 in
theorem vsym_loop (A : Option Addr) (c : Nat) (zs : List Int) (n : Int) (w : World) (h : Rd w A zs) (h2 : zs.length ≤ 256) :
    Calls Try.prog 52 #[.slice A zs.length c, .int .i64 n] w fun e w' => e = .returned (.int .i64 (M.badI n zs)) ∧ Below w.heap.size w w' := by
  go_enter Try.func52, Try.ntmps52
  go_wp2
  go_loop [5] (fun i => ∃ k : Nat, k ≤ zs.length ∧ i = .int .i64 k ∧ Hid ((zs.take k).any (M.badB n) = false)) (fun i => zs.length - (intOf i).toNat)
  case atStart => exact ⟨0, Nat.zero_le _, rfl, by simp [Hid]⟩
  case round =>
    obtain ⟨k, hk, rfl, hn⟩ := hrel
    by_cases hlt : k < zs.length
    · obtain ⟨b, off, z, rfl, hb, hc, hz⟩ := h.at_ hlt
      by_cases hbad : M.badB n z = true
      · have hfin : Hid (M.badI n zs = 1) := M.badI_hit hlt (by rw [hz.out]; exact hbad)
        rcases M.badB_true hbad with hz | hz
        · go_wp2
          go_ret
          exact ⟨ret_int hfin.out.symm, Below.refl _ _⟩
        · by_cases hz2 : z < 0
          all_goals
            go_wp2
            go_ret
            exact ⟨ret_int hfin.out.symm, Below.refl _ _⟩
      · obtain ⟨hz1, hz2⟩ := M.badB_false hbad
        have hn' : Hid ((zs.take (k + 1)).any (M.badB n) = false) := M.any_snoc hlt hn.out (by rw [hz.out]; simpa using hbad)
        clear hbad
        go_wp2
        go_round
        case rel => exact ⟨k + 1, by omega, by go_num, hn'⟩
        case measure => simp [intOf]; omega
    · go_wp2
      go_ret
      have : zs.take k = zs := List.take_of_length_le (by omega)
      have hn := hn.out
      rw [this] at hn
      exact ⟨ret_int (M.badI_clean hn).symm, Below.refl _ _⟩
theorem vsym_at (A : Option Addr) (m c : Nat) (zs : List Int) (n : Int) (w : World) (h : Rd w A zs) (hm : zs.length = m) (h2 : m ≤ 256) :
    Calls Try.prog 52 #[.slice A m c, .int .i64 n] w fun e w' => e = .returned (.int .i64 (M.badI n zs)) ∧ Below w.heap.size w w' := by
  subst hm
  exact vsym_loop A c zs n w h h2
set_option maxRecDepth 100000 in
set_option maxHeartbeats 1000000 in
theorem vloose_any (L : Option Addr) (c N : Nat) (rows : List (List Int)) (n : Int) (w : World) (h : RdS w L rows) (hN : rows.length = N) (hm : N ≤ 9223372036854775807) :
    Calls Try.prog 15 #[.slice L N c, .int .i64 n] w fun e w' => e = .returned (.int .i64 (M.cwE rows n)) ∧ Below w.heap.size w w' := by
  obtain ⟨R, hR⟩ : ∃ R, M.cwE rows n = R := ⟨_, rfl⟩
  rw [hR]
  have HR := Lib.hid hR
  have HN := Lib.hid hN
  have HH := Lib.hid h
  clear hR hN h
  by_cases h1 : 16 < n
  · have d1 : decide ((16 : Int) < n) = true := decide_eq_true h1
    obtain rfl : R = 3 := by
      rw [← HR.out]; unfold M.cwE
      by_cases h0 : 4096 < rows.length
      · rw [if_pos h0]
      · rw [if_neg h0, if_pos h1]
    go_enter Try.func15, Try.ntmps15
    go_wp2
    go_ret
    exact ⟨rfl, Below.refl _ _⟩
  have d1 : decide ((16 : Int) < n) = false := decide_eq_false h1
  by_cases h0 : 4096 < N
  · have h0d : decide ((4096 : Int) < N) = true := decide_eq_true (by omega)
    have h0i : (4096 : Int) < N := by omega
    obtain rfl : R = 3 := by rw [← HR.out]; unfold M.cwE; rw [if_pos (by rw [HN.out]; exact h0)]
    go_enter Try.func15, Try.ntmps15
    go_wp2
    go_ret
    exact ⟨rfl, Below.refl _ _⟩
  have h0d : decide ((4096 : Int) < N) = false := decide_eq_false (by omega)
  have h0i : ¬ (4096 : Int) < N := by omega
  by_cases h2 : n < 1
  · have d2 : decide (n < 1) = true := decide_eq_true h2
    obtain rfl : R = 1 := by rw [← HR.out]; unfold M.cwE; rw [if_neg (by rw [HN.out]; exact h0), if_neg h1, if_pos h2]
    go_enter Try.func15, Try.ntmps15
    go_wp2
    go_ret
    exact ⟨rfl, Below.refl _ _⟩
  have d2 : decide (n < 1) = false := decide_eq_false h2
  have HR2 : Hid (R = M.ferr n rows) := by
    show _ = _
    rw [← HR.out]
    unfold M.cwE
    rw [if_neg (by rw [HN.out]; exact h0), if_neg h1, if_neg h2]
  have HNN : Hid (1 ≤ n ∧ n ≤ 16) := ⟨by omega, by omega⟩
  clear HR
  go_enter Try.func15, Try.ntmps15
  go_wp2
  clear h0d h0i d1 d2
  go_loopw [5] (fun v wr => ∃ k : Nat, k ≤ N ∧ v = .int .i64 k ∧ Hid (M.ferr n (rows.take k) = 0) ∧ Hid (Below w.heap.size w wr)) (fun v _ => N - (intOf v).toNat)
  case atStart => exact ⟨0, Nat.zero_le _, rfl, rfl, Below.refl _ _⟩
  case round =>
    obtain ⟨k, hk, rfl, hf, hb⟩ := hrel
    by_cases hlt : k < N
    · have hkl : k < rows.length := by rw [HN.out]; exact hlt
      obtain ⟨b, off, A, cc, m, rfl, _, hc, hrd, hml⟩ := (HH.out.below hb.out).at_ hkl
      by_cases hlong : 256 < m
      · have hq : M.check (M.row rows k) n = 3 := M.check_limit (.inr (by rw [hml.out]; exact hlong))
        obtain rfl : R = 3 := by rw [HR2.out]; exact M.ferr_hit hkl hf.out hq (by decide)
        have CW := vword_any A m cc wr
        rw [if_pos hlong] at CW
        have CW := Lib.hid CW
        clear hq hrd
        go_wp2_with fail
        refine CW.out.mono ?_
        rintro e w1 ⟨rfl, rfl⟩
        go_wp2
        go_ret
        exact ⟨rfl, hb.out⟩
      · have hq := M.check_in (zs := M.row rows k) HNN.out.2 (by rw [hml.out]; omega) HNN.out.1
        have CW := vword_any A m cc wr
        rw [if_neg hlong] at CW
        have CW := Lib.hid CW
        have CS := vsym_at A m cc _ n wr hrd hml.out (by omega)
        rw [← hq] at CS
        obtain ⟨q, hqq⟩ : ∃ q, M.check (M.row rows k) n = q := ⟨_, rfl⟩
        rw [hqq] at CS
        have CS := Lib.hid CS
        by_cases hq0 : q = 0
        · subst hq0
          have hN2 : Hid (M.ferr n (rows.take (k + 1)) = 0) := M.ferr_snoc hkl hf.out hqq
          clear hq hqq hf hrd
          go_wp2_with fail
          refine CW.out.mono ?_
          rintro e w1 ⟨rfl, rfl⟩
          go_wp2_with fail
          refine CS.out.mono ?_
          rintro e w2 ⟨rfl, hb2⟩
          have HB := Lib.hid (below_next hb.out hb2)
          clear hb hb2 CS CW hc
          go_wp2
          go_roundw
          case rel => exact ⟨k + 1, by omega, by go_num, hN2, HB⟩
          case measure => simp [intOf]; omega
        · obtain rfl : R = q := by rw [HR2.out]; exact M.ferr_hit hkl hf.out hqq hq0
          have hq1 : (R != 0) = true := by simpa using hq0
          clear hq hqq hf hrd
          go_wp2_with fail
          refine CW.out.mono ?_
          rintro e w1 ⟨rfl, rfl⟩
          go_wp2_with fail
          refine CS.out.mono ?_
          rintro e w2 ⟨rfl, hb2⟩
          have HB := Lib.hid (below_next hb.out hb2)
          clear hb hb2 CS CW hc
          go_wp2
          go_ret
          exact ⟨rfl, HB.out⟩
    · obtain rfl : R = 0 := by
        have := hf.out
        rw [List.take_of_length_le (by rw [HN.out]; omega)] at this
        rw [HR2.out, this]
      clear hf HR2
      go_wp2
      go_ret
      exact ⟨rfl, hb.out⟩
set_option maxRecDepth 100000 in
set_option maxHeartbeats 1000000 in
theorem vsteps_any (L : Option Addr) (c N : Nat) (rows : List (List Int)) (w : World) (h : RdS w L rows) (hN : rows.length = N) (hm : N ≤ 1000000) (hall : Wl rows) :
    Calls Try.prog 20 #[.slice L N c] w fun e w' => e = .returned (.int .i64 (M.total rows : Nat)) ∧ w' = w := by
  have HN := Lib.hid hN
  have HA := Lib.hid hall
  clear hN hall
  go_enter Try.func20, Try.ntmps20
  go_wp2
  go_loopw [3, 4] (fun u v wr => ∃ k : Nat, k ≤ N ∧ v = .int .i64 k ∧ u = .int .i64 (M.total (rows.take k) : Nat) ∧ M.total (rows.take k) ≤ k * 1000000 ∧ wr = w) (fun _ v _ => N - (intOf v).toNat)
  case atStart => exact ⟨0, Nat.zero_le _, rfl, by simp [M.total], by simp [M.total], rfl⟩
  case round =>
    obtain ⟨k, hk, rfl, rfl, ht, rfl⟩ := hrel
    by_cases hlt : k < N
    · have hkl : k < rows.length := by rw [HN.out]; exact hlt
      obtain ⟨b, off, A, cc, m, rfl, _, hc, hrd, hml⟩ := h.at_ hkl
      have hs := M.total_snoc hkl
      have hmx := HA.out _ (M.row_mem hkl)
      rw [hml.out] at hs hmx
      obtain ⟨q, hq⟩ : ∃ q, M.total (rows.take k) = q := ⟨_, rfl⟩
      rw [hq] at hs ht ⊢
      have HS := Lib.hid hs
      have hw1 : IntKind.i64.wrap ((q : Int) + m) = (q : Int) + m := IntWalk.i64_in _ (by omega)
      clear hs hq hrd hml
      go_wp2
      go_roundw
      case rel => exact ⟨k + 1, by omega, by go_num, by rw [HS.out]; go_num, by rw [HS.out]; omega, trivial⟩
      case measure => simp [intOf]; omega
    · obtain rfl : k = N := by omega
      have e : M.total (rows.take k) = M.total rows := by rw [List.take_of_length_le (by rw [HN.out]; omega)]
      rw [e]
      clear e ht
      go_wp2
      go_ret
      exact ⟨rfl, rfl⟩
/-- A slice's beginning. -/
theorem Rd.takeU {w : World} {A : Option Addr} {y : List Int} (h : Rd w A y) (m : Nat) : Rd w A (y.take m) := fun hp => by
  rw [List.length_take] at hp
  obtain ⟨b, off, e, hb, hc⟩ := h (by omega)
  refine ⟨b, off, e, hb, fun k hk => ?_⟩
  rw [List.length_take] at hk
  have h1 : (y.take m)[k]? = y[k]? := by rw [List.getElem?_take]; rw [if_pos (by omega)]
  rw [h1]
  exact hc k (by omega)
set_option maxRecDepth 100000 in
theorem vprefix_any (A B : Option Addr) (m n c d : Nat) (x y : List Int) (w : World) (hx : Rd w A x) (hy : Rd w B y) (h1 : x.length = m) (h2 : y.length = n) (hm : m ≤ 1000000) (hd : n ≤ d) :
    Calls Try.prog 64 #[.slice A m c, .slice B n d] w fun e w' => e = .returned (.bool (M.pre x y && decide (x.length < y.length))) ∧ Below w.heap.size w w' := by
  by_cases hlt : m < n
  · have d1 : decide ((m : Int) < n) = true := decide_eq_true (by omega)
    have d2 : (m : Int) < n := by omega
    have d3 : decide (x.length < y.length) = true := decide_eq_true (by omega)
    have hl : (y.take m).length = m := by simp; omega
    have CC := Lib.hid (vcmp_at A B m m c d x (y.take m) w hx (hy.takeU m) h1 hl (by omega))
    have hz : M.cmp x (y.take m) = 0 ↔ M.pre x y = true := by
      rw [M.cmp_zero_iff]
      unfold M.pre
      rw [List.isPrefixOf_iff_prefix, List.prefix_iff_eq_take, h1]
    rw [d3, Bool.and_true]
    obtain ⟨q, hq⟩ : ∃ q, M.cmp x (y.take m) = q := ⟨_, rfl⟩
    rw [hq] at CC hz
    have hr : (q == 0) = M.pre x y := by
      rw [Bool.eq_iff_iff, ← hz]
      simp
    obtain ⟨r, hrr⟩ : ∃ r, M.pre x y = r := ⟨_, rfl⟩
    rw [hrr] at hr ⊢
    clear hx hy h1 h2 d3 hl hz hq hrr
    go_enter Try.func64, Try.ntmps64
    go_wp2_with fail
    refine CC.out.mono ?_
    rintro e w1 ⟨rfl, hb1⟩
    go_wp2
    go_ret
    exact ⟨rfl, hb1⟩
  · have d1 : decide ((m : Int) < n) = false := decide_eq_false (by omega)
    have d2 : ¬ (m : Int) < n := by omega
    have d3 : decide (x.length < y.length) = false := decide_eq_false (by omega)
    rw [d3, Bool.and_false]
    clear hx hy h1 h2 d3
    go_enter Try.func64, Try.ntmps64
    go_wp2
    go_ret
    exact ⟨rfl, Below.refl _ _⟩
set_option maxRecDepth 100000 in
set_option maxHeartbeats 1000000 in
theorem vhas_any (L X : Option Addr) (c d N q : Nat) (rows : List (List Int)) (x : List Int) (w : World) (h : RdS w L rows) (hN : rows.length = N) (hm : N ≤ 1000000) (hall : Wl rows) (hx : Rd w X x) (hq : x.length = q) :
    Calls Try.prog 19 #[.slice L N c, .slice X q d] w fun e w' => e = .returned (.bool (memB rows x)) ∧ Below w.heap.size w w' := by
  obtain ⟨R, hR⟩ : ∃ R, memB rows x = R := ⟨_, rfl⟩
  have hR2 : R = true ↔ x ∈ rows := by rw [← hR]; exact memB_iff
  rw [hR]
  have HR := Lib.hid hR2
  have HN := Lib.hid hN
  have HH := Lib.hid h
  have HA := Lib.hid hall
  have HX := Lib.hid hx
  have HQ := Lib.hid hq
  clear hR hR2 hN h hall hx hq
  go_enter Try.func19, Try.ntmps19
  go_wp2
  go_loopw [5] (fun v wr => ∃ k : Nat, k ≤ N ∧ v = .int .i64 k ∧ Hid (¬ x ∈ rows.take k) ∧ Hid (Below w.heap.size w wr)) (fun v _ => N - (intOf v).toNat)
  case atStart => exact ⟨0, Nat.zero_le _, rfl, by simp [Hid], Below.refl _ _⟩
  case round =>
    obtain ⟨k, hk, rfl, hf, hb⟩ := hrel
    by_cases hlt : k < N
    · have hkl : k < rows.length := by rw [HN.out]; exact hlt
      obtain ⟨b, off, A, cc, m, rfl, _, hc, hrd, hml⟩ := (HH.out.below hb.out).at_ hkl
      have hml2 := HA.out _ (M.row_mem hkl)
      have CC := Lib.hid (vcmp_at A X m q cc d _ _ wr hrd (HX.out.below hb.out) hml.out HQ.out (by have := hml.out; omega))
      obtain ⟨z, hz⟩ : ∃ z, M.cmp (M.row rows k) x = z := ⟨_, rfl⟩
      rw [hz] at CC
      by_cases hz0 : z = 0
      · subst hz0
        obtain rfl : R = true := HR.out.2 (by rw [← M.cmp_zero_iff.1 hz]; exact M.row_mem hkl)
        clear hrd hz hf
        go_wp2_with fail
        refine CC.out.mono ?_
        rintro e w1 ⟨rfl, hb1⟩
        have HB := Lib.hid (below_next hb.out hb1)
        clear hb hb1 hc CC
        go_wp2
        go_ret
        exact ⟨rfl, HB.out⟩
      · have hz1 : (z == 0) = false := by rw [beq_eq_false_iff_ne]; exact hz0
        have hN2 : Hid (¬ x ∈ rows.take (k + 1)) := by
          show ¬ _
          rw [take_row hkl, List.mem_append, List.mem_singleton]
          rintro (h1 | h1)
          · exact hf.out h1
          · rw [← h1, M.cmp_self] at hz
            exact hz0 hz.symm
        clear hrd hz hf hz0
        go_wp2_with fail
        refine CC.out.mono ?_
        rintro e w1 ⟨rfl, hb1⟩
        have HB := Lib.hid (below_next hb.out hb1)
        clear hb hb1 hc CC
        go_wp2
        go_roundw
        case rel => exact ⟨k + 1, by omega, by go_num, hN2, HB⟩
        case measure => simp [intOf]; omega
    · obtain rfl : k = N := by omega
      obtain rfl : R = false := by
        cases hRR : R with
        | false => rfl
        | true =>
          have h1 := HR.out.1 hRR
          have h2 := hf.out
          rw [List.take_of_length_le (by rw [HN.out]; omega)] at h2
          exact absurd h1 h2
      clear hf
      go_wp2
      go_ret
      exact ⟨rfl, hb.out⟩
end Go.Proofs.Ytjodhihcckcefaa
