/-
  Contracts: whether a word is in a list; Has, Minus. No statement is proved here.
-/
import Derived.Test.YtjodhihcckcefaaU10
namespace Go.Proofs.Ytjodhihcckcefaa
open Go.RowKit Go.Maps

/-- Where the search for x stands. -/
structure Bs (rows : List (List Int)) (x : List Int) (i j : Nat) : Prop where
  le : i ≤ j
  hj : j ≤ rows.length
  lo : ∀ k, k < i → M.cmp (M.row rows k) x = -1
  hi : ∀ k, j ≤ k → k < rows.length → M.cmp (M.row rows k) x ≠ -1
theorem asc_at {l : List (List Int)} (h : M.asc l) {i j : Nat} (hij : i < j) (hj : j < l.length) : M.cmp (M.row l i) (M.row l j) = -1 := by
  have h1 := List.pairwise_iff_getElem.1 h i j (by omega) hj hij
  have e1 := M.row_at (l := l) (k := i) (by omega)
  have e2 := M.row_at hj
  rw [List.getElem?_eq_getElem (by omega)] at e1
  rw [List.getElem?_eq_getElem hj] at e2
  injection e1 with e1
  injection e2 with e2
  rw [← e1, ← e2]
  exact h1
theorem Bs.start (rows : List (List Int)) (x : List Int) : Bs rows x 0 rows.length := ⟨Nat.zero_le _, Nat.le_refl _, fun k h => by omega, fun k h1 h2 => by omega⟩
theorem Bs.up {rows : List (List Int)} {x : List Int} {i j m : Nat} (h : Bs rows x i j) (ha : M.asc rows) (h1 : i ≤ m) (h2 : m < j) (hc : M.cmp (M.row rows m) x = -1) : Bs rows x (m + 1) j := by
  have hj := h.hj
  refine ⟨by omega, hj, fun k hk => ?_, h.hi⟩
  rcases Nat.lt_or_ge k m with h3 | h3
  · exact M.lt_trans (asc_at ha h3 (by omega)) hc
  · obtain rfl : k = m := by omega
    exact hc
theorem Bs.down {rows : List (List Int)} {x : List Int} {i j m : Nat} (h : Bs rows x i j) (ha : M.asc rows) (h1 : i ≤ m) (h2 : m < j) (hc : M.cmp (M.row rows m) x ≠ -1) : Bs rows x i m := by
  have hj := h.hj
  refine ⟨h1, by omega, h.lo, fun k hk hkl => ?_⟩
  rcases Nat.lt_or_ge m k with h3 | h3
  · intro e
    exact hc (M.lt_trans (asc_at ha h3 hkl) e)
  · obtain rfl : k = m := by omega
    exact hc
theorem Bs.end_ {rows : List (List Int)} {x : List Int} {i : Nat} (h : Bs rows x i i) (ha : M.asc rows) : x ∈ rows ↔ i < rows.length ∧ M.cmp (M.row rows i) x = 0 := by
  constructor
  · intro hx
    obtain ⟨k, hk, e⟩ := List.getElem_of_mem hx
    have e1 := M.row_at hk
    rw [List.getElem?_eq_getElem hk, e] at e1
    injection e1 with e1
    have hz : M.cmp (M.row rows k) x = 0 := by rw [← e1]; exact M.cmp_self x
    have h1 : i ≤ k := by
      rcases Nat.lt_or_ge k i with h3 | h3
      · have := h.lo k h3; omega
      · exact h3
    rcases Nat.lt_or_ge i k with h3 | h3
    · exfalso
      have h4 := asc_at ha h3 hk
      rw [← e1] at h4
      exact h.hi i (Nat.le_refl _) (by omega) h4
    · obtain rfl : i = k := by omega
      exact ⟨hk, hz⟩
  · rintro ⟨h1, h2⟩
    rw [← M.cmp_zero_iff.1 h2]
    exact M.row_mem h1
set_option maxRecDepth 100000 in
set_option maxHeartbeats 2000000 in
theorem bsearch_any (L X : Option Addr) (c d N q : Nat) (rows : List (List Int)) (x : List Int) (w : World) (h : RdS w L rows) (hN : rows.length = N) (hm : N ≤ 4096) (hl : ∀ y ∈ rows, y.length ≤ 1000) (hx : Rd w X x) (hq : x.length = q) (ha : M.asc rows) (r : Bool) (hr : r = true ↔ x ∈ rows) :
    Calls Try.prog 78 #[.slice L N c, .slice X q d, .func (.func 79) #[] #[]] w fun e w' => (∃ i, e = .returned (.tuple #[i, .bool r])) ∧ Below w.heap.size w w' := by
  have HN := Lib.hid hN
  have HH := Lib.hid h
  have HL := Lib.hid hl
  have HX := Lib.hid hx
  have HQ := Lib.hid hq
  have HA := Lib.hid ha
  have HR := Lib.hid hr
  have hb0 := Bs.start rows x
  rw [hN] at hb0
  have HB0 := Lib.hid hb0
  clear hN h hl hx hq ha hr hb0
  go_enter Try.func78, Try.ntmps78
  go_wp2
  go_loopw [9, 10] (fun u v wr => ∃ i j : Nat, u = .int .i64 i ∧ v = .int .i64 j ∧ j ≤ N ∧ Hid (Bs rows x i j) ∧ Hid (Below w.heap.size w wr)) (fun u v _ => (intOf v).toNat - (intOf u).toNat)
  case atStart => exact ⟨0, N, rfl, rfl, Nat.le_refl _, HB0.out, Below.refl _ _⟩
  case round =>
    clear HB0
    obtain ⟨i, j, rfl, rfl, hjN, hB, hb⟩ := hrel
    by_cases hlt : i < j
    · have hij : (i : Int) < j := by omega
      obtain ⟨m, hm1, hm2, hm3⟩ : ∃ m : Nat, i ≤ m ∧ m < j ∧ m = (i + j) / 2 := ⟨(i + j) / 2, by omega, by omega, rfl⟩
      go_upto_region 5 with fail
      have hem : ((i : Int) + j) / 2 = (m : Int) := by omega
      rw [hem]
      clear hem hm3
      have hml0 : m < rows.length := by rw [HN.out]; omega
      have hmN : (m : Int) < N := by omega
      obtain ⟨b, off, A, cc, t, rfl, hbw, hc, hrd, hml⟩ := (HH.out.below hb.out).at_ hml0
      have hxl := HL.out _ (M.row_mem hml0)
      have CW := Lib.hid (wcmp_at A X t q cc d _ _ wr hrd (HX.out.below hb.out) hml.out HQ.out (by have := hml.out; omega))
      obtain ⟨z, hz⟩ : ∃ z, M.cmp (M.row rows m) x = z := ⟨_, rfl⟩
      have hzr := M.cmp_range (M.row rows m) x
      rw [hz] at CW hzr
      have HZ := Lib.hid hz
      clear hz hrd hxl hml
      by_cases hneg : z = -1
      · subst hneg
        have HB2 := Lib.hid (hB.out.up HA.out hm1 hm2 HZ.out)
        clear hB HZ hzr
        go_wp2_with fail
        refine CW.out.mono ?_
        rintro e w1 ⟨rfl, hb1⟩
        have HB := Lib.hid (below_next hb.out hb1)
        clear hb hb1 hc CW
        go_wp2
        go_roundw
        case rel => exact ⟨m + 1, j, by go_num, rfl, hjN, HB2, HB⟩
        case measure => simp [intOf]; omega
      · have hz1 : decide (z < 0) = false := decide_eq_false (by omega)
        have hz2 : ¬ z < 0 := by omega
        have HB2 := Lib.hid (hB.out.down HA.out hm1 hm2 (by rw [HZ.out]; exact hneg))
        clear hB HZ hzr
        go_wp2_with fail
        refine CW.out.mono ?_
        rintro e w1 ⟨rfl, hb1⟩
        have HB := Lib.hid (below_next hb.out hb1)
        clear hb hb1 hc CW
        go_wp2
        go_roundw
        case rel => exact ⟨i, m, rfl, rfl, by omega, HB2, HB⟩
        case measure => simp [intOf]; omega
    · have hij : ¬ (i : Int) < j := by omega
      obtain rfl : i = j := by have := hB.out.le; omega
      have hend := hB.out.end_ HA.out
      rw [HN.out] at hend
      by_cases hiN : i < N
      · have hiNi : (i : Int) < N := by omega
        have hml0 : i < rows.length := by rw [HN.out]; omega
        obtain ⟨b, off, A, cc, t, rfl, hbw, hc, hrd, hml⟩ := (HH.out.below hb.out).at_ hml0
        have hxl := HL.out _ (M.row_mem hml0)
        have CW := Lib.hid (wcmp_at A X t q cc d _ _ wr hrd (HX.out.below hb.out) hml.out HQ.out (by have := hml.out; omega))
        obtain ⟨z, hz⟩ : ∃ z, M.cmp (M.row rows i) x = z := ⟨_, rfl⟩
        rw [hz] at CW hend
        have hr2 : (z == 0) = r := by
          rw [Bool.eq_iff_iff, HR.out, hend]
          simp [hiN]
        clear hz hrd hxl hml hB hend
        go_wp2_with fail
        refine CW.out.mono ?_
        rintro e w1 ⟨rfl, hb1⟩
        have HB := Lib.hid (below_next hb.out hb1)
        clear hb hb1 hc CW
        go_wp2
        go_ret2
        exact ⟨⟨_, rfl⟩, HB.out⟩
      · have hiNi : ¬ (i : Int) < N := by omega
        obtain rfl : r = false := by
          cases r with
          | false => rfl
          | true => exact absurd (hend.1 (HR.out.1 rfl)).1 hiN
        clear hB hend
        go_wp2
        go_ret2
        exact ⟨⟨_, rfl⟩, hb.out⟩
open Classical in
noncomputable def memB (rows : List (List Int)) (x : List Int) : Bool := decide (x ∈ rows)
theorem memB_iff {rows : List (List Int)} {x : List Int} : memB rows x = true ↔ x ∈ rows := by unfold memB; rw [decide_eq_true_iff]
set_option maxRecDepth 100000 in
set_option maxHeartbeats 1000000 in
theorem has_any (L X : Option Addr) (c d N q : Nat) (rows : List (List Int)) (x : List Int) (w : World) (h : RdS w L rows) (hN : rows.length = N) (hm : N ≤ 4096) (hl : ∀ y ∈ rows, y.length ≤ 1000) (hx : Rd w X x) (hq : x.length = q) (ha : M.asc rows) :
    Calls Try.prog 50 #[.slice L N c, .slice X q d] w fun e w' => e = .returned (.bool (memB rows x)) ∧ Below w.heap.size w w' := by
  have CB := Lib.hid (bsearch_any L X c d N q rows x w h hN hm hl hx hq ha (memB rows x) memB_iff)
  clear h hN hl hx hq ha
  obtain ⟨r, hr⟩ : ∃ r, memB rows x = r := ⟨_, rfl⟩
  rw [hr] at CB ⊢
  clear hr
  go_enter Try.func50, Try.ntmps50
  go_wp2_with fail
  refine CB.out.mono ?_
  rintro e w1 ⟨⟨i, rfl⟩, hb1⟩
  go_wp2
  go_ret
  exact ⟨rfl, hb1⟩
/-- The error of a list and of a word. -/
noncomputable def hE (rows : List (List Int)) (x : List Int) (n : Int) : Int := if M.chE rows n ≠ 0 then M.chE rows n else M.check x n
set_option maxRecDepth 100000 in
set_option maxHeartbeats 1000000 in
theorem thas_any (L X : Option Addr) (c d N q : Nat) (rows : List (List Int)) (x : List Int) (n : Int) (w : World) (h : RdS w L rows) (hN : rows.length = N) (hm : N ≤ 9223372036854775807) (hx : Rd w X x) (hq : x.length = q) (R : Int) (hR : hE rows x n = R) (r : Bool) (hr : r = true ↔ R = 0 ∧ x ∈ rows) :
    Calls Try.prog 14 #[.slice L N c, .slice X q d, .int .i64 n] w fun e w' => e = .returned (.tuple #[.bool r, .int .i64 R]) ∧ Below w.heap.size w w' := by
  have C1 := Lib.hid (tcheck_any L c N rows n w h hN hm)
  have C2 := Lib.hid (fun w' (hb : Below w.heap.size w w') => check_at X d q x n w' (hx.below hb) hq)
  by_cases hz : M.chE rows n = 0
  · have hby := ch_by hz
    have hv := M.chE_zero.1 hz
    have hR2 : M.check x n = R := by unfold hE at hR; rw [if_neg (by omega)] at hR; exact hR
    rw [hz] at C1
    rw [hR2] at C2
    have CH := Lib.hid (fun w' (hb : Below w.heap.size w w') => has_any L X c d N q rows x w' (h.below hb) hN (by omega) (fun y hy => (hby.2 y hy).2) (hx.below hb) hq hv.as)
    by_cases hz2 : R = 0
    · subst hz2
      obtain rfl : r = memB rows x := by rw [Bool.eq_iff_iff, hr, memB_iff]; simp
      obtain ⟨t, ht⟩ : ∃ t, memB rows x = t := ⟨_, rfl⟩
      rw [ht] at CH ⊢
      clear h hN hz hby hv hR hR2 hx hq hr ht
      go_enter Try.func14, Try.ntmps14
      go_wp2_with fail
      refine C1.out.mono ?_
      rintro e w1 ⟨rfl, hb1⟩
      go_wp2_with fail
      refine (C2.out _ hb1).mono ?_
      rintro e w2 ⟨rfl, hb2⟩
      have B2 := below_next hb1 hb2
      go_wp2_with fail
      refine (CH.out _ B2).mono ?_
      rintro e w3 ⟨rfl, hb3⟩
      have B3 := Lib.hid (below_next B2 hb3)
      clear hb1 hb2 hb3 B2
      go_wp2
      go_ret2
      exact ⟨rfl, B3.out⟩
    · have hz1 : (R != 0) = true := by simpa using hz2
      obtain rfl : r = false := by
        cases r with
        | false => rfl
        | true => exact absurd (hr.1 rfl).1 hz2
      clear h hN hz hby hv hR hR2 hx hq hr hz2
      go_enter Try.func14, Try.ntmps14
      go_wp2_with fail
      refine C1.out.mono ?_
      rintro e w1 ⟨rfl, hb1⟩
      go_wp2_with fail
      refine (C2.out _ hb1).mono ?_
      rintro e w2 ⟨rfl, hb2⟩
      have B2 := Lib.hid (below_next hb1 hb2)
      clear hb1 hb2
      go_wp2
      go_ret2
      exact ⟨rfl, B2.out⟩
  · have hR2 : M.chE rows n = R := by unfold hE at hR; rw [if_pos hz] at hR; exact hR
    rw [hR2] at C1 hz
    have hz1 : (R != 0) = true := by simpa using hz
    obtain rfl : r = false := by
      cases r with
      | false => rfl
      | true => exact absurd (hr.1 rfl).1 hz
    clear h hN hR hR2 hx hq hr hz
    go_enter Try.func14, Try.ntmps14
    go_wp2_with fail
    refine C1.out.mono ?_
    rintro e w1 ⟨rfl, hb1⟩
    go_wp2
    go_ret2
    exact ⟨rfl, hb1⟩
/-- Minus's function: whether a word is not in the second list. -/
theorem minus1_any (A K : Option Addr) (c m N d B : Nat) (x : List Int) (rows : List (List Int)) (w : World) (h : Rd w A x) (hx : x.length = m) (_hm : m ≤ 1000) (hB : w.cell? ⟨B, 0, none⟩ = some (.slice K N d)) (hK : RdS w K rows) (hN : rows.length = N) (hN4 : N ≤ 4096) (hl : ∀ y ∈ rows, y.length ≤ 1000) (ha : M.asc rows) :
    Calls Try.prog 67 #[.slice A m c, .pointer (some ⟨B, 0, none⟩)] w fun e w' => e = .returned (.bool (!memB rows x)) ∧ Below w.heap.size w w' := by
  have CH := Lib.hid (has_any K A d c N m rows x w hK hN hN4 hl h hx ha)
  obtain ⟨t, ht⟩ : ∃ t, memB rows x = t := ⟨_, rfl⟩
  rw [ht] at CH ⊢
  clear h hx hK hN hl ha ht
  go_enter Try.func67, Try.ntmps67
  go_wp2_with fail
  refine CH.out.mono ?_
  rintro e w1 ⟨rfl, hb1⟩
  go_wp2
  go_ret
  exact ⟨rfl, hb1⟩
set_option maxRecDepth 100000 in
set_option maxHeartbeats 2000000 in
theorem chosenM_any (L : Option Addr) (c N B : Nat) (rows : List (List Int)) (p : List Int → Bool) (w : World) (h : RdS w L rows) (hN : rows.length = N) (hm : N ≤ 4096) (hl : ∀ x ∈ rows, x.length ≤ 1000)
    (HF : ∀ W, Below w.heap.size w W → ∀ (A : Option Addr) (m d : Nat) (x : List Int), x ∈ rows → x.length = m → Rd W A x → Calls Try.prog 67 #[.slice A m d, .pointer (some ⟨B, 0, none⟩)] W fun e w' => e = .returned (.bool (p x)) ∧ Below W.heap.size W w') :
    Calls Try.prog 61 #[.slice L N c, .func (.func 67) #[] #[.pointer (some ⟨B, 0, none⟩)]] w fun e w' => ∃ A q, e = .returned (.slice A q q) ∧ q = (rows.filter p).length ∧ RdX w' A (rows.filter p) ∧ Below w.heap.size w w' := by
  have HN := Lib.hid hN
  have HH := Lib.hid h
  have HL := Lib.hid hl
  have HG := Lib.hid HF
  have hfl : ∀ k, ((rows.take k).filter p).length ≤ 1000000 := fun k => by
    have h1 := List.length_filter_le p (rows.take k)
    have h2 : (rows.take k).length ≤ rows.length := by simp; omega
    omega
  have HFL := Lib.hid hfl
  clear hN h hl HF hfl
  go_enter Try.func61, Try.ntmps61
  go_wp2
  go_loopw [5, 11] (fun v z wr => ∃ k : Nat, k ≤ N ∧ z = .int .i64 k ∧ Hid (OwL true wr w.heap.size v ((rows.take k).filter p)) ∧ Hid (Below w.heap.size w wr)) (fun _ z _ => N - (intOf z).toNat)
  case atStart => exact ⟨0, Nat.zero_le _, rfl, OwL.nil_ _ _, Below.refl _ _⟩
  case round =>
    obtain ⟨k, hk, rfl, hO, hb⟩ := hrel
    by_cases hlt : k < N
    · have hkl : k < rows.length := by rw [HN.out]; exact hlt
      obtain ⟨b, off, A, cc, m, rfl, hbw, hc, hrd, hml⟩ := (HH.out.below hb.out).at_ hkl
      have hxl := HL.out _ (M.row_mem hkl)
      have CF := Lib.hid (HG.out wr hb.out A m cc _ (M.row_mem hkl) hml.out hrd)
      have HT := Lib.hid (take_row hkl)
      have HR := Lib.hid hrd
      have hm1 : m ≤ 1000 := by rw [← hml.out]; exact hxl
      obtain ⟨x, hx⟩ : ∃ x, M.row rows k = x := ⟨_, rfl⟩
      rw [hx] at CF HT HR hml
      clear hrd hx hxl
      cases hp : p x with
      | false =>
        rw [hp] at CF
        go_wp2_with fail
        refine CF.out.mono ?_
        rintro e w1 ⟨rfl, hb1⟩
        have hO2 := hO.out.below hb1
        rw [← filter_snoc_f (l := rows.take k) hp, ← HT.out] at hO2
        have HO1 := Lib.hid hO2
        clear hO2
        have HB := Lib.hid (below_next hb.out hb1)
        clear hb hb1 hO hc CF
        go_wp2
        go_roundw
        case rel => exact ⟨k + 1, by omega, by go_num, HO1, HB⟩
        case measure => simp [intOf]; omega
      | true =>
        rw [hp] at CF
        go_wp2_with fail
        refine CF.out.mono ?_
        rintro e w1 ⟨rfl, hb1⟩
        have hO1 := Lib.hid (hO.out.below hb1)
        have HB := Lib.hid (below_next hb.out hb1)
        have hR1 := Lib.hid (HR.out.below hb1)
        have hz1 := hb1.size
        have hz0 := hb.out.size
        clear hb hb1 hO hc CF HR
        go_wp2_with (first
          | (refine wpList_make_ints _ rfl _ _ rfl _ m rfl rfl rfl (by omega) ?_
             intro w2 hB2 hb2
             have hR2 := hR1.out.below hb2)
          | (with_reducible refine wpList_copy_ints _ rfl (.tmp 21) (.tmp 22) rfl A m w1.heap.size m cc (List.replicate m 0) x rfl rfl hB2.out (by simp) hR2 hml.out w1.heap.size w1 hb2 (Nat.le_refl _) ?_
             intro w3 hB3 hb3
             have hO3 := hO1.out.below hb3
             have B3 := below_next HB.out hb3)
          | (refine wpList_append_w w3 hO3 (HFL.out k) (RdK.blk hB3.out) hml.out (fun _ => rfl) B3 (by have := hb3.size; omega) rfl _ _ rfl rfl rfl ?_
             intro v1 w4 hO4 hb4 _)
          | fail)
        have HO4 : Hid (OwL true w4 w.heap.size v1 ((rows.take (k + 1)).filter p)) := by
          show OwL _ _ _ _ _
          rw [HT.out, filter_snoc_t hp]; exact hO4
        have HB4 := Lib.hid hb4
        clear hO4 hb4 hO3 B3 hB3 hb3 hR2 hB2 hb2 hO1 HB hR1
        go_roundw
        case rel => exact ⟨k + 1, by omega, by go_num, HO4, HB4⟩
        case measure => simp [intOf]; omega
    · obtain rfl : k = N := by omega
      have hO1 := hO.out
      rw [List.take_of_length_le (by rw [HN.out]; omega)] at hO1
      obtain ⟨A, d, rfl, hd, _⟩ := hO1.form
      have HX := Lib.hid hO1.rdx
      obtain ⟨q, hq⟩ : ∃ q, (rows.filter p).length = q := ⟨_, rfl⟩
      rw [hq] at hd ⊢
      have HQ := Lib.hid hq
      clear hO hO1 hq
      go_wp2_with fail
      refine (clip_any A q d wr hd).mono ?_
      rintro e w1 ⟨rfl, rfl⟩
      go_wp2
      go_ret
      exact ⟨A, q, rfl, HQ.out.symm ▸ rfl, HX.out, hb.out⟩
set_option maxRecDepth 100000 in
set_option maxHeartbeats 2000000 in
theorem minus_any (L K : Option Addr) (c d N N2 : Nat) (rows rows2 : List (List Int)) (n : Int) (w : World) (h : RdS w L rows) (hN : rows.length = N) (hm : N ≤ 9223372036854775807) (h2 : RdS w K rows2) (hN2 : rows2.length = N2) (hm2 : N2 ≤ 9223372036854775807) (R : Int) (hR : chE2 rows rows2 n = R) :
    Calls Try.prog 32 #[.slice L N c, .slice K N2 d, .int .i64 n] w (Lst w (okL R (rows.filter fun x => !memB rows2 x)) R) := by
  obtain ⟨W0, hW0⟩ : ∃ W0, w.alloc (.cells #[.slice K N2 d] 22) = W0 := ⟨_, rfl⟩
  have hb0 : Below w.heap.size w W0 := by rw [← hW0]; exact (Below.refl _ _).alloc (Nat.le_refl _) _
  have hc0 : W0.cell? ⟨w.heap.size, 0, none⟩ = some (.slice K N2 d) := by
    rw [← hW0, cell_of_row _ _ _ _ _ _ (heap_alloc_new _ _)]; rfl
  have hl0 : w.heap.size < W0.heap.size := by rw [← hW0]; simp
  have C1 := Lib.hid (tboth_any L K c d N N2 rows rows2 n W0 (h.below hb0) hN hm (h2.below hb0) hN2 hm2)
  by_cases hz : chE2 rows rows2 n = 0
  · have hz1 : M.chE rows n = 0 := by
      unfold chE2 at hz
      by_cases e : M.chE rows n = 0
      · exact e
      · rw [if_pos e] at hz; exact absurd hz e
    have hz2 : M.chE rows2 n = 0 := by
      unfold chE2 at hz
      rw [if_neg (by omega)] at hz
      exact hz
    have hby := ch_by hz1
    have hby2 := ch_by hz2
    have hv2 := M.chE_zero.1 hz2
    rw [hz] at hR C1
    obtain rfl := hR
    rw [okL_ok]
    have HH := Lib.hid (And.intro h h2)
    have HN := Lib.hid (And.intro hN hN2)
    have HBY := Lib.hid (And.intro hby hby2)
    have HA := Lib.hid hv2.as
    have hN4 : N ≤ 4096 := by omega
    have hN24 : N2 ≤ 4096 := by omega
    have HB0 := Lib.hid hb0
    clear h h2 hN hN2 hz hz1 hz2 hby hby2 hv2 hb0
    go_enter Try.func32, Try.ntmps32
    go_wp2_with fail
    refine C1.out.mono ?_
    rintro e w1 ⟨rfl, hb1⟩
    have BW := Lib.hid (below_next HB0.out hb1)
    have hc1 := Lib.hid (((bcell hb1).1 _ 0 hl0).trans hc0)
    have hl1 : w.heap.size < w1.heap.size := by have := hb1.size; omega
    clear hb1
    go_wp2_with fail
    refine (chosenM_any L c N w.heap.size rows (fun x => !memB rows2 x) w1 (HH.out.1.below BW.out) HN.out.1 hN4 (fun x hx => (HBY.out.1.2 x hx).2) (fun X hX A m e x hx hml hrd => ?_)).mono ?_
    · have hxb := HBY.out.1.2 x hx
      exact minus1_any A K e m N2 d w.heap.size x rows2 X hrd hml (by omega) (((bcell hX).1 _ _ hl1).trans hc1.out) (HH.out.2.below (below_next BW.out hX)) HN.out.2 hN24 (fun y hy => (HBY.out.2.2 y hy).2) HA.out
    rintro e w3 ⟨A, q, rfl, hq, hx, hb3⟩
    have HL := Lib.hid (Lst.after (R := 0) BW.out hq hx hb3)
    clear hq hx hb3 BW hc1
    go_wp2
    go_ret2
    exact HL.out
  · rw [hR] at C1 hz
    have hz1 : (R != 0) = true := by simpa using hz
    rw [okL_err hz]
    have HB0 := Lib.hid hb0
    clear hR h h2 hN hN2 hz hb0
    go_enter Try.func32, Try.ntmps32
    go_wp2_with fail
    refine C1.out.mono ?_
    rintro e w1 ⟨rfl, hb1⟩
    have BW := Lib.hid (below_next HB0.out hb1)
    clear hb1
    go_wp2
    go_ret2
    exact Lst.no BW.out
end Go.Proofs.Ytjodhihcckcefaa
