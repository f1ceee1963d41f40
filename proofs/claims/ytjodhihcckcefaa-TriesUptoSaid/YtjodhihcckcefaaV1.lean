/-
  Contracts: the reference: compare, Same, Loose, Steps, Check, Has, prefix. No statement is proved here.
-/
import Derived.Test.YtjodhihcckcefaaU9
import Derived.BigQuiet
namespace Go.Proofs.Ytjodhihcckcefaa
open Go.RowKit Go.Maps

set_option maxHeartbeats 400000 in
theorem vcmp_loop (A B : Option Addr) (c d : Nat) (x y : List Int) (w : World) (hx : Rd w A x) (hy : Rd w B y) (h1 : x.length = y.length) (hm : x.length ≤ 9223372036854775807) :
    Calls Try.prog 48 #[.slice A x.length c, .slice B y.length d] w fun e w' => e = .returned (.int .i64 (M.cmp x y)) ∧ Below w.heap.size w w' := by
  have H1 := Lib.hid h1
  have h2 : ¬ (x.length : Int) < y.length := by omega
  have h3 : ¬ (y.length : Int) < x.length := by omega
  have h4 : ((x.length : Int) != (y.length : Int)) = false := by rw [bne_eq_false_iff_eq]; omega
  clear h1
  go_enter Try.func48, Try.ntmps48
  go_wp2
  go_loopw [5] (fun i wr => ∃ k : Nat, k ≤ x.length ∧ i = .int .i64 k ∧ Hid (x.take k = y.take k) ∧ Below w.heap.size w wr) (fun i _ => x.length - (intOf i).toNat)
  case atStart => exact ⟨0, Nat.zero_le _, rfl, by simp [Hid], Below.refl _ _⟩
  case round =>
    obtain ⟨k, hk, rfl, hn, hbr⟩ := hrel
    by_cases hlt : k < x.length
    · obtain ⟨b, off, z, rfl, hb, hc, hz⟩ := (hx.below hbr).at_ hlt
      obtain ⟨b2, off2, z2, rfl, hb2, hc2, hz2⟩ := (hy.below hbr).at_ (k := k) (by have := H1.out; omega)
      have hk2 : (k : Int) < y.length := by have := H1.out; omega
      rcases Int.lt_trichotomy z z2 with hzz | hzz | hzz
      · have hfin : Hid (M.cmp x y = -1) := M.cmp_lt H1.out hlt hn.out (by rw [hz.out, hz2.out]; exact hzz)
        go_wp2
        go_quiet (fail)
        go_wp2
        go_ret
        exact ⟨ret_int hfin.out.symm, below_drewN' hbr _⟩
      · subst hzz
        have hn' : Hid (x.take (k + 1) = y.take (k + 1)) := M.take_snoc_eq hlt (by omega) hn.out (by rw [hz.out, hz2.out])
        go_wp2
        go_quiet (fail)
        go_wp2
        go_quiet (fail)
        go_wp2
        go_roundw
        case rel => exact ⟨k + 1, by omega, by go_num, hn', below_drewN' hbr _⟩
        case measure => simp [intOf]; omega
      · have hfin : Hid (M.cmp x y = 1) := M.cmp_gt H1.out hlt hn.out (by rw [hz.out, hz2.out]; exact hzz)
        go_wp2
        go_quiet (fail)
        go_wp2
        go_quiet (fail)
        go_wp2
        go_ret
        exact ⟨ret_int hfin.out.symm, below_drewN' (below_drewN' hbr _) _⟩
    · have hfin : Hid (M.cmp x y = 0) := M.cmp_end (by omega) (by have := H1.out; omega) hn.out
      go_wp2
      go_ret
      exact ⟨ret_int hfin.out.symm, hbr⟩
theorem vcmp_any (A B : Option Addr) (c d : Nat) (x y : List Int) (w : World) (hx : Rd w A x) (hy : Rd w B y) (hm : x.length ≤ 9223372036854775807) :
    Calls Try.prog 48 #[.slice A x.length c, .slice B y.length d] w fun e w' => e = .returned (.int .i64 (M.cmp x y)) ∧ Below w.heap.size w w' := by
  rcases Nat.lt_trichotomy x.length y.length with h | h | h
  · have hf : Hid (M.cmp x y = -1) := M.cmp_short h
    have h4 : ((x.length : Int) != (y.length : Int)) = true := by rw [bne_iff_ne]; omega
    have h5 : (x.length : Int) < y.length := by omega
    go_enter Try.func48, Try.ntmps48
    go_wp2
    go_ret
    exact ⟨ret_int hf.out.symm, Below.refl _ _⟩
  · exact vcmp_loop A B c d x y w hx hy h hm
  · have hf : Hid (M.cmp x y = 1) := M.cmp_long h
    have h4 : ((x.length : Int) != (y.length : Int)) = true := by rw [bne_iff_ne]; omega
    have h5 : ¬ (x.length : Int) < y.length := by omega
    go_enter Try.func48, Try.ntmps48
    go_wp2
    go_ret
    exact ⟨ret_int hf.out.symm, Below.refl _ _⟩
theorem vcmp_at (A B : Option Addr) (m n c d : Nat) (x y : List Int) (w : World) (hx : Rd w A x) (hy : Rd w B y) (h1 : x.length = m) (h2 : y.length = n) (hm : m ≤ 9223372036854775807) :
    Calls Try.prog 48 #[.slice A m c, .slice B n d] w fun e w' => e = .returned (.int .i64 (M.cmp x y)) ∧ Below w.heap.size w w' := by
  subst h1 h2
  exact vcmp_any A B c d x y w hx hy hm
theorem rows_ext {a b : List (List Int)} (hl : a.length = b.length) (h : ∀ j, j < a.length → M.row a j = M.row b j) : a = b := by
  refine List.ext_getElem hl fun j h1 h2 => ?_
  have e1 := M.row_at h1
  have e2 := M.row_at h2
  rw [List.getElem?_eq_getElem h1] at e1
  rw [List.getElem?_eq_getElem h2] at e2
  injection e1 with e1
  injection e2 with e2
  rw [e1, e2, h j h1]
set_option maxRecDepth 100000 in
set_option maxHeartbeats 1000000 in
theorem vsame_any (L K : Option Addr) (c d N N2 : Nat) (a2 b2 : List (List Int)) (w : World) (h : RdS w L a2) (h' : RdS w K b2) (hN : a2.length = N) (hN2 : b2.length = N2) (hm : N ≤ 1000000) (hall : Wl a2) (R : Bool) (hR : R = true ↔ a2 = b2) :
    Calls Try.prog 47 #[.slice L N c, .slice K N2 d] w fun e w' => e = .returned (.bool R) ∧ Below w.heap.size w w' := by
  have HR := Lib.hid hR
  have HN := Lib.hid (And.intro hN hN2)
  have HH := Lib.hid h
  have HH' := Lib.hid h'
  have HA := Lib.hid hall
  by_cases hne : N = N2
  · subst hne
    have d0 : ((N : Int) != (N : Int)) = false := by simp
    clear hR hN hN2 h h' hall
    go_enter Try.func47, Try.ntmps47
    go_wp2
    go_loopw [5] (fun v wr => ∃ j : Nat, j ≤ N ∧ v = .int .i64 j ∧ Hid (∀ i, i < j → M.row a2 i = M.row b2 i) ∧ Hid (Below w.heap.size w wr)) (fun v _ => N - (intOf v).toNat)
    case atStart => exact ⟨0, Nat.zero_le _, rfl, fun i hi => by omega, Below.refl _ _⟩
    case round =>
      obtain ⟨j, hj, rfl, ha, hb⟩ := hrel
      by_cases hlt : j < N
      · obtain ⟨b, off, A, ca, m, rfl, hbl, hc, hrd, hml⟩ := (HH.out.below hb.out).at_ (k := j) (by rw [HN.out.1]; exact hlt)
        obtain ⟨b', off', A', ca', m', rfl, hbl', hc', hrd', hml'⟩ := (HH'.out.below hb.out).at_ (k := j) (by rw [HN.out.2]; exact hlt)
        have hmb : m ≤ 9223372036854775807 := by
          have := HA.out _ (M.row_mem (l := a2) (k := j) (by rw [HN.out.1]; exact hlt))
          rw [hml.out] at this
          omega
        have C1 : Hid (∀ wx, Below wr.heap.size wr wx → Calls Try.prog 48 #[.slice A m ca, .slice A' m' ca'] wx fun e w' => e = .returned (.int .i64 (M.cmp (M.row a2 j) (M.row b2 j))) ∧ Below wx.heap.size wx w') := fun wx hbx => vcmp_at A A' m m' ca ca' _ _ wx (hrd.below hbx) (hrd'.below hbx) hml.out hml'.out hmb
        obtain ⟨q, hq⟩ : ∃ q, M.cmp (M.row a2 j) (M.row b2 j) = q := ⟨_, rfl⟩
        rw [hq] at C1
        have HQ := Lib.hid hq
        have HD : Hid (Below wr.heap.size wr wr.drew) := (Below.refl _ _).drew
        have sD : wr.drew.cell? ⟨b, off + j, none⟩ = some (.slice A m ca) ∧ wr.drew.cell? ⟨b', off' + j, none⟩ = some (.slice A' m' ca') := ⟨hc, hc'⟩
        have s0 : wr.cell? ⟨b, off + j, none⟩ = some (.slice A m ca) ∧ wr.cell? ⟨b', off' + j, none⟩ = some (.slice A' m' ca') := ⟨hc, hc'⟩
        have HS : ∀ wx, Below wr.heap.size wr wx → wx.cell? ⟨b, off + j, none⟩ = some (.slice A m ca) ∧ wx.cell? ⟨b', off' + j, none⟩ = some (.slice A' m' ca') := fun wx hbx => ⟨(hbx.cell (p := ⟨b, off + j, none⟩) hbl).trans hc, (hbx.cell (p := ⟨b', off' + j, none⟩) hbl').trans hc'⟩
        clear hq hc hc' hrd hrd'
        by_cases hq0 : q = 0
        · subst hq0
          have hN2 : Hid (∀ i, i < j + 1 → M.row a2 i = M.row b2 i) := fun i hi => by
            rcases Nat.lt_or_ge i j with h1 | h1
            · exact ha.out i h1
            · obtain rfl : i = j := by omega
              exact M.cmp_zero_iff.1 HQ.out
          go_wp2_with fail
          go_region_held3 (fun wx => wx.cell? ⟨b, off + j, none⟩ = some (.slice A m ca) ∧ wx.cell? ⟨b', off' + j, none⟩ = some (.slice A' m' ca'))
            (first | (with_reducible exact s1) | (with_reducible exact s0) | (with_reducible exact sD) | go_keep)
            (first
              | (go_at_call 48
                 (with_reducible refine (C1.out _ HD.out).mono ?_)
                 rintro e z1 ⟨rfl, hz1⟩
                 have t1 := Lib.hid (below_next HD.out hz1)
                 have s1 := HS _ t1.out
                 dsimp only)
              | fail)
          have HF := Lib.hid (below_next hb.out t1.out)
          clear ha HQ HS s0 sD s1 t1 C1 HD
          go_wp2
          go_roundw
          case rel => exact ⟨j + 1, by omega, by go_num, hN2, HF⟩
          case measure => simp [intOf]; omega
        · have hq1 : (q != 0) = true := by simpa using hq0
          obtain rfl : R = false := by
            cases hRR : R with
            | false => rfl
            | true =>
              exfalso
              have h9 := HR.out.1 hRR
              apply hq0
              rw [← HQ.out, h9, M.cmp_self]
          go_wp2_with fail
          go_region_held3 (fun wx => wx.cell? ⟨b, off + j, none⟩ = some (.slice A m ca) ∧ wx.cell? ⟨b', off' + j, none⟩ = some (.slice A' m' ca'))
            (first | (with_reducible exact s1) | (with_reducible exact s0) | (with_reducible exact sD) | go_keep)
            (first
              | (go_at_call 48
                 (with_reducible refine (C1.out _ HD.out).mono ?_)
                 rintro e z1 ⟨rfl, hz1⟩
                 have t1 := Lib.hid (below_next HD.out hz1)
                 have s1 := HS _ t1.out
                 dsimp only)
              | fail)
          have HF := Lib.hid (below_next hb.out t1.out)
          go_wp2
          go_ret
          exact ⟨rfl, HF.out⟩
      · obtain rfl : j = N := by omega
        obtain rfl : R = true := HR.out.2 (rows_ext (by rw [HN.out.1, HN.out.2]) fun i hi => ha.out i (by rw [← HN.out.1]; exact hi))
        go_wp2
        go_ret
        exact ⟨rfl, hb.out⟩
  · have d0 : ((N : Int) != (N2 : Int)) = true := by rw [bne_iff_ne]; omega
    obtain rfl : R = false := by
      cases hRR : R with
      | false => rfl
      | true =>
        exfalso
        have h9 := HR.out.1 hRR
        rw [h9] at hN
        omega
    clear hR hN hN2 h h' hall
    go_enter Try.func47, Try.ntmps47
    go_wp2
    go_ret
    exact ⟨rfl, Below.refl _ _⟩
end Go.Proofs.Ytjodhihcckcefaa
