/-
  Contracts: the reference's Compare, Same, Prefix, Check; words.Compare, words.Prefix; slices.Equal.
-/
import Derived.Test.YtodjdfpealmjeaaDoorW1
namespace Go.Proofs.YtodjdfpealmjeaaDoor
open Go.RowKit

theorem rcheck_any (A : Option Addr) (c : Nat) (zs : List Int) (n : Int) (w : World) (h : Rd w A zs) :
    Calls Tryd.prog 11 #[.slice A zs.length c, .int .i64 n] w fun e w' => e = .returned (.int .i64 (M.check zs n)) ∧ Below w.heap.size w w' := by
  by_cases h1 : 16 < n
  · have hf : Hid (M.check zs n = 3) := M.check_limit (.inl h1)
    go_enter Tryd.func11, Tryd.ntmps11
    go_wp2
    go_ret
    exact ⟨ret_int hf.out.symm, Below.refl _ _⟩
  · by_cases h2 : 256 < zs.length
    · have hf : Hid (M.check zs n = 3) := M.check_limit (.inr h2)
      go_enter Tryd.func11, Tryd.ntmps11
      go_wp2
      go_ret
      exact ⟨ret_int hf.out.symm, Below.refl _ _⟩
    · by_cases h3 : n < 1
      · have hf : Hid (M.check zs n = 1) := M.check_arg (by omega) h3
        go_enter Tryd.func11, Tryd.ntmps11
        go_wp2
        go_ret
        exact ⟨ret_int hf.out.symm, Below.refl _ _⟩
      · rw [M.check_in (by omega) (by omega) (by omega)]
        exact rcheck_loop A c zs n w h (by omega) (by omega) (by omega)

theorem rcmp_any (A B : Option Addr) (c d : Nat) (x y : List Int) (w : World) (hx : Rd w A x) (hy : Rd w B y) (hm : x.length ≤ 9223372036854775807) :
    Calls Tryd.prog 19 #[.slice A x.length c, .slice B y.length d] w fun e w' => e = .returned (.int .i64 (M.cmp x y)) ∧ Below w.heap.size w w' := by
  rcases Nat.lt_trichotomy x.length y.length with h | h | h
  · have hf : Hid (M.cmp x y = -1) := M.cmp_short h
    go_enter Tryd.func19, Tryd.ntmps19
    go_wp2
    go_ret
    exact ⟨ret_int hf.out.symm, Below.refl _ _⟩
  · exact rcmp_loop A B c d x y w hx hy h hm
  · have hf : Hid (M.cmp x y = 1) := M.cmp_long h
    go_enter Tryd.func19, Tryd.ntmps19
    go_wp2
    go_ret
    exact ⟨ret_int hf.out.symm, Below.refl _ _⟩

theorem wcmp_any (A B : Option Addr) (c d : Nat) (x y : List Int) (w : World) (hx : Rd w A x) (hy : Rd w B y) (hm : x.length ≤ 9223372036854775807) :
    Calls Tryd.prog 18 #[.slice A x.length c, .slice B y.length d] w fun e w' => e = .returned (.int .i64 (M.cmp x y)) ∧ Below w.heap.size w w' := by
  rcases Nat.lt_trichotomy x.length y.length with h | h | h
  · have hf : Hid (M.cmp x y = -1) := M.cmp_short h
    have hs : Hid (M.sgn x.length y.length = -1) := M.sgn_lt (by omega)
    go_enter Tryd.func18, Tryd.ntmps18
    go_wp2_with fail
    refine (cmpc_any _ _ _).mono ?_
    rintro e w1 ⟨rfl, hb1⟩
    rw [hs.out]
    go_wp2
    go_ret
    exact ⟨ret_int hf.out.symm, hb1⟩
  · have H := Lib.hid h
    have hs : Hid (M.sgn x.length y.length = 0) := M.sgn_eq (by omega)
    clear h
    go_enter Tryd.func18, Tryd.ntmps18
    go_wp2_with fail
    refine (cmpc_any _ _ _).mono ?_
    rintro e w1 ⟨rfl, hb1⟩
    rw [hs.out]
    go_wp2_with fail
    refine (scmp_loop _ _ _ _ _ _ _ (hx.below hb1) (hy.below hb1) H.out hm).mono ?_
    rintro e w2 ⟨rfl, hb2⟩
    go_wp2
    go_ret
    exact ⟨rfl, below_next hb1 hb2⟩
  · have hf : Hid (M.cmp x y = 1) := M.cmp_long h
    have hs : Hid (M.sgn x.length y.length = 1) := M.sgn_gt (by omega)
    go_enter Tryd.func18, Tryd.ntmps18
    go_wp2_with fail
    refine (cmpc_any _ _ _).mono ?_
    rintro e w1 ⟨rfl, hb1⟩
    rw [hs.out]
    go_wp2
    go_ret
    exact ⟨ret_int hf.out.symm, hb1⟩

theorem same_any (A B : Option Addr) (c d : Nat) (x y : List Int) (w : World) (hx : Rd w A x) (hy : Rd w B y) (hm : x.length ≤ 9223372036854775807) :
    Calls Tryd.prog 26 #[.slice A x.length c, .slice B y.length d] w fun e w' => e = .returned (.bool (M.same x y)) ∧ Below w.heap.size w w' := by
  go_enter Tryd.func26, Tryd.ntmps26
  go_wp2_with fail
  refine (rcmp_any _ _ _ _ _ _ _ hx hy hm).mono ?_
  rintro e w1 ⟨rfl, hb1⟩
  go_wp2
  go_ret
  exact ⟨ret_bool M.same_def, hb1⟩

set_option maxHeartbeats 400000 in
theorem seq_loop (A B : Option Addr) (c d : Nat) (x y : List Int) (w : World) (hx : Rd w A x) (hy : Rd w B y) (h1 : x.length = y.length) (hm : x.length ≤ 9223372036854775807) :
    Calls Tryd.prog 36 #[.slice A x.length c, .slice B y.length d] w fun e w' => e = .returned (.bool (M.same x y)) ∧ Below w.heap.size w w' := by
  have H1 := Lib.hid h1
  have h2 : ((x.length : Int) != y.length) = false := by simp; omega
  clear h1
  go_enter Tryd.func36, Tryd.ntmps36
  go_wp2
  go_loopw [13] (fun i wr => ∃ k : Nat, k ≤ x.length ∧ i = .int .i64 k ∧ Hid (x.take k = y.take k) ∧ Below w.heap.size w wr) (fun i _ => x.length - (intOf i).toNat)
  case atStart => exact ⟨0, Nat.zero_le _, rfl, by simp [Hid], Below.refl _ _⟩
  case round =>
    obtain ⟨k, hk, rfl, hn, hbr⟩ := hrel
    by_cases hlt : k < x.length
    · obtain ⟨b, off, z, rfl, hb, hc, hz⟩ := (hx.below hbr).at_ hlt
      obtain ⟨b2, off2, z2, rfl, hb2, hc2, hz2⟩ := (hy.below hbr).at_ (k := k) (by have := H1.out; omega)
      have hk2 : (k : Int) < y.length := by have := H1.out; omega
      by_cases hzz : z = z2
      · subst hzz
        have hn' : Hid (x.take (k + 1) = y.take (k + 1)) := M.take_snoc_eq hlt (by omega) hn.out (by rw [hz.out, hz2.out])
        have hne : (z != z) = false := by simp
        go_wp2
        go_quiet (fail)
        go_wp2
        go_roundw
        case rel => exact ⟨k + 1, by omega, by go_num, hn', below_drewN' hbr _⟩
        case measure => simp [intOf]; omega
      · have hfin : Hid (M.same x y = false) := M.same_no (M.ne_of_at (k := k) (by rw [hz.out, hz2.out]; exact hzz))
        have hne : (z != z2) = true := by simpa using hzz
        clear hzz
        go_wp2
        go_quiet (fail)
        go_wp2
        go_ret
        exact ⟨ret_bool hfin.out.symm, below_drewN' hbr _⟩
    · have hfin : Hid (M.same x y = true) := M.same_yes (M.cmp_zero_iff.1 (M.cmp_end (by omega) (by have := H1.out; omega) hn.out))
      go_wp2
      go_ret
      exact ⟨ret_bool hfin.out.symm, hbr⟩
theorem seq_at (A B : Option Addr) (m n c d : Nat) (x y : List Int) (w : World) (hx : Rd w A x) (hy : Rd w B y) (e1 : x.length = m) (e2 : y.length = n) (h1 : m = n) (hm : m ≤ 9223372036854775807) :
    Calls Tryd.prog 36 #[.slice A m c, .slice B n d] w fun e w' => e = .returned (.bool (M.same x y)) ∧ Below w.heap.size w w' := by
  subst e1; subst e2
  exact seq_loop A B c d x y w hx hy h1 hm
set_option maxHeartbeats 400000 in
theorem rpre_loop (A B : Option Addr) (c d : Nat) (x y : List Int) (w : World) (hx : Rd w A x) (hy : Rd w B y) (h1 : x.length ≤ y.length) (hm : x.length ≤ 9223372036854775807) :
    Calls Tryd.prog 21 #[.slice A x.length c, .slice B y.length d] w fun e w' => e = .returned (.int .i64 (M.preI x y)) ∧ Below w.heap.size w w' := by
  go_enter Tryd.func21, Tryd.ntmps21
  go_wp2
  go_loopw [5] (fun i wr => ∃ k : Nat, k ≤ x.length ∧ i = .int .i64 k ∧ Hid (x.take k = y.take k) ∧ Below w.heap.size w wr) (fun i _ => x.length - (intOf i).toNat)
  case atStart => exact ⟨0, Nat.zero_le _, rfl, by simp [Hid], Below.refl _ _⟩
  case round =>
    obtain ⟨k, hk, rfl, hn, hbr⟩ := hrel
    by_cases hlt : k < x.length
    · obtain ⟨b, off, z, rfl, hb, hc, hz⟩ := (hx.below hbr).at_ hlt
      obtain ⟨b2, off2, z2, rfl, hb2, hc2, hz2⟩ := (hy.below hbr).at_ (k := k) (by omega)
      have hk2 : (k : Int) < y.length := by omega
      by_cases hzz : z = z2
      · subst hzz
        have hn' : Hid (x.take (k + 1) = y.take (k + 1)) := M.take_snoc_eq hlt (by omega) hn.out (by rw [hz.out, hz2.out])
        have hne : (z != z) = false := by simp
        go_wp2
        go_quiet (fail)
        go_wp2
        go_roundw
        case rel => exact ⟨k + 1, by omega, by go_num, hn', below_drewN' hbr _⟩
        case measure => simp [intOf]; omega
      · have hfin : Hid (M.preI x y = 0) := M.preI_no hlt (by rw [hz.out, hz2.out]; exact hzz)
        have hne : (z != z2) = true := by simpa using hzz
        clear hzz
        go_wp2
        go_quiet (fail)
        go_wp2
        go_ret
        exact ⟨ret_int hfin.out.symm, below_drewN' hbr _⟩
    · have hfin : Hid (M.preI x y = 1) := M.preI_yes (by
        have e := hn.out
        rw [List.take_of_length_le (show x.length ≤ k by omega)] at e
        have : k = x.length := by omega
        rw [← this]; exact e)
      go_wp2
      go_ret
      exact ⟨ret_int hfin.out.symm, hbr⟩
theorem rpre_any (A B : Option Addr) (c d : Nat) (x y : List Int) (w : World) (hx : Rd w A x) (hy : Rd w B y) (hm : x.length ≤ 9223372036854775807) :
    Calls Tryd.prog 21 #[.slice A x.length c, .slice B y.length d] w fun e w' => e = .returned (.int .i64 (M.preI x y)) ∧ Below w.heap.size w w' := by
  by_cases h : x.length ≤ y.length
  · exact rpre_loop A B c d x y w hx hy h hm
  · have hf : Hid (M.preI x y = 0) := M.preI_long (by omega)
    go_enter Tryd.func21, Tryd.ntmps21
    go_wp2
    go_ret
    exact ⟨ret_int hf.out.symm, Below.refl _ _⟩
theorem Rd.take {w : World} {A : Option Addr} {zs : List Int} (h : Rd w A zs) (n : Nat) : Rd w A (zs.take n) := fun hp => by
  have hl : (zs.take n).length ≤ zs.length := by rw [List.length_take]; omega
  obtain ⟨b, off, e, hb, hc⟩ := h (by omega)
  refine ⟨b, off, e, hb, fun k hk => ?_⟩
  rw [hc k (by omega), List.getElem?_take, if_pos (by rw [List.length_take] at hk; omega)]
theorem wpre_any (A B : Option Addr) (c d : Nat) (x y : List Int) (w : World) (hx : Rd w A x) (hy : Rd w B y) (hm : x.length ≤ 9223372036854775807) (hd : y.length ≤ d) :
    Calls Tryd.prog 20 #[.slice A x.length c, .slice B y.length d] w fun e w' => e = .returned (.bool (M.pre x y)) ∧ Below w.heap.size w w' := by
  by_cases h : x.length ≤ y.length
  · have hf : Hid (M.pre x y = M.same x (y.take x.length)) := M.pre_same h
    go_enter Tryd.func20, Tryd.ntmps20
    go_wp2_with fail
    refine (seq_at _ _ _ _ _ _ x (y.take x.length) _ hx (hy.take _) rfl (by simp; omega) rfl hm).mono ?_
    rintro e w1 ⟨rfl, hb1⟩
    go_wp2
    go_ret
    exact ⟨ret_bool hf.out.symm, hb1⟩
  · have hf : Hid (M.pre x y = false) := M.pre_long (by omega)
    go_enter Tryd.func20, Tryd.ntmps20
    go_wp2
    go_ret
    exact ⟨ret_bool hf.out.symm, Below.refl _ _⟩
end Go.Proofs.YtodjdfpealmjeaaDoor
