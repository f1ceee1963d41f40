/-
  The walk of the law WordsConcat.
-/
import Derived.Test.YtodjdfpealmjeaaDoorL1
import Derived.Test.YtodjdfpealmjeaaDoorL2
namespace Go.Proofs.YtodjdfpealmjeaaDoor
open Go.RowKit

theorem rcheck_lit (A : Option Addr) (n c : Nat) (zs : List Int) (i q : Int) (w : World) (h : Rd w A zs) (hn : zs.length = n) (hq : M.check zs i = q) :
    Calls Tryd.prog 11 #[.slice A n c, .int .i64 i] w fun e w' => e = .returned (.int .i64 q) ∧ Below w.heap.size w w' := by
  subst hn hq
  exact rcheck_any A c zs i w h
theorem rdS_two {w : World} {A B : Option Addr} {n m c d : Nat} {x y : List Int} (hx : Rd w A x) (hy : Rd w B y) (hn : x.length = n) (hm : y.length = m) : RdS (w.alloc (.cells #[.slice A n c, .slice B m d] 22)) (some ⟨w.heap.size, 0, none⟩) [x, y] := by
  subst hn hm
  exact rdS_lit (vs := [.slice A x.length c, .slice B y.length d]) fun k hk => by
    match k, hk with
    | 0, _ => exact ⟨A, c, rfl, hx⟩
    | 1, _ => exact ⟨B, d, rfl, hy⟩
    | k + 2, hk => simp at hk; omega
theorem row_two {x y : List Int} (hx : x.length ≤ 1000000) (hy : y.length ≤ 1000000) : ∀ k, (M.row [x, y] k).length ≤ 1000000 := fun k => by
  match k with
  | 0 => exact hx
  | 1 => exact hy
  | k + 2 => simp [M.row]
theorem word_lit2 (A B : Option Addr) (n m d : Nat) (x : List Int) (f : Int) (w : World) (hx : Rd w A x) (hy : Rd w B x) (hn : x.length = n) (hm : x.length = m) (hb : n ≤ 1000000) :
    Calls Tryd.prog 14 #[.slice A n n, .int .i64 f, .slice B m d, .int .i64 f] w fun e w' => e = .returned (.bool true) ∧ Below w.heap.size w w' := by
  subst hm
  subst hn
  exact word_yes A B x.length d x f w hx hy rfl (by omega)
/-- The error that the law expects of two lists. -/
theorem cat_two {n f : Int} {x y : List Int} (hf : (if M.check x n = 0 then M.check y n else M.check x n) = f) : (f ≠ 0 → M.catE n [x, y] = f ∧ M.catV n [x, y] = []) ∧ (f = 0 → 256 < (x ++ y).length → M.catE n [x, y] = 3 ∧ M.catV n [x, y] = []) ∧ (f = 0 → ¬ 256 < (x ++ y).length → M.catE n [x, y] = 0 ∧ M.catV n [x, y] = x ++ y) := by
  have h1 : M.ferr n [x, y] = f := by
    rw [← hf]
    by_cases a : M.check x n = 0
    · by_cases b : M.check y n = 0
      · simp [M.ferr, a, b]
      · simp [M.ferr, a, b]
    · simp [M.ferr, a]
  have ht : M.total [x, y] = (x ++ y).length := by simp [M.total]
  refine ⟨fun h => M.cat_err h1 h, fun h h2 => M.cat_limit (by rw [h1]; exact h) (by rw [ht]; exact h2), fun h h2 => ?_⟩
  have := M.cat_ok (n := n) (rows := [x, y]) (by rw [h1]; exact h) (by rw [ht]; exact h2)
  simpa using this

set_option maxRecDepth 100000 in
set_option maxHeartbeats 3200000 in
theorem wordsConcat_main (A B : Option Addr) (ca cb : Nat) (a b : List Int) (n : Int) (w : World) (he : Env w) (ha : Rd w A a) (hb : Rd w B b) (la : a.length ≤ 300) (lb : b.length ≤ 300) :
    Calls Tryd.prog 5 #[.slice A a.length ca, .slice B b.length cb, .int .i64 n] w fun e w' => e = .returned (.bool true) ∧ Below w.heap.size w w' := by
  obtain ⟨f1, hf1⟩ : ∃ f, M.check a n = f := ⟨_, rfl⟩
  obtain ⟨f2, hf2⟩ : ∃ f, M.check b n = f := ⟨_, rfl⟩
  obtain ⟨q, hq⟩ : ∃ q, M.catE n [a, b] = q := ⟨_, rfl⟩
  obtain ⟨xs, hxs⟩ : ∃ xs, M.catV n [a, b] = xs := ⟨_, rfl⟩
  have hcat := cat_two (n := n) (x := a) (y := b) rfl
  rw [hf1, hf2, hq, hxs] at hcat
  have HF1 := Lib.hid hf1
  have HF2 := Lib.hid hf2
  have HQ := Lib.hid hq
  have HXS := Lib.hid hxs
  have HCAT := Lib.hid hcat
  have h0 := ((St.start w).put hb).put ha
  clear hf1 hf2 hq hxs hcat ha hb
  go_enter Tryd.func5, Tryd.ntmps5
  go_wp2_with fail
  refine (concat_at _ _ _ [a, b] _ q xs _ (rdS_two (h0.rd 0 rfl) (h0.rd 1 rfl) rfl rfl) rfl (by simp) (row_two (by omega) (by omega)) HQ.out HXS.out).mono ?_
  rintro e w1 ⟨D, rfl, hr1, hb1⟩
  have h1 := (h0.one hb1).put hr1
  clear h0 hr1 hb1
  go_wp2_with fail
  refine (rcheck_lit _ _ _ a _ f1 _ (h1.rd 1 rfl) rfl HF1.out).mono ?_
  rintro e w2 ⟨rfl, hb2⟩
  have h2 := h1.next hb2
  clear h1 hb2
  by_cases c1 : f1 = 0
  · subst c1
    go_wp2_with fail
    refine (rcheck_lit _ _ _ b _ f2 _ (h2.rd 2 rfl) rfl HF2.out).mono ?_
    rintro e w3 ⟨rfl, hb3⟩
    have h3 := h2.next hb3
    clear h2 hb3
    go_wp2_with fail
    refine (join_lit _ _ _ _ _ _ a b _ (h3.rd 1 rfl) (h3.rd 2 rfl) rfl rfl (by omega)).mono ?_
    rintro e w4 ⟨J, k, dc, rfl, hk, hk2, hrd, hkc, hb4⟩
    have h4 := (h3.next hb4).put hrd
    clear h3 hb4 hrd
    by_cases c2 : f2 = 0
    · subst c2
      by_cases c3 : 256 < k
      · obtain ⟨g1, g2⟩ := HCAT.out.2.1 (by simp) (by rw [hk.out]; exact c3)
        subst g1 g2
        go_wp2_with fail
        refine (word_lit _ _ _ _ [] _ _ (h4.rd 1 rfl) Rd.nil_ rfl (by decide)).mono ?_
        rintro e w5 ⟨rfl, hb5⟩
        have h5 := h4.next hb5
        clear h4 hb5
        go_wp2_with fail
        refine (lives_any _ (h5.env he)).mono ?_
        rintro e w6 ⟨rfl, hb6⟩
        have h6 := h5.next hb6
        go_wp2
        go_ret
        exact ⟨rfl, h6.1⟩
      · obtain ⟨g1, g2⟩ := HCAT.out.2.2 (by simp) (by rw [hk.out]; exact c3)
        subst g1 g2
        go_wp2_with fail
        refine (word_lit2 _ _ _ _ _ (a ++ b) _ _ (h4.rd 1 rfl) (h4.rd 0 rfl) (by simp) hk.out (by omega)).mono ?_
        rintro e w5 ⟨rfl, hb5⟩
        have h5 := h4.next hb5
        clear h4 hb5
        go_wp2_with fail
        refine (lives_any _ (h5.env he)).mono ?_
        rintro e w6 ⟨rfl, hb6⟩
        have h6 := h5.next hb6
        go_wp2
        go_ret
        exact ⟨rfl, h6.1⟩
    · obtain ⟨g1, g2⟩ := HCAT.out.1 (by simpa using c2)
      replace g1 : q = f2 := by simpa using g1
      subst g1 g2
      have c2b : (q == 0) = false := by simpa using c2
      have c2c : (q != 0) = true := by simpa using c2
      clear c2 HCAT
      go_wp2_with fail
      refine (word_lit _ _ _ _ [] _ _ (h4.rd 1 rfl) Rd.nil_ rfl (by decide)).mono ?_
      rintro e w5 ⟨rfl, hb5⟩
      have h5 := h4.next hb5
      clear h4 hb5
      go_wp2_with fail
      refine (lives_any _ (h5.env he)).mono ?_
      rintro e w6 ⟨rfl, hb6⟩
      have h6 := h5.next hb6
      go_wp2
      go_ret
      exact ⟨rfl, h6.1⟩
  · obtain ⟨g1, g2⟩ := HCAT.out.1 (by simp [c1])
    replace g1 : q = f1 := by simpa [c1] using g1
    subst g1 g2
    have c2b : (q == 0) = false := by simpa using c1
    have c2c : (q != 0) = true := by simpa using c1
    clear c1 HCAT
    go_wp2_with fail
    refine (join_lit _ _ _ _ _ _ a b _ (h2.rd 1 rfl) (h2.rd 2 rfl) rfl rfl (by omega)).mono ?_
    rintro e w4 ⟨J, k, dc, rfl, hk, hk2, hrd, hkc, hb4⟩
    have h4 := (h2.next hb4).put hrd
    clear h2 hb4 hrd
    go_wp2_with fail
    refine (word_lit _ _ _ _ [] _ _ (h4.rd 1 rfl) Rd.nil_ rfl (by decide)).mono ?_
    rintro e w5 ⟨rfl, hb5⟩
    have h5 := h4.next hb5
    clear h4 hb5
    go_wp2_with fail
    refine (lives_any _ (h5.env he)).mono ?_
    rintro e w6 ⟨rfl, hb6⟩
    have h6 := h5.next hb6
    go_wp2
    go_ret
    exact ⟨rfl, h6.1⟩

theorem wordsConcat_walk (A B : Option Addr) (ca cb : Nat) (a b : List Int) (n : Int) (w : World) (he : Env w) (ha : Rd w A a) (hb : Rd w B b) :
    Calls Tryd.prog 5 #[.slice A a.length ca, .slice B b.length cb, .int .i64 n] w fun e w' => e = .returned (.bool true) ∧ Below w.heap.size w w' := by
  by_cases la : a.length ≤ 300
  · by_cases lb : b.length ≤ 300
    · exact wordsConcat_main A B ca cb a b n w he ha hb la lb
    · go_enter Tryd.func5, Tryd.ntmps5
      go_wp2
      go_ret
      exact ⟨rfl, Below.refl _ _⟩
  · go_enter Tryd.func5, Tryd.ntmps5
    go_wp2
    go_ret
    exact ⟨rfl, Below.refl _ _⟩
end Go.Proofs.YtodjdfpealmjeaaDoor
