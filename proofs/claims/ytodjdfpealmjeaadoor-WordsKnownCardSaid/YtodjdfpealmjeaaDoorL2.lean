/-
  The walk of the law WordsCompare.
-/
import Derived.Test.YtodjdfpealmjeaaDoorW14
import Derived.Test.YtodjdfpealmjeaaDoorCmpM
namespace Go.Proofs.YtodjdfpealmjeaaDoor
open Go.RowKit

theorem rcmp_lit (A B : Option Addr) (n m c d : Nat) (x y : List Int) (r : Int) (w : World) (hx : Rd w A x) (hy : Rd w B y) (hn : x.length = n) (hm : y.length = m) (hb : n ≤ 1000000) (hr : M.cmp x y = r) :
    Calls Tryd.prog 19 #[.slice A n c, .slice B m d] w fun e w' => e = .returned (.int .i64 r) ∧ Below w.heap.size w w' := by
  subst hn hm hr
  exact rcmp_any A B c d x y w hx hy (by omega)
theorem rpre_lit (A B : Option Addr) (n m c d : Nat) (x y : List Int) (r : Int) (w : World) (hx : Rd w A x) (hy : Rd w B y) (hn : x.length = n) (hm : y.length = m) (hb : n ≤ 1000000) (hr : M.preI x y = r) :
    Calls Tryd.prog 21 #[.slice A n c, .slice B m d] w fun e w' => e = .returned (.int .i64 r) ∧ Below w.heap.size w w' := by
  subst hn hm hr
  exact rpre_any A B c d x y w hx hy (by omega)
theorem join_lit (A B : Option Addr) (n m c d : Nat) (x y : List Int) (w : World) (hx : Rd w A x) (hy : Rd w B y) (hn : x.length = n) (hm : y.length = m) (hb : n + m ≤ 65536) :
    Calls Tryd.prog 22 #[.slice A n c, .slice B m d] w fun e w' => ∃ D k c, e = .returned (.slice D k c) ∧ Hid ((x ++ y).length = k) ∧ k ≤ 65536 ∧ Rd w' D (x ++ y) ∧ k ≤ c ∧ Below w.heap.size w w' := by
  subst hn hm
  refine (join_any A B c d x y w hx hy hb).mono ?_
  rintro e w' ⟨D, c, rfl, h1, h2, h3⟩
  exact ⟨D, _, c, rfl, rfl, by rw [List.length_append]; exact hb, h1, h2, h3⟩

set_option maxRecDepth 100000 in
set_option maxHeartbeats 3200000 in
theorem wordsCompare_main (A B C : Option Addr) (ca cb cc : Nat) (a b c : List Int) (w : World) (he : Env w) (ha : Rd w A a) (hb : Rd w B b) (hc : Rd w C c) (la : a.length ≤ 300) (lb : b.length ≤ 300) (lc : c.length ≤ 300) (hcb : b.length ≤ cb) :
    Calls Tryd.prog 4 #[.slice A a.length ca, .slice B b.length cb, .slice C c.length cc] w fun e w' => e = .returned (.bool true) ∧ Below w.heap.size w w' := by
  obtain ⟨x, hx⟩ : ∃ x, M.cmp a b = x := ⟨_, rfl⟩
  obtain ⟨y, hy⟩ : ∃ y, M.cmp b c = y := ⟨_, rfl⟩
  obtain ⟨z, hz⟩ : ∃ z, M.cmp a c = z := ⟨_, rfl⟩
  obtain ⟨p, hp⟩ : ∃ p, M.pre a b = p := ⟨_, rfl⟩
  have hsw : M.cmp b a = -x := by rw [M.cmp_swap a b, hx]
  have htr : x ≤ 0 → y ≤ 0 → z ≤ 0 := fun h1 h2 => by rw [← hz]; exact M.cmp_trans (by rw [hx]; exact h1) (by rw [hy]; exact h2)
  have heq : x = 0 → z = y := fun h => by rw [← hz, ← hy]; exact M.cmp_same (by rw [hx]; exact h)
  have hpx : p = true → x ≤ 0 := fun h => by rw [← hx]; exact M.pre_cmp (by rw [hp]; exact h)
  have hrx := M.cmp_range a b
  obtain ⟨r, hr⟩ : ∃ r, M.preI a b = r := ⟨_, rfl⟩
  have hpr : (p = true ∧ r = 1) ∨ (p = false ∧ r = 0) := by
    have := M.preI_of hp
    rw [hr] at this
    cases p
    · exact .inr ⟨rfl, by simpa using this⟩
    · exact .inl ⟨rfl, by simpa using this⟩
  rw [hx] at hrx
  have HX := Lib.hid hx
  have HY := Lib.hid hy
  have HZ := Lib.hid hz
  have HP := Lib.hid hp
  have HPI := Lib.hid hr
  have HPR := Lib.hid hpr
  have HSW := Lib.hid hsw
  have HTR := Lib.hid htr
  have HEQ := Lib.hid heq
  have HPX := Lib.hid hpx
  have hx1 : -1 ≤ x := by omega
  have hx2 : x ≤ 1 := by omega
  have h0 := (((St.start w).put hc).put hb).put ha
  clear hx hy hz hp hr hpr hsw htr heq hpx hrx ha hb hc
  go_enter Tryd.func4, Tryd.ntmps4
  go_wp2_with fail
  refine (cmp_lit _ _ _ _ _ _ a b x _ (h0.rd 0 rfl) (h0.rd 1 rfl) rfl rfl (by omega) HX.out).mono ?_
  rintro e w1 ⟨rfl, hb1⟩
  have h1 := h0.next hb1
  clear h0 hb1
  go_wp2_with fail
  refine (cmp_lit _ _ _ _ _ _ b c y _ (h1.rd 1 rfl) (h1.rd 2 rfl) rfl rfl (by omega) HY.out).mono ?_
  rintro e w2 ⟨rfl, hb2⟩
  have h2 := h1.next hb2
  clear h1 hb2
  go_wp2_with fail
  refine (cmp_lit _ _ _ _ _ _ a c z _ (h2.rd 0 rfl) (h2.rd 2 rfl) rfl rfl (by omega) HZ.out).mono ?_
  rintro e w3 ⟨rfl, hb3⟩
  have h3 := h2.next hb3
  clear h2 hb3
  go_wp2_with fail
  refine (rcmp_lit _ _ _ _ _ _ a b x _ (h3.rd 0 rfl) (h3.rd 1 rfl) rfl rfl (by omega) HX.out).mono ?_
  rintro e w4 ⟨rfl, hb4⟩
  have h4 := h3.next hb4
  clear h3 hb4
  go_wp2_with fail
  refine (cmp_lit _ _ _ _ _ _ b a (-x) _ (h4.rd 1 rfl) (h4.rd 0 rfl) rfl rfl (by omega) HSW.out).mono ?_
  rintro e w5 ⟨rfl, hb5⟩
  have h5 := h4.next hb5
  clear h4 hb5
  go_wp2_with fail
  refine (cmp_lit _ _ _ _ _ _ a a 0 _ (h5.rd 0 rfl) (h5.rd 0 rfl) rfl rfl (by omega) (M.cmp_self a)).mono ?_
  rintro e w6 ⟨rfl, hb6⟩
  have h6 := h5.next hb6
  clear h5 hb6
  have hsplit : (x = 0 ∧ z = y ∧ y ≤ 0) ∨ (x = 0 ∧ z = y ∧ 0 < y) ∨ (x < 0 ∧ y ≤ 0 ∧ z ≤ 0) ∨ (x < 0 ∧ 0 < y) ∨ (0 < x ∧ p = false) := by
    rcases Int.lt_trichotomy x 0 with h | h | h
    · by_cases h2 : y ≤ 0
      · exact .inr (.inr (.inl ⟨h, h2, HTR.out (by omega) h2⟩))
      · exact .inr (.inr (.inr (.inl ⟨h, by omega⟩)))
    · by_cases h2 : y ≤ 0
      · exact .inl ⟨h, HEQ.out h, h2⟩
      · exact .inr (.inl ⟨h, HEQ.out h, by omega⟩)
    · refine .inr (.inr (.inr (.inr ⟨h, ?_⟩)))
      cases hq : p
      · rfl
      · have := HPX.out hq; omega
  have hall : ∃ b0 : Bool, (x == 0) = b0 := ⟨_, rfl⟩
  obtain ⟨b0, hb0⟩ := hall
  have hnx : p = true → ¬ 0 < x := fun h => by have := HPX.out h; omega
  have hyy : (y != y) = false := by simp
  rcases HPR.out with ⟨rfl, rfl⟩ | ⟨rfl, rfl⟩
  all_goals
    have HNX := Lib.hid hnx
    clear HTR HEQ HPX HSW HPR hnx
    rcases hsplit with ⟨rfl, rfl, hs1⟩ | ⟨rfl, rfl, hs1⟩ | ⟨hs1, hs2, hs3⟩ | ⟨hs1, hs2⟩ | ⟨hs1, hs2⟩
    any_goals (try (exfalso; exact absurd hs2 (by decide)))
    all_goals
      first
        | (have hx0 : (x == 0) = false := by (simp; omega))
        | skip
      clear hb0
      first
        | (have hngt := HNX.out rfl)
        | skip
      go_wp2_with fail
      refine (pre_lit _ _ _ _ _ _ a b _ _ (h6.rd 0 rfl) (h6.rd 1 rfl) rfl rfl (by omega) hcb HP.out).mono ?_
      rintro e w7 ⟨rfl, hb7⟩
      have h7 := h6.next hb7
      clear h6 hb7
      go_wp2_with fail
      refine (rpre_lit _ _ _ _ _ _ a b _ _ (h7.rd 0 rfl) (h7.rd 1 rfl) rfl rfl (by omega) HPI.out).mono ?_
      rintro e w8 ⟨rfl, hb8⟩
      have h8 := h7.next hb8
      clear h7 hb8
      go_wp2_with fail
      refine (join_lit _ _ _ _ _ _ a b _ (h8.rd 0 rfl) (h8.rd 1 rfl) rfl rfl (by omega)).mono ?_
      rintro e w9 ⟨D, k, dc, rfl, hk, hk2, hrd, hkc, hb9⟩
      have h9 := (h8.next hb9).put hrd
      clear h8 hb9 hrd
      go_wp2_with fail
      refine (pre_lit _ _ _ _ _ _ a (a ++ b) true _ (h9.rd 1 rfl) (h9.rd 0 rfl) rfl hk.out (by omega) hkc (M.pre_app a b)).mono ?_
      rintro e w10 ⟨rfl, hb10⟩
      have h10 := h9.next hb10
      clear h9 hb10
      go_wp2_with fail
      refine (pre_lit _ _ _ _ _ _ a b _ _ (h10.rd 1 rfl) (h10.rd 2 rfl) rfl rfl (by omega) hcb HP.out).mono ?_
      rintro e w11 ⟨rfl, hb11⟩
      have h11 := h10.next hb11
      clear h10 hb11
      go_wp2_with fail
      refine (lives_any _ (h11.env he)).mono ?_
      rintro e w12 ⟨rfl, hb12⟩
      have h12 := h11.next hb12
      go_wp2
      go_ret
      exact ⟨rfl, h12.1⟩

theorem wordsCompare_walk (A B C : Option Addr) (ca cb cc : Nat) (a b c : List Int) (w : World) (he : Env w) (ha : Rd w A a) (hb : Rd w B b) (hc : Rd w C c) (hcb : b.length ≤ cb) :
    Calls Tryd.prog 4 #[.slice A a.length ca, .slice B b.length cb, .slice C c.length cc] w fun e w' => e = .returned (.bool true) ∧ Below w.heap.size w w' := by
  by_cases la : a.length ≤ 300
  · by_cases lb : b.length ≤ 300
    · by_cases lc : c.length ≤ 300
      · exact wordsCompare_main A B C ca cb cc a b c w he ha hb hc la lb lc hcb
      · go_enter Tryd.func4, Tryd.ntmps4
        go_wp2
        go_ret
        exact ⟨rfl, Below.refl _ _⟩
    · go_enter Tryd.func4, Tryd.ntmps4
      go_wp2
      go_ret
      exact ⟨rfl, Below.refl _ _⟩
  · go_enter Tryd.func4, Tryd.ntmps4
    go_wp2
    go_ret
    exact ⟨rfl, Below.refl _ _⟩
end Go.Proofs.YtodjdfpealmjeaaDoor
