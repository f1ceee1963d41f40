/-
  The walk of the law WordsCheck.
-/
import Derived.Test.YtodjdfpealmjeaaDoorW8
import Derived.Test.YtodjdfpealmjeaaDoorW14
namespace Go.Proofs.YtodjdfpealmjeaaDoor
open Go.RowKit

theorem concat_at (L : Option Addr) (m c : Nat) (rows : List (List Int)) (n q : Int) (xs : List Int) (w : World) (h : RdS w L rows) (hm : rows.length = m) (hr : m ≤ 1000000) (hall : ∀ k, (M.row rows k).length ≤ 1000000) (hE : M.catE n rows = q) (hV : M.catV n rows = xs) :
    Calls Tryd.prog 13 #[.int .i64 n, .slice L m c] w fun e w' => ∃ B, e = .returned (.tuple #[.slice B xs.length xs.length, .int .i64 q]) ∧ Rd w' B xs ∧ Below w.heap.size w w' := by
  subst hm hE hV
  exact concat_any L c rows n w h hr hall
theorem rdS_nil (w : World) (L : Option Addr) : RdS w L [] := fun h => absurd h (by simp)
/-- A literal list of slices. -/
theorem rdS_lit {w : World} {t : TypeId} {rows : List (List Int)} {vs : List Value} (hr : ∀ k, k < rows.length → ∃ A c, vs[k]? = some (.slice A (M.row rows k).length c) ∧ Rd w A (M.row rows k)) :
    RdS (w.alloc (.cells vs.toArray t)) (some ⟨w.heap.size, 0, none⟩) rows := fun hp => by
  refine ⟨w.heap.size, 0, rfl, by simp, fun k hk => ?_⟩
  obtain ⟨A, c, h1, h2⟩ := hr k hk
  refine ⟨A, c, ?_, h2.alloc _⟩
  rw [cell_of_row _ w.heap.size (0 + k) _ t (0, 0) (heap_alloc_new w _), Nat.zero_add]
  simpa using h1
theorem rdS_one {w : World} {A : Option Addr} {n c : Nat} {zs : List Int} (h : Rd w A zs) (hn : zs.length = n) : RdS (w.alloc (.cells #[.slice A n c] 22)) (some ⟨w.heap.size, 0, none⟩) [zs] := by
  subst hn
  exact rdS_lit (vs := [.slice A zs.length c]) fun k hk => by
    have : k = 0 := by simpa using hk
    subst this
    exact ⟨A, c, rfl, h⟩
theorem cat_one {n q : Int} {zs : List Int} (h : M.check zs n = q) (hq : q ≠ 0) : M.catE n [zs] = q ∧ M.catV n [zs] = [] := M.cat_err (by simp [M.ferr, h, hq]) hq
theorem cat_one_ok {n : Int} {zs : List Int} (h : M.check zs n = 0) : M.catE n [zs] = 0 ∧ M.catV n [zs] = zs := by
  have hl := (M.check_zero h).2.2.1
  have := M.cat_ok (n := n) (rows := [zs]) (by simp [M.ferr, h]) (by simp [M.total]; omega)
  simpa using this
theorem row_one {zs : List Int} (h : zs.length ≤ 1000000) : ∀ k, (M.row [zs] k).length ≤ 1000000 := fun k => by
  cases k with
  | zero => exact h
  | succ k => simp [M.row]

theorem rdS_three {w : World} {A : Option Addr} {c n : Nat} {zs : List Int} (h : Rd w A zs) (hn : zs.length = n) :
    RdS (((w.alloc (.cells #[.int .i64 1] 3)).alloc (.cells #[.int .i64 0, .int .i64 2] 3)).alloc (.cells #[.slice (some ⟨w.heap.size, 0, none⟩) 1 1, .slice (some ⟨w.heap.size + 1, 0, none⟩) 2 2, .slice A n c] 22)) (some ⟨w.heap.size + 1 + 1, 0, none⟩) [[1], [0, 2], zs] := by
  subst hn
  have := rdS_lit (w := (w.alloc (.cells #[.int .i64 1] 3)).alloc (.cells #[.int .i64 0, .int .i64 2] 3)) (t := 22) (rows := [[1], [0, 2], zs]) (vs := [.slice (some ⟨w.heap.size, 0, none⟩) 1 1, .slice (some ⟨w.heap.size + 1, 0, none⟩) 2 2, .slice A zs.length c]) (fun k hk => by
    match k, hk with
    | 0, _ => exact ⟨_, _, rfl, rd_fst w [1] _⟩
    | 1, _ => exact ⟨_, _, rfl, rd_snd w [0, 2] _⟩
    | 2, _ => exact ⟨_, _, rfl, (h.alloc _).alloc _⟩
    | k + 3, hk => simp at hk; omega)
  simpa using this
theorem cat_three (zs : List Int) : M.catE 2 [[1], [0, 2], zs] = 1 ∧ M.catV 2 [[1], [0, 2], zs] = [] := M.cat_err (by
  have a : M.check [1] 2 = 0 := by decide
  have b : M.check [0, 2] 2 = 1 := by decide
  simp [M.ferr, a, b]) (by decide)
theorem row_three {zs : List Int} (h : zs.length ≤ 1000000) : ∀ k, (M.row [[1], [0, 2], zs] k).length ≤ 1000000 := fun k => by
  match k with
  | 0 => simp [M.row]
  | 1 => simp [M.row]
  | 2 => exact h
  | k + 3 => simp [M.row]
theorem row_nil : ∀ k, (M.row [] k).length ≤ 1000000 := fun k => by simp [M.row]

set_option maxRecDepth 100000 in
set_option maxHeartbeats 1600000 in
theorem wordsCheck_ok (A : Option Addr) (c : Nat) (zs : List Int) (n : Int) (w : World) (he : Env w) (hr : Rd w A zs) (hl : zs.length ≤ 300) (hck : M.check zs n = 0) :
    Calls Tryd.prog 3 #[.slice A zs.length c, .int .i64 n] w fun e w' => e = .returned (.bool true) ∧ Below w.heap.size w w' := by
  have h0 := (St.start w).put hr
  have HC := Lib.hid hck
  obtain ⟨e1, e2⟩ := cat_one_ok hck
  have E1 := Lib.hid e1
  have E2 := Lib.hid e2
  clear hck e1 e2 hr
  go_enter Tryd.func3, Tryd.ntmps3
  go_wp2_with fail
  refine (rcheck_any _ _ _ _ _ (h0.rd 0 rfl)).mono ?_
  rintro e w1 ⟨rfl, hb1⟩
  rw [HC.out]
  have h1 := h0.next hb1
  clear h0 hb1
  go_wp2_with fail
  refine (check_any _ _ _ _ _ (h1.rd 0 rfl)).mono ?_
  rintro e w2 ⟨rfl, hb2⟩
  rw [HC.out]
  have h2 := h1.next hb2
  clear h1 hb2
  go_wp2_with fail
  refine (concat_at _ _ _ [zs] _ 0 zs _ (rdS_one (h2.rd 0 rfl) rfl) rfl (by simp) (row_one (by omega)) E1.out E2.out).mono ?_
  rintro e w3 ⟨B3, rfl, hr3, hb3⟩
  have h3 := (h2.one hb3).put hr3
  clear h2 hr3 hb3
  go_wp2_with fail
  refine (word_lit _ _ _ _ zs _ _ (h3.rd 0 rfl) (h3.rd 1 rfl) rfl (by omega)).mono ?_
  rintro e w4 ⟨rfl, hb4⟩
  have h4 := h3.next hb4
  clear h3 hb4
  go_wp2_with fail
  refine (lives_any _ (h4.env he)).mono ?_
  rintro e w5 ⟨rfl, hb5⟩
  have h5 := h4.next hb5
  go_wp2
  go_ret
  exact ⟨rfl, h5.1⟩

set_option maxRecDepth 100000 in
set_option maxHeartbeats 1600000 in
theorem wordsCheck_no (A : Option Addr) (c : Nat) (zs : List Int) (n q : Int) (w : World) (he : Env w) (hr : Rd w A zs) (hl : zs.length ≤ 300) (hck : M.check zs n = q) (hq0 : q ≠ 0) :
    Calls Tryd.prog 3 #[.slice A zs.length c, .int .i64 n] w fun e w' => e = .returned (.bool true) ∧ Below w.heap.size w w' := by
  have h0 := (St.start w).put hr
  have HC := Lib.hid hck
  obtain ⟨e1, e2⟩ := cat_one hck hq0
  have E1 := Lib.hid e1
  have E2 := Lib.hid e2
  have Hq := Lib.hid hq0
  have hq1 : (q == 0) = false := by simpa using hq0
  have hqq : (q != q) = false := by simp
  clear hck e1 e2 hr hq0
  go_enter Tryd.func3, Tryd.ntmps3
  go_wp2_with fail
  refine (rcheck_any _ _ _ _ _ (h0.rd 0 rfl)).mono ?_
  rintro e w1 ⟨rfl, hb1⟩
  rw [HC.out]
  have h1 := h0.next hb1
  clear h0 hb1
  go_wp2_with fail
  refine (check_any _ _ _ _ _ (h1.rd 0 rfl)).mono ?_
  rintro e w2 ⟨rfl, hb2⟩
  rw [HC.out]
  have h2 := h1.next hb2
  clear h1 hb2
  go_wp2_with fail
  refine (concat_at _ _ _ [zs] _ q [] _ (rdS_one (h2.rd 0 rfl) rfl) rfl (by simp) (row_one (by omega)) E1.out E2.out).mono ?_
  rintro e w3 ⟨B3, rfl, hr3, hb3⟩
  have h3 := (h2.one hb3).put hr3
  clear h2 hr3 hb3
  go_wp2_with fail
  refine (next_bad _ _ _ _ _ _ (h3.rd 1 rfl) HC.out Hq.out).mono ?_
  rintro e w4 ⟨B4, rfl, hr4, hb4⟩
  have h4 := (h3.next hb4).put hr4
  clear h3 hr4 hb4
  go_wp2_with fail
  refine (rank_bad _ _ _ _ _ _ (h4.rd 2 rfl) HC.out Hq.out).mono ?_
  rintro e w5 ⟨rfl, hb5⟩
  have h5 := h4.next hb5
  clear h4 hb5
  go_wp2_with fail
  refine (concat_at _ _ _ [[1], [0, 2], zs] _ 1 [] _ (rdS_three (h5.rd 2 rfl) rfl) rfl (by simp) (row_three (by omega)) (cat_three zs).1 (cat_three zs).2).mono ?_
  rintro e w6 ⟨B6, rfl, hr6, hb6⟩
  have h6 := ((((h5.alloc _).alloc _).alloc _).next hb6).put hr6
  clear h5 hr6 hb6
  go_wp2_with fail
  refine (concat_at _ _ _ [] _ 0 [] _ (rdS_nil _ _) rfl (by decide) row_nil rfl rfl).mono ?_
  rintro e w7 ⟨B7, rfl, hr7, hb7⟩
  have h7 := (h6.next hb7).put hr7
  clear h6 hr7 hb7
  go_wp2_with fail
  refine (word_lit _ _ _ _ [] _ _ (h7.rd 3 rfl) Rd.nil_ rfl (by decide)).mono ?_
  rintro e w8 ⟨rfl, hb8⟩
  have h8 := h7.next hb8
  clear h7 hb8
  go_wp2_with fail
  refine (word_lit _ _ _ _ [] _ _ (h8.rd 2 rfl) Rd.nil_ rfl (by decide)).mono ?_
  rintro e w9 ⟨rfl, hb9⟩
  have h9 := h8.next hb9
  clear h8 hb9
  have hqe : (q == q) = true := by simp
  go_wp2_with fail
  refine (word_lit _ _ _ _ [] _ _ (h9.rd 1 rfl) Rd.nil_ rfl (by decide)).mono ?_
  rintro e w10 ⟨rfl, hb10⟩
  have h10 := h9.next hb10
  clear h9 hb10
  go_wp2_with fail
  refine (word_lit _ _ _ _ [] _ _ (h10.rd 0 rfl) Rd.nil_ rfl (by decide)).mono ?_
  rintro e w11 ⟨rfl, hb11⟩
  have h11 := h10.next hb11
  clear h10 hb11
  go_wp2_with fail
  refine (lives_any _ (h11.env he)).mono ?_
  rintro e w12 ⟨rfl, hb12⟩
  have h12 := h11.next hb12
  go_wp2
  go_ret
  exact ⟨rfl, h12.1⟩

theorem wordsCheck_walk (A : Option Addr) (c : Nat) (zs : List Int) (n : Int) (w : World) (he : Env w) (hr : Rd w A zs) :
    Calls Tryd.prog 3 #[.slice A zs.length c, .int .i64 n] w fun e w' => e = .returned (.bool true) ∧ Below w.heap.size w w' := by
  by_cases hl : zs.length ≤ 300
  · by_cases hck : M.check zs n = 0
    · exact wordsCheck_ok A c zs n w he hr hl hck
    · exact wordsCheck_no A c zs n _ w he hr hl rfl hck
  · go_enter Tryd.func3, Tryd.ntmps3
    go_wp2
    go_ret
    exact ⟨rfl, Below.refl _ _⟩
end Go.Proofs.YtodjdfpealmjeaaDoor
