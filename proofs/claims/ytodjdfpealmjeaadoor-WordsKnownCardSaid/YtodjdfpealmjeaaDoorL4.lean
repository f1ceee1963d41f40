/-
  The walk of the law WordsRaw.
-/
import Derived.Test.YtodjdfpealmjeaaDoorL3
namespace Go.Proofs.YtodjdfpealmjeaaDoor
open Go.RowKit

theorem at_many' (r n : Int) (w : World) (h1 : 16 < n) :
    Calls Tryd.prog 27 #[.int .i64 r, .int .i64 n] w fun e w' => ∃ A, e = .returned (.tuple #[.slice A 0 0, .int .i64 3]) ∧ Rd w' A [] ∧ Below w.heap.size w w' := at_many r n w h1
theorem at_arg' (r n : Int) (w : World) (h1 : n ≤ 16) (h2 : n < 1 ∨ r < 0 ∨ 4611686018427387903 < r) :
    Calls Tryd.prog 27 #[.int .i64 r, .int .i64 n] w fun e w' => ∃ A, e = .returned (.tuple #[.slice A 0 0, .int .i64 1]) ∧ Rd w' A [] ∧ Below w.heap.size w w' := at_arg r n w h1 h2
theorem at_one' (r : Int) (w : World) (h1 : 256 < r) (h2 : r ≤ 4611686018427387903) :
    Calls Tryd.prog 27 #[.int .i64 r, .int .i64 1] w fun e w' => ∃ A, e = .returned (.tuple #[.slice A 0 0, .int .i64 3]) ∧ Rd w' A [] ∧ Below w.heap.size w w' := at_one r w h1 h2
/-- Every rank that there is has a word. -/
theorem word_of (r n : Int) (h1 : 1 ≤ n) (h2 : n ≤ 16) (h3 : 0 ≤ r) (h4 : r ≤ 4611686018427387903) (h5 : ¬ (n = 1 ∧ 256 < r)) : ∃ zs, M.check zs n = 0 ∧ M.rk n zs = r := by
  by_cases hn : n = 1
  · subst hn
    obtain ⟨zs, hv, hk, hl⟩ := M.exists_word_one r.toNat
    exact ⟨zs, M.check_mk (by omega) (by omega) (by omega) hv, by rw [hk]; omega⟩
  · obtain ⟨zs, hv, hk, hl⟩ := M.exists_word (n := n) (by omega) 62 r h3 (by
      have : (2 : Int) ^ 62 = 4611686018427387904 := by decide
      omega)
    exact ⟨zs, M.check_mk h2 h1 (by omega) hv, hk⟩
theorem at_word (zs : List Int) (r n : Int) (w : World) (hck : M.check zs n = 0) (hr : M.rk n zs = r) (hm : r ≤ 4611686018427387903) :
    Calls Tryd.prog 27 #[.int .i64 r, .int .i64 n] w fun e w' => ∃ A m, e = .returned (.tuple #[.slice A m m, .int .i64 0]) ∧ Hid (zs.length = m) ∧ m ≤ 256 ∧ Rd w' A zs ∧ Below w.heap.size w w' := by
  subst hr
  refine (at_ok zs n w hck hm).mono ?_
  rintro e w' ⟨A, rfl, h1, h2⟩
  exact ⟨A, _, rfl, rfl, (M.check_zero hck).2.2.1, h1, h2⟩

set_option maxRecDepth 100000 in
set_option maxHeartbeats 3200000 in
theorem wordsRaw_walk (r n : Int) (w : World) (he : Env w) :
    Calls Tryd.prog 8 #[.int .i64 r, .int .i64 n] w fun e w' => e = .returned (.bool true) ∧ Below w.heap.size w w' := by
  have h0 := St.start w
  by_cases c1 : 16 < n
  · go_enter Tryd.func8, Tryd.ntmps8
    go_wp2_with fail
    refine (at_many' r n _ c1).mono ?_
    rintro e w1 ⟨A, rfl, hr1, hb1⟩
    have h1 := (h0.next hb1).put hr1
    clear h0 hr1 hb1
    go_wp2_with fail
    refine (word_lit _ _ _ _ [] _ _ (h1.rd 0 rfl) Rd.nil_ rfl (by decide)).mono ?_
    rintro e w2 ⟨rfl, hb2⟩
    have h2 := h1.next hb2
    clear h1 hb2
    go_wp2_with fail
    refine (lives_any _ (h2.env he)).mono ?_
    rintro e w3 ⟨rfl, hb3⟩
    have h3 := h2.next hb3
    go_wp2
    go_ret
    exact ⟨rfl, h3.1⟩
  · by_cases c2 : n < 1 ∨ r < 0 ∨ 4611686018427387903 < r
    · have hsplit : n < 1 ∨ (¬ n < 1 ∧ r < 0) ∨ (¬ n < 1 ∧ ¬ r < 0 ∧ 4611686018427387903 < r) := by omega
      have hn16 : n ≤ 16 := by omega
      have C2 := Lib.hid c2
      clear c2
      rcases hsplit with a | ⟨a, b⟩ | ⟨a, b, d⟩
      all_goals
        go_enter Tryd.func8, Tryd.ntmps8
        go_wp2_with fail
        refine (at_arg' r n _ hn16 C2.out).mono ?_
        rintro e w1 ⟨A, rfl, hr1, hb1⟩
        have h1 := (h0.next hb1).put hr1
        clear h0 hr1 hb1
        go_wp2_with fail
        refine (word_lit _ _ _ _ [] _ _ (h1.rd 0 rfl) Rd.nil_ rfl (by decide)).mono ?_
        rintro e w2 ⟨rfl, hb2⟩
        have h2 := h1.next hb2
        clear h1 hb2
        go_wp2_with fail
        refine (lives_any _ (h2.env he)).mono ?_
        rintro e w3 ⟨rfl, hb3⟩
        have h3 := h2.next hb3
        go_wp2
        go_ret
        exact ⟨rfl, h3.1⟩
    · by_cases c3 : n = 1 ∧ 256 < r
      · obtain ⟨rfl, c3⟩ := c3
        have c4 : r ≤ 4611686018427387903 := by omega
        have c5 : 0 ≤ r := by omega
        clear c2 c1
        go_enter Tryd.func8, Tryd.ntmps8
        go_wp2_with fail
        refine (at_one' r _ c3 c4).mono ?_
        rintro e w1 ⟨A, rfl, hr1, hb1⟩
        have h1 := (h0.next hb1).put hr1
        clear h0 hr1 hb1
        go_wp2_with fail
        refine (word_lit _ _ _ _ [] _ _ (h1.rd 0 rfl) Rd.nil_ rfl (by decide)).mono ?_
        rintro e w2 ⟨rfl, hb2⟩
        have h2 := h1.next hb2
        clear h1 hb2
        go_wp2_with fail
        refine (lives_any _ (h2.env he)).mono ?_
        rintro e w3 ⟨rfl, hb3⟩
        have h3 := h2.next hb3
        go_wp2
        go_ret
        exact ⟨rfl, h3.1⟩
      · have d1 : 1 ≤ n := by omega
        have d2 : n ≤ 16 := by omega
        have d3 : 0 ≤ r := by omega
        have d4 : r ≤ 4611686018427387903 := by omega
        obtain ⟨zs, hck, hrk⟩ := word_of r n d1 d2 d3 d4 c3
        have HC := Lib.hid hck
        have HR := Lib.hid hrk
        have hcase : (n == 1) = false ∨ (n = 1 ∧ ¬ 256 < r) := by
          by_cases e : n = 1
          · exact .inr ⟨e, by omega⟩
          · exact .inl (by simpa using e)
        clear c1 c2 c3 hck hrk
        rcases hcase with hc | ⟨rfl, hc⟩
        all_goals
          go_enter Tryd.func8, Tryd.ntmps8
          go_wp2_with fail
          refine (at_word zs r _ _ HC.out HR.out d4).mono ?_
          rintro e w1 ⟨A, m, rfl, hm, hmb, hr1, hb1⟩
          have h1 := (h0.next hb1).put hr1
          clear h0 hr1 hb1
          go_wp2_with fail
          refine (rank_lit _ _ _ zs _ r _ (h1.rd 0 rfl) hm.out HC.out HR.out d4).mono ?_
          rintro e w2 ⟨rfl, hb2⟩
          have h2 := h1.next hb2
          clear h1 hb2
          go_wp2_with fail
          refine (rcheck_lit _ _ _ zs _ 0 _ (h2.rd 0 rfl) hm.out HC.out).mono ?_
          rintro e w3 ⟨rfl, hb3⟩
          have h3 := h2.next hb3
          clear h2 hb3
          go_wp2_with fail
          refine (lives_any _ (h3.env he)).mono ?_
          rintro e w4 ⟨rfl, hb4⟩
          have h4 := h3.next hb4
          go_wp2
          go_ret
          exact ⟨rfl, h4.1⟩
end Go.Proofs.YtodjdfpealmjeaaDoor
