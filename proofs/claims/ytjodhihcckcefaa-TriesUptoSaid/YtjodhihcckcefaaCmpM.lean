/-
  The plain mathematics of the law WordsCompare: lists of ints, no program. No statement is proved here.
-/
import Derived.Test.YtjodhihcckcefaaBaZ
namespace Go.Proofs.Ytjodhihcckcefaa.M

theorem cmp_swap (x y : List Int) : cmp y x = -cmp x y := by
  unfold cmp
  rcases Nat.lt_trichotomy x.length y.length with h | h | h
  · rw [if_neg (by omega), if_pos h, if_pos h]; rfl
  · rw [if_neg (by omega), if_neg (by omega), if_neg (by omega), if_neg (by omega)]
    rcases lex_range x y with e | e | e
    · rw [lex_swap' e, e]; rfl
    · have := (lex_zero_iff h).1 e
      subst this
      rw [e]; rfl
    · rw [lex_swap e, e]
  · rw [if_pos h, if_neg (by omega), if_pos h]
theorem lex_trans {x y z : List Int} (hxy : x.length = y.length) (hyz : y.length = z.length) (h1 : lex x y ≤ 0) (h2 : lex y z ≤ 0) : lex x z ≤ 0 := by
  induction x generalizing y z with
  | nil => simp [lex]
  | cons a x ih =>
    cases y with
    | nil => simp at hxy
    | cons b y =>
      cases z with
      | nil => simp at hyz
      | cons c z =>
        simp only [lex] at h1 h2 ⊢
        by_cases hab : a < b
        · by_cases hbc : b < c
          · rw [if_pos (by omega)]; omega
          · rw [if_neg hbc] at h2
            by_cases hcb : c < b
            · rw [if_pos hcb] at h2; omega
            · rw [if_pos (by omega)]; omega
        · rw [if_neg hab] at h1
          by_cases hba : b < a
          · rw [if_pos hba] at h1; omega
          · rw [if_neg hba] at h1
            have : a = b := by omega
            subst this
            by_cases hbc : a < c
            · rw [if_pos hbc]; omega
            · rw [if_neg hbc] at h2 ⊢
              by_cases hcb : c < a
              · rw [if_pos hcb] at h2; omega
              · rw [if_neg hcb] at h2 ⊢
                exact ih (by simpa using hxy) (by simpa using hyz) h1 h2
theorem cmp_trans {x y z : List Int} (h1 : cmp x y ≤ 0) (h2 : cmp y z ≤ 0) : cmp x z ≤ 0 := by
  unfold cmp at h1 h2 ⊢
  by_cases a : x.length < y.length
  · by_cases b : y.length < z.length
    · rw [if_pos (by omega)]; omega
    · rw [if_neg b] at h2
      by_cases c : z.length < y.length
      · rw [if_pos c] at h2; omega
      · rw [if_pos (by omega)]; omega
  · rw [if_neg a] at h1
    by_cases a2 : y.length < x.length
    · rw [if_pos a2] at h1; omega
    · rw [if_neg a2] at h1
      by_cases b : y.length < z.length
      · rw [if_pos (by omega)]; omega
      · rw [if_neg b] at h2
        by_cases c : z.length < y.length
        · rw [if_pos c] at h2; omega
        · rw [if_neg c] at h2
          rw [if_neg (by omega), if_neg (by omega)]
          exact lex_trans (by omega) (by omega) h1 h2
theorem cmp_same {x y z : List Int} (h : cmp x y = 0) : cmp x z = cmp y z := by rw [cmp_zero_iff.1 h]
theorem pre_app (x y : List Int) : pre x (x ++ y) = true := by
  unfold pre
  rw [List.isPrefixOf_iff_prefix]
  exact List.prefix_append x y
theorem pre_cmp {x y : List Int} (h : pre x y = true) : cmp x y ≤ 0 := by
  unfold pre at h
  rw [List.isPrefixOf_iff_prefix] at h
  obtain ⟨t, rfl⟩ := h
  cases t with
  | nil => rw [List.append_nil, cmp_self]; omega
  | cons a t => rw [cmp_short (by simp)]; omega
theorem preI_of {x y : List Int} {b : Bool} (h : pre x y = b) : preI x y = if b then 1 else 0 := by
  subst h
  rfl
end Go.Proofs.Ytjodhihcckcefaa.M
