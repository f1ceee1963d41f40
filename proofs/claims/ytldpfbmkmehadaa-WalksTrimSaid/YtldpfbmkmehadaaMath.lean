/-
  The plain mathematics of words: lists of ints, no program. No statement is proved here.
-/
namespace Go.Proofs.Ytldpfbmkmehadaa.M

/-- Is a number no symbol over so many inputs? -/
def badB (n z : Int) : Bool := decide (z < 0) || decide (n ≤ z)
theorem badB_true {n z : Int} (h : badB n z = true) : z < 0 ∨ n ≤ z := by simpa [badB] using h
theorem badB_false {n z : Int} (h : ¬ badB n z = true) : 0 ≤ z ∧ z < n := by
  simp [badB] at h
  omega
/-- 1 if some number is no symbol. -/
def badI (n : Int) (zs : List Int) : Int := if zs.any (badB n) then 1 else 0
theorem badI_clean {n : Int} {zs : List Int} (h : zs.any (badB n) = false) : badI n zs = 0 := by simp [badI, h]
theorem badI_hit {n : Int} {zs : List Int} {k : Nat} (hk : k < zs.length) (h : badB n (zs[k]?.getD 0) = true) : badI n zs = 1 := by
  have : zs.any (badB n) = true := List.any_eq_true.2 ⟨zs[k], List.getElem_mem hk, by simpa [List.getElem?_eq_getElem hk] using h⟩
  simp [badI, this]
theorem any_snoc {n : Int} {zs : List Int} {k : Nat} (hk : k < zs.length) (h : (zs.take k).any (badB n) = false) (hb : badB n (zs[k]?.getD 0) = false) : (zs.take (k + 1)).any (badB n) = false := by
  rw [List.take_add_one, List.any_append, h, List.getElem?_eq_getElem hk]
  simpa [List.getElem?_eq_getElem hk] using hb
/-- The error of a word. -/
def check (zs : List Int) (n : Int) : Int :=
  if 16 < n ∨ 256 < zs.length then 3 else if n < 1 then 1 else badI n zs
theorem check_limit {zs : List Int} {n : Int} (h : 16 < n ∨ 256 < zs.length) : check zs n = 3 := by simp [check, h]
theorem check_arg {zs : List Int} {n : Int} (h : ¬ (16 < n ∨ 256 < zs.length)) (h1 : n < 1) : check zs n = 1 := by simp [check, h, h1]
theorem check_in {zs : List Int} {n : Int} (h : n ≤ 16) (h2 : zs.length ≤ 256) (h1 : 1 ≤ n) : check zs n = badI n zs := by
  unfold check
  rw [if_neg (by omega), if_neg (by omega)]
/-- The order of lists of the same length: by the first difference. -/
def lex : List Int → List Int → Int
  | a :: x, b :: y => if a < b then -1 else if b < a then 1 else lex x y
  | _, _ => 0
/-- The order of words. -/
def cmp (x y : List Int) : Int := if x.length < y.length then -1 else if y.length < x.length then 1 else lex x y

theorem lex_app (p s t : List Int) : lex (p ++ s) (p ++ t) = lex s t := by
  induction p with
  | nil => rfl
  | cons c p ih => simp [lex, ih]
theorem lex_of {x y p s t : List Int} (hx : x = p ++ s) (hy : y = p ++ t) : lex x y = lex s t := by rw [hx, hy, lex_app]
theorem split_at {x : List Int} {k : Nat} (hk : k < x.length) : x = x.take k ++ (x[k]?.getD 0) :: x.drop (k + 1) := by
  rw [List.getElem?_eq_getElem hk]
  simp
theorem cmp_lt {x y : List Int} {k : Nat} (hl : x.length = y.length) (hk : k < x.length) (he : x.take k = y.take k) (h : x[k]?.getD 0 < y[k]?.getD 0) : cmp x y = -1 := by
  have hx := split_at hk
  have hy := split_at (x := y) (k := k) (by omega)
  rw [← he] at hy
  unfold cmp
  rw [if_neg (by omega), if_neg (by omega), lex_of hx hy]
  simp [lex, h]
theorem cmp_gt {x y : List Int} {k : Nat} (hl : x.length = y.length) (hk : k < x.length) (he : x.take k = y.take k) (h : y[k]?.getD 0 < x[k]?.getD 0) : cmp x y = 1 := by
  have hx := split_at hk
  have hy := split_at (x := y) (k := k) (by omega)
  rw [← he] at hy
  unfold cmp
  rw [if_neg (by omega), if_neg (by omega), lex_of hx hy]
  have : ¬ x[k]?.getD 0 < y[k]?.getD 0 := by omega
  simp [lex, h, this]
theorem take_snoc_eq {x y : List Int} {k : Nat} (hk : k < x.length) (hk' : k < y.length) (he : x.take k = y.take k) (h : x[k]?.getD 0 = y[k]?.getD 0) : x.take (k + 1) = y.take (k + 1) := by
  rw [List.getElem?_eq_getElem hk, List.getElem?_eq_getElem hk'] at h
  rw [List.take_succ_eq_append_getElem hk, List.take_succ_eq_append_getElem hk', he]
  simp only [Option.getD_some] at h
  rw [h]
theorem cmp_short {x y : List Int} (h : x.length < y.length) : cmp x y = -1 := by simp [cmp, h]
theorem cmp_long {x y : List Int} (h : y.length < x.length) : cmp x y = 1 := by
  unfold cmp
  rw [if_neg (by omega), if_pos h]
theorem lex_zero_iff {x y : List Int} (h : x.length = y.length) : lex x y = 0 ↔ x = y := by
  induction x generalizing y with
  | nil =>
    have : y = [] := List.eq_nil_of_length_eq_zero (by simpa using h.symm)
    subst this
    simp [lex]
  | cons c x ih =>
    cases y with
    | nil => simp at h
    | cons d y =>
      simp only [lex]
      by_cases h1 : c < d
      · simp [h1]; omega
      · by_cases h2 : d < c
        · simp [h1, h2]; omega
        · have : c = d := by omega
          subst this
          simp [ih (by simpa using h)]

theorem cmp_zero_iff {x y : List Int} : cmp x y = 0 ↔ x = y := by
  unfold cmp
  by_cases h1 : x.length < y.length
  · simp [h1]; intro e; subst e; omega
  · by_cases h2 : y.length < x.length
    · simp [h1, h2]; intro e; subst e; omega
    · simp only [h1, h2, if_false]
      exact lex_zero_iff (by omega)
theorem cmp_self (x : List Int) : cmp x x = 0 := cmp_zero_iff.2 rfl
theorem cmp_end {x y : List Int} {k : Nat} (hx : x.length ≤ k) (hy : y.length ≤ k) (he : x.take k = y.take k) : cmp x y = 0 := by
  rw [List.take_of_length_le hx, List.take_of_length_le hy] at he
  exact cmp_zero_iff.2 he
/-- The order of two numbers. -/
def sgn (a b : Int) : Int := if a < b then -1 else if b < a then 1 else 0
theorem sgn_lt {a b : Int} (h : a < b) : sgn a b = -1 := by simp [sgn, h]
theorem sgn_gt {a b : Int} (h : b < a) : sgn a b = 1 := by
  have : ¬ a < b := by omega
  simp [sgn, h, this]
theorem sgn_eq {a b : Int} (h : a = b) : sgn a b = 0 := by simp [sgn, h]
theorem lex_range (x y : List Int) : lex x y = -1 ∨ lex x y = 0 ∨ lex x y = 1 := by
  induction x generalizing y with
  | nil => simp [lex]
  | cons c x ih =>
    cases y with
    | nil => simp [lex]
    | cons d y =>
      simp only [lex]
      split
      · simp
      · split
        · simp
        · exact ih y
theorem cmp_range (x y : List Int) : cmp x y = -1 ∨ cmp x y = 0 ∨ cmp x y = 1 := by
  unfold cmp
  split
  · simp
  · split
    · simp
    · exact lex_range x y
/-- Are two lists equal? -/
def same (x y : List Int) : Bool := decide (x = y)
theorem same_def {x y : List Int} : (cmp x y == 0) = same x y := by
  unfold same
  rw [Bool.eq_iff_iff]
  simp [cmp_zero_iff]
theorem same_yes {x y : List Int} (h : x = y) : same x y = true := by simp [same, h]
theorem same_no {x y : List Int} (h : x ≠ y) : same x y = false := by simp [same, h]
theorem ne_of_len {x y : List Int} (h : x.length ≠ y.length) : x ≠ y := fun e => h (by rw [e])
theorem ne_of_at {x y : List Int} {k : Nat} (h : x[k]?.getD 0 ≠ y[k]?.getD 0) : x ≠ y := fun e => h (by rw [e])
/-- Is the first list a prefix of the second one? -/
def pre (x y : List Int) : Bool := x.isPrefixOf y
def preI (x y : List Int) : Int := if pre x y then 1 else 0
theorem pre_long {x y : List Int} (h : y.length < x.length) : pre x y = false := by
  unfold pre
  cases hp : x.isPrefixOf y
  · rfl
  · have := (List.isPrefixOf_iff_prefix.1 hp).length_le; omega
theorem pre_same {x y : List Int} (_h : x.length ≤ y.length) : pre x y = same x (y.take x.length) := by
  unfold pre same
  rw [Bool.eq_iff_iff, List.isPrefixOf_iff_prefix, List.prefix_iff_eq_take]
  simp
theorem preI_yes {x y : List Int} (h : x = y.take x.length) : preI x y = 1 := by
  have : pre x y = true := by unfold pre; rw [List.isPrefixOf_iff_prefix, List.prefix_iff_eq_take]; exact h
  simp [preI, this]
theorem preI_no {x y : List Int} {k : Nat} (hk : k < x.length) (h : x[k]?.getD 0 ≠ y[k]?.getD 0) : preI x y = 0 := by
  have : pre x y = false := by
    cases hp : pre x y
    · rfl
    · unfold pre at hp
      rw [List.isPrefixOf_iff_prefix] at hp
      obtain ⟨t, rfl⟩ := hp
      exact absurd (by rw [List.getElem?_append_left hk]) h
  simp [preI, this]
theorem preI_long {x y : List Int} (h : y.length < x.length) : preI x y = 0 := by simp [preI, pre_long h]
/-- The symbols of a word as plain data. -/
def sym (n : Int) (zs : List Int) : List Int := (zs.take 12).map (· % n)
end Go.Proofs.Ytldpfbmkmehadaa.M
