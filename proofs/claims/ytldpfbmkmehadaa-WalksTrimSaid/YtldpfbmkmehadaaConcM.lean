/-
  The plain mathematics of Concat: lists of lists of ints, no program. No statement is proved here.
-/
import Derived.Test.YtldpfbmkmehadaaRankM
namespace Go.Proofs.Ytldpfbmkmehadaa.M

/-- The error of the first list that has one. -/
def ferr (n : Int) : List (List Int) → Int
  | [] => 0
  | r :: rs => if check r n = 0 then ferr n rs else check r n
/-- How many symbols there are together. -/
def total (rows : List (List Int)) : Nat := rows.flatten.length
/-- The row at a place. -/
def row (rows : List (List Int)) (k : Nat) : List Int := rows[k]?.getD []
theorem ferr_hit {n q : Int} {rows : List (List Int)} {k : Nat} (hk : k < rows.length) (h : ferr n (rows.take k) = 0) (hq : check (row rows k) n = q) (hq0 : q ≠ 0) : ferr n rows = q := by
  induction rows generalizing k with
  | nil => simp at hk
  | cons r rs ih =>
    cases k with
    | zero =>
      simp only [row, List.getElem?_cons_zero, Option.getD_some] at hq
      simp [ferr, hq, hq0]
    | succ k =>
      simp only [List.take_succ_cons, ferr] at h ⊢
      by_cases hr : check r n = 0
      · rw [if_pos hr] at h ⊢
        exact ih (by simpa using hk) h (by simpa [row] using hq)
      · rw [if_neg hr] at h
        exact absurd h hr
theorem ferr_snoc {n : Int} {rows : List (List Int)} {k : Nat} (hk : k < rows.length) (h : ferr n (rows.take k) = 0) (hq : check (row rows k) n = 0) : ferr n (rows.take (k + 1)) = 0 := by
  induction rows generalizing k with
  | nil => simp at hk
  | cons r rs ih =>
    cases k with
    | zero =>
      simp only [row, List.getElem?_cons_zero, Option.getD_some] at hq
      simp [ferr, hq]
    | succ k =>
      simp only [List.take_succ_cons, ferr] at h ⊢
      by_cases hr : check r n = 0
      · rw [if_pos hr] at h ⊢
        exact ih (by simpa using hk) h (by simpa [row] using hq)
      · rw [if_neg hr] at h
        exact absurd h hr
theorem ferr_row {n : Int} {rows : List (List Int)} {k : Nat} (hk : k < rows.length) (h : ferr n rows = 0) : check (row rows k) n = 0 := by
  induction rows generalizing k with
  | nil => simp at hk
  | cons r rs ih =>
    simp only [ferr] at h
    by_cases hr : check r n = 0
    · rw [if_pos hr] at h
      cases k with
      | zero => simpa [row] using hr
      | succ k => simpa [row] using ih (by simpa using hk) h
    · rw [if_neg hr] at h
      exact absurd h hr
theorem take_rows {rows : List (List Int)} {k : Nat} (hk : k < rows.length) : rows.take (k + 1) = rows.take k ++ [row rows k] := by
  rw [List.take_add_one, List.getElem?_eq_getElem hk]
  simp [row, List.getElem?_eq_getElem hk]
theorem total_snoc {rows : List (List Int)} {k : Nat} (hk : k < rows.length) : total (rows.take (k + 1)) = total (rows.take k) + (row rows k).length := by
  simp [total, take_rows hk]
theorem total_le {rows : List (List Int)} (k : Nat) : total (rows.take k) ≤ total rows := by
  have h : rows = rows.take k ++ rows.drop k := (List.take_append_drop k rows).symm
  have e : total rows = total (rows.take k) + (rows.drop k).flatten.length := by
    unfold total
    rw [← List.length_append, ← List.flatten_append, ← h]
  omega
/-- The state of Concat's second loop. -/
def Cat (rows : List (List Int)) (k : Nat) (cur : List Int) : Prop := cur = (rows.take k).flatten ++ List.replicate (total rows - total (rows.take k)) 0
theorem Cat.start (rows : List (List Int)) : Cat rows 0 (List.replicate (total rows) 0) := by simp [Cat, total]
theorem Cat.len {rows : List (List Int)} {k : Nat} {cur : List Int} (h : Cat rows k cur) : cur.length = total rows := by
  have := total_le (rows := rows) k
  rw [h, List.length_append, List.length_replicate]
  show total (rows.take k) + _ = _
  omega
theorem Cat.done {rows : List (List Int)} {cur : List Int} (h : Cat rows rows.length cur) : cur = rows.flatten := by
  rw [h]
  simp
theorem Cat.step {rows : List (List Int)} {k : Nat} {cur : List Int} (h : Cat rows k cur) (hk : k < rows.length) : Cat rows (k + 1) (cur.take (total (rows.take k)) ++ (row rows k ++ cur.drop (total (rows.take k) + (row rows k).length))) := by
  have h1 := total_snoc hk
  have h2 := total_le (rows := rows) (k + 1)
  have e1 : cur.take (total (rows.take k)) = (rows.take k).flatten := by rw [h]; exact List.take_left
  have e2 : cur.drop (total (rows.take k) + (row rows k).length) = List.replicate (total rows - total (rows.take (k + 1))) 0 := by
    rw [h, ← List.drop_drop, show total (rows.take k) = (rows.take k).flatten.length from rfl, List.drop_left, List.drop_replicate]
    congr 1
    show total rows - total (rows.take k) - _ = _
    omega
  unfold Cat
  rw [e1, e2, take_rows hk]
  simp
/-- What Concat hands back: the error, the word. -/
def catE (n : Int) (rows : List (List Int)) : Int := if ferr n rows = 0 then (if 256 < total rows then 3 else 0) else ferr n rows
def catV (n : Int) (rows : List (List Int)) : List Int := if catE n rows = 0 then rows.flatten else []
theorem cat_err {n q : Int} {rows : List (List Int)} (h : ferr n rows = q) (hq : q ≠ 0) : catE n rows = q ∧ catV n rows = [] := by
  have : catE n rows = q := by simp [catE, h, hq]
  exact ⟨this, by simp [catV, this, hq]⟩
theorem cat_limit {n : Int} {rows : List (List Int)} (h : ferr n rows = 0) (ht : 256 < total rows) : catE n rows = 3 ∧ catV n rows = [] := by
  have : catE n rows = 3 := by simp [catE, h, ht]
  exact ⟨this, by simp [catV, this]⟩
theorem cat_ok {n : Int} {rows : List (List Int)} (h : ferr n rows = 0) (ht : ¬ 256 < total rows) : catE n rows = 0 ∧ catV n rows = rows.flatten := by
  have : catE n rows = 0 := by simp [catE, h, ht]
  exact ⟨this, by simp [catV, this]⟩
end Go.Proofs.Ytldpfbmkmehadaa.M
