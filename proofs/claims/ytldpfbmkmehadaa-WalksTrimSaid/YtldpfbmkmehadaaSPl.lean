/-
  The edges of a machine with their places, ascending, as a list: plain mathematics. No statement is proved here.
-/
import Derived.Test.YtldpfbmkmehadaaMcM
namespace Go.Proofs.Ytldpfbmkmehadaa.Mc

/-- An edge with its place. -/
abbrev Pe := Nat × Nat × Ed
def rowL (s : Nat) : Nat → List Ed → List Pe
  | _, [] => []
  | i, x :: row => (s, i, x) :: rowL s (i + 1) row
def pl : Nat → List (List Ed) → List Pe
  | _, [] => []
  | s, row :: rs => rowL s 0 row ++ pl (s + 1) rs
theorem rowL_len (s : Nat) : ∀ (row : List Ed) (i : Nat), (rowL s i row).length = row.length
  | [], _ => rfl
  | x :: row, i => by simp [rowL, rowL_len s row]
theorem rowL_get (s : Nat) : ∀ (row : List Ed) (i j : Nat) (x : Ed), row[j]? = some x → (rowL s i row)[j]? = some (s, i + j, x)
  | [], _, _, _, h => by simp at h
  | y :: row, i, 0, x, h => by simp at h; subst h; simp [rowL]
  | y :: row, i, j + 1, x, h => by
    have := rowL_get s row (i + 1) j x (by simpa using h)
    simp only [rowL, List.getElem?_cons_succ]
    rw [this]; congr 3; omega
theorem pl_app : ∀ (a b : List (List Ed)) (s : Nat), pl s (a ++ b) = pl s a ++ pl (s + a.length) b
  | [], b, s => by simp [pl]
  | x :: a, b, s => by simp [pl, pl_app a b, Nat.add_comm, Nat.add_left_comm]
/-- How many edges stand before a row. -/
def pos (rs : List (List Ed)) (s : Nat) : Nat := (pl 0 (rs.take s)).length
theorem pos_zero (rs : List (List Ed)) : pos rs 0 = 0 := rfl
theorem pos_all (rs : List (List Ed)) {n : Nat} (h : rs.length = n) : pos rs n = (pl 0 rs).length := by
  unfold pos; rw [List.take_of_length_le (by omega)]
theorem pos_next {rs : List (List Ed)} {s : Nat} {row : List Ed} (h : rs[s]? = some row) : pos rs (s + 1) = pos rs s + row.length := by
  unfold pos
  rw [List.take_add_one, pl_app, h]
  simp [pl, rowL_len]
theorem pl_split {rs : List (List Ed)} {s : Nat} {row : List Ed} (h : rs[s]? = some row) : pl 0 rs = pl 0 (rs.take s) ++ (rowL s 0 row ++ pl (s + 1) (rs.drop (s + 1))) := by
  have hs : s < rs.length := (List.getElem?_eq_some_iff.1 h).1
  have e : rs = rs.take s ++ (row :: rs.drop (s + 1)) := by
    have h1 : rs.drop s = rs[s] :: rs.drop (s + 1) := List.drop_eq_getElem_cons hs
    rw [List.getElem?_eq_getElem hs] at h
    injection h with h
    rw [h] at h1
    rw [← h1, List.take_append_drop]
  conv => lhs; rw [e]
  rw [pl_app, List.length_take, Nat.min_eq_left (by omega)]
  simp [pl]
theorem pl_at {rs : List (List Ed)} {s j : Nat} {row : List Ed} {x : Ed} (h : rs[s]? = some row) (hx : row[j]? = some x) : (pl 0 rs)[pos rs s + j]? = some (s, j, x) := by
  have hj : j < row.length := (List.getElem?_eq_some_iff.1 hx).1
  rw [pl_split h]
  unfold pos
  rw [List.getElem?_append_right (by omega), Nat.add_sub_cancel_left, List.getElem?_append_left (by rw [rowL_len]; exact hj), rowL_get s row 0 j x hx]
  simp
theorem rowL_mem (s : Nat) : ∀ (row : List Ed) (i : Nat) (p : Pe), p ∈ rowL s i row → p.1 = s ∧ ∃ j, p.2.1 = i + j ∧ row[j]? = some p.2.2
  | [], _, p, h => by simp [rowL] at h
  | x :: row, i, p, h => by
    simp only [rowL, List.mem_cons] at h
    rcases h with rfl | h
    · exact ⟨rfl, 0, rfl, rfl⟩
    · obtain ⟨h1, j, h2, h3⟩ := rowL_mem s row (i + 1) p h
      exact ⟨h1, j + 1, by omega, by simpa using h3⟩
theorem pl_mem : ∀ (rs : List (List Ed)) (s : Nat) (p : Pe), p ∈ pl s rs → ∃ t row, p.1 = s + t ∧ rs[t]? = some row ∧ row[p.2.1]? = some p.2.2
  | [], _, p, h => by simp [pl] at h
  | row :: rs, s, p, h => by
    simp only [pl, List.mem_append] at h
    rcases h with h | h
    · obtain ⟨h1, j, h2, h3⟩ := rowL_mem s row 0 p h
      exact ⟨0, row, by omega, rfl, by rw [h2, Nat.zero_add]; exact h3⟩
    · obtain ⟨t, row', h1, h2, h3⟩ := pl_mem rs (s + 1) p h
      exact ⟨t + 1, row', by omega, by simpa using h2, h3⟩
theorem pl_get {rs : List (List Ed)} {k : Nat} {p : Pe} (h : (pl 0 rs)[k]? = some p) : ∃ row, rs[p.1]? = some row ∧ row[p.2.1]? = some p.2.2 := by
  obtain ⟨t, row, h1, h2, h3⟩ := pl_mem rs 0 p (List.mem_of_getElem? h)
  exact ⟨row, by rw [h1, Nat.zero_add]; exact h2, h3⟩
/-- All edges, without their places. -/
theorem rowL_all (s : Nat) (q : Ed → Bool) : ∀ (row : List Ed) (i : Nat), (rowL s i row).all (fun p => q p.2.2) = row.all q
  | [], _ => rfl
  | x :: row, i => by simp [rowL, rowL_all s q row]
theorem pl_all (q : Ed → Bool) : ∀ (rs : List (List Ed)) (s : Nat), (pl s rs).all (fun p => q p.2.2) = rs.all fun row => row.all q
  | [], _ => rfl
  | row :: rs, s => by simp only [pl, List.all_append, rowL_all, pl_all q rs, List.all_cons]
theorem rowL_cnt (s : Nat) : ∀ (row : List Ed) (i : Nat), (rowL s i row).countP (fun p => decide (0 ≤ p.2.2.1)) = cntE row
  | [], _ => rfl
  | x :: row, i => by
    have := rowL_cnt s row (i + 1)
    unfold cntE at this ⊢
    simp [rowL, List.countP_cons, this]
theorem pl_cnt : ∀ (rs : List (List Ed)) (s : Nat), (pl s rs).countP (fun p => decide (0 ≤ p.2.2.1)) = dfd rs
  | [], _ => rfl
  | row :: rs, s => by simp [pl, List.countP_append, rowL_cnt, pl_cnt rs, dfd]
/-- The undefined edges among the first ones. -/
def undP (l : List Pe) : List Ed := l.flatMap fun p => if p.2.2.1 < 0 then [((p.1 : Int), (p.2.1 : Int))] else []
theorem undP_row (s : Nat) : ∀ (row : List Ed) (i : Nat), undP (rowL s i row) = undR s row i
  | [], _ => rfl
  | x :: row, i => by
    have := undP_row s row (i + 1)
    unfold undP at this ⊢
    simp only [rowL, List.flatMap_cons, undR, this]
theorem undP_app (a b : List Pe) : undP (a ++ b) = undP a ++ undP b := by simp [undP]
theorem undP_pl : ∀ (rs : List (List Ed)) (s : Nat), undP (pl s rs) = und rs s
  | [], _ => rfl
  | row :: rs, s => by rw [pl, undP_app, undP_row, undP_pl rs, und]
theorem undP_snoc {l : List Pe} {k : Nat} {p : Pe} (h : l[k]? = some p) : undP (l.take (k + 1)) = undP (l.take k) ++ (if p.2.2.1 < 0 then [((p.1 : Int), (p.2.1 : Int))] else []) := by
  rw [List.take_add_one, undP_app, h]
  simp [undP]
theorem undP_pre {l : List Pe} (k : Nat) : (undP (l.take k)).length ≤ (undP l).length := by
  conv => rhs; rw [← List.take_append_drop k l, undP_app]
  simp
theorem pl_len {i : Int} : ∀ (rs : List (List Ed)) (s : Nat), (∀ row ∈ rs, (row.length : Int) = i) → ((pl s rs).length : Int) = rs.length * i
  | [], _, _ => by simp [pl]
  | row :: rs, s, h => by
    have h1 := pl_len rs (s + 1) (fun x hx => h x (by simp [hx]))
    have h2 := h row (by simp)
    simp only [pl, List.length_append, rowL_len, List.length_cons]
    have e : (((rs.length + 1 : Nat)) : Int) * i = (rs.length : Int) * i + i := by
      rw [Int.natCast_add, Int.add_mul]; simp
    rw [e]
    omega
end Go.Proofs.Ytldpfbmkmehadaa.Mc
