/-
  The plain mathematics of machines: lists of rows of edges, no program. No statement is proved here.
-/
namespace Go.Proofs.Ytldpfbmkmehadaa.Mc

abbrev Ed := Int × Int
abbrev nE : Ed := (-1, -1)
/-- A machine: how many inputs, how many outputs, the rows. -/
structure Ma where
  i : Int
  o : Int
  r : List (List Ed)
  deriving DecidableEq
def okE (n o : Int) (x : Ed) : Bool := (decide (x.1 = -1) && decide (x.2 = -1)) || (decide (0 ≤ x.1) && decide (x.1 < n) && decide (0 ≤ x.2) && decide (x.2 < o))
def okR (n i o : Int) (row : List Ed) : Bool := decide ((row.length : Int) = i) && row.all (okE n o)
/-- The error of a machine. -/
def chk (m : Ma) : Int := if 16 < m.i ∨ 16 < m.o ∨ 64 < m.r.length then 3 else if m.i < 1 ∨ m.o < 1 ∨ m.r.length = 0 then 1 else if m.r.all (okR m.r.length m.i m.o) then 0 else 1
theorem chk_limit {m : Ma} (h : 16 < m.i ∨ 16 < m.o ∨ 64 < m.r.length) : chk m = 3 := by simp [chk, h]
theorem chk_arg {m : Ma} (h : ¬ (16 < m.i ∨ 16 < m.o ∨ 64 < m.r.length)) (h1 : m.i < 1 ∨ m.o < 1 ∨ m.r.length = 0) : chk m = 1 := by unfold chk; rw [if_neg h, if_pos h1]
theorem chk_in {m : Ma} (h : ¬ (16 < m.i ∨ 16 < m.o ∨ 64 < m.r.length)) (h1 : ¬ (m.i < 1 ∨ m.o < 1 ∨ m.r.length = 0)) : chk m = if m.r.all (okR m.r.length m.i m.o) then 0 else 1 := by unfold chk; rw [if_neg h, if_neg h1]
theorem all_snoc {α : Type} {p : α → Bool} {l : List α} {k : Nat} {x : α} (hk : l[k]? = some x) (h : (l.take k).all p = true) (hx : p x = true) : (l.take (k + 1)).all p = true := by
  rw [List.take_add_one, List.all_append, h, hk]
  simpa using hx
theorem all_hit {α : Type} {p : α → Bool} {l : List α} {k : Nat} {x : α} (hk : l[k]? = some x) (hx : p x = false) : l.all p = false := by
  cases h : l.all p with
  | false => rfl
  | true => rw [List.all_eq_true.1 h x (List.mem_of_getElem? hk)] at hx; cases hx
theorem okR_bad {n i o : Int} {row : List Ed} {k : Nat} {x : Ed} (hk : row[k]? = some x) (hx : okE n o x = false) : okR n i o row = false := by
  unfold okR; rw [all_hit hk hx, Bool.and_false]
theorem okR_len {n i o : Int} {row : List Ed} (h : (row.length : Int) ≠ i) : okR n i o row = false := by simp [okR, h]
theorem okR_ok {n i o : Int} {row : List Ed} (h : (row.length : Int) = i) (ha : row.all (okE n o) = true) : okR n i o row = true := by simp [okR, h, ha]
theorem okE_none {n o : Int} {x : Ed} (h1 : x.1 = -1) (h2 : x.2 = -1) : okE n o x = true := by simp [okE, h1, h2]
theorem okE_in {n o : Int} {x : Ed} (h1 : 0 ≤ x.1) (h2 : x.1 < n) (h3 : 0 ≤ x.2) (h4 : x.2 < o) : okE n o x = true := by simp [okE, h1, h2, h3, h4]
theorem okE_out {n o : Int} {x : Ed} (h0 : ¬ (x.1 = -1 ∧ x.2 = -1)) (h : x.1 < 0 ∨ n ≤ x.1 ∨ x.2 < 0 ∨ o ≤ x.2) : okE n o x = false := by
  cases e : okE n o x with
  | false => rfl
  | true =>
    simp [okE] at e
    omega
theorem okE_cases {n o : Int} {x : Ed} (h : okE n o x = true) : (x.1 = -1 ∧ x.2 = -1) ∨ (0 ≤ x.1 ∧ x.1 < n ∧ 0 ≤ x.2 ∧ x.2 < o) := by
  simp [okE] at h
  omega

/-- A valid machine. -/
structure Val (m : Ma) : Prop where
  i0 : 1 ≤ m.i
  i1 : m.i ≤ 16
  o0 : 1 ≤ m.o
  o1 : m.o ≤ 16
  r0 : 1 ≤ m.r.length
  r1 : m.r.length ≤ 64
  len : ∀ row ∈ m.r, (row.length : Int) = m.i
  ok : ∀ row ∈ m.r, ∀ x ∈ row, (x.1 = -1 ∧ x.2 = -1) ∨ (0 ≤ x.1 ∧ x.1 < m.r.length ∧ 0 ≤ x.2 ∧ x.2 < m.o)
theorem val_of {m : Ma} (h : chk m = 0) : Val m := by
  by_cases h1 : 16 < m.i ∨ 16 < m.o ∨ 64 < m.r.length
  · rw [chk_limit h1] at h; cases h
  by_cases h2 : m.i < 1 ∨ m.o < 1 ∨ m.r.length = 0
  · rw [chk_arg h1 h2] at h; cases h
  rw [chk_in h1 h2] at h
  split at h
  · rename_i ha
    have hr : ∀ row ∈ m.r, (row.length : Int) = m.i ∧ row.all (okE m.r.length m.o) = true := fun row hrow => by
      have := List.all_eq_true.1 ha row hrow
      simpa [okR] using this
    exact ⟨by omega, by omega, by omega, by omega, by omega, by omega, fun row hrow => (hr row hrow).1, fun row hrow x hx => okE_cases (List.all_eq_true.1 (hr row hrow).2 x hx)⟩
  · cases h
theorem chk_of {m : Ma} (v : Val m) : chk m = 0 := by
  have h1 := v.i0; have h2 := v.i1; have h3 := v.o0; have h4 := v.o1; have h5 := v.r0; have h6 := v.r1
  rw [chk_in (by omega) (by omega)]
  rw [if_pos]
  refine List.all_eq_true.2 fun row hrow => okR_ok (v.len row hrow) (List.all_eq_true.2 fun x hx => ?_)
  rcases v.ok row hrow x hx with ⟨a, b⟩ | ⟨a, b, c, d⟩
  · exact okE_none a b
  · exact okE_in a b c d
theorem chk_vals (m : Ma) : chk m = 0 ∨ chk m = 1 ∨ chk m = 3 := by
  unfold chk
  split
  · simp
  · split
    · simp
    · split <;> simp

/-! ### Runs -/
/-- The edge of a state, which may be none, for an input. -/
def nx (m : Ma) (s i : Int) : Ed := if s < 0 then nE else ((m.r[s.toNat]?.getD [])[i.toNat]?).getD nE
def run (m : Ma) : Int → List Int → List Int
  | _, [] => []
  | s, c :: w => (nx m s c).2 :: run m (nx m s c).1 w
def aft (m : Ma) : Int → List Int → Int
  | s, [] => s
  | s, c :: w => aft m (nx m s c).1 w
theorem run_len (m : Ma) : ∀ (w : List Int) (s : Int), (run m s w).length = w.length
  | [], _ => rfl
  | c :: w, s => by simp [run, run_len m w]
theorem run_app (m : Ma) : ∀ (u v : List Int) (s : Int), run m s (u ++ v) = run m s u ++ run m (aft m s u) v
  | [], _, _ => rfl
  | c :: u, v, s => by simp [run, aft, run_app m u v]
theorem aft_app (m : Ma) : ∀ (u v : List Int) (s : Int), aft m s (u ++ v) = aft m (aft m s u) v
  | [], _, _ => rfl
  | c :: u, v, s => by simp [aft, aft_app m u v]
theorem nx_neg {m : Ma} {s i : Int} (h : s < 0) : nx m s i = nE := by simp [nx, h]
theorem nx_at {m : Ma} {s i : Nat} {row : List Ed} {x : Ed} (hs : m.r[s]? = some row) (hi : row[i]? = some x) : nx m s i = x := by
  unfold nx
  rw [if_neg (by omega), Int.toNat_natCast, Int.toNat_natCast, hs, Option.getD_some, hi, Option.getD_some]
theorem run_none (m : Ma) : ∀ (w : List Int) (s : Int), s < 0 → run m s w = w.map fun _ => -1
  | [], _, _ => rfl
  | c :: w, s, h => by simp [run, nx_neg h, run_none m w]
theorem aft_none (m : Ma) : ∀ (w : List Int) (s : Int), s = -1 → aft m s w = -1
  | [], _, h => h
  | c :: w, s, h => by
    have : nx m s c = nE := nx_neg (by omega)
    simp [aft, this, aft_none m w]
/-- A state, or none. -/
def St (m : Ma) (s : Int) : Prop := s = -1 ∨ (0 ≤ s ∧ s < m.r.length)
/-- A word over the inputs. -/
def Wd (m : Ma) (w : List Int) : Prop := ∀ c ∈ w, 0 ≤ c ∧ c < m.i
theorem nx_st {m : Ma} (v : Val m) {s i : Int} (hs : St m s) (hi : 0 ≤ i ∧ i < m.i) : St m (nx m s i).1 ∧ ((nx m s i).1 = -1 → (nx m s i).2 = -1) ∧ -1 ≤ (nx m s i).2 ∧ (nx m s i).2 < m.o ∧ (0 ≤ (nx m s i).1 → 0 ≤ (nx m s i).2) := by
  have h3 := v.o0
  rcases hs with rfl | ⟨h1, h2⟩
  · rw [nx_neg (by omega)]
    exact ⟨Or.inl rfl, fun _ => rfl, by simp, by simp; omega, by simp⟩
  · obtain ⟨s, rfl⟩ := Int.eq_ofNat_of_zero_le h1
    obtain ⟨i, rfl⟩ := Int.eq_ofNat_of_zero_le hi.1
    have hl : s < m.r.length := by omega
    have hrow := v.len m.r[s] (List.getElem_mem hl)
    have hil : i < (m.r[s]).length := by omega
    rw [nx_at (List.getElem?_eq_getElem hl) (List.getElem?_eq_getElem hil)]
    rcases v.ok m.r[s] (List.getElem_mem hl) (m.r[s])[i] (List.getElem_mem hil) with ⟨a, b⟩ | ⟨a, b, c, d⟩
    · refine ⟨Or.inl a, fun _ => b, by omega, by omega, fun h => by omega⟩
    · exact ⟨Or.inr ⟨a, b⟩, fun h => by omega, by omega, d, fun _ => c⟩
theorem aft_st {m : Ma} (v : Val m) : ∀ (w : List Int) (s : Int), St m s → Wd m w → St m (aft m s w)
  | [], _, h, _ => h
  | c :: w, s, h, hw => aft_st v w _ (nx_st v h (hw c (by simp))).1 (fun d hd => hw d (by simp [hd]))

/-! ### Shape -/
def cntE (row : List Ed) : Nat := row.countP fun x => decide (0 ≤ x.1)
/-- How many edges are defined. -/
def dfd (r : List (List Ed)) : Nat := (r.map cntE).sum
theorem cntE_snoc {row : List Ed} {k : Nat} {x : Ed} (h : row[k]? = some x) : cntE (row.take (k + 1)) = cntE (row.take k) + if 0 ≤ x.1 then 1 else 0 := by
  unfold cntE
  rw [List.take_add_one, List.countP_append, h]
  by_cases hx : 0 ≤ x.1 <;> simp [hx]
theorem dfd_snoc {r : List (List Ed)} {k : Nat} {row : List Ed} (h : r[k]? = some row) : dfd (r.take (k + 1)) = dfd (r.take k) + cntE row := by
  unfold dfd
  rw [List.take_add_one, List.map_append, List.sum_append, h]
  simp
theorem cntE_le (row : List Ed) : cntE row ≤ row.length := List.countP_le_length
/-- The undefined edges of a row, of rows. -/
def undR (s : Int) (row : List Ed) (k : Nat) : List Ed := match row with
  | [] => []
  | x :: row => (if x.1 < 0 then [(s, (k : Int))] else []) ++ undR s row (k + 1)
def und (r : List (List Ed)) (k : Nat) : List Ed := match r with
  | [] => []
  | row :: r => undR k row 0 ++ und r (k + 1)
theorem undR_app (s : Int) : ∀ (a b : List Ed) (k : Nat), undR s (a ++ b) k = undR s a k ++ undR s b (k + a.length)
  | [], b, k => by simp [undR]
  | x :: a, b, k => by simp [undR, undR_app s a b, Nat.add_comm, Nat.add_left_comm]
theorem und_app : ∀ (a b : List (List Ed)) (k : Nat), und (a ++ b) k = und a k ++ und b (k + a.length)
  | [], b, k => by simp [und]
  | x :: a, b, k => by simp [und, und_app a b, Nat.add_comm, Nat.add_left_comm]
theorem undR_snoc {s : Int} {row : List Ed} {k : Nat} {x : Ed} (h : row[k]? = some x) : undR s (row.take (k + 1)) 0 = undR s (row.take k) 0 ++ (if x.1 < 0 then [(s, (k : Int))] else []) := by
  have hk : k < row.length := (List.getElem?_eq_some_iff.1 h).1
  rw [List.take_add_one, undR_app, h, List.length_take, Nat.min_eq_left (by omega)]
  simp [undR]
theorem und_snoc {r : List (List Ed)} {k : Nat} {row : List Ed} (h : r[k]? = some row) : und (r.take (k + 1)) 0 = und (r.take k) 0 ++ undR k row 0 := by
  have hk : k < r.length := (List.getElem?_eq_some_iff.1 h).1
  rw [List.take_add_one, und_app, h, List.length_take, Nat.min_eq_left (by omega)]
  simp [und]
theorem undR_len (s : Int) : ∀ (row : List Ed) (k : Nat), (undR s row k).length + cntE row = row.length
  | [], _ => rfl
  | x :: row, k => by
    have := undR_len s row (k + 1)
    by_cases hx : 0 ≤ x.1
    · have h2 : ¬ x.1 < 0 := by omega
      simp only [undR, if_neg h2, List.nil_append, cntE, List.countP_cons, decide_eq_true hx, if_true, List.length_cons]
      unfold cntE at this
      omega
    · have h2 : x.1 < 0 := by omega
      simp only [undR, if_pos h2, cntE, List.countP_cons, decide_eq_false hx, List.length_cons, List.length_append]
      unfold cntE at this
      simp
      omega
theorem und_len {i : Int} : ∀ (r : List (List Ed)) (k : Nat), (∀ row ∈ r, (row.length : Int) = i) → ((und r k).length : Int) + dfd r = r.length * i
  | [], _, _ => by simp [und, dfd]
  | row :: r, k, h => by
    have h1 := und_len r (k + 1) (fun x hx => h x (by simp [hx]))
    have h2 := undR_len k row 0
    have h3 := h row (by simp)
    simp only [und, List.length_append, dfd, List.map_cons, List.sum_cons, List.length_cons] at h1 ⊢
    have e : (((r.length + 1 : Nat)) : Int) * i = (r.length : Int) * i + i := by
      rw [Int.natCast_add, Int.add_mul]; simp
    rw [e]
    omega
/-- Each undefined edge is one, and they ascend. -/
theorem undR_mem (s : Int) : ∀ (row : List Ed) (k : Nat), ∀ p ∈ undR s row k, p.1 = s ∧ ∃ j : Nat, p.2 = ((k + j : Nat) : Int) ∧ ∃ x, row[j]? = some x ∧ x.1 < 0
  | [], _, p, h => by simp [undR] at h
  | x :: row, k, p, h => by
    rw [undR] at h
    rcases List.mem_append.1 h with h | h
    · split at h
      · rename_i hx
        simp at h
        subst h
        exact ⟨rfl, 0, rfl, x, rfl, hx⟩
      · simp at h
    · obtain ⟨h1, j, h2, y, h3, h4⟩ := undR_mem s row (k + 1) p h
      exact ⟨h1, j + 1, by rw [h2]; congr 1; omega, y, by simpa using h3, h4⟩
theorem und_mem : ∀ (r : List (List Ed)) (k : Nat), ∀ p ∈ und r k, ∃ s j : Nat, p = (((k + s : Nat) : Int), (j : Int)) ∧ ∃ row x, r[s]? = some row ∧ row[j]? = some x ∧ x.1 < 0
  | [], _, p, h => by simp [und] at h
  | row :: r, k, p, h => by
    rw [und] at h
    rcases List.mem_append.1 h with h | h
    · obtain ⟨h1, j, h2, x, h3, h4⟩ := undR_mem k row 0 p h
      exact ⟨0, j, Prod.ext h1 (by rw [h2]; simp), row, x, rfl, h3, h4⟩
    · obtain ⟨s, j, h1, row', x, h2, h3, h4⟩ := und_mem r (k + 1) p h
      exact ⟨s + 1, j, by rw [h1]; congr 2; omega, row', x, by simpa using h2, h3, h4⟩
def Lt2 (p q : Ed) : Prop := p.1 < q.1 ∨ (p.1 = q.1 ∧ p.2 < q.2)
theorem undR_sorted (s : Int) : ∀ (row : List Ed) (k : Nat), (undR s row k).Pairwise Lt2
  | [], _ => by simp [undR]
  | x :: row, k => by
    rw [undR]
    refine List.pairwise_append.2 ⟨by split <;> simp, undR_sorted s row (k + 1), fun p hp q hq => ?_⟩
    split at hp
    · simp at hp
      subst hp
      obtain ⟨h1, j, h2, _⟩ := undR_mem s row (k + 1) q hq
      exact Or.inr ⟨h1.symm, by show (k : Int) < q.2; rw [h2]; omega⟩
    · simp at hp
theorem und_sorted : ∀ (r : List (List Ed)) (k : Nat), (und r k).Pairwise Lt2
  | [], _ => by simp [und]
  | row :: r, k => by
    rw [und]
    refine List.pairwise_append.2 ⟨undR_sorted k row 0, und_sorted r (k + 1), fun p hp q hq => ?_⟩
    obtain ⟨h1, _⟩ := undR_mem k row 0 p hp
    obtain ⟨s, j, h2, _⟩ := und_mem r (k + 1) q hq
    exact Or.inl (by rw [h1, h2]; simp; omega)

/-! ### What is reached -/
/-- A state that is reached from a state. -/
inductive Rch (m : Ma) (a : Nat) : Nat → Prop
  | here : Rch m a a
  | step {s : Nat} {i : Nat} {row : List Ed} {x : Ed} (h : Rch m a s) (hs : m.r[s]? = some row) (hi : row[i]? = some x) (hx : 0 ≤ x.1) : Rch m a x.1.toNat
noncomputable def conn (m : Ma) : Bool := @decide (∀ s, s < m.r.length → Rch m 0 s) (Classical.propDecidable _)
theorem conn_iff (m : Ma) : conn m = true ↔ ∀ s, s < m.r.length → Rch m 0 s := by
  unfold conn
  exact @decide_eq_true_iff _ (Classical.propDecidable _)

/-! ### Equality -/
/-- What With returns: the rows with another edge. -/
def wth (m : Ma) (s i : Nat) (x : Ed) : Ma := { m with r := m.r.set s (((m.r[s]?).getD []).set i x) }
end Go.Proofs.Ytldpfbmkmehadaa.Mc
