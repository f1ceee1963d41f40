/-
  The plain mathematics of the law WordsNext: lists of ints, no program. No statement is proved here.
-/
import Derived.Test.YtodjdfpealmjeaaDoorCmpM
namespace Go.Proofs.YtodjdfpealmjeaaDoor.M

/-- The next list behind a run of greatest symbols. -/
theorem next_run (n : Int) (p : List Int) : ∀ k, next n (p ++ List.replicate k (n - 1)) = next n p ++ List.replicate k 0 := by
  intro k
  induction k with
  | zero => simp
  | succ k ih =>
    rw [List.replicate_succ', ← List.append_assoc, next_over (by omega), ih, List.replicate_succ', List.append_assoc]
theorem next_max (n : Int) (k : Nat) : next n (List.replicate k (n - 1)) = List.replicate (k + 1) 0 := by
  have := next_run n [] k
  rw [List.nil_append, next_nil] at this
  rw [this, List.replicate_succ]
  rfl
theorem next_max_len (n : Int) : 256 < (next n (List.replicate 256 (n - 1))).length := by
  rw [next_max, List.length_replicate]
  omega
/-- So many times x, then y, then so many times z. -/
def three (a b : Nat) (x y z : Int) : List Int := (List.replicate a x ++ [y]) ++ List.replicate b z
theorem three_len (a b : Nat) (x y z : Int) : (three a b x y z).length = a + 1 + b := by
  unfold three
  rw [List.length_append, List.length_append, List.length_replicate, List.length_replicate, List.length_singleton]
theorem three_mid (a b : Nat) (x y z : Int) : (three a b x y z)[a]?.getD 0 = y := by
  unfold three
  rw [List.append_assoc, List.getElem?_append_right (by rw [List.length_replicate]; exact Nat.le_refl _), List.length_replicate, Nat.sub_self]
  rfl
theorem three_low (a b k : Nat) (x y z : Int) (h : k < a) : (three a b x y z)[k]?.getD 0 = x := by
  unfold three
  rw [List.append_assoc, List.getElem?_append_left (by rw [List.length_replicate]; exact h), List.getElem?_replicate, if_pos h]
  rfl
theorem three_high (a b k : Nat) (x y z : Int) (h : a < k) (h2 : k < a + 1 + b) : (three a b x y z)[k]?.getD 0 = z := by
  unfold three
  have e : (List.replicate a x ++ [y]).length = a + 1 := by rw [List.length_append, List.length_replicate, List.length_singleton]
  rw [List.getElem?_append_right (by rw [e]; omega), e, List.getElem?_replicate, if_pos (by omega)]
  rfl
theorem three_val {n : Int} (h : 1 ≤ n) (a b : Nat) : Val n (three a b (n - 1) 0 (n - 1)) := by
  unfold three
  refine ((?_ : Val n _).mk_app (Val.one (by omega))).mk_app ?_
  · intro z hz
    rw [List.eq_of_mem_replicate hz]
    omega
  · intro z hz
    rw [List.eq_of_mem_replicate hz]
    omega
theorem three_set (a b : Nat) (x y : Int) : (List.replicate (a + 1 + b) x).set a y = three a b x y x := by
  have e : List.replicate (a + 1 + b) x = List.replicate a x ++ x :: List.replicate b x := by
    rw [show a + 1 + b = a + (b + 1) by omega, ← List.replicate_append_replicate, List.replicate_succ]
  have hs : ∀ (p q : List Int) (y v : Int) (m : Nat), p.length = m → (p ++ y :: q).set m v = p ++ v :: q := fun p q y v m hm => by subst hm; simp
  rw [e, hs _ _ _ _ _ List.length_replicate]
  unfold three
  rw [List.append_assoc]
  rfl
theorem three_next {n : Int} (h : 2 ≤ n) (a b : Nat) : next n (three a b (n - 1) 0 (n - 1)) = three a b (n - 1) 1 0 := by
  unfold three
  rw [next_run, next_up (by omega)]
  rfl
theorem rep_val {n : Int} (h : 1 ≤ n) (k : Nat) : Val n (List.replicate k (n - 1)) := fun z hz => by
  rw [List.eq_of_mem_replicate hz]
  omega
/-- No word lies between a word and the next one. -/
theorem no_between {n : Int} (h : 1 ≤ n) {ws vs ns : List Int} (vw : Val n ws) (vv : Val n vs) (vn : Val n ns) (hr : rk n ns = rk n ws + 1) (h1 : cmp ws vs = -1) : ¬ cmp vs ns = -1 := fun h2 => by
  rw [rk_cmp h vw vv] at h1
  rw [rk_cmp h vv vn] at h2
  have a : rk n ws < rk n vs := by
    rcases Int.lt_trichotomy (rk n ws) (rk n vs) with e | e | e
    · exact e
    · rw [sgn_eq e] at h1; omega
    · rw [sgn_gt e] at h1; omega
  have b : rk n vs < rk n ns := by
    rcases Int.lt_trichotomy (rk n vs) (rk n ns) with e | e | e
    · exact e
    · rw [sgn_eq e] at h2; omega
    · rw [sgn_gt e] at h2; omega
  omega
theorem cmp_next {n : Int} (h : 1 ≤ n) {ws ns : List Int} (vw : Val n ws) (vn : Val n ns) (hr : rk n ns = rk n ws + 1) : cmp ws ns = -1 := by
  rw [rk_cmp h vw vn, hr, sgn_lt (by omega)]
end Go.Proofs.YtodjdfpealmjeaaDoor.M
