/-
  The mathematics of lists of words: ascending lists, words as strings of bytes, the error of a list. No program. No statement is proved here.
-/
import Derived.Test.YtjodhihcckcefaaBaZ
import Derived.Test.YtjodhihcckcefaaCmpM
namespace Go.Proofs.Ytjodhihcckcefaa.M

/-! ### Ascending lists -/
def asc (l : List (List Int)) : Prop := l.Pairwise fun x y => cmp x y = -1
theorem lt_trans {x y z : List Int} (h1 : cmp x y = -1) (h2 : cmp y z = -1) : cmp x z = -1 := by
  have h3 := cmp_trans (x := x) (y := y) (z := z) (by omega) (by omega)
  rcases cmp_range x z with h | h | h
  · exact h
  · exfalso
    have e := cmp_zero_iff.1 h
    subst e
    have := cmp_swap x y
    omega
  · omega
theorem gt_of {x y : List Int} : cmp x y = 1 ↔ cmp y x = -1 := by
  have := cmp_swap x y
  omega
theorem asc_nodup {l : List (List Int)} (h : asc l) : l.Nodup := List.Pairwise.imp (fun {x y} h e => by
  subst e
  rw [cmp_self] at h
  cases h) h
/-- Ascending lists with the same words are one. -/
theorem asc_uniq : ∀ {l k : List (List Int)}, asc l → asc k → (∀ x, x ∈ l ↔ x ∈ k) → l = k
  | [], [], _, _, _ => rfl
  | [], b :: k, _, _, h => absurd ((h b).2 (by simp)) (by simp)
  | a :: l, [], _, _, h => absurd ((h a).1 (by simp)) (by simp)
  | a :: l, b :: k, h1, h2, h => by
    have ha := List.pairwise_cons.1 h1
    have hb := List.pairwise_cons.1 h2
    have e : a = b := by
      rcases List.mem_cons.1 ((h a).1 (by simp)) with e | e
      · exact e
      · rcases List.mem_cons.1 ((h b).2 (by simp)) with e2 | e2
        · exact e2.symm
        · have h3 := hb.1 a e
          have h4 := ha.1 b e2
          have := lt_trans h3 h4
          rw [cmp_self] at this
          cases this
    subst e
    congr 1
    refine asc_uniq ha.2 hb.2 fun x => ?_
    constructor
    · intro hx
      rcases List.mem_cons.1 ((h x).1 (by simp [hx])) with e | e
      · subst e
        have := ha.1 x hx
        rw [cmp_self] at this
        cases this
      · exact e
    · intro hx
      rcases List.mem_cons.1 ((h x).2 (by simp [hx])) with e | e
      · subst e
        have := hb.1 x hx
        rw [cmp_self] at this
        cases this
      · exact e
/-- The same, told of neighbours. -/
def adj (l : List (List Int)) (k : Nat) : Prop := ∀ j : Nat, j + 1 < k → cmp (row l j) (row l (j + 1)) = -1
theorem adj_next {l : List (List Int)} {j : Nat} (h : adj l (j + 1)) (h2 : cmp (row l j) (row l (j + 1)) = -1) : adj l (j + 2) := fun i hi => by
  rcases Nat.lt_or_ge (i + 1) (j + 1) with h3 | h3
  · exact h i h3
  · obtain rfl : i = j := by omega
    exact h2
theorem row_cons {a : List Int} {l : List (List Int)} {k : Nat} : row (a :: l) (k + 1) = row l k := by simp [row]
theorem row_at {l : List (List Int)} {k : Nat} (h : k < l.length) : l[k]? = some (row l k) := by
  unfold row
  rw [List.getElem?_eq_getElem h]
  rfl
theorem row_mem {l : List (List Int)} {k : Nat} (h : k < l.length) : row l k ∈ l := List.mem_of_getElem? (row_at h)
theorem asc_adj : ∀ {l : List (List Int)}, adj l l.length ↔ asc l
  | [] => ⟨fun _ => List.Pairwise.nil, fun _ j h => by simp at h⟩
  | a :: l => by
    constructor
    · intro h
      have h1 : adj l l.length := fun j hj => by
        have := h (j + 1) (by simp; omega)
        rwa [row_cons, row_cons] at this
      have h2 := asc_adj.1 h1
      refine List.pairwise_cons.2 ⟨fun x hx => ?_, h2⟩
      cases l with
      | nil => cases hx
      | cons b l =>
        have h3 : cmp a b = -1 := h 0 (by simp)
        rcases List.mem_cons.1 hx with rfl | hx
        · exact h3
        · exact lt_trans h3 ((List.pairwise_cons.1 h2).1 x hx)
    · intro h j hj
      have h1 := List.pairwise_cons.1 h
      cases j with
      | zero =>
        have hl : 0 < l.length := by simp at hj; omega
        rw [row_cons]
        exact h1.1 _ (row_mem hl)
      | succ j =>
        rw [row_cons, row_cons]
        exact asc_adj.2 h1.2 j (by simp at hj; omega)
/-! ### The error of a list -/
def cwE (l : List (List Int)) (n : Int) : Int := if 4096 < l.length then 3 else if 16 < n then 3 else if n < 1 then 1 else ferr n l
open Classical in
noncomputable def chE (l : List (List Int)) (n : Int) : Int := if cwE l n ≠ 0 then cwE l n else if ¬ asc l then 1 else if 65536 < total l then 3 else 0
/-- A valid list. -/
structure Lv (l : List (List Int)) (n : Int) : Prop where
  len : l.length ≤ 4096
  n0 : 1 ≤ n
  n1 : n ≤ 16
  ck : ∀ x ∈ l, check x n = 0
  as : asc l
  st : total l ≤ 65536
theorem ferr_zero {n : Int} : ∀ {l : List (List Int)}, ferr n l = 0 ↔ ∀ x ∈ l, check x n = 0
  | [] => ⟨fun _ x h => (by cases h), fun _ => rfl⟩
  | a :: l => by
    unfold ferr
    by_cases h : check a n = 0
    · rw [if_pos h, ferr_zero]
      simp [h]
    · rw [if_neg h]
      exact ⟨fun e => absurd e h, fun e => absurd (e a (by simp)) h⟩
theorem chE_zero {l : List (List Int)} {n : Int} : chE l n = 0 ↔ Lv l n := by
  classical
  unfold chE
  constructor
  · intro h
    by_cases h1 : cwE l n ≠ 0
    · rw [if_pos h1] at h; exact absurd h h1
    · rw [if_neg h1] at h
      by_cases h2 : ¬ asc l
      · rw [if_pos h2] at h; cases h
      · rw [if_neg h2] at h
        by_cases h3 : 65536 < total l
        · rw [if_pos h3] at h; cases h
        · have h4 : cwE l n = 0 := by omega
          unfold cwE at h4
          split at h4
          · cases h4
          · split at h4
            · cases h4
            · split at h4
              · cases h4
              · exact ⟨by omega, by omega, by omega, ferr_zero.1 h4, Classical.not_not.1 h2, by omega⟩
  · intro h
    have h1 : cwE l n = 0 := by
      unfold cwE
      rw [if_neg (by have := h.len; omega), if_neg (by have := h.n1; omega), if_neg (by have := h.n0; omega)]
      exact ferr_zero.2 h.ck
    rw [if_neg (by omega), if_neg (Classical.not_not.2 h.as), if_neg (by have := h.st; omega)]
theorem check_zero_u {x : List Int} {n : Int} (h : check x n = 0) : 1 ≤ n ∧ n ≤ 16 ∧ x.length ≤ 256 ∧ ∀ z ∈ x, 0 ≤ z ∧ z < n := by
  unfold check at h
  split at h
  · cases h
  · split at h
    · cases h
    · rename_i h1 h2
      refine ⟨by omega, by omega, by omega, fun z hz => ?_⟩
      unfold badI at h
      split at h
      · cases h
      · rename_i h3
        have h4 : badB n z = false := by
          cases hb : badB n z with
          | false => rfl
          | true => exact absurd (List.any_eq_true.2 ⟨z, hz, hb⟩) h3
        exact badB_false (by rw [h4]; simp)
/-! ### Words as strings -/
def By (x : List Int) : Prop := ∀ z ∈ x, 0 ≤ z ∧ z < 256
theorem By.of_check {x : List Int} {n : Int} (h : check x n = 0) : By x := fun z hz => by
  have h1 := check_zero_u h
  have := h1.2.2.2 z hz
  omega
def kU (x : List Int) : List UInt8 := x.map fun z => UInt8.ofNat z.toNat
def uW (s : List UInt8) : List Int := s.map fun b => (b.toNat : Int)
theorem kU_len (x : List Int) : (kU x).length = x.length := by simp [kU]
theorem uW_len (s : List UInt8) : (uW s).length = s.length := by simp [uW]
theorem uW_by (s : List UInt8) : By (uW s) := fun z hz => by
  obtain ⟨b, _, rfl⟩ := List.mem_map.1 hz
  have := b.toNat_lt
  omega
theorem uW_kU : ∀ {x : List Int}, By x → uW (kU x) = x
  | [], _ => rfl
  | z :: x, h => by
    have h1 := h z (by simp)
    have h2 := uW_kU (x := x) fun y hy => h y (by simp [hy])
    show ((UInt8.ofNat z.toNat).toNat : Int) :: uW (kU x) = _
    rw [h2]
    congr 1
    rw [UInt8.toNat_ofNat']
    omega
theorem kU_uW : ∀ (s : List UInt8), kU (uW s) = s
  | [] => rfl
  | b :: s => by
    show UInt8.ofNat ((b.toNat : Int)).toNat :: kU (uW s) = _
    rw [kU_uW s, Int.toNat_natCast, UInt8.ofNat_toNat]
theorem kU_inj {x y : List Int} (hx : By x) (hy : By y) (h : kU x = kU y) : x = y := by rw [← uW_kU hx, ← uW_kU hy, h]
theorem kU_take (x : List Int) (n : Nat) : (kU x).take n = kU (x.take n) := by simp [kU, List.map_take]
theorem By.take {x : List Int} (h : By x) (n : Nat) : By (x.take n) := fun z hz => h z (List.mem_of_mem_take hz)
end Go.Proofs.Ytjodhihcckcefaa.M
