/-
  Contract: the trie of a list. No statement is proved here.
-/
import Derived.Test.YtjodhihcckcefaaU19
import Derived.Test.YtjodhihcckcefaaU13
import Derived.StillTailTactics
namespace Go.Proofs.Ytjodhihcckcefaa
open Go.RowKit Go.Maps

/-- There are no more prefixes than symbols, and the empty one. -/
theorem pre_count {rows S : List (List Int)} (hS : M.asc S) (hmem : ∀ x, x ∈ S ↔ ∃ y ∈ rows, x <+: y) : S.length ≤ M.total rows + 1 := by
  have h1 := nodup_le_len (S := [] :: rows.flatMap fun y => (List.range y.length).map fun j => y.take (j + 1)) (M.asc_nodup hS) (fun x hx => by
    obtain ⟨y, hy, hp⟩ := (hmem x).1 hx
    by_cases e : x = []
    · subst e; simp
    · refine List.mem_cons_of_mem _ (List.mem_flatMap.2 ⟨y, hy, List.mem_map.2 ⟨x.length - 1, ?_, ?_⟩⟩)
      · have := hp.length_le
        have := List.length_pos_iff.2 e
        rw [List.mem_range]; omega
      · have := List.length_pos_iff.2 e
        rw [show x.length - 1 + 1 = x.length by omega]
        exact (List.prefix_iff_eq_take.1 hp).symm)
  have h2 : ∀ l : List (List Int), (l.flatMap fun y => (List.range y.length).map fun j => y.take (j + 1)).length = M.total l := fun l => by
    induction l with
    | nil => rfl
    | cons a l ih =>
      rw [List.flatMap_cons, List.length_append, ih]
      simp [M.total]
  rw [List.length_cons, h2] at h1
  exact h1
/-- The words of a trie: all prefixes, in their order. -/
structure Pfx (rows S : List (List Int)) : Prop where
  up : M.asc S
  mem : ∀ x, x ∈ S ↔ ∃ y ∈ rows, x <+: y
theorem asc_take {S : List (List Int)} (h : M.asc S) (k : Nat) : M.asc (S.take k) := List.Pairwise.sublist (List.take_sublist _ _) h
theorem asc_row_lt {S : List (List Int)} (h : M.asc S) {i j : Nat} (hij : i < j) (hj : j < S.length) : M.cmp (M.row S i) (M.row S j) = -1 := by
  have h1 := List.pairwise_iff_getElem.1 h i j (by omega) hj hij
  have e : ∀ k (hk : k < S.length), M.row S k = S[k] := fun k hk => by
    have := M.row_at hk
    rw [List.getElem?_eq_getElem hk] at this
    injection this with this
    exact this.symm
  rw [e i (by omega), e j hj]
  exact h1
theorem mem_take_of_lt {S : List (List Int)} (h : M.asc S) {k : Nat} (_hk : k < S.length) {y : List Int} (hy : y ∈ S) (hl : M.cmp y (M.row S k) = -1) : y ∈ S.take k := by
  obtain ⟨i, hi, e⟩ := List.getElem_of_mem hy
  have e2 : M.row S i = y := by
    have := M.row_at hi
    rw [List.getElem?_eq_getElem hi, e] at this
    injection this with this
    exact this.symm
  rcases Nat.lt_or_ge i k with h1 | h1
  · rw [← e2]
    have : (S.take k)[i]? = some (M.row S i) := by rw [List.getElem?_take, if_pos h1, M.row_at hi]
    exact List.mem_of_getElem? this
  · exfalso
    rcases Nat.eq_or_lt_of_le h1 with h2 | h2
    · subst h2
      rw [e2, M.cmp_self] at hl
      cases hl
    · have h3 := asc_row_lt h h2 hi
      rw [e2] at h3
      have := M.lt_trans hl h3
      rw [M.cmp_self] at this
      cases this
theorem mem_take_lt {S : List (List Int)} (h : M.asc S) {k : Nat} (hk : k < S.length) {y : List Int} (hy : y ∈ S.take k) : M.cmp y (M.row S k) = -1 := by
  obtain ⟨i, hi, e⟩ := List.getElem_of_mem hy
  rw [List.length_take] at hi
  rw [List.getElem_take] at e
  have e2 : M.row S i = y := by
    have := M.row_at (l := S) (k := i) (by omega)
    rw [List.getElem?_eq_getElem (by omega), e] at this
    injection this with this
    exact this.symm
  rw [← e2]
  exact asc_row_lt h (by omega) hk
theorem row_fresh {S : List (List Int)} (h : M.asc S) {k : Nat} (hk : k < S.length) : ¬ M.row S k ∈ S.take k := fun hm => by
  have := mem_take_lt h hk hm
  rw [M.cmp_self] at this
  cases this
theorem len_le_of_lt {x y : List Int} (h : M.cmp x y = -1) : x.length ≤ y.length := by
  rcases Nat.lt_or_ge y.length x.length with h1 | h1
  · have := M.cmp_swap x y
    have h2 := M.cmp_short h1
    omega
  · exact h1
theorem split_last {x : List Int} (h : 0 < x.length) : ∃ (y : List Int) (z : Int), x = y ++ [z] := ⟨x.dropLast, x.getLast (List.length_pos_iff.1 h), (List.dropLast_concat_getLast _).symm⟩
theorem Pfx.parent {rows S : List (List Int)} (h : Pfx rows S) {k : Nat} (hk : k < S.length) {y : List Int} {z : Int} (e : M.row S k = y ++ [z]) : y ∈ S.take k := by
  refine mem_take_of_lt h.up hk ?_ (by rw [e]; exact M.cmp_short (by simp))
  obtain ⟨u, hu, hp⟩ := (h.mem _).1 (M.row_mem hk)
  refine (h.mem y).2 ⟨u, hu, List.IsPrefix.trans ?_ hp⟩
  rw [e]
  exact List.prefix_append _ _
theorem Pfx.root {rows S : List (List Int)} (h : Pfx rows S) (hk : 0 < S.length) : M.row S 0 = [] := by
  rcases Nat.eq_zero_or_pos (M.row S 0).length with h1 | h1
  · exact List.length_eq_zero_iff.1 h1
  · obtain ⟨y, z, e⟩ := split_last h1
    have := h.parent hk e
    simp at this
theorem Pfx.only {rows S : List (List Int)} (h : Pfx rows S) {k : Nat} (hk : k < S.length) (e : M.row S k = []) : k = 0 := by
  rcases Nat.eq_zero_or_pos k with h1 | h1
  · exact h1
  · have h2 := asc_row_lt h.up h1 hk
    rw [e, h.root (by omega), M.cmp_self] at h2
    cases h2
theorem uW_at {s : List UInt8} {x : List Int} (e : M.uW s = x) {k : Nat} {z : Int} (hk : x[k]? = some z) : ∃ b, s[k]? = some b ∧ (b.toNat : Int) = z := by
  subst e
  unfold M.uW at hk
  rw [List.getElem?_map] at hk
  obtain ⟨b, h1, h2⟩ := Option.map_eq_some_iff.1 hk
  exact ⟨b, h1, h2⟩
end Go.Proofs.Ytjodhihcckcefaa
