/-
  The plain mathematics of the reference's reader: lists of bytes, no program. No statement is proved here.
-/
import Derived.Test.YtodjdfpealmjeaaDoorParseM
namespace Go.Proofs.YtodjdfpealmjeaaDoor.M

/-- The state at the head of a number: what is read already, the pieces that are left. -/
def Ps (l : List UInt8) (p : Nat) (xs : List Int) : Prop := ∃ done, pieces l = done ++ pieces (l.drop p) ∧ numsOk done = true ∧ xs = done.map numV
theorem Ps.start (l : List UInt8) : Ps l 0 [] := ⟨[], by simp, rfl, rfl⟩
theorem Ps.bad {l : List UInt8} {p : Nat} {xs : List Int} (h : Ps l p xs) (hl : l ≠ [45]) (hb : ∃ q ps, pieces (l.drop p) = q :: ps ∧ numOk q = false) : listOk l = false ∧ listV l = [] := by
  obtain ⟨done, h1, h2, h3⟩ := h
  obtain ⟨q, ps, hq, hn⟩ := hb
  refine list_bad (k := done.length) (p := q) hl ?_ hn
  rw [h1, hq]
  simp
theorem numsOk_app {a b : List (List UInt8)} : numsOk (a ++ b) = (numsOk a && numsOk b) := by simp [numsOk]
theorem Ps.last {l : List UInt8} {p : Nat} {xs : List Int} {q : List UInt8} {n : Int} (h : Ps l p xs) (hl : l ≠ [45]) (hq : pieces (l.drop p) = [q]) (hn : numOk q = true) (hv : numV q = n) : listOk l = true ∧ listV l = xs ++ [n] := by
  obtain ⟨done, h1, h2, h3⟩ := h
  have ha : numsOk (pieces l) = true := by rw [h1, hq, numsOk_app, h2]; simp [numsOk, hn]
  obtain ⟨a, b⟩ := list_good hl ha
  refine ⟨a, ?_⟩
  rw [b, h1, hq, h3, ← hv]
  simp
theorem Ps.step {l : List UInt8} {p m : Nat} {xs : List Int} {q : List UInt8} {n : Int} (h : Ps l p xs) (hq : pieces (l.drop p) = q :: pieces (l.drop m)) (hn : numOk q = true) (hv : numV q = n) : Ps l m (xs ++ [n]) := by
  obtain ⟨done, h1, h2, h3⟩ := h
  refine ⟨done ++ [q], by rw [h1, hq]; simp, by rw [numsOk_app, h2]; simp [numsOk, hn], by rw [h3, ← hv]; simp⟩

/-- The state of the scan of digits. -/
def Sc (l : List UInt8) (p k : Nat) (n : Int) : Prop := p ≤ k ∧ k ≤ l.length ∧ (∀ i, p ≤ i → i < k → ∃ c, l[i]? = some c ∧ nod c = false) ∧ n = val ((l.drop p).take (k - p))
theorem Sc.start {l : List UInt8} {p : Nat} (hp : p ≤ l.length) : Sc l p p 0 := ⟨Nat.le_refl _, hp, fun i h1 h2 => by omega, by simp [val]⟩
theorem Sc.any {l : List UInt8} {p k : Nat} {n : Int} (h : Sc l p k n) : ((l.drop p).take (k - p)).any nod = false := by
  rw [List.any_eq_false]
  intro c hc
  obtain ⟨j, hj, rfl⟩ := List.getElem_of_mem hc
  rw [List.length_take, List.length_drop] at hj
  obtain ⟨c, h1, h2⟩ := h.2.2.1 (p + j) (by omega) (by omega)
  rw [List.getElem_take, List.getElem_drop]
  rw [List.getElem?_eq_getElem (by omega)] at h1
  injection h1 with h1
  rw [h1, h2]
  simp
theorem Sc.bound {l : List UInt8} {p k : Nat} {n : Int} (h : Sc l p k n) (hk : k ≤ p + 10) : 0 ≤ n ∧ n < 10000000000 := by
  rw [h.2.2.2]
  exact val_small (by rw [List.length_take]; omega) h.any
theorem Sc.step {l : List UInt8} {p k : Nat} {n : Int} {c : UInt8} (h : Sc l p k n) (hc : l[k]? = some c) (hn : nod c = false) : Sc l p (k + 1) (10 * n + ((c.toNat : Int) - 48)) := by
  have hk : k < l.length := by
    rcases Nat.lt_or_ge k l.length with h1 | h1
    · exact h1
    · rw [List.getElem?_eq_none h1] at hc; cases hc
  refine ⟨by have := h.1; omega, by omega, fun i h1 h2 => ?_, ?_⟩
  · rcases Nat.lt_succ_iff_lt_or_eq.1 h2 with h3 | rfl
    · exact h.2.2.1 i h1 h3
    · exact ⟨c, hc, hn⟩
  · have hp := h.1
    have e : (l.drop p).take (k + 1 - p) = (l.drop p).take (k - p) ++ [c] := by
      rw [show k + 1 - p = (k - p) + 1 by omega, List.take_add_one, List.getElem?_drop, show p + (k - p) = k by omega, hc]
      rfl
    rw [e, val_snoc, ← h.2.2.2]
theorem nod_blank {c : UInt8} (h : nod c = false) : c ≠ 32 := by
  rintro rfl
  simp [nod] at h
theorem first_at {r : List UInt8} : ∀ {j : Nat}, (∀ i, i < j → ∃ c, r[i]? = some c ∧ c ≠ 32) → ∃ p ps, pieces r = p :: ps ∧ j ≤ p.length ∧ ∀ i, i < j → p[i]? = r[i]? := by
  induction r with
  | nil =>
    intro j h
    have : j = 0 := by
      rcases Nat.eq_zero_or_pos j with h0 | h0
      · exact h0
      · obtain ⟨c, h1, _⟩ := h 0 h0; simp at h1
    subst this
    exact ⟨[], [], rfl, Nat.le_refl _, fun i hi => by omega⟩
  | cons c t ih =>
    intro j h
    cases j with
    | zero =>
      cases hp : pieces (c :: t) with
      | nil => exact absurd hp (pieces_ne _)
      | cons p ps => exact ⟨p, ps, rfl, Nat.zero_le _, fun i hi => by omega⟩
    | succ j =>
      obtain ⟨c', h1, h2⟩ := h 0 (by omega)
      simp only [List.getElem?_cons_zero] at h1
      injection h1 with h1
      subst h1
      obtain ⟨p, ps, hp, hl, hi⟩ := ih (j := j) (fun i hi => by simpa using h (i + 1) (by omega))
      refine ⟨c :: p, ps, by simp [pieces, hp, h2], by simp; omega, fun i hi2 => ?_⟩
      cases i with
      | zero => simp
      | succ i => simpa using hi i (by omega)
/-- The number that is scanned does not stand. -/
theorem Sc.bad {l : List UInt8} {p k : Nat} {n : Int} (h : Sc l p k n) (hmax : k = l.length ∨ k = p + 10 ∨ ∃ c, l[k]? = some c ∧ nod c = true)
    (hb : k = p ∨ p + 9 < k ∨ (p + 1 < k ∧ l[p]? = some 48) ∨ (∃ c, l[k]? = some c ∧ c ≠ 32)) : ∃ q ps, pieces (l.drop p) = q :: ps ∧ numOk q = false := by
  have hd : ∀ i, i < k - p → ∃ c, (l.drop p)[i]? = some c ∧ c ≠ 32 := fun i hi => by
    obtain ⟨c, h1, h2⟩ := h.2.2.1 (p + i) (by omega) (by omega)
    exact ⟨c, by rw [List.getElem?_drop]; exact h1, nod_blank h2⟩
  obtain ⟨q, ps, hq, hl, hi⟩ := first_at hd
  have hpk := h.1
  by_cases c2 : p + 9 < k
  · exact ⟨q, ps, hq, (num_bad (.inr (.inl (by omega)))).1⟩
  · rcases hb with hb | hb | hb | hb
    · subst hb
      rcases hmax with hm | hm | ⟨c, hc, hn⟩
      · have : l.drop k = [] := List.drop_eq_nil_of_le (by omega)
        rw [this]
        exact ⟨[], [], rfl, rfl⟩
      · omega
      · have hk : k < l.length := by
          rcases Nat.lt_or_ge k l.length with h1 | h1
          · exact h1
          · rw [List.getElem?_eq_none h1] at hc; cases hc
        rw [List.getElem?_eq_getElem hk] at hc
        injection hc with hc
        rw [List.drop_eq_getElem_cons hk, hc]
        by_cases hb : c = 32
        · exact ⟨[], pieces (l.drop (k + 1)), by simp [pieces, hb], rfl⟩
        · cases hp : pieces (l.drop (k + 1)) with
          | nil => exact absurd hp (pieces_ne _)
          | cons y ys => exact ⟨c :: y, ys, by simp [pieces, hp, hb], (num_hit (k := 0) (c := c) (by simp) hn).1⟩
    · exact absurd hb c2
    · refine ⟨q, ps, hq, (num_bad (.inr (.inr ⟨by omega, ?_⟩))).1⟩
      rw [hi 0 (by omega), List.getElem?_drop]
      exact hb.2
    · obtain ⟨c, hc, hne⟩ := hb
      have hk : k < l.length := by
        rcases Nat.lt_or_ge k l.length with h1 | h1
        · exact h1
        · rw [List.getElem?_eq_none h1] at hc; cases hc
      rcases hmax with hm | hm | ⟨c2, hc2, hn⟩
      · omega
      · omega
      · have : c2 = c := by rw [hc] at hc2; injection hc2 with e; exact e.symm
        subst this
        have hd2 : ∀ i, i < k - p + 1 → ∃ c, (l.drop p)[i]? = some c ∧ c ≠ 32 := fun i hi => by
          rcases Nat.lt_succ_iff_lt_or_eq.1 hi with h3 | rfl
          · exact hd i h3
          · exact ⟨c2, by rw [List.getElem?_drop, show p + (k - p) = k by omega]; exact hc, hne⟩
        obtain ⟨q, ps, hq, hl, hi⟩ := first_at hd2
        refine ⟨q, ps, hq, (num_hit (k := k - p) (c := c2) ?_ hn).1⟩
        rw [hi _ (by omega), List.getElem?_drop, show p + (k - p) = k by omega]
        exact hc
theorem Sc.good {l : List UInt8} {p k : Nat} {n : Int} (h : Sc l p k n) (h1 : k ≠ p) (h2 : ¬ p + 9 < k) (h3 : ¬ (p + 1 < k ∧ l[p]? = some 48)) : numOk ((l.drop p).take (k - p)) = true ∧ numV ((l.drop p).take (k - p)) = n := by
  have hpk := h.1
  have hl : ((l.drop p).take (k - p)).length = k - p := by rw [List.length_take, List.length_drop]; have := h.2.1; omega
  obtain ⟨a, b⟩ := num_ok (l := (l.drop p).take (k - p)) (by omega) (by omega) (fun ⟨c1, c2⟩ => h3 ⟨by omega, by
    rw [List.getElem?_take, if_pos (by omega), List.getElem?_drop] at c2
    exact c2⟩) h.any
  exact ⟨a, by rw [b, ← h.2.2.2]⟩
theorem Sc.noblank {l : List UInt8} {p k : Nat} {n : Int} (h : Sc l p k n) : ∀ c ∈ (l.drop p).take (k - p), c ≠ 32 := fun c hc => by
  have := List.any_eq_false.1 h.any c hc
  exact nod_blank (by simpa using this)
theorem Sc.last {l : List UInt8} {p : Nat} {n : Int} (h : Sc l p l.length n) : pieces (l.drop p) = [(l.drop p).take (l.length - p)] := by
  have e : (l.drop p).take (l.length - p) = l.drop p := List.take_of_length_le (by rw [List.length_drop]; omega)
  have := h.noblank
  rw [e] at this ⊢
  exact pieces_none this
theorem Sc.more {l : List UInt8} {p k : Nat} {n : Int} (h : Sc l p k n) (hc : l[k]? = some 32) : pieces (l.drop p) = (l.drop p).take (k - p) :: pieces (l.drop (k + 1)) := by
  have hk : k < l.length := by
    rcases Nat.lt_or_ge k l.length with h1 | h1
    · exact h1
    · rw [List.getElem?_eq_none h1] at hc; cases hc
  have hpk := h.1
  have e : l.drop p = (l.drop p).take (k - p) ++ 32 :: l.drop (k + 1) := by
    conv => lhs; rw [← List.take_append_drop (k - p) (l.drop p)]
    rw [List.drop_drop, show p + (k - p) = k by omega, List.drop_eq_getElem_cons hk]
    rw [List.getElem?_eq_getElem hk] at hc
    injection hc with hc
    rw [hc]
  have := pieces_hit (r := l.drop (k + 1)) h.noblank
  rw [← e] at this
  exact this
/-- 1 if it is the text of a list. -/
def okI (l : List UInt8) : Int := if listOk l then 1 else 0
theorem okI_yes {l : List UInt8} (h : listOk l = true) : okI l = 1 := by simp [okI, h]
theorem okI_no {l : List UInt8} (h : listOk l = false) : okI l = 0 := by simp [okI, h]
end Go.Proofs.YtodjdfpealmjeaaDoor.M
