/-
  What a search in depth marks: plain mathematics. No statement is proved here.
-/
import Derived.Test.YtiohfflkolopeaaMcR
namespace Go.Proofs.Ytiohfflkolopeaa.Mc

theorem Rch.trans {m : Ma} {a b c : Nat} (h : Rch m a b) (k : Rch m b c) : Rch m a c := by
  induction k with
  | here => exact h
  | step _ hs hi hx ih => exact .step ih hs hi hx
/-- What a search from s adds to what is marked. -/
structure Srch (m : Ma) (s : Nat) (B B' : List Bool) : Prop where
  len : B'.length = B.length
  sub : ∀ k, T B k → T B' k
  has : T B' s
  snd : ∀ k, T B' k → T B k ∨ Rch m s k
  cls : ∀ k t, T B' k → ¬ T B k → Edge m k t → T B' t
theorem Srch.refl {m : Ma} {s : Nat} {B : List Bool} (h : T B s) : Srch m s B B := ⟨rfl, fun _ h => h, h, fun _ h => .inl h, fun _ _ h h' => absurd h h'⟩
theorem T_set' {B : List Bool} {t k : Nat} (h : T B k) : T (B.set t true) k := by
  unfold T at *
  rw [List.getElem?_set]
  split
  · rename_i e; subst e
    rw [if_pos (List.getElem?_eq_some_iff.1 h).1]
  · exact h
theorem T_new' {B : List Bool} {t : Nat} (h : t < B.length) : T (B.set t true) t := by
  unfold T; rw [List.getElem?_set]; simp [h]
theorem T_old' {B : List Bool} {t k : Nat} (h : T (B.set t true) k) : k = t ∨ T B k := by
  unfold T at *
  rw [List.getElem?_set] at h
  split at h
  · rename_i e; exact .inl e.symm
  · exact .inr h
theorem count_set : ∀ {B : List Bool} {s : Nat}, B[s]? = some false → (B.set s true).count true = B.count true + 1
  | [], s, h => by simp at h
  | a :: B, 0, h => by simp at h; subst h; simp
  | a :: B, s + 1, h => by
    have := count_set (B := B) (s := s) (by simpa using h)
    simp only [List.set_cons_succ, List.count_cons, this]
    omega
/-- In the middle of the row of s. -/
structure Smid (m : Ma) (s : Nat) (row : List Ed) (B B' : List Bool) (j : Nat) : Prop where
  len : B'.length = B.length
  sub : ∀ k, T B k → T B' k
  has : T B' s
  snd : ∀ k, T B' k → T B k ∨ Rch m s k
  cls : ∀ k t, T B' k → ¬ T B k → k ≠ s → Edge m k t → T B' t
  row : ∀ i x, i < j → row[i]? = some x → 0 ≤ x.1 → T B' x.1.toNat
section
variable {m : Ma} {s j : Nat} {row : List Ed} {B C B' : List Bool}
theorem Smid.start (h : s < B.length) : Smid m s row B (B.set s true) 0 := by
  refine ⟨by simp, fun k hk => T_set' hk, T_new' h, fun k hk => ?_, fun k t hk hn hs _ => ?_, fun i x hi => by omega⟩
  · rcases T_old' hk with rfl | h1
    · exact .inr .here
    · exact .inl h1
  · rcases T_old' hk with h1 | h1
    · exact absurd h1 hs
    · exact absurd h1 hn
theorem Smid.skip (h : Smid m s row B C j) {x : Ed} (hx : row[j]? = some x) (hn : ¬ 0 ≤ x.1) : Smid m s row B C (j + 1) := by
  refine ⟨h.len, h.sub, h.has, h.snd, h.cls, fun i y hi hy h0 => ?_⟩
  rcases Nat.lt_succ_iff_lt_or_eq.1 hi with h1 | rfl
  · exact h.row i y h1 hy h0
  · rw [hx] at hy; injection hy with hy; subst hy; exact absurd h0 hn
theorem Smid.put (h : Smid m s row B C j) (hr : m.r[s]? = some row) {x : Ed} (hx : row[j]? = some x) (h0 : 0 ≤ x.1) (k : Srch m x.1.toNat C B') : Smid m s row B B' (j + 1) := by
  have he : Rch m s x.1.toNat := .step .here hr hx h0
  refine ⟨k.len.trans h.len, fun a ha => k.sub a (h.sub a ha), k.sub s h.has, fun a ha => ?_, fun a t ha hn hs e => ?_, fun i y hi hy h1 => ?_⟩
  · rcases k.snd a ha with h1 | h1
    · exact h.snd a h1
    · exact .inr (he.trans h1)
  · by_cases hc : T C a
    · exact k.sub t (h.cls a t hc hn hs e)
    · exact k.cls a t ha hc e
  · rcases Nat.lt_succ_iff_lt_or_eq.1 hi with h2 | rfl
    · exact k.sub _ (h.row i y h2 hy h1)
    · rw [hx] at hy; injection hy with hy; subst hy; exact k.has
theorem Smid.done (h : Smid m s row B C j) (hr : m.r[s]? = some row) (hj : row.length ≤ j) : Srch m s B C := by
  refine ⟨h.len, h.sub, h.has, h.snd, fun k t hk hn e => ?_⟩
  by_cases hs : k = s
  · subst hs
    obtain ⟨row', i, x, h1, h2, h3, rfl⟩ := e
    rw [hr] at h1
    injection h1 with h1
    subst h1
    exact h.row i x (by have := (List.getElem?_eq_some_iff.1 h2).1; omega) h2 h3
  · exact h.cls k t hk hn hs e
end
theorem conn_cnt {m : Ma} (v : Val m) {B : List Bool} (h : Srch m 0 (List.replicate 64 false) B) : conn m = decide (B.count true = m.r.length) := by
  have hr0 := v.r0; have hr1 := v.r1
  have hl : B.length = 64 := by rw [h.len]; simp
  have hno : ∀ k, ¬ T (List.replicate 64 false) k := fun k hk => by
    have := List.eq_of_mem_replicate (List.mem_of_getElem? hk)
    cases this
  have hT : ∀ s, T B s ↔ Rch m 0 s := fun s => by
    constructor
    · intro hs; exact (h.snd s hs).resolve_left (hno s)
    · intro hs
      induction hs with
      | here => exact h.has
      | step _ hs hi hx ih => exact h.cls _ _ ih (hno _) ⟨_, _, _, hs, hi, hx, rfl⟩
  have hlt : ∀ s, T B s → s < m.r.length := fun s hs => Rch.lt v ((hT s).1 hs) (by omega)
  have hl2 : (B.take m.r.length).length = m.r.length := by rw [List.length_take]; omega
  have hT2 : ∀ s, T (B.take m.r.length) s ↔ Rch m 0 s := fun s => by
    rw [← hT s]
    unfold T
    rw [List.getElem?_take]
    constructor
    · intro h1; split at h1
      · exact h1
      · cases h1
    · intro h1; rw [if_pos (hlt s h1)]; exact h1
  rw [conn_all hl2 hT2]
  have hd : (B.drop m.r.length).count true = 0 := by
    rw [List.count_eq_zero]
    intro hm
    obtain ⟨k, hk⟩ := List.getElem?_of_mem hm
    rw [List.getElem?_drop] at hk
    have := hlt _ hk
    omega
  have hc : B.count true = (B.take m.r.length).count true := by
    conv => lhs; rw [← List.take_append_drop m.r.length B, List.count_append, hd]
    omega
  rw [hc, Bool.eq_iff_iff, decide_eq_true_iff]
  conv => rhs; rhs; rw [← hl2]
  rw [List.count_eq_length, List.all_eq_true]
  constructor
  · intro h1 b hb; have := h1 b hb; simpa using this.symm
  · intro h1 b hb; have := h1 b hb; simpa using this.symm
end Go.Proofs.Ytiohfflkolopeaa.Mc
