/-
  The plain mathematics of machines: in the middle of a round of what is reached. No statement is proved here.
-/
import Derived.Test.YtldpfbmkmehadaaSMcR
namespace Go.Proofs.Ytldpfbmkmehadaa.Mc

/-- In the middle of a round that began with B0. -/
structure Mid (m : Ma) (a : Nat) (B0 B : List Bool) (s j : Nat) : Prop where
  len : B.length = B0.length
  mono : ∀ k, T B0 k → T B k
  snd : ∀ k, T B k → Rch m a k
  prev : ∀ s' t, s' < s → Edge m s' t → T B0 s' → T B t
  cur : ∀ row i x, m.r[s]? = some row → row[i]? = some x → i < j → 0 ≤ x.1 → T B0 s → T B x.1.toNat
theorem Mid.start {m : Ma} {a k : Nat} {B : List Bool} (h : RS m a k B) : Mid m a B B 0 0 :=
  ⟨rfl, fun _ h => h, h.snd, fun _ _ h => absurd h (by omega), fun _ _ _ _ _ h => absurd h (by omega)⟩
theorem T_set {B : List Bool} {t k : Nat} (h : T B k) : T (B.set t true) k := by
  unfold T at h ⊢
  rw [List.getElem?_set]
  split
  · rename_i e
    subst e
    rw [if_pos (List.getElem?_eq_some_iff.1 h).1]
  · exact h
theorem T_new {B : List Bool} {t : Nat} (h : t < B.length) : T (B.set t true) t := by
  unfold T
  rw [List.getElem?_set]
  simp [h]
theorem T_old {B : List Bool} {t k : Nat} (h : T (B.set t true) k) : k = t ∨ T B k := by
  unfold T at h ⊢
  rw [List.getElem?_set] at h
  split at h
  · rename_i e; exact Or.inl e.symm
  · exact Or.inr h
section
variable {m : Ma} {a s j : Nat} {B0 B : List Bool} {row : List Ed} {x : Ed}
theorem Mid.put (h : Mid m a B0 B s j) (hs : T B s) (hr : m.r[s]? = some row) (hx : row[j]? = some x) (h0 : 0 ≤ x.1) (ht : x.1.toNat < B.length) : Mid m a B0 (B.set x.1.toNat true) s (j + 1) := by
  refine ⟨by simp [h.len], fun k hk => T_set (h.mono k hk), fun k hk => ?_, fun s' t h1 h2 h3 => T_set (h.prev s' t h1 h2 h3), fun row' i x' h1 h2 h3 h4 h5 => ?_⟩
  · rcases T_old hk with rfl | hk
    · exact .step (h.snd s hs) hr hx h0
    · exact h.snd k hk
  · rw [hr] at h1
    injection h1 with h1
    subst h1
    by_cases e : i = j
    · subst e
      rw [hx] at h2
      injection h2 with h2
      subst h2
      exact T_new ht
    · exact T_set (h.cur row i x' hr h2 (by omega) h4 h5)
theorem Mid.skip (h : Mid m a B0 B s j) (hr : m.r[s]? = some row) (hx : row[j]? = some x) (hn : ¬ (T B s ∧ 0 ≤ x.1)) : Mid m a B0 B s (j + 1) := by
  refine ⟨h.len, h.mono, h.snd, h.prev, fun row' i x' h1 h2 h3 h4 h5 => ?_⟩
  rw [hr] at h1
  injection h1 with h1
  subst h1
  by_cases e : i = j
  · subst e
    rw [hx] at h2
    injection h2 with h2
    subst h2
    exact absurd ⟨h.mono s h5, h4⟩ hn
  · exact h.cur row i x' hr h2 (by omega) h4 h5
theorem Mid.line (h : Mid m a B0 B s j) (hr : m.r[s]? = some row) (hj : row.length ≤ j) : Mid m a B0 B (s + 1) 0 := by
  refine ⟨h.len, h.mono, h.snd, fun s' t h1 h2 h3 => ?_, fun _ _ _ _ _ h => absurd h (by omega)⟩
  by_cases e : s' = s
  · subst e
    obtain ⟨row', i, x, h4, h5, h6, rfl⟩ := h2
    rw [hr] at h4
    injection h4 with h4
    subst h4
    exact h.cur row i x hr h5 (by have := (List.getElem?_eq_some_iff.1 h5).1; omega) h6 h3
  · exact h.prev s' t (by omega) h2 h3
theorem Mid.done {k : Nat} (h : Mid m a B0 B s 0) (v : Val m) (hR : RS m a k B0) (hs : m.r.length ≤ s) : RS m a (k + 1) B :=
  hR.round v h.len h.mono h.snd (fun s' t e hT => h.prev s' t (by have := (e.lt v).1; omega) e hT)
end
end Go.Proofs.Ytldpfbmkmehadaa.Mc
