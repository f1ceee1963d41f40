/-
  The plain mathematics of machines: what is reached, by rounds. No statement is proved here.
-/
import Derived.Test.YtldpfbmkmehadaaMcM
namespace Go.Proofs.Ytldpfbmkmehadaa.Mc

/-- An edge leads from a state to a state. -/
def Edge (m : Ma) (s t : Nat) : Prop := ∃ (row : List Ed) (i : Nat) (x : Ed), m.r[s]? = some row ∧ row[i]? = some x ∧ 0 ≤ x.1 ∧ x.1.toNat = t
theorem Rch.edge {m : Ma} {a s t : Nat} (h : Rch m a s) (e : Edge m s t) : Rch m a t := by
  obtain ⟨row, i, x, h1, h2, h3, rfl⟩ := e
  exact .step h h1 h2 h3
theorem Edge.lt {m : Ma} (v : Val m) {s t : Nat} (e : Edge m s t) : s < m.r.length ∧ t < m.r.length := by
  obtain ⟨row, i, x, h1, h2, h3, rfl⟩ := e
  have hs : s < m.r.length := (List.getElem?_eq_some_iff.1 h1).1
  rcases v.ok row (List.mem_of_getElem? h1) x (List.mem_of_getElem? h2) with ⟨a, _⟩ | ⟨_, b, _⟩
  · omega
  · exact ⟨hs, by omega⟩
theorem Rch.lt {m : Ma} (v : Val m) {a s : Nat} (h : Rch m a s) (ha : a < m.r.length) : s < m.r.length := by
  cases h with
  | here => exact ha
  | step h hs hi hx => exact (Edge.lt v ⟨_, _, _, hs, hi, hx, rfl⟩).2
abbrev T (B : List Bool) (s : Nat) : Prop := B[s]? = some true
/-- Closed: what an edge leads to from what is marked is marked. -/
def Cl (m : Ma) (B : List Bool) : Prop := ∀ s t, Edge m s t → T B s → T B t
theorem count_le' : ∀ (B B' : List Bool), B.length = B'.length → (∀ k, T B k → T B' k) → B.count true ≤ B'.count true
  | [], [], _, _ => Nat.le_refl _
  | a :: B, b :: B', hl, h => by
    have ih := count_le' B B' (by simpa using hl) (fun k hk => by have := h (k + 1) (by simpa [T] using hk); simpa [T] using this)
    have h0 := h 0
    cases a <;> cases b <;> simp_all [T] <;> omega
theorem count_lt' : ∀ (B B' : List Bool) (k : Nat), B.length = B'.length → (∀ k, T B k → T B' k) → B[k]? = some false → T B' k → B.count true + 1 ≤ B'.count true
  | [], _, _, _, _, h, _ => by simp at h
  | a :: B, [], _, hl, _, _, _ => by simp at hl
  | a :: B, b :: B', 0, hl, h, h1, h2 => by
    have ih := count_le' B B' (by simpa using hl) (fun k hk => by have := h (k + 1) (by simpa [T] using hk); simpa [T] using this)
    simp [T] at h1 h2
    subst h1 h2
    simp
    omega
  | a :: B, b :: B', k + 1, hl, h, h1, h2 => by
    have ih := count_lt' B B' k (by simpa using hl) (fun k hk => by have := h (k + 1) (by simpa [T] using hk); simpa [T] using this) (by simpa using h1) (by simpa [T] using h2)
    have h0 := h 0
    cases a <;> cases b <;> simp_all [T] <;> omega
/-- What is known after k rounds. -/
structure RS (m : Ma) (a k : Nat) (B : List Bool) : Prop where
  len : B.length = m.r.length
  at_ : T B a
  snd : ∀ s, T B s → Rch m a s
  cls : Cl m B ∨ k + 1 ≤ B.count true
theorem RS.start {m : Ma} {a : Nat} (ha : a < m.r.length) : RS m a 0 ((List.replicate m.r.length false).set a true) := by
  have hT : ∀ s, T ((List.replicate m.r.length false).set a true) s → s = a := fun s h => by
    unfold T at h
    rw [List.getElem?_set] at h
    split at h
    · rename_i e; exact e.symm
    · simp [List.getElem?_replicate] at h
  have h0 : T ((List.replicate m.r.length false).set a true) a := by
    unfold T
    rw [List.getElem?_set]
    simp [ha]
  refine ⟨by simp, h0, fun s h => by rw [hT s h]; exact .here, Or.inr ?_⟩
  have := count_lt' (List.replicate m.r.length false) _ a (by simp) (fun k h => by simp [T, List.getElem?_replicate] at h) (by simp [ha]) h0
  omega
theorem RS.sub {m : Ma} {a : Nat} {B : List Bool} (h : Cl m B) (ha : T B a) {s : Nat} (hr : Rch m a s) : T B s := by
  induction hr with
  | here => exact ha
  | step _ hs hi hx ih => exact h _ _ ⟨_, _, _, hs, hi, hx, rfl⟩ ih
theorem RS.round {m : Ma} (v : Val m) {a k : Nat} {B B' : List Bool} (h : RS m a k B) (hl : B'.length = B.length) (hm : ∀ s, T B s → T B' s) (hs : ∀ s, T B' s → Rch m a s) (hp : ∀ s t, Edge m s t → T B s → T B' t) : RS m a (k + 1) B' := by
  refine ⟨hl.trans h.len, hm a h.at_, hs, ?_⟩
  by_cases hc : Cl m B
  · exact Or.inl fun s t e hT => hm t (hc s t e (RS.sub hc h.at_ (hs s hT)))
  · refine Or.inr ?_
    have h1 := h.cls.resolve_left hc
    simp only [Cl, Classical.not_forall] at hc
    obtain ⟨s, t, e, hT, hn⟩ := hc
    have ht : t < B.length := by rw [h.len]; exact (e.lt v).2
    have hf : B[t]? = some false := by
      unfold T at hn
      rw [List.getElem?_eq_getElem ht] at hn ⊢
      cases hb : B[t] with
      | false => rfl
      | true => rw [hb] at hn; exact absurd rfl hn
    have := count_lt' B B' t hl.symm hm hf (hp s t e hT)
    omega
theorem RS.done {m : Ma} {a : Nat} {B : List Bool} (h : RS m a m.r.length B) (s : Nat) : T B s ↔ Rch m a s := by
  refine ⟨h.snd s, fun hr => ?_⟩
  have hc : Cl m B := h.cls.resolve_right fun h1 => by
    have := List.count_le_length (a := true) (l := B)
    rw [h.len] at this
    omega
  exact RS.sub hc h.at_ hr
theorem conn_all {m : Ma} {B : List Bool} (hl : B.length = m.r.length) (h : ∀ s, T B s ↔ Rch m 0 s) : conn m = B.all id := by
  have h1 : B.all id = true ↔ ∀ s, s < m.r.length → Rch m 0 s := by
    rw [List.all_eq_true]
    constructor
    · intro ha s hs
      refine (h s).1 ?_
      have hs' : s < B.length := by omega
      have := ha B[s] (List.getElem_mem hs')
      unfold T
      rw [List.getElem?_eq_getElem hs']
      simpa using this
    · intro ha b hb
      obtain ⟨k, hk, e⟩ := List.mem_iff_getElem.1 hb
      have := (h k).2 (ha k (by omega))
      unfold T at this
      rw [List.getElem?_eq_getElem hk, e] at this
      simpa using this
  rw [Bool.eq_iff_iff, conn_iff]
  exact h1.symm
end Go.Proofs.Ytldpfbmkmehadaa.Mc
