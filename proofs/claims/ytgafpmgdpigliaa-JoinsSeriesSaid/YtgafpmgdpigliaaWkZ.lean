/-
  Several texts in one: WkM, WkP, WkC, WkR, WkO, WkB. No statement is proved here.
-/
import Derived.Test.YtgafpmgdpigliaaBaZ
namespace Go.Proofs.Ytgafpmgdpigliaa.Mc
open M (rk)

theorem rk_inj {n : Int} (hn : 1 ≤ n) {x y : List Int} (hx : M.Val n x) (hy : M.Val n y) (h : rk n x = rk n y) : x = y := by
  have := M.rk_cmp hn hx hy
  rw [h, M.sgn_eq rfl] at this
  exact M.cmp_zero_iff.1 this
theorem rk_nonneg {n : Int} (hn : 1 ≤ n) {x : List Int} (hx : M.Val n x) : 0 ≤ rk n x := by have := M.rk_ge hn hx; omega
/-- The children of a lesser word come before those of a greater one. -/
theorem rk_child {n : Int} (hn : 1 ≤ n) {u v : List Int} {c d : Int} (h : rk n u < rk n v) (hc : c < n) (hd : 0 ≤ d) : rk n (u ++ [c]) < rk n (v ++ [d]) := by
  rw [M.rk_snoc, M.rk_snoc]
  have h1 : (rk n u + 1) * n ≤ rk n v * n := Int.mul_le_mul_of_nonneg_right (by omega) (by omega)
  rw [Int.add_mul, Int.one_mul] at h1
  omega
theorem rk_child_le {n : Int} (hn : 1 ≤ n) {u v : List Int} {c d : Int} (hc : c < n) (hd : 0 ≤ d) (h : rk n (v ++ [d]) ≤ rk n (u ++ [c])) : rk n v ≤ rk n u := by
  rcases Int.lt_or_le (rk n u) (rk n v) with h1 | h1
  · have := rk_child hn h1 hc hd; omega
  · exact h1
theorem rk_last {n : Int} {u : List Int} {c d : Int} : rk n (u ++ [c]) ≤ rk n (u ++ [d]) ↔ c ≤ d := by
  rw [M.rk_snoc, M.rk_snoc]; omega
theorem rk_parent {n : Int} (hn : 1 ≤ n) {u : List Int} {c : Int} (hu : M.Val n u) (hc : 0 ≤ c) : rk n u < rk n (u ++ [c]) := by
  rw [M.rk_snoc]
  have h1 : rk n u * 1 ≤ rk n u * n := Int.mul_le_mul_of_nonneg_left hn (rk_nonneg hn hu)
  omega
theorem snoc_of {α : Type} : ∀ {l : List α}, l ≠ [] → ∃ p x, l = p ++ [x] := fun {l} h => ⟨l.dropLast, l.getLast h, (List.dropLast_concat_getLast h).symm⟩

/-- The least word that leads from a state to another one. -/
structure Lw (m : Ma) (s : Int) (w : List Int) (t : Int) : Prop where
  wd : Wd m w
  to : aft m s w = t
  le : ∀ v, Wd m v → aft m s v = t → rk m.i w ≤ rk m.i v
section
variable {m : Ma} {s t : Int} {w w' : List Int}
theorem Lw.nil_ (hi : 1 ≤ m.i) (s : Int) : Lw m s [] s := ⟨fun c h => by simp at h, rfl, fun v hv _ => by rw [M.rk_nil]; exact rk_nonneg hi hv⟩
theorem Lw.uniq (hi : 1 ≤ m.i) (h : Lw m s w t) (h' : Lw m s w' t) : w = w' := rk_inj hi h.wd h'.wd (by have := h.le w' h'.wd h'.to; have := h'.le w h.wd h.to; omega)
theorem Lw.ex (hi : 1 ≤ m.i) (hw : Wd m w) (ht : aft m s w = t) : ∃ v, Lw m s v t := by
  have key : ∀ (k : Nat) (w : List Int), Wd m w → aft m s w = t → (rk m.i w).toNat ≤ k → ∃ v, Lw m s v t := by
    intro k
    induction k with
    | zero =>
      intro w hw ht hk
      refine ⟨w, hw, ht, fun v hv _ => ?_⟩
      have h1 := rk_nonneg hi hw
      have h2 := rk_nonneg hi (x := v) hv
      omega
    | succ k ih =>
      intro w hw ht hk
      by_cases h : ∃ v, Wd m v ∧ aft m s v = t ∧ rk m.i v < rk m.i w
      · obtain ⟨v, h1, h2, h3⟩ := h
        have h4 := rk_nonneg hi (x := v) h1
        exact ih v h1 h2 (by omega)
      · refine ⟨w, hw, ht, fun v hv he => ?_⟩
        rcases Int.lt_or_le (rk m.i v) (rk m.i w) with h5 | h5
        · exact absurd ⟨v, hv, he, h5⟩ h
        · exact h5
  exact key _ w hw ht (Nat.le_refl _)
theorem aft_snoc (m : Ma) (s : Int) (w : List Int) (c : Int) : aft m s (w ++ [c]) = (nx m (aft m s w) c).1 := by rw [aft_app]; rfl
theorem Wd.split {c : Int} (h : Wd m (w ++ [c])) : Wd m w ∧ (0 ≤ c ∧ c < m.i) := ⟨fun d hd => h d (by simp [hd]), h c (by simp)⟩
theorem Wd.join {c : Int} (h : Wd m w) (hc : 0 ≤ c ∧ c < m.i) : Wd m (w ++ [c]) := fun d hd => by
  rcases List.mem_append.1 hd with h1 | h1
  · exact h d h1
  · simp at h1; subst h1; exact hc
/-- What is before the last symbol of a least word is one. -/
theorem Lw.pre {c : Int} (hi : 1 ≤ m.i) (h : Lw m s (w ++ [c]) t) : Lw m s w (aft m s w) := by
  obtain ⟨h1, h2⟩ := Wd.split h.wd
  refine ⟨h1, rfl, fun v hv he => ?_⟩
  have h3 := h.le (v ++ [c]) (Wd.join hv h2) (by rw [aft_snoc, he, ← aft_snoc]; exact h.to)
  exact rk_child_le hi h2.2 h2.1 h3
end

/-- The queue in the middle of its work: what stands before place p is done, what stands there up to input j. -/
structure BF (m : Ma) (s : Int) (Q : List (Int × List Int)) (p : Nat) (j : Int) : Prop where
  hd : Q[0]? = some (s, [])
  lw : ∀ e ∈ Q, (0 ≤ e.1 ∧ e.1 < m.r.length) ∧ Lw m s e.2 e.1
  asc : Q.Pairwise fun a b => rk m.i a.2 < rk m.i b.2
  clo : ∀ (k : Nat) (e : Int × List Int) (c : Int), Q[k]? = some e → 0 ≤ c → c < m.i → (k < p ∨ (k = p ∧ c < j)) → 0 ≤ (nx m e.1 c).1 → ∃ e' ∈ Q, e'.1 = (nx m e.1 c).1
  src : ∀ (k : Nat) (e : Int × List Int), Q[k]? = some e → 0 < k → ∃ (k' : Nat) (e' : Int × List Int) (c : Int), Q[k']? = some e' ∧ (k' < p ∨ (k' = p ∧ c < j)) ∧ e.2 = e'.2 ++ [c] ∧ 0 ≤ c ∧ c < m.i
section
variable {m : Ma} {s : Int} {Q : List (Int × List Int)} {p : Nat} {j : Int}
theorem BF.start (v : Val m) (hs : 0 ≤ s ∧ s < m.r.length) : BF m s [(s, [])] 0 0 := by
  refine ⟨rfl, fun e he => ?_, by simp, fun k e c hk h0 _ hc _ => by omega, fun k e hk h0 => ?_⟩
  · simp at he
    subst he
    exact ⟨hs, Lw.nil_ v.i0 s⟩
  · have := (List.getElem?_eq_some_iff.1 hk).1
    simp at this
    omega
theorem BF.lt_of (h : BF m s Q p j) {a b : Nat} {x y : Int × List Int} (ha : Q[a]? = some x) (hb : Q[b]? = some y) (hab : a < b) : rk m.i x.2 < rk m.i y.2 := by
  obtain ⟨h1, rfl⟩ := List.getElem?_eq_some_iff.1 ha
  obtain ⟨h2, rfl⟩ := List.getElem?_eq_some_iff.1 hb
  exact List.pairwise_iff_getElem.1 h.asc a b h1 h2 hab
theorem BF.le_of (h : BF m s Q p j) {a b : Nat} {x y : Int × List Int} (ha : Q[a]? = some x) (hb : Q[b]? = some y) (hr : rk m.i x.2 ≤ rk m.i y.2) : a ≤ b := by
  rcases Nat.lt_or_ge b a with h1 | h1
  · have := h.lt_of hb ha h1; omega
  · exact h1
/-- A state whose least word is not greater than the one at work stands in the queue, not behind it. -/
theorem BF.before (v : Val m) (h : BF m s Q p j) (hs : 0 ≤ s ∧ s < m.r.length) {x : Int × List Int} (hp : Q[p]? = some x) : ∀ (k : Nat) (w : List Int) (t : Int), w.length = k → Lw m s w t → 0 ≤ t → rk m.i w ≤ rk m.i x.2 → ∃ a, a ≤ p ∧ Q[a]? = some (t, w)
  | 0, w, t, hk, hw, _, _ => by
    have hw0 : w = [] := List.length_eq_zero_iff.1 hk
    subst hw0
    have : s = t := hw.to
    subst this
    exact ⟨0, Nat.zero_le _, h.hd⟩
  | k + 1, w, t, hk, hw, ht, hr => by
    obtain ⟨y, c, rfl⟩ := snoc_of (l := w) (fun e => by rw [e] at hk; simp at hk)
    obtain ⟨hwy, hc⟩ := Wd.split hw.wd
    have hto := hw.to
    rw [aft_snoc] at hto
    have hq : 0 ≤ aft m s y := by
      rcases Int.lt_or_le (aft m s y) 0 with h1 | h1
      · rw [nx_neg h1] at hto
        simp at hto
        omega
      · exact h1
    have hlt := rk_parent v.i0 (u := y) (c := c) hwy hc.1
    obtain ⟨a, ha, hqa⟩ := BF.before v h hs hp k y _ (by simpa using hk) (hw.pre v.i0) hq (by omega)
    have hap : a < p := by
      rcases Nat.lt_or_ge a p with h1 | h1
      · exact h1
      · have : a = p := by omega
        subst this
        rw [hp] at hqa
        injection hqa with hqa
        rw [hqa] at hr
        simp only at hr
        omega
    obtain ⟨e', he', hst⟩ := h.clo a _ c hqa hc.1 hc.2 (Or.inl hap) (by simp only; rw [hto]; exact ht)
    simp only [hto] at hst
    obtain ⟨b, hb⟩ := List.mem_iff_getElem?.1 he'
    have hl := (h.lw e' he').2
    rw [hst] at hl
    have hew := hl.uniq v.i0 hw
    have heq : e' = (t, y ++ [c]) := Prod.ext hst hew
    subst heq
    exact ⟨b, h.le_of hb hp hr, hb⟩
/-- A new state: the word at work with this input is the least one that leads to it. -/
theorem BF.least (v : Val m) (h : BF m s Q p j) (hs : 0 ≤ s ∧ s < m.r.length) {x : Int × List Int} (hp : Q[p]? = some x) (hj : 0 ≤ j ∧ j < m.i) {t : Int} (ht : (nx m x.1 j).1 = t) (h0 : 0 ≤ t) (hn : ∀ e ∈ Q, e.1 ≠ t) : Lw m s (x.2 ++ [j]) t := by
  obtain ⟨hx, hlx⟩ := h.lw x (List.mem_of_getElem? hp)
  have hto : aft m s (x.2 ++ [j]) = t := by rw [aft_snoc, hlx.to, ht]
  obtain ⟨u, hu⟩ := Lw.ex v.i0 (Wd.join hlx.wd hj) hto
  have hle := hu.le _ (Wd.join hlx.wd hj) hto
  have hune : u ≠ [] := fun e => by
    subst e
    have : s = t := hu.to
    exact hn _ (List.mem_of_getElem? h.hd) this
  obtain ⟨y, d, rfl⟩ := snoc_of hune
  obtain ⟨hwy, hd⟩ := Wd.split hu.wd
  have hut := hu.to
  rw [aft_snoc] at hut
  have hq : 0 ≤ aft m s y := by
    rcases Int.lt_or_le (aft m s y) 0 with h1 | h1
    · rw [nx_neg h1] at hut
      simp at hut
      omega
    · exact h1
  have hyx := rk_child_le v.i0 hj.2 hd.1 hle
  obtain ⟨a, ha, hqa⟩ := h.before v hs hp _ y _ rfl (hu.pre v.i0) hq hyx
  rcases Nat.lt_or_ge a p with hap | hap
  · obtain ⟨e', he', hst⟩ := h.clo a _ d hqa hd.1 hd.2 (Or.inl hap) (by simp only; rw [hut]; exact h0)
    simp only [hut] at hst
    exact absurd hst (hn e' he')
  · have : a = p := by omega
    subst this
    rw [hp] at hqa
    injection hqa with hqa
    subst hqa
    simp only at hle ht ⊢
    have hdj := rk_last.1 hle
    rcases Int.lt_or_le d j with h1 | h1
    · obtain ⟨e', he', hst⟩ := h.clo a _ d hp hd.1 hd.2 (Or.inr ⟨rfl, h1⟩) (by simp only; rw [hut]; exact h0)
      simp only [hut] at hst
      exact absurd hst (hn e' he')
    · have : d = j := by omega
      subst this
      exact hu
/-- A new state is put to the end. -/
theorem BF.push (v : Val m) (h : BF m s Q p j) (hs : 0 ≤ s ∧ s < m.r.length) {x : Int × List Int} (hp : Q[p]? = some x) (hj : 0 ≤ j ∧ j < m.i) {t : Int} (ht : (nx m x.1 j).1 = t) (h0 : 0 ≤ t) (hn : ∀ e ∈ Q, e.1 ≠ t) : BF m s (Q ++ [(t, x.2 ++ [j])]) p (j + 1) := by
  have hl := h.least v hs hp hj ht h0 hn
  have hpl : p < Q.length := (List.getElem?_eq_some_iff.1 hp).1
  obtain ⟨hx, hlx⟩ := h.lw x (List.mem_of_getElem? hp)
  have hst := nx_st v (s := x.1) (i := j) (Or.inr hx) hj
  have hold : ∀ {k : Nat} {e : Int × List Int}, k < Q.length → (Q ++ [(t, x.2 ++ [j])])[k]? = some e → Q[k]? = some e := fun hk he => by rwa [List.getElem?_append_left hk] at he
  refine ⟨?_, fun e he => ?_, ?_, fun k e c hk hc0 hc1 hkc hnx => ?_, fun k e hk hk0 => ?_⟩
  · rw [List.getElem?_append_left (by omega)]; exact h.hd
  · rcases List.mem_append.1 he with h1 | h1
    · exact h.lw e h1
    · simp at h1
      subst h1
      refine ⟨?_, hl⟩
      rw [ht] at hst
      rcases hst.1 with h2 | h2
      · omega
      · exact h2
  · rw [List.pairwise_append]
    refine ⟨h.asc, by simp, fun a ha b hb => ?_⟩
    simp at hb
    subst hb
    obtain ⟨k, hk⟩ := List.mem_iff_getElem?.1 ha
    rcases Nat.eq_zero_or_pos k with h1 | h1
    · subst h1
      have := h.hd.symm.trans hk
      injection this with this
      subst this
      rw [M.rk_nil]
      have h2 := rk_nonneg v.i0 (x := x.2) hlx.wd
      have h3 := rk_parent v.i0 (u := x.2) (c := j) hlx.wd hj.1
      simp only
      omega
    · obtain ⟨k', e', c, h2, h3, h4, h5, h6⟩ := h.src k a hk h1
      rw [h4]
      rcases h3 with h3 | ⟨h3, h7⟩
      · exact rk_child v.i0 (h.lt_of h2 hp h3) h6 hj.1
      · subst h3
        rw [hp] at h2
        injection h2 with h2
        subst h2
        simp only [M.rk_snoc]
        omega
  · have hkl : k < Q.length := by rcases hkc with h1 | h1 <;> omega
    have hk' := hold hkl hk
    rcases hkc with h1 | ⟨h1, h2⟩
    · obtain ⟨e', h3, h4⟩ := h.clo k e c hk' hc0 hc1 (Or.inl h1) hnx
      exact ⟨e', List.mem_append_left _ h3, h4⟩
    · rcases Int.lt_or_le c j with h3 | h3
      · obtain ⟨e', h4, h5⟩ := h.clo k e c hk' hc0 hc1 (Or.inr ⟨h1, h3⟩) hnx
        exact ⟨e', List.mem_append_left _ h4, h5⟩
      · have hcj : c = j := by omega
        subst hcj h1
        rw [hp] at hk'
        injection hk' with hk'
        subst hk'
        exact ⟨(t, x.2 ++ [c]), by simp, by simp only; exact ht.symm⟩
  · rw [List.getElem?_append] at hk
    split at hk
    · obtain ⟨k', e', c, h2, h3, h4, h5, h6⟩ := h.src k e hk hk0
      refine ⟨k', e', c, ?_, ?_, h4, h5, h6⟩
      · rw [List.getElem?_append_left (List.getElem?_eq_some_iff.1 h2).1]; exact h2
      · rcases h3 with h3 | ⟨h3, h7⟩
        · exact Or.inl h3
        · exact Or.inr ⟨h3, by omega⟩
    · have : k - Q.length = 0 := by
        rcases Nat.eq_zero_or_pos (k - Q.length) with h1 | h1
        · exact h1
        · rw [List.getElem?_eq_none (by simp; omega)] at hk; cases hk
      rw [this] at hk
      simp at hk
      subst hk
      exact ⟨p, x, j, by rw [List.getElem?_append_left hpl]; exact hp, Or.inr ⟨rfl, by omega⟩, rfl, hj.1, hj.2⟩
/-- An input that leads nowhere, or to a state that is known. -/
theorem BF.skip (h : BF m s Q p j) {x : Int × List Int} (hp : Q[p]? = some x) (hk : 0 ≤ (nx m x.1 j).1 → ∃ e ∈ Q, e.1 = (nx m x.1 j).1) : BF m s Q p (j + 1) := by
  refine ⟨h.hd, h.lw, h.asc, fun k e c hke hc0 hc1 hkc hnx => ?_, fun k e hke hk0 => ?_⟩
  · rcases hkc with h1 | ⟨h1, h2⟩
    · exact h.clo k e c hke hc0 hc1 (Or.inl h1) hnx
    · rcases Int.lt_or_le c j with h3 | h3
      · exact h.clo k e c hke hc0 hc1 (Or.inr ⟨h1, h3⟩) hnx
      · have hcj : c = j := by omega
        subst hcj h1
        rw [hp] at hke
        injection hke with hke
        subst hke
        exact hk hnx
  · obtain ⟨k', e', c, h2, h3, h4⟩ := h.src k e hke hk0
    refine ⟨k', e', c, h2, ?_, h4⟩
    rcases h3 with h3 | ⟨h3, h7⟩
    · exact Or.inl h3
    · exact Or.inr ⟨h3, by omega⟩
/-- All inputs of a state are done. -/
theorem BF.turn (h : BF m s Q p m.i) : BF m s Q (p + 1) 0 := by
  refine ⟨h.hd, h.lw, h.asc, fun k e c hke hc0 hc1 hkc hnx => ?_, fun k e hke hk0 => ?_⟩
  · refine h.clo k e c hke hc0 hc1 ?_ hnx
    rcases hkc with h1 | ⟨h1, h2⟩
    · rcases Nat.lt_or_ge k p with h3 | h3
      · exact Or.inl h3
      · exact Or.inr ⟨by omega, hc1⟩
    · omega
  · obtain ⟨k', e', c, h2, h3, h4, h5, h6⟩ := h.src k e hke hk0
    refine ⟨k', e', c, h2, ?_, h4, h5, h6⟩
    rcases h3 with h3 | ⟨h3, h7⟩ <;> exact Or.inl (by omega)
/-- The queue is done: each state that is reached stands in it. -/
theorem BF.all (h : BF m s Q Q.length 0) : ∀ (k : Nat) (w : List Int), w.length = k → Wd m w → 0 ≤ aft m s w → ∃ e ∈ Q, e.1 = aft m s w
  | 0, w, hk, _, _ => by
    have hw0 : w = [] := List.length_eq_zero_iff.1 hk
    subst hw0
    exact ⟨_, List.mem_of_getElem? h.hd, rfl⟩
  | k + 1, w, hk, hw, ht => by
    obtain ⟨y, c, rfl⟩ := snoc_of (l := w) (fun e => by rw [e] at hk; simp at hk)
    obtain ⟨hwy, hc⟩ := Wd.split hw
    rw [aft_snoc] at ht ⊢
    have hq : 0 ≤ aft m s y := by
      rcases Int.lt_or_le (aft m s y) 0 with h1 | h1
      · rw [nx_neg h1] at ht
        simp at ht
      · exact h1
    obtain ⟨e, he, hst⟩ := BF.all h k y (by simpa using hk) hwy hq
    obtain ⟨a, ha⟩ := List.mem_iff_getElem?.1 he
    obtain ⟨e', h1, h2⟩ := h.clo a e c ha hc.1 hc.2 (Or.inl (List.getElem?_eq_some_iff.1 ha).1) (by rw [hst]; exact ht)
    exact ⟨e', h1, by rw [h2, hst]⟩
/-- No state stands twice in the queue. -/
theorem BF.nodup (v : Val m) (h : BF m s Q p j) : (Q.map (·.1)).Nodup := by
  rw [List.Nodup, List.pairwise_map]
  refine h.asc.imp_of_mem fun {a b} ha hb hab e => ?_
  have h1 := (h.lw a ha).2
  have h2 := (h.lw b hb).2
  rw [e] at h1
  rw [h1.uniq v.i0 h2] at hab
  omega
end
end Go.Proofs.Ytgafpmgdpigliaa.Mc

namespace Go.Proofs.Ytgafpmgdpigliaa.Mc
open M (rk)

/-- So many different numbers below n are at most n. -/
theorem nodup_le : ∀ (n : Nat) (l : List Int), l.Nodup → (∀ x ∈ l, 0 ≤ x ∧ x < n) → l.length ≤ n
  | 0, l, _, h => by
    cases l with
    | nil => simp
    | cons a l => have := h a (by simp); omega
  | n + 1, l, hd, h => by
    by_cases hm : (n : Int) ∈ l
    · have h1 := List.length_erase_of_mem hm
      have h2 := nodup_le n (l.erase (n : Int)) (hd.erase _) (fun x hx => by
        have h3 := (List.Nodup.mem_erase_iff hd).1 hx
        have h4 := h x h3.2
        have h5 := h3.1
        omega)
      have h3 : 0 < l.length := List.length_pos_of_mem hm
      omega
    · have := nodup_le n l hd (fun x hx => by
        have h4 := h x hx
        have h5 : x ≠ (n : Int) := fun e => hm (e ▸ hx)
        omega)
      omega
section
variable {m : Ma} {s t : Int} {w : List Int}
theorem aft_neg_of (m : Ma) (s : Int) (u v : List Int) (h : aft m s u < 0) : v ≠ [] → aft m s (u ++ v) = -1 := fun hv => by
  rw [aft_app]
  cases v with
  | nil => exact absurd rfl hv
  | cons c v =>
    show aft m (nx m (aft m s u) c).1 v = -1
    rw [nx_neg h]
    exact aft_none m v _ rfl
theorem aft_take (h : 0 ≤ aft m s w) (k : Nat) : 0 ≤ aft m s (w.take k) := by
  rcases Int.lt_or_le (aft m s (w.take k)) 0 with h1 | h1
  · by_cases hd : w.drop k = []
    · have : w.take k = w := by
        have := List.take_append_drop k w
        rw [hd, List.append_nil] at this
        exact this
      rw [this] at h1
      omega
    · have := aft_neg_of m s (w.take k) (w.drop k) h1 hd
      rw [List.take_append_drop] at this
      omega
  · exact h1
theorem Lw.take (hi : 1 ≤ m.i) (h : Lw m s w t) : ∀ k, Lw m s (w.take k) (aft m s (w.take k)) := by
  have key : ∀ (d : Nat) (w : List Int) (t : Int), Lw m s w t → ∀ k, w.length = k + d → Lw m s (w.take k) (aft m s (w.take k)) := by
    intro d
    induction d with
    | zero =>
      intro w t h k hk
      rw [List.take_of_length_le (by omega), h.to]
      exact h
    | succ d ih =>
      intro w t h k hk
      obtain ⟨p, x, rfl⟩ := snoc_of (l := w) (fun e => by rw [e] at hk; simp at hk)
      have hp : p.length = k + d := by simp at hk; omega
      have := ih p _ (h.pre hi) k hp
      rwa [List.take_append_of_le_length (by omega)]
  intro k
  rcases Nat.lt_or_ge w.length k with h1 | h1
  · rw [List.take_of_length_le (by omega), h.to]; exact h
  · exact key (w.length - k) w t h k (by omega)
/-- A least word is shorter than the number of states. -/
theorem Lw.short (v : Val m) (hs : 0 ≤ s ∧ s < m.r.length) (h : Lw m s w t) (ht : 0 ≤ t) : w.length < m.r.length := by
  have hw0 : 0 ≤ aft m s w := by rw [h.to]; exact ht
  have hst : ∀ k, St m (aft m s (w.take k)) := fun k => aft_st v _ _ (Or.inr hs) (fun c hc => h.wd c (List.mem_of_mem_take hc))
  have hl : ((List.range (w.length + 1)).map fun k => aft m s (w.take k)).length ≤ m.r.length := by
    refine nodup_le _ _ ?_ (fun x hx => ?_)
    · rw [List.Nodup, List.pairwise_map]
      refine List.Pairwise.imp_of_mem ?_ (List.pairwise_lt_range)
      intro a b ha hb hab e
      simp at ha hb
      have h1 := h.take v.i0 a
      have h2 := h.take v.i0 b
      rw [e] at h1
      have h3 := congrArg List.length (h1.uniq v.i0 h2)
      rw [List.length_take, List.length_take] at h3
      omega
    · obtain ⟨k, _, rfl⟩ := List.mem_map.1 hx
      rcases hst k with h1 | h1
      · have := aft_take hw0 k; omega
      · exact h1
  simp at hl
  omega
end

/-! ### Sorted lists -/
theorem sorted_uniq {α : Type} (f : α → Int) : ∀ (l k : List α), l.Pairwise (fun a b => f a < f b) → k.Pairwise (fun a b => f a < f b) → (∀ x, x ∈ l ↔ x ∈ k) → l = k
  | [], [], _, _, _ => rfl
  | [], b :: k, _, _, h => absurd ((h b).2 (by simp)) (by simp)
  | a :: l, [], _, _, h => absurd ((h a).1 (by simp)) (by simp)
  | a :: l, b :: k, hl, hk, h => by
    rw [List.pairwise_cons] at hl hk
    have hab : a = b := by
      rcases List.mem_cons.1 ((h a).1 (by simp)) with h1 | h1
      · exact h1
      · rcases List.mem_cons.1 ((h b).2 (by simp)) with h2 | h2
        · exact h2.symm
        · have h3 := hk.1 a h1
          have h4 := hl.1 b h2
          omega
    subst hab
    congr 1
    refine sorted_uniq f l k hl.2 hk.2 fun x => ⟨fun hx => ?_, fun hx => ?_⟩
    · rcases List.mem_cons.1 ((h x).1 (by simp [hx])) with h1 | h1
      · have := hl.1 x hx; rw [h1] at this; omega
      · exact h1
    · rcases List.mem_cons.1 ((h x).2 (by simp [hx])) with h1 | h1
      · have := hk.1 x hx; rw [h1] at this; omega
      · exact h1

/-! ### States that are numbered anew -/
/-- Where a state stands in a list; -1 if it does not. -/
def ix (l : List Int) (a : Int) : Int := if a ∈ l then (l.idxOf a : Int) else -1
theorem ix_at {l : List Int} (hd : l.Nodup) {k : Nat} {a : Int} (h : l[k]? = some a) : ix l a = k := by
  unfold ix
  obtain ⟨h1, h2⟩ := List.getElem?_eq_some_iff.1 h
  rw [if_pos (List.mem_of_getElem? h)]
  congr 1
  have h3 : l.idxOf a < l.length := List.idxOf_lt_length_of_mem (List.mem_of_getElem? h)
  have h4 : l[l.idxOf a] = a := List.getElem_idxOf h3
  exact (List.getElem_inj hd).1 (h4.trans h2.symm)
theorem ix_none {l : List Int} {a : Int} (h : a ∉ l) : ix l a = -1 := if_neg h
theorem ix_lt {l : List Int} (a : Int) : ix l a < l.length := by
  unfold ix
  split
  · rename_i h
    have := List.idxOf_lt_length_of_mem h
    omega
  · omega
theorem ix_ge {l : List Int} (a : Int) : -1 ≤ ix l a := by unfold ix; split <;> omega
theorem ix_get {l : List Int} {a : Int} (h : a ∈ l) : l[(ix l a).toNat]? = some a := by
  unfold ix
  rw [if_pos h, Int.toNat_natCast, List.getElem?_eq_getElem (List.idxOf_lt_length_of_mem h), List.getElem_idxOf]
/-- The machine with some states, in an order. -/
def prt (m : Ma) (l : List Int) : Ma := { m with r := l.map fun s => ((m.r[s.toNat]?).getD []).map fun x => (ix l x.1, x.2) }
/-- What a list of states must be: the first one the initial state, none twice, and with a state all that follow it. -/
structure Cls (m : Ma) (l : List Int) : Prop where
  nd : l.Nodup
  rg : ∀ s ∈ l, 0 ≤ s ∧ s < m.r.length
  cl : ∀ s ∈ l, ∀ c, 0 ≤ c → c < m.i → 0 ≤ (nx m s c).1 → (nx m s c).1 ∈ l
section
variable {m : Ma} {l : List Int}
theorem prt_len (m : Ma) (l : List Int) : (prt m l).r.length = l.length := by simp [prt]
theorem nx_prt (v : Val m) (h : Cls m l) {k : Nat} {s : Int} (hk : l[k]? = some s) {c : Int} (hc : 0 ≤ c ∧ c < m.i) : nx (prt m l) k c = (ix l (nx m s c).1, (nx m s c).2) := by
  obtain ⟨h1, h2⟩ := h.rg s (List.mem_of_getElem? hk)
  obtain ⟨s, rfl⟩ := Int.eq_ofNat_of_zero_le h1
  obtain ⟨c, rfl⟩ := Int.eq_ofNat_of_zero_le hc.1
  have hsl : s < m.r.length := by omega
  have hrow := v.len m.r[s] (List.getElem_mem hsl)
  have hcl : c < (m.r[s]).length := by omega
  have e := nx_at (List.getElem?_eq_getElem hsl) (List.getElem?_eq_getElem hcl)
  rw [e]
  refine nx_at (row := (m.r[s]).map fun x => (ix l x.1, x.2)) ?_ ?_
  · simp [prt, hk, List.getElem?_eq_getElem hsl]
  · simp [List.getElem?_eq_getElem hcl]
/-- The same words lead to the same states, and give the same outputs. -/
theorem prt_sim (v : Val m) (h : Cls m l) : ∀ (w : List Int) (s : Int), s = -1 ∨ s ∈ l → Wd m w → aft (prt m l) (ix l s) w = ix l (aft m s w) ∧ run (prt m l) (ix l s) w = run m s w
  | [], s, _, _ => ⟨rfl, rfl⟩
  | c :: w, s, hs, hw => by
    have hc := hw c (by simp)
    have hw' : Wd m w := fun d hd => hw d (by simp [hd])
    have hnm : (-1 : Int) ∉ l := fun e => by have := h.rg _ e; omega
    have key : nx (prt m l) (ix l s) c = (ix l (nx m s c).1, (nx m s c).2) := by
      rcases hs with rfl | hs
      · rw [ix_none hnm, nx_neg (by omega), nx_neg (by omega)]
        show nE = (ix l (-1), -1)
        rw [ix_none hnm]
      · have h1 := ix_get hs
        have h2 : ix l s = ((ix l s).toNat : Int) := by
          have : 0 ≤ ix l s := by unfold ix; rw [if_pos hs]; omega
          omega
        rw [h2]
        exact nx_prt v h h1 hc
    have hn : (nx m s c).1 = -1 ∨ (nx m s c).1 ∈ l := by
      rcases hs with rfl | hs
      · rw [nx_neg (by omega)]; exact Or.inl rfl
      · have h1 := h.rg s hs
        rcases (nx_st v (s := s) (i := c) (Or.inr h1) hc).1 with h2 | h2
        · exact Or.inl h2
        · exact Or.inr (h.cl s hs c hc.1 hc.2 h2.1)
    obtain ⟨i1, i2⟩ := prt_sim v h w _ hn hw'
    refine ⟨?_, ?_⟩
    · show aft (prt m l) (nx (prt m l) (ix l s) c).1 w = ix l (aft m (nx m s c).1 w)
      rw [key]; exact i1
    · show (nx (prt m l) (ix l s) c).2 :: run (prt m l) (nx (prt m l) (ix l s) c).1 w = (nx m s c).2 :: run m (nx m s c).1 w
      rw [key]
      simp only
      rw [i2]
end
end Go.Proofs.Ytgafpmgdpigliaa.Mc

namespace Go.Proofs.Ytgafpmgdpigliaa.Mc
open M (rk)

open Classical in
/-- The rank of the access word of a state. -/
noncomputable def ar (m : Ma) (s : Int) : Int := if h : ∃ w, Lw m 0 w s then rk m.i (Classical.choose h) else -1
section
variable {m : Ma} {l k : List Int} {w : List Int} {s t : Int}
theorem ar_eq (hi : 1 ≤ m.i) (h : Lw m 0 w s) : ar m s = rk m.i w := by
  have hx : ∃ w, Lw m 0 w s := ⟨w, h⟩
  unfold ar
  rw [dif_pos hx, (Classical.choose_spec hx).uniq hi h]
/-- The states that are reached, in the order of their access words. -/
structure Ord (m : Ma) (l : List Int) : Prop where
  mem : ∀ s, s ∈ l ↔ 0 ≤ s ∧ ∃ w, Wd m w ∧ aft m 0 w = s
  srt : l.Pairwise fun a b => ar m a < ar m b
theorem Ord.uniq (h : Ord m l) (h' : Ord m k) : l = k := sorted_uniq (ar m) l k h.srt h'.srt fun x => (h.mem x).trans (h'.mem x).symm
theorem Ord.lw (hi : 1 ≤ m.i) (h : Ord m l) (hs : s ∈ l) : ∃ w, Lw m 0 w s := by
  obtain ⟨_, w, hw, ht⟩ := (h.mem s).1 hs
  exact Lw.ex hi hw ht
theorem Ord.zero (hi : 1 ≤ m.i) (h : Ord m l) : l[0]? = some 0 := by
  have h0 : (0 : Int) ∈ l := (h.mem 0).2 ⟨by omega, [], fun c hc => by simp at hc, rfl⟩
  cases l with
  | nil => simp at h0
  | cons x l =>
    rcases List.mem_cons.1 h0 with h1 | h1
    · subst h1; rfl
    · have hp := List.pairwise_cons.1 h.srt
      have h2 := hp.1 0 h1
      rw [ar_eq hi (Lw.nil_ hi 0), M.rk_nil] at h2
      obtain ⟨w, hw⟩ := h.lw hi (s := x) (by simp)
      rw [ar_eq hi hw] at h2
      have := rk_nonneg hi (x := w) hw.wd
      omega
theorem Ord.cls (v : Val m) (h : Ord m l) : Cls m l := by
  have h5 := v.r0
  refine ⟨?_, fun s hs => ?_, fun s hs c hc0 hc1 hn => ?_⟩
  · rw [List.Nodup]
    exact h.srt.imp fun {a b} hab e => by rw [e] at hab; omega
  · obtain ⟨h1, w, hw, ht⟩ := (h.mem s).1 hs
    rcases aft_st v w 0 (Or.inr ⟨by omega, by omega⟩) hw with h2 | h2
    · omega
    · rw [ht] at h2; exact h2
  · obtain ⟨_, w, hw, ht⟩ := (h.mem s).1 hs
    exact (h.mem _).2 ⟨hn, w ++ [c], Wd.join hw ⟨hc0, hc1⟩, by rw [aft_snoc, ht]⟩
/-- The queue gives the order. -/
theorem BF.ord {Q : List (Int × List Int)} (v : Val m) (h : BF m 0 Q Q.length 0) : Ord m (Q.map (·.1)) := by
  refine ⟨fun s => ⟨fun hs => ?_, fun ⟨h0, w, hw, ht⟩ => ?_⟩, ?_⟩
  · obtain ⟨e, he, rfl⟩ := List.mem_map.1 hs
    obtain ⟨h1, h2⟩ := h.lw e he
    exact ⟨h1.1, e.2, h2.wd, h2.to⟩
  · obtain ⟨e, he, h1⟩ := h.all _ w rfl hw (by rw [ht]; exact h0)
    exact List.mem_map.2 ⟨e, he, by rw [h1, ht]⟩
  · rw [List.pairwise_map]
    refine h.asc.imp_of_mem fun {a b} ha hb hab => ?_
    rw [ar_eq v.i0 (h.lw a ha).2, ar_eq v.i0 (h.lw b hb).2]
    exact hab

/-! ### Other numbers for the states -/
theorem ix_inj (ha : s ∈ l) (hb : t ∈ l) (h : ix l s = ix l t) : s = t := by
  have h1 := ix_get ha
  rw [h, ix_get hb] at h1
  injection h1 with h1
  exact h1.symm
theorem prt_val (v : Val m) (h : Cls m l) (h1 : 1 ≤ l.length) (h2 : l.length ≤ 64) : Val (prt m l) := by
  refine ⟨v.i0, v.i1, v.o0, v.o1, by rw [prt_len]; exact h1, by rw [prt_len]; exact h2, fun row hr => ?_, fun row hr x hx => ?_⟩
  · obtain ⟨s, hs, rfl⟩ := List.mem_map.1 hr
    have h3 := h.rg s hs
    have hsl : s.toNat < m.r.length := by omega
    rw [List.length_map, List.getElem?_eq_getElem hsl]
    exact v.len _ (List.getElem_mem hsl)
  · obtain ⟨s, hs, rfl⟩ := List.mem_map.1 hr
    have h3 := h.rg s hs
    have hsl : s.toNat < m.r.length := by omega
    rw [List.getElem?_eq_getElem hsl, Option.getD_some] at hx
    obtain ⟨y, hy, rfl⟩ := List.mem_map.1 hx
    obtain ⟨c, hc⟩ := List.mem_iff_getElem?.1 hy
    have hrow := v.len _ (List.getElem_mem hsl)
    have hcl := (List.getElem?_eq_some_iff.1 hc).1
    rw [prt_len]
    show (ix l y.1 = -1 ∧ y.2 = -1) ∨ (0 ≤ ix l y.1 ∧ ix l y.1 < l.length ∧ 0 ≤ y.2 ∧ y.2 < m.o)
    rcases v.ok _ (List.getElem_mem hsl) y hy with ⟨e1, e2⟩ | ⟨e1, e2, e3, e4⟩
    · refine Or.inl ⟨?_, e2⟩
      rw [e1]
      exact ix_none fun e => by have := h.rg _ e; omega
    · have hnx : nx m s c = y := by
        have := nx_at (m := m) (s := s.toNat) (i := c) (List.getElem?_eq_getElem hsl) hc
        rwa [show ((s.toNat : Nat) : Int) = s by omega] at this
      have hmem := h.cl s hs c (by omega) (by omega) (by rw [hnx]; exact e1)
      rw [hnx] at hmem
      refine Or.inr ⟨?_, ix_lt _, e3, e4⟩
      unfold ix
      rw [if_pos hmem]
      omega
theorem aft_mem (h : Cls m l) (hs : s ∈ l) : ∀ (w : List Int), Wd m w → 0 ≤ aft m s w → aft m s w ∈ l := by
  have key : ∀ (n : Nat) (w : List Int), w.length = n → Wd m w → 0 ≤ aft m s w → aft m s w ∈ l := by
    intro n
    induction n with
    | zero =>
      intro w hn _ _
      have hw0 : w = [] := List.length_eq_zero_iff.1 hn
      subst hw0
      exact hs
    | succ n ih =>
      intro w hn hw ht
      obtain ⟨y, c, rfl⟩ := snoc_of (l := w) (fun e => by rw [e] at hn; simp at hn)
      obtain ⟨hwy, hc⟩ := Wd.split hw
      rw [aft_snoc] at ht ⊢
      have hq : 0 ≤ aft m s y := by
        rcases Int.lt_or_le (aft m s y) 0 with h1 | h1
        · rw [nx_neg h1] at ht
          simp at ht
        · exact h1
      exact h.cl _ (ih y (by simpa using hn) hwy hq) c hc.1 hc.2 ht
  exact fun w => key _ w rfl
theorem prt_aft (v : Val m) (h : Cls m l) (h0 : l[0]? = some 0) (hw : Wd m w) : aft (prt m l) 0 w = ix l (aft m 0 w) ∧ run (prt m l) 0 w = run m 0 w := by
  have := prt_sim v h w 0 (Or.inr (List.mem_of_getElem? h0)) hw
  rwa [show ix l 0 = 0 from ix_at h.nd h0] at this
theorem ix_neg_iff (h : Cls m l) (hs : s = -1 ∨ s ∈ l) : 0 ≤ ix l s ↔ s ∈ l := by
  rcases hs with rfl | hs
  · have hn : (-1 : Int) ∉ l := fun e => by have := h.rg _ e; omega
    rw [ix_none hn]
    exact ⟨fun e => by omega, fun e => absurd e hn⟩
  · refine ⟨fun _ => hs, fun _ => ?_⟩
    unfold ix
    rw [if_pos hs]
    omega
theorem prt_lw (v : Val m) (h : Cls m l) (h0 : l[0]? = some 0) (hs : s ∈ l) : Lw m 0 w s ↔ Lw (prt m l) 0 w (ix l s) := by
  have key : ∀ u, Wd m u → (aft m 0 u = s ↔ aft (prt m l) 0 u = ix l s) := fun u hu => by
    rw [(prt_aft v h h0 hu).1]
    refine ⟨fun e => by rw [e], fun e => ?_⟩
    have hor : aft m 0 u = -1 ∨ aft m 0 u ∈ l := by
      have h5 := v.r0
      rcases aft_st v u 0 (Or.inr ⟨by omega, by omega⟩) hu with h1 | h1
      · exact Or.inl h1
      · exact Or.inr (aft_mem h (List.mem_of_getElem? h0) u hu h1.1)
    have hm := (ix_neg_iff h hor).1 (by rw [e]; exact (ix_neg_iff h (Or.inr hs)).2 hs)
    exact ix_inj hm hs e
  exact ⟨fun ⟨a, b, c⟩ => ⟨a, (key w a).1 b, fun u hu he => c u hu ((key u hu).2 he)⟩, fun ⟨a, b, c⟩ => ⟨a, (key w a).2 b, fun u hu he => c u hu ((key u hu).1 he)⟩⟩
theorem Ord.sub (h : Cls m l) (h0 : l[0]? = some 0) (hk : Ord m k) (hs : s ∈ k) : s ∈ l := by
  obtain ⟨h1, w, hw, ht⟩ := (hk.mem s).1 hs
  rw [← ht] at h1 ⊢
  exact aft_mem h (List.mem_of_getElem? h0) w hw h1
/-- The order of a machine with other numbers is the same one. -/
theorem Ord.prt (v : Val m) (h : Cls m l) (h0 : l[0]? = some 0) (hk : Ord m k) : Ord (prt m l) (k.map (ix l)) := by
  have h5 := v.r0
  refine ⟨fun t => ⟨fun ht => ?_, fun ⟨h1, w, hw, ht⟩ => ?_⟩, ?_⟩
  · obtain ⟨s, hs, rfl⟩ := List.mem_map.1 ht
    have hsl := hk.sub h h0 hs
    obtain ⟨_, w, hw, he⟩ := (hk.mem s).1 hs
    exact ⟨(ix_neg_iff h (Or.inr hsl)).2 hsl, w, hw, by rw [(prt_aft v h h0 hw).1, he]⟩
  · rw [(prt_aft v h h0 hw).1] at ht
    have hor : aft m 0 w = -1 ∨ aft m 0 w ∈ l := by
      rcases aft_st v w 0 (Or.inr ⟨by omega, by omega⟩) hw with h2 | h2
      · exact Or.inl h2
      · exact Or.inr (aft_mem h (List.mem_of_getElem? h0) w hw h2.1)
    have hm := (ix_neg_iff h hor).1 (by rw [ht]; exact h1)
    exact List.mem_map.2 ⟨_, (hk.mem _).2 ⟨(h.rg _ hm).1, w, hw, rfl⟩, ht⟩
  · rw [List.pairwise_map]
    refine hk.srt.imp_of_mem fun {a b} ha hb hab => ?_
    obtain ⟨wa, hwa⟩ := hk.lw v.i0 ha
    obtain ⟨wb, hwb⟩ := hk.lw v.i0 hb
    rw [ar_eq v.i0 hwa, ar_eq v.i0 hwb] at hab
    rw [ar_eq (m := Mc.prt m l) v.i0 ((prt_lw v h h0 (hk.sub h h0 ha)).1 hwa), ar_eq (m := Mc.prt m l) v.i0 ((prt_lw v h h0 (hk.sub h h0 hb)).1 hwb)]
    exact hab
/-- Two numberings, one after the other. -/
theorem prt_prt (v : Val m) (h : Cls m l) (hk : Cls m k) (hs : ∀ s ∈ k, s ∈ l) : prt (prt m l) (k.map (ix l)) = prt m k := by
  have hn : (-1 : Int) ∉ l := fun e => by have := h.rg _ e; omega
  have hn' : (-1 : Int) ∉ k := fun e => hn (hs _ e)
  have hix : ∀ a, a = -1 ∨ a ∈ l → ix (k.map (ix l)) (ix l a) = ix k a := fun a ha => by
    by_cases hak : a ∈ k
    · have hnd : (k.map (ix l)).Nodup := by
        rw [List.Nodup, List.pairwise_map]
        exact hk.nd.imp_of_mem fun {x y} hx hy hxy e => hxy (ix_inj (hs x hx) (hs y hy) e)
      obtain ⟨j, hj⟩ := List.mem_iff_getElem?.1 hak
      rw [ix_at hk.nd hj]
      exact ix_at hnd (by rw [List.getElem?_map, hj]; rfl)
    · rw [ix_none hak]
      refine ix_none fun e => ?_
      obtain ⟨b, hb, hba⟩ := List.mem_map.1 e
      rcases ha with rfl | ha
      · rw [ix_none hn] at hba
        have := (ix_neg_iff h (Or.inr (hs b hb))).2 (hs b hb)
        omega
      · exact hak (ix_inj (hs b hb) ha hba ▸ hb)
  unfold prt
  simp only [List.map_map, Ma.mk.injEq, true_and]
  refine List.map_congr_left fun s hsk => ?_
  have hsl := hs s hsk
  obtain ⟨h1, h2⟩ := h.rg s hsl
  have hsn : s.toNat < m.r.length := by omega
  simp only [Function.comp, List.getElem?_map, ix_get hsl, Option.map_some, Option.getD_some, List.map_map]
  rw [List.getElem?_eq_getElem hsn, Option.getD_some]
  refine List.map_congr_left fun x hx => ?_
  simp only [Function.comp]
  rw [hix]
  obtain ⟨c, hc⟩ := List.mem_iff_getElem?.1 hx
  have hrow := v.len _ (List.getElem_mem hsn)
  have hcl := (List.getElem?_eq_some_iff.1 hc).1
  have hnx : nx m s c = x := by
    have := nx_at (m := m) (s := s.toNat) (i := c) (List.getElem?_eq_getElem hsn) hc
    rwa [show ((s.toNat : Nat) : Int) = s by omega] at this
  rcases v.ok _ (List.getElem_mem hsn) x hx with ⟨e1, _⟩ | ⟨e1, _⟩
  · exact Or.inl e1
  · have := h.cl s hsl c (by omega) (by omega) (by rw [hnx]; exact e1)
    rw [hnx] at this
    exact Or.inr this
theorem map_ix_self (h : l.Nodup) : l.map (ix l) = (List.range l.length).map fun (j : Nat) => (j : Int) := by
  apply List.ext_getElem?
  intro j
  rw [List.getElem?_map, List.getElem?_map]
  rcases Nat.lt_or_ge j l.length with h1 | h1
  · rw [List.getElem?_eq_getElem h1, List.getElem?_range h1]
    simp only [Option.map_some]
    rw [ix_at h (List.getElem?_eq_getElem h1)]
  · rw [List.getElem?_eq_none h1, List.getElem?_eq_none (by simpa using h1)]
    rfl
/-- A canonical form is its own one. -/
theorem canon_own (v : Val m) (hl : Ord m l) : Ord (prt m l) ((List.range l.length).map fun (j : Nat) => (j : Int)) ∧ prt (prt m l) ((List.range l.length).map fun (j : Nat) => (j : Int)) = prt m l := by
  have hc := hl.cls v
  rw [← map_ix_self hc.nd]
  exact ⟨hl.prt v hc (hl.zero v.i0), prt_prt v hc hc fun s hs => hs⟩
/-- However the states are numbered, the canonical form is the same. -/
theorem canon_any (v : Val m) (h : Cls m l) (h0 : l[0]? = some 0) (hk : Ord m k) {k' : List Int} (hk' : Ord (prt m l) k') : prt (prt m l) k' = prt m k := by
  rw [hk'.uniq (hk.prt v h h0)]
  exact prt_prt v h (hk.cls v) fun s hs => hk.sub h h0 hs
end
end Go.Proofs.Ytgafpmgdpigliaa.Mc

namespace Go.Proofs.Ytgafpmgdpigliaa.Mc
open M (rk)

/-- All words before w have been tried. -/
structure PT (m : Ma) (s : Int) (w : List Int) (l : List (List Int)) (is : List Bool) : Prop where
  vw : Wd m w
  ll : l.length = m.r.length
  li : is.length = m.r.length
  yes : ∀ (t : Nat), is[t]? = some true → ∃ u, l[t]? = some u ∧ Lw m s u t ∧ rk m.i u < rk m.i w
  no : ∀ (t : Nat), is[t]? = some false → l[t]? = some [] ∧ ∀ u, Wd m u → rk m.i u < rk m.i w → aft m s u ≠ t
section
variable {m : Ma} {s : Int} {w : List Int} {l : List (List Int)} {is : List Bool}
theorem PT.start (hi : 1 ≤ m.i) (s : Int) : PT m s [] (List.replicate m.r.length []) (List.replicate m.r.length false) := by
  refine ⟨fun c h => by simp at h, by simp, by simp, fun t h => ?_, fun t h => ⟨?_, fun u hu hr => ?_⟩⟩
  · rw [List.getElem?_replicate] at h
    split at h <;> simp at h
  · have := (List.getElem?_eq_some_iff.1 h).1
    rw [List.getElem?_replicate, if_pos (by simpa using this)]
  · rw [M.rk_nil] at hr
    have := rk_nonneg hi (x := u) hu
    omega
theorem next_wd (hi : 1 ≤ m.i) (h : Wd m w) : Wd m (M.next m.i w) ∧ rk m.i (M.next m.i w) = rk m.i w + 1 := by
  obtain ⟨h1, h2, _⟩ := M.next_val hi _ w rfl h
  exact ⟨h1, h2⟩
theorem PT.last (hi : 1 ≤ m.i) (h : PT m s w l is) {u : List Int} (hu : Wd m u) (hr : rk m.i u < rk m.i (M.next m.i w)) : rk m.i u < rk m.i w ∨ u = w := by
  rw [(next_wd hi h.vw).2] at hr
  rcases Int.lt_or_le (rk m.i u) (rk m.i w) with h1 | h1
  · exact Or.inl h1
  · exact Or.inr (rk_inj hi hu h.vw (by omega))
/-- The word leads to a state for the first time. -/
theorem PT.hit (hi : 1 ≤ m.i) (h : PT m s w l is) {t : Nat} (ht : aft m s w = t) (hf : is[t]? = some false) : PT m s (M.next m.i w) (l.set t w) (is.set t true) := by
  obtain ⟨n1, n2⟩ := next_wd hi h.vw
  have htl : t < is.length := (List.getElem?_eq_some_iff.1 hf).1
  have hno := (h.no t hf).2
  refine ⟨n1, by rw [List.length_set]; exact h.ll, by rw [List.length_set]; exact h.li, fun q hq => ?_, fun q hq => ?_⟩
  · by_cases e : t = q
    · subst e
      refine ⟨w, by rw [List.getElem?_set_self (by have := h.ll; have := h.li; omega)], ⟨h.vw, ht, fun v hv he => ?_⟩, by omega⟩
      rcases Int.lt_or_le (rk m.i v) (rk m.i w) with h1 | h1
      · exact absurd he (hno v hv h1)
      · exact h1
    · rw [List.getElem?_set_ne e] at hq
      obtain ⟨u, h1, h2, h3⟩ := h.yes q hq
      exact ⟨u, by rw [List.getElem?_set_ne e]; exact h1, h2, by omega⟩
  · by_cases e : t = q
    · subst e
      rw [List.getElem?_set_self htl] at hq
      simp at hq
    · rw [List.getElem?_set_ne e] at hq
      obtain ⟨h1, h2⟩ := h.no q hq
      refine ⟨by rw [List.getElem?_set_ne e]; exact h1, fun u hu hr => ?_⟩
      rcases h.last hi hu hr with h3 | h3
      · exact h2 u hu h3
      · rw [h3, ht]
        intro e2
        exact e (by omega)
/-- The word leads nowhere, or to a state that has a word. -/
theorem PT.skip (hi : 1 ≤ m.i) (h : PT m s w l is) (hs : ∀ t : Nat, aft m s w = t → is[t]? ≠ some false) : PT m s (M.next m.i w) l is := by
  obtain ⟨n1, n2⟩ := next_wd hi h.vw
  refine ⟨n1, h.ll, h.li, fun q hq => ?_, fun q hq => ?_⟩
  · obtain ⟨u, h1, h2, h3⟩ := h.yes q hq
    exact ⟨u, h1, h2, by omega⟩
  · obtain ⟨h1, h2⟩ := h.no q hq
    refine ⟨h1, fun u hu hr => ?_⟩
    rcases h.last hi hu hr with h3 | h3
    · exact h2 u hu h3
    · rw [h3]
      intro e
      exact hs q e hq
/-- All words that are short enough have been tried: what is told of each state. -/
theorem PT.done (v : Val m) (h : PT m s w l is) (hs : 0 ≤ s ∧ s < m.r.length) (hl : m.r.length ≤ w.length) {t : Nat} (ht : t < m.r.length) :
    (∃ u, is[t]? = some true ∧ l[t]? = some u ∧ Lw m s u t) ∨ (is[t]? = some false ∧ l[t]? = some [] ∧ ∀ u, Wd m u → aft m s u ≠ t) := by
  obtain ⟨b, hb⟩ : ∃ b, is[t]? = some b := ⟨_, List.getElem?_eq_getElem (by rw [h.li]; exact ht)⟩
  cases b with
  | true =>
    obtain ⟨u, h1, h2, _⟩ := h.yes t hb
    exact Or.inl ⟨u, hb, h1, h2⟩
  | false =>
    obtain ⟨h1, h2⟩ := h.no t hb
    refine Or.inr ⟨hb, h1, fun u hu he => ?_⟩
    obtain ⟨x, hx⟩ := Lw.ex v.i0 hu he
    have h3 := hx.short v hs (by omega)
    exact h2 x hx.wd (M.rk_short v.i0 (by omega) hx.wd h.vw) hx.to
/-- How far it is to the end. -/
def far (m : Ma) (w : List Int) : Nat := (rk m.i (List.replicate m.r.length 0) - rk m.i w).toNat
theorem zeros_wd (hi : 1 ≤ m.i) (k : Nat) : Wd m (List.replicate k 0) := fun c hc => by
  rw [List.eq_of_mem_replicate hc]
  omega
theorem far_lt (hi : 1 ≤ m.i) (h : Wd m w) (hl : w.length < m.r.length) : far m (M.next m.i w) < far m w := by
  have h1 := M.rk_short hi (x := w) (y := List.replicate m.r.length 0) (by simpa using hl) h (zeros_wd hi _)
  have h2 := (next_wd hi h).2
  unfold far
  omega
end

/-! ### Sorting -/
section
variable {α : Type} {f : α → Int} {L : List α} {s : α} {k : Nat}
theorem ins_sorted (h : L.Pairwise fun a b => f a < f b) (h1 : ∀ j a, j < k → L[j]? = some a → f a < f s) (h2 : ∀ a, L[k]? = some a → f s < f a) : (L.take k ++ s :: L.drop k).Pairwise fun a b => f a < f b := by
  have hs := List.take_append_drop k L
  have hp := h
  rw [← hs, List.pairwise_append] at hp
  rw [List.pairwise_append]
  have hge : ∀ b ∈ L.drop k, f s < f b := fun b hb => by
    obtain ⟨j, hj⟩ := List.mem_iff_getElem?.1 hb
    rw [List.getElem?_drop] at hj
    have hkl : k + j < L.length := (List.getElem?_eq_some_iff.1 hj).1
    have h3 := h2 _ (List.getElem?_eq_getElem (show k < L.length by omega))
    rcases Nat.eq_zero_or_pos j with h4 | h4
    · subst h4
      rw [Nat.add_zero, List.getElem?_eq_getElem (show k < L.length by omega)] at hj
      injection hj with hj
      rw [← hj]; exact h3
    · have h5 := List.pairwise_iff_getElem.1 h k (k + j) (by omega) hkl (by omega)
      have h6 : L[k + j] = b := by rw [List.getElem?_eq_getElem hkl] at hj; injection hj
      rw [h6] at h5
      omega
  refine ⟨hp.1, ?_, fun a ha b hb => ?_⟩
  · rw [List.pairwise_cons]
    exact ⟨hge, hp.2.1⟩
  · have has : f a < f s := by
      obtain ⟨j, hj⟩ := List.mem_iff_getElem?.1 ha
      rw [List.getElem?_take] at hj
      split at hj
      · rename_i hjk; exact h1 j a hjk hj
      · cases hj
    rcases List.mem_cons.1 hb with h3 | h3
    · rw [h3]; exact has
    · have := hge b h3; omega
theorem ins_mem {x : α} : x ∈ L.take k ++ s :: L.drop k ↔ x = s ∨ x ∈ L := by
  rw [List.mem_append, List.mem_cons]
  have : x ∈ L ↔ x ∈ L.take k ∨ x ∈ L.drop k := by rw [← List.mem_append, List.take_append_drop]
  rw [this]
  constructor
  · rintro (h | h | h)
    · exact Or.inr (Or.inl h)
    · exact Or.inl h
    · exact Or.inr (Or.inr h)
  · rintro (h | h | h)
    · exact Or.inr (Or.inl h)
    · exact Or.inl h
    · exact Or.inr (Or.inr h)
end
end Go.Proofs.Ytgafpmgdpigliaa.Mc

namespace Go.Proofs.Ytgafpmgdpigliaa.Mc
open M (rk)

/-- The states before k that are reached, in the order of their words. -/
structure OP (m : Ma) (is : List Bool) (k : Nat) (L : List Int) : Prop where
  mem : ∀ t : Int, t ∈ L ↔ ∃ n : Nat, t = n ∧ n < k ∧ is[n]? = some true
  srt : L.Pairwise fun a b => ar m a < ar m b
section
variable {m : Ma} {l : List (List Int)} {is : List Bool} {k j : Nat} {L x : List Int}
theorem OP.start (m : Ma) (is : List Bool) : OP m is 0 [] := ⟨fun t => ⟨fun h => by simp at h, fun ⟨_, _, h, _⟩ => absurd h (Nat.not_lt_zero _)⟩, List.Pairwise.nil⟩
theorem OP.skip (h : OP m is k L) (hf : is[k]? = some false) : OP m is (k + 1) L := by
  refine ⟨fun t => (h.mem t).trans ⟨fun ⟨n, h1, h2, h3⟩ => ⟨n, h1, by omega, h3⟩, fun ⟨n, h1, h2, h3⟩ => ⟨n, h1, ?_, h3⟩⟩, h.srt⟩
  rcases Nat.lt_or_ge n k with h4 | h4
  · exact h4
  · have : n = k := by omega
    subst this
    rw [hf] at h3
    cases h3
/-- The word of a state that is reached. -/
theorem PT.word (hi : 1 ≤ m.i) (h : PT m 0 x l is) {n : Nat} (hn : is[n]? = some true) : ∃ u, l[n]? = some u ∧ Lw m 0 u n ∧ ar m n = rk m.i u := by
  obtain ⟨u, h1, h2, _⟩ := h.yes n hn
  exact ⟨u, h1, h2, ar_eq hi h2⟩
theorem PT.apart (hi : 1 ≤ m.i) (h : PT m 0 x l is) {a b : Nat} (ha : is[a]? = some true) (hb : is[b]? = some true) (e : ar m a = ar m b) : a = b := by
  obtain ⟨u, _, h2, h3⟩ := h.word hi ha
  obtain ⟨v, _, h5, h6⟩ := h.word hi hb
  have hu : u = v := rk_inj hi h2.wd h5.wd (by omega)
  subst hu
  have := h2.to.symm.trans h5.to
  omega
theorem OP.at_ (h : OP m is k L) {t : Int} (hj : L[j]? = some t) : ∃ n : Nat, t = n ∧ n < k ∧ is[n]? = some true := (h.mem t).1 (List.mem_of_getElem? hj)
theorem OP.ins (hi : 1 ≤ m.i) (hp : PT m 0 x l is) (h : OP m is k L) (hk : is[k]? = some true) (h1 : ∀ i a, i < j → L[i]? = some a → ar m a < ar m k) (h2 : ∀ a, L[j]? = some a → ¬ ar m a < ar m k) : OP m is (k + 1) (L.take j ++ (k : Int) :: L.drop j) := by
  refine ⟨fun t => ?_, ins_sorted h.srt h1 fun a ha => ?_⟩
  · rw [ins_mem, h.mem]
    constructor
    · rintro (h3 | ⟨n, h3, h4, h5⟩)
      · exact ⟨k, h3, by omega, hk⟩
      · exact ⟨n, h3, by omega, h5⟩
    · rintro ⟨n, h3, h4, h5⟩
      rcases Nat.lt_or_ge n k with h6 | h6
      · exact Or.inr ⟨n, h3, h6, h5⟩
      · exact Or.inl (by omega)
  · obtain ⟨n, h3, h4, h5⟩ := h.at_ ha
    have h6 := h2 a ha
    rcases Int.lt_or_eq_of_le (Int.not_lt.1 h6) with h7 | h7
    · exact h7
    · rw [h3] at h7
      have := hp.apart hi hk h5 h7
      omega
theorem OP.done (v : Val m) (hp : PT m 0 x l is) (hx : m.r.length ≤ x.length) (h : OP m is m.r.length L) : Ord m L := by
  have hi := v.i0
  have h0 := v.r0
  refine ⟨fun s => ?_, h.srt⟩
  rw [h.mem]
  constructor
  · rintro ⟨n, rfl, h2, h3⟩
    obtain ⟨u, _, h4, _⟩ := hp.yes n h3
    exact ⟨by omega, u, h4.wd, h4.to⟩
  · rintro ⟨h1, w, hw, ht⟩
    rcases aft_st v w 0 (Or.inr ⟨by omega, by omega⟩) hw with h2 | ⟨_, h2⟩
    · omega
    · rw [ht] at h2
      obtain ⟨n, rfl⟩ := Int.eq_ofNat_of_zero_le h1
      have hn : n < m.r.length := by omega
      rcases hp.done v ⟨by omega, by omega⟩ hx hn with ⟨_, h3, _⟩ | ⟨_, _, h4⟩
      · exact ⟨n, rfl, hn, h3⟩
      · exact absurd ht (h4 w hw)
theorem OP.bound (h : OP m is k L) : ∀ t ∈ L, 0 ≤ t ∧ t < k := fun t ht => by
  obtain ⟨n, rfl, h1, _⟩ := (h.mem t).1 ht
  omega
end
end Go.Proofs.Ytgafpmgdpigliaa.Mc

namespace Go.Proofs.Ytgafpmgdpigliaa.Mc
open M (rk)

/-- A state with the word that leads to it. -/
abbrev Wv := Int × List Int
def bfE (m : Ma) (x : Wv) (Q : List Wv) (j : Nat) : List Wv :=
  if (nx m x.1 j).1 < 0 ∨ (Q.lookup (nx m x.1 j).1).isSome = true then Q else Q ++ [((nx m x.1 j).1, x.2 ++ [(j : Int)])]
def bfR (m : Ma) (x : Wv) : Nat → List Wv → List Wv
  | 0, Q => Q
  | k + 1, Q => bfE m x (bfR m x k Q) k
def bfG (m : Ma) : Nat → Nat → List Wv → List Wv
  | 0, _, Q => Q
  | f + 1, p, Q => match Q[p]? with
    | none => Q
    | some x => bfG m f (p + 1) (bfR m x m.i.toNat Q)
/-- The states to which words lead, each with the least one, in the order of these words. -/
def wk (m : Ma) (s : Int) : List Wv := bfG m (m.r.length + 1) 0 [(s, [])]

theorem look_some {Q : List Wv} {t : Int} {w : List Int} (h : Q.lookup t = some w) : (t, w) ∈ Q := by
  induction Q with
  | nil => simp at h
  | cons a Q ih =>
    obtain ⟨b, u⟩ := a
    rw [List.lookup_cons] at h
    split at h
    · rename_i e
      simp at e
      injection h with h
      subst e h
      exact List.mem_cons_self
    · exact List.mem_cons_of_mem _ (ih h)
theorem look_none {Q : List Wv} {t : Int} (h : Q.lookup t = none) : ∀ e ∈ Q, e.1 ≠ t := by
  induction Q with
  | nil => simp
  | cons a Q ih =>
    obtain ⟨b, u⟩ := a
    rw [List.lookup_cons] at h
    split at h
    · cases h
    · rename_i e
      intro x hx
      rcases List.mem_cons.1 hx with rfl | hx
      · intro e2
        simp at e
        exact e e2.symm
      · exact ih h x hx
theorem look_of_none {Q : List Wv} {t : Int} (h : ∀ e ∈ Q, e.1 ≠ t) : Q.lookup t = none := by
  cases hq : Q.lookup t with
  | none => rfl
  | some w => exact absurd rfl (h _ (look_some hq))
theorem look_app (Q R : List Wv) (t : Int) : (Q ++ R).lookup t = (Q.lookup t).or (R.lookup t) := by
  induction Q with
  | nil => simp
  | cons a Q ih =>
    obtain ⟨b, u⟩ := a
    rw [List.cons_append, List.lookup_cons, List.lookup_cons]
    split
    · rfl
    · exact ih
theorem look_snoc {Q : List Wv} {t u : Int} {w : List Int} (h : Q.lookup t = none) : (Q ++ [(t, w)]).lookup u = if u = t then some w else Q.lookup u := by
  rw [look_app]
  by_cases e : u = t
  · subst e
    rw [h, if_pos rfl]
    simp
  · rw [if_neg e]
    have : ([(t, w)] : List Wv).lookup u = none := by
      rw [List.lookup_cons]
      have : (u == t) = false := by simpa using e
      rw [this]
      rfl
    rw [this, Option.or_none]
theorem bfE_pre (m : Ma) (x : Wv) (Q : List Wv) (j : Nat) : Q <+: bfE m x Q j := by
  unfold bfE
  split
  · exact List.prefix_refl _
  · exact List.prefix_append _ _
theorem bfR_pre (m : Ma) (x : Wv) (Q : List Wv) : ∀ k, Q <+: bfR m x k Q
  | 0 => List.prefix_refl _
  | k + 1 => (bfR_pre m x Q k).trans (bfE_pre m x _ k)
theorem bfG_pre (m : Ma) : ∀ (f p : Nat) (Q : List Wv), Q <+: bfG m f p Q
  | 0, _, Q => List.prefix_refl _
  | f + 1, p, Q => by
    rw [bfG]
    split
    · exact List.prefix_refl _
    · exact (bfR_pre m _ Q _).trans (bfG_pre m f _ _)
theorem pre_at {Q L : List Wv} (h : Q <+: L) {p : Nat} {x : Wv} (hp : Q[p]? = some x) : L[p]? = some x := by
  obtain ⟨R, rfl⟩ := h
  rw [List.getElem?_append_left (List.getElem?_eq_some_iff.1 hp).1]
  exact hp
section
variable {m : Ma} {s : Int} {Q : List Wv} {p : Nat} {x : Wv}
theorem BF.len (v : Val m) {j : Int} (h : BF m s Q p j) : Q.length ≤ m.r.length := by
  have h1 := h.nodup v
  have h2 := nodup_le m.r.length (Q.map (·.1)) h1 (fun e he => by
    obtain ⟨a, ha, rfl⟩ := List.mem_map.1 he
    exact (h.lw a ha).1)
  simpa using h2
theorem BF.bfE (v : Val m) (hs : 0 ≤ s ∧ s < m.r.length) {j : Nat} (h : BF m s Q p j) (hp : Q[p]? = some x) (hj : (j : Int) < m.i) : BF m s (bfE m x Q j) p ((j + 1 : Nat) : Int) := by
  unfold Mc.bfE
  rw [Int.natCast_add]
  split
  · rename_i hc
    refine h.skip hp fun h0 => ?_
    rcases hc with hc | hc
    · omega
    · obtain ⟨w, hw⟩ := Option.isSome_iff_exists.1 hc
      exact ⟨_, look_some hw, rfl⟩
  · rename_i hc
    refine h.push v hs hp ⟨by omega, hj⟩ rfl (by omega) (look_none ?_)
    cases hq : Q.lookup (nx m x.1 j).1 with
    | none => rfl
    | some w => exact absurd (Or.inr (by rw [hq]; rfl)) hc
theorem BF.bfR (v : Val m) (hs : 0 ≤ s ∧ s < m.r.length) (h : BF m s Q p 0) (hp : Q[p]? = some x) : ∀ (k : Nat), (k : Int) ≤ m.i → BF m s (bfR m x k Q) p k
  | 0, _ => h
  | k + 1, hk => (BF.bfR v hs h hp k (by omega)).bfE v hs (pre_at (bfR_pre m x Q k) hp) (by omega)
theorem BF.row (v : Val m) (hs : 0 ≤ s ∧ s < m.r.length) (h : BF m s Q p 0) (hp : Q[p]? = some x) : BF m s (Mc.bfR m x m.i.toNat Q) (p + 1) 0 := by
  have h1 := h.bfR v hs hp m.i.toNat (by have := v.i0; omega)
  rw [Int.toNat_of_nonneg (by have := v.i0; omega)] at h1
  exact h1.turn
theorem BF.bfG (v : Val m) (hs : 0 ≤ s ∧ s < m.r.length) : ∀ (f p : Nat) (Q : List Wv), BF m s Q p 0 → p ≤ Q.length → m.r.length + 1 ≤ f + p → BF m s (bfG m f p Q) (bfG m f p Q).length 0
  | 0, p, Q, h, hp, hf => by
    have := h.len v
    omega
  | f + 1, p, Q, h, hp, hf => by
    rw [Mc.bfG]
    split
    · rename_i e
      have : p = Q.length := by have := List.getElem?_eq_none_iff.1 e; omega
      subst this
      exact h
    · rename_i x e
      refine BF.bfG v hs f (p + 1) _ (h.row v hs e) ?_ (by omega)
      have h1 := (List.getElem?_eq_some_iff.1 e).1
      have h2 := (bfR_pre m x Q m.i.toNat).length_le
      omega
theorem wk_bf (v : Val m) (hs : 0 ≤ s ∧ s < m.r.length) : BF m s (wk m s) (wk m s).length 0 :=
  BF.bfG v hs _ _ _ (BF.start v hs) (by simp) (by omega)
end

/-! ### Tables over the states -/
/-- What is told of each of the first n numbers by the words of a list. -/
def tab {α : Type} (f : Option (List Int) → α) (Q : List Wv) (n : Nat) : List α := (List.range n).map fun (t : Nat) => f (Q.lookup (t : Int))
section
variable {α : Type} {f : Option (List Int) → α} {Q : List Wv} {n : Nat}
theorem tab_len : (tab f Q n).length = n := by simp [tab]
theorem tab_at {t : Nat} (h : t < n) : (tab f Q n)[t]? = some (f (Q.lookup (t : Int))) := by simp [tab, h]
theorem tab_nil : tab f [] n = List.replicate n (f none) := by
  unfold tab
  apply List.ext_getElem?
  intro t
  simp only [List.getElem?_map, List.lookup_nil]
  rcases Nat.lt_or_ge t n with h | h
  · rw [List.getElem?_range h, List.getElem?_replicate, if_pos h]
    rfl
  · rw [List.getElem?_eq_none (by simpa using h), List.getElem?_eq_none (by simpa using h)]
    rfl
theorem tab_snoc {t : Nat} {w : List Int} (h : Q.lookup (t : Int) = none) : tab f (Q ++ [((t : Int), w)]) n = (tab f Q n).set t (f (some w)) := by
  apply List.ext_getElem?
  intro k
  rcases Nat.lt_or_ge k n with hk | hk
  · rw [tab_at hk, look_snoc h]
    by_cases e : t = k
    · subst e
      rw [if_pos rfl, List.getElem?_set_self (by rw [tab_len]; exact hk)]
    · rw [if_neg (by omega), List.getElem?_set_ne e, tab_at hk]
  · rw [List.getElem?_eq_none (by rw [tab_len]; exact hk), List.getElem?_eq_none (by rw [List.length_set, tab_len]; exact hk)]
end
/-- The word of a table, and whether there is one; how long it is. -/
def oW (o : Option (List Int)) : List Int := o.getD []
def oB (o : Option (List Int)) : Bool := o.isSome
def oD (o : Option (List Int)) : Int := match o with | none => -1 | some w => w.length
section
variable {m : Ma} {s : Int} {L : List Wv}
/-- The queue is done: what it tells of a state. -/
theorem BF.look (h : BF m s L L.length 0) {t : Int} : (∃ w, L.lookup t = some w ∧ Lw m s w t ∧ 0 ≤ t ∧ t < m.r.length) ∨ (L.lookup t = none ∧ ∀ w, Wd m w → aft m s w = t → t < 0) := by
  cases hq : L.lookup t with
  | some w =>
    obtain ⟨h1, h2⟩ := h.lw _ (look_some hq)
    exact Or.inl ⟨w, rfl, h2, h1⟩
  | none =>
    refine Or.inr ⟨rfl, fun w hw ht => ?_⟩
    rcases Int.lt_or_le t 0 with h1 | h1
    · exact h1
    · obtain ⟨e, he, h2⟩ := h.all _ w rfl hw (by omega)
      exact absurd (h2.trans ht) (look_none hq e he)
theorem BF.mem_look (v : Val m) {p : Nat} {j : Int} (h : BF m s L p j) {e : Wv} (he : e ∈ L) : L.lookup e.1 = some e.2 := by
  cases hq : L.lookup e.1 with
  | none => exact absurd rfl (look_none hq e he)
  | some w =>
    have h1 := (h.lw _ (look_some hq)).2
    have h2 := (h.lw _ he).2
    exact congrArg some (h1.uniq v.i0 h2)
/-- All words that are short enough have been tried: the tables are those of the queue. -/
theorem PT.tabs (v : Val m) {x : List Int} {l : List (List Int)} {is : List Bool} (h : PT m s x l is) (hs : 0 ≤ s ∧ s < m.r.length) (hl : m.r.length ≤ x.length) : l = tab oW (wk m s) m.r.length ∧ is = tab oB (wk m s) m.r.length := by
  have hb := wk_bf v hs
  have key : ∀ t, t < m.r.length → l[t]? = some (oW ((wk m s).lookup (t : Int))) ∧ is[t]? = some (oB ((wk m s).lookup (t : Int))) := fun t ht => by
    rcases h.done v hs hl ht with ⟨u, h1, h2, h3⟩ | ⟨h1, h2, h3⟩
    · rcases hb.look (t := (t : Int)) with ⟨w, h4, h5, _⟩ | ⟨_, h5⟩
      · rw [h4, h1, h2, h3.uniq v.i0 h5]
        exact ⟨rfl, rfl⟩
      · have := h5 u h3.wd h3.to
        omega
    · rcases hb.look (t := (t : Int)) with ⟨w, h4, h5, _⟩ | ⟨h4, _⟩
      · exact absurd h5.to (h3 w h5.wd)
      · rw [h4, h1, h2]
        exact ⟨rfl, rfl⟩
  constructor
  · apply List.ext_getElem?
    intro t
    rcases Nat.lt_or_ge t m.r.length with ht | ht
    · rw [(key t ht).1, tab_at ht]
    · rw [List.getElem?_eq_none (by rw [h.ll]; exact ht), List.getElem?_eq_none (by rw [tab_len]; exact ht)]
  · apply List.ext_getElem?
    intro t
    rcases Nat.lt_or_ge t m.r.length with ht | ht
    · rw [(key t ht).2, tab_at ht]
    · rw [List.getElem?_eq_none (by rw [h.li]; exact ht), List.getElem?_eq_none (by rw [tab_len]; exact ht)]
end
end Go.Proofs.Ytgafpmgdpigliaa.Mc
