/-
  The queue of a search over a machine whose edges lead to its states, whatever else it is. No program. No statement is proved here.
-/
import Derived.Test.YtgafpmgdpigliaaWkZ
namespace Go.Proofs.Ytgafpmgdpigliaa.Mc
open M (rk)

/-- Its edges lead to its states, or nowhere. -/
structure Vq (m : Ma) : Prop where
  i0 : 1 ≤ m.i
  st : ∀ s i, St m s → 0 ≤ i ∧ i < m.i → St m (nx m s i).1
theorem Vq.aft {m : Ma} (v : Vq m) : ∀ (w : List Int) (s : Int), St m s → Wd m w → St m (aft m s w)
  | [], _, h, _ => h
  | c :: w, s, h, hw => v.aft w _ (v.st s c h (hw c (by simp))) (fun d hd => hw d (by simp [hd]))
section
variable {m : Ma} {s t : Int} {w : List Int}
/-- A least word is shorter than the number of states. -/
theorem Lw.shortQ (v : Vq m) (hs : 0 ≤ s ∧ s < m.r.length) (h : Lw m s w t) (ht : 0 ≤ t) : w.length < m.r.length := by
  have hw0 : 0 ≤ aft m s w := by rw [h.to]; exact ht
  have hst : ∀ k, St m (aft m s (w.take k)) := fun k => v.aft _ _ (Or.inr hs) (fun c hc => h.wd c (List.mem_of_mem_take hc))
  have hl : ((List.range (w.length + 1)).map fun k => aft m s (w.take k)).length ≤ m.r.length := by
    refine nodup_le _ _ ?_ (fun x hx => ?_)
    · rw [List.Nodup, List.pairwise_map]
      refine List.Pairwise.imp_of_mem ?_ (List.pairwise_lt_range)
      intro a b ha hb hab e
      simp at ha hb
      have h1 := h.take v.i0 a
      have h2 := h.take v.i0 b
      rw [e] at h1
      have h3 := congrArg List.length (h1.uniq v.i0 h2)
      rw [List.length_take, List.length_take] at h3
      omega
    · obtain ⟨k, _, rfl⟩ := List.mem_map.1 hx
      rcases hst k with h1 | h1
      · have := aft_take hw0 k; omega
      · exact h1
  simp at hl
  omega
end
section
variable {m : Ma} {s : Int} {Q : List (Int × List Int)} {p : Nat} {j : Int}
theorem BF.startQ (v : Vq m) (hs : 0 ≤ s ∧ s < m.r.length) : BF m s [(s, [])] 0 0 := by
  refine ⟨rfl, fun e he => ?_, by simp, fun k e c hk h0 _ hc _ => by omega, fun k e hk h0 => ?_⟩
  · simp at he
    subst he
    exact ⟨hs, Lw.nil_ v.i0 s⟩
  · have := (List.getElem?_eq_some_iff.1 hk).1
    simp at this
    omega
/-- A state whose least word is not greater than the one at work stands in the queue, not behind it. -/
theorem BF.beforeQ (v : Vq m) (h : BF m s Q p j) (hs : 0 ≤ s ∧ s < m.r.length) {x : Int × List Int} (hp : Q[p]? = some x) : ∀ (k : Nat) (w : List Int) (t : Int), w.length = k → Lw m s w t → 0 ≤ t → rk m.i w ≤ rk m.i x.2 → ∃ a, a ≤ p ∧ Q[a]? = some (t, w)
  | 0, w, t, hk, hw, _, _ => by
    have hw0 : w = [] := List.length_eq_zero_iff.1 hk
    subst hw0
    have : s = t := hw.to
    subst this
    exact ⟨0, Nat.zero_le _, h.hd⟩
  | k + 1, w, t, hk, hw, ht, hr => by
    obtain ⟨y, c, rfl⟩ := snoc_of (l := w) (fun e => by rw [e] at hk; simp at hk)
    obtain ⟨hwy, hc⟩ := Wd.split hw.wd
    have hto := hw.to
    rw [aft_snoc] at hto
    have hq : 0 ≤ aft m s y := by
      rcases Int.lt_or_le (aft m s y) 0 with h1 | h1
      · rw [nx_neg h1] at hto
        simp at hto
        omega
      · exact h1
    have hlt := rk_parent v.i0 (u := y) (c := c) hwy hc.1
    obtain ⟨a, ha, hqa⟩ := BF.beforeQ v h hs hp k y _ (by simpa using hk) (hw.pre v.i0) hq (by omega)
    have hap : a < p := by
      rcases Nat.lt_or_ge a p with h1 | h1
      · exact h1
      · have : a = p := by omega
        subst this
        rw [hp] at hqa
        injection hqa with hqa
        rw [hqa] at hr
        simp only at hr
        omega
    obtain ⟨e', he', hst⟩ := h.clo a _ c hqa hc.1 hc.2 (Or.inl hap) (by simp only; rw [hto]; exact ht)
    simp only [hto] at hst
    obtain ⟨b, hb⟩ := List.mem_iff_getElem?.1 he'
    have hl := (h.lw e' he').2
    rw [hst] at hl
    have hew := hl.uniq v.i0 hw
    have heq : e' = (t, y ++ [c]) := Prod.ext hst hew
    subst heq
    exact ⟨b, h.le_of hb hp hr, hb⟩
/-- A new state: the word at work with this input is the least one that leads to it. -/
theorem BF.leastQ (v : Vq m) (h : BF m s Q p j) (hs : 0 ≤ s ∧ s < m.r.length) {x : Int × List Int} (hp : Q[p]? = some x) (hj : 0 ≤ j ∧ j < m.i) {t : Int} (ht : (nx m x.1 j).1 = t) (h0 : 0 ≤ t) (hn : ∀ e ∈ Q, e.1 ≠ t) : Lw m s (x.2 ++ [j]) t := by
  obtain ⟨hx, hlx⟩ := h.lw x (List.mem_of_getElem? hp)
  have hto : aft m s (x.2 ++ [j]) = t := by rw [aft_snoc, hlx.to, ht]
  obtain ⟨u, hu⟩ := Lw.ex v.i0 (Wd.join hlx.wd hj) hto
  have hle := hu.le _ (Wd.join hlx.wd hj) hto
  have hune : u ≠ [] := fun e => by
    subst e
    have : s = t := hu.to
    exact hn _ (List.mem_of_getElem? h.hd) this
  obtain ⟨y, d, rfl⟩ := snoc_of hune
  obtain ⟨hwy, hd⟩ := Wd.split hu.wd
  have hut := hu.to
  rw [aft_snoc] at hut
  have hq : 0 ≤ aft m s y := by
    rcases Int.lt_or_le (aft m s y) 0 with h1 | h1
    · rw [nx_neg h1] at hut
      simp at hut
      omega
    · exact h1
  have hyx := rk_child_le v.i0 hj.2 hd.1 hle
  obtain ⟨a, ha, hqa⟩ := h.beforeQ v hs hp _ y _ rfl (hu.pre v.i0) hq hyx
  rcases Nat.lt_or_ge a p with hap | hap
  · obtain ⟨e', he', hst⟩ := h.clo a _ d hqa hd.1 hd.2 (Or.inl hap) (by simp only; rw [hut]; exact h0)
    simp only [hut] at hst
    exact absurd hst (hn e' he')
  · have : a = p := by omega
    subst this
    rw [hp] at hqa
    injection hqa with hqa
    subst hqa
    simp only at hle ht ⊢
    have hdj := rk_last.1 hle
    rcases Int.lt_or_le d j with h1 | h1
    · obtain ⟨e', he', hst⟩ := h.clo a _ d hp hd.1 hd.2 (Or.inr ⟨rfl, h1⟩) (by simp only; rw [hut]; exact h0)
      simp only [hut] at hst
      exact absurd hst (hn e' he')
    · have : d = j := by omega
      subst this
      exact hu
/-- A new state is put to the end. -/
theorem BF.pushQ (v : Vq m) (h : BF m s Q p j) (hs : 0 ≤ s ∧ s < m.r.length) {x : Int × List Int} (hp : Q[p]? = some x) (hj : 0 ≤ j ∧ j < m.i) {t : Int} (ht : (nx m x.1 j).1 = t) (h0 : 0 ≤ t) (hn : ∀ e ∈ Q, e.1 ≠ t) : BF m s (Q ++ [(t, x.2 ++ [j])]) p (j + 1) := by
  have hl := h.leastQ v hs hp hj ht h0 hn
  have hpl : p < Q.length := (List.getElem?_eq_some_iff.1 hp).1
  obtain ⟨hx, hlx⟩ := h.lw x (List.mem_of_getElem? hp)
  have hst := v.st x.1 j (Or.inr hx) hj
  have hold : ∀ {k : Nat} {e : Int × List Int}, k < Q.length → (Q ++ [(t, x.2 ++ [j])])[k]? = some e → Q[k]? = some e := fun hk he => by rwa [List.getElem?_append_left hk] at he
  refine ⟨?_, fun e he => ?_, ?_, fun k e c hk hc0 hc1 hkc hnx => ?_, fun k e hk hk0 => ?_⟩
  · rw [List.getElem?_append_left (by omega)]; exact h.hd
  · rcases List.mem_append.1 he with h1 | h1
    · exact h.lw e h1
    · simp at h1
      subst h1
      refine ⟨?_, hl⟩
      rw [ht] at hst
      rcases hst with h2 | h2
      · omega
      · exact h2
  · rw [List.pairwise_append]
    refine ⟨h.asc, by simp, fun a ha b hb => ?_⟩
    simp at hb
    subst hb
    obtain ⟨k, hk⟩ := List.mem_iff_getElem?.1 ha
    rcases Nat.eq_zero_or_pos k with h1 | h1
    · subst h1
      have := h.hd.symm.trans hk
      injection this with this
      subst this
      rw [M.rk_nil]
      have h2 := rk_nonneg v.i0 (x := x.2) hlx.wd
      have h3 := rk_parent v.i0 (u := x.2) (c := j) hlx.wd hj.1
      simp only
      omega
    · obtain ⟨k', e', c, h2, h3, h4, h5, h6⟩ := h.src k a hk h1
      rw [h4]
      rcases h3 with h3 | ⟨h3, h7⟩
      · exact rk_child v.i0 (h.lt_of h2 hp h3) h6 hj.1
      · subst h3
        rw [hp] at h2
        injection h2 with h2
        subst h2
        simp only [M.rk_snoc]
        omega
  · have hkl : k < Q.length := by rcases hkc with h1 | h1 <;> omega
    have hk' := hold hkl hk
    rcases hkc with h1 | ⟨h1, h2⟩
    · obtain ⟨e', h3, h4⟩ := h.clo k e c hk' hc0 hc1 (Or.inl h1) hnx
      exact ⟨e', List.mem_append_left _ h3, h4⟩
    · rcases Int.lt_or_le c j with h3 | h3
      · obtain ⟨e', h4, h5⟩ := h.clo k e c hk' hc0 hc1 (Or.inr ⟨h1, h3⟩) hnx
        exact ⟨e', List.mem_append_left _ h4, h5⟩
      · have hcj : c = j := by omega
        subst hcj h1
        rw [hp] at hk'
        injection hk' with hk'
        subst hk'
        exact ⟨(t, x.2 ++ [c]), by simp, by simp only; exact ht.symm⟩
  · rw [List.getElem?_append] at hk
    split at hk
    · obtain ⟨k', e', c, h2, h3, h4, h5, h6⟩ := h.src k e hk hk0
      refine ⟨k', e', c, ?_, ?_, h4, h5, h6⟩
      · rw [List.getElem?_append_left (List.getElem?_eq_some_iff.1 h2).1]; exact h2
      · rcases h3 with h3 | ⟨h3, h7⟩
        · exact Or.inl h3
        · exact Or.inr ⟨h3, by omega⟩
    · have : k - Q.length = 0 := by
        rcases Nat.eq_zero_or_pos (k - Q.length) with h1 | h1
        · exact h1
        · rw [List.getElem?_eq_none (by simp; omega)] at hk; cases hk
      rw [this] at hk
      simp at hk
      subst hk
      exact ⟨p, x, j, by rw [List.getElem?_append_left hpl]; exact hp, Or.inr ⟨rfl, by omega⟩, rfl, hj.1, hj.2⟩
/-- No state stands twice in the queue. -/
theorem BF.nodupQ (v : Vq m) (h : BF m s Q p j) : (Q.map (·.1)).Nodup := by
  rw [List.Nodup, List.pairwise_map]
  refine h.asc.imp_of_mem fun {a b} ha hb hab e => ?_
  have h1 := (h.lw a ha).2
  have h2 := (h.lw b hb).2
  rw [e] at h1
  rw [h1.uniq v.i0 h2] at hab
  omega
end
section
variable {m : Ma} {s : Int} {Q : List Wv} {p : Nat} {x : Wv}
theorem BF.lenQ (v : Vq m) {j : Int} (h : BF m s Q p j) : Q.length ≤ m.r.length := by
  have h1 := h.nodupQ v
  have h2 := nodup_le m.r.length (Q.map (·.1)) h1 (fun e he => by
    obtain ⟨a, ha, rfl⟩ := List.mem_map.1 he
    exact (h.lw a ha).1)
  simpa using h2
theorem BF.bfEQ (v : Vq m) (hs : 0 ≤ s ∧ s < m.r.length) {j : Nat} (h : BF m s Q p j) (hp : Q[p]? = some x) (hj : (j : Int) < m.i) : BF m s (Mc.bfE m x Q j) p ((j + 1 : Nat) : Int) := by
  unfold Mc.bfE
  rw [Int.natCast_add]
  split
  · rename_i hc
    refine h.skip hp fun h0 => ?_
    rcases hc with hc | hc
    · omega
    · obtain ⟨w, hw⟩ := Option.isSome_iff_exists.1 hc
      exact ⟨_, look_some hw, rfl⟩
  · rename_i hc
    refine h.pushQ v hs hp ⟨by omega, hj⟩ rfl (by omega) (look_none ?_)
    cases hq : Q.lookup (nx m x.1 j).1 with
    | none => rfl
    | some w => exact absurd (Or.inr (by rw [hq]; rfl)) hc
theorem BF.bfRQ (v : Vq m) (hs : 0 ≤ s ∧ s < m.r.length) (h : BF m s Q p 0) (hp : Q[p]? = some x) : ∀ (k : Nat), (k : Int) ≤ m.i → BF m s (Mc.bfR m x k Q) p k
  | 0, _ => h
  | k + 1, hk => (BF.bfRQ v hs h hp k (by omega)).bfEQ v hs (pre_at (bfR_pre m x Q k) hp) (by omega)
theorem BF.rowQ (v : Vq m) (hs : 0 ≤ s ∧ s < m.r.length) (h : BF m s Q p 0) (hp : Q[p]? = some x) : BF m s (Mc.bfR m x m.i.toNat Q) (p + 1) 0 := by
  have h1 := h.bfRQ v hs hp m.i.toNat (by have := v.i0; omega)
  rw [Int.toNat_of_nonneg (by have := v.i0; omega)] at h1
  exact h1.turn
theorem BF.bfGQ (v : Vq m) (hs : 0 ≤ s ∧ s < m.r.length) : ∀ (f p : Nat) (Q : List Wv), BF m s Q p 0 → p ≤ Q.length → m.r.length + 1 ≤ f + p → BF m s (Mc.bfG m f p Q) (Mc.bfG m f p Q).length 0
  | 0, p, Q, h, hp, hf => by
    have := h.lenQ v
    omega
  | f + 1, p, Q, h, hp, hf => by
    rw [Mc.bfG]
    split
    · rename_i e
      have : p = Q.length := by have := List.getElem?_eq_none_iff.1 e; omega
      subst this
      exact h
    · rename_i x e
      refine BF.bfGQ v hs f (p + 1) _ (h.rowQ v hs e) ?_ (by omega)
      have h1 := (List.getElem?_eq_some_iff.1 e).1
      have h2 := (bfR_pre m x Q m.i.toNat).length_le
      omega
theorem wk_bfQ (v : Vq m) (hs : 0 ≤ s ∧ s < m.r.length) : BF m s (wk m s) (wk m s).length 0 :=
  BF.bfGQ v hs _ _ _ (BF.startQ v hs) (by simp) (by omega)
end
end Go.Proofs.Ytgafpmgdpigliaa.Mc
