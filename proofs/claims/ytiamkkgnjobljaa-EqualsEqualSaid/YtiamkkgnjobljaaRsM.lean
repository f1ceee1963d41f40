/-
  The mathematics of signatures as rows of numbers. No statement is proved here.
-/
import Derived.Test.YtiamkkgnjobljaaRmZ
namespace Go.Proofs.Ytiamkkgnjobljaa.Mc
open M (gz ofL Vd)

/-- The cells of a signature of which k symbols are written. -/
def sgc (m : Ma) (p : List Int) (s k j : Nat) : Int :=
  if j = 0 then gz p s else if j ≤ 16 then (if j - 1 < k then (nx m s ((j - 1 : Nat) : Int)).2 else 0) else (if j - 17 < k then tgt p (nx m s ((j - 17 : Nat) : Int)).1 else 0)
def sgR (m : Ma) (p : List Int) (s k : Nat) : List Int := (List.range 33).map (sgc m p s k)
theorem sgR_len (m : Ma) (p : List Int) (s k : Nat) : (sgR m p s k).length = 33 := by simp [sgR]
theorem sgR_at (m : Ma) (p : List Int) (s k : Nat) {j : Nat} (h : j < 33) : (sgR m p s k)[j]? = some (sgc m p s k j) := by simp [sgR, h]
theorem sgR_zero (m : Ma) (p : List Int) (s : Nat) : sgR m p s 0 = gz p s :: List.replicate 32 0 := by
  refine List.ext_getElem (by simp [sgR_len]) fun j h1 h2 => ?_
  rw [sgR_len] at h1
  have := sgR_at m p s 0 h1
  rw [List.getElem?_eq_getElem (by rw [sgR_len]; exact h1)] at this
  injection this with this
  rw [this]
  unfold sgc
  cases j with
  | zero => rfl
  | succ j =>
    rw [if_neg (Nat.succ_ne_zero j), if_neg (Nat.not_lt_zero _), if_neg (Nat.not_lt_zero _), List.getElem_cons_succ, List.getElem_replicate]
    split <;> rfl
theorem sgR_step (m : Ma) (p : List Int) (s : Nat) {k : Nat} (hk : k < 16) : ((sgR m p s k).set (1 + k) (nx m s k).2).set (17 + k) (tgt p (nx m s k).1) = sgR m p s (k + 1) := by
  refine List.ext_getElem (by simp [sgR_len]) fun j h1 h2 => ?_
  rw [sgR_len] at h2
  have e1 := sgR_at m p s (k + 1) h2
  rw [List.getElem?_eq_getElem (by rw [sgR_len]; exact h2)] at e1
  injection e1 with e1
  have e0 := sgR_at m p s k h2
  rw [List.getElem?_eq_getElem (by rw [sgR_len]; exact h2)] at e0
  injection e0 with e0
  rw [e1, List.getElem_set, List.getElem_set, e0]
  unfold sgc
  by_cases a : 17 + k = j
  · subst a
    rw [if_pos rfl, if_neg (by omega), if_neg (by omega), if_pos (by omega), show 17 + k - 17 = k by omega]
  · rw [if_neg a]
    by_cases b : 1 + k = j
    · subst b
      rw [if_pos rfl, if_neg (by omega), if_pos (by omega), if_pos (by omega), show 1 + k - 1 = k by omega]
    · rw [if_neg b]
      by_cases c : j = 0
      · rw [if_pos c, if_pos c]
      · rw [if_neg c, if_neg c]
        by_cases d : j ≤ 16
        · rw [if_pos d, if_pos d]
          by_cases e : j - 1 < k
          · rw [if_pos e, if_pos (by omega)]
          · rw [if_neg e, if_neg (by omega)]
        · rw [if_neg d, if_neg d]
          by_cases e : j - 17 < k
          · rw [if_pos e, if_pos (by omega)]
          · rw [if_neg e, if_neg (by omega)]
theorem sgc_out (m : Ma) (p : List Int) (s : Nat) {n i : Nat} (hi : i < n) (_ : n ≤ 16) : sgc m p s n (1 + i) = (nx m s i).2 := by
  unfold sgc
  rw [if_neg (by omega), if_pos (by omega), if_pos (by omega), show 1 + i - 1 = i by omega]
theorem sgc_nxt (m : Ma) (p : List Int) (s : Nat) {n i : Nat} (hi : i < n) (_ : n ≤ 16) : sgc m p s n (17 + i) = tgt p (nx m s i).1 := by
  unfold sgc
  rw [if_neg (by omega), if_neg (by omega), if_pos (by omega), show 17 + i - 17 = i by omega]
theorem sgR_iff {m : Ma} (v : Val m) (p : List Int) {s t n : Nat} (hs : s < m.r.length) (ht : t < m.r.length) (hn : (n : Int) = m.i) : sgR m p s n = sgR m p t n ↔ sg m p s = sg m p t := by
  have h16 := v.i1
  rw [sg_iff v p hs ht]
  constructor
  · intro h
    have key : ∀ j, j < 33 → sgc m p s n j = sgc m p t n j := fun j hj => by
      have := congrArg (fun l => l[j]?) h
      simp only [sgR_at m p s n hj, sgR_at m p t n hj, Option.some.injEq] at this
      exact this
    refine ⟨by have := key 0 (by omega); simpa [sgc] using this, fun i hi => ⟨?_, ?_⟩⟩
    · have := key (1 + i) (by omega)
      rwa [sgc_out m p s (by omega) (by omega), sgc_out m p t (by omega) (by omega)] at this
    · have := key (17 + i) (by omega)
      rwa [sgc_nxt m p s (by omega) (by omega), sgc_nxt m p t (by omega) (by omega)] at this
  · rintro ⟨h0, h⟩
    unfold sgR
    refine List.map_congr_left fun j hj => ?_
    have hj : j < 33 := by simpa using hj
    unfold sgc
    rw [h0]
    by_cases c : j = 0
    · rw [if_pos c, if_pos c]
    · rw [if_neg c, if_neg c]
      by_cases d : j ≤ 16
      · rw [if_pos d, if_pos d]
        by_cases e : j - 1 < n
        · rw [if_pos e, if_pos e, (h (j - 1) (by omega)).1]
        · rw [if_neg e, if_neg e]
      · rw [if_neg d, if_neg d]
        by_cases e : j - 17 < n
        · rw [if_pos e, if_pos e, (h (j - 17) (by omega)).2]
        · rw [if_neg e, if_neg e]
theorem sgR_i64 {m : Ma} (v : Val m) {p : List Int} (hp : ∀ z ∈ p, -1 ≤ z ∧ z ≤ 1000) {s n : Nat} (hs : s < m.r.length) (hn : (n : Int) = m.i) : ∀ z ∈ sgR m p s n, -1 ≤ z ∧ z ≤ 1000 := by
  have hg : ∀ k, -1 ≤ gz p k ∧ gz p k ≤ 1000 := fun k => by
    rcases Nat.lt_or_ge k p.length with h | h
    · exact hp _ (M.gz_mem h)
    · have : gz p k = 0 := by unfold gz; rw [List.getElem?_eq_none h]; rfl
      omega
  intro z hz
  obtain ⟨j, hj, rfl⟩ := List.mem_map.1 hz
  have := v.o1
  have hnx : ∀ i : Nat, i < n → -1 ≤ (nx m s i).2 ∧ (nx m s i).2 ≤ 16 := fun i hi => by
    obtain ⟨_, _, a, b, _⟩ := nx_st v (s := (s : Int)) (i := (i : Int)) (Or.inr ⟨by omega, by omega⟩) ⟨by omega, by omega⟩
    omega
  unfold sgc
  split
  · exact hg s
  · split
    · split
      · have := hnx (j - 1) ‹_›; omega
      · omega
    · split
      · unfold tgt
        split
        · omega
        · exact hg _
      · omega

/-- What stands for a state among the numbers of first states: its own signature. -/
theorem fs_same {m : Ma} {p : List Int} {s : Nat} (h : s < m.r.length) : ∃ j : Nat, gz (fs m p) s = j ∧ j < m.r.length ∧ sg m p j = sg m p s := by
  refine ⟨(sgs m p).idxOf (sg m p s), fs_gz h, ?_, ?_⟩
  · have := List.idxOf_lt_length_iff.2 (List.mem_of_getElem? (sgs_at (p := p) h))
    simpa [sgs] using this
  · have a := List.getElem_idxOf (List.idxOf_lt_length_iff.2 (List.mem_of_getElem? (sgs_at (p := p) h)))
    have hl : (sgs m p).idxOf (sg m p s) < m.r.length := by
      have := List.idxOf_lt_length_iff.2 (List.mem_of_getElem? (sgs_at (p := p) h))
      simpa [sgs] using this
    have b := sgs_at (p := p) hl
    rw [List.getElem?_eq_getElem (by simpa [sgs] using hl)] at b
    injection b with b
    rw [← b]
    exact a
end Go.Proofs.Ytiamkkgnjobljaa.Mc
