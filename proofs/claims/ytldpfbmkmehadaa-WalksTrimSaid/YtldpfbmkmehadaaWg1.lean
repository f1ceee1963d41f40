/-
  The mathematics of WalksTrim: the states that are reached, in ascending order. No statement is proved here.
-/
import Derived.Test.YtldpfbmkmehadaaWe3
namespace Go.Proofs.Ytldpfbmkmehadaa.Mc
open M (rk)

/-- A word that leads somewhere shows that the state is reached. -/
theorem rch_word {m : Ma} (v : Val m) : ∀ (k : Nat) (w : List Int), w.length = k → Wd m w → 0 ≤ aft m 0 w → Rch m 0 (aft m 0 w).toNat
  | 0, w, hl, _, _ => by
    obtain rfl : w = [] := List.length_eq_zero_iff.1 hl
    exact Rch.here
  | k + 1, w, hl, hw, h => by
    obtain ⟨p, c, rfl⟩ := snoc_of (l := w) (fun e => by rw [e] at hl; simp at hl)
    have hp := hw.split
    rw [aft_snoc] at h ⊢
    have h0 : 0 ≤ aft m 0 p := by
      rcases Int.lt_or_le (aft m 0 p) 0 with h1 | h1
      · rw [nx_neg h1] at h
        simp at h
      · exact h1
    have hr0 := v.r0
    have hst := aft_st v p 0 (Or.inr ⟨by omega, by omega⟩) hp.1
    have hlt : aft m 0 p < m.r.length := by
      rcases hst with h1 | h1
      · omega
      · exact h1.2
    have ih := rch_word v k p (by simpa using hl) hp.1 h0
    obtain ⟨s, hs⟩ := Int.eq_ofNat_of_zero_le h0
    obtain ⟨d, hd⟩ := Int.eq_ofNat_of_zero_le hp.2.1
    rw [hs] at h ih hlt ⊢
    rw [hd] at h ⊢
    obtain ⟨row, hrow⟩ : ∃ row, m.r[s]? = some row := ⟨_, List.getElem?_eq_getElem (by omega)⟩
    have hrl := v.len row (List.mem_of_getElem? hrow)
    obtain ⟨x, hx⟩ : ∃ x, row[d]? = some x := ⟨_, List.getElem?_eq_getElem (by omega)⟩
    rw [nx_at hrow hx] at h ⊢
    exact Rch.step (s := s) ih hrow hx h
/-- Some states, all of them reached by words: the machine with them is connected. -/
theorem conn_prt {m : Ma} {l : List Int} (v : Val m) (h : Cls m l) (h0 : l[0]? = some 0) (h1 : 1 ≤ l.length) (h2 : l.length ≤ 64) (hall : ∀ s ∈ l, ∃ w, Wd m w ∧ aft m 0 w = s) : conn (prt m l) = true := by
  rw [conn_iff]
  intro s hs
  rw [prt_len] at hs
  obtain ⟨a, ha⟩ : ∃ a, l[s]? = some a := ⟨_, List.getElem?_eq_getElem hs⟩
  obtain ⟨w, hw, ht⟩ := hall a (List.mem_of_getElem? ha)
  have h3 := (prt_aft v h h0 hw).1
  rw [ht, ix_at h.nd ha] at h3
  have h4 := rch_word (prt_val v h h1 h2) w.length w rfl hw (by rw [h3]; omega)
  rw [h3] at h4
  simpa using h4
theorem asc_lt {m : Ma} (v : Val m) : (asc m).Pairwise fun a b => a < b := by
  have h1 : (asc m).Pairwise fun a b => a ≤ b := by
    refine List.Pairwise.imp (fun {a b} h => of_decide_eq_true h) (List.pairwise_mergeSort (le := fun x y : Int => decide (x ≤ y)) ?_ ?_ (ord m))
    · intro a b c h1 h2; simp at h1 h2 ⊢; omega
    · intro a b; simp; omega
  refine List.Pairwise.imp₂ (fun a b h3 h4 => ?_) h1 (asc_cls v).nd
  have h4 : a ≠ b := h4
  omega
theorem asc_bound {m : Ma} (v : Val m) : 1 ≤ (asc m).length ∧ (asc m).length ≤ 64 := by
  have h1 := nodup_le m.r.length _ (asc_cls v).nd (asc_cls v).rg
  have h2 := v.r1
  have h3 := ord_pos v
  have h4 := asc_len m
  omega
theorem asc_zero {m : Ma} (v : Val m) : (asc m)[0]? = some 0 := by
  have hb := asc_bound v
  have h0 : (0 : Int) ∈ asc m := (asc_perm m).mem_iff.2 (List.mem_of_getElem? ((ord_ord v).zero v.i0))
  obtain ⟨k, hk⟩ := List.mem_iff_getElem?.1 h0
  obtain ⟨a, ha⟩ : ∃ a, (asc m)[0]? = some a := ⟨_, List.getElem?_eq_getElem (by omega)⟩
  have hr := (asc_cls v).rg a (List.mem_of_getElem? ha)
  rcases Nat.eq_zero_or_pos k with h1 | h1
  · subst h1; exact hk
  · have hkl := List.getElem?_eq_some_iff.1 hk
    have hal := List.getElem?_eq_some_iff.1 ha
    have h2 := List.pairwise_iff_getElem.1 (asc_lt v) 0 k hal.1 hkl.1 h1
    rw [hal.2, hkl.2] at h2
    omega
theorem asc_val {m : Ma} (v : Val m) : Val (prt m (asc m)) := prt_val v (asc_cls v) (asc_bound v).1 (asc_bound v).2
theorem asc_conn {m : Ma} (v : Val m) : conn (prt m (asc m)) = true :=
  conn_prt v (asc_cls v) (asc_zero v) (asc_bound v).1 (asc_bound v).2 fun s hs => by
    obtain ⟨_, w, h1, h2⟩ := ((ord_ord v).mem s).1 ((asc_perm m).mem_iff.1 hs)
    exact ⟨w, h1, h2⟩
theorem asc_run {m : Ma} (v : Val m) {w : List Int} (hw : Wd m w) : run (prt m (asc m)) 0 w = run m 0 w := (prt_aft v (asc_cls v) (asc_zero v) hw).2
end Go.Proofs.Ytldpfbmkmehadaa.Mc
