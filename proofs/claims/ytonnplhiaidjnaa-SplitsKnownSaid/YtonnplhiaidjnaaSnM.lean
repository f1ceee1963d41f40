/-
  The mathematics of the chains of layer 8: how long their separating words are. No program. No statement is proved here.
-/
import Derived.Test.YtonnplhiaidjnaaSpY
import Derived.Test.YtonnplhiaidjnaaSq8
namespace Go.Proofs.Ytonnplhiaidjnaa.Mc
open M (gz Vd cnt fin le rk)

/-- A chain of states; the last one alone has another output. -/
def ch2 (n : Nat) : Ma := ⟨2, 2, (List.range n).map fun (s : Nat) => [((s : Int), 0), (((min (s + 1) (n - 1) : Nat) : Int), (((s + 1) / n : Nat) : Int))]⟩
theorem ch2_len (n : Nat) : (ch2 n).r.length = n := by simp [ch2]
theorem ch2_at {n s : Nat} (h : s < n) : (ch2 n).r[s]? = some [((s : Int), 0), (((min (s + 1) (n - 1) : Nat) : Int), (((s + 1) / n : Nat) : Int))] := by simp [ch2, h]
theorem ch2_val {n : Nat} (h1 : 1 ≤ n) (h2 : n ≤ 64) : Val (ch2 n) := by
  refine ⟨by show (1 : Int) ≤ 2; omega, by show (2 : Int) ≤ 16; omega, by show (1 : Int) ≤ 2; omega, by show (2 : Int) ≤ 16; omega, by rw [ch2_len]; exact h1, by rw [ch2_len]; exact h2, fun row hrow => ?_, fun row hrow x hx => ?_⟩
  · obtain ⟨s, _, rfl⟩ := List.mem_map.1 hrow
    rfl
  · obtain ⟨s, hs, rfl⟩ := List.mem_map.1 hrow
    have hs := List.mem_range.1 hs
    rw [ch2_len]
    simp only [List.mem_cons, List.not_mem_nil, or_false] at hx
    rcases hx with rfl | rfl
    · right
      refine ⟨?_, ?_, ?_, ?_⟩ <;> simp [ch2] <;> omega
    · right
      rw [chn_out hs]
      split <;> refine ⟨?_, ?_, ?_, ?_⟩ <;> simp [ch2] <;> omega
theorem ch2_nx0 {n s : Nat} (h : s < n) : nx (ch2 n) s 0 = ((s : Int), 0) := nx_at (m := ch2 n) (s := s) (i := 0) (ch2_at h) rfl
theorem ch2_nx1 {n s : Nat} (h : s < n) : nx (ch2 n) s 1 = (((min (s + 1) (n - 1) : Nat) : Int), if s + 1 = n then 1 else 0) := by
  have := nx_at (m := ch2 n) (s := s) (i := 1) (ch2_at h) rfl
  refine Eq.trans this ?_
  rw [chn_out h]
  split <;> rfl
theorem ch2_step {n s t k : Nat} (hs : s < n) (ht : t < n) : Eqv (ch2 n) (k + 1) s t ↔ Eqv (ch2 n) k s t ∧ ((s + 1 = n) ↔ (t + 1 = n)) ∧ Eqv (ch2 n) k (min (s + 1) (n - 1) : Nat) (min (t + 1) (n - 1) : Nat) := by
  rw [eqv_step]
  constructor
  · intro h
    have h0 := h 0 (by show (0 : Int) < 2; omega)
    have h1 := h 1 (by show (1 : Int) < 2; omega)
    rw [show ((0 : Nat) : Int) = 0 from rfl, ch2_nx0 hs, ch2_nx0 ht] at h0
    rw [show ((1 : Nat) : Int) = 1 from rfl, ch2_nx1 hs, ch2_nx1 ht] at h1
    refine ⟨h0.2, ?_, h1.2⟩
    have := h1.1
    simp only at this
    split at this <;> split at this <;> omega
  · rintro ⟨h0, h1, h2⟩ i hi
    have hi : (i : Int) < 2 := hi
    match i, hi with
    | 0, _ =>
      rw [show ((0 : Nat) : Int) = 0 from rfl, ch2_nx0 hs, ch2_nx0 ht]
      exact ⟨rfl, h0⟩
    | 1, _ =>
      rw [show ((1 : Nat) : Int) = 1 from rfl, ch2_nx1 hs, ch2_nx1 ht]
      refine ⟨?_, h2⟩
      simp only
      split <;> split <;> omega
theorem ch2_eqv {n : Nat} : ∀ (k : Nat) {s t : Nat}, s < n → t < n → (Eqv (ch2 n) k s t ↔ s = t ∨ (s + k < n ∧ t + k < n))
  | 0, s, t, hs, ht => ⟨fun _ => Or.inr ⟨hs, ht⟩, fun _ => eqv_zero _ _ _⟩
  | k + 1, s, t, hs, ht => by
    rw [ch2_step hs ht, ch2_eqv k hs ht, ch2_eqv k (s := min (s + 1) (n - 1)) (t := min (t + 1) (n - 1)) (by omega) (by omega)]
    omega
/-- Of two states the one that is nearer to the end tells. -/
theorem ch2_sl {n s t : Nat} (h1 : n ≤ 64) (hst : s < t) (ht : t < n) : sl (ch2 n) s t = n - t := by
  have v := ch2_val (n := n) (by omega) h1
  have hs : s < (ch2 n).r.length := by rw [ch2_len]; omega
  have ht' : t < (ch2 n).r.length := by rw [ch2_len]; omega
  have hn : ¬ Eqv (ch2 n) (n - t) s t := by rw [ch2_eqv _ (by omega) ht]; omega
  obtain ⟨h2, h3⟩ := sl_le v hs ht' hn
  obtain ⟨L, hL⟩ : ∃ L, sl (ch2 n) s t = L + 1 := ⟨sl (ch2 n) s t - 1, by omega⟩
  obtain ⟨_, h4⟩ := sl_pos v hs ht' hL
  rw [ch2_eqv _ (by omega) ht] at h4
  omega
theorem ch2_hgt {n : Nat} (h0 : 1 ≤ n) (h1 : n ≤ 64) : hgt (ch2 n) = n - 1 := by
  have v := ch2_val h0 h1
  have h2 := hgt_lt v
  rw [ch2_len] at h2
  rcases Nat.lt_or_ge n 2 with h | h
  · omega
  · obtain ⟨j, hj⟩ := List.mem_iff_getElem?.1 (prs_mem (n := n) (a := 0) (b := 1) |>.2 ⟨by omega, by omega⟩)
    have hj2 := (List.getElem?_eq_some_iff.1 hj).1
    have h3 := hgtTo_ge (m := ch2 n) (n := n) (k := (prs n).length) hj2 hj (Nat.le_refl _)
    have h4 := ch2_sl h1 (s := 0) (t := 1) (by omega) (by omega)
    have e : hgt (ch2 n) = hgtTo (ch2 n) n (prs n).length := by unfold hgt; rw [ch2_len]
    simp only [h4] at h3
    omega
theorem ch2_word {n : Nat} (h0 : 2 ≤ n) (h1 : n ≤ 64) : sl (ch2 n) 0 (n - 1) = 1 ∧ sepw (ch2 n) 0 (n - 1) = [1] := by
  have v := ch2_val (n := n) (by omega) h1
  have h2 : sl (ch2 n) 0 (n - 1) = 1 := by rw [ch2_sl h1 (by omega) (by omega)]; omega
  refine ⟨h2, ?_⟩
  have hs : 0 < (ch2 n).r.length := by rw [ch2_len]; omega
  have ht : n - 1 < (ch2 n).r.length := by rw [ch2_len]; omega
  obtain ⟨h3, h4, _⟩ := sm_hit v hs ht (by omega)
  rw [h2, hit_iff v hs ht h3] at h4
  have h5 : sm (ch2 n) 0 (n - 1) = 1 := by
    have h3' : ((sm (ch2 n) 0 (n - 1) : Nat) : Int) < 2 := h3
    rcases h4 with ⟨h5, _⟩ | ⟨_, h5, _⟩
    · rcases Nat.lt_or_ge (sm (ch2 n) 0 (n - 1)) 1 with h6 | h6
      · have e : sm (ch2 n) 0 (n - 1) = 0 := by omega
        rw [e] at h5
        have e1 : (nx (ch2 n) ((0 : Nat) : Int) ((0 : Nat) : Int)).2 = 0 := congrArg Prod.snd (ch2_nx0 (n := n) (s := 0) (by omega))
        have e2 : (nx (ch2 n) ((n - 1 : Nat) : Int) ((0 : Nat) : Int)).2 = 0 := congrArg Prod.snd (ch2_nx0 (n := n) (s := n - 1) (by omega))
        exact absurd (e1.trans e2.symm) h5
      · omega
    · omega
  unfold sepw
  rw [h2]
  show (sm (ch2 n) 0 (n - 1) : Int) :: [] = [1]
  rw [h5]
  rfl
theorem ch2_none : sl (ch2 1) 0 0 = 0 := sl_same _ _
end Go.Proofs.Ytonnplhiaidjnaa.Mc
