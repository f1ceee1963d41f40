/-
  What the reference's Differ finds: mathematics. No statement is proved here.
-/
import Derived.Test.YtomgofgbfdcmhaaEc1
import Derived.Test.YtomgofgbfdcmhaaRfY
namespace Go.Proofs.Ytomgofgbfdcmhaa
open Go.RowKit
open Mc (Ed Ma Wv)
namespace Mc
section
variable {m : Ma} {s t : Nat}
theorem prd_sl (v : Val m) (hs : s < m.r.length) (ht : t < m.r.length) (k : Nat) : prd (rnd m k) s t = true ↔ sl m s t ≠ 0 ∧ sl m s t ≤ k := by
  unfold prd
  rw [decide_eq_true_iff, ne_eq, rnd_iff v k hs ht]
  constructor
  · intro h
    obtain ⟨h1, h2⟩ := sl_le v hs ht h
    exact ⟨by omega, h2⟩
  · rintro ⟨h1, h2⟩ h
    obtain ⟨L, hL⟩ : ∃ L, sl m s t = L + 1 := ⟨sl m s t - 1, by omega⟩
    exact (sl_pos v hs ht hL).2 (eqv_mono h (by omega))
/-- What the reference looks for in a round. -/
def dfC (m : Ma) (L : Nat) (x y : Ed) : Bool := decide (x.2 ≠ y.2) || (decide (0 ≤ x.1) && (decide (0 ≤ y.1) && prd (rnd m L) x.1.toNat y.1.toNat))
theorem dfC_hit (v : Val m) (hs : s < m.r.length) (ht : t < m.r.length) {L : Nat} (h : sl m s t = L + 1) {i : Nat} (hi : (i : Int) < m.i) : dfC m L (nx m s i) (nx m t i) = hit m s t L i := by
  rw [Bool.eq_iff_iff]
  by_cases ho : (nx m s i).2 = (nx m t i).2
  · unfold dfC
    simp only [ho, ne_eq, not_true_eq_false, decide_false, Bool.false_or, Bool.and_eq_true, decide_eq_true_eq]
    rw [hit_iff v hs ht hi]
    constructor
    · rintro ⟨h1, h2, h3⟩
      rcases both v hs ht hi ho with ⟨h4, _⟩ | ⟨a, b, e1, e2, h5, h6⟩
      · omega
      · rw [e1, e2, Int.toNat_natCast, Int.toNat_natCast, prd_sl v h5 h6] at h3
        have h7 : hit m s t (sl m a b) i = true := (hit_iff v hs ht hi).2 (Or.inr ⟨ho, h3.1, a, b, e1, e2, h5, h6, rfl⟩)
        have h8 := (hit_ge v hs ht hi h7).2
        exact Or.inr ⟨ho, by omega, a, b, e1, e2, h5, h6, by omega⟩
    · rintro (⟨h1, _⟩ | ⟨_, h2, a, b, e1, e2, h5, h6, h7⟩)
      · exact absurd ho h1
      · rw [e1, e2, Int.toNat_natCast, Int.toNat_natCast, prd_sl v h5 h6]
        exact ⟨by omega, by omega, by omega, by omega⟩
  · have h1 : dfC m L (nx m s i) (nx m t i) = true := by unfold dfC; simp [ho]
    rw [h1]
    have h2 : hit m s t 0 i = true := (hit_iff v hs ht hi).2 (Or.inl ⟨ho, rfl⟩)
    have h3 := (hit_ge v hs ht hi h2).2
    obtain rfl : L = 0 := by omega
    simp [h2]
/-- The word is told symbol by symbol. -/
theorem sw_step (v : Val m) (hs : s < m.r.length) (ht : t < m.r.length) {L i : Nat} (h : sl m s t = L + 1) (hi : (i : Int) < m.i) (hh : hit m s t L i = true) (hn : ∀ j, j < i → hit m s t L j = false) :
    sw m (L + 1) s t = (i : Int) :: sw m L (nx m s i).1.toNat (nx m t i).1.toNat ∧ (L = 0 ∨ ∃ a b : Nat, (nx m s i).1 = a ∧ (nx m t i).1 = b ∧ a < m.r.length ∧ b < m.r.length ∧ sl m a b = L) := by
  have e : sm m s t = i := sm_of hi (by rw [h]; exact hh) (fun j hj => by rw [h]; exact hn j hj)
  refine ⟨by rw [sw, e], ?_⟩
  rcases (hit_iff v hs ht hi).1 hh with ⟨_, h1⟩ | ⟨_, _, a, b, e1, e2, h5, h6, h7⟩
  · exact Or.inl h1
  · exact Or.inr ⟨a, b, e1, e2, h5, h6, h7⟩
end
end Mc
end Go.Proofs.Ytomgofgbfdcmhaa
