/-
  Words for memory: a square of bools that the call itself builds. No statement is proved here.
-/
import Derived.Test.YtonnplhiaidjnaaRf2
namespace Go.Proofs.Ytonnplhiaidjnaa
open Go.RowKit
open Mc (Ed Ma)

/-- The headers of rows of n bools, each in a block of its own. -/
def hdB (n : Nat) (gs : List Nat) : List Value := gs.map fun g => .slice (some ⟨g, 0, none⟩) n n
theorem hdB_len (n : Nat) (gs : List Nat) : (hdB n gs).length = gs.length := by simp [hdB]
theorem hdB_snoc (n : Nat) (gs : List Nat) (g : Nat) : hdB n gs ++ [.slice (some ⟨g, 0, none⟩) n n] = hdB n (gs ++ [g]) := by simp [hdB]
def MxB (w : World) (base : Nat) (V : Value) (n : Nat) (gs : List Nat) (L : List (List Bool)) : Prop :=
  w.ownsRow base 83 1 V gs.length (hdB n gs) ∧ gs.length = L.length ∧ gs.Nodup ∧ ∀ (k g : Nat) row, gs[k]? = some g → L[k]? = some row → base ≤ g ∧ row.length = n ∧ BlkB w g row
section
variable {w w' : World} {base n : Nat} {V : Value} {gs : List Nat} {L : List (List Bool)}
theorem MxB.nil_ (w : World) (base n : Nat) : MxB w base (.slice none 0 0) n [] [] := ⟨World.ownsRow_nil _ _ _ _, rfl, List.nodup_nil, fun k g row h => by simp at h⟩
theorem MxB.below (h : MxB w base V n gs L) (hb : Below w.heap.size w w') : MxB w' base V n gs L :=
  ⟨h.1.kept (grown_below hb) (by cases V.ownBlock <;> simp), h.2.1, h.2.2.1, fun k g row h1 h2 => by
    obtain ⟨a, b, c⟩ := h.2.2.2 k g row h1 h2
    exact ⟨a, b, (hb.block _ (heap_lt c)).trans c⟩⟩
/-- A row's block is not the block of the headers. -/
theorem MxB.apart (h : MxB w base V n gs L) {g : Nat} {row : List Bool} (hg : BlkB w g row) : some g ≠ V.ownBlock := fun e => by
  rcases h.1.2 with ⟨rfl, _⟩ | ⟨p, cap, cur, rfl, _, hp, _⟩
  · simp [Value.ownBlock] at e
  · simp [Value.ownBlock] at e
    subst e
    unfold BlkB at hg
    rw [hg] at hp
    simp at hp
theorem MxB.push {g : Nat} {row : List Bool} {w3 : World} {V1 : Value} (h : MxB w base V n gs L) (hnew : ∀ x ∈ gs, x ≠ g) (hr : BlkB w g row) (hbg : base ≤ g) (hrl : row.length = n)
    (h1 : w3.ownsRow base 83 1 V1 (gs.length + 1) (hdB n gs ++ [.slice (some ⟨g, 0, none⟩) n n])) (hg : w.grownBy w3 V.ownBlock) : MxB w3 base V1 n (gs ++ [g]) (L ++ [row]) := by
  have key : ∀ {g' : Nat} {r : List Bool}, BlkB w g' r → BlkB w3 g' r := fun {g'} {r} hb => (hg.block g' (heap_lt hb) (h.apart hb)).trans hb
  refine ⟨by rw [List.length_append, ← hdB_snoc]; exact h1, by simp [h.2.1], ?_, fun k g' r h2 h3 => ?_⟩
  · rw [List.nodup_append]
    exact ⟨h.2.2.1, by simp, fun a ha b hb => by rw [List.mem_singleton.1 hb]; exact hnew a ha⟩
  · rw [List.getElem?_append] at h2 h3
    have hl := h.2.1
    split at h2
    · rename_i hlt
      rw [if_pos (by omega)] at h3
      obtain ⟨a, b, c⟩ := h.2.2.2 k g' r h2 h3
      exact ⟨a, b, key c⟩
    · rename_i hge
      rw [if_neg (by omega)] at h3
      rcases Nat.eq_zero_or_pos (k - gs.length) with h0 | h0
      · rw [h0] at h2
        rw [← hl, h0] at h3
        simp at h2 h3
        subst h2 h3
        exact ⟨hbg, hrl, key hr⟩
      · rw [List.getElem?_eq_none (by simp; omega)] at h2
        cases h2
theorem MxB.set_ (h : MxB w base V n gs L) {k g : Nat} {row : List Bool} (hk : gs[k]? = some g) (hL : L[k]? = some row) (t : Nat) (b : Bool) : MxB (w.setCell ⟨g, t, none⟩ (.bool b)) base V n gs (L.set k (row.set t b)) := by
  obtain ⟨h1, h2, h3⟩ := h.2.2.2 k g row hk hL
  have hne := h.apart h3
  refine ⟨h.1.kept (grown_setCell w ⟨g, t, none⟩ (.bool b)) (by cases hv : V.ownBlock with
    | none => exact .inl rfl
    | some x => exact .inr fun e => hne (by rw [hv]; exact e.symm)), by rw [List.length_set]; exact h.2.1, h.2.2.1, fun j g' r hj hr => ?_⟩
  by_cases hjk : j = k
  · subst hjk
    rw [hk] at hj
    injection hj with hj
    subst hj
    rw [List.getElem?_set_self (List.getElem?_eq_some_iff.1 hL).1] at hr
    injection hr with hr
    subst hr
    exact ⟨h1, by simp [h2], h3.set_ t b⟩
  · rw [List.getElem?_set_ne (by omega)] at hr
    obtain ⟨a, c, d⟩ := h.2.2.2 j g' r hj hr
    have hgg : g' ≠ g := fun e => by
      subst e
      have i1 := (List.getElem?_eq_some_iff.1 hj)
      have i2 := (List.getElem?_eq_some_iff.1 hk)
      obtain ⟨i1, e1⟩ := i1
      obtain ⟨i2, e2⟩ := i2
      have hp := List.pairwise_iff_getElem.1 h.2.2.1
      rcases Nat.lt_trichotomy j k with h4 | h4 | h4
      · exact hp j k i1 i2 h4 (e1.trans e2.symm)
      · exact hjk h4
      · exact hp k j i2 i1 h4 (e2.trans e1.symm)
    exact ⟨a, c, (Below.heap_setCell w ⟨g, t, none⟩ (.bool b) g' hgg).trans d⟩
theorem MxB.lt (h : MxB w base V n gs L) {x : Nat} (hx : x ∈ gs) : x < w.heap.size := by
  obtain ⟨k, hk, e⟩ := List.getElem_of_mem hx
  have hl := h.2.1
  obtain ⟨_, _, hc⟩ := h.2.2.2 k x _ (by rw [List.getElem?_eq_getElem hk, e]) (List.getElem?_eq_getElem (show k < L.length by omega))
  exact heap_lt hc
/-- What a walk loads. -/
theorem MxB.at_ (h : MxB w base V n gs L) {k : Nat} (hk : k < gs.length) : ∃ p c g row, V = .slice (some ⟨p, 0, none⟩) gs.length c ∧ gs[k]? = some g ∧ L[k]? = some row ∧ p < w.heap.size ∧ w.cell? ⟨p, k, none⟩ = some (.slice (some ⟨g, 0, none⟩) n n) ∧ BlkB w g row ∧ row.length = n := by
  have hl := h.2.1
  have h1 := List.getElem?_eq_getElem hk
  have h2 := List.getElem?_eq_getElem (show k < L.length by omega)
  obtain ⟨_, hb, hc⟩ := h.2.2.2 k _ _ h1 h2
  rcases h.1.2 with ⟨_, h0⟩ | ⟨p, cap, cur, hv, _, hp, _⟩
  · omega
  · subst hv
    have hcell := h.1.cells (g := p) rfl k (.slice (some ⟨gs[k], 0, none⟩) n n) (by simp [hdB, h1])
    rw [Addr.add_lit] at hcell
    exact ⟨p, cap, _, _, rfl, h1, h2, heap_lt hp, by simpa using hcell, hc, hb⟩
theorem MxB.rd (h : MxB w base V n gs L) (hl : gs.length = n) {f : Nat → Nat → Bool} (hf : ∀ s t, s < n → t < n → (L[s]?.getD [])[t]? = some (f s t)) : ∃ A c, V = .slice A n c ∧ RdMx w A n f := by
  rcases h.1.2 with ⟨hv, h0⟩ | ⟨p, cap, cur, hv, _, hp, _⟩
  · exact ⟨none, 0, by rw [hv, ← hl, h0], fun h => by omega⟩
  · refine ⟨some ⟨p, 0, none⟩, cap, by rw [hv, hl], fun _ => ⟨p, 0, rfl, heap_lt hp, fun s hs => ?_⟩⟩
    obtain ⟨p', c', g, row, e, h2, h3, _, h5, h6, h7⟩ := h.at_ (k := s) (by omega)
    rw [hv] at e
    injection e with e
    injection e with e
    injection e with e
    subst e
    refine ⟨g, 0, n, by rw [Nat.zero_add]; exact h5, heap_lt h6, fun t ht => ?_⟩
    have h8 := hf s t hs ht
    rw [h3] at h8
    rw [Nat.zero_add, cell_of_row w g t _ 4 (0, 0) h6]
    simp only [Option.getD_some] at h8
    simp [h8]
end
end Go.Proofs.Ytonnplhiaidjnaa
