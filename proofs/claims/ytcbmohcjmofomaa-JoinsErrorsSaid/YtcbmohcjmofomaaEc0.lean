/-
  Rows of a machine that the call puts together: some are the caller's, some its own. No statement is proved here.
-/
import Derived.Test.YtcbmohcjmofomaaSMc9
import Derived.Deep.AppendLies
namespace Go.Proofs.Ytcbmohcjmofomaa
open Go.RowKit
open Mc (Ed Ma)

/-- A row of edges stands at a block. -/
def EdB (w : World) (b : Nat) : Prop := ∃ cs fr, w.heap[b]? = some (.cells cs 27 fr)
/-- The rows put together so far: each row's cells lie below lo, or from base on. -/
def BlM (w : World) (lo base : Nat) (V : Value) (rs : List (List Ed)) (vs : List Value) : Prop :=
  w.ownsRow base 29 1 V rs.length vs ∧ lo ≤ base ∧ ∀ (k : Nat) (row : List Ed), rs[k]? = some row → ∃ (B : Option Addr) (c : Nat), vs[k]? = some (.slice B row.length c) ∧ row.length ≤ c ∧ c ≤ maxLen ∧ (B = none → c = 0) ∧ RdP w B row ∧
    (0 < row.length → ∃ x, B = some x ∧ (x.block < lo ∨ (base ≤ x.block ∧ EdB w x.block)))
section
variable {w w' : World} {lo base : Nat} {V : Value} {rs : List (List Ed)} {vs : List Value}
theorem RdP.byBlock {A : Option Addr} {ps : List Ed} (h : RdP w A ps) (hs : w.heap.size ≤ w'.heap.size) (hk : ∀ x, A = some x → 0 < ps.length → w'.heap[x.block]? = w.heap[x.block]?) : RdP w' A ps := fun hp => by
  obtain ⟨b, off, e, hb, hc⟩ := h hp
  have hkb := hk _ e hp
  exact ⟨b, off, e, by omega, fun k x hk' => ⟨(World.cell?_of_block (w := w) (a := ⟨b, off + k * 2, none⟩) hkb).trans (hc k x hk').1, (World.cell?_of_block (w := w) (a := ⟨b, off + k * 2 + 1, none⟩) hkb).trans (hc k x hk').2⟩⟩
theorem RdP.lt {A : Option Addr} {ps : List Ed} (h : RdP w A ps) (hp : 0 < ps.length) {x : Addr} (hx : A = some x) : x.block < w.heap.size := by
  obtain ⟨b, off, e, hb, _⟩ := h hp
  rw [hx] at e
  injection e with e
  rw [e]
  exact hb
theorem BlM.nil_ (w : World) (lo base : Nat) (h : lo ≤ base) : BlM w lo base (.slice none 0 0) [] [] := ⟨World.ownsRow_nil _ _ _ _, h, fun k row h => by simp at h⟩
theorem BlM.below (h : BlM w lo base V rs vs) (hb : Below w.heap.size w w') : BlM w' lo base V rs vs :=
  ⟨own_below h.1 hb, h.2.1, fun k row hk => by
    obtain ⟨B, c, h1, h2, h3, h4, h5, h6⟩ := h.2.2 k row hk
    refine ⟨B, c, h1, h2, h3, h4, h5.below hb, fun hp => ?_⟩
    obtain ⟨x, hx, hc⟩ := h6 hp
    refine ⟨x, hx, hc.imp id fun h => ⟨h.1, ?_⟩⟩
    obtain ⟨cs, fr, h7⟩ := h.2
    exact ⟨cs, fr, (hb.block _ (h5.lt hp hx)).trans h7⟩⟩
theorem BlM.set_ (h : BlM w lo base V rs vs) {G o : Nat} (hG : lo ≤ G) (hG2 : G < base) (u : Value) : BlM (w.setCell ⟨G, o, none⟩ u) lo base V rs vs := by
  refine ⟨h.1.kept (grown_setCell w ⟨G, o, none⟩ u) ?_, h.2.1, fun k row hk => ?_⟩
  · cases hv : V.ownBlock with
    | none => exact Or.inl rfl
    | some k => exact Or.inr fun e => by injection e with e; have := (h.1.lt k hv).1; have : k = G := e; omega
  · obtain ⟨B, c, h1, h2, h3, h4, h5, h6⟩ := h.2.2 k row hk
    refine ⟨B, c, h1, h2, h3, h4, h5.byBlock (by simp [World.setCell]) (fun x hx hp => ?_), fun hp => ?_⟩
    · obtain ⟨y, hy, h7⟩ := h6 hp
      rw [hx] at hy
      injection hy with hy
      subst hy
      exact Below.heap_setCell _ _ _ _ (by show x.block ≠ G; rcases h7 with h | ⟨h, _⟩ <;> omega)
    · obtain ⟨y, hy, h7⟩ := h6 hp
      refine ⟨y, hy, h7.imp id fun h => ⟨h.1, ?_⟩⟩
      obtain ⟨cs, fr, h8⟩ := h.2
      exact ⟨cs, fr, (Below.heap_setCell _ _ _ _ (by show y.block ≠ G; have := h.1; omega)).trans h8⟩
theorem own_notE {V : Value} {n : Nat} {b : Nat} (h : w.ownsRow base 29 1 V n vs) (hl : lo ≤ base) (hc : b < lo ∨ (base ≤ b ∧ EdB w b)) : some b ≠ V.ownBlock := fun e => by
  rcases hc with hc | ⟨_, cs, fr, hc⟩
  · have := (h.lt b e.symm).1; omega
  · rcases h.2 with ⟨rfl, _⟩ | ⟨g, cap, cur, rfl, _, hg, _⟩
    · cases e
    · simp [Value.ownBlock] at e
      subst e
      rw [hg] at hc
      injection hc with hc
      injection hc with _ hc _
      exact absurd hc (by decide)
theorem BlM.push {row : List Ed} {B : Option Addr} {c : Nat} {o : Obj} {w1 : World} {V1 : Value} (h : BlM w lo base V rs vs) (hr : RdP w B row) (hc1 : row.length ≤ c) (hc2 : c ≤ maxLen) (hc3 : B = none → c = 0)
    (hx : 0 < row.length → ∃ x, B = some x ∧ (x.block < lo ∨ (base ≤ x.block ∧ EdB w x.block)))
    (h1 : w1.ownsRow base 29 1 V1 (rs.length + 1) (vs ++ [.slice B row.length c])) (hg : (w.alloc o).grownBy w1 V.ownBlock) : BlM w1 lo base V1 (rs ++ [row]) (vs ++ [.slice B row.length c]) := by
  have hl : vs.length = rs.length := by have := h.1.1; omega
  have hsz : w.heap.size ≤ w1.heap.size := by have := hg.size; rw [World.size_alloc] at this; omega
  have keep : ∀ (B : Option Addr) (row : List Ed), RdP w B row → (0 < row.length → ∃ x, B = some x ∧ (x.block < lo ∨ (base ≤ x.block ∧ EdB w x.block))) → RdP w1 B row ∧ (0 < row.length → ∃ x, B = some x ∧ (x.block < lo ∨ (base ≤ x.block ∧ EdB w1 x.block))) := fun B row h5 h6 => by
    have hk : ∀ x, B = some x → 0 < row.length → w1.heap[x.block]? = w.heap[x.block]? := fun x hx hp => by
      obtain ⟨y, hy, h7⟩ := h6 hp
      rw [hx] at hy
      injection hy with hy
      subst hy
      have := h5.lt hp hx
      exact (hg.block x.block (by rw [World.size_alloc]; omega) (own_notE h.1 h.2.1 h7)).trans (Below.heap_alloc _ _ _ this)
    refine ⟨h5.byBlock hsz hk, fun hp => ?_⟩
    obtain ⟨y, hy, h8⟩ := h6 hp
    refine ⟨y, hy, h8.imp id fun h => ⟨h.1, ?_⟩⟩
    obtain ⟨cs, fr, h9⟩ := h.2
    exact ⟨cs, fr, (hk y hy hp).trans h9⟩
  refine ⟨by rw [List.length_append]; exact h1, h.2.1, fun k r hk => ?_⟩
  rw [List.getElem?_append] at hk
  split at hk
  · rename_i hlt
    obtain ⟨B', c', k1, k2, k3, k4, k5, k6⟩ := h.2.2 k r hk
    obtain ⟨k7, k8⟩ := keep B' r k5 k6
    exact ⟨B', c', by rw [List.getElem?_append_left (by omega)]; exact k1, k2, k3, k4, k7, k8⟩
  · rename_i hge
    have hk0 : k - rs.length = 0 := by
      rcases Nat.eq_zero_or_pos (k - rs.length) with h0 | h0
      · exact h0
      · rw [List.getElem?_eq_none (by simp; omega)] at hk; cases hk
    rw [hk0] at hk
    simp at hk
    subst hk
    obtain ⟨k7, k8⟩ := keep B row hr hx
    exact ⟨B, c, by rw [List.getElem?_append_right (by omega), show k - vs.length = 0 by omega]; rfl, hc1, hc2, hc3, k7, k8⟩
theorem BlM.rd (h : BlM w lo base V rs vs) : ∃ A c, V = .slice A rs.length c ∧ RdR w A rs := by
  have hl : vs.length = rs.length := by have := h.1.1; omega
  rcases h.1.2 with ⟨hv, h0⟩ | ⟨g, cap, cur, hv, _, hg, hc, hm, _⟩
  · exact ⟨none, 0, by rw [hv, h0], fun hp => by omega⟩
  · refine ⟨some ⟨g, 0, none⟩, cap, hv, fun _ => ⟨g, 0, rfl, (Array.getElem?_eq_some_iff.1 hg).1, fun k row hk => ?_⟩⟩
    obtain ⟨B, c', h2, h3, h4, h5, h6, _⟩ := h.2.2 k row hk
    have hcell := h.1.cells (g := g) (by rw [hv]; rfl) k _ h2
    rw [Addr.add_lit] at hcell
    exact ⟨B, c', by simpa using hcell, h3, h4, h5, h6⟩
/-- A row of the call's own is one to be put. -/
theorem own_putE {v : Value} {row : List Ed} {B0 : Nat} (h : w.ownsRow B0 27 2 v row.length (eC row)) (hb : base ≤ B0) : ∃ A c, v = .slice A row.length c ∧ row.length ≤ c ∧ c ≤ maxLen ∧ (A = none → c = 0) ∧ RdP w A row ∧ (0 < row.length → ∃ x, A = some x ∧ (x.block < lo ∨ (base ≤ x.block ∧ EdB w x.block))) := by
  have h0 := h
  rcases h.2 with ⟨rfl, hz⟩ | ⟨g, cap, cur, rfl, hgb, hg, hc, hm, _⟩
  · exact ⟨none, 0, by rw [hz], by omega, Nat.zero_le _, fun _ => rfl, fun hp => by omega, fun hp => by omega⟩
  · exact ⟨_, cap, rfl, hc, hm, fun e => (by cases e), RdP.of_own h0, fun _ => ⟨_, rfl, Or.inr ⟨by show base ≤ g; omega, cur, _, hg⟩⟩⟩
end
end Go.Proofs.Ytcbmohcjmofomaa
