/-
  Words for memory: lists of edges, rows of edges, a machine in a box. No statement is proved here.
-/
import Derived.Test.YtldpfbmkmehadaaSMc1
import Derived.Test.YtldpfbmkmehadaaSMcR
namespace Go.Proofs.Ytldpfbmkmehadaa
open Go.RowKit
open Mc (Ed Ma)

/-- A slice value over address A reads as the list ps of edges, or of pairs. -/
def RdP (w : World) (A : Option Addr) (ps : List (Int × Int)) : Prop :=
  0 < ps.length → ∃ b off, A = some ⟨b, off, none⟩ ∧ b < w.heap.size ∧ ∀ k x, ps[k]? = some x → w.cell? ⟨b, off + k * 2, none⟩ = some (.int .i64 x.1) ∧ w.cell? ⟨b, off + k * 2 + 1, none⟩ = some (.int .i64 x.2)
section
variable {w w' : World} {A : Option Addr} {ps : List (Int × Int)}
theorem RdP.nil_ : RdP w A [] := fun h => absurd h (by simp)
theorem RdP.keep (h : RdP w A ps) (hs : w.heap.size ≤ w'.heap.size) (hk : ∀ b o, b < w.heap.size → w'.cell? ⟨b, o, none⟩ = w.cell? ⟨b, o, none⟩) : RdP w' A ps := fun hp => by
  obtain ⟨b, off, e, hb, hc⟩ := h hp
  exact ⟨b, off, e, by omega, fun k x hk' => ⟨(hk _ _ hb).trans (hc k x hk').1, (hk _ _ hb).trans (hc k x hk').2⟩⟩
theorem RdP.below (h : RdP w A ps) (hb : Below w.heap.size w w') : RdP w' A ps := h.keep hb.size (bcell hb).1
theorem RdP.at_ (h : RdP w A ps) {k : Nat} (hk : k < ps.length) : ∃ b off x y, A = some ⟨b, off, none⟩ ∧ b < w.heap.size ∧ w.cell? ⟨b, off + k * 2, none⟩ = some (.int .i64 x) ∧ w.cell? ⟨b, off + k * 2 + 1, none⟩ = some (.int .i64 y) ∧ Hid (ps[k]? = some (x, y)) := by
  obtain ⟨b, off, e, hb, hc⟩ := h (by omega)
  obtain ⟨h1, h2⟩ := hc k _ (List.getElem?_eq_getElem hk)
  exact ⟨b, off, _, _, e, hb, h1, h2, List.getElem?_eq_getElem hk⟩
end
/-- A slice value over address A reads as the list rs of rows. -/
def RdR (w : World) (A : Option Addr) (rs : List (List Ed)) : Prop :=
  0 < rs.length → ∃ b off, A = some ⟨b, off, none⟩ ∧ b < w.heap.size ∧ ∀ k row, rs[k]? = some row → ∃ B c, w.cell? ⟨b, off + k, none⟩ = some (.slice B row.length c) ∧ row.length ≤ c ∧ c ≤ maxLen ∧ (B = none → c = 0) ∧ RdP w B row
section
variable {w w' : World} {A : Option Addr} {rs : List (List Ed)}
theorem RdR.nil_ : RdR w A [] := fun h => absurd h (by simp)
theorem RdR.keep (h : RdR w A rs) (hs : w.heap.size ≤ w'.heap.size) (hk : ∀ b o, b < w.heap.size → w'.cell? ⟨b, o, none⟩ = w.cell? ⟨b, o, none⟩) : RdR w' A rs := fun hp => by
  obtain ⟨b, off, e, hb, hc⟩ := h hp
  refine ⟨b, off, e, by omega, fun k row hk' => ?_⟩
  obtain ⟨B, c, h1, h2, h3, h4, h5⟩ := hc k row hk'
  exact ⟨B, c, (hk _ _ hb).trans h1, h2, h3, h4, h5.keep hs hk⟩
theorem RdR.below (h : RdR w A rs) (hb : Below w.heap.size w w') : RdR w' A rs := h.keep hb.size (bcell hb).1
theorem RdR.at_ (h : RdR w A rs) {k : Nat} (hk : k < rs.length) : ∃ b off B c n row, A = some ⟨b, off, none⟩ ∧ b < w.heap.size ∧ w.cell? ⟨b, off + k, none⟩ = some (.slice B n c) ∧ n ≤ c ∧ c ≤ maxLen ∧ (B = none → c = 0) ∧ RdP w B row ∧ Hid (row.length = n) ∧ Hid (rs[k]? = some row) := by
  obtain ⟨b, off, e, hb, hc⟩ := h (by omega)
  obtain ⟨B, c, h1, h2, h3, h4, h5⟩ := hc k _ (List.getElem?_eq_getElem hk)
  exact ⟨b, off, B, c, _, _, e, hb, h1, h2, h3, h4, h5, rfl, List.getElem?_eq_getElem hk⟩
end
/-- A world in which a machine lies in a box of the call's own. -/
abbrev boxM (w : World) (i o : Int) (A : Option Addr) (n c : Nat) : World := w.alloc (.cells #[.int .i64 i, .int .i64 o, .slice A n c] 27)
section
variable {w wr : World} {i o : Int} {A : Option Addr} {n c : Nat}
theorem box_cells (h : Below (w.heap.size + 1) (boxM w i o A n c) wr) :
    wr.cell? ⟨w.heap.size, 0, none⟩ = some (.int .i64 i) ∧ wr.cell? ⟨w.heap.size, 1, none⟩ = some (.int .i64 o) ∧ wr.cell? ⟨w.heap.size, 2, none⟩ = some (.slice A n c) := by
  refine ⟨?_, ?_, ?_⟩
  · rw [h.cell (p := ⟨w.heap.size, 0, none⟩) (by simp), World.cell?_alloc_at _ _ _ _ rfl]; rfl
  · rw [h.cell (p := ⟨w.heap.size, 1, none⟩) (by simp), World.cell?_alloc_at _ _ _ _ rfl]; rfl
  · rw [h.cell (p := ⟨w.heap.size, 2, none⟩) (by simp), World.cell?_alloc_at _ _ _ _ rfl]; rfl
theorem box_below (h : Below (w.heap.size + 1) (boxM w i o A n c) wr) : Below w.heap.size w wr := ((Below.refl _ _).alloc (Nat.le_refl _) _).trans (h.mono (by omega))
theorem box_size (h : Below (w.heap.size + 1) (boxM w i o A n c) wr) : w.heap.size + 1 ≤ wr.heap.size := by have := h.size; simpa using this
end
end Go.Proofs.Ytldpfbmkmehadaa
