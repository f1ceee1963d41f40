/-
  Words for memory that all walks of this seat use: a slice of ints that reads as a list ('Rd'), and how it is kept. No statement is proved here.
-/
import Derived.WalkKit
import Derived.WalkSpells
import Derived.Below
import Derived.Laws.OwnMore
import Derived.Laws.MakeOwn
import Derived.Laws.Rows
import Derived.Lib.Hide
import Derived.Deep.Draws
import Derived.Deep.AppendLies
namespace Go.Proofs.Ytldpfbmkmehadaa
open Go.RowKit

theorem bcell {W w1 : World} (hb : Below W.heap.size W w1) : (∀ b o, b < W.heap.size → w1.cell? ⟨b, o, none⟩ = W.cell? ⟨b, o, none⟩) ∧ (∀ b o, b < W.heap.size → w1.frozen? ⟨b, o, none⟩ = W.frozen? ⟨b, o, none⟩) :=
  ⟨fun b o h => hb.cell (p := ⟨b, o, none⟩) h, fun b o h => hb.frozen (p := ⟨b, o, none⟩) h⟩

theorem below_next {w w1 w2 : World} (h : Below w.heap.size w w1) (k : Below w1.heap.size w1 w2) : Below w.heap.size w w2 := h.trans (k.mono h.size)

theorem below_drewN' {B : Nat} {a w : World} (h : Below B a w) (n : Nat) : Below B a (w.drewN n) := ⟨h.os, h.tape, h.output, h.size, h.block⟩

/-- The cells of a list of ints. -/
def ints (zs : List Int) : List Value := zs.map (Value.int .i64)
theorem ints_len (zs : List Int) : (ints zs).length = zs.length := by simp [ints]
theorem ints_snoc (zs : List Int) (z : Int) : ints zs ++ [.int .i64 z] = ints (zs ++ [z]) := by simp [ints]
theorem ints_at {zs : List Int} {k : Nat} (hk : k < zs.length) : (ints zs)[k]? = some (.int .i64 (zs[k]?.getD 0)) := by simp [ints, List.getElem?_eq_getElem hk]
theorem ints_app (x y : List Int) : ints x ++ ints y = ints (x ++ y) := by simp [ints]
/-- A slice value over address A reads as the list zs of ints. -/
def Rd (w : World) (A : Option Addr) (zs : List Int) : Prop :=
  0 < zs.length → ∃ b off, A = some ⟨b, off, none⟩ ∧ b < w.heap.size ∧ ∀ k, k < zs.length → w.cell? ⟨b, off + k, none⟩ = some (.int .i64 (zs[k]?.getD 0))

section
variable {w w' : World} {A : Option Addr} {zs : List Int}
theorem Rd.nil_ : Rd w A [] := fun h => absurd h (by simp)
theorem Rd.keep (h : Rd w A zs) (hs : w.heap.size ≤ w'.heap.size) (hk : ∀ b o, b < w.heap.size → w'.cell? ⟨b, o, none⟩ = w.cell? ⟨b, o, none⟩) : Rd w' A zs := fun hp => by
  obtain ⟨b, off, e, hb, hc⟩ := h hp
  exact ⟨b, off, e, by omega, fun k hk' => (hk _ _ hb).trans (hc k hk')⟩
theorem Rd.below (h : Rd w A zs) (hb : Below w.heap.size w w') : Rd w' A zs := h.keep hb.size (bcell hb).1
theorem Rd.drew (h : Rd w A zs) : Rd w.drew A zs := h
theorem Rd.drewN (h : Rd w A zs) (n : Nat) : Rd (w.drewN n) A zs := h
theorem Rd.alloc (h : Rd w A zs) (o : Obj) : Rd (w.alloc o) A zs := h.below ((Below.refl _ _).alloc (Nat.le_refl _) o)
theorem Rd.at_ (h : Rd w A zs) {k : Nat} (hk : k < zs.length) : ∃ b off z, A = some ⟨b, off, none⟩ ∧ b < w.heap.size ∧ w.cell? ⟨b, off + k, none⟩ = some (.int .i64 z) ∧ Hid (zs[k]?.getD 0 = z) := by
  obtain ⟨b, off, e, hb, hc⟩ := h (by omega)
  exact ⟨b, off, _, e, hb, hc k hk, rfl⟩
/-- A row of the call's own reads as its numbers. -/
theorem Rd.of_own {base : Nat} {e : TypeId} {n c : Nat} (h : w.ownsRow base e 1 (.slice A n c) n (ints zs)) : Rd w A zs := fun hp => by
  have hn : zs.length = n := by have := h.1; rw [ints_len] at this; omega
  obtain ⟨g, cap, hv, _, hlt⟩ := h.form (by omega)
  have hA : A = some ⟨g, 0, none⟩ := by injection hv
  subst hA
  refine ⟨g, 0, rfl, hlt, fun k hk => ?_⟩
  have := h.cells (g := g) rfl k (.int .i64 (zs[k]?.getD 0)) (ints_at hk)
  rw [Nat.zero_add]
  rw [Addr.add_lit] at this
  simpa using this
/-- A block of the call's own that holds just its numbers. -/
theorem Rd.of_block {g : Nat} {t : TypeId} (h : w.heap[g]? = some (.cells (ints zs).toArray t (0, 0))) : Rd w (some ⟨g, 0, none⟩) zs := fun _ => by
  have hlt : g < w.heap.size := by
    rcases Nat.lt_or_ge g w.heap.size with h1 | h1
    · exact h1
    · rw [Array.getElem?_eq_none h1] at h; cases h
  refine ⟨g, 0, rfl, hlt, fun k hk => ?_⟩
  rw [cell_of_row w g (0 + k) _ t (0, 0) h, Nat.zero_add]
  simpa using ints_at hk
end

/-- A slice value over address A reads as the list zs of bytes. -/
def Rd8 (w : World) (A : Option Addr) (zs : List Int) : Prop :=
  0 < zs.length → ∃ b off, A = some ⟨b, off, none⟩ ∧ b < w.heap.size ∧ ∀ k, k < zs.length → w.cell? ⟨b, off + k, none⟩ = some (.int .u8 (zs[k]?.getD 0)) ∧ 0 ≤ zs[k]?.getD 0 ∧ zs[k]?.getD 0 ≤ 255
section
variable {w w' : World} {A : Option Addr} {zs : List Int}
theorem Rd8.nil_ : Rd8 w A [] := fun h => absurd h (by simp)
theorem Rd8.keep (h : Rd8 w A zs) (hs : w.heap.size ≤ w'.heap.size) (hk : ∀ b o, b < w.heap.size → w'.cell? ⟨b, o, none⟩ = w.cell? ⟨b, o, none⟩) : Rd8 w' A zs := fun hp => by
  obtain ⟨b, off, e, hb, hc⟩ := h hp
  exact ⟨b, off, e, by omega, fun k hk' => ⟨(hk _ _ hb).trans (hc k hk').1, (hc k hk').2⟩⟩
theorem Rd8.below (h : Rd8 w A zs) (hb : Below w.heap.size w w') : Rd8 w' A zs := h.keep hb.size (bcell hb).1
theorem Rd8.alloc (h : Rd8 w A zs) (o : Obj) : Rd8 (w.alloc o) A zs := h.below ((Below.refl _ _).alloc (Nat.le_refl _) o)
theorem Rd8.at_ (h : Rd8 w A zs) {k : Nat} (hk : k < zs.length) : ∃ b off z, A = some ⟨b, off, none⟩ ∧ b < w.heap.size ∧ w.cell? ⟨b, off + k, none⟩ = some (.int .u8 z) ∧ 0 ≤ z ∧ z ≤ 255 ∧ Hid (zs[k]?.getD 0 = z) := by
  obtain ⟨b, off, e, hb, hc⟩ := h (by omega)
  exact ⟨b, off, _, e, hb, (hc k hk).1, (hc k hk).2.1, (hc k hk).2.2, rfl⟩
end
theorem ret_int {k : IntKind} {a b : Int} (h : a = b) : Ending.returned (.int k a) = .returned (.int k b) := by rw [h]
theorem ret_bool {a b : Bool} (h : a = b) : Ending.returned (.bool a) = .returned (.bool b) := by rw [h]
theorem take_snoc' (zs : List Int) (k : Nat) (hk : k < zs.length) : zs.take (k + 1) = zs.take k ++ [zs[k]?.getD 0] := by
  rw [List.take_add_one, List.getElem?_eq_getElem hk]; rfl
end Go.Proofs.Ytldpfbmkmehadaa
