/-
  Several texts in one: SMc10, MT0. No statement is proved here.
-/
import Derived.Test.YtgafpmgdpigliaaScB
import Derived.Test.YtgafpmgdpigliaaSMc9
namespace Go.Proofs.Ytgafpmgdpigliaa
open Go.RowKit
open Mc (Ed Ma)

namespace Mc
def cmpV (m : Ma) : Bool := if chk m = 0 then ((dfd m.r : Int) == m.r.length * m.i) else false
noncomputable def conV (m : Ma) : Bool := if chk m = 0 then conn m else false
def trV (m : Ma) : Int := if chk m = 0 then dfd m.r else 0
def unV (m : Ma) : List Ed := if chk m = 0 then und m.r 0 else []
def stE (m : Ma) (s i : Int) : Int := if chk m ≠ 0 then chk m else if 0 ≤ s ∧ s < m.r.length then (if 0 ≤ i ∧ i < m.i then 0 else 1) else 1
def stV (m : Ma) (s i : Int) : Ed := if stE m s i = 0 then nx m s i else (0, 0)
def runE (m : Ma) (s : Int) (w : List Int) : Int := if chk m ≠ 0 then chk m else if 0 ≤ s ∧ s < m.r.length then M.check w m.i else 1
def runV (m : Ma) (s : Int) (w : List Int) : List Int := if runE m s w = 0 then run m s w else []
def aftV (m : Ma) (s : Int) (w : List Int) : Int := if runE m s w = 0 then aft m s w else 0
def wiE (m : Ma) (s i : Int) (x : Ed) : Int := if stE m s i ≠ 0 then stE m s i else if okE m.r.length m.o x then 0 else 1
def wiV (m : Ma) (s i : Int) (x : Ed) : Ma := if wiE m s i x = 0 then wth m s.toNat i.toNat x else ⟨0, 0, []⟩
def samV (a b : Ma) : Bool := chk a == 0 && chk b == 0 && decide (a = b)
theorem check_wd {m : Ma} (v : Val m) {w : List Int} (h : Wd m w) (hl : w.length ≤ 256) : M.check w m.i = 0 := by
  have h1 := v.i0; have h2 := v.i1
  rw [M.check_in h2 (by omega) h1]
  refine M.badI_clean ?_
  rw [List.any_eq_false]
  intro c hc
  have := h c hc
  simp [M.badB]
  omega
theorem runE_ok {m : Ma} (v : Val m) {s : Int} {w : List Int} (hs : 0 ≤ s ∧ s < m.r.length) (h : Wd m w) (hl : w.length ≤ 256) : runE m s w = 0 := by
  unfold runE
  rw [if_neg (by rw [chk_of v]; simp), if_pos hs, check_wd v h hl]
theorem runV_ok {m : Ma} (v : Val m) {s : Int} {w : List Int} (hs : 0 ≤ s ∧ s < m.r.length) (h : Wd m w) (hl : w.length ≤ 256) : runV m s w = run m s w := by
  unfold runV; rw [if_pos (runE_ok v hs h hl)]
theorem aftV_ok {m : Ma} (v : Val m) {s : Int} {w : List Int} (hs : 0 ≤ s ∧ s < m.r.length) (h : Wd m w) (hl : w.length ≤ 256) : aftV m s w = aft m s w := by
  unfold aftV; rw [if_pos (runE_ok v hs h hl)]
theorem stE_ok {m : Ma} (v : Val m) {s i : Int} (hs : 0 ≤ s ∧ s < m.r.length) (hi : 0 ≤ i ∧ i < m.i) : stE m s i = 0 := by
  unfold stE
  rw [if_neg (by rw [chk_of v]; simp), if_pos hs, if_pos hi]
theorem stV_ok {m : Ma} (v : Val m) {s i : Int} (hs : 0 ≤ s ∧ s < m.r.length) (hi : 0 ≤ i ∧ i < m.i) : stV m s i = nx m s i := by
  unfold stV; rw [if_pos (stE_ok v hs hi)]
end Mc

/-- What is kept while nothing below a mark changes. -/
def Kept (P : World → Prop) : Prop := ∀ w w' : World, P w → Below w.heap.size w w' → P w'
/-- What is known on the way: below the start all is as it was; what was laid down holds. -/
def MK (E : World → Prop) (w w' : World) (L : List (World → Prop)) : Prop := E w' ∧ Below w.heap.size w w' ∧ ∀ P ∈ L, Kept P ∧ P w'
/-- A machine in a box of the call's own. -/
def BxM (w : World) (g : Nat) (i o : Int) (A : Option Addr) (n c : Nat) : Prop := w.heap[g]? = some (.cells #[.int .i64 i, .int .i64 o, .slice A n c] 24)
def BxE (w : World) (g : Nat) (x y : Int) : Prop := w.heap[g]? = some (.cells #[.int .i64 x, .int .i64 y] 27)
theorem heap_lt {w : World} {g : Nat} {o : Obj} (h : w.heap[g]? = some o) : g < w.heap.size := by
  rcases Nat.lt_or_ge g w.heap.size with h1 | h1
  · exact h1
  · rw [Array.getElem?_eq_none h1] at h; cases h
section
variable {E : World → Prop} {w w1 w2 : World} {L : List (World → Prop)}
theorem MK.start (he : E w) : MK E w w [] := ⟨he, Below.refl _ _, fun _ h => by simp at h⟩
theorem MK.put (h : MK E w w1 L) {P : World → Prop} (hk : Kept P) (hp : P w1) : MK E w w1 (P :: L) := ⟨h.1, h.2.1, fun p hp' => by
  rcases List.mem_cons.1 hp' with rfl | h1
  · exact ⟨hk, hp⟩
  · exact h.2.2 p h1⟩
theorem MK.putL (h : MK E w w1 L) {A : Option Addr} {l : List Int} (hr : Rd w1 A l) : MK E w w1 ((fun w => Rd w A l) :: L) := h.put (fun _ _ h hb => h.below hb) hr
theorem MK.putR (h : MK E w w1 L) {A : Option Addr} {l : List (List Ed)} (hr : RdR w1 A l) : MK E w w1 ((fun w => RdR w A l) :: L) := h.put (fun _ _ h hb => h.below hb) hr
theorem MK.putB (h : MK E w w1 L) {g n c : Nat} {i o : Int} {A : Option Addr} (hr : BxM w1 g i o A n c) : MK E w w1 ((fun w => BxM w g i o A n c) :: L) := h.put (fun _ _ h hb => (hb.block g (heap_lt h)).trans h) hr
theorem MK.putE (h : MK E w w1 L) {g : Nat} {x y : Int} (hr : BxE w1 g x y) : MK E w w1 ((fun w => BxE w g x y) :: L) := h.put (fun _ _ h hb => (hb.block g (heap_lt h)).trans h) hr
theorem MK.get (h : MK E w w1 L) (i : Nat) {P : World → Prop} (hi : L[i]? = some P) : P w1 := (h.2.2 P (List.mem_of_getElem? hi)).2
end
theorem BxM.cells {w : World} {g n c : Nat} {i o : Int} {A : Option Addr} (h : BxM w g i o A n c) : w.cell? ⟨g, 0, none⟩ = some (.int .i64 i) ∧ w.cell? ⟨g, 1, none⟩ = some (.int .i64 o) ∧ w.cell? ⟨g, 2, none⟩ = some (.slice A n c) := by
  refine ⟨?_, ?_, ?_⟩ <;> rw [cell_of_row w _ _ _ _ _ h] <;> rfl
theorem BxE.cells {w : World} {g : Nat} {x y : Int} (h : BxE w g x y) : w.cell? ⟨g, 0, none⟩ = some (.int .i64 x) ∧ w.cell? ⟨g, 1, none⟩ = some (.int .i64 y) ∧ w.frozen? ⟨g, 0, none⟩ = false ∧ w.frozen? ⟨g, 1, none⟩ = false := by
  refine ⟨?_, ?_, ?_, ?_⟩
  · rw [cell_of_row w _ _ _ _ _ h]; rfl
  · rw [cell_of_row w _ _ _ _ _ h]; rfl
  · unfold BxE at h; simp [World.frozen?, h]
  · unfold BxE at h; simp [World.frozen?, h]

/-! ### The law's own edge and list -/
end Go.Proofs.Ytgafpmgdpigliaa

namespace Go.Proofs.Ytgafpmgdpigliaa
open Go.RowKit
open Mc (Ed Ma)

/-- What is known on the way. -/
abbrev MT (w w' : World) (L : List (World → Prop)) : Prop := MK (fun _ => True) w w' L
section
variable {w w1 w2 : World} {L : List (World → Prop)}
theorem MT.start : MT w w [] := MK.start trivial
theorem MT.next (h : MT w w1 L) (hb : Below w1.heap.size w1 w2) : MT w w2 L := ⟨trivial, below_next h.2.1 hb, fun p hp => ⟨(h.2.2 p hp).1, (h.2.2 p hp).1 _ _ (h.2.2 p hp).2 hb⟩⟩
theorem MT.alloc (h : MT w w1 L) (o : Obj) : MT w (w1.alloc o) L := h.next ((Below.refl _ _).alloc (Nat.le_refl _) o)
theorem MT.putK (h : MT w w1 L) {P : World → Prop} (hp : P w1) (hk : Kept P) : MT w w1 (P :: L) := MK.put h hk hp
end
end Go.Proofs.Ytgafpmgdpigliaa
