/-
  What the program's functions on machines are held to (an interface), and what a walk of a law knows on its way. No statement is proved here.
-/
import Derived.Test.YtiohfflkolopeaaMc5
import Derived.Test.YtiohfflkolopeaaMc7
import Derived.Test.YtiohfflkolopeaaMc9
namespace Go.Proofs.Ytiohfflkolopeaa
open Go.RowKit
open Mc (Ed Ma)

namespace Mc
def cmpV (m : Ma) : Bool := if chk m = 0 then ((dfd m.r : Int) == m.r.length * m.i) else false
noncomputable def conV (m : Ma) : Bool := if chk m = 0 then conn m else false
def trV (m : Ma) : Int := if chk m = 0 then dfd m.r else 0
def unV (m : Ma) : List Ed := if chk m = 0 then und m.r 0 else []
def stE (m : Ma) (s i : Int) : Int := if chk m ≠ 0 then chk m else if 0 ≤ s ∧ s < m.r.length then (if 0 ≤ i ∧ i < m.i then 0 else 1) else 1
def stV (m : Ma) (s i : Int) : Ed := if stE m s i = 0 then nx m s i else (0, 0)
def runE (m : Ma) (s : Int) (w : List Int) : Int := if chk m ≠ 0 then chk m else if 0 ≤ s ∧ s < m.r.length then M.check w m.i else 1
def runV (m : Ma) (s : Int) (w : List Int) : List Int := if runE m s w = 0 then run m s w else []
def aftV (m : Ma) (s : Int) (w : List Int) : Int := if runE m s w = 0 then aft m s w else 0
def wiE (m : Ma) (s i : Int) (x : Ed) : Int := if stE m s i ≠ 0 then stE m s i else if okE m.r.length m.o x then 0 else 1
def wiV (m : Ma) (s i : Int) (x : Ed) : Ma := if wiE m s i x = 0 then wth m s.toNat i.toNat x else ⟨0, 0, []⟩
def samV (a b : Ma) : Bool := chk a == 0 && chk b == 0 && decide (a = b)
theorem check_wd {m : Ma} (v : Val m) {w : List Int} (h : Wd m w) (hl : w.length ≤ 256) : M.check w m.i = 0 := by
  have h1 := v.i0; have h2 := v.i1
  rw [M.check_in h2 (by omega) h1]
  refine M.badI_clean ?_
  rw [List.any_eq_false]
  intro c hc
  have := h c hc
  simp [M.badB]
  omega
theorem runE_ok {m : Ma} (v : Val m) {s : Int} {w : List Int} (hs : 0 ≤ s ∧ s < m.r.length) (h : Wd m w) (hl : w.length ≤ 256) : runE m s w = 0 := by
  unfold runE
  rw [if_neg (by rw [chk_of v]; simp), if_pos hs, check_wd v h hl]
theorem runV_ok {m : Ma} (v : Val m) {s : Int} {w : List Int} (hs : 0 ≤ s ∧ s < m.r.length) (h : Wd m w) (hl : w.length ≤ 256) : runV m s w = run m s w := by
  unfold runV; rw [if_pos (runE_ok v hs h hl)]
theorem aftV_ok {m : Ma} (v : Val m) {s : Int} {w : List Int} (hs : 0 ≤ s ∧ s < m.r.length) (h : Wd m w) (hl : w.length ≤ 256) : aftV m s w = aft m s w := by
  unfold aftV; rw [if_pos (runE_ok v hs h hl)]
theorem stE_ok {m : Ma} (v : Val m) {s i : Int} (hs : 0 ≤ s ∧ s < m.r.length) (hi : 0 ≤ i ∧ i < m.i) : stE m s i = 0 := by
  unfold stE
  rw [if_neg (by rw [chk_of v]; simp), if_pos hs, if_pos hi]
theorem stV_ok {m : Ma} (v : Val m) {s i : Int} (hs : 0 ≤ s ∧ s < m.r.length) (hi : 0 ≤ i ∧ i < m.i) : stV m s i = nx m s i := by
  unfold stV; rw [if_pos (stE_ok v hs hi)]
end Mc

/-- What the program's functions are held to. E is what a world must keep for them. -/
structure Pm (E : World → Prop) : Prop where
  keep : ∀ {w w' : World}, E w → Below w.heap.size w w' → E w'
  check : ∀ (i o : Int) (rs : List (List Ed)) (A : Option Addr) (n c : Nat) (w : World), E w → RdR w A rs → rs.length = n → n ≤ 1000000 → (∀ row ∈ rs, row.length ≤ 1000000) →
    Calls Try.prog 16 #[.agg #[.int .i64 i, .int .i64 o, .slice A n c]] w fun e w' => e = .returned (.int .i64 (Mc.chk ⟨i, o, rs⟩)) ∧ Below w.heap.size w w'
  complete : ∀ (i o : Int) (rs : List (List Ed)) (A : Option Addr) (n c : Nat) (w : World), E w → RdR w A rs → rs.length = n → n ≤ 1000000 → (∀ row ∈ rs, row.length ≤ 1000000) →
    Calls Try.prog 12 #[.agg #[.int .i64 i, .int .i64 o, .slice A n c]] w fun e w' => e = .returned (.tuple #[.bool (Mc.cmpV ⟨i, o, rs⟩), .int .i64 (Mc.chk ⟨i, o, rs⟩)]) ∧ Below w.heap.size w w'
  connected : ∀ (i o : Int) (rs : List (List Ed)) (A : Option Addr) (n c : Nat) (w : World), E w → RdR w A rs → rs.length = n → n ≤ 1000000 → (∀ row ∈ rs, row.length ≤ 1000000) →
    Calls Try.prog 13 #[.agg #[.int .i64 i, .int .i64 o, .slice A n c]] w fun e w' => e = .returned (.tuple #[.bool (Mc.conV ⟨i, o, rs⟩), .int .i64 (Mc.chk ⟨i, o, rs⟩)]) ∧ Below w.heap.size w w'
  transitions : ∀ (i o : Int) (rs : List (List Ed)) (A : Option Addr) (n c : Nat) (w : World), E w → RdR w A rs → rs.length = n → n ≤ 1000000 → (∀ row ∈ rs, row.length ≤ 1000000) →
    Calls Try.prog 14 #[.agg #[.int .i64 i, .int .i64 o, .slice A n c]] w fun e w' => e = .returned (.tuple #[.int .i64 (Mc.trV ⟨i, o, rs⟩), .int .i64 (Mc.chk ⟨i, o, rs⟩)]) ∧ Below w.heap.size w w'
  undefined : ∀ (i o : Int) (rs : List (List Ed)) (A : Option Addr) (n c : Nat) (w : World), E w → RdR w A rs → rs.length = n → n ≤ 1000000 → (∀ row ∈ rs, row.length ≤ 1000000) →
    Calls Try.prog 15 #[.agg #[.int .i64 i, .int .i64 o, .slice A n c]] w fun e w' => ∃ B k, e = .returned (.tuple #[.slice B k k, .int .i64 (Mc.chk ⟨i, o, rs⟩)]) ∧ Hid ((Mc.unV ⟨i, o, rs⟩).length = k) ∧ RdP w' B (Mc.unV ⟨i, o, rs⟩) ∧ Below w.heap.size w w'
  step : ∀ (i o s k : Int) (rs : List (List Ed)) (A : Option Addr) (n c : Nat) (w : World), E w → RdR w A rs → rs.length = n → n ≤ 1000000 → (∀ row ∈ rs, row.length ≤ 1000000) →
    Calls Try.prog 18 #[.agg #[.int .i64 i, .int .i64 o, .slice A n c], .int .i64 s, .int .i64 k] w fun e w' => e = .returned (.tuple #[.agg #[.int .i64 (Mc.stV ⟨i, o, rs⟩ s k).1, .int .i64 (Mc.stV ⟨i, o, rs⟩ s k).2], .int .i64 (Mc.stE ⟨i, o, rs⟩ s k)]) ∧ Below w.heap.size w w'
  run : ∀ (i o s : Int) (rs : List (List Ed)) (ws : List Int) (A W : Option Addr) (n c k d : Nat) (w : World), E w → RdR w A rs → Rd w W ws → rs.length = n → n ≤ 1000000 → (∀ row ∈ rs, row.length ≤ 1000000) → ws.length = k → k ≤ 1000000 →
    Calls Try.prog 22 #[.agg #[.int .i64 i, .int .i64 o, .slice A n c], .int .i64 s, .slice W k d] w fun e w' => ∃ B j, e = .returned (.tuple #[.slice B j j, .int .i64 (Mc.runE ⟨i, o, rs⟩ s ws)]) ∧ Hid ((Mc.runV ⟨i, o, rs⟩ s ws).length = j) ∧ Rd w' B (Mc.runV ⟨i, o, rs⟩ s ws) ∧ Below w.heap.size w w'
  after : ∀ (i o s : Int) (rs : List (List Ed)) (ws : List Int) (A W : Option Addr) (n c k d : Nat) (w : World), E w → RdR w A rs → Rd w W ws → rs.length = n → n ≤ 1000000 → (∀ row ∈ rs, row.length ≤ 1000000) → ws.length = k → k ≤ 1000000 →
    Calls Try.prog 23 #[.agg #[.int .i64 i, .int .i64 o, .slice A n c], .int .i64 s, .slice W k d] w fun e w' => e = .returned (.tuple #[.int .i64 (Mc.aftV ⟨i, o, rs⟩ s ws), .int .i64 (Mc.runE ⟨i, o, rs⟩ s ws)]) ∧ Below w.heap.size w w'
  with_ : ∀ (i o s k x y : Int) (rs : List (List Ed)) (A : Option Addr) (n c : Nat) (w : World), E w → RdR w A rs → rs.length = n → n ≤ 1000000 → (∀ row ∈ rs, row.length ≤ 1000000) →
    Calls Try.prog 19 #[.agg #[.int .i64 i, .int .i64 o, .slice A n c], .int .i64 s, .int .i64 k, .agg #[.int .i64 x, .int .i64 y]] w fun e w' => ∃ B j vs, e = .returned (.tuple #[.agg #[.int .i64 (Mc.wiV ⟨i, o, rs⟩ s k (x, y)).i, .int .i64 (Mc.wiV ⟨i, o, rs⟩ s k (x, y)).o, .slice B j j], .int .i64 (Mc.wiE ⟨i, o, rs⟩ s k (x, y))]) ∧
      Hid ((Mc.wiV ⟨i, o, rs⟩ s k (x, y)).r.length = j) ∧ Hid (Bld w' w.heap.size (.slice B j j) (Mc.wiV ⟨i, o, rs⟩ s k (x, y)).r vs) ∧ Below w.heap.size w w'
  same : ∀ (i o i' o' : Int) (rs qs : List (List Ed)) (A B : Option Addr) (n c k d : Nat) (w : World), E w → RdR w A rs → RdR w B qs → rs.length = n → n ≤ 1000000 → (∀ row ∈ rs, row.length ≤ 1000000) → qs.length = k → k ≤ 1000000 → (∀ row ∈ qs, row.length ≤ 1000000) →
    Calls Try.prog 17 #[.agg #[.int .i64 i, .int .i64 o, .slice A n c], .agg #[.int .i64 i', .int .i64 o', .slice B k d]] w fun e w' => e = .returned (.bool (Mc.samV ⟨i, o, rs⟩ ⟨i', o', qs⟩)) ∧ Below w.heap.size w w'

/-- What is kept while nothing below a mark changes. -/
def Kept (P : World → Prop) : Prop := ∀ w w' : World, P w → Below w.heap.size w w' → P w'
/-- What is known on the way: below the start all is as it was; what was laid down holds. -/
def MK (E : World → Prop) (w w' : World) (L : List (World → Prop)) : Prop := E w' ∧ Below w.heap.size w w' ∧ ∀ P ∈ L, Kept P ∧ P w'
/-- A machine in a box of the call's own. -/
def BxM (w : World) (g : Nat) (i o : Int) (A : Option Addr) (n c : Nat) : Prop := w.heap[g]? = some (.cells #[.int .i64 i, .int .i64 o, .slice A n c] 24)
def BxE (w : World) (g : Nat) (x y : Int) : Prop := w.heap[g]? = some (.cells #[.int .i64 x, .int .i64 y] 39)
theorem heap_lt {w : World} {g : Nat} {o : Obj} (h : w.heap[g]? = some o) : g < w.heap.size := by
  rcases Nat.lt_or_ge g w.heap.size with h1 | h1
  · exact h1
  · rw [Array.getElem?_eq_none h1] at h; cases h
section
variable {E : World → Prop} {w w1 w2 : World} {L : List (World → Prop)}
theorem MK.start (he : E w) : MK E w w [] := ⟨he, Below.refl _ _, fun _ h => by simp at h⟩
theorem MK.next (P : Pm E) (h : MK E w w1 L) (hb : Below w1.heap.size w1 w2) : MK E w w2 L := ⟨P.keep h.1 hb, below_next h.2.1 hb, fun p hp => ⟨(h.2.2 p hp).1, (h.2.2 p hp).1 _ _ (h.2.2 p hp).2 hb⟩⟩
theorem MK.put (h : MK E w w1 L) {P : World → Prop} (hk : Kept P) (hp : P w1) : MK E w w1 (P :: L) := ⟨h.1, h.2.1, fun p hp' => by
  rcases List.mem_cons.1 hp' with rfl | h1
  · exact ⟨hk, hp⟩
  · exact h.2.2 p h1⟩
theorem MK.putL (h : MK E w w1 L) {A : Option Addr} {l : List Int} (hr : Rd w1 A l) : MK E w w1 ((fun w => Rd w A l) :: L) := h.put (fun _ _ h hb => h.below hb) hr
theorem MK.putR (h : MK E w w1 L) {A : Option Addr} {l : List (List Ed)} (hr : RdR w1 A l) : MK E w w1 ((fun w => RdR w A l) :: L) := h.put (fun _ _ h hb => h.below hb) hr
theorem MK.putB (h : MK E w w1 L) {g n c : Nat} {i o : Int} {A : Option Addr} (hr : BxM w1 g i o A n c) : MK E w w1 ((fun w => BxM w g i o A n c) :: L) := h.put (fun _ _ h hb => (hb.block g (heap_lt h)).trans h) hr
theorem MK.putE (h : MK E w w1 L) {g : Nat} {x y : Int} (hr : BxE w1 g x y) : MK E w w1 ((fun w => BxE w g x y) :: L) := h.put (fun _ _ h hb => (hb.block g (heap_lt h)).trans h) hr
theorem MK.alloc (P : Pm E) (h : MK E w w1 L) (o : Obj) : MK E w (w1.alloc o) L := h.next P ((Below.refl _ _).alloc (Nat.le_refl _) o)
theorem MK.get (h : MK E w w1 L) (i : Nat) {P : World → Prop} (hi : L[i]? = some P) : P w1 := (h.2.2 P (List.mem_of_getElem? hi)).2
end
theorem BxM.cells {w : World} {g n c : Nat} {i o : Int} {A : Option Addr} (h : BxM w g i o A n c) : w.cell? ⟨g, 0, none⟩ = some (.int .i64 i) ∧ w.cell? ⟨g, 1, none⟩ = some (.int .i64 o) ∧ w.cell? ⟨g, 2, none⟩ = some (.slice A n c) := by
  refine ⟨?_, ?_, ?_⟩ <;> rw [cell_of_row w _ _ _ _ _ h] <;> rfl
theorem BxE.cells {w : World} {g : Nat} {x y : Int} (h : BxE w g x y) : w.cell? ⟨g, 0, none⟩ = some (.int .i64 x) ∧ w.cell? ⟨g, 1, none⟩ = some (.int .i64 y) ∧ w.frozen? ⟨g, 0, none⟩ = false ∧ w.frozen? ⟨g, 1, none⟩ = false := by
  refine ⟨?_, ?_, ?_, ?_⟩
  · rw [cell_of_row w _ _ _ _ _ h]; rfl
  · rw [cell_of_row w _ _ _ _ _ h]; rfl
  · unfold BxE at h; simp [World.frozen?, h]
  · unfold BxE at h; simp [World.frozen?, h]

/-! ### The law's own edge and list -/
theorem edge_any (x y : Int) (w : World) : Calls Try.prog 20 #[.int .i64 x, .int .i64 y] w fun e w' => e = .returned (.agg #[.int .i64 x, .int .i64 y]) ∧ Below w.heap.size w w' := by
  go_enter Try.func20, Try.ntmps20
  go_wp2
  go_returns
  exact ⟨rfl, (Below.refl _ _).alloc (Nat.le_refl _) _⟩
theorem list_yes (A B : Option Addr) (n d : Nat) (x : List Int) (f : Int) (w : World) (hx : Rd w A x) (hy : Rd w B x) (hn : x.length = n) (hm : n ≤ 9223372036854775807) :
    Calls Try.prog 24 #[.slice A n n, .int .i64 f, .slice B n d, .int .i64 f] w fun e w' => e = .returned (.bool true) ∧ Below w.heap.size w w' := by
  subst hn
  have hs : Hid (M.same x x = true) := M.same_yes rfl
  have hff : (f == f) = true := by simp
  have hll : ((x.length : Int) == x.length) = true := by simp
  go_enter Try.func24, Try.ntmps24
  go_wp2_with fail
  refine (same_any _ _ _ _ _ _ _ hx hy hm).mono ?_
  rintro e w1 ⟨rfl, hb1⟩
  rw [hs.out]
  go_wp2
  go_ret
  exact ⟨rfl, hb1⟩
end Go.Proofs.Ytiohfflkolopeaa
