/-
  Contract: the closure of renumbered, and its map. No statement is proved here.
-/
import Derived.Test.YtldpfbmkmehadaaWm
import Derived.Test.YtldpfbmkmehadaaWkZ
import Derived.Maps.OwnSet
import Derived.Maps.OwnOps
import Derived.WalkKit
namespace Go.Proofs.Ytldpfbmkmehadaa
open Go.RowKit Go.Maps
open Mc (Ed Ma)

theorem lawI : Keyed Try.prog 3 := int_keyed Try.underlying3
theorem zeroI (w : World) : (zeroValue 3).run Try.prog w = .ok (.int .i64 0) w := by kernel_rfl
theorem wf_i64 {z : Int} (h1 : -9223372036854775808 ≤ z) (h2 : z ≤ 9223372036854775807) : (Lit.int .i64 z).wf = true := WalkArith.wf_i64 ⟨h1, h2⟩
theorem keyI {z : Int} (h1 : -9223372036854775808 ≤ z) (h2 : z ≤ 9223372036854775807) : keyOf Try.prog 3 (.int .i64 z) = some (.int .i64 z) := keyOf_int_mk Try.underlying3 (wf_i64 h1 h2)
/-- The map of renumbered after a list: each state with its place. -/
def MpR (D : DataW Unit) (l : List Int) : Prop := ∀ (k : Nat) (z : Int), l[k]? = some z → D.atKey (.int .i64 z) (.lit (.int .i64 0)) = .lit (.int .i64 k)
theorem MpR.start : MpR (.map []) [] := fun k z h => by simp at h
theorem MpR.new {D : DataW Unit} {l : List Int} {z : Int} {n : Nat} (h : MpR D l) (ht : Tidy D) (hz : ¬ z ∈ l) (hn : l.length = n) : MpR (D.put (.int .i64 z) (.lit (.int .i64 n))) (l ++ [z]) := by
  subst hn
  have hne : ∀ y : Int, y ≠ z → (Lit.int .i64 y) ≠ .int .i64 z := fun y hy e => hy (by injection e)
  intro k y hk
  rw [List.getElem?_append] at hk
  split at hk
  · have hyz : y ≠ z := fun e => hz (e ▸ List.mem_of_getElem? hk)
    rw [atKey_put_other (hne y hyz), h k y hk]
  · rename_i hge
    have hk0 : k = l.length := by
      have := (List.getElem?_eq_some_iff.1 hk).1
      simp at this
      omega
    subst hk0
    simp at hk
    subst hk
    rw [atKey_put_same ht.isMap (show WideAt.IsKeyLit (.int .i64 z) from trivial)]
/-- The map in block b, its box in block x. -/
structure MX (w : World) (b x : Nat) (n : Nat) (D : DataW Unit) : Prop where
  own : w.ownsMap Try.prog 3 (plainElem (H := Unit) Try.prog 3) b n D
  box : w.cell? ⟨x, 0, none⟩ = some (.map (some b))
theorem MX.below {w w' : World} {b x n : Nat} {D : DataW Unit} (h : MX w b x n D) (k : Below w.heap.size w w') : MX w' b x n D := by
  obtain ⟨es, cl, h1, h2⟩ := h.own
  obtain ⟨o, ho, _⟩ := cell_block h.box
  exact ⟨⟨es, cl, (k.block b (heap_lt h1)).trans h1, h2⟩, (k.cell (p := ⟨x, 0, none⟩) (heap_lt ho)).trans h.box⟩
theorem MX.far {w : World} {b x n g off : Nat} {D : DataW Unit} (h : MX w b x n D) (h1 : b ≠ g) (h2 : x ≠ g) (u : Value) : MX (w.setCell ⟨g, off, none⟩ u) b x n D :=
  ⟨h.own.setCell (a := ⟨g, off, none⟩) h1 u, (World.cell?_of_block (w := w) (a := ⟨x, 0, none⟩) (Below.heap_setCell w ⟨g, off, none⟩ u x h2)).trans h.box⟩
set_option maxRecDepth 100000 in
set_option maxHeartbeats 1000000 in
theorem renum1_none (x : Nat) (y : Int) (w : World) :
    Calls Try.prog 56 #[.agg #[.int .i64 (-1), .int .i64 y], .pointer (some ⟨x, 0, none⟩)] w fun e w' => e = .returned (.agg #[.int .i64 (-1), .int .i64 y]) ∧ Below w.heap.size w w' := by
  go_enter Try.func56, Try.ntmps56
  go_wp2
  go_returns
  exact ⟨rfl, ((Below.refl _ _).alloc (Nat.le_refl _) _).alloc (by simp) _⟩
set_option maxRecDepth 100000 in
set_option maxHeartbeats 1000000 in
theorem renum1_some (b x n : Nat) (D : DataW Unit) (l : List Int) (t : Int) (k : Nat) (y : Int) (w : World) (hM : MX w b x n D) (hD : MpR D l) (hk : l[k]? = some t) (h0 : 0 ≤ t) (h1 : t ≤ 1000000) :
    Calls Try.prog 56 #[.agg #[.int .i64 t, .int .i64 y], .pointer (some ⟨x, 0, none⟩)] w fun e w' => e = .returned (.agg #[.int .i64 k, .int .i64 y]) ∧ Below w.heap.size w w' := by
  have hne : (t == -1) = false := by rw [beq_eq_false_iff_ne]; omega
  have hat := hD k t hk
  have hkey := keyI (z := t) (by omega) (by omega)
  have hxl : x < w.heap.size := by
    obtain ⟨o, ho, _⟩ := cell_block hM.box
    exact heap_lt ho
  have hbA : Below w.heap.size w ((w.alloc (.cells #[.int .i64 t, .int .i64 y] 49)).alloc (.cells #[.int .i64 0, .int .i64 0] 49)) := ((Below.refl _ _).alloc (Nat.le_refl _) _).alloc (by simp) _
  have hM2 := hM.below hbA
  have hbx := hM2.box
  have hmap := hM2.own
  have HAT := Lib.hid hat
  clear hD hk hat hM hbA hM2
  go_enter Try.func56, Try.ntmps56
  go_wp2_with (at_lookup; refine wpList_lookup_own_int _ rfl _ _ 101 rfl 3 3 .i64 lawI Try.underlying101 Try.underlying3 (zeroI _) b n D rfl hmap _ _ rfl hkey ?_; intro c2 hat hwc; obtain rfl : c2 = (k : Int) := (by have h := HAT.out.symm.trans hat; injection h with h; injection h with _ h; exact h.symm); clear hat hwc)
  go_returns
  exact ⟨rfl, ((Below.refl _ _).alloc (Nat.le_refl _) _).alloc (by simp) _⟩
end Go.Proofs.Ytldpfbmkmehadaa
