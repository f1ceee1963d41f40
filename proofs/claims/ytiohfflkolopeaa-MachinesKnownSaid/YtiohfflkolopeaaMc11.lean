/-
  The examples of the chapter, one call each, out of what the program's functions are held to. No statement is proved here.
-/
import Derived.Test.YtiohfflkolopeaaMc10
namespace Go.Proofs.Ytiohfflkolopeaa
open Go.RowKit
open Mc (Ed Ma)

namespace Mc
abbrev r0 : List Ed := [(1, 0), (0, 1)]
abbrev r1 : List Ed := [(-1, -1), (0, 0)]
abbrev R0 : List (List Ed) := [r0, r1]
abbrev R1 : List (List Ed) := [r0, [(1, 1), (0, 0)]]
abbrev M0 : Ma := ⟨2, 2, R0⟩
abbrev M1 : Ma := ⟨2, 2, R1⟩
theorem M0_chk : chk M0 = 0 := by decide
theorem M0_conV : conV M0 = true := by
  unfold conV
  rw [if_pos M0_chk, conn_iff]
  intro s hs
  have hs : s < 2 := hs
  have h0 : Rch M0 0 0 := .here
  match s, hs with
  | 0, _ => exact h0
  | 1, _ => exact Rch.step (s := 0) (i := 0) (row := r0) (x := (1, 0)) h0 rfl rfl (by decide)
end Mc
theorem rdp_lit (w : World) (l : List Ed) (c : Array Value) (hc : c = (eC l).toArray) : RdP (w.alloc (.cells c 39)) (some ⟨w.heap.size, 0, none⟩) l := fun hp => by
  subst hc
  refine ⟨w.heap.size, 0, rfl, by simp, fun k x hk => ?_⟩
  obtain ⟨h1, h2⟩ := eC_at hk
  have hcell : ∀ j v, (eC l)[j]? = some v → (w.alloc (.cells (eC l).toArray 39)).cell? ⟨w.heap.size, 0 + j, none⟩ = some v := fun j v hj => by
    rw [World.cell?_alloc_at _ _ _ _ rfl, Nat.zero_add]
    simpa using hj
  exact ⟨hcell _ _ h1, by have := hcell _ _ h2; rwa [← Nat.add_assoc] at this⟩
theorem rdr_two (w : World) (A B : Option Addr) (l m : List Ed) (n k : Nat) (hn : l.length = n) (hk : m.length = k) (hA : A ≠ none) (hB : B ≠ none) (h1 : RdP w A l) (h2 : RdP w B m) (hm : n ≤ maxLen) (hm2 : k ≤ maxLen) :
    RdR (w.alloc (.cells #[.slice A n n, .slice B k k] 45)) (some ⟨w.heap.size, 0, none⟩) [l, m] := fun _ => by
  have hb : Below w.heap.size w (w.alloc (.cells #[.slice A n n, .slice B k k] 45)) := (Below.refl _ _).alloc (Nat.le_refl _) _
  refine ⟨w.heap.size, 0, rfl, by simp, fun j row hj => ?_⟩
  match j, hj with
  | 0, hj =>
    simp at hj
    subst hj
    refine ⟨A, n, ?_, by omega, hm, fun e => absurd e hA, h1.below hb⟩
    rw [World.cell?_alloc_at _ _ _ _ rfl, hn]; rfl
  | 1, hj =>
    simp at hj
    subst hj
    refine ⟨B, k, ?_, by omega, hm2, fun e => absurd e hB, h2.below hb⟩
    rw [World.cell?_alloc_at _ _ _ _ rfl, hk]; rfl
theorem MK.putP {E : World → Prop} {w w1 : World} {L : List (World → Prop)} (h : MK E w w1 L) {A : Option Addr} {l : List Ed} (hr : RdP w1 A l) : MK E w w1 ((fun w => RdP w A l) :: L) := h.put (fun _ _ h hb => h.below hb) hr
section
variable {E : World → Prop} (P : Pm E) (A W : Option Addr) (w : World) (he : E w)
include P he
theorem l_complete (hr : RdR w A Mc.R0) : Calls Try.prog 12 #[.agg #[.int .i64 2, .int .i64 2, .slice A 2 2]] w fun e w' => e = .returned (.tuple #[.bool false, .int .i64 0]) ∧ Below w.heap.size w w' := by
  have C := P.complete 2 2 Mc.R0 A 2 2 w he hr rfl (by decide) (by decide)
  rwa [show Mc.cmpV ⟨2, 2, Mc.R0⟩ = false by decide, show Mc.chk ⟨2, 2, Mc.R0⟩ = 0 by decide] at C
theorem l_complete1 (hr : RdR w A Mc.R1) : Calls Try.prog 12 #[.agg #[.int .i64 2, .int .i64 2, .slice A 2 2]] w fun e w' => e = .returned (.tuple #[.bool true, .int .i64 0]) ∧ Below w.heap.size w w' := by
  have C := P.complete 2 2 Mc.R1 A 2 2 w he hr rfl (by decide) (by decide)
  rwa [show Mc.cmpV ⟨2, 2, Mc.R1⟩ = true by decide, show Mc.chk ⟨2, 2, Mc.R1⟩ = 0 by decide] at C
theorem l_connected (hr : RdR w A Mc.R0) : Calls Try.prog 13 #[.agg #[.int .i64 2, .int .i64 2, .slice A 2 2]] w fun e w' => e = .returned (.tuple #[.bool true, .int .i64 0]) ∧ Below w.heap.size w w' := by
  have C := P.connected 2 2 Mc.R0 A 2 2 w he hr rfl (by decide) (by decide)
  rwa [Mc.M0_conV, show Mc.chk ⟨2, 2, Mc.R0⟩ = 0 by decide] at C
theorem l_transitions (hr : RdR w A Mc.R0) : Calls Try.prog 14 #[.agg #[.int .i64 2, .int .i64 2, .slice A 2 2]] w fun e w' => e = .returned (.tuple #[.int .i64 3, .int .i64 0]) ∧ Below w.heap.size w w' := by
  have C := P.transitions 2 2 Mc.R0 A 2 2 w he hr rfl (by decide) (by decide)
  rwa [show Mc.trV ⟨2, 2, Mc.R0⟩ = 3 by decide, show Mc.chk ⟨2, 2, Mc.R0⟩ = 0 by decide] at C
theorem l_undefined (hr : RdR w A Mc.R0) : Calls Try.prog 15 #[.agg #[.int .i64 2, .int .i64 2, .slice A 2 2]] w fun e w' => ∃ B, e = .returned (.tuple #[.slice B 1 1, .int .i64 0]) ∧ RdP w' B [(1, 0)] ∧ Below w.heap.size w w' := by
  have C := P.undefined 2 2 Mc.R0 A 2 2 w he hr rfl (by decide) (by decide)
  rw [show Mc.unV ⟨2, 2, Mc.R0⟩ = [(1, 0)] by decide, show Mc.chk ⟨2, 2, Mc.R0⟩ = 0 by decide] at C
  refine C.mono ?_
  rintro e w' ⟨B, k, rfl, hk, hr, hb⟩
  obtain rfl : 1 = k := hk.out
  exact ⟨B, rfl, hr, hb⟩
theorem l_check (hr : RdR w A Mc.R0) : Calls Try.prog 16 #[.agg #[.int .i64 2, .int .i64 2, .slice A 2 2]] w fun e w' => e = .returned (.int .i64 0) ∧ Below w.heap.size w w' := by
  have C := P.check 2 2 Mc.R0 A 2 2 w he hr rfl (by decide) (by decide)
  rwa [show Mc.chk ⟨2, 2, Mc.R0⟩ = 0 by decide] at C
theorem l_run4 (hr : RdR w A Mc.R0) (hw : Rd w W [1, 0, 1, 1]) : Calls Try.prog 22 #[.agg #[.int .i64 2, .int .i64 2, .slice A 2 2], .int .i64 0, .slice W 4 4] w fun e w' => ∃ B, e = .returned (.tuple #[.slice B 4 4, .int .i64 0]) ∧ Rd w' B [1, 0, 0, 1] ∧ Below w.heap.size w w' := by
  have C := P.run 2 2 0 Mc.R0 [1, 0, 1, 1] A W 2 2 4 4 w he hr hw rfl (by decide) (by decide) rfl (by decide)
  rw [show Mc.runV ⟨2, 2, Mc.R0⟩ 0 [1, 0, 1, 1] = [1, 0, 0, 1] by decide, show Mc.runE ⟨2, 2, Mc.R0⟩ 0 [1, 0, 1, 1] = 0 by decide] at C
  refine C.mono ?_
  rintro e w' ⟨B, k, rfl, hk, hr, hb⟩
  obtain rfl : 4 = k := hk.out
  exact ⟨B, rfl, hr, hb⟩
theorem l_run3 (hr : RdR w A Mc.R0) (hw : Rd w W [0, 0, 1]) : Calls Try.prog 22 #[.agg #[.int .i64 2, .int .i64 2, .slice A 2 2], .int .i64 0, .slice W 3 3] w fun e w' => ∃ B, e = .returned (.tuple #[.slice B 3 3, .int .i64 0]) ∧ Rd w' B [0, -1, -1] ∧ Below w.heap.size w w' := by
  have C := P.run 2 2 0 Mc.R0 [0, 0, 1] A W 2 2 3 3 w he hr hw rfl (by decide) (by decide) rfl (by decide)
  rw [show Mc.runV ⟨2, 2, Mc.R0⟩ 0 [0, 0, 1] = [0, -1, -1] by decide, show Mc.runE ⟨2, 2, Mc.R0⟩ 0 [0, 0, 1] = 0 by decide] at C
  refine C.mono ?_
  rintro e w' ⟨B, k, rfl, hk, hr, hb⟩
  obtain rfl : 3 = k := hk.out
  exact ⟨B, rfl, hr, hb⟩
theorem l_after4 (hr : RdR w A Mc.R0) (hw : Rd w W [1, 0, 1, 1]) : Calls Try.prog 23 #[.agg #[.int .i64 2, .int .i64 2, .slice A 2 2], .int .i64 0, .slice W 4 4] w fun e w' => e = .returned (.tuple #[.int .i64 0, .int .i64 0]) ∧ Below w.heap.size w w' := by
  have C := P.after 2 2 0 Mc.R0 [1, 0, 1, 1] A W 2 2 4 4 w he hr hw rfl (by decide) (by decide) rfl (by decide)
  rwa [show Mc.aftV ⟨2, 2, Mc.R0⟩ 0 [1, 0, 1, 1] = 0 by decide, show Mc.runE ⟨2, 2, Mc.R0⟩ 0 [1, 0, 1, 1] = 0 by decide] at C
theorem l_after3 (hr : RdR w A Mc.R0) (hw : Rd w W [0, 0, 1]) : Calls Try.prog 23 #[.agg #[.int .i64 2, .int .i64 2, .slice A 2 2], .int .i64 0, .slice W 3 3] w fun e w' => e = .returned (.tuple #[.int .i64 (-1), .int .i64 0]) ∧ Below w.heap.size w w' := by
  have C := P.after 2 2 0 Mc.R0 [0, 0, 1] A W 2 2 3 3 w he hr hw rfl (by decide) (by decide) rfl (by decide)
  rwa [show Mc.aftV ⟨2, 2, Mc.R0⟩ 0 [0, 0, 1] = -1 by decide, show Mc.runE ⟨2, 2, Mc.R0⟩ 0 [0, 0, 1] = 0 by decide] at C
theorem l_step (s k x y f : Int) (hr : RdR w A Mc.R0) (h1 : Mc.stV ⟨2, 2, Mc.R0⟩ s k = (x, y)) (h2 : Mc.stE ⟨2, 2, Mc.R0⟩ s k = f) : Calls Try.prog 18 #[.agg #[.int .i64 2, .int .i64 2, .slice A 2 2], .int .i64 s, .int .i64 k] w fun e w' => e = .returned (.tuple #[.agg #[.int .i64 x, .int .i64 y], .int .i64 f]) ∧ Below w.heap.size w w' := by
  have C := P.step 2 2 s k Mc.R0 A 2 2 w he hr rfl (by decide) (by decide)
  rwa [h1, h2] at C
theorem l_with1 (hr : RdR w A Mc.R0) : Calls Try.prog 19 #[.agg #[.int .i64 2, .int .i64 2, .slice A 2 2], .int .i64 1, .int .i64 0, .agg #[.int .i64 1, .int .i64 1]] w fun e w' => ∃ B vs, e = .returned (.tuple #[.agg #[.int .i64 2, .int .i64 2, .slice B 2 2], .int .i64 0]) ∧ Hid (Bld w' w.heap.size (.slice B 2 2) Mc.R1 vs) ∧ Below w.heap.size w w' := by
  have C := P.with_ 2 2 1 0 1 1 Mc.R0 A 2 2 w he hr rfl (by decide) (by decide)
  rw [show Mc.wiV ⟨2, 2, Mc.R0⟩ 1 0 (1, 1) = ⟨2, 2, Mc.R1⟩ by decide, show Mc.wiE ⟨2, 2, Mc.R0⟩ 1 0 (1, 1) = 0 by decide] at C
  refine C.mono ?_
  rintro e w' ⟨B, k, vs, rfl, hk, hB, hb⟩
  obtain rfl : 2 = k := hk.out
  exact ⟨B, vs, rfl, hB, hb⟩
theorem l_with0 (x y : Int) (hr : RdR w A Mc.R0) (h1 : Mc.wiV ⟨2, 2, Mc.R0⟩ 1 0 (x, y) = ⟨0, 0, []⟩) (h2 : Mc.wiE ⟨2, 2, Mc.R0⟩ 1 0 (x, y) = 1) : Calls Try.prog 19 #[.agg #[.int .i64 2, .int .i64 2, .slice A 2 2], .int .i64 1, .int .i64 0, .agg #[.int .i64 x, .int .i64 y]] w fun e w' => ∃ B, e = .returned (.tuple #[.agg #[.int .i64 0, .int .i64 0, .slice B 0 0], .int .i64 1]) ∧ Below w.heap.size w w' := by
  have C := P.with_ 2 2 1 0 x y Mc.R0 A 2 2 w he hr rfl (by decide) (by decide)
  rw [h1, h2] at C
  refine C.mono ?_
  rintro e w' ⟨B, k, vs, rfl, hk, hB, hb⟩
  obtain rfl : 0 = k := hk.out
  exact ⟨B, rfl, hb⟩
end
theorem MK.env {E : World → Prop} {w w1 : World} {L : List (World → Prop)} (h : MK E w w1 L) : E w1 := h.1
theorem BxM.frozen {w : World} {g n c : Nat} {i o : Int} {A : Option Addr} (h : BxM w g i o A n c) : w.frozen? ⟨g, 0, none⟩ = false ∧ w.frozen? ⟨g, 1, none⟩ = false ∧ w.frozen? ⟨g, 2, none⟩ = false := by
  unfold BxM at h
  refine ⟨?_, ?_, ?_⟩ <;> simp [World.frozen?, h]
/-- Three cells, written into a box of the call's own. -/
abbrev set3 (w : World) (g : Nat) (x y v : Value) : World := ((w.setCell ⟨g, 0, none⟩ x).setCell ⟨g, 1, none⟩ y).setCell ⟨g, 2, none⟩ v
theorem BxM.set3 {w : World} {g n c n' c' : Nat} {i o i' o' : Int} {A A' : Option Addr} (h : BxM w g i o A n c) : BxM (set3 w g (.int .i64 i') (.int .i64 o') (.slice A' n' c')) g i' o' A' n' c' := by
  unfold BxM at h ⊢
  simp [World.setCell, Array.getElem?_modify, h]
theorem below_set3 {a w : World} {B g : Nat} (h : Below B a w) (hB : B ≤ g) (x y v : Value) : Below B a (set3 w g x y v) :=
  ((h.setCell (p := ⟨g, 0, none⟩) hB _).setCell (p := ⟨g, 1, none⟩) hB _).setCell (p := ⟨g, 2, none⟩) hB _
theorem Bld.set3 {w : World} {base g : Nat} {V : Value} {rs : List (List Ed)} {vs : List Value} (h : Bld w base V rs vs) (hg : g < base) (x y v : Value) : Bld (set3 w g x y v) base V rs vs :=
  ((h.kept (grown_setCell w ⟨g, 0, none⟩ x) hg).kept (grown_setCell _ ⟨g, 1, none⟩ y) hg).kept (grown_setCell _ ⟨g, 2, none⟩ v) hg
theorem Bld.two {w : World} {base : Nat} {B : Option Addr} {rs : List (List Ed)} {vs : List Value} {n c : Nat} (h : Bld w base (.slice B n c) rs vs) : RdR w B rs := by
  obtain ⟨A', c', e1, _, _, _, hr'⟩ := h.rd
  injection e1 with e1
  subst e1
  exact hr'
abbrev zM : Obj := .cells #[.int .i64 0, .int .i64 0, .slice none 0 0] 24
theorem rd_lit (w : World) (zs : List Int) : Rd (w.alloc (.cells (ints zs).toArray 3)) (some ⟨w.heap.size, 0, none⟩) zs := Rd.of_block (heap_alloc_new w _)
end Go.Proofs.Ytiohfflkolopeaa
