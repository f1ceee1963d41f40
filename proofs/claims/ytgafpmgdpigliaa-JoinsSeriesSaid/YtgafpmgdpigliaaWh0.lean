/-
  Words that walks with two machines of their own share. No statement is proved here.
-/
import Derived.Test.YtgafpmgdpigliaaWd0
import Derived.Test.YtgafpmgdpigliaaWcZ
namespace Go.Proofs.Ytgafpmgdpigliaa
open Go.RowKit
open Mc (Ed Ma)

abbrev set3 (w : World) (g : Nat) (x y v : Value) : World := ((w.setCell ⟨g, 0, none⟩ x).setCell ⟨g, 1, none⟩ y).setCell ⟨g, 2, none⟩ v
theorem BxM.set3 {w : World} {g n c n' c' : Nat} {i o i' o' : Int} {A A' : Option Addr} (h : BxM w g i o A n c) : BxM (set3 w g (.int .i64 i') (.int .i64 o') (.slice A' n' c')) g i' o' A' n' c' := by
  unfold BxM at h ⊢
  simp [World.setCell, Array.getElem?_modify, h]
theorem below_set3 {a w : World} {B g : Nat} (h : Below B a w) (hB : B ≤ g) (x y v : Value) : Below B a (set3 w g x y v) :=
  ((h.setCell (p := ⟨g, 0, none⟩) hB _).setCell (p := ⟨g, 1, none⟩) hB _).setCell (p := ⟨g, 2, none⟩) hB _
theorem Bld.set3 {w : World} {base g : Nat} {V : Value} {rs : List (List Ed)} {vs : List Value} (h : Bld w base V rs vs) (hg : g < base) (x y v : Value) : Bld (set3 w g x y v) base V rs vs :=
  ((h.kept (grown_setCell w ⟨g, 0, none⟩ x) hg).kept (grown_setCell _ ⟨g, 1, none⟩ y) hg).kept (grown_setCell _ ⟨g, 2, none⟩ v) hg
theorem Bld.two {w : World} {base : Nat} {B : Option Addr} {rs : List (List Ed)} {vs : List Value} {n c : Nat} (h : Bld w base (.slice B n c) rs vs) : RdR w B rs := by
  obtain ⟨A', c', e1, _, _, _, hr'⟩ := h.rd
  injection e1 with e1
  subst e1
  exact hr'
abbrev zM : Obj := .cells #[.int .i64 0, .int .i64 0, .slice none 0 0] 24
theorem bA {w w' : World} (h : Below w.heap.size w w') (o : Obj) : Below w.heap.size w (w'.alloc o) := h.alloc h.size o
theorem bD {w w' : World} (h : Below w.heap.size w w') : Below w.heap.size w w'.drew := h.drew
theorem bS {w w' : World} (h : Below w.heap.size w w') {g j : Nat} (hg : w.heap.size ≤ g) (v : Value) : Below w.heap.size w (w'.setCell ⟨g, j, none⟩ v) := h.setCell (p := ⟨g, j, none⟩) hg v
/-- Between a mark and the end of an older world nothing has changed. -/
structure Mid (base : Nat) (a w : World) : Prop where
  sz : a.heap.size ≤ w.heap.size
  eq : ∀ b, base ≤ b → b < a.heap.size → w.heap[b]? = a.heap[b]?
section
variable {base : Nat} {a w w' : World}
theorem Mid.refl (base : Nat) (a : World) : Mid base a a := ⟨Nat.le_refl _, fun _ _ _ => rfl⟩
theorem Mid.alloc (h : Mid base a w) (o : Obj) : Mid base a (w.alloc o) := ⟨by have := h.sz; simp; omega, fun b h1 h2 => (Below.heap_alloc _ _ _ (by have := h.sz; omega)).trans (h.eq b h1 h2)⟩
theorem Mid.drew (h : Mid base a w) : Mid base a w.drew := ⟨h.sz, h.eq⟩
theorem Mid.next (h : Mid base a w) (k : Below w.heap.size w w') : Mid base a w' := ⟨Nat.le_trans h.sz k.size, fun b h1 h2 => (k.block b (by have := h.sz; omega)).trans (h.eq b h1 h2)⟩
theorem Mid.set (h : Mid base a w) {p : Addr} (hg : p.block < base ∨ a.heap.size ≤ p.block) (v : Value) : Mid base a (w.setCell p v) := ⟨by simpa [World.setCell] using h.sz, fun b h1 h2 => (Below.heap_setCell _ _ _ _ (by omega)).trans (h.eq b h1 h2)⟩
theorem Mid.set3 (h : Mid base a w) {g : Nat} (hg : g < base ∨ a.heap.size ≤ g) (x y v : Value) : Mid base a (Go.Proofs.Ytgafpmgdpigliaa.set3 w g x y v) := ((h.set (p := ⟨g, 0, none⟩) hg x).set (p := ⟨g, 1, none⟩) hg y).set (p := ⟨g, 2, none⟩) hg v
end
section
variable {w w' : World} {g G n c : Nat} {i o : Int} {A : Option Addr}
theorem BxM.al (h : BxM w g i o A n c) (ob : Obj) : BxM (w.alloc ob) g i o A n c := (Below.heap_alloc _ _ _ (heap_lt h)).trans h
theorem BxM.to (h : BxM w g i o A n c) (k : Below w.heap.size w w') : BxM w' g i o A n c := (k.block _ (heap_lt h)).trans h
/-- What a box of the call's own holds, and that it may be written. -/
theorem BxM.all (h : BxM w g i o A n c) : (w.cell? ⟨g, 0, none⟩ = some (.int .i64 i) ∧ w.cell? ⟨g, 1, none⟩ = some (.int .i64 o) ∧ w.cell? ⟨g, 2, none⟩ = some (.slice A n c)) ∧ (w.frozen? ⟨g, 0, none⟩ = false ∧ w.frozen? ⟨g, 1, none⟩ = false ∧ w.frozen? ⟨g, 2, none⟩ = false) ∧ g < w.heap.size := ⟨h.cells, h.frozen, heap_lt h⟩
theorem BxM.far3 (h : BxM w g i o A n c) (hne : g ≠ G) (x y v : Value) : BxM (Go.Proofs.Ytgafpmgdpigliaa.set3 w G x y v) g i o A n c := (Below.heap_setCell _ _ _ _ hne).trans ((Below.heap_setCell _ _ _ _ hne).trans ((Below.heap_setCell _ _ _ _ hne).trans h))
theorem BxM.new1 (w : World) : BxM (w.alloc zM) w.heap.size 0 0 none 0 0 := heap_alloc_new w _
end
/-- What Of hands back, in memory of its own, in the words of a walk. -/
theorem mofB_at (a b d : Int) (p : Bool) (A : Option Addr) (c : Nat) (es : List Int) (n i o : Nat) (w : World) (hr : Rd16 w A es) (hl : es.length ≤ 9223372036854775807) (ha : 0 ≤ a ∧ a ≤ 255) (hb : 0 ≤ b ∧ b ≤ 255) (hd : 0 ≤ d ∧ d ≤ 255)
    (hn : 1 + a % 6 = n) (hi : 1 + b % 3 = i) (ho : 1 + d % 3 = o) :
    Calls Try.prog 16 #[.agg #[.int .u8 a, .int .u8 b, .int .u8 d, .bool p, .slice A es.length c]] w fun e w' => ∃ B k vs, e = .returned (.agg #[.int .i64 i, .int .i64 o, .slice B n k]) ∧ Hid (Bld w' w.heap.size (.slice B n k) (Mc.mkN p n i o es).r vs) ∧ Below w.heap.size w w' := by
  refine (mof_any a b d p A c es n i o w hr hl ha hb hd hn hi ho).mono ?_
  rintro e w' ⟨V, vs, rfl, hB, hbl⟩
  obtain ⟨B, k, rfl, _, _, _, hrd⟩ := hB.out.rd
  rw [Mc.mkN_len] at hB ⊢
  exact ⟨B, k, vs, rfl, hB, hbl⟩
end Go.Proofs.Ytgafpmgdpigliaa
