/-
  Contracts: an edge that fits; Check of a machine. No statement is proved here.
-/
import Derived.Test.YtiohfflkolopeaaMd1
namespace Go.Proofs.Ytiohfflkolopeaa
open Go.RowKit
open Mc (Ed Ma Pe)

theorem run_eql_edge (a b a' b' : Int) (w : World) : (binOp .eql 39 (.agg #[.int .i64 a, .int .i64 b]) (.agg #[.int .i64 a', .int .i64 b'])).run Try.prog w = .ok (.bool ((a == a') && (b == b'))) w := by
  rw [run_eql_struct, run_equal_edge]; rfl

theorem fits_any (i o : Int) (A : Option Addr) (n c : Nat) (x y : Int) (w : World) :
    Calls Try.prog 41 #[.agg #[.int .i64 i, .int .i64 o, .slice A n c], .agg #[.int .i64 x, .int .i64 y]] w fun e w' => e = .returned (.bool (Mc.okE n o (x, y))) ∧ Below w.heap.size w w' := by
  have p0 : ((w.alloc (.cells #[.int .i64 i, .int .i64 o, .slice A n c] 24)).alloc (.cells #[.int .i64 x, .int .i64 y] 39)).cell? ⟨w.heap.size + 1, 0, none⟩ = some (.int .i64 x) := by rw [World.cell?_alloc_at _ _ _ _ (by simp)]; rfl
  have p1 : ((w.alloc (.cells #[.int .i64 i, .int .i64 o, .slice A n c] 24)).alloc (.cells #[.int .i64 x, .int .i64 y] 39)).cell? ⟨w.heap.size + 1, 1, none⟩ = some (.int .i64 y) := by rw [World.cell?_alloc_at _ _ _ _ (by simp)]; rfl
  have HE := run_eql_edge x y (-1) (-1)
  have hb : Below w.heap.size w ((w.alloc (.cells #[.int .i64 i, .int .i64 o, .slice A n c] 24)).alloc (.cells #[.int .i64 x, .int .i64 y] 39)) := ((Below.refl _ _).alloc (Nat.le_refl _) _).alloc (by simp) _
  by_cases h0 : x = -1 ∧ y = -1
  · obtain ⟨rfl, rfl⟩ := h0
    have hv := Lib.hid (Mc.okE_none (n := n) (o := o) (x := (-1, -1)) rfl rfl)
    go_enter Try.func41, Try.ntmps41
    go_wp2
    go_ret
    exact ⟨ret_bool hv.out.symm, hb⟩
  · have hne : ((x == -1) && (y == -1)) = false := by
      rw [Bool.eq_false_iff]; intro h; simp at h; exact h0 h
    rw [hne] at HE
    by_cases g1 : x < 0
    · have hv := Lib.hid (Mc.okE_out (n := n) (o := o) (x := (x, y)) h0 (.inl g1))
      clear h0 hne
      go_enter Try.func41, Try.ntmps41
      go_wp2
      go_ret
      exact ⟨ret_bool hv.out.symm, hb⟩
    by_cases g2 : (n : Int) ≤ x
    · have hv := Lib.hid (Mc.okE_out (n := n) (o := o) (x := (x, y)) h0 (.inr (.inl g2)))
      clear h0 hne
      go_enter Try.func41, Try.ntmps41
      go_wp2
      go_ret
      exact ⟨ret_bool hv.out.symm, hb⟩
    by_cases g3 : y < 0
    · have hv := Lib.hid (Mc.okE_out (n := n) (o := o) (x := (x, y)) h0 (.inr (.inr (.inl g3))))
      clear h0 hne
      go_enter Try.func41, Try.ntmps41
      go_wp2
      go_ret
      exact ⟨ret_bool hv.out.symm, hb⟩
    have hv : Hid (Mc.okE n o (x, y) = decide (y < o)) := by
      show _ = _
      by_cases g4 : y < o
      · rw [Mc.okE_in (by simp only; omega) (by simp only; omega) (by simp only; omega) (by simp only; omega), decide_eq_true g4]
      · rw [Mc.okE_out h0 (.inr (.inr (.inr (by simp only; omega)))), decide_eq_false g4]
    clear h0 hne
    go_enter Try.func41, Try.ntmps41
    go_wp2
    go_ret
    exact ⟨ret_bool hv.out.symm, hb⟩

theorem BxM.mvC {W W' : World} {g n c B : Nat} {i o : Int} {A : Option Addr} (h : BxM W g i o A n c) (k : Cells B W W') : BxM W' g i o A n c := k.same _ _ h rfl
theorem BxM.mvB {W W' : World} {g n c : Nat} {i o : Int} {A : Option Addr} (h : BxM W g i o A n c) (k : Below W.heap.size W W') : BxM W' g i o A n c := (k.block g (heap_lt h)).trans h
theorem BxM.farS {W : World} {g n c b : Nat} {i o : Int} {A : Option Addr} (h : BxM W g i o A n c) (hne : g ≠ b) {off : Nat} (u : Value) : BxM (W.setCell ⟨b, off, none⟩ u) g i o A n c := (Below.heap_setCell W ⟨b, off, none⟩ u g hne).trans h
theorem BxM.new (w : World) (i o : Int) (A : Option Addr) (n c : Nat) : BxM (boxM w i o A n c) w.heap.size i o A n c := World.alloc_heap_new w _
theorem BxM.newE {w : World} {g : Nat} (e : w.heap.size = g) (i o : Int) (A : Option Addr) (n c : Nat) : BxM (boxM w i o A n c) g i o A n c := e ▸ BxM.new w i o A n c
theorem BxE.new (w : World) (x y : Int) : BxE (w.alloc (.cells #[.int .i64 x, .int .i64 y] 39)) w.heap.size x y := World.alloc_heap_new w _
theorem BxE.mvC {W W' : World} {g B : Nat} {x y : Int} (h : BxE W g x y) (k : Cells B W W') : BxE W' g x y := k.same _ _ h rfl
theorem Below.step_ {B : Nat} {w W W' : World} (h : Below B w W) (hB : B ≤ W.heap.size) (k : Below W.heap.size W W') : Below B w W' := h.trans (k.mono hB)
theorem Cells.of_below' {W W' : World} (h : Below W.heap.size W W') : Cells W.heap.size W W' := Cells.of_below h (Nat.le_refl _)

/-- A machine in a box, a result in another one: how a call of the program lies in memory. -/
structure Fr1 (w : World) (g r : Nat) (i o : Int) (A : Option Addr) (n c : Nat) (v : Value) (W : World) : Prop where
  bel : Below w.heap.size w W
  bm : BxM W g i o A n c
  br : Box W r v
  g0 : w.heap.size ≤ g
  r0 : w.heap.size ≤ r
  ne : g ≠ r
section
variable {w W W' : World} {g r : Nat} {i o : Int} {A : Option Addr} {n c : Nat} {v : Value}
theorem Fr1.cells {B : Nat} (h : Fr1 w g r i o A n c v W) (k : Cells B W W') (hB : w.heap.size ≤ B) : Fr1 w g r i o A n c v W' :=
  ⟨k.below hB h.bel, h.bm.mvC k, h.br.cells k, h.g0, h.r0, h.ne⟩
theorem Fr1.below (h : Fr1 w g r i o A n c v W) (k : Below W.heap.size W W') : Fr1 w g r i o A n c v W' := h.cells (Cells.of_below' k) h.bel.size
theorem Fr1.put (h : Fr1 w g r i o A n c v W) (u : Value) : Fr1 w g r i o A n c u (W.setCell ⟨r, 0, none⟩ u) :=
  ⟨h.bel.setCell (p := ⟨r, 0, none⟩) h.r0 u, h.bm.farS h.ne u, h.br.set_ u, h.g0, h.r0, h.ne⟩
end
theorem marked_defers (a : Act) (N : Nat) : (marked a N).defers = { target := .collected N, args := #[] } :: a.defers := rfl
theorem Fr1.shut {w W : World} {g r : Nat} {i o : Int} {A : Option Addr} {n c : Nat} {v : Value} (h : Fr1 w g r i o A n c v W) {N : Nat} (hN : W.heap[N]? = some (.deferred (some []))) (hw : w.heap.size ≤ N) : Fr1 w g r i o A n c v (W.putObj N (.deferred none)) :=
  h.cells (B := w.heap.size) (Cells.put _ hN rfl hw) (Nat.le_refl _)
end Go.Proofs.Ytiohfflkolopeaa
