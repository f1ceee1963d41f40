/-
  A loop over a function that yields plain values: what the iterator promises ('Gives'), and the law of the loop. No statement is proved here.
-/
import Derived.Test.YtjodhihcckcefaaProg
import Derived.Test.YtjodhihcckcefaaBaZ
import Derived.RangeFuncNested
import Derived.RangeFuncBound
import Derived.Shelf.Abstract
import Derived.Shelf.RegionOpen
import Derived.WalkKit
import Derived.OwnWalkIn
import Derived.TacticsInMore
import Derived.LoopNIn
import Derived.LoopIn
namespace Go.Proofs.Ytjodhihcckcefaa
open Go.RowKit

/-- Whatever is cells lies as it lay, but the blocks of D. -/
def KC (D : Nat → Prop) (W W' : World) : Prop := W.heap.size ≤ W'.heap.size ∧ ∀ b o, ¬ D b → W.heap[b]? = some o → o.isCells = true → W'.heap[b]? = some o
/-- Every block lies as it lay, but those of D. -/
def KA (D : Nat → Prop) (W W' : World) : Prop := W.heap.size ≤ W'.heap.size ∧ ∀ b o, ¬ D b → W.heap[b]? = some o → W'.heap[b]? = some o
/-- What is cells lies as it lay, and what lies below B. -/
structure Cells (B : Nat) (W W' : World) : Prop where
  os : W'.os = W.os
  tape : W'.tape = W.tape
  output : W'.output = W.output
  size : W.heap.size ≤ W'.heap.size
  block : ∀ b, b < B → W'.heap[b]? = W.heap[b]?
  same : ∀ (b : Nat) (o : Obj), W.heap[b]? = some o → o.isCells = true → W'.heap[b]? = some o

theorem hlt {W : World} {b : Nat} {o : Obj} (h : W.heap[b]? = some o) : b < W.heap.size := (Array.getElem?_eq_some_iff.1 h).1
theorem Cells.of_below {B : Nat} {W W' : World} (h : Below W.heap.size W W') (hB : B ≤ W.heap.size) : Cells B W W' :=
  ⟨h.os, h.tape, h.output, h.size, fun b hb => h.block b (by omega), fun b o ho _ => (h.block b (hlt ho)).trans ho⟩
theorem Cells.put {B : Nat} {W : World} {l : Nat} {o : Obj} (o' : Obj) (h : W.heap[l]? = some o) (hc : o.isCells = false) (hB : B ≤ l) : Cells B W (W.putObj l o') :=
  ⟨rfl, rfl, rfl, by simp, fun b hb => World.putObj_heap_other (by omega), fun b _ ho hc2 => by
    by_cases e : b = l
    · subst e; rw [h] at ho; cases ho; rw [hc] at hc2; cases hc2
    · exact (World.putObj_heap_other e).trans ho⟩
theorem KC.trans {D : Nat → Prop} {A B C : World} (h : KC D A B) (k : KC D B C) : KC D A C :=
  ⟨Nat.le_trans h.1 k.1, fun b o hp ho hc => k.2 b o hp (h.2 b o hp ho hc) hc⟩
theorem KC.of_cells {D : Nat → Prop} {B : Nat} {W W' : World} (h : Cells B W W') : KC D W W' := ⟨h.size, fun b o _ ho hc => h.same b o ho hc⟩
theorem KC.of_all {D : Nat → Prop} {W W' : World} (h : KA D W W') : KC D W W' := ⟨h.1, fun b o hp ho _ => h.2 b o hp ho⟩
theorem KA.trans {D : Nat → Prop} {A B C : World} (h : KA D A B) (k : KA D B C) : KA D A C :=
  ⟨Nat.le_trans h.1 k.1, fun b o hp ho => k.2 b o hp (h.2 b o hp ho)⟩
theorem KA.of_below {D : Nat → Prop} {W W' : World} (h : Below W.heap.size W W') : KA D W W' := ⟨h.size, fun b _ _ ho => (h.block b (hlt ho)).trans ho⟩
theorem KA.refl {D : Nat → Prop} (W : World) : KA D W W := KA.of_below (Below.refl _ _)
theorem KA.set {D : Nat → Prop} {b : Nat} {off : Nat} (W : World) (hb : D b) (u : Value) : KA D W (W.setCell ⟨b, off, none⟩ u) :=
  ⟨by show W.heap.size ≤ (W.heap.modify _ _).size; rw [Array.size_modify]; exact Nat.le_refl _, fun k _ hp ho => (Below.heap_setCell W ⟨b, off, none⟩ u k (by intro e; simp only at e; subst e; exact hp hb)).trans ho⟩
theorem KA.one (W : World) (b : Nat) (u : Value) {off : Nat} : KA (fun q => q = b) W (W.setCell ⟨b, off, none⟩ u) := KA.set (D := fun q => q = b) W rfl u
theorem KC.of_below {D : Nat → Prop} {W W' : World} (h : Below W.heap.size W W') : KC D W W' := KC.of_all (KA.of_below h)
theorem cell_block {W : World} {b o : Nat} {v : Value} (hc : W.cell? ⟨b, o, none⟩ = some v) : ∃ x, W.heap[b]? = some x ∧ x.isCells = true := by
  unfold World.cell? at hc
  cases hx : W.heap[b]? with
  | none => simp [hx] at hc
  | some x => exact ⟨x, rfl, by cases x <;> simp_all [Obj.isCells]⟩
theorem KC.cell {D : Nat → Prop} {W W' : World} (h : KC D W W') {b o : Nat} {v : Value} (hp : ¬ D b) (hc : W.cell? ⟨b, o, none⟩ = some v) : W'.cell? ⟨b, o, none⟩ = some v := by
  obtain ⟨x, hx, hcx⟩ := cell_block hc
  exact (World.cell?_of_block (w := W) (a := ⟨b, o, none⟩) ((h.2 b x hp hx hcx).trans hx.symm)).trans hc
theorem Cells.heap {B : Nat} {W W' : World} (h : Cells B W W') {b o : Nat} {v : Value} (hc : W.cell? ⟨b, o, none⟩ = some v) : W'.heap[b]? = W.heap[b]? := by
  obtain ⟨x, hx, hcx⟩ := cell_block hc
  rw [hx]
  exact h.same b x hx hcx
theorem Cells.cell {B : Nat} {W W' : World} (h : Cells B W W') {b o : Nat} {v : Value} (hc : W.cell? ⟨b, o, none⟩ = some v) : W'.cell? ⟨b, o, none⟩ = some v :=
  (World.cell?_of_block (w := W) (a := ⟨b, o, none⟩) (h.heap hc)).trans hc
theorem Cells.frozen {B : Nat} {W W' : World} (h : Cells B W W') {b o : Nat} {v : Value} (hc : W.cell? ⟨b, o, none⟩ = some v) : W'.frozen? ⟨b, o, none⟩ = W.frozen? ⟨b, o, none⟩ :=
  World.frozen?_of_block (w := W) (a := ⟨b, o, none⟩) (h.heap hc)
theorem Cells.below {B : Nat} {w W W' : World} (h : Cells B W W') {C : Nat} (hC : C ≤ B) (hb : Below C w W) : Below C w W' :=
  ⟨h.os.trans hb.os, h.tape.trans hb.tape, h.output.trans hb.output, Nat.le_trans hb.size h.size, fun k hk => (h.block k (by omega)).trans (hb.block k hk)⟩
theorem Cells.trans {B : Nat} {A C E : World} (h : Cells B A C) (k : Cells B C E) : Cells B A E :=
  ⟨k.os.trans h.os, k.tape.trans h.tape, k.output.trans h.output, Nat.le_trans h.size k.size, fun b hb => (k.block b hb).trans (h.block b hb), fun b o ho hc => k.same b o (h.same b o ho hc) hc⟩

/-- A box: what it holds, and that it may be written. -/
def Box (W : World) (b : Nat) (v : Value) : Prop := W.cell? ⟨b, 0, none⟩ = some v ∧ W.frozen? ⟨b, 0, none⟩ = false
theorem Box.cells {B : Nat} {W W' : World} {b : Nat} {v : Value} (h : Box W b v) (k : Cells B W W') : Box W' b v := ⟨k.cell h.1, (k.frozen h.1).trans h.2⟩
theorem Box.lt {W : World} {b : Nat} {v : Value} (h : Box W b v) : b < W.heap.size := by
  obtain ⟨x, hx, _⟩ := cell_block h.1
  exact hlt hx
theorem Box.below {W W' : World} {b : Nat} {v : Value} (h : Box W b v) (k : Below W.heap.size W W') : Box W' b v := h.cells (Cells.of_below k (Nat.le_refl _))
theorem Box.new (W : World) (v : Value) (t : TypeId) : Box (W.alloc (.cells #[v] t)) W.heap.size v := by
  constructor
  · rw [World.cell?_alloc_at _ _ _ _ rfl]; rfl
  · simp
theorem Box.set_ {W : World} {b : Nat} {v : Value} (h : Box W b v) (u : Value) : Box (W.setCell ⟨b, 0, none⟩ u) b u :=
  ⟨World.cell?_setCell_same' _ _ _ (by rw [h.1]; rfl), by rw [World.frozen?_setCell]; exact h.2⟩
theorem Box.far {W : World} {b c : Nat} {v : Value} (h : Box W b v) (hne : b ≠ c) {o : Nat} (u : Value) : Box (W.setCell ⟨c, o, none⟩ u) b v :=
  ⟨(World.cell?_of_block (w := W) (a := ⟨b, 0, none⟩) (Below.heap_setCell W ⟨c, o, none⟩ u b hne)).trans h.1, (World.frozen?_of_block (w := W) (a := ⟨b, 0, none⟩) (Below.heap_setCell W ⟨c, o, none⟩ u b hne)).trans h.2⟩
theorem Box.alloc {W : World} {b : Nat} {v : Value} (h : Box W b v) (o : Obj) : Box (W.alloc o) b v := h.below ((Below.refl _ _).alloc (Nat.le_refl _) _)
theorem Box.new_ {W : World} {b : Nat} (h : W.heap.size = b) (v : Value) (t : TypeId) : Box (W.alloc (.cells #[v] t)) b v := h ▸ Box.new W v t

theorem wide_calls {m : Nat} {g : FuncId} {args : Array Value} {w : World} {R R' : Ending → World → Prop} (h : Calls Try.prog g args w R) (hr : ∀ e w', R e w' → R' e w') :
    Fence.wide.fn g ∧ (Fence.wide.depth.isSome = true → 1 ≤ m) ∧ CallsIn Fence.wide (m - 1) Try.prog g args w R' :=
  ⟨trivial, (fun h => by simp [Fence.wide] at h), (callsIn_wide.2 h).mono hr⟩
theorem round_calls {m l : Nat} {g : FuncId} {args : Array Value} {w : World} {R R' : Ending → World → Prop} (h : Calls Try.prog g args w R) (hr : ∀ e w', R e w' → R' e w') :
    (Fence.wide.inRound l).fn g ∧ ((Fence.wide.inRound l).depth.isSome = true → 1 ≤ m) ∧ CallsIn (Fence.wide.inRound l) (m - 1) Try.prog g args w R' := wide_calls h hr

/-- What an iterator over the values L promises, to a loop that writes nothing but the blocks of D. -/
def Gives (m : Nat) (g : Nat) (lb : Array Value) (L : List (Array Value)) (D : Nat → Prop) (w : World) : Prop :=
  ∀ (l : Nat) (J : Nat → World → Prop) (Jx : World → Prop) (W : World), Below w.heap.size w W →
    (∀ k A B, J k A → Below A.heap.size A B → J k B) → (∀ A B, Jx A → Below A.heap.size A B → Jx B) →
    (∀ k v W1, L[k]? = some v → J k W1 → YieldAt Fence.wide (m - 1) Try.prog l v W1 fun e W' =>
      (e = .returned (.bool true) ∧ J (k + 1) W' ∧ KC D W1 W') ∨ (e = .returned (.bool false) ∧ Jx W')) →
    J 0 W → CallsIn Fence.wide m Try.prog g (#[.func (.yield l) #[] #[]] ++ lb) W fun e W' => (∃ v, e = .returned v) ∧ (J L.length W' ∨ Jx W')

/-- What a round's body owes: on: one value more; out by a return or a break. -/
def roundP (D : Nat → Prop) (I : Nat → World → Prop) (Ix : Code → World → Prop) (k : Nat) (W : World) : Exit → Act → World → Prop
  | .normal, _, W' => I (k + 1) W' ∧ KA D W W'
  | .ret, _, W' => Ix .ret W' ∧ KA D W W'
  | .exit n, _, W' => Ix (.exit n) W' ∧ KA D W W'
  | _, _, _ => False

/-- The activation behind the loop: the mark for the rounds' deferred calls is pushed. -/
def marked (a : Act) (D : Nat) : Act := { a with defers := { target := .collected D, args := #[] } :: a.defers }

theorem range_list {m : Nat} {Q : Exit → Act → World → Prop} {a : Act} {w : World} {g : Operand} {ps : Array Tmp} {assign body : Code} (gf : Nat) (lb : Array Value)
    (hg : a.eval g = .func (.func gf) #[] lb) (eg : ∀ args w, (callFunc gf args).run Try.prog w = .ok (.enter gf args) w)
    (L : List (Array Value)) (D : Nat → Prop) (hD : ∀ b, D b → b < w.heap.size) (hps : ∀ v ∈ L, v.size = ps.size) (hseq : Gives (m - 1) gf lb L D w)
    (I : Nat → World → Prop) (Ix : Code → World → Prop) (hI : ∀ k A B, I k A → Cells w.heap.size A B → I k B) (hIx : ∀ c A B, Ix c A → Cells w.heap.size A B → Ix c B) (h0 : I 0 w)
    (hround : ∀ l k v W, L[k]? = some v → w.heap.size ≤ W.heap.size → I k W → assign.wpIn (Fence.wide.inRound l) (m - 1 - 1) Try.prog (Exit.then (fun a1 W1 => Below W.heap.size W W1 ∧
      ∀ W2, Cells w.heap.size W1 W2 → body.wpIn (Fence.wide.inRound l) (m - 1 - 1) Try.prog (roundP D I Ix k W2) a1 W2) (fun _ _ _ => False)) { tmps := (ps.zip v).foldl (fun ts (p, v) => ts.setIfInBounds p v) a.tmps, defers := [] } W)
    (hdone : ∀ N W, w.heap.size ≤ N → I L.length W → W.heap[N]? = some (.deferred (some [])) → Q .normal (marked a N) W)
    (hstop : ∀ N c W, w.heap.size ≤ N → Ix c W → W.heap[N]? = some (.deferred (some [])) → c.wpIn Fence.wide m Try.prog Q (marked a N) W) :
    (Code.rangeFunc g ps assign body).wpIn Fence.wide m Try.prog Q a w := by
  refine wpIn_rangeFunc ?_
  intro fn hfn
  rw [Fence.wide_round]
  obtain ⟨N, hN⟩ : ∃ N, w.heap.size = N := ⟨_, rfl⟩
  obtain ⟨rec, hrec⟩ : ∃ rec : LoopState → Option Code → Loop, rec = fun st pe => { state := st, pending := pe, fn, tmps := a.tmps, params := ps, assign, body, defers := N } := ⟨_, rfl⟩
  obtain ⟨W1, hW1⟩ : ∃ W1, (w.alloc (.deferred (some []))).alloc (.loop (rec .ready none)) = W1 := ⟨_, rfl⟩
  have hL1 : W1.heap[N + 1]? = some (.loop (rec .ready none)) := by
    rw [← hW1, ← hN]; have := World.alloc_heap_new (w.alloc (.deferred (some []))) (.loop (rec .ready none)); rwa [World.size_alloc] at this
  have hK1 : W1.heap[N]? = some (.deferred (some [])) := by
    rw [← hW1, ← hN]; exact (Below.heap_alloc _ _ _ (by simp)).trans (World.alloc_heap_new w _)
  have hb1 : Below w.heap.size w W1 := by
    rw [← hW1]; exact ((Below.refl _ w).alloc (Nat.le_refl _) _).alloc (by simp) _
  have hI1 : I 0 W1 := hI _ _ _ h0 (Cells.of_below hb1 (Nat.le_refl _))
  refine ⟨N + 1, [{ target := .collected N, args := #[] }], W1, { target := .fn (.func gf) lb, args := #[.func (.yield (N + 1)) #[] #[]] }, W1, gf,
    #[.func (.yield (N + 1)) #[] #[]] ++ lb, W1, ?_, ?_, ?_, ?_, fun h => by simp [Fence.wide] at h, ?_⟩
  · rw [← hW1, hrec, ← hN]; exact run_enterLoop_outer _ _ _ _ _
  · simp only [resolve, hg]
    simp [go_sem]
  · intro f' hf'; trivial
  · simp [invoke, go_sem, eg]
  · have abide : ∀ {A B : World} {o : Obj} {b : Nat}, A.heap[b]? = some o → Below A.heap.size A B → B.heap[b]? = some o := fun ho hb => (hb.block _ (hlt ho)).trans ho
    refine (hseq (N + 1)
      (fun k W => I k W ∧ N + 1 < W.heap.size ∧ W.heap[N + 1]? = some (.loop (rec .ready none)) ∧ W.heap[N]? = some (.deferred (some [])))
      (fun W => ∃ c, Ix c W ∧ W.heap[N + 1]? = some (.loop (rec .done (some c))) ∧ W.heap[N]? = some (.deferred (some [])))
      W1 hb1 (fun k A B ⟨h1, h2, h3, h4⟩ hb => ⟨hI _ _ _ h1 (Cells.of_below hb (by omega)), by have := hb.size; omega, abide h3 hb, abide h4 hb⟩)
      (fun A B ⟨c, h1, h3, h4⟩ hb => ⟨c, hIx _ _ _ h1 (Cells.of_below hb (by have := hlt h3; omega)), abide h3 hb, abide h4 hb⟩)
      ?_ ⟨hI1, hlt hL1, hL1, hK1⟩).mono ?_
    · rintro k v W hk ⟨hi, hs, hl, hd⟩
      have hy := run_yield (P := Try.prog) (args := v) hl (by rw [hrec]; exact hps v (List.mem_of_getElem? hk))
      rw [hrec] at hy
      refine ⟨fn, _, assign, body, hy, roundIn_of_wpIn hfn (wpIn_mono (hround _ k v W hk (by omega) hi) ?_)⟩
      clear hy
      rintro e a1 Wa hpost
      cases e with
      | normal =>
        obtain ⟨hba, hbody⟩ := hpost
        have hla := abide hl hba
        have hda := abide hd hba
        have hsa : N + 1 < Wa.heap.size := hlt hla
        refine ⟨_, run_beginRound hla (by rw [hrec]), ?_⟩
        obtain ⟨W2, hW2⟩ : ∃ W2, Wa.putObj (N + 1) (.loop { rec .ready none with state := .busy }) = W2 := ⟨_, rfl⟩
        have hl2 : W2.heap[N + 1]? = some (.loop { rec .ready none with state := .busy }) := by rw [← hW2]; exact World.putObj_heap_same hsa
        have hd2 : W2.heap[N]? = some (.deferred (some [])) := by rw [← hW2]; exact (World.putObj_heap_other (by omega)).trans hda
        have hc2 : Cells w.heap.size Wa W2 := by rw [← hW2]; exact Cells.put _ hla rfl (by omega)
        have hkc : KC D W W2 := (KC.of_below hba).trans (KC.of_cells hc2)
        rw [hW2]
        refine wpIn_mono (hbody W2 hc2) ?_
        have fin : ∀ (c : Code) (W3 : World), Ix c W3 → KA D W2 W3 → ∃ v w4, (Instr.endRound (N + 1) (some c)).run Try.prog W3 = .ok v w4 ∧
            (((Ending.returned v = .returned (.bool true) ∧ (I (k + 1) w4 ∧ N + 1 < w4.heap.size ∧ w4.heap[N + 1]? = some (.loop (rec .ready none)) ∧ w4.heap[N]? = some (.deferred (some []))) ∧ KC D W w4)) ∨
             (Ending.returned v = .returned (.bool false) ∧ ∃ c, Ix c w4 ∧ w4.heap[N + 1]? = some (.loop (rec .done (some c))) ∧ w4.heap[N]? = some (.deferred (some [])))) := by
          intro c W3 hi3 hk3
          have hnl : ∀ b, N ≤ b → ¬ D b := fun b hb h => by have := hD b h; omega
          have hl3 := hk3.2 _ _ (hnl _ (by omega)) hl2
          have hd3 := hk3.2 _ _ (hnl _ (by omega)) hd2
          have hr := run_endRound (P := Try.prog) (some c) hl3
          have hc3 : Cells w.heap.size W3 (W3.putObj (N + 1) (.loop (rec .done (some c)))) := Cells.put _ hl3 rfl (by omega)
          refine ⟨_, _, hr, .inr ⟨rfl, c, ?_⟩⟩
          rw [hrec] at hc3 ⊢
          exact ⟨hIx _ _ _ hi3 hc3, World.putObj_heap_same (hlt hl3), (World.putObj_heap_other (by omega)).trans hd3⟩
        rintro e a3 W3 hpost
        cases e with
        | normal =>
          obtain ⟨hi3, hk3⟩ := hpost
          have hnl : ∀ b, N ≤ b → ¬ D b := fun b hb h => by have := hD b h; omega
          have hl3 := hk3.2 _ _ (hnl _ (by omega)) hl2
          have hd3 := hk3.2 _ _ (hnl _ (by omega)) hd2
          have hr := run_endRound (P := Try.prog) none hl3
          have hc3 : Cells w.heap.size W3 (W3.putObj (N + 1) (.loop (rec .ready none))) := Cells.put _ hl3 rfl (by omega)
          refine ⟨_, _, hr, .inl ⟨rfl, ?_, ?_⟩⟩
          · rw [hrec] at hc3 ⊢
            exact ⟨hI _ _ _ hi3 hc3, by rw [World.putObj_size]; exact hlt hl3, World.putObj_heap_same (hlt hl3), (World.putObj_heap_other (by omega)).trans hd3⟩
          · rw [hrec] at hc3 ⊢
            exact hkc.trans ((KC.of_all hk3).trans (KC.of_cells hc3))
        | ret => exact fin _ _ hpost.1 hpost.2
        | exit id => exact fin _ _ hpost.1 hpost.2
        | goto t => exact hpost.elim
        | panic ch => exact hpost.elim
        | outgrown => exact hpost.elim
      | ret => exact hpost.elim
      | exit id => exact hpost.elim
      | goto t => exact hpost.elim
      | panic ch => exact hpost.elim
      | outgrown => exact hpost.elim
    · rintro e W2 ⟨⟨v, rfl⟩, (⟨hi, hs, hl, hd⟩ | ⟨c, hi, hl, hd⟩)⟩
      · have hc3 : Cells w.heap.size W2 (W2.putObj (N + 1) (.loop { rec .ready none with state := .exhausted })) := Cells.put _ hl rfl (by omega)
        exact ⟨none, _, by have := run_endLoop (P := Try.prog) hl (by rw [hrec]; simp); rw [hrec] at this ⊢; exact this, hdone N _ (by omega) (hI _ _ _ hi hc3) ((World.putObj_heap_other (by omega)).trans hd)⟩
      · have hc3 : Cells w.heap.size W2 (W2.putObj (N + 1) (.loop { rec .done (some c) with state := .exhausted })) := Cells.put _ hl rfl (by omega)
        exact ⟨some c, _, by have := run_endLoop (P := Try.prog) hl (by rw [hrec]; simp); rw [hrec] at this ⊢; exact this, hstop N c _ (by omega) (hIx _ _ _ hi hc3) ((World.putObj_heap_other (by omega)).trans hd)⟩
end Go.Proofs.Ytjodhihcckcefaa
