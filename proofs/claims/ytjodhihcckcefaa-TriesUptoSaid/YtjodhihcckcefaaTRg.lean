/-
  A loop over a function that yields words and nodes: what the iterator promises ('GivesT'), and the law of the loop. No statement is proved here.
-/
import Derived.Test.YtjodhihcckcefaaU22
import Derived.Test.YtjodhihcckcefaaRf
import Derived.Test.YtjodhihcckcefaaMonI
namespace Go.Proofs.Ytjodhihcckcefaa
open Go.RowKit Go.Maps

/-- What is cells lies as it lay, but what D tells. -/
def KCo (D : Nat → Obj → Prop) (W W' : World) : Prop := W.heap.size ≤ W'.heap.size ∧ ∀ b o, ¬ D b o → W.heap[b]? = some o → o.isCells = true → W'.heap[b]? = some o
/-- Every block lies as it lay, but what D tells. -/
def KAo (D : Nat → Obj → Prop) (W W' : World) : Prop := W.heap.size ≤ W'.heap.size ∧ ∀ b o, ¬ D b o → W.heap[b]? = some o → W'.heap[b]? = some o
section
variable {D : Nat → Obj → Prop} {A B C : World}
theorem KCo.trans (h : KCo D A B) (k : KCo D B C) : KCo D A C := ⟨Nat.le_trans h.1 k.1, fun b o hp ho hc => k.2 b o hp (h.2 b o hp ho hc) hc⟩
theorem KCo.of_cells {M : Nat} (h : Cells M A B) : KCo D A B := ⟨h.size, fun b o _ ho hc => h.same b o ho hc⟩
theorem KCo.of_all (h : KAo D A B) : KCo D A B := ⟨h.1, fun b o hp ho _ => h.2 b o hp ho⟩
theorem KAo.trans (h : KAo D A B) (k : KAo D B C) : KAo D A C := ⟨Nat.le_trans h.1 k.1, fun b o hp ho => k.2 b o hp (h.2 b o hp ho)⟩
theorem KAo.of_below (h : Below A.heap.size A B) : KAo D A B := ⟨h.size, fun b _ _ ho => (h.block b (hlt ho)).trans ho⟩
theorem KCo.of_below (h : Below A.heap.size A B) : KCo D A B := KCo.of_all (KAo.of_below h)
end
/-- What yield gets: a word's key, and a node. -/
def wtv (x : List Int × Nd) (A : Option Addr) (m c : Nat) : Array Value := #[keyV x.1, .agg #[.slice A m c, .bool x.2.2]]
/-- What the iterator may change: blocks of strings, from M on; and the loops' own objects. -/
structure ChT (M : Nat) (A B : World) : Prop where
  os : B.os = A.os
  tape : B.tape = A.tape
  output : B.output = A.output
  size : A.heap.size ≤ B.heap.size
  low : ∀ b, b < M → B.heap[b]? = A.heap[b]?
  same : ∀ (b : Nat) cs t fr, A.heap[b]? = some (.cells cs t fr) → t ≠ 9 → B.heap[b]? = some (.cells cs t fr)
structure KIT (M : Nat) (A B : World) : Prop where
  ch : ChT M A B
  objs : ∀ (b : Nat) o, A.heap[b]? = some o → o.isCells = false → B.heap[b]? = some o
section
variable {M : Nat} {A B C : World}
theorem ChT.of_cells (h : Cells M A B) : ChT M A B := ⟨h.os, h.tape, h.output, h.size, h.block, fun b _cs _t _fr ho _ => h.same b _ ho rfl⟩
theorem ChT.less {N : Nat} (h : ChT M A B) (hN : N ≤ M) : ChT N A B := ⟨h.os, h.tape, h.output, h.size, fun b hb => h.low b (by omega), h.same⟩
theorem ChT.trans (h : ChT M A B) (k : ChT M B C) : ChT M A C := ⟨k.os.trans h.os, k.tape.trans h.tape, k.output.trans h.output, Nat.le_trans h.size k.size, fun b hb => (k.low b hb).trans (h.low b hb), fun b cs t fr ho h1 => k.same b cs t fr (h.same b cs t fr ho h1) h1⟩
theorem ChT.of_below (h : Below A.heap.size A B) (hM : M ≤ A.heap.size) : ChT M A B := ChT.of_cells (Cells.of_below h hM)
theorem ChT.below {w : World} {N : Nat} (h : ChT M A B) (hN : N ≤ M) (hb : Below N w A) : Below N w B :=
  ⟨h.os.trans hb.os, h.tape.trans hb.tape, h.output.trans hb.output, Nat.le_trans hb.size h.size, fun k hk => (h.low k (by omega)).trans (hb.block k hk)⟩
theorem KIT.of_below (h : Below A.heap.size A B) (hM : M ≤ A.heap.size) : KIT M A B := ⟨ChT.of_below h hM, fun b _ ho _ => (h.block b (hlt ho)).trans ho⟩
theorem KIT.trans (h : KIT M A B) (k : KIT M B C) : KIT M A C := ⟨h.ch.trans k.ch, fun b o ho hc => k.objs b o (h.objs b o ho hc) hc⟩
theorem KIT.set {g off : Nat} {cs : Array Value} {fr : Nat × Nat} (hg : A.heap[g]? = some (.cells cs 9 fr)) (hM : M ≤ g) (u : Value) : KIT M A (A.setCell ⟨g, off, none⟩ u) := by
  have key : ∀ b, b ≠ g → (A.setCell ⟨g, off, none⟩ u).heap[b]? = A.heap[b]? := fun b hb => Below.heap_setCell A ⟨g, off, none⟩ u b hb
  refine ⟨⟨rfl, rfl, rfl, by simp [World.setCell], fun b hb => key b (by omega), fun b cs' t' fr' ho h1 => (key b ?_).trans ho⟩, fun b o ho hc => (key b ?_).trans ho⟩
  · rintro rfl
    rw [hg] at ho
    injection ho with ho
    injection ho with _ ho
    exact h1 ho.symm
  · rintro rfl
    rw [hg] at ho
    injection ho with ho
    subst ho
    cases hc
end
/-- What a round's body owes. -/
def roundO (D : Nat → Obj → Prop) (I : Nat → World → Prop) (Ix : Code → World → Prop) (k : Nat) (W : World) : Exit → Act → World → Prop
  | .normal, _, W' => I (k + 1) W' ∧ KAo D W W'
  | .ret, _, W' => Ix .ret W' ∧ KAo D W W'
  | .exit n, _, W' => Ix (.exit n) W' ∧ KAo D W W'
  | _, _, _ => False
/-- What an iterator over words and nodes promises, to a loop that writes nothing but what D tells. -/
def GivesT (m : Nat) (g : Nat) (lb : Array Value) (L : List (List Int × Nd)) (D : Nat → Obj → Prop) (w : World) : Prop :=
  ∀ (l : Nat) (J : Nat → World → Prop) (Jx : World → Prop) (W : World), Below w.heap.size w W →
    (∀ k A B, J k A → KIT W.heap.size A B → J k B) → (∀ A B, Jx A → KIT W.heap.size A B → Jx B) →
    (∀ k x A q c W1, L[k]? = some x → J k W1 → YieldAt Fence.wide (m - 1) Try.prog l (wtv x A q c) W1 fun e W' =>
      (e = .returned (.bool true) ∧ J (k + 1) W' ∧ KCo D W1 W') ∨ (e = .returned (.bool false) ∧ Jx W')) →
    J 0 W → CallsIn Fence.wide m Try.prog g (#[.func (.yield l) #[] #[]] ++ lb) W fun e W' => (∃ v, e = .returned v) ∧ (J L.length W' ∨ Jx W')

theorem range_trie {m : Nat} {Q : Exit → Act → World → Prop} {a : Act} {w : World} {g : Operand} {ps : Array Tmp} {assign body : Code} (gf : Nat) (lb : Array Value)
    (hg : a.eval g = .func (.func gf) #[] lb) (eg : ∀ args w, (callFunc gf args).run Try.prog w = .ok (.enter gf args) w)
    (L : List (List Int × Nd)) (D : Nat → Obj → Prop) (hD : ∀ b o, D b o → o.isCells = true) (hps : ps.size = 2) (hseq : GivesT (m - 1) gf lb L D w)
    (I : Nat → World → Prop) (Ix : Code → World → Prop) (hI : ∀ k A B, I k A → ChT w.heap.size A B → I k B) (hIx : ∀ c A B, Ix c A → ChT w.heap.size A B → Ix c B) (h0 : I 0 w)
    (hround : ∀ l k x A q9 c W, L[k]? = some x → w.heap.size ≤ W.heap.size → I k W → assign.wpIn (Fence.wide.inRound l) (m - 1 - 1) Try.prog (Exit.then (fun a1 W1 => Below W.heap.size W W1 ∧
      ∀ W2, Cells w.heap.size W1 W2 → body.wpIn (Fence.wide.inRound l) (m - 1 - 1) Try.prog (roundO D I Ix k W2) a1 W2) (fun _ _ _ => False)) { tmps := (ps.zip (wtv x A q9 c)).foldl (fun ts (p, v) => ts.setIfInBounds p v) a.tmps, defers := [] } W)
    (hdone : ∀ N W, w.heap.size ≤ N → I L.length W → W.heap[N]? = some (.deferred (some [])) → Q .normal (marked a N) W)
    (hstop : ∀ N c W, w.heap.size ≤ N → Ix c W → W.heap[N]? = some (.deferred (some [])) → c.wpIn Fence.wide m Try.prog Q (marked a N) W) :
    (Code.rangeFunc g ps assign body).wpIn Fence.wide m Try.prog Q a w := by
  refine wpIn_rangeFunc ?_
  intro fn hfn
  rw [Fence.wide_round]
  obtain ⟨N, hN⟩ : ∃ N, w.heap.size = N := ⟨_, rfl⟩
  obtain ⟨rec, hrec⟩ : ∃ rec : LoopState → Option Code → Loop, rec = fun st pe => { state := st, pending := pe, fn, tmps := a.tmps, params := ps, assign, body, defers := N } := ⟨_, rfl⟩
  obtain ⟨W1, hW1⟩ : ∃ W1, (w.alloc (.deferred (some []))).alloc (.loop (rec .ready none)) = W1 := ⟨_, rfl⟩
  have hL1 : W1.heap[N + 1]? = some (.loop (rec .ready none)) := by
    rw [← hW1, ← hN]; have := World.alloc_heap_new (w.alloc (.deferred (some []))) (.loop (rec .ready none)); rwa [World.size_alloc] at this
  have hK1 : W1.heap[N]? = some (.deferred (some [])) := by
    rw [← hW1, ← hN]; exact (Below.heap_alloc _ _ _ (by simp)).trans (World.alloc_heap_new w _)
  have hb1 : Below w.heap.size w W1 := by
    rw [← hW1]; exact ((Below.refl _ w).alloc (Nat.le_refl _) _).alloc (by simp) _
  have hI1 : I 0 W1 := hI _ _ _ h0 (ChT.of_cells (Cells.of_below hb1 (Nat.le_refl _)))
  refine ⟨N + 1, [{ target := .collected N, args := #[] }], W1, { target := .fn (.func gf) lb, args := #[.func (.yield (N + 1)) #[] #[]] }, W1, gf,
    #[.func (.yield (N + 1)) #[] #[]] ++ lb, W1, ?_, ?_, ?_, ?_, fun h => by simp [Fence.wide] at h, ?_⟩
  · rw [← hW1, hrec, ← hN]; exact run_enterLoop_outer _ _ _ _ _
  · simp only [resolve, hg]
    simp [go_sem]
  · intro f' hf'; trivial
  · simp [invoke, go_sem, eg]
  · have abide : ∀ {A B : World} {o : Obj} {b : Nat}, A.heap[b]? = some o → Below A.heap.size A B → B.heap[b]? = some o := fun ho hb => (hb.block _ (hlt ho)).trans ho
    refine (hseq (N + 1)
      (fun k W => I k W ∧ N + 1 < W.heap.size ∧ W.heap[N + 1]? = some (.loop (rec .ready none)) ∧ W.heap[N]? = some (.deferred (some [])))
      (fun W => ∃ c, Ix c W ∧ W.heap[N + 1]? = some (.loop (rec .done (some c))) ∧ W.heap[N]? = some (.deferred (some [])))
      W1 hb1 (fun k A B ⟨h1, h2, h3, h4⟩ hb => ⟨hI _ _ _ h1 (hb.ch.less hb1.size), by have := hb.ch.size; omega, hb.objs _ _ h3 rfl, hb.objs _ _ h4 rfl⟩)
      (fun A B ⟨c, h1, h3, h4⟩ hb => ⟨c, hIx _ _ _ h1 (hb.ch.less hb1.size), hb.objs _ _ h3 rfl, hb.objs _ _ h4 rfl⟩)
      ?_ ⟨hI1, hlt hL1, hL1, hK1⟩).mono ?_
    · rintro k x A q9 c W hk ⟨hi, hs, hl, hd⟩
      have hy := run_yield (P := Try.prog) (args := wtv x A q9 c) hl (by rw [hrec]; exact hps.symm)
      rw [hrec] at hy
      refine ⟨fn, _, assign, body, hy, roundIn_of_wpIn hfn (wpIn_mono (hround _ k x A q9 c W hk (by omega) hi) ?_)⟩
      clear hy
      rintro e a1 Wa hpost
      cases e with
      | normal =>
        obtain ⟨hba, hbody⟩ := hpost
        have hla := abide hl hba
        have hda := abide hd hba
        have hsa : N + 1 < Wa.heap.size := hlt hla
        refine ⟨_, run_beginRound hla (by rw [hrec]), ?_⟩
        obtain ⟨W2, hW2⟩ : ∃ W2, Wa.putObj (N + 1) (.loop { rec .ready none with state := .busy }) = W2 := ⟨_, rfl⟩
        have hl2 : W2.heap[N + 1]? = some (.loop { rec .ready none with state := .busy }) := by rw [← hW2]; exact World.putObj_heap_same hsa
        have hd2 : W2.heap[N]? = some (.deferred (some [])) := by rw [← hW2]; exact (World.putObj_heap_other (by omega)).trans hda
        have hc2 : Cells w.heap.size Wa W2 := by rw [← hW2]; exact Cells.put _ hla rfl (by omega)
        have hkc : KCo D W W2 := (KCo.of_below hba).trans (KCo.of_cells hc2)
        rw [hW2]
        refine wpIn_mono (hbody W2 hc2) ?_
        have fin : ∀ (c : Code) (W3 : World), Ix c W3 → KAo D W2 W3 → ∃ v w4, (Instr.endRound (N + 1) (some c)).run Try.prog W3 = .ok v w4 ∧
            (((Ending.returned v = .returned (.bool true) ∧ (I (k + 1) w4 ∧ N + 1 < w4.heap.size ∧ w4.heap[N + 1]? = some (.loop (rec .ready none)) ∧ w4.heap[N]? = some (.deferred (some []))) ∧ KCo D W w4)) ∨
             (Ending.returned v = .returned (.bool false) ∧ ∃ c, Ix c w4 ∧ w4.heap[N + 1]? = some (.loop (rec .done (some c))) ∧ w4.heap[N]? = some (.deferred (some [])))) := by
          intro c W3 hi3 hk3
          have hnl : ∀ b o, o.isCells = false → ¬ D b o := fun b o ho h => by rw [hD b o h] at ho; cases ho
          have hl3 := hk3.2 _ _ (hnl _ _ rfl) hl2
          have hd3 := hk3.2 _ _ (hnl _ _ rfl) hd2
          have hr := run_endRound (P := Try.prog) (some c) hl3
          have hc3 : Cells w.heap.size W3 (W3.putObj (N + 1) (.loop (rec .done (some c)))) := Cells.put _ hl3 rfl (by omega)
          refine ⟨_, _, hr, .inr ⟨rfl, c, ?_⟩⟩
          rw [hrec] at hc3 ⊢
          exact ⟨hIx _ _ _ hi3 (ChT.of_cells hc3), World.putObj_heap_same (hlt hl3), (World.putObj_heap_other (by omega)).trans hd3⟩
        rintro e a3 W3 hpost
        cases e with
        | normal =>
          obtain ⟨hi3, hk3⟩ := hpost
          have hnl : ∀ b o, o.isCells = false → ¬ D b o := fun b o ho h => by rw [hD b o h] at ho; cases ho
          have hl3 := hk3.2 _ _ (hnl _ _ rfl) hl2
          have hd3 := hk3.2 _ _ (hnl _ _ rfl) hd2
          have hr := run_endRound (P := Try.prog) none hl3
          have hc3 : Cells w.heap.size W3 (W3.putObj (N + 1) (.loop (rec .ready none))) := Cells.put _ hl3 rfl (by omega)
          refine ⟨_, _, hr, .inl ⟨rfl, ?_, ?_⟩⟩
          · rw [hrec] at hc3 ⊢
            exact ⟨hI _ _ _ hi3 (ChT.of_cells hc3), by rw [World.putObj_size]; exact hlt hl3, World.putObj_heap_same (hlt hl3), (World.putObj_heap_other (by omega)).trans hd3⟩
          · rw [hrec] at hc3 ⊢
            exact hkc.trans ((KCo.of_all hk3).trans (KCo.of_cells hc3))
        | ret => exact fin _ _ hpost.1 hpost.2
        | exit id => exact fin _ _ hpost.1 hpost.2
        | goto t => exact hpost.elim
        | panic ch => exact hpost.elim
        | outgrown => exact hpost.elim
      | ret => exact hpost.elim
      | exit id => exact hpost.elim
      | goto t => exact hpost.elim
      | panic ch => exact hpost.elim
      | outgrown => exact hpost.elim
    · rintro e W2 ⟨⟨v, rfl⟩, (⟨hi, hs, hl, hd⟩ | ⟨c, hi, hl, hd⟩)⟩
      · have hc3 : Cells w.heap.size W2 (W2.putObj (N + 1) (.loop { rec .ready none with state := .exhausted })) := Cells.put _ hl rfl (by omega)
        exact ⟨none, _, by have := run_endLoop (P := Try.prog) hl (by rw [hrec]; simp); rw [hrec] at this ⊢; exact this, hdone N _ (by omega) (hI _ _ _ hi (ChT.of_cells hc3)) ((World.putObj_heap_other (by omega)).trans hd)⟩
      · have hc3 : Cells w.heap.size W2 (W2.putObj (N + 1) (.loop { rec .done (some c) with state := .exhausted })) := Cells.put _ hl rfl (by omega)
        exact ⟨some c, _, by have := run_endLoop (P := Try.prog) hl (by rw [hrec]; simp); rw [hrec] at this ⊢; exact this, hstop N c _ (by omega) (hIx _ _ _ hi (ChT.of_cells hc3)) ((World.putObj_heap_other (by omega)).trans hd)⟩
end Go.Proofs.Ytjodhihcckcefaa
