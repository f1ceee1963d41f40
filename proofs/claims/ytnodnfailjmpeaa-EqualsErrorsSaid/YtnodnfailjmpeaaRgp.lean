/-
  A loop over a function that yields numbered lists in new memory: what the iterator promises ('GivesP'), and the law of the loop. No statement is proved here.
-/
import Derived.Test.YtnodnfailjmpeaaRfZ
namespace Go.Proofs.Ytnodnfailjmpeaa
open Go.RowKit

/-- A list in a block of its own, none of those of D. -/
def OwnL (D : Nat → Prop) (W : World) (g : Nat) (zs : List Int) : Prop := ¬ D g ∧ g < W.heap.size ∧ Rd W (some ⟨g, 0, none⟩) zs
theorem OwnL.keep {D : Nat → Prop} {W W' : World} {g : Nat} {zs : List Int} (h : OwnL D W g zs) (k : KC D W W') : OwnL D W' g zs := by
  refine ⟨h.1, Nat.lt_of_lt_of_le h.2.1 k.1, fun hp => ?_⟩
  obtain ⟨b, off, e, hb, hc⟩ := h.2.2 hp
  injection e with e
  injection e with e1 e2
  subst e1
  exact ⟨g, off, by rw [e2], Nat.lt_of_lt_of_le hb k.1, fun j hj => k.cell h.1 (hc j hj)⟩
theorem OwnL.below {D : Nat → Prop} {W W' : World} {g : Nat} {zs : List Int} (h : OwnL D W g zs) (k : Below W.heap.size W W') : OwnL D W' g zs := h.keep (KC.of_below k)
/-- What yield gets: the number and the list. -/
def wpp (n k g : Nat) : Array Value := #[.int .i64 k, .slice (some ⟨g, 0, none⟩) n n]
/-- What an iterator over numbered lists promises, to a loop that writes nothing but the blocks of D. -/
def GivesP (m : Nat) (g : Nat) (lb : Array Value) (n : Nat) (L : List (List Int)) (D : Nat → Prop) (w : World) : Prop :=
  ∀ (l : Nat) (J : Nat → World → Prop) (Jx : World → Prop) (W : World), Below w.heap.size w W →
    (∀ k A B, J k A → Below A.heap.size A B → J k B) → (∀ A B, Jx A → Below A.heap.size A B → Jx B) →
    (∀ k x b W1, L[k]? = some x → J k W1 → OwnL D W1 b x → YieldAt Fence.wide (m - 1) Try.prog l (wpp n k b) W1 fun e W' =>
      (e = .returned (.bool true) ∧ J (k + 1) W' ∧ KC D W1 W') ∨ (e = .returned (.bool false) ∧ Jx W')) →
    J 0 W → CallsIn Fence.wide m Try.prog g (#[.func (.yield l) #[] #[]] ++ lb) W fun e W' => (∃ v, e = .returned v) ∧ (J L.length W' ∨ Jx W')

theorem range_parts {m : Nat} {Q : Exit → Act → World → Prop} {a : Act} {w : World} {g : Operand} {ps : Array Tmp} {assign body : Code} (gf : Nat) (lb : Array Value)
    (hg : a.eval g = .func (.func gf) #[] lb) (eg : ∀ args w, (callFunc gf args).run Try.prog w = .ok (.enter gf args) w)
    (n : Nat) (L : List (List Int)) (D : Nat → Prop) (hD : ∀ b, D b → b < w.heap.size) (hps : ps.size = 2) (hseq : GivesP (m - 1) gf lb n L D w)
    (I : Nat → World → Prop) (Ix : Code → World → Prop) (hI : ∀ k A B, I k A → Cells w.heap.size A B → I k B) (hIx : ∀ c A B, Ix c A → Cells w.heap.size A B → Ix c B) (h0 : I 0 w)
    (hround : ∀ l k x b W, L[k]? = some x → w.heap.size ≤ W.heap.size → I k W → OwnL D W b x → assign.wpIn (Fence.wide.inRound l) (m - 1 - 1) Try.prog (Exit.then (fun a1 W1 => Below W.heap.size W W1 ∧
      ∀ W2, Cells w.heap.size W1 W2 → body.wpIn (Fence.wide.inRound l) (m - 1 - 1) Try.prog (roundP D I Ix k W2) a1 W2) (fun _ _ _ => False)) { tmps := (ps.zip (wpp n k b)).foldl (fun ts (p, v) => ts.setIfInBounds p v) a.tmps, defers := [] } W)
    (hdone : ∀ N W, w.heap.size ≤ N → I L.length W → W.heap[N]? = some (.deferred (some [])) → Q .normal (marked a N) W)
    (hstop : ∀ N c W, w.heap.size ≤ N → Ix c W → W.heap[N]? = some (.deferred (some [])) → c.wpIn Fence.wide m Try.prog Q (marked a N) W) :
    (Code.rangeFunc g ps assign body).wpIn Fence.wide m Try.prog Q a w := by
  refine wpIn_rangeFunc ?_
  intro fn hfn
  rw [Fence.wide_round]
  obtain ⟨N, hN⟩ : ∃ N, w.heap.size = N := ⟨_, rfl⟩
  obtain ⟨rec, hrec⟩ : ∃ rec : LoopState → Option Code → Loop, rec = fun st pe => { state := st, pending := pe, fn, tmps := a.tmps, params := ps, assign, body, defers := N } := ⟨_, rfl⟩
  obtain ⟨W1, hW1⟩ : ∃ W1, (w.alloc (.deferred (some []))).alloc (.loop (rec .ready none)) = W1 := ⟨_, rfl⟩
  have hL1 : W1.heap[N + 1]? = some (.loop (rec .ready none)) := by
    rw [← hW1, ← hN]; have := World.alloc_heap_new (w.alloc (.deferred (some []))) (.loop (rec .ready none)); rwa [World.size_alloc] at this
  have hK1 : W1.heap[N]? = some (.deferred (some [])) := by
    rw [← hW1, ← hN]; exact (Below.heap_alloc _ _ _ (by simp)).trans (World.alloc_heap_new w _)
  have hb1 : Below w.heap.size w W1 := by
    rw [← hW1]; exact ((Below.refl _ w).alloc (Nat.le_refl _) _).alloc (by simp) _
  have hI1 : I 0 W1 := hI _ _ _ h0 (Cells.of_below hb1 (Nat.le_refl _))
  refine ⟨N + 1, [{ target := .collected N, args := #[] }], W1, { target := .fn (.func gf) lb, args := #[.func (.yield (N + 1)) #[] #[]] }, W1, gf,
    #[.func (.yield (N + 1)) #[] #[]] ++ lb, W1, ?_, ?_, ?_, ?_, fun h => by simp [Fence.wide] at h, ?_⟩
  · rw [← hW1, hrec, ← hN]; exact run_enterLoop_outer _ _ _ _ _
  · simp only [resolve, hg]
    simp [go_sem]
  · intro f' hf'; trivial
  · simp [invoke, go_sem, eg]
  · have abide : ∀ {A B : World} {o : Obj} {b : Nat}, A.heap[b]? = some o → Below A.heap.size A B → B.heap[b]? = some o := fun ho hb => (hb.block _ (hlt ho)).trans ho
    refine (hseq (N + 1)
      (fun k W => I k W ∧ N + 1 < W.heap.size ∧ W.heap[N + 1]? = some (.loop (rec .ready none)) ∧ W.heap[N]? = some (.deferred (some [])))
      (fun W => ∃ c, Ix c W ∧ W.heap[N + 1]? = some (.loop (rec .done (some c))) ∧ W.heap[N]? = some (.deferred (some [])))
      W1 hb1 (fun k A B ⟨h1, h2, h3, h4⟩ hb => ⟨hI _ _ _ h1 (Cells.of_below hb (by omega)), by have := hb.size; omega, abide h3 hb, abide h4 hb⟩)
      (fun A B ⟨c, h1, h3, h4⟩ hb => ⟨c, hIx _ _ _ h1 (Cells.of_below hb (by have := hlt h3; omega)), abide h3 hb, abide h4 hb⟩)
      ?_ ⟨hI1, hlt hL1, hL1, hK1⟩).mono ?_
    · rintro k x b W hk ⟨hi, hs, hl, hd⟩ ho
      have hy := run_yield (P := Try.prog) (args := wpp n k b) hl (by rw [hrec]; exact hps.symm)
      rw [hrec] at hy
      refine ⟨fn, _, assign, body, hy, roundIn_of_wpIn hfn (wpIn_mono (hround _ k x b W hk (by omega) hi ho) ?_)⟩
      clear hy
      rintro e a1 Wa hpost
      cases e with
      | normal =>
        obtain ⟨hba, hbody⟩ := hpost
        have hla := abide hl hba
        have hda := abide hd hba
        have hsa : N + 1 < Wa.heap.size := hlt hla
        refine ⟨_, run_beginRound hla (by rw [hrec]), ?_⟩
        obtain ⟨W2, hW2⟩ : ∃ W2, Wa.putObj (N + 1) (.loop { rec .ready none with state := .busy }) = W2 := ⟨_, rfl⟩
        have hl2 : W2.heap[N + 1]? = some (.loop { rec .ready none with state := .busy }) := by rw [← hW2]; exact World.putObj_heap_same hsa
        have hd2 : W2.heap[N]? = some (.deferred (some [])) := by rw [← hW2]; exact (World.putObj_heap_other (by omega)).trans hda
        have hc2 : Cells w.heap.size Wa W2 := by rw [← hW2]; exact Cells.put _ hla rfl (by omega)
        have hkc : KC D W W2 := (KC.of_below hba).trans (KC.of_cells hc2)
        rw [hW2]
        refine wpIn_mono (hbody W2 hc2) ?_
        have fin : ∀ (c : Code) (W3 : World), Ix c W3 → KA D W2 W3 → ∃ v w4, (Instr.endRound (N + 1) (some c)).run Try.prog W3 = .ok v w4 ∧
            (((Ending.returned v = .returned (.bool true) ∧ (I (k + 1) w4 ∧ N + 1 < w4.heap.size ∧ w4.heap[N + 1]? = some (.loop (rec .ready none)) ∧ w4.heap[N]? = some (.deferred (some []))) ∧ KC D W w4)) ∨
             (Ending.returned v = .returned (.bool false) ∧ ∃ c, Ix c w4 ∧ w4.heap[N + 1]? = some (.loop (rec .done (some c))) ∧ w4.heap[N]? = some (.deferred (some [])))) := by
          intro c W3 hi3 hk3
          have hnl : ∀ b, N ≤ b → ¬ D b := fun b hb h => by have := hD b h; omega
          have hl3 := hk3.2 _ _ (hnl _ (by omega)) hl2
          have hd3 := hk3.2 _ _ (hnl _ (by omega)) hd2
          have hr := run_endRound (P := Try.prog) (some c) hl3
          have hc3 : Cells w.heap.size W3 (W3.putObj (N + 1) (.loop (rec .done (some c)))) := Cells.put _ hl3 rfl (by omega)
          refine ⟨_, _, hr, .inr ⟨rfl, c, ?_⟩⟩
          rw [hrec] at hc3 ⊢
          exact ⟨hIx _ _ _ hi3 hc3, World.putObj_heap_same (hlt hl3), (World.putObj_heap_other (by omega)).trans hd3⟩
        rintro e a3 W3 hpost
        cases e with
        | normal =>
          obtain ⟨hi3, hk3⟩ := hpost
          have hnl : ∀ b, N ≤ b → ¬ D b := fun b hb h => by have := hD b h; omega
          have hl3 := hk3.2 _ _ (hnl _ (by omega)) hl2
          have hd3 := hk3.2 _ _ (hnl _ (by omega)) hd2
          have hr := run_endRound (P := Try.prog) none hl3
          have hc3 : Cells w.heap.size W3 (W3.putObj (N + 1) (.loop (rec .ready none))) := Cells.put _ hl3 rfl (by omega)
          refine ⟨_, _, hr, .inl ⟨rfl, ?_, ?_⟩⟩
          · rw [hrec] at hc3 ⊢
            exact ⟨hI _ _ _ hi3 hc3, by rw [World.putObj_size]; exact hlt hl3, World.putObj_heap_same (hlt hl3), (World.putObj_heap_other (by omega)).trans hd3⟩
          · rw [hrec] at hc3 ⊢
            exact hkc.trans ((KC.of_all hk3).trans (KC.of_cells hc3))
        | ret => exact fin _ _ hpost.1 hpost.2
        | exit id => exact fin _ _ hpost.1 hpost.2
        | goto t => exact hpost.elim
        | panic ch => exact hpost.elim
        | outgrown => exact hpost.elim
      | ret => exact hpost.elim
      | exit id => exact hpost.elim
      | goto t => exact hpost.elim
      | panic ch => exact hpost.elim
      | outgrown => exact hpost.elim
    · rintro e W2 ⟨⟨v, rfl⟩, (⟨hi, hs, hl, hd⟩ | ⟨c, hi, hl, hd⟩)⟩
      · have hc3 : Cells w.heap.size W2 (W2.putObj (N + 1) (.loop { rec .ready none with state := .exhausted })) := Cells.put _ hl rfl (by omega)
        exact ⟨none, _, by have := run_endLoop (P := Try.prog) hl (by rw [hrec]; simp); rw [hrec] at this ⊢; exact this, hdone N _ (by omega) (hI _ _ _ hi hc3) ((World.putObj_heap_other (by omega)).trans hd)⟩
      · have hc3 : Cells w.heap.size W2 (W2.putObj (N + 1) (.loop { rec .done (some c) with state := .exhausted })) := Cells.put _ hl rfl (by omega)
        exact ⟨some c, _, by have := run_endLoop (P := Try.prog) hl (by rw [hrec]; simp); rw [hrec] at this ⊢; exact this, hstop N c _ (by omega) (hIx _ _ _ hi hc3) ((World.putObj_heap_other (by omega)).trans hd)⟩
end Go.Proofs.Ytnodnfailjmpeaa
