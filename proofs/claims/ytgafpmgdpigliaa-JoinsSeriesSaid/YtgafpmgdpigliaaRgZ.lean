/-
  Several texts in one: Rg, Ct. No statement is proved here.
-/
import Derived.Test.YtgafpmgdpigliaaRfZ
import Derived.Test.YtgafpmgdpigliaaWkZ
import Derived.Test.YtgafpmgdpigliaaScA
import Derived.Test.YtgafpmgdpigliaaBaZ
import Derived.Deep.OwnRows
import Derived.Laws.CopyOwn
namespace Go.Proofs.Ytgafpmgdpigliaa
open Go.RowKit
open Mc (Wv)

/-- Block g is known whole: the ints cs. -/
def Blk (w : World) (g : Nat) (cs : List Int) : Prop := w.heap[g]? = some (.cells (ints cs).toArray 3 (0, 0))
section
variable {w w' : World} {g : Nat} {cs : List Int}
theorem Blk.lt (h : Blk w g cs) : g < w.heap.size := hlt h
theorem Blk.at_ (h : Blk w g cs) {k : Nat} (hk : k < cs.length) : w.cell? ⟨g, k, none⟩ = some (.int .i64 (cs[k]?.getD 0)) ∧ w.frozen? ⟨g, k, none⟩ = false := by
  constructor
  · rw [cell_of_row w g k _ 3 (0, 0) h]
    simpa using ints_at hk
  · unfold Blk at h
    simp [World.frozen?, h]
theorem Blk.set_ (h : Blk w g cs) (k : Nat) (v : Int) : Blk (w.setCell ⟨g, k, none⟩ (.int .i64 v)) g (cs.set k v) := by
  unfold Blk at h ⊢
  simp [World.setCell, Array.getElem?_modify, h, ints, List.map_set]
theorem Blk.mvC {B : Nat} (h : Blk w g cs) (k : Cells B w w') : Blk w' g cs := k.same _ _ h rfl
theorem Blk.mvB (h : Blk w g cs) (k : Below w.heap.size w w') : Blk w' g cs := (k.block _ (hlt h)).trans h
theorem Blk.rd (h : Blk w g cs) : Rd w (some ⟨g, 0, none⟩) cs := Rd.of_block h
end

/-- A word in a block of its own, none of those of D. -/
def OwnD (D : Nat → Prop) (W : World) (A : Option Addr) (zs : List Int) : Prop := 0 < zs.length → ∃ g, A = some ⟨g, 0, none⟩ ∧ ¬ D g ∧ Blk W g zs
section
variable {D : Nat → Prop} {W W' : World} {A : Option Addr} {zs : List Int}
theorem OwnD.rd (h : OwnD D W A zs) : Rd W A zs := fun hp => by
  obtain ⟨g, rfl, _, hb⟩ := h hp
  exact hb.rd hp
theorem OwnD.keep (h : OwnD D W A zs) (k : KC D W W') : OwnD D W' A zs := fun hp => by
  obtain ⟨g, rfl, h1, hb⟩ := h hp
  exact ⟨g, rfl, h1, k.2 g _ h1 hb rfl⟩
theorem OwnD.below (h : OwnD D W A zs) (k : Below W.heap.size W W') : OwnD D W' A zs := h.keep (KC.of_below k)
theorem OwnD.cells {B : Nat} (h : OwnD D W A zs) (k : Cells B W W') : OwnD D W' A zs := h.keep (KC.of_cells k)
end
/-- What yield gets: a state and its word. -/
def wvv (x : Wv) (A : Option Addr) : Array Value := #[.int .i64 x.1, .slice A x.2.length x.2.length]
/-- What the iterator may change: blocks of two types, from M on; and the cells' own loops. -/
structure Ch (M : Nat) (A B : World) : Prop where
  os : B.os = A.os
  tape : B.tape = A.tape
  output : B.output = A.output
  size : A.heap.size ≤ B.heap.size
  low : ∀ b, b < M → B.heap[b]? = A.heap[b]?
  same : ∀ (b : Nat) cs t fr, A.heap[b]? = some (.cells cs t fr) → t ≠ 190 → t ≠ 188 → B.heap[b]? = some (.cells cs t fr)
structure KI (M : Nat) (A B : World) : Prop where
  ch : Ch M A B
  objs : ∀ (b : Nat) o, A.heap[b]? = some o → o.isCells = false → B.heap[b]? = some o
section
variable {M : Nat} {A B C : World}
theorem Ch.of_cells (h : Cells M A B) : Ch M A B := ⟨h.os, h.tape, h.output, h.size, h.block, fun b _cs _t _fr ho _ _ => h.same b _ ho rfl⟩
theorem Ch.less {N : Nat} (h : Ch M A B) (hN : N ≤ M) : Ch N A B := ⟨h.os, h.tape, h.output, h.size, fun b hb => h.low b (by omega), h.same⟩
theorem Ch.trans (h : Ch M A B) (k : Ch M B C) : Ch M A C := ⟨k.os.trans h.os, k.tape.trans h.tape, k.output.trans h.output, Nat.le_trans h.size k.size, fun b hb => (k.low b hb).trans (h.low b hb), fun b cs t fr ho h1 h2 => k.same b cs t fr (h.same b cs t fr ho h1 h2) h1 h2⟩
theorem Ch.of_below (h : Below A.heap.size A B) (hM : M ≤ A.heap.size) : Ch M A B := Ch.of_cells (Cells.of_below h hM)
theorem Ch.cell (h : Ch M A B) {b o : Nat} {v : Value} (hb : b < M) (hc : A.cell? ⟨b, o, none⟩ = some v) : B.cell? ⟨b, o, none⟩ = some v := (World.cell?_of_block (w := A) (a := ⟨b, o, none⟩) (h.low b hb)).trans hc
theorem Ch.below {w : World} {N : Nat} (h : Ch M A B) (hN : N ≤ M) (hb : Below N w A) : Below N w B :=
  ⟨h.os.trans hb.os, h.tape.trans hb.tape, h.output.trans hb.output, Nat.le_trans hb.size h.size, fun k hk => (h.low k (by omega)).trans (hb.block k hk)⟩
theorem KI.of_below (h : Below A.heap.size A B) (hM : M ≤ A.heap.size) : KI M A B := ⟨Ch.of_below h hM, fun b _ ho _ => (h.block b (hlt ho)).trans ho⟩
theorem KI.trans (h : KI M A B) (k : KI M B C) : KI M A C := ⟨h.ch.trans k.ch, fun b o ho hc => k.objs b o (h.objs b o ho hc) hc⟩
theorem KI.set {g off : Nat} {cs : Array Value} {t : TypeId} {fr : Nat × Nat} (hg : A.heap[g]? = some (.cells cs t fr)) (ht : t = 190 ∨ t = 188) (hM : M ≤ g) (u : Value) : KI M A (A.setCell ⟨g, off, none⟩ u) := by
  have key : ∀ b, b ≠ g → (A.setCell ⟨g, off, none⟩ u).heap[b]? = A.heap[b]? := fun b hb => Below.heap_setCell A ⟨g, off, none⟩ u b hb
  refine ⟨⟨rfl, rfl, rfl, by simp [World.setCell], fun b hb => key b (by omega), fun b cs' t' fr' ho h1 h2 => (key b ?_).trans ho⟩, fun b o ho hc => (key b ?_).trans ho⟩
  · rintro rfl
    rw [hg] at ho
    injection ho with ho
    injection ho with _ ho
    subst ho
    rcases ht with e | e
    · exact h1 e
    · exact h2 e
  · rintro rfl
    rw [hg] at ho
    injection ho with ho
    subst ho
    cases hc
theorem KI.grown {g : Nat} {cs : Array Value} {t : TypeId} {fr : Nat × Nat} (hk : A.grownBy B (some g)) (hg : A.heap[g]? = some (.cells cs t fr)) (ht : t = 190 ∨ t = 188) (hM : M ≤ g) : KI M A B := by
  have key : ∀ b, b < A.heap.size → b ≠ g → B.heap[b]? = A.heap[b]? := fun b hb hne => hk.block b hb (by intro e; injection e with e; exact hne e)
  have hgl := hlt hg
  refine ⟨⟨hk.os, hk.tape, hk.output, hk.size, fun b hb => key b (by omega) (by omega), fun b cs' t' fr' ho h1 h2 => (key b (hlt ho) ?_).trans ho⟩, fun b o ho hc => (key b (hlt ho) ?_).trans ho⟩
  · rintro rfl
    rw [hg] at ho
    injection ho with ho
    injection ho with _ ho
    subst ho
    rcases ht with e | e
    · exact h1 e
    · exact h2 e
  · rintro rfl
    rw [hg] at ho
    injection ho with ho
    subst ho
    cases hc
end
theorem Blk.ch {M : Nat} {w w' : World} {g : Nat} {cs : List Int} (h : Blk w g cs) (k : Ch M w w') : Blk w' g cs := k.same g _ _ _ h (by decide) (by decide)
theorem OwnD.ch {M : Nat} {D : Nat → Prop} {W W' : World} {A : Option Addr} {zs : List Int} (h : OwnD D W A zs) (k : Ch M W W') : OwnD D W' A zs := fun hp => by
  obtain ⟨g, rfl, h1, hb⟩ := h hp
  exact ⟨g, rfl, h1, hb.ch k⟩
theorem Box.ch {M : Nat} {W W' : World} {b : Nat} {v : Value} (h : Box W b v) (k : Ch M W W') (hb : b < M) : Box W' b v := ⟨k.cell hb h.1, (World.frozen?_of_block (w := W) (a := ⟨b, 0, none⟩) (k.low b hb)).trans h.2⟩

/-- What an iterator over states with words promises, to a loop that writes nothing but the blocks of D. -/
def GivesW (m : Nat) (g : Nat) (lb : Array Value) (L : List Wv) (D : Nat → Prop) (w : World) : Prop :=
  ∀ (l : Nat) (J : Nat → World → Prop) (Jx : World → Prop) (W : World), Below w.heap.size w W →
    (∀ k A B, J k A → KI W.heap.size A B → J k B) → (∀ A B, Jx A → KI W.heap.size A B → Jx B) →
    (∀ k x A W1, L[k]? = some x → J k W1 → OwnD D W1 A x.2 → YieldAt Fence.wide (m - 1) Try.prog l (wvv x A) W1 fun e W' =>
      (e = .returned (.bool true) ∧ J (k + 1) W' ∧ KC D W1 W') ∨ (e = .returned (.bool false) ∧ Jx W')) →
    J 0 W → CallsIn Fence.wide m Try.prog g (#[.func (.yield l) #[] #[]] ++ lb) W fun e W' => (∃ v, e = .returned v) ∧ (J L.length W' ∨ Jx W')

theorem range_words {m : Nat} {Q : Exit → Act → World → Prop} {a : Act} {w : World} {g : Operand} {ps : Array Tmp} {assign body : Code} (gf : Nat) (lb : Array Value)
    (hg : a.eval g = .func (.func gf) #[] lb) (eg : ∀ args w, (callFunc gf args).run Try.prog w = .ok (.enter gf args) w)
    (L : List Wv) (D : Nat → Prop) (hD : ∀ b, D b → b < w.heap.size) (hps : ps.size = 2) (hseq : GivesW (m - 1) gf lb L D w)
    (I : Nat → World → Prop) (Ix : Code → World → Prop) (hI : ∀ k A B, I k A → Ch w.heap.size A B → I k B) (hIx : ∀ c A B, Ix c A → Ch w.heap.size A B → Ix c B) (h0 : I 0 w)
    (hround : ∀ l k x A W, L[k]? = some x → w.heap.size ≤ W.heap.size → I k W → OwnD D W A x.2 → assign.wpIn (Fence.wide.inRound l) (m - 1 - 1) Try.prog (Exit.then (fun a1 W1 => Below W.heap.size W W1 ∧
      ∀ W2, Cells w.heap.size W1 W2 → body.wpIn (Fence.wide.inRound l) (m - 1 - 1) Try.prog (roundP D I Ix k W2) a1 W2) (fun _ _ _ => False)) { tmps := (ps.zip (wvv x A)).foldl (fun ts (p, v) => ts.setIfInBounds p v) a.tmps, defers := [] } W)
    (hdone : ∀ N W, w.heap.size ≤ N → I L.length W → W.heap[N]? = some (.deferred (some [])) → Q .normal (marked a N) W)
    (hstop : ∀ N c W, w.heap.size ≤ N → Ix c W → W.heap[N]? = some (.deferred (some [])) → c.wpIn Fence.wide m Try.prog Q (marked a N) W) :
    (Code.rangeFunc g ps assign body).wpIn Fence.wide m Try.prog Q a w := by
  refine wpIn_rangeFunc ?_
  intro fn hfn
  rw [Fence.wide_round]
  obtain ⟨N, hN⟩ : ∃ N, w.heap.size = N := ⟨_, rfl⟩
  obtain ⟨rec, hrec⟩ : ∃ rec : LoopState → Option Code → Loop, rec = fun st pe => { state := st, pending := pe, fn, tmps := a.tmps, params := ps, assign, body, defers := N } := ⟨_, rfl⟩
  obtain ⟨W1, hW1⟩ : ∃ W1, (w.alloc (.deferred (some []))).alloc (.loop (rec .ready none)) = W1 := ⟨_, rfl⟩
  have hL1 : W1.heap[N + 1]? = some (.loop (rec .ready none)) := by
    rw [← hW1, ← hN]; have := World.alloc_heap_new (w.alloc (.deferred (some []))) (.loop (rec .ready none)); rwa [World.size_alloc] at this
  have hK1 : W1.heap[N]? = some (.deferred (some [])) := by
    rw [← hW1, ← hN]; exact (Below.heap_alloc _ _ _ (by simp)).trans (World.alloc_heap_new w _)
  have hb1 : Below w.heap.size w W1 := by
    rw [← hW1]; exact ((Below.refl _ w).alloc (Nat.le_refl _) _).alloc (by simp) _
  have hI1 : I 0 W1 := hI _ _ _ h0 (Ch.of_cells (Cells.of_below hb1 (Nat.le_refl _)))
  refine ⟨N + 1, [{ target := .collected N, args := #[] }], W1, { target := .fn (.func gf) lb, args := #[.func (.yield (N + 1)) #[] #[]] }, W1, gf,
    #[.func (.yield (N + 1)) #[] #[]] ++ lb, W1, ?_, ?_, ?_, ?_, fun h => by simp [Fence.wide] at h, ?_⟩
  · rw [← hW1, hrec, ← hN]; exact run_enterLoop_outer _ _ _ _ _
  · simp only [resolve, hg]
    simp [go_sem]
  · intro f' hf'; trivial
  · simp [invoke, go_sem, eg]
  · have abide : ∀ {A B : World} {o : Obj} {b : Nat}, A.heap[b]? = some o → Below A.heap.size A B → B.heap[b]? = some o := fun ho hb => (hb.block _ (hlt ho)).trans ho
    refine (hseq (N + 1)
      (fun k W => I k W ∧ N + 1 < W.heap.size ∧ W.heap[N + 1]? = some (.loop (rec .ready none)) ∧ W.heap[N]? = some (.deferred (some [])))
      (fun W => ∃ c, Ix c W ∧ W.heap[N + 1]? = some (.loop (rec .done (some c))) ∧ W.heap[N]? = some (.deferred (some [])))
      W1 hb1 (fun k A B ⟨h1, h2, h3, h4⟩ hb => ⟨hI _ _ _ h1 (hb.ch.less hb1.size), by have := hb.ch.size; omega, hb.objs _ _ h3 rfl, hb.objs _ _ h4 rfl⟩)
      (fun A B ⟨c, h1, h3, h4⟩ hb => ⟨c, hIx _ _ _ h1 (hb.ch.less hb1.size), hb.objs _ _ h3 rfl, hb.objs _ _ h4 rfl⟩)
      ?_ ⟨hI1, hlt hL1, hL1, hK1⟩).mono ?_
    · rintro k x A W hk ⟨hi, hs, hl, hd⟩ ho
      have hy := run_yield (P := Try.prog) (args := wvv x A) hl (by rw [hrec]; exact hps.symm)
      rw [hrec] at hy
      refine ⟨fn, _, assign, body, hy, roundIn_of_wpIn hfn (wpIn_mono (hround _ k x A W hk (by omega) hi ho) ?_)⟩
      clear hy
      rintro e a1 Wa hpost
      cases e with
      | normal =>
        obtain ⟨hba, hbody⟩ := hpost
        have hla := abide hl hba
        have hda := abide hd hba
        have hsa : N + 1 < Wa.heap.size := hlt hla
        refine ⟨_, run_beginRound hla (by rw [hrec]), ?_⟩
        obtain ⟨W2, hW2⟩ : ∃ W2, Wa.putObj (N + 1) (.loop { rec .ready none with state := .busy }) = W2 := ⟨_, rfl⟩
        have hl2 : W2.heap[N + 1]? = some (.loop { rec .ready none with state := .busy }) := by rw [← hW2]; exact World.putObj_heap_same hsa
        have hd2 : W2.heap[N]? = some (.deferred (some [])) := by rw [← hW2]; exact (World.putObj_heap_other (by omega)).trans hda
        have hc2 : Cells w.heap.size Wa W2 := by rw [← hW2]; exact Cells.put _ hla rfl (by omega)
        have hkc : KC D W W2 := (KC.of_below hba).trans (KC.of_cells hc2)
        rw [hW2]
        refine wpIn_mono (hbody W2 hc2) ?_
        have fin : ∀ (c : Code) (W3 : World), Ix c W3 → KA D W2 W3 → ∃ v w4, (Instr.endRound (N + 1) (some c)).run Try.prog W3 = .ok v w4 ∧
            (((Ending.returned v = .returned (.bool true) ∧ (I (k + 1) w4 ∧ N + 1 < w4.heap.size ∧ w4.heap[N + 1]? = some (.loop (rec .ready none)) ∧ w4.heap[N]? = some (.deferred (some []))) ∧ KC D W w4)) ∨
             (Ending.returned v = .returned (.bool false) ∧ ∃ c, Ix c w4 ∧ w4.heap[N + 1]? = some (.loop (rec .done (some c))) ∧ w4.heap[N]? = some (.deferred (some [])))) := by
          intro c W3 hi3 hk3
          have hnl : ∀ b, N ≤ b → ¬ D b := fun b hb h => by have := hD b h; omega
          have hl3 := hk3.2 _ _ (hnl _ (by omega)) hl2
          have hd3 := hk3.2 _ _ (hnl _ (by omega)) hd2
          have hr := run_endRound (P := Try.prog) (some c) hl3
          have hc3 : Cells w.heap.size W3 (W3.putObj (N + 1) (.loop (rec .done (some c)))) := Cells.put _ hl3 rfl (by omega)
          refine ⟨_, _, hr, .inr ⟨rfl, c, ?_⟩⟩
          rw [hrec] at hc3 ⊢
          exact ⟨hIx _ _ _ hi3 (Ch.of_cells hc3), World.putObj_heap_same (hlt hl3), (World.putObj_heap_other (by omega)).trans hd3⟩
        rintro e a3 W3 hpost
        cases e with
        | normal =>
          obtain ⟨hi3, hk3⟩ := hpost
          have hnl : ∀ b, N ≤ b → ¬ D b := fun b hb h => by have := hD b h; omega
          have hl3 := hk3.2 _ _ (hnl _ (by omega)) hl2
          have hd3 := hk3.2 _ _ (hnl _ (by omega)) hd2
          have hr := run_endRound (P := Try.prog) none hl3
          have hc3 : Cells w.heap.size W3 (W3.putObj (N + 1) (.loop (rec .ready none))) := Cells.put _ hl3 rfl (by omega)
          refine ⟨_, _, hr, .inl ⟨rfl, ?_, ?_⟩⟩
          · rw [hrec] at hc3 ⊢
            exact ⟨hI _ _ _ hi3 (Ch.of_cells hc3), by rw [World.putObj_size]; exact hlt hl3, World.putObj_heap_same (hlt hl3), (World.putObj_heap_other (by omega)).trans hd3⟩
          · rw [hrec] at hc3 ⊢
            exact hkc.trans ((KC.of_all hk3).trans (KC.of_cells hc3))
        | ret => exact fin _ _ hpost.1 hpost.2
        | exit id => exact fin _ _ hpost.1 hpost.2
        | goto t => exact hpost.elim
        | panic ch => exact hpost.elim
        | outgrown => exact hpost.elim
      | ret => exact hpost.elim
      | exit id => exact hpost.elim
      | goto t => exact hpost.elim
      | panic ch => exact hpost.elim
      | outgrown => exact hpost.elim
    · rintro e W2 ⟨⟨v, rfl⟩, (⟨hi, hs, hl, hd⟩ | ⟨c, hi, hl, hd⟩)⟩
      · have hc3 : Cells w.heap.size W2 (W2.putObj (N + 1) (.loop { rec .ready none with state := .exhausted })) := Cells.put _ hl rfl (by omega)
        exact ⟨none, _, by have := run_endLoop (P := Try.prog) hl (by rw [hrec]; simp); rw [hrec] at this ⊢; exact this, hdone N _ (by omega) (hI _ _ _ hi (Ch.of_cells hc3)) ((World.putObj_heap_other (by omega)).trans hd)⟩
      · have hc3 : Cells w.heap.size W2 (W2.putObj (N + 1) (.loop { rec .done (some c) with state := .exhausted })) := Cells.put _ hl rfl (by omega)
        exact ⟨some c, _, by have := run_endLoop (P := Try.prog) hl (by rw [hrec]; simp); rw [hrec] at this ⊢; exact this, hstop N c _ (by omega) (hIx _ _ _ hi (Ch.of_cells hc3)) ((World.putObj_heap_other (by omega)).trans hd)⟩
end Go.Proofs.Ytgafpmgdpigliaa

namespace Go.Proofs.Ytgafpmgdpigliaa
open Go.RowKit

/-- make([]int, n): a block of zeros. -/
theorem wpList_make_ints (w : World) {ops : Array Oper} {rest : List Oper} {o : Oper} {a : Act} {Q : Exit → Act → World → Prop}
    (hg : o.guard = none) (l c : Operand) (hop : o.op = Op.makeSlice 30 l c) (L : Int) (n : Nat) (hl : a.eval l = .int .i64 L) (hc : a.eval c = .int .i64 L) (hL : L = (n : Int)) (hn : n ≤ 65537)
    (hK : ∀ w', Hid (Blk w' w.heap.size (List.replicate n 0)) → Below w.heap.size w w' → wpList Try.prog ops Q rest (a.put o.dst (.slice (some ⟨w.heap.size, 0, none⟩) n n)) w') :
    wpList Try.prog ops Q (o :: rest) a w := by
  subst hL
  refine wpList_plain hg fun K hK' => ?_
  have hrun := run_make_row' (P := Try.prog) 30 3 (.int .i64 0) 8 Try.underlying30 int_info rfl .i64 .i64 n (by omega) (by omega) w
  unfold Oper.wp
  simp [execOp, hop, hl, hc, hrun, Result.andThen]
  refine hK' _ _ (hK _ ?_ ((Below.refl _ _).alloc (Nat.le_refl _) _))
  show _ = _
  rw [heap_alloc_new]
  have e := toList_madeCells_one (.int .i64 0) n
  have e2 : madeCells #[.int .i64 0] n = (ints (List.replicate n 0)).toArray := by
    rw [← Array.toList_inj, e]
    simp [ints]
  rw [e2]

/-- A slice value over address L reads as a list of lists. -/
def RdS (w : World) (L : Option Addr) (rows : List (List Int)) : Prop :=
  0 < rows.length → ∃ b off, L = some ⟨b, off, none⟩ ∧ b < w.heap.size ∧ ∀ k, k < rows.length → ∃ A c, w.cell? ⟨b, off + k, none⟩ = some (.slice A (M.row rows k).length c) ∧ Rd w A (M.row rows k)
theorem RdS.below {w w' : World} {L : Option Addr} {rows : List (List Int)} (h : RdS w L rows) (hb : Below w.heap.size w w') : RdS w' L rows := fun hp => by
  obtain ⟨b, off, e, hl, hc⟩ := h hp
  refine ⟨b, off, e, by have := hb.size; omega, fun k hk => ?_⟩
  obtain ⟨A, c, h1, h2⟩ := hc k hk
  exact ⟨A, c, ((bcell hb).1 _ _ hl).trans h1, h2.below hb⟩
theorem RdS.at_ {w : World} {L : Option Addr} {rows : List (List Int)} (h : RdS w L rows) {k : Nat} (hk : k < rows.length) : ∃ b off A c m, L = some ⟨b, off, none⟩ ∧ b < w.heap.size ∧ w.cell? ⟨b, off + k, none⟩ = some (.slice A m c) ∧ Rd w A (M.row rows k) ∧ Hid ((M.row rows k).length = m) := by
  obtain ⟨b, off, e, hl, hc⟩ := h (by omega)
  obtain ⟨A, c, h1, h2⟩ := hc k hk
  exact ⟨b, off, A, c, _, e, hl, h1, h2, rfl⟩
theorem check_at (A : Option Addr) (c m : Nat) (zs : List Int) (n : Int) (w : World) (h : Rd w A zs) (e : zs.length = m) :
    Calls Try.prog 130 #[.slice A m c, .int .i64 n] w fun e w' => e = .returned (.int .i64 (M.check zs n)) ∧ Below w.heap.size w w' := by
  subst e
  exact check_any A c zs n w h

/-- copy(all[at:], w). -/
theorem wpList_copy_part (w : World) {ops : Array Oper} {rest : List Oper} {o : Oper} {a : Act} {Q : Exit → Act → World → Prop} (hgd : o.guard = none) (d s : Operand)
    (ho : o.op = .call { callee := .builtin .copy, args := #[d, s], argTypes := #[30, 30] }) (D A : Option Addr) (n m t g dcap c : Nat) (cur zs : List Int) (hd : a.eval d = .slice D n dcap) (hs : a.eval s = .slice A m c)
    (hB : Blk w g cur) (hcur : t + m ≤ cur.length) (hn : m ≤ n) (hD : 0 < m → D = some ⟨g, t, none⟩) (hr : Rd w A zs) (hzs : zs.length = m) (B : Nat) (w0 : World) (hb : Below B w0 w) (hBg : B ≤ g)
    (h : ∀ w', Hid (Blk w' g (cur.take t ++ (zs ++ cur.drop (t + zs.length)))) → Below B w0 w' → wpList Try.prog ops Q rest (a.put o.dst (goInt m)) w') : wpList Try.prog ops Q (o :: rest) a w := by
  refine wpList_copy_splice hgd d s 30 30 ho 3 Try.underlying30 (by kernel_rfl) D A n dcap m c hd hs g t (ints cur) 3 hB (ints zs) (by rw [ints_len, hzs]; exact (Nat.min_eq_left hn).symm) ?_ (by rw [ints_len, ints_len]; omega) ?_ B w0 hb hBg ?_
  · intro hp
    rw [ints_len] at hp
    obtain ⟨b, off, rfl, hb2, hc⟩ := hr hp
    refine ⟨hD (by omega), _, rfl, fun j v hv => ?_⟩
    have hj : j < zs.length := by
      rcases Nat.lt_or_ge j zs.length with h1 | h1
      · exact h1
      · rw [List.getElem?_eq_none (by rw [ints_len]; exact h1)] at hv; cases hv
    rw [ints_at hj] at hv
    injection hv with hv
    subst hv
    rw [Addr.add_lit]
    exact hc j hj
  · intro v hv
    simp only [ints, List.mem_map] at hv
    obtain ⟨z, _, rfl⟩ := hv
    rfl
  · intro w' hg' hb'
    have e : splice (ints cur) t (ints zs) = ints (cur.take t ++ (zs ++ cur.drop (t + zs.length))) := by simp [splice, ints, List.map_take, List.map_drop]
    rw [e] at hg'
    rw [ints_len, hzs]
    exact h w' hg' hb'

set_option maxRecDepth 100000 in
set_option maxHeartbeats 800000 in
theorem concat_ok (L : Option Addr) (c : Nat) (rows : List (List Int)) (n : Int) (w : World) (h : RdS w L rows) (hr : rows.length ≤ 1000000) (hall : ∀ k, k < rows.length → M.check (M.row rows k) n = 0) (ht : ¬ 256 < M.total rows) :
    Calls Try.prog 127 #[.int .i64 n, .slice L rows.length c] w fun e w' => ∃ g k, e = .returned (.tuple #[.slice (some ⟨g, 0, none⟩) k k, .int .i64 0]) ∧ Hid (rows.flatten.length = k) ∧ w.heap.size ≤ g ∧ Blk w' g rows.flatten ∧ Below w.heap.size w w' := by
  have HA := Lib.hid hall
  clear hall
  go_enter Try.func127, Try.ntmps127
  go_wp2
  go_loopw [6, 16] (fun l i wr => ∃ k : Nat, k ≤ rows.length ∧ i = .int .i64 k ∧ l = .int .i64 (M.total (rows.take k)) ∧ (M.total (rows.take k)) ≤ 256 ∧ Below w.heap.size w wr) (fun _ i _ => rows.length - (intOf i).toNat)
  case atStart => exact ⟨0, Nat.zero_le _, rfl, by simp [M.total], by simp [M.total], Below.refl _ _⟩
  case round =>
    obtain ⟨k, hk, rfl, rfl, htb, hbr⟩ := hrel
    by_cases hlt : k < rows.length
    · obtain ⟨b, off, A, cc, m, rfl, hb, hc, hrd, hm⟩ := (h.below hbr).at_ hlt
      have HT := Lib.hid (M.total_snoc hlt)
      have HTL := Lib.hid (M.total_le (rows := rows) (k + 1))
      have hmb : M.total (rows.take k) + m ≤ 256 := by have h1 := HT.out; have h2 := HTL.out; have h3 := hm.out; omega
      have HQ := Lib.hid (HA.out k hlt)
      go_wp2_with fail
      refine (check_at _ _ _ _ _ _ hrd hm.out).mono ?_
      rintro e w1 ⟨rfl, hb1⟩
      rw [HQ.out]
      go_wp2
      go_roundw
      case rel => exact ⟨k + 1, by omega, by go_num, (by rw [HT.out, hm.out]; go_num), (by rw [HT.out, hm.out]; omega), below_next hbr hb1⟩
      case measure => simp [intOf]; omega
    · obtain rfl : k = rows.length := by omega
      have ek : rows.take rows.length = rows := List.take_of_length_le (Nat.le_refl _)
      rw [ek] at htb ⊢
      clear ek
      have hsz := hbr.size
      obtain ⟨wo, rfl⟩ : ∃ wo : World, wo = wr := ⟨_, rfl⟩
      go_wp2_with (refine wpList_make_ints _ rfl _ _ rfl _ (M.total rows) rfl rfl rfl (by omega) ?_)
      intro w1 hB1 hb1
      go_wp2
      obtain ⟨g, hg⟩ : ∃ g, wo.heap.size = g := ⟨_, rfl⟩
      obtain ⟨T, hT⟩ : ∃ T, M.total rows = T := ⟨_, rfl⟩
      rw [hg] at hB1 ⊢
      rw [hT] at hB1 ht htb ⊢
      have HTT := Lib.hid hT
      have hgB : w.heap.size ≤ g := by omega
      have hbw := below_next hbr hb1
      clear hg hb1 hsz hT
      go_loopw [11, 37] (fun l i wr => ∃ (k t : Nat) (cur : List Int), k ≤ rows.length ∧ i = .int .i64 k ∧ l = .int .i64 t ∧ Hid (M.total (rows.take k) = t) ∧ Hid (Blk wr g cur) ∧ Hid (M.Cat rows k cur) ∧ Below w.heap.size w wr) (fun _ i _ => rows.length - (intOf i).toNat)
      case atStart => exact ⟨0, 0, _, Nat.zero_le _, rfl, rfl, by simp [M.total, Hid], hB1, (by rw [← HTT.out]; exact M.Cat.start rows), hbw⟩
      case round =>
        obtain ⟨k, t, cur, hk, rfl, rfl, ht2, hB, hC, hbr2⟩ := hrel
        clear hB1 hbw hbr
        by_cases hlt : k < rows.length
        · obtain ⟨b, off, A, cc, m, rfl, hb, hc, hrd, hm⟩ := (h.below hbr2).at_ hlt
          have hle := M.total_le (rows := rows) (k + 1)
          have hS := M.total_snoc hlt
          rw [hm.out, ht2.out] at hS
          rw [hS, HTT.out] at hle
          have HS := Lib.hid hS
          have HC := Lib.hid (hC.out.step hlt)
          have hlen := Lib.hid hC.out.len
          rw [hm.out, ht2.out] at HC
          have hmT : t + m ≤ T := by omega
          clear hS ht2
          by_cases hE : T = t
          · subst hE
            go_wp2_with (with_reducible refine wpList_copy_part _ rfl (.tmp 44) (.tmp 45) rfl _ A 0 m T g _ cc cur (M.row rows k) rfl rfl hB.out (by rw [hlen.out, HTT.out]; omega) (by omega) (fun hp => absurd hp (by omega)) hrd hm.out w.heap.size w hbr2 hgB ?_)
            intro w2 hB2 hb2
            rw [hm.out] at hB2
            clear hB hbr2 hc hrd
            go_wp2
            go_roundw
            case rel => exact ⟨k + 1, T + m, _, by omega, by go_num, by go_num, HS, hB2, HC, hb2⟩
            case measure => simp [intOf]; omega
          · go_wp2_with (with_reducible refine wpList_copy_part _ rfl (.tmp 44) (.tmp 45) rfl _ A _ m t g _ cc cur (M.row rows k) rfl rfl hB.out (by rw [hlen.out, HTT.out]; omega) (by omega) (fun hp => rfl) hrd hm.out w.heap.size w hbr2 hgB ?_)
            intro w2 hB2 hb2
            rw [hm.out] at hB2
            clear hB hbr2 hc hrd
            go_wp2
            go_roundw
            case rel => exact ⟨k + 1, t + m, _, by omega, by go_num, by go_num, HS, hB2, HC, hb2⟩
            case measure => simp [intOf]; omega
        · obtain rfl : k = rows.length := by omega
          have HD := Lib.hid hC.out.done
          go_wp2
          go_ret2
          exact ⟨g, T, rfl, HTT, hgB, by rw [← HD.out]; exact hB.out, hbr2⟩
/-- A word and one symbol more. -/
theorem concat_snoc (L : Option Addr) (c : Nat) (x : List Int) (j n : Int) (w : World) (h : RdS w L [x, [j]]) (hx : M.Val n x) (hj : 0 ≤ j ∧ j < n) (hn : 1 ≤ n ∧ n ≤ 16) (hl : x.length < 256) :
    Calls Try.prog 127 #[.int .i64 n, .slice L 2 c] w fun e w' => ∃ g k, e = .returned (.tuple #[.slice (some ⟨g, 0, none⟩) k k, .int .i64 0]) ∧ Hid ((x ++ [j]).length = k) ∧ w.heap.size ≤ g ∧ Blk w' g (x ++ [j]) ∧ Below w.heap.size w w' := by
  have ck : ∀ y : List Int, y.length ≤ 256 → M.Val n y → M.check y n = 0 := fun y hy hv => by
    rw [M.check_in hn.2 (by omega) hn.1]
    refine M.badI_clean ?_
    rw [List.any_eq_false]
    intro c hc
    have := hv c hc
    simp [M.badB]
    omega
  have e := concat_ok L c [x, [j]] n w h (by simp) (fun k hk => by
    match k, hk with
    | 0, _ => exact ck x (by omega) hx
    | 1, _ => exact ck [j] (by simp) (fun c hc => by simp at hc; subst hc; exact hj)
    | k + 2, hk => exact absurd hk (by simp only [List.length_cons, List.length_nil]; omega)) (by simp [M.total]; omega)
  simpa using e
end Go.Proofs.Ytgafpmgdpigliaa
