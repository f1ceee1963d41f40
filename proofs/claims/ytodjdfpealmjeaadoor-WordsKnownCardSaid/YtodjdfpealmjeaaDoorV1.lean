/-
  A loop over the words that words.All hands out: what the iterator promises ('Gives'), and the law of the loop, where each round knows what the word it is handed holds in memory. No statement is proved here.
-/
import Derived.Test.YtodjdfpealmjeaaDoorW7
import Derived.RangeFuncNested
namespace Go.Proofs.YtodjdfpealmjeaaDoor
open Go.RowKit

/-- The k-th word over n letters. -/
def M.word (n : Int) : Nat → List Int
  | 0 => []
  | k + 1 => M.next n (M.word n k)

/-- Whatever is cells lies as it lay, but the blocks p and q. -/
def KC (p q : Nat) (W W' : World) : Prop := W.heap.size ≤ W'.heap.size ∧ ∀ b o, b ≠ p → b ≠ q → W.heap[b]? = some o → o.isCells = true → W'.heap[b]? = some o
/-- Every block lies as it lay, but p and q. -/
def KA (p q : Nat) (W W' : World) : Prop := W.heap.size ≤ W'.heap.size ∧ ∀ b o, b ≠ p → b ≠ q → W.heap[b]? = some o → W'.heap[b]? = some o
/-- What is cells lies as it lay, and what lies below B. -/
structure Cells (B : Nat) (W W' : World) : Prop where
  os : W'.os = W.os
  tape : W'.tape = W.tape
  output : W'.output = W.output
  size : W.heap.size ≤ W'.heap.size
  block : ∀ b, b < B → W'.heap[b]? = W.heap[b]?
  same : ∀ (b : Nat) (o : Obj), W.heap[b]? = some o → o.isCells = true → W'.heap[b]? = some o

theorem hlt {W : World} {b : Nat} {o : Obj} (h : W.heap[b]? = some o) : b < W.heap.size := (Array.getElem?_eq_some_iff.1 h).1
theorem Cells.of_below {B : Nat} {W W' : World} (h : Below W.heap.size W W') (hB : B ≤ W.heap.size) : Cells B W W' :=
  ⟨h.os, h.tape, h.output, h.size, fun b hb => h.block b (by omega), fun b o ho _ => (h.block b (hlt ho)).trans ho⟩
theorem Cells.put {B : Nat} {W : World} {l : Nat} {o : Obj} (o' : Obj) (h : W.heap[l]? = some o) (hc : o.isCells = false) (hB : B ≤ l) : Cells B W (W.putObj l o') :=
  ⟨rfl, rfl, rfl, by simp, fun b hb => World.putObj_heap_other (by omega), fun b _ ho hc2 => by
    by_cases e : b = l
    · subst e; rw [h] at ho; cases ho; rw [hc] at hc2; cases hc2
    · exact (World.putObj_heap_other e).trans ho⟩
theorem KC.trans {p q : Nat} {A B C : World} (h : KC p q A B) (k : KC p q B C) : KC p q A C :=
  ⟨Nat.le_trans h.1 k.1, fun b o hp hq ho hc => k.2 b o hp hq (h.2 b o hp hq ho hc) hc⟩
theorem KC.of_cells {p q B : Nat} {W W' : World} (h : Cells B W W') : KC p q W W' := ⟨h.size, fun b o _ _ ho hc => h.same b o ho hc⟩
theorem KC.of_all {p q : Nat} {W W' : World} (h : KA p q W W') : KC p q W W' := ⟨h.1, fun b o hp hq ho _ => h.2 b o hp hq ho⟩
theorem KA.trans {p q : Nat} {A B C : World} (h : KA p q A B) (k : KA p q B C) : KA p q A C :=
  ⟨Nat.le_trans h.1 k.1, fun b o hp hq ho => k.2 b o hp hq (h.2 b o hp hq ho)⟩
theorem KA.of_below {p q : Nat} {W W' : World} (h : Below W.heap.size W W') : KA p q W W' := ⟨h.size, fun b _ _ _ ho => (h.block b (hlt ho)).trans ho⟩
theorem KA.set {p q b : Nat} (W : World) (hb : b = p ∨ b = q) (u : Value) : KA p q W (W.setCell ⟨b, 0, none⟩ u) :=
  ⟨by show W.heap.size ≤ (W.heap.modify _ _).size; rw [Array.size_modify]; exact Nat.le_refl _, fun k _ hp hq ho => (Below.heap_setCell W ⟨b, 0, none⟩ u k (by intro e; cases hb <;> simp_all)).trans ho⟩

/-- A list in a block of its own, which is neither p nor q. -/
def Own2 (p q : Nat) (W : World) (A : Option Addr) (zs : List Int) : Prop := 0 < zs.length → ∃ g, A = some ⟨g, 0, none⟩ ∧ g ≠ p ∧ g ≠ q ∧ Blk W g zs
theorem Own2.rd {p q : Nat} {W : World} {A : Option Addr} {zs : List Int} (h : Own2 p q W A zs) : Rd W A zs := fun hp => by
  obtain ⟨g, rfl, _, _, hb⟩ := h hp
  exact hb.rd hp
theorem Own2.keep {p q : Nat} {W W' : World} {A : Option Addr} {zs : List Int} (h : Own2 p q W A zs) (k : KC p q W W') : Own2 p q W' A zs := fun hp => by
  obtain ⟨g, rfl, h1, h2, hb⟩ := h hp
  exact ⟨g, rfl, h1, h2, k.2 g _ h1 h2 hb rfl⟩

/-- The slice of a word, as yield gets it. -/
def wv (n : Int) (k : Nat) (A : Option Addr) : Array Value := #[.slice A (M.word n k).length (M.word n k).length]

/-- What an iterator over the first N words promises. -/
def Gives (m : Nat) (g : Nat) (lb : Array Value) (n : Int) (N p q : Nat) (w : World) : Prop :=
  ∀ (l : Nat) (J : Nat → World → Prop) (Jx : World → Prop) (W : World), Below w.heap.size w W →
    (∀ k A B, J k A → Below A.heap.size A B → J k B) → (∀ A B, Jx A → Below A.heap.size A B → Jx B) →
    (∀ k A W1, k < N → J k W1 → Own2 p q W1 A (M.word n k) → YieldAt Fence.wide (m - 1) Tryd.prog l (wv n k A) W1 fun e W' =>
      (e = .returned (.bool true) ∧ J (k + 1) W' ∧ KC p q W1 W') ∨ (e = .returned (.bool false) ∧ Jx W')) →
    J 0 W → CallsIn Fence.wide m Tryd.prog g (#[.func (.yield l) #[] #[]] ++ lb) W fun e W' => (∃ v, e = .returned v) ∧ (J N W' ∨ Jx W')

/-- What a round's body owes: on: one word more; out by the loop's own break. -/
def roundP (p q : Nat) (I : Nat → World → Prop) (Ix : World → Prop) (k : Nat) (W : World) : Exit → Act → World → Prop
  | .normal, _, W' => I (k + 1) W' ∧ KA p q W W'
  | .exit 0, _, W' => Ix W' ∧ KA p q W W'
  | _, _, _ => False

/-- The activation behind the loop: the mark for the rounds' deferred calls is pushed. -/
def marked (a : Act) (D : Nat) : Act := { a with defers := { target := .collected D, args := #[] } :: a.defers }

theorem range_words {m : Nat} {Q : Exit → Act → World → Prop} {a : Act} {w : World} {g : Operand} {t : Tmp} {assign body : Code} (gf : Nat) (lb : Array Value)
    (hg : a.eval g = .func (.func gf) #[] lb) (eg : ∀ args w, (callFunc gf args).run Tryd.prog w = .ok (.enter gf args) w)
    (n : Int) (N p q : Nat) (hp : p < w.heap.size) (hq : q < w.heap.size) (hseq : Gives (m - 1) gf lb n N p q w)
    (I : Nat → World → Prop) (Ix : World → Prop) (hI : ∀ k A B, I k A → Cells w.heap.size A B → I k B) (hIx : ∀ A B, Ix A → Cells w.heap.size A B → Ix B) (h0 : I 0 w)
    (ax : Nat → Option Addr → Act)
    (hassign : ∀ l k A W K, K (ax k A) W → assign.wpIn (Fence.wide.inRound l) (m - 1 - 1) Tryd.prog (Exit.then K (fun _ _ _ => False)) { tmps := (#[t].zip #[Value.slice A (M.word n k).length (M.word n k).length]).foldl (fun ts (p, v) => ts.setIfInBounds p v) a.tmps, defers := [] } W)
    (hbody : ∀ l k A W, k < N → I k W → Own2 p q W A (M.word n k) → body.wpIn (Fence.wide.inRound l) (m - 1 - 1) Tryd.prog (roundP p q I Ix k W) (ax k A) W)
    (hdone : ∀ D W, w.heap.size ≤ D → I N W → W.heap[D]? = some (.deferred (some [])) → Q .normal (marked a D) W)
    (hstop : ∀ D W, w.heap.size ≤ D → Ix W → W.heap[D]? = some (.deferred (some [])) → (Code.exit 0).wpIn Fence.wide m Tryd.prog Q (marked a D) W) :
    (Code.rangeFunc g #[t] assign body).wpIn Fence.wide m Tryd.prog Q a w := by
  refine wpIn_rangeFunc ?_
  intro fn hfn
  rw [Fence.wide_round]
  obtain ⟨D, hD⟩ : ∃ D, w.heap.size = D := ⟨_, rfl⟩
  obtain ⟨rec, hrec⟩ : ∃ rec : LoopState → Option Code → Loop, rec = fun st pe => { state := st, pending := pe, fn, tmps := a.tmps, params := #[t], assign, body, defers := D } := ⟨_, rfl⟩
  obtain ⟨W1, hW1⟩ : ∃ W1, (w.alloc (.deferred (some []))).alloc (.loop (rec .ready none)) = W1 := ⟨_, rfl⟩
  have hL1 : W1.heap[D + 1]? = some (.loop (rec .ready none)) := by
    rw [← hW1, ← hD]; have := World.alloc_heap_new (w.alloc (.deferred (some []))) (.loop (rec .ready none)); rwa [World.size_alloc] at this
  have hK1 : W1.heap[D]? = some (.deferred (some [])) := by
    rw [← hW1, ← hD]; exact (Below.heap_alloc _ _ _ (by simp)).trans (World.alloc_heap_new w _)
  have hb1 : Below w.heap.size w W1 := by
    rw [← hW1]; exact ((Below.refl _ w).alloc (Nat.le_refl _) _).alloc (by simp) _
  have hI1 : I 0 W1 := hI _ _ _ h0 (Cells.of_below hb1 (Nat.le_refl _))
  refine ⟨D + 1, [{ target := .collected D, args := #[] }], W1, { target := .fn (.func gf) lb, args := #[.func (.yield (D + 1)) #[] #[]] }, W1, gf,
    #[.func (.yield (D + 1)) #[] #[]] ++ lb, W1, ?_, ?_, ?_, ?_, fun h => by simp [Fence.wide] at h, ?_⟩
  · rw [← hW1, hrec, ← hD]; exact run_enterLoop_outer _ _ _ _ _
  · simp only [resolve, hg]
    simp [go_sem]
  · intro f' hf'; trivial
  · simp [invoke, go_sem, eg]
  · have abide : ∀ {A B : World} {o : Obj} {b : Nat}, A.heap[b]? = some o → Below A.heap.size A B → B.heap[b]? = some o := fun ho hb => (hb.block _ (hlt ho)).trans ho
    refine (hseq (D + 1)
      (fun k W => I k W ∧ D + 1 < W.heap.size ∧ W.heap[D + 1]? = some (.loop (rec .ready none)) ∧ W.heap[D]? = some (.deferred (some [])))
      (fun W => Ix W ∧ W.heap[D + 1]? = some (.loop (rec .done (some (.exit 0)))) ∧ W.heap[D]? = some (.deferred (some [])))
      W1 hb1 (fun k A B ⟨h1, h2, h3, h4⟩ hb => ⟨hI _ _ _ h1 (Cells.of_below hb (by omega)), by have := hb.size; omega, abide h3 hb, abide h4 hb⟩)
      (fun A B ⟨h1, h3, h4⟩ hb => ⟨hIx _ _ h1 (Cells.of_below hb (by have := hlt h3; omega)), abide h3 hb, abide h4 hb⟩)
      ?_ ⟨hI1, hlt hL1, hL1, hK1⟩).mono ?_
    · rintro k A W hk ⟨hi, hs, hl, hd⟩ ho
      have hy := run_yield (P := Tryd.prog) (args := wv n k A) hl (by rw [hrec]; rfl)
      rw [hrec] at hy
      refine ⟨fn, _, assign, body, hy, roundIn_of_wpIn hfn (hassign _ k A W _ ?_)⟩
      clear hy
      refine ⟨_, run_beginRound hl (by rw [hrec]), ?_⟩
      obtain ⟨W2, hW2⟩ : ∃ W2, W.putObj (D + 1) (.loop { rec .ready none with state := .busy }) = W2 := ⟨_, rfl⟩
      have hl2 : W2.heap[D + 1]? = some (.loop { rec .ready none with state := .busy }) := by rw [← hW2]; exact World.putObj_heap_same hs
      have hd2 : W2.heap[D]? = some (.deferred (some [])) := by rw [← hW2]; exact (World.putObj_heap_other (by omega)).trans hd
      have hc2 : Cells w.heap.size W W2 := by rw [← hW2]; exact Cells.put _ hl rfl (by omega)
      rw [hW2]
      refine wpIn_mono (hbody _ k A W2 hk (hI _ _ _ hi hc2) (ho.keep (KC.of_cells hc2))) ?_
      rintro e a3 W3 hpost
      cases e with
      | normal =>
        obtain ⟨hi3, hk3⟩ := hpost
        have hl3 := hk3.2 _ _ (by omega) (by omega) hl2
        have hd3 := hk3.2 _ _ (by omega) (by omega) hd2
        have hr := run_endRound (P := Tryd.prog) none hl3
        have hc3 : Cells w.heap.size W3 (W3.putObj (D + 1) (.loop (rec .ready none))) := Cells.put _ hl3 rfl (by omega)
        refine ⟨_, _, hr, .inl ⟨rfl, ?_, ?_⟩⟩
        · rw [hrec] at hc3 ⊢
          exact ⟨hI _ _ _ hi3 hc3, by rw [World.putObj_size]; exact hlt hl3, World.putObj_heap_same (hlt hl3), (World.putObj_heap_other (by omega)).trans hd3⟩
        · rw [hrec] at hc3 ⊢
          exact (KC.of_cells hc2).trans ((KC.of_all hk3).trans (KC.of_cells hc3))
      | exit id =>
        cases id with
        | zero =>
          obtain ⟨hi3, hk3⟩ := hpost
          have hl3 := hk3.2 _ _ (by omega) (by omega) hl2
          have hd3 := hk3.2 _ _ (by omega) (by omega) hd2
          have hr := run_endRound (P := Tryd.prog) (some (.exit 0)) hl3
          have hc3 : Cells w.heap.size W3 (W3.putObj (D + 1) (.loop (rec .done (some (.exit 0))))) := Cells.put _ hl3 rfl (by omega)
          refine ⟨_, _, hr, .inr ⟨rfl, ?_⟩⟩
          rw [hrec] at hc3 ⊢
          exact ⟨hIx _ _ hi3 hc3, World.putObj_heap_same (hlt hl3), (World.putObj_heap_other (by omega)).trans hd3⟩
        | succ id => exact hpost.elim
      | ret => exact hpost.elim
      | goto t => exact hpost.elim
      | panic ch => exact hpost.elim
      | outgrown => exact hpost.elim
    · rintro e W2 ⟨⟨v, rfl⟩, (⟨hi, hs, hl, hd⟩ | ⟨hi, hl, hd⟩)⟩
      · have hc3 : Cells w.heap.size W2 (W2.putObj (D + 1) (.loop { rec .ready none with state := .exhausted })) := Cells.put _ hl rfl (by omega)
        exact ⟨none, _, by have := run_endLoop (P := Tryd.prog) hl (by rw [hrec]; simp); rw [hrec] at this ⊢; exact this, hdone D _ (by omega) (hI _ _ _ hi hc3) ((World.putObj_heap_other (by omega)).trans hd)⟩
      · have hc3 : Cells w.heap.size W2 (W2.putObj (D + 1) (.loop { rec .done (some (.exit 0)) with state := .exhausted })) := Cells.put _ hl rfl (by omega)
        exact ⟨some (.exit 0), _, by have := run_endLoop (P := Tryd.prog) hl (by rw [hrec]; simp); rw [hrec] at this ⊢; exact this, hstop D _ (by omega) (hIx _ _ hi hc3) ((World.putObj_heap_other (by omega)).trans hd)⟩
end Go.Proofs.YtodjdfpealmjeaaDoor
