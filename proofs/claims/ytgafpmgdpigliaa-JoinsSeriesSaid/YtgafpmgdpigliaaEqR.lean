/-
  A loop over a function that yields pointers to pairs in new memory: what the iterator promises ('GivesE'), and the law of the loop. No statement is proved here.
-/
import Derived.Test.YtgafpmgdpigliaaRfZ
namespace Go.Proofs.Ytgafpmgdpigliaa
open Go.RowKit

/-- Cells and maps: what a loop over an iterator keeps. -/
def sld : Obj → Bool
  | .cells .. => true
  | .map .. => true
  | _ => false
/-- A row of pairs. -/
def pc : Obj → Bool
  | .cells _ t _ => t == 84
  | _ => false
theorem sld_of {o : Obj} (h : o.isCells = true) : sld o = true := by cases o <;> simp_all [Obj.isCells, sld]
/-- Whatever is cells or a map lies as it lay, but the blocks of D. -/
def KCe (D : Nat → Prop) (M : Nat) (W W' : World) : Prop := W.heap.size ≤ W'.heap.size ∧ ∀ b o, ¬ D b → (b < M ∨ pc o = false) → W.heap[b]? = some o → sld o = true → W'.heap[b]? = some o
/-- Every block lies as it lay, but those of D, and rows of pairs from M on. -/
def KA2 (D : Nat → Prop) (M : Nat) (W W' : World) : Prop := W.heap.size ≤ W'.heap.size ∧ ∀ b o, ¬ D b → (b < M ∨ pc o = false) → W.heap[b]? = some o → W'.heap[b]? = some o
theorem KA2.of_ka {D : Nat → Prop} {M : Nat} {W W' : World} (h : KA D W W') : KA2 D M W W' := ⟨h.1, fun b o hp _ ho => h.2 b o hp ho⟩
/-- What is cells or a map lies as it lay, and what lies below B. -/
structure CelE (B : Nat) (W W' : World) : Prop where
  os : W'.os = W.os
  tape : W'.tape = W.tape
  output : W'.output = W.output
  size : W.heap.size ≤ W'.heap.size
  block : ∀ b, b < B → W'.heap[b]? = W.heap[b]?
  same : ∀ (b : Nat) (o : Obj), W.heap[b]? = some o → sld o = true → W'.heap[b]? = some o

theorem CelE.of_below {B : Nat} {W W' : World} (h : Below W.heap.size W W') (hB : B ≤ W.heap.size) : CelE B W W' :=
  ⟨h.os, h.tape, h.output, h.size, fun b hb => h.block b (by omega), fun b o ho _ => (h.block b (hlt ho)).trans ho⟩
theorem CelE.put {B : Nat} {W : World} {l : Nat} {o : Obj} (o' : Obj) (h : W.heap[l]? = some o) (hc : sld o = false) (hB : B ≤ l) : CelE B W (W.putObj l o') :=
  ⟨rfl, rfl, rfl, by simp, fun b hb => World.putObj_heap_other (by omega), fun b _ ho hc2 => by
    by_cases e : b = l
    · subst e; rw [h] at ho; cases ho; rw [hc] at hc2; cases hc2
    · exact (World.putObj_heap_other e).trans ho⟩
theorem KCe.trans {D : Nat → Prop} {M : Nat} {A B C : World} (h : KCe D M A B) (k : KCe D M B C) : KCe D M A C :=
  ⟨Nat.le_trans h.1 k.1, fun b o hp hm ho hc => k.2 b o hp hm (h.2 b o hp hm ho hc) hc⟩
theorem KCe.of_cells {D : Nat → Prop} {M B : Nat} {W W' : World} (h : CelE B W W') : KCe D M W W' := ⟨h.size, fun b o _ _ ho hc => h.same b o ho hc⟩
theorem KCe.of_all {D : Nat → Prop} {M : Nat} {W W' : World} (h : KA2 D M W W') : KCe D M W W' := ⟨h.1, fun b o hp hm ho _ => h.2 b o hp hm ho⟩
theorem KCe.of_below {D : Nat → Prop} {M : Nat} {W W' : World} (h : Below W.heap.size W W') : KCe D M W W' := KCe.of_all (KA2.of_ka (KA.of_below h))
theorem KCe.cell {D : Nat → Prop} {M : Nat} {W W' : World} (h : KCe D M W W') {b o : Nat} {v : Value} (hp : ¬ D b) (hb : b < M) (hc : W.cell? ⟨b, o, none⟩ = some v) : W'.cell? ⟨b, o, none⟩ = some v := by
  obtain ⟨x, hx, hcx⟩ := cell_block hc
  exact (World.cell?_of_block (w := W) (a := ⟨b, o, none⟩) ((h.2 b x hp (Or.inl hb) hx (sld_of hcx)).trans hx.symm)).trans hc
theorem CelE.heap {B : Nat} {W W' : World} (h : CelE B W W') {b o : Nat} {v : Value} (hc : W.cell? ⟨b, o, none⟩ = some v) : W'.heap[b]? = W.heap[b]? := by
  obtain ⟨x, hx, hcx⟩ := cell_block hc
  rw [hx]
  exact h.same b x hx (sld_of hcx)
theorem CelE.cell {B : Nat} {W W' : World} (h : CelE B W W') {b o : Nat} {v : Value} (hc : W.cell? ⟨b, o, none⟩ = some v) : W'.cell? ⟨b, o, none⟩ = some v :=
  (World.cell?_of_block (w := W) (a := ⟨b, o, none⟩) (h.heap hc)).trans hc
theorem CelE.frozen {B : Nat} {W W' : World} (h : CelE B W W') {b o : Nat} {v : Value} (hc : W.cell? ⟨b, o, none⟩ = some v) : W'.frozen? ⟨b, o, none⟩ = W.frozen? ⟨b, o, none⟩ :=
  World.frozen?_of_block (w := W) (a := ⟨b, o, none⟩) (h.heap hc)
theorem CelE.below {B : Nat} {w W W' : World} (h : CelE B W W') {C : Nat} (hC : C ≤ B) (hb : Below C w W) : Below C w W' :=
  ⟨h.os.trans hb.os, h.tape.trans hb.tape, h.output.trans hb.output, Nat.le_trans hb.size h.size, fun k hk => (h.block k (by omega)).trans (hb.block k hk)⟩
theorem CelE.trans {B : Nat} {A C E : World} (h : CelE B A C) (k : CelE B C E) : CelE B A E :=
  ⟨k.os.trans h.os, k.tape.trans h.tape, k.output.trans h.output, Nat.le_trans h.size k.size, fun b hb => (k.block b hb).trans (h.block b hb), fun b o ho hc => k.same b o (h.same b o ho hc) hc⟩

/-- What the iterator may change: rows of pointers, and maps, from M on; and the loops' own cells. -/
structure Che (M : Nat) (A B : World) : Prop where
  os : B.os = A.os
  tape : B.tape = A.tape
  output : B.output = A.output
  size : A.heap.size ≤ B.heap.size
  low : ∀ b, b < M → B.heap[b]? = A.heap[b]?
  same : ∀ (b : Nat) cs t fr, A.heap[b]? = some (.cells cs t fr) → t ≠ 83 → B.heap[b]? = some (.cells cs t fr)
structure KIe (M : Nat) (A B : World) : Prop where
  ch : Che M A B
  objs : ∀ (b : Nat) o, A.heap[b]? = some o → sld o = false → B.heap[b]? = some o
section
variable {M : Nat} {A B C : World}
theorem Che.of_cells (h : CelE M A B) : Che M A B := ⟨h.os, h.tape, h.output, h.size, h.block, fun b _cs _t _fr ho _ => h.same b _ ho rfl⟩
theorem Che.less {N : Nat} (h : Che M A B) (hN : N ≤ M) : Che N A B := ⟨h.os, h.tape, h.output, h.size, fun b hb => h.low b (by omega), h.same⟩
theorem Che.trans (h : Che M A B) (k : Che M B C) : Che M A C := ⟨k.os.trans h.os, k.tape.trans h.tape, k.output.trans h.output, Nat.le_trans h.size k.size, fun b hb => (k.low b hb).trans (h.low b hb), fun b cs t fr ho h1 => k.same b cs t fr (h.same b cs t fr ho h1) h1⟩
theorem Che.of_below (h : Below A.heap.size A B) (hM : M ≤ A.heap.size) : Che M A B := Che.of_cells (CelE.of_below h hM)
theorem Che.cell (h : Che M A B) {b o : Nat} {v : Value} (hb : b < M) (hc : A.cell? ⟨b, o, none⟩ = some v) : B.cell? ⟨b, o, none⟩ = some v := (World.cell?_of_block (w := A) (a := ⟨b, o, none⟩) (h.low b hb)).trans hc
theorem Che.below {w : World} {N : Nat} (h : Che M A B) (hN : N ≤ M) (hb : Below N w A) : Below N w B :=
  ⟨h.os.trans hb.os, h.tape.trans hb.tape, h.output.trans hb.output, Nat.le_trans hb.size h.size, fun k hk => (h.low k (by omega)).trans (hb.block k hk)⟩
theorem KIe.of_below (h : Below A.heap.size A B) (hM : M ≤ A.heap.size) : KIe M A B := ⟨Che.of_below h hM, fun b _ ho _ => (h.block b (hlt ho)).trans ho⟩
theorem KIe.trans (h : KIe M A B) (k : KIe M B C) : KIe M A C := ⟨h.ch.trans k.ch, fun b o ho hc => k.objs b o (h.objs b o ho hc) hc⟩
theorem KIe.set {g off : Nat} {cs : Array Value} {t : TypeId} {fr : Nat × Nat} (hg : A.heap[g]? = some (.cells cs t fr)) (ht : t = 83) (hM : M ≤ g) (u : Value) : KIe M A (A.setCell ⟨g, off, none⟩ u) := by
  have key : ∀ b, b ≠ g → (A.setCell ⟨g, off, none⟩ u).heap[b]? = A.heap[b]? := fun b hb => Below.heap_setCell A ⟨g, off, none⟩ u b hb
  refine ⟨⟨rfl, rfl, rfl, by simp [World.setCell], fun b hb => key b (by omega), fun b cs' t' fr' ho h1 => (key b ?_).trans ho⟩, fun b o ho hc => (key b ?_).trans ho⟩
  · rintro rfl
    rw [hg] at ho
    injection ho with ho
    injection ho with _ ho
    subst ho
    exact h1 ht
  · rintro rfl
    rw [hg] at ho
    injection ho with ho
    subst ho
    cases hc
theorem KIe.grown {g : Nat} {cs : Array Value} {t : TypeId} {fr : Nat × Nat} (hk : A.grownBy B (some g)) (hg : A.heap[g]? = some (.cells cs t fr)) (ht : t = 83) (hM : M ≤ g) : KIe M A B := by
  have key : ∀ b, b < A.heap.size → b ≠ g → B.heap[b]? = A.heap[b]? := fun b hb hne => hk.block b hb (by intro e; injection e with e; exact hne e)
  have hgl := hlt hg
  refine ⟨⟨hk.os, hk.tape, hk.output, hk.size, fun b hb => key b (by omega) (by omega), fun b cs' t' fr' ho h1 => (key b (hlt ho) ?_).trans ho⟩, fun b o ho hc => (key b (hlt ho) ?_).trans ho⟩
  · rintro rfl
    rw [hg] at ho
    injection ho with ho
    injection ho with _ ho
    subst ho
    exact h1 ht
  · rintro rfl
    rw [hg] at ho
    injection ho with ho
    subst ho
    cases hc
end
/-- A pair that has been reached: its cells. -/
def arC (s t : Int) (p : Option Addr) (i l : Int) : Array Value := #[.int .i64 s, .int .i64 t, .pointer p, .int .i64 i, .int .i64 l]
def ArB (w : World) (g : Nat) (s t : Int) (p : Option Addr) (i l : Int) : Prop := w.heap[g]? = some (.cells (arC s t p i l) 86 (0, 0))
/-- The blocks that tell a word backwards. -/
def ArR (B : Nat → Prop) (w : World) : List Int → Nat → Prop
  | [], g => B g ∧ ∃ s t i, ArB w g s t none i 0
  | c :: r, g => B g ∧ ∃ s t g', ArB w g s t (some ⟨g', 0, none⟩) c ((r.length + 1 : Nat) : Int) ∧ ArR B w r g'
/-- A pair of the queue in memory. -/
def ArP (B : Nat → Prop) (w : World) (g nb : Nat) (x : Int × List Int) : Prop := ArR B w x.2.reverse g ∧ ∃ p i, ArB w g (x.1 / nb) (x.1 % nb) p i (x.2.length : Int)
def ArD (D : Nat → Prop) (w : World) (A nb : Nat) (x : Int × List Int) : Prop := ArP (fun b => ¬ D b) w A nb x
def arv (A : Nat) : Array Value := #[.pointer (some ⟨A, 0, none⟩)]
theorem ArB.lt {w : World} {g : Nat} {s t : Int} {p : Option Addr} {i l : Int} (h : ArB w g s t p i l) : g < w.heap.size := hlt h
theorem ArB.cells {w : World} {g : Nat} {s t : Int} {p : Option Addr} {i l : Int} (h : ArB w g s t p i l) :
    w.cell? ⟨g, 0, none⟩ = some (.int .i64 s) ∧ w.cell? ⟨g, 1, none⟩ = some (.int .i64 t) ∧ w.cell? ⟨g, 2, none⟩ = some (.pointer p) ∧ w.cell? ⟨g, 3, none⟩ = some (.int .i64 i) ∧ w.cell? ⟨g, 4, none⟩ = some (.int .i64 l) := by
  refine ⟨?_, ?_, ?_, ?_, ?_⟩ <;> rw [cell_of_row w _ _ _ _ _ h] <;> rfl
theorem ArR.mono {B C : Nat → Prop} {w w' : World} (hB : ∀ b, B b → C b) (hk : ∀ b cs, B b → w.heap[b]? = some (.cells cs 86 (0, 0)) → w'.heap[b]? = some (.cells cs 86 (0, 0))) :
    ∀ (r : List Int) (g : Nat), ArR B w r g → ArR C w' r g
  | [], _, ⟨hb, s, t, i, h⟩ => ⟨hB _ hb, s, t, i, hk _ _ hb h⟩
  | _ :: r, _, ⟨hb, s, t, g', h, hr⟩ => ⟨hB _ hb, s, t, g', hk _ _ hb h, ArR.mono hB hk r g' hr⟩
theorem ArP.mono {B C : Nat → Prop} {w w' : World} {g nb : Nat} {x : Int × List Int} (h : ArP B w g nb x) (hB : ∀ b, B b → C b) (hk : ∀ b cs, B b → w.heap[b]? = some (.cells cs 86 (0, 0)) → w'.heap[b]? = some (.cells cs 86 (0, 0))) : ArP C w' g nb x := by
  obtain ⟨h1, p, i, h2⟩ := h
  refine ⟨ArR.mono hB hk _ _ h1, p, i, hk _ _ ?_ h2⟩
  cases hr : x.2.reverse with
  | nil => rw [hr] at h1; exact h1.1
  | cons c r => rw [hr] at h1; exact h1.1
theorem ArP.own {B : Nat → Prop} {w : World} {g nb : Nat} {x : Int × List Int} (h : ArP B w g nb x) : B g := by
  obtain ⟨h1, _⟩ := h
  cases hr : x.2.reverse with
  | nil => rw [hr] at h1; exact h1.1
  | cons c r => rw [hr] at h1; exact h1.1
theorem ArD.keep {D : Nat → Prop} {w w' : World} {g nb : Nat} {x : Int × List Int} (h : ArD D w g nb x) {M : Nat} (k : KCe D M w w') : ArD D w' g nb x := ArP.mono h (fun _ h => h) (fun b _ hb ho => k.2 b _ hb (Or.inr rfl) ho rfl)
theorem ArD.below {D : Nat → Prop} {w w' : World} {g nb : Nat} {x : Int × List Int} (h : ArD D w g nb x) (k : Below w.heap.size w w') : ArD D w' g nb x := h.keep (M := 0) (KCe.of_below k)
theorem ArD.che {D : Nat → Prop} {M : Nat} {w w' : World} {g nb : Nat} {x : Int × List Int} (h : ArD D w g nb x) (k : Che M w w') : ArD D w' g nb x := ArP.mono h (fun _ h => h) (fun b _ _ ho => k.same b _ _ _ ho (by decide))
/-- One symbol more. -/
theorem ArP.more {B : Nat → Prop} {w : World} {g g' nb : Nat} {x : Int × List Int} {y c : Int} (h : ArP B w g nb x) (hb : B g') (hn : ArB w g' (y / nb) (y % nb) (some ⟨g, 0, none⟩) c ((x.2.length + 1 : Nat) : Int)) : ArP B w g' nb (y, x.2 ++ [c]) := by
  refine ⟨?_, _, _, by simpa using hn⟩
  simp only [List.reverse_append, List.reverse_cons, List.reverse_nil, List.nil_append, List.cons_append]
  refine ⟨hb, y / nb, y % nb, g, ?_, h.1⟩
  rw [List.length_reverse]
  exact hn
theorem ArP.start {B : Nat → Prop} {w : World} {g nb : Nat} {i : Int} (hb : B g) (hn : ArB w g 0 0 none i 0) : ArP B w g nb (0, []) :=
  ⟨⟨hb, 0, 0, i, hn⟩, none, i, by simpa using hn⟩
theorem Box.che {M : Nat} {W W' : World} {b : Nat} {v : Value} (h : Box W b v) (k : Che M W W') (hb : b < M) : Box W' b v := ⟨k.cell hb h.1, (World.frozen?_of_block (w := W) (a := ⟨b, 0, none⟩) (k.low b hb)).trans h.2⟩
/-- What a round's body owes: on: one value more; out by a return or a break. -/
def roundE (D : Nat → Prop) (M : Nat) (I : Nat → World → Prop) (Ix : Code → World → Prop) (k : Nat) (W : World) : Exit → Act → World → Prop
  | .normal, _, W' => I (k + 1) W' ∧ KA2 D M W W'
  | .ret, _, W' => Ix .ret W' ∧ KA2 D M W W'
  | .exit n, _, W' => Ix (.exit n) W' ∧ KA2 D M W W'
  | _, _, _ => False
/-- What an iterator over states with words promises, to a loop that writes nothing but the blocks of D. -/
def GivesE (m : Nat) (nb : Nat) (g : Nat) (lb : Array Value) (L : List (Int × List Int)) (D : Nat → Prop) (w : World) : Prop :=
  ∀ (l : Nat) (J : Nat → World → Prop) (Jx : World → Prop) (W : World), Below w.heap.size w W →
    (∀ k A B, J k A → KIe W.heap.size A B → J k B) → (∀ A B, Jx A → KIe W.heap.size A B → Jx B) →
    (∀ k x A W1, L[k]? = some x → J k W1 → ArD D W1 A nb x → YieldAt Fence.wide (m - 1) Try.prog l (arv A) W1 fun e W' =>
      (e = .returned (.bool true) ∧ J (k + 1) W' ∧ KCe D w.heap.size W1 W') ∨ (e = .returned (.bool false) ∧ Jx W')) →
    J 0 W → CallsIn Fence.wide m Try.prog g (#[.func (.yield l) #[] #[]] ++ lb) W fun e W' => (∃ v, e = .returned v) ∧ (J L.length W' ∨ Jx W')

theorem range_arr {m : Nat} {Q : Exit → Act → World → Prop} {a : Act} {w : World} {g : Operand} {ps : Array Tmp} {assign body : Code} (gf : Nat) (lb : Array Value)
    (hg : a.eval g = .func (.func gf) #[] lb) (eg : ∀ args w, (callFunc gf args).run Try.prog w = .ok (.enter gf args) w)
    (L : List (Int × List Int)) (D : Nat → Prop) (hD : ∀ b, D b → b < w.heap.size) (hps : ps.size = 1) (nb : Nat) (hseq : GivesE (m - 1) nb gf lb L D w)
    (I : Nat → World → Prop) (Ix : Code → World → Prop) (hI : ∀ k A B, I k A → Che w.heap.size A B → I k B) (hIx : ∀ c A B, Ix c A → Che w.heap.size A B → Ix c B) (h0 : I 0 w)
    (hround : ∀ l k x A W, L[k]? = some x → w.heap.size ≤ W.heap.size → I k W → ArD D W A nb x → assign.wpIn (Fence.wide.inRound l) (m - 1 - 1) Try.prog (Exit.then (fun a1 W1 => Below W.heap.size W W1 ∧
      ∀ W2, CelE w.heap.size W1 W2 → body.wpIn (Fence.wide.inRound l) (m - 1 - 1) Try.prog (roundE D w.heap.size I Ix k W2) a1 W2) (fun _ _ _ => False)) { tmps := (ps.zip (arv A)).foldl (fun ts (p, v) => ts.setIfInBounds p v) a.tmps, defers := [] } W)
    (hdone : ∀ N W, w.heap.size ≤ N → I L.length W → W.heap[N]? = some (.deferred (some [])) → Q .normal (marked a N) W)
    (hstop : ∀ N c W, w.heap.size ≤ N → Ix c W → W.heap[N]? = some (.deferred (some [])) → c.wpIn Fence.wide m Try.prog Q (marked a N) W) :
    (Code.rangeFunc g ps assign body).wpIn Fence.wide m Try.prog Q a w := by
  refine wpIn_rangeFunc ?_
  intro fn hfn
  rw [Fence.wide_round]
  obtain ⟨N, hN⟩ : ∃ N, w.heap.size = N := ⟨_, rfl⟩
  obtain ⟨rec, hrec⟩ : ∃ rec : LoopState → Option Code → Loop, rec = fun st pe => { state := st, pending := pe, fn, tmps := a.tmps, params := ps, assign, body, defers := N } := ⟨_, rfl⟩
  obtain ⟨W1, hW1⟩ : ∃ W1, (w.alloc (.deferred (some []))).alloc (.loop (rec .ready none)) = W1 := ⟨_, rfl⟩
  have hL1 : W1.heap[N + 1]? = some (.loop (rec .ready none)) := by
    rw [← hW1, ← hN]; have := World.alloc_heap_new (w.alloc (.deferred (some []))) (.loop (rec .ready none)); rwa [World.size_alloc] at this
  have hK1 : W1.heap[N]? = some (.deferred (some [])) := by
    rw [← hW1, ← hN]; exact (Below.heap_alloc _ _ _ (by simp)).trans (World.alloc_heap_new w _)
  have hb1 : Below w.heap.size w W1 := by
    rw [← hW1]; exact ((Below.refl _ w).alloc (Nat.le_refl _) _).alloc (by simp) _
  have hI1 : I 0 W1 := hI _ _ _ h0 (Che.of_cells (CelE.of_below hb1 (Nat.le_refl _)))
  refine ⟨N + 1, [{ target := .collected N, args := #[] }], W1, { target := .fn (.func gf) lb, args := #[.func (.yield (N + 1)) #[] #[]] }, W1, gf,
    #[.func (.yield (N + 1)) #[] #[]] ++ lb, W1, ?_, ?_, ?_, ?_, fun h => by simp [Fence.wide] at h, ?_⟩
  · rw [← hW1, hrec, ← hN]; exact run_enterLoop_outer _ _ _ _ _
  · simp only [resolve, hg]
    simp [go_sem]
  · intro f' hf'; trivial
  · simp [invoke, go_sem, eg]
  · have abide : ∀ {A B : World} {o : Obj} {b : Nat}, A.heap[b]? = some o → Below A.heap.size A B → B.heap[b]? = some o := fun ho hb => (hb.block _ (hlt ho)).trans ho
    refine (hseq (N + 1)
      (fun k W => I k W ∧ N + 1 < W.heap.size ∧ W.heap[N + 1]? = some (.loop (rec .ready none)) ∧ W.heap[N]? = some (.deferred (some [])))
      (fun W => ∃ c, Ix c W ∧ W.heap[N + 1]? = some (.loop (rec .done (some c))) ∧ W.heap[N]? = some (.deferred (some [])))
      W1 hb1 (fun k A B ⟨h1, h2, h3, h4⟩ hb => ⟨hI _ _ _ h1 (hb.ch.less hb1.size), by have := hb.ch.size; omega, hb.objs _ _ h3 rfl, hb.objs _ _ h4 rfl⟩)
      (fun A B ⟨c, h1, h3, h4⟩ hb => ⟨c, hIx _ _ _ h1 (hb.ch.less hb1.size), hb.objs _ _ h3 rfl, hb.objs _ _ h4 rfl⟩)
      ?_ ⟨hI1, hlt hL1, hL1, hK1⟩).mono ?_
    · rintro k x A W hk ⟨hi, hs, hl, hd⟩ ho
      have hy := run_yield (P := Try.prog) (args := arv A) hl (by rw [hrec]; exact hps.symm)
      rw [hrec] at hy
      refine ⟨fn, _, assign, body, hy, roundIn_of_wpIn hfn (wpIn_mono (hround _ k x A W hk (by omega) hi ho) ?_)⟩
      clear hy
      rintro e a1 Wa hpost
      cases e with
      | normal =>
        obtain ⟨hba, hbody⟩ := hpost
        have hla := abide hl hba
        have hda := abide hd hba
        have hsa : N + 1 < Wa.heap.size := hlt hla
        refine ⟨_, run_beginRound hla (by rw [hrec]), ?_⟩
        obtain ⟨W2, hW2⟩ : ∃ W2, Wa.putObj (N + 1) (.loop { rec .ready none with state := .busy }) = W2 := ⟨_, rfl⟩
        have hl2 : W2.heap[N + 1]? = some (.loop { rec .ready none with state := .busy }) := by rw [← hW2]; exact World.putObj_heap_same hsa
        have hd2 : W2.heap[N]? = some (.deferred (some [])) := by rw [← hW2]; exact (World.putObj_heap_other (by omega)).trans hda
        have hc2 : CelE w.heap.size Wa W2 := by rw [← hW2]; exact CelE.put _ hla rfl (by omega)
        have hkc : KCe D w.heap.size W W2 := (KCe.of_below hba).trans (KCe.of_cells hc2)
        rw [hW2]
        refine wpIn_mono (hbody W2 hc2) ?_
        have fin : ∀ (c : Code) (W3 : World), Ix c W3 → KA2 D w.heap.size W2 W3 → ∃ v w4, (Instr.endRound (N + 1) (some c)).run Try.prog W3 = .ok v w4 ∧
            (((Ending.returned v = .returned (.bool true) ∧ (I (k + 1) w4 ∧ N + 1 < w4.heap.size ∧ w4.heap[N + 1]? = some (.loop (rec .ready none)) ∧ w4.heap[N]? = some (.deferred (some []))) ∧ KCe D w.heap.size W w4)) ∨
             (Ending.returned v = .returned (.bool false) ∧ ∃ c, Ix c w4 ∧ w4.heap[N + 1]? = some (.loop (rec .done (some c))) ∧ w4.heap[N]? = some (.deferred (some [])))) := by
          intro c W3 hi3 hk3
          have hnl : ∀ b, N ≤ b → ¬ D b := fun b hb h => by have := hD b h; omega
          have hl3 := hk3.2 _ _ (hnl _ (by omega)) (Or.inr rfl) hl2
          have hd3 := hk3.2 _ _ (hnl _ (by omega)) (Or.inr rfl) hd2
          have hr := run_endRound (P := Try.prog) (some c) hl3
          have hc3 : CelE w.heap.size W3 (W3.putObj (N + 1) (.loop (rec .done (some c)))) := CelE.put _ hl3 rfl (by omega)
          refine ⟨_, _, hr, .inr ⟨rfl, c, ?_⟩⟩
          rw [hrec] at hc3 ⊢
          exact ⟨hIx _ _ _ hi3 (Che.of_cells hc3), World.putObj_heap_same (hlt hl3), (World.putObj_heap_other (by omega)).trans hd3⟩
        rintro e a3 W3 hpost
        cases e with
        | normal =>
          obtain ⟨hi3, hk3⟩ := hpost
          have hnl : ∀ b, N ≤ b → ¬ D b := fun b hb h => by have := hD b h; omega
          have hl3 := hk3.2 _ _ (hnl _ (by omega)) (Or.inr rfl) hl2
          have hd3 := hk3.2 _ _ (hnl _ (by omega)) (Or.inr rfl) hd2
          have hr := run_endRound (P := Try.prog) none hl3
          have hc3 : CelE w.heap.size W3 (W3.putObj (N + 1) (.loop (rec .ready none))) := CelE.put _ hl3 rfl (by omega)
          refine ⟨_, _, hr, .inl ⟨rfl, ?_, ?_⟩⟩
          · rw [hrec] at hc3 ⊢
            exact ⟨hI _ _ _ hi3 (Che.of_cells hc3), by rw [World.putObj_size]; exact hlt hl3, World.putObj_heap_same (hlt hl3), (World.putObj_heap_other (by omega)).trans hd3⟩
          · rw [hrec] at hc3 ⊢
            exact hkc.trans ((KCe.of_all hk3).trans (KCe.of_cells hc3))
        | ret => exact fin _ _ hpost.1 hpost.2
        | exit id => exact fin _ _ hpost.1 hpost.2
        | goto t => exact hpost.elim
        | panic ch => exact hpost.elim
        | outgrown => exact hpost.elim
      | ret => exact hpost.elim
      | exit id => exact hpost.elim
      | goto t => exact hpost.elim
      | panic ch => exact hpost.elim
      | outgrown => exact hpost.elim
    · rintro e W2 ⟨⟨v, rfl⟩, (⟨hi, hs, hl, hd⟩ | ⟨c, hi, hl, hd⟩)⟩
      · have hc3 : CelE w.heap.size W2 (W2.putObj (N + 1) (.loop { rec .ready none with state := .exhausted })) := CelE.put _ hl rfl (by omega)
        exact ⟨none, _, by have := run_endLoop (P := Try.prog) hl (by rw [hrec]; simp); rw [hrec] at this ⊢; exact this, hdone N _ (by omega) (hI _ _ _ hi (Che.of_cells hc3)) ((World.putObj_heap_other (by omega)).trans hd)⟩
      · have hc3 : CelE w.heap.size W2 (W2.putObj (N + 1) (.loop { rec .done (some c) with state := .exhausted })) := CelE.put _ hl rfl (by omega)
        exact ⟨some c, _, by have := run_endLoop (P := Try.prog) hl (by rw [hrec]; simp); rw [hrec] at this ⊢; exact this, hstop N c _ (by omega) (hIx _ _ _ hi (Che.of_cells hc3)) ((World.putObj_heap_other (by omega)).trans hd)⟩
end Go.Proofs.Ytgafpmgdpigliaa
