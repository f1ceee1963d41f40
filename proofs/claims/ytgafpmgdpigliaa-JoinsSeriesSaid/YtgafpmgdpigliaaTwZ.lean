/-
  Several texts in one: MonR, Two. No statement is proved here.
-/
import Derived.Deep.Quiet
import Derived.Test.YtgafpmgdpigliaaWh0
namespace Go.Proofs.Ytgafpmgdpigliaa
open Go

section
variable {P : Program} {ops : Array Oper} {md : Region.Mode} {Q : Exit → Act → World → Prop}
/-- Each operation waits for earlier ones alone. -/
def backB (md : Region.Mode) (ops : Array Oper) : Bool := (List.range ops.size).all fun i => match ops[i]? with
  | some o => o.after.all fun e => !Region.binds md e || decide (e.on < i)
  | none => true
theorem backB_spec (h : backB md ops = true) {i : Nat} {o : Oper} (hi : ops[i]? = some o) {e} (he : e ∈ o.after) (hb : Region.binds md e = true) : e.on < i := by
  have hl : i < ops.size := (Array.getElem?_eq_some_iff.1 hi).1
  have h1 := List.all_eq_true.1 h i (List.mem_range.2 hl)
  rw [hi] at h1
  simp only at h1
  have h2 := Array.all_eq_true'.1 h1 e he
  rw [hb] at h2
  simpa using h2
theorem getD_ft {listed : Array Bool} {j : Nat} (h : j < listed.size) (h1 : listed.getD j true = true) : listed.getD j false = true := by
  simp [h] at h1 ⊢
  exact h1
/-- Where nothing may come up, all has come up. -/
theorem all_listed (hb : backB md ops = true) {listed : Array Bool} (hs : listed.size = ops.size) (h : Region.ready md ops listed = []) : ∀ i, i < ops.size → listed.getD i true = true := by
  intro i
  induction i using Nat.strongRecOn with
  | ind i ih =>
    intro hi
    cases hl : listed.getD i true with
    | true => rfl
    | false =>
      exfalso
      have hm : i ∈ Region.ready md ops listed := mem_ready.2 ⟨hl, ops[i], Array.getElem?_eq_getElem hi, fun e he hbd => by
        have hlt := backB_spec hb (Array.getElem?_eq_getElem hi) he hbd
        exact getD_ft (by omega) (ih e.on hlt (by omega))⟩
      rw [h] at hm
      cases hm
theorem countP_lt {p q : Nat → Bool} {i : Nat} : ∀ {l : List Nat}, i ∈ l → (∀ j, q j = true → p j = true) → p i = true → q i = false → l.countP q < l.countP p
  | [], h, _, _, _ => by cases h
  | a :: l, h, h1, h2, h3 => by
    have hle : l.countP q ≤ l.countP p := List.countP_mono_left fun x _ hx => h1 x hx
    rcases List.mem_cons.1 h with rfl | h
    · rw [List.countP_cons_of_pos h2, List.countP_cons_of_neg (by simp [h3])]
      omega
    · have ih := countP_lt h h1 h2 h3
      by_cases hq : q a = true
      · rw [List.countP_cons_of_pos hq, List.countP_cons_of_pos (h1 a hq)]
        omega
      · rw [List.countP_cons_of_neg hq]
        have : l.countP p ≤ (a :: l).countP p := by
          rw [List.countP_cons]
          omega
        omega
def unl (ops : Array Oper) (listed : Array Bool) : Nat := (List.range ops.size).countP fun i => !listed.getD i true
theorem unl_set {listed : Array Bool} {i : Nat} (hi : i < ops.size) (hs : listed.size = ops.size) (h : listed.getD i true = false) : unl ops (listed.setIfInBounds i true) < unl ops listed := by
  refine countP_lt (List.mem_range.2 hi) (fun j hj => ?_) (by simp [h]) ?_
  · by_cases hij : i = j
    · subst hij
      simp [h]
    · rw [getD_set_ne true hij] at hj
      exact hj
  · have : i < listed.size := by omega
    simp [this]
/-- What holds at the beginning, and is kept by each operation that may come up, holds at the end. -/
theorem wpAny_inv {Inv : Array Bool → Act → World → Prop} (hb : backB md ops = true)
    (hstep : ∀ listed a w, listed.size = ops.size → Inv listed a w → ∀ i ∈ Region.ready md ops listed, wpOp P ops Q i (Inv (listed.setIfInBounds i true)) a w)
    (hend : ∀ listed a w, listed.size = ops.size → (∀ i, i < ops.size → listed.getD i true = true) → Inv listed a w → Q .normal a w) :
    ∀ (fuel : Nat) (listed : Array Bool) (a : Act) (w : World), listed.size = ops.size → unl ops listed ≤ fuel → Inv listed a w → wpAny P md ops Q fuel listed a w
  | 0, listed, a, w, hs, hu, h => by
    have hr : Region.ready md ops listed = [] := by
      cases hr : Region.ready md ops listed with
      | nil => rfl
      | cons i l =>
        exfalso
        have hm : i ∈ Region.ready md ops listed := by rw [hr]; exact List.mem_cons_self
        obtain ⟨h0, o, ho, _⟩ := mem_ready.1 hm
        have := unl_set (ops := ops) (Array.getElem?_eq_some_iff.1 ho).1 hs h0
        omega
    exact ⟨hr, hend _ _ _ hs (all_listed hb hs hr) h⟩
  | fuel + 1, listed, a, w, hs, hu, h => by
    refine ⟨fun hr => hend _ _ _ hs (all_listed hb hs hr) h, fun i hi => ?_⟩
    obtain ⟨h0, o, ho, _⟩ := mem_ready.1 hi
    have hlt := unl_set (ops := ops) (Array.getElem?_eq_some_iff.1 ho).1 hs h0
    exact wpOp_mono (fun a' w' h' => wpAny_inv hb hstep hend fuel _ a' w' (by simp [hs]) (by omega) h') (hstep _ _ _ hs h i hi)
theorem wp_region_inv {id : Nat} {a : Act} {w : World} {Inv : Array Bool → Act → World → Prop} (hm : P.follows .mixedOrders = true) (hb : backB .any ops = true) (h0 : Inv (Array.replicate ops.size false) a { w with drawn := w.drawn + 1 })
    (hstep : ∀ listed a w, listed.size = ops.size → Inv listed a w → ∀ i ∈ Region.ready .any ops listed, wpOp P ops Q i (Inv (listed.setIfInBounds i true)) a w)
    (hend : ∀ listed a w, listed.size = ops.size → (∀ i, i < ops.size → listed.getD i true = true) → Inv listed a w → Q .normal a w) : (Code.region id ops true).wp P Q a w :=
  wp_region_any hm (wpAny_inv hb hstep hend _ _ _ _ (by simp) (by
    have : unl ops (Array.replicate ops.size false) ≤ (List.range ops.size).length := List.countP_le_length
    simpa using this) h0)

/-! ### What each operation leaves -/
/-- What an operation leaves in its temporary. -/
def norm (o : Oper) (v : Value) : Value := match o.dst with
  | some _ => v
  | none => undef
def valOf (a : Act) (o : Oper) : Value := match o.dst with
  | some t => a.tmps.getD t undef
  | none => undef
def yieldsM (P : Program) (o : Oper) (a : Act) (w : World) (K : Value → World → Prop) : Prop := match (execOp a.eval o).run P w with
  | .ok (.value v) w' => K v w'
  | .ok .skip w' => K undef w'
  | .ok (.enter f args) w' => Calls P f args w' fun e w'' => ∃ v, e = .returned v ∧ K v w''
  | _ => False
theorem wp_of_yieldsM {o : Oper} {a : Act} {w : World} {K : Value → World → Prop} (h : yieldsM P o a w K) : o.wp P a w (fun a' w' => ∃ v, a' = a.put o.dst v ∧ K v w') Q := by
  unfold yieldsM at h
  unfold Oper.wp
  generalize (execOp a.eval o).run P w = r at *
  cases r with
  | ok n w' =>
    cases n <;> simp only at h <;> simp only [Oper.upon]
    case value v => exact ⟨v, rfl, h⟩
    case skip => exact ⟨undef, rfl, h⟩
    case enter f args =>
      refine h.mono fun e w'' he => ?_
      obtain ⟨v, rfl, hK⟩ := he
      exact ⟨v, rfl, hK⟩
  | halt x w' => simp only at h
/-- No two operations write one temporary; each temporary is there. -/
def distB (ops : Array Oper) (n : Nat) : Bool := decide (ops.toList.filterMap (·.dst)).Nodup && (ops.toList.filterMap (·.dst)).all fun t => decide (t < n)
theorem distB_lt {n : Nat} (h : distB ops n = true) {i : Nat} {o : Oper} {t : Nat} (hi : ops[i]? = some o) (ht : o.dst = some t) : t < n := by
  unfold distB at h
  rw [Bool.and_eq_true] at h
  have hm : o ∈ ops.toList := by
    have := Array.mem_of_getElem? hi
    exact Array.mem_toList_iff.2 this
  have := List.all_eq_true.1 h.2 t (List.mem_filterMap.2 ⟨o, hm, ht⟩)
  simpa using this
theorem distB_ne {n : Nat} (h : distB ops n = true) {i j : Nat} {x y : Oper} {t : Nat} (hi : ops[i]? = some x) (hj : ops[j]? = some y) (hx : x.dst = some t) (hy : y.dst = some t) : i = j := by
  unfold distB at h
  rw [Bool.and_eq_true] at h
  have hn : (ops.toList.filterMap (·.dst)).Nodup := by simpa using h.1
  rw [List.Nodup, List.pairwise_filterMap] at hn
  rw [List.pairwise_iff_getElem] at hn
  obtain ⟨hi1, hi2⟩ := Array.getElem?_eq_some_iff.1 hi
  obtain ⟨hj1, hj2⟩ := Array.getElem?_eq_some_iff.1 hj
  rcases Nat.lt_trichotomy i j with h1 | h1 | h1
  · exact absurd rfl (hn i j (by simpa using hi1) (by simpa using hj1) h1 t (by simpa [hi2] using hx) t (by simpa [hj2] using hy))
  · exact h1
  · exact absurd rfl (hn j i (by simpa using hj1) (by simpa using hi1) h1 t (by simpa [hj2] using hy) t (by simpa [hi2] using hx))
theorem valOf_put_self {n : Nat} {a : Act} {o : Oper} {v : Value} {i : Nat} (h : distB ops n = true) (hn : a.tmps.size = n) (hi : ops[i]? = some o) : valOf (a.put o.dst v) o = norm o v := by
  unfold valOf norm
  cases hd : o.dst with
  | none => rfl
  | some t =>
    have := distB_lt h hi hd
    simp [Act.put, hn, this]
theorem valOf_put_ne {n : Nat} {a : Act} {x y : Oper} {v : Value} {i j : Nat} (h : distB ops n = true) (hi : ops[i]? = some x) (hj : ops[j]? = some y) (hne : i ≠ j) : valOf (a.put x.dst v) y = valOf a y := by
  unfold valOf
  cases hy : y.dst with
  | none => rfl
  | some t =>
    cases hx : x.dst with
    | none => rfl
    | some s =>
      have hst : s ≠ t := fun e => hne (distB_ne h hi hj (e ▸ hx) hy)
      simp [Act.put, Array.getElem?_setIfInBounds_ne hst]
theorem getD_put_ne {a : Act} {o : Oper} {v : Value} {t : Nat} (h : o.dst ≠ some t) : (a.put o.dst v).tmps.getD t undef = a.tmps.getD t undef := by
  cases hd : o.dst with
  | none => rfl
  | some s =>
    have hst : s ≠ t := fun e => h (by rw [hd, e])
    simp [Act.put, Array.getElem?_setIfInBounds_ne hst]
theorem put_size (a : Act) (d : Option Tmp) (v : Value) : (a.put d v).tmps.size = a.tmps.size := by cases d <;> simp [Act.put]
theorem put_defers (a : Act) (d : Option Tmp) (v : Value) : (a.put d v).defers = a.defers := by cases d <;> rfl
/-- **Each operation leaves what it should, whenever it comes up**: then so does the region. -/
theorem wp_region_mono {id n : Nat} {a0 : Act} {w0 : World} (C : World → Prop) (R : World → World → Prop) (Φ : Nat → Value → World → Prop) (hm : P.follows .mixedOrders = true) (hb : backB .any ops = true) (hd : distB ops n = true) (hn : a0.tmps.size = n)
    (hkeep : ∀ j v w w', Φ j v w → R w w' → Φ j v w') (hC0 : C { w0 with drawn := w0.drawn + 1 })
    (hop : ∀ (i : Nat) (o : Oper), ops[i]? = some o → ∀ (a : Act) w, C w → (∀ t, (∀ (j : Nat) (o' : Oper), ops[j]? = some o' → o'.dst ≠ some t) → a.tmps.getD t undef = a0.tmps.getD t undef) → (∀ e ∈ o.after, Region.binds .any e = true → ∀ d : Oper, ops[e.on]? = some d → Φ e.on (valOf a d) w) →
      if Region.wanted o (yielded ops a.tmps) then yieldsM P o a w (fun v w' => Φ i (norm o v) w' ∧ C w' ∧ R w w') else Φ i (norm o undef) w)
    (hend : ∀ (a : Act) w, C w → a.tmps.size = n → a.defers = a0.defers → (∀ t, (∀ (j : Nat) (o' : Oper), ops[j]? = some o' → o'.dst ≠ some t) → a.tmps.getD t undef = a0.tmps.getD t undef) → (∀ (i : Nat) (o : Oper), ops[i]? = some o → Φ i (valOf a o) w) → Q .normal a w) : (Code.region id ops true).wp P Q a0 w0 := by
  refine wp_region_inv (Inv := fun listed a w => C w ∧ a.tmps.size = n ∧ a.defers = a0.defers ∧ (∀ t, (∀ (j : Nat) (o' : Oper), ops[j]? = some o' → o'.dst ≠ some t) → a.tmps.getD t undef = a0.tmps.getD t undef) ∧ ∀ (j : Nat) (o : Oper), ops[j]? = some o → listed.getD j false = true → Φ j (valOf a o) w) hm hb ?_ ?_ ?_
  · refine ⟨hC0, hn, rfl, fun _ _ => rfl, fun j o _ h => ?_⟩
    have hj : ¬ j < ops.size ∨ j < ops.size := by omega
    rcases hj with hj | hj <;> simp [hj] at h
  · intro listed a w hs ⟨hC, hz, hdf, ht, hL⟩ i hi
    obtain ⟨h0, o, ho, hall⟩ := mem_ready.1 hi
    have hil : i < listed.size := by have := (Array.getElem?_eq_some_iff.1 ho).1; omega
    have h1 := hop i o ho a w hC ht (fun e he hbd d hd' => hL e.on d hd' (hall e he hbd))
    have key : ∀ v w', C w' → Φ i (norm o v) w' → (∀ j v', Φ j v' w → Φ j v' w') → (C w' ∧ (a.put o.dst v).tmps.size = n ∧ (a.put o.dst v).defers = a0.defers ∧ (∀ t, (∀ (j : Nat) (o' : Oper), ops[j]? = some o' → o'.dst ≠ some t) → (a.put o.dst v).tmps.getD t undef = a0.tmps.getD t undef) ∧ ∀ (j : Nat) (o' : Oper), ops[j]? = some o' → (listed.setIfInBounds i true).getD j false = true → Φ j (valOf (a.put o.dst v) o') w') := fun v w' hC' hP hk => by
      refine ⟨hC', by rw [put_size]; exact hz, by rw [put_defers]; exact hdf, fun t htt => by rw [getD_put_ne (htt i o ho)]; exact ht t htt, fun j o' hj hl => ?_⟩
      by_cases hij : i = j
      · subst hij
        rw [ho] at hj
        injection hj with hj
        subst hj
        rw [valOf_put_self hd hz ho]
        exact hP
      · rw [getD_set_ne false hij] at hl
        rw [valOf_put_ne hd ho hj hij]
        exact hk _ _ (hL j o' hj hl)
    unfold wpOp
    rw [ho]
    simp only
    split
    · rename_i hw
      rw [if_pos hw] at h1
      refine Or.inl (Oper.wp_mono (fun a' w' h2 => ?_) (wp_of_yieldsM h1))
      obtain ⟨v, rfl, hP, hC', hR⟩ := h2
      exact key v w' hC' hP (fun j v' h3 => hkeep j v' w w' h3 hR)
    · rename_i hw
      rw [if_neg hw] at h1
      exact key undef w hC h1 (fun _ _ h3 => h3)
  · intro listed a w hs hl ⟨hC, hz, hdf, ht, hL⟩
    exact hend a w hC hz hdf ht (fun i o ho => hL i o ho (getD_ft (by have := (Array.getElem?_eq_some_iff.1 ho).1; omega) (hl i (Array.getElem?_eq_some_iff.1 ho).1)))
end
end Go.Proofs.Ytgafpmgdpigliaa

namespace Go.Proofs.Ytgafpmgdpigliaa
open Go.RowKit
open Mc (Ed Ma)

theorem alloc_yields {o : Oper} {a : Act} {w : World} (h : o.op = .alloc 24) : yieldsM Try.prog o a w (fun v w' => v = .pointer (some ⟨w.heap.size, 0, none⟩) ∧ w' = w.alloc (.cells #[.int .i64 0, .int .i64 0, .slice none 0 0] 24)) := by
  unfold yieldsM
  obtain ⟨dst, op, type, pos, after, guard⟩ := o
  simp only at h
  subst h
  simp [execOp, go_sem]
theorem store_yields {o : Oper} {a : Act} {w : World} {s t G n n' c c' : Nat} {i j i' j' : Int} {A A' : Option Addr} (h : o.op = .store 24 (.tmp s) (.tmp t)) (hs : a.tmps.getD s undef = .pointer (some ⟨G, 0, none⟩)) (ht : a.tmps.getD t undef = .agg #[.int .i64 i', .int .i64 j', .slice A' n' c']) (hB : BxM w G i j A n c) :
    yieldsM Try.prog o a w (fun v w' => v = undef ∧ w' = set3 w G (.int .i64 i') (.int .i64 j') (.slice A' n' c')) := by
  unfold yieldsM
  obtain ⟨dst, op, type, pos, after, guard⟩ := o
  simp only at h
  subst h
  obtain ⟨c0, c1, c2⟩ := hB.cells
  have hf : ∀ k, w.frozen? ⟨G, k, none⟩ = false := fun k => by
    unfold BxM at hB
    simp [World.frozen?, hB]
  have hB1 : BxM (w.setCell ⟨G, 0, none⟩ (.int .i64 i')) G i' j A n c := by
    unfold BxM at hB ⊢
    simp [World.setCell, Array.getElem?_modify, hB]
  have hB2 : BxM ((w.setCell ⟨G, 0, none⟩ (.int .i64 i')).setCell ⟨G, 1, none⟩ (.int .i64 j')) G i' j' A n c := by
    have h1 : (w.setCell ⟨G, 0, none⟩ (.int .i64 i')).heap[G]? = _ := hB1
    show ((w.setCell ⟨G, 0, none⟩ (.int .i64 i')).setCell ⟨G, 1, none⟩ (.int .i64 j')).heap[G]? = _
    generalize w.setCell ⟨G, 0, none⟩ (.int .i64 i') = w1 at *
    simp [World.setCell, Array.getElem?_modify, h1]
  have e1 := hB1.cells.2.1
  have e2 := hB2.cells.2.2
  have f1 : (w.setCell ⟨G, 0, none⟩ (.int .i64 i')).frozen? ⟨G, 1, none⟩ = false := by
    have h1 : (w.setCell ⟨G, 0, none⟩ (.int .i64 i')).heap[G]? = _ := hB1
    simp only [World.frozen?, h1]
    simp
  have f2 : ((w.setCell ⟨G, 0, none⟩ (.int .i64 i')).setCell ⟨G, 1, none⟩ (.int .i64 j')).frozen? ⟨G, 2, none⟩ = false := by
    have h1 : ((w.setCell ⟨G, 0, none⟩ (.int .i64 i')).setCell ⟨G, 1, none⟩ (.int .i64 j')).heap[G]? = _ := hB2
    simp only [World.frozen?, h1]
    simp
  have hs' : a.tmps[s]?.getD undef = .pointer (some ⟨G, 0, none⟩) := by simpa using hs
  have ht' : a.tmps[t]?.getD undef = .agg #[.int .i64 i', .int .i64 j', .slice A' n' c'] := by simpa using ht
  simp [execOp, go_sem, hs', ht', c0, hf, e1, e2, f1, f2]
theorem load_yields {o : Oper} {a : Act} {w : World} {s g n c : Nat} {i j : Int} {A : Option Addr} (h : o.op = .load 24 (.tmp s)) (hs : a.tmps.getD s undef = .pointer (some ⟨g, 0, none⟩)) (hB : BxM w g i j A n c) : yieldsM Try.prog o a w (fun v w' => v = .agg #[.int .i64 i, .int .i64 j, .slice A n c] ∧ w' = w) := by
  unfold yieldsM
  obtain ⟨dst, op, type, pos, after, guard⟩ := o
  simp only at h
  subst h
  obtain ⟨c0, c1, c2⟩ := hB.cells
  have hs' : a.tmps[s]?.getD undef = .pointer (some ⟨g, 0, none⟩) := by simpa using hs
  simp [execOp, go_sem, hs', c0, c1, c2]
/-- What is known behind the region. -/
structure TwR (w4 : World) (ra rb : List (List Ed)) (G H : Nat) (R S : Option Addr) (n m c d : Nat) (i o i' o' : Int) (wx : World) : Prop where
  ne : G ≠ H
  bg : BxM wx G i o R n c
  bh : BxM wx H i' o' S m d
  ra : ∃ base vs, Bld wx base (.slice R n c) ra vs
  rb : ∃ base vs, Bld wx base (.slice S m d) rb vs
  lo : w4.heap.size ≤ H
  bel : Below w4.heap.size w4 wx
theorem own_notT {w : World} {base : Nat} {V : Value} {n b : Nat} {e t : TypeId} {sz : Nat} {vs : List Value} {cs : Array Value} {fr : Nat × Nat} (h : w.ownsRow base e sz V n vs) (hc : w.heap[b]? = some (.cells cs t fr)) (ht : t ≠ e) : V.ownBlock = none ∨ V.ownBlock ≠ some b := by
  rcases h.2 with ⟨rfl, _⟩ | ⟨g, c, cu, rfl, _, hg, _⟩
  · exact .inl rfl
  · refine .inr fun e1 => ?_
    simp [Value.ownBlock] at e1
    subst e1
    rw [hg] at hc
    injection hc with hc
    injection hc with _ h2 _
    exact ht h2.symm
theorem Bld.farT {w : World} {base H k : Nat} {V : Value} {rs : List (List Ed)} {vs : List Value} {cs : Array Value} {fr : Nat × Nat} (h : Bld w base V rs vs) (hH : w.heap[H]? = some (.cells cs 24 fr)) (v : Value) : Bld (w.setCell ⟨H, k, none⟩ v) base V rs vs :=
  ⟨h.1.kept (grown_setCell w ⟨H, k, none⟩ v) (own_notT h.1 hH (by decide)), fun j row hj => by
    obtain ⟨g, c, h1, h2⟩ := h.2 j row hj
    exact ⟨g, c, h1, h2.kept (grown_setCell w ⟨H, k, none⟩ v) (own_notT h2 hH (by decide))⟩⟩
theorem setM_heap {w : World} {H k : Nat} {cs : Array Value} {t : TypeId} {fr : Nat × Nat} (hH : w.heap[H]? = some (.cells cs t fr)) (v : Value) : ∃ cs', (w.setCell ⟨H, k, none⟩ v).heap[H]? = some (.cells cs' t fr) := by
  refine ⟨cs.setIfInBounds k v, ?_⟩
  simp [World.setCell, Array.getElem?_modify, hH]
theorem Bld.far3T {w : World} {base H n c : Nat} {i o : Int} {A : Option Addr} {V : Value} {rs : List (List Ed)} {vs : List Value} (h : Bld w base V rs vs) (hH : BxM w H i o A n c) (x y z : Value) : Bld (Go.Proofs.Ytgafpmgdpigliaa.set3 w H x y z) base V rs vs := by
  have h0 : w.heap[H]? = _ := hH
  obtain ⟨c1, h1⟩ := setM_heap (k := 0) h0 x
  obtain ⟨c2, h2⟩ := setM_heap (k := 1) h1 y
  exact ((h.farT h0 x).farT h1 y).farT h2 z
def upd (L : Nat → Bool) (i : Nat) : Nat → Bool := fun j => Nat.beq i j || L j
theorem upd_set {listed : Array Bool} {i : Nat} (h : i < listed.size) : (fun j => (listed.setIfInBounds i true).getD j false) = upd (fun j => listed.getD j false) i := by
  funext j
  by_cases e : i = j
  · subst e
    simp [upd, h]
  · rw [getD_set_ne false e]
    have : Nat.beq i j = false := by
      cases hb : Nat.beq i j with
      | false => rfl
      | true => exact absurd (Nat.eq_of_beq_eq_true hb) e
    simp [upd, this]
theorem up_ {L : Nat → Bool} {i j : Nat} (h : L j = true) : upd L i j = true := by simp [upd, h]
theorem put_at {a : Act} {s : Nat} {v : Value} (h : s < a.tmps.size) : (a.put (some s) v).tmps.getD s undef = v := by simp [Act.put, h]
theorem put_off {a : Act} {s t : Nat} {v : Value} (h : s ≠ t) : (a.put (some s) v).tmps.getD t undef = a.tmps.getD t undef := by simp [Act.put, Array.getElem?_setIfInBounds_ne h]
theorem wpOp_yields {P : Program} {ops : Array Oper} {Q : Exit → Act → World → Prop} {i : Nat} {o : Oper} {I : Act → World → Prop} {K : Value → World → Prop} {a : Act} {w : World} (ho : ops[i]? = some o) (hg : o.guard = none) (h : yieldsM P o a w K) (hk : ∀ v w', K v w' → I (a.put o.dst v) w') : wpOp P ops Q i I a w := by
  unfold wpOp
  rw [ho]
  simp only
  rw [if_pos (by simp [Region.wanted, hg])]
  exact Or.inl (Oper.wp_mono (fun a' w' h2 => by obtain ⟨v, rfl, hK⟩ := h2; exact hk v w' hK) (wp_of_yieldsM h))
/-- What is known when the operations of L have come up. -/
structure TwI (a0 : Act) (w4 : World) (t0 t1 t2 t3 t4 t5 : Nat) (vA vB : Value) (i o i' o' : Int) (n m : Nat) (ra rb : List (List Ed)) (L : Nat → Bool) (a : Act) (w : World) : Prop where
  bel : Below w4.heap.size w4 w
  sz : a.tmps.size = a0.tmps.size
  df : a.defers = a0.defers
  fr : ∀ t, t0 ≠ t → t1 ≠ t → t2 ≠ t → t3 ≠ t → t4 ≠ t → t5 ≠ t → a.tmps.getD t undef = a0.tmps.getD t undef
  q0 : L 0 = true → a.tmps.getD t0 undef = vA
  q2 : L 2 = true → a.tmps.getD t2 undef = vB
  q1 : L 1 = true → ∃ R c1 bs vs, a.tmps.getD t1 undef = .agg #[.int .i64 i, .int .i64 o, .slice R n c1] ∧ Bld w bs (.slice R n c1) ra vs
  q3 : L 3 = true → ∃ R c1 bs vs, a.tmps.getD t3 undef = .agg #[.int .i64 i', .int .i64 o', .slice R m c1] ∧ Bld w bs (.slice R m c1) rb vs
  q4 : L 4 = true → ∃ G, a.tmps.getD t4 undef = .pointer (some ⟨G, 0, none⟩) ∧ w4.heap.size ≤ G ∧ ∃ x y A k c, BxM w G x y A k c ∧ (L 6 = true → a.tmps.getD t1 undef = .agg #[.int .i64 x, .int .i64 y, .slice A k c])
  q5 : L 5 = true → ∃ G, a.tmps.getD t5 undef = .pointer (some ⟨G, 0, none⟩) ∧ w4.heap.size ≤ G ∧ ∃ x y A k c, BxM w G x y A k c ∧ (L 7 = true → a.tmps.getD t3 undef = .agg #[.int .i64 x, .int .i64 y, .slice A k c])
  ne : L 4 = true → L 5 = true → a.tmps.getD t4 undef ≠ a.tmps.getD t5 undef
  d6 : L 6 = true → L 4 = true ∧ L 1 = true
  d7 : L 7 = true → L 5 = true ∧ L 3 = true
section
variable {a0 : Act} {w4 : World} {t0 t1 t2 t3 t4 t5 : Nat} {vA vB : Value} {i o i' o' : Int} {n m : Nat} {ra rb : List (List Ed)} {L : Nat → Bool} {a : Act} {w w' : World}
theorem TwI.to (h : TwI a0 w4 t0 t1 t2 t3 t4 t5 vA vB i o i' o' n m ra rb L a w) (hb : Below w.heap.size w w') : TwI a0 w4 t0 t1 t2 t3 t4 t5 vA vB i o i' o' n m ra rb L a w' :=
  ⟨below_next h.bel hb, h.sz, h.df, h.fr, h.q0, h.q2,
   fun hl => by obtain ⟨R, c1, bs, vs, e1, e2⟩ := h.q1 hl; exact ⟨R, c1, bs, vs, e1, e2.below hb⟩,
   fun hl => by obtain ⟨R, c1, bs, vs, e1, e2⟩ := h.q3 hl; exact ⟨R, c1, bs, vs, e1, e2.below hb⟩,
   fun hl => by obtain ⟨G, e1, hlo, x, y, A, k, c, e2, e3⟩ := h.q4 hl; exact ⟨G, e1, hlo, x, y, A, k, c, e2.to hb, e3⟩,
   fun hl => by obtain ⟨G, e1, hlo, x, y, A, k, c, e2, e3⟩ := h.q5 hl; exact ⟨G, e1, hlo, x, y, A, k, c, e2.to hb, e3⟩,
   h.ne, h.d6, h.d7⟩
theorem TwI.p0 (h : TwI a0 w4 t0 t1 t2 t3 t4 t5 vA vB i o i' o' n m ra rb L a w) (hz : t0 < a.tmps.size) (n1 : t0 ≠ t1) (n2 : t0 ≠ t2) (n3 : t0 ≠ t3) (n4 : t0 ≠ t4) (n5 : t0 ≠ t5) : TwI a0 w4 t0 t1 t2 t3 t4 t5 vA vB i o i' o' n m ra rb (upd L 0) (a.put (some t0) vA) w :=
  ⟨h.bel,
   by rw [put_size]; exact h.sz,
   by rw [put_defers]; exact h.df,
   fun t h0 h1 h2 h3 h4 h5 => (put_off h0).trans (h.fr t h0 h1 h2 h3 h4 h5),
   fun _ => put_at hz,
   fun hl => (put_off n2).trans (h.q2 hl),
   fun hl => by obtain ⟨R, c1, bs, vs, e1, e2⟩ := h.q1 hl; exact ⟨R, c1, bs, vs, (put_off n1).trans e1, e2⟩,
   fun hl => by obtain ⟨R, c1, bs, vs, e1, e2⟩ := h.q3 hl; exact ⟨R, c1, bs, vs, (put_off n3).trans e1, e2⟩,
   fun hl => by obtain ⟨G, e1, hlo, x, y, A, k, c, e2, e3⟩ := h.q4 hl; exact ⟨G, (put_off n4).trans e1, hlo, x, y, A, k, c, e2, fun h6 => (put_off n1).trans (e3 h6)⟩,
   fun hl => by obtain ⟨G, e1, hlo, x, y, A, k, c, e2, e3⟩ := h.q5 hl; exact ⟨G, (put_off n5).trans e1, hlo, x, y, A, k, c, e2, fun h6 => (put_off n3).trans (e3 h6)⟩,
   fun h4 h5 => by rw [put_off n4, put_off n5]; exact h.ne h4 h5,
   fun h6 => ⟨up_ (h.d6 h6).1, up_ (h.d6 h6).2⟩,
   fun h6 => ⟨up_ (h.d7 h6).1, up_ (h.d7 h6).2⟩⟩
theorem TwI.p1 (h : TwI a0 w4 t0 t1 t2 t3 t4 t5 vA vB i o i' o' n m ra rb L a w) (hz : t1 < a.tmps.size) (hL : L 1 = false) (n0 : t1 ≠ t0) (n2 : t1 ≠ t2) (n3 : t1 ≠ t3) (n4 : t1 ≠ t4) (n5 : t1 ≠ t5) {R : Option Addr} {c1 : Nat} (hB : ∃ bs vs, Bld w bs (.slice R n c1) ra vs) : TwI a0 w4 t0 t1 t2 t3 t4 t5 vA vB i o i' o' n m ra rb (upd L 1) (a.put (some t1) (.agg #[.int .i64 i, .int .i64 o, .slice R n c1])) w :=
  ⟨h.bel,
   by rw [put_size]; exact h.sz,
   by rw [put_defers]; exact h.df,
   fun t h0 h1 h2 h3 h4 h5 => (put_off h1).trans (h.fr t h0 h1 h2 h3 h4 h5),
   fun hl => (put_off n0).trans (h.q0 hl),
   fun hl => (put_off n2).trans (h.q2 hl),
   fun _ => by obtain ⟨bs, vs, hB⟩ := hB; exact ⟨_, _, bs, vs, put_at hz, hB⟩,
   fun hl => by obtain ⟨R, c1, bs, vs, e1, e2⟩ := h.q3 hl; exact ⟨R, c1, bs, vs, (put_off n3).trans e1, e2⟩,
   fun hl => by obtain ⟨G, e1, hlo, x, y, A, k, c, e2, e3⟩ := h.q4 hl; exact ⟨G, (put_off n4).trans e1, hlo, x, y, A, k, c, e2, fun h6 => by have h7 := (h.d6 h6).2; rw [hL] at h7; cases h7⟩,
   fun hl => by obtain ⟨G, e1, hlo, x, y, A, k, c, e2, e3⟩ := h.q5 hl; exact ⟨G, (put_off n5).trans e1, hlo, x, y, A, k, c, e2, fun h6 => (put_off n3).trans (e3 h6)⟩,
   fun h4 h5 => by rw [put_off n4, put_off n5]; exact h.ne h4 h5,
   fun h6 => ⟨up_ (h.d6 h6).1, up_ (h.d6 h6).2⟩,
   fun h6 => ⟨up_ (h.d7 h6).1, up_ (h.d7 h6).2⟩⟩
theorem TwI.p2 (h : TwI a0 w4 t0 t1 t2 t3 t4 t5 vA vB i o i' o' n m ra rb L a w) (hz : t2 < a.tmps.size) (n0 : t2 ≠ t0) (n1 : t2 ≠ t1) (n3 : t2 ≠ t3) (n4 : t2 ≠ t4) (n5 : t2 ≠ t5) : TwI a0 w4 t0 t1 t2 t3 t4 t5 vA vB i o i' o' n m ra rb (upd L 2) (a.put (some t2) vB) w :=
  ⟨h.bel,
   by rw [put_size]; exact h.sz,
   by rw [put_defers]; exact h.df,
   fun t h0 h1 h2 h3 h4 h5 => (put_off h2).trans (h.fr t h0 h1 h2 h3 h4 h5),
   fun hl => (put_off n0).trans (h.q0 hl),
   fun _ => put_at hz,
   fun hl => by obtain ⟨R, c1, bs, vs, e1, e2⟩ := h.q1 hl; exact ⟨R, c1, bs, vs, (put_off n1).trans e1, e2⟩,
   fun hl => by obtain ⟨R, c1, bs, vs, e1, e2⟩ := h.q3 hl; exact ⟨R, c1, bs, vs, (put_off n3).trans e1, e2⟩,
   fun hl => by obtain ⟨G, e1, hlo, x, y, A, k, c, e2, e3⟩ := h.q4 hl; exact ⟨G, (put_off n4).trans e1, hlo, x, y, A, k, c, e2, fun h6 => (put_off n1).trans (e3 h6)⟩,
   fun hl => by obtain ⟨G, e1, hlo, x, y, A, k, c, e2, e3⟩ := h.q5 hl; exact ⟨G, (put_off n5).trans e1, hlo, x, y, A, k, c, e2, fun h6 => (put_off n3).trans (e3 h6)⟩,
   fun h4 h5 => by rw [put_off n4, put_off n5]; exact h.ne h4 h5,
   fun h6 => ⟨up_ (h.d6 h6).1, up_ (h.d6 h6).2⟩,
   fun h6 => ⟨up_ (h.d7 h6).1, up_ (h.d7 h6).2⟩⟩
theorem TwI.p3 (h : TwI a0 w4 t0 t1 t2 t3 t4 t5 vA vB i o i' o' n m ra rb L a w) (hz : t3 < a.tmps.size) (hL : L 3 = false) (n0 : t3 ≠ t0) (n1 : t3 ≠ t1) (n2 : t3 ≠ t2) (n4 : t3 ≠ t4) (n5 : t3 ≠ t5) {R : Option Addr} {c1 : Nat} (hB : ∃ bs vs, Bld w bs (.slice R m c1) rb vs) : TwI a0 w4 t0 t1 t2 t3 t4 t5 vA vB i o i' o' n m ra rb (upd L 3) (a.put (some t3) (.agg #[.int .i64 i', .int .i64 o', .slice R m c1])) w :=
  ⟨h.bel,
   by rw [put_size]; exact h.sz,
   by rw [put_defers]; exact h.df,
   fun t h0 h1 h2 h3 h4 h5 => (put_off h3).trans (h.fr t h0 h1 h2 h3 h4 h5),
   fun hl => (put_off n0).trans (h.q0 hl),
   fun hl => (put_off n2).trans (h.q2 hl),
   fun hl => by obtain ⟨R, c1, bs, vs, e1, e2⟩ := h.q1 hl; exact ⟨R, c1, bs, vs, (put_off n1).trans e1, e2⟩,
   fun _ => by obtain ⟨bs, vs, hB⟩ := hB; exact ⟨_, _, bs, vs, put_at hz, hB⟩,
   fun hl => by obtain ⟨G, e1, hlo, x, y, A, k, c, e2, e3⟩ := h.q4 hl; exact ⟨G, (put_off n4).trans e1, hlo, x, y, A, k, c, e2, fun h6 => (put_off n1).trans (e3 h6)⟩,
   fun hl => by obtain ⟨G, e1, hlo, x, y, A, k, c, e2, e3⟩ := h.q5 hl; exact ⟨G, (put_off n5).trans e1, hlo, x, y, A, k, c, e2, fun h6 => by have h7 := (h.d7 h6).2; rw [hL] at h7; cases h7⟩,
   fun h4 h5 => by rw [put_off n4, put_off n5]; exact h.ne h4 h5,
   fun h6 => ⟨up_ (h.d6 h6).1, up_ (h.d6 h6).2⟩,
   fun h6 => ⟨up_ (h.d7 h6).1, up_ (h.d7 h6).2⟩⟩
theorem TwI.p4 (h0 : TwI a0 w4 t0 t1 t2 t3 t4 t5 vA vB i o i' o' n m ra rb L a w) (hz : t4 < a.tmps.size) (hL : L 4 = false) (n0 : t4 ≠ t0) (n1 : t4 ≠ t1) (n2 : t4 ≠ t2) (n3 : t4 ≠ t3) (n5 : t4 ≠ t5) : TwI a0 w4 t0 t1 t2 t3 t4 t5 vA vB i o i' o' n m ra rb (upd L 4) (a.put (some t4) (.pointer (some ⟨w.heap.size, 0, none⟩))) (w.alloc zM) :=
  have h := h0.to (bA (Below.refl _ w) zM)
  ⟨h.bel,
   by rw [put_size]; exact h.sz,
   by rw [put_defers]; exact h.df,
   fun t h0 h1 h2 h3 h4 h5 => (put_off h4).trans (h.fr t h0 h1 h2 h3 h4 h5),
   fun hl => (put_off n0).trans (h.q0 hl),
   fun hl => (put_off n2).trans (h.q2 hl),
   fun hl => by obtain ⟨R, c1, bs, vs, e1, e2⟩ := h.q1 hl; exact ⟨R, c1, bs, vs, (put_off n1).trans e1, e2⟩,
   fun hl => by obtain ⟨R, c1, bs, vs, e1, e2⟩ := h.q3 hl; exact ⟨R, c1, bs, vs, (put_off n3).trans e1, e2⟩,
   fun _ => ⟨w.heap.size, put_at hz, h0.bel.size, 0, 0, none, 0, 0, BxM.new1 w, fun h6 => by have h7 := (h.d6 h6).1; rw [hL] at h7; cases h7⟩,
   fun hl => by obtain ⟨G, e1, hlo, x, y, A, k, c, e2, e3⟩ := h.q5 hl; exact ⟨G, (put_off n5).trans e1, hlo, x, y, A, k, c, e2, fun h6 => (put_off n3).trans (e3 h6)⟩,
   fun _ h5 e => by
     obtain ⟨G, e1, _, x, y, A, k, c, e2, _⟩ := h0.q5 h5
     rw [put_at hz, put_off n5, e1] at e
     injection e with e
     injection e with e
     injection e with e
     have := heap_lt e2
     omega,
   fun h6 => ⟨up_ (h.d6 h6).1, up_ (h.d6 h6).2⟩,
   fun h6 => ⟨up_ (h.d7 h6).1, up_ (h.d7 h6).2⟩⟩
theorem TwI.p5 (h0 : TwI a0 w4 t0 t1 t2 t3 t4 t5 vA vB i o i' o' n m ra rb L a w) (hz : t5 < a.tmps.size) (hL : L 5 = false) (n0 : t5 ≠ t0) (n1 : t5 ≠ t1) (n2 : t5 ≠ t2) (n3 : t5 ≠ t3) (n4 : t5 ≠ t4) : TwI a0 w4 t0 t1 t2 t3 t4 t5 vA vB i o i' o' n m ra rb (upd L 5) (a.put (some t5) (.pointer (some ⟨w.heap.size, 0, none⟩))) (w.alloc zM) :=
  have h := h0.to (bA (Below.refl _ w) zM)
  ⟨h.bel,
   by rw [put_size]; exact h.sz,
   by rw [put_defers]; exact h.df,
   fun t h0 h1 h2 h3 h4 h5 => (put_off h5).trans (h.fr t h0 h1 h2 h3 h4 h5),
   fun hl => (put_off n0).trans (h.q0 hl),
   fun hl => (put_off n2).trans (h.q2 hl),
   fun hl => by obtain ⟨R, c1, bs, vs, e1, e2⟩ := h.q1 hl; exact ⟨R, c1, bs, vs, (put_off n1).trans e1, e2⟩,
   fun hl => by obtain ⟨R, c1, bs, vs, e1, e2⟩ := h.q3 hl; exact ⟨R, c1, bs, vs, (put_off n3).trans e1, e2⟩,
   fun hl => by obtain ⟨G, e1, hlo, x, y, A, k, c, e2, e3⟩ := h.q4 hl; exact ⟨G, (put_off n4).trans e1, hlo, x, y, A, k, c, e2, fun h6 => (put_off n1).trans (e3 h6)⟩,
   fun _ => ⟨w.heap.size, put_at hz, h0.bel.size, 0, 0, none, 0, 0, BxM.new1 w, fun h6 => by have h7 := (h.d7 h6).1; rw [hL] at h7; cases h7⟩,
   fun h4 _ e => by
     obtain ⟨G, e1, _, x, y, A, k, c, e2, _⟩ := h0.q4 h4
     rw [put_at hz, put_off n4, e1] at e
     injection e with e
     injection e with e
     injection e with e
     have := heap_lt e2
     omega,
   fun h6 => ⟨up_ (h.d6 h6).1, up_ (h.d6 h6).2⟩,
   fun h6 => ⟨up_ (h.d7 h6).1, up_ (h.d7 h6).2⟩⟩
theorem TwI.p7 (h : TwI a0 w4 t0 t1 t2 t3 t4 t5 vA vB i o i' o' n m ra rb L a w) {G k c c1 : Nat} {x y : Int} {A R : Option Addr} (e1 : a.tmps.getD t5 undef = .pointer (some ⟨G, 0, none⟩)) (hlo : w4.heap.size ≤ G) (e2 : BxM w G x y A k c) (f1 : a.tmps.getD t3 undef = .agg #[.int .i64 i', .int .i64 o', .slice R m c1]) (h4 : L 5 = true) (h1 : L 3 = true) : TwI a0 w4 t0 t1 t2 t3 t4 t5 vA vB i o i' o' n m ra rb (upd L 7) a (set3 w G (.int .i64 i') (.int .i64 o') (.slice R m c1)) :=
  ⟨below_set3 h.bel hlo _ _ _,
   h.sz,
   h.df,
   h.fr,
   h.q0,
   h.q2,
   fun hl => by obtain ⟨R, c1, bs, vs, g1, g2⟩ := h.q1 hl; exact ⟨R, c1, bs, vs, g1, g2.far3T e2 _ _ _⟩,
   fun hl => by obtain ⟨R, c1, bs, vs, g1, g2⟩ := h.q3 hl; exact ⟨R, c1, bs, vs, g1, g2.far3T e2 _ _ _⟩,
   fun hl => by
     obtain ⟨H, g1, hlo2, x2, y2, A2, k2, c2, g2, g3⟩ := h.q4 hl
     have hne : H ≠ G := fun e => by
       subst e
       exact h.ne hl h4 (g1.trans e1.symm)
     exact ⟨H, g1, hlo2, x2, y2, A2, k2, c2, g2.far3 hne _ _ _, g3⟩,
   fun _ => ⟨G, e1, hlo, i', o', R, m, c1, e2.set3, fun _ => f1⟩,
   h.ne,
   fun h6 => ⟨up_ (h.d6 h6).1, up_ (h.d6 h6).2⟩,
   fun _ => ⟨up_ h4, up_ h1⟩⟩
end
theorem act_ext {a b : Act} (hs : a.tmps.size = b.tmps.size) (hd : a.defers = b.defers) (h : ∀ t, a.tmps.getD t undef = b.tmps.getD t undef) : a = b := by
  have e : a.tmps = b.tmps := Array.ext hs fun i h1 h2 => by
    have := h i
    simpa [h1, h2] using this
  cases a
  cases b
  simp only at e hd
  rw [e, hd]
theorem TwI.ends {a0 : Act} {w4 : World} {t0 t1 t2 t3 t4 t5 : Nat} {vA vB : Value} {i o i' o' : Int} {n m : Nat} {ra rb : List (List Ed)} {L : Nat → Bool} {a : Act} {w : World} (h : TwI a0 w4 t0 t1 t2 t3 t4 t5 vA vB i o i' o' n m ra rb L a w) (l : ∀ j, j < 8 → L j = true) (hnd : [t0, t1, t2, t3, t4, t5].Nodup) (hlt : ∀ t ∈ [t0, t1, t2, t3, t4, t5], t < a0.tmps.size) :
    ∃ G H R S c1 c2, a = ((((((a0.put (some t0) vA).put (some t1) (.agg #[.int .i64 i, .int .i64 o, .slice R n c1])).put (some t2) vB).put (some t3) (.agg #[.int .i64 i', .int .i64 o', .slice S m c2])).put (some t4) (.pointer (some ⟨G, 0, none⟩))).put (some t5) (.pointer (some ⟨H, 0, none⟩))) ∧ TwR w4 ra rb G H R S n m c1 c2 i o i' o' w := by
  simp only [List.nodup_cons, List.mem_cons, List.not_mem_nil, or_false, not_or, not_false_eq_true, List.nodup_nil, and_true] at hnd
  obtain ⟨⟨n01, n02, n03, n04, n05⟩, ⟨n12, n13, n14, n15⟩, ⟨n23, n24, n25⟩, ⟨n34, n35⟩, n45⟩ := hnd
  have z0 := hlt t0 (by simp)
  have z1 := hlt t1 (by simp)
  have z2 := hlt t2 (by simp)
  have z3 := hlt t3 (by simp)
  have z4 := hlt t4 (by simp)
  have z5 := hlt t5 (by simp)
  obtain ⟨G, e1, hlo, x, y, A, k, c, b1, f0⟩ := h.q4 (l 4 (by omega))
  obtain ⟨H, e2, hlo2, x', y', A', k', c', b2, g0⟩ := h.q5 (l 5 (by omega))
  obtain ⟨R, c1, bs, vs, f1, B1⟩ := h.q1 (l 1 (by omega))
  obtain ⟨S, c2, bs', vs', g1, B2⟩ := h.q3 (l 3 (by omega))
  have hne : G ≠ H := fun e => h.ne (l 4 (by omega)) (l 5 (by omega)) (by rw [e1, e2, e])
  have f2 := f1.symm.trans (f0 (l 6 (by omega)))
  have g2 := g1.symm.trans (g0 (l 7 (by omega)))
  simp at f2 g2
  obtain ⟨rfl, rfl, rfl, rfl, rfl⟩ := f2
  obtain ⟨rfl, rfl, rfl, rfl, rfl⟩ := g2
  refine ⟨G, H, R, S, c1, c2, act_ext (by simp only [put_size]; exact h.sz) (by simp only [put_defers]; exact h.df) (fun t => ?_), ⟨hne, b1, b2, ⟨bs, vs, B1⟩, ⟨bs', vs', B2⟩, hlo2, h.bel⟩⟩
  · skip
    by_cases d5 : t5 = t
    · subst d5
      exact (e2).trans (put_at (by simp only [put_size]; exact z5)).symm
    by_cases d4 : t4 = t
    · subst d4
      exact (e1).trans ((put_off (Ne.symm n45)).trans (put_at (by simp only [put_size]; exact z4))).symm
    by_cases d3 : t3 = t
    · subst d3
      exact (g1).trans ((put_off (Ne.symm n35)).trans ((put_off (Ne.symm n34)).trans (put_at (by simp only [put_size]; exact z3)))).symm
    by_cases d2 : t2 = t
    · subst d2
      exact (h.q2 (l 2 (by omega))).trans ((put_off (Ne.symm n25)).trans ((put_off (Ne.symm n24)).trans ((put_off (Ne.symm n23)).trans (put_at (by simp only [put_size]; exact z2))))).symm
    by_cases d1 : t1 = t
    · subst d1
      exact (f1).trans ((put_off (Ne.symm n15)).trans ((put_off (Ne.symm n14)).trans ((put_off (Ne.symm n13)).trans ((put_off (Ne.symm n12)).trans (put_at (by simp only [put_size]; exact z1)))))).symm
    by_cases d0 : t0 = t
    · subst d0
      exact (h.q0 (l 0 (by omega))).trans ((put_off (Ne.symm n05)).trans ((put_off (Ne.symm n04)).trans ((put_off (Ne.symm n03)).trans ((put_off (Ne.symm n02)).trans ((put_off (Ne.symm n01)).trans (put_at z0)))))).symm
    exact (h.fr t d0 d1 d2 d3 d4 d5).trans ((put_off d5).trans ((put_off d4).trans ((put_off d3).trans ((put_off d2).trans ((put_off d1).trans (put_off d0)))))).symm

end Go.Proofs.Ytgafpmgdpigliaa
