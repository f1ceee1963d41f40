/-
  Regions that draw their order, by what each operation leaves behind; the same inside a walk with a fence: an invariant over which operations have come up. No program. No statement is proved here.
-/
import Derived.Deep.Quiet
import Derived.OrdersIn
import Derived.TacticsInMore
import Derived.OwnWalkIn
namespace Go.Proofs.Ytjodhihcckcefaa
open Go

section
variable {P : Program} {ops : Array Oper} {md : Region.Mode} {Q : Exit → Act → World → Prop}
/-- Each operation waits for earlier ones alone. -/
def backB (md : Region.Mode) (ops : Array Oper) : Bool := (List.range ops.size).all fun i => match ops[i]? with
  | some o => o.after.all fun e => !Region.binds md e || decide (e.on < i)
  | none => true
theorem backB_spec (h : backB md ops = true) {i : Nat} {o : Oper} (hi : ops[i]? = some o) {e} (he : e ∈ o.after) (hb : Region.binds md e = true) : e.on < i := by
  have hl : i < ops.size := (Array.getElem?_eq_some_iff.1 hi).1
  have h1 := List.all_eq_true.1 h i (List.mem_range.2 hl)
  rw [hi] at h1
  simp only at h1
  have h2 := Array.all_eq_true'.1 h1 e he
  rw [hb] at h2
  simpa using h2
theorem getD_ft {listed : Array Bool} {j : Nat} (h : j < listed.size) (h1 : listed.getD j true = true) : listed.getD j false = true := by
  simp [h] at h1 ⊢
  exact h1
/-- Where nothing may come up, all has come up. -/
theorem all_listed (hb : backB md ops = true) {listed : Array Bool} (hs : listed.size = ops.size) (h : Region.ready md ops listed = []) : ∀ i, i < ops.size → listed.getD i true = true := by
  intro i
  induction i using Nat.strongRecOn with
  | ind i ih =>
    intro hi
    cases hl : listed.getD i true with
    | true => rfl
    | false =>
      exfalso
      have hm : i ∈ Region.ready md ops listed := mem_ready.2 ⟨hl, ops[i], Array.getElem?_eq_getElem hi, fun e he hbd => by
        have hlt := backB_spec hb (Array.getElem?_eq_getElem hi) he hbd
        exact getD_ft (by omega) (ih e.on hlt (by omega))⟩
      rw [h] at hm
      cases hm
theorem countP_lt {p q : Nat → Bool} {i : Nat} : ∀ {l : List Nat}, i ∈ l → (∀ j, q j = true → p j = true) → p i = true → q i = false → l.countP q < l.countP p
  | [], h, _, _, _ => by cases h
  | a :: l, h, h1, h2, h3 => by
    have hle : l.countP q ≤ l.countP p := List.countP_mono_left fun x _ hx => h1 x hx
    rcases List.mem_cons.1 h with rfl | h
    · rw [List.countP_cons_of_pos h2, List.countP_cons_of_neg (by simp [h3])]
      omega
    · have ih := countP_lt h h1 h2 h3
      by_cases hq : q a = true
      · rw [List.countP_cons_of_pos hq, List.countP_cons_of_pos (h1 a hq)]
        omega
      · rw [List.countP_cons_of_neg hq]
        have : l.countP p ≤ (a :: l).countP p := by
          rw [List.countP_cons]
          omega
        omega
def unl (ops : Array Oper) (listed : Array Bool) : Nat := (List.range ops.size).countP fun i => !listed.getD i true
theorem unl_set {listed : Array Bool} {i : Nat} (hi : i < ops.size) (hs : listed.size = ops.size) (h : listed.getD i true = false) : unl ops (listed.setIfInBounds i true) < unl ops listed := by
  refine countP_lt (List.mem_range.2 hi) (fun j hj => ?_) (by simp [h]) ?_
  · by_cases hij : i = j
    · subst hij
      simp [h]
    · rw [getD_set_ne true hij] at hj
      exact hj
  · have : i < listed.size := by omega
    simp [this]
/-- What holds at the beginning, and is kept by each operation that may come up, holds at the end. -/
theorem wpAny_inv {Inv : Array Bool → Act → World → Prop} (hb : backB md ops = true)
    (hstep : ∀ listed a w, listed.size = ops.size → Inv listed a w → ∀ i ∈ Region.ready md ops listed, wpOp P ops Q i (Inv (listed.setIfInBounds i true)) a w)
    (hend : ∀ listed a w, listed.size = ops.size → (∀ i, i < ops.size → listed.getD i true = true) → Inv listed a w → Q .normal a w) :
    ∀ (fuel : Nat) (listed : Array Bool) (a : Act) (w : World), listed.size = ops.size → unl ops listed ≤ fuel → Inv listed a w → wpAny P md ops Q fuel listed a w
  | 0, listed, a, w, hs, hu, h => by
    have hr : Region.ready md ops listed = [] := by
      cases hr : Region.ready md ops listed with
      | nil => rfl
      | cons i l =>
        exfalso
        have hm : i ∈ Region.ready md ops listed := by rw [hr]; exact List.mem_cons_self
        obtain ⟨h0, o, ho, _⟩ := mem_ready.1 hm
        have := unl_set (ops := ops) (Array.getElem?_eq_some_iff.1 ho).1 hs h0
        omega
    exact ⟨hr, hend _ _ _ hs (all_listed hb hs hr) h⟩
  | fuel + 1, listed, a, w, hs, hu, h => by
    refine ⟨fun hr => hend _ _ _ hs (all_listed hb hs hr) h, fun i hi => ?_⟩
    obtain ⟨h0, o, ho, _⟩ := mem_ready.1 hi
    have hlt := unl_set (ops := ops) (Array.getElem?_eq_some_iff.1 ho).1 hs h0
    exact wpOp_mono (fun a' w' h' => wpAny_inv hb hstep hend fuel _ a' w' (by simp [hs]) (by omega) h') (hstep _ _ _ hs h i hi)
theorem wp_region_inv {id : Nat} {a : Act} {w : World} {Inv : Array Bool → Act → World → Prop} (hm : P.follows .mixedOrders = true) (hb : backB .any ops = true) (h0 : Inv (Array.replicate ops.size false) a { w with drawn := w.drawn + 1 })
    (hstep : ∀ listed a w, listed.size = ops.size → Inv listed a w → ∀ i ∈ Region.ready .any ops listed, wpOp P ops Q i (Inv (listed.setIfInBounds i true)) a w)
    (hend : ∀ listed a w, listed.size = ops.size → (∀ i, i < ops.size → listed.getD i true = true) → Inv listed a w → Q .normal a w) : (Code.region id ops true).wp P Q a w :=
  wp_region_any hm (wpAny_inv hb hstep hend _ _ _ _ (by simp) (by
    have : unl ops (Array.replicate ops.size false) ≤ (List.range ops.size).length := List.countP_le_length
    simpa using this) h0)

/-! ### What each operation leaves -/
/-- What an operation leaves in its temporary. -/
def norm (o : Oper) (v : Value) : Value := match o.dst with
  | some _ => v
  | none => undef
def valOf (a : Act) (o : Oper) : Value := match o.dst with
  | some t => a.tmps.getD t undef
  | none => undef
def yieldsM (P : Program) (o : Oper) (a : Act) (w : World) (K : Value → World → Prop) : Prop := match (execOp a.eval o).run P w with
  | .ok (.value v) w' => K v w'
  | .ok .skip w' => K undef w'
  | .ok (.enter f args) w' => Calls P f args w' fun e w'' => ∃ v, e = .returned v ∧ K v w''
  | _ => False
theorem wp_of_yieldsM {o : Oper} {a : Act} {w : World} {K : Value → World → Prop} (h : yieldsM P o a w K) : o.wp P a w (fun a' w' => ∃ v, a' = a.put o.dst v ∧ K v w') Q := by
  unfold yieldsM at h
  unfold Oper.wp
  generalize (execOp a.eval o).run P w = r at *
  cases r with
  | ok n w' =>
    cases n <;> simp only at h <;> simp only [Oper.upon]
    case value v => exact ⟨v, rfl, h⟩
    case skip => exact ⟨undef, rfl, h⟩
    case enter f args =>
      refine h.mono fun e w'' he => ?_
      obtain ⟨v, rfl, hK⟩ := he
      exact ⟨v, rfl, hK⟩
  | halt x w' => simp only at h
/-- No two operations write one temporary; each temporary is there. -/
def distB (ops : Array Oper) (n : Nat) : Bool := decide (ops.toList.filterMap (·.dst)).Nodup && (ops.toList.filterMap (·.dst)).all fun t => decide (t < n)
theorem distB_lt {n : Nat} (h : distB ops n = true) {i : Nat} {o : Oper} {t : Nat} (hi : ops[i]? = some o) (ht : o.dst = some t) : t < n := by
  unfold distB at h
  rw [Bool.and_eq_true] at h
  have hm : o ∈ ops.toList := by
    have := Array.mem_of_getElem? hi
    exact Array.mem_toList_iff.2 this
  have := List.all_eq_true.1 h.2 t (List.mem_filterMap.2 ⟨o, hm, ht⟩)
  simpa using this
theorem distB_ne {n : Nat} (h : distB ops n = true) {i j : Nat} {x y : Oper} {t : Nat} (hi : ops[i]? = some x) (hj : ops[j]? = some y) (hx : x.dst = some t) (hy : y.dst = some t) : i = j := by
  unfold distB at h
  rw [Bool.and_eq_true] at h
  have hn : (ops.toList.filterMap (·.dst)).Nodup := by simpa using h.1
  rw [List.Nodup, List.pairwise_filterMap] at hn
  rw [List.pairwise_iff_getElem] at hn
  obtain ⟨hi1, hi2⟩ := Array.getElem?_eq_some_iff.1 hi
  obtain ⟨hj1, hj2⟩ := Array.getElem?_eq_some_iff.1 hj
  rcases Nat.lt_trichotomy i j with h1 | h1 | h1
  · exact absurd rfl (hn i j (by simpa using hi1) (by simpa using hj1) h1 t (by simpa [hi2] using hx) t (by simpa [hj2] using hy))
  · exact h1
  · exact absurd rfl (hn j i (by simpa using hj1) (by simpa using hi1) h1 t (by simpa [hj2] using hy) t (by simpa [hi2] using hx))
theorem valOf_put_self {n : Nat} {a : Act} {o : Oper} {v : Value} {i : Nat} (h : distB ops n = true) (hn : a.tmps.size = n) (hi : ops[i]? = some o) : valOf (a.put o.dst v) o = norm o v := by
  unfold valOf norm
  cases hd : o.dst with
  | none => rfl
  | some t =>
    have := distB_lt h hi hd
    simp [Act.put, hn, this]
theorem valOf_put_ne {n : Nat} {a : Act} {x y : Oper} {v : Value} {i j : Nat} (h : distB ops n = true) (hi : ops[i]? = some x) (hj : ops[j]? = some y) (hne : i ≠ j) : valOf (a.put x.dst v) y = valOf a y := by
  unfold valOf
  cases hy : y.dst with
  | none => rfl
  | some t =>
    cases hx : x.dst with
    | none => rfl
    | some s =>
      have hst : s ≠ t := fun e => hne (distB_ne h hi hj (e ▸ hx) hy)
      simp [Act.put, Array.getElem?_setIfInBounds_ne hst]
theorem getD_put_ne {a : Act} {o : Oper} {v : Value} {t : Nat} (h : o.dst ≠ some t) : (a.put o.dst v).tmps.getD t undef = a.tmps.getD t undef := by
  cases hd : o.dst with
  | none => rfl
  | some s =>
    have hst : s ≠ t := fun e => h (by rw [hd, e])
    simp [Act.put, Array.getElem?_setIfInBounds_ne hst]
theorem put_size (a : Act) (d : Option Tmp) (v : Value) : (a.put d v).tmps.size = a.tmps.size := by cases d <;> simp [Act.put]
theorem put_defers (a : Act) (d : Option Tmp) (v : Value) : (a.put d v).defers = a.defers := by cases d <;> rfl
/-- **Each operation leaves what it should, whenever it comes up**: then so does the region. -/
theorem wp_region_mono {id n : Nat} {a0 : Act} {w0 : World} (C : World → Prop) (R : World → World → Prop) (Φ : Nat → Value → World → Prop) (hm : P.follows .mixedOrders = true) (hb : backB .any ops = true) (hd : distB ops n = true) (hn : a0.tmps.size = n)
    (hkeep : ∀ j v w w', Φ j v w → R w w' → Φ j v w') (hC0 : C { w0 with drawn := w0.drawn + 1 })
    (hop : ∀ (i : Nat) (o : Oper), ops[i]? = some o → ∀ (a : Act) w, C w → (∀ t, (∀ (j : Nat) (o' : Oper), ops[j]? = some o' → o'.dst ≠ some t) → a.tmps.getD t undef = a0.tmps.getD t undef) → (∀ e ∈ o.after, Region.binds .any e = true → ∀ d : Oper, ops[e.on]? = some d → Φ e.on (valOf a d) w) →
      if Region.wanted o (yielded ops a.tmps) then yieldsM P o a w (fun v w' => Φ i (norm o v) w' ∧ C w' ∧ R w w') else Φ i (norm o undef) w)
    (hend : ∀ (a : Act) w, C w → a.tmps.size = n → a.defers = a0.defers → (∀ t, (∀ (j : Nat) (o' : Oper), ops[j]? = some o' → o'.dst ≠ some t) → a.tmps.getD t undef = a0.tmps.getD t undef) → (∀ (i : Nat) (o : Oper), ops[i]? = some o → Φ i (valOf a o) w) → Q .normal a w) : (Code.region id ops true).wp P Q a0 w0 := by
  refine wp_region_inv (Inv := fun listed a w => C w ∧ a.tmps.size = n ∧ a.defers = a0.defers ∧ (∀ t, (∀ (j : Nat) (o' : Oper), ops[j]? = some o' → o'.dst ≠ some t) → a.tmps.getD t undef = a0.tmps.getD t undef) ∧ ∀ (j : Nat) (o : Oper), ops[j]? = some o → listed.getD j false = true → Φ j (valOf a o) w) hm hb ?_ ?_ ?_
  · refine ⟨hC0, hn, rfl, fun _ _ => rfl, fun j o _ h => ?_⟩
    have hj : ¬ j < ops.size ∨ j < ops.size := by omega
    rcases hj with hj | hj <;> simp [hj] at h
  · intro listed a w hs ⟨hC, hz, hdf, ht, hL⟩ i hi
    obtain ⟨h0, o, ho, hall⟩ := mem_ready.1 hi
    have hil : i < listed.size := by have := (Array.getElem?_eq_some_iff.1 ho).1; omega
    have h1 := hop i o ho a w hC ht (fun e he hbd d hd' => hL e.on d hd' (hall e he hbd))
    have key : ∀ v w', C w' → Φ i (norm o v) w' → (∀ j v', Φ j v' w → Φ j v' w') → (C w' ∧ (a.put o.dst v).tmps.size = n ∧ (a.put o.dst v).defers = a0.defers ∧ (∀ t, (∀ (j : Nat) (o' : Oper), ops[j]? = some o' → o'.dst ≠ some t) → (a.put o.dst v).tmps.getD t undef = a0.tmps.getD t undef) ∧ ∀ (j : Nat) (o' : Oper), ops[j]? = some o' → (listed.setIfInBounds i true).getD j false = true → Φ j (valOf (a.put o.dst v) o') w') := fun v w' hC' hP hk => by
      refine ⟨hC', by rw [put_size]; exact hz, by rw [put_defers]; exact hdf, fun t htt => by rw [getD_put_ne (htt i o ho)]; exact ht t htt, fun j o' hj hl => ?_⟩
      by_cases hij : i = j
      · subst hij
        rw [ho] at hj
        injection hj with hj
        subst hj
        rw [valOf_put_self hd hz ho]
        exact hP
      · rw [getD_set_ne false hij] at hl
        rw [valOf_put_ne hd ho hj hij]
        exact hk _ _ (hL j o' hj hl)
    unfold wpOp
    rw [ho]
    simp only
    split
    · rename_i hw
      rw [if_pos hw] at h1
      refine Or.inl (Oper.wp_mono (fun a' w' h2 => ?_) (wp_of_yieldsM h1))
      obtain ⟨v, rfl, hP, hC', hR⟩ := h2
      exact key v w' hC' hP (fun j v' h3 => hkeep j v' w w' h3 hR)
    · rename_i hw
      rw [if_neg hw] at h1
      exact key undef w hC h1 (fun _ _ h3 => h3)
  · intro listed a w hs hl ⟨hC, hz, hdf, ht, hL⟩
    exact hend a w hC hz hdf ht (fun i o ho => hL i o ho (getD_ft (by have := (Array.getElem?_eq_some_iff.1 ho).1; omega) (hl i (Array.getElem?_eq_some_iff.1 ho).1)))
end
section
variable {P : Program} {ops : Array Oper} {md : Region.Mode} {Q : Exit → Act → World → Prop} {F : Fence} {n : Nat}
/-- No operation of the region defers. -/
def noDefer (ops : Array Oper) : Bool := ops.toList.all fun o => match o.op with | .defer _ => false | _ => true
theorem noDefer_spec {i : Nat} {o : Oper} (h : noDefer ops = true) (ho : ops[i]? = some o) : ∀ c, o.op ≠ .defer c := fun c hc => by
  unfold noDefer at h
  have := List.all_eq_true.1 h o (List.mem_of_getElem? (by simpa using ho))
  rw [hc] at this
  cases this
theorem wpAnyIn_inv {Inv : Array Bool → Act → World → Prop} (hb : backB md ops = true)
    (hstep : ∀ listed a w, listed.size = ops.size → Inv listed a w → ∀ i ∈ Region.ready md ops listed, wpOpIn F n P ops Q i (Inv (listed.setIfInBounds i true)) a w)
    (hend : ∀ listed a w, listed.size = ops.size → (∀ i, i < ops.size → listed.getD i true = true) → Inv listed a w → Q .normal a w) :
    ∀ (fuel : Nat) (listed : Array Bool) (a : Act) (w : World), listed.size = ops.size → unl ops listed ≤ fuel → Inv listed a w → wpAnyIn F n P md ops Q fuel listed a w
  | 0, listed, a, w, hs, hu, h => by
    have hr : Region.ready md ops listed = [] := by
      cases hr : Region.ready md ops listed with
      | nil => rfl
      | cons i l =>
        exfalso
        have hm : i ∈ Region.ready md ops listed := by rw [hr]; exact List.mem_cons_self
        obtain ⟨h0, o, ho, _⟩ := mem_ready.1 hm
        have := unl_set (ops := ops) (Array.getElem?_eq_some_iff.1 ho).1 hs h0
        omega
    exact ⟨hr, hend _ _ _ hs (all_listed hb hs hr) h⟩
  | fuel + 1, listed, a, w, hs, hu, h => by
    refine ⟨fun hr => hend _ _ _ hs (all_listed hb hs hr) h, fun i hi => ?_⟩
    obtain ⟨h0, o, ho, _⟩ := mem_ready.1 hi
    have hlt := unl_set (ops := ops) (Array.getElem?_eq_some_iff.1 ho).1 hs h0
    exact wpOpIn_mono (fun a' w' h' => wpAnyIn_inv hb hstep hend fuel _ a' w' (by simp [hs]) (by omega) h') (hstep _ _ _ hs h i hi)
/-- What holds at the beginning, and is kept by each operation that may come up, holds at the end. -/
theorem wpIn_region_inv {id : Nat} {a : Act} {w : World} (Inv : Array Bool → Act → World → Prop) (hm : P.follows .mixedOrders = true) (hb : backB .any ops = true) (h0 : Inv (Array.replicate ops.size false) a w.drew)
    (hstep : ∀ listed a w, listed.size = ops.size → Inv listed a w → ∀ i ∈ Region.ready .any ops listed, wpOpIn F n P ops Q i (Inv (listed.setIfInBounds i true)) a w)
    (hend : ∀ listed a w, listed.size = ops.size → (∀ i, i < ops.size → listed.getD i true = true) → Inv listed a w → Q .normal a w) : (Code.region id ops true).wpIn F n P Q a w :=
  wpIn_region_any hm (wpAnyIn_inv hb hstep hend _ _ _ _ (by simp) (by
    have : unl ops (Array.replicate ops.size false) ≤ (List.range ops.size).length := List.countP_le_length
    simpa using this) h0)
/-- A fence that lets all calls through. -/
structure Open (P : Program) (F : Fence) : Prop where
  fn : ∀ f, F.fn f
  depth : F.depth = none
  calls : ∀ (n : Nat) (f : FuncId) (args : Array Value) (w : World) (R : Ending → World → Prop), Calls P f args w R → CallsIn F n P f args w R
theorem Open.wide : Open P Fence.wide := ⟨fun _ => trivial, rfl, fun _ _ _ _ _ h => callsIn_wide.2 h⟩
theorem Open.round (l : Nat) : Open P (Fence.wide.inRound l) := ⟨fun _ => trivial, rfl, fun n _ _ _ _ h => (callsIn_wide (n := n)).2 h⟩
theorem wpOpIn_yields (hF : Open P F) (hnd : noDefer ops = true) {i : Nat} {o : Oper} {K : Act → World → Prop} {a : Act} {w : World} (ho : ops[i]? = some o) (hg : o.guard = none) (h : yieldsM P o a w fun v w' => K (a.put o.dst v) w') : wpOpIn F n P ops Q i K a w := by
  unfold wpOpIn
  rw [ho]
  simp only
  rw [if_pos (by simp [Region.wanted, hg])]
  unfold Oper.wpIn
  refine ⟨fun f _ => hF.fn f, ?_⟩
  rw [Oper.semAt_plain _ _ _ (noDefer_spec hnd ho)]
  unfold yieldsM at h
  generalize (execOp a.eval o).run P w = r at *
  cases r with
  | ok x w' =>
    cases x <;> simp only at h <;> simp only [Oper.uponIn]
    case value v => exact h
    case skip => exact h
    case enter f args =>
      refine ⟨fun h9 => by rw [hF.depth] at h9; simp at h9, (hF.calls _ _ _ _ _ h).mono ?_⟩
      rintro e w'' ⟨v, rfl, hK⟩
      exact hK
  | halt x w' => simp only at h
theorem wpOpIn_round (hF : Open P F) (hnd : noDefer ops = true) {i : Nat} {o : Oper} {K : Act → World → Prop} {a : Act} {w w' : World} {l : Nat} {f : FuncId} {tmps : Array Value} {assign body : Code} (ho : ops[i]? = some o) (hg : o.guard = none) (hr : (execOp a.eval o).run P w = .ok (.round l f tmps assign body) w')
    (h : RoundIn F (n - 1) P l f tmps assign body w' fun e w'' => ∃ v, e = .returned v ∧ K (a.put o.dst v) w'') : wpOpIn F n P ops Q i K a w := by
  unfold wpOpIn
  rw [ho]
  simp only
  rw [if_pos (by simp [Region.wanted, hg])]
  unfold Oper.wpIn
  refine ⟨fun f _ => hF.fn f, ?_⟩
  rw [Oper.semAt_plain _ _ _ (noDefer_spec hnd ho), hr]
  refine ⟨fun h9 => by rw [hF.depth] at h9; simp at h9, h.mono ?_⟩
  rintro e w'' ⟨v, rfl, hK⟩
  exact hK
/-- What may come up next, and what it waits for. -/
theorem ready_dep {listed : Array Bool} {i : Nat} (h : i ∈ Region.ready md ops listed) {o : Oper} (ho : ops[i]? = some o) {j : Nat} (hj : (o.after.toList.any fun e => Region.binds md e && e.on == j) = true) : listed.getD j false = true := by
  obtain ⟨_, o', ho', hall⟩ := mem_ready.1 h
  rw [ho] at ho'
  injection ho' with ho'
  subst ho'
  obtain ⟨e, he, h1⟩ := List.any_eq_true.1 hj
  have he := Array.mem_toList_iff.1 he
  rw [Bool.and_eq_true] at h1
  have h2 : e.on = j := by simpa using h1.2
  subst h2
  exact hall e he h1.1
end
end Go.Proofs.Ytjodhihcckcefaa
