/-
  Several texts in one: MonL, BoxR. No statement is proved here.
-/
import Derived.Test.YtgafpmgdpigliaaTwZ
namespace Go.Proofs.Ytgafpmgdpigliaa
open Go.RowKit
open Mc (Ed Ma)

/-- What an operation leaves: kept by all that comes later. -/
structure KP where
  p : Value → World → Prop
  k : ∀ v w w', p v w → Below w.heap.size w w' → p v w'
def kv (x : Value) : KP := ⟨fun v _ => v = x, fun _ _ _ h _ => h⟩
def kRow (l : List Ed) : KP := ⟨fun v w => ∃ A : Addr, v = .slice (some A) l.length l.length ∧ RdP w (some A) l, fun _ _ _ h hb => by obtain ⟨A, h1, h2⟩ := h; exact ⟨A, h1, h2.below hb⟩⟩
def kRows (rs : List (List Ed)) : KP := ⟨fun v w => ∃ A : Addr, v = .slice (some A) rs.length rs.length ∧ RdR w (some A) rs, fun _ _ _ h hb => by obtain ⟨A, h1, h2⟩ := h; exact ⟨A, h1, h2.below hb⟩⟩
def kMach (i o : Int) (rs : List (List Ed)) : KP := ⟨fun v w => ∃ A : Addr, v = .agg #[.int .i64 i, .int .i64 o, .slice (some A) rs.length rs.length] ∧ RdR w (some A) rs, fun _ _ _ h hb => by obtain ⟨A, h1, h2⟩ := h; exact ⟨A, h1, h2.below hb⟩⟩
def dv (ds : List (Option Tmp)) (tm : Array Value) (j : Nat) : Value := match ds[j]? with
  | some (some t) => tm.getD t undef
  | _ => undef
section
variable {P : Program} {W : World} {ds : List (Option Tmp)} {T0 : Tmp → Value} {PH : List KP}
/-- What an operation must leave, given what those that it waits for have left. -/
def Hop (P : Program) (W : World) (ds : List (Option Tmp)) (T0 : Tmp → Value) (PH : List KP) (i : Nat) (o : Oper) : Prop :=
  ∀ (a : Act) (w : World), Below W.heap.size W w → (∀ t, ds.contains (some t) = false → a.tmps.getD t undef = T0 t) → (∀ e ∈ o.after, Region.binds .any e = true → ∀ K, PH[e.on]? = some K → K.p (dv ds a.tmps e.on) w) →
    yieldsM P o a w fun v w' => (∀ K, PH[i]? = some K → K.p (norm o v) w') ∧ Below w.heap.size w w'
def GuardK (ds : List (Option Tmp)) (PH : List KP) (o : Oper) : Prop := o.guard = none ∨ ∃ g t, o.guard = some (g, true) ∧ PH[g]? = some (kv (.bool true)) ∧ ds[g]? = some (some t) ∧ (o.after.toList.any fun e => Region.binds .any e && e.on == g) = true
def HopAll (P : Program) (W : World) (ds : List (Option Tmp)) (T0 : Tmp → Value) (PH : List KP) : Nat → List Oper → Prop
  | _, [] => True
  | i, o :: l => (Hop P W ds T0 PH i o ∧ GuardK ds PH o) ∧ HopAll P W ds T0 PH (i + 1) l
theorem HopAll.at_ : ∀ {l : List Oper} {i k : Nat} {o : Oper}, HopAll P W ds T0 PH i l → l[k]? = some o → Hop P W ds T0 PH (i + k) o ∧ GuardK ds PH o
  | [], _, _, _, _, h => by simp at h
  | _ :: l, i, 0, _, h, hk => by
    simp at hk
    subst hk
    exact h.1
  | _ :: l, i, k + 1, o, h, hk => by
    have h1 := HopAll.at_ (k := k) (o := o) h.2 (by simpa using hk)
    rwa [show i + 1 + k = i + (k + 1) by omega] at h1
theorem yieldsM_mono {o : Oper} {a : Act} {w : World} {K K' : Value → World → Prop} (h : yieldsM P o a w K) (hk : ∀ v w', K v w' → K' v w') : yieldsM P o a w K' := by
  unfold yieldsM at h ⊢
  generalize (execOp a.eval o).run P w = r at *
  cases r with
  | ok n w' =>
    cases n <;> simp only at h ⊢
    case value v => exact hk _ _ h
    case skip => exact hk _ _ h
    case enter f args =>
      refine h.mono fun e w'' he => ?_
      obtain ⟨v, rfl, hK⟩ := he
      exact ⟨v, rfl, hk _ _ hK⟩
  | halt x w' => simp only at h
theorem dst_at {ops : Array Oper} (hds : ops.toList.map (·.dst) = ds) {i : Nat} {o : Oper} (h : ops[i]? = some o) : ds[i]? = some o.dst := by
  subst hds
  rw [List.getElem?_map, Array.getElem?_toList, h]
  rfl
theorem valOf_dv {ops : Array Oper} (hds : ops.toList.map (·.dst) = ds) {i : Nat} {o : Oper} (h : ops[i]? = some o) (a : Act) : valOf a o = dv ds a.tmps i := by
  unfold valOf dv
  rw [dst_at hds h]
  cases o.dst <;> rfl
theorem not_dst {ops : Array Oper} (hds : ops.toList.map (·.dst) = ds) {t : Tmp} (h : ds.contains (some t) = false) : ∀ (j : Nat) (o' : Oper), ops[j]? = some o' → o'.dst ≠ some t := by
  intro j o' hj e
  have h1 := dst_at hds hj
  have h2 : some t ∈ ds := by rw [← e]; exact List.mem_of_getElem? h1
  rw [← List.elem_eq_contains, List.elem_eq_mem] at h
  simp [h2] at h
/-- **A region told by a list.** -/
theorem region_hops {ops : Array Oper} {Q : Exit → Act → World → Prop} {id n : Nat} {a0 : Act} (ds : List (Option Tmp)) (PH : List KP) (hds : ops.toList.map (·.dst) = ds) (hm : P.follows .mixedOrders = true) (hb : backB .any ops = true) (hd : distB ops n = true) (hn : a0.tmps.size = n) (hT : ∀ t, T0 t = a0.tmps.getD t undef)
    (hh : HopAll P W ds T0 PH 0 ops.toList)
    (hend : ∀ (a : Act) w, Below W.heap.size W w → a.tmps.size = n → a.defers = a0.defers → (∀ t, ds.contains (some t) = false → a.tmps.getD t undef = T0 t) → (∀ (i : Nat) d K, ds[i]? = some d → PH[i]? = some K → K.p (dv ds a.tmps i) w) → Q .normal a w) : (Code.region id ops true).wp P Q a0 W := by
  have hfr : ∀ a : Act, (∀ t, (∀ (j : Nat) (o' : Oper), ops[j]? = some o' → o'.dst ≠ some t) → a.tmps.getD t undef = a0.tmps.getD t undef) → ∀ t, ds.contains (some t) = false → a.tmps.getD t undef = T0 t := fun a hf t ht => by
    rw [hf t (not_dst hds ht), hT]
  refine wp_region_mono (fun w => Below W.heap.size W w) (fun w w' => Below w.heap.size w w') (fun i v w => ∀ K, PH[i]? = some K → K.p v w) hm hb hd hn ?_ (Below.refl _ _).drew ?_ ?_
  · exact fun j v w w' h hr K hK => K.k v w w' (h K hK) hr
  · intro i o ho a w hC hf hdep
    have hl := HopAll.at_ (i := 0) (k := i) (o := o) hh (by rw [Array.getElem?_toList]; exact ho)
    rw [Nat.zero_add] at hl
    obtain ⟨h1, hg⟩ := hl
    have hdep' : ∀ e ∈ o.after, Region.binds .any e = true → ∀ K, PH[e.on]? = some K → K.p (dv ds a.tmps e.on) w := fun e he hbd K hK => by
      have hlt := backB_spec hb ho he hbd
      have hi : i < ops.size := (Array.getElem?_eq_some_iff.1 ho).1
      have hd' : ops[e.on]? = some ops[e.on] := Array.getElem?_eq_getElem (by omega)
      have := hdep e he hbd _ hd' K hK
      rwa [valOf_dv hds hd'] at this
    have hw : Region.wanted o (yielded ops a.tmps) = true := by
      rcases hg with hg | ⟨g, t, hg, hp, hdg, hany⟩
      · simp [Region.wanted, hg]
      · obtain ⟨e, he, h3⟩ := List.any_eq_true.1 hany
        have he := Array.mem_toList_iff.1 he
        rw [Bool.and_eq_true] at h3
        have h4 : e.on = g := by simpa using h3.2
        subst h4
        have h5 := hdep' e he h3.1 _ hp
        have h6 : a.tmps.getD t undef = .bool true := by
          unfold dv at h5
          rw [hdg] at h5
          exact h5
        have hlt := backB_spec hb ho he h3.1
        have hi : i < ops.size := (Array.getElem?_eq_some_iff.1 ho).1
        have hd' : ops[e.on]? = some ops[e.on] := Array.getElem?_eq_getElem (by omega)
        have h7 := dst_at hds hd'
        rw [hdg] at h7
        injection h7 with h7
        have h8 : a.tmps[t]? = some (.bool true) := by
          by_cases ht : t < a.tmps.size
          · simp [ht] at h6 ⊢
            exact h6
          · exfalso
            rw [show a.tmps.getD t undef = undef by simp [ht]] at h6
            cases h6
        simp [Region.wanted, hg, yielded, hd', ← h7, h8]
    rw [if_pos hw]
    exact yieldsM_mono (h1 a w hC (hfr a hf) hdep') fun v w' h => ⟨h.1, below_next hC h.2, h.2⟩
  · intro a w hC hsz hdf hf hall
    refine hend a w hC hsz hdf (hfr a hf) fun i d K hd' hK => ?_
    have hil : i < ops.size := by
      have h1 := (List.getElem?_eq_some_iff.1 hd').1
      rw [← hds] at h1
      simpa using h1
    have ho : ops[i]? = some ops[i] := Array.getElem?_eq_getElem hil
    have := hall i _ ho K hK
    rwa [valOf_dv hds ho] at this

/-! ### The kinds of operations -/
variable {i : Nat} {o : Oper} {t : Tmp}
def needK (o : Oper) (j : Nat) : Bool := o.after.toList.any fun e => Region.binds .any e && e.on == j
theorem needK_at {a : Act} {w : World} {j : Nat} (hn : needK o j = true) (hdep : ∀ e ∈ o.after, Region.binds .any e = true → ∀ K, PH[e.on]? = some K → K.p (dv ds a.tmps e.on) w) {K : KP} (hK : PH[j]? = some K) {s : Tmp} (hs : ds[j]? = some (some s)) : K.p (a.tmps.getD s undef) w := by
  obtain ⟨e, he, h1⟩ := List.any_eq_true.1 hn
  have he := Array.mem_toList_iff.1 he
  rw [Bool.and_eq_true] at h1
  have h2 : e.on = j := by simpa using h1.2
  subst h2
  have := hdep e he h1.1 K hK
  unfold dv at this
  rw [hs] at this
  exact this
theorem leaves {v : Value} {w' : World} {K : KP} (hd : o.dst = some t) (hK : PH[i]? = some K) (h : K.p v w') : ∀ K', PH[i]? = some K' → K'.p (norm o v) w' := fun K' h' => by
  rw [hK] at h'
  injection h' with h'
  subst h'
  unfold norm
  rw [hd]
  exact h
theorem hop_load {s g n c : Nat} {x y : Int} {A : Option Addr} (h : o.op = .load 24 (.tmp s)) (hs : ds.contains (some s) = false) (hT : T0 s = .pointer (some ⟨g, 0, none⟩)) (hB : BxM W g x y A n c) (hd : o.dst = some t) (hK : PH[i]? = some (kv (.agg #[.int .i64 x, .int .i64 y, .slice A n c]))) : Hop Try.prog W ds T0 PH i o := fun a w hC hf hdep =>
  yieldsM_mono (load_yields h ((hf s hs).trans hT) (hB.mvB hC)) fun v w' hv => by
    obtain ⟨rfl, rfl⟩ := hv
    exact ⟨leaves hd hK rfl, Below.refl _ _⟩
theorem hop_outer {s : Tmp} {x : Value} (h : o.op = .move (.tmp s)) (hs : ds.contains (some s) = false) (hT : T0 s = x) (hd : o.dst = some t) (hK : PH[i]? = some (kv x)) : Hop Try.prog W ds T0 PH i o := fun a w hC hf hdep => by
  have h1 : a.tmps.getD s undef = x := (hf s hs).trans hT
  obtain ⟨dst, op, type, pos, after, guard⟩ := o
  simp only at h
  subst h
  have h2 : a.tmps[s]?.getD undef = x := by simpa using h1
  unfold yieldsM
  simp [execOp, go_sem, h2]
  exact ⟨leaves hd hK rfl, Below.refl _ _⟩
theorem hop_move {s : Tmp} {j : Nat} {x : Value} (h : o.op = .move (.tmp s) ∨ o.op = .assign (.tmp s)) (hn : needK o j = true) (hj : ds[j]? = some (some s)) (hJ : PH[j]? = some (kv x)) (hd : o.dst = some t) (hK : PH[i]? = some (kv x)) : Hop Try.prog W ds T0 PH i o := fun a w hC hf hdep => by
  have h1 : a.tmps.getD s undef = x := needK_at hn hdep hJ hj
  obtain ⟨dst, op, type, pos, after, guard⟩ := o
  simp only at h
  have h2 : a.tmps[s]?.getD undef = x := by simpa using h1
  rcases h with rfl | rfl
  all_goals
    unfold yieldsM
    simp [execOp, go_sem, h2]
    exact ⟨leaves hd hK rfl, Below.refl _ _⟩
theorem hop_pick {s u : Tmp} {j k : Nat} (h : o.op = .pick (.tmp s) (.tmp u) (.const (.bool false))) (hn : needK o j = true) (hj : ds[j]? = some (some s)) (hJ : PH[j]? = some (kv (.bool true))) (hn2 : needK o k = true) (hk : ds[k]? = some (some u)) (hJ2 : PH[k]? = some (kv (.bool true))) (hd : o.dst = some t) (hK : PH[i]? = some (kv (.bool true))) : Hop Try.prog W ds T0 PH i o := fun a w hC hf hdep => by
  have h1 : a.tmps.getD s undef = .bool true := needK_at hn hdep hJ hj
  have h2 : a.tmps.getD u undef = .bool true := needK_at hn2 hdep hJ2 hk
  obtain ⟨dst, op, type, pos, after, guard⟩ := o
  simp only at h
  subst h
  have h3 : a.tmps[s]?.getD undef = .bool true := by simpa using h1
  have h4 : a.tmps[u]?.getD undef = .bool true := by simpa using h2
  unfold yieldsM
  simp [execOp, go_sem, h3, h4]
  exact ⟨leaves hd hK rfl, Below.refl _ _⟩
end
end Go.Proofs.Ytgafpmgdpigliaa

namespace Go.Proofs.Ytgafpmgdpigliaa
open Go.RowKit

/-- Nothing changes but blocks of some types. -/
def RB (Ts : List TypeId) (w w' : World) : Prop := w.heap.size ≤ w'.heap.size ∧ ∀ b : Nat, b < w.heap.size → w'.heap[b]? = w.heap[b]? ∨ ∃ (T : TypeId) (cs cs' : Array Value) (fr : Nat × Nat), T ∈ Ts ∧ w.heap[b]? = some (.cells cs T fr) ∧ w'.heap[b]? = some (.cells cs' T fr)
theorem RB.of_below {Ts : List TypeId} {w w' : World} (h : Below w.heap.size w w') : RB Ts w w' := ⟨h.size, fun b hb => Or.inl (h.block b hb)⟩
/-- A block of another type stays. -/
theorem RB.block {Ts : List TypeId} {w w' : World} (h : RB Ts w w') {b : Nat} {cs : Array Value} {T : TypeId} {fr : Nat × Nat} (hb : w.heap[b]? = some (.cells cs T fr)) (hT : T ∉ Ts) : w'.heap[b]? = some (.cells cs T fr) := by
  rcases h.2 b (heap_lt hb) with h1 | ⟨T', cs', _, fr', h1, h2, _⟩
  · exact h1.trans hb
  · rw [hb] at h2
    injection h2 with h2
    injection h2 with _ h2 _
    exact absurd (h2 ▸ h1) hT
/-- What an operation leaves. -/
structure KX (Ts : List TypeId) where
  p : Value → World → Prop
  k : ∀ v w w', p v w → RB Ts w w' → p v w'
def kx {Ts : List TypeId} (x : Value) : KX Ts := ⟨fun v _ => v = x, fun _ _ _ h _ => h⟩
/-- What an operation does: it leaves a value; it makes a block, into which perhaps operation s stores; it stores operation k's value into operation j's block. -/
inductive NK (Ts : List TypeId) where
  | hop (K : KX Ts)
  | new (ob : Obj) (val : Nat → Value) (s : Option Nat)
  | st (j k : Nat) (T : TypeId) (fl : Value → Array Value)
section
variable {P : Program} {W : World} {ds : List (Option Tmp)} {T0 : Tmp → Value} {Ts : List TypeId} {KS : List (NK Ts)}
/-- What is known of the operations that an operation waits for. -/
structure DepX (W : World) (ds : List (Option Tmp)) (KS : List (NK Ts)) (o : Oper) (tm : Array Value) (w : World) (adr : Nat → Nat) : Prop where
  hop : ∀ (j : Nat) (K : KX Ts), needK o j = true → KS[j]? = some (.hop K) → K.p (dv ds tm j) w
  new : ∀ (j : Nat) (ob : Obj) (val : Nat → Value) (s : Option Nat), needK o j = true → KS[j]? = some (.new ob val s) → dv ds tm j = val (adr j) ∧ W.heap.size ≤ adr j ∧ adr j < w.heap.size ∧ (s = none → w.heap[adr j]? = some ob)
  inj : ∀ (j j' : Nat) (ob ob' : Obj) (val val' : Nat → Value) (s s' : Option Nat), needK o j = true → needK o j' = true → KS[j]? = some (.new ob val s) → KS[j']? = some (.new ob' val' s') → j ≠ j' → adr j ≠ adr j'
theorem DepX.at_ {o : Oper} {tm : Array Value} {w : World} {adr : Nat → Nat} (h : DepX W ds KS o tm w adr) {j : Nat} {K : KX Ts} {s : Tmp} (hn : needK o j = true) (hK : KS[j]? = some (.hop K)) (hs : ds[j]? = some (some s)) : K.p (tm.getD s undef) w := by
  have := h.hop j K hn hK
  unfold dv at this
  rw [hs] at this
  exact this
def Bop (P : Program) (W : World) (ds : List (Option Tmp)) (T0 : Tmp → Value) (KS : List (NK Ts)) (i : Nat) (o : Oper) : Prop :=
  o.guard = none ∧ match KS[i]? with
  | some (.hop K) => ∀ (a : Act) (w : World) (adr : Nat → Nat), Below W.heap.size W w → (∀ t, ds.contains (some t) = false → a.tmps.getD t undef = T0 t) → DepX W ds KS o a.tmps w adr → yieldsM P o a w fun v w' => K.p (norm o v) w' ∧ Below w.heap.size w w'
  | some (.new ob val _) => ∀ (a : Act) (w : World) (adr : Nat → Nat), Below W.heap.size W w → (∀ t, ds.contains (some t) = false → a.tmps.getD t undef = T0 t) → DepX W ds KS o a.tmps w adr → yieldsM P o a w fun v w' => norm o v = val w.heap.size ∧ w' = w.alloc ob
  | some (.st j k T fl) => o.dst = none ∧ ∃ (cs : Array Value) (val : Nat → Value) (K : KX Ts), KS[j]? = some (.new (.cells cs T (0, 0)) val (some i)) ∧ KS[k]? = some (.hop K) ∧ T ∈ Ts ∧ needK o j = true ∧ needK o k = true ∧ ∀ (a : Act) (w : World) (G : Nat), Below W.heap.size W w → dv ds a.tmps j = val G → W.heap.size ≤ G → w.heap[G]? = some (.cells cs T (0, 0)) → K.p (dv ds a.tmps k) w → yieldsM P o a w fun _ w' => Below W.heap.size W w' ∧ w'.heap.size = w.heap.size ∧ w'.heap[G]? = some (.cells (fl (dv ds a.tmps k)) T (0, 0)) ∧ ∀ b : Nat, b ≠ G → w'.heap[b]? = w.heap[b]?
  | none => False
def BopAll (P : Program) (W : World) (ds : List (Option Tmp)) (T0 : Tmp → Value) (KS : List (NK Ts)) : Nat → List Oper → Prop
  | _, [] => True
  | i, o :: l => Bop P W ds T0 KS i o ∧ BopAll P W ds T0 KS (i + 1) l
theorem BopAll.at_ : ∀ {l : List Oper} {i k : Nat} {o : Oper}, BopAll P W ds T0 KS i l → l[k]? = some o → Bop P W ds T0 KS (i + k) o
  | [], _, _, _, _, h => by simp at h
  | _ :: l, i, 0, _, h, hk => by
    simp at hk
    subst hk
    exact h.1
  | _ :: l, i, k + 1, o, h, hk => by
    have h1 := BopAll.at_ (k := k) (o := o) h.2 (by simpa using hk)
    rwa [show i + 1 + k = i + (k + 1) by omega] at h1
/-- What is known when the operations of L have come up. -/
structure BxI (W : World) (ds : List (Option Tmp)) (KS : List (NK Ts)) (a0 : Act) (L : Nat → Bool) (a : Act) (w : World) (adr : Nat → Nat) : Prop where
  bel : Below W.heap.size W w
  sz : a.tmps.size = a0.tmps.size
  df : a.defers = a0.defers
  fr : ∀ t, ds.contains (some t) = false → a.tmps.getD t undef = a0.tmps.getD t undef
  hop : ∀ (i : Nat) (K : KX Ts), KS[i]? = some (.hop K) → L i = true → K.p (dv ds a.tmps i) w
  new : ∀ (i : Nat) (ob : Obj) (val : Nat → Value) (s : Option Nat), KS[i]? = some (.new ob val s) → L i = true → dv ds a.tmps i = val (adr i) ∧ W.heap.size ≤ adr i ∧ adr i < w.heap.size ∧ ((∀ s', s = some s' → L s' = false) → w.heap[adr i]? = some ob)
  inj : ∀ (i i' : Nat) (ob ob' : Obj) (val val' : Nat → Value) (s s' : Option Nat), KS[i]? = some (.new ob val s) → KS[i']? = some (.new ob' val' s') → L i = true → L i' = true → i ≠ i' → adr i ≠ adr i'
  st : ∀ (s j k : Nat) (T : TypeId) (fl : Value → Array Value), KS[s]? = some (.st j k T fl) → L s = true → L j = true ∧ L k = true ∧ w.heap[adr j]? = some (.cells (fl (dv ds a.tmps k)) T (0, 0))
theorem upd_ne {L : Nat → Bool} {i j : Nat} (h : i ≠ j) : upd L i j = L j := by
  have : Nat.beq i j = false := by
    cases hb : Nat.beq i j with
    | false => rfl
    | true => exact absurd (Nat.eq_of_beq_eq_true hb) h
  simp [upd, this]
theorem upd_self {L : Nat → Bool} {i : Nat} : upd L i i = true := by simp [upd]
theorem upd_no {L : Nat → Bool} {i j : Nat} (h : upd L i j = false) : L j = false := by
  simp [upd] at h
  exact h.2
section
variable {a0 a : Act} {L : Nat → Bool} {w w' : World} {adr : Nat → Nat} {ops : Array Oper} {n i : Nat} {o : Oper} {v : Value}
theorem BxI.to (h : BxI W ds KS a0 L a w adr) (hb : Below w.heap.size w w') : BxI W ds KS a0 L a w' adr :=
  ⟨below_next h.bel hb, h.sz, h.df, h.fr, fun i K hK hl => K.k _ _ _ (h.hop i K hK hl) (RB.of_below hb),
   fun i ob val s hK hl => by
    obtain ⟨e1, e2, e3, e4⟩ := h.new i ob val s hK hl
    exact ⟨e1, e2, by have := hb.size; omega, fun hs => (hb.block _ e3).trans (e4 hs)⟩,
   h.inj, fun s j k T fl hK hl => by
    obtain ⟨l1, l2, e⟩ := h.st s j k T fl hK hl
    exact ⟨l1, l2, (hb.block _ (heap_lt e)).trans e⟩⟩
theorem dv_put_self (hds : ops.toList.map (·.dst) = ds) (hd : distB ops n = true) (hn : a.tmps.size = n) (hi : ops[i]? = some o) : dv ds (a.put o.dst v).tmps i = norm o v := by
  rw [← valOf_dv hds hi, valOf_put_self hd hn hi]
theorem dv_put_ne {j : Nat} (hds : ops.toList.map (·.dst) = ds) (hd : distB ops n = true) (hi : ops[i]? = some o) (hne : i ≠ j) : dv ds (a.put o.dst v).tmps j = dv ds a.tmps j := by
  by_cases hj : j < ops.size
  · have hj' : ops[j]? = some ops[j] := Array.getElem?_eq_getElem hj
    rw [← valOf_dv hds hj', ← valOf_dv hds hj', valOf_put_ne hd hi hj' hne]
  · have hn : ds[j]? = none := by
      rw [← hds]
      exact List.getElem?_eq_none (by simp; omega)
    unfold dv
    rw [hn]
theorem BxI.put_hop (h : BxI W ds KS a0 L a w adr) (hds : ops.toList.map (·.dst) = ds) (hd : distB ops n = true) (hn : a.tmps.size = n) (hi : ops[i]? = some o) (hL : L i = false) {K : KX Ts} (hK : KS[i]? = some (.hop K)) (hp : K.p (norm o v) w) : BxI W ds KS a0 (upd L i) (a.put o.dst v) w adr := by
  refine ⟨h.bel, by rw [put_size]; exact h.sz, by rw [put_defers]; exact h.df, fun t ht => (getD_put_ne (not_dst hds ht i o hi)).trans (h.fr t ht), ?_, ?_, ?_, ?_⟩
  · intro j K' hK' hl
    by_cases hij : i = j
    · subst hij
      rw [hK] at hK'
      injection hK' with hK'
      injection hK' with hK'
      subst hK'
      rw [dv_put_self hds hd hn hi]
      exact hp
    · rw [upd_ne hij] at hl
      rw [dv_put_ne hds hd hi hij]
      exact h.hop j K' hK' hl
  · intro j ob val s hK' hl
    have hij : i ≠ j := fun e => by subst e; rw [hK] at hK'; injection hK' with hK'; cases hK'
    rw [upd_ne hij] at hl
    obtain ⟨e1, e2, e3, e4⟩ := h.new j ob val s hK' hl
    exact ⟨(dv_put_ne hds hd hi hij).trans e1, e2, e3, fun hs => e4 fun s' hs' => upd_no (hs s' hs')⟩
  · intro j j' ob ob' val val' s s' h1 h2 l1 l2 hne
    have n1 : i ≠ j := fun e => by subst e; rw [hK] at h1; injection h1 with h1; cases h1
    have n2 : i ≠ j' := fun e => by subst e; rw [hK] at h2; injection h2 with h2; cases h2
    rw [upd_ne n1] at l1
    rw [upd_ne n2] at l2
    exact h.inj j j' ob ob' val val' s s' h1 h2 l1 l2 hne
  · intro s j k T fl hS hl
    have n1 : i ≠ s := fun e => by subst e; rw [hK] at hS; injection hS with hS; cases hS
    rw [upd_ne n1] at hl
    obtain ⟨l1, l2, e⟩ := h.st s j k T fl hS hl
    have n2 : i ≠ k := fun e => by subst e; rw [hL] at l2; cases l2
    exact ⟨up_ l1, up_ l2, by rw [dv_put_ne hds hd hi n2]; exact e⟩
theorem BxI.put_new (h : BxI W ds KS a0 L a w adr) (hds : ops.toList.map (·.dst) = ds) (hd : distB ops n = true) (hn : a.tmps.size = n) (hi : ops[i]? = some o) (hL : L i = false) {ob : Obj} {val : Nat → Value} {s : Option Nat} (hK : KS[i]? = some (.new ob val s)) (hp : norm o v = val w.heap.size) : BxI W ds KS a0 (upd L i) (a.put o.dst v) (w.alloc ob) (fun j => if j = i then w.heap.size else adr j) := by
  have hb : Below w.heap.size w (w.alloc ob) := (Below.refl _ _).alloc (Nat.le_refl _) ob
  have h' := h.to hb
  refine ⟨h'.bel, by rw [put_size]; exact h.sz, by rw [put_defers]; exact h.df, fun t ht => (getD_put_ne (not_dst hds ht i o hi)).trans (h.fr t ht), ?_, ?_, ?_, ?_⟩
  · intro j K' hK' hl
    have hij : i ≠ j := fun e => by subst e; rw [hK] at hK'; injection hK' with hK'; cases hK'
    rw [upd_ne hij] at hl
    rw [dv_put_ne hds hd hi hij]
    exact h'.hop j K' hK' hl
  · intro j ob' val' s' hK' hl
    by_cases hij : i = j
    · subst hij
      rw [hK] at hK'
      injection hK' with hK'
      injection hK' with e1 e2 e3
      subst e1 e2 e3
      rw [dv_put_self hds hd hn hi]
      simp only [if_true]
      exact ⟨hp, h.bel.size, by simp, fun _ => heap_alloc_new w ob⟩
    · rw [upd_ne hij] at hl
      obtain ⟨e1, e2, e3, e4⟩ := h'.new j ob' val' s' hK' hl
      rw [if_neg (Ne.symm hij)]
      exact ⟨(dv_put_ne hds hd hi hij).trans e1, e2, e3, fun hs => e4 fun s' hs' => upd_no (hs s' hs')⟩
  · intro j j' ob' ob'' val' val'' s' s'' h1 h2 l1 l2 hne
    by_cases n1 : i = j
    · subst n1
      have n2 : i ≠ j' := hne
      rw [upd_ne n2] at l2
      have := (h.new j' _ _ _ h2 l2).2.2.1
      rw [if_pos rfl, if_neg (Ne.symm n2)]
      omega
    · rw [upd_ne n1] at l1
      by_cases n2 : i = j'
      · subst n2
        have := (h.new j _ _ _ h1 l1).2.2.1
        rw [if_pos rfl, if_neg (Ne.symm n1)]
        omega
      · rw [upd_ne n2] at l2
        rw [if_neg (Ne.symm n1), if_neg (Ne.symm n2)]
        exact h.inj j j' _ _ _ _ _ _ h1 h2 l1 l2 hne
  · intro s' j k T fl hS hl
    have n1 : i ≠ s' := fun e => by subst e; rw [hK] at hS; injection hS with hS; cases hS
    rw [upd_ne n1] at hl
    obtain ⟨l1, l2, e⟩ := h'.st s' j k T fl hS hl
    have n2 : i ≠ k := fun e => by subst e; rw [hL] at l2; cases l2
    have n3 : i ≠ j := fun e => by subst e; rw [hL] at l1; cases l1
    exact ⟨up_ l1, up_ l2, by rw [if_neg (Ne.symm n3), dv_put_ne hds hd hi n2]; exact e⟩
theorem BxI.put_st (h : BxI W ds KS a0 L a w adr) (hL : L i = false) {j k : Nat} {T : TypeId} {fl : Value → Array Value} (hK : KS[i]? = some (.st j k T fl)) {cs : Array Value} {val : Nat → Value} (hj : KS[j]? = some (.new (.cells cs T (0, 0)) val (some i))) (hT : T ∈ Ts) (lj : L j = true) (lk : L k = true)
    (hwf : ∀ (s j k : Nat) (T : TypeId) (fl : Value → Array Value), KS[s]? = some (.st j k T fl) → ∃ (cs : Array Value) (val : Nat → Value), KS[j]? = some (.new (.cells cs T (0, 0)) val (some s)))
    (hb : Below W.heap.size W w') (hs : w'.heap.size = w.heap.size) (hG : w'.heap[adr j]? = some (.cells (fl (dv ds a.tmps k)) T (0, 0))) (ho : ∀ b : Nat, b ≠ adr j → w'.heap[b]? = w.heap[b]?) : BxI W ds KS a0 (upd L i) a w' adr := by
  obtain ⟨_, _, _, e0⟩ := h.new j _ _ _ hj lj
  have e0 := e0 fun s' hs' => by injection hs' with hs'; subst hs'; exact hL
  have hR : RB Ts w w' := ⟨by omega, fun b _ => by
    by_cases hbG : b = adr j
    · subst hbG
      exact Or.inr ⟨T, _, _, _, hT, e0, hG⟩
    · exact Or.inl (ho b hbG)⟩
  refine ⟨hb, h.sz, h.df, h.fr, ?_, ?_, ?_, ?_⟩
  · intro q K' hK' hl
    have hij : i ≠ q := fun e => by subst e; rw [hK] at hK'; injection hK' with hK'; cases hK'
    rw [upd_ne hij] at hl
    exact K'.k _ _ _ (h.hop q K' hK' hl) hR
  · intro q ob val' s hK' hl
    have hij : i ≠ q := fun e => by subst e; rw [hK] at hK'; injection hK' with hK'; cases hK'
    rw [upd_ne hij] at hl
    obtain ⟨e1, e2, e3, e4⟩ := h.new q ob val' s hK' hl
    refine ⟨e1, e2, by omega, fun hq => ?_⟩
    by_cases hqj : q = j
    · subst hqj
      rw [hj] at hK'
      injection hK' with hK'
      injection hK' with _ _ hK'
      have h9 := hq i hK'.symm
      rw [upd_self] at h9
      cases h9
    · rw [ho _ (h.inj q j _ _ _ _ _ _ hK' hj hl lj hqj)]
      exact e4 fun s' hs' => upd_no (hq s' hs')
  · intro q q' ob ob' val' val'' s s' h1 h2 l1 l2 hne
    have n1 : i ≠ q := fun e => by subst e; rw [hK] at h1; injection h1 with h1; cases h1
    have n2 : i ≠ q' := fun e => by subst e; rw [hK] at h2; injection h2 with h2; cases h2
    rw [upd_ne n1] at l1
    rw [upd_ne n2] at l2
    exact h.inj q q' _ _ _ _ _ _ h1 h2 l1 l2 hne
  · intro s j' k' T' fl' hS hl
    by_cases his : i = s
    · subst his
      rw [hK] at hS
      injection hS with hS
      injection hS with x1 x2 x3 x4
      subst x1 x2 x3 x4
      exact ⟨up_ lj, up_ lk, hG⟩
    · rw [upd_ne his] at hl
      obtain ⟨l1, l2, e⟩ := h.st s j' k' T' fl' hS hl
      obtain ⟨cs', val', hj'⟩ := hwf s j' k' T' fl' hS
      have hne : j' ≠ j := fun e => by
        subst e
        rw [hj] at hj'
        injection hj' with hj'
        injection hj' with _ _ hj'
        injection hj' with hj'
        exact his hj'
      exact ⟨up_ l1, up_ l2, by rw [ho _ (h.inj j' j _ _ _ _ _ _ hj' hj l1 lj hne)]; exact e⟩
end
/-- The temporaries of the region, told by their places. -/
def putN : List (Option Tmp) → Nat → (Nat → Value) → Act → Act
  | [], _, _, a => a
  | d :: l, i, f, a => putN l (i + 1) f (a.put d (f i))
theorem putN_size : ∀ (l : List (Option Tmp)) (i : Nat) (f : Nat → Value) (a : Act), (putN l i f a).tmps.size = a.tmps.size
  | [], _, _, _ => rfl
  | d :: l, i, f, a => by
    show (putN l (i + 1) f (a.put d (f i))).tmps.size = _
    rw [putN_size, put_size]
theorem putN_defers : ∀ (l : List (Option Tmp)) (i : Nat) (f : Nat → Value) (a : Act), (putN l i f a).defers = a.defers
  | [], _, _, _ => rfl
  | d :: l, i, f, a => by
    show (putN l (i + 1) f (a.put d (f i))).defers = _
    rw [putN_defers, put_defers]
theorem putD_ne {a : Act} {d : Option Tmp} {v : Value} {t : Nat} (h : d ≠ some t) : (a.put d v).tmps.getD t undef = a.tmps.getD t undef := by
  cases d with
  | none => rfl
  | some s => exact put_off fun e => h (by rw [e])
theorem putN_off : ∀ {l : List (Option Tmp)} {i : Nat} {f : Nat → Value} {a : Act} {t : Nat}, some t ∉ l → (putN l i f a).tmps.getD t undef = a.tmps.getD t undef
  | [], _, _, _, _, _ => rfl
  | d :: l, i, f, a, t, h => by
    show (putN l (i + 1) f (a.put d (f i))).tmps.getD t undef = _
    rw [putN_off (fun e => h (List.mem_cons_of_mem _ e)), putD_ne (fun e => h (by rw [e]; exact List.mem_cons_self))]
theorem putN_at : ∀ {l : List (Option Tmp)} {i k : Nat} {f : Nat → Value} {a : Act} {t : Nat}, (l.filterMap id).Nodup → l[k]? = some (some t) → t < a.tmps.size → (putN l i f a).tmps.getD t undef = f (i + k)
  | [], _, _, _, _, _, _, h, _ => by simp at h
  | d :: l, i, 0, f, a, t, hn, h, ht => by
    simp at h
    subst h
    show (putN l (i + 1) f (a.put (some t) (f i))).tmps.getD t undef = _
    have hnot : some t ∉ l := fun hm => by
      simp only [List.filterMap_cons, id_eq] at hn
      exact (List.nodup_cons.1 hn).1 (List.mem_filterMap.2 ⟨some t, hm, rfl⟩)
    rw [putN_off hnot, put_at ht]
    rfl
  | d :: l, i, k + 1, f, a, t, hn, h, ht => by
    show (putN l (i + 1) f (a.put d (f i))).tmps.getD t undef = _
    have hn' : (l.filterMap id).Nodup := by
      cases d with
      | none => simpa using hn
      | some s => simp only [List.filterMap_cons, id_eq] at hn; exact (List.nodup_cons.1 hn).2
    rw [putN_at (k := k) hn' (by simpa using h) (by rw [put_size]; exact ht)]
    congr 1
    omega
/-- **A region that makes memory, told by a list.** -/
theorem region_boxes {ops : Array Oper} {Q : Exit → Act → World → Prop} {id n : Nat} {a0 : Act} (ds : List (Option Tmp)) (KS : List (NK Ts)) (hds : ops.toList.map (·.dst) = ds) (hm : P.follows .mixedOrders = true) (hb : backB .any ops = true) (hd : distB ops n = true) (hn : a0.tmps.size = n) (hT : ∀ t, T0 t = a0.tmps.getD t undef) (hlen : KS.length = ops.size)
    (hh : BopAll P W ds T0 KS 0 ops.toList)
    (hend : ∀ (f : Nat → Value) (adr : Nat → Nat) w, Below W.heap.size W w → (∀ (i : Nat) (K : KX Ts), KS[i]? = some (.hop K) → K.p (f i) w)
      → (∀ (i : Nat) (ob : Obj) (val : Nat → Value) (s : Option Nat), KS[i]? = some (.new ob val s) → f i = val (adr i) ∧ W.heap.size ≤ adr i ∧ adr i < w.heap.size ∧ (s = none → w.heap[adr i]? = some ob))
      → (∀ (i i' : Nat) (ob ob' : Obj) (val val' : Nat → Value) (s s' : Option Nat), KS[i]? = some (.new ob val s) → KS[i']? = some (.new ob' val' s') → i ≠ i' → adr i ≠ adr i')
      → (∀ (s j k : Nat) (T : TypeId) (fl : Value → Array Value), KS[s]? = some (.st j k T fl) → w.heap[adr j]? = some (.cells (fl (f k)) T (0, 0)))
      → Q .normal (putN ds 0 f a0) w) : (Code.region id ops true).wp P Q a0 W := by
  have hfr : ∀ a : Act, (∀ t, ds.contains (some t) = false → a.tmps.getD t undef = a0.tmps.getD t undef) → ∀ t, ds.contains (some t) = false → a.tmps.getD t undef = T0 t := fun a hf t ht => by rw [hf t ht, hT]
  have hat : ∀ {i : Nat} {o : Oper}, ops[i]? = some o → Bop P W ds T0 KS i o := fun {i o} ho => by
    have h1 := BopAll.at_ (i := 0) (k := i) (o := o) hh (by rw [Array.getElem?_toList]; exact ho)
    rwa [Nat.zero_add] at h1
  have hwf : ∀ (s j k : Nat) (T : TypeId) (fl : Value → Array Value), KS[s]? = some (.st j k T fl) → ∃ (cs : Array Value) (val : Nat → Value), KS[j]? = some (.new (.cells cs T (0, 0)) val (some s)) := fun s j k T fl hS => by
    have hs : s < ops.size := by rw [← hlen]; exact (List.getElem?_eq_some_iff.1 hS).1
    have h1 := (hat (Array.getElem?_eq_getElem hs)).2
    rw [hS] at h1
    obtain ⟨_, cs, val, _, h2, _⟩ := h1
    exact ⟨cs, val, h2⟩
  have hlL : ∀ {listed : Array Bool} {i : Nat} {o : Oper} {j : Nat}, (∀ e ∈ o.after, Region.binds .any e = true → listed.getD e.on false = true) → ops[i]? = some o → needK o j = true → listed.getD j false = true := fun {listed i o j} hall ho hk => by
    obtain ⟨e, he, h1⟩ := List.any_eq_true.1 hk
    have he := Array.mem_toList_iff.1 he
    rw [Bool.and_eq_true] at h1
    have h2 : e.on = j := by simpa using h1.2
    subst h2
    exact hall e he h1.1
  refine wp_region_inv (Inv := fun listed a w => ∃ adr, BxI W ds KS a0 (fun j => listed.getD j false) a w adr) hm hb ?_ ?_ ?_
  · have z : ∀ j, (Array.replicate ops.size false).getD j false ≠ true := fun j h => by
      have hj : ¬ j < ops.size ∨ j < ops.size := by omega
      rcases hj with hj | hj <;> simp [hj] at h
    exact ⟨fun _ => 0, (Below.refl _ _).drew, rfl, rfl, fun _ _ => rfl, fun _ _ _ h => absurd h (z _), fun _ _ _ _ _ h => absurd h (z _), fun _ _ _ _ _ _ _ _ _ _ h => absurd h (z _), fun _ _ _ _ _ _ h => absurd h (z _)⟩
  · rintro listed a w hs ⟨adr, h⟩ i hi
    obtain ⟨h0, o, ho, hall⟩ := mem_ready.1 hi
    have hil : i < listed.size := by have := (Array.getElem?_eq_some_iff.1 ho).1; omega
    have hu := upd_set hil
    have hL : listed.getD i false = false := by
      simp [hil] at h0 ⊢
      exact h0
    have hna : a.tmps.size = n := h.sz.trans hn
    have hD : DepX W ds KS o a.tmps w adr := ⟨fun j K hk hK => h.hop j K hK (hlL hall ho hk), fun j ob val s hk hK => by
      obtain ⟨e1, e2, e3, e4⟩ := h.new j ob val s hK (hlL hall ho hk)
      exact ⟨e1, e2, e3, fun hs => e4 fun s' hs' => by rw [hs] at hs'; cases hs'⟩, fun j j' _ _ _ _ _ _ k1 k2 h1 h2 hne => h.inj j j' _ _ _ _ _ _ h1 h2 (hlL hall ho k1) (hlL hall ho k2) hne⟩
    obtain ⟨hg, hB⟩ := hat ho
    cases hK : KS[i]? with
    | none => rw [hK] at hB; exact hB.elim
    | some x =>
      cases x with
      | hop K =>
        rw [hK] at hB
        refine wpOp_yields ho hg (hB a w adr h.bel (hfr a h.fr) hD) fun v w' h1 => ⟨adr, ?_⟩
        show BxI _ _ _ _ _ _ _ _
        rw [hu]
        exact (h.to h1.2).put_hop hds hd hna ho hL hK h1.1
      | new ob val s =>
        rw [hK] at hB
        refine wpOp_yields ho hg (hB a w adr h.bel (hfr a h.fr) hD) fun v w' h1 => ⟨fun j => if j = i then w.heap.size else adr j, ?_⟩
        obtain ⟨h2, rfl⟩ := h1
        show BxI _ _ _ _ _ _ _ _
        rw [hu]
        exact h.put_new hds hd hna ho hL hK h2
      | st j k T fl =>
        rw [hK] at hB
        obtain ⟨hdn, cs, val, K, hj, hk, hTs, kj, kk, hy⟩ := hB
        have lj := hlL hall ho kj
        have lk := hlL hall ho kk
        obtain ⟨e1, e2, e3, e4⟩ := h.new j _ _ _ hj lj
        have e4 := e4 fun s' hs' => by injection hs' with hs'; subst hs'; exact hL
        refine wpOp_yields ho hg (hy a w (adr j) h.bel e1 e2 e4 (h.hop k K hk lk)) fun v w' h1 => ⟨adr, ?_⟩
        obtain ⟨x1, x2, x3, x4⟩ := h1
        show BxI _ _ _ _ _ _ _ _
        rw [hu, hdn]
        exact h.put_st hL hK hj hTs lj lk hwf x1 x2 x3 x4
  · rintro listed a w hs hl ⟨adr, h⟩
    have hl' : ∀ j, j < KS.length → listed.getD j false = true := fun j hj => getD_ft (by omega) (hl j (by omega))
    have hlt : ∀ {x : NK Ts} {j : Nat}, KS[j]? = some x → j < KS.length := fun e => (List.getElem?_eq_some_iff.1 e).1
    have hnd : (ds.filterMap _root_.id).Nodup := by
      unfold distB at hd
      rw [Bool.and_eq_true] at hd
      have h1 : (ops.toList.filterMap (·.dst)).Nodup := by simpa using hd.1
      rw [← hds, List.filterMap_map]
      exact h1
    have ha : a = putN ds 0 (dv ds a.tmps) a0 := act_ext (by rw [putN_size]; exact h.sz) (by rw [putN_defers]; exact h.df) fun t => by
      cases hc : ds.contains (some t) with
      | false =>
        rw [h.fr t hc, putN_off]
        intro hm
        rw [← List.elem_eq_contains, List.elem_eq_mem] at hc
        simp [hm] at hc
      | true =>
        have hm : some t ∈ ds := by
          rw [← List.elem_eq_contains, List.elem_eq_mem] at hc
          simpa using hc
        obtain ⟨k, hk⟩ := List.mem_iff_getElem?.1 hm
        have hk' : k < ops.size := by
          have := (List.getElem?_eq_some_iff.1 hk).1
          rw [← hds] at this
          simpa using this
        have htn : t < a0.tmps.size := by
          have h9 := dst_at hds (Array.getElem?_eq_getElem hk')
          rw [hk] at h9
          injection h9 with h9
          rw [hn]
          exact distB_lt hd (Array.getElem?_eq_getElem hk') h9.symm
        rw [putN_at hnd hk htn, Nat.zero_add]
        unfold dv
        rw [hk]
    rw [ha]
    exact hend _ adr w h.bel (fun i K hK => h.hop i K hK (hl' i (hlt hK))) (fun i ob val s hK => by
      obtain ⟨e1, e2, e3, e4⟩ := h.new i ob val s hK (hl' i (hlt hK))
      exact ⟨e1, e2, e3, fun hs => e4 fun s' hs' => by rw [hs] at hs'; cases hs'⟩) (fun i i' _ _ _ _ _ _ h1 h2 hne => h.inj i i' _ _ _ _ _ _ h1 h2 (hl' i (hlt h1)) (hl' i' (hlt h2)) hne) (fun s j k T fl hS => (h.st s j k T fl hS (hl' s (hlt hS))).2.2)
end
end Go.Proofs.Ytgafpmgdpigliaa
