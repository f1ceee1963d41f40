/-
  A region that draws its order, told by a list: what each operation leaves. One proof for each operation; the kinds of operations that a law's examples are made of. No statement is proved here.
-/
import Derived.Test.YtcbmohcjmofomaaTwZ
namespace Go.Proofs.Ytcbmohcjmofomaa
open Go.RowKit
open Mc (Ed Ma)

/-- What an operation leaves: kept by all that comes later. -/
structure KP where
  p : Value → World → Prop
  k : ∀ v w w', p v w → Below w.heap.size w w' → p v w'
def kv (x : Value) : KP := ⟨fun v _ => v = x, fun _ _ _ h _ => h⟩
def kRow (l : List Ed) : KP := ⟨fun v w => ∃ A : Addr, v = .slice (some A) l.length l.length ∧ RdP w (some A) l, fun _ _ _ h hb => by obtain ⟨A, h1, h2⟩ := h; exact ⟨A, h1, h2.below hb⟩⟩
def kRows (rs : List (List Ed)) : KP := ⟨fun v w => ∃ A : Addr, v = .slice (some A) rs.length rs.length ∧ RdR w (some A) rs, fun _ _ _ h hb => by obtain ⟨A, h1, h2⟩ := h; exact ⟨A, h1, h2.below hb⟩⟩
def kMach (i o : Int) (rs : List (List Ed)) : KP := ⟨fun v w => ∃ A : Addr, v = .agg #[.int .i64 i, .int .i64 o, .slice (some A) rs.length rs.length] ∧ RdR w (some A) rs, fun _ _ _ h hb => by obtain ⟨A, h1, h2⟩ := h; exact ⟨A, h1, h2.below hb⟩⟩
def dv (ds : List (Option Tmp)) (tm : Array Value) (j : Nat) : Value := match ds[j]? with
  | some (some t) => tm.getD t undef
  | _ => undef
section
variable {P : Program} {W : World} {ds : List (Option Tmp)} {T0 : Tmp → Value} {PH : List KP}
/-- What an operation must leave, given what those that it waits for have left. -/
def Hop (P : Program) (W : World) (ds : List (Option Tmp)) (T0 : Tmp → Value) (PH : List KP) (i : Nat) (o : Oper) : Prop :=
  ∀ (a : Act) (w : World), Below W.heap.size W w → (∀ t, ds.contains (some t) = false → a.tmps.getD t undef = T0 t) → (∀ e ∈ o.after, Region.binds .any e = true → ∀ K, PH[e.on]? = some K → K.p (dv ds a.tmps e.on) w) →
    yieldsM P o a w fun v w' => (∀ K, PH[i]? = some K → K.p (norm o v) w') ∧ Below w.heap.size w w'
def GuardK (ds : List (Option Tmp)) (PH : List KP) (o : Oper) : Prop := o.guard = none ∨ ∃ g t, o.guard = some (g, true) ∧ PH[g]? = some (kv (.bool true)) ∧ ds[g]? = some (some t) ∧ (o.after.toList.any fun e => Region.binds .any e && e.on == g) = true
def HopAll (P : Program) (W : World) (ds : List (Option Tmp)) (T0 : Tmp → Value) (PH : List KP) : Nat → List Oper → Prop
  | _, [] => True
  | i, o :: l => (Hop P W ds T0 PH i o ∧ GuardK ds PH o) ∧ HopAll P W ds T0 PH (i + 1) l
theorem HopAll.at_ : ∀ {l : List Oper} {i k : Nat} {o : Oper}, HopAll P W ds T0 PH i l → l[k]? = some o → Hop P W ds T0 PH (i + k) o ∧ GuardK ds PH o
  | [], _, _, _, _, h => by simp at h
  | _ :: l, i, 0, _, h, hk => by
    simp at hk
    subst hk
    exact h.1
  | _ :: l, i, k + 1, o, h, hk => by
    have h1 := HopAll.at_ (k := k) (o := o) h.2 (by simpa using hk)
    rwa [show i + 1 + k = i + (k + 1) by omega] at h1
theorem yieldsM_mono {o : Oper} {a : Act} {w : World} {K K' : Value → World → Prop} (h : yieldsM P o a w K) (hk : ∀ v w', K v w' → K' v w') : yieldsM P o a w K' := by
  unfold yieldsM at h ⊢
  generalize (execOp a.eval o).run P w = r at *
  cases r with
  | ok n w' =>
    cases n <;> simp only at h ⊢
    case value v => exact hk _ _ h
    case skip => exact hk _ _ h
    case enter f args =>
      refine h.mono fun e w'' he => ?_
      obtain ⟨v, rfl, hK⟩ := he
      exact ⟨v, rfl, hk _ _ hK⟩
  | halt x w' => simp only at h
theorem dst_at {ops : Array Oper} (hds : ops.toList.map (·.dst) = ds) {i : Nat} {o : Oper} (h : ops[i]? = some o) : ds[i]? = some o.dst := by
  subst hds
  rw [List.getElem?_map, Array.getElem?_toList, h]
  rfl
theorem valOf_dv {ops : Array Oper} (hds : ops.toList.map (·.dst) = ds) {i : Nat} {o : Oper} (h : ops[i]? = some o) (a : Act) : valOf a o = dv ds a.tmps i := by
  unfold valOf dv
  rw [dst_at hds h]
  cases o.dst <;> rfl
theorem not_dst {ops : Array Oper} (hds : ops.toList.map (·.dst) = ds) {t : Tmp} (h : ds.contains (some t) = false) : ∀ (j : Nat) (o' : Oper), ops[j]? = some o' → o'.dst ≠ some t := by
  intro j o' hj e
  have h1 := dst_at hds hj
  have h2 : some t ∈ ds := by rw [← e]; exact List.mem_of_getElem? h1
  rw [← List.elem_eq_contains, List.elem_eq_mem] at h
  simp [h2] at h
/-- **A region told by a list.** -/
theorem region_hops {ops : Array Oper} {Q : Exit → Act → World → Prop} {id n : Nat} {a0 : Act} (ds : List (Option Tmp)) (PH : List KP) (hds : ops.toList.map (·.dst) = ds) (hm : P.follows .mixedOrders = true) (hb : backB .any ops = true) (hd : distB ops n = true) (hn : a0.tmps.size = n) (hT : ∀ t, T0 t = a0.tmps.getD t undef)
    (hh : HopAll P W ds T0 PH 0 ops.toList)
    (hend : ∀ (a : Act) w, Below W.heap.size W w → a.tmps.size = n → a.defers = a0.defers → (∀ t, ds.contains (some t) = false → a.tmps.getD t undef = T0 t) → (∀ (i : Nat) d K, ds[i]? = some d → PH[i]? = some K → K.p (dv ds a.tmps i) w) → Q .normal a w) : (Code.region id ops true).wp P Q a0 W := by
  have hfr : ∀ a : Act, (∀ t, (∀ (j : Nat) (o' : Oper), ops[j]? = some o' → o'.dst ≠ some t) → a.tmps.getD t undef = a0.tmps.getD t undef) → ∀ t, ds.contains (some t) = false → a.tmps.getD t undef = T0 t := fun a hf t ht => by
    rw [hf t (not_dst hds ht), hT]
  refine wp_region_mono (fun w => Below W.heap.size W w) (fun w w' => Below w.heap.size w w') (fun i v w => ∀ K, PH[i]? = some K → K.p v w) hm hb hd hn ?_ (Below.refl _ _).drew ?_ ?_
  · exact fun j v w w' h hr K hK => K.k v w w' (h K hK) hr
  · intro i o ho a w hC hf hdep
    have hl := HopAll.at_ (i := 0) (k := i) (o := o) hh (by rw [Array.getElem?_toList]; exact ho)
    rw [Nat.zero_add] at hl
    obtain ⟨h1, hg⟩ := hl
    have hdep' : ∀ e ∈ o.after, Region.binds .any e = true → ∀ K, PH[e.on]? = some K → K.p (dv ds a.tmps e.on) w := fun e he hbd K hK => by
      have hlt := backB_spec hb ho he hbd
      have hi : i < ops.size := (Array.getElem?_eq_some_iff.1 ho).1
      have hd' : ops[e.on]? = some ops[e.on] := Array.getElem?_eq_getElem (by omega)
      have := hdep e he hbd _ hd' K hK
      rwa [valOf_dv hds hd'] at this
    have hw : Region.wanted o (yielded ops a.tmps) = true := by
      rcases hg with hg | ⟨g, t, hg, hp, hdg, hany⟩
      · simp [Region.wanted, hg]
      · obtain ⟨e, he, h3⟩ := List.any_eq_true.1 hany
        have he := Array.mem_toList_iff.1 he
        rw [Bool.and_eq_true] at h3
        have h4 : e.on = g := by simpa using h3.2
        subst h4
        have h5 := hdep' e he h3.1 _ hp
        have h6 : a.tmps.getD t undef = .bool true := by
          unfold dv at h5
          rw [hdg] at h5
          exact h5
        have hlt := backB_spec hb ho he h3.1
        have hi : i < ops.size := (Array.getElem?_eq_some_iff.1 ho).1
        have hd' : ops[e.on]? = some ops[e.on] := Array.getElem?_eq_getElem (by omega)
        have h7 := dst_at hds hd'
        rw [hdg] at h7
        injection h7 with h7
        have h8 : a.tmps[t]? = some (.bool true) := by
          by_cases ht : t < a.tmps.size
          · simp [ht] at h6 ⊢
            exact h6
          · exfalso
            rw [show a.tmps.getD t undef = undef by simp [ht]] at h6
            cases h6
        simp [Region.wanted, hg, yielded, hd', ← h7, h8]
    rw [if_pos hw]
    exact yieldsM_mono (h1 a w hC (hfr a hf) hdep') fun v w' h => ⟨h.1, below_next hC h.2, h.2⟩
  · intro a w hC hsz hdf hf hall
    refine hend a w hC hsz hdf (hfr a hf) fun i d K hd' hK => ?_
    have hil : i < ops.size := by
      have h1 := (List.getElem?_eq_some_iff.1 hd').1
      rw [← hds] at h1
      simpa using h1
    have ho : ops[i]? = some ops[i] := Array.getElem?_eq_getElem hil
    have := hall i _ ho K hK
    rwa [valOf_dv hds ho] at this

/-! ### The kinds of operations -/
variable {i : Nat} {o : Oper} {t : Tmp}
def needK (o : Oper) (j : Nat) : Bool := o.after.toList.any fun e => Region.binds .any e && e.on == j
theorem needK_at {a : Act} {w : World} {j : Nat} (hn : needK o j = true) (hdep : ∀ e ∈ o.after, Region.binds .any e = true → ∀ K, PH[e.on]? = some K → K.p (dv ds a.tmps e.on) w) {K : KP} (hK : PH[j]? = some K) {s : Tmp} (hs : ds[j]? = some (some s)) : K.p (a.tmps.getD s undef) w := by
  obtain ⟨e, he, h1⟩ := List.any_eq_true.1 hn
  have he := Array.mem_toList_iff.1 he
  rw [Bool.and_eq_true] at h1
  have h2 : e.on = j := by simpa using h1.2
  subst h2
  have := hdep e he h1.1 K hK
  unfold dv at this
  rw [hs] at this
  exact this
theorem leaves {v : Value} {w' : World} {K : KP} (hd : o.dst = some t) (hK : PH[i]? = some K) (h : K.p v w') : ∀ K', PH[i]? = some K' → K'.p (norm o v) w' := fun K' h' => by
  rw [hK] at h'
  injection h' with h'
  subst h'
  unfold norm
  rw [hd]
  exact h
theorem hop_load {s g n c : Nat} {x y : Int} {A : Option Addr} (h : o.op = .load 24 (.tmp s)) (hs : ds.contains (some s) = false) (hT : T0 s = .pointer (some ⟨g, 0, none⟩)) (hB : BxM W g x y A n c) (hd : o.dst = some t) (hK : PH[i]? = some (kv (.agg #[.int .i64 x, .int .i64 y, .slice A n c]))) : Hop Try.prog W ds T0 PH i o := fun a w hC hf hdep =>
  yieldsM_mono (load_yields h ((hf s hs).trans hT) (hB.mvB hC)) fun v w' hv => by
    obtain ⟨rfl, rfl⟩ := hv
    exact ⟨leaves hd hK rfl, Below.refl _ _⟩
theorem hop_outer {s : Tmp} {x : Value} (h : o.op = .move (.tmp s)) (hs : ds.contains (some s) = false) (hT : T0 s = x) (hd : o.dst = some t) (hK : PH[i]? = some (kv x)) : Hop Try.prog W ds T0 PH i o := fun a w hC hf hdep => by
  have h1 : a.tmps.getD s undef = x := (hf s hs).trans hT
  obtain ⟨dst, op, type, pos, after, guard⟩ := o
  simp only at h
  subst h
  have h2 : a.tmps[s]?.getD undef = x := by simpa using h1
  unfold yieldsM
  simp [execOp, go_sem, h2]
  exact ⟨leaves hd hK rfl, Below.refl _ _⟩
theorem hop_move {s : Tmp} {j : Nat} {x : Value} (h : o.op = .move (.tmp s) ∨ o.op = .assign (.tmp s)) (hn : needK o j = true) (hj : ds[j]? = some (some s)) (hJ : PH[j]? = some (kv x)) (hd : o.dst = some t) (hK : PH[i]? = some (kv x)) : Hop Try.prog W ds T0 PH i o := fun a w hC hf hdep => by
  have h1 : a.tmps.getD s undef = x := needK_at hn hdep hJ hj
  obtain ⟨dst, op, type, pos, after, guard⟩ := o
  simp only at h
  have h2 : a.tmps[s]?.getD undef = x := by simpa using h1
  rcases h with rfl | rfl
  all_goals
    unfold yieldsM
    simp [execOp, go_sem, h2]
    exact ⟨leaves hd hK rfl, Below.refl _ _⟩
theorem hop_pick {s u : Tmp} {j k : Nat} (h : o.op = .pick (.tmp s) (.tmp u) (.const (.bool false))) (hn : needK o j = true) (hj : ds[j]? = some (some s)) (hJ : PH[j]? = some (kv (.bool true))) (hn2 : needK o k = true) (hk : ds[k]? = some (some u)) (hJ2 : PH[k]? = some (kv (.bool true))) (hd : o.dst = some t) (hK : PH[i]? = some (kv (.bool true))) : Hop Try.prog W ds T0 PH i o := fun a w hC hf hdep => by
  have h1 : a.tmps.getD s undef = .bool true := needK_at hn hdep hJ hj
  have h2 : a.tmps.getD u undef = .bool true := needK_at hn2 hdep hJ2 hk
  obtain ⟨dst, op, type, pos, after, guard⟩ := o
  simp only at h
  subst h
  have h3 : a.tmps[s]?.getD undef = .bool true := by simpa using h1
  have h4 : a.tmps[u]?.getD undef = .bool true := by simpa using h2
  unfold yieldsM
  simp [execOp, go_sem, h3, h4]
  exact ⟨leaves hd hK rfl, Below.refl _ _⟩
end
end Go.Proofs.Ytcbmohcjmofomaa
