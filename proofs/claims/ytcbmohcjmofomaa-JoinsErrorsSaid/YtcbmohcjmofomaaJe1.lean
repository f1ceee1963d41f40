/-
  The walk of JoinsErrors, in cases. No statement is proved here.
-/
import Derived.Test.YtcbmohcjmofomaaJb2
import Derived.Test.YtcbmohcjmofomaaJxZ
import Derived.Test.YtcbmohcjmofomaaJc1
import Derived.Deep.RegionHeld3
import Derived.Deep.CutRange
import Derived.Deep.RegionWith
namespace Go.Proofs.Ytcbmohcjmofomaa
open Go.RowKit
open Mc (Ed Ma Wv nE)

/-- One of the functions hands back an error and nothing, or rows. -/
def ResJ (x ri ro : Int) (P : Option Addr) (k c : Nat) (i9 o9 : Int) (rs : List (List Ed)) (W : World) : Prop :=
  (x ≠ 0 ∧ ri = 0 ∧ ro = 0 ∧ P = none ∧ k = 0 ∧ c = 0) ∨ (x = 0 ∧ ri = i9 ∧ ro = o9 ∧ c = k ∧ rs.length = k ∧ ∃ p, P = some ⟨p, 0, none⟩ ∧ Ex W p k rs)
theorem ResJ.kept {x ri ro : Int} {P : Option Addr} {k c : Nat} {i9 o9 : Int} {rs : List (List Ed)} : Kept (ResJ x ri ro P k c i9 o9 rs) := fun W W' h hb => by
  rcases h with h | ⟨h1, h2, h3, h4, h5, p, h6, h7⟩
  · exact Or.inl h
  · exact Or.inr ⟨h1, h2, h3, h4, h5, p, h6, h7.below hb⟩
theorem ResJ.zero {x ri ro : Int} {P : Option Addr} {k c : Nat} {i9 o9 : Int} {rs : List (List Ed)} {W : World} (h : ResJ x ri ro P k c i9 o9 rs W) (hx : x ≠ 0) : ri = 0 ∧ ro = 0 ∧ P = none ∧ k = 0 ∧ c = 0 := by
  rcases h with h | ⟨h1, _⟩
  · exact h.2
  · exact absurd h1 hx
theorem ResJ.rows {x ri ro : Int} {P : Option Addr} {k c : Nat} {i9 o9 : Int} {rs : List (List Ed)} {W : World} (h : ResJ x ri ro P k c i9 o9 rs W) (hx : x = 0) : ri = i9 ∧ ro = o9 ∧ k = c ∧ rs.length = k ∧ ∃ p, P = some ⟨p, 0, none⟩ ∧ Ex W p k rs := by
  rcases h with ⟨h1, _⟩ | ⟨_, h2, h3, h4, h5⟩
  · exact absurd hx h1
  · exact ⟨h2, h3, h4.symm, h5⟩
def ResP (w : World) (x i9 o9 : Int) (rs : List (List Ed)) (e : Ending) (w' : World) : Prop := ∃ (ri ro : Int) (P : Option Addr) (k c : Nat), e = .returned (.tuple #[.agg #[.int .i64 ri, .int .i64 ro, .slice P k c], .int .i64 x]) ∧ Hid (ResJ x ri ro P k c i9 o9 rs w') ∧ Below w.heap.size w w'
theorem JzP.res {w w' : World} {x y i9 o9 : Int} {rs : List (List Ed)} {e : Ending} (h : JzP w y e w') (hx : x = y) (hy : y ≠ 0) : ResP w x i9 o9 rs e w' := ⟨0, 0, none, 0, 0, by rw [hx]; exact h.1, Or.inl ⟨by rw [hx]; exact hy, rfl, rfl, rfl, rfl, rfl⟩, h.2⟩
theorem JxP.res {w w' : World} {x i9 o9 : Int} {k : Nat} {rs : List (List Ed)} {e : Ending} (h : JxP w i9 o9 k rs e w') (hx : x = 0) (hk : rs.length = k) : ResP w x i9 o9 rs e w' := by
  obtain ⟨p, rfl, h1, h2⟩ := h
  exact ⟨_, _, _, _, _, by rw [hx], Or.inr ⟨hx, rfl, rfl, rfl, hk, p, rfl, h1⟩, h2⟩
def xS (a b : Ma) : Int := if a.o ≠ b.i then 5 else if 64 < (Mc.ord (Mc.ser a b)).length then 3 else 0
def xP (a b : Ma) : Int := if a.i ≠ b.i then 5 else if 16 < a.o * b.o then 3 else if 64 < (Mc.ord (Mc.par a b)).length then 3 else 0
def xU (a b : Ma) : Int := if a.i ≠ b.i then 5 else if 64 < a.r.length + b.r.length then 3 else 0
/-! ### Regions where guards turn operations off -/
def kTop : KP := ⟨fun _ _ => True, fun _ _ _ _ _ => trivial⟩
def kRes (i o : Int) (k : Nat) (rs : List (List Ed)) : KP := ⟨fun v w => ∃ (A : Option Addr) (d : Nat), v = .agg #[.int .i64 i, .int .i64 o, .slice A k d] ∧ RdR w A rs, fun _ _ _ h hb => by obtain ⟨A, d, h1, h2⟩ := h; exact ⟨A, d, h1, h2.below hb⟩⟩
section
variable {P : Program} {W : World} {ds : List (Option Tmp)} {T0 : Tmp → Value} {PH : List KP}
def TellsG (ds : List (Option Tmp)) (PH : List KP) (o : Oper) (c d : Bool) : Prop := ∃ g t, o.guard = some (g, d) ∧ PH[g]? = some (kv (.bool c)) ∧ ds[g]? = some (some t) ∧ (o.after.toList.any fun e => Region.binds .any e && e.on == g) = true
def WantG (ds : List (Option Tmp)) (PH : List KP) (o : Oper) : Prop := o.guard = none ∨ TellsG ds PH o true true ∨ TellsG ds PH o false false
def OffG (ds : List (Option Tmp)) (PH : List KP) (o : Oper) : Prop := TellsG ds PH o true false ∨ TellsG ds PH o false true
def HopsG (P : Program) (W : World) (ds : List (Option Tmp)) (T0 : Tmp → Value) (PH : List KP) : Nat → List Oper → Prop
  | _, [] => True
  | i, o :: l => ((Hop P W ds T0 PH i o ∧ WantG ds PH o) ∨ (OffG ds PH o ∧ PH[i]? = some kTop)) ∧ HopsG P W ds T0 PH (i + 1) l
theorem HopsG.at_ : ∀ {l : List Oper} {i k : Nat} {o : Oper}, HopsG P W ds T0 PH i l → l[k]? = some o → (Hop P W ds T0 PH (i + k) o ∧ WantG ds PH o) ∨ (OffG ds PH o ∧ PH[i + k]? = some kTop)
  | [], _, _, _, _, h => by simp at h
  | _ :: l, i, 0, _, h, hk => by
    simp at hk
    subst hk
    exact h.1
  | _ :: l, i, k + 1, o, h, hk => by
    have h1 := HopsG.at_ (k := k) (o := o) h.2 (by simpa using hk)
    rwa [show i + 1 + k = i + (k + 1) by omega] at h1
theorem wanted_tells {ops : Array Oper} (hds : ops.toList.map (·.dst) = ds) (hb : backB .any ops = true) {i : Nat} {o : Oper} (ho : ops[i]? = some o) {a : Act} {w : World}
    (hdep : ∀ e ∈ o.after, Region.binds .any e = true → ∀ K, PH[e.on]? = some K → K.p (dv ds a.tmps e.on) w) {c d : Bool} (h : TellsG ds PH o c d) : Region.wanted o (yielded ops a.tmps) = (c == d) := by
  obtain ⟨g, t, hg, hp, hdg, hany⟩ := h
  obtain ⟨e, he, h3⟩ := List.any_eq_true.1 hany
  have he := Array.mem_toList_iff.1 he
  rw [Bool.and_eq_true] at h3
  have h4 : e.on = g := by simpa using h3.2
  subst h4
  have h5 := hdep e he h3.1 _ hp
  have h6 : a.tmps.getD t undef = .bool c := by
    unfold dv at h5
    rw [hdg] at h5
    exact h5
  have hlt := backB_spec hb ho he h3.1
  have hi : i < ops.size := (Array.getElem?_eq_some_iff.1 ho).1
  have hd' : ops[e.on]? = some ops[e.on] := Array.getElem?_eq_getElem (by omega)
  have h7 := dst_at hds hd'
  rw [hdg] at h7
  injection h7 with h7
  have h8 : a.tmps[t]? = some (.bool c) := by
    by_cases ht : t < a.tmps.size
    · simp [ht] at h6 ⊢
      exact h6
    · exfalso
      rw [show a.tmps.getD t undef = undef by simp [ht]] at h6
      cases h6
  cases c <;> cases d <;> simp [Region.wanted, hg, yielded, hd', ← h7, h8]
/-- **A region told by a list, where guards turn operations on and off.** -/
theorem region_hopsG {ops : Array Oper} {Q : Exit → Act → World → Prop} {id n : Nat} {a0 : Act} (ds : List (Option Tmp)) (PH : List KP) (hds : ops.toList.map (·.dst) = ds) (hm : P.follows .mixedOrders = true) (hb : backB .any ops = true) (hd : distB ops n = true) (hn : a0.tmps.size = n) (hT : ∀ t, T0 t = a0.tmps.getD t undef)
    (hh : HopsG P W ds T0 PH 0 ops.toList)
    (hend : ∀ (a : Act) w, Below W.heap.size W w → a.tmps.size = n → a.defers = a0.defers → (∀ t, ds.contains (some t) = false → a.tmps.getD t undef = T0 t) → (∀ (i : Nat) d K, ds[i]? = some d → PH[i]? = some K → K.p (dv ds a.tmps i) w) → Q .normal a w) : (Code.region id ops true).wp P Q a0 W := by
  have hfr : ∀ a : Act, (∀ t, (∀ (j : Nat) (o' : Oper), ops[j]? = some o' → o'.dst ≠ some t) → a.tmps.getD t undef = a0.tmps.getD t undef) → ∀ t, ds.contains (some t) = false → a.tmps.getD t undef = T0 t := fun a hf t ht => by
    rw [hf t (not_dst hds ht), hT]
  refine wp_region_mono (fun w => Below W.heap.size W w) (fun w w' => Below w.heap.size w w') (fun i v w => ∀ K, PH[i]? = some K → K.p v w) hm hb hd hn ?_ (Below.refl _ _).drew ?_ ?_
  · exact fun j v w w' h hr K hK => K.k v w w' (h K hK) hr
  · intro i o ho a w hC hf hdep
    have hl := HopsG.at_ (i := 0) (k := i) (o := o) hh (by rw [Array.getElem?_toList]; exact ho)
    rw [Nat.zero_add] at hl
    have hdep' : ∀ e ∈ o.after, Region.binds .any e = true → ∀ K, PH[e.on]? = some K → K.p (dv ds a.tmps e.on) w := fun e he hbd K hK => by
      have hlt := backB_spec hb ho he hbd
      have hi : i < ops.size := (Array.getElem?_eq_some_iff.1 ho).1
      have hd' : ops[e.on]? = some ops[e.on] := Array.getElem?_eq_getElem (by omega)
      have := hdep e he hbd _ hd' K hK
      rwa [valOf_dv hds hd'] at this
    rcases hl with ⟨h1, hg⟩ | ⟨hg, hK⟩
    · have hw : Region.wanted o (yielded ops a.tmps) = true := by
        rcases hg with hg | hg | hg
        · simp [Region.wanted, hg]
        · exact (wanted_tells hds hb ho hdep' hg).trans rfl
        · exact (wanted_tells hds hb ho hdep' hg).trans rfl
      rw [if_pos hw]
      exact yieldsM_mono (h1 a w hC (hfr a hf) hdep') fun v w' h => ⟨h.1, below_next hC h.2, h.2⟩
    · have hw : Region.wanted o (yielded ops a.tmps) = false := by
        rcases hg with hg | hg
        · exact (wanted_tells hds hb ho hdep' hg).trans rfl
        · exact (wanted_tells hds hb ho hdep' hg).trans rfl
      rw [if_neg (by rw [hw]; simp)]
      intro K hK'
      rw [hK] at hK'
      injection hK' with hK'
      subst hK'
      trivial
  · intro a w hC hsz hdf hf hall
    refine hend a w hC hsz hdf (hfr a hf) fun i d K hd' hK => ?_
    have hil : i < ops.size := by
      have h1 := (List.getElem?_eq_some_iff.1 hd').1
      rw [← hds] at h1
      simpa using h1
    have ho : ops[i]? = some ops[i] := Array.getElem?_eq_getElem hil
    have := hall i _ ho K hK
    rwa [valOf_dv hds ho] at this
variable {i : Nat} {o : Oper} {t : Tmp}
theorem hop_not {s : Tmp} {j : Nat} {b : Bool} (h : o.op = .unOp .not 4 (.tmp s)) (hn : needK o j = true) (hj : ds[j]? = some (some s)) (hJ : PH[j]? = some (kv (.bool b))) (hd : o.dst = some t) (hK : PH[i]? = some (kv (.bool (!b)))) : Hop Try.prog W ds T0 PH i o := fun a w hC hf hdep => by
  have h1 : a.tmps.getD s undef = .bool b := needK_at hn hdep hJ hj
  obtain ⟨dst, op, type, pos, after, guard⟩ := o
  simp only at h
  subst h
  have h2 : a.tmps[s]?.getD undef = .bool b := by simpa using h1
  unfold yieldsM
  simp [execOp, go_sem, h2]
  exact ⟨leaves hd hK rfl, Below.refl _ _⟩
theorem hop_pickT {s u : Tmp} {j k : Nat} {v : Value} (h : o.op = .pick (.tmp s) (.tmp u) (.const (.bool false))) (hn : needK o j = true) (hj : ds[j]? = some (some s)) (hJ : PH[j]? = some (kv (.bool true))) (hn2 : needK o k = true) (hk : ds[k]? = some (some u)) (hJ2 : PH[k]? = some (kv v)) (hd : o.dst = some t) (hK : PH[i]? = some (kv v)) : Hop Try.prog W ds T0 PH i o := fun a w hC hf hdep => by
  have h1 : a.tmps.getD s undef = .bool true := needK_at hn hdep hJ hj
  have h2 : a.tmps.getD u undef = v := needK_at hn2 hdep hJ2 hk
  obtain ⟨dst, op, type, pos, after, guard⟩ := o
  simp only at h
  subst h
  have h3 : a.tmps[s]?.getD undef = .bool true := by simpa using h1
  have h4 : a.tmps[u]?.getD undef = v := by simpa using h2
  unfold yieldsM
  simp [execOp, go_sem, h3, h4]
  exact ⟨leaves hd hK rfl, Below.refl _ _⟩
theorem hop_pickF {s u : Tmp} {j : Nat} (h : o.op = .pick (.tmp s) (.tmp u) (.const (.bool false))) (hn : needK o j = true) (hj : ds[j]? = some (some s)) (hJ : PH[j]? = some (kv (.bool false))) (hd : o.dst = some t) (hK : PH[i]? = some (kv (.bool false))) : Hop Try.prog W ds T0 PH i o := fun a w hC hf hdep => by
  have h1 : a.tmps.getD s undef = .bool false := needK_at hn hdep hJ hj
  obtain ⟨dst, op, type, pos, after, guard⟩ := o
  simp only at h
  subst h
  have h3 : a.tmps[s]?.getD undef = .bool false := by simpa using h1
  unfold yieldsM
  simp [execOp, go_sem, h3]
  exact ⟨leaves hd hK rfl, Below.refl _ _⟩
theorem hop_pickE {s u : Tmp} {j k : Nat} {v : Value} (h : o.op = .pick (.tmp s) (.const (.bool true)) (.tmp u)) (hn : needK o j = true) (hj : ds[j]? = some (some s)) (hJ : PH[j]? = some (kv (.bool false))) (hn2 : needK o k = true) (hk : ds[k]? = some (some u)) (hJ2 : PH[k]? = some (kv v)) (hd : o.dst = some t) (hK : PH[i]? = some (kv v)) : Hop Try.prog W ds T0 PH i o := fun a w hC hf hdep => by
  have h1 : a.tmps.getD s undef = .bool false := needK_at hn hdep hJ hj
  have h2 : a.tmps.getD u undef = v := needK_at hn2 hdep hJ2 hk
  obtain ⟨dst, op, type, pos, after, guard⟩ := o
  simp only at h
  subst h
  have h3 : a.tmps[s]?.getD undef = .bool false := by simpa using h1
  have h4 : a.tmps[u]?.getD undef = v := by simpa using h2
  unfold yieldsM
  simp [execOp, go_sem, h3, h4]
  exact ⟨leaves hd hK rfl, Below.refl _ _⟩
theorem hop_beside {x y : Value} {i9 o9 : Int} {k : Nat} {rs : List (List Ed)} {s s1 : Tmp} {j j1 : Nat} (h : o.op = .call { callee := .value (.func 42), args := #[.tmp s, .tmp s1], argTypes := #[24, 24] }) (CB : ∀ w, Below W.heap.size W w → Calls Try.prog 42 #[x, y] w (BesP w i9 o9 k rs)) (hn : needK o j = true) (hj : ds[j]? = some (some s)) (hJ : PH[j]? = some (kv x)) (hn1 : needK o j1 = true) (hj1 : ds[j1]? = some (some s1)) (hJ1 : PH[j1]? = some (kv y)) (hd : o.dst = some t) (hK : PH[i]? = some (kRes i9 o9 k rs)) : Hop Try.prog W ds T0 PH i o := fun a w hC hf hdep => by
  have h0 : a.tmps.getD s undef = x := needK_at hn hdep hJ hj
  have h1 : a.tmps.getD s1 undef = y := needK_at hn1 hdep hJ1 hj1
  obtain ⟨dst, op, type, pos, after, guard⟩ := o
  simp only at h
  subst h
  have e0 : a.tmps[s]?.getD undef = x := by simpa using h0
  have e1 : a.tmps[s1]?.getD undef = y := by simpa using h1
  unfold yieldsM
  simp [go_sem, e0, e1]
  refine (CB w hC).mono ?_
  rintro e w' ⟨B, d, rfl, hr, hb⟩
  exact ⟨_, rfl, leaves hd hK ⟨B, d, rfl, hr⟩, hb⟩
theorem hop_machineG {x y : Int} {rs : List (List Ed)} {p k : Nat} {s s1 s2 : Tmp} {j j1 j2 : Nat} (h : o.op = .call { callee := .value (.func 30), args := #[.tmp s, .tmp s1, .tmp s2], argTypes := #[24, 31, 24] }) (hX : Ex W p k rs) (hn : needK o j = true) (hj : ds[j]? = some (some s)) (hJ : PH[j]? = some (kv (.agg #[.int .i64 x, .int .i64 y, .slice (some ⟨p, 0, none⟩) k k]))) (hn1 : needK o j1 = true) (hj1 : ds[j1]? = some (some s1)) (hJ1 : PH[j1]? = some (kv (.int .i64 0))) (hn2 : needK o j2 = true) (hj2 : ds[j2]? = some (some s2)) (hJ2 : PH[j2]? = some (kRes x y k rs)) (hd : o.dst = some t) (hK : PH[i]? = some (kv (.bool true))) : Hop Try.prog W ds T0 PH i o := fun a w hC hf hdep => by
  have h0 : a.tmps.getD s undef = _ := needK_at hn hdep hJ hj
  have h1 : a.tmps.getD s1 undef = _ := needK_at hn1 hdep hJ1 hj1
  obtain ⟨A2, d2, h2, r2⟩ := needK_at hn2 hdep hJ2 hj2
  obtain ⟨dst, op, type, pos, after, guard⟩ := o
  simp only at h
  subst h
  have e0 : a.tmps[s]?.getD undef = .agg #[.int .i64 x, .int .i64 y, .slice (some ⟨p, 0, none⟩) k k] := by simpa using h0
  have e1 : a.tmps[s1]?.getD undef = .int .i64 0 := by simpa using h1
  have e2 : a.tmps[s2]?.getD undef = .agg #[.int .i64 x, .int .i64 y, .slice A2 k d2] := by simpa using h2
  unfold yieldsM
  simp [go_sem, e0, e1, e2]
  refine (jmachine_yes x y rs p k d2 A2 w (hX.below hC) r2).mono ?_
  rintro e w' ⟨rfl, hb⟩
  exact ⟨_, rfl, leaves hd hK rfl, hb⟩
end
theorem jch_b {a b : Ma} (va : Mc.Val a) : jch a b = Mc.chk b := by unfold jch; rw [if_neg (by rw [Mc.chk_of va]; simp)]
theorem jch_a {a b : Ma} (h : Mc.chk a ≠ 0) : jch a b = Mc.chk a := by unfold jch; rw [if_pos h]
section
variable (a b : Ma) (A B : Option Addr) (n c n2 c2 : Nat) (w : World) (va : Mc.Val a) (vb : Mc.Val b) (hra : RdR w A a.r) (hn : a.r.length = n) (hrb : RdR w B b.r) (hn2 : b.r.length = n2)
include va vb hra hn hrb hn2
theorem ser_res : Calls Try.prog 23 #[.agg #[.int .i64 a.i, .int .i64 a.o, .slice A n c], .agg #[.int .i64 b.i, .int .i64 b.o, .slice B n2 c2]] w (ResP w (xS a b) a.i b.o (Mc.prt (Mc.ser a b) (Mc.ord (Mc.ser a b))).r) := by
  have h := series_any a b A B n c n2 c2 w hra hn (by have := va.r1; omega) (fun row hr => by have := va.len row hr; have := va.i1; omega) hrb hn2 (by have := vb.r1; omega) (fun row hr => by have := vb.len row hr; have := vb.i1; omega)
  by_cases hab : a.o = b.i
  · have hs : sech a b = 0 := by unfold sech; rw [if_neg (by rw [jch_of va vb]; simp), if_neg (by simp [hab])]
    have VJ := Mc.ser_vx va vb hab
    by_cases hL : 64 < (Mc.ord (Mc.ser a b)).length
    · refine h.mono fun e w' h => ?_
      rcases h with ⟨h1, _⟩ | ⟨_, ⟨h1, _⟩ | ⟨_, h1, h2⟩⟩
      · exact absurd hs h1
      · omega
      · exact JzP.res (y := 3) ⟨h1, h2⟩ (by unfold xS; rw [if_neg (by simp [hab]), if_pos hL]) (by decide)
    · have hC := (Mc.vx_can VJ (show (Mc.ser a b).i ≤ 16 from va.i1) (show (Mc.ser a b).o ≤ 16 from vb.o1) (by omega)).1
      exact h.mono fun e w' h => JxP.res (SeP.ok h hs rfl rfl (by rw [Mc.prt_len]; omega) (fun row hr => by have := hC.len row hr; have := hC.i1; omega)) (by unfold xS; rw [if_neg (by simp [hab]), if_neg hL]) rfl
  · have hs : sech a b = 5 := by unfold sech; rw [if_neg (by rw [jch_of va vb]; simp), if_pos hab]
    exact h.mono fun e w' h => JzP.res (SeP.no h hs (by decide)) (by unfold xS; rw [if_pos hab]) (by decide)
theorem par_res : Calls Try.prog 31 #[.agg #[.int .i64 a.i, .int .i64 a.o, .slice A n c], .agg #[.int .i64 b.i, .int .i64 b.o, .slice B n2 c2]] w (ResP w (xP a b) a.i (a.o * b.o) (Mc.prt (Mc.par a b) (Mc.ord (Mc.par a b))).r) := by
  have h := parallel_any a b A B n c n2 c2 w hra hn (by have := va.r1; omega) (fun row hr => by have := va.len row hr; have := va.i1; omega) hrb hn2 (by have := vb.r1; omega) (fun row hr => by have := vb.len row hr; have := vb.i1; omega)
  by_cases hab : a.i = b.i
  · have VJ := Mc.par_vx va vb hab
    by_cases hO : 16 < a.o * b.o
    · have hs : pech a b = 3 := by unfold pech; rw [if_neg (by rw [jch_of va vb]; simp), if_neg (by simp [hab]), if_pos hO]
      exact h.mono fun e w' h => JzP.res (SeP.no h hs (by decide)) (by unfold xP; rw [if_neg (by simp [hab]), if_pos hO]) (by decide)
    have hs : pech a b = 0 := by unfold pech; rw [if_neg (by rw [jch_of va vb]; simp), if_neg (by simp [hab]), if_neg hO]
    by_cases hL : 64 < (Mc.ord (Mc.par a b)).length
    · refine h.mono fun e w' h => ?_
      rcases h with ⟨h1, _⟩ | ⟨_, ⟨h1, _⟩ | ⟨_, h1, h2⟩⟩
      · exact absurd hs h1
      · omega
      · exact JzP.res (y := 3) ⟨h1, h2⟩ (by unfold xP; rw [if_neg (by simp [hab]), if_neg hO, if_pos hL]) (by decide)
    · have hC := (Mc.vx_can VJ (show (Mc.par a b).i ≤ 16 from va.i1) (show (Mc.par a b).o ≤ 16 by show a.o * b.o ≤ 16; omega) (by omega)).1
      exact h.mono fun e w' h => JxP.res (SeP.ok h hs rfl rfl (by rw [Mc.prt_len]; omega) (fun row hr => by have := hC.len row hr; have := hC.i1; omega)) (by unfold xP; rw [if_neg (by simp [hab]), if_neg hO, if_neg hL]) rfl
  · have hs : pech a b = 5 := by unfold pech; rw [if_neg (by rw [jch_of va vb]; simp), if_pos hab]
    exact h.mono fun e w' h => JzP.res (SeP.no h hs (by decide)) (by unfold xP; rw [if_pos hab]) (by decide)
theorem uni_res : Calls Try.prog 41 #[.agg #[.int .i64 a.i, .int .i64 a.o, .slice A n c], .agg #[.int .i64 b.i, .int .i64 b.o, .slice B n2 c2]] w (ResP w (xU a b) a.i (max a.o b.o) (Mc.bes a b).r) := by
  have h := unite_any a b A B n c n2 c2 w hra hn (by have := va.r1; omega) (fun row hr => by have := va.len row hr; have := va.i1; omega) hrb hn2 (by have := vb.r1; omega) (fun row hr => by have := vb.len row hr; have := vb.i1; omega)
  by_cases hab : a.i = b.i
  · by_cases hL : 64 < a.r.length + b.r.length
    · have hs : uech a b = 3 := by unfold uech; rw [if_neg (by rw [jch_of va vb]; simp), if_neg (by simp [hab]), if_pos hL]
      exact h.mono fun e w' h => JzP.res (JeP.no h hs (by decide)) (by unfold xU; rw [if_neg (by simp [hab]), if_pos hL]) (by decide)
    · have hs : uech a b = 0 := by unfold uech; rw [if_neg (by rw [jch_of va vb]; simp), if_neg (by simp [hab]), if_neg hL]
      have hC := Mc.bes_val va vb hab (by omega)
      exact h.mono fun e w' h => JxP.res (JeP.ok h hs rfl (by rw [Mc.bes_len]; omega) (fun row hr => by have := hC.len row hr; have := hC.i1; omega)) (by unfold xU; rw [if_neg (by simp [hab]), if_neg hL]) rfl
  · have hs : uech a b = 5 := by unfold uech; rw [if_neg (by rw [jch_of va vb]; simp), if_pos hab]
    exact h.mono fun e w' h => JzP.res (JeP.no h hs (by decide)) (by unfold xU; rw [if_pos hab]) (by decide)
end
set_option maxRecDepth 100000 in
set_option maxHeartbeats 4000000 in
/-- Too many rows, or a row of more than 20 edges: nothing is asked. -/
theorem jerr_early (ri ro : Int) (X : Option Addr) (cx N : Nat) (rs : List (List Ed)) (a b dd : Int) (q : Bool) (A : Option Addr) (ca EL : Nat) (w : World) (hx : RdR w X rs) (hN : rs.length = N)
    (hgr : 70 < N ∨ ∃ (j : Nat) (row : List Ed), rs[j]? = some row ∧ 20 < row.length) :
    Calls Try.prog 10 #[.agg #[.int .i64 ri, .int .i64 ro, .slice X N cx], .agg #[.int .u8 a, .int .u8 b, .int .u8 dd, .bool q, .slice A EL ca]] w fun e w' => e = .returned (.bool true) ∧ Below w.heap.size w w' := by
  have HN := Lib.hid hN
  have HGR := Lib.hid hgr
  clear hN hgr
  have s1 : MT w w _ := MK.putR MT.start hx
  clear hx
  obtain ⟨K0, hK0⟩ : ∃ K0, w.heap.size = K0 := ⟨_, rfl⟩
  have s2 := MK.putB (g := w.heap.size) (MT.alloc s1 (.cells #[.int .i64 ri, .int .i64 ro, .slice X N cx] 24)) (heap_alloc_new w _)
  have s4 := MT.putK (P := fun w => w.heap[K0 + 1]? = some (.cells #[.int .u8 a, .int .u8 b, .int .u8 dd, .bool q, .slice A EL ca] 40)) (MT.alloc s2 (.cells #[.int .u8 a, .int .u8 b, .int .u8 dd, .bool q, .slice A EL ca] 40))
    (by
      have h := heap_alloc_new (w.alloc (.cells #[.int .i64 ri, .int .i64 ro, .slice X N cx] 24)) (.cells #[.int .u8 a, .int .u8 b, .int .u8 dd, .bool q, .slice A EL ca] 40)
      rw [World.size_alloc, hK0] at h
      exact h) (fun _ _ h hb => (hb.block _ (heap_lt h)).trans h)
  rw [hK0] at s4
  clear s1 s2
  go_enter Try.func10, Try.ntmps10
  go_upto_region 1 with fail
  obtain ⟨W0, hW0⟩ : ∃ W0, (w.alloc (.cells #[.int .i64 ri, .int .i64 ro, .slice X N cx] 24)).alloc (.cells #[.int .u8 a, .int .u8 b, .int .u8 dd, .bool q, .slice A EL ca] 40) = W0 := ⟨_, rfl⟩
  rw [hW0] at s4
  try rw [hW0]
  try rw [hK0]
  clear hW0
  obtain ⟨q0, q1, q2⟩ := BxM.cells (MK.get s4 1 rfl)
  by_cases h70 : 70 < N
  · have hd70 : decide ((70 : Int) < N) = true := decide_eq_true (by omega)
    have hfin := s4.2.1
    clear s4 HGR
    go_wp2
    go_ret
    exact ⟨rfl, hfin⟩
  have hd70 : decide ((70 : Int) < N) = false := decide_eq_false (by omega)
  go_wp2
  clear q0 q1 q2 hd70
  have SF := Lib.hid s4
  clear s4
  go_loopw [5] (fun v wr => ∃ k : Nat, k ≤ N ∧ v = .int .i64 k ∧ Hid (∀ (j : Nat) row, j < k → rs[j]? = some row → row.length ≤ 20) ∧ Hid (Below W0.heap.size W0 wr)) (fun v _ => N - (intOf v).toNat)
  case atStart => exact ⟨0, by omega, rfl, fun j row h => absurd h (by omega), Below.refl _ _⟩
  case round =>
    obtain ⟨k, hk, rfl, hRk, hbr⟩ := hrel
    have sK := MT.next SF.out hbr.out
    obtain ⟨q0, q1, q2⟩ := BxM.cells (MK.get sK 1 rfl)
    have hlt : k < N := by
      rcases Nat.lt_or_ge k N with h1 | h1
      · exact h1
      · rcases HGR.out with h2 | ⟨j, row, hj, h3⟩
        · omega
        · have h4 := (List.getElem?_eq_some_iff.1 hj).1
          have h5 := HN.out
          have := hRk.out j row (by omega) hj
          omega
    have hkn : (k : Int) < N := by omega
    obtain ⟨br, ofr, Br, cr, nr, row, rfl, _, hcr, _, _, _, _, hrl, hrk⟩ := (MK.get sK 2 rfl).at_ (k := k) (by rw [HN.out]; exact hlt)
    by_cases h20 : 20 < nr
    · have hd20 : decide ((20 : Int) < nr) = true := decide_eq_true (by omega)
      have hfin := sK.2.1
      clear sK SF hRk HGR
      go_wp2
      go_ret
      exact ⟨rfl, hfin⟩
    · have hd20 : decide ((20 : Int) < nr) = false := decide_eq_false (by omega)
      have hRk' : Hid (∀ (j : Nat) row, j < k + 1 → rs[j]? = some row → row.length ≤ 20) := fun j row' hj hjr => by
        rcases Nat.lt_or_ge j k with h1 | h1
        · exact hRk.out j row' h1 hjr
        · obtain rfl : j = k := by omega
          rw [hrk.out] at hjr
          injection hjr with hjr
          rw [← hjr, hrl.out]
          omega
      clear sK hRk HGR
      go_wp2
      go_roundw
      case rel => exact ⟨k + 1, by omega, by go_num, hRk', hbr⟩
      case measure => simp [intOf]; omega

set_option maxRecDepth 100000 in
set_option maxHeartbeats 4000000 in
/-- The machine is not valid. -/
theorem jerr_Z (Q M : Ma) (ri ro : Int) (X : Option Addr) (cx N : Nat) (a b dd : Int) (q : Bool) (A : Option Addr) (ca EL : Nat) (es : List Int) (n i o : Nat) (w : World) (hx : RdR w X Q.r) (hN : Q.r.length = N) (hqi : Q.i = ri) (hqo : Q.o = ro) (h70 : N ≤ 70) (hrw : ∀ row ∈ Q.r, row.length ≤ 20)
    (h16 : Rd16 w A es) (hV : Mc.Val M) (hln : M.r.length = n) (hmi0 : M.i = i) (hmo0 : M.o = o) (_ : n ≤ 6) (_ : i ≤ 3) (_ : o ≤ 3)
    (CO : Hid (∀ w, Rd16 w A es → Calls Try.prog 21 #[.agg #[.int .u8 a, .int .u8 b, .int .u8 dd, .bool q, .slice A EL ca]] w fun e w' => ∃ B k, e = .returned (.agg #[.int .i64 i, .int .i64 o, .slice B n k]) ∧ RdR w' B M.r ∧ Below w.heap.size w w')) (Z : Int) (hchk : Mc.chk Q = Z) (hz : Z ≠ 0) :
    Calls Try.prog 10 #[.agg #[.int .i64 ri, .int .i64 ro, .slice X N cx], .agg #[.int .u8 a, .int .u8 b, .int .u8 dd, .bool q, .slice A EL ca]] w fun e w' => e = .returned (.bool true) ∧ Below w.heap.size w w' := by
  have HN := Lib.hid hN
  have HRW := Lib.hid hrw
  have V := Lib.hid hV
  have hlen := Lib.hid hln
  have hmi := Lib.hid hmi0
  have hmo := Lib.hid hmo0
  have HQI := Lib.hid hqi
  have HQO := Lib.hid hqo
  have HR := Lib.hid h16
  have hmr : ∀ row ∈ M.r, row.length ≤ 1000000 := fun row hr => by have := V.out.len row hr; have := V.out.i1; omega
  have hqr : ∀ row ∈ Q.r, row.length ≤ 1000000 := fun row hr => by have := hrw row hr; omega
  have C1 : Hid (∀ B kB w, RdR w X Q.r → RdR w B M.r → Calls Try.prog 23 #[.agg #[.int .i64 i, .int .i64 o, .slice B n kB], .agg #[.int .i64 ri, .int .i64 ro, .slice X N cx]] w (JzP w Z)) := fun B kB w hq hm => by
    have h := series_any M Q B X n kB N cx w hm hlen.out (by omega) hmr hq HN.out (by omega) hqr
    rw [hmi.out, hmo.out, HQI.out, HQO.out] at h
    exact h.mono fun _ _ h => SeP.no h (by unfold sech; rw [if_pos (by rw [jch_b V.out, hchk]; exact hz), jch_b V.out, hchk]) hz
  have C2 : Hid (∀ B kB w, RdR w X Q.r → RdR w B M.r → Calls Try.prog 31 #[.agg #[.int .i64 ri, .int .i64 ro, .slice X N cx], .agg #[.int .i64 i, .int .i64 o, .slice B n kB]] w (JzP w Z)) := fun B kB w hq hm => by
    have h := parallel_any Q M X B N cx n kB w hq HN.out (by omega) hqr hm hlen.out (by omega) hmr
    rw [hmi.out, hmo.out, HQI.out, HQO.out] at h
    exact h.mono fun _ _ h => SeP.no h (by unfold pech; rw [if_pos (by rw [jch_a (by rw [hchk]; exact hz), hchk]; exact hz), jch_a (by rw [hchk]; exact hz), hchk]) hz
  have C3 : Hid (∀ B kB w, RdR w X Q.r → RdR w B M.r → Calls Try.prog 41 #[.agg #[.int .i64 i, .int .i64 o, .slice B n kB], .agg #[.int .i64 ri, .int .i64 ro, .slice X N cx]] w (JzP w Z)) := fun B kB w hq hm => by
    have h := unite_any M Q B X n kB N cx w hm hlen.out (by omega) hmr hq HN.out (by omega) hqr
    rw [hmi.out, hmo.out, HQI.out, HQO.out] at h
    exact h.mono fun _ _ h => JeP.no h (by unfold uech; rw [if_pos (by rw [jch_b V.out, hchk]; exact hz), jch_b V.out, hchk]) hz
  have C4 : Hid (∀ B kB w, RdR w X Q.r → RdR w B M.r → Calls Try.prog 23 #[.agg #[.int .i64 ri, .int .i64 ro, .slice X N cx], .agg #[.int .i64 i, .int .i64 o, .slice B n kB]] w (JzP w Z)) := fun B kB w hq hm => by
    have h := series_any Q M X B N cx n kB w hq HN.out (by omega) hqr hm hlen.out (by omega) hmr
    rw [hmi.out, hmo.out, HQI.out, HQO.out] at h
    exact h.mono fun _ _ h => SeP.no h (by unfold sech; rw [if_pos (by rw [jch_a (by rw [hchk]; exact hz), hchk]; exact hz), jch_a (by rw [hchk]; exact hz), hchk]) hz
  have C5 : Hid (∀ w, RdR w X Q.r → Calls Try.prog 32 #[.agg #[.int .i64 ri, .int .i64 ro, .slice X N cx], .slice none 0 0, .slice none 0 0, .slice none 0 0] w (JzP w Z)) := fun w hq => by
    have h := rename_any Q X N cx [] [] [] none none none 0 0 0 0 0 0 w hq HN.out (by omega) hqr Rd.nil_ rfl Rd.nil_ rfl Rd.nil_ rfl (by omega) (by omega) (by omega)
    rw [HQI.out, HQO.out] at h
    exact h.mono fun _ _ h => JeP.no h (by unfold kech; rw [if_pos (by rw [hchk]; exact hz), hchk]) hz
  have C6 : Hid (∀ w, RdR w X Q.r → Calls Try.prog 34 #[.agg #[.int .i64 ri, .int .i64 ro, .slice X N cx], .int .u8 9, .int .i64 (-1)] w (JzP w Z)) := fun w hq => by
    have h := fill_wX Q X N cx 9 (-1) w hq HN.out (by omega) hqr (by decide)
    rw [HQI.out, HQO.out] at h
    exact h.mono fun _ _ h => JeP.no h (by unfold fech; rw [if_pos (by rw [hchk]; exact hz), hchk]) hz
  have C7 : Hid (∀ w, RdR w X Q.r → Calls Try.prog 38 #[.agg #[.int .i64 ri, .int .i64 ro, .slice X N cx], .slice none 0 0] w (JzP w Z)) := fun w hq => by
    have h := restrict_any Q X N cx [] none 0 0 w hq HN.out (by omega) hqr Rd.nil_ rfl (by omega)
    rw [HQI.out, HQO.out] at h
    exact h.mono fun _ _ h => JeP.no h (by unfold rech; rw [if_pos (by rw [hchk]; exact hz), hchk]) hz
  have CK : Hid (∀ w, RdR w X Q.r → Calls Try.prog 43 #[.agg #[.int .i64 ri, .int .i64 ro, .slice X N cx]] w fun e w' => e = .returned (.int .i64 Z) ∧ Below w.heap.size w w') := fun w hr => by
    have h := rmcheck_any Q X cx w hr (by omega)
    rw [HQI.out, HQO.out, HN.out, hchk] at h
    exact h
  have hz2 : (Z == 0) = false := by simp [hz]
  have hz4 : (Z != 0) = true := by simp [hz]
  have hz3 : ¬ Z = 0 := hz
  clear hN hrw hz h16 hV hln hmi0 hmo0 hqi hqo hchk hmr hqr
  have s1 : MT w w _ := MK.putR MT.start hx
  clear hx
  obtain ⟨K0, hK0⟩ : ∃ K0, w.heap.size = K0 := ⟨_, rfl⟩
  have s2 := MK.putB (g := w.heap.size) (MT.alloc s1 (.cells #[.int .i64 ri, .int .i64 ro, .slice X N cx] 24)) (heap_alloc_new w _)
  have s4 := MT.putK (P := fun w => w.heap[K0 + 1]? = some (.cells #[.int .u8 a, .int .u8 b, .int .u8 dd, .bool q, .slice A EL ca] 40)) (MT.alloc s2 (.cells #[.int .u8 a, .int .u8 b, .int .u8 dd, .bool q, .slice A EL ca] 40))
    (by
      have h := heap_alloc_new (w.alloc (.cells #[.int .i64 ri, .int .i64 ro, .slice X N cx] 24)) (.cells #[.int .u8 a, .int .u8 b, .int .u8 dd, .bool q, .slice A EL ca] 40)
      rw [World.size_alloc, hK0] at h
      exact h) (fun _ _ h hb => (hb.block _ (heap_lt h)).trans h)
  rw [hK0] at s4
  clear s1 s2
  go_enter Try.func10, Try.ntmps10
  go_upto_region 1 with fail
  obtain ⟨W0, hW0⟩ : ∃ W0, (w.alloc (.cells #[.int .i64 ri, .int .i64 ro, .slice X N cx] 24)).alloc (.cells #[.int .u8 a, .int .u8 b, .int .u8 dd, .bool q, .slice A EL ca] 40) = W0 := ⟨_, rfl⟩
  rw [hW0] at s4
  try rw [hW0]
  try rw [hK0]
  clear hW0
  obtain ⟨q0, q1, q2⟩ := BxM.cells (MK.get s4 1 rfl)
  have hd70 : decide ((70 : Int) < N) = false := decide_eq_false (by omega)
  go_wp2
  clear q0 q1 q2 hd70
  have SF := Lib.hid s4
  clear s4
  go_loopw [5] (fun v wr => ∃ k : Nat, k ≤ N ∧ v = .int .i64 k ∧ Hid (Below W0.heap.size W0 wr)) (fun v _ => N - (intOf v).toNat)
  case atStart => exact ⟨0, by omega, rfl, Below.refl _ _⟩
  case round =>
    obtain ⟨k, hk, rfl, hbr⟩ := hrel
    have sK := MT.next SF.out hbr.out
    obtain ⟨q0, q1, q2⟩ := BxM.cells (MK.get sK 1 rfl)
    by_cases hlt : k < N
    · have hkn : (k : Int) < N := by omega
      obtain ⟨br, ofr, Br, cr, nr, row, rfl, _, hcr, _, _, _, _, hrl, hrk⟩ := (MK.get sK 2 rfl).at_ (k := k) (by rw [HN.out]; exact hlt)
      have hnr : nr ≤ 20 := by rw [← hrl.out]; exact HRW.out row (List.mem_of_getElem? hrk.out)
      have hd20 : decide ((20 : Int) < nr) = false := decide_eq_false (by omega)
      clear sK hrl hrk
      go_wp2
      go_roundw
      case rel => exact ⟨k + 1, by omega, by go_num, hbr⟩
      case measure => simp [intOf]; omega
    · have hkn : decide ((k : Int) < N) = false := decide_eq_false (by omega)
      have HHR := Lib.hid (HR.out.below sK.2.1)
      have y5 : wr.cell? ⟨K0 + 1, 0, none⟩ = some (.int .u8 a) ∧ wr.cell? ⟨K0 + 1, 1, none⟩ = some (.int .u8 b) ∧ wr.cell? ⟨K0 + 1, 2, none⟩ = some (.int .u8 dd) ∧ wr.cell? ⟨K0 + 1, 3, none⟩ = some (.bool q) ∧ wr.cell? ⟨K0 + 1, 4, none⟩ = some (.slice A EL ca) := by
        have h1 := MK.get sK 0 rfl
        refine ⟨?_, ?_, ?_, ?_, ?_⟩ <;> (rw [cell_of_row _ _ _ _ _ _ h1]; rfl)
      obtain ⟨a3, a4, a5, a6, a7⟩ := y5
      clear SF hbr HRW
      go_wp2_with fail
      refine (CO.out _ HHR.out).mono ?_
      rintro e w1 ⟨B, kB, rfl, hrB, hb⟩
      have t1 := MK.putB (g := w1.heap.size) (MT.alloc (MK.putR (MT.next sK hb) hrB) (.cells #[.int .i64 i, .int .i64 o, .slice B n kB] 24)) (heap_alloc_new w1 _)
      clear hb hrB sK q0 q1 q2 a3 a4 a5 a6 a7 CO
      go_upto_region 9 with fail
      obtain ⟨gc, hgc⟩ : ∃ g, w1.heap.size = g := ⟨_, rfl⟩
      obtain ⟨W2, hW2⟩ : ∃ W, w1.alloc (.cells #[.int .i64 i, .int .i64 o, .slice B n kB] 24) = W := ⟨_, rfl⟩
      rw [hgc, hW2] at t1
      try rw [hgc]
      try rw [hW2]
      clear hgc hW2
      obtain ⟨q0, q1, q2⟩ := BxM.cells (MK.get t1 3 rfl)
      go_wp2_with fail
      refine (CK.out _ (MK.get t1 4 rfl)).mono ?_
      rintro e w2 ⟨rfl, hb⟩
      have t2 := MT.next t1 hb
      clear hb t1 q0 q1 q2 CK
      obtain ⟨p0, p1, p2⟩ := BxM.cells (MK.get t2 3 rfl)
      obtain ⟨m0, m1, m2⟩ := BxM.cells (MK.get t2 0 rfl)
      go_wp2_with fail
      refine (C1.out _ _ _ (MK.get t2 4 rfl) (MK.get t2 1 rfl)).mono ?_
      rintro e w3 ⟨rfl, hb⟩
      have t3 := MK.putB (g := w3.heap.size) (MT.alloc (MT.next t2 hb) (.cells #[.int .i64 0, .int .i64 0, .slice none 0 0] 24)) (heap_alloc_new w3 _)
      clear hb t2 p0 p1 p2 m0 m1 m2 C1
      go_upto_region 11 with fail
      obtain ⟨v3, hw⟩ : ∃ q, w3.alloc (.cells #[.int .i64 0, .int .i64 0, .slice none 0 0] 24) = q := ⟨_, rfl⟩
      obtain ⟨T3, hT⟩ : ∃ T, w3.heap.size = T := ⟨_, rfl⟩
      rw [hT, hw] at t3
      try rw [hw]
      try rw [hT]
      clear hw hT
      obtain ⟨p0, p1, p2⟩ := BxM.cells (MK.get t3 4 rfl)
      obtain ⟨m0, m1, m2⟩ := BxM.cells (MK.get t3 1 rfl)
      go_wp2_with fail
      refine (C2.out _ _ _ (MK.get t3 5 rfl) (MK.get t3 2 rfl)).mono ?_
      rintro e w4 ⟨rfl, hb⟩
      have t4 := MK.putB (g := w4.heap.size) (MT.alloc (MT.next t3 hb) (.cells #[.int .i64 0, .int .i64 0, .slice none 0 0] 24)) (heap_alloc_new w4 _)
      clear hb t3 p0 p1 p2 m0 m1 m2 C2
      go_upto_region 12 with fail
      obtain ⟨v4, hw⟩ : ∃ q, w4.alloc (.cells #[.int .i64 0, .int .i64 0, .slice none 0 0] 24) = q := ⟨_, rfl⟩
      obtain ⟨T4, hT⟩ : ∃ T, w4.heap.size = T := ⟨_, rfl⟩
      rw [hT, hw] at t4
      try rw [hw]
      try rw [hT]
      clear hw hT
      obtain ⟨p0, p1, p2⟩ := BxM.cells (MK.get t4 5 rfl)
      obtain ⟨m0, m1, m2⟩ := BxM.cells (MK.get t4 2 rfl)
      go_wp2_with fail
      refine (C3.out _ _ _ (MK.get t4 6 rfl) (MK.get t4 3 rfl)).mono ?_
      rintro e w5 ⟨rfl, hb⟩
      have t5 := MK.putB (g := w5.heap.size) (MT.alloc (MT.next t4 hb) (.cells #[.int .i64 0, .int .i64 0, .slice none 0 0] 24)) (heap_alloc_new w5 _)
      clear hb t4 p0 p1 p2 m0 m1 m2 C3
      go_upto_region 13 with fail
      obtain ⟨v5, hw⟩ : ∃ q, w5.alloc (.cells #[.int .i64 0, .int .i64 0, .slice none 0 0] 24) = q := ⟨_, rfl⟩
      obtain ⟨T5, hT⟩ : ∃ T, w5.heap.size = T := ⟨_, rfl⟩
      rw [hT, hw] at t5
      try rw [hw]
      try rw [hT]
      clear hw hT
      obtain ⟨p0, p1, p2⟩ := BxM.cells (MK.get t5 6 rfl)
      obtain ⟨m0, m1, m2⟩ := BxM.cells (MK.get t5 3 rfl)
      go_wp2_with fail
      refine (C4.out _ _ _ (MK.get t5 7 rfl) (MK.get t5 4 rfl)).mono ?_
      rintro e w6 ⟨rfl, hb⟩
      have t6 := MK.putB (g := w6.heap.size) (MT.alloc (MT.next t5 hb) (.cells #[.int .i64 0, .int .i64 0, .slice none 0 0] 24)) (heap_alloc_new w6 _)
      clear hb t5 p0 p1 p2 m0 m1 m2 C4
      go_upto_region 15 with fail
      obtain ⟨v6, hw⟩ : ∃ q, w6.alloc (.cells #[.int .i64 0, .int .i64 0, .slice none 0 0] 24) = q := ⟨_, rfl⟩
      obtain ⟨T6, hT⟩ : ∃ T, w6.heap.size = T := ⟨_, rfl⟩
      rw [hT, hw] at t6
      try rw [hw]
      try rw [hT]
      clear hw hT
      obtain ⟨p0, p1, p2⟩ := BxM.cells (MK.get t6 7 rfl)
      go_wp2_with fail
      refine (C5.out _ (MK.get t6 8 rfl)).mono ?_
      rintro e w7 ⟨rfl, hb⟩
      have t7 := MK.putB (g := w7.heap.size) (MT.alloc (MT.next t6 hb) (.cells #[.int .i64 0, .int .i64 0, .slice none 0 0] 24)) (heap_alloc_new w7 _)
      clear hb t6 p0 p1 p2 C5
      go_upto_region 16 with fail
      obtain ⟨v7, hw⟩ : ∃ q, w7.alloc (.cells #[.int .i64 0, .int .i64 0, .slice none 0 0] 24) = q := ⟨_, rfl⟩
      obtain ⟨T7, hT⟩ : ∃ T, w7.heap.size = T := ⟨_, rfl⟩
      rw [hT, hw] at t7
      try rw [hw]
      try rw [hT]
      clear hw hT
      obtain ⟨p0, p1, p2⟩ := BxM.cells (MK.get t7 8 rfl)
      go_wp2_with fail
      refine (C6.out _ (MK.get t7 9 rfl)).mono ?_
      rintro e w8 ⟨rfl, hb⟩
      have t8 := MK.putB (g := w8.heap.size) (MT.alloc (MT.next t7 hb) (.cells #[.int .i64 0, .int .i64 0, .slice none 0 0] 24)) (heap_alloc_new w8 _)
      clear hb t7 p0 p1 p2 C6
      go_upto_region 17 with fail
      obtain ⟨v8, hw⟩ : ∃ q, w8.alloc (.cells #[.int .i64 0, .int .i64 0, .slice none 0 0] 24) = q := ⟨_, rfl⟩
      obtain ⟨T8, hT⟩ : ∃ T, w8.heap.size = T := ⟨_, rfl⟩
      rw [hT, hw] at t8
      try rw [hw]
      try rw [hT]
      clear hw hT
      obtain ⟨p0, p1, p2⟩ := BxM.cells (MK.get t8 9 rfl)
      go_wp2_with fail
      refine (C7.out _ (MK.get t8 10 rfl)).mono ?_
      rintro e w9 ⟨rfl, hb⟩
      have t9 := MK.putB (g := w9.heap.size) (MT.alloc (MT.next t8 hb) (.cells #[.int .i64 0, .int .i64 0, .slice none 0 0] 24)) (heap_alloc_new w9 _)
      clear hb t8 p0 p1 p2 C7
      go_upto_region 18 with fail
      obtain ⟨v9, hw⟩ : ∃ q, w9.alloc (.cells #[.int .i64 0, .int .i64 0, .slice none 0 0] 24) = q := ⟨_, rfl⟩
      obtain ⟨T9, hT⟩ : ∃ T, w9.heap.size = T := ⟨_, rfl⟩
      rw [hT, hw] at t9
      try rw [hw]
      try rw [hT]
      clear hw hT
      obtain ⟨p0, p1, p2⟩ := BxM.cells (MK.get t9 6 rfl)
      go_wp2_with fail
      refine (nothing_yes Z _).mono ?_
      rintro e y0 ⟨rfl, hb⟩
      have n0 := MT.next t9 hb
      clear hb t9 p0 p1 p2
      obtain ⟨p0, p1, p2⟩ := BxM.cells (MK.get n0 5 rfl)
      go_wp2_with fail
      refine (nothing_yes Z _).mono ?_
      rintro e y1 ⟨rfl, hb⟩
      have n1 := MT.next n0 hb
      clear hb n0 p0 p1 p2
      obtain ⟨p0, p1, p2⟩ := BxM.cells (MK.get n1 4 rfl)
      go_wp2_with fail
      refine (nothing_yes Z _).mono ?_
      rintro e y2 ⟨rfl, hb⟩
      have n2 := MT.next n1 hb
      clear hb n1 p0 p1 p2
      obtain ⟨p0, p1, p2⟩ := BxM.cells (MK.get n2 3 rfl)
      go_wp2_with fail
      refine (nothing_yes Z _).mono ?_
      rintro e y3 ⟨rfl, hb⟩
      have n3 := MT.next n2 hb
      clear hb n2 p0 p1 p2
      obtain ⟨p0, p1, p2⟩ := BxM.cells (MK.get n3 2 rfl)
      go_wp2_with fail
      refine (nothing_yes Z _).mono ?_
      rintro e y4 ⟨rfl, hb⟩
      have n4 := MT.next n3 hb
      clear hb n3 p0 p1 p2
      obtain ⟨p0, p1, p2⟩ := BxM.cells (MK.get n4 1 rfl)
      go_wp2_with fail
      refine (nothing_yes Z _).mono ?_
      rintro e y5 ⟨rfl, hb⟩
      have n5 := MT.next n4 hb
      clear hb n4 p0 p1 p2
      obtain ⟨p0, p1, p2⟩ := BxM.cells (MK.get n5 0 rfl)
      go_wp2_with fail
      refine (nothing_yes Z _).mono ?_
      rintro e y6 ⟨rfl, hb⟩
      have n6 := MT.next n5 hb
      clear hb n5 p0 p1 p2
      go_wp2_with fail
      refine (jlives_walk _).mono ?_
      rintro e y9 ⟨rfl, hb⟩
      have hfin := (MT.next n6 hb).2.1
      clear hb n6
      go_wp2
      go_ret
      exact ⟨rfl, hfin⟩

set_option maxRecDepth 100000 in
set_option maxHeartbeats 8000000 in
/-- The machine is valid. -/
theorem jerr_V (Q M : Ma) (ri ro : Int) (X : Option Addr) (cx N : Nat) (a b dd : Int) (q : Bool) (A : Option Addr) (ca EL : Nat) (es : List Int) (n i o : Nat) (w : World) (hx : RdR w X Q.r) (hN : Q.r.length = N) (hqi : Q.i = ri) (hqo : Q.o = ro) (h70 : N ≤ 70) (hrw : ∀ row ∈ Q.r, row.length ≤ 20)
    (h16 : Rd16 w A es) (hV : Mc.Val M) (hln : M.r.length = n) (hmi0 : M.i = i) (hmo0 : M.o = o) (hn6 : n ≤ 6) (hi3 : i ≤ 3) (ho3 : o ≤ 3)
    (CO : Hid (∀ w, Rd16 w A es → Calls Try.prog 21 #[.agg #[.int .u8 a, .int .u8 b, .int .u8 dd, .bool q, .slice A EL ca]] w fun e w' => ∃ B k, e = .returned (.agg #[.int .i64 i, .int .i64 o, .slice B n k]) ∧ RdR w' B M.r ∧ Below w.heap.size w w')) (hchk : Mc.chk Q = 0) :
    Calls Try.prog 10 #[.agg #[.int .i64 ri, .int .i64 ro, .slice X N cx], .agg #[.int .u8 a, .int .u8 b, .int .u8 dd, .bool q, .slice A EL ca]] w fun e w' => e = .returned (.bool true) ∧ Below w.heap.size w w' := by
  have HN := Lib.hid hN
  have HRW := Lib.hid hrw
  have V := Lib.hid hV
  have hlen := Lib.hid hln
  have hmi := Lib.hid hmi0
  have hmo := Lib.hid hmo0
  have HQI := Lib.hid hqi
  have HQO := Lib.hid hqo
  have HR := Lib.hid h16
  have VQ := Lib.hid (Mc.val_of hchk)
  have hN64 : N ≤ 64 := by have := VQ.out.r1; omega
  have hN1 : 1 ≤ N := by have := VQ.out.r0; omega
  have hn1 : 1 ≤ n := by have := V.out.r0; omega
  have hi1 : 1 ≤ i := by have := V.out.i0; omega
  have ho1 : 1 ≤ o := by have := V.out.o0; omega
  have hro : 1 ≤ ro ∧ ro ≤ 16 := by have := VQ.out.o0; have := VQ.out.o1; omega
  obtain ⟨JS1, hJ1⟩ : ∃ J, Mc.ser M Q = J := ⟨_, rfl⟩
  obtain ⟨JS2, hJ2⟩ : ∃ J, Mc.par Q M = J := ⟨_, rfl⟩
  obtain ⟨OO, hOO⟩ : ∃ z : Int, ro * (o : Int) = z := ⟨_, rfl⟩
  obtain ⟨O3, hO3⟩ : ∃ z : Int, max (o : Int) ro = z := ⟨_, rfl⟩
  obtain ⟨x1, hx1⟩ : ∃ x, xS M Q = x := ⟨_, rfl⟩
  obtain ⟨x2, hx2⟩ : ∃ x, xP Q M = x := ⟨_, rfl⟩
  obtain ⟨x3, hx3⟩ : ∃ x, xU M Q = x := ⟨_, rfl⟩
  obtain ⟨L1, hL1⟩ : ∃ x, (Mc.ord JS1).length = x := ⟨_, rfl⟩
  obtain ⟨L2, hL2⟩ : ∃ x, (Mc.ord JS2).length = x := ⟨_, rfl⟩
  have hOO1 : 1 ≤ OO ∧ OO ≤ 48 := by
    have h1 : (1 : Int) * 1 ≤ ro * (o : Int) := Int.mul_le_mul (by omega) (by omega) (by omega) (by omega)
    have h2 : ro * (o : Int) ≤ 16 * 3 := Int.mul_le_mul (by omega) (by omega) (by omega) (by omega)
    omega
  have C1 : Hid (∀ B kB w, RdR w X Q.r → RdR w B M.r → Calls Try.prog 23 #[.agg #[.int .i64 i, .int .i64 o, .slice B n kB], .agg #[.int .i64 ri, .int .i64 ro, .slice X N cx]] w (ResP w x1 i ro (Mc.prt JS1 (Mc.ord JS1)).r)) := fun B kB w hq hm => by
    have h := ser_res M Q B X n kB N cx w V.out VQ.out hm hlen.out hq HN.out
    rw [hx1, hJ1]  at h
    rw [hmi.out, hmo.out, HQI.out, HQO.out] at h
    exact h
  have C2 : Hid (∀ B kB w, RdR w X Q.r → RdR w B M.r → Calls Try.prog 31 #[.agg #[.int .i64 ri, .int .i64 ro, .slice X N cx], .agg #[.int .i64 i, .int .i64 o, .slice B n kB]] w (ResP w x2 ri OO (Mc.prt JS2 (Mc.ord JS2)).r)) := fun B kB w hq hm => by
    have h := par_res Q M X B N cx n kB w VQ.out V.out hq HN.out hm hlen.out
    rw [hx2, hJ2] at h
    rw [hmi.out, hmo.out, HQI.out, HQO.out] at h
    rw [hOO] at h
    exact h
  have C3 : Hid (∀ B kB w, RdR w X Q.r → RdR w B M.r → Calls Try.prog 41 #[.agg #[.int .i64 i, .int .i64 o, .slice B n kB], .agg #[.int .i64 ri, .int .i64 ro, .slice X N cx]] w (ResP w x3 i O3 (Mc.bes M Q).r)) := fun B kB w hq hm => by
    have h := uni_res M Q B X n kB N cx w V.out VQ.out hm hlen.out hq HN.out
    rw [hx3] at h
    rw [hmi.out, hmo.out, HQI.out, HQO.out] at h
    rw [hO3] at h
    exact h
  have E1 : Hid (x1 = if (o : Int) ≠ ri then 5 else if 64 < L1 then 3 else 0) := by
    show _ = _
    rw [← hx1, ← hL1, ← hJ1]; unfold xS; rw [hmo.out, HQI.out]
  have E2 : Hid (x2 = if ri ≠ (i : Int) then 5 else if 16 < OO then 3 else if 64 < L2 then 3 else 0) := by
    show _ = _
    rw [← hx2, ← hL2, ← hJ2, ← hOO]; unfold xP; rw [hmi.out, HQI.out, HQO.out, hmo.out]
  have E3 : Hid (x3 = if (i : Int) ≠ ri then 5 else if 64 < n + N then 3 else 0) := by
    show _ = _
    rw [← hx3]; unfold xU; rw [hmi.out, HQI.out, hlen.out, HN.out]
  have HJ1 : Hid (Mc.jm (i : Int) ro n N (Mc.serF M Q) = JS1) := by show _ = _; rw [← hJ1, ← hmi.out, ← HQO.out, ← hlen.out, ← HN.out]; rfl
  have HOO := Lib.hid hOO
  have HO3 := Lib.hid hO3
  have HL1 := Lib.hid hL1
  have HL2 := Lib.hid hL2
  have HJ2 : Hid (Mc.jm ri OO N n (Mc.parF Q M) = JS2) := by show _ = _; rw [← hJ2, ← hOO, ← HQI.out, ← HQO.out, ← hmo.out, ← hlen.out, ← HN.out]; rfl
  have CK : Hid (∀ w, RdR w X Q.r → Calls Try.prog 43 #[.agg #[.int .i64 ri, .int .i64 ro, .slice X N cx]] w fun e w' => e = .returned (.int .i64 0) ∧ Below w.heap.size w w') := fun w hr => by
    have h := rmcheck_any Q X cx w hr (by omega)
    rw [HQI.out, HQO.out, HN.out, hchk] at h
    exact h
  clear hN hrw h16 hV hln hmi0 hmo0 hqi hqo hchk hx1 hx2 hx3 hJ1 hJ2 hOO hO3 hL1 hL2
  have s1 : MT w w _ := MK.putR MT.start hx
  clear hx
  obtain ⟨K0, hK0⟩ : ∃ K0, w.heap.size = K0 := ⟨_, rfl⟩
  have s2 := MK.putB (g := w.heap.size) (MT.alloc s1 (.cells #[.int .i64 ri, .int .i64 ro, .slice X N cx] 24)) (heap_alloc_new w _)
  have s4 := MT.putK (P := fun w => w.heap[K0 + 1]? = some (.cells #[.int .u8 a, .int .u8 b, .int .u8 dd, .bool q, .slice A EL ca] 40)) (MT.alloc s2 (.cells #[.int .u8 a, .int .u8 b, .int .u8 dd, .bool q, .slice A EL ca] 40))
    (by
      have h := heap_alloc_new (w.alloc (.cells #[.int .i64 ri, .int .i64 ro, .slice X N cx] 24)) (.cells #[.int .u8 a, .int .u8 b, .int .u8 dd, .bool q, .slice A EL ca] 40)
      rw [World.size_alloc, hK0] at h
      exact h) (fun _ _ h hb => (hb.block _ (heap_lt h)).trans h)
  rw [hK0] at s4
  clear s1 s2
  go_enter Try.func10, Try.ntmps10
  go_upto_region 1 with fail
  obtain ⟨W0, hW0⟩ : ∃ W0, (w.alloc (.cells #[.int .i64 ri, .int .i64 ro, .slice X N cx] 24)).alloc (.cells #[.int .u8 a, .int .u8 b, .int .u8 dd, .bool q, .slice A EL ca] 40) = W0 := ⟨_, rfl⟩
  rw [hW0] at s4
  try rw [hW0]
  try rw [hK0]
  clear hW0
  obtain ⟨q0, q1, q2⟩ := BxM.cells (MK.get s4 1 rfl)
  have hd70 : decide ((70 : Int) < N) = false := decide_eq_false (by omega)
  go_wp2
  clear q0 q1 q2 hd70
  have SF := Lib.hid s4
  clear s4
  go_loopw [5] (fun v wr => ∃ k : Nat, k ≤ N ∧ v = .int .i64 k ∧ Hid (Below W0.heap.size W0 wr)) (fun v _ => N - (intOf v).toNat)
  case atStart => exact ⟨0, by omega, rfl, Below.refl _ _⟩
  case round =>
    obtain ⟨k, hk, rfl, hbr⟩ := hrel
    have sK := MT.next SF.out hbr.out
    obtain ⟨q0, q1, q2⟩ := BxM.cells (MK.get sK 1 rfl)
    by_cases hlt : k < N
    · have hkn : (k : Int) < N := by omega
      obtain ⟨br, ofr, Br, cr, nr, row, rfl, _, hcr, _, _, _, _, hrl, hrk⟩ := (MK.get sK 2 rfl).at_ (k := k) (by rw [HN.out]; exact hlt)
      have hnr : nr ≤ 20 := by rw [← hrl.out]; exact HRW.out row (List.mem_of_getElem? hrk.out)
      have hd20 : decide ((20 : Int) < nr) = false := decide_eq_false (by omega)
      clear sK hrl hrk
      go_wp2
      go_roundw
      case rel => exact ⟨k + 1, by omega, by go_num, hbr⟩
      case measure => simp [intOf]; omega
    · have hkn : decide ((k : Int) < N) = false := decide_eq_false (by omega)
      have HHR := Lib.hid (HR.out.below sK.2.1)
      have y5 : wr.cell? ⟨K0 + 1, 0, none⟩ = some (.int .u8 a) ∧ wr.cell? ⟨K0 + 1, 1, none⟩ = some (.int .u8 b) ∧ wr.cell? ⟨K0 + 1, 2, none⟩ = some (.int .u8 dd) ∧ wr.cell? ⟨K0 + 1, 3, none⟩ = some (.bool q) ∧ wr.cell? ⟨K0 + 1, 4, none⟩ = some (.slice A EL ca) := by
        have h1 := MK.get sK 0 rfl
        refine ⟨?_, ?_, ?_, ?_, ?_⟩ <;> (rw [cell_of_row _ _ _ _ _ _ h1]; rfl)
      obtain ⟨a3, a4, a5, a6, a7⟩ := y5
      clear SF hbr HRW
      go_wp2_with fail
      refine (CO.out _ HHR.out).mono ?_
      rintro e w1 ⟨B, kB, rfl, hrB, hb⟩
      have t1 := MK.putB (g := w1.heap.size) (MT.alloc (MK.putR (MT.next sK hb) hrB) (.cells #[.int .i64 i, .int .i64 o, .slice B n kB] 24)) (heap_alloc_new w1 _)
      clear hb hrB sK q0 q1 q2 a3 a4 a5 a6 a7 CO
      go_upto_region 9 with fail
      obtain ⟨gc, hgc⟩ : ∃ g, w1.heap.size = g := ⟨_, rfl⟩
      obtain ⟨W2, hW2⟩ : ∃ W, w1.alloc (.cells #[.int .i64 i, .int .i64 o, .slice B n kB] 24) = W := ⟨_, rfl⟩
      rw [hgc, hW2] at t1
      try rw [hgc]
      try rw [hW2]
      clear hgc hW2
      obtain ⟨q0, q1, q2⟩ := BxM.cells (MK.get t1 3 rfl)
      go_wp2_with fail
      refine (CK.out _ (MK.get t1 4 rfl)).mono ?_
      rintro e w2 ⟨rfl, hb⟩
      have t2 := MT.next t1 hb
      clear hb t1 q0 q1 q2 CK
      have hz0 : ((0 : Int) != 0) = false := rfl
      obtain ⟨p0, p1, p2⟩ := BxM.cells (MK.get t2 3 rfl)
      obtain ⟨m0, m1, m2⟩ := BxM.cells (MK.get t2 0 rfl)
      go_wp2_with fail
      refine (C1.out _ _ _ (MK.get t2 4 rfl) (MK.get t2 1 rfl)).mono ?_
      rintro e w3 ⟨ri1, ro1, P1, k1, c1, rfl, hRJ, hb⟩
      have t3 := MK.putB (g := w3.heap.size) (MT.alloc (MT.putK (MT.next t2 hb) hRJ.out ResJ.kept) (.cells #[.int .i64 ri1, .int .i64 ro1, .slice P1 k1 c1] 24)) (heap_alloc_new w3 _)
      clear hb hRJ t2 p0 p1 p2 m0 m1 m2 C1
      go_upto_region 11 with fail
      obtain ⟨v3, hw⟩ : ∃ q, w3.alloc (.cells #[.int .i64 ri1, .int .i64 ro1, .slice P1 k1 c1] 24) = q := ⟨_, rfl⟩
      obtain ⟨T1, hT⟩ : ∃ T, w3.heap.size = T := ⟨_, rfl⟩
      rw [hT, hw] at t3
      try rw [hw]
      try rw [hT]
      clear hw hT
      obtain ⟨p0, p1, p2⟩ := BxM.cells (MK.get t3 5 rfl)
      obtain ⟨m0, m1, m2⟩ := BxM.cells (MK.get t3 2 rfl)
      go_wp2_with fail
      refine (C2.out _ _ _ (MK.get t3 6 rfl) (MK.get t3 3 rfl)).mono ?_
      rintro e w4 ⟨ri2, ro2, P2, k2, c2, rfl, hRJ, hb⟩
      have t4 := MK.putB (g := w4.heap.size) (MT.alloc (MT.putK (MT.next t3 hb) hRJ.out ResJ.kept) (.cells #[.int .i64 ri2, .int .i64 ro2, .slice P2 k2 c2] 24)) (heap_alloc_new w4 _)
      clear hb hRJ t3 p0 p1 p2 m0 m1 m2 C2
      go_upto_region 12 with fail
      obtain ⟨v4, hw⟩ : ∃ q, w4.alloc (.cells #[.int .i64 ri2, .int .i64 ro2, .slice P2 k2 c2] 24) = q := ⟨_, rfl⟩
      obtain ⟨T2, hT⟩ : ∃ T, w4.heap.size = T := ⟨_, rfl⟩
      rw [hT, hw] at t4
      try rw [hw]
      try rw [hT]
      clear hw hT
      obtain ⟨p0, p1, p2⟩ := BxM.cells (MK.get t4 7 rfl)
      obtain ⟨m0, m1, m2⟩ := BxM.cells (MK.get t4 4 rfl)
      go_wp2_with fail
      refine (C3.out _ _ _ (MK.get t4 8 rfl) (MK.get t4 5 rfl)).mono ?_
      rintro e w5 ⟨ri3, ro3, P3, k3, c3, rfl, hRJ, hb⟩
      have t5 := MK.putB (g := w5.heap.size) (MT.alloc (MT.putK (MT.next t4 hb) hRJ.out ResJ.kept) (.cells #[.int .i64 ri3, .int .i64 ro3, .slice P3 k3 c3] 24)) (heap_alloc_new w5 _)
      clear hb hRJ t4 p0 p1 p2 m0 m1 m2 C3
      go_upto_region 19 with fail
      obtain ⟨v5, hw⟩ : ∃ q, w5.alloc (.cells #[.int .i64 ri3, .int .i64 ro3, .slice P3 k3 c3] 24) = q := ⟨_, rfl⟩
      obtain ⟨T3, hT⟩ : ∃ T, w5.heap.size = T := ⟨_, rfl⟩
      rw [hT, hw] at t5
      try rw [hw]
      try rw [hT]
      clear hw hT
      clear hz0
      have S9 := Lib.hid t5
      obtain ⟨m0, m1, m2⟩ := BxM.cells (MK.get t5 6 rfl)
      obtain ⟨p0, p1, p2⟩ := BxM.cells (MK.get t5 9 rfl)
      clear t5
      obtain ⟨b1, hq1⟩ : ∃ b, ((o : Int) != ri) = b := ⟨_, rfl⟩
      obtain ⟨b2, hq2⟩ : ∃ b, ((i : Int) != ri) = b := ⟨_, rfl⟩
      have g1 : (x1 == 5) = b1 := by
        rw [← hq1, E1.out]
        by_cases h : (o : Int) = ri
        · rw [if_neg (by simp [h])]; split <;> simp [h]
        · rw [if_pos h]; simp [h]
      have g2 : (x2 == 5) = b2 := by
        rw [← hq2, E2.out]
        by_cases h : (i : Int) = ri
        · rw [if_neg (by simp [h])]; split <;> (try split) <;> simp [h]
        · rw [if_pos (fun e => h e.symm)]; simp [h]
      have g3 : (x3 == 5) = b2 := by
        rw [← hq2, E3.out]
        by_cases h : (i : Int) = ri
        · rw [if_neg (by simp [h])]; split <;> simp [h]
        · rw [if_pos h]; simp [h]
      have gb1 : (b1 != b1) = false := by simp
      have gb2 : (b2 != b2) = false := by simp
      go_upto_if 164 with fail
      clear hq1 hq2 g1 g2 g3 gb1 gb2 m0 m1 m2 p0 p1 p2
      go_cut [22] from 164 to 193 (fun _ wx => Hid (Below v5.heap.size v5 wx))
      case first =>
        by_cases hs : (o : Int) = ri
        · have hsd : ((o : Int) == ri) = true := by rw [beq_iff_eq]; exact hs
          have hoi : M.o = Q.i := by rw [hmo.out, HQI.out]; exact hs
          have HJS : Hid (Mc.JS (i : Int) ro n N (Mc.serF M Q)) := by
            have h := Mc.ser_js V.out VQ.out hoi
            rw [hmi.out, HQO.out, hlen.out, HN.out] at h
            exact h
          have HS0 := Lib.hid hs
          clear hs hoi
          have CST : Hid (∀ wr, Below v5.heap.size v5 wr → ∀ s t k : Nat, s < n → t < N → k < i → Calls Try.prog 64 #[.agg #[.int .i64 i, .int .i64 o, .slice B n kB], .agg #[.int .i64 ri, .int .i64 ro, .slice X N cx], .int .i64 0, .agg #[.int .i64 s, .int .i64 t], .int .i64 k] wr (PzP wr (stp (Mc.serF M Q s t k)))) := fun wr hb s t k hs ht hk => by
            have s6 := MT.next S9.out hb
            have h := rstep_ser M Q V.out VQ.out (by rw [hmo.out, HQI.out]; exact HS0.out) B X n N kB cx s t k wr (MK.get s6 7 rfl) (MK.get s6 10 rfl) hlen.out HN.out hs ht (by rw [hmi.out]; omega)
            rwa [hmi.out, hmo.out, HQI.out, HQO.out] at h
          have CRE := Lib.hid (rreached_any (Mc.serF M Q) i n N 0 o ri ro ro B X kB cx v5 hi1 (by omega) hro.1 hn1 (by omega) hN1 hN64 HJS.out CST.out)
          obtain ⟨m0, m1, m2⟩ := BxM.cells (MK.get S9.out 6 rfl)
          obtain ⟨p0, p1, p2⟩ := BxM.cells (MK.get S9.out 9 rfl)
          go_wp2_with fail
          clear m0 m1 m2 p0 p1 p2
          refine CRE.out.mono ?_
          rintro e wa ⟨rfl, hba⟩
          rw [HJ1.out, HL1.out]
          have HBA := Lib.hid hba
          clear hba CRE
          have tA := MT.next S9.out HBA.out
          by_cases hL : 64 < L1
          · have hLd : decide ((64 : Int) < (L1 : Nat)) = true := decide_eq_true (by omega)
            have hLe : decide (((L1 : Nat) : Int) ≤ 64) = false := decide_eq_false (by omega)
            obtain rfl : x1 = 3 := by rw [E1.out, if_neg (by simp [HS0.out]), if_pos hL]
            obtain ⟨rfl, rfl, rfl, rfl, rfl⟩ := (MK.get S9.out 5 rfl : ResJ _ _ _ _ _ _ _ _ _ _).zero (by decide)
            obtain ⟨m0, m1, m2⟩ := BxM.cells (MK.get tA 4 rfl)
            clear tA
            go_wp2_with fail
            clear m0 m1 m2
            refine (nothing_yes 3 _).mono ?_
            rintro e wb ⟨rfl, hbb⟩
            have HBB := Lib.hid (below_next HBA.out hbb)
            clear hbb
            go_wp2_with fail
            go_meet
            exact HBB
          · have hLd : decide ((64 : Int) < (L1 : Nat)) = false := decide_eq_false (by omega)
            have hLe : decide (((L1 : Nat) : Int) ≤ 64) = true := decide_eq_true (by omega)
            obtain rfl : x1 = 0 := by rw [E1.out, if_neg (by simp [HS0.out]), if_neg hL]
            obtain ⟨rfl, rfl, rfl, hk1, p1, rfl, hE⟩ := (MK.get tA 5 rfl : ResJ _ _ _ _ _ _ _ _ _ _).rows rfl
            have hkL : k1 = L1 := by rw [← hk1, Mc.prt_len, HL1.out]
            have CJ := Lib.hid (rjoint_ser (Mc.serF M Q) i n N k1 o ri ro1 ro1 B X (some ⟨p1, 0, none⟩) kB cx k1 wa hi1 (by omega) hro.1 hro.2 hn1 (by omega) hN1 hN64 HJS.out rfl (fun wr hb => CST.out wr (below_next HBA.out hb)) (by rw [HJ1.out, HL1.out]; exact hkL.symm) (by omega) (by rw [HJ1.out]; exact Ex.rd hE))
            clear hkL hk1
            obtain ⟨m0, m1, m2⟩ := BxM.cells (MK.get tA 4 rfl)
            obtain ⟨g0, g1, g2⟩ := BxM.cells (MK.get tA 6 rfl)
            obtain ⟨p0, p1, p2⟩ := BxM.cells (MK.get tA 9 rfl)
            clear tA hE
            go_wp2_with fail
            clear m0 m1 m2 g0 g1 g2 p0 p1 p2
            refine CJ.out.mono ?_
            rintro e wb ⟨rfl, hbb⟩
            have HBB := Lib.hid (below_next HBA.out hbb)
            clear hbb CJ
            go_wp2_with fail
            go_meet
            exact HBB
        · have hsd : ((o : Int) == ri) = false := by rw [beq_eq_false_iff_ne]; exact hs
          clear hs
          go_wp2_with fail
          go_meet
          exact Below.refl _ _
      case rest =>
      obtain ⟨wR, hwR⟩ : ∃ x, x = wc := ⟨_, rfl⟩
      rw [← hwR] at hcut ⊢
      clear hwR
      have HB0 := Lib.hid hcut.out
      clear hcut
      obtain ⟨m0, m1, m2⟩ := BxM.cells (MK.get (MT.next S9.out HB0.out) 6 rfl)
      obtain ⟨p0, p1, p2⟩ := BxM.cells (MK.get (MT.next S9.out HB0.out) 9 rfl)
      by_cases hi : (i : Int) = ri
      · subst hi
        have hid : ((i : Int) == i) = true := by simp
        have hii : Q.i = M.i := by rw [hmi.out, HQI.out]
        have HJS : Hid (Mc.JS (i : Int) OO N n (Mc.parF Q M)) := by
          have h := Mc.par_js VQ.out V.out hii
          rw [HQI.out, HQO.out, hmo.out, hlen.out, HN.out, HOO.out] at h
          exact h
        have CST : Hid (∀ wr, Below v5.heap.size v5 wr → ∀ s t k : Nat, s < N → t < n → k < i → Calls Try.prog 64 #[.agg #[.int .i64 i, .int .i64 ro, .slice X N cx], .agg #[.int .i64 i, .int .i64 o, .slice B n kB], .int .i64 1, .agg #[.int .i64 s, .int .i64 t], .int .i64 k] wr (PzP wr (stp (Mc.parF Q M s t k)))) := fun wr hb s t k hs ht hk => by
          have s6 := MT.next S9.out hb
          have h := rstep_par Q M VQ.out V.out hii X B N n cx kB s t k wr (MK.get s6 10 rfl) (MK.get s6 7 rfl) HN.out hlen.out hs ht (by rw [HQI.out]; omega)
          rwa [hmi.out, hmo.out, HQI.out, HQO.out] at h
        have CRE := Lib.hid (rreached_any (Mc.parF Q M) i N n 1 ro i OO o X B cx kB wR hi1 (by omega) hOO1.1 hN1 hN64 hn1 (by omega) HJS.out (fun wr hb => CST.out wr (below_next HB0.out hb)))
        go_wp2_with fail
        clear m0 m1 m2 p0 p1 p2
        refine CRE.out.mono ?_
        rintro e wa ⟨rfl, hba⟩
        rw [HJ2.out, HL2.out]
        have HBA := Lib.hid (below_next HB0.out hba)
        clear hba CRE
        obtain ⟨m0, m1, m2⟩ := BxM.cells (MK.get (MT.next S9.out HBA.out) 6 rfl)
        obtain ⟨p0, p1, p2⟩ := BxM.cells (MK.get (MT.next S9.out HBA.out) 9 rfl)
        obtain ⟨GG, hGG⟩ : ∃ g : Bool, decide (64 < L2 ∨ 16 < OO) = g := ⟨_, rfl⟩
        go_upto_region 27 with fail
        go_cut [24] from 202 to 211 (fun v wx => v = .bool GG ∧ wx = wa)
        case first =>
          have hwp : IntKind.i64.wrap ((o : Int) * ro) = OO := by rw [Int.mul_comm, HOO.out]; exact IntWalk.i64_in _ (by omega)
          by_cases hL : 64 < L2
          · have hLd : decide ((64 : Int) < (L2 : Nat)) = true := decide_eq_true (by omega)
            obtain rfl : true = GG := by rw [← hGG]; exact (decide_eq_true (Or.inl hL)).symm
            go_wp2_with fail
            go_meet
            exact ⟨rfl, rfl⟩
          · have hLd : decide ((64 : Int) < (L2 : Nat)) = false := decide_eq_false (by omega)
            by_cases hO : 16 < OO
            · have hOd : decide ((16 : Int) < OO) = true := decide_eq_true hO
              obtain rfl : true = GG := by rw [← hGG]; exact (decide_eq_true (Or.inr hO)).symm
              go_wp2_with fail
              go_meet
              exact ⟨rfl, rfl⟩
            · have hOd : decide ((16 : Int) < OO) = false := decide_eq_false hO
              obtain rfl : false = GG := by rw [← hGG]; exact (decide_eq_false (fun h => h.elim hL hO)).symm
              go_wp2_with fail
              go_meet
              exact ⟨rfl, rfl⟩
        case rest =>
        obtain ⟨rfl, hwc⟩ := hcut
        rw [hwc]
        clear hwc m0 m1 m2 p0 p1 p2
        go_upto_region 28 with fail
        go_cut [233] from 212 to 233 (fun v wx => v = .bool false ∧ Hid (Below v5.heap.size v5 wx))
        case first =>
          cases GG with
          | true =>
            have hG := of_decide_eq_true hGG
            obtain rfl : x2 = 3 := by
              rw [E2.out, if_neg (by simp)]
              split
              · rfl
              · rename_i h; rw [if_pos (hG.resolve_right h)]
            obtain ⟨rfl, rfl, rfl, rfl, rfl⟩ := (MK.get S9.out 3 rfl : ResJ _ _ _ _ _ _ _ _ _ _).zero (by decide)
            obtain ⟨m0, m1, m2⟩ := BxM.cells (MK.get (MT.next S9.out HBA.out) 2 rfl)
            go_wp2_with fail
            clear m0 m1 m2
            refine (nothing_yes 3 _).mono ?_
            rintro e wb ⟨rfl, hbb⟩
            have HBB := Lib.hid (below_next HBA.out hbb)
            clear hbb
            go_wp2_with fail
            go_meet
            exact ⟨rfl, HBB⟩
          | false =>
            have hG := of_decide_eq_false hGG
            have hL : ¬ 64 < L2 := fun h => hG (Or.inl h)
            have hO : ¬ 16 < OO := fun h => hG (Or.inr h)
            obtain rfl : x2 = 0 := by rw [E2.out, if_neg (by simp), if_neg hO, if_neg hL]
            have hz0 : ((0 : Int) != 0) = false := rfl
            have tA := MT.next S9.out HBA.out
            obtain ⟨rfl, rfl, rfl, hk1, p1, rfl, hE⟩ := (MK.get tA 3 rfl : ResJ _ _ _ _ _ _ _ _ _ _).rows rfl
            have hk2 : k2 = L2 := by rw [← hk1, Mc.prt_len, HL2.out]
            have CJ := Lib.hid (rjoint_par (Mc.parF Q M) i N n k2 ro i ro2 o X B (some ⟨p1, 0, none⟩) cx kB k2 wa hi1 (by omega) hOO1.1 (by omega) hN1 hN64 hn1 (by omega) HJS.out HOO.out (fun wr hb => CST.out wr (below_next HBA.out hb)) (by rw [HJ2.out, HL2.out]; exact hk2.symm) (by omega) (by rw [HJ2.out]; exact Ex.rd hE))
            obtain ⟨m0, m1, m2⟩ := BxM.cells (MK.get tA 2 rfl)
            obtain ⟨g0, g1, g2⟩ := BxM.cells (MK.get tA 6 rfl)
            obtain ⟨p0, p1, p2⟩ := BxM.cells (MK.get tA 9 rfl)
            clear tA hE hk1 hk2
            go_wp2_with fail
            clear m0 m1 m2 g0 g1 g2 p0 p1 p2
            refine CJ.out.mono ?_
            rintro e wb ⟨rfl, hbb⟩
            have HBB := Lib.hid (below_next HBA.out hbb)
            clear hbb CJ
            go_wp2_with fail
            go_meet
            exact ⟨rfl, HBB⟩
        case rest =>
        obtain ⟨rfl, hcut⟩ := hcut
        obtain ⟨wS, hwS⟩ : ∃ x, x = wc := ⟨_, rfl⟩
        rw [← hwS] at hcut ⊢
        clear hwS
        have HB1 := Lib.hid hcut.out
        clear hcut CST HJS HBA HB0 hGG hid
        have HS : Hid (∀ W : World, Below v5.heap.size v5 W → (W.cell? ⟨T3, 0, none⟩ = some (.int .i64 ri3) ∧ W.cell? ⟨T3, 1, none⟩ = some (.int .i64 ro3) ∧ W.cell? ⟨T3, 2, none⟩ = some (.slice P3 k3 c3) ∧ W.cell? ⟨gc, 0, none⟩ = some (.int .i64 i) ∧ W.cell? ⟨gc, 1, none⟩ = some (.int .i64 o) ∧ W.cell? ⟨gc, 2, none⟩ = some (.slice B n kB) ∧ W.cell? ⟨K0, 0, none⟩ = some (.int .i64 i) ∧ W.cell? ⟨K0, 1, none⟩ = some (.int .i64 ro) ∧ W.cell? ⟨K0, 2, none⟩ = some (.slice X N cx))) := fun W hb => by
          have s6 := MT.next S9.out hb
          obtain ⟨a0, a1, a2⟩ := BxM.cells (MK.get s6 0 rfl)
          obtain ⟨b0, b1, b2⟩ := BxM.cells (MK.get s6 6 rfl)
          obtain ⟨d0, d1, d2⟩ := BxM.cells (MK.get s6 9 rfl)
          exact ⟨a0, a1, a2, b0, b1, b2, d0, d1, d2⟩
        obtain ⟨a0, a1, a2, b0, b1, b2, d0, d1, d2⟩ := HS.out _ HB1.out
        have hwn : IntKind.i64.wrap ((n : Int) + N) = (n : Int) + N := IntWalk.i64_in _ (by omega)
        have HD : Hid (Below wS.heap.size wS wS.drew) := (Below.refl _ _).drew
        have s0 := HS.out _ HB1.out
        have sD := HS.out _ (below_next HB1.out HD.out)
        obtain ⟨mm, hmm⟩ : ∃ g : Bool, decide ((64 : Int) < (n : Int) + N) = g := ⟨_, rfl⟩
        go_upto_region 31 with fail
        clear hwn
        have HB2 : Hid (∀ wx, Below wS.heap.size wS wx → Below w.heap.size w wx) := fun wx hb => (MT.next S9.out (below_next HB1.out hb)).2.1
        clear s0 sD a0 a1 a2 b0 b1 b2 d0 d1 d2 HD HS
        · cases mm with
          | true =>
            have hm : 64 < n + N := by have := of_decide_eq_true hmm; omega
            clear hmm
            obtain rfl : x3 = 3 := by rw [E3.out, if_neg (by simp), if_pos hm]
            obtain ⟨rfl, rfl, rfl, rfl, rfl⟩ := (MK.get S9.out 1 rfl : ResJ _ _ _ _ _ _ _ _ _ _).zero (by decide)
            have hB3 : BxM wS T3 0 0 none 0 0 := MK.get (MT.next S9.out HB1.out) 0 rfl
            refine region_hopsG (n := 263) [some 242, some 243, some 244, some 245, some 246, some 247, some 248, some 249, some 250, some 251, some 252, some 253, some 254, some 255, some 256, some 257, some 258, some 259, some 260, some 261] [kv (.bool true), kv (.bool true), kv (.agg #[.int .i64 0, .int .i64 0, .slice none 0 0]), kv (.int .i64 3), kv (.bool true), kv (.bool false), kv (.bool false), kv (.bool false), kv (.bool true), kv (.bool false), kv (.bool false), kTop, kTop, kTop, kTop, kTop, kTop, kTop, kv (.bool false), kv (.bool false)] rfl (by kernel_rfl) (by kernel_rfl) (by kernel_rfl) rfl (fun _ => rfl) ?hh ?_
            case hh =>
              refine ⟨Or.inl ⟨hop_outer rfl rfl rfl rfl rfl, Or.inl rfl⟩, ?_⟩
              refine ⟨Or.inl ⟨hop_move (j := 0) (Or.inl rfl) rfl rfl rfl rfl rfl, Or.inl rfl⟩, ?_⟩
              refine ⟨Or.inl ⟨hop_load rfl rfl rfl hB3 rfl rfl, Or.inr (Or.inl ⟨1, 243, rfl, rfl, rfl, rfl⟩)⟩, ?_⟩
              refine ⟨Or.inl ⟨hop_outer rfl rfl rfl rfl rfl, Or.inr (Or.inl ⟨1, 243, rfl, rfl, rfl, rfl⟩)⟩, ?_⟩
              refine ⟨Or.inl ⟨hop_nothing (j := 2) (j1 := 3) rfl rfl rfl rfl rfl rfl rfl rfl rfl, Or.inr (Or.inl ⟨1, 243, rfl, rfl, rfl, rfl⟩)⟩, ?_⟩
              refine ⟨Or.inl ⟨hop_not (j := 4) rfl rfl rfl rfl rfl rfl, Or.inr (Or.inl ⟨1, 243, rfl, rfl, rfl, rfl⟩)⟩, ?_⟩
              refine ⟨Or.inl ⟨hop_pickT (j := 1) (k := 5) rfl rfl rfl rfl rfl rfl rfl rfl rfl, Or.inl rfl⟩, ?_⟩
              refine ⟨Or.inl ⟨hop_move (j := 6) (Or.inl rfl) rfl rfl rfl rfl rfl, Or.inl rfl⟩, ?_⟩
              refine ⟨Or.inl ⟨hop_outer rfl rfl rfl rfl rfl, Or.inr (Or.inr ⟨7, 249, rfl, rfl, rfl, rfl⟩)⟩, ?_⟩
              refine ⟨Or.inl ⟨hop_not (j := 8) rfl rfl rfl rfl rfl rfl, Or.inr (Or.inr ⟨7, 249, rfl, rfl, rfl, rfl⟩)⟩, ?_⟩
              refine ⟨Or.inl ⟨hop_move (j := 9) (Or.inl rfl) rfl rfl rfl rfl rfl, Or.inr (Or.inr ⟨7, 249, rfl, rfl, rfl, rfl⟩)⟩, ?_⟩
              refine ⟨Or.inr ⟨Or.inr ⟨10, 252, rfl, rfl, rfl, rfl⟩, rfl⟩, ?_⟩
              refine ⟨Or.inr ⟨Or.inr ⟨10, 252, rfl, rfl, rfl, rfl⟩, rfl⟩, ?_⟩
              refine ⟨Or.inr ⟨Or.inr ⟨10, 252, rfl, rfl, rfl, rfl⟩, rfl⟩, ?_⟩
              refine ⟨Or.inr ⟨Or.inr ⟨10, 252, rfl, rfl, rfl, rfl⟩, rfl⟩, ?_⟩
              refine ⟨Or.inr ⟨Or.inr ⟨10, 252, rfl, rfl, rfl, rfl⟩, rfl⟩, ?_⟩
              refine ⟨Or.inr ⟨Or.inr ⟨10, 252, rfl, rfl, rfl, rfl⟩, rfl⟩, ?_⟩
              refine ⟨Or.inr ⟨Or.inr ⟨10, 252, rfl, rfl, rfl, rfl⟩, rfl⟩, ?_⟩
              refine ⟨Or.inl ⟨hop_pickF (j := 10) rfl rfl rfl rfl rfl rfl, Or.inr (Or.inr ⟨7, 249, rfl, rfl, rfl, rfl⟩)⟩, ?_⟩
              refine ⟨Or.inl ⟨hop_pickE (j := 7) (k := 18) rfl rfl rfl rfl rfl rfl rfl rfl rfl, Or.inl rfl⟩, ?_⟩
              trivial
            intro a wz hb9 hsz hdf hf hall
            have h0 : a.tmps.getD 261 undef = .bool false := hall 19 _ _ rfl rfl
            have h1 : a.tmps[261]?.getD undef = .bool false := by simpa using h0
            have hfin := Lib.hid (HB2.out _ hb9)
            clear hall hf hb9 HB2
            rename_i k0 hH0 wq k1 hH1
            refine hH1 a wz (wp_cond_false (by simp [go_sem, h1]) (wp_skip ?_))
            refine hH0 a wz ?_
            clear hH0 hH1
            obtain ⟨tm, df⟩ := a
            simp only at h1 hsz hdf
            go_wp2_with fail
            refine (jlives_walk _).mono ?_
            rintro e w9 ⟨rfl, hb9⟩
            have hfin2 := Lib.hid (below_next hfin.out hb9)
            clear hb9
            go_wp2
            refine bodyPost_ret (v := .bool true) (by simp [results, Try.f10, go_sem, hsz]) rfl ?_
            exact ⟨rfl, hfin2.out⟩
          | false =>
            have hm : ¬ 64 < n + N := by have := of_decide_eq_false hmm; omega
            clear hmm
            obtain rfl : x3 = 0 := by rw [E3.out, if_neg (by simp), if_neg hm]
            obtain ⟨rfl, rfl, rfl, hk3, p3, rfl, hE⟩ := (MK.get S9.out 1 rfl : ResJ _ _ _ _ _ _ _ _ _ _).rows rfl
            have hK : n + N = k3 := by rw [← hk3, Mc.bes_len, hlen.out, HN.out]
            have sS := MT.next S9.out HB1.out
            have hB3 : BxM wS T3 i ro3 (some ⟨p3, 0, none⟩) k3 k3 := MK.get sS 0 rfl
            have hBC : BxM wS gc i o B n kB := MK.get sS 6 rfl
            have hBK : BxM wS K0 i ro X N cx := MK.get sS 9 rfl
            have HE := hE.below HB1.out
            have CB : ∀ wr, Below wS.heap.size wS wr → Calls Try.prog 42 #[.agg #[.int .i64 i, .int .i64 o, .slice B n kB], .agg #[.int .i64 i, .int .i64 ro, .slice X N cx]] wr (BesP wr i ro3 k3 (Mc.bes M Q).r) := fun wr hb => by
              have s6 := MT.next sS hb
              have h := beside_any M Q i o ro B X n kB N cx wr (MK.get s6 7 rfl) hlen.out (MK.get s6 10 rfl) HN.out (by omega) (by omega) (by omega) (fun row hr => by rw [VQ.out.len row hr, HQI.out]) (fun row hr e he => by have := VQ.out.ok row hr e he; have := VQ.out.r1; omega)
              rw [HO3.out, hK] at h
              have e : M.r ++ Q.r.map (fun row => row.map (Mc.sh n)) = (Mc.bes M Q).r := by show _ = M.r ++ Q.r.map (fun row => row.map (Mc.sh M.r.length)); rw [hlen.out]
              rwa [e] at h
            refine region_hopsG (n := 263) [some 242, some 243, some 244, some 245, some 246, some 247, some 248, some 249, some 250, some 251, some 252, some 253, some 254, some 255, some 256, some 257, some 258, some 259, some 260, some 261] [kv (.bool false), kv (.bool false), kTop, kTop, kTop, kTop, kv (.bool false), kv (.bool false), kv (.bool false), kv (.bool true), kv (.bool true), kv (.agg #[.int .i64 i, .int .i64 ro3, .slice (some ⟨p3, 0, none⟩) k3 k3]), kv (.int .i64 0), kv (.agg #[.int .i64 i, .int .i64 o, .slice B n kB]), kv (.agg #[.int .i64 i, .int .i64 ro, .slice X N cx]), kRes i ro3 k3 (Mc.bes M Q).r, kv (.bool true), kv (.bool false), kv (.bool false), kv (.bool false)] rfl (by kernel_rfl) (by kernel_rfl) (by kernel_rfl) rfl (fun _ => rfl) ?hh ?_
            case hh =>
              refine ⟨Or.inl ⟨hop_outer rfl rfl rfl rfl rfl, Or.inl rfl⟩, ?_⟩
              refine ⟨Or.inl ⟨hop_move (j := 0) (Or.inl rfl) rfl rfl rfl rfl rfl, Or.inl rfl⟩, ?_⟩
              refine ⟨Or.inr ⟨Or.inr ⟨1, 243, rfl, rfl, rfl, rfl⟩, rfl⟩, ?_⟩
              refine ⟨Or.inr ⟨Or.inr ⟨1, 243, rfl, rfl, rfl, rfl⟩, rfl⟩, ?_⟩
              refine ⟨Or.inr ⟨Or.inr ⟨1, 243, rfl, rfl, rfl, rfl⟩, rfl⟩, ?_⟩
              refine ⟨Or.inr ⟨Or.inr ⟨1, 243, rfl, rfl, rfl, rfl⟩, rfl⟩, ?_⟩
              refine ⟨Or.inl ⟨hop_pickF (j := 1) rfl rfl rfl rfl rfl rfl, Or.inl rfl⟩, ?_⟩
              refine ⟨Or.inl ⟨hop_move (j := 6) (Or.inl rfl) rfl rfl rfl rfl rfl, Or.inl rfl⟩, ?_⟩
              refine ⟨Or.inl ⟨hop_outer rfl rfl rfl rfl rfl, Or.inr (Or.inr ⟨7, 249, rfl, rfl, rfl, rfl⟩)⟩, ?_⟩
              refine ⟨Or.inl ⟨hop_not (j := 8) rfl rfl rfl rfl rfl rfl, Or.inr (Or.inr ⟨7, 249, rfl, rfl, rfl, rfl⟩)⟩, ?_⟩
              refine ⟨Or.inl ⟨hop_move (j := 9) (Or.inl rfl) rfl rfl rfl rfl rfl, Or.inr (Or.inr ⟨7, 249, rfl, rfl, rfl, rfl⟩)⟩, ?_⟩
              refine ⟨Or.inl ⟨hop_load rfl rfl rfl hB3 rfl rfl, Or.inr (Or.inl ⟨10, 252, rfl, rfl, rfl, rfl⟩)⟩, ?_⟩
              refine ⟨Or.inl ⟨hop_outer rfl rfl rfl rfl rfl, Or.inr (Or.inl ⟨10, 252, rfl, rfl, rfl, rfl⟩)⟩, ?_⟩
              refine ⟨Or.inl ⟨hop_load rfl rfl rfl hBC rfl rfl, Or.inr (Or.inl ⟨10, 252, rfl, rfl, rfl, rfl⟩)⟩, ?_⟩
              refine ⟨Or.inl ⟨hop_load rfl rfl rfl hBK rfl rfl, Or.inr (Or.inl ⟨10, 252, rfl, rfl, rfl, rfl⟩)⟩, ?_⟩
              refine ⟨Or.inl ⟨hop_beside (j := 13) (j1 := 14) rfl CB rfl rfl rfl rfl rfl rfl rfl rfl, Or.inr (Or.inl ⟨10, 252, rfl, rfl, rfl, rfl⟩)⟩, ?_⟩
              refine ⟨Or.inl ⟨hop_machineG (j := 11) (j1 := 12) (j2 := 15) rfl HE rfl rfl rfl rfl rfl rfl rfl rfl rfl rfl rfl, Or.inr (Or.inl ⟨10, 252, rfl, rfl, rfl, rfl⟩)⟩, ?_⟩
              refine ⟨Or.inl ⟨hop_not (j := 16) rfl rfl rfl rfl rfl rfl, Or.inr (Or.inl ⟨10, 252, rfl, rfl, rfl, rfl⟩)⟩, ?_⟩
              refine ⟨Or.inl ⟨hop_pickT (j := 10) (k := 17) rfl rfl rfl rfl rfl rfl rfl rfl rfl, Or.inr (Or.inr ⟨7, 249, rfl, rfl, rfl, rfl⟩)⟩, ?_⟩
              refine ⟨Or.inl ⟨hop_pickE (j := 7) (k := 18) rfl rfl rfl rfl rfl rfl rfl rfl rfl, Or.inl rfl⟩, ?_⟩
              trivial
            intro a wz hb9 hsz hdf hf hall
            have h0 : a.tmps.getD 261 undef = .bool false := hall 19 _ _ rfl rfl
            have h1 : a.tmps[261]?.getD undef = .bool false := by simpa using h0
            have hfin := Lib.hid (HB2.out _ hb9)
            clear hall hf hb9 HB2
            rename_i k0 hH0 wq k1 hH1
            refine hH1 a wz (wp_cond_false (by simp [go_sem, h1]) (wp_skip ?_))
            refine hH0 a wz ?_
            clear hH0 hH1
            obtain ⟨tm, df⟩ := a
            simp only at h1 hsz hdf
            go_wp2_with fail
            refine (jlives_walk _).mono ?_
            rintro e w9 ⟨rfl, hb9⟩
            have hfin2 := Lib.hid (below_next hfin.out hb9)
            clear hb9
            go_wp2
            refine bodyPost_ret (v := .bool true) (by simp [results, Try.f10, go_sem, hsz]) rfl ?_
            exact ⟨rfl, hfin2.out⟩
      · have hid : ((i : Int) == ri) = false := by rw [beq_eq_false_iff_ne]; exact hi
        go_wp2_with fail
        refine (jlives_walk _).mono ?_
        rintro e w9 ⟨rfl, hb9⟩
        have hfin := Lib.hid (MT.next S9.out (below_next HB0.out hb9)).2.1
        clear hb9
        go_wp2
        go_ret
        exact ⟨rfl, hfin.out⟩

theorem jerr_walk (ri ro : Int) (X : Option Addr) (cx : Nat) (rs : List (List Ed)) (a b dd : Int) (q : Bool) (A : Option Addr) (ca : Nat) (es : List Int) (w : World) (hx : RdR w X rs) (h16 : Rd16 w A es) (hle : es.length ≤ 9223372036854775807) (ha : 0 ≤ a ∧ a ≤ 255) (hb : 0 ≤ b ∧ b ≤ 255) (hd : 0 ≤ dd ∧ dd ≤ 255) :
    Calls Try.prog 10 #[.agg #[.int .i64 ri, .int .i64 ro, .slice X rs.length cx], .agg #[.int .u8 a, .int .u8 b, .int .u8 dd, .bool q, .slice A es.length ca]] w fun e w' => e = .returned (.bool true) ∧ Below w.heap.size w w' := by
  by_cases g1 : 70 < rs.length
  · exact jerr_early ri ro X cx _ rs a b dd q A ca _ w hx rfl (.inl g1)
  by_cases g3 : ∃ (j : Nat) (row : List Ed), rs[j]? = some row ∧ 20 < row.length
  · exact jerr_early ri ro X cx _ rs a b dd q A ca _ w hx rfl (.inr g3)
  have hrw : ∀ row ∈ rs, row.length ≤ 20 := fun row hrow => by
    obtain ⟨j, hj⟩ := List.mem_iff_getElem?.1 hrow
    rcases Nat.lt_or_ge 20 row.length with h | h
    · exact absurd ⟨j, row, hj, h⟩ g3
    · exact h
  obtain ⟨n, hn⟩ : ∃ n : Nat, 1 + a % 6 = n := ⟨(1 + a % 6).toNat, by omega⟩
  obtain ⟨i, hi⟩ : ∃ i : Nat, 1 + b % 3 = i := ⟨(1 + b % 3).toNat, by omega⟩
  obtain ⟨o, ho⟩ : ∃ o : Nat, 1 + dd % 3 = o := ⟨(1 + dd % 3).toNat, by omega⟩
  have V := Mc.mkN_val (p := q) (n := n) (i := i) (o := o) (es := es) (by omega) (by omega) (by omega) (by omega) (by omega) (by omega)
  have CO : Hid (∀ w, Rd16 w A es → Calls Try.prog 21 #[.agg #[.int .u8 a, .int .u8 b, .int .u8 dd, .bool q, .slice A es.length ca]] w fun e w' => ∃ B k, e = .returned (.agg #[.int .i64 i, .int .i64 o, .slice B n k]) ∧ RdR w' B (Mc.mkN q n i o es).r ∧ Below w.heap.size w w') := fun w hr =>
    (mofB_at a b dd q A ca es n i o w hr hle ha hb hd hn hi ho).mono fun e w' ⟨B, k, vs, he, hB, hbl⟩ => ⟨B, k, he, hB.out.two, hbl⟩
  by_cases hz : Mc.chk ⟨ri, ro, rs⟩ = 0
  · exact jerr_V ⟨ri, ro, rs⟩ (Mc.mkN q n i o es) ri ro X cx _ a b dd q A ca _ es n i o w hx rfl rfl rfl (by omega) hrw h16 V (Mc.mkN_len _ _ _ _ _) rfl rfl (by omega) (by omega) (by omega) CO hz
  · exact jerr_Z ⟨ri, ro, rs⟩ (Mc.mkN q n i o es) ri ro X cx _ a b dd q A ca _ es n i o w hx rfl rfl rfl (by omega) hrw h16 V (Mc.mkN_len _ _ _ _ _) rfl rfl (by omega) (by omega) (by omega) CO _ rfl hz
end Go.Proofs.Ytcbmohcjmofomaa
