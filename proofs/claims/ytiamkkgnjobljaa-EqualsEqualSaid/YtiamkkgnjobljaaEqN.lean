/-
  The mathematics of minimal forms and equality: the rows of minimal forms are the same exactly if machines have the same responses. No program. No statement is proved here.
-/
import Derived.Test.YtiamkkgnjobljaaQnH
import Derived.Test.YtiamkkgnjobljaaEqM
namespace Go.Proofs.Ytiamkkgnjobljaa.Mc
open M (rk)

/-- The machine with another number of outputs. -/
def wo (m : Ma) (o : Int) : Ma := ⟨m.i, o, m.r⟩
theorem wo_nx (m : Ma) (o s c : Int) : nx (wo m o) s c = nx m s c := rfl
theorem wo_run (m : Ma) (o : Int) : ∀ (w : List Int) (s : Int), run (wo m o) s w = run m s w
  | [], _ => rfl
  | c :: w, s => by simp only [run, wo_nx, wo_run m o w]
theorem wo_val {m : Ma} (v : Val m) {o : Int} (h1 : m.o ≤ o) (h2 : o ≤ 16) : Val (wo m o) where
  i0 := v.i0
  i1 := v.i1
  o0 := by show 1 ≤ o; have := v.o0; omega
  o1 := h2
  r0 := v.r0
  r1 := v.r1
  len := v.len
  ok := fun row hr x hx => by
    rcases v.ok row hr x hx with h | ⟨a, b, c, d⟩
    · exact Or.inl h
    · exact Or.inr ⟨a, b, c, by show x.2 < o; omega⟩
theorem wo_rnd (m : Ma) (o : Int) : ∀ k, rnd (wo m o) k = rnd m k
  | 0 => rfl
  | k + 1 => by
    show rfd (wo m o) (rnd (wo m o) k) = rfd m (rnd m k)
    rw [wo_rnd m o k]
    rfl
theorem wo_cls {m : Ma} (v : Val m) (o : Int) : cls (wo m o) = cls m := by
  rw [← cls_all (m := wo m o) v.r0, ← cls_all (m := m) v.r0, wo_rnd]
  rfl
theorem wo_bfR (m : Ma) (o : Int) (x : Wv) : ∀ (k : Nat) (Q : List Wv), bfR (wo m o) x k Q = bfR m x k Q
  | 0, _ => rfl
  | k + 1, Q => by
    simp only [bfR]
    rw [wo_bfR m o x k Q]
    rfl
theorem wo_bfG (m : Ma) (o : Int) : ∀ (f p : Nat) (Q : List Wv), bfG (wo m o) f p Q = bfG m f p Q
  | 0, _, _ => rfl
  | f + 1, p, Q => by
    simp only [bfG]
    cases Q[p]? with
    | none => rfl
    | some x =>
      show bfG (wo m o) f (p + 1) (bfR (wo m o) x m.i.toNat Q) = _
      rw [wo_bfR, wo_bfG m o f]
theorem wo_ord (m : Ma) (o : Int) : ord (wo m o) = ord m := by
  unfold ord wk
  rw [wo_bfG]
  rfl
theorem wo_fst {m : Ma} (v : Val m) (o : Int) (L : List Int) : fst_ (wo m o) L = fst_ m L := by unfold fst_; rw [wo_cls v]
theorem wo_mpg {m : Ma} (v : Val m) (o : Int) (L : List Int) : mpg (wo m o) L = mpg m L := by
  funext s
  unfold mpg
  rw [wo_fst v, wo_cls v]
theorem wo_qn {m : Ma} (v : Val m) (o : Int) : (qn (wo m o)).r = (qn m).r := by
  unfold qn mnf pg
  rw [wo_ord, wo_fst v, wo_mpg v]
  rfl
/-- Machines have the same responses exactly if their minimal forms have the same rows. -/
theorem sim_qn {a b : Ma} (va : Val a) (vb : Val b) (hi : a.i = b.i) : Sim a b ↔ (qn a).r = (qn b).r := by
  constructor
  · intro h
    have h1 : a.o ≤ max a.o b.o := Int.le_max_left _ _
    have h2 : b.o ≤ max a.o b.o := Int.le_max_right _ _
    have h3 : max a.o b.o ≤ 16 := Int.max_le.2 ⟨va.o1, vb.o1⟩
    have va' := wo_val va h1 h3
    have vb' := wo_val vb h2 h3
    have hs : Sim (wo a (max a.o b.o)) (wo b (max a.o b.o)) := ⟨hi, fun w hw => by rw [wo_run, wo_run]; exact h.run w hw⟩
    have e := mnf_same va' vb' (ord_ord va') (ord_ord vb') hs rfl
    have e2 : (qn (wo a (max a.o b.o))).r = (qn (wo b (max a.o b.o))).r := congrArg Ma.r e
    rw [wo_qn va, wo_qn vb] at e2
    exact e2
  · intro h
    refine ⟨hi, fun w hw => ?_⟩
    have s1 := mnf_sim_ va (ord_ord va)
    have s2 := mnf_sim_ vb (ord_ord vb)
    have e1 : run (qn a) 0 w = run (qn b) 0 w := by
      have : qn b = wo (qn a) b.o := by
        have hb : (qn b) = ⟨(qn b).i, (qn b).o, (qn b).r⟩ := rfl
        rw [hb, ← h]
        show _ = (⟨a.i, b.o, (qn a).r⟩ : Ma)
        rw [hi]
        rfl
      rw [this, wo_run]
    exact ((s1.run w hw).trans e1).trans (s2.run w (hw.of_i hi)).symm
end Go.Proofs.Ytiamkkgnjobljaa.Mc
