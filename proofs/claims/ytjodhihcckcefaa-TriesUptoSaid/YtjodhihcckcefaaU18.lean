/-
  Maps keyed by words that hold numbers, told by a function. No statement is proved here.
-/
import Derived.Test.YtjodhihcckcefaaU17
namespace Go.Proofs.Ytjodhihcckcefaa
open Go.RowKit Go.Maps

theorem zeroI (w : World) : (zeroValue 3).run Try.prog w = .ok (.int .i64 0) w := by kernel_rfl
/-- What a map holds: at a word a number, or nothing. -/
abbrev Nf := List Int → Option Int
structure MpN (D : DataW Unit) (f : Nf) : Prop where
  has : ∀ x, M.By x → Maps.has D (.string (M.kU x)) = (f x).isSome
  at_ : ∀ x, M.By x → D.atKey (.string (M.kU x)) (.lit (.int .i64 0)) = .lit (.int .i64 ((f x).getD 0))
def updN (f : Nf) (x : List Int) (b : Int) : Nf := fun y => if y = x then some b else f y
theorem MpN.start : MpN (.map []) (fun _ => none) := ⟨fun _ _ => rfl, fun _ _ => rfl⟩
theorem MpN.put {D : DataW Unit} {f : Nf} (h : MpN D f) (hm : IsMap D) {x : List Int} (hx : M.By x) (b : Int) : MpN (D.put (.string (M.kU x)) (.lit (.int .i64 b))) (updN f x b) := by
  refine ⟨fun y hy => ?_, fun y hy => ?_⟩
  · unfold updN
    by_cases e : y = x
    · subst e
      rw [has_put_same hm (show WideAt.IsKeyLit (.string (M.kU y)) from trivial), if_pos rfl]
      rfl
    · rw [has_put_other (fun e1 => e (M.kU_inj hy hx (by injection e1))), if_neg e, h.has y hy]
  · unfold updN
    by_cases e : y = x
    · subst e
      rw [atKey_put_same hm (show WideAt.IsKeyLit (.string (M.kU y)) from trivial), if_pos rfl]
      rfl
    · rw [atKey_put_other (fun e1 => e (M.kU_inj hy hx (by injection e1))), if_neg e, h.at_ y hy]
/-- Block b is a map of at most n words that holds what f tells. -/
def MpI (w : World) (b n : Nat) (f : Nf) : Prop := ∃ D, w.ownsMap Try.prog 9 (plainElem (H := Unit) Try.prog 3) b n D ∧ MpN D f
section
variable {w w' : World} {b n : Nat} {f : Nf}
theorem MpI.make (w : World) : MpI (w.alloc (.map #[] 0)) w.heap.size 0 (fun _ => none) := ⟨_, World.ownsMap_made w _ _ _, MpN.start⟩
theorem MpI.lt (h : MpI w b n f) : b < w.heap.size := by
  obtain ⟨D, h1, _⟩ := h
  exact h1.lt
theorem MpI.kept {row : Option Nat} (h : MpI w b n f) (hg : w.grownBy w' row) (hne : some b ≠ row) : MpI w' b n f := by
  obtain ⟨D, h1, h2⟩ := h
  exact ⟨D, h1.kept hg hne, h2⟩
theorem MpI.mv {B : Nat} (h : MpI w b n f) (hb : Below B w w') (hB : b < B) : MpI w' b n f := by
  obtain ⟨D, ⟨es, cl, h1, h3⟩, h2⟩ := h
  exact ⟨D, ⟨es, cl, (hb.block _ hB).trans h1, h3⟩, h2⟩
theorem MpI.same (h : MpI w b n f) (hb : w'.heap[b]? = w.heap[b]?) : MpI w' b n f := by
  obtain ⟨D, ⟨es, cl, h1, h3⟩, h2⟩ := h
  exact ⟨D, ⟨es, cl, hb.trans h1, h3⟩, h2⟩
theorem MpI.obj (h : MpI w b n f) : ∃ o, w.heap[b]? = some o ∧ ∀ cs T fr, o ≠ Obj.cells cs T fr := by
  obtain ⟨D, ⟨es, cl, h1, h3⟩, h2⟩ := h
  exact ⟨_, h1, fun _ _ _ e => by cases e⟩
theorem MpI.look (h : MpI w b n f) {x : List Int} (hx : M.By x) (hl : x.length ≤ 1000) {z : Int} (hz : (f x).getD 0 = z) : (Instr.lookup 88 (.map (some b)) (keyV x) false).run Try.prog w = .ok (.int .i64 z) w := by
  obtain ⟨D, h1, h2⟩ := h
  obtain ⟨v, ps, hr, hv⟩ := h1.lookup lawK Try.underlying88 (zeroI w) (plainElem_int Try.underlying3 (by decide)) (keyK hl)
  rw [h2.at_ x hx, hz] at hv
  obtain ⟨a, rfl, e, _⟩ := plainElem_int_inv Try.underlying3 hv
  simp only [Prod.mk.injEq, DataW.lit.injEq, Lit.int.injEq] at e
  rw [hr, e.1.2]
end
theorem wpList_iput (w : World) {ops : Array Oper} {rest : List Oper} {o : Oper} {a : Act} {Q : Exit → Act → World → Prop} (hg : o.guard = none) (m x v : Operand) (hop : o.op = Op.mapUpdate 88 m x v)
    (b n : Nat) (f : Nf) (hm : a.eval m = .map (some b)) (hM : MpI w b n f) (hn : n < maxLen) (y : List Int) (k : Nat) (hx : a.eval x = keyV y) (hv : a.eval v = .int .i64 k) (hk : k ≤ 1000000) (hy : M.By y) (hl : y.length ≤ 1000)
    (hK : ∀ w', MpI w' b (n + 1) (updN f y k) → w.grownBy w' (some b) → wpList Try.prog ops Q rest (a.put o.dst undef) w') : wpList Try.prog ops Q (o :: rest) a w := by
  obtain ⟨D, h1, h2⟩ := hM
  exact wpList_mapUpdate_own w hg m x v _ hop 9 3 lawK Try.underlying88 _ b n D hm h1 hn _ _ _ hx hv (keyK hl) _ [] (plainElem_int Try.underlying3 (WalkArith.wf_i64 (by omega))) (fun w' h3 h4 => hK w' ⟨_, h3, h2.put (h1.tidy lawK).isMap hy k⟩ h4)
end Go.Proofs.Ytjodhihcckcefaa
