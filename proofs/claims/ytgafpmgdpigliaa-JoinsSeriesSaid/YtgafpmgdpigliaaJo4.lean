/-
  Memory of joint: pairs with their numbers, the queue of pairs, rows. No statement is proved here.
-/
import Derived.Test.YtgafpmgdpigliaaJo3
import Derived.Test.YtgafpmgdpigliaaEa2
import Derived.BigRegionIn
import Derived.Deep.AppendLies
namespace Go.Proofs.Ytgafpmgdpigliaa
open Go.RowKit Go.Maps Go.WideMaps
open Mc (Ed Ma Wv nE)

namespace Mc
theorem bfR_mono (m : Ma) (x : Wv) (Q : List Wv) (k : Nat) : ∀ d, bfR m x k Q <+: bfR m x (k + d) Q
  | 0 => List.prefix_refl _
  | d + 1 => (bfR_mono m x Q k d).trans (bfE_pre m x _ (k + d))
end Mc
/-! ### Maps from pairs to their numbers -/
theorem zeroIJ (w : World) : (zeroValue 3).run Try.prog w = .ok (.int .i64 0) w := by kernel_rfl
theorem wfJ {z : Int} (h1 : 0 ≤ z) (h2 : z ≤ 100000) : (Lit.int .i64 z).wf = true := WalkArith.wf_i64 ⟨by omega, by omega⟩
/-- Block b is a map from pairs to their places in a list. -/
def PNum (w : World) (b n : Nat) (S : List (Int × Int)) : Prop := ∃ D : DataW Unit, w.ownsMap Try.prog 84 (plainElem (H := Unit) Try.prog 3) b n D ∧ (∀ p ∈ S, InQ p) ∧ (∀ p, InQ p → Maps.has D (kP p) = decide (p ∈ S)) ∧ ∀ (k : Nat) p, S[k]? = some p → D.atKey (kP p) (.lit (.int .i64 0)) = .lit (.int .i64 k)
section
variable {w w' : World} {b n : Nat} {S : List (Int × Int)}
theorem PNum.made (w : World) : PNum (w.alloc (.map #[] 0)) w.heap.size 0 [] := ⟨.map [], World.ownsMap_made w _ _ _, fun _ h => by simp at h, fun p _ => by simp; rfl, fun k p h => by simp at h⟩
theorem PNum.lt (h : PNum w b n S) : b < w.heap.size := by obtain ⟨D, h1, _⟩ := h; exact h1.lt
theorem PNum.block (h : PNum w b n S) (hb : w'.heap[b]? = w.heap[b]?) : PNum w' b n S := by
  obtain ⟨D, ⟨es, cl, h1, h2⟩, h3⟩ := h
  exact ⟨D, ⟨es, cl, hb.trans h1, h2⟩, h3⟩
theorem PNum.isMap (h : PNum w b n S) : ∃ es c, w.heap[b]? = some (.map es c) := by
  obtain ⟨D, ⟨es, cl, h1, _⟩, _⟩ := h
  exact ⟨es, cl, h1⟩
theorem PNum.look_no (h : PNum w b n S) {x y : Int} (hp : InQ (x, y)) (hn : (x, y) ∉ S) : ∃ c : Int, (Instr.lookup 136 (.map (some b)) (.agg #[.int .i64 x, .int .i64 y]) true).run Try.prog w = .ok (.tuple #[.int .i64 c, .bool false]) w := by
  obtain ⟨D, h1, _, h2, _⟩ := h
  obtain ⟨v, ps, hrun, hv⟩ := h1.look_ok pairLaw Try.underlying136 (zeroIJ w) (plainElem_int Try.underlying3 (by decide)) (kP_key hp)
  obtain ⟨c, rfl, hc, hwc⟩ := plainElem_int_inv Try.underlying3 hv
  rw [h2 _ hp, decide_eq_false hn] at hrun
  exact ⟨c, hrun⟩
set_option maxRecDepth 100000 in
theorem PNum.look_yes (h : PNum w b n S) {x y : Int} {k : Nat} (hk : S[k]? = some (x, y)) : (Instr.lookup 136 (.map (some b)) (.agg #[.int .i64 x, .int .i64 y]) true).run Try.prog w = .ok (.tuple #[.int .i64 k, .bool true]) w := by
  obtain ⟨D, h1, h0, h2, h3⟩ := h
  have hp := h0 _ (List.mem_of_getElem? hk)
  obtain ⟨v, ps, hrun, hv⟩ := h1.look_ok pairLaw Try.underlying136 (zeroIJ w) (plainElem_int Try.underlying3 (by decide)) (kP_key hp)
  obtain ⟨c, rfl, hc, hwc⟩ := plainElem_int_inv Try.underlying3 hv
  rw [h2 _ hp, decide_eq_true (List.mem_of_getElem? hk)] at hrun
  have e : (k : Int) = c := by
    have h := (h3 k _ hk).symm.trans (congrArg Prod.fst hc)
    injection h with h
    injection h with _ h
  rw [e]
  exact hrun
theorem PNum.put (h : PNum w b n S) (hn : n < maxLen) (hl : S.length ≤ 100000) {x y : Int} (hp : InQ (x, y)) (hnew : (x, y) ∉ S) : ∃ w', (Instr.mapUpdate 136 (.map (some b)) (.agg #[.int .i64 x, .int .i64 y]) (.int .i64 S.length)).run Try.prog w = .ok () w' ∧ PNum w' b (n + 1) (S ++ [(x, y)]) ∧ w.grownBy w' (some b) := by
  obtain ⟨D, h1, h3, h2, h4⟩ := h
  obtain ⟨w', hrun, ho, hg⟩ := h1.update pairLaw Try.underlying136 hn (kP_key hp) (plainElem_int Try.underlying3 (wfJ (z := (S.length : Int)) (by omega) (by omega)))
  refine ⟨w', hrun, ⟨_, ho, fun p hp2 => ?_, fun p hp2 => ?_, fun k p hk => ?_⟩, hg⟩
  · rcases List.mem_append.1 hp2 with h5 | h5
    · exact h3 p h5
    · simp at h5; subst h5; exact hp
  · by_cases e : p = (x, y)
    · subst e
      rw [has_put_same h1.isMap (pairLaw.key (kP_key hp2))]
      simp
    · rw [has_put_other (fun e1 => e (kP_inj hp2 hp e1)), h2 p hp2]
      simp [e]
  · rw [List.getElem?_append] at hk
    split at hk
    · have hne : p ≠ (x, y) := fun e => hnew (e ▸ List.mem_of_getElem? hk)
      rw [atKey_put_other (fun e1 => hne (kP_inj (h3 p (List.mem_of_getElem? hk)) hp e1)), h4 k p hk]
    · rename_i hge
      have hk0 : k = S.length := by
        have := (List.getElem?_eq_some_iff.1 hk).1
        simp at this
        omega
      subst hk0
      simp at hk
      subst hk
      rw [atKey_put_same h1.isMap (pairLaw.key (kP_key hp))]
end
/-- Edges and rows of edges lie as they lay. -/
def Kt (W W' : World) : Prop := ∀ (b : Nat) cs t fr, W.heap[b]? = some (.cells cs t fr) → (t = 27 ∨ t = 29) → W'.heap[b]? = some (.cells cs t fr)
theorem Kt.refl (W : World) : Kt W W := fun _ _ _ _ h _ => h
theorem Kt.trans {W W1 W2 : World} (h : Kt W W1) (k : Kt W1 W2) : Kt W W2 := fun b cs t fr h1 ht => k b cs t fr (h b cs t fr h1 ht) ht
theorem Kt.below {W W1 W2 : World} (h : Kt W W1) (k : Below W1.heap.size W1 W2) : Kt W W2 := fun b cs t fr h1 ht => (k.block b (heap_lt (h b cs t fr h1 ht))).trans (h b cs t fr h1 ht)
theorem Kt.grown {W W1 W2 : World} {G : Nat} (h : Kt W W1) (k : W1.grownBy W2 (some G)) (hG : ∀ cs t fr, W1.heap[G]? = some (.cells cs t fr) → t ≠ 27 ∧ t ≠ 29) : Kt W W2 := fun b cs t fr h1 ht => by
  have h2 := h b cs t fr h1 ht
  refine (k.block b (heap_lt h2) ?_).trans h2
  intro e
  injection e with e
  subst e
  have := hG cs t fr h2
  rcases ht with e | e
  · exact this.1 e
  · exact this.2 e
theorem Kt.setNew {W W1 : World} {g off : Nat} (h : Kt W W1) (hg : W.heap.size ≤ g) (v : Value) : Kt W (W1.setCell ⟨g, off, none⟩ v) := fun b cs t fr h1 ht => (Below.heap_setCell _ _ _ _ (show b ≠ g by have := heap_lt h1; omega)).trans (h b cs t fr h1 ht)
theorem Bld.kt {W W' : World} {base : Nat} {V : Value} {rs : List (List Ed)} {vs : List Value} (h : Bld W base V rs vs) (k : Kt W W') : Bld W' base V rs vs := by
  have key : ∀ {e : TypeId} {s n : Nat} {v : Value} {xs : List Value}, (e = 27 ∨ e = 29) → W.ownsRow base e s v n xs → W'.ownsRow base e s v n xs := fun he h => by
    refine ⟨h.1, ?_⟩
    rcases h.2 with h0 | ⟨g, cap, cur, e1, hb, hg, rest⟩
    · exact .inl h0
    · exact .inr ⟨g, cap, cur, e1, hb, k g _ _ _ hg he, rest⟩
  exact ⟨key (Or.inr rfl) h.1, fun j row hj => by
    obtain ⟨g, c, h1, h2⟩ := h.2 j row hj
    exact ⟨g, c, h1, key (Or.inl rfl) h2⟩⟩

/-- The memory of joint. -/
structure Jw (w : World) (nb : Nat) (Q : List Wv) (V : Value) (W : World) : Prop where
  bel : Below w.heap.size w W
  rz : W.heap[w.heap.size]? = some (.cells #[.int .i64 0, .int .i64 0, .slice none 0 0] 24)
  mp : PNum W (w.heap.size + 1) Q.length (Q.map (pq nb))
  qo : W.ownsRow (w.heap.size + 2) 84 2 V Q.length (eC (Q.map (pq nb)))
section
variable {w W W' : World} {nb : Nat} {Q : List Wv} {V : Value}
theorem Jw.sz (h : Jw w nb Q V W) : w.heap.size + 2 ≤ W.heap.size := by have := h.mp.lt; omega
theorem Jw.below (h : Jw w nb Q V W) (k : Below W.heap.size W W') : Jw w nb Q V W' :=
  ⟨below_next h.bel k, (k.block _ (heap_lt h.rz)).trans h.rz, h.mp.block (k.block _ h.mp.lt), own_below h.qo k⟩
theorem own_farJ {base n : Nat} {V : Value} {xs : List Value} {g off : Nat} {cs : Array Value} {fr : Nat × Nat} (h : W.ownsRow base 84 2 V n xs) (hg : W.heap[g]? = some (.cells cs 27 fr)) (v : Value) : (W.setCell ⟨g, off, none⟩ v).ownsRow base 84 2 V n xs := by
  refine ⟨h.1, ?_⟩
  rcases h.2 with h0 | ⟨g', cap, cur, e1, hb, hg', rest⟩
  · exact .inl h0
  · refine .inr ⟨g', cap, cur, e1, hb, (Below.heap_setCell _ _ _ _ (show g' ≠ g from ?_)).trans hg', rest⟩
    rintro rfl
    rw [hg] at hg'
    injection hg' with hg'
    injection hg' with _ hg' _
    exact absurd hg' (by decide)
theorem Jw.far {g off : Nat} {cs : Array Value} {fr : Nat × Nat} (h : Jw w nb Q V W) (hg : W.heap[g]? = some (.cells cs 27 fr)) (hg2 : w.heap.size + 2 ≤ g) (v : Value) : Jw w nb Q V (W.setCell ⟨g, off, none⟩ v) :=
  ⟨h.bel.setCell (p := ⟨g, off, none⟩) (by show w.heap.size ≤ g; omega) v, (Below.heap_setCell _ _ _ _ (show w.heap.size ≠ g by omega)).trans h.rz, h.mp.block (Below.heap_setCell _ _ _ _ (show w.heap.size + 1 ≠ g by omega)), own_farJ h.qo hg v⟩
/-- One pair more. -/
theorem Jw.more {x : Wv} {wp w5 w6 : World} {V' : Value} (h : Jw w nb Q V W) (hb : Below W.heap.size W W') (hmp : PNum wp (w.heap.size + 1) (Q.length + 1) (Q.map (pq nb) ++ [pq nb x])) (hg : W'.grownBy wp (some (w.heap.size + 1))) (h5 : Below wp.heap.size wp w5)
    (h6 : w5.grownBy w6 V.ownBlock) (ho : w6.ownsRow (w.heap.size + 2) 84 2 V' (Q.length + 1) (eC (Q.map (pq nb) ++ [pq nb x]))) : Jw w nb (Q ++ [x]) V' w6 := by
  have h1 := h.below hb
  have hz := h1.rz
  have hl : ∀ j, V.ownBlock = some j → w.heap.size + 2 ≤ j := fun j hj => (h.qo.lt j hj).1
  have r1 := (hg.block w.heap.size (heap_lt hz) (by intro e; injection e with e; omega)).trans hz
  have r2 := (h5.block _ (heap_lt r1)).trans r1
  have r3 := (h6.block _ (heap_lt r2) (by intro e; have := hl _ e.symm; omega)).trans r2
  have m2 := (h5.block (w.heap.size + 1) hmp.lt)
  have m3 := hmp.block ((h6.block (w.heap.size + 1) (by have := hmp.lt; have := h5.size; omega) (by intro e; have := hl _ e.symm; omega)).trans m2)
  refine ⟨?_, r3, by rw [List.length_append, List.map_append]; exact m3, by rw [List.length_append, List.map_append]; exact ho⟩
  have b1 := h1.bel.grown hg h1.bel.size (fun j e => by injection e with e; omega)
  have b2 := below_next b1 h5
  exact b2.grown h6 b2.size (fun j e => by have := hl j e; omega)
end
theorem pairJ_info : (Try.prog.info? 84).map (fun i => (i.zero, i.size, i.bytes)) = some (some (.agg #[.int .i64 0, .int .i64 0]), 2, 16) := by kernel_rfl
theorem wpList_append_pairG (wr : World) {ops : Array Oper} {rest : List Oper} {o : Oper} {a : Act} {Q : Exit → Act → World → Prop} {B : Nat} {v : Value} {xs : List (Int × Int)} (x y : Int)
    (hown : wr.ownsRow B 84 2 v xs.length (eC xs)) (hlen : xs.length ≤ 1000000) (hB : B ≤ wr.heap.size) (hgd : o.guard = none) (s z : Operand)
    (ho : o.op = .call { callee := .builtin .append, args := #[s, z], argTypes := #[36, 36] }) (hs : a.eval s = v) (hx : a.eval z = .slice (some ⟨wr.heap.size, 0, none⟩) 1 1)
    (h : ∀ v1 w1, w1.ownsRow B 84 2 v1 (xs.length + 1) (eC (xs ++ [(x, y)])) → (wr.alloc (.cells #[.int .i64 x, .int .i64 y] 84)).grownBy w1 v.ownBlock → wpList Try.prog ops Q rest (a.put o.dst v1) w1) :
    wpList Try.prog ops Q (o :: rest) a (wr.alloc (.cells #[.int .i64 x, .int .i64 y] 84)) := by
  obtain ⟨i0, hi0, hI0, hI1, hI2⟩ := info_parts pairJ_info
  refine wpList_append_own _ hgd s z 36 ho B 84 i0 (.agg #[.int .i64 0, .int .i64 0]) 2 16 Try.underlying36 hi0 hI0 hI1 hI2 rfl (by decide) v xs.length (eC xs) hs (hown.alloc _) ⟨wr.heap.size, 0, none⟩ 1 1 [.int .i64 x, .int .i64 y] hx rfl ?_ ?_ ?_ ?_ ?_ ?_
  · intro j u hj
    rw [Addr.add_lit, World.cell?_alloc_at _ _ _ _ rfl]
    match j, hj with
    | 0, hj => simpa using hj
    | 1, hj => simpa using hj
  · intro u hu
    simp at hu
    rcases hu with rfl | rfl <;> rfl
  · unfold maxLen; omega
  · omega
  · simp; omega
  · intro v1 w1 h1 hg _
    refine h v1 w1 ?_ hg
    rw [eC_app, eC_one]
    exact h1
theorem wpList_append_rowG (wr : World) {ops : Array Oper} {rest : List Oper} {o : Oper} {a : Act} {Q : Exit → Act → World → Prop} {B n : Nat} {v : Value} {vs : List Value} (x : Value) (hx1 : x.oneCell' = true)
    (hown : wr.ownsRow B 29 1 v n vs) (hlen : n ≤ 1000000) (hB : B ≤ wr.heap.size) (hgd : o.guard = none) (s z : Operand)
    (ho : o.op = .call { callee := .builtin .append, args := #[s, z], argTypes := #[22, 22] }) (hs : a.eval s = v) (hx : a.eval z = .slice (some ⟨wr.heap.size, 0, none⟩) 1 1)
    (h : ∀ v1 w1, w1.ownsRow B 29 1 v1 (n + 1) (vs ++ [x]) → (wr.alloc (.cells #[x] 29)).grownBy w1 v.ownBlock → wpList Try.prog ops Q rest (a.put o.dst v1) w1) :
    wpList Try.prog ops Q (o :: rest) a (wr.alloc (.cells #[x] 29)) := by
  obtain ⟨i0, hi0, hI0, hI1, hI2⟩ := info_parts row_info
  refine wpList_append_own _ hgd s z 22 ho B 29 i0 (.slice none 0 0) 1 24 Try.underlying22 hi0 hI0 hI1 hI2 rfl (by decide) v n vs hs (hown.alloc _) ⟨wr.heap.size, 0, none⟩ 1 1 [x] hx rfl ?_ ?_ ?_ ?_ ?_ ?_
  · intro j u hj
    rw [Addr.add_lit, World.cell?_alloc_at _ _ _ _ rfl]
    match j, hj with
    | 0, hj => simpa using hj
  · intro u hu
    simp at hu
    rw [hu]; exact hx1
  · unfold maxLen; omega
  · omega
  · simp; omega
  · intro v1 w1 h1 hg _
    exact h v1 w1 h1 hg
end Go.Proofs.Ytgafpmgdpigliaa
