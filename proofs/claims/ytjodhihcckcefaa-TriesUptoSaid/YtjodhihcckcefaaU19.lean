/-
  Nodes of a trie in memory, and the trie of a list as mathematics. No statement is proved here.
-/
import Derived.Test.YtjodhihcckcefaaU18
namespace Go.Proofs.Ytjodhihcckcefaa
open Go.RowKit Go.Maps

/-- What a node holds: the numbers of the next ones, and whether a word ends here. -/
abbrev Nd := List Int × Bool
/-- Block g has places for NN nodes; the first ones hold ns, each with a block of its own of n numbers. -/
def Nds (w : World) (g lo n NN : Nat) (ns : List Nd) : Prop := ∃ (cs : Array Value) (gs : Nat → Nat), w.heap[g]? = some (.cells cs 64 (0, 0)) ∧ cs.size = NN * 2 ∧ (∀ i j, i < ns.length → j < ns.length → gs i = gs j → i = j) ∧
  ∀ (i : Nat) (x : Nd), ns[i]? = some x → lo ≤ gs i ∧ x.1.length = n ∧ cs[i * 2]? = some (.slice (some ⟨gs i, 0, none⟩) n n) ∧ cs[i * 2 + 1]? = some (.bool x.2) ∧ Blk w (gs i) x.1
/-- A slice over A reads as nodes. -/
def RdN (w : World) (A : Option Addr) (ns : List Nd) : Prop := 0 < ns.length → ∃ b off, A = some ⟨b, off, none⟩ ∧ b < w.heap.size ∧ ∀ (i : Nat) (x : Nd), ns[i]? = some x → ∃ B c, w.cell? ⟨b, off + i * 2, none⟩ = some (.slice B x.1.length c) ∧ w.cell? ⟨b, off + i * 2 + 1, none⟩ = some (.bool x.2) ∧ Rd w B x.1
theorem RdN.below {w w' : World} {A : Option Addr} {ns : List Nd} (h : RdN w A ns) (hb : Below w.heap.size w w') : RdN w' A ns := fun hp => by
  obtain ⟨b, off, e, hl, hc⟩ := h hp
  refine ⟨b, off, e, by have := hb.size; omega, fun i x hx => ?_⟩
  obtain ⟨B, c, h1, h2, h3⟩ := hc i x hx
  exact ⟨B, c, ((bcell hb).1 _ _ hl).trans h1, ((bcell hb).1 _ _ hl).trans h2, h3.below hb⟩
theorem RdN.at_ {w : World} {A : Option Addr} {ns : List Nd} (h : RdN w A ns) {i : Nat} {x : Nd} (hx : ns[i]? = some x) : ∃ b off B c m, A = some ⟨b, off, none⟩ ∧ b < w.heap.size ∧ w.cell? ⟨b, off + i * 2, none⟩ = some (.slice B m c) ∧ w.cell? ⟨b, off + i * 2 + 1, none⟩ = some (.bool x.2) ∧ Rd w B x.1 ∧ Hid (x.1.length = m) := by
  obtain ⟨b, off, e, hl, hc⟩ := h (by have := (List.getElem?_eq_some_iff.1 hx).1; omega)
  obtain ⟨B, c, h1, h2, h3⟩ := hc i x hx
  exact ⟨b, off, B, c, _, e, hl, h1, h2, h3, rfl⟩
theorem RdN.nil_ {w : World} {A : Option Addr} : RdN w A [] := fun h => absurd h (by simp)
theorem blk_ne {w : World} {g h : Nat} {cs : Array Value} {x : List Int} (hg : w.heap[g]? = some (.cells cs 64 (0, 0))) (hx : Blk w h x) : h ≠ g := fun e => by
  subst e
  unfold Blk at hx
  rw [hg] at hx
  injection hx with hx
  injection hx with _ hx _
  exact absurd hx (by decide)
section
variable {w w' : World} {g lo n NN : Nat} {ns : List Nd}
theorem Nds.lt (h : Nds w g lo n NN ns) : g < w.heap.size := by
  obtain ⟨cs, gs, h1, _⟩ := h
  exact heap_ltT h1
theorem Nds.len (h : Nds w g lo n NN ns) : ns.length ≤ NN := by
  obtain ⟨cs, gs, h1, h2, h3, h4⟩ := h
  rcases Nat.lt_or_ge NN ns.length with h5 | h5
  · exfalso
    obtain ⟨_, _, h6, _, _⟩ := h4 NN _ (List.getElem?_eq_getElem h5)
    have := (Array.getElem?_eq_some_iff.1 h6).1
    omega
  · exact h5
theorem Nds.below (h : Nds w g lo n NN ns) (hb : Below w.heap.size w w') : Nds w' g lo n NN ns := by
  have hl := h.lt
  obtain ⟨cs, gs, h1, h2, h3, h4⟩ := h
  refine ⟨cs, gs, (hb.block g hl).trans h1, h2, h3, fun i x hx => ?_⟩
  obtain ⟨a1, a2, a3, a4, a5⟩ := h4 i x hx
  exact ⟨a1, a2, a3, a4, a5.below hb a5.lt⟩
/-- Nothing of it changes where blocks that are no cells change. -/
theorem Nds.grown {b : Nat} {o : Obj} (h : Nds w g lo n NN ns) (hg : w.grownBy w' (some b)) (hb : w.heap[b]? = some o) (ho : ∀ cs T fr, o ≠ Obj.cells cs T fr) : Nds w' g lo n NN ns := by
  have key : ∀ (k : Nat) cs T fr, w.heap[k]? = some (.cells cs T fr) → w'.heap[k]? = some (.cells cs T fr) := fun k cs T fr hk => by
    refine (hg.block k (heap_ltT hk) fun e => ?_).trans hk
    injection e with e
    subst e
    rw [hk] at hb
    injection hb with hb
    exact ho _ _ _ hb.symm
  obtain ⟨cs, gs, h1, h2, h3, h4⟩ := h
  refine ⟨cs, gs, key _ _ _ _ h1, h2, h3, fun i x hx => ?_⟩
  obtain ⟨a1, a2, a3, a4, a5⟩ := h4 i x hx
  exact ⟨a1, a2, a3, a4, key _ _ _ _ a5⟩
theorem Nds.at_ (h : Nds w g lo n NN ns) {i : Nat} (hi : i < NN) : ∃ u v, w.cell? ⟨g, i * 2, none⟩ = some u ∧ w.cell? ⟨g, i * 2 + 1, none⟩ = some v ∧ w.frozen? ⟨g, i * 2, none⟩ = false ∧ w.frozen? ⟨g, i * 2 + 1, none⟩ = false := by
  obtain ⟨cs, gs, h1, h2, h3, h4⟩ := h
  refine ⟨cs[i * 2]'(by omega), cs[i * 2 + 1]'(by omega), ?_, ?_, by simp [World.frozen?, h1], by simp [World.frozen?, h1]⟩
  · rw [cell_of_row w g _ _ _ _ h1, Array.getElem?_eq_getElem]
  · rw [cell_of_row w g _ _ _ _ h1, Array.getElem?_eq_getElem]
/-- One node more. -/
theorem Nds.push {w0 : World} {h' k : Nat} {x : List Int} (h : Nds w0 g lo n NN ns) (hb : Below w0.heap.size w0 w) (hh : w0.heap.size ≤ h') (hx : Blk w h' x) (hn : x.length = n) (hk : ns.length = k) (hkN : k < NN) (hlo : lo ≤ h') :
    Nds ((w.setCell ⟨g, k * 2, none⟩ (.slice (some ⟨h', 0, none⟩) n n)).setCell ⟨g, k * 2 + 1, none⟩ (.bool false)) g lo n NN (ns ++ [(x, false)]) := by
  subst hk
  have hgl := h.lt
  obtain ⟨cs, gs, h1, h2, h3, h4⟩ := h
  have hg1 : w.heap[g]? = some (.cells cs 64 (0, 0)) := (hb.block g hgl).trans h1
  have hlt : ∀ i, i < ns.length → gs i < w0.heap.size := fun i hi => (h4 i _ (List.getElem?_eq_getElem hi)).2.2.2.2.lt
  have keep : ∀ (k : Nat) (y : List Int), Blk w k y → Blk ((w.setCell ⟨g, ns.length * 2, none⟩ (.slice (some ⟨h', 0, none⟩) n n)).setCell ⟨g, ns.length * 2 + 1, none⟩ (.bool false)) k y := fun k y hy => by
    have hne := blk_ne hg1 hy
    exact ((Below.heap_setCell _ _ _ _ hne).trans (Below.heap_setCell _ _ _ _ hne)).trans hy
  refine ⟨(cs.setIfInBounds (ns.length * 2) (.slice (some ⟨h', 0, none⟩) n n)).setIfInBounds (ns.length * 2 + 1) (.bool false), fun i => if i = ns.length then h' else gs i, ?_, by simp [h2], ?_, ?_⟩
  · simp [World.setCell, Array.getElem?_modify, hg1]
  · intro i j hi hj e
    rw [List.length_append, List.length_singleton] at hi hj
    simp only at e
    by_cases e1 : i = ns.length <;> by_cases e2 : j = ns.length
    · omega
    · rw [if_pos e1, if_neg e2] at e
      have := hlt j (by omega)
      omega
    · rw [if_neg e1, if_pos e2] at e
      have := hlt i (by omega)
      omega
    · rw [if_neg e1, if_neg e2] at e
      exact h3 i j (by omega) (by omega) e
  · intro i y hy
    rcases Nat.lt_trichotomy i ns.length with hi | hi | hi
    · rw [List.getElem?_append_left hi] at hy
      obtain ⟨a1, a2, a3, a4, a5⟩ := h4 i y hy
      simp only
      rw [if_neg (by omega)]
      refine ⟨a1, a2, ?_, ?_, keep _ _ (a5.below hb a5.lt)⟩
      · rw [Array.getElem?_setIfInBounds_ne (by omega), Array.getElem?_setIfInBounds_ne (by omega)]; exact a3
      · rw [Array.getElem?_setIfInBounds_ne (by omega), Array.getElem?_setIfInBounds_ne (by omega)]; exact a4
    · subst hi
      rw [List.getElem?_append_right (Nat.le_refl _)] at hy
      simp at hy
      subst hy
      simp only [if_true]
      refine ⟨hlo, hn, ?_, ?_, keep _ _ hx⟩
      · rw [Array.getElem?_setIfInBounds_ne (by omega), Array.getElem?_setIfInBounds_self_of_lt (by omega)]
      · rw [Array.getElem?_setIfInBounds_self_of_lt (by simp; omega)]
    · rw [List.getElem?_eq_none (by simp; omega)] at hy
      cases hy
/-- A node's next ones, and a number written among them. -/
theorem Nds.next (h : Nds w g lo n NN ns) {i : Nat} {x : Nd} (hx : ns[i]? = some x) : ∃ h', w.cell? ⟨g, i * 2, none⟩ = some (.slice (some ⟨h', 0, none⟩) n n) ∧ lo ≤ h' ∧ x.1.length = n ∧ Blk w h' x.1 ∧ ∀ (z : Nat) (v : Int), Nds (w.setCell ⟨h', z, none⟩ (.int .i64 v)) g lo n NN (ns.set i (x.1.set z v, x.2)) := by
  obtain ⟨cs, gs, h1, h2, h3, h4⟩ := h
  obtain ⟨a1, a2, a3, a4, a5⟩ := h4 i x hx
  have hil := (List.getElem?_eq_some_iff.1 hx).1
  refine ⟨gs i, by rw [cell_of_row w g _ _ _ _ h1]; exact a3, a1, a2, a5, fun z v => ⟨cs, gs, (Below.heap_setCell _ _ _ _ (fun e => blk_ne h1 a5 e.symm)).trans h1, h2, fun j k hj hk => h3 j k (by simpa using hj) (by simpa using hk), fun j y hy => ?_⟩⟩
  by_cases e : i = j
  · subst e
    rw [List.getElem?_set_self hil] at hy
    injection hy with hy
    subst hy
    exact ⟨a1, by simpa using a2, a3, a4, a5.set_ z v⟩
  · rw [List.getElem?_set_ne e] at hy
    obtain ⟨b1, b2, b3, b4, b5⟩ := h4 j y hy
    have hjl := (List.getElem?_eq_some_iff.1 hy).1
    exact ⟨b1, b2, b3, b4, (Below.heap_setCell _ _ _ _ (fun e2 => e (h3 j i hjl hil e2).symm)).trans b5⟩
/-- A node marked as an end. -/
theorem Nds.mark (h : Nds w g lo n NN ns) {i : Nat} {x : Nd} (hx : ns[i]? = some x) (b : Bool) : Nds (w.setCell ⟨g, i * 2 + 1, none⟩ (.bool b)) g lo n NN (ns.set i (x.1, b)) := by
  obtain ⟨cs, gs, h1, h2, h3, h4⟩ := h
  have hil := (List.getElem?_eq_some_iff.1 hx).1
  obtain ⟨a1, a2, a3, a4, a5⟩ := h4 i x hx
  have hcl := (Array.getElem?_eq_some_iff.1 a4).1
  refine ⟨cs.setIfInBounds (i * 2 + 1) (.bool b), gs, by simp [World.setCell, Array.getElem?_modify, h1], by simp [h2], fun j k hj hk => h3 j k (by simpa using hj) (by simpa using hk), fun j y hy => ?_⟩
  by_cases e : i = j
  · subst e
    rw [List.getElem?_set_self hil] at hy
    injection hy with hy
    subst hy
    exact ⟨a1, a2, by rw [Array.getElem?_setIfInBounds_ne (by omega)]; exact a3, by rw [Array.getElem?_setIfInBounds_self_of_lt hcl], (Below.heap_setCell _ _ _ _ (blk_ne h1 a5)).trans a5⟩
  · rw [List.getElem?_set_ne e] at hy
    obtain ⟨b1, b2, b3, b4, b5⟩ := h4 j y hy
    exact ⟨b1, b2, by rw [Array.getElem?_setIfInBounds_ne (by omega)]; exact b3, by rw [Array.getElem?_setIfInBounds_ne (by omega)]; exact b4, (Below.heap_setCell _ _ _ _ (blk_ne h1 b5)).trans b5⟩
theorem Nds.rdn (h : Nds w g lo n NN ns) : RdN w (some ⟨g, 0, none⟩) ns := fun _ => by
  have hl := h.lt
  obtain ⟨cs, gs, h1, h2, h3, h4⟩ := h
  refine ⟨g, 0, rfl, hl, fun i x hx => ?_⟩
  obtain ⟨a1, a2, a3, a4, a5⟩ := h4 i x hx
  refine ⟨some ⟨gs i, 0, none⟩, n, ?_, ?_, a5.rd⟩
  · rw [Nat.zero_add, cell_of_row w g _ _ _ _ h1, a2]; exact a3
  · rw [Nat.zero_add, cell_of_row w g _ _ _ _ h1]; exact a4
end
theorem node_info2 : (Try.prog.info? 64).map (fun i => (i.zero, i.size, i.bytes)) = some (some (.agg #[.slice none 0 0, .bool false]), 2, 32) := by kernel_rfl
/-- make([]Node, n). -/
theorem wpList_make_nodes (w : World) {ops : Array Oper} {rest : List Oper} {o : Oper} {a : Act} {Q : Exit → Act → World → Prop}
    (hg : o.guard = none) (l c : Operand) (hop : o.op = Op.makeSlice 54 l c) (q : Nat) (hl : a.eval l = .int .i64 q) (hc : a.eval c = .int .i64 q) (hq : q ≤ 1000000)
    (hK : ∀ w', Hid (∀ lo n, Nds w' w.heap.size lo n q []) → Below w.heap.size w w' → w'.heap.size = w.heap.size + 1 → wpList Try.prog ops Q rest (a.put o.dst (.slice (some ⟨w.heap.size, 0, none⟩) q q)) w') :
    wpList Try.prog ops Q (o :: rest) a w := by
  refine wpList_plain hg fun K hK' => ?_
  obtain ⟨i, hi, hz, hz1, hz2⟩ := info_parts node_info2
  have hrun := run_make (P := Try.prog) w 54 64 i _ Try.underlying54 hi hz .i64 .i64 q q (by omega) (Int.le_refl _) (by rw [hz2]; omega) (by omega)
  simp only [Int.toNat_natCast, hz1] at hrun
  unfold Oper.wp
  simp [execOp, hop, hl, hc, hrun, Result.andThen]
  refine hK' _ _ (hK _ (fun lo n => ⟨_, fun _ => 0, heap_alloc_new w _, size_madeCells _ _, fun i j hi => by simp at hi, fun i x hx => by simp at hx⟩) ((Below.refl _ _).alloc (Nat.le_refl _) _) (by simp))
/-! ### The trie of a list -/
def ixS (S : List (List Int)) (y : List Int) : Int := if y ∈ S then (S.idxOf y : Int) else -1
def nxS (S : List (List Int)) (n : Nat) (y : List Int) : List Int := (List.range n).map fun (z : Nat) => ixS S (y ++ [(z : Int)])
def trN (S rows : List (List Int)) (n : Nat) : List Nd := S.map fun y => (nxS S n y, decide (y ∈ rows))
/-- The nodes of the first words. -/
def trK (T : List (List Int)) (n : Nat) : List Nd := T.map fun y => (nxS T n y, false)
def nbF (T : List (List Int)) : Nf := fun y => if y ∈ T then some (T.idxOf y : Int) else none
theorem nxS_len (S : List (List Int)) (n : Nat) (y : List Int) : (nxS S n y).length = n := by simp [nxS]
theorem set_idx {α β : Type} [DecidableEq α] [BEq α] [LawfulBEq α] (f : α → β) (v : β) : ∀ {l : List α} {a : α}, l.Nodup → a ∈ l → (l.map f).set (l.idxOf a) v = l.map fun y => if y = a then v else f y
  | [], _, _, h => absurd h (by simp)
  | b :: l, a, hn, h => by
    have hn2 := List.nodup_cons.1 hn
    by_cases e : b = a
    · subst e
      rw [List.idxOf_cons_self, List.map_cons, List.map_cons, List.set_cons_zero, if_pos rfl]
      congr 1
      refine List.map_congr_left fun y hy => ?_
      rw [if_neg (fun e => hn2.1 (by rw [← e]; exact hy))]
    · have h2 : a ∈ l := by
        rcases List.mem_cons.1 h with h | h
        · exact absurd h.symm e
        · exact h
      rw [show (b :: l).idxOf a = l.idxOf a + 1 by rw [List.idxOf_cons, show (b == a) = false from beq_eq_false_iff_ne.2 e]; rfl, List.map_cons, List.map_cons, List.set_cons_succ, if_neg e, set_idx f v hn2.2 h2]
theorem idx_old {T : List (List Int)} {x y : List Int} (h : y ∈ T) : (T ++ [x]).idxOf y = T.idxOf y := by rw [List.idxOf_append, if_pos h]
theorem idx_new {T : List (List Int)} {x : List Int} (h : ¬ x ∈ T) : (T ++ [x]).idxOf x = T.length := by rw [List.idxOf_append, if_neg h, List.idxOf_cons_self, Nat.zero_add]
theorem ixS_old {T : List (List Int)} {x y : List Int} (h : y ∈ T) : ixS (T ++ [x]) y = ixS T y := by
  unfold ixS
  rw [if_pos (by simp [h]), if_pos h, idx_old h]
theorem ixS_new {T : List (List Int)} {x : List Int} (h : ¬ x ∈ T) : ixS (T ++ [x]) x = T.length := by
  unfold ixS
  rw [if_pos (by simp), idx_new h]
theorem ixS_none {T : List (List Int)} {y : List Int} (h : ¬ y ∈ T) : ixS T y = -1 := by unfold ixS; rw [if_neg h]
theorem nbF_step {T : List (List Int)} {x : List Int} (h : ¬ x ∈ T) : updN (nbF T) x (T.length : Nat) = nbF (T ++ [x]) := by
  funext y
  unfold updN nbF
  by_cases e : y = x
  · subst e
    rw [if_pos rfl, if_pos (by simp), idx_new h]
  · rw [if_neg e]
    by_cases h2 : y ∈ T
    · rw [if_pos h2, if_pos (by simp [h2]), idx_old h2]
    · rw [if_neg h2, if_neg (by simp [h2, e])]
theorem nbF_get {T : List (List Int)} {y : List Int} (h : y ∈ T) : (nbF T y).getD 0 = (T.idxOf y : Nat) := by unfold nbF; rw [if_pos h]; rfl
/-- A word behind all of T. -/
theorem nxS_fresh {T : List (List Int)} {x : List Int} {n : Nat} (h : ∀ y ∈ T, y.length ≤ x.length) : nxS (T ++ [x]) n x = List.replicate n (-1) := by
  unfold nxS
  rw [List.eq_replicate_iff]
  refine ⟨by simp, fun b hb => ?_⟩
  obtain ⟨z, _, rfl⟩ := List.mem_map.1 hb
  refine ixS_none fun hm => ?_
  rcases List.mem_append.1 hm with h1 | h1
  · have := h _ h1
    simp at this
    omega
  · have := List.mem_singleton.1 h1
    have := congrArg List.length this
    simp at this
theorem nxS_step {T : List (List Int)} {x y : List Int} {n : Nat} (hy : y ++ [(x.getLast?.getD 0)] ≠ x) : nxS (T ++ [x]) n y = nxS T n y := by
  unfold nxS
  refine List.map_congr_left fun z _ => ?_
  by_cases h1 : (y ++ [(z : Int)]) ∈ T
  · exact ixS_old h1
  · rw [ixS_none h1, ixS_none]
    intro hm
    rcases List.mem_append.1 hm with h2 | h2
    · exact h1 h2
    · have := List.mem_singleton.1 h2
      exact hy (by rw [← this]; simp)
theorem nxS_set {T : List (List Int)} {x y : List Int} {n z : Nat} (hx : ¬ x ∈ T) (hy : y ++ [(z : Int)] = x) : nxS (T ++ [x]) n y = (nxS T n y).set z (T.length : Nat) := by
  apply List.ext_getElem?
  intro j
  unfold nxS
  rw [List.getElem?_map]
  by_cases hj : j < n
  · rw [List.getElem?_range hj]
    by_cases e : z = j
    · subst e
      rw [List.getElem?_set_self (by simp; exact hj)]
      simp only [Option.map_some]
      rw [hy, ixS_new hx]
    · rw [List.getElem?_set_ne e, List.getElem?_map, List.getElem?_range hj]
      simp only [Option.map_some]
      congr 1
      have hne : y ++ [(j : Int)] ≠ x := fun e2 => by
        rw [← hy] at e2
        have := List.append_cancel_left e2
        simp at this
        omega
      by_cases h1 : (y ++ [(j : Int)]) ∈ T
      · exact ixS_old h1
      · rw [ixS_none h1, ixS_none]
        intro hm
        rcases List.mem_append.1 hm with h2 | h2
        · exact h1 h2
        · exact hne (List.mem_singleton.1 h2)
  · rw [List.getElem?_eq_none (by simp; omega), List.getElem?_eq_none (by simp; omega)]
    rfl
theorem trK_root {n : Nat} : trK [] n ++ [(List.replicate n (-1), false)] = trK [[]] n := by
  unfold trK
  have := nxS_fresh (T := []) (x := []) (n := n) (fun y hy => by cases hy)
  rw [List.nil_append] at this
  simp [this]
/-- One word more; its parent knows it. -/
theorem trK_step {T : List (List Int)} {x y : List Int} {n z : Nat} (hn : T.Nodup) (hx : ¬ x ∈ T) (hlen : ∀ u ∈ T, u.length ≤ x.length) (hy : y ∈ T) (e : y ++ [(z : Int)] = x) :
    (trK T n ++ [(List.replicate n (-1), false)]).set (T.idxOf y) ((nxS T n y).set z (T.length : Nat), false) = trK (T ++ [x]) n := by
  have hil : T.idxOf y < T.length := List.idxOf_lt_length_iff.2 hy
  unfold trK
  rw [List.set_append_left _ _ (by simpa using hil), set_idx _ _ hn hy, List.map_append, List.map_singleton, nxS_fresh hlen]
  congr 1
  refine List.map_congr_left fun u hu => ?_
  by_cases h1 : u = y
  · subst h1
    rw [if_pos rfl, nxS_set hx e]
  · rw [if_neg h1, nxS_step]
    rw [← e, List.getLast?_append]
    simp
    exact h1
theorem trK_at {T : List (List Int)} {y : List Int} {n : Nat} (hy : y ∈ T) (ns : List Nd) : (trK T n ++ ns)[T.idxOf y]? = some (nxS T n y, false) := by
  have hil : T.idxOf y < T.length := List.idxOf_lt_length_iff.2 hy
  unfold trK
  rw [List.getElem?_append_left (by simpa using hil), List.getElem?_map, List.getElem?_eq_getElem hil, List.getElem_idxOf]
  rfl
/-- The ends marked for the first words. -/
def trE (S l : List (List Int)) (n : Nat) : List Nd := S.map fun y => (nxS S n y, decide (y ∈ l))
theorem trE_nil (S : List (List Int)) (n : Nat) : trE S [] n = trK S n := by simp [trE, trK]
theorem trE_at {S l : List (List Int)} {n : Nat} {y : List Int} (hy : y ∈ S) : (trE S l n)[S.idxOf y]? = some (nxS S n y, decide (y ∈ l)) := by
  have hil : S.idxOf y < S.length := List.idxOf_lt_length_iff.2 hy
  unfold trE
  rw [List.getElem?_map, List.getElem?_eq_getElem hil, List.getElem_idxOf]
  rfl
theorem trE_step {S l : List (List Int)} {n : Nat} {y : List Int} (hn : S.Nodup) (hy : y ∈ S) : (trE S l n).set (S.idxOf y) (nxS S n y, true) = trE S (l ++ [y]) n := by
  unfold trE
  rw [set_idx _ _ hn hy]
  refine List.map_congr_left fun u _ => ?_
  by_cases e : u = y
  · subst e; simp
  · rw [if_neg e]; simp [e]
theorem trE_len (S l : List (List Int)) (n : Nat) : (trE S l n).length = S.length := by simp [trE]
theorem trK_len (S : List (List Int)) (n : Nat) : (trK S n).length = S.length := by simp [trK]
end Go.Proofs.Ytjodhihcckcefaa
