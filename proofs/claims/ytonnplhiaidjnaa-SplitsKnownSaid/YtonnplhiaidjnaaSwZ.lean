/-
  Several texts in one: SWk1, SWk2, SWk3, SWkA, SWk4. No statement is proved here.
-/
import Derived.Test.YtonnplhiaidjnaaScA
import Derived.Test.YtonnplhiaidjnaaBaZ
import Derived.Deep.CutRange
import Derived.Test.YtonnplhiaidjnaaScB
import Derived.Test.YtonnplhiaidjnaaSMc9
import Derived.Test.YtonnplhiaidjnaaWkZ
import Derived.Deep.LoopGhost
import Derived.BigQuiet
import Derived.StillTailTactics
namespace Go.Proofs.Ytonnplhiaidjnaa
open Go.RowKit

/-- Nothing is appended. -/
theorem run_append_none {P : Program} (w : World) (t ty e : TypeId) (i : TypeInfo) (hi : P.info? e = some i) (ht : P.underlying t = some (.slice e)) (b0 : Addr) (p : Option Addr) (c : Nat) :
    (Builtin.append_ #[t, t] ty #[.slice (some b0) 0 0, .slice p 0 c]).run P w = .ok (.slice (some b0) 0 0) w := by
  cases p <;> simp [Builtin.append_, run_underlying ht, sizeOf, typeInfo, hi, Builtin.lenOf, Builtin.firstCells, loadCells, loadCellsFrom, storeCells]
theorem wpList_append_none {P : Program} (w : World) {ops : Array Oper} {rest : List Oper} {o : Oper} {a : Act} {Q : Exit → Act → World → Prop} (hgd : o.guard = none) (s x : Operand) (t : TypeId)
    (ho : o.op = .call { callee := .builtin .append, args := #[s, x], argTypes := #[t, t] }) (e : TypeId) (i : TypeInfo) (hi : P.info? e = some i) (ht : P.underlying t = some (.slice e)) (b0 : Addr) (p : Option Addr) (c : Nat)
    (hs : a.eval s = .slice (some b0) 0 0) (hx : a.eval x = .slice p 0 c) (h : wpList P ops Q rest (a.put o.dst (.slice (some b0) 0 0)) w) : wpList P ops Q (o :: rest) a w := by
  refine wpList_plain hgd fun K hK => ?_
  have hrun := run_append_none (P := P) w t o.type e i hi ht b0 p c
  unfold Oper.wp
  simp [execOp, ho, resolve, invoke, builtin, hs, hx, hrun, Result.andThen]
  exact hK _ _ h
/-- An empty slice of the call's own. -/
theorem own_emptyI (w : World) (base : Nat) (h : base ≤ w.heap.size) : (w.alloc (.cells #[] 3)).ownsRow base 3 1 (.slice (some ⟨w.heap.size, 0, none⟩) 0 0) 0 [] :=
  ⟨rfl, .inr ⟨w.heap.size, 0, #[], rfl, h, heap_alloc_new w _, Nat.le_refl _, Nat.zero_le _, rfl, rfl⟩⟩
/-- A number is written into a row of the call's own. -/
theorem own_setI {w : World} {base g n c k : Nat} {cur : List Int} (h : w.ownsRow base 3 1 (.slice (some ⟨g, 0, none⟩) n c) n (ints cur)) (z : Int) :
    (w.setCell ⟨g, k, none⟩ (.int .i64 z)).ownsRow base 3 1 (.slice (some ⟨g, 0, none⟩) n c) n (ints (cur.set k z)) := by
  refine ⟨by have := h.1; rw [ints_len] at this ⊢; rw [List.length_set]; exact this, ?_⟩
  rcases h.2 with ⟨e, _⟩ | ⟨g', c', cu, e, hb, hg, hc, hm, hs, ht⟩
  · cases e
  · injection e with e1 e2 e3
    injection e1 with e1
    injection e1 with e1
    subst e1 e3
    refine .inr ⟨g, c, cu.setIfInBounds k (.int .i64 z), rfl, hb, by simp [World.setCell, Array.getElem?_modify, hg], hc, hm, by simpa using hs, ?_⟩
    rw [Array.toList_setIfInBounds, List.take_set, ht]
    simp [ints]
theorem own_cellI {w : World} {base g n c k : Nat} {cur : List Int} (h : w.ownsRow base 3 1 (.slice (some ⟨g, 0, none⟩) n c) n (ints cur)) (hk : k < n) :
    ∃ z, w.cell? ⟨g, k, none⟩ = some (.int .i64 z) ∧ w.frozen? ⟨g, k, none⟩ = false ∧ base ≤ g ∧ Hid (cur[k]?.getD 0 = z) := by
  have hl : cur.length = n := by have := h.1; rw [ints_len] at this; omega
  refine ⟨cur[k]?.getD 0, ?_, ?_, ?_, rfl⟩
  · have := h.cells (g := g) rfl k (.int .i64 (cur[k]?.getD 0)) (ints_at (by omega))
    rw [Addr.add_lit] at this
    simpa using this
  · rcases h.2 with ⟨e, _⟩ | ⟨g', c', cu, e, hb, hg, _⟩
    · cases e
    · injection e with e1
      injection e1 with e1
      injection e1 with e1
      subst e1
      simp [World.frozen?, hg]
  · exact (h.lt g rfl).1
/-- What next hands back. -/
def Nxt (w : World) (zs : List Int) (e : Ending) (w' : World) : Prop := ∃ V, e = .returned V ∧ Hid (w'.ownsRow w.heap.size 3 1 V zs.length (ints zs)) ∧ Below w.heap.size w w'
end Go.Proofs.Ytonnplhiaidjnaa

namespace Go.Proofs.Ytonnplhiaidjnaa
open Go.RowKit
open Mc (Ed Ma)

/-- A word of the call's own. -/
abbrev OwI (w : World) (base : Nat) (v : Value) (x : List Int) : Prop := w.ownsRow base 3 1 v x.length (ints x)
theorem OwI.away {w : World} {base : Nat} {v : Value} {x : List Int} (h : OwI w base v x) {G k : Nat} (u : Value) (hG : G < base) : OwI (w.setCell ⟨G, k, none⟩ u) base v x :=
  h.kept (grown_setCell w ⟨G, k, none⟩ u) (by
    cases hv : v.ownBlock with
    | none => exact Or.inl rfl
    | some j => exact Or.inr fun e => by injection e with e; have := (h.lt j hv).1; simp at e; omega)
theorem OwI.nil_ (w : World) (base : Nat) : OwI w base (.slice none 0 0) [] := World.ownsRow_nil _ _ _ _
/-- Block g holds the words l, each in memory from base on. -/
def Ws (w : World) (g base : Nat) (l : List (List Int)) : Prop := ∃ vs : List Value, w.heap[g]? = some (.cells vs.toArray 29 (0, 0)) ∧ vs.length = l.length ∧ ∀ (k : Nat) (x : List Int), l[k]? = some x → ∃ v, vs[k]? = some v ∧ OwI w base v x
section
variable {w w' : World} {g base : Nat} {l : List (List Int)}
theorem Ws.lt (h : Ws w g base l) : g < w.heap.size := by
  obtain ⟨vs, h1, _⟩ := h
  exact (Array.getElem?_eq_some_iff.1 h1).1
theorem Ws.below (h : Ws w g base l) (hb : Below w.heap.size w w') : Ws w' g base l := by
  have hl := h.lt
  obtain ⟨vs, h1, h2, h3⟩ := h
  refine ⟨vs, (hb.block g hl).trans h1, h2, fun k x hk => ?_⟩
  obtain ⟨v, h4, h5⟩ := h3 k x hk
  exact ⟨v, h4, own_below h5 hb⟩
theorem Ws.away (h : Ws w g base l) {G k : Nat} (u : Value) (hG : G < base) (hne : G ≠ g) : Ws (w.setCell ⟨G, k, none⟩ u) g base l := by
  obtain ⟨vs, h1, h2, h3⟩ := h
  refine ⟨vs, (Below.heap_setCell w ⟨G, k, none⟩ u g (fun e => hne e.symm)).trans h1, h2, fun j x hk => ?_⟩
  obtain ⟨v, h4, h5⟩ := h3 j x hk
  exact ⟨v, h4, h5.away u hG⟩
theorem Ws.set_ (h : Ws w g base l) {t : Nat} {v : Value} {x : List Int} (hx : OwI w base v x) (hg : g < base) (ht : t < l.length) : Ws (w.setCell ⟨g, t, none⟩ v) g base (l.set t x) := by
  obtain ⟨vs, h1, h2, h3⟩ := h
  refine ⟨vs.set t v, by simp [World.setCell, Array.getElem?_modify, h1], by simp [h2], fun j y hk => ?_⟩
  by_cases e : t = j
  · subst e
    rw [List.getElem?_set_self ht] at hk
    injection hk with hk
    subst hk
    exact ⟨v, by rw [List.getElem?_set_self (by omega)], hx.away v hg⟩
  · rw [List.getElem?_set_ne e] at hk
    obtain ⟨u, h4, h5⟩ := h3 j y hk
    exact ⟨u, by rw [List.getElem?_set_ne e]; exact h4, h5.away v hg⟩
theorem Ws.lower {b' : Nat} (h : Ws w g base l) (hb : b' ≤ base) : Ws w g b' l := by
  obtain ⟨vs, h1, h2, h3⟩ := h
  refine ⟨vs, h1, h2, fun j x hk => ?_⟩
  obtain ⟨v, h4, h5⟩ := h3 j x hk
  exact ⟨v, h4, own_base h5 hb⟩
theorem Ws.frozen (h : Ws w g base l) (k : Nat) : w.frozen? ⟨g, k, none⟩ = false := by
  obtain ⟨vs, h1, _⟩ := h
  simp [World.frozen?, h1]
theorem Ws.cell (h : Ws w g base l) {k : Nat} (hk : k < l.length) : ∃ v, w.cell? ⟨g, k, none⟩ = some v ∧ Hid (∃ x, l[k]? = some x ∧ OwI w base v x) := by
  obtain ⟨vs, h1, h2, h3⟩ := h
  obtain ⟨v, h4, h5⟩ := h3 k _ (List.getElem?_eq_getElem hk)
  refine ⟨v, ?_, _, List.getElem?_eq_getElem hk, h5⟩
  rw [cell_of_row w g k _ 29 (0, 0) h1]
  simpa using h4
theorem BlkB.away {cs : List Bool} (h : BlkB w g cs) {G k : Nat} (u : Value) (hne : G ≠ g) : BlkB (w.setCell ⟨G, k, none⟩ u) g cs :=
  (Below.heap_setCell w ⟨G, k, none⟩ u g (fun e => hne e.symm)).trans h
end
theorem words_info : (Try.prog.info? 29).map (fun i => (i.zero, i.size, i.bytes)) = some (some (.slice none 0 0), 1, 24) := by kernel_rfl
/-- make([][]int, n): a block of empty words. -/
theorem wpList_make_words (w : World) {ops : Array Oper} {rest : List Oper} {o : Oper} {a : Act} {Q : Exit → Act → World → Prop}
    (hg : o.guard = none) (l c : Operand) (hop : o.op = Op.makeSlice 112 l c) (L : Int) (n : Nat) (hl : a.eval l = .int .i64 L) (hc : a.eval c = .int .i64 L) (hL : L = (n : Int)) (hn : n ≤ 65537)
    (hK : ∀ w', Hid (∀ base, Ws w' w.heap.size base (List.replicate n [])) → Below w.heap.size w w' → w'.heap.size = w.heap.size + 1 → wpList Try.prog ops Q rest (a.put o.dst (.slice (some ⟨w.heap.size, 0, none⟩) n n)) w') :
    wpList Try.prog ops Q (o :: rest) a w := by
  subst hL
  refine wpList_plain hg fun K hK' => ?_
  have hrun := run_make_row' (P := Try.prog) 112 29 (.slice none 0 0) 24 Try.underlying112 words_info rfl .i64 .i64 n (by omega) (by omega) w
  unfold Oper.wp
  simp [execOp, hop, hl, hc, hrun, Result.andThen]
  refine hK' _ _ (hK _ ?_ ((Below.refl _ _).alloc (Nat.le_refl _) _) (by simp))
  intro base
  refine ⟨List.replicate n (.slice none 0 0), ?_, by simp, fun k x hk => ?_⟩
  · rw [heap_alloc_new]
    have e := toList_madeCells_one (.slice none 0 0) n
    have e2 : madeCells #[.slice none 0 0] n = (List.replicate n (Value.slice none 0 0)).toArray := by
      rw [← Array.toList_inj, e]
    rw [e2]
  · rw [List.getElem?_replicate] at hk
    split at hk
    · rename_i hkn
      injection hk with hk
      subst hk
      exact ⟨_, by rw [List.getElem?_replicate, if_pos hkn], OwI.nil_ _ _⟩
    · cases hk
theorem own_formI {w : World} {base k : Nat} {v : Value} {xs : List Value} (h : w.ownsRow base 3 1 v k xs) : ∃ A c, v = .slice A k c ∧ k ≤ c := by
  rcases h.2 with ⟨rfl, h0⟩ | ⟨g, cap, cur, rfl, _, _, hc, _⟩
  · exact ⟨none, 0, by rw [h0], by omega⟩
  · exact ⟨_, _, rfl, hc⟩
/-- What Paths hands back. -/
def Pths (w : World) (m : Ma) (s : Int) (e : Ending) (w' : World) : Prop := ∃ (g1 g2 n base : Nat) (l : List (List Int)) (is : List Bool), e = .returned (.tuple #[.slice (some ⟨g1, 0, none⟩) n n, .slice (some ⟨g2, 0, none⟩) n n]) ∧ Hid (n = m.r.length) ∧ Hid (Ws w' g1 base l) ∧ Hid (BlkB w' g2 is) ∧ Hid (∃ x, Mc.PT m s x l is ∧ m.r.length ≤ x.length) ∧ Hid (w.heap.size ≤ g1 ∧ g1 < base ∧ w.heap.size ≤ g2 ∧ g2 < base ∧ g1 ≠ g2) ∧ Below w.heap.size w w'
end Go.Proofs.Ytonnplhiaidjnaa

namespace Go.Proofs.Ytonnplhiaidjnaa
open Go.RowKit
open Mc (Ed Ma)

/-- Whether a word comes before another one. -/
def M.le1 (x y : List Int) : Int := if M.cmp x y = -1 then 1 else 0
theorem M.le1_yes {x y : List Int} (h : M.cmp x y = -1) : M.le1 x y = 1 := if_pos h
theorem M.le1_no {x y : List Int} (h : M.cmp x y = 1 ∨ M.cmp x y = 0) : M.le1 x y = 0 := if_neg (by omega)
/-- Less is less in rank. -/
theorem M.le1_rk {n : Int} (hn : 1 ≤ n) {x y : List Int} (hx : M.Val n x) (hy : M.Val n y) : (M.le1 x y = 1 ↔ M.rk n x < M.rk n y) := by
  unfold M.le1
  rw [M.rk_cmp hn hx hy]
  by_cases h : M.rk n x < M.rk n y
  · rw [M.sgn_lt h, if_pos rfl]
    exact ⟨fun _ => h, fun _ => rfl⟩
  · have h2 : ¬ M.sgn (M.rk n x) (M.rk n y) = -1 := by
      unfold M.sgn
      rw [if_neg h]
      split <;> decide
    rw [if_neg h2]
    exact ⟨fun e => absurd e (by decide), fun e => absurd e h⟩
end Go.Proofs.Ytonnplhiaidjnaa

namespace Go.Proofs.Ytonnplhiaidjnaa
open Go.RowKit

theorem run_append_zero {P : Program} (w : World) (t ty e : TypeId) (i : TypeInfo) (hi : P.info? e = some i) (ht : P.underlying t = some (.slice e)) (q p : Option Addr) (k d c : Nat) (hk : k ≤ d) :
    (Builtin.append_ #[t, t] ty #[.slice q k d, .slice p 0 c]).run P w = .ok (.slice q k d) w := by
  cases p <;> cases q <;> simp [Builtin.append_, run_underlying ht, sizeOf, typeInfo, hi, Builtin.lenOf, Builtin.firstCells, loadCells, loadCellsFrom, storeCells, hk]
set_option maxRecDepth 100000 in
theorem wpList_append_list (wr : World) {ops : Array Oper} {rest : List Oper} {o : Oper} {a : Act} {Q : Exit → Act → World → Prop} {W0 : World} {B : Nat} {v : Value} {xs ys : List Int} {A : Option Addr} {n c : Nat}
    (hown : OwI wr B v xs) (hr : Rd wr A ys) (hn : ys.length = n) (hlen : xs.length + n ≤ 1000000) (hB : B ≤ wr.heap.size) (hbr : Below B W0 wr) (hgd : o.guard = none) (s x : Operand)
    (ho : o.op = .call { callee := .builtin .append, args := #[s, x], argTypes := #[29, 29] }) (hs : a.eval s = v) (hx : a.eval x = .slice A n c)
    (h : ∀ v1 w1, OwI w1 B v1 (xs ++ ys) → Below B W0 w1 → wpList Try.prog ops Q rest (a.put o.dst v1) w1) : wpList Try.prog ops Q (o :: rest) a wr := by
  obtain ⟨i0, hi0, hz0, hz1, hz2⟩ := info_parts int_info
  rcases Nat.eq_zero_or_pos n with h0 | h0
  · subst h0
    obtain rfl : ys = [] := List.length_eq_zero_iff.1 hn
    obtain ⟨q, d, rfl, hd⟩ := own_formI hown
    refine wpList_plain hgd fun K hK => ?_
    have hrun := run_append_zero (P := Try.prog) wr 29 o.type 3 i0 hi0 Try.underlying29 q A xs.length d c hd
    unfold Oper.wp
    simp [execOp, ho, resolve, invoke, builtin, hs, hx, hrun, Result.andThen]
    exact hK _ _ (h _ _ (by rw [List.append_nil]; exact hown) hbr)
  · obtain ⟨b, off, rfl, hb, hc⟩ := hr (by rw [hn]; exact h0)
    have hil : (ints ys).length = n * 1 := by rw [ints_len, hn, Nat.mul_one]
    refine wpList_append_own _ hgd s x 29 ho B 3 i0 (.int .i64 0) 1 8 Try.underlying29 hi0 hz0 hz1 hz2 rfl (by decide) v xs.length (ints xs) hs hown ⟨b, off, none⟩ n c (ints ys) hx hil ?_ ?_ ?_ ?_ hB ?_
    · intro j u hj
      have hjl : j < ys.length := by have := (List.getElem?_eq_some_iff.1 hj).1; rwa [ints_len] at this
      rw [ints_at hjl] at hj
      injection hj with hj
      subst hj
      rw [Addr.add_lit]
      exact hc j hjl
    · intro u hu
      obtain ⟨z, _, rfl⟩ := List.mem_map.1 hu
      rfl
    · unfold maxLen; omega
    · omega
    · intro v1 w1 hown1 hg1 _
      have hown2 : OwI w1 B v1 (xs ++ ys) := by
        have e : ints (xs ++ ys) = ints xs ++ ints ys := by simp [ints]
        unfold OwI
        rw [e, List.length_append, hn]
        exact hown1
      exact h v1 w1 hown2 (hbr.grown hg1 hB (fun j hj => (hown.lt j hj).1))
end Go.Proofs.Ytonnplhiaidjnaa

namespace Go.Proofs.Ytonnplhiaidjnaa
open Go.RowKit
open Mc (Ed Ma)

/-- A world in which nothing below wr's heap has changed. -/
structure BW (wr : World) where
  out : World
  ok : Below wr.heap.size wr out
instance (wr : World) : Nonempty (BW wr) := ⟨⟨wr, Below.refl _ _⟩⟩
theorem wp_region_quiet_below {P : Program} {id : Nat} {Q : Exit → Act → World → Prop} {a : Act} {wr : World} {l : List Oper} (hm : P.follows .mixedOrders = true) (hB : Region.lexB .any l.toArray = true)
    (h : wpQuiet P l.toArray (fun w' => ∃ x : BW wr, w' = x.out) (fun a' => ∀ w', (∃ x : BW wr, w' = x.out) → Q .normal a' w') l a) : (Code.region id l.toArray true).wp P Q a wr :=
  wp_region_quiet (C := fun w' => ∃ x : BW wr, w' = x.out) hm hB ⟨⟨_, (Below.refl _ _).drew⟩, rfl⟩ (by simpa using h)
theorem Rd.takeL {w : World} {A : Option Addr} {L : List Int} (h : Rd w A L) (j : Nat) : Rd w A (L.take j) := fun hp => by
  rw [List.length_take] at hp
  obtain ⟨b, off, e, hb, hc⟩ := h (by omega)
  refine ⟨b, off, e, hb, fun k hk => ?_⟩
  rw [List.length_take] at hk
  rw [hc k (by omega), List.getElem?_take, if_pos (by omega)]
theorem Rd.dropL {w : World} {b off : Nat} {L : List Int} (h : Rd w (some ⟨b, off, none⟩) L) (j : Nat) : Rd w (some ⟨b, off + j, none⟩) (L.drop j) := fun hp => by
  rw [List.length_drop] at hp
  obtain ⟨b', off', e, hb, hc⟩ := h (by omega)
  injection e with e
  injection e with e1 e2
  subst e1 e2
  refine ⟨b, off + j, rfl, hb, fun k hk => ?_⟩
  rw [List.length_drop] at hk
  rw [List.getElem?_drop, Nat.add_assoc, hc (j + k) (by omega)]
/-- What Order hands back. -/
def Ordd (w : World) (m : Ma) (e : Ending) (w' : World) : Prop := ∃ V L, e = .returned V ∧ Hid (OwI w' w.heap.size V L) ∧ Hid (Mc.Ord m L) ∧ Below w.heap.size w w'
end Go.Proofs.Ytonnplhiaidjnaa
