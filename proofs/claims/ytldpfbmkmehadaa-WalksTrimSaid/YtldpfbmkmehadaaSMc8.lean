/-
  Words for memory: rows of edges that the call itself builds. No statement is proved here.
-/
import Derived.Test.YtldpfbmkmehadaaSMc6
namespace Go.Proofs.Ytldpfbmkmehadaa
open Go.RowKit
open Mc (Ed Ma)

theorem edge_info : (Try.prog.info? 49).map (fun i => (i.zero, i.size, i.bytes)) = some (some (.agg #[.int .i64 0, .int .i64 0]), 2, 16) := by kernel_rfl
theorem row_info : (Try.prog.info? 50).map (fun i => (i.zero, i.size, i.bytes)) = some (some (.slice none 0 0), 1, 24) := by kernel_rfl
/-- The cells of a row. -/
def eC (l : List Ed) : List Value := l.flatMap fun x => [.int .i64 x.1, .int .i64 x.2]
theorem eC_len (l : List Ed) : (eC l).length = l.length * 2 := by
  induction l with
  | nil => rfl
  | cons a l ih => rw [eC, List.flatMap_cons, List.length_append, ← eC, ih, List.length_cons]; simp; omega
theorem eC_app (x y : List Ed) : eC (x ++ y) = eC x ++ eC y := by simp [eC]
theorem eC_one (x : Ed) : eC [x] = [.int .i64 x.1, .int .i64 x.2] := by simp [eC]
theorem eC_at : ∀ {l : List Ed} {k : Nat} {x : Ed}, l[k]? = some x → (eC l)[k * 2]? = some (.int .i64 x.1) ∧ (eC l)[k * 2 + 1]? = some (.int .i64 x.2)
  | [], k, x, h => by simp at h
  | a :: l, 0, x, h => by
    simp at h
    subst h
    exact ⟨rfl, rfl⟩
  | a :: l, k + 1, x, h => by
    obtain ⟨h1, h2⟩ := eC_at (l := l) (k := k) (x := x) (by simpa using h)
    have e : ∀ j, (eC (a :: l))[(k + 1) * 2 + j]? = (eC l)[k * 2 + j]? := fun j => by
      rw [show (k + 1) * 2 + j = 2 + (k * 2 + j) by omega, eC, List.flatMap_cons, ← eC]
      rw [List.getElem?_append_right (by simp)]
      simp
    exact ⟨(e 0).trans h1, (e 1).trans h2⟩
theorem eC_cell : ∀ (l : List Ed), ∀ u ∈ eC l, u.oneCell' = true
  | [], u, h => by simp [eC] at h
  | x :: l, u, h => by
    rw [eC, List.flatMap_cons, ← eC] at h
    rcases List.mem_append.1 h with h | h
    · simp at h
      rcases h with rfl | rfl <;> rfl
    · exact eC_cell l u h
/-- A row of the call's own. -/
abbrev OwR (w : World) (base : Nat) (v : Value) (row : List Ed) : Prop := w.ownsRow base 49 2 v row.length (eC row)
theorem RdP.of_own {w : World} {base : Nat} {A : Option Addr} {n c : Nat} {row : List Ed} (h : w.ownsRow base 49 2 (.slice A n c) n (eC row)) : RdP w A row := fun hp => by
  have hn : row.length = n := by have := h.1; rw [eC_len] at this; omega
  obtain ⟨g, cap, hv, _, hlt⟩ := h.form (by omega)
  have hA : A = some ⟨g, 0, none⟩ := by injection hv
  subst hA
  refine ⟨g, 0, rfl, hlt, fun k x hk => ?_⟩
  obtain ⟨h1, h2⟩ := eC_at hk
  have hc : ∀ j v, (eC row)[j]? = some v → w.cell? ⟨g, 0 + j, none⟩ = some v := fun j v hj => by
    have := h.cells (g := g) rfl j v hj
    rw [Nat.zero_add]
    rw [Addr.add_lit] at this
    simpa using this
  exact ⟨hc _ _ h1, by have := hc _ _ h2; rwa [← Nat.add_assoc] at this⟩
theorem grown_setCell (w : World) (a : Addr) (u : Value) : w.grownBy (w.setCell a u) (some a.block) :=
  ⟨rfl, rfl, rfl, by simp [World.setCell], fun k _ hk => Below.heap_setCell w a u k (fun e => hk (by rw [e]))⟩
/-- Rows of different kinds are different blocks. -/
theorem own_apart {w : World} {b b' : Nat} {e e' : TypeId} {s s' n n' : Nat} {v v' : Value} {xs xs' : List Value} (h : w.ownsRow b e s v n xs) (h' : w.ownsRow b' e' s' v' n' xs') (he : e ≠ e') : v.ownBlock = none ∨ v.ownBlock ≠ v'.ownBlock := by
  rcases h.2 with ⟨rfl, _⟩ | ⟨g, cap, cur, rfl, _, hg, _⟩
  · exact Or.inl rfl
  · refine Or.inr fun e1 => ?_
    rcases h'.2 with ⟨rfl, _⟩ | ⟨g', cap', cur', rfl, _, hg', _⟩
    · simp [Value.ownBlock] at e1
    · simp [Value.ownBlock] at e1
      subst e1
      rw [hg] at hg'
      simp at hg'
      exact he hg'.2
/-- The rows that the call builds. -/
def Bld (w : World) (base : Nat) (V : Value) (rs : List (List Ed)) (vs : List Value) : Prop :=
  w.ownsRow base 50 1 V rs.length vs ∧ ∀ (k : Nat) (row : List Ed), rs[k]? = some row → ∃ (g c : Nat), vs[k]? = some (Value.slice (some ⟨g, 0, none⟩) row.length c) ∧ OwR w base (.slice (some ⟨g, 0, none⟩) row.length c) row
section
variable {w w' : World} {base : Nat} {V : Value} {rs : List (List Ed)} {vs : List Value}
theorem Bld.nil_ (w : World) (base : Nat) : Bld w base (.slice none 0 0) [] [] := ⟨World.ownsRow_nil _ _ _ _, fun k row h => by simp at h⟩
theorem Bld.below (h : Bld w base V rs vs) (hb : Below w.heap.size w w') : Bld w' base V rs vs :=
  ⟨own_below h.1 hb, fun k row hk => by
    obtain ⟨g, c, h1, h2⟩ := h.2 k row hk
    exact ⟨g, c, h1, own_below h2 hb⟩⟩
theorem Bld.kept (h : Bld w base V rs vs) {G : Nat} (hg : w.grownBy w' (some G)) (hG : G < base) : Bld w' base V rs vs := by
  have hne : ∀ {v : Value} {e : TypeId} {s n : Nat} {xs : List Value}, w.ownsRow base e s v n xs → v.ownBlock = none ∨ v.ownBlock ≠ some G := fun {v} _ _ _ _ h => by
    cases hv : v.ownBlock with
    | none => exact Or.inl rfl
    | some k => exact Or.inr fun e => by injection e with e; have := (h.lt k hv).1; omega
  exact ⟨h.1.kept hg (hne h.1), fun k row hk => by
    obtain ⟨g, c, h1, h2⟩ := h.2 k row hk
    exact ⟨g, c, h1, h2.kept hg (hne h2)⟩⟩
theorem Bld.push {row : List Ed} {g c : Nat} {o : Obj} {w1 : World} {V1 : Value} (h : Bld w base V rs vs) (hr : OwR w base (.slice (some ⟨g, 0, none⟩) row.length c) row)
    (h1 : w1.ownsRow base 50 1 V1 (rs.length + 1) (vs ++ [.slice (some ⟨g, 0, none⟩) row.length c])) (hg : (w.alloc o).grownBy w1 V.ownBlock) : Bld w1 base V1 (rs ++ [row]) (vs ++ [.slice (some ⟨g, 0, none⟩) row.length c]) := by
  have hd : (49 : TypeId) ≠ 50 := by decide
  have hl : vs.length = rs.length := by have := h.1.1; omega
  refine ⟨by rw [List.length_append]; exact h1, fun k r hk => ?_⟩
  rw [List.getElem?_append] at hk
  split at hk
  · rename_i hlt
    obtain ⟨g', c', h2, h3⟩ := h.2 k r hk
    refine ⟨g', c', by rw [List.getElem?_append_left (by omega)]; exact h2, ?_⟩
    have h4 := own_apart h3 h.1 hd
    exact (h3.alloc o).kept hg h4
  · rename_i hge
    have hk0 : k - rs.length = 0 := by
      rcases Nat.eq_zero_or_pos (k - rs.length) with h0 | h0
      · exact h0
      · rw [List.getElem?_eq_none (by simp; omega)] at hk; cases hk
    rw [hk0] at hk
    simp at hk
    subst hk
    refine ⟨g, c, by rw [List.getElem?_append_right (by omega), show k - vs.length = 0 by omega]; rfl, ?_⟩
    exact (hr.alloc o).kept hg (own_apart hr h.1 hd)
theorem Bld.rd (h : Bld w base V rs vs) : ∃ A c, V = .slice A rs.length c ∧ rs.length ≤ c ∧ c ≤ maxLen ∧ (A = none → c = 0) ∧ RdR w A rs := by
  have hl : vs.length = rs.length := by have := h.1.1; omega
  rcases h.1.2 with ⟨hv, h0⟩ | ⟨g, cap, cur, hv, _, hg, hc, hm, _⟩
  · refine ⟨none, 0, by rw [hv, h0], by omega, Nat.zero_le _, fun _ => rfl, fun hp => by omega⟩
  · refine ⟨some ⟨g, 0, none⟩, cap, hv, hc, hm, fun e => (by cases e), fun _ => ⟨g, 0, rfl, (Array.getElem?_eq_some_iff.1 hg).1, fun k row hk => ?_⟩⟩
    obtain ⟨g', c', h2, h3⟩ := h.2 k row hk
    have hcell := h.1.cells (g := g) (by rw [hv]; rfl) k _ h2
    rw [Addr.add_lit] at hcell
    refine ⟨some ⟨g', 0, none⟩, c', by simpa using hcell, ?_, ?_, fun e => (by cases e), RdP.of_own h3⟩
    · rcases h3.2 with ⟨e, _⟩ | ⟨_, _, _, e, _, _, hn, _⟩
      · cases e
      · injection e with _ _ e; omega
    · rcases h3.2 with ⟨e, _⟩ | ⟨_, _, _, e, _, _, _, hn, _⟩
      · cases e
      · injection e with _ _ e; omega
end
/-- A row of edges and one more. -/
theorem wpList_append_edge (wr : World) {ops : Array Oper} {rest : List Oper} {o : Oper} {a : Act} {Q : Exit → Act → World → Prop} {W0 : World} {B : Nat} {v : Value} {xs : List Ed} (x y : Int)
    (hown : wr.ownsRow B 49 2 v xs.length (eC xs)) (hlen : xs.length ≤ 1000000) (hB : B ≤ wr.heap.size) (hbr : Below B W0 wr) (hgd : o.guard = none) (s z : Operand)
    (ho : o.op = .call { callee := .builtin .append, args := #[s, z], argTypes := #[50, 50] }) (hs : a.eval s = v) (hx : a.eval z = .slice (some ⟨wr.heap.size, 0, none⟩) 1 1)
    (h : ∀ v1 w1, w1.ownsRow B 49 2 v1 (xs.length + 1) (eC (xs ++ [(x, y)])) → (v1 ≠ .slice none 0 0) → Below B W0 w1 → wpList Try.prog ops Q rest (a.put o.dst v1) w1) :
    wpList Try.prog ops Q (o :: rest) a (wr.alloc (.cells #[.int .i64 x, .int .i64 y] 49)) := by
  obtain ⟨i0, hi0, hI0, hI1, hI2⟩ := info_parts edge_info
  refine wpList_append_own _ hgd s z 50 ho B 49 i0 (.agg #[.int .i64 0, .int .i64 0]) 2 16 Try.underlying50 hi0 hI0 hI1 hI2 rfl (by decide) v xs.length (eC xs) hs (hown.alloc _) ⟨wr.heap.size, 0, none⟩ 1 1 [.int .i64 x, .int .i64 y] hx rfl ?_ ?_ ?_ ?_ ?_ ?_
  · intro j u hj
    rw [Addr.add_lit, World.cell?_alloc_at _ _ _ _ rfl]
    match j, hj with
    | 0, hj => simpa using hj
    | 1, hj => simpa using hj
  · intro u hu
    simp at hu
    rcases hu with rfl | rfl <;> rfl
  · unfold maxLen; omega
  · omega
  · simp; omega
  · intro v1 w1 h1 hg hnil
    refine h v1 w1 ?_ (fun e => by have := (hnil.1 e).2; cases this) ((hbr.alloc hB _).grown hg (by simp; omega) (fun j hj => (hown.lt j hj).1))
    rw [eC_app, eC_one]
    exact h1
end Go.Proofs.Ytldpfbmkmehadaa
