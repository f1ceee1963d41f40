/-
  Memory of renumbered: rows that are filled edge by edge. No statement is proved here.
-/
import Derived.Test.YtldpfbmkmehadaaWc0
namespace Go.Proofs.Ytldpfbmkmehadaa
open Go.RowKit
open Mc (Ed Ma)

/-- The rows of T before k, then rows of zeros. -/
def rnR (T : List (List Ed)) (i k : Nat) : List (List Ed) := T.take k ++ List.replicate (T.length - k) (List.replicate i (0, 0))
/-- The edges of a row before j, then zeros. -/
def rnC (row : List Ed) (i j : Nat) : List Ed := row.take j ++ List.replicate (i - j) (0, 0)
section
variable {T : List (List Ed)} {i k j : Nat} {row : List Ed} {x : Ed}
theorem rnR_len (h : k ≤ T.length) : (rnR T i k).length = T.length := by simp [rnR]; omega
theorem rnR_at (h : k < T.length) : (rnR T i k)[k]? = some (List.replicate i (0, 0)) := by
  unfold rnR
  rw [List.getElem?_append_right (by simp; omega), List.length_take, Nat.min_eq_left (by omega), Nat.sub_self, List.getElem?_replicate, if_pos (by omega)]
theorem rnR_all : rnR T i T.length = T := by simp [rnR]
theorem rnR_set (hr : T[k]? = some row) : (rnR T i k).set k row = rnR T i (k + 1) := by
  have h : k < T.length := (List.getElem?_eq_some_iff.1 hr).1
  unfold rnR
  rw [List.set_append_right _ _ (by simp; omega), List.length_take, Nat.min_eq_left (by omega), Nat.sub_self, show T.length - k = (T.length - (k + 1)) + 1 by omega, List.replicate_succ, List.set_cons_zero, List.take_add_one, hr]
  simp
theorem rnR_self (h : k < T.length) : (rnR T i k).set k (List.replicate i (0, 0)) = rnR T i k := by
  have h1 := rnR_at (i := i) h
  obtain ⟨h2, h3⟩ := List.getElem?_eq_some_iff.1 h1
  rw [← h3, List.set_getElem_self]
theorem rnC_len (h : row.length = i) (hj : j ≤ i) : (rnC row i j).length = i := by simp [rnC]; omega
theorem rnC_zero : rnC row i 0 = List.replicate i (0, 0) := by simp [rnC]
theorem rnC_all (h : row.length = i) : rnC row i i = row := by subst h; simp [rnC]
theorem rnC_set (h : row.length = i) (hx : row[j]? = some x) : (rnC row i j).set j x = rnC row i (j + 1) := by
  have hj : j < row.length := (List.getElem?_eq_some_iff.1 hx).1
  unfold rnC
  rw [List.set_append_right _ _ (by simp; omega), List.length_take, Nat.min_eq_left (by omega), Nat.sub_self, show i - j = (i - (j + 1)) + 1 by omega, List.replicate_succ, List.set_cons_zero, List.take_add_one, hx]
  simp
end
theorem eC_zeros (q : Nat) : madeCells #[.int .i64 0, .int .i64 0] (q * 2) = (eC (List.replicate q (0, 0))).toArray := by
  rw [← Array.toList_inj]
  have h1 : ∀ n : Nat, eC (List.replicate n (0, 0)) = List.replicate (n * 2) (Value.int .i64 0) := fun n => by
    induction n with
    | zero => rfl
    | succ n ih =>
      rw [List.replicate_succ, eC, List.flatMap_cons, ← eC, ih, show (n + 1) * 2 = n * 2 + 1 + 1 by omega, List.replicate_succ, List.replicate_succ]
      rfl
  rw [h1]
  apply List.ext_getElem?
  intro k
  rcases Nat.lt_or_ge k (q * 2) with h | h
  · rw [List.getElem?_replicate, if_pos h]
    have hm : k % 2 = 0 ∨ k % 2 = 1 := Nat.mod_two_eq_zero_or_one k
    rcases hm with e | e <;> simp [madeCells, h, e]
  · rw [List.getElem?_eq_none (by simp [madeCells]; exact h), List.getElem?_eq_none (by simpa using h)]
theorem wpList_make_edgesZ (w : World) {ops : Array Oper} {rest : List Oper} {o : Oper} {a : Act} {Q : Exit → Act → World → Prop}
    (hg : o.guard = none) (l c : Operand) (hop : o.op = Op.makeSlice 50 l c) (L : Int) (q : Nat) (hl : a.eval l = .int .i64 L) (hc : a.eval c = .int .i64 L) (hL : L = (q : Int)) (hq : q ≤ 1000000)
    (hK : wpList Try.prog ops Q rest (a.put o.dst (.slice (some ⟨w.heap.size, 0, none⟩) q q)) (w.alloc (.cells (eC (List.replicate q (0, 0))).toArray 49))) :
    wpList Try.prog ops Q (o :: rest) a w := by
  subst hL
  refine wpList_plain hg fun K hK' => ?_
  obtain ⟨i, hi, hz, hz1, hz2⟩ := info_parts edge_info
  have hrun := run_make (P := Try.prog) w 50 49 i _ Try.underlying50 hi hz .i64 .i64 q q (by omega) (Int.le_refl _) (by rw [hz2]; omega) (by omega)
  simp only [Int.toNat_natCast, hz1] at hrun
  have e : madeCells (Value.agg #[.int .i64 0, .int .i64 0]).cells (q * 2) = (eC (List.replicate q (0, 0))).toArray := eC_zeros q
  rw [e] at hrun
  unfold Oper.wp
  simp [execOp, hop, hl, hc, hrun, Result.andThen]
  exact hK' _ _ hK
theorem wpList_make_rowsZ (w : World) {ops : Array Oper} {rest : List Oper} {o : Oper} {a : Act} {Q : Exit → Act → World → Prop}
    (hg : o.guard = none) (l c : Operand) (hop : o.op = Op.makeSlice 25 l c) (n : Nat) (rs : List (List Ed)) (hl : a.eval l = .int .i64 n) (hc : a.eval c = .int .i64 n) (hn : n ≤ 1000000) (base : Nat) (hb : base ≤ w.heap.size)
    (hK : ∀ w', Wb base w.heap.size n rs [] w' → Below w.heap.size w w' → wpList Try.prog ops Q rest (a.put o.dst (.slice (some ⟨w.heap.size, 0, none⟩) n n)) w') :
    wpList Try.prog ops Q (o :: rest) a w := by
  refine wpList_plain hg fun K hK' => ?_
  have hrun := run_make_row' (P := Try.prog) 25 50 (.slice none 0 0) 24 Try.underlying25 row_info rfl .i64 .i64 n (by omega) (by omega) w
  unfold Oper.wp
  simp [execOp, hop, hl, hc, hrun, Result.andThen]
  refine hK' _ _ (hK _ ⟨?_, fun k g row h => by simp at h, fun g h => by simp at h, List.nodup_nil, hb⟩ ((Below.refl _ _).alloc (Nat.le_refl _) _))
  rw [heap_alloc_new]
  have e := toList_madeCells_one (.slice none 0 0) n
  have e2 : madeCells #[.slice none 0 0] n = (vOf [] rs ++ List.replicate (n - ([] : List Nat).length) (Value.slice none 0 0)).toArray := by
    rw [← Array.toList_inj, e]
    simp [vOf]
  rw [e2]
/-- One row more, as it lies already. -/
theorem Wb.pushZ {base p n : Nat} {rs : List (List Ed)} {gs : List Nat} {W : World} {row : List Ed} (h : Wb base p n rs gs W) (hl : gs.length < n) (hn : n = rs.length) (hr : rs[gs.length]? = some row) (hb : base ≤ W.heap.size) :
    Wb base p n rs (gs ++ [W.heap.size]) ((W.alloc (.cells (eC row).toArray 49)).setCell ⟨p, gs.length, none⟩ (.slice (some ⟨W.heap.size, 0, none⟩) row.length row.length)) := by
  have hpl : p < W.heap.size := hlt h.blk
  have hA : ∀ k o, k < W.heap.size → W.heap[k]? = some o → (W.alloc (.cells (eC row).toArray 49)).heap[k]? = some o := fun k o hk ho => (Below.heap_alloc _ _ _ hk).trans ho
  have hg1 : ((W.alloc (.cells (eC row).toArray 49)).setCell ⟨p, gs.length, none⟩ (.slice (some ⟨W.heap.size, 0, none⟩) row.length row.length)).heap[W.heap.size]? = some (.cells (eC row).toArray 49 (0, 0)) :=
    (Below.heap_setCell _ _ _ _ (by show W.heap.size ≠ p; omega)).trans (World.alloc_heap_new W _)
  refine ⟨?_, fun k g row' h1 h2 => ?_, fun g hg => ?_, ?_, h.p0⟩
  · rw [← set_row hl hn hr]
    have := hA p _ hpl h.blk
    simp [World.setCell, Array.getElem?_modify, this]
  · rw [List.getElem?_append] at h1
    split at h1
    · obtain ⟨o1, o2, o3⟩ := h.own g (List.mem_of_getElem? h1)
      exact (Below.heap_setCell _ _ _ _ o2).trans (hA g _ o3 (h.row k g row' h1 h2))
    · rename_i hge
      have hk : k = gs.length := by
        have := (List.getElem?_eq_some_iff.1 h1).1
        simp at this; omega
      subst hk
      simp at h1
      subst h1
      rw [hr] at h2
      injection h2 with h2
      subst h2
      exact hg1
  · rcases List.mem_append.1 hg with hg | hg
    · obtain ⟨o1, o2, o3⟩ := h.own g hg
      exact ⟨o1, o2, by simp [World.setCell]; omega⟩
    · simp at hg
      subst hg
      exact ⟨hb, by omega, by simp [World.setCell]⟩
  · rw [List.nodup_append]
    refine ⟨h.inj, by simp, fun a ha b hb' => ?_⟩
    simp at hb'
    subst hb'
    have := (h.own a ha).2.2
    omega
/-- The memory of renumbered: the machine, the map, the rows so far. -/
structure Rn (w : World) (m : Ma) (A : Option Addr) (c p : Nat) (l : List Int) (D : DataW Unit) (gs : List Nat) (rs : List (List Ed)) (W : World) : Prop where
  bel : Below w.heap.size w W
  bm : BxM W w.heap.size m.i m.o A m.r.length c
  bo : BxM W (w.heap.size + 1) 0 0 none 0 0
  mx : MX W (w.heap.size + 1 + 1) (w.heap.size + 1 + 1 + 1) l.length D
  wb : Wb (w.heap.size + 4) p l.length rs gs W
section
variable {w W W' : World} {m : Ma} {A : Option Addr} {c p : Nat} {l : List Int} {D : DataW Unit} {gs : List Nat} {rs : List (List Ed)}
theorem Rn.below (h : Rn w m A c p l D gs rs W) (k : Below W.heap.size W W') : Rn w m A c p l D gs rs W' :=
  ⟨below_next h.bel k, h.bm.mvB k, h.bo.mvB k, h.mx.below k, h.wb.below k⟩
theorem Rn.row {row : List Ed} (h : Rn w m A c p l D gs rs W) (hl : gs.length < l.length) (hn : l.length = rs.length) (hr : rs[gs.length]? = some row) :
    Rn w m A c p l D (gs ++ [W.heap.size]) rs ((W.alloc (.cells (eC row).toArray 49)).setCell ⟨p, gs.length, none⟩ (.slice (some ⟨W.heap.size, 0, none⟩) row.length row.length)) := by
  have hp := h.wb.p0
  have hA : Below W.heap.size W (W.alloc (.cells (eC row).toArray 49)) := (Below.refl _ _).alloc (Nat.le_refl _) _
  have h4 : w.heap.size + 4 ≤ W.heap.size := by have := hlt h.wb.blk; omega
  exact ⟨(below_next h.bel hA).setCell (p := ⟨p, gs.length, none⟩) (by show w.heap.size ≤ p; omega) _, (h.bm.mvB hA).farS (by omega) _, (h.bo.mvB hA).farS (by omega) _, (h.mx.below hA).far (by omega) (by omega) _, h.wb.pushZ hl hn hr h4⟩
theorem Rn.put {s i g : Nat} {row : List Ed} {x : Ed} (h : Rn w m A c p l D gs rs W) (h1 : gs[s]? = some g) (h2 : rs[s]? = some row) (hi : i < row.length) :
    Rn w m A c p l D gs (rs.set s (row.set i x)) ((W.setCell ⟨g, i * 2, none⟩ (.int .i64 x.1)).setCell ⟨g, i * 2 + 1, none⟩ (.int .i64 x.2)) := by
  obtain ⟨o1, o2, o3⟩ := h.wb.own g (List.mem_of_getElem? h1)
  exact ⟨(h.bel.setCell (p := ⟨g, i * 2, none⟩) (by show w.heap.size ≤ g; omega) _).setCell (p := ⟨g, i * 2 + 1, none⟩) (by show w.heap.size ≤ g; omega) _, (h.bm.farS (by omega) _).farS (by omega) _, (h.bo.farS (by omega) _).farS (by omega) _,
    (h.mx.far (by omega) (by omega) _).far (by omega) (by omega) _, h.wb.put h1 h2 hi⟩
end
end Go.Proofs.Ytldpfbmkmehadaa
