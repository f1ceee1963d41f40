/-
  Words for memory: rows that are copied, each in a block of its own. No statement is proved here.
-/
import Derived.Test.YtldpfbmkmehadaaSMdZ
import Derived.Test.YtldpfbmkmehadaaSMc8
import Derived.Laws.CopyOwn
import Derived.Laws.MakeOwn
import Derived.Deep.OwnRows
namespace Go.Proofs.Ytldpfbmkmehadaa
open Go.RowKit
open Mc (Ed Ma Pe)

theorem eC_read {w : World} {ad : Addr} {row : List Ed} (h : RdP w (some ad) row) : ∀ j v, (eC row)[j]? = some v → w.cell? (ad.add j) = some v := fun j v hj => by
  have hlt : j < row.length * 2 := by
    rcases Nat.lt_or_ge j (row.length * 2) with h1 | h1
    · exact h1
    · rw [List.getElem?_eq_none (by rw [eC_len]; exact h1)] at hj; cases hj
  obtain ⟨b, off, e, _, hc⟩ := h (by omega)
  injection e with e
  subst e
  have hk : j / 2 < row.length := by omega
  obtain ⟨c1, c2⟩ := hc (j / 2) _ (List.getElem?_eq_getElem hk)
  obtain ⟨e1, e2⟩ := eC_at (List.getElem?_eq_getElem hk)
  rw [Addr.add_lit]
  rcases Nat.mod_two_eq_zero_or_one j with h2 | h2
  · have hj2 : j = j / 2 * 2 := by omega
    rw [hj2] at hj ⊢
    rw [e1] at hj
    rw [← hj]
    exact c1
  · have hj2 : j = j / 2 * 2 + 1 := by omega
    rw [hj2] at hj ⊢
    rw [e2] at hj
    rw [← hj]
    exact c2
theorem eC_set : ∀ (row : List Ed) (k : Nat) (x : Ed), k < row.length → ((eC row).set (k * 2) (.int .i64 x.1)).set (k * 2 + 1) (.int .i64 x.2) = eC (row.set k x)
  | [], k, x, h => by simp at h
  | a :: row, 0, x, h => by simp [eC]
  | a :: row, k + 1, x, h => by
    have := eC_set row k x (by simpa using h)
    have e : ∀ (l : List Ed), eC (a :: l) = .int .i64 a.1 :: .int .i64 a.2 :: eC l := fun l => by simp [eC]
    rw [e row, List.set_cons_succ, e (row.set k x), ← this, show (k + 1) * 2 = k * 2 + 1 + 1 by omega]
    simp only [List.set_cons_succ]

/-- copy(to, row): the row's edges, in a block of the call's own. -/
theorem run_copy_edges (w : World) (ty : TypeId) (g q c : Nat) (ad : Addr) (cur : Array Value) (row : List Ed) (hg : w.heap[g]? = some (.cells cur 49 (0, 0))) (hq : row.length = q) (hs : cur.size = q * 2) (hr : RdP w (some ad) row) :
    (Builtin.copy_ #[50, 50] ty #[.slice (some ⟨g, 0, none⟩) q q, .slice (some ad) q c]).run Try.prog w = .ok (goInt q) (w.setRow g (eC row).toArray) := by
  have hl := run_loadCells_list (P := Try.prog) w ad (eC row) (eC_read hr)
  have hst := run_storeCells_at Try.prog g 0 49 (eC row) 0 cur w hg (by rw [eC_len]; omega) (eC_cell row)
  obtain ⟨i, hi, hz, hz1, hz2⟩ := info_parts edge_info
  have hu : Try.prog.underlying 50 = some (.slice 49) := Try.underlying50
  have hlen : (eC row).length = q * 2 := by rw [eC_len, hq]
  rw [hlen] at hl
  have hdrop : cur.toList.drop (0 + 0 + (eC row).length) = [] := List.drop_eq_nil_of_le (by rw [hlen]; simp [hs])
  have hn : Nat.min q q = q := Nat.min_self q
  simp [Builtin.copy_, run_underlying hu, Builtin.lenOf, Builtin.firstCells, sizeOf, typeInfo, hi, hz1, hn, hl, hst]
  rw [show cur.toList.drop (eC row).length = [] by simpa using hdrop, List.append_nil]

/-- The slices of the rows, each over a block of its own. -/
def vOf (gs : List Nat) (rs : List (List Ed)) : List Value := List.zipWith (fun g row => Value.slice (some ⟨g, 0, none⟩) row.length row.length) gs rs
theorem vOf_len {gs : List Nat} {rs : List (List Ed)} (h : gs.length ≤ rs.length) : (vOf gs rs).length = gs.length := by
  unfold vOf; rw [List.length_zipWith]; omega
theorem vOf_at {gs : List Nat} {rs : List (List Ed)} {k g : Nat} {row : List Ed} (h : gs[k]? = some g) (hr : rs[k]? = some row) : (vOf gs rs)[k]? = some (.slice (some ⟨g, 0, none⟩) row.length row.length) := by
  unfold vOf; rw [List.getElem?_zipWith, h, hr]
theorem vOf_snoc : ∀ (gs : List Nat) (rs : List (List Ed)) (G : Nat) (row : List Ed), rs[gs.length]? = some row → vOf (gs ++ [G]) rs = vOf gs rs ++ [.slice (some ⟨G, 0, none⟩) row.length row.length]
  | [], [], _, _, h => by simp at h
  | [], r :: rs, G, row, h => by simp at h; subst h; simp [vOf]
  | g :: gs, [], _, _, h => by simp at h
  | g :: gs, r :: rs, G, row, h => by
    have := vOf_snoc gs rs G row (by simpa using h)
    unfold vOf at this ⊢
    simp only [List.cons_append, List.zipWith_cons_cons, this]
theorem vOf_set : ∀ (gs : List Nat) (rs : List (List Ed)) (s : Nat) (row row' : List Ed), rs[s]? = some row → row'.length = row.length → vOf gs (rs.set s row') = vOf gs rs
  | _, [], _, _, _, h, _ => by simp at h
  | [], _ :: _, _, _, _, _, _ => by simp [vOf]
  | g :: gs, r :: rs, 0, row, row', h, hl => by simp at h; subst h; simp [vOf, hl]
  | g :: gs, r :: rs, s + 1, row, row', h, hl => by
    have := vOf_set gs rs s row row' (by simpa using h) hl
    unfold vOf at this ⊢
    simp only [List.set_cons_succ, List.zipWith_cons_cons, this]

/-- The first rows are copied. -/
structure Wb (base p n : Nat) (rs : List (List Ed)) (gs : List Nat) (W : World) : Prop where
  blk : W.heap[p]? = some (.cells (vOf gs rs ++ List.replicate (n - gs.length) (Value.slice none 0 0)).toArray 50 (0, 0))
  row : ∀ (k g : Nat) (row : List Ed), gs[k]? = some g → rs[k]? = some row → W.heap[g]? = some (.cells (eC row).toArray 49 (0, 0))
  own : ∀ g ∈ gs, base ≤ g ∧ g ≠ p ∧ g < W.heap.size
  inj : gs.Nodup
  p0 : base ≤ p
section
variable {base p n : Nat} {rs : List (List Ed)} {gs : List Nat} {W W' : World}
theorem Wb.below (h : Wb base p n rs gs W) (k : Below W.heap.size W W') : Wb base p n rs gs W' :=
  ⟨(k.block _ (hlt h.blk)).trans h.blk, fun i g row h1 h2 => (k.block _ (h.own g (List.mem_of_getElem? h1)).2.2).trans (h.row i g row h1 h2), fun g hg => ⟨(h.own g hg).1, (h.own g hg).2.1, by have := (h.own g hg).2.2; have := k.size; omega⟩, h.inj, h.p0⟩
theorem Wb.cell (h : Wb base p n rs gs W) {k : Nat} (hk : k < gs.length + (n - gs.length)) (hl : gs.length ≤ rs.length) : ∃ v, W.cell? ⟨p, k, none⟩ = some v ∧ W.frozen? ⟨p, k, none⟩ = false := by
  have hlen : (vOf gs rs ++ List.replicate (n - gs.length) (Value.slice none 0 0)).length = gs.length + (n - gs.length) := by rw [List.length_append, vOf_len hl, List.length_replicate]
  have hk' : k < (vOf gs rs ++ List.replicate (n - gs.length) (Value.slice none 0 0)).length := by rw [hlen]; exact hk
  refine ⟨(vOf gs rs ++ List.replicate (n - gs.length) (Value.slice none 0 0))[k]'hk', ?_, ?_⟩
  · rw [cell_of_row W p k _ _ (0, 0) h.blk]
    simp only [List.getElem?_toArray]
    exact List.getElem?_eq_getElem hk'
  · simp [World.frozen?, h.blk]
theorem Wb.at_ (h : Wb base p n rs gs W) {k g : Nat} {row : List Ed} (h1 : gs[k]? = some g) (h2 : rs[k]? = some row) (hl : gs.length ≤ rs.length) : W.cell? ⟨p, k, none⟩ = some (.slice (some ⟨g, 0, none⟩) row.length row.length) := by
  rw [cell_of_row W p k _ _ (0, 0) h.blk]
  simp only [List.getElem?_toArray]
  rw [List.getElem?_append_left (by rw [vOf_len hl]; exact (List.getElem?_eq_some_iff.1 h1).1)]
  exact vOf_at h1 h2
/-- The slice of the next row stands in its place. -/
theorem set_row {gs : List Nat} {rs : List (List Ed)} {n G : Nat} {row : List Ed} (hl : gs.length < n) (hn : n = rs.length) (hr : rs[gs.length]? = some row) :
    (vOf gs rs ++ List.replicate (n - gs.length) (Value.slice none 0 0)).set gs.length (.slice (some ⟨G, 0, none⟩) row.length row.length) = vOf (gs ++ [G]) rs ++ List.replicate (n - (gs ++ [G]).length) (Value.slice none 0 0) := by
  rw [vOf_snoc gs rs G row hr, List.set_append_right _ _ (by rw [vOf_len (by omega)]; omega), vOf_len (by omega), Nat.sub_self, List.length_append, List.length_singleton, show n - gs.length = (n - (gs.length + 1)) + 1 by omega, List.replicate_succ, List.set_cons_zero, List.append_assoc]
  rfl
/-- One row more. -/
theorem Wb.push {cur : Array Value} {row : List Ed} (h : Wb base p n rs gs W) (hl : gs.length < n) (hn : n = rs.length) (hr : rs[gs.length]? = some row) (hb : base ≤ W.heap.size) :
    Wb base p n rs (gs ++ [W.heap.size]) (((W.alloc (.cells cur 49)).setCell ⟨p, gs.length, none⟩ (.slice (some ⟨W.heap.size, 0, none⟩) row.length row.length)).setRow W.heap.size (eC row).toArray) := by
  have hpl : p < W.heap.size := hlt h.blk
  have hA : ∀ k o, k < W.heap.size → W.heap[k]? = some o → (W.alloc (.cells cur 49)).heap[k]? = some o := fun k o hk ho => (Below.heap_alloc _ _ _ hk).trans ho
  have hp1 : ((W.alloc (.cells cur 49)).setCell ⟨p, gs.length, none⟩ (.slice (some ⟨W.heap.size, 0, none⟩) row.length row.length)).heap[p]? = some (.cells (vOf (gs ++ [W.heap.size]) rs ++ List.replicate (n - (gs ++ [W.heap.size]).length) (Value.slice none 0 0)).toArray 50 (0, 0)) := by
    rw [← set_row hl hn hr]
    have := hA p _ hpl h.blk
    simp [World.setCell, Array.getElem?_modify, this]
  have hg1 : ((W.alloc (.cells cur 49)).setCell ⟨p, gs.length, none⟩ (.slice (some ⟨W.heap.size, 0, none⟩) row.length row.length)).heap[W.heap.size]? = some (.cells cur 49 (0, 0)) :=
    (Below.heap_setCell _ _ _ _ (by show W.heap.size ≠ p; omega)).trans (World.alloc_heap_new W _)
  refine ⟨?_, fun k g row' h1 h2 => ?_, fun g hg => ?_, ?_, h.p0⟩
  · exact (setRow_other _ _ _ _ (by omega)).trans hp1
  · rw [List.getElem?_append] at h1
    split at h1
    · obtain ⟨o1, o2, o3⟩ := h.own g (List.mem_of_getElem? h1)
      exact (setRow_other _ _ _ _ (by omega)).trans ((Below.heap_setCell _ _ _ _ o2).trans (hA g _ o3 (h.row k g row' h1 h2)))
    · rename_i hge
      have hk : k = gs.length := by
        have := (List.getElem?_eq_some_iff.1 h1).1
        simp at this; omega
      subst hk
      simp at h1
      subst h1
      rw [hr] at h2
      injection h2 with h2
      subst h2
      exact setRow_heap _ _ _ _ _ _ hg1
  · rcases List.mem_append.1 hg with hg | hg
    · obtain ⟨o1, o2, o3⟩ := h.own g hg
      exact ⟨o1, o2, by simp [World.setRow]; omega⟩
    · simp at hg
      subst hg
      exact ⟨hb, by omega, by simp [World.setRow]⟩
  · rw [List.nodup_append]
    refine ⟨h.inj, by simp, fun a ha b hb' => ?_⟩
    simp at hb'
    subst hb'
    have := (h.own a ha).2.2
    omega
/-- An edge is written. -/
theorem Wb.put {s i g : Nat} {row : List Ed} {x : Ed} (h : Wb base p n rs gs W) (h1 : gs[s]? = some g) (h2 : rs[s]? = some row) (hi : i < row.length) :
    Wb base p n (rs.set s (row.set i x)) gs ((W.setCell ⟨g, i * 2, none⟩ (.int .i64 x.1)).setCell ⟨g, i * 2 + 1, none⟩ (.int .i64 x.2)) := by
  obtain ⟨o1, o2, o3⟩ := h.own g (List.mem_of_getElem? h1)
  have hv := vOf_set gs rs s row (row.set i x) h2 (by simp)
  refine ⟨?_, fun k g' row' h3 h4 => ?_, fun g' hg' => ?_, h.inj, h.p0⟩
  · rw [hv]
    exact (Below.heap_setCell _ _ _ _ o2.symm).trans ((Below.heap_setCell _ _ _ _ o2.symm).trans h.blk)
  · by_cases hks : k = s
    · subst hks
      rw [h1] at h3
      injection h3 with h3
      subst h3
      rw [List.getElem?_set_self (by exact (List.getElem?_eq_some_iff.1 h2).1)] at h4
      injection h4 with h4
      subst h4
      have := h.row k g row h1 h2
      rw [← eC_set row i x hi]
      simp [World.setCell, Array.getElem?_modify, this]
    · rw [List.getElem?_set_ne (Ne.symm hks)] at h4
      have hne : g' ≠ g := fun e => by
        subst e
        have e1 := List.getElem?_eq_some_iff.1 h1
        have e2 := List.getElem?_eq_some_iff.1 h3
        exact hks ((List.getElem_inj h.inj).1 (e2.2.trans e1.2.symm))
      exact (Below.heap_setCell _ _ _ _ hne).trans ((Below.heap_setCell _ _ _ _ hne).trans (h.row k g' row' h3 h4))
  · obtain ⟨o1, o2, o3⟩ := h.own g' hg'
    exact ⟨o1, o2, by simpa [World.setCell] using o3⟩
/-- All rows are copied: they are the call's own. -/
theorem Wb.bld (h : Wb base p n rs gs W) (hg : gs.length = n) (hn : n = rs.length) (hm : n ≤ maxLen) (hrl : ∀ row ∈ rs, row.length ≤ maxLen) : Bld W base (.slice (some ⟨p, 0, none⟩) n n) rs (vOf gs rs) := by
  have hl : (vOf gs rs).length = n := by rw [vOf_len (by omega)]; exact hg
  have hb := h.blk
  rw [hg, Nat.sub_self, List.replicate_zero, List.append_nil] at hb
  refine ⟨⟨by rw [hl, hn]; omega, .inr ⟨p, n, _, by rw [hn], h.p0, hb, by omega, hm, by simpa using hl, ?_⟩⟩, fun k row hk => ?_⟩
  · rw [Nat.mul_one, ← hn, ← hl]
    simp
  · have hkl : k < gs.length := by have := (List.getElem?_eq_some_iff.1 hk).1; omega
    have hgk := List.getElem?_eq_getElem hkl
    obtain ⟨o1, _, _⟩ := h.own gs[k] (List.getElem_mem hkl)
    refine ⟨gs[k], row.length, vOf_at hgk hk, ⟨eC_len row, .inr ⟨gs[k], row.length, _, rfl, o1, h.row k _ row hgk hk, Nat.le_refl _, hrl row (List.mem_of_getElem? hk), by simpa using eC_len row, ?_⟩⟩⟩
    rw [← eC_len row]
    simp
end
end Go.Proofs.Ytldpfbmkmehadaa
