/-
  Several texts in one: Wm, Wc0, Wc1, Wc2. No statement is proved here.
-/
import Derived.Test.YtgafpmgdpigliaaSMdZ
import Derived.Test.YtgafpmgdpigliaaScB
import Derived.Laws.CopyOwn
import Derived.Laws.MakeOwn
import Derived.Deep.OwnRows
import Derived.Test.YtgafpmgdpigliaaWkZ
import Derived.Maps.OwnSet
import Derived.Maps.OwnOps
import Derived.WalkKit
import Derived.Deep.RegionHeld3
namespace Go.Proofs.Ytgafpmgdpigliaa
open Go.RowKit
open Mc (Ed Ma Pe)

theorem eC_read {w : World} {ad : Addr} {row : List Ed} (h : RdP w (some ad) row) : ∀ j v, (eC row)[j]? = some v → w.cell? (ad.add j) = some v := fun j v hj => by
  have hlt : j < row.length * 2 := by
    rcases Nat.lt_or_ge j (row.length * 2) with h1 | h1
    · exact h1
    · rw [List.getElem?_eq_none (by rw [eC_len]; exact h1)] at hj; cases hj
  obtain ⟨b, off, e, _, hc⟩ := h (by omega)
  injection e with e
  subst e
  have hk : j / 2 < row.length := by omega
  obtain ⟨c1, c2⟩ := hc (j / 2) _ (List.getElem?_eq_getElem hk)
  obtain ⟨e1, e2⟩ := eC_at (List.getElem?_eq_getElem hk)
  rw [Addr.add_lit]
  rcases Nat.mod_two_eq_zero_or_one j with h2 | h2
  · have hj2 : j = j / 2 * 2 := by omega
    rw [hj2] at hj ⊢
    rw [e1] at hj
    rw [← hj]
    exact c1
  · have hj2 : j = j / 2 * 2 + 1 := by omega
    rw [hj2] at hj ⊢
    rw [e2] at hj
    rw [← hj]
    exact c2
theorem eC_set : ∀ (row : List Ed) (k : Nat) (x : Ed), k < row.length → ((eC row).set (k * 2) (.int .i64 x.1)).set (k * 2 + 1) (.int .i64 x.2) = eC (row.set k x)
  | [], k, x, h => by simp at h
  | a :: row, 0, x, h => by simp [eC]
  | a :: row, k + 1, x, h => by
    have := eC_set row k x (by simpa using h)
    have e : ∀ (l : List Ed), eC (a :: l) = .int .i64 a.1 :: .int .i64 a.2 :: eC l := fun l => by simp [eC]
    rw [e row, List.set_cons_succ, e (row.set k x), ← this, show (k + 1) * 2 = k * 2 + 1 + 1 by omega]
    simp only [List.set_cons_succ]

/-- copy(to, row): the row's edges, in a block of the call's own. -/
theorem run_copy_edges (w : World) (ty : TypeId) (g q c : Nat) (ad : Addr) (cur : Array Value) (row : List Ed) (hg : w.heap[g]? = some (.cells cur 27 (0, 0))) (hq : row.length = q) (hs : cur.size = q * 2) (hr : RdP w (some ad) row) :
    (Builtin.copy_ #[29, 29] ty #[.slice (some ⟨g, 0, none⟩) q q, .slice (some ad) q c]).run Try.prog w = .ok (goInt q) (w.setRow g (eC row).toArray) := by
  have hl := run_loadCells_list (P := Try.prog) w ad (eC row) (eC_read hr)
  have hst := run_storeCells_at Try.prog g 0 27 (eC row) 0 cur w hg (by rw [eC_len]; omega) (eC_cell row)
  obtain ⟨i, hi, hz, hz1, hz2⟩ := info_parts edge_info
  have hu : Try.prog.underlying 29 = some (.slice 27) := Try.underlying29
  have hlen : (eC row).length = q * 2 := by rw [eC_len, hq]
  rw [hlen] at hl
  have hdrop : cur.toList.drop (0 + 0 + (eC row).length) = [] := List.drop_eq_nil_of_le (by rw [hlen]; simp [hs])
  have hn : Nat.min q q = q := Nat.min_self q
  simp [Builtin.copy_, run_underlying hu, Builtin.lenOf, Builtin.firstCells, sizeOf, typeInfo, hi, hz1, hn, hl, hst]
  rw [show cur.toList.drop (eC row).length = [] by simpa using hdrop, List.append_nil]

/-- The slices of the rows, each over a block of its own. -/
def vOf (gs : List Nat) (rs : List (List Ed)) : List Value := List.zipWith (fun g row => Value.slice (some ⟨g, 0, none⟩) row.length row.length) gs rs
theorem vOf_len {gs : List Nat} {rs : List (List Ed)} (h : gs.length ≤ rs.length) : (vOf gs rs).length = gs.length := by
  unfold vOf; rw [List.length_zipWith]; omega
theorem vOf_at {gs : List Nat} {rs : List (List Ed)} {k g : Nat} {row : List Ed} (h : gs[k]? = some g) (hr : rs[k]? = some row) : (vOf gs rs)[k]? = some (.slice (some ⟨g, 0, none⟩) row.length row.length) := by
  unfold vOf; rw [List.getElem?_zipWith, h, hr]
theorem vOf_snoc : ∀ (gs : List Nat) (rs : List (List Ed)) (G : Nat) (row : List Ed), rs[gs.length]? = some row → vOf (gs ++ [G]) rs = vOf gs rs ++ [.slice (some ⟨G, 0, none⟩) row.length row.length]
  | [], [], _, _, h => by simp at h
  | [], r :: rs, G, row, h => by simp at h; subst h; simp [vOf]
  | g :: gs, [], _, _, h => by simp at h
  | g :: gs, r :: rs, G, row, h => by
    have := vOf_snoc gs rs G row (by simpa using h)
    unfold vOf at this ⊢
    simp only [List.cons_append, List.zipWith_cons_cons, this]
theorem vOf_set : ∀ (gs : List Nat) (rs : List (List Ed)) (s : Nat) (row row' : List Ed), rs[s]? = some row → row'.length = row.length → vOf gs (rs.set s row') = vOf gs rs
  | _, [], _, _, _, h, _ => by simp at h
  | [], _ :: _, _, _, _, _, _ => by simp [vOf]
  | g :: gs, r :: rs, 0, row, row', h, hl => by simp at h; subst h; simp [vOf, hl]
  | g :: gs, r :: rs, s + 1, row, row', h, hl => by
    have := vOf_set gs rs s row row' (by simpa using h) hl
    unfold vOf at this ⊢
    simp only [List.set_cons_succ, List.zipWith_cons_cons, this]

/-- The first rows are copied. -/
structure Wb (base p n : Nat) (rs : List (List Ed)) (gs : List Nat) (W : World) : Prop where
  blk : W.heap[p]? = some (.cells (vOf gs rs ++ List.replicate (n - gs.length) (Value.slice none 0 0)).toArray 29 (0, 0))
  row : ∀ (k g : Nat) (row : List Ed), gs[k]? = some g → rs[k]? = some row → W.heap[g]? = some (.cells (eC row).toArray 27 (0, 0))
  own : ∀ g ∈ gs, base ≤ g ∧ g ≠ p ∧ g < W.heap.size
  inj : gs.Nodup
  p0 : base ≤ p
section
variable {base p n : Nat} {rs : List (List Ed)} {gs : List Nat} {W W' : World}
theorem Wb.below (h : Wb base p n rs gs W) (k : Below W.heap.size W W') : Wb base p n rs gs W' :=
  ⟨(k.block _ (hlt h.blk)).trans h.blk, fun i g row h1 h2 => (k.block _ (h.own g (List.mem_of_getElem? h1)).2.2).trans (h.row i g row h1 h2), fun g hg => ⟨(h.own g hg).1, (h.own g hg).2.1, by have := (h.own g hg).2.2; have := k.size; omega⟩, h.inj, h.p0⟩
theorem Wb.cell (h : Wb base p n rs gs W) {k : Nat} (hk : k < gs.length + (n - gs.length)) (hl : gs.length ≤ rs.length) : ∃ v, W.cell? ⟨p, k, none⟩ = some v ∧ W.frozen? ⟨p, k, none⟩ = false := by
  have hlen : (vOf gs rs ++ List.replicate (n - gs.length) (Value.slice none 0 0)).length = gs.length + (n - gs.length) := by rw [List.length_append, vOf_len hl, List.length_replicate]
  have hk' : k < (vOf gs rs ++ List.replicate (n - gs.length) (Value.slice none 0 0)).length := by rw [hlen]; exact hk
  refine ⟨(vOf gs rs ++ List.replicate (n - gs.length) (Value.slice none 0 0))[k]'hk', ?_, ?_⟩
  · rw [cell_of_row W p k _ _ (0, 0) h.blk]
    simp only [List.getElem?_toArray]
    exact List.getElem?_eq_getElem hk'
  · simp [World.frozen?, h.blk]
theorem Wb.at_ (h : Wb base p n rs gs W) {k g : Nat} {row : List Ed} (h1 : gs[k]? = some g) (h2 : rs[k]? = some row) (hl : gs.length ≤ rs.length) : W.cell? ⟨p, k, none⟩ = some (.slice (some ⟨g, 0, none⟩) row.length row.length) := by
  rw [cell_of_row W p k _ _ (0, 0) h.blk]
  simp only [List.getElem?_toArray]
  rw [List.getElem?_append_left (by rw [vOf_len hl]; exact (List.getElem?_eq_some_iff.1 h1).1)]
  exact vOf_at h1 h2
/-- The slice of the next row stands in its place. -/
theorem set_row {gs : List Nat} {rs : List (List Ed)} {n G : Nat} {row : List Ed} (hl : gs.length < n) (hn : n = rs.length) (hr : rs[gs.length]? = some row) :
    (vOf gs rs ++ List.replicate (n - gs.length) (Value.slice none 0 0)).set gs.length (.slice (some ⟨G, 0, none⟩) row.length row.length) = vOf (gs ++ [G]) rs ++ List.replicate (n - (gs ++ [G]).length) (Value.slice none 0 0) := by
  rw [vOf_snoc gs rs G row hr, List.set_append_right _ _ (by rw [vOf_len (by omega)]; omega), vOf_len (by omega), Nat.sub_self, List.length_append, List.length_singleton, show n - gs.length = (n - (gs.length + 1)) + 1 by omega, List.replicate_succ, List.set_cons_zero, List.append_assoc]
  rfl
/-- One row more. -/
theorem Wb.push {cur : Array Value} {row : List Ed} (h : Wb base p n rs gs W) (hl : gs.length < n) (hn : n = rs.length) (hr : rs[gs.length]? = some row) (hb : base ≤ W.heap.size) :
    Wb base p n rs (gs ++ [W.heap.size]) (((W.alloc (.cells cur 27)).setCell ⟨p, gs.length, none⟩ (.slice (some ⟨W.heap.size, 0, none⟩) row.length row.length)).setRow W.heap.size (eC row).toArray) := by
  have hpl : p < W.heap.size := hlt h.blk
  have hA : ∀ k o, k < W.heap.size → W.heap[k]? = some o → (W.alloc (.cells cur 27)).heap[k]? = some o := fun k o hk ho => (Below.heap_alloc _ _ _ hk).trans ho
  have hp1 : ((W.alloc (.cells cur 27)).setCell ⟨p, gs.length, none⟩ (.slice (some ⟨W.heap.size, 0, none⟩) row.length row.length)).heap[p]? = some (.cells (vOf (gs ++ [W.heap.size]) rs ++ List.replicate (n - (gs ++ [W.heap.size]).length) (Value.slice none 0 0)).toArray 29 (0, 0)) := by
    rw [← set_row hl hn hr]
    have := hA p _ hpl h.blk
    simp [World.setCell, Array.getElem?_modify, this]
  have hg1 : ((W.alloc (.cells cur 27)).setCell ⟨p, gs.length, none⟩ (.slice (some ⟨W.heap.size, 0, none⟩) row.length row.length)).heap[W.heap.size]? = some (.cells cur 27 (0, 0)) :=
    (Below.heap_setCell _ _ _ _ (by show W.heap.size ≠ p; omega)).trans (World.alloc_heap_new W _)
  refine ⟨?_, fun k g row' h1 h2 => ?_, fun g hg => ?_, ?_, h.p0⟩
  · exact (setRow_other _ _ _ _ (by omega)).trans hp1
  · rw [List.getElem?_append] at h1
    split at h1
    · obtain ⟨o1, o2, o3⟩ := h.own g (List.mem_of_getElem? h1)
      exact (setRow_other _ _ _ _ (by omega)).trans ((Below.heap_setCell _ _ _ _ o2).trans (hA g _ o3 (h.row k g row' h1 h2)))
    · rename_i hge
      have hk : k = gs.length := by
        have := (List.getElem?_eq_some_iff.1 h1).1
        simp at this; omega
      subst hk
      simp at h1
      subst h1
      rw [hr] at h2
      injection h2 with h2
      subst h2
      exact setRow_heap _ _ _ _ _ _ hg1
  · rcases List.mem_append.1 hg with hg | hg
    · obtain ⟨o1, o2, o3⟩ := h.own g hg
      exact ⟨o1, o2, by simp [World.setRow]; omega⟩
    · simp at hg
      subst hg
      exact ⟨hb, by omega, by simp [World.setRow]⟩
  · rw [List.nodup_append]
    refine ⟨h.inj, by simp, fun a ha b hb' => ?_⟩
    simp at hb'
    subst hb'
    have := (h.own a ha).2.2
    omega
/-- An edge is written. -/
theorem Wb.put {s i g : Nat} {row : List Ed} {x : Ed} (h : Wb base p n rs gs W) (h1 : gs[s]? = some g) (h2 : rs[s]? = some row) (hi : i < row.length) :
    Wb base p n (rs.set s (row.set i x)) gs ((W.setCell ⟨g, i * 2, none⟩ (.int .i64 x.1)).setCell ⟨g, i * 2 + 1, none⟩ (.int .i64 x.2)) := by
  obtain ⟨o1, o2, o3⟩ := h.own g (List.mem_of_getElem? h1)
  have hv := vOf_set gs rs s row (row.set i x) h2 (by simp)
  refine ⟨?_, fun k g' row' h3 h4 => ?_, fun g' hg' => ?_, h.inj, h.p0⟩
  · rw [hv]
    exact (Below.heap_setCell _ _ _ _ o2.symm).trans ((Below.heap_setCell _ _ _ _ o2.symm).trans h.blk)
  · by_cases hks : k = s
    · subst hks
      rw [h1] at h3
      injection h3 with h3
      subst h3
      rw [List.getElem?_set_self (by exact (List.getElem?_eq_some_iff.1 h2).1)] at h4
      injection h4 with h4
      subst h4
      have := h.row k g row h1 h2
      rw [← eC_set row i x hi]
      simp [World.setCell, Array.getElem?_modify, this]
    · rw [List.getElem?_set_ne (Ne.symm hks)] at h4
      have hne : g' ≠ g := fun e => by
        subst e
        have e1 := List.getElem?_eq_some_iff.1 h1
        have e2 := List.getElem?_eq_some_iff.1 h3
        exact hks ((List.getElem_inj h.inj).1 (e2.2.trans e1.2.symm))
      exact (Below.heap_setCell _ _ _ _ hne).trans ((Below.heap_setCell _ _ _ _ hne).trans (h.row k g' row' h3 h4))
  · obtain ⟨o1, o2, o3⟩ := h.own g' hg'
    exact ⟨o1, o2, by simpa [World.setCell] using o3⟩
/-- All rows are copied: they are the call's own. -/
theorem Wb.bld (h : Wb base p n rs gs W) (hg : gs.length = n) (hn : n = rs.length) (hm : n ≤ maxLen) (hrl : ∀ row ∈ rs, row.length ≤ maxLen) : Bld W base (.slice (some ⟨p, 0, none⟩) n n) rs (vOf gs rs) := by
  have hl : (vOf gs rs).length = n := by rw [vOf_len (by omega)]; exact hg
  have hb := h.blk
  rw [hg, Nat.sub_self, List.replicate_zero, List.append_nil] at hb
  refine ⟨⟨by rw [hl, hn]; omega, .inr ⟨p, n, _, by rw [hn], h.p0, hb, by omega, hm, by simpa using hl, ?_⟩⟩, fun k row hk => ?_⟩
  · rw [Nat.mul_one, ← hn, ← hl]
    simp
  · have hkl : k < gs.length := by have := (List.getElem?_eq_some_iff.1 hk).1; omega
    have hgk := List.getElem?_eq_getElem hkl
    obtain ⟨o1, _, _⟩ := h.own gs[k] (List.getElem_mem hkl)
    refine ⟨gs[k], row.length, vOf_at hgk hk, ⟨eC_len row, .inr ⟨gs[k], row.length, _, rfl, o1, h.row k _ row hgk hk, Nat.le_refl _, hrl row (List.mem_of_getElem? hk), by simpa using eC_len row, ?_⟩⟩⟩
    rw [← eC_len row]
    simp
end
end Go.Proofs.Ytgafpmgdpigliaa

namespace Go.Proofs.Ytgafpmgdpigliaa
open Go.RowKit Go.Maps
open Mc (Ed Ma)

theorem lawI : Keyed Try.prog 3 := int_keyed Try.underlying3
theorem zeroI (w : World) : (zeroValue 3).run Try.prog w = .ok (.int .i64 0) w := by kernel_rfl
theorem wf_i64 {z : Int} (h1 : -9223372036854775808 ≤ z) (h2 : z ≤ 9223372036854775807) : (Lit.int .i64 z).wf = true := WalkArith.wf_i64 ⟨h1, h2⟩
theorem keyI {z : Int} (h1 : -9223372036854775808 ≤ z) (h2 : z ≤ 9223372036854775807) : keyOf Try.prog 3 (.int .i64 z) = some (.int .i64 z) := keyOf_int_mk Try.underlying3 (wf_i64 h1 h2)
/-- The map of renumbered after a list: each state with its place. -/
def MpR (D : DataW Unit) (l : List Int) : Prop := ∀ (k : Nat) (z : Int), l[k]? = some z → D.atKey (.int .i64 z) (.lit (.int .i64 0)) = .lit (.int .i64 k)
theorem MpR.start : MpR (.map []) [] := fun k z h => by simp at h
theorem MpR.new {D : DataW Unit} {l : List Int} {z : Int} {n : Nat} (h : MpR D l) (ht : Tidy D) (hz : ¬ z ∈ l) (hn : l.length = n) : MpR (D.put (.int .i64 z) (.lit (.int .i64 n))) (l ++ [z]) := by
  subst hn
  have hne : ∀ y : Int, y ≠ z → (Lit.int .i64 y) ≠ .int .i64 z := fun y hy e => hy (by injection e)
  intro k y hk
  rw [List.getElem?_append] at hk
  split at hk
  · have hyz : y ≠ z := fun e => hz (e ▸ List.mem_of_getElem? hk)
    rw [atKey_put_other (hne y hyz), h k y hk]
  · rename_i hge
    have hk0 : k = l.length := by
      have := (List.getElem?_eq_some_iff.1 hk).1
      simp at this
      omega
    subst hk0
    simp at hk
    subst hk
    rw [atKey_put_same ht.isMap (show WideAt.IsKeyLit (.int .i64 z) from trivial)]
/-- The map in block b, its box in block x. -/
structure MX (w : World) (b x : Nat) (n : Nat) (D : DataW Unit) : Prop where
  own : w.ownsMap Try.prog 3 (plainElem (H := Unit) Try.prog 3) b n D
  box : w.cell? ⟨x, 0, none⟩ = some (.map (some b))
theorem MX.below {w w' : World} {b x n : Nat} {D : DataW Unit} (h : MX w b x n D) (k : Below w.heap.size w w') : MX w' b x n D := by
  obtain ⟨es, cl, h1, h2⟩ := h.own
  obtain ⟨o, ho, _⟩ := cell_block h.box
  exact ⟨⟨es, cl, (k.block b (heap_lt h1)).trans h1, h2⟩, (k.cell (p := ⟨x, 0, none⟩) (heap_lt ho)).trans h.box⟩
theorem MX.far {w : World} {b x n g off : Nat} {D : DataW Unit} (h : MX w b x n D) (h1 : b ≠ g) (h2 : x ≠ g) (u : Value) : MX (w.setCell ⟨g, off, none⟩ u) b x n D :=
  ⟨h.own.setCell (a := ⟨g, off, none⟩) h1 u, (World.cell?_of_block (w := w) (a := ⟨x, 0, none⟩) (Below.heap_setCell w ⟨g, off, none⟩ u x h2)).trans h.box⟩
set_option maxRecDepth 100000 in
set_option maxHeartbeats 1000000 in
theorem renum1_none (x : Nat) (y : Int) (w : World) :
    Calls Try.prog 116 #[.agg #[.int .i64 (-1), .int .i64 y], .pointer (some ⟨x, 0, none⟩)] w fun e w' => e = .returned (.agg #[.int .i64 (-1), .int .i64 y]) ∧ Below w.heap.size w w' := by
  go_enter Try.func116, Try.ntmps116
  go_wp2
  go_returns
  exact ⟨rfl, ((Below.refl _ _).alloc (Nat.le_refl _) _).alloc (by simp) _⟩
set_option maxRecDepth 100000 in
set_option maxHeartbeats 1000000 in
theorem renum1_some (b x n : Nat) (D : DataW Unit) (l : List Int) (t : Int) (k : Nat) (y : Int) (w : World) (hM : MX w b x n D) (hD : MpR D l) (hk : l[k]? = some t) (h0 : 0 ≤ t) (h1 : t ≤ 1000000) :
    Calls Try.prog 116 #[.agg #[.int .i64 t, .int .i64 y], .pointer (some ⟨x, 0, none⟩)] w fun e w' => e = .returned (.agg #[.int .i64 k, .int .i64 y]) ∧ Below w.heap.size w w' := by
  have hne : (t == -1) = false := by rw [beq_eq_false_iff_ne]; omega
  have hat := hD k t hk
  have hkey := keyI (z := t) (by omega) (by omega)
  have hxl : x < w.heap.size := by
    obtain ⟨o, ho, _⟩ := cell_block hM.box
    exact heap_lt ho
  have hbA : Below w.heap.size w ((w.alloc (.cells #[.int .i64 t, .int .i64 y] 27)).alloc (.cells #[.int .i64 0, .int .i64 0] 27)) := ((Below.refl _ _).alloc (Nat.le_refl _) _).alloc (by simp) _
  have hM2 := hM.below hbA
  have hbx := hM2.box
  have hmap := hM2.own
  have HAT := Lib.hid hat
  clear hD hk hat hM hbA hM2
  go_enter Try.func116, Try.ntmps116
  go_wp2_with (at_lookup; refine wpList_lookup_own_int _ rfl _ _ 173 rfl 3 3 .i64 lawI Try.underlying173 Try.underlying3 (zeroI _) b n D rfl hmap _ _ rfl hkey ?_; intro c2 hat hwc; obtain rfl : c2 = (k : Int) := (by have h := HAT.out.symm.trans hat; injection h with h; injection h with _ h; exact h.symm); clear hat hwc)
  go_returns
  exact ⟨rfl, ((Below.refl _ _).alloc (Nat.le_refl _) _).alloc (by simp) _⟩
end Go.Proofs.Ytgafpmgdpigliaa

namespace Go.Proofs.Ytgafpmgdpigliaa
open Go.RowKit
open Mc (Ed Ma)

/-- The rows of T before k, then rows of zeros. -/
def rnR (T : List (List Ed)) (i k : Nat) : List (List Ed) := T.take k ++ List.replicate (T.length - k) (List.replicate i (0, 0))
/-- The edges of a row before j, then zeros. -/
def rnC (row : List Ed) (i j : Nat) : List Ed := row.take j ++ List.replicate (i - j) (0, 0)
section
variable {T : List (List Ed)} {i k j : Nat} {row : List Ed} {x : Ed}
theorem rnR_len (h : k ≤ T.length) : (rnR T i k).length = T.length := by simp [rnR]; omega
theorem rnR_at (h : k < T.length) : (rnR T i k)[k]? = some (List.replicate i (0, 0)) := by
  unfold rnR
  rw [List.getElem?_append_right (by simp; omega), List.length_take, Nat.min_eq_left (by omega), Nat.sub_self, List.getElem?_replicate, if_pos (by omega)]
theorem rnR_all : rnR T i T.length = T := by simp [rnR]
theorem rnR_set (hr : T[k]? = some row) : (rnR T i k).set k row = rnR T i (k + 1) := by
  have h : k < T.length := (List.getElem?_eq_some_iff.1 hr).1
  unfold rnR
  rw [List.set_append_right _ _ (by simp; omega), List.length_take, Nat.min_eq_left (by omega), Nat.sub_self, show T.length - k = (T.length - (k + 1)) + 1 by omega, List.replicate_succ, List.set_cons_zero, List.take_add_one, hr]
  simp
theorem rnR_self (h : k < T.length) : (rnR T i k).set k (List.replicate i (0, 0)) = rnR T i k := by
  have h1 := rnR_at (i := i) h
  obtain ⟨h2, h3⟩ := List.getElem?_eq_some_iff.1 h1
  rw [← h3, List.set_getElem_self]
theorem rnC_len (h : row.length = i) (hj : j ≤ i) : (rnC row i j).length = i := by simp [rnC]; omega
theorem rnC_zero : rnC row i 0 = List.replicate i (0, 0) := by simp [rnC]
theorem rnC_all (h : row.length = i) : rnC row i i = row := by subst h; simp [rnC]
theorem rnC_set (h : row.length = i) (hx : row[j]? = some x) : (rnC row i j).set j x = rnC row i (j + 1) := by
  have hj : j < row.length := (List.getElem?_eq_some_iff.1 hx).1
  unfold rnC
  rw [List.set_append_right _ _ (by simp; omega), List.length_take, Nat.min_eq_left (by omega), Nat.sub_self, show i - j = (i - (j + 1)) + 1 by omega, List.replicate_succ, List.set_cons_zero, List.take_add_one, hx]
  simp
end
theorem eC_zeros (q : Nat) : madeCells #[.int .i64 0, .int .i64 0] (q * 2) = (eC (List.replicate q (0, 0))).toArray := by
  rw [← Array.toList_inj]
  have h1 : ∀ n : Nat, eC (List.replicate n (0, 0)) = List.replicate (n * 2) (Value.int .i64 0) := fun n => by
    induction n with
    | zero => rfl
    | succ n ih =>
      rw [List.replicate_succ, eC, List.flatMap_cons, ← eC, ih, show (n + 1) * 2 = n * 2 + 1 + 1 by omega, List.replicate_succ, List.replicate_succ]
      rfl
  rw [h1]
  apply List.ext_getElem?
  intro k
  rcases Nat.lt_or_ge k (q * 2) with h | h
  · rw [List.getElem?_replicate, if_pos h]
    have hm : k % 2 = 0 ∨ k % 2 = 1 := Nat.mod_two_eq_zero_or_one k
    rcases hm with e | e <;> simp [madeCells, h, e]
  · rw [List.getElem?_eq_none (by simp [madeCells]; exact h), List.getElem?_eq_none (by simpa using h)]
theorem wpList_make_edgesZ (w : World) {ops : Array Oper} {rest : List Oper} {o : Oper} {a : Act} {Q : Exit → Act → World → Prop}
    (hg : o.guard = none) (l c : Operand) (hop : o.op = Op.makeSlice 29 l c) (L : Int) (q : Nat) (hl : a.eval l = .int .i64 L) (hc : a.eval c = .int .i64 L) (hL : L = (q : Int)) (hq : q ≤ 1000000)
    (hK : wpList Try.prog ops Q rest (a.put o.dst (.slice (some ⟨w.heap.size, 0, none⟩) q q)) (w.alloc (.cells (eC (List.replicate q (0, 0))).toArray 27))) :
    wpList Try.prog ops Q (o :: rest) a w := by
  subst hL
  refine wpList_plain hg fun K hK' => ?_
  obtain ⟨i, hi, hz, hz1, hz2⟩ := info_parts edge_info
  have hrun := run_make (P := Try.prog) w 29 27 i _ Try.underlying29 hi hz .i64 .i64 q q (by omega) (Int.le_refl _) (by rw [hz2]; omega) (by omega)
  simp only [Int.toNat_natCast, hz1] at hrun
  have e : madeCells (Value.agg #[.int .i64 0, .int .i64 0]).cells (q * 2) = (eC (List.replicate q (0, 0))).toArray := eC_zeros q
  rw [e] at hrun
  unfold Oper.wp
  simp [execOp, hop, hl, hc, hrun, Result.andThen]
  exact hK' _ _ hK
theorem wpList_make_rowsZ (w : World) {ops : Array Oper} {rest : List Oper} {o : Oper} {a : Act} {Q : Exit → Act → World → Prop}
    (hg : o.guard = none) (l c : Operand) (hop : o.op = Op.makeSlice 22 l c) (n : Nat) (rs : List (List Ed)) (hl : a.eval l = .int .i64 n) (hc : a.eval c = .int .i64 n) (hn : n ≤ 1000000) (base : Nat) (hb : base ≤ w.heap.size)
    (hK : ∀ w', Wb base w.heap.size n rs [] w' → Below w.heap.size w w' → wpList Try.prog ops Q rest (a.put o.dst (.slice (some ⟨w.heap.size, 0, none⟩) n n)) w') :
    wpList Try.prog ops Q (o :: rest) a w := by
  refine wpList_plain hg fun K hK' => ?_
  have hrun := run_make_row' (P := Try.prog) 22 29 (.slice none 0 0) 24 Try.underlying22 row_info rfl .i64 .i64 n (by omega) (by omega) w
  unfold Oper.wp
  simp [execOp, hop, hl, hc, hrun, Result.andThen]
  refine hK' _ _ (hK _ ⟨?_, fun k g row h => by simp at h, fun g h => by simp at h, List.nodup_nil, hb⟩ ((Below.refl _ _).alloc (Nat.le_refl _) _))
  rw [heap_alloc_new]
  have e := toList_madeCells_one (.slice none 0 0) n
  have e2 : madeCells #[.slice none 0 0] n = (vOf [] rs ++ List.replicate (n - ([] : List Nat).length) (Value.slice none 0 0)).toArray := by
    rw [← Array.toList_inj, e]
    simp [vOf]
  rw [e2]
/-- One row more, as it lies already. -/
theorem Wb.pushZ {base p n : Nat} {rs : List (List Ed)} {gs : List Nat} {W : World} {row : List Ed} (h : Wb base p n rs gs W) (hl : gs.length < n) (hn : n = rs.length) (hr : rs[gs.length]? = some row) (hb : base ≤ W.heap.size) :
    Wb base p n rs (gs ++ [W.heap.size]) ((W.alloc (.cells (eC row).toArray 27)).setCell ⟨p, gs.length, none⟩ (.slice (some ⟨W.heap.size, 0, none⟩) row.length row.length)) := by
  have hpl : p < W.heap.size := hlt h.blk
  have hA : ∀ k o, k < W.heap.size → W.heap[k]? = some o → (W.alloc (.cells (eC row).toArray 27)).heap[k]? = some o := fun k o hk ho => (Below.heap_alloc _ _ _ hk).trans ho
  have hg1 : ((W.alloc (.cells (eC row).toArray 27)).setCell ⟨p, gs.length, none⟩ (.slice (some ⟨W.heap.size, 0, none⟩) row.length row.length)).heap[W.heap.size]? = some (.cells (eC row).toArray 27 (0, 0)) :=
    (Below.heap_setCell _ _ _ _ (by show W.heap.size ≠ p; omega)).trans (World.alloc_heap_new W _)
  refine ⟨?_, fun k g row' h1 h2 => ?_, fun g hg => ?_, ?_, h.p0⟩
  · rw [← set_row hl hn hr]
    have := hA p _ hpl h.blk
    simp [World.setCell, Array.getElem?_modify, this]
  · rw [List.getElem?_append] at h1
    split at h1
    · obtain ⟨o1, o2, o3⟩ := h.own g (List.mem_of_getElem? h1)
      exact (Below.heap_setCell _ _ _ _ o2).trans (hA g _ o3 (h.row k g row' h1 h2))
    · rename_i hge
      have hk : k = gs.length := by
        have := (List.getElem?_eq_some_iff.1 h1).1
        simp at this; omega
      subst hk
      simp at h1
      subst h1
      rw [hr] at h2
      injection h2 with h2
      subst h2
      exact hg1
  · rcases List.mem_append.1 hg with hg | hg
    · obtain ⟨o1, o2, o3⟩ := h.own g hg
      exact ⟨o1, o2, by simp [World.setCell]; omega⟩
    · simp at hg
      subst hg
      exact ⟨hb, by omega, by simp [World.setCell]⟩
  · rw [List.nodup_append]
    refine ⟨h.inj, by simp, fun a ha b hb' => ?_⟩
    simp at hb'
    subst hb'
    have := (h.own a ha).2.2
    omega
/-- The memory of renumbered: the machine, the map, the rows so far. -/
structure Rn (w : World) (m : Ma) (A : Option Addr) (c p : Nat) (l : List Int) (D : DataW Unit) (gs : List Nat) (rs : List (List Ed)) (W : World) : Prop where
  bel : Below w.heap.size w W
  bm : BxM W w.heap.size m.i m.o A m.r.length c
  bo : BxM W (w.heap.size + 1) 0 0 none 0 0
  mx : MX W (w.heap.size + 1 + 1) (w.heap.size + 1 + 1 + 1) l.length D
  wb : Wb (w.heap.size + 4) p l.length rs gs W
section
variable {w W W' : World} {m : Ma} {A : Option Addr} {c p : Nat} {l : List Int} {D : DataW Unit} {gs : List Nat} {rs : List (List Ed)}
theorem Rn.below (h : Rn w m A c p l D gs rs W) (k : Below W.heap.size W W') : Rn w m A c p l D gs rs W' :=
  ⟨below_next h.bel k, h.bm.mvB k, h.bo.mvB k, h.mx.below k, h.wb.below k⟩
theorem Rn.row {row : List Ed} (h : Rn w m A c p l D gs rs W) (hl : gs.length < l.length) (hn : l.length = rs.length) (hr : rs[gs.length]? = some row) :
    Rn w m A c p l D (gs ++ [W.heap.size]) rs ((W.alloc (.cells (eC row).toArray 27)).setCell ⟨p, gs.length, none⟩ (.slice (some ⟨W.heap.size, 0, none⟩) row.length row.length)) := by
  have hp := h.wb.p0
  have hA : Below W.heap.size W (W.alloc (.cells (eC row).toArray 27)) := (Below.refl _ _).alloc (Nat.le_refl _) _
  have h4 : w.heap.size + 4 ≤ W.heap.size := by have := hlt h.wb.blk; omega
  exact ⟨(below_next h.bel hA).setCell (p := ⟨p, gs.length, none⟩) (by show w.heap.size ≤ p; omega) _, (h.bm.mvB hA).farS (by omega) _, (h.bo.mvB hA).farS (by omega) _, (h.mx.below hA).far (by omega) (by omega) _, h.wb.pushZ hl hn hr h4⟩
theorem Rn.put {s i g : Nat} {row : List Ed} {x : Ed} (h : Rn w m A c p l D gs rs W) (h1 : gs[s]? = some g) (h2 : rs[s]? = some row) (hi : i < row.length) :
    Rn w m A c p l D gs (rs.set s (row.set i x)) ((W.setCell ⟨g, i * 2, none⟩ (.int .i64 x.1)).setCell ⟨g, i * 2 + 1, none⟩ (.int .i64 x.2)) := by
  obtain ⟨o1, o2, o3⟩ := h.wb.own g (List.mem_of_getElem? h1)
  exact ⟨(h.bel.setCell (p := ⟨g, i * 2, none⟩) (by show w.heap.size ≤ g; omega) _).setCell (p := ⟨g, i * 2 + 1, none⟩) (by show w.heap.size ≤ g; omega) _, (h.bm.farS (by omega) _).farS (by omega) _, (h.bo.farS (by omega) _).farS (by omega) _,
    (h.mx.far (by omega) (by omega) _).far (by omega) (by omega) _, h.wb.put h1 h2 hi⟩
end
end Go.Proofs.Ytgafpmgdpigliaa

namespace Go.Proofs.Ytgafpmgdpigliaa
open Go.RowKit Go.Maps
open Mc (Ed Ma)

theorem BxM.frozen {w : World} {g n c : Nat} {i o : Int} {A : Option Addr} (h : BxM w g i o A n c) : w.frozen? ⟨g, 0, none⟩ = false ∧ w.frozen? ⟨g, 1, none⟩ = false ∧ w.frozen? ⟨g, 2, none⟩ = false := by
  unfold BxM at h
  refine ⟨?_, ?_, ?_⟩ <;> simp [World.frozen?, h]
theorem set3_reads {w : World} {g n c : Nat} {i o : Int} {A : Option Addr} (h : BxM w g i o A n c) (x y v : Value) :
    (w.setCell ⟨g, 0, none⟩ x).cell? ⟨g, 0, none⟩ = some x ∧ ((w.setCell ⟨g, 0, none⟩ x).setCell ⟨g, 1, none⟩ y).cell? ⟨g, 1, none⟩ = some y ∧ (((w.setCell ⟨g, 0, none⟩ x).setCell ⟨g, 1, none⟩ y).setCell ⟨g, 2, none⟩ v).cell? ⟨g, 2, none⟩ = some v := by
  unfold BxM at h
  have h0 : (w.setCell ⟨g, 0, none⟩ x).heap[g]? = some (.cells #[x, .int .i64 o, .slice A n c] 24) := by simp [World.setCell, Array.getElem?_modify, h]
  have h1 : ((w.setCell ⟨g, 0, none⟩ x).setCell ⟨g, 1, none⟩ y).heap[g]? = some (.cells #[x, y, .slice A n c] 24) := by simp [World.setCell, Array.getElem?_modify, h]
  have h2 : (((w.setCell ⟨g, 0, none⟩ x).setCell ⟨g, 1, none⟩ y).setCell ⟨g, 2, none⟩ v).heap[g]? = some (.cells #[x, y, v] 24) := by simp [World.setCell, Array.getElem?_modify, h]
  refine ⟨?_, ?_, ?_⟩
  · rw [cell_of_row _ _ _ _ _ _ h0]; rfl
  · rw [cell_of_row _ _ _ _ _ _ h1]; rfl
  · rw [cell_of_row _ _ _ _ _ _ h2]; rfl

/-- The memory of renumbered while its map is made. -/
structure Rm (w : World) (m : Ma) (A : Option Addr) (c k : Nat) (D : DataW Unit) (W : World) : Prop where
  bel : Below w.heap.size w W
  bm : BxM W w.heap.size m.i m.o A m.r.length c
  bo : BxM W (w.heap.size + 1) 0 0 none 0 0
  mx : MX W (w.heap.size + 1 + 1) (w.heap.size + 1 + 1 + 1) k D
theorem Rm.next {w W W' : World} {m : Ma} {A : Option Addr} {c k k' : Nat} {D D' : DataW Unit} (h : Rm w m A c k D W) (hg : W.grownBy W' (some (w.heap.size + 1 + 1))) (ho : W'.ownsMap Try.prog 3 (plainElem (H := Unit) Try.prog 3) (w.heap.size + 1 + 1) k' D') : Rm w m A c k' D' W' := by
  obtain ⟨x, hx, _⟩ := cell_block h.mx.box
  refine ⟨h.bel.grown hg h.bel.size (fun j e => by have := Option.some.inj e; omega), (hg.block w.heap.size (heap_lt h.bm) (fun e => by have := Option.some.inj e; omega)).trans h.bm, (hg.block (w.heap.size + 1) (heap_lt h.bo) (fun e => by have := Option.some.inj e; omega)).trans h.bo, ho, ?_⟩
  exact (World.cell?_of_block (w := W) (a := ⟨w.heap.size + 1 + 1 + 1, 0, none⟩) (hg.block (w.heap.size + 1 + 1 + 1) (heap_lt hx) (fun e => by have := Option.some.inj e; omega))).trans h.mx.box
theorem below_set3' {B : Nat} {a w : World} (h : Below B a w) {g : Nat} (hg : B ≤ g) (x y v : Value) : Below B a (((w.setCell ⟨g, 0, none⟩ x).setCell ⟨g, 1, none⟩ y).setCell ⟨g, 2, none⟩ v) :=
  ((h.setCell (p := ⟨g, 0, none⟩) hg x).setCell (p := ⟨g, 1, none⟩) hg y).setCell (p := ⟨g, 2, none⟩) hg v
theorem Wb.far {base p n g off : Nat} {rs : List (List Ed)} {gs : List Nat} {W : World} (h : Wb base p n rs gs W) (h1 : p ≠ g) (h2 : ∀ k ∈ gs, k ≠ g) (u : Value) : Wb base p n rs gs (W.setCell ⟨g, off, none⟩ u) :=
  ⟨(Below.heap_setCell W ⟨g, off, none⟩ u p h1).trans h.blk, fun k q row a b => (Below.heap_setCell W ⟨g, off, none⟩ u q (h2 q (List.mem_of_getElem? a))).trans (h.row k q row a b), fun k hk => ⟨(h.own k hk).1, (h.own k hk).2.1, by simpa [World.setCell] using (h.own k hk).2.2⟩, h.inj, h.p0⟩
/-- What renumbered hands back. -/
def RnP (w : World) (m : Ma) (l : List Int) (e : Ending) (w' : World) : Prop := ∃ p k gs, e = .returned (.agg #[.int .i64 m.i, .int .i64 m.o, .slice (some ⟨p, 0, none⟩) k k]) ∧ Hid (l.length = k) ∧ Hid (gs.length = k) ∧ Hid (Wb w.heap.size p k (Mc.prt m l).r gs w') ∧ Below w.heap.size w w'

set_option maxRecDepth 100000 in
set_option maxHeartbeats 4000000 in
theorem renum_any (m : Ma) (V : Mc.Val m) (l : List Int) (hl : Mc.Cls m l) (A : Option Addr) (c : Nat) (S : Option Addr) (n cS : Nat) (w : World) (hr : RdR w A m.r) (hS : Rd w S l) (hn : l.length = n) (hn1 : 1 ≤ n) :
    Calls Try.prog 99 #[.agg #[.int .i64 m.i, .int .i64 m.o, .slice A m.r.length c], .slice S n cS] w (RnP w m l) := by
  have hr64 := V.r1
  have hi16 := V.i1
  have hi1 := V.i0
  have HV := Lib.hid V
  have HC := Lib.hid hl
  have HN := Lib.hid hn
  obtain ⟨i, hi⟩ : ∃ i : Nat, m.i = i := ⟨m.i.toNat, by omega⟩
  have HI := Lib.hid hi
  have hn64 : n ≤ 64 := by
    have := Mc.nodup_le m.r.length l hl.nd hl.rg
    omega
  obtain ⟨T, hT⟩ : ∃ T, (Mc.prt m l).r = T := ⟨_, rfl⟩
  have HT := Lib.hid hT
  have hTl : Hid (T.length = n) := by show _ = _; rw [← hT, Mc.prt_len, hn]
  obtain ⟨P0, hP0⟩ : ∃ P0, RnP w m l = P0 := ⟨_, rfl⟩
  have HP0 := Lib.hid hP0
  rw [hP0]
  have hmm := @run_makeMap Try.prog
  have hmap0 := World.ownsMap_made (H := Unit) ((boxM w m.i m.o A m.r.length c).alloc (.cells #[.int .i64 0, .int .i64 0, .slice none 0 0] 24)) Try.prog 3 (plainElem (H := Unit) Try.prog 3)
  have hR0 : Hid (Rm w m A c 0 (.map []) ((((boxM w m.i m.o A m.r.length c).alloc (.cells #[.int .i64 0, .int .i64 0, .slice none 0 0] 24)).alloc (.map #[] 0)).alloc (.cells #[.map (some (w.heap.size + 1 + 1))] 173))) := by
    obtain ⟨es, cl, h1, h2⟩ := hmap0
    refine ⟨((((Below.refl _ _).alloc (Nat.le_refl _) _).alloc (by simp) _).alloc (by simp; omega) _).alloc (by simp; omega) _, (((BxM.new w _ _ _ _ _).mvB ((Below.refl _ _).alloc (Nat.le_refl _) _)).mvB ((Below.refl _ _).alloc (Nat.le_refl _) _)).mvB ((Below.refl _ _).alloc (Nat.le_refl _) _), ?_, ⟨es, cl, ?_, h2⟩, ?_⟩
    · exact ((BxM.newE (w := boxM w m.i m.o A m.r.length c) (by simp) 0 0 none 0 0).mvB ((Below.refl _ _).alloc (Nat.le_refl _) _)).mvB ((Below.refl _ _).alloc (Nat.le_refl _) _)
    · have e : ((boxM w m.i m.o A m.r.length c).alloc (.cells #[.int .i64 0, .int .i64 0, .slice none 0 0] 24)).heap.size = w.heap.size + 1 + 1 := by simp
      rw [e] at h1
      exact (Below.heap_alloc _ _ _ (by simp)).trans h1
    · exact (Box.new_ (by simp) (.map (some (w.heap.size + 1 + 1))) 173).1
  clear hmap0 V hl hn hi hT hP0
  go_enter Try.func99, Try.ntmps99
  go_wp2
  go_loopw [17] (fun v wr => ∃ (k : Nat) (D : DataW Unit), k ≤ n ∧ v = .int .i64 k ∧ Hid (MpR D (l.take k)) ∧ Hid (Rm w m A c k D wr)) (fun v _ => n - (intOf v).toNat)
  case atStart => exact ⟨0, _, Nat.zero_le _, rfl, MpR.start, hR0⟩
  case round =>
    obtain ⟨k, D, hk, rfl, hD, hR⟩ := hrel
    clear hR0
    by_cases hlt : k < n
    · obtain ⟨b, off, z, rfl, hb, hc, hz⟩ := (hS.below hR.out.bel).at_ (k := k) (by rw [HN.out]; exact hlt)
      have hzl : l[k]? = some z := by
        have := hz.out
        rw [List.getElem?_eq_getElem (by rw [HN.out]; exact hlt)] at this ⊢
        exact congrArg some this
      have hrg := HC.out.rg z (List.mem_of_getElem? hzl)
      have hkey := keyI (z := z) (by omega) (by omega)
      have hnew : ¬ z ∈ l.take k := fun hin => by
        obtain ⟨a, ha⟩ := List.mem_iff_getElem?.1 hin
        rw [List.getElem?_take] at ha
        split at ha
        · rename_i hak
          have hd := HC.out.nd
          have ha2 := (List.getElem?_eq_some_iff.1 ha)
          have hk2 := (List.getElem?_eq_some_iff.1 hzl)
          have := List.pairwise_iff_getElem.1 hd a k ha2.1 hk2.1 hak
          rw [ha2.2, hk2.2] at this
          exact this rfl
        · cases ha
      have hwm := wf_i64 (z := (k : Int)) (by omega) (by omega)
      have hbox := hR.out.mx.box
      have hmap := hR.out.mx.own
      have HZ := Lib.hid hzl
      have hD' := Lib.hid (hD.out.new (hmap.tidy lawI) hnew (n := k) (by rw [List.length_take, HN.out]; omega))
      have htk : l.take (k + 1) = l.take k ++ [z] := by
        rw [List.take_add_one, hzl]
        rfl
      rw [← htk] at hD'
      clear hzl hnew hz htk
      go_wp2_with (at_mapUpdate; refine wpList_mapUpdate_own _ rfl _ _ _ 173 rfl 3 3 lawI Try.underlying173 _ (w.heap.size + 1 + 1) k D rfl hmap (by unfold maxLen; omega) _ _ _ rfl rfl hkey _ [] (plainElem_int Try.underlying3 hwm) ?_; intro w1 hmap1 hg1)
      have hR1 := Lib.hid (hR.out.next hg1 hmap1)
      clear hmap1 hg1 hmap hR
      go_roundw
      case rel => exact ⟨k + 1, _, by omega, by go_num, hD', hR1⟩
      case measure => simp [intOf]; omega
    · obtain rfl : k = n := by omega
      have hDl : Hid (MpR D l) := by
        have := hD.out
        rw [List.take_of_length_le (by rw [HN.out]; exact Nat.le_refl _)] at this
        exact this
      have hzr : w.heap.size + 4 ≤ wr.heap.size := by
        obtain ⟨x, hx, _⟩ := cell_block hR.out.mx.box
        have := heap_lt hx
        omega
      go_wp2_with (at_make; go_loud (refine wpList_make_rowsZ _ rfl _ _ rfl k (rnR T i 0) rfl rfl (by omega) (w.heap.size + 4) hzr ?_))
      intro w3 hW3 hb3
      obtain ⟨p, hp⟩ : ∃ p, wr.heap.size = p := ⟨_, rfl⟩
      rw [hp] at hW3 hzr ⊢
      have hRn0 : Hid (Rn w m A c p l D [] (rnR T i 0) w3) :=
        ⟨below_next hR.out.bel hb3, hR.out.bm.mvB hb3, hR.out.bo.mvB hb3, by rw [HN.out]; exact hR.out.mx.below hb3, by rw [HN.out]; exact hW3⟩
      clear hD hR hW3 hb3 hp hmm
      go_wp2
      go_loopw [32] (fun v wr => ∃ (a : Nat) (gs : List Nat), a ≤ k ∧ v = .int .i64 a ∧ Hid (gs.length = a) ∧ Hid (Rn w m A c p l D gs (rnR T i a) wr)) (fun v _ => k - (intOf v).toNat)
      case atStart => exact ⟨0, [], Nat.zero_le _, rfl, rfl, hRn0⟩
      case round =>
        obtain ⟨a, gs, ha, rfl, hgs, hR⟩ := hrel
        clear hRn0
        by_cases hak : a < k
        · obtain ⟨b, off, z, rfl, hb, hc, hz⟩ := (hS.below hR.out.bel).at_ (k := a) (by rw [HN.out]; exact hak)
          have hzl : l[a]? = some z := by
            have := hz.out
            rw [List.getElem?_eq_getElem (by rw [HN.out]; exact hak)] at this ⊢
            exact congrArg some this
          have hrg := HC.out.rg z (List.mem_of_getElem? hzl)
          obtain ⟨t, rfl⟩ := Int.eq_ofNat_of_zero_le hrg.1
          have htl : t < m.r.length := by omega
          obtain ⟨q0, q1, q2⟩ := hR.out.bm.cells
          obtain ⟨v0, x0, x1⟩ := hR.out.wb.cell (k := a) (by rw [hgs.out, HN.out]; omega) (by rw [hgs.out, rnR_len (by rw [hTl.out]; omega), hTl.out]; omega)
          have hpl : p < wr.heap.size := heap_lt hR.out.wb.blk
          have hrowT : Hid ((rnR T i a)[gs.length]? = some (List.replicate i (0, 0))) := by
            show _ = _
            rw [hgs.out]
            exact rnR_at (by rw [hTl.out]; exact hak)
          have hR2 := hR.out.row (by rw [hgs.out, HN.out]; exact hak) (by rw [HN.out, rnR_len (by rw [hTl.out]; omega), hTl.out]) hrowT.out
          rw [hgs.out, List.length_replicate] at hR2
          have hbA : Below wr.heap.size wr (wr.alloc (.cells (eC (List.replicate i (0, 0))).toArray 27)) := (Below.refl _ _).alloc (Nat.le_refl _) _
          obtain ⟨v1, y0, y1⟩ := (hR.out.wb.below hbA).cell (k := a) (by rw [hgs.out, HN.out]; omega) (by rw [hgs.out, rnR_len (by rw [hTl.out]; omega), hTl.out]; omega)
          rw [World.setCell_alloc_past _ _ _ _ (by show p < wr.heap.size; exact hpl)] at hR2
          obtain ⟨z0, z1, z2⟩ := hR2.bm.cells
          obtain ⟨b2, off2, B, dd, ni, row, hAe, hb2, hcw, _, _, _, hpw, hln, hqr⟩ := hr.at_ htl
          subst hAe
          have hc2 := (hR2.bel.cell (p := ⟨b2, off2 + t, none⟩) hb2).trans hcw
          have hni : (ni : Int) = m.i := by rw [← hln.out]; exact HV.out.len row (List.mem_of_getElem? hqr.out)
          have hnii : ni = i := by have := HI.out; omega
          have hii : i ≤ 16 := by have := HI.out; omega
          have hmi : Hid (m.i = (i : Int)) := HI.out
          have HR2 := Lib.hid hR2
          subst hnii
          clear hz hcw hbA x0 x1 hR2 hni
          go_wp2_with (at_make; go_loud (refine wpList_make_edgesZ _ rfl _ _ rfl _ ni rfl rfl hmi.out (by omega) ?_))
          obtain ⟨g, hg⟩ : ∃ g, wr.heap.size = g := ⟨_, rfl⟩
          rw [hg] at HR2
          have hTa : Hid (T[a]? = some (row.map fun x => (Mc.ix l x.1, x.2))) := by
            show _ = _
            rw [← HT.out]
            show (List.map _ l)[a]? = _
            rw [List.getElem?_map, hzl]
            show some (List.map _ ((m.r[t]?).getD [])) = _
            rw [hqr.out]
            rfl
          have hcurL : Hid (∀ j, j ≤ ni → (rnC (row.map fun x => (Mc.ix l x.1, x.2)) ni j).length = ni) := fun j hj => rnC_len (by rw [List.length_map]; exact hln.out) hj
          have hR2' : Hid (Rn w m (some ⟨b2, off2, none⟩) c p l D (gs ++ [g]) ((rnR T ni a).set a (rnC (row.map fun x => (Mc.ix l x.1, x.2)) ni 0)) ((wr.setCell ⟨p, a, none⟩ (.slice (some ⟨g, 0, none⟩) ni ni)).alloc (.cells (eC (List.replicate ni (0, 0))).toArray 27))) := by
            show Rn _ _ _ _ _ _ _ _ _ _
            rw [rnC_zero, rnR_self (by rw [hTl.out]; exact hak)]
            exact HR2.out
          have hzl2 := Lib.hid hzl
          clear z0 z1 z2 y0 y1 HR2 hR hc2 hc hzl
          go_wp2
          try rw [hg]
          go_loopw [49] (fun v wr => ∃ j : Nat, j ≤ ni ∧ v = .int .i64 j ∧ Hid (Rn w m (some ⟨b2, off2, none⟩) c p l D (gs ++ [g]) ((rnR T ni a).set a (rnC (row.map fun x => (Mc.ix l x.1, x.2)) ni j)) wr)) (fun v _ => ni - (intOf v).toNat)
          case atStart => exact ⟨0, Nat.zero_le _, rfl, hR2'⟩
          case round =>
            obtain ⟨j, hj, rfl, hR⟩ := hrel
            clear hR2' hg
            by_cases hjn : j < ni
            · obtain ⟨b3, off3, ex, ey, rfl, hb3, hx0, hy0, hqe⟩ := hpw.at_ (k := j) (by rw [hln.out]; exact hjn)
              have hx := (hR.out.bel.cell (p := ⟨b3, off3 + j * 2, none⟩) hb3).trans hx0
              have hy := (hR.out.bel.cell (p := ⟨b3, off3 + j * 2 + 1, none⟩) hb3).trans hy0
              have hji : (j : Int) < m.i := by rw [hmi.out]; omega
              obtain ⟨cur, hcur⟩ : ∃ cur, rnC (row.map fun x => (Mc.ix l x.1, x.2)) ni j = cur := ⟨_, rfl⟩
              have hcl : Hid (cur.length = ni) := by show _ = _; rw [← hcur]; exact hcurL.out j hj
              rw [hcur] at hR
              have hset : Hid (cur.set j (Mc.ix l ex, ey) = rnC (row.map fun x => (Mc.ix l x.1, x.2)) ni (j + 1)) := by
                show _ = _
                rw [← hcur]
                exact rnC_set (by rw [List.length_map]; exact hln.out) (by rw [List.getElem?_map, hqe.out]; rfl)
              have hga : (gs ++ [g])[a]? = some g := by
                rw [List.getElem?_append_right (by rw [hgs.out]; exact Nat.le_refl _), hgs.out, Nat.sub_self]
                rfl
              have hra : ((rnR T ni a).set a cur)[a]? = some cur := by
                rw [List.getElem?_set_self (by rw [rnR_len (by rw [hTl.out]; omega), hTl.out]; exact hak)]
              have hbE : Below wr.heap.size wr (wr.alloc (.cells #[.int .i64 ex, .int .i64 ey] 27)) := (Below.refl _ _).alloc (Nat.le_refl _) _
              have hRE := hR.out.below hbE
              have x0 := hRE.wb.at_ hga hra (by rw [List.length_set, rnR_len (by rw [hTl.out]; omega), hTl.out, List.length_append, hgs.out]; simp; omega)
              rw [hcl.out] at x0
              obtain ⟨e0, e1, _, _⟩ := (BxE.new wr ex ey).cells
              have hnx : Mc.nx m t j = (ex, ey) := Mc.nx_at hqr.out hqe.out
              have hok := HV.out.ok row (List.mem_of_getElem? hqr.out) _ (List.mem_of_getElem? hqe.out)
              simp only at hok
              have CA : ∀ wz, Below (wr.alloc (.cells #[.int .i64 ex, .int .i64 ey] 27)).heap.size (wr.alloc (.cells #[.int .i64 ex, .int .i64 ey] 27)) wz → Calls Try.prog 116 #[.agg #[.int .i64 ex, .int .i64 ey], .pointer (some ⟨w.heap.size + 1 + 1 + 1, 0, none⟩)] wz fun e w' => e = .returned (.agg #[.int .i64 (Mc.ix l ex), .int .i64 ey]) ∧ Below wz.heap.size wz w' := fun wz hwz => by
                rcases hok with ⟨h1, h2⟩ | ⟨h1, h2, _⟩
                · subst h1
                  rw [Mc.ix_none (fun hin => by have := (HC.out.rg _ hin).1; omega)]
                  exact renum1_none _ _ _
                · have hin : ex ∈ l := by
                    have := HC.out.cl t (List.mem_of_getElem? hzl2.out) j (by omega) hji (by rw [hnx]; exact h1)
                    rw [hnx] at this
                    exact this
                  have hge := Mc.ix_get hin
                  have hix : ((Mc.ix l ex).toNat : Int) = Mc.ix l ex := by
                    rw [Mc.ix_at HC.out.nd hge]
                    simp
                  have := renum1_some _ _ _ D l ex (Mc.ix l ex).toNat ey wz (hRE.mx.below hwz) hDl.out hge h1 (by omega)
                  rw [hix] at this
                  exact this
              have HCA := Lib.hid (CA _ (Below.refl _ _).drew)
              have hgp : g ≠ p := (hR.out.wb.own g (List.mem_of_getElem? hga)).2.1
              have hgl : g < wr.heap.size := (hR.out.wb.own g (List.mem_of_getElem? hga)).2.2
              have hpl2 : p < wr.heap.size := heap_lt hR.out.wb.blk
              obtain ⟨ecs, hecs⟩ : ∃ v, cur[j]? = some v := ⟨_, List.getElem?_eq_getElem (by rw [hcl.out]; exact hjn)⟩
              have hgrow := hRE.wb.row a g cur hga hra
              have s0 : (wr.alloc (.cells #[.int .i64 ex, .int .i64 ey] 27)).cell? ⟨g, j * 2, none⟩ = some (.int .i64 ecs.1) := by
                rw [cell_of_row _ g _ _ _ (0, 0) hgrow]
                simpa using (eC_at hecs).1
              have s1 : (wr.alloc (.cells #[.int .i64 ex, .int .i64 ey] 27)).cell? ⟨g, j * 2 + 1, none⟩ = some (.int .i64 ecs.2) := by
                rw [cell_of_row _ g _ _ _ (0, 0) hgrow]
                simpa using (eC_at hecs).2
              have sf : ∀ o, (wr.alloc (.cells #[.int .i64 ex, .int .i64 ey] 27)).frozen? ⟨g, o, none⟩ = false := fun o => by simp only [World.frozen?, hgrow]; simp
              have HRE := Lib.hid hRE
              have hra2 := Lib.hid hra
              have hga2 := Lib.hid hga
              clear hx0 hy0 hok hnx CA hgrow hecs hcur hRE hR hra hga
              go_wp2_with fail
              go_region_held3 (fun w' => w'.cell? ⟨p, a, none⟩ = some (.slice (some ⟨g, 0, none⟩) ni ni) ∧ w'.cell? ⟨wr.heap.size, 0, none⟩ = some (.int .i64 ex) ∧ w'.cell? ⟨wr.heap.size, 1, none⟩ = some (.int .i64 ey)) (first | exact ⟨m0, m1, m2⟩ | exact ⟨k0, k1, k2⟩ | exact ⟨x0, e0, e1⟩ | go_keep)
                (first
                  | (go_at_call 116
                     (with_reducible refine (HCA.out).mono ?_)
                     rintro e w9 ⟨rfl, hb9⟩
                     have k0 := (hb9.cell (p := ⟨p, a, none⟩) (by show p < _; simp; omega)).trans x0
                     have k1 := (hb9.cell (p := ⟨wr.heap.size, 0, none⟩) (by show wr.heap.size < _; simp)).trans e0
                     have k2 := (hb9.cell (p := ⟨wr.heap.size, 1, none⟩) (by show wr.heap.size < _; simp)).trans e1
                     have k3 := (hb9.cell (p := ⟨g, j * 2, none⟩) (by show g < _; simp; omega)).trans s0
                     have k4 := (hb9.cell (p := ⟨g, j * 2 + 1, none⟩) (by show g < _; simp; omega)).trans s1
                     have k5 := (hb9.frozen (p := ⟨g, j * 2, none⟩) (by show g < _; simp; omega)).trans (sf _)
                     have k6 := (hb9.frozen (p := ⟨g, j * 2 + 1, none⟩) (by show g < _; simp; omega)).trans (sf _)
                     have mm9 := fun (b o : Nat) (h : b ≠ g) => World.cell?_of_block (w := w9) (w' := (w9.setCell ⟨g, j * 2, none⟩ (.int .i64 (Mc.ix l ex))).setCell ⟨g, j * 2 + 1, none⟩ (.int .i64 ey)) (a := ⟨b, o, none⟩) ((Below.heap_setCell _ ⟨g, j * 2 + 1, none⟩ _ b h).trans (Below.heap_setCell _ ⟨g, j * 2, none⟩ _ b h))
                     have m0 := (mm9 p a hgp.symm).trans k0
                     have m1 := (mm9 wr.heap.size 0 (by omega)).trans k1
                     have m2 := (mm9 wr.heap.size 1 (by omega)).trans k2
                     dsimp only)
                  | fail)
              have hR9 := HRE.out.below (below_next (Below.refl _ _).drew hb9)
              have hR10 := hR9.put (i := j) (x := (Mc.ix l ex, ey)) hga2.out hra2.out (by rw [hcl.out]; exact hjn)
              rw [List.set_set, hset.out] at hR10
              have HR10 := Lib.hid hR10
              clear hR9 hR10 k0 k1 k2 k3 k4 k5 k6 m0 m1 m2 mm9 hb9
              go_wp2
              go_roundw
              case rel => exact ⟨j + 1, by omega, by go_num, HR10.out⟩
              case measure => simp [intOf]; omega
            · have hjn2 : j = ni := by omega
              have hji : ¬ (j : Int) < m.i := by rw [hmi.out]; omega
              have hR' : Hid (Rn w m (some ⟨b2, off2, none⟩) c p l D (gs ++ [g]) (rnR T ni (a + 1)) wr) := by
                have h1 := hR.out
                rw [hjn2, rnC_all (by rw [List.length_map]; exact hln.out), rnR_set hTa.out] at h1
                exact h1
              have hgs' : Hid ((gs ++ [g]).length = a + 1) := by
                show _ = _
                rw [List.length_append, hgs.out]
                rfl
              clear hR hgs
              go_wp2
              go_roundw
              case rel => exact ⟨a + 1, gs ++ [g], by omega, by go_num, hgs', hR'⟩
              case measure => simp [intOf]; omega
        · obtain rfl : a = k := by omega
          obtain ⟨q0, q1, q2⟩ := hR.out.bm.cells
          obtain ⟨e0, e1, e2⟩ := hR.out.bo.cells
          obtain ⟨f0, f1, f2⟩ := hR.out.bo.frozen
          have hfin : Hid (Wb w.heap.size p a T gs wr) := by
            have h1 := hR.out.wb
            have e : rnR T i a = T := by rw [← hTl.out]; exact rnR_all
            rw [e, HN.out] at h1
            exact ⟨h1.blk, h1.row, fun g hg => ⟨by have := (h1.own g hg).1; omega, (h1.own g hg).2⟩, h1.inj, by have := h1.p0; omega⟩
          have hbel := Lib.hid hR.out.bel
          have hg5 : Hid (gs.length = a) := hgs
          obtain ⟨r0, r1, r2⟩ := set3_reads hR.out.bo (.int .i64 m.i) (.int .i64 m.o) (.slice (some ⟨p, 0, none⟩) a a)
          have hfin2 : Hid (RnP w m l (.returned (.agg #[.int .i64 m.i, .int .i64 m.o, .slice (some ⟨p, 0, none⟩) a a])) (((wr.setCell ⟨w.heap.size + 1, 0, none⟩ (.int .i64 m.i)).setCell ⟨w.heap.size + 1, 1, none⟩ (.int .i64 m.o)).setCell ⟨w.heap.size + 1, 2, none⟩ (.slice (some ⟨p, 0, none⟩) a a))) := by
            refine ⟨p, a, gs, rfl, HN.out, hg5.out, ?_, below_set3' hbel.out (by omega) _ _ _⟩
            rw [HT.out]
            exact ((hfin.out.far (by have := hR.out.wb.p0; omega) (fun g hg => by have := (hR.out.wb.own g hg).1; omega) _).far (by have := hR.out.wb.p0; omega) (fun g hg => by have := (hR.out.wb.own g hg).1; omega) _).far (by have := hR.out.wb.p0; omega) (fun g hg => by have := (hR.out.wb.own g hg).1; omega) _
          clear hR hgs
          go_wp2
          refine bodyPost_ret (v := .agg #[.int .i64 m.i, .int .i64 m.o, .slice (some ⟨p, 0, none⟩) a a]) (by simp [results, Try.f99, go_sem, r0, r1, r2]) rfl ?_
          rw [← HP0.out]
          exact hfin2.out
end Go.Proofs.Ytgafpmgdpigliaa
