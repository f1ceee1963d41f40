/-
  The mathematics of With, and words for memory: an edge is written into rows of the call's own. No statement is proved here.
-/
import Derived.Test.YtiohfflkolopeaaMt1
import Derived.Test.YtiohfflkolopeaaMc10
namespace Go.Proofs.Ytiohfflkolopeaa
open Go.RowKit
open Mc (Ed Ma)

namespace Mc
theorem okE_val {m : Ma} (v : Val m) {row : List Ed} (hr : row ∈ m.r) : row.all (okE m.r.length m.o) = true := List.all_eq_true.2 fun x hx => by
  rcases v.ok row hr x hx with ⟨a, b⟩ | ⟨a, b, c, d⟩
  · exact okE_none a b
  · exact okE_in a b c d
theorem wth_len (m : Ma) (s k : Nat) (x : Ed) : (wth m s k x).r.length = m.r.length := by simp [wth]
theorem wth_r {m : Ma} {s k : Nat} {x : Ed} {row : List Ed} (h : m.r[s]? = some row) : (wth m s k x).r = m.r.set s (row.set k x) := by simp [wth, h]
theorem chk_wth {m : Ma} (v : Val m) {s k : Nat} {x : Ed} {row : List Ed} (h : m.r[s]? = some row) (hk : k < row.length) : chk (wth m s k x) = if okE m.r.length m.o x then 0 else 1 := by
  have h1 := v.i0; have h2 := v.i1; have h3 := v.o0; have h4 := v.o1; have h5 := v.r0; have h6 := v.r1
  have hl := wth_len m s k x
  have hi : (wth m s k x).i = m.i := rfl
  have ho : (wth m s k x).o = m.o := rfl
  have hs : s < m.r.length := (List.getElem?_eq_some_iff.1 h).1
  have hrow : row ∈ m.r := List.mem_of_getElem? h
  rw [chk_in (by rw [hi, ho, hl]; omega) (by rw [hi, ho, hl]; omega), hl, hi, ho, wth_r h]
  cases hok : okE m.r.length m.o x with
  | true =>
    rw [if_pos, if_pos rfl]
    refine List.all_eq_true.2 fun r hr => ?_
    rcases List.mem_or_eq_of_mem_set hr with hr | rfl
    · exact okR_ok (v.len r hr) (okE_val v hr)
    · refine okR_ok (by rw [List.length_set]; exact v.len row hrow) (List.all_eq_true.2 fun y hy => ?_)
      rcases List.mem_or_eq_of_mem_set hy with hy | rfl
      · exact List.all_eq_true.1 (okE_val v hrow) y hy
      · exact hok
  | false =>
    rw [if_neg, if_neg (by decide)]
    have hat : (m.r.set s (row.set k x))[s]? = some (row.set k x) := by rw [List.getElem?_set_self hs]
    have hat2 : (row.set k x)[k]? = some x := by rw [List.getElem?_set_self hk]
    rw [all_hit hat (okR_bad hat2 hok)]
    decide
theorem set_same {α : Type} {l : List α} {k : Nat} {x : α} (h : l[k]? = some x) : l.set k x = l := by
  apply List.ext_getElem?
  intro j
  by_cases e : k = j
  · subst e
    rw [List.getElem?_set_self (List.getElem?_eq_some_iff.1 h).1, h]
  · rw [List.getElem?_set_ne e]
theorem wth_eq {m : Ma} {s k : Nat} {x y : Ed} {row : List Ed} (h : m.r[s]? = some row) (hk : row[k]? = some y) : wth m s k x = m ↔ y = x := by
  constructor
  · intro e
    have e1 : (wth m s k x).r = m.r := by rw [e]
    rw [wth_r h] at e1
    have e2 : (m.r.set s (row.set k x))[s]? = some row := by rw [e1, h]
    rw [List.getElem?_set_self (List.getElem?_eq_some_iff.1 h).1] at e2
    injection e2 with e2
    have e3 : (row.set k x)[k]? = some y := by rw [e2, hk]
    rw [List.getElem?_set_self (List.getElem?_eq_some_iff.1 hk).1] at e3
    injection e3 with e3
    exact e3.symm
  · intro e
    subst e
    unfold wth
    rw [h, Option.getD_some, set_same hk, set_same h]
theorem samV_yes {a b : Ma} (va : Val a) (vb : Val b) : samV a b = decide (a = b) := by
  unfold samV
  rw [chk_of va, chk_of vb]
  simp
theorem wiE_in {m : Ma} (v : Val m) {s k : Nat} {x : Ed} {row : List Ed} (h : m.r[s]? = some row) (hk : k < row.length) : wiE m s k x = chk (wth m s k x) := by
  have h1 := v.len row (List.mem_of_getElem? h)
  have h2 := (List.getElem?_eq_some_iff.1 h).1
  unfold wiE
  rw [if_neg (by rw [stE_ok v (by omega) (by omega)]; simp), chk_wth v h hk]
theorem wiV_yes {m : Ma} {s k : Nat} {x : Ed} (h : wiE m s k x = 0) : wiV m s k x = wth m s k x := by
  unfold wiV; rw [if_pos h]; simp
theorem wiV_no {m : Ma} {s k : Nat} {x : Ed} (h : wiE m s k x ≠ 0) : wiV m s k x = ⟨0, 0, []⟩ := by
  unfold wiV; rw [if_neg h]
end Mc
/-! ### An edge is written into the rows that Copy has made -/
theorem setE_heap {w : World} {g k : Nat} {cur : Array Value} {t : TypeId} {x y : Value} (h : w.heap[g]? = some (.cells cur t (0, 0))) :
    ((w.setCell ⟨g, k * 2, none⟩ x).setCell ⟨g, k * 2 + 1, none⟩ y).heap[g]? = some (.cells ((cur.setIfInBounds (k * 2) x).setIfInBounds (k * 2 + 1) y) t (0, 0)) := by
  simp [World.setCell, Array.getElem?_modify, h]
theorem OwR.setE {w : World} {base g c k : Nat} {row : List Ed} {x : Ed} (h : OwR w base (.slice (some ⟨g, 0, none⟩) row.length c) row) (hk : k < row.length) :
    OwR ((w.setCell ⟨g, k * 2, none⟩ (.int .i64 x.1)).setCell ⟨g, k * 2 + 1, none⟩ (.int .i64 x.2)) base (.slice (some ⟨g, 0, none⟩) (row.set k x).length c) (row.set k x) := by
  have hl : (row.set k x).length = row.length := List.length_set
  rcases h.2 with ⟨e, _⟩ | ⟨g', c', cur, e, hb, hg, hc, hm, hs, ht⟩
  · cases e
  · injection e with e1 e2 e3
    injection e1 with e1
    injection e1 with e1
    subst e1 e3
    refine ⟨by rw [eC_len], .inr ⟨g, c, _, rfl, hb, setE_heap hg, by omega, hm, by simpa using hs, ?_⟩⟩
    rw [hl, ← eC_set row k x hk, ← ht]
    simp only [Array.toList_setIfInBounds]
    rw [List.take_set, List.take_set]
theorem Bld.setE {w : World} {base g c s k : Nat} {V : Value} {rs : List (List Ed)} {vs : List Value} {row : List Ed} {x : Ed} (h : Bld w base V rs vs) (hd : Dst vs) (hs : rs[s]? = some row) (hk : k < row.length) (hv : vs[s]? = some (.slice (some ⟨g, 0, none⟩) row.length c)) :
    Bld ((w.setCell ⟨g, k * 2, none⟩ (.int .i64 x.1)).setCell ⟨g, k * 2 + 1, none⟩ (.int .i64 x.2)) base V (rs.set s (row.set k x)) vs := by
  obtain ⟨g', c', h1, h2⟩ := h.2 s row hs
  rw [hv] at h1
  injection h1 with h1
  injection h1 with h1 _ h3
  injection h1 with h1
  injection h1 with h1
  subst h1 h3
  have hsl := (List.getElem?_eq_some_iff.1 hs).1
  have hne : ∀ {v : Value} {e : TypeId} {sz n : Nat} {xs : List Value}, w.ownsRow base e sz v n xs → (v.ownBlock = none ∨ v.ownBlock ≠ some g) → ((w.setCell ⟨g, k * 2, none⟩ (.int .i64 x.1)).setCell ⟨g, k * 2 + 1, none⟩ (.int .i64 x.2)).ownsRow base e sz v n xs := fun h0 h1 =>
    (h0.kept (grown_setCell w ⟨g, k * 2, none⟩ _) h1).kept (grown_setCell _ ⟨g, k * 2 + 1, none⟩ _) h1
  have hV : V.ownBlock = none ∨ V.ownBlock ≠ some g := by
    have := own_apart h2 h.1 (show (39 : TypeId) ≠ 45 by decide)
    rcases this with h0 | h0
    · cases h0
    · exact Or.inr (Ne.symm h0)
  have hO := hne h.1 hV
  refine ⟨by rw [List.length_set]; exact hO, fun j r hj => ?_⟩
  · by_cases hjs : j = s
    · subst hjs
      rw [List.getElem?_set_self hsl] at hj
      injection hj with hj
      subst hj
      exact ⟨g, c, by rw [List.length_set]; exact hv, h2.setE hk⟩
    · rw [List.getElem?_set_ne (Ne.symm hjs)] at hj
      obtain ⟨g', c', h3, h4⟩ := h.2 j r hj
      refine ⟨g', c', h3, hne h4 (Or.inr fun e => ?_)⟩
      rcases Nat.lt_or_gt_of_ne hjs with h5 | h5
      · exact hd j s _ _ h5 h3 hv e
      · exact hd s j _ _ h5 hv h3 e.symm

/-- Where an edge of the rows lies. -/
theorem Bld.edge {w : World} {base s k n c : Nat} {A : Option Addr} {rs : List (List Ed)} {vs : List Value} {row : List Ed} {x y : Int} (h : Bld w base (.slice A n c) rs vs) (hs : rs[s]? = some row) (hk : row[k]? = some (x, y)) :
    ∃ p g cc, A = some ⟨p, 0, none⟩ ∧ base ≤ p ∧ p < w.heap.size ∧ base ≤ g ∧ g < w.heap.size ∧ p ≠ g ∧ w.cell? ⟨p, s, none⟩ = some (.slice (some ⟨g, 0, none⟩) row.length cc) ∧
      w.cell? ⟨g, k * 2, none⟩ = some (.int .i64 x) ∧ w.cell? ⟨g, k * 2 + 1, none⟩ = some (.int .i64 y) ∧ w.frozen? ⟨g, k * 2, none⟩ = false ∧ w.frozen? ⟨g, k * 2 + 1, none⟩ = false ∧ Hid (vs[s]? = some (.slice (some ⟨g, 0, none⟩) row.length cc)) ∧ Hid (∃ cur, w.heap[g]? = some (.cells cur 39 (0, 0))) := by
  have hkl : k < row.length := (List.getElem?_eq_some_iff.1 hk).1
  have hsl : s < rs.length := (List.getElem?_eq_some_iff.1 hs).1
  obtain ⟨g, cc, h1, h2⟩ := h.2 s row hs
  have ha := own_apart h2 h.1 (show (39 : TypeId) ≠ 45 by decide)
  rcases h.1.2 with ⟨e, h0⟩ | ⟨p, cap, cur, hv, hb, hg, hc, hm, hsz, ht⟩
  · omega
  · injection hv with hv1 hv2 hv3
    subst hv1 hv3
    have hpg : p ≠ g := fun e => by
      rcases ha with h0 | h0
      · cases h0
      · exact h0 (by rw [e]; rfl)
    rcases h2.2 with ⟨e, _⟩ | ⟨g', cap', cu, hv, hb2, hg2, hc2, hm2, hsz2, ht2⟩
    · cases e
    · injection hv with hv1 hv2 hv3
      injection hv1 with hv1
      injection hv1 with hv1
      subst hv1 hv3
      have hcell := h.1.cells (g := p) rfl s _ h1
      rw [Addr.add_lit] at hcell
      obtain ⟨e1, e2⟩ := eC_at hk
      have c1 := h2.cells (g := g) rfl _ _ e1
      have c2 := h2.cells (g := g) rfl _ _ e2
      rw [Addr.add_lit] at c1 c2
      exact ⟨p, g, cc, rfl, hb, heap_lt hg, hb2, heap_lt hg2, hpg, by simpa using hcell, by simpa using c1, by simpa using c2, by simp [World.frozen?, hg2], by simp [World.frozen?, hg2], h1, cu, hg2⟩

/-! ### Rows that are written over -/
/-- A slice of slices of edges of the call's own, none of them empty. -/
structure Rws (w : World) (base : Nat) (p n : Nat) (vs : Array Value) : Prop where
  blk : w.heap[p]? = some (.cells vs 45 (0, 0))
  own : base ≤ p
  row : ∀ k, k < n → ∃ g q d cur, vs[k]? = some (.slice (some ⟨g, 0, none⟩) q d) ∧ 0 < q ∧ base ≤ g ∧ w.heap[g]? = some (.cells cur 39 (0, 0)) ∧ 2 ≤ cur.size
theorem Bld.rws {w : World} {base n c : Nat} {A : Option Addr} {rs : List (List Ed)} {vs : List Value} (h : Bld w base (.slice A n c) rs vs) (hl : rs.length = n) (hn : 0 < n) (h0 : ∀ row ∈ rs, 0 < row.length) : ∃ p cs, A = some ⟨p, 0, none⟩ ∧ Rws w base p n cs := by
  subst hl
  rcases h.1.2 with ⟨_, e⟩ | ⟨p, c', cur, e, hb, hg, hc, hm, hs, ht⟩
  · omega
  · injection e with e1 _ e2
    subst e1 e2
    refine ⟨p, cur, rfl, hg, hb, fun k hk => ?_⟩
    obtain ⟨g, d, h1, h2⟩ := h.2 k _ (List.getElem?_eq_getElem hk)
    have hq := h0 _ (List.getElem_mem hk)
    rcases h2.2 with ⟨e, _⟩ | ⟨g', d', cu, e, hb2, hg2, hc2, _, hs2, _⟩
    · cases e
    · injection e with e1 _ e3
      injection e1 with e1
      injection e1 with e1
      subst e1 e3
      refine ⟨g, _, d, cu, ?_, hq, hb2, hg2, by omega⟩
      rw [← ht, List.getElem?_take, Nat.mul_one, if_pos hk] at h1
      simpa using h1
theorem Rws.below {w w' : World} {base p n : Nat} {vs : Array Value} (h : Rws w base p n vs) (hb : Below w.heap.size w w') : Rws w' base p n vs :=
  ⟨(hb.block _ (heap_lt h.blk)).trans h.blk, h.own, fun k hk => by
    obtain ⟨g, q, d, cur, h1, h2, h3, h4, h5⟩ := h.row k hk
    exact ⟨g, q, d, cur, h1, h2, h3, (hb.block _ (heap_lt h4)).trans h4, h5⟩⟩
theorem Rws.at_ {w : World} {base p n : Nat} {vs : Array Value} (h : Rws w base p n vs) {k : Nat} (hk : k < n) : ∃ g q d u v, w.cell? ⟨p, k, none⟩ = some (.slice (some ⟨g, 0, none⟩) q d) ∧ 0 < q ∧ base ≤ g ∧ g < w.heap.size ∧
    w.cell? ⟨g, 0, none⟩ = some u ∧ w.cell? ⟨g, 1, none⟩ = some v ∧ w.frozen? ⟨g, 0, none⟩ = false ∧ w.frozen? ⟨g, 1, none⟩ = false ∧ Hid (∃ cur, w.heap[g]? = some (.cells cur 39 (0, 0))) := by
  obtain ⟨g, q, d, cur, h1, h2, h3, h4, h5⟩ := h.row k hk
  refine ⟨g, q, d, cur[0], cur[1], ?_, h2, h3, heap_lt h4, ?_, ?_, ?_, ?_, cur, h4⟩
  · rw [cell_of_row w _ _ _ _ _ h.blk]; simpa using h1
  · rw [cell_of_row w _ _ _ _ _ h4]; simp [show 0 < cur.size by omega]
  · rw [cell_of_row w _ _ _ _ _ h4]; simp [show 1 < cur.size by omega]
  · simp [World.frozen?, h4]
  · simp [World.frozen?, h4]
theorem Rws.set {w : World} {base p n g o : Nat} {vs : Array Value} (h : Rws w base p n vs) {cur : Array Value} (hg : w.heap[g]? = some (.cells cur 39 (0, 0))) (x : Value) : Rws (w.setCell ⟨g, o, none⟩ x) base p n vs := by
  have hpg : p ≠ g := fun e => by
    subst e
    rw [h.blk] at hg
    simp at hg
  refine ⟨(Below.heap_setCell _ _ _ _ hpg).trans h.blk, h.own, fun k hk => ?_⟩
  obtain ⟨g', q, d, cu, h1, h2, h3, h4, h5⟩ := h.row k hk
  by_cases e : g' = g
  · subst e
    refine ⟨g', q, d, cu.setIfInBounds o x, h1, h2, h3, ?_, by simpa using h5⟩
    simp [World.setCell, Array.getElem?_modify, h4]
  · exact ⟨g', q, d, cu, h1, h2, h3, (Below.heap_setCell _ _ _ _ e).trans h4, h5⟩
theorem Rws.set2 {w : World} {base p n g : Nat} {vs : Array Value} (h : Rws w base p n vs) (hg : ∃ cur, w.heap[g]? = some (.cells cur 39 (0, 0))) (x y : Value) : Rws ((w.setCell ⟨g, 0, none⟩ x).setCell ⟨g, 1, none⟩ y) base p n vs := by
  obtain ⟨cur, hg⟩ := hg
  have h2 : (w.setCell ⟨g, 0, none⟩ x).heap[g]? = some (.cells (cur.setIfInBounds 0 x) 39 (0, 0)) := by simp [World.setCell, Array.getElem?_modify, hg]
  exact (h.set hg x).set h2 y
theorem BxM.set2 {w : World} {G g n c : Nat} {i o : Int} {A : Option Addr} (h : BxM w G i o A n c) (hne : G ≠ g) (x y : Value) : BxM ((w.setCell ⟨g, 0, none⟩ x).setCell ⟨g, 1, none⟩ y) G i o A n c :=
  (Below.heap_setCell _ _ _ _ hne).trans ((Below.heap_setCell _ _ _ _ hne).trans h)
theorem BxM.ne {w : World} {G g n c : Nat} {i o : Int} {A : Option Addr} (h : BxM w G i o A n c) (hg : ∃ cur, w.heap[g]? = some (.cells cur 39 (0, 0))) : G ≠ g := fun e => by
  obtain ⟨cur, hcu⟩ := hg
  unfold BxM at h
  rw [e, hcu] at h
  simp at h
theorem Rws.ne {w : World} {base p n g : Nat} {vs : Array Value} (h : Rws w base p n vs) (hg : ∃ cur, w.heap[g]? = some (.cells cur 39 (0, 0))) : p ≠ g := fun e => by
  obtain ⟨cur, hcu⟩ := hg
  have := h.blk
  rw [e, hcu] at this
  simp at this
end Go.Proofs.Ytiohfflkolopeaa
