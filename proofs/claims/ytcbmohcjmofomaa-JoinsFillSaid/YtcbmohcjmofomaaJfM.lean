/-
  The mathematics of filled machines, row by row; an edge's target is written into rows that a copy has made. No statement is proved here.
-/
import Derived.Test.YtcbmohcjmofomaaJk0
import Derived.Test.YtcbmohcjmofomaaJcp
import Derived.Test.YtcbmohcjmofomaaSMdZ
namespace Go.Proofs.Ytcbmohcjmofomaa
open Go.RowKit
open Mc (Ed Ma Wv nE)

theorem eC_toJ : ∀ (row : List Ed) (k : Nat) (x : Ed) (y : Int), row[k]? = some x → (eC row).set (k * 2) (.int .i64 y) = eC (row.set k (y, x.2))
  | [], k, x, y, h => by simp at h
  | a :: row, 0, x, y, h => by
    simp at h
    subst h
    simp [eC]
  | a :: row, k + 1, x, y, h => by
    have ih := eC_toJ row k x y (by simpa using h)
    have e1 : ∀ (r : List Ed), eC (a :: r) = .int .i64 a.1 :: .int .i64 a.2 :: eC r := fun r => by simp [eC]
    rw [e1, List.set_cons_succ, e1, ← ih, show (k + 1) * 2 = k * 2 + 1 + 1 by omega, List.set_cons_succ, List.set_cons_succ]
theorem OwR.setToJ {w : World} {base g c k : Nat} {row : List Ed} {x : Ed} {y : Int} (h : OwR w base (.slice (some ⟨g, 0, none⟩) row.length c) row) (hk : row[k]? = some x) :
    OwR (w.setCell ⟨g, k * 2, none⟩ (.int .i64 y)) base (.slice (some ⟨g, 0, none⟩) (row.set k (y, x.2)).length c) (row.set k (y, x.2)) := by
  have hl : (row.set k (y, x.2)).length = row.length := List.length_set
  rcases h.2 with ⟨e, _⟩ | ⟨g', c', cur, e, hb, hg, hc, hm, hs, ht⟩
  · cases e
  · injection e with e1 e2 e3
    injection e1 with e1
    injection e1 with e1
    subst e1 e3
    refine ⟨by rw [eC_len], .inr ⟨g, c, cur.setIfInBounds (k * 2) (.int .i64 y), rfl, hb, by simp [World.setCell, Array.getElem?_modify, hg], by omega, hm, by simpa using hs, ?_⟩⟩
    rw [hl, ← eC_toJ row k x y hk, ← ht]
    simp only [Array.toList_setIfInBounds]
    rw [List.take_set]
theorem Bld.setToJ {w : World} {base g c s k : Nat} {V : Value} {rs : List (List Ed)} {vs : List Value} {row : List Ed} {x : Ed} {y : Int} (h : Bld w base V rs vs) (hd : DstV vs) (hs : rs[s]? = some row) (hk : row[k]? = some x) (hv : vs[s]? = some (.slice (some ⟨g, 0, none⟩) row.length c)) :
    Bld (w.setCell ⟨g, k * 2, none⟩ (.int .i64 y)) base V (rs.set s (row.set k (y, x.2))) vs := by
  obtain ⟨g', c', h1, h2⟩ := h.2 s row hs
  rw [hv] at h1
  injection h1 with h1
  injection h1 with h1 _ h3
  injection h1 with h1
  injection h1 with h1
  subst h1 h3
  have hsl := (List.getElem?_eq_some_iff.1 hs).1
  have hne : ∀ {v : Value} {e : TypeId} {sz n : Nat} {xs : List Value}, w.ownsRow base e sz v n xs → (v.ownBlock = none ∨ v.ownBlock ≠ some g) → (w.setCell ⟨g, k * 2, none⟩ (.int .i64 y)).ownsRow base e sz v n xs := fun h0 h1 =>
    h0.kept (grown_setCell w ⟨g, k * 2, none⟩ _) h1
  have hV : V.ownBlock = none ∨ V.ownBlock ≠ some g := by
    have := own_apart h2 h.1 (show (27 : TypeId) ≠ 29 by decide)
    rcases this with h0 | h0
    · cases h0
    · exact Or.inr (Ne.symm h0)
  have hO := hne h.1 hV
  refine ⟨by rw [List.length_set]; exact hO, fun j r hj => ?_⟩
  · by_cases hjs : j = s
    · subst hjs
      rw [List.getElem?_set_self hsl] at hj
      injection hj with hj
      subst hj
      exact ⟨g, c, by rw [List.length_set]; exact hv, h2.setToJ hk⟩
    · rw [List.getElem?_set_ne (Ne.symm hjs)] at hj
      obtain ⟨g', c', h3, h4⟩ := h.2 j r hj
      refine ⟨g', c', h3, hne h4 (Or.inr fun e => ?_)⟩
      rcases Nat.lt_or_gt_of_ne hjs with h5 | h5
      · exact hd j s _ _ h5 h3 hv e
      · exact hd s j _ _ h5 hv h3 e.symm

theorem below_frz {base : Nat} {w W : World} (hb : Below base w W) {g : Nat} (hl : g < base) (o : Nat) : W.frozen? ⟨g, o, none⟩ = w.frozen? ⟨g, o, none⟩ := by
  simp only [World.frozen?, hb.block g hl]
theorem cell_farJ {w : World} {b g k o : Nat} (hne : b ≠ g) (v : Value) : (w.setCell ⟨g, k, none⟩ v).cell? ⟨b, o, none⟩ = w.cell? ⟨b, o, none⟩ := by
  have h : (w.setCell ⟨g, k, none⟩ v).heap[b]? = w.heap[b]? := Below.heap_setCell _ _ _ _ (show b ≠ g from hne)
  simp only [World.cell?, h]
theorem own_notJ {w : World} {base : Nat} {V : Value} {n b : Nat} {e t : TypeId} {sz : Nat} {vs : List Value} {cs : Array Value} {fr : Nat × Nat} (h : w.ownsRow base e sz V n vs) (hc : w.heap[b]? = some (.cells cs t fr)) (ht : t ≠ e) : V.ownBlock = none ∨ V.ownBlock ≠ some b := by
  rcases h.2 with ⟨rfl, _⟩ | ⟨g, c, cu, rfl, _, hg, _⟩
  · exact .inl rfl
  · refine .inr fun e1 => ?_
    simp [Value.ownBlock] at e1
    subst e1
    rw [hg] at hc
    injection hc with hc
    injection hc with _ h2 _
    exact ht h2.symm
/-- Rows stay where a cell of a machine is written. -/
theorem Bld.farJ {w : World} {base H k : Nat} {V : Value} {rs : List (List Ed)} {vs : List Value} {cs : Array Value} {fr : Nat × Nat} (h : Bld w base V rs vs) (hH : w.heap[H]? = some (.cells cs 24 fr)) (v : Value) : Bld (w.setCell ⟨H, k, none⟩ v) base V rs vs :=
  ⟨h.1.kept (grown_setCell w ⟨H, k, none⟩ v) (own_notJ h.1 hH (by decide)), fun j row hj => by
    obtain ⟨g, c, h1, h2⟩ := h.2 j row hj
    exact ⟨g, c, h1, h2.kept (grown_setCell w ⟨H, k, none⟩ v) (own_notJ h2 hH (by decide))⟩⟩
theorem BxM.farK {w : World} {g g' k n c : Nat} {i o : Int} {A : Option Addr} (y : BxM w g i o A n c) (hne : g ≠ g') (v : Value) : BxM (w.setCell ⟨g', k, none⟩ v) g i o A n c := (Below.heap_setCell _ _ _ _ hne).trans y
theorem BxM.set2 {w : World} {g n c n' c' : Nat} {i o : Int} {A A' : Option Addr} (y : BxM w g i o A n c) : BxM (w.setCell ⟨g, 2, none⟩ (.slice A' n' c')) g i o A' n' c' := by
  unfold BxM at y ⊢
  simp [World.setCell, Array.getElem?_modify, y]

/-! ### The rows while they are filled -/
def stJ (rs T : List (List Ed)) (s : Nat) (rowT row : List Ed) (j : Nat) : List (List Ed) := (putK rs T 0 s).set s (curK rowT row j)
section
variable {rs T : List (List Ed)} {s j : Nat} {rowT row : List Ed}
theorem st_zero (hT : T.length = rs.length) (hs : rs[s]? = some row) : stJ rs T s rowT row 0 = putK rs T 0 s := by
  have hl : s < rs.length := (List.getElem?_eq_some_iff.1 hs).1
  have h1 : (putK rs T 0 s)[s]? = some row := by
    have := putK_at (rs := rs) (T := T) (f := 0) (s := s) (by omega) (by omega)
    rwa [Nat.zero_add, hs] at this
  unfold stJ
  rw [curK_zero]
  refine List.ext_getElem? fun k => ?_
  by_cases hk : k = s
  · subst hk
    rw [List.getElem?_set_self (List.getElem?_eq_some_iff.1 h1).1, h1]
  · rw [List.getElem?_set_ne (Ne.symm hk)]
theorem st_at (hT : T.length = rs.length) (hs : s < rs.length) : (stJ rs T s rowT row j)[s]? = some (curK rowT row j) := by
  unfold stJ
  rw [List.getElem?_set_self (by rw [putK_len (by omega) (by omega)]; exact hs)]
theorem st_set (hr : rowT.length = row.length) {x : Ed} (hx : rowT[j]? = some x) : (stJ rs T s rowT row j).set s ((curK rowT row j).set j x) = stJ rs T s rowT row (j + 1) := by
  unfold stJ
  rw [List.set_set, curK_set hr hx]
theorem st_skip {x : Ed} (h1 : rowT[j]? = some x) (h2 : row[j]? = some x) : stJ rs T s rowT row (j + 1) = stJ rs T s rowT row j := by
  unfold stJ
  rw [curK_skip h1 h2]
theorem st_end (hT : T.length = rs.length) (hr : rowT.length = row.length) (ht : T[s]? = some rowT) : stJ rs T s rowT row rowT.length = putK rs T 0 (s + 1) := by
  unfold stJ
  rw [curK_all hr]
  have := putK_set (rs := rs) (T := T) (f := 0) (s := s) (by omega) ht
  rwa [Nat.zero_add] at this
theorem put_all (hT : T.length = rs.length) : putK rs T 0 rs.length = T := by
  unfold putK
  simp [← hT]
end
theorem filT_eq (a : Ma) (way out : Int) : filT a way out = filR (tgtF way a.r.length) out a.r ++ if way = 1 ∧ Mc.cmpV a = false then [List.replicate a.i.toNat ((a.r.length : Int), out)] else [] := by
  unfold filT filB
  by_cases h : way = 1 ∧ Mc.cmpV a = false
  · rw [if_pos h, if_pos h]
    unfold filR
    rw [List.length_append, List.length_cons, List.length_nil, List.range_add, List.map_append]
    have e1 : (List.range a.r.length).map (fun s => (((a.r ++ [List.replicate a.i.toNat nE])[s]?).getD []).map fun x => if x.1 = -1 then (tgtF way a.r.length s, out) else x) = (List.range a.r.length).map (fun s => ((a.r[s]?).getD []).map fun x => if x.1 = -1 then (tgtF way a.r.length s, out) else x) := by
      refine List.map_congr_left fun s hs => ?_
      rw [List.getElem?_append_left (List.mem_range.1 hs)]
    rw [e1]
    congr 1
    simp [List.range_succ, tgtF, h.1, nE]
  · rw [if_neg h, if_neg h, List.append_nil, List.append_nil]
theorem fech_val {a : Ma} (v : Mc.Val a) (hl : a.r.length < 64) (way out : Int) : fech a way out = if 1 < way then 1 else if out < 0 then 1 else if a.o ≤ out then 1 else 0 := by
  unfold fech
  rw [if_neg (by rw [Mc.chk_of v]; simp)]
  by_cases h1 : 1 < way
  · rw [if_pos h1, if_pos h1]
  · rw [if_neg h1, if_neg h1]
    by_cases h2 : out < 0
    · rw [if_pos h2, if_pos h2]
    · rw [if_neg h2, if_neg h2]
      by_cases h3 : a.o ≤ out
      · rw [if_pos h3, if_pos h3]
      · rw [if_neg h3, if_neg h3, if_neg (by omega)]
/-- A row where no edge is undefined counts all of its edges. -/
theorem cnt_fullJ : ∀ {row : List Ed}, (∀ x ∈ row, 0 ≤ x.1) → Mc.cntE row = row.length
  | [], _ => rfl
  | x :: row, h => by
    have h1 := cnt_fullJ (row := row) (fun y hy => h y (by simp [hy]))
    have h2 := h x (by simp)
    unfold Mc.cntE at h1 ⊢
    rw [List.countP_cons_of_pos (by simpa using h2), h1]
    rfl
theorem dfd_fullJ {rs : List (List Ed)} {i : Nat} (h : ∀ row ∈ rs, row.length = i ∧ ∀ x ∈ row, 0 ≤ x.1) : Mc.dfd rs = rs.length * i := by
  unfold Mc.dfd
  induction rs with
  | nil => simp
  | cons row rs ih =>
    have h1 := h row (by simp)
    rw [List.map_cons, List.sum_cons, ih (fun r hr => h r (by simp [hr])), cnt_fullJ h1.2, h1.1, List.length_cons, Nat.succ_mul, Nat.add_comm]
theorem filT_len (a : Ma) (way out : Int) : (filT a way out).length = a.r.length + if way = 1 ∧ Mc.cmpV a = false then 1 else 0 := by
  rw [filT_eq, List.length_append, filR_len]
  by_cases h : way = 1 ∧ Mc.cmpV a = false
  · rw [if_pos h, if_pos h]
    rfl
  · rw [if_neg h, if_neg h]
    rfl
theorem cmp_def {a : Ma} (v : Mc.Val a) (h : Mc.cmpV a = true) {row : List Ed} {x : Ed} (hr : row ∈ a.r) (hx : x ∈ row) : 0 ≤ x.1 := by
  obtain ⟨s, hs⟩ := List.mem_iff_getElem?.1 hr
  obtain ⟨c, hc⟩ := List.mem_iff_getElem?.1 hx
  rw [Mc.cmp_all v, List.all_eq_true] at h
  have := h _ (List.mem_of_getElem? (Mc.pl_at hs hc))
  simpa using this
theorem fil_ent {a : Ma} (v : Mc.Val a) {way out : Int} (hw : way = 0 ∨ way = 1) (ho : 0 ≤ out ∧ out < a.o) {row : List Ed} (hr : row ∈ filT a way out) : (row.length : Int) = a.i ∧ ∀ x ∈ row, 0 ≤ x.1 ∧ x.1 < (filT a way out).length ∧ 0 ≤ x.2 ∧ x.2 < a.o := by
  have hi := v.i0
  rw [filT_len]
  rw [filT_eq] at hr
  rcases List.mem_append.1 hr with h1 | h1
  · unfold filR at h1
    obtain ⟨s, hs, rfl⟩ := List.mem_map.1 h1
    have hsl := List.mem_range.1 hs
    rw [List.getElem?_eq_getElem hsl, Option.getD_some]
    have hrow := List.getElem_mem hsl
    refine ⟨by rw [List.length_map]; exact v.len _ hrow, fun x hx => ?_⟩
    obtain ⟨y, hy, rfl⟩ := List.mem_map.1 hx
    by_cases hy1 : y.1 = -1
    · rw [if_pos hy1]
      refine ⟨?_, ?_, ho.1, ho.2⟩
      · show 0 ≤ tgtF way a.r.length s
        unfold tgtF
        split <;> omega
      · show tgtF way a.r.length s < _
        unfold tgtF
        rcases hw with rfl | rfl
        · rw [if_neg (by omega)]
          omega
        · have hc : Mc.cmpV a = false := by
            cases h : Mc.cmpV a with
            | false => rfl
            | true => have := cmp_def v h hrow hy; omega
          rw [if_pos rfl, if_pos ⟨rfl, hc⟩]
          omega
    · rw [if_neg hy1]
      rcases v.ok _ hrow y hy with ⟨h2, _⟩ | ⟨h2, h3, h4, h5⟩
      · exact absurd h2 hy1
      · exact ⟨h2, by omega, h4, h5⟩
  · by_cases h : way = 1 ∧ Mc.cmpV a = false
    · rw [if_pos h] at h1
      simp at h1
      subst h1
      rw [if_pos h]
      refine ⟨by rw [List.length_replicate]; omega, fun x hx => ?_⟩
      rw [List.eq_of_mem_replicate hx]
      exact ⟨by show (0 : Int) ≤ (a.r.length : Int); omega, by show (a.r.length : Int) < _; omega, ho.1, ho.2⟩
    · rw [if_neg h] at h1
      simp at h1
def filM (a : Ma) (way out : Int) : Ma := ⟨a.i, a.o, filT a way out⟩
theorem fil_val {a : Ma} (v : Mc.Val a) (hl : a.r.length < 64) {way out : Int} (hw : way = 0 ∨ way = 1) (ho : 0 ≤ out ∧ out < a.o) : Mc.Val (filM a way out) := by
  have h1 := v.r0
  have h2 := filT_len a way out
  refine ⟨v.i0, v.i1, v.o0, v.o1, by show 1 ≤ (filT a way out).length; omega, by show (filT a way out).length ≤ 64; split at h2 <;> omega, fun row hr => (fil_ent v hw ho hr).1, fun row hr x hx => Or.inr ((fil_ent v hw ho hr).2 x hx)⟩
theorem fil_cmp {a : Ma} (v : Mc.Val a) {way out : Int} (hw : way = 0 ∨ way = 1) (ho : 0 ≤ out ∧ out < a.o) : ((Mc.dfd (filM a way out).r : Int) == (filM a way out).r.length * (filM a way out).i) = true := by
  obtain ⟨i, hi⟩ := Int.eq_ofNat_of_zero_le (show 0 ≤ a.i by have := v.i0; omega)
  have h := dfd_fullJ (rs := filT a way out) (i := i) fun row hr => by
    have h := fil_ent v hw ho hr
    exact ⟨by have := h.1; omega, fun x hx => (h.2 x hx).1⟩
  rw [beq_iff_eq]
  show (Mc.dfd (filT a way out) : Int) = (filT a way out).length * a.i
  rw [h, hi]
  simp
end Go.Proofs.Ytcbmohcjmofomaa
