/-
  Contract: the reference's Copy of a machine; an edge is written into rows of the call's own. No statement is proved here.
-/
import Derived.Test.YtcbmohcjmofomaaWh0
import Derived.Test.YtcbmohcjmofomaaSMc9
import Derived.Deep.RegionHeld3
import Derived.Deep.RegionLaw
import Derived.Deep.AppendLies
namespace Go.Proofs.Ytcbmohcjmofomaa
open Go.RowKit
open Mc (Ed Ma)

namespace Mc
theorem okE_val {m : Ma} (v : Val m) {row : List Ed} (hr : row ∈ m.r) : row.all (okE m.r.length m.o) = true := List.all_eq_true.2 fun x hx => by
  rcases v.ok row hr x hx with ⟨a, b⟩ | ⟨a, b, c, d⟩
  · exact okE_none a b
  · exact okE_in a b c d
theorem wth_len (m : Ma) (s k : Nat) (x : Ed) : (wth m s k x).r.length = m.r.length := by simp [wth]
theorem wth_r {m : Ma} {s k : Nat} {x : Ed} {row : List Ed} (h : m.r[s]? = some row) : (wth m s k x).r = m.r.set s (row.set k x) := by simp [wth, h]
theorem chk_wth {m : Ma} (v : Val m) {s k : Nat} {x : Ed} {row : List Ed} (h : m.r[s]? = some row) (hk : k < row.length) : chk (wth m s k x) = if okE m.r.length m.o x then 0 else 1 := by
  have h1 := v.i0; have h2 := v.i1; have h3 := v.o0; have h4 := v.o1; have h5 := v.r0; have h6 := v.r1
  have hl := wth_len m s k x
  have hi : (wth m s k x).i = m.i := rfl
  have ho : (wth m s k x).o = m.o := rfl
  have hs : s < m.r.length := (List.getElem?_eq_some_iff.1 h).1
  have hrow : row ∈ m.r := List.mem_of_getElem? h
  rw [chk_in (by rw [hi, ho, hl]; omega) (by rw [hi, ho, hl]; omega), hl, hi, ho, wth_r h]
  cases hok : okE m.r.length m.o x with
  | true =>
    rw [if_pos, if_pos rfl]
    refine List.all_eq_true.2 fun r hr => ?_
    rcases List.mem_or_eq_of_mem_set hr with hr | rfl
    · exact okR_ok (v.len r hr) (okE_val v hr)
    · refine okR_ok (by rw [List.length_set]; exact v.len row hrow) (List.all_eq_true.2 fun y hy => ?_)
      rcases List.mem_or_eq_of_mem_set hy with hy | rfl
      · exact List.all_eq_true.1 (okE_val v hrow) y hy
      · exact hok
  | false =>
    rw [if_neg, if_neg (by decide)]
    have hat : (m.r.set s (row.set k x))[s]? = some (row.set k x) := by rw [List.getElem?_set_self hs]
    have hat2 : (row.set k x)[k]? = some x := by rw [List.getElem?_set_self hk]
    rw [all_hit hat (okR_bad hat2 hok)]
    decide
end Mc

/-- The rows' slices lie in different blocks. -/
def DstV (vs : List Value) : Prop := ∀ (j k : Nat) (u v : Value), j < k → vs[j]? = some u → vs[k]? = some v → u.ownBlock ≠ v.ownBlock
theorem DstV.nil_ : DstV [] := fun j k u v _ h _ => by simp at h
theorem DstV.push {vs : List Value} {v : Value} (h : DstV vs) (hv : ∀ (j : Nat) (u : Value), vs[j]? = some u → u.ownBlock ≠ v.ownBlock) : DstV (vs ++ [v]) := fun j k u x hjk hj hk => by
  rw [List.getElem?_append] at hk
  split at hk
  · rename_i hlt
    rw [List.getElem?_append_left (by omega)] at hj
    exact h j k u x hjk hj hk
  · rename_i hge
    have hk0 : k - vs.length = 0 := by
      rcases Nat.eq_zero_or_pos (k - vs.length) with h0 | h0
      · exact h0
      · rw [List.getElem?_eq_none (by simp; omega)] at hk; cases hk
    rw [hk0] at hk
    simp at hk
    subst hk
    rw [List.getElem?_append_left (by omega)] at hj
    exact hv j u hj
/-- What Copy hands back. -/
def CpyM (w : World) (m : Ma) (e : Ending) (w' : World) : Prop := ∃ B k vs, e = .returned (.agg #[.int .i64 m.i, .int .i64 m.o, .slice B m.r.length k]) ∧ Hid (Bld w' w.heap.size (.slice B m.r.length k) m.r vs) ∧ Hid (DstV vs) ∧ Below w.heap.size w w'

abbrev boxC (w : World) (i o : Int) (A : Option Addr) (n c : Nat) : World := (boxM w i o A n c).alloc zM
theorem boxC_cells {w wr : World} {i o : Int} {A : Option Addr} {n c : Nat} (h : Below (w.heap.size + 2) (boxC w i o A n c) wr) :
    wr.cell? ⟨w.heap.size, 0, none⟩ = some (.int .i64 i) ∧ wr.cell? ⟨w.heap.size, 1, none⟩ = some (.int .i64 o) ∧ wr.cell? ⟨w.heap.size, 2, none⟩ = some (.slice A n c) := by
  refine ⟨?_, ?_, ?_⟩
  · rw [h.cell (p := ⟨w.heap.size, 0, none⟩) (by simp), World.cell?_alloc_past _ _ _ (by simp), World.cell?_alloc_at _ _ _ _ rfl]; rfl
  · rw [h.cell (p := ⟨w.heap.size, 1, none⟩) (by simp), World.cell?_alloc_past _ _ _ (by simp), World.cell?_alloc_at _ _ _ _ rfl]; rfl
  · rw [h.cell (p := ⟨w.heap.size, 2, none⟩) (by simp), World.cell?_alloc_past _ _ _ (by simp), World.cell?_alloc_at _ _ _ _ rfl]; rfl
theorem boxC_below {w wr : World} {i o : Int} {A : Option Addr} {n c : Nat} (h : Below (w.heap.size + 2) (boxC w i o A n c) wr) : Below w.heap.size w wr := (((Below.refl _ _).alloc (Nat.le_refl _) _).alloc (by simp) _).trans (h.mono (by omega))
theorem BxM.drew {w : World} {g n c : Nat} {i o : Int} {A : Option Addr} (h : BxM w g i o A n c) : BxM w.drew g i o A n c := h
/-- An empty slice of the call's own. -/
theorem own_empty (w : World) (base : Nat) (h : base ≤ w.heap.size) : (w.alloc (.cells #[] 27)).drew.ownsRow base 27 2 (.slice (some ⟨w.heap.size, 0, none⟩) 0 0) 0 [] :=
  ⟨rfl, .inr ⟨w.heap.size, 0, #[], rfl, h, heap_alloc_new w _, Nat.le_refl _, Nat.zero_le _, rfl, rfl⟩⟩

set_option maxRecDepth 100000 in
set_option maxHeartbeats 2000000 in
theorem copy_any (m : Ma) (A : Option Addr) (c : Nat) (w : World) (hr : RdR w A m.r) (hl : m.r.length ≤ 1000000) (h0 : ∀ row ∈ m.r, 0 < row.length ∧ row.length ≤ 1000000) :
    Calls Try.prog 35 #[.agg #[.int .i64 m.i, .int .i64 m.o, .slice A m.r.length c]] w (CpyM w m) := by
  obtain ⟨i, o, rs⟩ := m
  simp only at hr hl h0 ⊢
  obtain ⟨n, hn⟩ : ∃ n, rs.length = n := ⟨_, rfl⟩
  have hpost : Hid (∀ e w', (∃ B k vs, e = Ending.returned (.agg #[.int .i64 i, .int .i64 o, .slice B n k]) ∧ Hid (Bld w' w.heap.size (.slice B n k) rs vs) ∧ Hid (DstV vs) ∧ Below w.heap.size w w') → CpyM w ⟨i, o, rs⟩ e w') := fun e w' ⟨B, k, vs, h1, h2, h3, h4⟩ => ⟨B, k, vs, by rw [h1]; simp [hn], by rw [show (Ma.mk i o rs).r.length = n from hn]; exact h2, h3, h4⟩
  have H0 := Lib.hid h0
  rw [hn] at hl ⊢
  have HN := Lib.hid hn
  clear hn h0
  obtain ⟨k0, hk0, hk1, hk2, hk3⟩ := info_parts edge_info
  obtain ⟨r0, hr0, hr1, hr2, hr3⟩ := info_parts row_info
  go_enter Try.func35, Try.ntmps35
  go_wp2_with fail
  have hX : Below (w.heap.size + 2) (boxC w i o A n c) (boxC w i o A n c) := Below.refl _ _
  go_loopw [4] (fun v wr => ∃ (k : Nat) (V : Value) (vs : List Value), k ≤ n ∧ v = .int .i64 k ∧ Hid (wr.heap[w.heap.size + 2]? = some (.cells #[.int .i64 i, .int .i64 o, V] 24)) ∧ Hid (Bld wr (w.heap.size + 3) V (rs.take k) vs) ∧ Hid (DstV vs) ∧ Below (w.heap.size + 2) (boxC w i o A n c) wr) (fun v _ => n - (intOf v).toNat)
  case atStart =>
    refine ⟨0, .slice none 0 0, [], Nat.zero_le _, rfl, ?_, Bld.nil_ _ _, DstV.nil_, hX.alloc (by simp) _⟩
    have := heap_alloc_new (boxC w i o A n c) (.cells #[.int .i64 i, .int .i64 o, .slice none 0 0] 24)
    rw [show (boxC w i o A n c).heap.size = w.heap.size + 2 by simp] at this
    exact this
  case round =>
    clear hX
    obtain ⟨k, V, vs, hk, rfl, hG, hB, hD, hbr⟩ := hrel
    have hts : (rs.take k).length = k := by rw [List.length_take]; have := HN.out; omega
    obtain ⟨A', c', hV, _⟩ := hB.out.rd
    rw [hts] at hV
    subst hV
    obtain ⟨x0, x1, x2⟩ := boxC_cells hbr
    have hGm : BxM wr (w.heap.size + 2) i o A' k c' := hG.out
    have hGs : w.heap.size + 3 ≤ wr.heap.size := heap_lt hGm
    by_cases hkn : k < n
    · obtain ⟨b, off, B, d, q, row, rfl, hb, hcw, hqd, hdm, _, hpw, hln, hq⟩ := hr.at_ (k := k) (by rw [HN.out]; exact hkn)
      have hrow := H0.out row (List.mem_of_getElem? hq.out)
      obtain ⟨ad, rfl⟩ : ∃ ad, B = some ad := by
        obtain ⟨b', off', e, _⟩ := hpw hrow.1
        exact ⟨_, e⟩
      have hq0 : 0 < q := by rw [← hln.out]; exact hrow.1
      have hq6 : q ≤ 1000000 := by rw [← hln.out]; exact hrow.2
      have hcr : wr.cell? ⟨b, off + k, none⟩ = some (.slice (some ad) q d) := ((bcell (boxC_below hbr)).1 b (off + k) hb).trans hcw
      have hbs : b < wr.heap.size := by have := (boxC_below hbr).size; omega
      obtain ⟨_, _, g2⟩ := hGm.cells
      have g3 : wr.cell? ⟨w.heap.size + 1 + 1, 2, none⟩ = some (.slice A' k c') := g2
      have g4 : w.heap.size + 1 + 1 < wr.heap.size := by omega
      have g5 : w.heap.size + 2 < wr.heap.size := by omega
      have g6 : w.heap.size < wr.heap.size := by omega
      have hown0 := own_empty wr (w.heap.size + 3) hGs
      have hpW : RdP (wr.alloc (.cells #[] 27)).drew (some ad) row := (hpw.below (boxC_below hbr)).below (((Below.refl _ _).alloc (Nat.le_refl _) _).drew)
      have S1 := Lib.hid (eC_read hpW)
      have S2 := Lib.hid (eC_cell row)
      have SL : Hid ((eC row).length = q * 2) := by show _ = _; rw [eC_len, hln.out]
      have s3 : 0 + q ≤ maxLen := by unfold maxLen; omega
      have s4 : (0 + q) * 16 ≤ 140737488355328 := by omega
      have s5 : w.heap.size + 3 ≤ (wr.alloc (.cells #[] 27)).drew.heap.size := by show _ ≤ (wr.alloc _).heap.size; simp; omega
      have s6 : k + 1 ≤ maxLen := by unfold maxLen; omega
      have s7 : (k + 1) * 24 ≤ 140737488355328 := by omega
      have hvl : Hid (∀ (j : Nat) (u : Value), vs[j]? = some u → ∃ g, u.ownBlock = some g ∧ g < wr.heap.size) := fun j u hj => by
        have hjl : j < vs.length := (List.getElem?_eq_some_iff.1 hj).1
        have hvs : vs.length = k := by have := hB.out.1.1; omega
        obtain ⟨rj, hrj⟩ : ∃ rj, (rs.take k)[j]? = some rj := ⟨_, List.getElem?_eq_getElem (by omega)⟩
        obtain ⟨g, c, h1, h2⟩ := hB.out.2 j rj hrj
        rw [hj] at h1
        injection h1 with h1
        subst h1
        exact ⟨g, rfl, (h2.lt g rfl).2⟩
      clear hpw hpW hrow
      go_wp2_with fail
      go_region_law
        (first
          | (refine step_append_lies _ rfl (.tmp 19) (.tmp 24) 29 rfl (w.heap.size + 3) 27 k0 (.agg #[.int .i64 0, .int .i64 0]) 2 16 Try.underlying29 hk0 hk1 hk2 hk3 rfl (by decide) (.slice (some ⟨wr.heap.size, 0, none⟩) 0 0) 0 [] (by simp [Act.eval]) hown0 ad q d (eC row) (by simp [Act.eval]) SL.out S1.out S2.out hq0 s3 s4 s5 _ rfl ?_
             intro g cap w1 hown1 hg1 hat1 hlt1
             have hb1 : Below wr.heap.size wr w1 := (((Below.refl _ _).alloc (Nat.le_refl _) _).drew).grown hg1 (by show wr.heap.size ≤ (wr.alloc _).heap.size; simp) (fun j hj => by simp [Value.ownBlock] at hj; omega)
             have q0 : w1.cell? ⟨w.heap.size + 1 + 1, 2, none⟩ = some (.slice A' k c') := (hb1.cell (p := ⟨w.heap.size + 2, 2, none⟩) (by show w.heap.size + 2 < _; omega)).trans g2
             have q3 : w.heap.size + 1 + 1 < w1.heap.size := by have := hb1.size; omega
             have q4 : w.heap.size + 2 < w1.heap.size := by have := hb1.size; omega
             have q1 := (hb1.cell (p := ⟨w.heap.size, 2, none⟩) (by show w.heap.size < _; omega)).trans x2
             have q2 := (hb1.cell (p := ⟨b, off + k, none⟩) hbs).trans hcr
             have hgw : wr.heap.size ≤ g := by
               rcases hat1 with h | h
               · simp [Value.ownBlock] at h; omega
               · rw [h]; show _ ≤ (wr.alloc _).heap.size; simp
             have hownQ : w1.ownsRow (w.heap.size + 3) 27 2 (.slice (some ⟨g, 0, none⟩) q cap) q (eC row) := by
               have h := hown1; rw [Nat.zero_add, List.nil_append] at h; exact h
             have hB1 := hB.out.below hb1
             have hownR := hB1.1.alloc (.cells #[.slice (some ⟨g, 0, none⟩) q cap] 29)
             rw [hts] at hownR
             have S3 := Lib.hid (World.news_of_block (cs := #[.slice (some ⟨g, 0, none⟩) q cap]) (t := 29) (fr := (0, 0)) (heap_alloc_new w1 _))
             have S4 : Hid (∀ u ∈ ([.slice (some ⟨g, 0, none⟩) q cap] : List Value), u.oneCell' = true) := fun u hu => by simp at hu; subst hu; rfl
             have s8 : w.heap.size + 3 ≤ (w1.alloc (.cells #[.slice (some ⟨g, 0, none⟩) q cap] 29)).heap.size := by have := hb1.size; simp; omega)
          | (refine step_append_lies _ rfl (.tmp 18) (.tmp 26) 22 rfl (w.heap.size + 3) 29 r0 (.slice none 0 0) 1 24 Try.underlying22 hr0 hr1 hr2 hr3 rfl (by decide) (.slice A' k c') k vs (by simp [Act.eval]) hownR ⟨w1.heap.size, 0, none⟩ 1 1 [.slice (some ⟨g, 0, none⟩) q cap] (by simp [Act.eval]) rfl S3.out S4.out (by decide) s6 s7 s8 _ rfl ?_
             intro g2 cap2 w2 hown2 hg2 hat2 hlt2
             have hne : some (w.heap.size + 2) ≠ (Value.slice A' k c').ownBlock := fun e => by have := (hB1.1.lt _ e.symm).1; omega
             have hb2 : Below (w.heap.size + 3) w1 w2 := ((Below.refl _ _).alloc (by have := hb1.size; omega) _).grown hg2 s8 (fun j hj => (hB1.1.lt j hj).1)
             have hG2 : BxM w2 (w.heap.size + 2) i o A' k c' := (hb2.block (w.heap.size + 2) (by omega)).trans ((hb1.block (w.heap.size + 2) (by omega)).trans hGm)
             have p0 : w2.cell? ⟨w.heap.size + 1 + 1, 2, none⟩ = some (.slice A' k c') := hG2.cells.2.2
             have pf : w2.frozen? ⟨w.heap.size + 1 + 1, 2, none⟩ = false := hG2.frozen.2.2
             have p1 := (hb2.cell (p := ⟨w.heap.size, 2, none⟩) (by show w.heap.size < _; omega)).trans q1
             have p2 : w2.cell? ⟨b, off + k, none⟩ = some (.slice (some ad) q d) := ((bcell ((boxC_below hbr).trans ((hb1.mono (by omega)).trans (hb2.mono (by omega))))).1 b (off + k) hb).trans hcw
             have hb3 : Below (w.heap.size + 2) w2 (w2.setCell ⟨w.heap.size + 1 + 1, 2, none⟩ (.slice (some ⟨g2, 0, none⟩) (k + 1) cap2)) := (Below.refl _ _).setCell (p := ⟨w.heap.size + 1 + 1, 2, none⟩) (Nat.le_refl _) _
             have r1 := (hb3.cell (p := ⟨w.heap.size, 2, none⟩) (by show w.heap.size < _; omega)).trans p1
             have r2 := (hb3.cell (p := ⟨b, off + k, none⟩) (by have := hb; show b < _; omega)).trans p2)
          | fail)
      all_goals
        have hO : OwR w1 (w.heap.size + 3) (.slice (some ⟨g, 0, none⟩) row.length cap) row := by
          show w1.ownsRow _ _ 2 (.slice _ row.length cap) row.length (eC row)
          rw [hln.out]; exact hownQ
        have hpush := hB1.push (V1 := .slice (some ⟨g2, 0, none⟩) (k + 1) cap2) (w1 := w2) (o := .cells #[.slice (some ⟨g, 0, none⟩) q cap] 29) hO (by rw [hts, hln.out]; exact hown2) hg2
        rw [hln.out, show rs.take k ++ [row] = rs.take (k + 1) by rw [List.take_add_one, hq.out]; rfl] at hpush
        have hset := Lib.hid (hpush.kept (grown_setCell w2 ⟨w.heap.size + 2, 2, none⟩ (.slice (some ⟨g2, 0, none⟩) (k + 1) cap2)) (by show w.heap.size + 2 < _; omega))
        have hDn : Hid (DstV (vs ++ [.slice (some ⟨g, 0, none⟩) q cap])) := hD.out.push fun j u hj e => by
          obtain ⟨g', h1, h2⟩ := hvl.out j u hj
          rw [h1] at e
          simp [Value.ownBlock] at e
          omega
        have hG4 : Hid ((w2.setCell ⟨w.heap.size + 2, 2, none⟩ (.slice (some ⟨g2, 0, none⟩) (k + 1) cap2)).heap[w.heap.size + 2]? = some (.cells #[.int .i64 i, .int .i64 o, .slice (some ⟨g2, 0, none⟩) (k + 1) cap2] 24)) := by
          have : w2.heap[w.heap.size + 2]? = _ := hG2
          show _ = _
          simp [World.setCell, Array.getElem?_modify, this]
        have hbF : Below (w.heap.size + 2) (boxC w i o _ n c) (w2.setCell ⟨w.heap.size + 2, 2, none⟩ (.slice (some ⟨g2, 0, none⟩) (k + 1) cap2)) := ((hbr.trans (hb1.mono (by omega))).trans (hb2.mono (by omega))).trans hb3
        clear hpush hO hg2 hg1 hown1 hown2 hownQ hownR hB1 hat1 hat2 S1 S2 S3 S4 SL s3 s4 s5 s6 s7 s8 hvl hown0 g3 g4 g5 q0 q1 q2 q3 q4 p0 p1 p2 pf r1 r2 hb1 hb2 hb3 hG2 hne hgw
        go_wp2
        exact ⟨⟨k + 1, _, _, by omega, by go_num, hG4, hset, hDn, hbF⟩, by simp [intOf] <;> omega⟩
    · have hkn2 : k = n := by omega
      subst hkn2
      obtain ⟨g0, g1, g2⟩ := hGm.cells
      have hz0 : BxM wr (w.heap.size + 1) 0 0 none 0 0 := by
        show wr.heap[w.heap.size + 1]? = _
        rw [hbr.block (w.heap.size + 1) (by omega)]
        have := heap_alloc_new (boxM w i o A k c) zM
        rw [show (boxM w i o A k c).heap.size = w.heap.size + 1 by simp] at this
        exact this
      obtain ⟨z0, z1, z2⟩ := hz0.cells
      obtain ⟨f0, f1, f2⟩ := hz0.frozen
      have hblk := Lib.hid (hz0.set3 (i' := i) (o' := o) (A' := A') (n' := k) (c' := c'))
      have hk2 := hB.out.set3 (g := w.heap.size + 1) (by omega) (.int .i64 i) (.int .i64 o) (.slice A' k c')
      rw [List.take_of_length_le (by have := HN.out; omega)] at hk2
      have hk3 := Lib.hid hk2
      have hbf : Below w.heap.size w (set3 wr (w.heap.size + 1) (.int .i64 i) (.int .i64 o) (.slice A' k c')) := below_set3 (boxC_below hbr) (by omega) _ _ _
      clear hk2 hz0
      go_wp2
      obtain ⟨W, hW⟩ : ∃ W, set3 wr (w.heap.size + 1) (.int .i64 i) (.int .i64 o) (.slice A' k c') = W := ⟨_, rfl⟩
      simp only [hW] at hblk hk3 hbf ⊢
      clear hW
      obtain ⟨e0, e1, e2⟩ := BxM.cells hblk.out
      refine bodyPost_ret (by simp [results, Try.results35, go_sem, e0, e1, e2]; rfl) rfl ?_
      exact hpost.out _ _ ⟨A', c', vs, rfl, hk3.out.base (by omega), hD, hbf⟩
/-! ### An edge is written into the rows that Copy has made -/
theorem setE_heap {w : World} {g k : Nat} {cur : Array Value} {t : TypeId} {x y : Value} (h : w.heap[g]? = some (.cells cur t (0, 0))) :
    ((w.setCell ⟨g, k * 2, none⟩ x).setCell ⟨g, k * 2 + 1, none⟩ y).heap[g]? = some (.cells ((cur.setIfInBounds (k * 2) x).setIfInBounds (k * 2 + 1) y) t (0, 0)) := by
  simp [World.setCell, Array.getElem?_modify, h]
theorem OwR.setE {w : World} {base g c k : Nat} {row : List Ed} {x : Ed} (h : OwR w base (.slice (some ⟨g, 0, none⟩) row.length c) row) (hk : k < row.length) :
    OwR ((w.setCell ⟨g, k * 2, none⟩ (.int .i64 x.1)).setCell ⟨g, k * 2 + 1, none⟩ (.int .i64 x.2)) base (.slice (some ⟨g, 0, none⟩) (row.set k x).length c) (row.set k x) := by
  have hl : (row.set k x).length = row.length := List.length_set
  rcases h.2 with ⟨e, _⟩ | ⟨g', c', cur, e, hb, hg, hc, hm, hs, ht⟩
  · cases e
  · injection e with e1 e2 e3
    injection e1 with e1
    injection e1 with e1
    subst e1 e3
    refine ⟨by rw [eC_len], .inr ⟨g, c, _, rfl, hb, setE_heap hg, by omega, hm, by simpa using hs, ?_⟩⟩
    rw [hl, ← eC_set row k x hk, ← ht]
    simp only [Array.toList_setIfInBounds]
    rw [List.take_set, List.take_set]
theorem Bld.setE {w : World} {base g c s k : Nat} {V : Value} {rs : List (List Ed)} {vs : List Value} {row : List Ed} {x : Ed} (h : Bld w base V rs vs) (hd : DstV vs) (hs : rs[s]? = some row) (hk : k < row.length) (hv : vs[s]? = some (.slice (some ⟨g, 0, none⟩) row.length c)) :
    Bld ((w.setCell ⟨g, k * 2, none⟩ (.int .i64 x.1)).setCell ⟨g, k * 2 + 1, none⟩ (.int .i64 x.2)) base V (rs.set s (row.set k x)) vs := by
  obtain ⟨g', c', h1, h2⟩ := h.2 s row hs
  rw [hv] at h1
  injection h1 with h1
  injection h1 with h1 _ h3
  injection h1 with h1
  injection h1 with h1
  subst h1 h3
  have hsl := (List.getElem?_eq_some_iff.1 hs).1
  have hne : ∀ {v : Value} {e : TypeId} {sz n : Nat} {xs : List Value}, w.ownsRow base e sz v n xs → (v.ownBlock = none ∨ v.ownBlock ≠ some g) → ((w.setCell ⟨g, k * 2, none⟩ (.int .i64 x.1)).setCell ⟨g, k * 2 + 1, none⟩ (.int .i64 x.2)).ownsRow base e sz v n xs := fun h0 h1 =>
    (h0.kept (grown_setCell w ⟨g, k * 2, none⟩ _) h1).kept (grown_setCell _ ⟨g, k * 2 + 1, none⟩ _) h1
  have hV : V.ownBlock = none ∨ V.ownBlock ≠ some g := by
    have := own_apart h2 h.1 (show (27 : TypeId) ≠ 29 by decide)
    rcases this with h0 | h0
    · cases h0
    · exact Or.inr (Ne.symm h0)
  have hO := hne h.1 hV
  refine ⟨by rw [List.length_set]; exact hO, fun j r hj => ?_⟩
  · by_cases hjs : j = s
    · subst hjs
      rw [List.getElem?_set_self hsl] at hj
      injection hj with hj
      subst hj
      exact ⟨g, c, by rw [List.length_set]; exact hv, h2.setE hk⟩
    · rw [List.getElem?_set_ne (Ne.symm hjs)] at hj
      obtain ⟨g', c', h3, h4⟩ := h.2 j r hj
      refine ⟨g', c', h3, hne h4 (Or.inr fun e => ?_)⟩
      rcases Nat.lt_or_gt_of_ne hjs with h5 | h5
      · exact hd j s _ _ h5 h3 hv e
      · exact hd s j _ _ h5 hv h3 e.symm

/-- Where an edge of the rows lies. -/
theorem Bld.edge {w : World} {base s k n c : Nat} {A : Option Addr} {rs : List (List Ed)} {vs : List Value} {row : List Ed} {x y : Int} (h : Bld w base (.slice A n c) rs vs) (hs : rs[s]? = some row) (hk : row[k]? = some (x, y)) :
    ∃ p g cc, A = some ⟨p, 0, none⟩ ∧ base ≤ p ∧ p < w.heap.size ∧ base ≤ g ∧ g < w.heap.size ∧ p ≠ g ∧ w.cell? ⟨p, s, none⟩ = some (.slice (some ⟨g, 0, none⟩) row.length cc) ∧
      w.cell? ⟨g, k * 2, none⟩ = some (.int .i64 x) ∧ w.cell? ⟨g, k * 2 + 1, none⟩ = some (.int .i64 y) ∧ w.frozen? ⟨g, k * 2, none⟩ = false ∧ w.frozen? ⟨g, k * 2 + 1, none⟩ = false ∧ Hid (vs[s]? = some (.slice (some ⟨g, 0, none⟩) row.length cc)) ∧ Hid (∃ cur, w.heap[g]? = some (.cells cur 27 (0, 0))) := by
  have hkl : k < row.length := (List.getElem?_eq_some_iff.1 hk).1
  have hsl : s < rs.length := (List.getElem?_eq_some_iff.1 hs).1
  obtain ⟨g, cc, h1, h2⟩ := h.2 s row hs
  have ha := own_apart h2 h.1 (show (27 : TypeId) ≠ 29 by decide)
  rcases h.1.2 with ⟨e, h0⟩ | ⟨p, cap, cur, hv, hb, hg, hc, hm, hsz, ht⟩
  · omega
  · injection hv with hv1 hv2 hv3
    subst hv1 hv3
    have hpg : p ≠ g := fun e => by
      rcases ha with h0 | h0
      · cases h0
      · exact h0 (by rw [e]; rfl)
    rcases h2.2 with ⟨e, _⟩ | ⟨g', cap', cu, hv, hb2, hg2, hc2, hm2, hsz2, ht2⟩
    · cases e
    · injection hv with hv1 hv2 hv3
      injection hv1 with hv1
      injection hv1 with hv1
      subst hv1 hv3
      have hcell := h.1.cells (g := p) rfl s _ h1
      rw [Addr.add_lit] at hcell
      obtain ⟨e1, e2⟩ := eC_at hk
      have c1 := h2.cells (g := g) rfl _ _ e1
      have c2 := h2.cells (g := g) rfl _ _ e2
      rw [Addr.add_lit] at c1 c2
      exact ⟨p, g, cc, rfl, hb, heap_lt hg, hb2, heap_lt hg2, hpg, by simpa using hcell, by simpa using c1, by simpa using c2, by simp [World.frozen?, hg2], by simp [World.frozen?, hg2], h1, cu, hg2⟩

end Go.Proofs.Ytcbmohcjmofomaa
