/-
  Contract: the reference's Copy of a machine: rows in memory of its own, each in a block of its own. No statement is proved here.
-/
import Derived.Test.YtiohfflkolopeaaMd13
import Derived.Test.YtiohfflkolopeaaMc9
import Derived.Test.YtiohfflkolopeaaMc11
import Derived.Deep.RegionHeld3
namespace Go.Proofs.Ytiohfflkolopeaa
open Go.RowKit
open Mc (Ed Ma)

/-- The rows' slices lie in different blocks. -/
def Dst (vs : List Value) : Prop := ∀ (j k : Nat) (u v : Value), j < k → vs[j]? = some u → vs[k]? = some v → u.ownBlock ≠ v.ownBlock
theorem Dst.nil_ : Dst [] := fun j k u v _ h _ => by simp at h
theorem Dst.push {vs : List Value} {v : Value} (h : Dst vs) (hv : ∀ (j : Nat) (u : Value), vs[j]? = some u → u.ownBlock ≠ v.ownBlock) : Dst (vs ++ [v]) := fun j k u x hjk hj hk => by
  rw [List.getElem?_append] at hk
  split at hk
  · rename_i hlt
    rw [List.getElem?_append_left (by omega)] at hj
    exact h j k u x hjk hj hk
  · rename_i hge
    have hk0 : k - vs.length = 0 := by
      rcases Nat.eq_zero_or_pos (k - vs.length) with h0 | h0
      · exact h0
      · rw [List.getElem?_eq_none (by simp; omega)] at hk; cases hk
    rw [hk0] at hk
    simp at hk
    subst hk
    rw [List.getElem?_append_left (by omega)] at hj
    exact hv j u hj
/-- What Copy hands back. -/
def CpyM (w : World) (m : Ma) (e : Ending) (w' : World) : Prop := ∃ B k vs, e = .returned (.agg #[.int .i64 m.i, .int .i64 m.o, .slice B m.r.length k]) ∧ Hid (Bld w' w.heap.size (.slice B m.r.length k) m.r vs) ∧ Hid (Dst vs) ∧ Below w.heap.size w w'

abbrev boxC (w : World) (i o : Int) (A : Option Addr) (n c : Nat) : World := (boxM w i o A n c).alloc zM
theorem boxC_cells {w wr : World} {i o : Int} {A : Option Addr} {n c : Nat} (h : Below (w.heap.size + 2) (boxC w i o A n c) wr) :
    wr.cell? ⟨w.heap.size, 0, none⟩ = some (.int .i64 i) ∧ wr.cell? ⟨w.heap.size, 1, none⟩ = some (.int .i64 o) ∧ wr.cell? ⟨w.heap.size, 2, none⟩ = some (.slice A n c) := by
  refine ⟨?_, ?_, ?_⟩
  · rw [h.cell (p := ⟨w.heap.size, 0, none⟩) (by simp), World.cell?_alloc_past _ _ _ (by simp), World.cell?_alloc_at _ _ _ _ rfl]; rfl
  · rw [h.cell (p := ⟨w.heap.size, 1, none⟩) (by simp), World.cell?_alloc_past _ _ _ (by simp), World.cell?_alloc_at _ _ _ _ rfl]; rfl
  · rw [h.cell (p := ⟨w.heap.size, 2, none⟩) (by simp), World.cell?_alloc_past _ _ _ (by simp), World.cell?_alloc_at _ _ _ _ rfl]; rfl
theorem boxC_below {w wr : World} {i o : Int} {A : Option Addr} {n c : Nat} (h : Below (w.heap.size + 2) (boxC w i o A n c) wr) : Below w.heap.size w wr := (((Below.refl _ _).alloc (Nat.le_refl _) _).alloc (by simp) _).trans (h.mono (by omega))
theorem BxM.drew {w : World} {g n c : Nat} {i o : Int} {A : Option Addr} (h : BxM w g i o A n c) : BxM w.drew g i o A n c := h
/-- An empty slice of the call's own. -/
theorem own_empty (w : World) (base : Nat) (h : base ≤ w.heap.size) : (w.alloc (.cells #[] 39)).drew.ownsRow base 39 2 (.slice (some ⟨w.heap.size, 0, none⟩) 0 0) 0 [] :=
  ⟨rfl, .inr ⟨w.heap.size, 0, #[], rfl, h, heap_alloc_new w _, Nat.le_refl _, Nat.zero_le _, rfl, rfl⟩⟩

set_option maxRecDepth 100000 in
set_option maxHeartbeats 2000000 in
theorem copy_any (m : Ma) (A : Option Addr) (c : Nat) (w : World) (hr : RdR w A m.r) (hl : m.r.length ≤ 1000000) (h0 : ∀ row ∈ m.r, 0 < row.length ∧ row.length ≤ 1000000) :
    Calls Try.prog 35 #[.agg #[.int .i64 m.i, .int .i64 m.o, .slice A m.r.length c]] w (CpyM w m) := by
  obtain ⟨i, o, rs⟩ := m
  simp only at hr hl h0 ⊢
  obtain ⟨n, hn⟩ : ∃ n, rs.length = n := ⟨_, rfl⟩
  have hpost : Hid (∀ e w', (∃ B k vs, e = Ending.returned (.agg #[.int .i64 i, .int .i64 o, .slice B n k]) ∧ Hid (Bld w' w.heap.size (.slice B n k) rs vs) ∧ Hid (Dst vs) ∧ Below w.heap.size w w') → CpyM w ⟨i, o, rs⟩ e w') := fun e w' ⟨B, k, vs, h1, h2, h3, h4⟩ => ⟨B, k, vs, by rw [h1]; simp [hn], by rw [show (Ma.mk i o rs).r.length = n from hn]; exact h2, h3, h4⟩
  have H0 := Lib.hid h0
  rw [hn] at hl ⊢
  have HN := Lib.hid hn
  clear hn h0
  obtain ⟨k0, hk0, hk1, hk2, hk3⟩ := info_parts edge_info
  obtain ⟨r0, hr0, hr1, hr2, hr3⟩ := info_parts row_info
  go_enter Try.func35, Try.ntmps35
  go_wp2_with fail
  have hX : Below (w.heap.size + 2) (boxC w i o A n c) (boxC w i o A n c) := Below.refl _ _
  go_loopw [4] (fun v wr => ∃ (k : Nat) (V : Value) (vs : List Value), k ≤ n ∧ v = .int .i64 k ∧ Hid (wr.heap[w.heap.size + 2]? = some (.cells #[.int .i64 i, .int .i64 o, V] 24)) ∧ Hid (Bld wr (w.heap.size + 3) V (rs.take k) vs) ∧ Hid (Dst vs) ∧ Below (w.heap.size + 2) (boxC w i o A n c) wr) (fun v _ => n - (intOf v).toNat)
  case atStart =>
    refine ⟨0, .slice none 0 0, [], Nat.zero_le _, rfl, ?_, Bld.nil_ _ _, Dst.nil_, hX.alloc (by simp) _⟩
    have := heap_alloc_new (boxC w i o A n c) (.cells #[.int .i64 i, .int .i64 o, .slice none 0 0] 24)
    rw [show (boxC w i o A n c).heap.size = w.heap.size + 2 by simp] at this
    exact this
  case round =>
    clear hX
    obtain ⟨k, V, vs, hk, rfl, hG, hB, hD, hbr⟩ := hrel
    have hts : (rs.take k).length = k := by rw [List.length_take]; have := HN.out; omega
    obtain ⟨A', c', hV, _⟩ := hB.out.rd
    rw [hts] at hV
    subst hV
    obtain ⟨x0, x1, x2⟩ := boxC_cells hbr
    have hGm : BxM wr (w.heap.size + 2) i o A' k c' := hG.out
    have hGs : w.heap.size + 3 ≤ wr.heap.size := heap_lt hGm
    by_cases hkn : k < n
    · obtain ⟨b, off, B, d, q, row, rfl, hb, hcw, hqd, hdm, _, hpw, hln, hq⟩ := hr.at_ (k := k) (by rw [HN.out]; exact hkn)
      have hrow := H0.out row (List.mem_of_getElem? hq.out)
      obtain ⟨ad, rfl⟩ : ∃ ad, B = some ad := by
        obtain ⟨b', off', e, _⟩ := hpw hrow.1
        exact ⟨_, e⟩
      have hq0 : 0 < q := by rw [← hln.out]; exact hrow.1
      have hq6 : q ≤ 1000000 := by rw [← hln.out]; exact hrow.2
      have hcr : wr.cell? ⟨b, off + k, none⟩ = some (.slice (some ad) q d) := ((bcell (boxC_below hbr)).1 b (off + k) hb).trans hcw
      have hbs : b < wr.heap.size := by have := (boxC_below hbr).size; omega
      obtain ⟨_, _, g2⟩ := hGm.cells
      have g3 : wr.cell? ⟨w.heap.size + 1 + 1, 2, none⟩ = some (.slice A' k c') := g2
      have g4 : w.heap.size + 1 + 1 < wr.heap.size := by omega
      have g5 : w.heap.size + 2 < wr.heap.size := by omega
      have g6 : w.heap.size < wr.heap.size := by omega
      have hown0 := own_empty wr (w.heap.size + 3) hGs
      have hpW : RdP (wr.alloc (.cells #[] 39)).drew (some ad) row := (hpw.below (boxC_below hbr)).below (((Below.refl _ _).alloc (Nat.le_refl _) _).drew)
      have S1 := Lib.hid (eC_read hpW)
      have S2 := Lib.hid (eC_cell row)
      have SL : Hid ((eC row).length = q * 2) := by show _ = _; rw [eC_len, hln.out]
      have s3 : 0 + q ≤ maxLen := by unfold maxLen; omega
      have s4 : (0 + q) * 16 ≤ 140737488355328 := by omega
      have s5 : w.heap.size + 3 ≤ (wr.alloc (.cells #[] 39)).drew.heap.size := by show _ ≤ (wr.alloc _).heap.size; simp; omega
      have s6 : k + 1 ≤ maxLen := by unfold maxLen; omega
      have s7 : (k + 1) * 24 ≤ 140737488355328 := by omega
      have hvl : Hid (∀ (j : Nat) (u : Value), vs[j]? = some u → ∃ g, u.ownBlock = some g ∧ g < wr.heap.size) := fun j u hj => by
        have hjl : j < vs.length := (List.getElem?_eq_some_iff.1 hj).1
        have hvs : vs.length = k := by have := hB.out.1.1; omega
        obtain ⟨rj, hrj⟩ : ∃ rj, (rs.take k)[j]? = some rj := ⟨_, List.getElem?_eq_getElem (by omega)⟩
        obtain ⟨g, c, h1, h2⟩ := hB.out.2 j rj hrj
        rw [hj] at h1
        injection h1 with h1
        subst h1
        exact ⟨g, rfl, (h2.lt g rfl).2⟩
      clear hpw hpW hrow
      go_wp2_with fail
      go_region_law
        (first
          | (refine step_append_lies _ rfl (.tmp 19) (.tmp 24) 45 rfl (w.heap.size + 3) 39 k0 (.agg #[.int .i64 0, .int .i64 0]) 2 16 Try.underlying45 hk0 hk1 hk2 hk3 rfl (by decide) (.slice (some ⟨wr.heap.size, 0, none⟩) 0 0) 0 [] (by simp [Act.eval]) hown0 ad q d (eC row) (by simp [Act.eval]) SL.out S1.out S2.out hq0 s3 s4 s5 _ rfl ?_
             intro g cap w1 hown1 hg1 hat1 hlt1
             have hb1 : Below wr.heap.size wr w1 := (((Below.refl _ _).alloc (Nat.le_refl _) _).drew).grown hg1 (by show wr.heap.size ≤ (wr.alloc _).heap.size; simp) (fun j hj => by simp [Value.ownBlock] at hj; omega)
             have q0 : w1.cell? ⟨w.heap.size + 1 + 1, 2, none⟩ = some (.slice A' k c') := (hb1.cell (p := ⟨w.heap.size + 2, 2, none⟩) (by show w.heap.size + 2 < _; omega)).trans g2
             have q3 : w.heap.size + 1 + 1 < w1.heap.size := by have := hb1.size; omega
             have q4 : w.heap.size + 2 < w1.heap.size := by have := hb1.size; omega
             have q1 := (hb1.cell (p := ⟨w.heap.size, 2, none⟩) (by show w.heap.size < _; omega)).trans x2
             have q2 := (hb1.cell (p := ⟨b, off + k, none⟩) hbs).trans hcr
             have hgw : wr.heap.size ≤ g := by
               rcases hat1 with h | h
               · simp [Value.ownBlock] at h; omega
               · rw [h]; show _ ≤ (wr.alloc _).heap.size; simp
             have hownQ : w1.ownsRow (w.heap.size + 3) 39 2 (.slice (some ⟨g, 0, none⟩) q cap) q (eC row) := by
               have h := hown1; rw [Nat.zero_add, List.nil_append] at h; exact h
             have hB1 := hB.out.below hb1
             have hownR := hB1.1.alloc (.cells #[.slice (some ⟨g, 0, none⟩) q cap] 45)
             rw [hts] at hownR
             have S3 := Lib.hid (World.news_of_block (cs := #[.slice (some ⟨g, 0, none⟩) q cap]) (t := 45) (fr := (0, 0)) (heap_alloc_new w1 _))
             have S4 : Hid (∀ u ∈ ([.slice (some ⟨g, 0, none⟩) q cap] : List Value), u.oneCell' = true) := fun u hu => by simp at hu; subst hu; rfl
             have s8 : w.heap.size + 3 ≤ (w1.alloc (.cells #[.slice (some ⟨g, 0, none⟩) q cap] 45)).heap.size := by have := hb1.size; simp; omega)
          | (refine step_append_lies _ rfl (.tmp 18) (.tmp 26) 22 rfl (w.heap.size + 3) 45 r0 (.slice none 0 0) 1 24 Try.underlying22 hr0 hr1 hr2 hr3 rfl (by decide) (.slice A' k c') k vs (by simp [Act.eval]) hownR ⟨w1.heap.size, 0, none⟩ 1 1 [.slice (some ⟨g, 0, none⟩) q cap] (by simp [Act.eval]) rfl S3.out S4.out (by decide) s6 s7 s8 _ rfl ?_
             intro g2 cap2 w2 hown2 hg2 hat2 hlt2
             have hne : some (w.heap.size + 2) ≠ (Value.slice A' k c').ownBlock := fun e => by have := (hB1.1.lt _ e.symm).1; omega
             have hb2 : Below (w.heap.size + 3) w1 w2 := ((Below.refl _ _).alloc (by have := hb1.size; omega) _).grown hg2 s8 (fun j hj => (hB1.1.lt j hj).1)
             have hG2 : BxM w2 (w.heap.size + 2) i o A' k c' := (hb2.block (w.heap.size + 2) (by omega)).trans ((hb1.block (w.heap.size + 2) (by omega)).trans hGm)
             have p0 : w2.cell? ⟨w.heap.size + 1 + 1, 2, none⟩ = some (.slice A' k c') := hG2.cells.2.2
             have pf : w2.frozen? ⟨w.heap.size + 1 + 1, 2, none⟩ = false := hG2.frozen.2.2
             have p1 := (hb2.cell (p := ⟨w.heap.size, 2, none⟩) (by show w.heap.size < _; omega)).trans q1
             have p2 : w2.cell? ⟨b, off + k, none⟩ = some (.slice (some ad) q d) := ((bcell ((boxC_below hbr).trans ((hb1.mono (by omega)).trans (hb2.mono (by omega))))).1 b (off + k) hb).trans hcw
             have hb3 : Below (w.heap.size + 2) w2 (w2.setCell ⟨w.heap.size + 1 + 1, 2, none⟩ (.slice (some ⟨g2, 0, none⟩) (k + 1) cap2)) := (Below.refl _ _).setCell (p := ⟨w.heap.size + 1 + 1, 2, none⟩) (Nat.le_refl _) _
             have r1 := (hb3.cell (p := ⟨w.heap.size, 2, none⟩) (by show w.heap.size < _; omega)).trans p1
             have r2 := (hb3.cell (p := ⟨b, off + k, none⟩) (by have := hb; show b < _; omega)).trans p2)
          | fail)
      all_goals
        have hO : OwR w1 (w.heap.size + 3) (.slice (some ⟨g, 0, none⟩) row.length cap) row := by
          show w1.ownsRow _ _ 2 (.slice _ row.length cap) row.length (eC row)
          rw [hln.out]; exact hownQ
        have hpush := hB1.push (V1 := .slice (some ⟨g2, 0, none⟩) (k + 1) cap2) (w1 := w2) (o := .cells #[.slice (some ⟨g, 0, none⟩) q cap] 45) hO (by rw [hts, hln.out]; exact hown2) hg2
        rw [hln.out, show rs.take k ++ [row] = rs.take (k + 1) by rw [List.take_add_one, hq.out]; rfl] at hpush
        have hset := Lib.hid (hpush.kept (grown_setCell w2 ⟨w.heap.size + 2, 2, none⟩ (.slice (some ⟨g2, 0, none⟩) (k + 1) cap2)) (by show w.heap.size + 2 < _; omega))
        have hDn : Hid (Dst (vs ++ [.slice (some ⟨g, 0, none⟩) q cap])) := hD.out.push fun j u hj e => by
          obtain ⟨g', h1, h2⟩ := hvl.out j u hj
          rw [h1] at e
          simp [Value.ownBlock] at e
          omega
        have hG4 : Hid ((w2.setCell ⟨w.heap.size + 2, 2, none⟩ (.slice (some ⟨g2, 0, none⟩) (k + 1) cap2)).heap[w.heap.size + 2]? = some (.cells #[.int .i64 i, .int .i64 o, .slice (some ⟨g2, 0, none⟩) (k + 1) cap2] 24)) := by
          have : w2.heap[w.heap.size + 2]? = _ := hG2
          show _ = _
          simp [World.setCell, Array.getElem?_modify, this]
        have hbF : Below (w.heap.size + 2) (boxC w i o _ n c) (w2.setCell ⟨w.heap.size + 2, 2, none⟩ (.slice (some ⟨g2, 0, none⟩) (k + 1) cap2)) := ((hbr.trans (hb1.mono (by omega))).trans (hb2.mono (by omega))).trans hb3
        clear hpush hO hg2 hg1 hown1 hown2 hownQ hownR hB1 hat1 hat2 S1 S2 S3 S4 SL s3 s4 s5 s6 s7 s8 hvl hown0 g3 g4 g5 q0 q1 q2 q3 q4 p0 p1 p2 pf r1 r2 hb1 hb2 hb3 hG2 hne hgw
        go_wp2
        exact ⟨⟨k + 1, _, _, by omega, by go_num, hG4, hset, hDn, hbF⟩, by simp [intOf] <;> omega⟩
    · have hkn2 : k = n := by omega
      subst hkn2
      obtain ⟨g0, g1, g2⟩ := hGm.cells
      have hz0 : BxM wr (w.heap.size + 1) 0 0 none 0 0 := by
        show wr.heap[w.heap.size + 1]? = _
        rw [hbr.block (w.heap.size + 1) (by omega)]
        have := heap_alloc_new (boxM w i o A k c) zM
        rw [show (boxM w i o A k c).heap.size = w.heap.size + 1 by simp] at this
        exact this
      obtain ⟨z0, z1, z2⟩ := hz0.cells
      obtain ⟨f0, f1, f2⟩ := hz0.frozen
      have hblk := Lib.hid (hz0.set3 (i' := i) (o' := o) (A' := A') (n' := k) (c' := c'))
      have hk2 := hB.out.set3 (g := w.heap.size + 1) (by omega) (.int .i64 i) (.int .i64 o) (.slice A' k c')
      rw [List.take_of_length_le (by have := HN.out; omega)] at hk2
      have hk3 := Lib.hid hk2
      have hbf : Below w.heap.size w (set3 wr (w.heap.size + 1) (.int .i64 i) (.int .i64 o) (.slice A' k c')) := below_set3 (boxC_below hbr) (by omega) _ _ _
      clear hk2 hz0
      go_wp2
      obtain ⟨W, hW⟩ : ∃ W, set3 wr (w.heap.size + 1) (.int .i64 i) (.int .i64 o) (.slice A' k c') = W := ⟨_, rfl⟩
      simp only [hW] at hblk hk3 hbf ⊢
      clear hW
      obtain ⟨e0, e1, e2⟩ := BxM.cells hblk.out
      refine bodyPost_ret (by simp [results, Try.results35, go_sem, e0, e1, e2]; rfl) rfl ?_
      exact hpost.out _ _ ⟨A', c', vs, rfl, hk3.out.base (by omega), hD, hbf⟩
end Go.Proofs.Ytiohfflkolopeaa
