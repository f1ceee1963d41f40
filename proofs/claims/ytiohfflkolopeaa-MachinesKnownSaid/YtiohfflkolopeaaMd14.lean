/-
  Contract: With. No statement is proved here.
-/
import Derived.Test.YtiohfflkolopeaaMd13
import Derived.Test.YtiohfflkolopeaaMc11
import Derived.Test.YtiohfflkolopeaaMc9
namespace Go.Proofs.Ytiohfflkolopeaa
open Go.RowKit
open Mc (Ed Ma Pe)

theorem wpList_make_edges (w : World) {ops : Array Oper} {rest : List Oper} {o : Oper} {a : Act} {Q : Exit → Act → World → Prop}
    (hg : o.guard = none) (l c : Operand) (hop : o.op = Op.makeSlice 45 l c) (q : Nat) (hl : a.eval l = .int .i64 q) (hc : a.eval c = .int .i64 q) (hq : q ≤ 1000000)
    (hK : ∀ cur : Array Value, cur.size = q * 2 → wpList Try.prog ops Q rest (a.put o.dst (.slice (some ⟨w.heap.size, 0, none⟩) q q)) (w.alloc (.cells cur 39))) :
    wpList Try.prog ops Q (o :: rest) a w := by
  refine wpList_plain hg fun K hK' => ?_
  obtain ⟨i, hi, hz, hz1, hz2⟩ := info_parts edge_info
  have hrun := run_make (P := Try.prog) w 45 39 i _ Try.underlying45 hi hz .i64 .i64 q q (by omega) (Int.le_refl _) (by rw [hz2]; omega) (by omega)
  simp only [Int.toNat_natCast, hz1] at hrun
  unfold Oper.wp
  simp [execOp, hop, hl, hc, hrun, Result.andThen]
  exact hK' _ _ (hK _ (size_madeCells _ _))
theorem wpList_make_rows (w : World) {ops : Array Oper} {rest : List Oper} {o : Oper} {a : Act} {Q : Exit → Act → World → Prop}
    (hg : o.guard = none) (l c : Operand) (hop : o.op = Op.makeSlice 22 l c) (n : Nat) (rs : List (List Ed)) (hl : a.eval l = .int .i64 n) (hc : a.eval c = .int .i64 n) (hn : n ≤ 1000000) (base : Nat) (hb : base ≤ w.heap.size)
    (hK : ∀ w', Wb base w.heap.size n rs [] w' → Below w.heap.size w w' → wpList Try.prog ops Q rest (a.put o.dst (.slice (some ⟨w.heap.size, 0, none⟩) n n)) w') :
    wpList Try.prog ops Q (o :: rest) a w := by
  refine wpList_plain hg fun K hK' => ?_
  have hrun := run_make_row' (P := Try.prog) 22 45 (.slice none 0 0) 24 Try.underlying22 row_info rfl .i64 .i64 n (by omega) (by omega) w
  unfold Oper.wp
  simp [execOp, hop, hl, hc, hrun, Result.andThen]
  refine hK' _ _ (hK _ ⟨?_, fun k g row h => by simp at h, fun g h => by simp at h, List.nodup_nil, hb⟩ ((Below.refl _ _).alloc (Nat.le_refl _) _))
  rw [heap_alloc_new]
  have e := toList_madeCells_one (.slice none 0 0) n
  have e2 : madeCells #[.slice none 0 0] n = (vOf [] rs ++ List.replicate (n - ([] : List Nat).length) (Value.slice none 0 0)).toArray := by
    rw [← Array.toList_inj, e]
    simp [vOf]
  rw [e2]
theorem wpList_copy_edges (w : World) {ops : Array Oper} {rest : List Oper} {o : Oper} {a : Act} {Q : Exit → Act → World → Prop} (hgd : o.guard = none) (d s : Operand)
    (ho : o.op = .call { callee := .builtin .copy, args := #[d, s], argTypes := #[45, 45] }) (g q c : Nat) (ad : Addr) (cur : Array Value) (row : List Ed) (hd : a.eval d = .slice (some ⟨g, 0, none⟩) q q) (hs : a.eval s = .slice (some ad) q c)
    (hg : w.heap[g]? = some (.cells cur 39 (0, 0))) (hq : row.length = q) (hsz : cur.size = q * 2) (hr : RdP w (some ad) row)
    (h : wpList Try.prog ops Q rest (a.put o.dst (goInt q)) (w.setRow g (eC row).toArray)) : wpList Try.prog ops Q (o :: rest) a w := by
  refine wpList_plain hgd fun K hK => ?_
  have hrun := run_copy_edges w o.type g q c ad cur row hg hq hsz hr
  unfold Oper.wp
  simp [execOp, ho, resolve, invoke, builtin, hd, hs, hrun, Result.andThen]
  exact hK _ _ h
theorem set3_reads {w : World} {g n c : Nat} {i o : Int} {A : Option Addr} (h : BxM w g i o A n c) (x y v : Value) :
    (w.setCell ⟨g, 0, none⟩ x).cell? ⟨g, 0, none⟩ = some x ∧ ((w.setCell ⟨g, 0, none⟩ x).setCell ⟨g, 1, none⟩ y).cell? ⟨g, 1, none⟩ = some y ∧ (((w.setCell ⟨g, 0, none⟩ x).setCell ⟨g, 1, none⟩ y).setCell ⟨g, 2, none⟩ v).cell? ⟨g, 2, none⟩ = some v := by
  unfold BxM at h
  have h0 : (w.setCell ⟨g, 0, none⟩ x).heap[g]? = some (.cells #[x, .int .i64 o, .slice A n c] 24) := by simp [World.setCell, Array.getElem?_modify, h]
  have h1 : ((w.setCell ⟨g, 0, none⟩ x).setCell ⟨g, 1, none⟩ y).heap[g]? = some (.cells #[x, y, .slice A n c] 24) := by simp [World.setCell, Array.getElem?_modify, h]
  have h2 : (((w.setCell ⟨g, 0, none⟩ x).setCell ⟨g, 1, none⟩ y).setCell ⟨g, 2, none⟩ v).heap[g]? = some (.cells #[x, y, v] 24) := by simp [World.setCell, Array.getElem?_modify, h]
  refine ⟨?_, ?_, ?_⟩
  · rw [cell_of_row _ _ _ _ _ _ h0]; rfl
  · rw [cell_of_row _ _ _ _ _ _ h1]; rfl
  · rw [cell_of_row _ _ _ _ _ _ h2]; rfl

/-- The memory of With: the machine, the edge, the result, the rows that are copied. -/
structure Wh (w : World) (p : Nat) (i o : Int) (A : Option Addr) (rs : List (List Ed)) (c : Nat) (x y : Int) (gs : List Nat) (W : World) : Prop where
  wb : Wb (w.heap.size + 3) p rs.length rs gs W
  bm : BxM W w.heap.size i o A rs.length c
  be : BxE W (w.heap.size + 1) x y
  br : BxM W (w.heap.size + 1 + 1) 0 0 none 0 0
  bel : Below w.heap.size w W
theorem Wh.push {w : World} {p : Nat} {i o : Int} {A : Option Addr} {rs : List (List Ed)} {c : Nat} {x y : Int} {gs : List Nat} {W : World} (h : Wh w p i o A rs c x y gs W) {cur : Array Value} {row : List Ed} (hl : gs.length < rs.length) (hr : rs[gs.length]? = some row) :
    Wh w p i o A rs c x y (gs ++ [W.heap.size]) (((W.alloc (.cells cur 39)).setCell ⟨p, gs.length, none⟩ (.slice (some ⟨W.heap.size, 0, none⟩) row.length row.length)).setRow W.heap.size (eC row).toArray) := by
  have hp := h.wb.p0
  have h3 : w.heap.size + 3 ≤ W.heap.size := by have := heap_lt h.br; omega
  have keep : ∀ b ob, b < W.heap.size → b ≠ p → W.heap[b]? = some ob → (((W.alloc (.cells cur 39)).setCell ⟨p, gs.length, none⟩ (.slice (some ⟨W.heap.size, 0, none⟩) row.length row.length)).setRow W.heap.size (eC row).toArray).heap[b]? = some ob := fun b ob hb hne ho =>
    (setRow_other _ _ _ _ (by omega)).trans ((Below.heap_setCell _ _ _ _ hne).trans ((Below.heap_alloc _ _ _ hb).trans ho))
  exact ⟨h.wb.push hl rfl hr h3, keep _ _ (heap_lt h.bm) (by omega) h.bm, keep _ _ (heap_lt h.be) (by omega) h.be, keep _ _ (heap_lt h.br) (by omega) h.br,
    below_setRow ((h.bel.alloc (by omega) _).setCell (p := ⟨p, gs.length, none⟩) (by show w.heap.size ≤ p; omega) _) (by omega) _⟩

theorem Wb.drew {base p n : Nat} {rs : List (List Ed)} {gs : List Nat} {W : World} (h : Wb base p n rs gs W) : Wb base p n rs gs W.drew := ⟨h.blk, h.row, h.own, h.inj, h.p0⟩

set_option maxRecDepth 100000 in
set_option maxHeartbeats 1600000 in
theorem pwith_any (i o s k x y : Int) (rs : List (List Ed)) (A : Option Addr) (n c : Nat) (w : World) (hr : RdR w A rs) (hn : rs.length = n) (hnb : n ≤ 1000000) (hrl : ∀ row ∈ rs, row.length ≤ 1000000) :
    Calls Try.prog 19 #[.agg #[.int .i64 i, .int .i64 o, .slice A n c], .int .i64 s, .int .i64 k, .agg #[.int .i64 x, .int .i64 y]] w fun e w' => ∃ B j vs, e = .returned (.tuple #[.agg #[.int .i64 (Mc.wiV ⟨i, o, rs⟩ s k (x, y)).i, .int .i64 (Mc.wiV ⟨i, o, rs⟩ s k (x, y)).o, .slice B j j], .int .i64 (Mc.wiE ⟨i, o, rs⟩ s k (x, y))]) ∧
      Hid ((Mc.wiV ⟨i, o, rs⟩ s k (x, y)).r.length = j) ∧ Hid (Bld w' w.heap.size (.slice B j j) (Mc.wiV ⟨i, o, rs⟩ s k (x, y)).r vs) ∧ Below w.heap.size w w' := by
  subst hn
  have RL := Lib.hid hrl
  clear hrl
  obtain ⟨W1, hW1⟩ : ∃ W1, ((w.alloc (.cells #[.int .i64 i, .int .i64 o, .slice A rs.length c] 24)).alloc (.cells #[.int .i64 x, .int .i64 y] 39)).alloc (.cells #[.int .i64 0, .int .i64 0, .slice none 0 0] 24) = W1 := ⟨_, rfl⟩
  have hb0 : Below w.heap.size w W1 := by rw [← hW1]; exact (((Below.refl _ _).alloc (Nat.le_refl _) _).alloc (by simp) _).alloc (by simp; omega) _
  have hM0 : BxM W1 w.heap.size i o A rs.length c := by rw [← hW1]; exact ((BxM.new w i o A rs.length c).mvB ((Below.refl _ _).alloc (Nat.le_refl _) _)).mvB ((Below.refl _ _).alloc (Nat.le_refl _) _)
  have hE0 : BxE W1 (w.heap.size + 1) x y := by
    rw [← hW1]
    have := BxE.new (boxM w i o A rs.length c) x y
    rw [World.size_alloc] at this
    exact this.mvC (Cells.of_below' ((Below.refl _ _).alloc (Nat.le_refl _) _))
  have hR0 : BxM W1 (w.heap.size + 1 + 1) 0 0 none 0 0 := by rw [← hW1]; exact BxM.newE (by simp) _ _ _ _ _
  have hr0 := hr.below hb0
  obtain ⟨q0, q1, q2⟩ := hM0.cells
  go_enter Try.func19, Try.ntmps19
  go_wp2_with fail
  refine (checkPlace_any i o s k rs A rs.length c _ hr0 rfl hnb RL.out).mono ?_
  rintro e w1 ⟨rfl, hb1⟩
  have hB1 := below_next hb0 hb1
  have hM1 := hM0.mvB hb1
  have hE1 : BxE w1 (w.heap.size + 1) x y := (hb1.block _ (heap_lt hE0)).trans hE0
  have hR1 := hR0.mvB hb1
  clear q0 q1 q2 hM0 hE0 hR0 hW1 hb0 hb1
  obtain ⟨q0, q1, q2⟩ := hM1.cells
  obtain ⟨e0, e1, _, _⟩ := hE1.cells
  obtain ⟨f0, f1, f2⟩ := hR1.frozen
  obtain ⟨g0, g1, g2⟩ := hR1.cells
  by_cases hz : Mc.stE ⟨i, o, rs⟩ s k = 0
  · rw [hz]
    go_wp2_with fail
    refine (fits_any _ _ _ _ _ _ _ _).mono ?_
    rintro e w2 ⟨rfl, hb2⟩
    have hB2 := below_next hB1 hb2
    have hM2 := hM1.mvB hb2
    have hE2 : BxE w2 (w.heap.size + 1) x y := (hb2.block _ (heap_lt hE1)).trans hE1
    have hR2 := hR1.mvB hb2
    clear q0 q1 q2 e0 e1 f0 f1 f2 g0 g1 g2 hM1 hE1 hR1 hB1 hb2
    obtain ⟨q0, q1, q2⟩ := hM2.cells
    obtain ⟨f0, f1, f2⟩ := hR2.frozen
    obtain ⟨g0, g1, g2⟩ := hR2.cells
    cases hok : Mc.okE rs.length o (x, y) with
    | false =>
      have hwE : Hid (Mc.wiE ⟨i, o, rs⟩ s k (x, y) = 1) := by show _ = _; unfold Mc.wiE; rw [if_neg (by simp [hz])]; simp [hok]
      have hwV : Hid (Mc.wiV ⟨i, o, rs⟩ s k (x, y) = ⟨0, 0, []⟩) := by show _ = _; unfold Mc.wiV; rw [hwE.out]; rfl
      obtain ⟨r0, r1, r2⟩ := set3_reads hR2 (.int .i64 0) (.int .i64 0) (.slice none 0 0)
      go_wp2
      refine bodyPost_ret (v := .tuple #[.agg #[.int .i64 0, .int .i64 0, .slice none 0 0], .int .i64 1]) (by simp [results, Try.f19, go_sem, r0, r1, r2]) rfl ?_
      exact ⟨none, 0, [], by rw [hwV.out, hwE.out], by rw [hwV.out]; rfl, by rw [hwV.out]; exact Bld.nil_ _ _, below_set3 hB2 (by omega) _ _ _⟩
    | true =>
      have hwE : Hid (Mc.wiE ⟨i, o, rs⟩ s k (x, y) = 0) := by show _ = _; unfold Mc.wiE; rw [if_neg (by simp [hz])]; simp [hok]
      have hc : Mc.cst ⟨i, o, rs⟩ s = 0 := by
        rw [Mc.stE_cst] at hz
        split at hz
        · rename_i h; exact absurd hz h
        · rename_i h; simpa using h
      obtain ⟨V, hs0, hs1⟩ := Mc.cst_val hc
      simp only at hs1
      have hk : 0 ≤ k ∧ k < i := by
        rw [Mc.stE_cst, if_neg (by simp [hc])] at hz
        split at hz
        · assumption
        · cases hz
      obtain ⟨s, rfl⟩ := Int.eq_ofNat_of_zero_le hs0
      obtain ⟨k, rfl⟩ := Int.eq_ofNat_of_zero_le hk.1
      have hsl : s < rs.length := by omega
      have hi1 := V.i0; have hi16 := V.i1; have hr64 := V.r1
      simp only at hi1 hi16 hr64
      have LN := Lib.hid V.len
      have hrow := LN.out rs[s] (List.getElem_mem hsl)
      simp only at hrow
      have hrs : rs[s]? = some rs[s] := List.getElem?_eq_getElem hsl
      have hwV : Hid (Mc.wiV ⟨i, o, rs⟩ s k (x, y) = ⟨i, o, rs.set s (rs[s].set k (x, y))⟩) := by
        show _ = _
        unfold Mc.wiV
        rw [hwE.out, if_pos rfl]
        simp [Mc.wth, hrs]
      have hz0 : w.heap.size + 3 ≤ w2.heap.size := by have := heap_lt hR2; omega
      clear hz hok hc V hs0 hs1
      go_wp2_with (at_make; go_loud (refine wpList_make_rows _ rfl _ _ rfl rs.length rs rfl rfl hnb (w.heap.size + 3) hz0 ?_; intro w3 hW3 hb3; have hM3 := hM2.mvB hb3; obtain ⟨q0', q1', q2'⟩ := hM3.cells))
      have hWh : Wh w w2.heap.size i o A rs c x y [] w3 := ⟨hW3, hM3, (hb3.block _ (heap_lt hE2)).trans hE2, hR2.mvB hb3, below_next hB2 hb3⟩
      obtain ⟨p, hpp⟩ : ∃ p, w2.heap.size = p := ⟨_, rfl⟩
      rw [hpp] at hWh
      rw [hpp]
      have H0 := Lib.hid hWh
      clear hWh hM3 q0' q1' q2' hb3 hW3 hpp hz0 hB2 hM2 hE2 hR2 q0 q1 q2 f0 f1 f2 g0 g1 g2 w2
      go_loopw [34] (fun v wr => ∃ gs : List Nat, gs.length ≤ rs.length ∧ v = .int .i64 gs.length ∧ Hid (Wh w p i o A rs c x y gs wr)) (fun v _ => rs.length - (intOf v).toNat)
      case atStart => exact ⟨[], Nat.zero_le _, rfl, H0⟩
      case round =>
        obtain ⟨gs, hgs, rfl, hW⟩ := hrel
        clear H0 w3
        by_cases hlt : gs.length < rs.length
        · obtain ⟨b, off, B, d', q, row, rfl, hb, hcw, _, _, _, hpw, hln, hq⟩ := hr.at_ hlt
          have hc := (hW.out.bel.cell (p := ⟨b, off + gs.length, none⟩) hb).trans hcw
          have hrl : (row.length : Int) = i := LN.out row (List.mem_of_getElem? hq.out)
          have hqi : (q : Int) = i := by rw [← hln.out]; exact hrl
          have hBn : ∃ ad, B = some ad := by
            obtain ⟨b', off', e, _⟩ := hpw (by omega)
            exact ⟨_, e⟩
          obtain ⟨ad, rfl⟩ := hBn
          have hq6 : q ≤ 1000000 := by omega
          obtain rfl : row.length = q := hln.out
          have hbA : Below wr.heap.size wr (wr.alloc (.cells #[] 39)) := (Below.refl _ _).alloc (Nat.le_refl _) _
          clear hbA
          have HP := Lib.hid (fun cur : Array Value => hW.out.push (cur := cur) hlt hq.out)
          have hp3 : w.heap.size + 3 ≤ p := hW.out.wb.p0
          have hsz : w.heap.size + 3 ≤ wr.heap.size := by have := heap_lt hW.out.br; omega
          have hpz : p < wr.heap.size := Go.Proofs.Ytiohfflkolopeaa.hlt hW.out.wb.blk
          have HA : Hid (∀ cur : Array Value, ∃ v, (wr.alloc (.cells cur 39)).cell? ⟨p, gs.length, none⟩ = some v ∧ (wr.alloc (.cells cur 39)).frozen? ⟨p, gs.length, none⟩ = false ∧
              ((wr.alloc (.cells cur 39)).setCell ⟨p, gs.length, none⟩ (.slice (some ⟨wr.heap.size, 0, none⟩) row.length row.length)).cell? ⟨p, gs.length, none⟩ = some (.slice (some ⟨wr.heap.size, 0, none⟩) row.length row.length) ∧
              ((wr.alloc (.cells cur 39)).setCell ⟨p, gs.length, none⟩ (.slice (some ⟨wr.heap.size, 0, none⟩) row.length row.length)).heap[wr.heap.size]? = some (.cells cur 39 (0, 0)) ∧
              RdP ((wr.alloc (.cells cur 39)).setCell ⟨p, gs.length, none⟩ (.slice (some ⟨wr.heap.size, 0, none⟩) row.length row.length)) (some ad) row) := fun cur => by
            obtain ⟨v, h1, h2⟩ := (hW.out.wb.below ((Below.refl _ _).alloc (Nat.le_refl _) (.cells cur 39))).cell (k := gs.length) (by omega) hgs
            refine ⟨v, h1, h2, World.cell?_setCell_same' _ _ _ (by rw [h1]; rfl), (Below.heap_setCell _ _ _ _ (by show wr.heap.size ≠ p; omega)).trans (World.alloc_heap_new wr _), hpw.below ?_⟩
            exact (hW.out.bel.alloc (by omega) _).setCell (p := ⟨p, gs.length, none⟩) (by show w.heap.size ≤ p; omega) _
          have EQ : ∀ cur : Array Value, (wr.alloc (.cells cur 39)).setCell ⟨p, gs.length, none⟩ (.slice (some ⟨wr.heap.size, 0, none⟩) row.length row.length) = (wr.setCell ⟨p, gs.length, none⟩ (.slice (some ⟨wr.heap.size, 0, none⟩) row.length row.length)).alloc (.cells cur 39) := fun cur => World.setCell_alloc_past _ _ _ _ hpz
          have EQ := Lib.hid EQ
          clear hrl hpw hcw hW hln hqi
          go_wp2_with (first
            | (at_make; refine wpList_make_edges _ rfl _ _ rfl row.length rfl rfl hq6 ?_; intro cur hcur; obtain ⟨v0, c1, f1, c2, hG, hRd⟩ := HA.out cur; rw [EQ.out] at c2 hG hRd; have hRD := Lib.hid hRd)
            | (with_reducible refine wpList_copy_edges _ rfl (.tmp 48) (.tmp 49) rfl wr.heap.size row.length d' ad cur row rfl rfl hG rfl hcur hRD.out ?_))
          refine ⟨⟨gs ++ [wr.heap.size], by rw [List.length_append, List.length_singleton]; omega, by rw [List.length_append, List.length_singleton]; go_num, ?_⟩, by simp [intOf]; omega⟩
          rw [← EQ.out cur]
          exact HP.out cur
        · have hgl : gs.length = rs.length := by omega
          have hgs1 : gs[s]? = some (gs[s]'(by omega)) := List.getElem?_eq_getElem (by omega)
          obtain ⟨g, hg⟩ : ∃ g, gs[s]'(by omega) = g := ⟨_, rfl⟩
          obtain ⟨row, hrw⟩ : ∃ row, rs[s] = row := ⟨_, rfl⟩
          rw [hg] at hgs1
          rw [hrw] at hrs hrow hwV
          have hkr : k < row.length := by omega
          have c1 := hW.out.wb.at_ hgs1 hrs hgs
          obtain ⟨e0, e1, _, _⟩ := hW.out.be.cells
          obtain ⟨u1, u2⟩ := eC_at (List.getElem?_eq_getElem hkr)
          have hgb := hW.out.wb.row s g row hgs1 hrs
          have t0 : wr.cell? ⟨g, k * 2, none⟩ = some (.int .i64 (row[k]).1) := by rw [cell_of_row _ _ _ _ _ _ hgb]; simpa using u1
          have t1 : wr.cell? ⟨g, k * 2 + 1, none⟩ = some (.int .i64 (row[k]).2) := by rw [cell_of_row _ _ _ _ _ _ hgb]; simpa using u2
          have f0 : wr.frozen? ⟨g, k * 2, none⟩ = false := by simp [World.frozen?, hgb]
          have f1 : wr.frozen? ⟨g, k * 2 + 1, none⟩ = false := by simp [World.frozen?, hgb]
          clear hg hrw hgb u1 u2
          go_wp2
          go_region
          have hg3 := (hW.out.wb.own g (List.mem_of_getElem? hgs1)).1
          have hWb := (hW.out.wb.put (x := (x, y)) hgs1 hrs hkr).drew
          obtain ⟨W9, hW9⟩ : ∃ W9, ((wr.setCell ⟨g, k * 2, none⟩ (.int .i64 x)).setCell ⟨g, k * 2 + 1, none⟩ (.int .i64 y)).drew = W9 := ⟨_, rfl⟩
          have hM9 : BxM W9 w.heap.size i o A rs.length c := by rw [← hW9]; exact (hW.out.bm.farS (by omega) _).farS (by omega) _
          have hR9 : BxM W9 (w.heap.size + 1 + 1) 0 0 none 0 0 := by rw [← hW9]; exact (hW.out.br.farS (by omega) _).farS (by omega) _
          have hB9 : Below w.heap.size w W9 := by rw [← hW9]; exact below_drewN' ((hW.out.bel.setCell (p := ⟨g, k * 2, none⟩) (by show w.heap.size ≤ g; omega) _).setCell (p := ⟨g, k * 2 + 1, none⟩) (by show w.heap.size ≤ g; omega) _) 1
          rw [hW9] at hWb
          rw [hW9]
          have hl2 : rs.length = (rs.set s (row.set k (x, y))).length := by simp
          have hrl2 : ∀ r' ∈ rs.set s (row.set k (x, y)), r'.length ≤ maxLen := fun r' h => by
            rcases List.mem_or_eq_of_mem_set h with h | rfl
            · have := RL.out r' h; unfold maxLen; omega
            · rw [List.length_set]; have := RL.out row (List.mem_of_getElem? hrs); unfold maxLen; omega
          have hBld := Lib.hid (((hWb.bld hgl hl2 (by unfold maxLen; omega) hrl2).set3 (g := w.heap.size + 1 + 1) (by omega) (.int .i64 i) (.int .i64 o) (.slice (some ⟨p, 0, none⟩) rs.length rs.length)).base (B' := w.heap.size) (by omega))
          obtain ⟨q0, q1, q2⟩ := hM9.cells
          obtain ⟨z0, z1, z2⟩ := hR9.cells
          obtain ⟨f0, f1, f2⟩ := hR9.frozen
          obtain ⟨r0, r1, r2⟩ := set3_reads hR9 (.int .i64 i) (.int .i64 o) (.slice (some ⟨p, 0, none⟩) rs.length rs.length)
          have HL2 := Lib.hid hl2
          clear hW9 hW hWb hM9 hR9 hl2 hrl2 hg3 e0 e1 c1 t0 t1
          go_wp2
          refine bodyPost_ret (v := .tuple #[.agg #[.int .i64 i, .int .i64 o, .slice (some ⟨p, 0, none⟩) rs.length rs.length], .int .i64 0]) (by simp [results, Try.f19, go_sem, r0, r1, r2]) rfl ?_
          exact ⟨some ⟨p, 0, none⟩, rs.length, _, by rw [hwV.out, hwE.out], by rw [hwV.out]; exact HL2.out.symm, by rw [hwV.out]; exact hBld, below_set3 hB9 (by omega) _ _ _⟩
  · have hzb : (Mc.stE ⟨i, o, rs⟩ s k == 0) = false := by rw [beq_eq_false_iff_ne]; exact hz
    have hwE : Hid (Mc.wiE ⟨i, o, rs⟩ s k (x, y) = Mc.stE ⟨i, o, rs⟩ s k) := by show _ = _; unfold Mc.wiE; rw [if_pos hz]
    have hwV : Hid (Mc.wiV ⟨i, o, rs⟩ s k (x, y) = ⟨0, 0, []⟩) := by show _ = _; unfold Mc.wiV; rw [hwE.out, if_neg hz]
    obtain ⟨z, hzz⟩ : ∃ z, Mc.stE ⟨i, o, rs⟩ s k = z := ⟨_, rfl⟩
    rw [hzz] at hz hzb ⊢
    have HZ := Lib.hid hzz
    clear hzz
    obtain ⟨r0, r1, r2⟩ := set3_reads hR1 (.int .i64 0) (.int .i64 0) (.slice none 0 0)
    go_wp2
    refine bodyPost_ret (v := .tuple #[.agg #[.int .i64 0, .int .i64 0, .slice none 0 0], .int .i64 z]) (by simp [results, Try.f19, go_sem, r0, r1, r2]) rfl ?_
    exact ⟨none, 0, [], by rw [hwV.out, hwE.out, HZ.out], by rw [hwV.out]; rfl, by rw [hwV.out]; exact Bld.nil_ _ _, below_set3 hB1 (by omega) _ _ _⟩
end Go.Proofs.Ytiohfflkolopeaa
