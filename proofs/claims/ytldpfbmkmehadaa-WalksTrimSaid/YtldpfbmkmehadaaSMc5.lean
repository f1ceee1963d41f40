/-
  Contracts: the reference's Reached and Connected of machines.
-/
import Derived.Test.YtldpfbmkmehadaaSMc4
import Derived.Test.YtldpfbmkmehadaaSMcS
import Derived.Deep.OwnRows
namespace Go.Proofs.Ytldpfbmkmehadaa
open Go.RowKit
open Mc (Ed Ma)

theorem bool_info : (Try.prog.info? 4).map (fun i => (i.zero, i.size, i.bytes)) = some (some (.bool false), 1, 1) := by kernel_rfl
/-- Block g is known whole: the bools cs. -/
def BlkB (w : World) (g : Nat) (cs : List Bool) : Prop := w.heap[g]? = some (.cells (cs.map Value.bool).toArray 4 (0, 0))
section
variable {w w' : World} {g : Nat} {cs : List Bool}
theorem BlkB.lt (h : BlkB w g cs) : g < w.heap.size := by
  rcases Nat.lt_or_ge g w.heap.size with hlt | hge
  · exact hlt
  · unfold BlkB at h; rw [Array.getElem?_eq_none hge] at h; cases h
theorem BlkB.at_ (h : BlkB w g cs) {k : Nat} (hk : k < cs.length) : ∃ z, w.cell? ⟨g, k, none⟩ = some (.bool z) ∧ w.frozen? ⟨g, k, none⟩ = false ∧ Hid (cs[k]? = some z) := by
  have e := List.getElem?_eq_getElem hk
  refine ⟨cs[k], ?_, ?_, e⟩
  · rw [cell_of_row w g k _ 4 (0, 0) h]
    simp [e]
  · unfold BlkB at h
    simp [World.frozen?, h]
theorem BlkB.set_ (h : BlkB w g cs) (k : Nat) (v : Bool) : BlkB (w.setCell ⟨g, k, none⟩ (.bool v)) g (cs.set k v) := by
  unfold BlkB at h ⊢
  simp [World.setCell, Array.getElem?_modify, h, List.map_set]
theorem BlkB.below {B : Nat} (h : BlkB w g cs) (hb : Below B w w') (hg : g < B) : BlkB w' g cs := (hb.block g hg).trans h
theorem BlkB.drewN (h : BlkB w g cs) (n : Nat) : BlkB (w.drewN n) g cs := h
end
/-- make([]bool, n): a block of falses. -/
theorem wpList_make_bools (w : World) {ops : Array Oper} {rest : List Oper} {o : Oper} {a : Act} {Q : Exit → Act → World → Prop}
    (hg : o.guard = none) (l c : Operand) (hop : o.op = Op.makeSlice 30 l c) (L : Int) (n : Nat) (hl : a.eval l = .int .i64 L) (hc : a.eval c = .int .i64 L) (hL : L = (n : Int)) (hn : n ≤ 65537)
    (hK : ∀ w', Hid (BlkB w' w.heap.size (List.replicate n false)) → Below w.heap.size w w' → wpList Try.prog ops Q rest (a.put o.dst (.slice (some ⟨w.heap.size, 0, none⟩) n n)) w') :
    wpList Try.prog ops Q (o :: rest) a w := by
  subst hL
  refine wpList_plain hg fun K hK' => ?_
  have hrun := run_make_row' (P := Try.prog) 30 4 (.bool false) 1 Try.underlying30 bool_info rfl .i64 .i64 n (by omega) (by omega) w
  unfold Oper.wp
  simp [execOp, hop, hl, hc, hrun, Result.andThen]
  refine hK' _ _ (hK _ ?_ ((Below.refl _ _).alloc (Nat.le_refl _) _))
  show _ = _
  rw [heap_alloc_new]
  have e := toList_madeCells_one (.bool false) n
  have e2 : madeCells #[.bool false] n = ((List.replicate n false).map Value.bool).toArray := by
    rw [← Array.toList_inj, e]
    simp
  rw [e2]

set_option maxRecDepth 100000 in
set_option maxHeartbeats 4000000 in
theorem reached_any (m : Ma) (a : Nat) (A : Option Addr) (c : Nat) (w : World) (v : Mc.Val m) (hr : RdR w A m.r) (ha : a < m.r.length) :
    Calls Try.prog 45 #[.agg #[.int .i64 m.i, .int .i64 m.o, .slice A m.r.length c], .int .i64 a] w fun e w' => ∃ g B n, e = .returned (.slice (some ⟨g, 0, none⟩) n n) ∧ Hid (n = m.r.length) ∧ Hid (BlkB w' g B) ∧ Hid (B.length = m.r.length) ∧ Hid (∀ s, Mc.T B s ↔ Mc.Rch m a s) ∧ Below w.heap.size w w' := by
  have h1 := v.i1
  have h2 := v.r1
  have h3 := v.i0
  have hR0 := Lib.hid (Mc.RS.start ha)
  obtain ⟨i, o, rs⟩ := m
  simp only at hr h1 h2 h3 ha hR0 ⊢
  have hlen := Lib.hid v.len
  have hok := Lib.hid v.ok
  simp only at hlen hok
  have V := Lib.hid v
  clear v
  go_enter Try.func45, Try.ntmps45
  go_wp2_with (refine wpList_make_bools _ rfl _ _ rfl _ rs.length rfl rfl rfl (by omega) ?_)
  intro w1 hB1 hb1
  have hb2 : Below (w.heap.size + 1) (boxM w i o A rs.length c) w1 := hb1.mono (by simp)
  have esz : (w.alloc (.cells #[.int .i64 i, .int .i64 o, .slice A rs.length c] 27)).heap.size = w.heap.size + 1 := by simp
  try rw [esz] at hB1
  obtain ⟨g, hg⟩ : ∃ g, w.heap.size + 1 = g := ⟨_, rfl⟩
  rw [hg] at hB1
  have hgl : w.heap.size + 1 ≤ g := by omega
  obtain ⟨z0, hz0, hf0, _⟩ := hB1.out.at_ (k := a) (by simpa using ha)
  obtain ⟨b0, b1, b2⟩ := box_cells hb2
  have hb3 : Below (w.heap.size + 1) (boxM w i o A rs.length c) (w1.setCell ⟨g, a, none⟩ (.bool true)) := hb2.setCell hgl _
  have hS0 := Lib.hid (hB1.out.set_ a true)
  clear hB1 hb1 hb2
  try rw [esz]
  try rw [hg]
  go_wp2
  go_loopw [6] (fun v wr => ∃ (k : Nat) (B : List Bool), k ≤ rs.length ∧ v = .int .i64 k ∧ Hid (BlkB wr g B) ∧ Hid (Mc.RS ⟨i, o, rs⟩ a k B) ∧ Below (w.heap.size + 1) (boxM w i o A rs.length c) wr) (fun v _ => rs.length - (intOf v).toNat)
  case atStart => exact ⟨0, _, Nat.zero_le _, rfl, hS0, hR0, hb3⟩
  case round =>
    clear b0 b1 b2 hb3 hS0 hR0 hz0 hf0
    obtain ⟨k, B0, hk, rfl, hB0, hR, hbr⟩ := hrel
    obtain ⟨b0, b1, b2⟩ := box_cells hbr
    by_cases hlt : k < rs.length
    · go_wp2
      obtain ⟨wo, rfl⟩ : ∃ wo : World, wo = wr := ⟨_, rfl⟩
      have hM0 := Lib.hid (Mc.Mid.start hR.out)
      have hBl := Lib.hid hR.out.len
      go_loopw [7] (fun v wr => ∃ (s : Nat) (B : List Bool), s ≤ rs.length ∧ v = .int .i64 s ∧ Hid (BlkB wr g B) ∧ Hid (Mc.Mid ⟨i, o, rs⟩ a B0 B s 0) ∧ Below (w.heap.size + 1) (boxM w i o A rs.length c) wr) (fun v _ => rs.length - (intOf v).toNat)
      case atStart => exact ⟨0, B0, Nat.zero_le _, rfl, hB0, hM0, hbr⟩
      case round =>
        clear b0 b1 b2 hbr hM0 hB0
        obtain ⟨s, B, hs, rfl, hB, hM, hbr⟩ := hrel
        obtain ⟨b0, b1, b2⟩ := box_cells hbr
        by_cases hsl : s < rs.length
        · obtain ⟨b, off, B', d, n, row, rfl, hb, hcw, _, _, _, hpw, hln, hq⟩ := hr.at_ hsl
          have hni : (n : Int) = i := by rw [← hln.out]; exact hlen.out row (List.mem_of_getElem? hq.out)
          go_wp2
          obtain ⟨wo, rfl⟩ : ∃ wo : World, wo = wr := ⟨_, rfl⟩
          go_loopw [8] (fun v wr => ∃ (j : Nat) (B : List Bool), j ≤ n ∧ v = .int .i64 j ∧ Hid (BlkB wr g B) ∧ Hid (Mc.Mid ⟨i, o, rs⟩ a B0 B s j) ∧ Below (w.heap.size + 1) (boxM w i o (some ⟨b, off, none⟩) rs.length c) wr) (fun v _ => n - (intOf v).toNat)
          case atStart => exact ⟨0, B, Nat.zero_le _, rfl, hB, hM, hbr⟩
          case round =>
            clear b0 b1 b2 hbr hB hM
            obtain ⟨j, B, hj, rfl, hB, hM, hbr⟩ := hrel
            obtain ⟨b0, b1, b2⟩ := box_cells hbr
            have hc2 := ((bcell (box_below hbr)).1 b (off + s) hb).trans hcw
            by_cases hjl : j < n
            · obtain ⟨b3, off3, x, y, rfl, hb3, hx0, _, hqe⟩ := hpw.at_ (k := j) (by rw [hln.out]; exact hjl)
              have hx := ((bcell (box_below hbr)).1 b3 (off3 + j * 2) hb3).trans hx0
              have hji : (j : Int) < i := by omega
              have hxr : 0 ≤ x → x < rs.length := fun h => by
                rcases hok.out row (List.mem_of_getElem? hq.out) (x, y) (List.mem_of_getElem? hqe.out) with ⟨h1, _⟩ | ⟨_, h1, _⟩
                · simp only at h1; omega
                · exact h1
              have HX := Lib.hid hxr
              clear hxr
              obtain ⟨z, hz, _, hzB⟩ := hB.out.at_ (k := s) (by have := hM.out.len; have := hBl.out; omega)
              cases z with
              | false =>
                have hgo := Lib.hid (hM.out.skip hq.out hqe.out (fun h => by have h1 := h.1; unfold Mc.T at h1; rw [hzB.out] at h1; cases h1))
                go_wp2
                go_roundw
                case rel => exact ⟨j + 1, B, by omega, by go_num, hB, hgo, hbr⟩
                case measure => simp [intOf]; omega
              | true =>
                by_cases g0 : 0 ≤ x
                · obtain ⟨t, rfl⟩ := Int.eq_ofNat_of_zero_le g0
                  have htl : t < rs.length := by have := HX.out g0; omega
                  obtain ⟨z2, hz2, hf2, _⟩ := hB.out.at_ (k := t) (by have := hM.out.len; have := hBl.out; omega)
                  have hgo := Lib.hid (hM.out.put hzB.out hq.out hqe.out g0 (by have := hM.out.len; have := hBl.out; simp only at this ⊢; omega))
                  have hB2 := Lib.hid (hB.out.set_ t true)
                  have hbr2 : Below (w.heap.size + 1) (boxM w i o (some ⟨b, off, none⟩) rs.length c) (wr.setCell ⟨g, t, none⟩ (.bool true)) := hbr.setCell hgl _
                  go_wp2
                  go_roundw
                  case rel => exact ⟨j + 1, _, by omega, by go_num, hB2, hgo, hbr2⟩
                  case measure => simp [intOf]; omega
                · have hgo := Lib.hid (hM.out.skip hq.out hqe.out (fun h => g0 h.2))
                  go_wp2
                  go_roundw
                  case rel => exact ⟨j + 1, B, by omega, by go_num, hB, hgo, hbr⟩
                  case measure => simp [intOf]; omega
            · have hji : ¬ (j : Int) < i := by omega
              have hgo := Lib.hid (hM.out.line hq.out (by rw [hln.out]; omega))
              go_wp2
              go_roundw
              case rel => exact ⟨s + 1, B, by omega, by go_num, hB, hgo, hbr⟩
              case measure => simp [intOf]; omega
        · have hgo := Lib.hid (Mc.Mid.done (s := s) hM.out V.out hR.out (by show rs.length ≤ s; omega))
          go_wp2
          go_roundw
          case rel => exact ⟨k + 1, B, by omega, by go_num, hB, hgo, hbr⟩
          case measure => simp [intOf]; omega
    · have hfin : Hid (∀ s, Mc.T B0 s ↔ Mc.Rch ⟨i, o, rs⟩ a s) := fun s => by
        have hR := hR.out
        rw [show k = rs.length by omega] at hR
        exact hR.done s
      have hl := Lib.hid hR.out.len
      go_wp2
      go_ret
      exact ⟨g, B0, rs.length, rfl, rfl, hB0, hl, hfin, box_below hbr⟩

set_option maxRecDepth 100000 in
theorem connected_any (m : Ma) (A : Option Addr) (c : Nat) (w : World) (v : Mc.Val m) (hr : RdR w A m.r) :
    Calls Try.prog 26 #[.agg #[.int .i64 m.i, .int .i64 m.o, .slice A m.r.length c]] w fun e w' => e = .returned (.bool (Mc.conn m)) ∧ Below w.heap.size w w' := by
  have h2 := v.r1
  have h0 := v.r0
  have C := fun w hr => reached_any m 0 A c w v hr (by omega)
  have hcn := Lib.hid (fun (B : List Bool) => Mc.conn_all (m := m) (B := B))
  obtain ⟨i, o, rs⟩ := m
  simp only at hr C h2 h0 hcn ⊢
  clear v
  have hb0 : Below (w.heap.size + 1) (boxM w i o A rs.length c) (boxM w i o A rs.length c) := Below.refl _ _
  have hrb := Lib.hid (hr.below (box_below hb0))
  clear hr
  go_enter Try.func26, Try.ntmps26
  go_wp2_with fail
  refine (C _ hrb.out).mono ?_
  rintro e w1 ⟨g, B, n, rfl, hn, hB, hl, hT, hb1⟩
  have hbw : Below w.heap.size w w1 := below_next (box_below hb0) hb1
  have hconn := Lib.hid (hcn.out B hl.out hT.out)
  have hnB : Hid (B.length = n) := by have := hl.out; have := hn.out; show _ = _; omega
  have hnl : n ≤ 64 := by have := hn.out; omega
  clear hcn C hrb hb0 hl hT hn
  go_wp2
  go_loopw [4] (fun v wr => ∃ k : Nat, k ≤ n ∧ v = .int .i64 k ∧ Hid ((B.take k).all id = true) ∧ Hid (BlkB wr g B) ∧ Below w.heap.size w wr) (fun v _ => n - (intOf v).toNat)
  case atStart => exact ⟨0, Nat.zero_le _, rfl, by simp [Hid], hB, hbw⟩
  case round =>
    clear hB hbw
    obtain ⟨k, hk, rfl, ha, hB, hbr⟩ := hrel
    by_cases hlt : k < n
    · obtain ⟨z, hz, _, hzB⟩ := hB.out.at_ (k := k) (by have := hnB.out; omega)
      cases z with
      | true =>
        have hgo := Lib.hid (Mc.all_snoc (p := id) hzB.out ha.out rfl)
        go_wp2
        go_roundw
        case rel => exact ⟨k + 1, by omega, by go_num, hgo, hB, hbr⟩
        case measure => simp [intOf]; omega
      | false =>
        have hgo : Hid (Mc.conn ⟨i, o, rs⟩ = false) := by
          show _ = _
          rw [hconn.out]
          exact Mc.all_hit hzB.out rfl
        go_wp2
        go_ret
        exact ⟨ret_bool hgo.out.symm, hbr⟩
    · have hgo : Hid (Mc.conn ⟨i, o, rs⟩ = true) := by
        show _ = _
        have h := ha.out
        rw [List.take_of_length_le (by have := hnB.out; omega)] at h
        rw [hconn.out, h]
      go_wp2
      go_ret
      exact ⟨ret_bool hgo.out.symm, hbr⟩
end Go.Proofs.Ytldpfbmkmehadaa
