/-
  Several texts in one: SMc4, SMc5, SMc7, SMc6, SMc8. No statement is proved here.
-/
import Derived.Test.YtgafpmgdpigliaaScA
import Derived.Deep.RegionHeld3
import Derived.Deep.OwnRows
import Derived.Laws.StructEq
import Derived.Deep.AppendLies
import Derived.Deep.CutRange
namespace Go.Proofs.Ytgafpmgdpigliaa
open Go.RowKit
open Mc (Ed Ma)

set_option maxRecDepth 100000 in
set_option maxHeartbeats 2000000 in
theorem defined_in (i o : Int) (rs : List (List Ed)) (A : Option Addr) (c : Nat) (w : World) (hr : RdR w A rs) (hlen : ∀ row ∈ rs, (row.length : Int) = i) (hi : i ≤ 1000) (hl : rs.length ≤ 1000) :
    Calls Try.prog 89 #[.agg #[.int .i64 i, .int .i64 o, .slice A rs.length c]] w fun e w' => e = .returned (.int .i64 (Mc.dfd rs)) ∧ Below w.heap.size w w' := by
  go_enter Try.func89, Try.ntmps89
  go_wp2
  go_loopw [3, 4] (fun u v wr => ∃ n k : Nat, k ≤ rs.length ∧ u = .int .i64 n ∧ v = .int .i64 k ∧ n ≤ k * 1000 ∧ Hid (n = Mc.dfd (rs.take k)) ∧ Below (w.heap.size + 1) (boxM w i o A rs.length c) wr) (fun _ v _ => rs.length - (intOf v).toNat)
  case atStart => exact ⟨0, 0, Nat.zero_le _, rfl, rfl, Nat.zero_le _, by simp [Hid, Mc.dfd], Below.refl _ _⟩
  case round =>
    obtain ⟨n, k, hk, rfl, rfl, hnk, hn, hbr⟩ := hrel
    obtain ⟨q0, q1, q2⟩ := box_cells hbr
    by_cases hlt : k < rs.length
    · obtain ⟨b, off, B, d, m, row, rfl, hb, hcw, _, _, _, hpw, hln, hq⟩ := hr.at_ hlt
      have hmi : (m : Int) = i := by rw [← hln.out]; exact hlen row (List.mem_of_getElem? hq.out)
      go_wp2
      obtain ⟨wo, rfl⟩ : ∃ wo : World, wo = wr := ⟨_, rfl⟩
      go_loopw [3, 5] (fun u v wr => ∃ n2 j : Nat, j ≤ m ∧ u = .int .i64 n2 ∧ v = .int .i64 j ∧ n2 ≤ k * 1000 + j ∧ Hid (n2 = n + Mc.cntE (row.take j)) ∧ Below (w.heap.size + 1) (boxM w i o (some ⟨b, off, none⟩) rs.length c) wr) (fun _ v _ => m - (intOf v).toNat)
      case atStart => exact ⟨n, 0, Nat.zero_le _, rfl, rfl, hnk, by simp [Hid, Mc.cntE], hbr⟩
      case round =>
        obtain ⟨n2, j, hj, rfl, rfl, hnj, hn2, hbr2⟩ := hrel
        clear q0 q1 q2 hbr
        obtain ⟨q0, q1, q2⟩ := box_cells hbr2
        have hc2 := ((bcell (box_below hbr2)).1 b (off + k) hb).trans hcw
        by_cases hjl : j < m
        · obtain ⟨b2, off2, x, y, rfl, hb2, hx0, _, hqe⟩ := hpw.at_ (k := j) (by rw [hln.out]; exact hjl)
          have hx := ((bcell (box_below hbr2)).1 b2 (off2 + j * 2) hb2).trans hx0
          have hji : (j : Int) < i := by omega
          by_cases g : 0 ≤ x
          · have hs : Hid (n2 + 1 = n + Mc.cntE (row.take (j + 1))) := by
              show _ = _
              rw [Mc.cntE_snoc hqe.out, if_pos g, hn2.out]; omega
            go_wp2
            go_roundw
            case rel => exact ⟨n2 + 1, j + 1, by omega, by go_num, by go_num, by omega, hs, hbr2⟩
            case measure => simp [intOf]; omega
          · have hs : Hid (n2 = n + Mc.cntE (row.take (j + 1))) := by
              show _ = _
              rw [Mc.cntE_snoc hqe.out, if_neg g, hn2.out]; omega
            go_wp2
            go_roundw
            case rel => exact ⟨n2, j + 1, by omega, by go_num, by go_num, by omega, hs, hbr2⟩
            case measure => simp [intOf]; omega
        · have hji : ¬ (j : Int) < i := by omega
          have hs : Hid (n2 = Mc.dfd (rs.take (k + 1))) := by
            show _ = _
            have h := hn2.out
            rw [List.take_of_length_le (by rw [hln.out]; omega)] at h
            rw [Mc.dfd_snoc hq.out, h, hn.out]
          go_wp2
          go_roundw
          case rel => exact ⟨n2, k + 1, by omega, by go_num, by go_num, by omega, hs, hbr2⟩
          case measure => simp [intOf]; omega
    · have hs : Hid (n = Mc.dfd rs) := by
        have h := hn.out
        rw [List.take_of_length_le (by omega)] at h
        exact h
      go_wp2
      go_ret
      exact ⟨ret_int (by rw [← hs.out]), box_below hbr⟩
theorem complete_any (m : Ma) (A : Option Addr) (c : Nat) (w : World) (v : Mc.Val m) (hr : RdR w A m.r) :
    Calls Try.prog 70 #[.agg #[.int .i64 m.i, .int .i64 m.o, .slice A m.r.length c]] w fun e w' => e = .returned (.bool ((Mc.dfd m.r : Int) == m.r.length * m.i)) ∧ Below w.heap.size w w' := by
  have h1 := v.i1
  have h2 := v.r1
  have h3 := v.i0
  have C := fun w hr => defined_in m.i m.o m.r A c w hr v.len (by omega) (by omega)
  obtain ⟨i, o, rs⟩ := m
  simp only at hr C h1 h2 h3 ⊢
  have hmul : (rs.length : Int) * i = rs.length * i := rfl
  have hbd : -9223372036854775808 ≤ (rs.length : Int) * i ∧ (rs.length : Int) * i ≤ 9223372036854775807 := by
    obtain ⟨i, rfl⟩ := Int.eq_ofNat_of_zero_le (show 0 ≤ i by omega)
    have : rs.length * i ≤ 64 * 16 := Nat.mul_le_mul h2 (by omega)
    omega
  have hwr : IntKind.i64.wrap ((rs.length : Int) * i) = (rs.length : Int) * i := IntWalk.i64_in _ hbd
  clear v hmul hbd
  go_enter Try.func70, Try.ntmps70
  have hb0 : Below (w.heap.size + 1) (boxM w i o A rs.length c) (boxM w i o A rs.length c) := Below.refl _ _
  obtain ⟨q0, q1, q2⟩ := box_cells hb0
  have q3 := (box_below hb0).drew
  have hz : w.heap.size < (boxM w i o A rs.length c).heap.size := by simp
  go_wp2_with fail
  obtain ⟨w0, hw0⟩ : ∃ w0, boxM w i o A rs.length c = w0 := ⟨_, rfl⟩
  have hw1 : w.alloc (.cells #[.int .i64 i, .int .i64 o, .slice A rs.length c] 24) = w0 := hw0
  rw [hw0] at q0 q1 q2 q3 hz
  rw [hw1]
  clear hw0 hw1 hb0
  have X := Lib.hid (hr.below q3)
  clear hr
  go_region_held3 (fun w' => w'.cell? ⟨w.heap.size, 0, none⟩ = some (.int .i64 i) ∧ w'.cell? ⟨w.heap.size, 1, none⟩ = some (.int .i64 o) ∧ w'.cell? ⟨w.heap.size, 2, none⟩ = some (.slice A rs.length c)) (first | exact ⟨g0, g1, g2⟩ | exact ⟨q0, q1, q2⟩ | go_keep)
    (first
      | (go_at_call 89
         (with_reducible refine (C _ X.out).mono ?_)
         rintro e w1 ⟨rfl, hb1⟩
         have g0 := (hb1.cell (p := ⟨w.heap.size, 0, none⟩) hz).trans q0
         have g1 := (hb1.cell (p := ⟨w.heap.size, 1, none⟩) hz).trans q1
         have g2 := (hb1.cell (p := ⟨w.heap.size, 2, none⟩) hz).trans q2))
  go_wp2
  go_ret
  exact ⟨rfl, below_next q3 hb1⟩
end Go.Proofs.Ytgafpmgdpigliaa

namespace Go.Proofs.Ytgafpmgdpigliaa
open Go.RowKit
open Mc (Ed Ma)

theorem bool_info : (Try.prog.info? 4).map (fun i => (i.zero, i.size, i.bytes)) = some (some (.bool false), 1, 1) := by kernel_rfl
/-- Block g is known whole: the bools cs. -/
def BlkB (w : World) (g : Nat) (cs : List Bool) : Prop := w.heap[g]? = some (.cells (cs.map Value.bool).toArray 4 (0, 0))
section
variable {w w' : World} {g : Nat} {cs : List Bool}
theorem BlkB.lt (h : BlkB w g cs) : g < w.heap.size := by
  rcases Nat.lt_or_ge g w.heap.size with hlt | hge
  · exact hlt
  · unfold BlkB at h; rw [Array.getElem?_eq_none hge] at h; cases h
theorem BlkB.at_ (h : BlkB w g cs) {k : Nat} (hk : k < cs.length) : ∃ z, w.cell? ⟨g, k, none⟩ = some (.bool z) ∧ w.frozen? ⟨g, k, none⟩ = false ∧ Hid (cs[k]? = some z) := by
  have e := List.getElem?_eq_getElem hk
  refine ⟨cs[k], ?_, ?_, e⟩
  · rw [cell_of_row w g k _ 4 (0, 0) h]
    simp [e]
  · unfold BlkB at h
    simp [World.frozen?, h]
theorem BlkB.set_ (h : BlkB w g cs) (k : Nat) (v : Bool) : BlkB (w.setCell ⟨g, k, none⟩ (.bool v)) g (cs.set k v) := by
  unfold BlkB at h ⊢
  simp [World.setCell, Array.getElem?_modify, h, List.map_set]
theorem BlkB.below {B : Nat} (h : BlkB w g cs) (hb : Below B w w') (hg : g < B) : BlkB w' g cs := (hb.block g hg).trans h
theorem BlkB.drewN (h : BlkB w g cs) (n : Nat) : BlkB (w.drewN n) g cs := h
end
/-- make([]bool, n): a block of falses. -/
theorem wpList_make_bools (w : World) {ops : Array Oper} {rest : List Oper} {o : Oper} {a : Act} {Q : Exit → Act → World → Prop}
    (hg : o.guard = none) (l c : Operand) (hop : o.op = Op.makeSlice 114 l c) (L : Int) (n : Nat) (hl : a.eval l = .int .i64 L) (hc : a.eval c = .int .i64 L) (hL : L = (n : Int)) (hn : n ≤ 65537)
    (hK : ∀ w', Hid (BlkB w' w.heap.size (List.replicate n false)) → Below w.heap.size w w' → wpList Try.prog ops Q rest (a.put o.dst (.slice (some ⟨w.heap.size, 0, none⟩) n n)) w') :
    wpList Try.prog ops Q (o :: rest) a w := by
  subst hL
  refine wpList_plain hg fun K hK' => ?_
  have hrun := run_make_row' (P := Try.prog) 114 4 (.bool false) 1 Try.underlying114 bool_info rfl .i64 .i64 n (by omega) (by omega) w
  unfold Oper.wp
  simp [execOp, hop, hl, hc, hrun, Result.andThen]
  refine hK' _ _ (hK _ ?_ ((Below.refl _ _).alloc (Nat.le_refl _) _))
  show _ = _
  rw [heap_alloc_new]
  have e := toList_madeCells_one (.bool false) n
  have e2 : madeCells #[.bool false] n = ((List.replicate n false).map Value.bool).toArray := by
    rw [← Array.toList_inj, e]
    simp
  rw [e2]

set_option maxRecDepth 100000 in
set_option maxHeartbeats 4000000 in
theorem reached_any (m : Ma) (a : Nat) (A : Option Addr) (c : Nat) (w : World) (v : Mc.Val m) (hr : RdR w A m.r) (ha : a < m.r.length) :
    Calls Try.prog 94 #[.agg #[.int .i64 m.i, .int .i64 m.o, .slice A m.r.length c], .int .i64 a] w fun e w' => ∃ g B n, e = .returned (.slice (some ⟨g, 0, none⟩) n n) ∧ Hid (n = m.r.length) ∧ Hid (BlkB w' g B) ∧ Hid (B.length = m.r.length) ∧ Hid (∀ s, Mc.T B s ↔ Mc.Rch m a s) ∧ Below w.heap.size w w' := by
  have h1 := v.i1
  have h2 := v.r1
  have h3 := v.i0
  have hR0 := Lib.hid (Mc.RS.start ha)
  obtain ⟨i, o, rs⟩ := m
  simp only at hr h1 h2 h3 ha hR0 ⊢
  have hlen := Lib.hid v.len
  have hok := Lib.hid v.ok
  simp only at hlen hok
  have V := Lib.hid v
  clear v
  go_enter Try.func94, Try.ntmps94
  go_wp2_with (refine wpList_make_bools _ rfl _ _ rfl _ rs.length rfl rfl rfl (by omega) ?_)
  intro w1 hB1 hb1
  have hb2 : Below (w.heap.size + 1) (boxM w i o A rs.length c) w1 := hb1.mono (by simp)
  have esz : (w.alloc (.cells #[.int .i64 i, .int .i64 o, .slice A rs.length c] 24)).heap.size = w.heap.size + 1 := by simp
  try rw [esz] at hB1
  obtain ⟨g, hg⟩ : ∃ g, w.heap.size + 1 = g := ⟨_, rfl⟩
  rw [hg] at hB1
  have hgl : w.heap.size + 1 ≤ g := by omega
  obtain ⟨z0, hz0, hf0, _⟩ := hB1.out.at_ (k := a) (by simpa using ha)
  obtain ⟨b0, b1, b2⟩ := box_cells hb2
  have hb3 : Below (w.heap.size + 1) (boxM w i o A rs.length c) (w1.setCell ⟨g, a, none⟩ (.bool true)) := hb2.setCell hgl _
  have hS0 := Lib.hid (hB1.out.set_ a true)
  clear hB1 hb1 hb2
  try rw [esz]
  try rw [hg]
  go_wp2
  go_loopw [6] (fun v wr => ∃ (k : Nat) (B : List Bool), k ≤ rs.length ∧ v = .int .i64 k ∧ Hid (BlkB wr g B) ∧ Hid (Mc.RS ⟨i, o, rs⟩ a k B) ∧ Below (w.heap.size + 1) (boxM w i o A rs.length c) wr) (fun v _ => rs.length - (intOf v).toNat)
  case atStart => exact ⟨0, _, Nat.zero_le _, rfl, hS0, hR0, hb3⟩
  case round =>
    clear b0 b1 b2 hb3 hS0 hR0 hz0 hf0
    obtain ⟨k, B0, hk, rfl, hB0, hR, hbr⟩ := hrel
    obtain ⟨b0, b1, b2⟩ := box_cells hbr
    by_cases hlt : k < rs.length
    · go_wp2
      obtain ⟨wo, rfl⟩ : ∃ wo : World, wo = wr := ⟨_, rfl⟩
      have hM0 := Lib.hid (Mc.Mid.start hR.out)
      have hBl := Lib.hid hR.out.len
      go_loopw [7] (fun v wr => ∃ (s : Nat) (B : List Bool), s ≤ rs.length ∧ v = .int .i64 s ∧ Hid (BlkB wr g B) ∧ Hid (Mc.Mid ⟨i, o, rs⟩ a B0 B s 0) ∧ Below (w.heap.size + 1) (boxM w i o A rs.length c) wr) (fun v _ => rs.length - (intOf v).toNat)
      case atStart => exact ⟨0, B0, Nat.zero_le _, rfl, hB0, hM0, hbr⟩
      case round =>
        clear b0 b1 b2 hbr hM0 hB0
        obtain ⟨s, B, hs, rfl, hB, hM, hbr⟩ := hrel
        obtain ⟨b0, b1, b2⟩ := box_cells hbr
        by_cases hsl : s < rs.length
        · obtain ⟨b, off, B', d, n, row, rfl, hb, hcw, _, _, _, hpw, hln, hq⟩ := hr.at_ hsl
          have hni : (n : Int) = i := by rw [← hln.out]; exact hlen.out row (List.mem_of_getElem? hq.out)
          go_wp2
          obtain ⟨wo, rfl⟩ : ∃ wo : World, wo = wr := ⟨_, rfl⟩
          go_loopw [8] (fun v wr => ∃ (j : Nat) (B : List Bool), j ≤ n ∧ v = .int .i64 j ∧ Hid (BlkB wr g B) ∧ Hid (Mc.Mid ⟨i, o, rs⟩ a B0 B s j) ∧ Below (w.heap.size + 1) (boxM w i o (some ⟨b, off, none⟩) rs.length c) wr) (fun v _ => n - (intOf v).toNat)
          case atStart => exact ⟨0, B, Nat.zero_le _, rfl, hB, hM, hbr⟩
          case round =>
            clear b0 b1 b2 hbr hB hM
            obtain ⟨j, B, hj, rfl, hB, hM, hbr⟩ := hrel
            obtain ⟨b0, b1, b2⟩ := box_cells hbr
            have hc2 := ((bcell (box_below hbr)).1 b (off + s) hb).trans hcw
            by_cases hjl : j < n
            · obtain ⟨b3, off3, x, y, rfl, hb3, hx0, _, hqe⟩ := hpw.at_ (k := j) (by rw [hln.out]; exact hjl)
              have hx := ((bcell (box_below hbr)).1 b3 (off3 + j * 2) hb3).trans hx0
              have hji : (j : Int) < i := by omega
              have hxr : 0 ≤ x → x < rs.length := fun h => by
                rcases hok.out row (List.mem_of_getElem? hq.out) (x, y) (List.mem_of_getElem? hqe.out) with ⟨h1, _⟩ | ⟨_, h1, _⟩
                · simp only at h1; omega
                · exact h1
              have HX := Lib.hid hxr
              clear hxr
              obtain ⟨z, hz, _, hzB⟩ := hB.out.at_ (k := s) (by have := hM.out.len; have := hBl.out; omega)
              cases z with
              | false =>
                have hgo := Lib.hid (hM.out.skip hq.out hqe.out (fun h => by have h1 := h.1; unfold Mc.T at h1; rw [hzB.out] at h1; cases h1))
                go_wp2
                go_roundw
                case rel => exact ⟨j + 1, B, by omega, by go_num, hB, hgo, hbr⟩
                case measure => simp [intOf]; omega
              | true =>
                by_cases g0 : 0 ≤ x
                · obtain ⟨t, rfl⟩ := Int.eq_ofNat_of_zero_le g0
                  have htl : t < rs.length := by have := HX.out g0; omega
                  obtain ⟨z2, hz2, hf2, _⟩ := hB.out.at_ (k := t) (by have := hM.out.len; have := hBl.out; omega)
                  have hgo := Lib.hid (hM.out.put hzB.out hq.out hqe.out g0 (by have := hM.out.len; have := hBl.out; simp only at this ⊢; omega))
                  have hB2 := Lib.hid (hB.out.set_ t true)
                  have hbr2 : Below (w.heap.size + 1) (boxM w i o (some ⟨b, off, none⟩) rs.length c) (wr.setCell ⟨g, t, none⟩ (.bool true)) := hbr.setCell hgl _
                  go_wp2
                  go_roundw
                  case rel => exact ⟨j + 1, _, by omega, by go_num, hB2, hgo, hbr2⟩
                  case measure => simp [intOf]; omega
                · have hgo := Lib.hid (hM.out.skip hq.out hqe.out (fun h => g0 h.2))
                  go_wp2
                  go_roundw
                  case rel => exact ⟨j + 1, B, by omega, by go_num, hB, hgo, hbr⟩
                  case measure => simp [intOf]; omega
            · have hji : ¬ (j : Int) < i := by omega
              have hgo := Lib.hid (hM.out.line hq.out (by rw [hln.out]; omega))
              go_wp2
              go_roundw
              case rel => exact ⟨s + 1, B, by omega, by go_num, hB, hgo, hbr⟩
              case measure => simp [intOf]; omega
        · have hgo := Lib.hid (Mc.Mid.done (s := s) hM.out V.out hR.out (by show rs.length ≤ s; omega))
          go_wp2
          go_roundw
          case rel => exact ⟨k + 1, B, by omega, by go_num, hB, hgo, hbr⟩
          case measure => simp [intOf]; omega
    · have hfin : Hid (∀ s, Mc.T B0 s ↔ Mc.Rch ⟨i, o, rs⟩ a s) := fun s => by
        have hR := hR.out
        rw [show k = rs.length by omega] at hR
        exact hR.done s
      have hl := Lib.hid hR.out.len
      go_wp2
      go_ret
      exact ⟨g, B0, rs.length, rfl, rfl, hB0, hl, hfin, box_below hbr⟩

end Go.Proofs.Ytgafpmgdpigliaa

namespace Go.Proofs.Ytgafpmgdpigliaa
open Go.RowKit
open Mc (Ed Ma)

theorem edge_under : Try.prog.underlying 27 = some (.struct (Try.prog.fieldsOf 27)) := by kernel_rfl
theorem edge_stood : Try.prog.stoodInHeld 27 = false := by kernel_rfl
theorem edge_guard : Try.prog.eqGuardType Try.prog.depth 27 = false := by kernel_rfl
theorem part_a (a b : Int) (w : World) : (part 3 #[.int .i64 a, .int .i64 b] 0).run Try.prog w = .ok (.int .i64 a) w := by kernel_rfl
theorem part_b (a b : Int) (w : World) : (part 3 #[.int .i64 a, .int .i64 b] 1).run Try.prog w = .ok (.int .i64 b) w := by kernel_rfl
theorem edge_fields : ((Try.prog.fieldsOf 27).toList.map fun f => (f.name != "_", f.type, f.offset)) = [(true, 3, 0), (true, 3, 1)] := by kernel_rfl
theorem two_fields {L : List Field} {a b : TypeId} (h : (L.map fun f => (f.name != "_", f.type, f.offset)) = [(true, a, 0), (true, b, 1)]) : ∃ f g, L = [f, g] ∧ f.name ≠ "_" ∧ f.type = a ∧ f.offset = 0 ∧ g.name ≠ "_" ∧ g.type = b ∧ g.offset = 1 := by
  cases L with
  | nil => cases h
  | cons f L =>
    cases L with
    | nil => simp at h
    | cons g L =>
      cases L with
      | cons x L => simp at h
      | nil =>
        simp only [List.map_cons, List.map_nil, List.cons.injEq, Prod.mk.injEq, and_true] at h
        obtain ⟨⟨h1, h2, h3⟩, h4, h5, h6⟩ := h
        exact ⟨f, g, rfl, by simpa using h1, h2, h3, by simpa using h4, h5, h6⟩
theorem run_equal_edge (a b a' b' : Int) (w : World) : (Op.equalIn 10000 27 (.agg #[.int .i64 a, .int .i64 b]) (.agg #[.int .i64 a', .int .i64 b'])).run Try.prog w = .ok ((a == a') && (b == b')) w := by
  rw [run_equalIn_struct w 9999 _ _ _ edge_under edge_stood]
  obtain ⟨f, g, e, h1, h2, h3, h4, h5, h6⟩ := two_fields edge_fields
  rw [e, Op.eqFields, if_pos h1, h2, h3, Op.eqFields, if_pos h4, h5, h6, Op.eqFields]
  rw [Sem.run_bind, part_a, Result.andThen_ok, Sem.run_bind, part_a, Result.andThen_ok, Sem.run_bind, run_equalIn_int (P := Try.prog) _ 9998 3 .i64 .i64 _ _ Try.underlying3, Result.andThen_ok]
  cases h7 : (a == a')
  · rfl
  · rw [Bool.not_true, if_neg (by decide)]
    rw [Sem.run_bind, part_b, Result.andThen_ok, Sem.run_bind, part_b, Result.andThen_ok, Sem.run_bind, run_equalIn_int (P := Try.prog) _ 9998 3 .i64 .i64 _ _ Try.underlying3, Result.andThen_ok]
    cases h8 : (b == b')
    · rfl
    · rw [Bool.not_true, if_neg (by decide)]; rfl
theorem run_neq_edge (a b a' b' : Int) (w : World) : (binOp .neq 27 (.agg #[.int .i64 a, .int .i64 b]) (.agg #[.int .i64 a', .int .i64 b'])).run Try.prog w = .ok (.bool (!((a == a') && (b == b')))) w := by
  rw [run_neq_struct, run_equal_edge]; rfl
namespace Mc
theorem take_snoc {α : Type} {x y : List α} {k : Nat} {u v : α} (hx : x[k]? = some u) (hy : y[k]? = some v) (h : x.take k = y.take k) (e : u = v) : x.take (k + 1) = y.take (k + 1) := by
  rw [List.take_add_one, List.take_add_one, h, hx, hy, e]
theorem ne_at {α : Type} {x y : List α} {k : Nat} {u v : α} (hx : x[k]? = some u) (hy : y[k]? = some v) (e : u ≠ v) : x ≠ y := fun h => by
  rw [h, hy] at hx
  injection hx with hx
  exact e hx.symm
end Mc
/-- A world in which two machines lie in boxes of the call's own. -/
abbrev boxM2 (w : World) (i o : Int) (A : Option Addr) (n c : Nat) (i' o' : Int) (B : Option Addr) (n' d : Nat) : World := (boxM w i o A n c).alloc (.cells #[.int .i64 i', .int .i64 o', .slice B n' d] 24)
section
variable {w wr : World} {i o i' o' : Int} {A B : Option Addr} {n c n' d : Nat}
theorem box2_cells (h : Below (w.heap.size + 2) (boxM2 w i o A n c i' o' B n' d) wr) :
    wr.cell? ⟨w.heap.size, 0, none⟩ = some (.int .i64 i) ∧ wr.cell? ⟨w.heap.size, 1, none⟩ = some (.int .i64 o) ∧ wr.cell? ⟨w.heap.size, 2, none⟩ = some (.slice A n c) ∧
    wr.cell? ⟨w.heap.size + 1, 0, none⟩ = some (.int .i64 i') ∧ wr.cell? ⟨w.heap.size + 1, 1, none⟩ = some (.int .i64 o') ∧ wr.cell? ⟨w.heap.size + 1, 2, none⟩ = some (.slice B n' d) := by
  have e : w.heap.size + 1 = (boxM w i o A n c).heap.size := by simp
  refine ⟨?_, ?_, ?_, ?_, ?_, ?_⟩
  · rw [h.cell (p := ⟨w.heap.size, 0, none⟩) (by simp), World.cell?_alloc_past _ _ _ (by simp), World.cell?_alloc_at _ _ _ _ rfl]; rfl
  · rw [h.cell (p := ⟨w.heap.size, 1, none⟩) (by simp), World.cell?_alloc_past _ _ _ (by simp), World.cell?_alloc_at _ _ _ _ rfl]; rfl
  · rw [h.cell (p := ⟨w.heap.size, 2, none⟩) (by simp), World.cell?_alloc_past _ _ _ (by simp), World.cell?_alloc_at _ _ _ _ rfl]; rfl
  · rw [h.cell (p := ⟨w.heap.size + 1, 0, none⟩) (by simp), World.cell?_alloc_at _ _ _ _ e]; rfl
  · rw [h.cell (p := ⟨w.heap.size + 1, 1, none⟩) (by simp), World.cell?_alloc_at _ _ _ _ e]; rfl
  · rw [h.cell (p := ⟨w.heap.size + 1, 2, none⟩) (by simp), World.cell?_alloc_at _ _ _ _ e]; rfl
theorem box2_below (h : Below (w.heap.size + 2) (boxM2 w i o A n c i' o' B n' d) wr) : Below w.heap.size w wr := (((Below.refl _ _).alloc (Nat.le_refl _) _).alloc (by simp) _).trans (h.mono (by omega))
end
set_option maxRecDepth 100000 in
set_option maxHeartbeats 4000000 in
theorem rmsame_any (a b : Ma) (A B : Option Addr) (c d : Nat) (w : World) (ha : RdR w A a.r) (hb : RdR w B b.r) (hl : a.r.length ≤ 1000000) (hl2 : ∀ row ∈ a.r, row.length ≤ 1000000) :
    Calls Try.prog 49 #[.agg #[.int .i64 a.i, .int .i64 a.o, .slice A a.r.length c], .agg #[.int .i64 b.i, .int .i64 b.o, .slice B b.r.length d]] w fun e w' => e = .returned (.bool (decide (a = b))) ∧ Below w.heap.size w w' := by
  obtain ⟨i, o, rs⟩ := a
  obtain ⟨i', o', qs⟩ := b
  simp only at ha hb hl hl2 ⊢
  have hl2 := Lib.hid hl2
  have hno : Hid (¬ (i = i' ∧ o = o' ∧ rs = qs) → decide ((⟨i, o, rs⟩ : Ma) = ⟨i', o', qs⟩) = false) := fun h => decide_eq_false (fun e => h (by injection e with e1 e2 e3; exact ⟨e1, e2, e3⟩))
  have hyes : Hid (i = i' ∧ o = o' ∧ rs = qs → decide ((⟨i, o, rs⟩ : Ma) = ⟨i', o', qs⟩) = true) := fun ⟨h1, h2, h3⟩ => decide_eq_true (by rw [h1, h2, h3])
  obtain ⟨r, hr⟩ : ∃ r, decide ((⟨i, o, rs⟩ : Ma) = ⟨i', o', qs⟩) = r := ⟨_, rfl⟩
  rw [hr] at hno hyes ⊢
  clear hr
  have hb0 : Below (w.heap.size + 2) (boxM2 w i o A rs.length c i' o' B qs.length d) (boxM2 w i o A rs.length c i' o' B qs.length d) := Below.refl _ _
  have hbw := box2_below hb0
  by_cases h1 : ¬ i = i'
  · have h1' : (i == i') = false := by rw [beq_eq_false_iff_ne]; exact h1
    have hf := Lib.hid (hno.out fun h => h1 h.1)
    clear hno hyes
    go_enter Try.func49, Try.ntmps49
    go_wp2
    go_ret
    exact ⟨ret_bool hf.out.symm, hbw⟩
  obtain rfl := Classical.not_not.1 h1
  have h1' : (i == i) = true := beq_self_eq_true _
  clear h1
  by_cases h2 : ¬ o = o'
  · have h2' : (o == o') = false := by rw [beq_eq_false_iff_ne]; exact h2
    have hf := Lib.hid (hno.out fun h => h2 h.2.1)
    clear hno hyes
    go_enter Try.func49, Try.ntmps49
    go_wp2
    go_ret
    exact ⟨ret_bool hf.out.symm, hbw⟩
  obtain rfl := Classical.not_not.1 h2
  have h2' : (o == o) = true := beq_self_eq_true _
  clear h2
  by_cases h3 : ¬ rs.length = qs.length
  · have h3' : ((rs.length : Int) == qs.length) = false := by rw [beq_eq_false_iff_ne]; omega
    have hf := Lib.hid (hno.out fun h => h3 (by rw [h.2.2]))
    clear hno hyes
    go_enter Try.func49, Try.ntmps49
    go_wp2
    go_ret
    exact ⟨ret_bool hf.out.symm, hbw⟩
  have h3 := Classical.not_not.1 h3
  obtain ⟨L, hL⟩ : ∃ L, rs.length = L := ⟨_, rfl⟩
  have hQ : qs.length = L := by omega
  have h3' : ((L : Int) == L) = true := beq_self_eq_true _
  rw [hL, hQ]
  rw [hL] at hl hb0 hbw
  rw [hQ] at hb0 hbw
  have H3 := Lib.hid hL
  have H4 := Lib.hid hQ
  clear h3 hL hQ hb0 hbw
  go_enter Try.func49, Try.ntmps49
  go_wp2
  go_loopw [5] (fun v wr => ∃ k : Nat, k ≤ L ∧ v = .int .i64 k ∧ Hid (rs.take k = qs.take k) ∧ Below (w.heap.size + 2) (boxM2 w i o A L c i o B L d) wr) (fun v _ => L - (intOf v).toNat)
  case atStart => exact ⟨0, Nat.zero_le _, rfl, by simp [Hid], Below.refl _ _⟩
  case round =>
    obtain ⟨k, hk, rfl, hn, hbr⟩ := hrel
    obtain ⟨q0, q1, q2, q3, q4, q5⟩ := box2_cells hbr
    by_cases hlt : k < L
    · obtain ⟨b, off, X, cx, n, row, rfl, hbb, hcw, _, _, _, hpw, hln, hq⟩ := ha.at_ (k := k) (by have := H3.out; omega)
      obtain ⟨b2, off2, Y, cy, m, row2, rfl, hbb2, hcw2, _, _, _, hpw2, hln2, hq2⟩ := hb.at_ (k := k) (by have := H4.out; omega)
      have hkq : (k : Int) < L := by omega
      have hc := ((bcell (box2_below hbr)).1 b (off + k) hbb).trans hcw
      have hc2 := ((bcell (box2_below hbr)).1 b2 (off2 + k) hbb2).trans hcw2
      by_cases hnm : n = m
      · subst hnm
        have hnm' : ((n : Int) == n) = true := beq_self_eq_true _
        have hn6 : n ≤ 1000000 := by rw [← hln.out]; exact hl2.out row (List.mem_of_getElem? hq.out)
        go_wp2
        go_quiet (fail)
        go_wp2
        obtain ⟨wo, rfl⟩ : ∃ wo : World, wo = wr := ⟨_, rfl⟩
        go_loopw [6] (fun v wr => ∃ j : Nat, j ≤ n ∧ v = .int .i64 j ∧ Hid (row.take j = row2.take j) ∧ Below (w.heap.size + 2) (boxM2 w i o (some ⟨b, off, none⟩) L c i o (some ⟨b2, off2, none⟩) L d) wr) (fun v _ => n - (intOf v).toNat)
        case atStart => exact ⟨0, Nat.zero_le _, rfl, by simp [Hid], below_drewN' hbr _⟩
        case round =>
          clear q0 q1 q2 q3 q4 q5 hc hc2
          obtain ⟨j, hj, rfl, hnj, hbr2⟩ := hrel
          obtain ⟨q0, q1, q2, q3, q4, q5⟩ := box2_cells hbr2
          have hc := ((bcell (box2_below hbr2)).1 b (off + k) hbb).trans hcw
          have hc2 := ((bcell (box2_below hbr2)).1 b2 (off2 + k) hbb2).trans hcw2
          by_cases hjl : j < n
          · obtain ⟨b3, off3, x, y, rfl, hb3, hx0, hy0, hqe⟩ := hpw.at_ (k := j) (by rw [hln.out]; exact hjl)
            obtain ⟨b4, off4, x', y', rfl, hb4, hx0', hy0', hqe'⟩ := hpw2.at_ (k := j) (by rw [hln2.out]; exact hjl)
            have hx := ((bcell (box2_below hbr2)).1 b3 (off3 + j * 2) hb3).trans hx0
            have hy := ((bcell (box2_below hbr2)).1 b3 (off3 + j * 2 + 1) hb3).trans hy0
            have hx' := ((bcell (box2_below hbr2)).1 b4 (off4 + j * 2) hb4).trans hx0'
            have hy' := ((bcell (box2_below hbr2)).1 b4 (off4 + j * 2 + 1) hb4).trans hy0'
            by_cases he : x = x' ∧ y = y'
            · have hrun : ∀ w, (binOp .neq 27 (.agg #[.int .i64 x, .int .i64 y]) (.agg #[.int .i64 x', .int .i64 y'])).run Try.prog w = .ok (.bool false) w := fun w => by
                rw [run_neq_edge, he.1, he.2]; simp
              have hgo := Lib.hid (Mc.take_snoc hqe.out hqe'.out hnj.out (by rw [he.1, he.2]))
              clear he
              go_wp2
              go_quiet (fail)
              go_wp2
              go_roundw
              case rel => exact ⟨j + 1, by omega, by go_num, hgo, below_drewN' hbr2 _⟩
              case measure => simp [intOf]; omega
            · have hrun : ∀ w, (binOp .neq 27 (.agg #[.int .i64 x, .int .i64 y]) (.agg #[.int .i64 x', .int .i64 y'])).run Try.prog w = .ok (.bool true) w := fun w => by
                rw [run_neq_edge]
                have : ((x == x') && (y == y')) = false := by
                  cases h : ((x == x') && (y == y')) with
                  | false => rfl
                  | true => simp at h; exact absurd h he
                rw [this]; rfl
              have hf := Lib.hid (hno.out fun h => Mc.ne_at hq.out hq2.out (Mc.ne_at hqe.out hqe'.out (fun e => he (by injection e with e1 e2; exact ⟨e1, e2⟩))) h.2.2)
              clear he
              go_wp2
              go_quiet (fail)
              go_wp2
              go_ret
              exact ⟨ret_bool hf.out.symm, below_drewN' (box2_below hbr2) _⟩
          · have hgo : Hid (rs.take (k + 1) = qs.take (k + 1)) := by
              have h := hnj.out
              rw [List.take_of_length_le (by rw [hln.out]; omega), List.take_of_length_le (by rw [hln2.out]; omega)] at h
              exact Mc.take_snoc hq.out hq2.out hn.out h
            go_wp2
            go_roundw
            case rel => exact ⟨k + 1, by omega, by go_num, hgo, hbr2⟩
            case measure => simp [intOf]; omega
      · have hnm' : ((n : Int) == m) = false := by rw [beq_eq_false_iff_ne]; omega
        have hf := Lib.hid (hno.out fun h => Mc.ne_at hq.out hq2.out (fun e => hnm (by rw [← hln.out, ← hln2.out, e])) h.2.2)
        go_wp2
        go_quiet (fail)
        go_wp2
        go_ret
        exact ⟨ret_bool hf.out.symm, below_drewN' (box2_below hbr) _⟩
    · have hf := Lib.hid (hyes.out ⟨trivial, trivial, by
        have h := hn.out
        rw [List.take_of_length_le (by have := H3.out; omega), List.take_of_length_le (by have := H4.out; omega)] at h
        exact h⟩)
      go_wp2
      go_ret
      exact ⟨ret_bool hf.out.symm, box2_below hbr⟩
end Go.Proofs.Ytgafpmgdpigliaa

namespace Go.Proofs.Ytgafpmgdpigliaa
open Go.RowKit
open Mc (Ed Ma)

theorem grown_below {w w' : World} (h : Below w.heap.size w w') : w.grownBy w' none := ⟨h.os, h.tape, h.output, h.size, fun k hk _ => h.block k hk⟩
theorem own_below {w w' : World} {B : Nat} {t : TypeId} {sz n : Nat} {v : Value} {xs : List Value} (h : w.ownsRow B t sz v n xs) (hb : Below w.heap.size w w') : w'.ownsRow B t sz v n xs :=
  h.kept (grown_below hb) (by cases hv : v.ownBlock <;> simp)
/-- Two cells, written into the call's own new block. -/
theorem pair_set (w : World) (g : Nat) (x y : Value) (B : Nat) (hB : B ≤ g) (hg : w.heap[g]? = some (.cells #[.int .i64 0, .int .i64 0] 27)) :
    ((w.setCell ⟨g, 0, none⟩ x).setCell ⟨g, 1, none⟩ y).heap[g]? = some (.cells #[x, y] 27) ∧ Below B w ((w.setCell ⟨g, 0, none⟩ x).setCell ⟨g, 1, none⟩ y) := by
  refine ⟨?_, ((Below.refl B w).setCell (p := ⟨g, 0, none⟩) hB _).setCell (p := ⟨g, 1, none⟩) hB _⟩
  simp [World.setCell, Array.getElem?_modify, hg]

set_option maxRecDepth 100000 in
set_option maxHeartbeats 4000000 in
theorem rrun_any (m : Ma) (s0 : Int) (A W : Option Addr) (c d : Nat) (ws : List Int) (w : World) (v : Mc.Val m) (hr : RdR w A m.r) (hw : Rd w W ws) (hs : Mc.St m s0) (hwd : Mc.Wd m ws) (hl : ws.length ≤ 65536) :
    Calls Try.prog 21 #[.agg #[.int .i64 m.i, .int .i64 m.o, .slice A m.r.length c], .int .i64 s0, .slice W ws.length d] w (Built w (Mc.run m s0 ws)) := by
  have C := fun s k w hr hs hk => next_any m s k A c w v hr hs hk
  have hnx := Lib.hid (fun s k hs hk => Mc.nx_st (m := m) v (s := s) (i := k) hs hk)
  obtain ⟨i, o, rs⟩ := m
  simp only at hr C ⊢
  have hwd := Lib.hid hwd
  have hs := Lib.hid hs
  clear v
  obtain ⟨i0, hi0, hz0, hz1, hz2⟩ := info_parts int_info
  go_enter Try.func21, Try.ntmps21
  go_wp2
  go_loopw [1, 7, 8] (fun sv u q wr => ∃ (k : Nat) (xs : List Int) (s : Int), k ≤ ws.length ∧ sv = .int .i64 s ∧ q = .int .i64 k ∧ wr.ownsRow (w.heap.size + 1) 3 1 u k (ints xs) ∧ Hid (xs ++ Mc.run ⟨i, o, rs⟩ s (ws.drop k) = Mc.run ⟨i, o, rs⟩ s0 ws) ∧ Hid (Mc.St ⟨i, o, rs⟩ s) ∧ Below (w.heap.size + 1) (boxM w i o A rs.length c) wr) (fun _ _ q _ => ws.length - (intOf q).toNat)
  case atStart => exact ⟨0, [], s0, Nat.zero_le _, rfl, rfl, World.ownsRow_nil _ _ _ _, by simp [Hid], hs, Below.refl _ _⟩
  case round =>
    obtain ⟨k, xs, s, hk, rfl, rfl, hown, hx, hst, hbr⟩ := hrel
    obtain ⟨b0, b1, b2⟩ := box_cells hbr
    have hsz := box_size hbr
    by_cases hlt : k < ws.length
    · obtain ⟨b, off, z, rfl, hb, hc, hz⟩ := (hw.below (box_below hbr)).at_ hlt
      have hzr : Hid (0 ≤ z ∧ z < i) := by
        have := hwd.out z (by rw [← hz.out, List.getElem?_eq_getElem hlt]; exact List.getElem_mem hlt)
        exact this
      have hw2 : Below (w.heap.size + 1) (boxM w i o A rs.length c) (wr.alloc (.cells #[.int .i64 0, .int .i64 0] 27)) := hbr.alloc hsz _
      obtain ⟨c0, c1, c2⟩ := box_cells hw2
      have hc2 : (wr.alloc (.cells #[.int .i64 0, .int .i64 0] 27)).cell? ⟨b, off + k, none⟩ = some (.int .i64 z) := (World.cell?_alloc_past _ _ _ hb).trans hc
      have q3 : Below w.heap.size w (wr.alloc (.cells #[.int .i64 0, .int .i64 0] 27)).drew := (box_below hw2).drew
      have X := Lib.hid (hr.below q3)
      have q4 : Below w.heap.size w wr.drew := (box_below hbr).drew
      have X0 := Lib.hid (hr.below q4)
      have hzl : w.heap.size < wr.heap.size := by omega
      obtain ⟨px, hpx⟩ : ∃ px, (Mc.nx ⟨i, o, rs⟩ s z).1 = px := ⟨_, rfl⟩
      obtain ⟨py, hpy⟩ : ∃ py, (Mc.nx ⟨i, o, rs⟩ s z).2 = py := ⟨_, rfl⟩
      have C1 := fun w hr => C s z w hr hst.out hzr.out
      simp only [hpx, hpy] at C1
      have hpx := Lib.hid hpx
      have hpy := Lib.hid hpy
      go_upto_region 5 with fail
      go_cut [9] from 10 to 29 (fun p wx => ∃ G, p = .pointer (some ⟨G, 0, none⟩) ∧ Hid (wx.heap[G]? = some (.cells #[.int .i64 px, .int .i64 py] 27)) ∧ wr.heap.size ≤ G ∧ Below wr.heap.size wr wx)
      case first =>
        go_region_held3 (fun w' => w'.cell? ⟨w.heap.size, 0, none⟩ = some (.int .i64 i) ∧ w'.cell? ⟨w.heap.size, 1, none⟩ = some (.int .i64 o) ∧ w'.cell? ⟨w.heap.size, 2, none⟩ = some (.slice A rs.length c) ∧ w'.cell? ⟨b, off + k, none⟩ = some (.int .i64 z)) (first | exact ⟨k0, k1, k2, k3⟩ | exact ⟨g0, g1, g2, g3⟩ | exact ⟨c0, c1, c2, hc2⟩ | exact ⟨b0, b1, b2, hc⟩ | go_keep)
          (first
            | (go_at_call 60
               (with_reducible refine (C1 _ X0.out).mono ?_)
               rintro e w1 ⟨rfl, hb1⟩
               have g0 := (hb1.cell (p := ⟨w.heap.size, 0, none⟩) hzl).trans b0
               have g1 := (hb1.cell (p := ⟨w.heap.size, 1, none⟩) hzl).trans b1
               have g2 := (hb1.cell (p := ⟨w.heap.size, 2, none⟩) hzl).trans b2
               have g3 := (hb1.cell (p := ⟨b, off + k, none⟩) hb).trans hc)
            | (go_at_call 60
               (with_reducible refine (C1 _ X.out).mono ?_)
               rintro e w1 ⟨rfl, hb1⟩
               have hl1 : (wr.alloc (.cells #[.int .i64 0, .int .i64 0] 27)).drew.heap.size = wr.heap.size + 1 := by simp
               have g0 := (hb1.cell (p := ⟨w.heap.size, 0, none⟩) (by rw [hl1]; show w.heap.size < _; omega)).trans c0
               have g1 := (hb1.cell (p := ⟨w.heap.size, 1, none⟩) (by rw [hl1]; show w.heap.size < _; omega)).trans c1
               have g2 := (hb1.cell (p := ⟨w.heap.size, 2, none⟩) (by rw [hl1]; show w.heap.size < _; omega)).trans c2
               have g3 := (hb1.cell (p := ⟨b, off + k, none⟩) (by rw [hl1]; show b < _; omega)).trans hc2
               have g4 := (hb1.block wr.heap.size (by rw [hl1]; omega)).trans (heap_alloc_new wr _)
               have f0 : w1.cell? ⟨wr.heap.size, 0, none⟩ = some (.int .i64 0) := by rw [cell_of_row w1 _ _ _ _ _ g4]; rfl
               have f1 : w1.cell? ⟨wr.heap.size, 1, none⟩ = some (.int .i64 0) := by rw [cell_of_row w1 _ _ _ _ _ g4]; rfl
               have f2 : w1.frozen? ⟨wr.heap.size, 0, none⟩ = false := by simp [World.frozen?, g4]
               have f3 : w1.frozen? ⟨wr.heap.size, 1, none⟩ = false := by simp [World.frozen?, g4]
               have hs2 : Below wr.heap.size w1 ((w1.setCell ⟨wr.heap.size, 0, none⟩ (.int .i64 px)).setCell ⟨wr.heap.size, 1, none⟩ (.int .i64 py)) := ((Below.refl wr.heap.size w1).setCell (p := ⟨wr.heap.size, 0, none⟩) (Nat.le_refl wr.heap.size) _).setCell (p := ⟨wr.heap.size, 1, none⟩) (Nat.le_refl wr.heap.size) _
               have k0 := (hs2.cell (p := ⟨w.heap.size, 0, none⟩) hzl).trans g0
               have k1 := (hs2.cell (p := ⟨w.heap.size, 1, none⟩) hzl).trans g1
               have k2 := (hs2.cell (p := ⟨w.heap.size, 2, none⟩) hzl).trans g2
               have k3 := (hs2.cell (p := ⟨b, off + k, none⟩) hb).trans g3
               have hg4 := Lib.hid g4
               clear g4))
        all_goals
          go_wp2_with fail
          go_meet
          first
            | exact ⟨wr.heap.size, rfl, (pair_set w1 wr.heap.size _ _ wr.heap.size (Nat.le_refl _) hg4.out).1, Nat.le_refl _, (((Below.refl wr.heap.size wr).alloc (Nat.le_refl _) _).drew.trans (hb1.mono (by rw [hl1]; omega))).trans (pair_set w1 wr.heap.size _ _ wr.heap.size (Nat.le_refl _) hg4.out).2⟩
            | exact ⟨w1.heap.size, rfl, heap_alloc_new w1 _, (by have := hb1.size; simpa using this), (((Below.refl wr.heap.size wr).drew.trans (hb1.mono (by simp)))).alloc (by have := hb1.size; simpa using this) _⟩
      case rest =>
      obtain ⟨G, rfl, hG, hGw, hbx⟩ := hcut
      have e0 : wc.cell? ⟨G, 0, none⟩ = some (.int .i64 px) := by rw [cell_of_row wc _ _ _ _ _ hG.out]; rfl
      have e1 : wc.cell? ⟨G, 1, none⟩ = some (.int .i64 py) := by rw [cell_of_row wc _ _ _ _ _ hG.out]; rfl
      have hGl : G < wc.heap.size := by
        have hG := hG.out
        rcases Nat.lt_or_ge G wc.heap.size with h | h
        · exact h
        · rw [Array.getElem?_eq_none h] at hG; cases hG
      have hGn : some G ≠ u7.ownBlock := fun e => by
        have := (hown.lt G e.symm).1
        have := (hown.lt G e.symm).2
        omega
      have hown1 := own_below hown hbx
      have hbr1 : Below (w.heap.size + 1) (boxM w i o A rs.length c) wc := hbr.trans (hbx.mono hsz)
      have hsz1 := box_size hbr1
      have hstep : Hid ((xs ++ [py]) ++ Mc.run ⟨i, o, rs⟩ px (ws.drop (k + 1)) = Mc.run ⟨i, o, rs⟩ s0 ws) := by
        show _ = _
        have hz := hz.out
        rw [List.getElem?_eq_getElem hlt, Option.getD_some] at hz
        rw [← hx.out, List.drop_eq_getElem_cons hlt, hz, Mc.run, hpx.out, hpy.out, List.append_assoc]
        rfl
      have hst1 : Hid (Mc.St ⟨i, o, rs⟩ px) := by
        have := (hnx.out s z hst.out hzr.out).1
        rw [hpx.out] at this
        exact this
      have f0 : (wc.alloc (.cells #[.int .i64 py] 3)).cell? ⟨G, 0, none⟩ = some (.int .i64 px) := (World.cell?_alloc_past _ _ _ hGl).trans e0
      clear hown hbr hsz hw2 c0 c1 c2 hc2 q3 X q4 X0 C1 b0 b1 b2 hc hx hst
      go_wp2_with (at_builtin; refine wpList_append_own _ rfl _ _ 30 rfl (w.heap.size + 1) 3 i0 (.int .i64 0) 1 8 Try.underlying30 hi0 hz0 hz1 hz2 rfl (by decide) _ _ _ rfl (hown1.alloc _) ⟨wc.heap.size, 0, none⟩ 1 1 [.int .i64 py] rfl rfl ?c1 ?c2 ?c3 ?c4 ?c5 ?_)
      case c1 => exact (cell_one_new _ _ _)
      case c2 => intro u hu; simp at hu; subst hu; rfl
      case c3 => unfold maxLen; omega
      case c4 => omega
      case c5 => simp; omega
      intro v1 w2 hown2 hg1 _
      have e3 : w2.cell? ⟨G, 0, none⟩ = some (.int .i64 px) := hg1.cell f0 hGn
      obtain ⟨hown3, hbr3⟩ := own_step hbr1 hsz1 hown1 hown2 hg1
      clear hown2 hg1 hown1
      go_wp2
      go_roundw
      case rel => exact ⟨k + 1, _, px, by omega, by go_num, by go_num, hown3, hstep, hst1, hbr3⟩
      case measure => simp [intOf]; omega
    · have hfin : Hid (xs = Mc.run ⟨i, o, rs⟩ s0 ws) := by
        have h := hx.out
        rw [List.drop_eq_nil_of_le (by omega)] at h
        show _ = _
        simpa [Mc.run] using h
      go_wp2
      go_ret
      rw [← hfin.out]
      exact Built.of_own hown (box_below hbr)

theorem Rd.tl {w : World} {b off : Nat} {z : Int} {ws : List Int} (h : Rd w (some ⟨b, off, none⟩) (z :: ws)) : Rd w (some ⟨b, off + 1, none⟩) ws := fun hp => by
  obtain ⟨b', off', e, hb, hc⟩ := h (by simp)
  injection e with e
  injection e with e1 e2
  subst e1 e2
  refine ⟨b, off + 1, rfl, hb, fun k hk => ?_⟩
  have := hc (k + 1) (by simp; omega)
  rw [show off + 1 + k = off + (k + 1) by omega, this]
  simp
theorem tail_len (n : Nat) : ((n + 1 : Nat) : Int) - 1 = (n : Int) := by omega
set_option maxRecDepth 100000 in
set_option maxHeartbeats 2000000 in
theorem rafter_any (m : Ma) (A : Option Addr) (c : Nat) (v : Mc.Val m) : ∀ (ws : List Int) (s0 : Int) (W : Option Addr) (n d : Nat) (w : World), RdR w A m.r → Rd w W ws → Mc.St m s0 → Mc.Wd m ws → ws.length = n → n ≤ d →
    Calls Try.prog 71 #[.agg #[.int .i64 m.i, .int .i64 m.o, .slice A m.r.length c], .int .i64 s0, .slice W n d] w fun e w' => e = .returned (.int .i64 (Mc.aft m s0 ws)) ∧ Below w.heap.size w w'
  | [], s0, W, n, d, w, hr, hw, hs, hwd, hl, hd => by
    simp at hl
    subst hl
    obtain ⟨i, o, rs⟩ := m
    simp only at hr ⊢
    have hb0 : Below (w.heap.size + 1) (boxM w i o A rs.length c) (boxM w i o A rs.length c) := Below.refl _ _
    go_enter Try.func71, Try.ntmps71
    go_wp2
    go_ret
    exact ⟨rfl, box_below hb0⟩
  | z :: ws, s0, W, n, d, w, hr, hw, hs, hwd, hl, hd => by
    have IH := rafter_any m A c v ws
    have C := fun s k w hr hs hk => next_any m s k A c w v hr hs hk
    have hst1 := (Mc.nx_st v hs (hwd z (by simp))).1
    have hfin : Hid (Mc.aft m (Mc.nx m s0 z).1 ws = Mc.aft m s0 (z :: ws)) := rfl
    have hzr := hwd z (by simp)
    have hwd2 : Mc.Wd m ws := fun x hx => hwd x (by simp [hx])
    obtain ⟨i, o, rs⟩ := m
    simp only at hr C IH hst1 hzr ⊢
    obtain ⟨b, off, rfl, hb, hc⟩ := hw (by simp)
    have hc0 := hc 0 (by simp)
    simp at hc0
    clear hc v hwd
    have hn1 : ws.length + 1 = n := by simpa using hl
    clear hl
    have hb0 : Below (w.heap.size + 1) (boxM w i o A rs.length c) (boxM w i o A rs.length c) := Below.refl _ _
    obtain ⟨q0, q1, q2⟩ := box_cells hb0
    have q3 := (box_below hb0).drew
    have q5 : (boxM w i o A rs.length c).cell? ⟨b, off, none⟩ = some (.int .i64 z) := ((bcell (box_below hb0)).1 b off hb).trans hc0
    have hz : w.heap.size < (boxM w i o A rs.length c).heap.size := by simp
    have hz2 : b < (boxM w i o A rs.length c).heap.size := by simp; omega
    obtain ⟨px, hpx⟩ : ∃ px, (Mc.nx ⟨i, o, rs⟩ s0 z).1 = px := ⟨_, rfl⟩
    obtain ⟨py, hpy⟩ : ∃ py, (Mc.nx ⟨i, o, rs⟩ s0 z).2 = py := ⟨_, rfl⟩
    have C1 := fun w hr => C s0 z w hr hs hzr
    simp only [hpx, hpy] at C1 hst1 hfin
    clear C hpx hpy
    have hne : ((n : Int) == 0) = false := by rw [beq_eq_false_iff_ne]; omega
    have X0 := Lib.hid (hr.below q3)
    have Y0 := Lib.hid (hw.below q3)
    have hfd : ∀ w : World, (Instr.field 27 (.agg #[.int .i64 px, .int .i64 py]) 0).run Try.prog w = .ok (.int .i64 px) w := fun _ => by kernel_rfl
    have e0 : (0 : Int) < n := by omega
    have e0' : 0 < n := by omega
    have L1 : ws.length = n - 1 := by omega
    have L2 : n - 1 ≤ d - 1 := by omega
    have IH1 := fun w hr hw => IH px (some ⟨b, off + 1, none⟩) (n - 1) (d - 1) w hr hw hst1 hwd2 L1 L2
    have IH0 := fun w hr hw (h0 : ws.length = 0) => IH px (some ⟨b, off, none⟩) 0 0 w hr hw hst1 hwd2 h0 (Nat.le_refl _)
    clear IH
    go_enter Try.func71, Try.ntmps71
    go_wp2_with fail
    obtain ⟨w0, hw0⟩ : ∃ w0, boxM w i o A rs.length c = w0 := ⟨_, rfl⟩
    have hw1 : w.alloc (.cells #[.int .i64 i, .int .i64 o, .slice A rs.length c] 24) = w0 := hw0
    rw [hw0] at q0 q1 q2 q3 q5 hz hz2 X0 Y0
    rw [hw1]
    clear hw0 hw1 hb0
    by_cases hd1 : d = 1
    · subst hd1
      have n1 : n = 1 := by omega
      subst n1
      have hws : ws = [] := List.eq_nil_of_length_eq_zero (by omega)
      subst hws
      clear IH1
      go_region_held3 (fun w' => w'.cell? ⟨w.heap.size, 0, none⟩ = some (.int .i64 i) ∧ w'.cell? ⟨w.heap.size, 1, none⟩ = some (.int .i64 o) ∧ w'.cell? ⟨w.heap.size, 2, none⟩ = some (.slice A rs.length c) ∧ w'.cell? ⟨b, off, none⟩ = some (.int .i64 z)) (first | exact ⟨k0, k1, k2, k3⟩ | exact ⟨g0, g1, g2, g3⟩ | exact ⟨q0, q1, q2, q5⟩ | go_keep)
        (first
          | (go_at_call 60
             (with_reducible refine (C1 _ X0.out).mono ?_)
             rintro e w1 ⟨rfl, hb1⟩
             have g0 := (hb1.cell (p := ⟨w.heap.size, 0, none⟩) hz).trans q0
             have g1 := (hb1.cell (p := ⟨w.heap.size, 1, none⟩) hz).trans q1
             have g2 := (hb1.cell (p := ⟨w.heap.size, 2, none⟩) hz).trans q2
             have g3 := (hb1.cell (p := ⟨b, off, none⟩) hz2).trans q5
             have z1 : w0.heap.size ≤ w1.heap.size := hb1.size
             have q6 := below_next q3 hb1
             have X1 := Lib.hid (hr.below q6))
          | (go_at_call 71
             (with_reducible refine (IH0 _ X1.out Rd.nil_ rfl).mono ?_)
             rintro e w2 ⟨rfl, hb2⟩
             have q7 := below_next q6 hb2
             have k0 := (hb2.cell (p := ⟨w.heap.size, 0, none⟩) (by show w.heap.size < _; omega)).trans g0
             have k1 := (hb2.cell (p := ⟨w.heap.size, 1, none⟩) (by show w.heap.size < _; omega)).trans g1
             have k2 := (hb2.cell (p := ⟨w.heap.size, 2, none⟩) (by show w.heap.size < _; omega)).trans g2
             have k3 := (hb2.cell (p := ⟨b, off, none⟩) (by show b < _; omega)).trans g3))
      go_wp2
      go_ret
      exact ⟨ret_int hfin.out, q7⟩
    · have e1 : (1 : Int) ≤ n := by omega
      have e2 : (n : Int) ≤ d := by omega
      go_region_held3 (fun w' => w'.cell? ⟨w.heap.size, 0, none⟩ = some (.int .i64 i) ∧ w'.cell? ⟨w.heap.size, 1, none⟩ = some (.int .i64 o) ∧ w'.cell? ⟨w.heap.size, 2, none⟩ = some (.slice A rs.length c) ∧ w'.cell? ⟨b, off, none⟩ = some (.int .i64 z)) (first | exact ⟨k0, k1, k2, k3⟩ | exact ⟨g0, g1, g2, g3⟩ | exact ⟨q0, q1, q2, q5⟩ | go_keep)
        (first
          | (go_at_call 60
             (with_reducible refine (C1 _ X0.out).mono ?_)
             rintro e w1 ⟨rfl, hb1⟩
             have g0 := (hb1.cell (p := ⟨w.heap.size, 0, none⟩) hz).trans q0
             have g1 := (hb1.cell (p := ⟨w.heap.size, 1, none⟩) hz).trans q1
             have g2 := (hb1.cell (p := ⟨w.heap.size, 2, none⟩) hz).trans q2
             have g3 := (hb1.cell (p := ⟨b, off, none⟩) hz2).trans q5
             have z1 : w0.heap.size ≤ w1.heap.size := hb1.size
             have q6 := below_next q3 hb1
             have X1 := Lib.hid (hr.below q6)
             have Y1 := Lib.hid (hw.below q6).tl)
          | (go_at_call 71
             (with_reducible refine (IH1 _ X1.out Y1.out).mono ?_)
             rintro e w2 ⟨rfl, hb2⟩
             have q7 := below_next q6 hb2
             have k0 := (hb2.cell (p := ⟨w.heap.size, 0, none⟩) (by show w.heap.size < _; omega)).trans g0
             have k1 := (hb2.cell (p := ⟨w.heap.size, 1, none⟩) (by show w.heap.size < _; omega)).trans g1
             have k2 := (hb2.cell (p := ⟨w.heap.size, 2, none⟩) (by show w.heap.size < _; omega)).trans g2
             have k3 := (hb2.cell (p := ⟨b, off, none⟩) (by show b < _; omega)).trans g3))
      go_wp2
      go_ret
      exact ⟨ret_int hfin.out, q7⟩
end Go.Proofs.Ytgafpmgdpigliaa

namespace Go.Proofs.Ytgafpmgdpigliaa
open Go.RowKit
open Mc (Ed Ma)

theorem edge_info : (Try.prog.info? 27).map (fun i => (i.zero, i.size, i.bytes)) = some (some (.agg #[.int .i64 0, .int .i64 0]), 2, 16) := by kernel_rfl
theorem row_info : (Try.prog.info? 29).map (fun i => (i.zero, i.size, i.bytes)) = some (some (.slice none 0 0), 1, 24) := by kernel_rfl
/-- The cells of a row. -/
def eC (l : List Ed) : List Value := l.flatMap fun x => [.int .i64 x.1, .int .i64 x.2]
theorem eC_len (l : List Ed) : (eC l).length = l.length * 2 := by
  induction l with
  | nil => rfl
  | cons a l ih => rw [eC, List.flatMap_cons, List.length_append, ← eC, ih, List.length_cons]; simp; omega
theorem eC_app (x y : List Ed) : eC (x ++ y) = eC x ++ eC y := by simp [eC]
theorem eC_one (x : Ed) : eC [x] = [.int .i64 x.1, .int .i64 x.2] := by simp [eC]
theorem eC_at : ∀ {l : List Ed} {k : Nat} {x : Ed}, l[k]? = some x → (eC l)[k * 2]? = some (.int .i64 x.1) ∧ (eC l)[k * 2 + 1]? = some (.int .i64 x.2)
  | [], k, x, h => by simp at h
  | a :: l, 0, x, h => by
    simp at h
    subst h
    exact ⟨rfl, rfl⟩
  | a :: l, k + 1, x, h => by
    obtain ⟨h1, h2⟩ := eC_at (l := l) (k := k) (x := x) (by simpa using h)
    have e : ∀ j, (eC (a :: l))[(k + 1) * 2 + j]? = (eC l)[k * 2 + j]? := fun j => by
      rw [show (k + 1) * 2 + j = 2 + (k * 2 + j) by omega, eC, List.flatMap_cons, ← eC]
      rw [List.getElem?_append_right (by simp)]
      simp
    exact ⟨(e 0).trans h1, (e 1).trans h2⟩
theorem eC_cell : ∀ (l : List Ed), ∀ u ∈ eC l, u.oneCell' = true
  | [], u, h => by simp [eC] at h
  | x :: l, u, h => by
    rw [eC, List.flatMap_cons, ← eC] at h
    rcases List.mem_append.1 h with h | h
    · simp at h
      rcases h with rfl | rfl <;> rfl
    · exact eC_cell l u h
/-- A row of the call's own. -/
abbrev OwR (w : World) (base : Nat) (v : Value) (row : List Ed) : Prop := w.ownsRow base 27 2 v row.length (eC row)
theorem RdP.of_own {w : World} {base : Nat} {A : Option Addr} {n c : Nat} {row : List Ed} (h : w.ownsRow base 27 2 (.slice A n c) n (eC row)) : RdP w A row := fun hp => by
  have hn : row.length = n := by have := h.1; rw [eC_len] at this; omega
  obtain ⟨g, cap, hv, _, hlt⟩ := h.form (by omega)
  have hA : A = some ⟨g, 0, none⟩ := by injection hv
  subst hA
  refine ⟨g, 0, rfl, hlt, fun k x hk => ?_⟩
  obtain ⟨h1, h2⟩ := eC_at hk
  have hc : ∀ j v, (eC row)[j]? = some v → w.cell? ⟨g, 0 + j, none⟩ = some v := fun j v hj => by
    have := h.cells (g := g) rfl j v hj
    rw [Nat.zero_add]
    rw [Addr.add_lit] at this
    simpa using this
  exact ⟨hc _ _ h1, by have := hc _ _ h2; rwa [← Nat.add_assoc] at this⟩
theorem grown_setCell (w : World) (a : Addr) (u : Value) : w.grownBy (w.setCell a u) (some a.block) :=
  ⟨rfl, rfl, rfl, by simp [World.setCell], fun k _ hk => Below.heap_setCell w a u k (fun e => hk (by rw [e]))⟩
/-- Rows of different kinds are different blocks. -/
theorem own_apart {w : World} {b b' : Nat} {e e' : TypeId} {s s' n n' : Nat} {v v' : Value} {xs xs' : List Value} (h : w.ownsRow b e s v n xs) (h' : w.ownsRow b' e' s' v' n' xs') (he : e ≠ e') : v.ownBlock = none ∨ v.ownBlock ≠ v'.ownBlock := by
  rcases h.2 with ⟨rfl, _⟩ | ⟨g, cap, cur, rfl, _, hg, _⟩
  · exact Or.inl rfl
  · refine Or.inr fun e1 => ?_
    rcases h'.2 with ⟨rfl, _⟩ | ⟨g', cap', cur', rfl, _, hg', _⟩
    · simp [Value.ownBlock] at e1
    · simp [Value.ownBlock] at e1
      subst e1
      rw [hg] at hg'
      simp at hg'
      exact he hg'.2
/-- The rows that the call builds. -/
def Bld (w : World) (base : Nat) (V : Value) (rs : List (List Ed)) (vs : List Value) : Prop :=
  w.ownsRow base 29 1 V rs.length vs ∧ ∀ (k : Nat) (row : List Ed), rs[k]? = some row → ∃ (g c : Nat), vs[k]? = some (Value.slice (some ⟨g, 0, none⟩) row.length c) ∧ OwR w base (.slice (some ⟨g, 0, none⟩) row.length c) row
section
variable {w w' : World} {base : Nat} {V : Value} {rs : List (List Ed)} {vs : List Value}
theorem Bld.nil_ (w : World) (base : Nat) : Bld w base (.slice none 0 0) [] [] := ⟨World.ownsRow_nil _ _ _ _, fun k row h => by simp at h⟩
theorem Bld.below (h : Bld w base V rs vs) (hb : Below w.heap.size w w') : Bld w' base V rs vs :=
  ⟨own_below h.1 hb, fun k row hk => by
    obtain ⟨g, c, h1, h2⟩ := h.2 k row hk
    exact ⟨g, c, h1, own_below h2 hb⟩⟩
theorem Bld.kept (h : Bld w base V rs vs) {G : Nat} (hg : w.grownBy w' (some G)) (hG : G < base) : Bld w' base V rs vs := by
  have hne : ∀ {v : Value} {e : TypeId} {s n : Nat} {xs : List Value}, w.ownsRow base e s v n xs → v.ownBlock = none ∨ v.ownBlock ≠ some G := fun {v} _ _ _ _ h => by
    cases hv : v.ownBlock with
    | none => exact Or.inl rfl
    | some k => exact Or.inr fun e => by injection e with e; have := (h.lt k hv).1; omega
  exact ⟨h.1.kept hg (hne h.1), fun k row hk => by
    obtain ⟨g, c, h1, h2⟩ := h.2 k row hk
    exact ⟨g, c, h1, h2.kept hg (hne h2)⟩⟩
theorem Bld.push {row : List Ed} {g c : Nat} {o : Obj} {w1 : World} {V1 : Value} (h : Bld w base V rs vs) (hr : OwR w base (.slice (some ⟨g, 0, none⟩) row.length c) row)
    (h1 : w1.ownsRow base 29 1 V1 (rs.length + 1) (vs ++ [.slice (some ⟨g, 0, none⟩) row.length c])) (hg : (w.alloc o).grownBy w1 V.ownBlock) : Bld w1 base V1 (rs ++ [row]) (vs ++ [.slice (some ⟨g, 0, none⟩) row.length c]) := by
  have hd : (27 : TypeId) ≠ 29 := by decide
  have hl : vs.length = rs.length := by have := h.1.1; omega
  refine ⟨by rw [List.length_append]; exact h1, fun k r hk => ?_⟩
  rw [List.getElem?_append] at hk
  split at hk
  · rename_i hlt
    obtain ⟨g', c', h2, h3⟩ := h.2 k r hk
    refine ⟨g', c', by rw [List.getElem?_append_left (by omega)]; exact h2, ?_⟩
    have h4 := own_apart h3 h.1 hd
    exact (h3.alloc o).kept hg h4
  · rename_i hge
    have hk0 : k - rs.length = 0 := by
      rcases Nat.eq_zero_or_pos (k - rs.length) with h0 | h0
      · exact h0
      · rw [List.getElem?_eq_none (by simp; omega)] at hk; cases hk
    rw [hk0] at hk
    simp at hk
    subst hk
    refine ⟨g, c, by rw [List.getElem?_append_right (by omega), show k - vs.length = 0 by omega]; rfl, ?_⟩
    exact (hr.alloc o).kept hg (own_apart hr h.1 hd)
theorem Bld.rd (h : Bld w base V rs vs) : ∃ A c, V = .slice A rs.length c ∧ rs.length ≤ c ∧ c ≤ maxLen ∧ (A = none → c = 0) ∧ RdR w A rs := by
  have hl : vs.length = rs.length := by have := h.1.1; omega
  rcases h.1.2 with ⟨hv, h0⟩ | ⟨g, cap, cur, hv, _, hg, hc, hm, _⟩
  · refine ⟨none, 0, by rw [hv, h0], by omega, Nat.zero_le _, fun _ => rfl, fun hp => by omega⟩
  · refine ⟨some ⟨g, 0, none⟩, cap, hv, hc, hm, fun e => (by cases e), fun _ => ⟨g, 0, rfl, (Array.getElem?_eq_some_iff.1 hg).1, fun k row hk => ?_⟩⟩
    obtain ⟨g', c', h2, h3⟩ := h.2 k row hk
    have hcell := h.1.cells (g := g) (by rw [hv]; rfl) k _ h2
    rw [Addr.add_lit] at hcell
    refine ⟨some ⟨g', 0, none⟩, c', by simpa using hcell, ?_, ?_, fun e => (by cases e), RdP.of_own h3⟩
    · rcases h3.2 with ⟨e, _⟩ | ⟨_, _, _, e, _, _, hn, _⟩
      · cases e
      · injection e with _ _ e; omega
    · rcases h3.2 with ⟨e, _⟩ | ⟨_, _, _, e, _, _, _, hn, _⟩
      · cases e
      · injection e with _ _ e; omega
end
/-- A row of edges and one more. -/
theorem wpList_append_edge (wr : World) {ops : Array Oper} {rest : List Oper} {o : Oper} {a : Act} {Q : Exit → Act → World → Prop} {W0 : World} {B : Nat} {v : Value} {xs : List Ed} (x y : Int)
    (hown : wr.ownsRow B 27 2 v xs.length (eC xs)) (hlen : xs.length ≤ 1000000) (hB : B ≤ wr.heap.size) (hbr : Below B W0 wr) (hgd : o.guard = none) (s z : Operand)
    (ho : o.op = .call { callee := .builtin .append, args := #[s, z], argTypes := #[29, 29] }) (hs : a.eval s = v) (hx : a.eval z = .slice (some ⟨wr.heap.size, 0, none⟩) 1 1)
    (h : ∀ v1 w1, w1.ownsRow B 27 2 v1 (xs.length + 1) (eC (xs ++ [(x, y)])) → (v1 ≠ .slice none 0 0) → Below B W0 w1 → wpList Try.prog ops Q rest (a.put o.dst v1) w1) :
    wpList Try.prog ops Q (o :: rest) a (wr.alloc (.cells #[.int .i64 x, .int .i64 y] 27)) := by
  obtain ⟨i0, hi0, hI0, hI1, hI2⟩ := info_parts edge_info
  refine wpList_append_own _ hgd s z 29 ho B 27 i0 (.agg #[.int .i64 0, .int .i64 0]) 2 16 Try.underlying29 hi0 hI0 hI1 hI2 rfl (by decide) v xs.length (eC xs) hs (hown.alloc _) ⟨wr.heap.size, 0, none⟩ 1 1 [.int .i64 x, .int .i64 y] hx rfl ?_ ?_ ?_ ?_ ?_ ?_
  · intro j u hj
    rw [Addr.add_lit, World.cell?_alloc_at _ _ _ _ rfl]
    match j, hj with
    | 0, hj => simpa using hj
    | 1, hj => simpa using hj
  · intro u hu
    simp at hu
    rcases hu with rfl | rfl <;> rfl
  · unfold maxLen; omega
  · omega
  · simp; omega
  · intro v1 w1 h1 hg hnil
    refine h v1 w1 ?_ (fun e => by have := (hnil.1 e).2; cases this) ((hbr.alloc hB _).grown hg (by simp; omega) (fun j hj => (hown.lt j hj).1))
    rw [eC_app, eC_one]
    exact h1
end Go.Proofs.Ytgafpmgdpigliaa
