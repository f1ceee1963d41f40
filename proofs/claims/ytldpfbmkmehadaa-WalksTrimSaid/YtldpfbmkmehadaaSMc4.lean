/-
  Contracts: the reference's Defined and Complete of machines.
-/
import Derived.Test.YtldpfbmkmehadaaSMc3
import Derived.Deep.RegionHeld3
namespace Go.Proofs.Ytldpfbmkmehadaa
open Go.RowKit
open Mc (Ed Ma)

set_option maxRecDepth 100000 in
set_option maxHeartbeats 2000000 in
theorem defined_in (i o : Int) (rs : List (List Ed)) (A : Option Addr) (c : Nat) (w : World) (hr : RdR w A rs) (hlen : ∀ row ∈ rs, (row.length : Int) = i) (hi : i ≤ 1000) (hl : rs.length ≤ 1000) :
    Calls Try.prog 51 #[.agg #[.int .i64 i, .int .i64 o, .slice A rs.length c]] w fun e w' => e = .returned (.int .i64 (Mc.dfd rs)) ∧ Below w.heap.size w w' := by
  go_enter Try.func51, Try.ntmps51
  go_wp2
  go_loopw [3, 4] (fun u v wr => ∃ n k : Nat, k ≤ rs.length ∧ u = .int .i64 n ∧ v = .int .i64 k ∧ n ≤ k * 1000 ∧ Hid (n = Mc.dfd (rs.take k)) ∧ Below (w.heap.size + 1) (boxM w i o A rs.length c) wr) (fun _ v _ => rs.length - (intOf v).toNat)
  case atStart => exact ⟨0, 0, Nat.zero_le _, rfl, rfl, Nat.zero_le _, by simp [Hid, Mc.dfd], Below.refl _ _⟩
  case round =>
    obtain ⟨n, k, hk, rfl, rfl, hnk, hn, hbr⟩ := hrel
    obtain ⟨q0, q1, q2⟩ := box_cells hbr
    by_cases hlt : k < rs.length
    · obtain ⟨b, off, B, d, m, row, rfl, hb, hcw, _, _, _, hpw, hln, hq⟩ := hr.at_ hlt
      have hmi : (m : Int) = i := by rw [← hln.out]; exact hlen row (List.mem_of_getElem? hq.out)
      go_wp2
      obtain ⟨wo, rfl⟩ : ∃ wo : World, wo = wr := ⟨_, rfl⟩
      go_loopw [3, 5] (fun u v wr => ∃ n2 j : Nat, j ≤ m ∧ u = .int .i64 n2 ∧ v = .int .i64 j ∧ n2 ≤ k * 1000 + j ∧ Hid (n2 = n + Mc.cntE (row.take j)) ∧ Below (w.heap.size + 1) (boxM w i o (some ⟨b, off, none⟩) rs.length c) wr) (fun _ v _ => m - (intOf v).toNat)
      case atStart => exact ⟨n, 0, Nat.zero_le _, rfl, rfl, hnk, by simp [Hid, Mc.cntE], hbr⟩
      case round =>
        obtain ⟨n2, j, hj, rfl, rfl, hnj, hn2, hbr2⟩ := hrel
        clear q0 q1 q2 hbr
        obtain ⟨q0, q1, q2⟩ := box_cells hbr2
        have hc2 := ((bcell (box_below hbr2)).1 b (off + k) hb).trans hcw
        by_cases hjl : j < m
        · obtain ⟨b2, off2, x, y, rfl, hb2, hx0, _, hqe⟩ := hpw.at_ (k := j) (by rw [hln.out]; exact hjl)
          have hx := ((bcell (box_below hbr2)).1 b2 (off2 + j * 2) hb2).trans hx0
          have hji : (j : Int) < i := by omega
          by_cases g : 0 ≤ x
          · have hs : Hid (n2 + 1 = n + Mc.cntE (row.take (j + 1))) := by
              show _ = _
              rw [Mc.cntE_snoc hqe.out, if_pos g, hn2.out]; omega
            go_wp2
            go_roundw
            case rel => exact ⟨n2 + 1, j + 1, by omega, by go_num, by go_num, by omega, hs, hbr2⟩
            case measure => simp [intOf]; omega
          · have hs : Hid (n2 = n + Mc.cntE (row.take (j + 1))) := by
              show _ = _
              rw [Mc.cntE_snoc hqe.out, if_neg g, hn2.out]; omega
            go_wp2
            go_roundw
            case rel => exact ⟨n2, j + 1, by omega, by go_num, by go_num, by omega, hs, hbr2⟩
            case measure => simp [intOf]; omega
        · have hji : ¬ (j : Int) < i := by omega
          have hs : Hid (n2 = Mc.dfd (rs.take (k + 1))) := by
            show _ = _
            have h := hn2.out
            rw [List.take_of_length_le (by rw [hln.out]; omega)] at h
            rw [Mc.dfd_snoc hq.out, h, hn.out]
          go_wp2
          go_roundw
          case rel => exact ⟨n2, k + 1, by omega, by go_num, by go_num, by omega, hs, hbr2⟩
          case measure => simp [intOf]; omega
    · have hs : Hid (n = Mc.dfd rs) := by
        have h := hn.out
        rw [List.take_of_length_le (by omega)] at h
        exact h
      go_wp2
      go_ret
      exact ⟨ret_int (by rw [← hs.out]), box_below hbr⟩
theorem complete_any (m : Ma) (A : Option Addr) (c : Nat) (w : World) (v : Mc.Val m) (hr : RdR w A m.r) :
    Calls Try.prog 35 #[.agg #[.int .i64 m.i, .int .i64 m.o, .slice A m.r.length c]] w fun e w' => e = .returned (.bool ((Mc.dfd m.r : Int) == m.r.length * m.i)) ∧ Below w.heap.size w w' := by
  have h1 := v.i1
  have h2 := v.r1
  have h3 := v.i0
  have C := fun w hr => defined_in m.i m.o m.r A c w hr v.len (by omega) (by omega)
  obtain ⟨i, o, rs⟩ := m
  simp only at hr C h1 h2 h3 ⊢
  have hmul : (rs.length : Int) * i = rs.length * i := rfl
  have hbd : -9223372036854775808 ≤ (rs.length : Int) * i ∧ (rs.length : Int) * i ≤ 9223372036854775807 := by
    obtain ⟨i, rfl⟩ := Int.eq_ofNat_of_zero_le (show 0 ≤ i by omega)
    have : rs.length * i ≤ 64 * 16 := Nat.mul_le_mul h2 (by omega)
    omega
  have hwr : IntKind.i64.wrap ((rs.length : Int) * i) = (rs.length : Int) * i := IntWalk.i64_in _ hbd
  clear v hmul hbd
  go_enter Try.func35, Try.ntmps35
  have hb0 : Below (w.heap.size + 1) (boxM w i o A rs.length c) (boxM w i o A rs.length c) := Below.refl _ _
  obtain ⟨q0, q1, q2⟩ := box_cells hb0
  have q3 := (box_below hb0).drew
  have hz : w.heap.size < (boxM w i o A rs.length c).heap.size := by simp
  go_wp2_with fail
  obtain ⟨w0, hw0⟩ : ∃ w0, boxM w i o A rs.length c = w0 := ⟨_, rfl⟩
  have hw1 : w.alloc (.cells #[.int .i64 i, .int .i64 o, .slice A rs.length c] 27) = w0 := hw0
  rw [hw0] at q0 q1 q2 q3 hz
  rw [hw1]
  clear hw0 hw1 hb0
  have X := Lib.hid (hr.below q3)
  clear hr
  go_region_held3 (fun w' => w'.cell? ⟨w.heap.size, 0, none⟩ = some (.int .i64 i) ∧ w'.cell? ⟨w.heap.size, 1, none⟩ = some (.int .i64 o) ∧ w'.cell? ⟨w.heap.size, 2, none⟩ = some (.slice A rs.length c)) (first | exact ⟨g0, g1, g2⟩ | exact ⟨q0, q1, q2⟩ | go_keep)
    (first
      | (go_at_call 51
         (with_reducible refine (C _ X.out).mono ?_)
         rintro e w1 ⟨rfl, hb1⟩
         have g0 := (hb1.cell (p := ⟨w.heap.size, 0, none⟩) hz).trans q0
         have g1 := (hb1.cell (p := ⟨w.heap.size, 1, none⟩) hz).trans q1
         have g2 := (hb1.cell (p := ⟨w.heap.size, 2, none⟩) hz).trans q2))
  go_wp2
  go_ret
  exact ⟨rfl, below_next q3 hb1⟩
end Go.Proofs.Ytldpfbmkmehadaa
