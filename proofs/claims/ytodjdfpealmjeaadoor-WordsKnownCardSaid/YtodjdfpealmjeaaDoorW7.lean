/-
  Contracts: words.At.
-/
import Derived.Test.YtodjdfpealmjeaaDoorW6
namespace Go.Proofs.YtodjdfpealmjeaaDoor
open Go.RowKit

set_option maxRecDepth 100000 in
set_option maxHeartbeats 800000 in
/-- At of the rank of a word. -/
theorem at_ok (zs : List Int) (n : Int) (w : World) (hck : M.check zs n = 0) (hr : M.rk n zs ≤ 4611686018427387903) :
    Calls Tryd.prog 27 #[.int .i64 (M.rk n zs), .int .i64 n] w (Made w zs 0) := by
  obtain ⟨hn1, hn2, hl2, hv⟩ := M.check_zero hck
  clear hck
  have h0 := M.rk_ge hn2 hv
  have hr0 : 0 ≤ M.rk n zs := by omega
  have HR : Hid (M.rk n (zs.take (zs.length - 0)) = M.rk n zs) := by show _ = _; simp
  have hnz : (n == 0) = false := by simp; omega
  go_enter Tryd.func27, Tryd.ntmps27
  go_wp2
  go_loop [6, 7] (fun l r => ∃ j : Nat, j ≤ zs.length ∧ l = .int .i64 j ∧ r = .int .i64 (M.rk n (zs.take (zs.length - j)))) (fun l _ => zs.length - (intOf l).toNat)
  case atStart => exact ⟨0, Nat.zero_le _, rfl, by rw [HR.out]⟩
  case round =>
    obtain ⟨j, hj, rfl, rfl⟩ := hrel
    by_cases hlt : j < zs.length
    · obtain ⟨z, hz, hz0, hz1, hp, hd, hm, hq, -⟩ := M.rk_peel hn2 hv hlt
      have HD := Lib.hid hd
      have hle := M.rk_take_le hn2 hv (zs.length - j)
      have hle2 := M.rk_take_le hn2 hv (zs.length - (j + 1))
      have hdb : 0 ≤ (M.rk n (zs.take (zs.length - j)) - 1) / n ∧ (M.rk n (zs.take (zs.length - j)) - 1) / n ≤ 4611686018427387903 := by rw [hd]; omega
      obtain ⟨hdb1, hdb2⟩ := hdb
      clear hd hm hz
      have h256 : ((j : Int) == 256) = false := by simp; omega
      go_wp2
      go_round
      case rel => exact ⟨j + 1, by omega, by go_num, by rw [HD.out]⟩
      case measure => simp [intOf]; omega
    · obtain rfl : j = zs.length := by omega
      have e0 : M.rk n (zs.take (zs.length - zs.length)) = 0 := by simp [M.rk_nil]
      rw [e0]
      clear e0
      go_wp2_with (refine wpList_make_ints _ rfl _ _ rfl _ zs.length rfl rfl (by omega) (by omega) ?_)
      intro w1 hB1 hb1
      go_wp2
      go_loopw [0, 9] (fun r i wr => ∃ (j : Nat) (cur : List Int), j ≤ zs.length ∧ i = .int .i64 ((zs.length : Int) - 1 - j) ∧ r = .int .i64 (M.rk n (zs.take (zs.length - j))) ∧ Hid (Blk wr w.heap.size cur) ∧ Hid (M.Ats zs j cur) ∧ Below w.heap.size w wr) (fun _ i _ => (intOf i + 1).toNat)
      case atStart => exact ⟨0, _, Nat.zero_le _, by simp, by rw [HR.out], hB1, M.Ats.start zs, hb1⟩
      case round =>
        obtain ⟨j, cur, hj, rfl, rfl, hB, hF, hbr⟩ := hrel
        clear hB1 hb1
        by_cases hlt : j < zs.length
        · have hlen := Lib.hid hF.out.len
          obtain ⟨z, hz, hz0, hz1, hp, hd, hm, hq, -⟩ := M.rk_peel hn2 hv hlt
          obtain ⟨y, hc, hf, hy⟩ := hB.out.at_ (k := zs.length - 1 - j) (by rw [hlen.out]; omega)
          have HS := Lib.hid (hF.out.step hlt hz)
          have HD := Lib.hid hd
          have HM := Lib.hid hm
          have hle := M.rk_take_le hn2 hv (zs.length - j)
          have hle2 := M.rk_take_le hn2 hv (zs.length - (j + 1))
          have hdb : 0 ≤ (M.rk n (zs.take (zs.length - j)) - 1) / n ∧ (M.rk n (zs.take (zs.length - j)) - 1) / n ≤ 4611686018427387903 := by rw [hd]; omega
          have hmb : 0 ≤ (M.rk n (zs.take (zs.length - j)) - 1) % n ∧ (M.rk n (zs.take (zs.length - j)) - 1) % n ≤ 16 := by rw [hm]; omega
          obtain ⟨hdb1, hdb2⟩ := hdb
          obtain ⟨hmb1, hmb2⟩ := hmb
          clear hd hm hz hy hle2
          go_wp2
          go_roundw
          case rel => exact ⟨j + 1, cur.set (zs.length - 1 - j) z, by omega, (by congr 1; omega), (by rw [HD.out]), (by show Blk _ _ _; rw [HM.out]; exact hB.out.set_ _ _), HS, hbr.setCell (by show w.heap.size ≤ w.heap.size; omega) _⟩
          case measure => simp [intOf]; omega
        · obtain rfl : j = zs.length := by omega
          have HE := Lib.hid hF.out.done
          go_wp2
          go_ret2
          exact ⟨some ⟨w.heap.size, 0, none⟩, rfl, by rw [← HE.out]; exact hB.out.rd, hbr⟩

/-- At with one input, of a rank that is too great. -/
theorem at_one (r : Int) (w : World) (h1 : 256 < r) (h2 : r ≤ 4611686018427387903) :
    Calls Tryd.prog 27 #[.int .i64 r, .int .i64 1] w (Made w [] 3) := by
  go_enter Tryd.func27, Tryd.ntmps27
  go_wp2
  go_loop [6, 7] (fun l s => ∃ j : Nat, j ≤ 256 ∧ l = .int .i64 j ∧ s = .int .i64 (r - j)) (fun l _ => 256 - (intOf l).toNat)
  case atStart => exact ⟨0, by omega, rfl, by simp⟩
  case round =>
    obtain ⟨j, hj, rfl, rfl⟩ := hrel
    by_cases hlt : j < 256
    · have h256 : ((j : Int) == 256) = false := by simp; omega
      go_wp2
      go_round
      case rel => exact ⟨j + 1, by omega, by go_num, by congr 1; omega⟩
      case measure => simp [intOf]; omega
    · obtain rfl : j = 256 := by omega
      go_wp2
      go_ret2
      exact ⟨none, rfl, Rd.nil_, Below.refl _ _⟩

/-- At of too many inputs. -/
theorem at_many (r n : Int) (w : World) (h1 : 16 < n) :
    Calls Tryd.prog 27 #[.int .i64 r, .int .i64 n] w (Made w [] 3) := by
  go_enter Tryd.func27, Tryd.ntmps27
  go_wp2
  go_ret2
  exact ⟨none, rfl, Rd.nil_, Below.refl _ _⟩
/-- At of what is no rank. -/
theorem at_arg (r n : Int) (w : World) (h1 : n ≤ 16) (h2 : n < 1 ∨ r < 0 ∨ 4611686018427387903 < r) :
    Calls Tryd.prog 27 #[.int .i64 r, .int .i64 n] w (Made w [] 1) := by
  by_cases a : n < 1
  · go_enter Tryd.func27, Tryd.ntmps27
    go_wp2
    go_ret2
    exact ⟨none, rfl, Rd.nil_, Below.refl _ _⟩
  · by_cases b : r < 0
    · go_enter Tryd.func27, Tryd.ntmps27
      go_wp2
      go_ret2
      exact ⟨none, rfl, Rd.nil_, Below.refl _ _⟩
    · have d : 4611686018427387903 < r := by omega
      go_enter Tryd.func27, Tryd.ntmps27
      go_wp2
      go_ret2
      exact ⟨none, rfl, Rd.nil_, Below.refl _ _⟩
end Go.Proofs.YtodjdfpealmjeaaDoor
