/-
  Contracts: the law's own great.
-/
import Derived.Test.YtiohfflkolopeaaMc10
namespace Go.Proofs.Ytiohfflkolopeaa
open Go.RowKit
open Mc (Ed Ma)

namespace Mc
def bigR (row : List Ed) : Bool := decide (20 < row.length)
/-- 1 if a machine is larger than is gone through. -/
def grt (rs : List (List Ed)) : Int := if 70 < rs.length then 1 else if rs.any bigR then 1 else 0
theorem grt_long {rs : List (List Ed)} (h : 70 < rs.length) : grt rs = 1 := by simp [grt, h]
theorem grt_hit {rs : List (List Ed)} {k : Nat} {row : List Ed} (hk : rs[k]? = some row) (h : 20 < row.length) : grt rs = 1 := by
  have : rs.any bigR = true := List.any_eq_true.2 ⟨row, List.mem_of_getElem? hk, by simpa [bigR] using h⟩
  unfold grt
  rw [if_pos this]
  split <;> rfl
theorem grt_no {rs : List (List Ed)} (h : ¬ 70 < rs.length) (h2 : rs.any bigR = false) : grt rs = 0 := by simp [grt, h, h2]
theorem any_snoc {rs : List (List Ed)} {k : Nat} {row : List Ed} (hk : rs[k]? = some row) (h : (rs.take k).any bigR = false) (hb : ¬ 20 < row.length) : (rs.take (k + 1)).any bigR = false := by
  rw [List.take_add_one, List.any_append, h, hk]
  simp [bigR]
  omega
theorem grt_ok {rs : List (List Ed)} (h : grt rs ≠ 1) : rs.length ≤ 70 ∧ ∀ row ∈ rs, row.length ≤ 20 := by
  unfold grt at h
  split at h
  · exact absurd rfl h
  · rename_i h1
    split at h
    · exact absurd rfl h
    · rename_i h2
      refine ⟨by omega, fun row hr => ?_⟩
      rcases Nat.lt_or_ge 20 row.length with h3 | h3
      · exact absurd (List.any_eq_true.2 ⟨row, hr, by simpa [bigR] using h3⟩) h2
      · exact h3
end Mc
set_option maxHeartbeats 1000000 in
theorem great_any (i o : Int) (rs : List (List Ed)) (A : Option Addr) (n c : Nat) (w : World) (hr : RdR w A rs) (hn : rs.length = n) :
    Calls Try.prog 10 #[.agg #[.int .i64 i, .int .i64 o, .slice A n c]] w fun e w' => e = .returned (.int .i64 (Mc.grt rs)) ∧ Below w.heap.size w w' := by
  have HN := Lib.hid hn
  have hb0 : Below (w.heap.size + 1) (boxM w i o A n c) (boxM w i o A n c) := Below.refl _ _
  by_cases h1 : 70 < n
  · have hf : Hid (Mc.grt rs = 1) := Mc.grt_long (by omega)
    have h1' : (70 : Int) < n := by omega
    clear hn
    go_enter Try.func10, Try.ntmps10
    go_wp2
    go_ret
    exact ⟨ret_int hf.out.symm, box_below hb0⟩
  · have h1' : ¬ (70 : Int) < n := by omega
    clear hn
    go_enter Try.func10, Try.ntmps10
    go_wp2
    go_loopw [3] (fun v wr => ∃ k : Nat, k ≤ n ∧ v = .int .i64 k ∧ Hid ((rs.take k).any Mc.bigR = false) ∧ Below (w.heap.size + 1) (boxM w i o A n c) wr) (fun v _ => n - (intOf v).toNat)
    case atStart => exact ⟨0, Nat.zero_le _, rfl, by simp [Hid], hb0⟩
    case round =>
      obtain ⟨k, hk, rfl, ha, hbr⟩ := hrel
      obtain ⟨q0, q1, q2⟩ := box_cells hbr
      by_cases hlt : k < n
      · obtain ⟨b, off, B, d, m, row, rfl, hb, hcw, _, _, _, _, hln, hq⟩ := hr.at_ (k := k) (by rw [HN.out]; exact hlt)
        have hc := ((bcell (box_below hbr)).1 b (off + k) hb).trans hcw
        by_cases h20 : 20 < m
        · have hf : Hid (Mc.grt rs = 1) := Mc.grt_hit hq.out (by rw [hln.out]; exact h20)
          have h20' : (20 : Int) < m := by omega
          go_wp2
          go_ret
          exact ⟨ret_int hf.out.symm, box_below hbr⟩
        · have h20' : ¬ (20 : Int) < m := by omega
          have hgo := Lib.hid (Mc.any_snoc hq.out ha.out (by rw [hln.out]; exact h20))
          go_wp2
          go_roundw
          case rel => exact ⟨k + 1, by omega, by go_num, hgo, hbr⟩
          case measure => simp [intOf]; omega
      · have hf : Hid (Mc.grt rs = 0) := by
          have h := ha.out
          rw [List.take_of_length_le (by rw [HN.out]; omega)] at h
          exact Mc.grt_no (by rw [HN.out]; exact h1) h
        go_wp2
        go_ret
        exact ⟨ret_int hf.out.symm, box_below hbr⟩
end Go.Proofs.Ytiohfflkolopeaa
