/-
  Contract: the reference's Check of a word. No statement is proved here.
-/
import Derived.Test.YtonnplhiaidjnaaScA
namespace Go.Proofs.Ytonnplhiaidjnaa
open Go.RowKit

set_option maxHeartbeats 400000 in
theorem rwcheck_loop (A : Option Addr) (c : Nat) (zs : List Int) (n : Int) (w : World) (h : Rd w A zs) (h1 : n ≤ 16) (h2 : (zs.length : Int) ≤ 256) (h3 : 1 ≤ n) :
    Calls Try.prog 46 #[.slice A zs.length c, .int .i64 n] w fun e w' => e = .returned (.int .i64 (M.badI n zs)) ∧ Below w.heap.size w w' := by
  go_enter Try.func46, Try.ntmps46
  go_wp2
  go_loop [5] (fun i => ∃ k : Nat, k ≤ zs.length ∧ i = .int .i64 k ∧ Hid ((zs.take k).any (M.badB n) = false)) (fun i => zs.length - (intOf i).toNat)
  case atStart => exact ⟨0, Nat.zero_le _, rfl, by simp [Hid]⟩
  case round =>
    obtain ⟨k, hk, rfl, hn⟩ := hrel
    by_cases hlt : k < zs.length
    · obtain ⟨b, off, z, rfl, hb, hc, hz⟩ := h.at_ hlt
      by_cases hbad : M.badB n z = true
      · have hfin : Hid (M.badI n zs = 1) := M.badI_hit hlt (by rw [hz.out]; exact hbad)
        rcases M.badB_true hbad with hz | hz
        · go_wp2
          go_ret
          exact ⟨ret_int hfin.out.symm, Below.refl _ _⟩
        · by_cases hz2 : z < 0
          all_goals
            go_wp2
            go_ret
            exact ⟨ret_int hfin.out.symm, Below.refl _ _⟩
      · obtain ⟨hz1, hz2⟩ := M.badB_false hbad
        have hn' : Hid ((zs.take (k + 1)).any (M.badB n) = false) := M.any_snoc hlt hn.out (by rw [hz.out]; simpa using hbad)
        clear hbad
        go_wp2
        go_round
        case rel => exact ⟨k + 1, by omega, by go_num, hn'⟩
        case measure => simp [intOf]; omega
    · go_wp2
      go_ret
      have : zs.take k = zs := List.take_of_length_le (by omega)
      have hn := hn.out
      rw [this] at hn
      exact ⟨ret_int (M.badI_clean hn).symm, Below.refl _ _⟩
theorem rwcheck_any (A : Option Addr) (c : Nat) (zs : List Int) (n : Int) (w : World) (h : Rd w A zs) :
    Calls Try.prog 46 #[.slice A zs.length c, .int .i64 n] w fun e w' => e = .returned (.int .i64 (M.check zs n)) ∧ Below w.heap.size w w' := by
  by_cases h1 : 16 < n
  · have hf : Hid (M.check zs n = 3) := M.check_limit (.inl h1)
    go_enter Try.func46, Try.ntmps46
    go_wp2
    go_ret
    exact ⟨ret_int hf.out.symm, Below.refl _ _⟩
  · by_cases h2 : 256 < zs.length
    · have hf : Hid (M.check zs n = 3) := M.check_limit (.inr h2)
      go_enter Try.func46, Try.ntmps46
      go_wp2
      go_ret
      exact ⟨ret_int hf.out.symm, Below.refl _ _⟩
    · by_cases h3 : n < 1
      · have hf : Hid (M.check zs n = 1) := M.check_arg (by omega) h3
        go_enter Try.func46, Try.ntmps46
        go_wp2
        go_ret
        exact ⟨ret_int hf.out.symm, Below.refl _ _⟩
      · rw [M.check_in (by omega) (by omega) (by omega)]
        exact rwcheck_loop A c zs n w h (by omega) (by omega) (by omega)
end Go.Proofs.Ytonnplhiaidjnaa
