/-
  The law's own edge, clipped, machine, nothing. No statement is proved here.
-/
import Derived.Test.YtgafpmgdpigliaaJoD
import Derived.Test.YtgafpmgdpigliaaWd0
import Derived.Deep.QuietTactic
namespace Go.Proofs.Ytgafpmgdpigliaa
open Go.RowKit
open Mc (Ed Ma Wv nE)

theorem jedge_any (x y : Int) (w : World) : Calls Try.prog 31 #[.int .i64 x, .int .i64 y] w fun e w' => e = .returned (.agg #[.int .i64 x, .int .i64 y]) ∧ Below w.heap.size w w' := by
  go_enter Try.func31, Try.ntmps31
  go_wp2
  go_returns
  exact ⟨rfl, (Below.refl _ _).alloc (Nat.le_refl _) _⟩
set_option maxRecDepth 100000 in
set_option maxHeartbeats 2000000 in
theorem nothing_yes (x : Int) (w : World) : Calls Try.prog 22 #[.agg #[.int .i64 0, .int .i64 0, .slice none 0 0], .int .i64 x, .int .i64 x] w fun e w' => e = .returned (.bool true) ∧ Below w.heap.size w w' := by
  have hx : (x == x) = true := by simp
  go_enter Try.func22, Try.ntmps22
  go_wp2
  go_ret
  exact ⟨rfl, (Below.refl _ _).alloc (Nat.le_refl _) _⟩
set_option maxRecDepth 100000 in
set_option maxHeartbeats 2000000 in
theorem clipped_yes (i o : Int) (rs : List (List Ed)) (p k : Nat) (w : World) (hm : Ex w p k rs) :
    Calls Try.prog 20 #[.agg #[.int .i64 i, .int .i64 o, .slice (some ⟨p, 0, none⟩) k k]] w fun e w' => e = .returned (.bool true) ∧ Below w.heap.size w w' := by
  have hk : k ≤ 1000000 := by obtain ⟨gs, h1, h2, h3, _⟩ := hm; exact h3
  have HM := Lib.hid hm
  have hb0 : Hid (Below w.heap.size w (w.alloc (.cells #[.int .i64 i, .int .i64 o, .slice (some ⟨p, 0, none⟩) k k] 24))) := (Below.refl _ _).alloc (Nat.le_refl _) _
  have hx0 : Hid (BxM (w.alloc (.cells #[.int .i64 i, .int .i64 o, .slice (some ⟨p, 0, none⟩) k k] 24)) w.heap.size i o (some ⟨p, 0, none⟩) k k) := BxM.new w _ _ _ _ _
  clear hm
  go_enter Try.func20, Try.ntmps20
  go_wp2
  go_loopw [3] (fun v wr => ∃ s : Nat, s ≤ k ∧ v = .int .i64 s ∧ Hid (Below w.heap.size w wr) ∧ Hid (BxM wr w.heap.size i o (some ⟨p, 0, none⟩) k k)) (fun v _ => k - (intOf v).toNat)
  case atStart => exact ⟨0, Nat.zero_le _, rfl, hb0, hx0⟩
  case round =>
    obtain ⟨s, hs, rfl, hb, hx⟩ := hrel
    clear hb0 hx0
    obtain ⟨x0, x1, x2⟩ := hx.out.cells
    by_cases hsk : s < k
    · have hs1 : (s : Int) < k := by omega
      obtain ⟨A9, n9, c9⟩ := (HM.out.below hb.out).at_ hsk
      have hnn : ((n9 : Int) == n9) = true := by simp
      go_wp2_with fail
      go_quiet (fail)
      obtain ⟨W3, hW3⟩ : ∃ W3, wr.drewN nq = W3 := ⟨_, rfl⟩
      have hbd : Below wr.heap.size wr W3 := by rw [← hW3]; exact below_drewN' (Below.refl _ _) _
      rw [hW3]
      have HB := Lib.hid (below_next hb.out hbd)
      have HX := Lib.hid (hx.out.mvB hbd)
      clear hW3 hbd x0 x1 x2 c9 hb hx
      go_wp2
      go_roundw
      case rel => exact ⟨s + 1, by omega, by go_num, HB, HX⟩
      case measure => simp [intOf]; omega
    · have hkk : ((k : Int) == k) = true := by simp
      go_wp2
      go_ret
      exact ⟨rfl, hb.out⟩
set_option maxRecDepth 100000 in
set_option maxHeartbeats 2000000 in
theorem jmachine_yes (i o : Int) (rs : List (List Ed)) (p k d : Nat) (B : Option Addr) (w : World) (hm : Ex w p k rs) (hb : RdR w B rs) :
    Calls Try.prog 25 #[.agg #[.int .i64 i, .int .i64 o, .slice (some ⟨p, 0, none⟩) k k], .int .i64 0, .agg #[.int .i64 i, .int .i64 o, .slice B k d]] w fun e w' => e = .returned (.bool true) ∧ Below w.heap.size w w' := by
  obtain ⟨gs, h1, h2, h3, h4, h5⟩ := id hm
  have hb0 : Below w.heap.size w ((w.alloc (.cells #[.int .i64 i, .int .i64 o, .slice (some ⟨p, 0, none⟩) k k] 24)).alloc (.cells #[.int .i64 i, .int .i64 o, .slice B k d] 24)) := ((Below.refl _ _).alloc (Nat.le_refl _) _).alloc (by simp) _
  have hxa : BxM ((w.alloc (.cells #[.int .i64 i, .int .i64 o, .slice (some ⟨p, 0, none⟩) k k] 24)).alloc (.cells #[.int .i64 i, .int .i64 o, .slice B k d] 24)) w.heap.size i o (some ⟨p, 0, none⟩) k k := (BxM.new w i o (some ⟨p, 0, none⟩) k k).mvB ((Below.refl _ _).alloc (Nat.le_refl _) _)
  have CS := Lib.hid (fun W hW => rmsame_yes ⟨i, o, rs⟩ i o (some ⟨p, 0, none⟩) B k k d W rfl rfl h2 (hm.below hW).rd (hb.below hW) h3 h4)
  have CC := Lib.hid (fun W (hW : Below w.heap.size w W) => clipped_yes i o rs p k W (hm.below hW))
  have HB0 := Lib.hid hb0
  have HXA := Lib.hid hxa
  clear hb0 hxa hm hb h1 h2 h3 h4 h5
  go_enter Try.func25, Try.ntmps25
  go_wp2_with fail
  refine (CS.out _ HB0.out).mono ?_
  rintro e w1 ⟨rfl, hb1⟩
  obtain ⟨x0, x1, x2⟩ := (HXA.out.mvB hb1).cells
  have HB1 := Lib.hid (below_next HB0.out hb1)
  clear hb1
  go_wp2_with fail
  refine (CC.out _ HB1.out).mono ?_
  rintro e w2 ⟨rfl, hb2⟩
  have HB2 := Lib.hid (below_next HB1.out hb2)
  clear hb2
  go_wp2
  go_ret
  exact ⟨rfl, HB2.out⟩
end Go.Proofs.Ytgafpmgdpigliaa
