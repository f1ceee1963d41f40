/-
  Contracts: the reference: Union; the law's own: same, list. No statement is proved here.
-/
import Derived.Test.YtjodhihcckcefaaV5
import Derived.BigQuiet
namespace Go.Proofs.Ytjodhihcckcefaa
open Go.RowKit Go.Maps

set_option maxRecDepth 100000 in
set_option maxHeartbeats 1000000 in
theorem vunion_any (L K : Option Addr) (c d N N2 : Nat) (rows rows2 : List (List Int)) (w : World) (h : RdS w L rows) (h2 : RdS w K rows2) (hN : rows.length = N) (hN2 : rows2.length = N2) (hm : N + N2 ≤ 100000) (hall : Wl rows) (hall2 : Wl rows2) :
    Calls Try.prog 33 #[.slice L N c, .slice K N2 d] w fun e w' => ∃ A c q S, e = .returned (.slice A q c) ∧ S.length = q ∧ RdS w' A S ∧ M.asc S ∧ (∀ y, y ∈ S ↔ y ∈ rows ∨ y ∈ rows2) ∧ Below w.heap.size w w' := by
  have HN := Lib.hid (And.intro hN hN2)
  have HH := Lib.hid (And.intro h h2)
  have HA := Lib.hid (And.intro hall hall2)
  have hb0 := (Below.refl w.heap.size w).alloc (Nat.le_refl _) (.cells #[] 23)
  have hO0 : OwL false (w.alloc (.cells #[] 23)) w.heap.size (.slice (some ⟨w.heap.size, 0, none⟩) 0 0) [] := ⟨[], World.ownsRow_made (base := w.heap.size) (e := 23) (size := 1) w #[] 0 (Nat.le_refl _) (by unfold maxLen; omega) (by simp), fun k x h => by simp at h⟩
  clear hN hN2 h h2 hall hall2
  go_enter Try.func33, Try.ntmps33
  go_wp2_with (first
    | (at_builtin; refine wpList_append_ws _ hO0 HH.out.1 HN.out.1 (by simp; omega) hb0 rfl rfl _ _ rfl rfl rfl ?_; intro v1 w1 hO1 hb1)
    | (at_builtin; refine wpList_append_ws w1 hO1 HH.out.2 HN.out.2 (by simp; have := HN.out.1; omega) hb1 rfl rfl _ _ rfl rfl rfl ?_; intro v2 w2 hO2 hb2)
    | fail)
  rw [List.nil_append] at hO2
  obtain ⟨A, c2, rfl, hc2, _⟩ := hO2.form
  have hlen : (rows ++ rows2).length = N + N2 := by rw [List.length_append, HN.out.1, HN.out.2]
  have CS := Lib.hid (vsort_any A c2 (N + N2) (rows ++ rows2) w2 hO2.rds hlen hm (fun x hx => (List.mem_append.1 hx).elim (HA.out.1 x) (HA.out.2 x)))
  have HB := Lib.hid hb2
  rw [hlen]
  clear hO0 hb0 hO1 hb1 hO2 hb2 hlen hc2
  go_wp2_with fail
  refine CS.out.mono ?_
  rintro e w3 ⟨v, S, rfl, hO, ha, hm3, hb3⟩
  obtain ⟨A3, c3, rfl, _, _⟩ := hO.form
  obtain ⟨q, hq⟩ : ∃ q, S.length = q := ⟨_, rfl⟩
  have HX := Lib.hid (And.intro hq (And.intro hO.rds (And.intro ha (And.intro hm3 (below_next HB.out hb3)))))
  rw [hq]
  clear hq hO ha hm3 hb3
  go_wp2
  go_ret
  exact ⟨A3, c3, q, S, rfl, HX.out.1, HX.out.2.1, HX.out.2.2.1, fun y => by rw [HX.out.2.2.2.1, List.mem_append], HX.out.2.2.2.2⟩
set_option maxRecDepth 100000 in
theorem RdX.at_ {w : World} {A : Option Addr} {l : List (List Int)} (h : RdX w A l) {k : Nat} (hk : k < l.length) : ∃ b off B t, A = some ⟨b, off, none⟩ ∧ b < w.heap.size ∧ w.cell? ⟨b, off + k, none⟩ = some (.slice B t t) := by
  obtain ⟨b, off, e, hl, hc⟩ := h (by omega)
  obtain ⟨B, h1, _⟩ := hc k hk
  exact ⟨b, off, B, _, e, hl, h1⟩
set_option maxRecDepth 100000 in
set_option maxHeartbeats 1000000 in
theorem same_yes (A K : Option Addr) (q d : Nat) (l : List (List Int)) (w : World) (hx : RdX w A l) (hk : RdS w K l) (hq : l.length = q) (hm : q ≤ 1000000) (hall : Wl l) :
    Calls Try.prog 23 #[.slice A q q, .slice K q d] w fun e w' => e = .returned (.bool true) ∧ Below w.heap.size w w' := by
  have CS := Lib.hid (vsame_any A K q d q q l l w hx.rds hk hq hq hm hall true (by simp))
  have HX := Lib.hid hx
  have HQ := Lib.hid hq
  have d0 : ((q : Int) != (q : Int)) = false := by simp
  clear hx hk hq hall
  go_enter Try.func23, Try.ntmps23
  go_wp2_with fail
  refine CS.out.mono ?_
  rintro e w1 ⟨rfl, hb1⟩
  have HB1 := Lib.hid hb1
  clear hb1 CS
  go_wp2
  go_loopw [5] (fun v wr => ∃ k : Nat, k ≤ q ∧ v = .int .i64 k ∧ Hid (Below w.heap.size w wr)) (fun v _ => q - (intOf v).toNat)
  case atStart => exact ⟨0, Nat.zero_le _, rfl, HB1.out⟩
  case round =>
    obtain ⟨k, hk, rfl, hb⟩ := hrel
    by_cases hlt : k < q
    · obtain ⟨b, off, B, t, rfl, hbl, hc⟩ := (HX.out.below hb.out).at_ (k := k) (by rw [HQ.out]; exact hlt)
      have d1 : ((t : Int) != (t : Int)) = false := by simp
      go_wp2
      go_quiet (fail)
      go_wp2
      go_roundw
      case rel => exact ⟨k + 1, by omega, by go_num, below_drewN' hb.out _⟩
      case measure => simp [intOf]; omega
    · obtain rfl : k = q := by omega
      go_wp2
      go_ret
      exact ⟨rfl, hb.out⟩
theorem list_any (A : Option Addr) (n c : Nat) (w : World) : Calls Try.prog 16 #[.slice A n c] w fun e w' => e = .returned (.slice A n c) ∧ w' = w := by
  go_enter Try.func16, Try.ntmps16
  go_wp2
  go_ret
  exact ⟨rfl, rfl⟩
end Go.Proofs.Ytjodhihcckcefaa
