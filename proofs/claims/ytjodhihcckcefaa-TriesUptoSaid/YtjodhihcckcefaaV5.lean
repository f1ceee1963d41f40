/-
  Contracts: the reference: Sort. No statement is proved here.
-/
import Derived.Test.YtjodhihcckcefaaV4
import Derived.Test.YtjodhihcckcefaaU13
namespace Go.Proofs.Ytjodhihcckcefaa
open Go.RowKit Go.Maps

set_option maxRecDepth 100000 in
set_option maxHeartbeats 1000000 in
theorem vsort_any (L : Option Addr) (c N : Nat) (rows : List (List Int)) (w : World) (h : RdS w L rows) (hN : rows.length = N) (hm : N ≤ 100000) (hall : Wl rows) :
    Calls Try.prog 24 #[.slice L N c] w fun e w' => ∃ v S, e = .returned v ∧ OwL false w' w.heap.size v S ∧ M.asc S ∧ (∀ y, y ∈ S ↔ y ∈ rows) ∧ Below w.heap.size w w' := by
  have HN := Lib.hid hN
  have HH := Lib.hid h
  have HA := Lib.hid hall
  clear hN h hall
  go_enter Try.func24, Try.ntmps24
  go_wp2
  go_loopw [3, 4] (fun v z wr => ∃ (k : Nat) (S : List (List Int)), k ≤ N ∧ z = .int .i64 k ∧ Hid (OwL false wr w.heap.size v S) ∧ Hid (M.asc S ∧ ∀ y, y ∈ S ↔ y ∈ rows.take k) ∧ Hid (Below w.heap.size w wr)) (fun _ z _ => N - (intOf z).toNat)
  case atStart => exact ⟨0, [], Nat.zero_le _, rfl, OwL.nil_ _ _, ⟨List.Pairwise.nil, fun y => by simp⟩, Below.refl _ _⟩
  case round =>
    obtain ⟨k, S, hk, rfl, hO, hS, hb⟩ := hrel
    by_cases hlt : k < N
    · have hkl : k < rows.length := by rw [HN.out]; exact hlt
      obtain ⟨b, off, A, cc, m, rfl, hbl, hc0, hrd, hml⟩ := HH.out.at_ hkl
      have hc := ((bcell hb.out).1 b (off + k) hbl).trans hc0
      have hsub : ∀ y ∈ S, y ∈ rows.take k := fun y hy => (hS.out.2 y).1 hy
      have hSl := nodup_le_len (M.asc_nodup hS.out.1) hsub
      rw [List.length_take] at hSl
      have hml2 := HA.out _ (M.row_mem hkl)
      have CP := Lib.hid (vput_any w.heap.size m cc _ S A (M.row rows k) wr hO.out hb.out.size hS.out.1 (by omega) (fun y hy => HA.out y (List.mem_of_mem_take (hsub y hy))) (RdK.old hrd hb.out (Nat.le_refl _) hb.out.size) hml.out (by have := hml.out; omega))
      have HT := Lib.hid (take_row hkl)
      obtain ⟨x, hx⟩ : ∃ x, M.row rows k = x := ⟨_, rfl⟩
      rw [hx] at CP HT
      clear hrd hx hc0 hO hsub hSl hml hml2
      go_wp2_with fail
      refine CP.out.mono ?_
      rintro e w1 ⟨v', S', rfl, hO1, ha1, hm1, hb1⟩
      have HO1 := Lib.hid hO1
      have HS1 : Hid (M.asc S' ∧ ∀ y, y ∈ S' ↔ y ∈ rows.take (k + 1)) := ⟨ha1, fun y => by rw [hm1, hS.out.2, HT.out, List.mem_append, List.mem_singleton]⟩
      have HB := Lib.hid (hb.out.trans hb1)
      clear hO1 ha1 hm1 hb1 hb hS CP hc
      go_wp2
      go_roundw
      case rel => exact ⟨k + 1, S', by omega, by go_num, HO1, HS1, HB⟩
      case measure => simp [intOf]; omega
    · obtain rfl : k = N := by omega
      have hS2 := hS.out
      rw [List.take_of_length_le (by rw [HN.out]; omega)] at hS2
      have HS2 := Lib.hid hS2
      clear hS hS2
      go_wp2
      go_ret
      exact ⟨_, S, rfl, hO.out, HS2.out.1, HS2.out.2, hb.out⟩
end Go.Proofs.Ytjodhihcckcefaa
