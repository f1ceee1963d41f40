/-
  Contracts: the reference's Text and Parse.
-/
import Derived.Test.YtodjdfpealmjeaaDoorW11
import Derived.Deep.CutRange
namespace Go.Proofs.YtodjdfpealmjeaaDoor
open Go.RowKit

set_option maxRecDepth 100000 in
set_option maxHeartbeats 400000 in
theorem rtext_any (A : Option Addr) (c : Nat) (zs : List Int) (w : World) (h : Rd w A zs) (hv : M.I64 zs) (hl : zs.length ≤ 100000) :
    Calls Tryd.prog 29 #[.slice A zs.length c] w fun e w' => e = .returned (.string ⟨(M.textL zs).toArray⟩) ∧ Below w.heap.size w w' := by
  by_cases h0 : zs = []
  · subst h0
    rw [M.textL_nil]
    go_enter Tryd.func29, Tryd.ntmps29
    go_wp2
    go_ret
    exact ⟨rfl, Below.refl _ _⟩
  · have hp : 0 < zs.length := List.length_pos_iff.2 h0
    have hne : ((zs.length : Int) == 0) = false := by simp; omega
    have HT := Lib.hid (M.txB_done hp)
    obtain ⟨b, off, z, rfl, hb, hc, hz⟩ := h.at_ hp
    rw [Nat.add_zero] at hc
    have hz2 := hv.at_ hp
    rw [hz.out] at hz2
    obtain ⟨hz3, hz4⟩ := hz2
    have H1 := Lib.hid (M.txB_one hp hz.out)
    clear h0
    go_enter Tryd.func29, Tryd.ntmps29
    go_wp2_with fail
    refine (number_any z _ hz3 hz4).mono ?_
    rintro e w1 ⟨rfl, rfl⟩
    rw [H1.out]
    clear hc hz hz3 hz4
    go_wp2
    go_loopw [3, 4] (fun t i wr => ∃ k : Nat, 1 ≤ k ∧ k ≤ zs.length ∧ i = .int .i64 k ∧ t = .string (M.txB zs k) ∧ Below w1.heap.size w1 wr) (fun _ i _ => zs.length - (intOf i).toNat)
    case atStart => exact ⟨1, Nat.le_refl _, hp, rfl, rfl, Below.refl _ _⟩
    case round =>
      obtain ⟨k, hk1, hk, rfl, rfl, hbr⟩ := hrel
      by_cases hlt : k < zs.length
      · obtain ⟨b2, off2, z, hA, hb2, hc, hz⟩ := (h.below hbr).at_ hlt
        injection hA with hA
        injection hA with e1 e2
        subst e1 e2
        have hz2 := hv.at_ hlt
        rw [hz.out] at hz2
        obtain ⟨hz3, hz4⟩ := hz2
        have HS := Lib.hid (M.txB_snoc hk1 hlt hz.out)
        have hs1 := M.txB_size hv k hk1 (by omega)
        have hs2 := M.numB_size hz3 hz4
        go_wp2_with fail
        refine (number_any z _ hz3 hz4).mono ?_
        rintro e w2 ⟨rfl, rfl⟩
        have hs3 : ((⟨#[32]⟩ : ByteArray) ++ M.numB z).size ≤ 22 := by rw [ByteArray.size_append]; exact Nat.add_le_add (Nat.le_refl 1) hs2
        go_wp2
        go_roundw
        case rel => exact ⟨k + 1, by omega, by omega, by go_num, by rw [HS.out], hbr⟩
        case measure => simp [intOf]; omega
      · obtain rfl : k = zs.length := by omega
        rw [HT.out]
        go_wp2
        go_ret
        exact ⟨rfl, hbr⟩

end Go.Proofs.YtodjdfpealmjeaaDoor
