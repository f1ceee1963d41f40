/-
  Contracts: whether a node has no next one. No statement is proved here.
-/
import Derived.Test.YtjodhihcckcefaaU9
namespace Go.Proofs.Ytjodhihcckcefaa
open Go.RowKit Go.Maps

theorem leaf1_any (x : Int) (w : World) : Calls Try.prog 91 #[.int .i64 x] w fun e w' => e = .returned (.bool (x != -1)) ∧ w' = w := by
  go_enter Try.func91, Try.ntmps91
  go_wp2
  go_ret
  exact ⟨rfl, rfl⟩
/-- Whether a node has a next one. -/
def nxB (zs : List Int) : Bool := zs.any fun z => z != -1
set_option maxRecDepth 100000 in
set_option maxHeartbeats 1000000 in
theorem index_any (A : Option Addr) (n c : Nat) (zs : List Int) (w : World) (h : Rd w A zs) (hn : zs.length = n) (hm : n ≤ 1000000000) :
    Calls Try.prog 99 #[.slice A n c, .func (.func 91) #[] #[]] w fun e w' => (∃ r : Int, e = .returned (.int .i64 r) ∧ decide (r ≥ 0) = nxB zs) ∧ w' = w := by
  obtain ⟨R, hR⟩ : ∃ R, nxB zs = R := ⟨_, rfl⟩
  rw [hR]
  have HR := Lib.hid hR
  have HN := Lib.hid hn
  have HH := Lib.hid h
  clear hR hn h
  go_enter Try.func99, Try.ntmps99
  go_wp2
  go_loopw [8] (fun v wr => ∃ k : Nat, k ≤ n ∧ v = .int .i64 k ∧ Hid (nxB (zs.take k) = false) ∧ wr = w) (fun v _ => n - (intOf v).toNat)
  case atStart => exact ⟨0, Nat.zero_le _, rfl, rfl, rfl⟩
  case round =>
    obtain ⟨k, hk, rfl, hf, rfl⟩ := hrel
    by_cases hlt : k < n
    · have hkl : k < zs.length := by rw [HN.out]; exact hlt
      obtain ⟨b, off, z, rfl, hb, hc, hz⟩ := HH.out.at_ hkl
      have HT := Lib.hid (take_snoc' zs k hkl)
      rw [hz.out] at HT
      have CL := Lib.hid (leaf1_any z wr)
      cases hq : (z != -1) with
      | false =>
        rw [hq] at CL
        have hN2 : Hid (nxB (zs.take (k + 1)) = false) := by
          show _ = _
          rw [HT.out]
          have h1 := hf.out
          unfold nxB at h1 ⊢
          rw [List.any_append, h1]
          simp [hq]
        clear hq hf HT
        go_wp2_with fail
        refine CL.out.mono ?_
        rintro e w1 ⟨rfl, rfl⟩
        go_wp2
        go_roundw
        case rel => exact ⟨k + 1, by omega, by go_num, hN2, trivial⟩
        case measure => simp [intOf]; omega
      | true =>
        rw [hq] at CL
        obtain rfl : R = true := by
          rw [← HR.out]
          unfold nxB
          refine List.any_eq_true.2 ⟨z, ?_, hq⟩
          rw [← hz.out, List.getElem?_eq_getElem hkl]
          exact List.getElem_mem hkl
        clear hq hf HT
        go_wp2_with fail
        refine CL.out.mono ?_
        rintro e w1 ⟨rfl, rfl⟩
        go_wp2
        go_ret
        exact ⟨⟨k, rfl, decide_eq_true (by omega)⟩, rfl⟩
    · obtain rfl : k = n := by omega
      obtain rfl : R = false := by
        have := hf.out
        rw [List.take_of_length_le (by rw [HN.out]; omega)] at this
        rw [← HR.out, this]
      clear hf
      go_wp2
      go_ret
      exact ⟨⟨-1, rfl, by decide⟩, rfl⟩
set_option maxRecDepth 100000 in
theorem containsf_any (A : Option Addr) (n c : Nat) (zs : List Int) (w : World) (h : Rd w A zs) (hn : zs.length = n) (hm : n ≤ 1000000000) :
    Calls Try.prog 90 #[.slice A n c, .func (.func 91) #[] #[]] w fun e w' => e = .returned (.bool (nxB zs)) ∧ w' = w := by
  have CI := Lib.hid (index_any A n c zs w h hn hm)
  obtain ⟨R, hR⟩ : ∃ R, nxB zs = R := ⟨_, rfl⟩
  rw [hR] at CI ⊢
  clear h hn hR
  go_enter Try.func90, Try.ntmps90
  go_wp2_with fail
  refine CI.out.mono ?_
  rintro e w1 ⟨⟨r, rfl, hr⟩, rfl⟩
  go_wp2
  go_ret
  exact ⟨by rw [← hr]; rfl, rfl⟩
set_option maxRecDepth 100000 in
theorem isLeaf_any (A : Option Addr) (n c : Nat) (zs : List Int) (b : Bool) (w : World) (h : Rd w A zs) (hn : zs.length = n) (hm : n ≤ 1000000000) :
    Calls Try.prog 77 #[.agg #[.slice A n c, .bool b]] w fun e w' => e = .returned (.bool (!nxB zs)) ∧ Below w.heap.size w w' := by
  have hb := (Below.refl w.heap.size w).alloc (Nat.le_refl _) (.cells #[.slice A n c, .bool b] 64)
  have CI := Lib.hid (containsf_any A n c zs _ (h.below hb) hn hm)
  have HB := Lib.hid hb
  obtain ⟨R, hR⟩ : ∃ R, nxB zs = R := ⟨_, rfl⟩
  rw [hR] at CI ⊢
  clear h hn hR hb
  go_enter Try.func77, Try.ntmps77
  go_wp2_with fail
  refine CI.out.mono ?_
  rintro e w1 ⟨rfl, rfl⟩
  go_wp2
  go_ret
  exact ⟨rfl, HB.out⟩
end Go.Proofs.Ytjodhihcckcefaa
