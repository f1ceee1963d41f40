/-
  Contracts: the law's partitions as plain data: Size and Of; the reference's Text.
-/
import Derived.Test.YtnhibkkkpmaddaaDoorC5
namespace Go.Proofs.YtnhibkkkpmaddaaDoor
open Go.RowKit

theorem psize_any (A : Option Addr) (c : Nat) (xs : List Int) (w : World) (hm : xs.length ≤ 9223372036854775807) :
    Calls Tryd.prog 25 #[.agg #[.slice A xs.length c]] w fun e w' => e = .returned (.int .i64 (min xs.length 14 : Nat)) ∧ Below w.heap.size w w' := by
  by_cases h : xs.length ≤ 14
  · have h1 : Hid (min xs.length 14 = xs.length) := Nat.min_eq_left h
    have h2 : ¬ (14 : Int) < xs.length := by omega
    go_enter Tryd.func25, Tryd.ntmps25
    go_wp2
    go_ret
    exact ⟨ret_int (by have := h1.out; omega), (Below.refl _ _).alloc (Nat.le_refl _) _⟩
  · have h1 : Hid (min xs.length 14 = 14) := Nat.min_eq_right (by omega)
    have h2 : (14 : Int) < xs.length := by omega
    go_enter Tryd.func25, Tryd.ntmps25
    go_wp2
    go_ret
    exact ⟨ret_int (by have := h1.out; omega), (Below.refl _ _).alloc (Nat.le_refl _) _⟩

theorem gz_far {xs : List Int} {k : Nat} (h : ¬ k < xs.length) : M.gz xs k = 0 := by
  unfold M.gz
  rw [List.getElem?_eq_none (by omega)]
  rfl

set_option maxRecDepth 100000 in
set_option maxHeartbeats 1000000 in
theorem pof_any (A : Option Addr) (c : Nat) (xs : List Int) (n : Nat) (w : World) (h : Rd8 w A xs) (hn : n ≤ 256) :
    Calls Tryd.prog 26 #[.agg #[.slice A xs.length c], .int .i64 n] w (Built w (M.ofL (M.pad xs n))) := by
  obtain ⟨i0, hi0, hz0, hz1, hz2⟩ := info_parts int_info
  go_enter Tryd.func26, Tryd.ntmps26
  go_wp2
  go_loopw [5, 6] (fun v i wr => ∃ (k : Nat) (ys : List Int) (A2 : Option Addr) (c2 : Nat), k ≤ n ∧ i = .int .i64 k ∧ v = .slice A2 k c2 ∧ wr.ownsRow (w.heap.size + 1) 3 1 (.slice A2 k c2) k (ints ys) ∧ Hid (ys = M.pad xs k) ∧ Below (w.heap.size + 1) (w.alloc (.cells #[.slice A xs.length c] 50)) wr) (fun _ i _ => n - (intOf i).toNat)
  case atStart => exact ⟨0, [], none, 0, Nat.zero_le _, rfl, rfl, World.ownsRow_nil _ _ _ _, rfl, Below.refl _ _⟩
  case round =>
    obtain ⟨k, ys, A2, c2, hk, rfl, rfl, hown, hys, hbr⟩ := hrel
    have hsz := hbr.size
    have hsz2 : w.heap.size + 1 ≤ wr.heap.size := by simpa using hsz
    have hcell : wr.cell? ⟨w.heap.size, 0, none⟩ = some (.slice A xs.length c) := by
      rw [hbr.cell (p := ⟨w.heap.size, 0, none⟩) (by simp), World.cell?_alloc_at _ _ _ _ rfl]; rfl
    have hbw : Below w.heap.size w wr := ((Below.refl _ _).alloc (Nat.le_refl _) _).trans (hbr.mono (by omega))
    by_cases hlt : k < n
    · by_cases hkx : k < xs.length
      · have hr : Rd8 wr A xs := h.below hbw
        obtain ⟨b, off, z, rfl, hb, hc, hq0, hq1, hz⟩ := hr.at_ hkx
        have hys' : Hid (ys ++ [z] = M.pad xs (k + 1)) := by rw [Hid, M.pad_succ, hys.out]; exact congrArg (fun u => M.pad xs k ++ [u]) hz.out.symm
        clear hys hbw
        go_wp2_with (at_builtin; refine wpList_append_own _ rfl _ _ 22 rfl (w.heap.size + 1) 3 i0 (.int .i64 0) 1 8 Tryd.underlying22 hi0 hz0 hz1 hz2 rfl (by decide) _ _ _ rfl (hown.alloc _) ⟨wr.heap.size, 0, none⟩ 1 1 [.int .i64 z] rfl rfl (cell_one_new _ _ _) (by intro u hu; simp at hu; subst hu; rfl) (by unfold maxLen; omega) (by omega) (by simp; omega) ?_; intro v1 w1 hown1 hg1 _)
        obtain ⟨hown2, hbr2⟩ := own_step hbr hsz2 hown hown1 hg1
        obtain ⟨A3, c3, rfl, _, _⟩ := own_form hown2
        clear hown1 hg1 hown
        go_wp2
        go_roundw
        case rel => exact ⟨k + 1, _, A3, c3, by omega, by go_num, rfl, hown2, hys', hbr2⟩
        case measure => simp [intOf] <;> omega
      · have hys' : Hid (ys ++ [0] = M.pad xs (k + 1)) := by rw [Hid, M.pad_succ, hys.out, gz_far hkx]
        clear hys hbw
        go_wp2_with (at_builtin; refine wpList_append_own _ rfl _ _ 22 rfl (w.heap.size + 1) 3 i0 (.int .i64 0) 1 8 Tryd.underlying22 hi0 hz0 hz1 hz2 rfl (by decide) _ _ _ rfl (hown.alloc _) ⟨wr.heap.size, 0, none⟩ 1 1 [.int .i64 0] rfl rfl (cell_one_new _ _ _) (by intro u hu; simp at hu; subst hu; rfl) (by unfold maxLen; omega) (by omega) (by simp; omega) ?_; intro v1 w1 hown1 hg1 _)
        obtain ⟨hown2, hbr2⟩ := own_step hbr hsz2 hown hown1 hg1
        obtain ⟨A3, c3, rfl, _, _⟩ := own_form hown2
        clear hown1 hg1 hown
        go_wp2
        go_roundw
        case rel => exact ⟨k + 1, _, A3, c3, by omega, by go_num, rfl, hown2, hys', hbr2⟩
        case measure => simp [intOf] <;> omega
    · have : k = n := by omega
      subst this
      have hc := rof_at A2 c2 k ys wr (Rd.of_own hown) (own_len hown) (by omega)
      rw [hys.out] at hc
      go_wp2_with fail
      refine hc.mono ?_
      rintro e w1 ⟨A3, c3, rfl, hr3, hc3, hb3⟩
      go_wp2
      go_ret
      exact ⟨A3, c3, rfl, hr3, hc3, below_next hbw hb3⟩
end Go.Proofs.YtnhibkkkpmaddaaDoor
