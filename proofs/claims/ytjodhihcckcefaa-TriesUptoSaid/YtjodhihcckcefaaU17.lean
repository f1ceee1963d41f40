/-
  Contracts: a new node of a trie. No statement is proved here.
-/
import Derived.Test.YtjodhihcckcefaaU16
namespace Go.Proofs.Ytjodhihcckcefaa
open Go.RowKit Go.Maps

theorem node_info : (Try.prog.info? 64).map (·.size) = some 2 := by kernel_rfl
set_option maxRecDepth 100000 in
set_option maxHeartbeats 1000000 in
theorem newNode_any (n : Nat) (w : World) (hn : n ≤ 65536) :
    Calls Try.prog 71 #[.int .i64 n] w fun e w' => ∃ g, w.heap.size ≤ g ∧ e = .returned (.agg #[.slice (some ⟨g, 0, none⟩) n n, .bool false]) ∧ Blk w' g (List.replicate n (-1)) ∧ Below w.heap.size w w' := by
  obtain ⟨x, hx⟩ : ∃ x : List Int, List.replicate n (-1) = x := ⟨_, rfl⟩
  have hxl : x.length = n := by rw [← hx]; simp
  have hxa : ∀ k, k < n → x[k]?.getD 0 = -1 := fun k hk => by rw [← hx, List.getElem?_replicate, if_pos hk]; rfl
  rw [hx]
  have HX := Lib.hid hxl
  have HA := Lib.hid hxa
  obtain ⟨W, hW⟩ : ∃ W, w.alloc (.cells #[.slice none 0 0, .bool false] 64) = W := ⟨_, rfl⟩
  have hbW : Below w.heap.size w W := by rw [← hW]; exact (Below.refl _ _).alloc (Nat.le_refl _) _
  have hcl : W.heap[w.heap.size]? = some (.cells #[.slice none 0 0, .bool false] 64 (0, 0)) := by rw [← hW]; exact heap_alloc_new _ _
  have hzW : W.heap.size = w.heap.size + 1 := by rw [← hW]; simp
  have HW := Lib.hid (And.intro hbW (And.intro hcl hzW))
  clear hxl hxa hx hbW hcl hzW
  go_enter Try.func71, Try.ntmps71
  go_wp2_with (first
    | (refine wpList_make_ints W rfl _ _ rfl _ n rfl rfl rfl (by omega) ?_; intro w1 hB1 hb1)
    | fail)
  have s1 : Hid (Blk w1 W.heap.size (wr0 x 0)) := by rw [wr0_none, HX.out]; exact hB1.out
  have b1 := Lib.hid hb1
  clear hB1 hb1
  go_wp2
  go_loopw [9] (fun v wr => ∃ k : Nat, k ≤ n ∧ v = .int .i64 k ∧ Hid (Blk wr W.heap.size (wr0 x k)) ∧ Hid (Below W.heap.size W wr)) (fun v _ => n - (intOf v).toNat)
  case atStart => exact ⟨0, Nat.zero_le _, rfl, s1.out, b1.out⟩
  case round =>
    clear s1 b1
    obtain ⟨k, hk, rfl, hB, hb⟩ := hrel
    by_cases hlt : k < n
    · have hkl : k < x.length := by rw [HX.out]; exact hlt
      obtain ⟨z1, hd, hf, _⟩ := hB.out.at_ (k := k) (by rw [wr0_len x (by omega)]; exact hkl)
      have hB2 : Hid (Blk (wr.setCell ⟨W.heap.size, k, none⟩ (.int .i64 (-1))) W.heap.size (wr0 x (k + 1))) := by
        rw [← wr0_set x hkl (HA.out k hlt)]
        exact hB.out.set_ _ _
      have hb2 := Lib.hid (hb.out.setCell (p := ⟨W.heap.size, k, none⟩) (by show W.heap.size ≤ W.heap.size; omega) (.int .i64 (-1)))
      clear hB hb
      go_wp2
      go_roundw
      case rel => exact ⟨k + 1, by omega, by go_num, hB2, hb2⟩
      case measure => simp [intOf]; omega
    · obtain rfl : k = n := by omega
      have hall : Hid (Blk wr W.heap.size x) := by
        have := hB.out
        rw [← HX.out, wr0_all] at this
        exact this
      clear hB
      have hcl2 : wr.heap[w.heap.size]? = some (.cells #[.slice none 0 0, .bool false] 64 (0, 0)) := (hb.out.block _ (by rw [HW.out.2.2]; omega)).trans HW.out.2.1
      have c0 : wr.cell? ⟨w.heap.size, 0, none⟩ = some (.slice none 0 0) := by rw [cell_of_row _ _ _ _ _ _ hcl2]; rfl
      have c1 : wr.cell? ⟨w.heap.size, 1, none⟩ = some (.bool false) := by rw [cell_of_row _ _ _ _ _ _ hcl2]; rfl
      have f0 : ∀ o, wr.frozen? ⟨w.heap.size, o, none⟩ = false := fun o => by simp [World.frozen?, hcl2]
      have f1 := f0 0
      have f2 := f0 1
      have hbw := below_next HW.out.1 hb.out
      go_wp2
      refine bodyPost_ret (results_cell_row rfl _ _ w.heap.size 64 _ (0, 0) _ rfl (heap_setCell_same _ w.heap.size 1 _ _ (Value.bool false) (heap_setCell_same wr w.heap.size 0 _ _ (Value.slice (some ⟨W.heap.size, 0, none⟩) k k) hcl2)) Try.underlying64 rfl (node_info.trans (by simp))) rfl ?_
      refine ⟨W.heap.size, by rw [HW.out.2.2]; omega, rfl, ?_, (hbw.setCell (p := ⟨w.heap.size, 0, none⟩) (by show w.heap.size ≤ w.heap.size; omega) _).setCell (p := ⟨w.heap.size, 1, none⟩) (by show w.heap.size ≤ w.heap.size; omega) _⟩
      have hne : W.heap.size ≠ w.heap.size := by rw [HW.out.2.2]; omega
      exact ((Below.heap_setCell _ _ _ _ hne).trans (Below.heap_setCell _ _ _ _ hne)).trans hall.out
end Go.Proofs.Ytjodhihcckcefaa
