/-
  Contracts: blankRow, blank, check of joins. No statement is proved here.
-/
import Derived.Test.YtgafpmgdpigliaaEa2
import Derived.Test.YtgafpmgdpigliaaWcZ
import Derived.Test.YtgafpmgdpigliaaJoM
namespace Go.Proofs.Ytgafpmgdpigliaa
open Go.RowKit
open Mc (Ed Ma Wv nE)

theorem rowB_cells {W : World} {g k : Nat} {row : List Ed} {x : Ed} (h : W.heap[g]? = some (.cells (eC row).toArray 27 (0, 0))) (hx : row[k]? = some x) :
    W.cell? ⟨g, k * 2, none⟩ = some (.int .i64 x.1) ∧ W.cell? ⟨g, k * 2 + 1, none⟩ = some (.int .i64 x.2) := by
  refine ⟨?_, ?_⟩
  · rw [cell_of_row _ g _ _ _ (0, 0) h]
    simpa using (eC_at hx).1
  · rw [cell_of_row _ g _ _ _ (0, 0) h]
    simpa using (eC_at hx).2
theorem blk_frz {W : World} {g : Nat} {cs : Array Value} {t : TypeId} (h : W.heap[g]? = some (.cells cs t (0, 0))) (o : Nat) : W.frozen? ⟨g, o, none⟩ = false := by simp only [World.frozen?, h]; simp
theorem rowB_put {W : World} {g k : Nat} {row : List Ed} (h : W.heap[g]? = some (.cells (eC row).toArray 27 (0, 0))) (hk : k < row.length) (x : Ed) :
    ((W.setCell ⟨g, k * 2, none⟩ (.int .i64 x.1)).setCell ⟨g, k * 2 + 1, none⟩ (.int .i64 x.2)).heap[g]? = some (.cells (eC (row.set k x)).toArray 27 (0, 0)) := by
  rw [← eC_set row k x hk]
  simp [World.setCell, Array.getElem?_modify, h]
theorem rnC_full {row : List Ed} {i : Nat} (h : row.length = i) : rnC row i i = row := rnC_all h
/-- What blankRow hands back. -/
def BrP (w : World) (n : Nat) (e : Ending) (w' : World) : Prop := ∃ g, e = .returned (.slice (some ⟨g, 0, none⟩) n n) ∧ w'.heap[g]? = some (.cells (eC (List.replicate n nE)).toArray 27 (0, 0)) ∧ w.heap.size ≤ g ∧ Below w.heap.size w w'
set_option maxRecDepth 100000 in
set_option maxHeartbeats 1000000 in
theorem blankRow_any (n : Nat) (w : World) (hn : n ≤ 1000) : Calls Try.prog 84 #[.int .i64 n] w (BrP w n) := by
  go_enter Try.func84, Try.ntmps84
  go_wp2_with (at_make; go_loud (refine wpList_make_edgesZ _ rfl _ _ rfl _ n rfl rfl rfl (by omega) ?_))
  obtain ⟨g, hg⟩ : ∃ g, w.heap.size = g := ⟨_, rfl⟩
  have h0 : Hid ((w.alloc (.cells (eC (List.replicate n (0, 0))).toArray 27)).heap[g]? = some (.cells (eC (rnC (List.replicate n nE) n 0)).toArray 27 (0, 0))) := by
    show _ = _
    rw [rnC_zero, ← hg]
    exact heap_alloc_new w _
  have hb0 : Hid (Below w.heap.size w (w.alloc (.cells (eC (List.replicate n (0, 0))).toArray 27))) := (Below.refl _ _).alloc (Nat.le_refl _) _
  rw [hg]
  have HG := Lib.hid hg
  clear hg
  go_wp2
  go_loopw [9] (fun v wr => ∃ k : Nat, k ≤ n ∧ v = .int .i64 k ∧ Hid (wr.heap[g]? = some (.cells (eC (rnC (List.replicate n nE) n k)).toArray 27 (0, 0))) ∧ Hid (Below w.heap.size w wr)) (fun v _ => n - (intOf v).toNat)
  case atStart => exact ⟨0, Nat.zero_le _, rfl, h0, hb0⟩
  case round =>
    obtain ⟨k, hk, rfl, hB, hb⟩ := hrel
    clear h0 hb0
    by_cases hlt : k < n
    · have hrl : (List.replicate n nE).length = n := List.length_replicate
      have hcl := rnC_len hrl hk
      obtain ⟨x, hx⟩ : ∃ x, (rnC (List.replicate n nE) n k)[k]? = some x := ⟨_, List.getElem?_eq_getElem (by rw [hcl]; exact hlt)⟩
      obtain ⟨c0, c1⟩ := rowB_cells hB.out hx
      have cf := blk_frz hB.out
      have hB2 := rowB_put hB.out (k := k) (by rw [hcl]; exact hlt) nE
      rw [rnC_set hrl (by rw [List.getElem?_replicate, if_pos hlt])] at hB2
      have HB2 := Lib.hid hB2
      have HB3 := Lib.hid ((hb.out.setCell (p := ⟨g, k * 2, none⟩) (by show w.heap.size ≤ g; have := HG.out; omega) (.int .i64 (-1))).setCell (p := ⟨g, k * 2 + 1, none⟩) (by show w.heap.size ≤ g; have := HG.out; omega) (.int .i64 (-1)))
      clear hB hb hx hcl hrl hB2
      go_wp2
      go_roundw
      case rel => exact ⟨k + 1, by omega, by go_num, HB2, HB3⟩
      case measure => simp [intOf]; omega
    · obtain rfl : k = n := by omega
      have HF : Hid (BrP w k (.returned (.slice (some ⟨g, 0, none⟩) k k)) wr) := ⟨g, rfl, by have h := hB.out; rwa [rnC_full List.length_replicate] at h, by have := HG.out; omega, hb.out⟩
      clear hB hb
      go_wp2
      go_ret
      exact HF.out
/-- One row more, which a call has made. -/
theorem Wb.pushC {base p n g : Nat} {rs : List (List Ed)} {gs : List Nat} {W W' : World} {row : List Ed} (h : Wb base p n rs gs W) (hl : gs.length < n) (hn : n = rs.length) (hr : rs[gs.length]? = some row) (hb : base ≤ W.heap.size)
    (hk : Below W.heap.size W W') (hg : W'.heap[g]? = some (.cells (eC row).toArray 27 (0, 0))) (hgl : W.heap.size ≤ g) :
    Wb base p n rs (gs ++ [g]) (W'.setCell ⟨p, gs.length, none⟩ (.slice (some ⟨g, 0, none⟩) row.length row.length)) := by
  have hpl : p < W.heap.size := heap_lt h.blk
  have h' := h.below hk
  have hg1 := heap_lt hg
  refine ⟨?_, fun k g2 row' h1 h2 => ?_, fun g2 hg2 => ?_, ?_, h.p0⟩
  · rw [← set_row hl hn hr]
    simp [World.setCell, Array.getElem?_modify, h'.blk]
  · rw [List.getElem?_append] at h1
    split at h1
    · obtain ⟨o1, o2, o3⟩ := h.own g2 (List.mem_of_getElem? h1)
      exact (Below.heap_setCell _ _ _ _ o2).trans (h'.row k g2 row' h1 h2)
    · rename_i hge
      have hk : k = gs.length := by
        have := (List.getElem?_eq_some_iff.1 h1).1
        simp at this; omega
      subst hk
      simp at h1
      subst h1
      rw [hr] at h2
      injection h2 with h2
      subst h2
      have hne : g ≠ p := by omega
      exact (Below.heap_setCell _ _ _ _ hne).trans hg
  · rcases List.mem_append.1 hg2 with hg2 | hg2
    · obtain ⟨o1, o2, o3⟩ := h.own g2 hg2
      exact ⟨o1, o2, by have := hk.size; simp [World.setCell]; omega⟩
    · simp at hg2
      subst hg2
      exact ⟨by omega, by omega, by simp [World.setCell]; omega⟩
  · rw [List.nodup_append]
    refine ⟨h.inj, by simp, fun a ha b hb' => ?_⟩
    simp at hb'
    subst hb'
    have h5 := (h.own a ha).2.2
    omega
/-- What blank hands back. -/
def BlP (w : World) (i o : Int) (rs : List (List Ed)) (n : Nat) (e : Ending) (w' : World) : Prop := ∃ p gs, e = .returned (.agg #[.int .i64 i, .int .i64 o, .slice (some ⟨p, 0, none⟩) n n]) ∧ gs.length = n ∧ Wb w.heap.size p n rs gs w' ∧ Below w.heap.size w w'
set_option maxRecDepth 100000 in
set_option maxHeartbeats 1000000 in
theorem blank_any (i : Nat) (o : Int) (n : Nat) (w : World) (hi : i ≤ 1000) (hn : n ≤ 1000) :
    Calls Try.prog 63 #[.int .i64 i, .int .i64 o, .int .i64 n] w (BlP w i o (List.replicate n (List.replicate i nE)) n) := by
  have hb0 : Hid (Below w.heap.size w (w.alloc (.cells #[.int .i64 0, .int .i64 0, .slice none 0 0] 24))) := (Below.refl _ _).alloc (Nat.le_refl _) _
  have hz0 : BxM (w.alloc (.cells #[.int .i64 0, .int .i64 0, .slice none 0 0] 24)) w.heap.size 0 0 none 0 0 := BxM.new w 0 0 none 0 0
  obtain ⟨T, hT⟩ : ∃ T, List.replicate n (List.replicate i nE) = T := ⟨_, rfl⟩
  have hTl : Hid (T.length = n) := by show _ = _; rw [← hT]; exact List.length_replicate
  have hTa : Hid (∀ k, k < n → T[k]? = some (List.replicate i nE)) := fun k hk => by rw [← hT, List.getElem?_replicate, if_pos hk]
  rw [hT]
  clear hT
  go_enter Try.func63, Try.ntmps63
  go_wp2_with (at_make; go_loud (refine wpList_make_rowsZ _ rfl _ _ rfl n T rfl rfl (by omega) (w.heap.size + 1) (by simp) ?_))
  intro w3 hW3 hb3
  have hb3 : Below (w.alloc (.cells #[.int .i64 0, .int .i64 0, .slice none 0 0] 24)).heap.size (w.alloc (.cells #[.int .i64 0, .int .i64 0, .slice none 0 0] 24)) w3 := by rw [World.size_alloc]; exact hb3
  have HZ := Lib.hid (hz0.mvB hb3)
  have HB := Lib.hid (below_next hb0.out hb3)
  have HW := Lib.hid hW3
  have hps : w.heap.size + 1 ≤ w3.heap.size := by have := heap_lt hW3.blk; omega
  clear hz0 hb0 hW3 hb3
  go_wp2
  go_loopw [13] (fun v wr => ∃ (k : Nat) (gs : List Nat), k ≤ n ∧ v = .int .i64 k ∧ Hid (gs.length = k) ∧ Hid (Wb (w.heap.size + 1) (w.heap.size + 1) n T gs wr) ∧ Hid (BxM wr w.heap.size 0 0 none 0 0) ∧ Hid (Below w.heap.size w wr)) (fun v _ => n - (intOf v).toNat)
  case atStart => exact ⟨0, [], Nat.zero_le _, rfl, rfl, HW, HZ, HB⟩
  case round =>
    obtain ⟨k, gs, hk, rfl, hgs, hW, hZ, hb⟩ := hrel
    clear HW HZ HB hps
    by_cases hlt : k < n
    · have hb1 : w.heap.size + 1 ≤ wr.heap.size := by have := heap_lt hW.out.blk; omega
      go_wp2_with fail
      refine (blankRow_any i _ hi).mono ?_
      rintro e w4 ⟨g, rfl, hg, hgl, hb4⟩
      obtain ⟨v0, x0, x1⟩ := (hW.out.below hb4).cell (k := k) (by rw [hgs.out]; omega) (by rw [hgs.out, hTl.out]; omega)
      have hR := hW.out.pushC (row := List.replicate i nE) (g := g) (W' := w4) (by rw [hgs.out]; exact hlt) hTl.out.symm (by rw [hgs.out]; exact hTa.out k hlt) hb1 hb4 hg hgl
      rw [hgs.out, List.length_replicate] at hR
      have HR := Lib.hid hR
      have hgs' : Hid ((gs ++ [g]).length = k + 1) := by
        show _ = _
        rw [List.length_append, hgs.out]
        rfl
      have HZ2 : Hid (BxM (w4.setCell ⟨w.heap.size + 1, k, none⟩ (.slice (some ⟨g, 0, none⟩) i i)) w.heap.size 0 0 none 0 0) := (hZ.out.mvB hb4).farS (by omega) _
      have HB2 := Lib.hid ((below_next hb.out hb4).setCell (p := ⟨w.heap.size + 1, k, none⟩) (by show w.heap.size ≤ w.heap.size + 1; omega) (.slice (some ⟨g, 0, none⟩) i i))
      clear hR hg hb4 hW hZ hb hgs
      go_wp2
      go_roundw
      case rel => exact ⟨k + 1, gs ++ [g], by omega, by go_num, hgs', HR, HZ2, HB2⟩
      case measure => simp [intOf]; omega
    · obtain rfl : k = n := by omega
      obtain ⟨e0, e1, e2⟩ := hZ.out.cells
      obtain ⟨f0, f1, f2⟩ := hZ.out.frozen
      obtain ⟨r0, r1, r2⟩ := set3_reads hZ.out (.int .i64 (i : Int)) (.int .i64 o) (.slice (some ⟨w.heap.size + 1, 0, none⟩) k k)
      have HF : Hid (BlP w i o T k (.returned (.agg #[.int .i64 (i : Int), .int .i64 o, .slice (some ⟨w.heap.size + 1, 0, none⟩) k k])) (((wr.setCell ⟨w.heap.size, 0, none⟩ (.int .i64 (i : Int))).setCell ⟨w.heap.size, 1, none⟩ (.int .i64 o)).setCell ⟨w.heap.size, 2, none⟩ (.slice (some ⟨w.heap.size + 1, 0, none⟩) k k))) := by
        refine ⟨w.heap.size + 1, gs, rfl, hgs.out, ?_, below_set3' hb.out (Nat.le_refl _) _ _ _⟩
        have h1 := hW.out
        have h2 : Wb w.heap.size (w.heap.size + 1) k T gs wr := ⟨h1.blk, h1.row, fun g hg => ⟨by have := (h1.own g hg).1; omega, (h1.own g hg).2⟩, h1.inj, by omega⟩
        exact ((h2.far (by omega) (fun g hg => by have := (h1.own g hg).1; omega) _).far (by omega) (fun g hg => by have := (h1.own g hg).1; omega) _).far (by omega) (fun g hg => by have := (h1.own g hg).1; omega) _
      clear hW hZ hb hgs
      go_wp2
      refine bodyPost_ret (v := .agg #[.int .i64 (i : Int), .int .i64 o, .slice (some ⟨w.heap.size + 1, 0, none⟩) k k]) (by simp [results, Try.f63, go_sem, r0, r1, r2]) rfl ?_
      exact HF.out
end Go.Proofs.Ytgafpmgdpigliaa
