/-
  Contracts: refines.sign.
-/
import Derived.Test.YtnodnfailjmpeaaSkC
import Derived.Test.YtnodnfailjmpeaaSMdZ
import Derived.Test.YtnodnfailjmpeaaRsM
import Derived.Deep.WholeRow
import Derived.Deep.MidRow
namespace Go.Proofs.Ytnodnfailjmpeaa
open Go.RowKit
open Mc (Ed Ma)

/-- Block g is known whole: the cells of a signature. -/
def BlkG (w : World) (g : Nat) (cs : List Int) : Prop := w.heap[g]? = some (.cells (ints cs).toArray 187 (0, 0))
theorem BlkG.at_ {w : World} {g : Nat} {cs : List Int} (h : BlkG w g cs) {k : Nat} (hk : k < cs.length) : ∃ z, w.cell? ⟨g, k, none⟩ = some (.int .i64 z) ∧ w.frozen? ⟨g, k, none⟩ = false := by
  refine ⟨cs[k], ?_, ?_⟩
  · rw [cell_of_row w g k _ _ (0, 0) h]
    simp [ints, hk]
  · unfold BlkG at h
    simp [World.frozen?, h]
theorem BlkG.set_ {w : World} {g : Nat} {cs : List Int} (h : BlkG w g cs) (k : Nat) (v : Int) : BlkG (w.setCell ⟨g, k, none⟩ (.int .i64 v)) g (cs.set k v) := by
  unfold BlkG at h ⊢
  simp [World.setCell, Array.getElem?_modify, h, ints, List.map_set]
theorem sig_info : (Try.prog.info? 187).map (·.size) = some 33 := by kernel_rfl

theorem sig_built (z : Int) : Try.prog.built 187 [(0, .int .i64 z)] = some (ints (z :: List.replicate 32 0)).toArray := by kernel_rfl
theorem ints_cells (cs : List Int) : (ints cs).toArray.all (·.oneCell') = true := by simp [ints, Value.oneCell']
theorem ints_arr (cs : List Int) : (ints cs).toArray.size = cs.length := by simp [ints]
theorem wpList_build_eq {P : Program} {ops : Array Oper} {rest : List Oper} {o : Oper} {a : Act} {w : World} {Q : Exit → Act → World → Prop} (hg : o.guard = none) (t : TypeId) (parts : Array (Nat × Operand)) (ho : o.op = .build t parts)
    (C : Array Value) (hf : P.built t (parts.map fun (i, x) => (i, a.eval x)).toList = some C)
    (h : wpList P ops Q rest (a.put o.dst (.agg C)) w) : wpList P ops Q (o :: rest) a w :=
  wpList_build hg t parts ho (by rw [hf]; rfl) (by rw [hf]; exact h)

set_option maxRecDepth 100000 in
set_option maxHeartbeats 1000000 in
theorem sign_any (m : Ma) (i o : Int) (R P : Option Addr) (n c d s : Nat) (p : List Int) (w : World) (v : Mc.Val m) (hi : m.i = i) (hr : RdR w R m.r) (hn : m.r.length = n) (hp : Rd w P p) (hl : p.length = n) (hs : s < n) :
    Calls Try.prog 131 #[.agg #[.int .i64 i, .int .i64 o, .slice R n c], .slice P n d, .int .i64 s] w fun e w' => e = .returned (.agg (ints (Mc.sgR m p s m.i.toNat)).toArray) ∧ Below w.heap.size w w' := by
  obtain ⟨b, off, B, c2, ni, row, rfl, hb, hc, hle, hm, hno, hrow, hrl, hrs⟩ := hr.at_ (k := s) (by omega)
  obtain ⟨pb, po, rfl⟩ := hp.opn (by omega)
  obtain ⟨z, hzb, hzc, hz⟩ := hp.cl (k := s) (by omega)
  obtain ⟨C, hC⟩ : ∃ C, (ints (z :: List.replicate 32 0)).toArray = C := ⟨_, rfl⟩
  have HB : Hid (Try.prog.built 187 [(0, .int .i64 z)] = some C) := by show _ = _; rw [sig_built, hC]
  have HC : Hid (C = (ints (Mc.sgR m p s 0)).toArray) := by show _ = _; rw [← hC, Mc.sgR_zero, hz.out]
  have HS : Hid (C.size = 33) := by show _ = _; rw [← hC, ints_arr]; rfl
  have H1 : Hid (C.all (·.oneCell') = true) := by show _ = _; rw [← hC]; exact ints_cells _
  clear hC hz
  go_enter Try.func131, Try.ntmps131
  go_upto_region 1 with fail
  obtain ⟨W0, hW0⟩ : ∃ W0, (w.alloc (.cells #[.int .i64 i, .int .i64 o, .slice (some ⟨b, off, none⟩) n c] 24)).alloc (.cells #[.int .i64 0, .int .i64 0, .int .i64 0, .int .i64 0, .int .i64 0, .int .i64 0, .int .i64 0, .int .i64 0, .int .i64 0, .int .i64 0, .int .i64 0, .int .i64 0, .int .i64 0, .int .i64 0, .int .i64 0, .int .i64 0, .int .i64 0, .int .i64 0, .int .i64 0, .int .i64 0, .int .i64 0, .int .i64 0, .int .i64 0, .int .i64 0, .int .i64 0, .int .i64 0, .int .i64 0, .int .i64 0, .int .i64 0, .int .i64 0, .int .i64 0, .int .i64 0, .int .i64 0] 187) = W0 := ⟨_, rfl⟩
  rw [hW0]
  have hb0 : Below w.heap.size w W0 := by rw [← hW0]; exact ((Below.refl _ _).alloc (Nat.le_refl _) _).alloc (by simp) _
  have hs0 : W0.heap.size = w.heap.size + 1 + 1 := by rw [← hW0]; simp
  have hM0 : BxM W0 w.heap.size i o (some ⟨b, off, none⟩) n c := by
    rw [← hW0]
    exact (BxM.new w i o (some ⟨b, off, none⟩) n c).mvB ((Below.refl _ _).alloc (Nat.le_refl _) _)
  have hZ0 : Hid (∃ old, W0.heap[w.heap.size + 1]? = some (.cells old 187 (0, 0)) ∧ old.size = 33) := by
    have h := heap_alloc_new (w.alloc (.cells #[.int .i64 i, .int .i64 o, .slice (some ⟨b, off, none⟩) n c] 24)) (.cells #[.int .i64 0, .int .i64 0, .int .i64 0, .int .i64 0, .int .i64 0, .int .i64 0, .int .i64 0, .int .i64 0, .int .i64 0, .int .i64 0, .int .i64 0, .int .i64 0, .int .i64 0, .int .i64 0, .int .i64 0, .int .i64 0, .int .i64 0, .int .i64 0, .int .i64 0, .int .i64 0, .int .i64 0, .int .i64 0, .int .i64 0, .int .i64 0, .int .i64 0, .int .i64 0, .int .i64 0, .int .i64 0, .int .i64 0, .int .i64 0, .int .i64 0, .int .i64 0, .int .i64 0] 187)
    rw [World.size_alloc, hW0] at h
    exact ⟨_, h, rfl⟩
  clear hW0
  have hzc0 := (hb0.cell (p := ⟨pb, po + s, none⟩) hzb).trans hzc
  have hpb0 : pb < W0.heap.size := by omega
  have HA : Hid (∀ O, (W0.alloc O).heap[w.heap.size + 1 + 1]? = some O) := fun O => by rw [← hs0]; exact heap_alloc_new W0 O
  have HR : Hid (∀ c c' t, (W0.alloc (.cells c t)).setRow (w.heap.size + 1 + 1) c' = W0.alloc (.cells c' t)) := fun c c' t => by rw [← hs0]; exact World.setRow_alloc_new W0 c c' t
  go_upto_region 2 with (first
    | (refine wpList_build_eq rfl _ _ rfl C (by have h := HB.out; simpa [Act.eval] using h) ?_)
    | (refine wpList_store_row rfl 187 _ _ rfl (w.heap.size + 1 + 1) C rfl rfl 187 _ (HA.out _) (by rw [HS.out]; exact sig_info) (by rw [HS.out]; rfl) H1.out ?_; rw [HR.out]))
  obtain ⟨W1, hW1⟩ : ∃ W1, W0.alloc (.cells C 187) = W1 := ⟨_, rfl⟩
  rw [hW1]
  have hb1 : Below w.heap.size w W1 := by rw [← hW1]; exact hb0.alloc (by omega) _
  have hG1 : Hid (BlkG W1 (w.heap.size + 1 + 1) (Mc.sgR m p s 0)) := by
    show BlkG _ _ _
    unfold BlkG
    rw [← hW1, HA.out, HC.out]
  have hZ1 : Hid (∃ old, W1.heap[w.heap.size + 1]? = some (.cells old 187 (0, 0)) ∧ old.size = 33) := by
    obtain ⟨old, h1, h2⟩ := hZ0.out
    exact ⟨old, by rw [← hW1]; exact (((Below.refl _ _).alloc (Nat.le_refl _) _).block _ (heap_lt h1)).trans h1, h2⟩
  have hM1 : BxM W1 w.heap.size i o (some ⟨b, off, none⟩) n c := by rw [← hW1]; exact hM0.mvB ((Below.refl _ _).alloc (Nat.le_refl _) _)
  have hs1 : w.heap.size + 1 + 1 + 1 ≤ W1.heap.size := by rw [← hW1]; simp; omega
  clear hW1 HA HR HB HC HS H1 hM0 hZ0 hzc0 hs0 hpb0 hb0
  obtain ⟨_, _, x2⟩ := BxM.cells hM1
  have hc1 := (hb1.cell (p := ⟨b, off + s, none⟩) hb).trans hc
  go_wp2_with fail
  clear x2 hM1 hc1 hzc hc
  have hnm : Hid ((ni : Int) = m.i) := by
    have := v.len row (List.mem_of_getElem? hrs.out)
    have := hrl.out
    show _ = _
    omega
  have hi16 := v.i1
  have hni : ni ≤ 16 := by have := hnm.out; omega
  go_loopw [21] (fun x wr => ∃ k : Nat, k ≤ ni ∧ x = .int .i64 k ∧ Hid (BlkG wr (w.heap.size + 1 + 1) (Mc.sgR m p s k)) ∧ Hid (∃ old, wr.heap[w.heap.size + 1]? = some (.cells old 187 (0, 0)) ∧ old.size = 33) ∧ Hid (Below w.heap.size w wr) ∧ w.heap.size + 1 + 1 + 1 ≤ wr.heap.size) (fun x _ => ni - (intOf x).toNat)
  case atStart => exact ⟨0, Nat.zero_le _, rfl, hG1, hZ1, hb1, hs1⟩
  case round =>
    clear hG1 hZ1 hb1 hs1
    obtain ⟨k, hk, rfl, hG, hZ, hbr, hsz⟩ := hrel
    by_cases hlt : k < ni
    · have hrow2 := hrow.keep hbr.out.size (fun b o hb => (bcell hbr.out).1 b o hb)
      obtain ⟨rb, ro, x, y, rfl, hrb, hx, hy, hxy⟩ := hrow2.at_ (k := k) (by have := hrl.out; omega)
      have hnx : Hid (Mc.nx m s k = (x, y)) := Mc.nx_at hrs.out hxy.out
      obtain ⟨X, hX⟩ : ∃ X, wr.alloc (.cells #[.int .i64 x, .int .i64 y] 26) = X := ⟨_, rfl⟩
      have qX : Below wr.heap.size wr X := by rw [← hX]; exact (Below.refl _ _).alloc (Nat.le_refl _) _
      have gX : BlkG X (w.heap.size + 1 + 1) (Mc.sgR m p s k) := (qX.block _ (heap_lt hG.out)).trans hG.out
      have eX : X.heap[wr.heap.size]? = some (.cells #[.int .i64 x, .int .i64 y] 26) := by rw [← hX]; exact heap_alloc_new wr _
      obtain ⟨u1, c1, f1⟩ := gX.at_ (k := 1 + k) (by rw [Mc.sgR_len]; omega)
      have gY := gX.set_ (1 + k) y
      have eY := (Below.heap_setCell X ⟨w.heap.size + 1 + 1, 1 + k, none⟩ (.int .i64 y) wr.heap.size (by show wr.heap.size ≠ w.heap.size + 1 + 1; omega)).trans eX
      obtain ⟨u2, c2, f2⟩ := gY.at_ (k := 17 + k) (by simp [Mc.sgR_len]; omega)
      have gZ := gY.set_ (17 + k) (-1)
      have eZ := (Below.heap_setCell (X.setCell ⟨w.heap.size + 1 + 1, 1 + k, none⟩ (.int .i64 y)) ⟨w.heap.size + 1 + 1, 17 + k, none⟩ (.int .i64 (-1)) wr.heap.size (by show wr.heap.size ≠ w.heap.size + 1 + 1; omega)).trans eY
      obtain ⟨u3, c3, f3⟩ := gZ.at_ (k := 17 + k) (by simp [Mc.sgR_len]; omega)
      have gW := gZ.set_ (17 + k)
      have z0 := cell_of_row _ wr.heap.size 0 _ _ _ eZ
      have z1 := cell_of_row _ wr.heap.size 1 _ _ _ eX
      simp only [List.getElem?_toArray, List.getElem?_cons_zero, List.getElem?_cons_succ] at z0 z1
      have hk16 : k < 16 := by omega
      have hbX := (below_next hbr.out qX)
      have hbZ := (hbX.setCell (p := ⟨w.heap.size + 1 + 1, 1 + k, none⟩) (by show _ ≤ w.heap.size + 1 + 1; omega) (.int .i64 y)).setCell (p := ⟨w.heap.size + 1 + 1, 17 + k, none⟩) (by show _ ≤ w.heap.size + 1 + 1; omega) (.int .i64 (-1))
      clear hrow2
      have HY := Lib.hid gY
      have HZ := Lib.hid gZ
      have HW := Lib.hid gW
      have HBZ := Lib.hid hbZ
      have HEX := Lib.hid eZ
      obtain ⟨ol, ol1, ol2⟩ := hZ.out
      have hOZ := Lib.hid ((Below.heap_setCell (X.setCell ⟨w.heap.size + 1 + 1, 1 + k, none⟩ (.int .i64 y)) ⟨w.heap.size + 1 + 1, 17 + k, none⟩ (.int .i64 (-1)) (w.heap.size + 1) (by show w.heap.size + 1 ≠ w.heap.size + 1 + 1; omega)).trans ((Below.heap_setCell X ⟨w.heap.size + 1 + 1, 1 + k, none⟩ (.int .i64 y) (w.heap.size + 1) (by show w.heap.size + 1 ≠ w.heap.size + 1 + 1; omega)).trans ((qX.block _ (by omega)).trans ol1)))
      have HOL := Lib.hid ol2
      have hsX := qX.size
      clear gY gZ gW hbZ eZ eY eX gX ol1 ol2 hZ hG
      go_upto_region 5 with fail
      try rw [hX]
      clear hX
      by_cases hx1 : x = -1
      · subst hx1
        clear c3 f3
        go_wp2_with fail
        go_roundw
        case rel =>
          refine ⟨k + 1, by omega, by go_num, ?_, ⟨ol, hOZ.out, HOL.out⟩, HBZ.out, by simp; omega⟩
          have := Mc.sgR_step m p s hk16
          rw [hnx.out] at this
          show BlkG _ _ _
          rw [← this]
          exact HZ.out
        case measure => simp [intOf]; omega
      · obtain ⟨t, ht, htn⟩ : ∃ t : Nat, x = t ∧ t < n := by
          obtain ⟨a, _⟩ := Mc.nx_st v (s := (s : Int)) (i := (k : Int)) (Or.inr ⟨by omega, by omega⟩) ⟨by omega, by have := hnm.out; omega⟩
          rw [hnx.out] at a
          rcases a with a | ⟨a1, a2⟩
          · exact absurd a hx1
          · exact ⟨x.toNat, by simp at a1; omega, by simp at a2; omega⟩
        subst ht
        have hx2 : ((t : Int) == -1) = false := by simp
        have hx3 : ((t : Int) != -1) = true := by simp
        obtain ⟨q, hqb, hqc, hq⟩ := hp.cl (k := t) (by omega)
        have hq4 := (HBZ.out.cell (p := ⟨pb, po + t, none⟩) hqb).trans hqc
        clear hx1 hqc
        go_wp2_with fail
        go_roundw
        case rel =>
          refine ⟨k + 1, by omega, by go_num, ?_, ?_, ?_, by simp; omega⟩
          · have h0 := HW.out q
            have := Mc.sgR_step m p s hk16
            rw [hnx.out] at this
            show BlkG _ _ _
            rw [List.set_set] at h0
            rw [Mc.tgt_nat, hq.out] at this
            rw [← this]
            exact h0
          · exact ⟨ol, (Below.heap_setCell _ _ _ _ (by show w.heap.size + 1 ≠ w.heap.size + 1 + 1; omega)).trans hOZ.out, HOL.out⟩
          · exact HBZ.out.setCell (p := ⟨w.heap.size + 1 + 1, 17 + k, none⟩) (by show _ ≤ w.heap.size + 1 + 1; omega) _
        case measure => simp [intOf]; omega
    · obtain rfl : k = ni := by omega
      obtain ⟨ol, ol1, ol2⟩ := hZ.out
      have HO := Lib.hid ol1
      have HOL := Lib.hid ol2
      have hI : m.i.toNat = k := by have := hnm.out; omega
      clear hZ ol1 ol2
      have HCS : Hid ((ints (Mc.sgR m p s k)).toArray.size = 33) := by show _ = _; rw [ints_arr, Mc.sgR_len]
      have HCC := Lib.hid (ints_cells (Mc.sgR m p s k))
      have hGG : Hid (wr.heap[w.heap.size + 1 + 1]? = some (.cells (ints (Mc.sgR m p s k)).toArray 187 (0, 0))) := hG.out
      clear hG
      obtain ⟨D, hD⟩ : ∃ D, (ints (Mc.sgR m p s k)).toArray = D := ⟨_, rfl⟩
      have HD : Hid (D = (ints (Mc.sgR m p s m.i.toNat)).toArray) := by show _ = _; rw [hI, hD]
      rw [hD] at HCS HCC hGG
      clear hD hI
      go_wp2_with (first
        | (refine wpList_load_row rfl 187 _ rfl (w.heap.size + 1 + 1) rfl 187 D (0, 0) _ hGG.out Try.underlying187 rfl (by rw [HCS.out]; exact sig_info) ?_)
        | (refine wpList_store_row rfl 187 _ _ rfl (w.heap.size + 1) D rfl rfl 187 ol HO.out (by rw [HCS.out]; exact sig_info) (by rw [HCS.out, HOL.out]) HCC.out ?_)
        | fail)
      try simp only [Exit.inBlock, Exit.then]
      refine bodyPost_ret (results_cell_row rfl _ _ (w.heap.size + 1) 187 D (0, 0) _ rfl (setRow_heap wr _ ol D _ (0, 0) HO.out) Try.underlying187 rfl (by rw [HCS.out]; exact sig_info)) rfl ?_
      exact ⟨by rw [HD.out], below_setRow hbr.out (by omega) _⟩
end Go.Proofs.Ytnodnfailjmpeaa
