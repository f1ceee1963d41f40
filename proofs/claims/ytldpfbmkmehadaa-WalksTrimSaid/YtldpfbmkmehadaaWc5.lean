/-
  Contracts: Canonical, IsCanonical. No statement is proved here.
-/
import Derived.Test.YtldpfbmkmehadaaWc3
namespace Go.Proofs.Ytldpfbmkmehadaa
open Go.RowKit
open Mc (Ed Ma)

set_option maxRecDepth 100000 in
set_option maxHeartbeats 2000000 in
theorem wcanon_ok (m : Ma) (A : Option Addr) (c : Nat) (w : World) (V : Mc.Val m) (hr : RdR w A m.r) :
    Calls Try.prog 28 #[.agg #[.int .i64 m.i, .int .i64 m.o, .slice A m.r.length c]] w (CanP w m) := by
  obtain ⟨hb0, hM0, hZ0⟩ := boxZ_lies w m.i m.o A m.r.length c
  obtain ⟨q0, q1, q2⟩ := hM0.cells
  have C := wcheck0 m V A c _ (hr.below hb0)
  have C2 := fun w1 (h : RdR w1 A m.r) => worder_any m A c w1 V h
  have C4 := Lib.hid (fun S n cS w1 h1 h2 h3 h4 => renum_any m V (Mc.ord m) (Mc.ord_cls V) A c S n cS w1 h1 h2 h3 h4)
  have HP := Lib.hid (Mc.ord_pos V)
  clear V
  go_enter Try.func28, Try.ntmps28
  go_wp2_with fail
  refine C.mono ?_
  rintro e w1 ⟨rfl, hb1⟩
  have hb2 := below_next hb0 hb1
  have hM1 := hM0.mvB hb1
  have hZ1 := hZ0.mvB hb1
  clear q0 q1 q2 C hb0 hb1 hM0 hZ0
  obtain ⟨q0, q1, q2⟩ := hM1.cells
  have HC2 := Lib.hid (C2 w1.drew (hr.below (below_next hb2 (Below.refl _ _).drew)))
  have hzl := heap_lt hM1
  have hzz := heap_lt hZ1
  clear C2
  go_wp2_with fail
  go_region_held3 (fun w' => w'.cell? ⟨w.heap.size, 0, none⟩ = some (.int .i64 m.i) ∧ w'.cell? ⟨w.heap.size, 1, none⟩ = some (.int .i64 m.o) ∧ w'.cell? ⟨w.heap.size, 2, none⟩ = some (.slice A m.r.length c))
    (first | exact ⟨m0, m1, m2⟩ | exact ⟨k0, k1, k2⟩ | exact ⟨g0, g1, g2⟩ | exact ⟨q0, q1, q2⟩ | go_keep)
    (first
      | (go_at_call 46
         (with_reducible refine (HC2.out).mono ?_)
         rintro e w2 ⟨g, q, rfl, hq, hg1, hB, hb3⟩
         have hb3' : Below w1.heap.size w1 w2 := below_next (Below.refl _ _).drew hb3
         have g0 := (hb3'.cell (p := ⟨w.heap.size, 0, none⟩) (by show w.heap.size < _; omega)).trans q0
         have g1 := (hb3'.cell (p := ⟨w.heap.size, 1, none⟩) (by show w.heap.size < _; omega)).trans q1
         have g2 := (hb3'.cell (p := ⟨w.heap.size, 2, none⟩) (by show w.heap.size < _; omega)).trans q2
         have hb4 := below_next hb2 hb3'
         have hM2 := hM1.mvB hb3'
         have hZ2 := hZ1.mvB hb3'
         have HC5 := Lib.hid (C4.out (some ⟨g, 0, none⟩) q q w2 (hr.below hb4) hB.out.rd hq.out (by have h1 := HP.out; have h2 := hq.out; omega))
         dsimp only)
      | (go_at_call 44
         (with_reducible refine (HC5.out).mono ?_)
         rintro e w3 ⟨p, k, gs, rfl, hk, hgs, hW, hb5⟩
         have hb6 := below_next hb4 hb5
         have hM3 := hM2.mvB hb5
         have hZ3 := hZ2.mvB hb5
         obtain ⟨k0, k1, k2⟩ := hM3.cells
         obtain ⟨z0, z1, z2⟩ := hZ3.cells
         obtain ⟨f0, f1, f2⟩ := hZ3.frozen
         have mm9 := fun (b o : Nat) (h : b ≠ w.heap.size + 1) => World.cell?_of_block (w := w3) (w' := ((w3.setCell ⟨w.heap.size + 1, 0, none⟩ (.int .i64 m.i)).setCell ⟨w.heap.size + 1, 1, none⟩ (.int .i64 m.o)).setCell ⟨w.heap.size + 1, 2, none⟩ (.slice (some ⟨p, 0, none⟩) k k)) (a := ⟨b, o, none⟩) ((Below.heap_setCell _ ⟨w.heap.size + 1, 2, none⟩ _ b h).trans ((Below.heap_setCell _ ⟨w.heap.size + 1, 1, none⟩ _ b h).trans (Below.heap_setCell _ ⟨w.heap.size + 1, 0, none⟩ _ b h)))
         have m0 := (mm9 w.heap.size 0 (by omega)).trans k0
         have m1 := (mm9 w.heap.size 1 (by omega)).trans k1
         have m2 := (mm9 w.heap.size 2 (by omega)).trans k2
         dsimp only)
      | fail)
  obtain ⟨r0, r1, r2⟩ := set3_reads hZ3 (.int .i64 m.i) (.int .i64 m.o) (.slice (some ⟨p, 0, none⟩) k k)
  have hfin : Hid (CanP w m (.returned (.tuple #[.agg #[.int .i64 m.i, .int .i64 m.o, .slice (some ⟨p, 0, none⟩) k k], .int .i64 0])) (((w3.setCell ⟨w.heap.size + 1, 0, none⟩ (.int .i64 m.i)).setCell ⟨w.heap.size + 1, 1, none⟩ (.int .i64 m.o)).setCell ⟨w.heap.size + 1, 2, none⟩ (.slice (some ⟨p, 0, none⟩) k k))) := by
    have hz2 := heap_lt hZ2
    have hpw := hW.out.p0
    refine ⟨p, k, gs, rfl, hk.out, hgs.out, ?_, below_set3' hb6 (by omega) _ _ _⟩
    have hne : ∀ j ∈ gs, j ≠ w.heap.size + 1 := fun j hj => by have := (hW.out.own j hj).1; omega
    exact (((hW.out.lower hb4.size).far (by omega) hne _).far (by omega) hne _).far (by omega) hne _
  clear q0 q1 q2 g0 g1 g2 k0 k1 k2 m0 m1 m2 mm9 z0 z1 z2 f0 f1 f2 hW hB hb6 hb5 hM3 hZ3 hM2 hZ2 hM1 hZ1
  go_wp2
  refine bodyPost_ret (v := .tuple #[.agg #[.int .i64 m.i, .int .i64 m.o, .slice (some ⟨p, 0, none⟩) k k], .int .i64 0]) (by simp [results, Try.f28, go_sem, r0, r1, r2]) rfl ?_
  exact hfin.out

namespace Mc
/-- A machine whose states are numbered in the order of their words. -/
noncomputable def canB (m : Ma) : Bool := @decide ((ord m).length = m.r.length ∧ Adj (ord m)) (Classical.propDecidable _)
theorem canB_iff (m : Ma) : canB m = true ↔ ((ord m).length = m.r.length ∧ Adj (ord m)) := by
  unfold canB
  exact @decide_eq_true_iff _ (Classical.propDecidable _)
end Mc
set_option maxRecDepth 100000 in
set_option maxHeartbeats 2000000 in
theorem wiscan_ok (m : Ma) (A : Option Addr) (c : Nat) (w : World) (V : Mc.Val m) (hr : RdR w A m.r) :
    Calls Try.prog 30 #[.agg #[.int .i64 m.i, .int .i64 m.o, .slice A m.r.length c]] w fun e w' => e = .returned (.tuple #[.bool (Mc.canB m), .int .i64 0]) ∧ Below w.heap.size w w' := by
  have hb0 : Below w.heap.size w (boxM w m.i m.o A m.r.length c) := (Below.refl _ _).alloc (Nat.le_refl _) _
  have hM0 := BxM.new w m.i m.o A m.r.length c
  have C := wcheck0 m V A c _ (hr.below hb0)
  have C2 := fun w1 (h : RdR w1 A m.r) => worder_any m A c w1 V h
  have hle : (Mc.ord m).length ≤ 64 := by
    have := Mc.nodup_le m.r.length _ (Mc.ord_cls V).nd (Mc.ord_cls V).rg
    have := V.r1
    omega
  clear V
  go_enter Try.func30, Try.ntmps30
  go_wp2_with fail
  refine C.mono ?_
  rintro e w1 ⟨rfl, hb1⟩
  have hb2 := below_next hb0 hb1
  have hM1 := hM0.mvB hb1
  obtain ⟨q0, q1, q2⟩ := hM1.cells
  have C3 := C2 w1 (hr.below hb2)
  clear C hb0 hb1 hM0 C2
  go_wp2_with fail
  refine C3.mono ?_
  rintro e w2 ⟨g, q, rfl, hq, _, hB, hb3⟩
  have hb4 := below_next hb2 hb3
  have hM2 := hM1.mvB hb3
  have hq64 : q ≤ 64 := by rw [← hq.out]; exact hle
  clear C3 hb2 hb3 q0 q1 q2 hM1 hle
  obtain ⟨q0, q1, q2⟩ := hM2.cells
  have CS := sorted_any (some ⟨g, 0, none⟩) q q (Mc.ord m) w2 hB.out.rd hq.out (by omega)
  by_cases hlen : q = m.r.length
  · have hlb : ((q : Int) == m.r.length) = true := by rw [hlen]; exact beq_self_eq_true _
    have HLEN := Lib.hid hlen
    clear hlen hM2
    go_wp2_with fail
    refine CS.mono ?_
    rintro e w3 ⟨b, rfl, hbi, hb5⟩
    have hb6 := below_next hb4 hb5
    have hv : Hid (Mc.canB m = b) := by
      show _ = _
      rw [Bool.eq_iff_iff, Mc.canB_iff, hbi.out, hq.out]
      exact ⟨fun h => h.2, fun h => ⟨HLEN.out, h⟩⟩
    clear CS hb4 hb5 q0 q1 q2 hbi
    go_wp2
    go_ret2
    exact ⟨by rw [hv.out]; rfl, hb6⟩
  · have hlb : ((q : Int) == m.r.length) = false := by rw [beq_eq_false_iff_ne]; omega
    have hv : Hid (Mc.canB m = false) := by
      show _ = _
      rw [Bool.eq_false_iff]
      intro h
      have := ((Mc.canB_iff m).1 h).1
      have := hq.out
      omega
    clear CS hlen hM2
    go_wp2
    go_ret2
    exact ⟨by rw [hv.out]; rfl, hb4⟩
end Go.Proofs.Ytldpfbmkmehadaa
