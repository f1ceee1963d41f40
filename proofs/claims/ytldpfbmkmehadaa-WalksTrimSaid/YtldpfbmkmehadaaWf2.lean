/-
  Contract: the reference's Canonical. No statement is proved here.
-/
import Derived.Test.YtldpfbmkmehadaaWf1
namespace Go.Proofs.Ytldpfbmkmehadaa
open Go.RowKit
open Mc (Ed Ma)

/-- A machine that reads as the one with some states. -/
def PrtP (w : World) (m : Ma) (i o : Int) (l : List Int) (e : Ending) (w' : World) : Prop := ∃ B k d, e = .returned (.agg #[.int .i64 i, .int .i64 o, .slice B k d]) ∧ Hid (l.length = k) ∧ RdR w' B (Mc.prt m l).r ∧ Below w.heap.size w w'
def PrtB (w : World) (m : Ma) (i o : Int) (l : List Int) (e : Ending) (w' : World) : Prop := ∃ B k d vs, e = .returned (.agg #[.int .i64 i, .int .i64 o, .slice B k d]) ∧ Hid (l.length = k) ∧ Hid (Bld w' w.heap.size (.slice B k d) (Mc.prt m l).r vs) ∧ Below w.heap.size w w'
theorem Bld.rd_at {w : World} {base k d : Nat} {B : Option Addr} {rs : List (List Ed)} {vs : List Value} (h : Bld w base (.slice B k d) rs vs) : RdR w B rs := by
  obtain ⟨A, c, hv, _, _, _, hr⟩ := h.rd
  injection hv with hv
  rw [hv]
  exact hr
theorem partB_at (m : Ma) (i o : Nat) (l : List Int) (A B : Option Addr) (nm c k d : Nat) (w : World) (V : Mc.Val m) (hi : m.i = i) (ho : m.o = o) (hnm : m.r.length = nm) (hr : RdR w A m.r) (hB : Rd w B l) (hk : l.length = k) (hd : l.Nodup) (hrg : ∀ s ∈ l, 0 ≤ s ∧ s < m.r.length) :
    Calls Try.prog 25 #[.agg #[.int .i64 i, .int .i64 o, .slice A nm c], .slice B k d] w (PrtB w m i o l) := by
  refine (rpart_any m i o l A B nm c k d w V hi ho hnm hr hB hk hd hrg).mono ?_
  rintro e w' ⟨V1, vs, rfl, hW, hb⟩
  obtain ⟨B1, d1, rfl, _⟩ := hW.out.rd
  refine ⟨B1, (Mc.prt m l).r.length, d1, vs, ?_, (Mc.prt_len m l).symm, hW, hb⟩
  show Ending.returned (.agg #[.int .i64 m.i, .int .i64 m.o, .slice B1 (Mc.prt m l).r.length d1]) = _
  rw [hi, ho]
theorem part_at (m : Ma) (i o : Nat) (l : List Int) (A B : Option Addr) (nm c k d : Nat) (w : World) (V : Mc.Val m) (hi : m.i = i) (ho : m.o = o) (hnm : m.r.length = nm) (hr : RdR w A m.r) (hB : Rd w B l) (hk : l.length = k) (hd : l.Nodup) (hrg : ∀ s ∈ l, 0 ≤ s ∧ s < m.r.length) :
    Calls Try.prog 25 #[.agg #[.int .i64 i, .int .i64 o, .slice A nm c], .slice B k d] w (PrtP w m i o l) := by
  refine (partB_at m i o l A B nm c k d w V hi ho hnm hr hB hk hd hrg).mono ?_
  rintro e w' ⟨B1, k1, d1, vs, rfl, hk1, hW, hb⟩
  exact ⟨B1, k1, d1, rfl, hk1, hW.out.rd_at, hb⟩
set_option maxRecDepth 100000 in
set_option maxHeartbeats 2000000 in
theorem rcanon_at (m : Ma) (i o : Nat) (A : Option Addr) (nm c : Nat) (w : World) (V : Mc.Val m) (hi : m.i = i) (ho : m.o = o) (hnm : m.r.length = nm) (hr : RdR w A m.r) :
    Calls Try.prog 29 #[.agg #[.int .i64 i, .int .i64 o, .slice A nm c]] w (PrtP w m i o (Mc.ord m)) := by
  obtain ⟨hb0, hM1, hZ1⟩ := boxZ_lies w i o A nm c
  have C2 : ∀ w1, RdR w1 A m.r → Calls Try.prog 47 #[.agg #[.int .i64 i, .int .i64 o, .slice A nm c]] w1 (Ordd w1 m) := fun w1 h => by
    have := order_any m A c w1 V h
    rwa [hi, ho, hnm] at this
  have C4 := Lib.hid (fun B k d w1 h1 h2 h3 => partB_at m i o (Mc.ord m) A B nm c k d w1 V hi ho hnm h1 h2 h3 (Mc.ord_cls V).nd (Mc.ord_cls V).rg)
  have HO := Lib.hid (fun L (h : Mc.Ord m L) => h.uniq (Mc.ord_ord V))
  obtain ⟨q0, q1, q2⟩ := hM1.cells
  clear V hi ho hnm
  have HC2 := Lib.hid (C2 (boxZ w i o A nm c).drew (hr.below (below_next hb0 (Below.refl _ _).drew)))
  have hzl := heap_lt hM1
  have hzz := heap_lt hZ1
  clear C2
  go_enter Try.func29, Try.ntmps29
  go_wp2_with fail
  obtain ⟨w1, hw1⟩ : ∃ w1, boxZ w i o A nm c = w1 := ⟨_, rfl⟩
  rw [show (boxM w i o A nm c).alloc (.cells #[.int .i64 0, .int .i64 0, .slice none 0 0] 27) = w1 from hw1]
  rw [hw1] at hb0 hM1 hZ1 q0 q1 q2 HC2 hzl hzz
  clear hw1
  go_region_held3 (fun w' => w'.cell? ⟨w.heap.size, 0, none⟩ = some (.int .i64 i) ∧ w'.cell? ⟨w.heap.size, 1, none⟩ = some (.int .i64 o) ∧ w'.cell? ⟨w.heap.size, 2, none⟩ = some (.slice A nm c))
    (first | exact ⟨m0, m1, m2⟩ | exact ⟨k0, k1, k2⟩ | exact ⟨g0, g1, g2⟩ | exact ⟨q0, q1, q2⟩ | go_keep)
    (first
      | (go_at_call 47
         (with_reducible refine (HC2.out).mono ?_)
         rintro e w2 ⟨V1, L, rfl, hO, hL, hb3⟩
         have hb3' : Below w1.heap.size w1 w2 := below_next (Below.refl _ _).drew hb3
         have g0 := (hb3'.cell (p := ⟨w.heap.size, 0, none⟩) (by show w.heap.size < _; omega)).trans q0
         have g1 := (hb3'.cell (p := ⟨w.heap.size, 1, none⟩) (by show w.heap.size < _; omega)).trans q1
         have g2 := (hb3'.cell (p := ⟨w.heap.size, 2, none⟩) (by show w.heap.size < _; omega)).trans q2
         have hb4 := below_next hb0 hb3'
         have hM2 := hM1.mvB hb3'
         have hZ2 := hZ1.mvB hb3'
         obtain ⟨g, d, hV1, _⟩ := own_formI hO.out
         subst hV1
         have hLo := HO.out L hL.out
         subst hLo
         have HC5 := Lib.hid (C4.out g _ d w2 (hr.below hb4) (Rd.of_own hO.out) rfl)
         dsimp only)
      | (go_at_call 25
         (with_reducible refine (HC5.out).mono ?_)
         rintro e w3 ⟨B3, k, d3, vs, rfl, hk, hR3, hb5⟩
         have hb6 := below_next hb4 hb5
         have hM3 := hM2.mvB hb5
         have hZ3 := hZ2.mvB hb5
         obtain ⟨k0, k1, k2⟩ := hM3.cells
         obtain ⟨z0, z1, z2⟩ := hZ3.cells
         obtain ⟨f0, f1, f2⟩ := hZ3.frozen
         have mm9 := fun (b o' : Nat) (h : b ≠ w.heap.size + 1) => World.cell?_of_block (w := w3) (w' := ((w3.setCell ⟨w.heap.size + 1, 0, none⟩ (.int .i64 i)).setCell ⟨w.heap.size + 1, 1, none⟩ (.int .i64 o)).setCell ⟨w.heap.size + 1, 2, none⟩ (.slice B3 k d3)) (a := ⟨b, o', none⟩) ((Below.heap_setCell _ ⟨w.heap.size + 1, 2, none⟩ _ b h).trans ((Below.heap_setCell _ ⟨w.heap.size + 1, 1, none⟩ _ b h).trans (Below.heap_setCell _ ⟨w.heap.size + 1, 0, none⟩ _ b h)))
         have m0 := (mm9 w.heap.size 0 (by omega)).trans k0
         have m1 := (mm9 w.heap.size 1 (by omega)).trans k1
         have m2 := (mm9 w.heap.size 2 (by omega)).trans k2
         dsimp only)
      | fail)
  obtain ⟨r0, r1, r2⟩ := set3_reads hZ3 (.int .i64 i) (.int .i64 o) (.slice B3 k d3)
  have hfin : Hid (PrtP w m i o (Mc.ord m) (.returned (.agg #[.int .i64 i, .int .i64 o, .slice B3 k d3])) (((w3.setCell ⟨w.heap.size + 1, 0, none⟩ (.int .i64 i)).setCell ⟨w.heap.size + 1, 1, none⟩ (.int .i64 o)).setCell ⟨w.heap.size + 1, 2, none⟩ (.slice B3 k d3))) := by
    have hz2 := heap_lt hZ2
    have h1 := ((hR3.out.kept (grown_setCell w3 ⟨w.heap.size + 1, 0, none⟩ (.int .i64 i)) (by show w.heap.size + 1 < _; omega)).kept (grown_setCell _ ⟨w.heap.size + 1, 1, none⟩ (.int .i64 o)) (by show w.heap.size + 1 < _; omega)).kept (grown_setCell _ ⟨w.heap.size + 1, 2, none⟩ (.slice B3 k d3)) (by show w.heap.size + 1 < _; omega)
    exact ⟨B3, k, d3, rfl, hk.out, h1.rd_at, below_set3' hb6 (by omega) _ _ _⟩
  clear q0 q1 q2 g0 g1 g2 k0 k1 k2 m0 m1 m2 mm9 z0 z1 z2 f0 f1 f2 hR3 hb6 hb5 hM3 hZ3 hM2 hZ2 hM1 hZ1
  go_wp2
  refine bodyPost_ret (v := .agg #[.int .i64 i, .int .i64 o, .slice B3 k d3]) (by simp [results, Try.f29, go_sem, r0, r1, r2]) rfl ?_
  exact hfin.out
end Go.Proofs.Ytldpfbmkmehadaa
