/-
  Several texts in one: Wc3, Wc5. No statement is proved here.
-/
import Derived.Test.YtgafpmgdpigliaaWcZ
import Derived.Test.YtgafpmgdpigliaaWbY
namespace Go.Proofs.Ytgafpmgdpigliaa
open Go.RowKit
open Mc (Ed Ma)

namespace Mc
theorem asc_perm (m : Ma) : (asc m).Perm (ord m) := List.mergeSort_perm _ _
theorem Cls.perm {m : Ma} {l k : List Int} (h : Cls m l) (hp : k.Perm l) : Cls m k :=
  ⟨hp.nodup_iff.2 h.nd, fun s hs => h.rg s (hp.mem_iff.1 hs), fun s hs c h0 h1 h2 => hp.mem_iff.2 (h.cl s (hp.mem_iff.1 hs) c h0 h1 h2)⟩
theorem ord_ord {m : Ma} (v : Val m) : Ord m (ord m) := (wk_bf v (s := 0) ⟨by omega, by have := v.r0; omega⟩).ord v
theorem ord_cls {m : Ma} (v : Val m) : Cls m (ord m) := (ord_ord v).cls v
theorem asc_cls {m : Ma} (v : Val m) : Cls m (asc m) := (ord_cls v).perm (asc_perm m)
theorem ord_pos {m : Ma} (v : Val m) : 1 ≤ (ord m).length := by
  have h := (ord_ord v).zero v.i0
  have := (List.getElem?_eq_some_iff.1 h).1
  omega
theorem asc_len (m : Ma) : (asc m).length = (ord m).length := (asc_perm m).length_eq
theorem Val.rows {m : Ma} (v : Val m) : ∀ row ∈ m.r, row.length ≤ 1000000 := fun row h => by have := v.len row h; have := v.i1; omega
end Mc
theorem wcheck0 (m : Ma) (V : Mc.Val m) (A : Option Addr) (c : Nat) (w : World) (hr : RdR w A m.r) :
    Calls Try.prog 98 #[.agg #[.int .i64 m.i, .int .i64 m.o, .slice A m.r.length c], .slice none 0 0] w fun e w' => e = .returned (.int .i64 0) ∧ Below w.heap.size w w' := by
  have h := wcheck_any m.i m.o m.r A m.r.length c none 0 0 [] w hr rfl (by have := V.r1; omega) V.rows Rd.nil_ rfl (by omega)
  rw [Mc.chkS_nil, Mc.chk_of (m := ⟨m.i, m.o, m.r⟩) V] at h
  exact h
theorem wcheckE (i o : Int) (rs : List (List Ed)) (A : Option Addr) (n c : Nat) (w : World) (hr : RdR w A rs) (hn : rs.length = n) (hnb : n ≤ 1000000) (hrl : ∀ row ∈ rs, row.length ≤ 1000000) :
    Calls Try.prog 98 #[.agg #[.int .i64 i, .int .i64 o, .slice A n c], .slice none 0 0] w fun e w' => e = .returned (.int .i64 (Mc.chk ⟨i, o, rs⟩)) ∧ Below w.heap.size w w' := by
  have h := wcheck_any i o rs A n c none 0 0 [] w hr hn hnb hrl Rd.nil_ rfl (by omega)
  rw [Mc.chkS_nil] at h
  exact h

/-- What ascending hands back. -/
def AscP (w : World) (m : Ma) (e : Ending) (w' : World) : Prop := ∃ g q, e = .returned (.slice (some ⟨g, 0, none⟩) q q) ∧ Hid ((Mc.asc m).length = q) ∧ w.heap.size ≤ g ∧ Hid (BlkC w' g (Mc.asc m)) ∧ Below w.heap.size w w'
/-! ### The errors -/
abbrev boxZ (w : World) (i o : Int) (A : Option Addr) (n c : Nat) : World := (boxM w i o A n c).alloc (.cells #[.int .i64 0, .int .i64 0, .slice none 0 0] 24)
theorem boxZ_lies (w : World) (i o : Int) (A : Option Addr) (n c : Nat) : Below w.heap.size w (boxZ w i o A n c) ∧ BxM (boxZ w i o A n c) w.heap.size i o A n c ∧ BxM (boxZ w i o A n c) (w.heap.size + 1) 0 0 none 0 0 :=
  ⟨((Below.refl _ _).alloc (Nat.le_refl _) _).alloc (by simp) _, (BxM.new w i o A n c).mvB ((Below.refl _ _).alloc (Nat.le_refl _) _), BxM.newE (w := boxM w i o A n c) (by simp) 0 0 none 0 0⟩
set_option maxRecDepth 100000 in
set_option maxHeartbeats 1000000 in
theorem wcanon_err (i o : Int) (rs : List (List Ed)) (A : Option Addr) (n c : Nat) (w : World) (hr : RdR w A rs) (hn : rs.length = n) (hnb : n ≤ 1000000) (hrl : ∀ row ∈ rs, row.length ≤ 1000000) (hz : Mc.chk ⟨i, o, rs⟩ ≠ 0) :
    Calls Try.prog 85 #[.agg #[.int .i64 i, .int .i64 o, .slice A n c]] w fun e w' => e = .returned (.tuple #[.agg #[.int .i64 0, .int .i64 0, .slice none 0 0], .int .i64 (Mc.chk ⟨i, o, rs⟩)]) ∧ Below w.heap.size w w' := by
  obtain ⟨hb0, hM0, hZ0⟩ := boxZ_lies w i o A n c
  obtain ⟨q0, q1, q2⟩ := hM0.cells
  have C := wcheckE i o rs A n c _ (hr.below hb0) hn hnb hrl
  obtain ⟨z, hzz⟩ : ∃ z, Mc.chk ⟨i, o, rs⟩ = z := ⟨_, rfl⟩
  rw [hzz] at hz C ⊢
  have hzn : (z != 0) = true := by simpa using hz
  have hzb : (z == 0) = false := by rw [beq_eq_false_iff_ne]; exact hz
  clear hzz hrl
  go_enter Try.func85, Try.ntmps85
  go_wp2_with fail
  refine C.mono ?_
  rintro e w1 ⟨rfl, hb1⟩
  have hb2 := below_next hb0 hb1
  have hZ1 := hZ0.mvB hb1
  clear q0 q1 q2
  obtain ⟨q0, q1, q2⟩ := hZ1.cells
  obtain ⟨f0, f1, f2⟩ := hZ1.frozen
  obtain ⟨r0, r1, r2⟩ := set3_reads hZ1 (.int .i64 0) (.int .i64 0) (.slice none 0 0)
  have hb3 := below_set3' hb2 (g := w.heap.size + 1) (by omega) (.int .i64 0) (.int .i64 0) (.slice none 0 0)
  clear C hb0 hb1 hM0 hZ0
  go_wp2
  refine bodyPost_ret (v := .tuple #[.agg #[.int .i64 0, .int .i64 0, .slice none 0 0], .int .i64 z]) (by simp [results, Try.f85, go_sem, r0, r1, r2]) rfl ?_
  exact ⟨rfl, hb3⟩
/-! ### What they hand back -/
/-- What Reach hands back. -/
def RchP (w : World) (m : Ma) (e : Ending) (w' : World) : Prop := ∃ g q, e = .returned (.tuple #[.slice (some ⟨g, 0, none⟩) q q, .int .i64 0]) ∧ Hid ((Mc.asc m).length = q) ∧ Hid (BlkC w' g (Mc.asc m)) ∧ Below w.heap.size w w'
/-- What Canonical hands back. -/
def CanP (w : World) (m : Ma) (e : Ending) (w' : World) : Prop := ∃ p k gs, e = .returned (.tuple #[.agg #[.int .i64 m.i, .int .i64 m.o, .slice (some ⟨p, 0, none⟩) k k], .int .i64 0]) ∧ Hid ((Mc.ord m).length = k) ∧ Hid (gs.length = k) ∧ Hid (Wb w.heap.size p k (Mc.prt m (Mc.ord m)).r gs w') ∧ Below w.heap.size w w'
/-- What Trim hands back. -/
def TrmP (w : World) (m : Ma) (e : Ending) (w' : World) : Prop := ∃ p k gs g, e = .returned (.tuple #[.agg #[.int .i64 m.i, .int .i64 m.o, .slice (some ⟨p, 0, none⟩) k k], .slice (some ⟨g, 0, none⟩) k k, .int .i64 0]) ∧ Hid ((Mc.asc m).length = k) ∧ Hid (gs.length = k) ∧ Hid (Wb w.heap.size p k (Mc.prt m (Mc.asc m)).r gs w') ∧ Hid (BlkC w' g (Mc.asc m)) ∧ Below w.heap.size w w'
theorem Wb.lower {base b' p n : Nat} {rs : List (List Ed)} {gs : List Nat} {W : World} (h : Wb base p n rs gs W) (hb : b' ≤ base) : Wb b' p n rs gs W :=
  ⟨h.blk, h.row, fun g hg => ⟨by have := (h.own g hg).1; omega, (h.own g hg).2⟩, h.inj, by have := h.p0; omega⟩
theorem BlkC.far {w : World} {g b off : Nat} {l : List Int} (h : BlkC w g l) (hne : g ≠ b) (u : Value) : BlkC (w.setCell ⟨b, off, none⟩ u) g l := by
  obtain ⟨cur, h1, h2⟩ := h
  exact ⟨cur, (Below.heap_setCell w ⟨b, off, none⟩ u g hne).trans h1, h2⟩
end Go.Proofs.Ytgafpmgdpigliaa

namespace Go.Proofs.Ytgafpmgdpigliaa
open Go.RowKit
open Mc (Ed Ma)

set_option maxRecDepth 100000 in
set_option maxHeartbeats 2000000 in
theorem wcanon_ok (m : Ma) (A : Option Addr) (c : Nat) (w : World) (V : Mc.Val m) (hr : RdR w A m.r) :
    Calls Try.prog 85 #[.agg #[.int .i64 m.i, .int .i64 m.o, .slice A m.r.length c]] w (CanP w m) := by
  obtain ⟨hb0, hM0, hZ0⟩ := boxZ_lies w m.i m.o A m.r.length c
  obtain ⟨q0, q1, q2⟩ := hM0.cells
  have C := wcheck0 m V A c _ (hr.below hb0)
  have C2 := fun w1 (h : RdR w1 A m.r) => worder_any m A c w1 V h
  have C4 := Lib.hid (fun S n cS w1 h1 h2 h3 h4 => renum_any m V (Mc.ord m) (Mc.ord_cls V) A c S n cS w1 h1 h2 h3 h4)
  have HP := Lib.hid (Mc.ord_pos V)
  clear V
  go_enter Try.func85, Try.ntmps85
  go_wp2_with fail
  refine C.mono ?_
  rintro e w1 ⟨rfl, hb1⟩
  have hb2 := below_next hb0 hb1
  have hM1 := hM0.mvB hb1
  have hZ1 := hZ0.mvB hb1
  clear q0 q1 q2 C hb0 hb1 hM0 hZ0
  obtain ⟨q0, q1, q2⟩ := hM1.cells
  have HC2 := Lib.hid (C2 w1.drew (hr.below (below_next hb2 (Below.refl _ _).drew)))
  have hzl := heap_lt hM1
  have hzz := heap_lt hZ1
  clear C2
  go_wp2_with fail
  go_region_held3 (fun w' => w'.cell? ⟨w.heap.size, 0, none⟩ = some (.int .i64 m.i) ∧ w'.cell? ⟨w.heap.size, 1, none⟩ = some (.int .i64 m.o) ∧ w'.cell? ⟨w.heap.size, 2, none⟩ = some (.slice A m.r.length c))
    (first | exact ⟨m0, m1, m2⟩ | exact ⟨k0, k1, k2⟩ | exact ⟨g0, g1, g2⟩ | exact ⟨q0, q1, q2⟩ | go_keep)
    (first
      | (go_at_call 100
         (with_reducible refine (HC2.out).mono ?_)
         rintro e w2 ⟨g, q, rfl, hq, hg1, hB, hb3⟩
         have hb3' : Below w1.heap.size w1 w2 := below_next (Below.refl _ _).drew hb3
         have g0 := (hb3'.cell (p := ⟨w.heap.size, 0, none⟩) (by show w.heap.size < _; omega)).trans q0
         have g1 := (hb3'.cell (p := ⟨w.heap.size, 1, none⟩) (by show w.heap.size < _; omega)).trans q1
         have g2 := (hb3'.cell (p := ⟨w.heap.size, 2, none⟩) (by show w.heap.size < _; omega)).trans q2
         have hb4 := below_next hb2 hb3'
         have hM2 := hM1.mvB hb3'
         have hZ2 := hZ1.mvB hb3'
         have HC5 := Lib.hid (C4.out (some ⟨g, 0, none⟩) q q w2 (hr.below hb4) hB.out.rd hq.out (by have h1 := HP.out; have h2 := hq.out; omega))
         dsimp only)
      | (go_at_call 99
         (with_reducible refine (HC5.out).mono ?_)
         rintro e w3 ⟨p, k, gs, rfl, hk, hgs, hW, hb5⟩
         have hb6 := below_next hb4 hb5
         have hM3 := hM2.mvB hb5
         have hZ3 := hZ2.mvB hb5
         obtain ⟨k0, k1, k2⟩ := hM3.cells
         obtain ⟨z0, z1, z2⟩ := hZ3.cells
         obtain ⟨f0, f1, f2⟩ := hZ3.frozen
         have mm9 := fun (b o : Nat) (h : b ≠ w.heap.size + 1) => World.cell?_of_block (w := w3) (w' := ((w3.setCell ⟨w.heap.size + 1, 0, none⟩ (.int .i64 m.i)).setCell ⟨w.heap.size + 1, 1, none⟩ (.int .i64 m.o)).setCell ⟨w.heap.size + 1, 2, none⟩ (.slice (some ⟨p, 0, none⟩) k k)) (a := ⟨b, o, none⟩) ((Below.heap_setCell _ ⟨w.heap.size + 1, 2, none⟩ _ b h).trans ((Below.heap_setCell _ ⟨w.heap.size + 1, 1, none⟩ _ b h).trans (Below.heap_setCell _ ⟨w.heap.size + 1, 0, none⟩ _ b h)))
         have m0 := (mm9 w.heap.size 0 (by omega)).trans k0
         have m1 := (mm9 w.heap.size 1 (by omega)).trans k1
         have m2 := (mm9 w.heap.size 2 (by omega)).trans k2
         dsimp only)
      | fail)
  obtain ⟨r0, r1, r2⟩ := set3_reads hZ3 (.int .i64 m.i) (.int .i64 m.o) (.slice (some ⟨p, 0, none⟩) k k)
  have hfin : Hid (CanP w m (.returned (.tuple #[.agg #[.int .i64 m.i, .int .i64 m.o, .slice (some ⟨p, 0, none⟩) k k], .int .i64 0])) (((w3.setCell ⟨w.heap.size + 1, 0, none⟩ (.int .i64 m.i)).setCell ⟨w.heap.size + 1, 1, none⟩ (.int .i64 m.o)).setCell ⟨w.heap.size + 1, 2, none⟩ (.slice (some ⟨p, 0, none⟩) k k))) := by
    have hz2 := heap_lt hZ2
    have hpw := hW.out.p0
    refine ⟨p, k, gs, rfl, hk.out, hgs.out, ?_, below_set3' hb6 (by omega) _ _ _⟩
    have hne : ∀ j ∈ gs, j ≠ w.heap.size + 1 := fun j hj => by have := (hW.out.own j hj).1; omega
    exact (((hW.out.lower hb4.size).far (by omega) hne _).far (by omega) hne _).far (by omega) hne _
  clear q0 q1 q2 g0 g1 g2 k0 k1 k2 m0 m1 m2 mm9 z0 z1 z2 f0 f1 f2 hW hB hb6 hb5 hM3 hZ3 hM2 hZ2 hM1 hZ1
  go_wp2
  refine bodyPost_ret (v := .tuple #[.agg #[.int .i64 m.i, .int .i64 m.o, .slice (some ⟨p, 0, none⟩) k k], .int .i64 0]) (by simp [results, Try.f85, go_sem, r0, r1, r2]) rfl ?_
  exact hfin.out

namespace Mc
/-- A machine whose states are numbered in the order of their words. -/
noncomputable def canB (m : Ma) : Bool := @decide ((ord m).length = m.r.length ∧ Adj (ord m)) (Classical.propDecidable _)
theorem canB_iff (m : Ma) : canB m = true ↔ ((ord m).length = m.r.length ∧ Adj (ord m)) := by
  unfold canB
  exact @decide_eq_true_iff _ (Classical.propDecidable _)
end Mc
end Go.Proofs.Ytgafpmgdpigliaa
