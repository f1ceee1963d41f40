/-
  What D.Of hands back: two valid machines with as many inputs, of at most six states. No statement is proved here.
-/
import Derived.Test.YtiamkkgnjobljaaDcp
namespace Go.Proofs.Ytiamkkgnjobljaa
open Go.RowKit
open Mc (Ed Ma Wv)

/-- What D.Of hands back: two valid machines with as many inputs. -/
def DoP (w : World) (e : Ending) (w' : World) : Prop := ∃ (m m2 : Ma) (i : Nat) (ao bo : Int) (X Y : Option Addr) (n k n2 k2 : Nat), e = .returned (.tuple #[.agg #[.int .i64 i, .int .i64 ao, .slice X n k], .agg #[.int .i64 i, .int .i64 bo, .slice Y n2 k2]]) ∧ RdR w' X m.r ∧ RdR w' Y m2.r ∧ m.r.length = n ∧ m2.r.length = n2 ∧ Mc.Val m ∧ Mc.Val m2 ∧ m.i = i ∧ m2.i = i ∧ m.o = ao ∧ m2.o = bo ∧ n ≤ 6 ∧ n2 ≤ 6 ∧ Below w.heap.size w w'
/-- The box of D. -/
def DBx (w : World) (h : Nat) (cs : Array Value) : Prop := w.heap[h]? = some (.cells cs 29)
theorem DBx.cell {w : World} {h : Nat} {cs : Array Value} (x : DBx w h cs) {k : Nat} {v : Value} (hk : cs[k]? = some v) : w.cell? ⟨h, k, none⟩ = some v := by rw [cell_of_row _ _ _ _ _ _ x]; exact hk
theorem DBx.frz {w : World} {h : Nat} {cs : Array Value} (x : DBx w h cs) (k : Nat) : w.frozen? ⟨h, k, none⟩ = false := by simp [World.frozen?, show w.heap[h]? = _ from x]
theorem DBx.to {w w' : World} {h : Nat} {cs : Array Value} (x : DBx w h cs) (k : Below w.heap.size w w') : DBx w' h cs := (k.block _ (heap_lt x)).trans x
theorem BxM.apart {w : World} {g g' n c : Nat} {i o : Int} {A : Option Addr} (y : BxM w g i o A n c) (hne : g ≠ g') (k : Nat) (v : Value) : BxM (w.setCell ⟨g', k, none⟩ v) g i o A n c := (Below.heap_setCell _ _ _ _ hne).trans y
theorem BxM.apart3 {w : World} {g g' n c : Nat} {i o : Int} {A : Option Addr} (y : BxM w g i o A n c) (hne : g ≠ g') (x z v : Value) : BxM (Go.Proofs.Ytiamkkgnjobljaa.set3 w g' x z v) g i o A n c := ((y.apart hne 0 x).apart hne 1 z).apart hne 2 v
theorem DBx.far {w : World} {h g : Nat} {cs : Array Value} (x : DBx w h cs) (hne : h ≠ g) (k : Nat) (v : Value) : DBx (w.setCell ⟨g, k, none⟩ v) h cs := (Below.heap_setCell _ _ _ _ hne).trans x
theorem DBx.apart3 {w : World} {h g : Nat} {cs : Array Value} (x : DBx w h cs) (hne : h ≠ g) (a b c : Value) : DBx (Go.Proofs.Ytiamkkgnjobljaa.set3 w g a b c) h cs := ((x.far hne 0 a).far hne 1 b).far hne 2 c
theorem DBx.set_ {w : World} {h k : Nat} {cs : Array Value} (x : DBx w h cs) (v : Value) : DBx (w.setCell ⟨h, k, none⟩ v) h (cs.setIfInBounds k v) := by
  unfold DBx at x ⊢
  simp [World.setCell, Array.getElem?_modify, x]
theorem Bld.one {w : World} {base g k : Nat} {V : Value} {rs : List (List Ed)} {vs : List Value} (h : Bld w base V rs vs) (hg : g < base) (x : Value) : Bld (w.setCell ⟨g, k, none⟩ x) base V rs vs := h.kept (grown_setCell w ⟨g, k, none⟩ x) hg
/-- The results lie in their cells. -/
theorem dof_fin {w W : World} {m m2 : Ma} {i n n2 k k2 : Nat} {ao bo : Int} {X Y : Option Addr} (hX : RdR W X m.r) (hY : RdR W Y m2.r) (hn : m.r.length = n) (hn2 : m2.r.length = n2) (v : Mc.Val m) (v2 : Mc.Val m2) (hi : m.i = i) (hi2 : m2.i = i) (ho : m.o = ao) (ho2 : m2.o = bo) (h6 : n ≤ 6) (h62 : n2 ≤ 6) (hb : Below w.heap.size w W) :
    DoP w (.returned (.tuple #[.agg #[.int .i64 i, .int .i64 ao, .slice X n k], .agg #[.int .i64 i, .int .i64 bo, .slice Y n2 k2]])) W :=
  ⟨m, m2, i, ao, bo, X, Y, n, k, n2, k2, rfl, hX, hY, hn, hn2, v, v2, hi, hi2, ho, ho2, h6, h62, hb⟩
set_option maxRecDepth 100000 in
set_option maxHeartbeats 4000000 in
theorem dof_plain (a b d a2 b2 d2 s0 s1 p0 p1 tx ty : Int) (q q2 : Bool) (A A2 : Option Addr) (EL c EL2 c2 : Nat) (es es2 : List Int) (w : World) (hA : Rd16 w A es) (hEL : es.length = EL) (hle : EL ≤ 9223372036854775807) (hA2 : Rd16 w A2 es2) (hEL2 : es2.length = EL2) (hle2 : EL2 ≤ 9223372036854775807)
    (ha : 0 ≤ a ∧ a ≤ 255) (hb : 0 ≤ b ∧ b ≤ 255) (hd : 0 ≤ d ∧ d ≤ 255) (ha2 : 0 ≤ a2 ∧ a2 ≤ 255) (hd2 : 0 ≤ d2 ∧ d2 ≤ 255) :
    Calls Try.prog 13 #[.agg #[.int .u8 a, .int .u8 b, .int .u8 d, .bool q, .slice A EL c, .int .u8 a2, .int .u8 b2, .int .u8 d2, .bool q2, .slice A2 EL2 c2, .bool false, .int .u8 s0, .int .u8 s1, .int .u8 p0, .int .u8 p1, .int .i64 tx, .int .i64 ty]] w (DoP w) := by
  obtain ⟨n, hn⟩ : ∃ n : Nat, 1 + a % 6 = n := ⟨(1 + a % 6).toNat, by omega⟩
  obtain ⟨i, hi⟩ : ∃ i : Nat, 1 + b % 3 = i := ⟨(1 + b % 3).toNat, by omega⟩
  obtain ⟨o, ho⟩ : ∃ o : Nat, 1 + d % 3 = o := ⟨(1 + d % 3).toNat, by omega⟩
  obtain ⟨n2, hn2⟩ : ∃ n : Nat, 1 + a2 % 6 = n := ⟨(1 + a2 % 6).toNat, by omega⟩
  obtain ⟨o2, ho2⟩ : ∃ o : Nat, 1 + d2 % 3 = o := ⟨(1 + d2 % 3).toNat, by omega⟩
  subst hEL hEL2
  have CM := Lib.hid (fun w hr => mofB_at a b d q A c es n i o w hr hle ha hb hd hn hi ho)
  have CX := Lib.hid (fun w hr => mofB_at a2 b d2 q2 A2 c2 es2 n2 i o2 w hr hle2 ha2 hb hd2 hn2 hi ho2)
  obtain ⟨M, hM⟩ : ∃ M, Mc.mkN q n i o es = M := ⟨_, rfl⟩
  obtain ⟨M2, hM2⟩ : ∃ M, Mc.mkN q2 n2 i o2 es2 = M := ⟨_, rfl⟩
  have V := Lib.hid (Mc.mkN_val (p := q) (n := n) (i := i) (o := o) (es := es) (by omega) (by omega) (by omega) (by omega) (by omega) (by omega))
  have V2 := Lib.hid (Mc.mkN_val (p := q2) (n := n2) (i := i) (o := o2) (es := es2) (by omega) (by omega) (by omega) (by omega) (by omega) (by omega))
  have hlen : Hid ((Mc.mkN q n i o es).r.length = n) := Mc.mkN_len _ _ _ _ _
  have hlen2 : Hid ((Mc.mkN q2 n2 i o2 es2).r.length = n2) := Mc.mkN_len _ _ _ _ _
  have hmi : Hid ((Mc.mkN q n i o es).i = i) := rfl
  have hmo : Hid ((Mc.mkN q n i o es).o = o) := rfl
  have hmi2 : Hid ((Mc.mkN q2 n2 i o2 es2).i = i) := rfl
  have hmo2 : Hid ((Mc.mkN q2 n2 i o2 es2).o = o2) := rfl
  rw [hM] at V hlen hmi hmo
  rw [hM2] at V2 hlen2 hmi2 hmo2
  simp only [hM] at CM
  simp only [hM2] at CX
  have HA := Lib.hid hA
  have HA2 := Lib.hid hA2
  have hn6 : n ≤ 6 := by omega
  have hn62 : n2 ≤ 6 := by omega
  have HN6 := Lib.hid hn6
  have HN62 := Lib.hid hn62
  clear hM hM2 ha hb hd hn hi ho hn2 ho2 ha2 hd2 hle hle2 hA hA2 hn6 hn62
  obtain ⟨h, hh⟩ : ∃ h, w.heap.size = h := ⟨_, rfl⟩
  obtain ⟨W0, hW0⟩ : ∃ W0, ((w.alloc (.cells #[.int .u8 a, .int .u8 b, .int .u8 d, .bool q, .slice A es.length c, .int .u8 a2, .int .u8 b2, .int .u8 d2, .bool q2, .slice A2 es2.length c2, .bool false, .int .u8 s0, .int .u8 s1, .int .u8 p0, .int .u8 p1, .int .i64 tx, .int .i64 ty] 29)).alloc zM).alloc zM = W0 := ⟨_, rfl⟩
  have hb0 : Below w.heap.size w W0 := by rw [← hW0]; exact (((Below.refl _ _).alloc (by omega) _).alloc (by simp) _).alloc (by simp; omega) _
  have hD0 : DBx W0 h #[.int .u8 a, .int .u8 b, .int .u8 d, .bool q, .slice A es.length c, .int .u8 a2, .int .u8 b2, .int .u8 d2, .bool q2, .slice A2 es2.length c2, .bool false, .int .u8 s0, .int .u8 s1, .int .u8 p0, .int .u8 p1, .int .i64 tx, .int .i64 ty] := by
    rw [← hW0, ← hh]
    exact ((((Below.refl _ _).alloc (Nat.le_refl _) _).alloc (by simp) _).block _ (by simp)).trans (heap_alloc_new w _)
  have hz1 : BxM W0 (h + 1) 0 0 none 0 0 := by rw [← hW0, ← hh]; exact ((BxM.newE (by simp) 0 0 none 0 0).mvB ((Below.refl _ _).alloc (Nat.le_refl _) _))
  have hz2 : BxM W0 (h + 1 + 1) 0 0 none 0 0 := by rw [← hW0, ← hh]; exact BxM.newE (by simp) 0 0 none 0 0
  have hs0 : W0.heap.size = h + 1 + 1 + 1 := by rw [← hW0, ← hh]; simp
  have d0 := hD0.cell (k := 0) rfl
  have d1 := hD0.cell (k := 1) rfl
  have d2' := hD0.cell (k := 2) rfl
  have d3 := hD0.cell (k := 3) rfl
  have d4 := hD0.cell (k := 4) rfl
  have HB0 := Lib.hid hb0
  have HD0 := Lib.hid hD0
  have HZ1 := Lib.hid hz1
  have HZ2 := Lib.hid hz2
  clear hb0 hD0 hz1 hz2
  go_enter Try.func13, Try.ntmps13
  go_upto_region 1 with fail
  try rw [hW0]
  go_wp2_with fail
  refine (CM.out _ (HA.out.below HB0.out)).mono ?_
  rintro e w1 ⟨R, c1, vs1, rfl, hB1, hb1⟩
  have hD1 := HD0.out.to hb1
  have hz11 := HZ1.out.mvB hb1
  have hz12 := HZ2.out.mvB hb1
  have hbw1 := below_next HB0.out hb1
  clear d0 d1 d2' d3 d4 CM
  obtain ⟨g, hg⟩ : ∃ g, w1.heap.size = g := ⟨_, rfl⟩
  obtain ⟨W1, hW1⟩ : ∃ W1, w1.alloc (.cells #[.int .i64 i, .int .i64 o, .slice R n c1] 35) = W1 := ⟨_, rfl⟩
  have hbn : Below w1.heap.size w1 W1 := by rw [← hW1]; exact (Below.refl _ _).alloc (Nat.le_refl _) _
  have hG : BxM W1 g i o R n c1 := by rw [← hW1]; exact BxM.newE hg i o R n c1
  have hgs : h + 1 + 1 < g := by have := hb1.size; omega
  have hD2 := hD1.to hbn
  have hz21 := hz11.mvB hbn
  have hz22 := hz12.mvB hbn
  have hbw2 := below_next hbw1 hbn
  have hB2 := hB1.out.below hbn
  have hs1 : W1.heap.size = g + 1 := by rw [← hW1, ← hg]; simp
  clear hD1 hz11 hz12 hbw1 hb1 hB1
  obtain ⟨m0, m1, m2⟩ := hG.cells
  have e0 := hD2.cell (k := 10) rfl
  go_upto_region 3 with fail
  try rw [hg, hW1]
  clear hW1 hbn hg m0 m1 m2
  -- the input number of the second machine
  obtain ⟨W2, hW2⟩ : ∃ W2, W1.setCell ⟨h, 6, none⟩ (.int .u8 b) = W2 := ⟨_, rfl⟩
  have hD3 : DBx W2 h #[.int .u8 a, .int .u8 b, .int .u8 d, .bool q, .slice A es.length c, .int .u8 a2, .int .u8 b, .int .u8 d2, .bool q2, .slice A2 es2.length c2, .bool false, .int .u8 s0, .int .u8 s1, .int .u8 p0, .int .u8 p1, .int .i64 tx, .int .i64 ty] := by rw [← hW2]; exact hD2.set_ (k := 6) _
  have e1 := hD2.cell (k := 1) rfl
  have e2 := hD2.cell (k := 6) rfl
  have e3 := hD2.frz 6
  have hz31 : BxM W2 (h + 1) 0 0 none 0 0 := by rw [← hW2]; exact hz21.apart (by omega) _ _
  have hz32 : BxM W2 (h + 1 + 1) 0 0 none 0 0 := by rw [← hW2]; exact hz22.apart (by omega) _ _
  have hG3 : BxM W2 g i o R n c1 := by rw [← hW2]; exact hG.apart (by omega) _ _
  have hB3 : Bld W2 W0.heap.size (.slice R n c1) M.r vs1 := by rw [← hW2]; exact hB2.one (by omega) _
  have hbw3 : Below w.heap.size w W2 := by rw [← hW2]; exact hbw2.setCell (p := ⟨h, 6, none⟩) (by rw [hh]; exact Nat.le_refl _) _
  have hs2 : W2.heap.size = g + 1 := by rw [← hW2, ← hs1]; simp [World.setCell]
  clear hD2 hz21 hz22 hbw2 hB2 hG hs1
  go_upto_region 5 with fail
  try rw [hW2]
  clear hW2 e0 e1 e2 e3
  have f5 := hD3.cell (k := 5) rfl
  have f6 := hD3.cell (k := 6) rfl
  have f7 := hD3.cell (k := 7) rfl
  have f8 := hD3.cell (k := 8) rfl
  have f9 := hD3.cell (k := 9) rfl
  obtain ⟨m0, m1, m2⟩ := hG3.cells
  obtain ⟨x0, x1, x2⟩ := hz31.cells
  obtain ⟨x3, x4, x5⟩ := hz31.frozen
  obtain ⟨y0, y1, y2⟩ := hz32.cells
  obtain ⟨y3, y4, y5⟩ := hz32.frozen
  have hbD : Below w.heap.size w W2.drew := hbw3.drew
  have hbS : Below w.heap.size w (set3 W2.drew (h + 1) (.int .i64 i) (.int .i64 o) (.slice R n c1)) := below_set3 hbD (by omega) _ _ _
  have HD3 := Lib.hid hD3
  have HG3 := Lib.hid hG3
  have HZ1 := Lib.hid hz31
  have HZ2 := Lib.hid hz32
  have HB3 := Lib.hid hB3
  have hgh : g < W2.heap.size := by omega
  have hh2 : h < W2.heap.size := by omega
  have hhz : h + 1 + 1 < W2.heap.size := by omega
  have hhy : h + 1 < W2.heap.size := by omega
  clear hD3 hG3 hz31 hz32 hB3 hbw3
  have HS : ∀ w' : World, BxM w' g i o R n c1 → DBx w' h #[.int .u8 a, .int .u8 b, .int .u8 d, .bool q, .slice A es.length c, .int .u8 a2, .int .u8 b, .int .u8 d2, .bool q2, .slice A2 es2.length c2, .bool false, .int .u8 s0, .int .u8 s1, .int .u8 p0, .int .u8 p1, .int .i64 tx, .int .i64 ty] → (w'.cell? ⟨g, 0, none⟩ = some (.int .i64 i) ∧ w'.cell? ⟨g, 1, none⟩ = some (.int .i64 o) ∧ w'.cell? ⟨g, 2, none⟩ = some (.slice R n c1) ∧ w'.cell? ⟨h, 5, none⟩ = some (.int .u8 a2) ∧ w'.cell? ⟨h, 6, none⟩ = some (.int .u8 b) ∧ w'.cell? ⟨h, 7, none⟩ = some (.int .u8 d2) ∧ w'.cell? ⟨h, 8, none⟩ = some (.bool q2) ∧ w'.cell? ⟨h, 9, none⟩ = some (.slice A2 es2.length c2)) := fun w' y x => ⟨y.cells.1, y.cells.2.1, y.cells.2.2, x.cell (k := 5) rfl, x.cell (k := 6) rfl, x.cell (k := 7) rfl, x.cell (k := 8) rfl, x.cell (k := 9) rfl⟩
  have sM := HS _ HG3.out HD3.out
  have sN := HS W2.drew HG3.out HD3.out
  go_region_held3 (fun w' => w'.cell? ⟨g, 0, none⟩ = some (.int .i64 i) ∧ w'.cell? ⟨g, 1, none⟩ = some (.int .i64 o) ∧ w'.cell? ⟨g, 2, none⟩ = some (.slice R n c1) ∧ w'.cell? ⟨h, 5, none⟩ = some (.int .u8 a2) ∧ w'.cell? ⟨h, 6, none⟩ = some (.int .u8 b) ∧ w'.cell? ⟨h, 7, none⟩ = some (.int .u8 d2) ∧ w'.cell? ⟨h, 8, none⟩ = some (.bool q2) ∧ w'.cell? ⟨h, 9, none⟩ = some (.slice A2 es2.length c2))
    (first | (with_reducible exact sB) | (with_reducible exact sE) | (with_reducible exact sA) | (with_reducible exact sC) | (with_reducible exact sk) | (with_reducible exact sM) | (with_reducible exact sN) | go_keep)
    (first
      | (go_at_call 28
         (with_reducible refine (CX.out _ (HA2.out.below hbD)).mono ?_)
         rintro e w5 ⟨R2, c5, vs5, rfl, hB5, hb5d⟩
         have hb5 := (Below.refl W2.heap.size W2).drew.trans hb5d
         have hG5 := HG3.out.mvB hb5
         have hD5 := HD3.out.to hb5
         have hz51 := HZ1.out.mvB hb5
         have hz52 := HZ2.out.mvB hb5
         obtain ⟨u0, u1, u2⟩ := hz51.cells
         obtain ⟨u3, u4, u5⟩ := hz51.frozen
         obtain ⟨v0, v1, v2⟩ := hz52.cells
         obtain ⟨v3, v4, v5⟩ := hz52.frozen
         have sk := HS _ hG5 hD5
         have hGA := hG5.apart3 (g' := h + 1) (by omega) (.int .i64 i) (.int .i64 o) (.slice R n c1)
         have hDA := hD5.apart3 (g := h + 1) (by omega) (.int .i64 i) (.int .i64 o) (.slice R n c1)
         have hGC := hG5.apart3 (g' := h + 1 + 1) (by omega) (.int .i64 i) (.int .i64 o2) (.slice R2 n2 c5)
         have hDC := hD5.apart3 (g := h + 1 + 1) (by omega) (.int .i64 i) (.int .i64 o2) (.slice R2 n2 c5)
         have sA := HS _ hGA hDA
         have sC := HS _ hGC hDC
         have sB := HS _ (hGA.apart3 (g' := h + 1 + 1) (by omega) (.int .i64 i) (.int .i64 o2) (.slice R2 n2 c5)) (hDA.apart3 (g := h + 1 + 1) (by omega) (.int .i64 i) (.int .i64 o2) (.slice R2 n2 c5))
         have sE := HS _ (hGC.apart3 (g' := h + 1) (by omega) (.int .i64 i) (.int .i64 o) (.slice R n c1)) (hDC.apart3 (g := h + 1) (by omega) (.int .i64 i) (.int .i64 o) (.slice R n c1))
         dsimp only)
      | fail)
  obtain ⟨Wf, hWf⟩ : ∃ Wf, set3 (set3 w5 (h + 1) (.int .i64 i) (.int .i64 o) (.slice R n c1)) (h + 1 + 1) (.int .i64 i) (.int .i64 o2) (.slice R2 n2 c5) = Wf := ⟨_, rfl⟩
  have hF1 : BxM Wf (h + 1) i o R n c1 := by rw [← hWf]; exact (hz51.set3 (i' := i) (o' := o) (A' := R) (n' := n) (c' := c1)).apart3 (by omega) _ _ _
  have hF2 : BxM Wf (h + 1 + 1) i o2 R2 n2 c5 := by rw [← hWf]; exact (hz52.apart3 (by omega) _ _ _).set3
  have hs5 : W2.heap.size ≤ w5.heap.size := hb5.size
  have hBa : Bld Wf W0.heap.size (.slice R n c1) M.r vs1 := by rw [← hWf]; exact ((HB3.out.below hb5).set3 (by omega) _ _ _).set3 (by omega) _ _ _
  have hBb : Bld Wf W2.drew.heap.size (.slice R2 n2 c5) M2.r vs5 := by rw [← hWf]; exact (hB5.out.set3 (by show h + 1 < W2.heap.size; omega) _ _ _).set3 (by show h + 1 + 1 < W2.heap.size; omega) _ _ _
  have hbF : Below w.heap.size w Wf := by rw [← hWf]; exact below_set3 (below_set3 (below_next hbD hb5d) (by omega) _ _ _) (by omega) _ _ _
  have HRA := Lib.hid hBa.two
  have HRB := Lib.hid hBb.two
  have HBF := Lib.hid hbF
  obtain ⟨r0, r1, r2⟩ := hF1.cells
  obtain ⟨t0, t1, t2⟩ := hF2.cells
  change Exit.then _ _ _ _ (set3 (set3 w5 (h + 1) (.int .i64 i) (.int .i64 o) (.slice R n c1)) (h + 1 + 1) (.int .i64 i) (.int .i64 o2) (.slice R2 n2 c5))
  rw [hWf]
  clear hWf hF1 hF2 hBa hBb hbF HS sM sN sk hGA hDA hGC hDC sA sB sC sE u0 u1 u2 u3 u4 u5 v0 v1 v2 v3 v4 v5 m0 m1 m2 x0 x1 x2 x3 x4 x5 y0 y1 y2 y3 y4 y5 f5 f6 f7 f8 f9 hb5 hb5d hB5 hG5 hD5 hz51 hz52
  go_wp2
  refine bodyPost_ret (by simp [results, Try.results13, go_sem, r0, r1, r2, t0, t1, t2]; rfl) rfl ?_
  exact dof_fin HRA.out HRB.out hlen.out hlen2.out V.out V2.out hmi.out hmi2.out hmo.out hmo2.out HN6.out HN62.out HBF.out

/-- The first numbers. -/
def iotD (n : Nat) : List Int := (List.range n).map fun (j : Nat) => (j : Int)
theorem iotD_len (n : Nat) : (iotD n).length = n := by simp [iotD]
theorem iotD_snoc (n : Nat) : iotD (n + 1) = iotD n ++ [(n : Int)] := by simp [iotD, List.range_succ]
theorem iotD_rg {n : Nat} {z : Int} (h : z ∈ iotD n) : 0 ≤ z ∧ z < n := by
  simp only [iotD, List.mem_map, List.mem_range] at h
  omega
theorem own_formD {w : World} {base : Nat} {v : Value} {x : List Int} (h : OwI w base v x) (hp : 0 < x.length) : ∃ g c, v = .slice (some ⟨g, 0, none⟩) x.length c := by
  rcases h.2 with ⟨_, h0⟩ | ⟨g, c, cu, e, _⟩
  · omega
  · exact ⟨g, c, e⟩
/-- The list that tells to which number a state's number is changed. -/
def ToL (w : World) (base g n c : Nat) (L : List Int) : Prop := w.ownsRow base 3 1 (.slice (some ⟨g, 0, none⟩) n c) n (ints L) ∧ L.length = n ∧ ∀ z ∈ L, 0 ≤ z ∧ z < n
theorem ToL.below {w w' : World} {base g n c : Nat} {L : List Int} (h : ToL w base g n c L) (k : Below w.heap.size w w') : ToL w' base g n c L := ⟨own_below h.1 k, h.2⟩
theorem ToL.at_ {w : World} {base g n c k : Nat} {L : List Int} (h : ToL w base g n c L) (hk : k < n) : ∃ t : Nat, w.cell? ⟨g, k, none⟩ = some (.int .i64 t) ∧ t < n ∧ g < w.heap.size := by
  obtain ⟨z, hc, _, _, hz⟩ := own_cellI h.1 hk
  have hm : z ∈ L := by
    rw [← hz.out, List.getElem?_eq_getElem (by rw [h.2.1]; exact hk)]
    exact List.getElem_mem _
  have := h.2.2 z hm
  refine ⟨z.toNat, by rw [hc, Int.toNat_of_nonneg this.1], by omega, ?_⟩
  rcases h.1.2 with ⟨e, _⟩ | ⟨g', c', cu, e, _, hg, _⟩
  · cases e
  · injection e with e1
    injection e1 with e1
    injection e1 with e1
    subst e1
    exact heap_lt hg
theorem copy_atD (m : Ma) (i o : Int) (A : Option Addr) (n c : Nat) (w : World) (hr : RdR w A m.r) (hi : m.i = i) (ho : m.o = o) (hn : m.r.length = n) (hl : n ≤ 1000000) (h0 : ∀ row ∈ m.r, 0 < row.length ∧ row.length ≤ 1000000) :
    Calls Try.prog 40 #[.agg #[.int .i64 i, .int .i64 o, .slice A n c]] w fun e w' => ∃ B k vs, e = .returned (.agg #[.int .i64 i, .int .i64 o, .slice B n k]) ∧ Hid (Bld w' w.heap.size (.slice B n k) m.r vs) ∧ Hid (Dst vs) ∧ Below w.heap.size w w' := by
  subst hi ho hn
  exact (copy_any m A c w hr hl h0).mono fun e w' h => h
theorem val_rows {m : Ma} {i : Nat} (v : Mc.Val m) (hi : m.i = i) (h1 : 1 ≤ i) : ∀ row ∈ m.r, 0 < row.length ∧ row.length ≤ 1000000 := fun row h => by have := v.len row h; have := v.i1; omega
theorem rmcheck_atD (m : Ma) (i o : Int) (A : Option Addr) (n c : Nat) (w : World) (hi : m.i = i) (ho : m.o = o) (hn : m.r.length = n) (hr : RdR w A m.r) (hl : n ≤ 1000000) :
    Calls Try.prog 47 #[.agg #[.int .i64 i, .int .i64 o, .slice A n c]] w fun e w' => e = .returned (.int .i64 (Mc.chk m)) ∧ Below w.heap.size w w' := by
  subst hi ho hn
  exact rmcheck_any m A c w hr hl
/-- What is known of the second machine while it is made. -/
structure DfI (W3 : World) (gb n : Nat) (i o : Int) (B : Option Addr) (c : Nat) (vs : List Value) (mb : Ma) (wr : World) : Prop where
  bld : Bld wr W3.heap.size (.slice B n c) mb.r vs
  dst : Dst vs
  val : Mc.Val mb
  hi : mb.i = i
  ho : mb.o = o
  hl : mb.r.length = n
  box : BxM wr gb i o B n c
  bel : Below W3.heap.size W3 wr
  ub : ∀ j, (Value.slice B n c).ownBlock = some j → j < gb
  uv : ∀ (j : Nat) (v : Value), vs[j]? = some v → ∀ l, v.ownBlock = some l → l < gb
theorem DfI.to {W3 wr wr' : World} {gb n c : Nat} {i o : Int} {B : Option Addr} {vs : List Value} {mb : Ma} (h : DfI W3 gb n i o B c vs mb wr) (k : Below wr.heap.size wr wr') : DfI W3 gb n i o B c vs mb wr' :=
  ⟨h.bld.below k, h.dst, h.val, h.hi, h.ho, h.hl, h.box.mvB k, below_next h.bel k, h.ub, h.uv⟩
theorem DfI.one {W3 wr : World} {gb n c ge : Nat} {i o x y : Int} {B : Option Addr} {vs : List Value} {mb : Ma} (h : DfI W3 gb n i o B c vs mb wr) (he : BxE wr ge x y) (hg : W3.heap.size ≤ ge) (hgb : gb ≤ ge) (v : Value) : DfI W3 gb n i o B c vs mb (wr.setCell ⟨ge, 0, none⟩ v) := by
  have he' : wr.heap[ge]? = _ := he
  refine ⟨⟨h.bld.1.kept (grown_setCell wr ⟨ge, 0, none⟩ v) ?_, fun k row hk => ?_⟩, h.dst, h.val, h.hi, h.ho, h.hl, h.box.apart (fun e => ?_) _ _, h.bel.setCell (p := ⟨ge, 0, none⟩) hg _, h.ub, h.uv⟩
  · cases hv : (Value.slice B n c).ownBlock with
    | none => exact .inl rfl
    | some x => exact .inr fun e => by have := h.ub x hv; injection e with e; dsimp only at e; omega
  · obtain ⟨g, cc, h1, h2⟩ := h.bld.2 k row hk
    have hlt := h.uv k _ h1 g rfl
    exact ⟨g, cc, h1, h2.kept (grown_setCell wr ⟨ge, 0, none⟩ v) (.inr fun e => by injection e with e; dsimp only at e; omega)⟩
  · have hb := h.box
    unfold BxM at hb
    rw [e, he'] at hb
    simp at hb
theorem ToL.one {w : World} {base g n c ge : Nat} {x y : Int} {L : List Int} (h : ToL w base g n c L) (he : BxE w ge x y) (v : Value) : ToL (w.setCell ⟨ge, 0, none⟩ v) base g n c L := by
  have he' : w.heap[ge]? = _ := he
  refine ⟨h.1.kept (grown_setCell w ⟨ge, 0, none⟩ v) ?_, h.2⟩
  rcases h.1.2 with ⟨e, _⟩ | ⟨g', c', cu, e, _, hg, _⟩
  · cases e
  · injection e with e1
    injection e1 with e1
    injection e1 with e1
    subst e1
    refine .inr fun e => ?_
    simp [Value.ownBlock] at e
    subst e
    rw [he'] at hg
    simp at hg
theorem DfI.put {W3 wr : World} {gb n c g cc t k : Nat} {i o x y : Int} {B : Option Addr} {vs : List Value} {mb : Ma} {row : List Ed} (h : DfI W3 gb n i o B c vs mb wr) (hr : mb.r[t]? = some row) (hk : k < row.length) (hv : vs[t]? = some (.slice (some ⟨g, 0, none⟩) row.length cc)) (hok : Mc.okE n o (x, y) = true) (hg : W3.heap.size ≤ g) (hcur : ∃ cur, wr.heap[g]? = some (.cells cur 27 (0, 0))) :
    DfI W3 gb n i o B c vs (Mc.wth mb t k (x, y)) ((wr.setCell ⟨g, k * 2, none⟩ (.int .i64 x)).setCell ⟨g, k * 2 + 1, none⟩ (.int .i64 y)) := by
  have hne : gb ≠ g := fun e => by
    obtain ⟨cur, hcu⟩ := hcur
    have hb := h.box
    unfold BxM at hb
    rw [e, hcu] at hb
    simp at hb
  refine ⟨?_, h.dst, Mc.val_of ?_, h.hi, h.ho, by rw [Mc.wth_len]; exact h.hl, (h.box.apart hne _ _).apart hne _ _, (h.bel.setCell (p := ⟨g, k * 2, none⟩) hg _).setCell (p := ⟨g, k * 2 + 1, none⟩) hg _, h.ub, h.uv⟩
  · rw [Mc.wth_r hr]
    exact h.bld.setE (x := (x, y)) h.dst hr hk hv
  · rw [Mc.chk_wth h.val hr hk, h.hl, h.ho, hok]
    rfl
set_option maxRecDepth 100000 in
set_option maxHeartbeats 4000000 in
theorem dof_alike (a b d a2 b2 d2 s0 s1 p0 p1 tx ty : Int) (q q2 : Bool) (A A2 : Option Addr) (EL c EL2 c2 : Nat) (es : List Int) (w : World) (hA : Rd16 w A es) (hEL : es.length = EL) (hle : EL ≤ 9223372036854775807)
    (ha : 0 ≤ a ∧ a ≤ 255) (hb : 0 ≤ b ∧ b ≤ 255) (hd : 0 ≤ d ∧ d ≤ 255) (hx0 : 0 ≤ s0 ∧ s0 ≤ 255) (hx1 : 0 ≤ s1 ∧ s1 ≤ 255) (hp0 : 0 ≤ p0 ∧ p0 ≤ 255) (hp1 : 0 ≤ p1 ∧ p1 ≤ 255) :
    Calls Try.prog 13 #[.agg #[.int .u8 a, .int .u8 b, .int .u8 d, .bool q, .slice A EL c, .int .u8 a2, .int .u8 b2, .int .u8 d2, .bool q2, .slice A2 EL2 c2, .bool true, .int .u8 s0, .int .u8 s1, .int .u8 p0, .int .u8 p1, .int .i64 tx, .int .i64 ty]] w (DoP w) := by
  obtain ⟨n, hn⟩ : ∃ n : Nat, 1 + a % 6 = n := ⟨(1 + a % 6).toNat, by omega⟩
  obtain ⟨i, hi⟩ : ∃ i : Nat, 1 + b % 3 = i := ⟨(1 + b % 3).toNat, by omega⟩
  obtain ⟨o, ho⟩ : ∃ o : Nat, 1 + d % 3 = o := ⟨(1 + d % 3).toNat, by omega⟩
  subst hEL
  have CM := Lib.hid (fun w hr => mofB_at a b d q A c es n i o w hr hle ha hb hd hn hi ho)
  obtain ⟨M, hM⟩ : ∃ M, Mc.mkN q n i o es = M := ⟨_, rfl⟩
  have V := Lib.hid (Mc.mkN_val (p := q) (n := n) (i := i) (o := o) (es := es) (by omega) (by omega) (by omega) (by omega) (by omega) (by omega))
  have hlen : Hid ((Mc.mkN q n i o es).r.length = n) := Mc.mkN_len _ _ _ _ _
  have hmi : Hid ((Mc.mkN q n i o es).i = i) := rfl
  have hmo : Hid ((Mc.mkN q n i o es).o = o) := rfl
  rw [hM] at V hlen hmi hmo
  simp only [hM] at CM
  have HA := Lib.hid hA
  have hn6 : n ≤ 6 := by omega
  have hn1 : 1 ≤ n := by omega
  have hi1 : 1 ≤ i := by omega
  have hi3 : i ≤ 3 := by omega
  clear hM ha hb hd hn hi ho hle hA
  obtain ⟨h, hh⟩ : ∃ h, w.heap.size = h := ⟨_, rfl⟩
  obtain ⟨W0, hW0⟩ : ∃ W0, ((w.alloc (.cells #[.int .u8 a, .int .u8 b, .int .u8 d, .bool q, .slice A es.length c, .int .u8 a2, .int .u8 b2, .int .u8 d2, .bool q2, .slice A2 EL2 c2, .bool true, .int .u8 s0, .int .u8 s1, .int .u8 p0, .int .u8 p1, .int .i64 tx, .int .i64 ty] 29)).alloc zM).alloc zM = W0 := ⟨_, rfl⟩
  have hb0 : Below w.heap.size w W0 := by rw [← hW0]; exact (((Below.refl _ _).alloc (by omega) _).alloc (by simp) _).alloc (by simp; omega) _
  have hD0 : DBx W0 h #[.int .u8 a, .int .u8 b, .int .u8 d, .bool q, .slice A es.length c, .int .u8 a2, .int .u8 b2, .int .u8 d2, .bool q2, .slice A2 EL2 c2, .bool true, .int .u8 s0, .int .u8 s1, .int .u8 p0, .int .u8 p1, .int .i64 tx, .int .i64 ty] := by
    rw [← hW0, ← hh]
    exact ((((Below.refl _ _).alloc (Nat.le_refl _) _).alloc (by simp) _).block _ (by simp)).trans (heap_alloc_new w _)
  have hz1 : BxM W0 (h + 1) 0 0 none 0 0 := by rw [← hW0, ← hh]; exact ((BxM.newE (by simp) 0 0 none 0 0).mvB ((Below.refl _ _).alloc (Nat.le_refl _) _))
  have hz2 : BxM W0 (h + 1 + 1) 0 0 none 0 0 := by rw [← hW0, ← hh]; exact BxM.newE (by simp) 0 0 none 0 0
  have hs0 : W0.heap.size = h + 1 + 1 + 1 := by rw [← hW0, ← hh]; simp
  have d0 := hD0.cell (k := 0) rfl
  have d1 := hD0.cell (k := 1) rfl
  have d2' := hD0.cell (k := 2) rfl
  have d3 := hD0.cell (k := 3) rfl
  have d4 := hD0.cell (k := 4) rfl
  have HB0 := Lib.hid hb0
  have HD0 := Lib.hid hD0
  have HZ1 := Lib.hid hz1
  have HZ2 := Lib.hid hz2
  clear hb0 hD0 hz1 hz2
  go_enter Try.func13, Try.ntmps13
  go_upto_region 1 with fail
  try rw [hW0]
  go_wp2_with fail
  refine (CM.out _ (HA.out.below HB0.out)).mono ?_
  rintro e w1 ⟨R, c1, vs1, rfl, hB1, hb1⟩
  have hD1 := HD0.out.to hb1
  have hz11 := HZ1.out.mvB hb1
  have hz12 := HZ2.out.mvB hb1
  have hbw1 := below_next HB0.out hb1
  clear d0 d1 d2' d3 d4 CM
  obtain ⟨g, hg⟩ : ∃ g, w1.heap.size = g := ⟨_, rfl⟩
  obtain ⟨W1, hW1⟩ : ∃ W1, w1.alloc (.cells #[.int .i64 i, .int .i64 o, .slice R n c1] 35) = W1 := ⟨_, rfl⟩
  have hbn : Below w1.heap.size w1 W1 := by rw [← hW1]; exact (Below.refl _ _).alloc (Nat.le_refl _) _
  have hG : BxM W1 g i o R n c1 := by rw [← hW1]; exact BxM.newE hg i o R n c1
  have hgs : h + 1 + 1 < g := by have := hb1.size; omega
  have hD2 := hD1.to hbn
  have hz21 := hz11.mvB hbn
  have hz22 := hz12.mvB hbn
  have hbw2 := below_next hbw1 hbn
  have hB2 := hB1.out.below hbn
  have hs1 : W1.heap.size = g + 1 := by rw [← hW1, ← hg]; simp
  clear hD1 hz11 hz12 hbw1 hb1 hB1
  obtain ⟨m0, m1, m2⟩ := hG.cells
  have e0 := hD2.cell (k := 10) rfl
  go_upto_region 3 with fail
  clear hW1 hbn hg m0 m1 m2
  have HG := Lib.hid hG
  have HD2 := Lib.hid hD2
  have HZ21 := Lib.hid hz21
  have HZ22 := Lib.hid hz22
  have HBW := Lib.hid hbw2
  have HB2 := Lib.hid hB2
  have HS1 := Lib.hid hs1
  clear hG hD2 hz21 hz22 hbw2 hB2 HZ1 HZ2 HB0 HD0 hs1
  go_wp2_with fail
  clear e0
  go_loopw [6, 7] (fun l v wr => ∃ k : Nat, k ≤ n ∧ v = .int .i64 k ∧ Hid (OwI wr W1.heap.size l (iotD k)) ∧ Hid (Below W1.heap.size W1 wr)) (fun _ v _ => n - (intOf v).toNat)
  case atStart => exact ⟨0, by omega, rfl, OwI.nil_ _ _, Below.refl _ _⟩
  case round =>
    obtain ⟨k, hk, rfl, hO, hbr⟩ := hrel
    by_cases hlt : k < n
    · have hkn : (k : Int) < n := by omega
      have hklen := iotD_len k
      have hSq : Hid (Rd (wr.alloc (.cells #[.int .i64 k] 3)) (some ⟨wr.heap.size, 0, none⟩) [(k : Int)]) := Rd.of_block (t := 3) (heap_alloc_new wr _)
      have hO3 : Hid (OwI (wr.alloc (.cells #[.int .i64 k] 3)) W1.heap.size u6 (iotD k)) := own_below hO.out ((Below.refl _ _).alloc (Nat.le_refl _) _)
      have hb3 := Lib.hid (hbr.out.alloc hbr.out.size (.cells #[.int .i64 k] 3))
      clear hO
      go_wp2_with (at_builtin; refine wpList_append_list _ (W0 := W1) (B := W1.heap.size) (xs := iotD k) (ys := [(k : Int)]) hO3.out hSq.out rfl ?b1 ?b2 hb3.out rfl _ _ rfl rfl rfl ?_)
      case b1 => simp; omega
      case b2 => exact hb3.out.size
      intro v9 w12 hO4 hb4
      have hO5 : Hid (OwI w12 W1.heap.size v9 (iotD (k + 1))) := by show OwI _ _ _ _; rw [iotD_snoc]; exact hO4
      have HB4 := Lib.hid hb4
      clear hO4 hb4 hO3 hb3 hSq hklen
      go_wp2
      go_roundw
      case rel => exact ⟨k + 1, by omega, by go_num, hO5, HB4⟩
      case measure => simp [intOf]; omega
    · obtain rfl : k = n := by omega
      obtain ⟨g9, d9, rfl⟩ := own_formD hO.out (by rw [iotD_len]; omega)
      have hT0 : ToL wr W1.heap.size g9 k d9 (iotD k) := by
        have h : wr.ownsRow W1.heap.size 3 1 (.slice (some ⟨g9, 0, none⟩) (iotD k).length d9) (iotD k).length (ints (iotD k)) := hO.out
        rw [iotD_len] at h
        exact ⟨h, iotD_len k, fun z hz => iotD_rg hz⟩
      have HT0 := Lib.hid hT0
      rw [iotD_len]
      clear hO hT0
      go_upto_if 43 with fail
      go_cut [8, 9] from 44 to 73 (fun _ _ wx => ∃ L, Hid (ToL wx W1.heap.size g9 k d9 L) ∧ Hid (Below W1.heap.size W1 wx))
      case first =>
        by_cases h1n : 1 < k
        · have h1n' : decide ((1 : Int) < k) = true := decide_eq_true (by omega)
          have hD3 := HD2.out.to hbr.out
          have l0 := hD3.cell (k := 11) rfl
          have l1 := hD3.cell (k := 12) rfl
          obtain ⟨q9, hq⟩ : ∃ q : Nat, (k : Int) - 1 = q := ⟨k - 1, by omega⟩
          have hq1 : 1 ≤ q9 := by omega
          obtain ⟨a0, ha0, ha1⟩ : ∃ a0 : Nat, s0.tmod (q9 : Int) = a0 ∧ a0 < q9 := ⟨(s0.tmod (q9 : Int)).toNat, by rw [Int.tmod_eq_emod_of_nonneg hx0.1]; have := Int.emod_nonneg s0 (show (q9 : Int) ≠ 0 by omega); omega, by rw [Int.tmod_eq_emod_of_nonneg hx0.1]; have := Int.emod_lt_of_pos s0 (show (0 : Int) < q9 by omega); have := Int.emod_nonneg s0 (show (q9 : Int) ≠ 0 by omega); omega⟩
          obtain ⟨b0, hb0, hb1⟩ : ∃ b0 : Nat, s1.tmod (q9 : Int) = b0 ∧ b0 < q9 := ⟨(s1.tmod (q9 : Int)).toNat, by rw [Int.tmod_eq_emod_of_nonneg hx1.1]; have := Int.emod_nonneg s1 (show (q9 : Int) ≠ 0 by omega); omega, by rw [Int.tmod_eq_emod_of_nonneg hx1.1]; have := Int.emod_lt_of_pos s1 (show (0 : Int) < q9 by omega); have := Int.emod_nonneg s1 (show (q9 : Int) ≠ 0 by omega); omega⟩
          have hw0 : IntKind.i64.wrap s0 = s0 := IntWalk.i64_in _ (by omega)
          have hw1 : IntKind.i64.wrap s1 = s1 := IntWalk.i64_in _ (by omega)
          have hn0 : ((q9 : Int) == 0) = false := by rw [beq_eq_false_iff_ne]; omega
          have hn0a : ¬ q9 = 0 := by omega
          have hqk : q9 + 1 = k := by omega
          clear hD3
          go_upto_region 12 with fail
          go_quiet (fail)
          clear l0 l1 hw0 hw1 hn0 hn0a ha0 hb0 hq
          have hb9 := Lib.hid (below_drewN' hbr.out nq)
          have hO9 := Lib.hid (HT0.out.below (below_drewN' (Below.refl _ _) nq))
          obtain ⟨W9, hW9⟩ : ∃ W, wr.drewN nq = W := ⟨_, rfl⟩
          rw [hW9] at hb9 hO9
          rw [hW9]
          clear hW9 hbr HT0
          have hOk := hO9.out.1
          obtain ⟨L, hLd⟩ : ∃ L, iotD k = L := ⟨_, rfl⟩
          have hLr := hO9.out.2
          rw [hLd] at hOk hLr
          obtain ⟨za, va, fa, hga, hza⟩ := own_cellI hOk (k := 1 + a0) (by omega)
          obtain ⟨zb, vb, fb, _, hzb⟩ := own_cellI hOk (k := 1 + b0) (by omega)
          have ea : ((1 : Int) + a0) = ((1 + a0 : Nat) : Int) := by omega
          have eb : ((1 : Int) + b0) = ((1 + b0 : Nat) : Int) := by omega
          obtain ⟨a1, ha1'⟩ : ∃ a1, 1 + a0 = a1 := ⟨_, rfl⟩
          obtain ⟨b1, hb1'⟩ : ∃ b1, 1 + b0 = b1 := ⟨_, rfl⟩
          have hak : a1 < k := by omega
          have hbk : b1 < k := by omega
          have hakI : (a1 : Int) < k := by omega
          have hbkI : (b1 : Int) < k := by omega
          rw [ha1'] at ea va fa hza
          rw [hb1'] at eb vb fb hzb
          rw [ea, eb]
          have vb2 : (W9.setCell ⟨g9, a1, none⟩ (.int .i64 zb)).cell? ⟨g9, b1, none⟩ = some (.int .i64 zb) := by
            obtain ⟨z, hz1, _, _, hz2⟩ := own_cellI (own_setI hOk zb (k := a1)) (k := b1) hbk
            rw [hz1]
            have hz2 := hz2.out
            have hzb := hzb.out
            rw [List.getElem?_set] at hz2
            split at hz2
            · rw [if_pos (by omega)] at hz2
              rw [← hz2]; rfl
            · rw [← hz2, hzb]
          have fb2 : (W9.setCell ⟨g9, a1, none⟩ (.int .i64 zb)).frozen? ⟨g9, b1, none⟩ = false := by
            obtain ⟨_, _, hz1, _, _⟩ := own_cellI (own_setI hOk zb (k := a1)) (k := b1) hbk
            exact hz1
          have hmem : ∀ {j : Nat} {z : Int}, j < k → L[j]?.getD 0 = z → 0 ≤ z ∧ z < k := fun {j z} hj h => by
            refine hLr.2 z ?_
            rw [← h, List.getElem?_eq_getElem (by rw [hLr.1]; exact hj)]
            exact List.getElem_mem _
          have hzaR := hmem hak hza.out
          have hzbR := hmem hbk hzb.out
          have HO := Lib.hid hOk
          have HLr := Lib.hid hLr
          clear hqk ea eb ha1' hb1' ha1 hb1 hq1 hOk hO9 hLd hmem hLr hza hzb
          go_upto_region 13 with fail
          go_region
          have hO2 : Hid (ToL ((W9.setCell ⟨g9, a1, none⟩ (.int .i64 zb)).setCell ⟨g9, b1, none⟩ (.int .i64 za)).drew W1.heap.size g9 k d9 ((L.set a1 zb).set b1 za)) := by
            have h6 := own_below (own_setI (own_setI HO.out zb (k := a1)) za (k := b1)) (Below.refl _ _).drew
            refine ⟨h6, by rw [List.length_set, List.length_set]; exact HLr.out.1, fun z hz => ?_⟩
            rcases List.mem_or_eq_of_mem_set hz with hz | rfl
            · rcases List.mem_or_eq_of_mem_set hz with hz | rfl
              · exact HLr.out.2 z hz
              · exact hzbR
            · exact hzaR
          have hBn := Lib.hid ((hb9.out.setCell (p := ⟨g9, a1, none⟩) hga (.int .i64 zb)).setCell (p := ⟨g9, b1, none⟩) hga (.int .i64 za)).drew
          clear vb2 fb2 va vb fa fb HO HLr hzaR hzbR hak hbk hakI hbkI hb9
          go_wp2_with fail
          go_meet
          exact ⟨_, hO2, hBn⟩
        · have h1n' : decide ((1 : Int) < k) = false := decide_eq_false (by omega)
          go_wp2_with fail
          go_meet
          exact ⟨_, HT0, hbr⟩
      case rest =>
      clear HT0 hbr
      obtain ⟨L, hTL, hbr⟩ := hcut
      have hGc := HG.out.mvB hbr.out
      obtain ⟨m0, m1, m2⟩ := hGc.cells
      have hRc : RdR wc R M.r := (HB2.out.below hbr.out).two
      go_wp2_with fail
      refine (copy_atD M i o R k c1 wc hRc hmi.out hmo.out hlen.out (by omega) (val_rows V.out hmi.out hi1)).mono ?_
      rintro e w2 ⟨B, kB, vsB, rfl, hBb, hDs, hb2⟩
      clear m0 m1 m2 hRc hGc
      obtain ⟨gb, hgb⟩ : ∃ gb, w2.heap.size = gb := ⟨_, rfl⟩
      obtain ⟨W4, hW4⟩ : ∃ W4, w2.alloc (.cells #[.int .i64 i, .int .i64 o, .slice B k kB] 35) = W4 := ⟨_, rfl⟩
      have hbn : Below w2.heap.size w2 W4 := by rw [← hW4]; exact (Below.refl _ _).alloc (Nat.le_refl _) _
      have hI0 : Hid (DfI wc gb k i o B kB vsB M W4) := ⟨hBb.out.below hbn, hDs.out, V.out, hmi.out, hmo.out, hlen.out, by rw [← hW4]; exact BxM.newE hgb i o B k kB, below_next hb2 hbn, fun j hj => by rw [← hgb]; exact (hBb.out.1.lt j hj).2, fun j v hj l hl => by
        rw [← hgb]
        have hjl : j < vsB.length := (List.getElem?_eq_some_iff.1 hj).1
        have hvl : vsB.length = M.r.length := by have := hBb.out.1.1; omega
        obtain ⟨g', c', h1, h2⟩ := hBb.out.2 j _ (List.getElem?_eq_getElem (by omega))
        rw [hj] at h1
        injection h1 with h1
        subst h1
        exact (h2.lt l hl).2⟩
      have hgbc : wc.heap.size ≤ gb := by rw [← hgb]; exact hb2.size
      have HGB := Lib.hid hgbc
      have hgR : Hid (g < wc.heap.size) := by have := HG.out.mvB hbr.out; exact heap_lt this
      have hTc := hTL.out
      clear hBb hDs hb2 hbn hgbc hTc
      go_wp2_with fail
      try rw [hW4]
      clear hW4 hgb
      go_loopw [11] (fun v wr => ∃ (s : Nat) (mb : Ma), s ≤ k ∧ v = .int .i64 s ∧ Hid (DfI wc gb k i o B kB vsB mb wr)) (fun v _ => k - (intOf v).toNat)
      case atStart => exact ⟨0, M, Nat.zero_le _, rfl, hI0⟩
      case round =>
        obtain ⟨s, mb, hs, rfl, hI⟩ := hrel
        clear hI0
        by_cases hsk : s < k
        · have hsk' : (s : Int) < k := by omega
          go_wp2_with fail
          go_loopw [12] (fun v wy => ∃ (j : Nat) (mb2 : Ma), j ≤ i ∧ v = .int .i64 j ∧ Hid (DfI wc gb k i o B kB vsB mb2 wy)) (fun v _ => i - (intOf v).toNat)
          case atStart => exact ⟨0, mb, Nat.zero_le _, rfl, hI⟩
          case round =>
            obtain ⟨j, mb2, hj, rfl, hJ⟩ := hrel
            clear hI
            have hbc := Lib.hid (below_next hbr.out hJ.out.bel)
            have hGj := HG.out.mvB hbc.out
            obtain ⟨m0, m1, m2⟩ := hGj.cells
            by_cases hji : j < i
            · have hji' : (j : Int) < i := by omega
              have hRj : RdR wr R M.r := ((HB2.out.below hbr.out).two).below hJ.out.bel
              obtain ⟨br, offr, Be, de, qe, row, rfl, hbr2, hcr, _, _, _, hpe, hqe, hrw⟩ := hRj.at_ (k := s) (by rw [hlen.out]; exact hsk)
              have hrl : row.length = i := by have h1 := V.out.len row (List.mem_of_getElem? hrw.out); rw [hmi.out] at h1; omega
              obtain ⟨be, offe, ex, ey, rfl, hbe, hce0, hce1, hex⟩ := hpe.at_ (k := j) (by omega)
              have hqi : i = qe := by rw [← hqe.out, hrl]
              subst hqi
              have hok0 : Mc.okE k o (ex, ey) = true := by
                have h1 := List.all_eq_true.1 (Mc.okE_val V.out (List.mem_of_getElem? hrw.out)) _ (List.mem_of_getElem? hex.out)
                rwa [hlen.out, hmo.out] at h1
              have HOK := Lib.hid hok0
              clear hok0 hRj hpe hqe hrw hex hrl
              obtain ⟨ge, hge⟩ : ∃ ge, wr.heap.size = ge := ⟨_, rfl⟩
              obtain ⟨W5, hW5⟩ : ∃ W5, wr.alloc (.cells #[.int .i64 ex, .int .i64 ey] 27) = W5 := ⟨_, rfl⟩
              have hbn := (Below.refl wr.heap.size wr).alloc (Nat.le_refl _) (.cells #[.int .i64 ex, .int .i64 ey] 27)
              rw [hW5] at hbn
              have hE5 : Hid (BxE W5 ge ex ey) := by show BxE _ _ _ _; rw [← hW5, ← hge]; exact heap_alloc_new wr _
              have hI5 := Lib.hid (hJ.out.to hbn)
              have hT5 := Lib.hid (hTL.out.below (below_next hJ.out.bel hbn))
              have hgel : Hid (wc.heap.size ≤ ge) := by show _ ≤ _; rw [← hge]; exact hJ.out.bel.size
              have hgeb : Hid (gb ≤ ge) := by show _ ≤ _; rw [← hge]; have := heap_lt hJ.out.box; omega
              clear hbn hbc hGj hJ
              obtain ⟨q0, q1, q2, q3⟩ := hE5.out.cells
              by_cases hx : ex < 0
              · have hxd : decide ((0 : Int) ≤ ex) = false := decide_eq_false (by omega)
                have hok := HOK
                have hI6 := hI5
                have hT6 := hT5
                have hE6 := hE5
                clear hI5 hT5 hE5 HOK
                obtain ⟨t, ht, htk, hg9⟩ := hT6.out.at_ (k := s) hsk
                obtain ⟨rowb, hrb⟩ : ∃ r, mb2.r[t]? = some r := ⟨_, List.getElem?_eq_getElem (by rw [hI6.out.hl]; exact htk)⟩
                have hrbl : rowb.length = i := by have h1 := hI6.out.val.len rowb (List.mem_of_getElem? hrb); rw [hI6.out.hi] at h1; omega
                obtain ⟨⟨yx, yy⟩, hye⟩ : ∃ y, rowb[j]? = some y := ⟨_, List.getElem?_eq_getElem (by omega)⟩
                obtain ⟨pb, gg, cc, rfl, hpb, hpl, hgg, hgl, hpg, hpc, hgc, hgd, hfc, hfd, hvs, hcur⟩ := hI6.out.bld.edge hrb hye
                rw [hrbl] at hpc
                obtain ⟨_, _, n2⟩ := hI6.out.box.cells
                obtain ⟨q0, q1, _, _⟩ := hE6.out.cells
                have hNew := Lib.hid (hI6.out.put (k := j) (x := ex) (y := ey) hrb (by omega) hvs.out hok.out hgg hcur.out)
                have htkI : (t : Int) < k := by omega
                clear hye hcur hvs hrb hrbl hI6 hT6 hE6 hgg hpb
                go_upto_region 24 with fail
                go_region
                have hFin := Lib.hid (hNew.out.to (Below.refl _ _).drew)
                clear hNew hpc hgc hgd hfc hfd hpl hgl hpg n2 q0 q1 ht hg9
                go_wp2_with fail
                go_roundw
                case rel => exact ⟨j + 1, _, by omega, by go_num, hFin⟩
                case measure => simp [intOf]; omega
              · have hxd : decide ((0 : Int) ≤ ex) = true := decide_eq_true (by omega)
                have hc := Mc.okE_cases HOK.out
                obtain ⟨x9, rfl⟩ := Int.eq_ofNat_of_zero_le (show 0 ≤ ex by omega)
                have hx9 : x9 < k := by
                  rcases hc with h | h
                  · have := h.1; dsimp only at this; omega
                  · have := h.2.1; dsimp only at this; omega
                obtain ⟨t9, ht9, ht9k, hg9'⟩ := hT5.out.at_ hx9
                have hx9I : (x9 : Int) < k := by omega
                have hok : Hid (Mc.okE k o ((t9 : Int), ey) = true) := by
                  rcases hc with h | h
                  · have := h.1; dsimp only at this; omega
                  · exact Mc.okE_in (by show (0 : Int) ≤ t9; omega) (by show (t9 : Int) < k; omega) h.2.2.1 h.2.2.2
                obtain ⟨W6, hW6⟩ : ∃ W6, W5.setCell ⟨ge, 0, none⟩ (.int .i64 t9) = W6 := ⟨_, rfl⟩
                have hE6 : Hid (BxE W6 ge t9 ey) := by
                  show BxE _ _ _ _
                  have h0 : W5.heap[ge]? = _ := hE5.out
                  rw [← hW6]
                  unfold BxE
                  simp [World.setCell, Array.getElem?_modify, h0]
                have hI6 : Hid (DfI wc gb k i o B kB vsB mb2 W6) := by
                  show DfI _ _ _ _ _ _ _ _ _ _
                  rw [← hW6]
                  exact hI5.out.one hE5.out hgel.out hgeb.out _
                have hT6 : Hid (ToL W6 W1.heap.size g9 k d9 L) := by
                  show ToL _ _ _ _ _ _
                  rw [← hW6]
                  exact hT5.out.one hE5.out _
                clear hc hI5 hT5 hE5 HOK
                obtain ⟨t, ht, htk, hg9⟩ := hT6.out.at_ (k := s) hsk
                obtain ⟨rowb, hrb⟩ : ∃ r, mb2.r[t]? = some r := ⟨_, List.getElem?_eq_getElem (by rw [hI6.out.hl]; exact htk)⟩
                have hrbl : rowb.length = i := by have h1 := hI6.out.val.len rowb (List.mem_of_getElem? hrb); rw [hI6.out.hi] at h1; omega
                obtain ⟨⟨yx, yy⟩, hye⟩ : ∃ y, rowb[j]? = some y := ⟨_, List.getElem?_eq_getElem (by omega)⟩
                obtain ⟨pb, gg, cc, rfl, hpb, hpl, hgg, hgl, hpg, hpc, hgc, hgd, hfc, hfd, hvs, hcur⟩ := hI6.out.bld.edge hrb hye
                rw [hrbl] at hpc
                obtain ⟨_, _, n2⟩ := hI6.out.box.cells
                obtain ⟨q0, q1, _, _⟩ := hE6.out.cells
                have hNew := Lib.hid (hI6.out.put (k := j) (x := t9) (y := ey) hrb (by omega) hvs.out hok.out hgg hcur.out)
                have htkI : (t : Int) < k := by omega
                clear hye hcur hvs hrb hrbl hI6 hT6 hE6 hgg hpb
                go_upto_region 24 with fail
                go_region
                have hFin := Lib.hid (hNew.out.to (Below.refl _ _).drew)
                clear hNew hpc hgc hgd hfc hfd hpl hgl hpg n2 q0 q1 ht hg9
                go_wp2_with fail
                go_roundw
                case rel => exact ⟨j + 1, _, by omega, by go_num, hFin⟩
                case measure => simp [intOf]; omega
            · obtain rfl : j = i := by omega
              have hji' : decide ((j : Int) < j) = false := decide_eq_false (by omega)
              go_wp2_with fail
              clear m0 m1 m2
              go_roundw
              case rel => exact ⟨s + 1, mb2, by omega, by go_num, hJ⟩
              case measure => simp [intOf]; omega
        · obtain rfl : s = k := by omega
          have hsk' : decide ((s : Int) < s) = false := decide_eq_false (by omega)
          obtain ⟨n0, n1, n2⟩ := hI.out.box.cells
          go_wp2_with fail
          refine (copy_atD mb i o B s kB wr hI.out.bld.two hI.out.hi hI.out.ho hI.out.hl (by omega) (val_rows hI.out.val hI.out.hi hi1)).mono ?_
          rintro e w8 ⟨C, kC, vsC, rfl, hBC, hDC, hb8⟩
          clear n0 n1 n2
          obtain ⟨gc, hgc⟩ : ∃ gc, w8.heap.size = gc := ⟨_, rfl⟩
          obtain ⟨W7, hW7⟩ : ∃ W7, w8.alloc (.cells #[.int .i64 i, .int .i64 o, .slice C s kC] 35) = W7 := ⟨_, rfl⟩
          have hbn : Below w8.heap.size w8 W7 := by rw [← hW7]; exact (Below.refl _ _).alloc (Nat.le_refl _) _
          have hC7 : BxM W7 gc i o C s kC := by rw [← hW7]; exact BxM.newE hgc i o C s kC
          have hb7 := below_next hb8 hbn
          have hI7 := Lib.hid (hI.out.to hb7)
          have hBC7 := Lib.hid (hBC.out.below hbn)
          have hall := Lib.hid (below_next hbr.out hI7.out.bel)
          have hD7 := HD2.out.to hall.out
          have hG7 := HG.out.mvB hall.out
          have hgcw : wr.heap.size ≤ gc := by rw [← hgc]; exact hb8.size
          have HGC := Lib.hid hgcw
          have HC7 := Lib.hid hC7
          have HB7 := Lib.hid hb7
          clear hb8 hbn hBC hb7 hgcw
          obtain ⟨u0, u1, u2⟩ := hC7.cells
          obtain ⟨v0, v1, v2⟩ := hG7.cells
          have l0 := hD7.cell (k := 13) rfl
          have l1 := hD7.cell (k := 14) rfl
          have l2 := hD7.cell (k := 15) rfl
          have l3 := hD7.cell (k := 16) rfl
          have hw0 : IntKind.i64.wrap p0 = p0 := IntWalk.i64_in _ (by omega)
          have hw1 : IntKind.i64.wrap p1 = p1 := IntWalk.i64_in _ (by omega)
          have hn0 : ((s : Int) == 0) = false := by rw [beq_eq_false_iff_ne]; omega
          have hi0 : ((i : Int) == 0) = false := by rw [beq_eq_false_iff_ne]; omega
          have hn0a : ¬ s = 0 := by omega
          have hi0a : ¬ i = 0 := by omega
          obtain ⟨sp, hsp, hspn⟩ : ∃ sp : Nat, p0.tmod (s : Int) = sp ∧ sp < s := ⟨(p0.tmod (s : Int)).toNat, by rw [Int.tmod_eq_emod_of_nonneg hp0.1]; have := Int.emod_nonneg p0 (show (s : Int) ≠ 0 by omega); omega, by rw [Int.tmod_eq_emod_of_nonneg hp0.1]; have := Int.emod_lt_of_pos p0 (show (0 : Int) < s by omega); have := Int.emod_nonneg p0 (show (s : Int) ≠ 0 by omega); omega⟩
          obtain ⟨jp, hjp, hjpi⟩ : ∃ jp : Nat, p1.tmod (i : Int) = jp ∧ jp < i := ⟨(p1.tmod (i : Int)).toNat, by rw [Int.tmod_eq_emod_of_nonneg hp1.1]; have := Int.emod_nonneg p1 (show (i : Int) ≠ 0 by omega); omega, by rw [Int.tmod_eq_emod_of_nonneg hp1.1]; have := Int.emod_lt_of_pos p1 (show (0 : Int) < i by omega); have := Int.emod_nonneg p1 (show (i : Int) ≠ 0 by omega); omega⟩
          have hspI : (sp : Int) < s := by omega
          have hjpI : (jp : Int) < i := by omega
          obtain ⟨rowc, hrc⟩ : ∃ r, mb.r[sp]? = some r := ⟨_, List.getElem?_eq_getElem (by rw [hI7.out.hl]; exact hspn)⟩
          have hrcl : rowc.length = i := by have h1 := hI7.out.val.len rowc (List.mem_of_getElem? hrc); rw [hI7.out.hi] at h1; omega
          obtain ⟨⟨yx, yy⟩, hye⟩ : ∃ y, rowc[jp]? = some y := ⟨_, List.getElem?_eq_getElem (by omega)⟩
          obtain ⟨pb, gg, cc, rfl, hpb, hpl, hgg, hgl, hpg, hpc, hgc2, hgd, hfc, hfd, hvs, hcur⟩ := hBC7.out.edge hrc hye
          rw [hrcl] at hpc
          obtain ⟨Mx, hMx⟩ : ∃ Mx, Mc.wth mb sp jp (tx, ty) = Mx := ⟨_, rfl⟩
          have hMr : Hid (Mx.r = mb.r.set sp (rowc.set jp (tx, ty))) := by show _ = _; rw [← hMx, Mc.wth_r hrc]
          have hMl : Hid (Mx.r.length = s) := by show _ = _; rw [← hMx, Mc.wth_len]; exact hI7.out.hl
          have hMi : Hid (Mx.i = i) := by show _ = _; rw [← hMx]; exact hI7.out.hi
          have hMo : Hid (Mx.o = o) := by show _ = _; rw [← hMx]; exact hI7.out.ho
          have hNew : Hid (Bld ((W7.setCell ⟨gg, jp * 2, none⟩ (.int .i64 tx)).setCell ⟨gg, jp * 2 + 1, none⟩ (.int .i64 ty)) wr.heap.size (.slice (some ⟨pb, 0, none⟩) s kC) Mx.r vsC) := by
            show Bld _ _ _ _ _
            rw [hMr.out]
            exact hBC7.out.setE (x := (tx, ty)) hDC.out hrc (by omega) hvs.out
          have hneC : gc ≠ gg := fun e => by
            obtain ⟨cur, hcu⟩ := hcur.out
            have hb := hC7
            unfold BxM at hb
            rw [e, hcu] at hb
            simp at hb
          have hCn : Hid (BxM ((W7.setCell ⟨gg, jp * 2, none⟩ (.int .i64 tx)).setCell ⟨gg, jp * 2 + 1, none⟩ (.int .i64 ty)) gc i o (some ⟨pb, 0, none⟩) s kC) := (hC7.apart hneC _ _).apart hneC _ _
          have hBn : Hid (Below wr.heap.size wr ((W7.setCell ⟨gg, jp * 2, none⟩ (.int .i64 tx)).setCell ⟨gg, jp * 2 + 1, none⟩ (.int .i64 ty)).drew) := (((HB7.out.setCell (p := ⟨gg, jp * 2, none⟩) hgg _).setCell (p := ⟨gg, jp * 2 + 1, none⟩) hgg _).drew)
          have hNewD := Lib.hid (hNew.out.below (Below.refl _ _).drew)
          have hCnD : Hid (BxM ((W7.setCell ⟨gg, jp * 2, none⟩ (.int .i64 tx)).setCell ⟨gg, jp * 2 + 1, none⟩ (.int .i64 ty)).drew gc i o (some ⟨pb, 0, none⟩) s kC) := hCn.out
          clear hC7 hG7 hD7 hye hrc hrcl hvs hcur hMx hneC hNew hCn hgg hpb hBC7 hI7
          go_upto_region 26 with fail
          go_region
          clear u0 u1 u2 v0 v1 v2 l0 l1 l2 l3 hw0 hw1 hn0 hi0 hn0a hi0a hsp hspn hjp hjpi hspI hjpI hpc hgc2 hgd hfc hfd hpl hgl hpg HC7 HB7
          obtain ⟨W8, hW8⟩ : ∃ W8, ((W7.setCell ⟨gg, jp * 2, none⟩ (.int .i64 tx)).setCell ⟨gg, jp * 2 + 1, none⟩ (.int .i64 ty)).drew = W8 := ⟨_, rfl⟩
          rw [hW8] at hBn hNewD hCnD
          rw [hW8]
          clear hW8 hall
          have hI8 := Lib.hid (hI.out.to hBn.out)
          have hall8 := Lib.hid (below_next hbr.out hI8.out.bel)
          obtain ⟨u0, u1, u2⟩ := hCnD.out.cells
          go_wp2_with fail
          refine (rmcheck_atD Mx i o (some ⟨pb, 0, none⟩) s kC W8 hMi.out hMo.out hMl.out hNewD.out.two (by omega)).mono ?_
          rintro e W9 ⟨rfl, hb9⟩
          clear u0 u1 u2
          have hI9 := Lib.hid (hI8.out.to hb9)
          have hall9 := Lib.hid (below_next hall8.out hb9)
          have hC9 := Lib.hid (hCnD.out.mvB hb9)
          have hN9 := Lib.hid (hNewD.out.below hb9)
          have hG9 := Lib.hid (HG.out.mvB hall9.out)
          have hZ1 := Lib.hid (HZ21.out.mvB hall9.out)
          have hZ2 := Lib.hid (HZ22.out.mvB hall9.out)
          have hA9 := Lib.hid (HB2.out.below hall9.out)
          have hbw9 := Lib.hid (below_next HBW.out hall9.out)
          have hwc : Hid (h + 1 + 1 + 1 ≤ wc.heap.size) := by show _ ≤ _; have := hbr.out.size; have := HS1.out; omega
          have hwr : Hid (h + 1 + 1 + 1 ≤ wr.heap.size) := by show _ ≤ _; have := hI.out.bel.size; have := hwc.out; omega
          have hgcz : Hid (h + 1 + 1 + 1 ≤ gc) := by show _ ≤ _; have := HGC.out; have := hwr.out; omega
          have hgbz : Hid (h + 1 + 1 + 1 ≤ gb) := by show _ ≤ _; have := HGB.out; have := hwc.out; omega
          have HG9lt : Hid (g < wc.heap.size ∧ wc.heap.size ≤ gb ∧ wc.heap.size ≤ gc) := ⟨hgR.out, HGB.out, by have := HGC.out; have := hI.out.bel.size; omega⟩
          clear hI hI8 hall8 hBn hCnD hNewD hb9 HGC HGB
          obtain ⟨m0, m1, m2⟩ := hG9.out.cells
          obtain ⟨x0, x1, x2⟩ := hZ1.out.cells
          obtain ⟨x3, x4, x5⟩ := hZ1.out.frozen
          obtain ⟨y0, y1, y2⟩ := hZ2.out.cells
          obtain ⟨y3, y4, y5⟩ := hZ2.out.frozen
          by_cases hf : Mc.chk Mx = 0
          · have hVx : Hid (Mc.Val Mx) := Mc.val_of hf
            rw [hf]
            obtain ⟨u0, u1, u2⟩ := hC9.out.cells
            go_upto_region 28 with fail
            have hgne : g ≠ gc := by have := hgR.out; have := hgcz.out; have := HG9lt.out; omega
            have HS : ∀ w' : World, BxM w' g i o R s c1 → BxM w' gc i o (some ⟨pb, 0, none⟩) s kC → (w'.cell? ⟨g, 0, none⟩ = some (.int .i64 i) ∧ w'.cell? ⟨g, 1, none⟩ = some (.int .i64 o) ∧ w'.cell? ⟨g, 2, none⟩ = some (.slice R s c1) ∧ w'.cell? ⟨gc, 0, none⟩ = some (.int .i64 i) ∧ w'.cell? ⟨gc, 1, none⟩ = some (.int .i64 o) ∧ w'.cell? ⟨gc, 2, none⟩ = some (.slice (some ⟨pb, 0, none⟩) s kC)) := fun w' y x => ⟨y.cells.1, y.cells.2.1, y.cells.2.2, x.cells.1, x.cells.2.1, x.cells.2.2⟩
            have hgz := hgcz.out
            have hX9 : BxM W9 gc i o (some ⟨pb, 0, none⟩) s kC := hC9.out
            have sM := HS W9 hG9.out hX9
            have sN := HS W9.drew hG9.out.drew hX9.drew
            have hGA : BxM (set3 W9 (h + 1) (.int .i64 i) (.int .i64 o) (.slice R s c1)) g i o R s c1 := BxM.apart3 (w := W9) hG9.out (by omega) _ _ _
            have hXA : BxM (set3 W9 (h + 1) (.int .i64 i) (.int .i64 o) (.slice R s c1)) gc i o (some ⟨pb, 0, none⟩) s kC := BxM.apart3 (w := W9) hX9 (by omega) _ _ _
            have hGC : BxM (set3 W9 (h + 1 + 1) (.int .i64 i) (.int .i64 o) (.slice (some ⟨pb, 0, none⟩) s kC)) g i o R s c1 := BxM.apart3 (w := W9) hG9.out (by omega) _ _ _
            have hXC : BxM (set3 W9 (h + 1 + 1) (.int .i64 i) (.int .i64 o) (.slice (some ⟨pb, 0, none⟩) s kC)) gc i o (some ⟨pb, 0, none⟩) s kC := BxM.apart3 (w := W9) hX9 (by omega) _ _ _
            have sA := HS (set3 W9 (h + 1) (.int .i64 i) (.int .i64 o) (.slice R s c1)).drew hGA.drew hXA.drew
            have sC := HS (set3 W9 (h + 1 + 1) (.int .i64 i) (.int .i64 o) (.slice (some ⟨pb, 0, none⟩) s kC)).drew hGC.drew hXC.drew
            have sB := HS (set3 (set3 W9 (h + 1) (.int .i64 i) (.int .i64 o) (.slice R s c1)) (h + 1 + 1) (.int .i64 i) (.int .i64 o) (.slice (some ⟨pb, 0, none⟩) s kC)).drew (hGA.apart3 (g' := h + 1 + 1) (by omega) (.int .i64 i) (.int .i64 o) (.slice (some ⟨pb, 0, none⟩) s kC)).drew (hXA.apart3 (g' := h + 1 + 1) (by omega) (.int .i64 i) (.int .i64 o) (.slice (some ⟨pb, 0, none⟩) s kC)).drew
            have sE := HS (set3 (set3 W9 (h + 1 + 1) (.int .i64 i) (.int .i64 o) (.slice (some ⟨pb, 0, none⟩) s kC)) (h + 1) (.int .i64 i) (.int .i64 o) (.slice R s c1)).drew (hGC.apart3 (g' := h + 1) (by omega) (.int .i64 i) (.int .i64 o) (.slice R s c1)).drew (hXC.apart3 (g' := h + 1) (by omega) (.int .i64 i) (.int .i64 o) (.slice R s c1)).drew
            go_region_held3 (fun w' => w'.cell? ⟨g, 0, none⟩ = some (.int .i64 i) ∧ w'.cell? ⟨g, 1, none⟩ = some (.int .i64 o) ∧ w'.cell? ⟨g, 2, none⟩ = some (.slice R s c1) ∧ w'.cell? ⟨gc, 0, none⟩ = some (.int .i64 i) ∧ w'.cell? ⟨gc, 1, none⟩ = some (.int .i64 o) ∧ w'.cell? ⟨gc, 2, none⟩ = some (.slice (some ⟨pb, 0, none⟩) s kC))
              (first | (with_reducible exact sB) | (with_reducible exact sE) | (with_reducible exact sA) | (with_reducible exact sC) | (with_reducible exact sM) | (with_reducible exact sN) | go_keep)
              (fail)
            obtain ⟨Wf, hWf⟩ : ∃ Wf, (set3 (set3 W9 (h + 1) (.int .i64 i) (.int .i64 o) (.slice R s c1)) (h + 1 + 1) (.int .i64 i) (.int .i64 o) (.slice (some ⟨pb, 0, none⟩) s kC)).drew = Wf := ⟨_, rfl⟩
            have hF1 : BxM Wf (h + 1) i o R s c1 := by rw [← hWf]; exact ((BxM.set3 (w := W9) hZ1.out (i' := i) (o' := o) (A' := R) (n' := s) (c' := c1)).apart3 (by omega) _ _ _).drew
            have hF2 : BxM Wf (h + 1 + 1) i o (some ⟨pb, 0, none⟩) s kC := by rw [← hWf]; exact ((BxM.apart3 (w := W9) hZ2.out (by omega) _ _ _).set3).drew
            have hwc' := hwc.out
            have hwr' := hwr.out
            have hBa : Bld Wf W0.heap.size (.slice R s c1) M.r vs1 := by rw [← hWf]; exact ((hA9.out.set3 (by omega) _ _ _).set3 (by omega) _ _ _).below (Below.refl _ _).drew
            have hBb := ((hN9.out.set3 (g := h + 1) (by omega) (.int .i64 i) (.int .i64 o) (.slice R s c1)).set3 (g := h + 1 + 1) (by omega) (.int .i64 i) (.int .i64 o) (.slice (some ⟨pb, 0, none⟩) s kC)).below (Below.refl _ _).drew
            rw [hWf] at hBb
            have hbF : Below w.heap.size w Wf := by rw [← hWf]; exact (below_set3 (below_set3 hbw9.out (by omega) _ _ _) (by omega) _ _ _).drew
            have HRA := Lib.hid hBa.two
            have HRB := Lib.hid hBb.two
            have HBF := Lib.hid hbF
            obtain ⟨r0, r1, r2⟩ := hF1.cells
            obtain ⟨t0, t1, t2⟩ := hF2.cells
            change Exit.then _ _ _ _ (set3 (set3 W9 (h + 1) (.int .i64 i) (.int .i64 o) (.slice R s c1)) (h + 1 + 1) (.int .i64 i) (.int .i64 o) (.slice (some ⟨pb, 0, none⟩) s kC)).drew
            rw [hWf]
            clear hWf hF1 hF2 hBa hBb hbF HS sM sN hGA hXA hGC hXC sA sB sC sE m0 m1 m2 x0 x1 x2 x3 x4 x5 y0 y1 y2 y3 y4 y5 u0 u1 u2
            rename_i k1 hHeld
            clear hHeld hX9 hgne hgz hwc' hwr' hgc hW7 hW0 hgR hwc hwr hgcz hgbz HG9lt hs0 hgs
            refine k1 _ _ (wp_ret ?_)
            change bodyPost _ _ _ .ret _ Wf
            clear k1
            refine bodyPost_ret (by simp [results, Try.results13, go_sem, r0, r1, r2, t0, t1, t2]; rfl) rfl ?_
            exact dof_fin HRA.out HRB.out hlen.out hMl.out V.out hVx.out hmi.out hMi.out hmo.out hMo.out (by omega) (by omega) HBF.out
          · have hfb : (Mc.chk Mx == 0) = false := by rw [beq_eq_false_iff_ne]; exact hf
            obtain ⟨u0, u1, u2⟩ := hI9.out.box.cells
            go_upto_region 29 with fail
            have hgne : g ≠ gb := by have := hgR.out; have := hgbz.out; have := HG9lt.out; omega
            have HS : ∀ w' : World, BxM w' g i o R s c1 → BxM w' gb i o B s kB → (w'.cell? ⟨g, 0, none⟩ = some (.int .i64 i) ∧ w'.cell? ⟨g, 1, none⟩ = some (.int .i64 o) ∧ w'.cell? ⟨g, 2, none⟩ = some (.slice R s c1) ∧ w'.cell? ⟨gb, 0, none⟩ = some (.int .i64 i) ∧ w'.cell? ⟨gb, 1, none⟩ = some (.int .i64 o) ∧ w'.cell? ⟨gb, 2, none⟩ = some (.slice B s kB)) := fun w' y x => ⟨y.cells.1, y.cells.2.1, y.cells.2.2, x.cells.1, x.cells.2.1, x.cells.2.2⟩
            have hgz := hgbz.out
            have hX9 : BxM W9 gb i o B s kB := hI9.out.box
            have sM := HS W9 hG9.out hX9
            have sN := HS W9.drew hG9.out.drew hX9.drew
            have hGA : BxM (set3 W9 (h + 1) (.int .i64 i) (.int .i64 o) (.slice R s c1)) g i o R s c1 := BxM.apart3 (w := W9) hG9.out (by omega) _ _ _
            have hXA : BxM (set3 W9 (h + 1) (.int .i64 i) (.int .i64 o) (.slice R s c1)) gb i o B s kB := BxM.apart3 (w := W9) hX9 (by omega) _ _ _
            have hGC : BxM (set3 W9 (h + 1 + 1) (.int .i64 i) (.int .i64 o) (.slice B s kB)) g i o R s c1 := BxM.apart3 (w := W9) hG9.out (by omega) _ _ _
            have hXC : BxM (set3 W9 (h + 1 + 1) (.int .i64 i) (.int .i64 o) (.slice B s kB)) gb i o B s kB := BxM.apart3 (w := W9) hX9 (by omega) _ _ _
            have sA := HS (set3 W9 (h + 1) (.int .i64 i) (.int .i64 o) (.slice R s c1)).drew hGA.drew hXA.drew
            have sC := HS (set3 W9 (h + 1 + 1) (.int .i64 i) (.int .i64 o) (.slice B s kB)).drew hGC.drew hXC.drew
            have sB := HS (set3 (set3 W9 (h + 1) (.int .i64 i) (.int .i64 o) (.slice R s c1)) (h + 1 + 1) (.int .i64 i) (.int .i64 o) (.slice B s kB)).drew (hGA.apart3 (g' := h + 1 + 1) (by omega) (.int .i64 i) (.int .i64 o) (.slice B s kB)).drew (hXA.apart3 (g' := h + 1 + 1) (by omega) (.int .i64 i) (.int .i64 o) (.slice B s kB)).drew
            have sE := HS (set3 (set3 W9 (h + 1 + 1) (.int .i64 i) (.int .i64 o) (.slice B s kB)) (h + 1) (.int .i64 i) (.int .i64 o) (.slice R s c1)).drew (hGC.apart3 (g' := h + 1) (by omega) (.int .i64 i) (.int .i64 o) (.slice R s c1)).drew (hXC.apart3 (g' := h + 1) (by omega) (.int .i64 i) (.int .i64 o) (.slice R s c1)).drew
            go_region_held3 (fun w' => w'.cell? ⟨g, 0, none⟩ = some (.int .i64 i) ∧ w'.cell? ⟨g, 1, none⟩ = some (.int .i64 o) ∧ w'.cell? ⟨g, 2, none⟩ = some (.slice R s c1) ∧ w'.cell? ⟨gb, 0, none⟩ = some (.int .i64 i) ∧ w'.cell? ⟨gb, 1, none⟩ = some (.int .i64 o) ∧ w'.cell? ⟨gb, 2, none⟩ = some (.slice B s kB))
              (first | (with_reducible exact sB) | (with_reducible exact sE) | (with_reducible exact sA) | (with_reducible exact sC) | (with_reducible exact sM) | (with_reducible exact sN) | go_keep)
              (fail)
            obtain ⟨Wf, hWf⟩ : ∃ Wf, (set3 (set3 W9 (h + 1) (.int .i64 i) (.int .i64 o) (.slice R s c1)) (h + 1 + 1) (.int .i64 i) (.int .i64 o) (.slice B s kB)).drew = Wf := ⟨_, rfl⟩
            have hF1 : BxM Wf (h + 1) i o R s c1 := by rw [← hWf]; exact ((BxM.set3 (w := W9) hZ1.out (i' := i) (o' := o) (A' := R) (n' := s) (c' := c1)).apart3 (by omega) _ _ _).drew
            have hF2 : BxM Wf (h + 1 + 1) i o B s kB := by rw [← hWf]; exact ((BxM.apart3 (w := W9) hZ2.out (by omega) _ _ _).set3).drew
            have hwc' := hwc.out
            have hwr' := hwr.out
            have hBa : Bld Wf W0.heap.size (.slice R s c1) M.r vs1 := by rw [← hWf]; exact ((hA9.out.set3 (by omega) _ _ _).set3 (by omega) _ _ _).below (Below.refl _ _).drew
            have hBb := ((hI9.out.bld.set3 (g := h + 1) (by omega) (.int .i64 i) (.int .i64 o) (.slice R s c1)).set3 (g := h + 1 + 1) (by omega) (.int .i64 i) (.int .i64 o) (.slice B s kB)).below (Below.refl _ _).drew
            rw [hWf] at hBb
            have hbF : Below w.heap.size w Wf := by rw [← hWf]; exact (below_set3 (below_set3 hbw9.out (by omega) _ _ _) (by omega) _ _ _).drew
            have HRA := Lib.hid hBa.two
            have HRB := Lib.hid hBb.two
            have HBF := Lib.hid hbF
            obtain ⟨r0, r1, r2⟩ := hF1.cells
            obtain ⟨t0, t1, t2⟩ := hF2.cells
            change Exit.then _ _ _ _ (set3 (set3 W9 (h + 1) (.int .i64 i) (.int .i64 o) (.slice R s c1)) (h + 1 + 1) (.int .i64 i) (.int .i64 o) (.slice B s kB)).drew
            rw [hWf]
            clear hWf hF1 hF2 hBa hBb hbF HS sM sN hGA hXA hGC hXC sA sB sC sE m0 m1 m2 x0 x1 x2 x3 x4 x5 y0 y1 y2 y3 y4 y5 u0 u1 u2
            rename_i k1 hHeld
            clear hHeld hX9 hgne hgz hwc' hwr' hgc hW7 hW0 hgR hwc hwr hgcz hgbz HG9lt hs0 hgs
            refine k1 _ _ (wp_ret ?_)
            change bodyPost _ _ _ .ret _ Wf
            clear k1
            refine bodyPost_ret (by simp [results, Try.results13, go_sem, r0, r1, r2, t0, t1, t2]; rfl) rfl ?_
            exact dof_fin HRA.out HRB.out hlen.out hI9.out.hl V.out hI9.out.val hmi.out hI9.out.hi hmo.out hI9.out.ho (by omega) (by omega) HBF.out
/-- What D.Of hands back. -/
theorem dof_any (a b d a2 b2 d2 s0 s1 p0 p1 tx ty : Int) (q q2 al : Bool) (A A2 : Option Addr) (EL c EL2 c2 : Nat) (es es2 : List Int) (w : World) (hA : Rd16 w A es) (hEL : es.length = EL) (hle : EL ≤ 9223372036854775807) (hA2 : Rd16 w A2 es2) (hEL2 : es2.length = EL2) (hle2 : EL2 ≤ 9223372036854775807)
    (ha : 0 ≤ a ∧ a ≤ 255) (hb : 0 ≤ b ∧ b ≤ 255) (hd : 0 ≤ d ∧ d ≤ 255) (ha2 : 0 ≤ a2 ∧ a2 ≤ 255) (hd2 : 0 ≤ d2 ∧ d2 ≤ 255) (hx0 : 0 ≤ s0 ∧ s0 ≤ 255) (hx1 : 0 ≤ s1 ∧ s1 ≤ 255) (hp0 : 0 ≤ p0 ∧ p0 ≤ 255) (hp1 : 0 ≤ p1 ∧ p1 ≤ 255) :
    Calls Try.prog 13 #[.agg #[.int .u8 a, .int .u8 b, .int .u8 d, .bool q, .slice A EL c, .int .u8 a2, .int .u8 b2, .int .u8 d2, .bool q2, .slice A2 EL2 c2, .bool al, .int .u8 s0, .int .u8 s1, .int .u8 p0, .int .u8 p1, .int .i64 tx, .int .i64 ty]] w (DoP w) := by
  cases al with
  | false => exact dof_plain a b d a2 b2 d2 s0 s1 p0 p1 tx ty q q2 A A2 EL c EL2 c2 es es2 w hA hEL hle hA2 hEL2 hle2 ha hb hd ha2 hd2
  | true => exact dof_alike a b d a2 b2 d2 s0 s1 p0 p1 tx ty q q2 A A2 EL c EL2 c2 es w hA hEL hle ha hb hd hx0 hx1 hp0 hp1
end Go.Proofs.Ytiamkkgnjobljaa
