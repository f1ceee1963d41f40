/-
  Several texts in one: Js1, Jmx, Jrc. No statement is proved here.
-/
import Derived.Test.YtgafpmgdpigliaaJo7
import Derived.Deep.RegionHeld3
import Derived.Test.YtgafpmgdpigliaaJo1
import Derived.Test.YtgafpmgdpigliaaJoM
import Derived.BigQuiet
import Derived.Deep.QuietTactic
namespace Go.Proofs.Ytgafpmgdpigliaa
open Go.RowKit
open Mc (Ed Ma Wv nE)

/-- What Step hands back where the edge is undefined. -/
def stp (z : Mc.Pz) : Mc.Pz := if 0 ≤ z.1.1 ∧ 0 ≤ z.1.2 then z else ((0, 0), -1)
/-- The memory of Step at its beginning. -/
structure SpW (w : World) (a b : Ma) (A B : Option Addr) (na d1 nb d2 s t : Nat) (W : World) : Prop where
  bel : Below w.heap.size w W
  sz : W.heap.size = w.heap.size + 4
  ba : BxM W w.heap.size a.i a.o A na d1
  bb : BxM W (w.heap.size + 1) b.i b.o B nb d2
  pp : W.heap[w.heap.size + 1 + 1]? = some (.cells #[.int .i64 s, .int .i64 t] 84)
  re : W.heap[w.heap.size + 1 + 1 + 1]? = some (.cells #[.int .i64 0, .int .i64 0] 84)
theorem SpW.mk_ (w : World) (a b : Ma) (A B : Option Addr) (na d1 nb d2 s t : Nat) : SpW w a b A B na d1 nb d2 s t ((((w.alloc (.cells #[.int .i64 a.i, .int .i64 a.o, .slice A na d1] 24)).alloc (.cells #[.int .i64 b.i, .int .i64 b.o, .slice B nb d2] 24)).alloc (.cells #[.int .i64 s, .int .i64 t] 84)).alloc (.cells #[.int .i64 0, .int .i64 0] 84)) := by
  have h1 := heap_alloc_new (w.alloc (.cells #[.int .i64 a.i, .int .i64 a.o, .slice A na d1] 24)) (.cells #[.int .i64 b.i, .int .i64 b.o, .slice B nb d2] 24)
  have h2 := heap_alloc_new ((w.alloc (.cells #[.int .i64 a.i, .int .i64 a.o, .slice A na d1] 24)).alloc (.cells #[.int .i64 b.i, .int .i64 b.o, .slice B nb d2] 24)) (.cells #[.int .i64 s, .int .i64 t] 84)
  have h3 := heap_alloc_new (((w.alloc (.cells #[.int .i64 a.i, .int .i64 a.o, .slice A na d1] 24)).alloc (.cells #[.int .i64 b.i, .int .i64 b.o, .slice B nb d2] 24)).alloc (.cells #[.int .i64 s, .int .i64 t] 84)) (.cells #[.int .i64 0, .int .i64 0] 84)
  rw [World.size_alloc] at h1
  rw [World.size_alloc, World.size_alloc] at h2
  rw [World.size_alloc, World.size_alloc, World.size_alloc] at h3
  refine ⟨((((Below.refl _ _).alloc (Nat.le_refl _) _).alloc (by simp) _).alloc (by simp <;> omega) _).alloc (by simp <;> omega) _, by simp, ?_, ?_, (Below.heap_alloc _ _ _ (by simp)).trans h2, h3⟩
  · exact (Below.heap_alloc _ _ _ (by simp <;> omega)).trans ((Below.heap_alloc _ _ _ (by simp <;> omega)).trans ((Below.heap_alloc _ _ _ (by simp)).trans (heap_alloc_new w _)))
  · exact (Below.heap_alloc _ _ _ (by simp <;> omega)).trans ((Below.heap_alloc _ _ _ (by simp)).trans h1)
theorem SpW.pcells {w W : World} {a b : Ma} {A B : Option Addr} {na d1 nb d2 s t : Nat} (h : SpW w a b A B na d1 nb d2 s t W) : W.cell? ⟨w.heap.size + 1 + 1, 0, none⟩ = some (.int .i64 s) ∧ W.cell? ⟨w.heap.size + 1 + 1, 1, none⟩ = some (.int .i64 t) := ⟨by rw [cell_of_row _ _ _ _ _ _ h.pp]; rfl, by rw [cell_of_row _ _ _ _ _ _ h.pp]; rfl⟩
/-- The same, the first edge in its box. -/
structure SpV (w : World) (bi bo : Int) (B : Option Addr) (nb d2 t G : Nat) (ex eo : Int) (W : World) : Prop where
  bel : Below w.heap.size w W
  lt : w.heap.size + 1 + 1 + 1 < W.heap.size
  bb : BxM W (w.heap.size + 1) bi bo B nb d2
  p1 : W.cell? ⟨w.heap.size + 1 + 1, 1, none⟩ = some (.int .i64 t)
  re : W.heap[w.heap.size + 1 + 1 + 1]? = some (.cells #[.int .i64 0, .int .i64 0] 84)
  x : W.heap[G]? = some (.cells #[.int .i64 ex, .int .i64 eo] 27)
  ng : G ≠ w.heap.size + 1 + 1 + 1
theorem SpW.next {w W : World} {a b : Ma} {A B : Option Addr} {na d1 nb d2 s t : Nat} (h : SpW w a b A B na d1 nb d2 s t W) (ex eo : Int) : SpV w b.i b.o B nb d2 t W.heap.size ex eo (W.alloc (.cells #[.int .i64 ex, .int .i64 eo] 27)) := by
  have hs := h.sz
  refine ⟨h.bel.alloc h.bel.size _, by simp; omega, (Below.heap_alloc _ _ _ (by omega)).trans h.bb, ?_, (Below.heap_alloc _ _ _ (by omega)).trans h.re, heap_alloc_new W _, by omega⟩
  have h1 : (W.alloc (.cells #[.int .i64 ex, .int .i64 eo] 27)).heap[w.heap.size + 1 + 1]? = _ := (Below.heap_alloc W _ _ (by omega)).trans h.pp
  rw [cell_of_row _ _ _ _ _ _ h1]; rfl
section
variable {w W : World} {bi bo ex eo fx fo : Int} {B : Option Addr} {nb d2 t G H : Nat}
theorem SpV.xcells (h : SpV w bi bo B nb d2 t G ex eo W) : W.cell? ⟨G, 0, none⟩ = some (.int .i64 ex) ∧ W.cell? ⟨G, 1, none⟩ = some (.int .i64 eo) := ⟨by rw [cell_of_row _ _ _ _ _ _ h.x]; rfl, by rw [cell_of_row _ _ _ _ _ _ h.x]; rfl⟩
theorem SpV.rcells (h : SpV w bi bo B nb d2 t G ex eo W) : W.cell? ⟨w.heap.size + 1 + 1 + 1, 0, none⟩ = some (.int .i64 0) ∧ W.cell? ⟨w.heap.size + 1 + 1 + 1, 1, none⟩ = some (.int .i64 0) ∧ ∀ o, W.frozen? ⟨w.heap.size + 1 + 1 + 1, o, none⟩ = false :=
  ⟨by rw [cell_of_row _ _ _ _ _ _ h.re]; rfl, by rw [cell_of_row _ _ _ _ _ _ h.re]; rfl, blk_frz h.re⟩
/-- The same, both edges in their boxes. -/
structure SpU (w : World) (bo : Int) (G H : Nat) (ex eo fx fo : Int) (W : World) : Prop where
  bel : Below w.heap.size w W
  b1 : W.cell? ⟨w.heap.size + 1, 1, none⟩ = some (.int .i64 bo)
  re : W.heap[w.heap.size + 1 + 1 + 1]? = some (.cells #[.int .i64 0, .int .i64 0] 84)
  x : W.heap[G]? = some (.cells #[.int .i64 ex, .int .i64 eo] 27)
  y : W.heap[H]? = some (.cells #[.int .i64 fx, .int .i64 fo] 27)
  ng : G ≠ w.heap.size + 1 + 1 + 1
  nh : H ≠ w.heap.size + 1 + 1 + 1
theorem SpV.two (h : SpV w bi bo B nb d2 t G ex eo W) (fx fo : Int) : SpU w bo G W.heap.size ex eo fx fo (W.alloc (.cells #[.int .i64 fx, .int .i64 fo] 27)) := by
  have hl := h.lt
  have hb : BxM (W.alloc (.cells #[.int .i64 fx, .int .i64 fo] 27)) (w.heap.size + 1) bi bo B nb d2 := (Below.heap_alloc _ _ _ (by omega)).trans h.bb
  exact ⟨h.bel.alloc h.bel.size _, hb.cells.2.1, (Below.heap_alloc _ _ _ hl).trans h.re, (Below.heap_alloc _ _ _ (heap_lt h.x)).trans h.x, heap_alloc_new W _, h.ng, by omega⟩
theorem SpU.drew (h : SpU w bo G H ex eo fx fo W) : SpU w bo G H ex eo fx fo W.drew := ⟨h.bel.drew, h.b1, h.re, h.x, h.y, h.ng, h.nh⟩
theorem SpU.cells (h : SpU w bo G H ex eo fx fo W) : W.cell? ⟨G, 0, none⟩ = some (.int .i64 ex) ∧ W.cell? ⟨G, 1, none⟩ = some (.int .i64 eo) ∧ W.cell? ⟨H, 0, none⟩ = some (.int .i64 fx) ∧ W.cell? ⟨H, 1, none⟩ = some (.int .i64 fo) ∧ W.cell? ⟨w.heap.size + 1, 1, none⟩ = some (.int .i64 bo) := by
  refine ⟨?_, ?_, ?_, ?_, h.b1⟩ <;> first | (rw [cell_of_row _ _ _ _ _ _ h.x]; rfl) | (rw [cell_of_row _ _ _ _ _ _ h.y]; rfl)
theorem SpU.rcells (h : SpU w bo G H ex eo fx fo W) : W.cell? ⟨w.heap.size + 1 + 1 + 1, 0, none⟩ = some (.int .i64 0) ∧ W.cell? ⟨w.heap.size + 1 + 1 + 1, 1, none⟩ = some (.int .i64 0) ∧ ∀ o, W.frozen? ⟨w.heap.size + 1 + 1 + 1, o, none⟩ = false :=
  ⟨by rw [cell_of_row _ _ _ _ _ _ h.re]; rfl, by rw [cell_of_row _ _ _ _ _ _ h.re]; rfl, blk_frz h.re⟩
theorem SpU.after (h : SpU w bo G H ex eo fx fo W) (x y : Value) : ((W.setCell ⟨w.heap.size + 1 + 1 + 1, 0, none⟩ x).setCell ⟨w.heap.size + 1 + 1 + 1, 1, none⟩ y).cell? ⟨G, 0, none⟩ = some (.int .i64 ex) ∧ ((W.setCell ⟨w.heap.size + 1 + 1 + 1, 0, none⟩ x).setCell ⟨w.heap.size + 1 + 1 + 1, 1, none⟩ y).cell? ⟨G, 1, none⟩ = some (.int .i64 eo) ∧
    ((W.setCell ⟨w.heap.size + 1 + 1 + 1, 0, none⟩ x).setCell ⟨w.heap.size + 1 + 1 + 1, 1, none⟩ y).cell? ⟨H, 0, none⟩ = some (.int .i64 fx) ∧ ((W.setCell ⟨w.heap.size + 1 + 1 + 1, 0, none⟩ x).setCell ⟨w.heap.size + 1 + 1 + 1, 1, none⟩ y).cell? ⟨H, 1, none⟩ = some (.int .i64 fo) ∧ ((W.setCell ⟨w.heap.size + 1 + 1 + 1, 0, none⟩ x).setCell ⟨w.heap.size + 1 + 1 + 1, 1, none⟩ y).cell? ⟨w.heap.size + 1, 1, none⟩ = some (.int .i64 bo) := by
  obtain ⟨a, b, c, d, e⟩ := h.cells
  have key : ∀ (B o : Nat), B ≠ w.heap.size + 1 + 1 + 1 → ((W.setCell ⟨w.heap.size + 1 + 1 + 1, 0, none⟩ x).setCell ⟨w.heap.size + 1 + 1 + 1, 1, none⟩ y).cell? ⟨B, o, none⟩ = W.cell? ⟨B, o, none⟩ := fun B o hB => World.cell?_of_block (a := ⟨B, o, none⟩) ((Below.heap_setCell _ _ _ _ hB).trans (Below.heap_setCell _ _ _ _ hB))
  exact ⟨(key _ _ h.ng).trans a, (key _ _ h.ng).trans b, (key _ _ h.nh).trans c, (key _ _ h.nh).trans d, (key _ _ (by omega)).trans e⟩
end
theorem res3_fin {w W : World} {u v : Int} (hb : Below w.heap.size w W) (h : W.heap[w.heap.size + 1 + 1 + 1]? = some (.cells #[.int .i64 u, .int .i64 v] 84)) (x y : Int) : Below w.heap.size w ((W.setCell ⟨w.heap.size + 1 + 1 + 1, 0, none⟩ (.int .i64 x)).setCell ⟨w.heap.size + 1 + 1 + 1, 1, none⟩ (.int .i64 y)) ∧ ((W.setCell ⟨w.heap.size + 1 + 1 + 1, 0, none⟩ (.int .i64 x)).setCell ⟨w.heap.size + 1 + 1 + 1, 1, none⟩ (.int .i64 y)).cell? ⟨w.heap.size + 1 + 1 + 1, 0, none⟩ = some (.int .i64 x) ∧
    ((W.setCell ⟨w.heap.size + 1 + 1 + 1, 0, none⟩ (.int .i64 x)).setCell ⟨w.heap.size + 1 + 1 + 1, 1, none⟩ (.int .i64 y)).cell? ⟨w.heap.size + 1 + 1 + 1, 1, none⟩ = some (.int .i64 y) := by
  have h1 : ((W.setCell ⟨w.heap.size + 1 + 1 + 1, 0, none⟩ (.int .i64 x)).setCell ⟨w.heap.size + 1 + 1 + 1, 1, none⟩ (.int .i64 y)).heap[w.heap.size + 1 + 1 + 1]? = some (.cells #[.int .i64 x, .int .i64 y] 84) := by
    simp [World.setCell, Array.getElem?_modify, h]
  refine ⟨(hb.setCell (p := ⟨w.heap.size + 1 + 1 + 1, 0, none⟩) (by show w.heap.size ≤ w.heap.size + 1 + 1 + 1; omega) _).setCell (p := ⟨w.heap.size + 1 + 1 + 1, 1, none⟩) (by show w.heap.size ≤ w.heap.size + 1 + 1 + 1; omega) _, ?_, ?_⟩ <;> (rw [cell_of_row _ _ _ _ _ _ h1]; rfl)
set_option maxRecDepth 100000 in
set_option maxHeartbeats 4000000 in
theorem rstep_ser (a b : Ma) (va : Mc.Val a) (vb : Mc.Val b) (hab : a.o = b.i) (A B : Option Addr) (na nb d1 d2 s t c : Nat) (w : World) (hra : RdR w A a.r) (hrb : RdR w B b.r) (hna : a.r.length = na) (hnb : b.r.length = nb) (hs : s < na) (ht : t < nb) (hc : (c : Int) < a.i) :
    Calls Try.prog 59 #[.agg #[.int .i64 a.i, .int .i64 a.o, .slice A na d1], .agg #[.int .i64 b.i, .int .i64 b.o, .slice B nb d2], .int .i64 0, .agg #[.int .i64 s, .int .i64 t], .int .i64 c] w (PzP w (stp (Mc.serF a b s t c))) := by
  obtain ⟨Z, hZ⟩ : ∃ Z, stp (Mc.serF a b s t c) = Z := ⟨_, rfl⟩
  rw [hZ]
  have HZ := Lib.hid hZ
  clear hZ
  have hna64 := va.r1
  have hnb64 := vb.r1
  obtain ⟨b1, off1, R1, q1, n1, row1, rfl, hb1, hcw1, _, _, _, hpw1, hln1, hqr1⟩ := hra.at_ (k := s) (by omega)
  have hn1 : (n1 : Int) = a.i := by rw [← hln1.out]; exact va.len row1 (List.mem_of_getElem? hqr1.out)
  obtain ⟨e1, o1, ex, eo, rfl, he1, hx0, hy0, hqe1⟩ := hpw1.at_ (k := c) (by rw [hln1.out]; omega)
  obtain ⟨b2, off2, R2, q2, n2, row2, rfl, hb2, hcw2, _, _, _, hpw2, hln2, hqr2⟩ := hrb.at_ (k := t) (by omega)
  have hn2 : (n2 : Int) = b.i := by rw [← hln2.out]; exact vb.len row2 (List.mem_of_getElem? hqr2.out)
  have hX : Mc.nx a s c = (ex, eo) := Mc.nx_at hqr1.out hqe1.out
  have hok := va.ok row1 (List.mem_of_getElem? hqr1.out) _ (List.mem_of_getElem? hqe1.out)
  simp only at hok
  have hs1 : (s : Int) < na := by omega
  have ht1 : (t : Int) < nb := by omega
  have hc1 : (c : Int) < n1 := by omega
  have hW := SpW.mk_ w a b (some ⟨b1, off1, none⟩) (some ⟨b2, off2, none⟩) na d1 nb d2 s t
  have hC1 : Hid (∀ W, Below w.heap.size w W → W.cell? ⟨b1, off1 + s, none⟩ = some (.slice (some ⟨e1, o1, none⟩) n1 q1) ∧ W.cell? ⟨e1, o1 + c * 2, none⟩ = some (.int .i64 ex) ∧ W.cell? ⟨e1, o1 + c * 2 + 1, none⟩ = some (.int .i64 eo) ∧ W.cell? ⟨b2, off2 + t, none⟩ = some (.slice R2 n2 q2)) := fun W hb =>
    ⟨(hb.cell (p := ⟨b1, off1 + s, none⟩) hb1).trans hcw1, (hb.cell (p := ⟨e1, o1 + c * 2, none⟩) he1).trans hx0, (hb.cell (p := ⟨e1, o1 + c * 2 + 1, none⟩) he1).trans hy0, (hb.cell (p := ⟨b2, off2 + t, none⟩) hb2).trans hcw2⟩
  rcases hok with ⟨rfl, rfl⟩ | ⟨h1, h2, h3, h4⟩
  · have HF : Hid (stp (Mc.serF a b s t c) = ((0, 0), -1)) := by
      show _ = _
      unfold Mc.serF
      rw [hX, if_pos rfl]
      rfl
    clear hX hra hrb hpw1 hpw2 hcw1 hcw2 hx0 hy0 va vb hn1 hn2 hna hnb hab hna64 hnb64
    go_enter Try.func59, Try.ntmps59
    go_upto_region 1 with fail
    obtain ⟨W4, hW4⟩ : ∃ W4, ((((w.alloc (.cells #[.int .i64 a.i, .int .i64 a.o, .slice (some ⟨b1, off1, none⟩) na d1] 24)).alloc (.cells #[.int .i64 b.i, .int .i64 b.o, .slice (some ⟨b2, off2, none⟩) nb d2] 24)).alloc (.cells #[.int .i64 s, .int .i64 t] 84)).alloc (.cells #[.int .i64 0, .int .i64 0] 84)) = W4 := ⟨_, rfl⟩
    rw [hW4] at hW
    try rw [hW4]
    clear hW4
    obtain ⟨g0, g1, g2⟩ := hW.ba.cells
    obtain ⟨p0, p1⟩ := hW.pcells
    obtain ⟨c0, c1, c2, c3⟩ := hC1.out _ hW.bel
    go_upto_region 2 with fail
    clear g0 g1 g2 p0 p1 c0 c1 c2 c3
    have hV := Lib.hid (hW.next (-1) (-1))
    obtain ⟨W5, hW5⟩ : ∃ W5, W4.alloc (.cells #[.int .i64 (-1), .int .i64 (-1)] 27) = W5 := ⟨_, rfl⟩
    obtain ⟨G, hG⟩ : ∃ G, W4.heap.size = G := ⟨_, rfl⟩
    rw [hW5, hG] at hV
    try rw [hW5]
    try rw [hG]
    clear hW5 hG hW

    obtain ⟨x0, x1⟩ := hV.out.xcells
    obtain ⟨hf, z0, z1⟩ := res3_fin hV.out.bel hV.out.re 0 0
    obtain ⟨r0, r1, rf⟩ := hV.out.rcells
    have rf0 := rf 0
    have rf1 := rf 1
    clear rf
    go_wp2
    refine bodyPost_ret (v := .tuple #[.agg #[.int .i64 0, .int .i64 0], .int .i64 (-1)]) (by simp [results, Try.f59, go_sem, z0, z1]) rfl ?_
    refine ⟨?_, hf⟩
    rw [← HZ.out, HF.out]

  · have hexd : decide (ex < 0) = false := decide_eq_false (by omega)
    obtain ⟨eo, rfl⟩ := Int.eq_ofNat_of_zero_le h3
    have hj : eo < n2 := by omega
    obtain ⟨e2, o2, fx, fo, rfl, he2, hx2, hy2, hqe2⟩ := hpw2.at_ (k := eo) (by rw [hln2.out]; exact hj)
    have hok2 := vb.ok row2 (List.mem_of_getElem? hqr2.out) _ (List.mem_of_getElem? hqe2.out)
    simp only at hok2
    have HF0 : Hid (Mc.serF a b s t c = ((ex, fx), fo)) := by
      show _ = _
      unfold Mc.serF
      rw [hX, if_neg (by simp only; omega)]
      simp only
      rw [Mc.nx_at hqr2.out hqe2.out]
    have hj1 : (eo : Int) < n2 := by omega
    have hC2 : Hid (∀ W, Below w.heap.size w W → W.cell? ⟨e2, o2 + eo * 2, none⟩ = some (.int .i64 fx) ∧ W.cell? ⟨e2, o2 + eo * 2 + 1, none⟩ = some (.int .i64 fo)) := fun W hb =>
      ⟨(hb.cell (p := ⟨e2, o2 + eo * 2, none⟩) he2).trans hx2, (hb.cell (p := ⟨e2, o2 + eo * 2 + 1, none⟩) he2).trans hy2⟩
    have HEX := Lib.hid h1
    clear hX hra hrb hpw1 hpw2 hcw1 hcw2 hx0 hy0 hx2 hy2 va vb hn1 hn2 hna hnb hab hna64 hnb64
    go_enter Try.func59, Try.ntmps59
    go_upto_region 1 with fail
    obtain ⟨W4, hW4⟩ : ∃ W4, ((((w.alloc (.cells #[.int .i64 a.i, .int .i64 a.o, .slice (some ⟨b1, off1, none⟩) na d1] 24)).alloc (.cells #[.int .i64 b.i, .int .i64 b.o, .slice (some ⟨b2, off2, none⟩) nb d2] 24)).alloc (.cells #[.int .i64 s, .int .i64 t] 84)).alloc (.cells #[.int .i64 0, .int .i64 0] 84)) = W4 := ⟨_, rfl⟩
    rw [hW4] at hW
    try rw [hW4]
    clear hW4
    obtain ⟨g0, g1, g2⟩ := hW.ba.cells
    obtain ⟨p0, p1⟩ := hW.pcells
    obtain ⟨c0, c1, c2, c3⟩ := hC1.out _ hW.bel
    go_upto_region 2 with fail
    clear g0 g1 g2 p0 p1 c0 c1 c2 c3
    have hV := Lib.hid (hW.next ex eo)
    obtain ⟨W5, hW5⟩ : ∃ W5, W4.alloc (.cells #[.int .i64 ex, .int .i64 eo] 27) = W5 := ⟨_, rfl⟩
    obtain ⟨G, hG⟩ : ∃ G, W4.heap.size = G := ⟨_, rfl⟩
    rw [hW5, hG] at hV
    try rw [hW5]
    try rw [hG]
    clear hW5 hG hW

    obtain ⟨x0, x1⟩ := hV.out.xcells
    obtain ⟨_, _, _, r1⟩ := hC1.out _ hV.out.bel
    obtain ⟨r2, r3⟩ := hC2.out _ hV.out.bel
    obtain ⟨k0, k1, k2⟩ := hV.out.bb.cells
    have p1 := hV.out.p1
    go_wp2_with fail
    have ne0 := World.new_ne _ _ k2
    have ne1 := World.new_ne _ _ r1
    have ne2 := World.new_ne _ _ r2
    have ne3 := World.new_ne _ _ r3
    have ne4 := World.new_ne _ _ p1
    have ne5 := World.new_ne _ _ x1
    go_region_held3 (fun w' => w'.cell? ⟨w.heap.size + 1, 2, none⟩ = some (.slice (some ⟨b2, off2, none⟩) nb d2) ∧ w'.cell? ⟨b2, off2 + t, none⟩ = some (.slice (some ⟨e2, o2, none⟩) n2 q2) ∧ w'.cell? ⟨e2, o2 + eo * 2, none⟩ = some (.int .i64 fx) ∧ w'.cell? ⟨e2, o2 + eo * 2 + 1, none⟩ = some (.int .i64 fo) ∧ w'.cell? ⟨w.heap.size + 1 + 1, 1, none⟩ = some (.int .i64 t) ∧ w'.cell? ⟨G, 1, none⟩ = some (.int .i64 eo)) (first | exact ⟨k2, r1, r2, r3, p1, x1⟩ | go_keep) (fail)
    have hU := Lib.hid (hV.out.two fx fo).drew
    obtain ⟨H, hH⟩ : ∃ H, W5.heap.size = H := ⟨_, rfl⟩
    obtain ⟨W6, hW6⟩ : ∃ W6, (W5.alloc (.cells #[.int .i64 fx, .int .i64 fo] 27)).drew = W6 := ⟨_, rfl⟩
    rw [hH, hW6] at hU
    try rw [hW6]
    try simp only [hH]
    clear hW6 hH ne0 ne1 ne2 ne3 ne4 ne5 k0 k1 k2 r1 r2 r3 p1 x0 x1
    obtain ⟨p0, p1, p2, p3, p4⟩ := hU.out.cells
    rcases hok2 with ⟨rfl, rfl⟩ | ⟨h5, h6, h7, h8⟩
    · have HF : Hid (stp (Mc.serF a b s t c) = ((0, 0), -1)) := by
        show _ = _
        rw [HF0.out]
        unfold stp
        rw [if_neg (by simp only; omega)]
      obtain ⟨hf, z0, z1⟩ := res3_fin hU.out.bel hU.out.re 0 0
      obtain ⟨r0, r1, rf⟩ := hU.out.rcells
      have rf0 := rf 0
      have rf1 := rf 1
      clear rf
      go_wp2
      refine bodyPost_ret (v := .tuple #[.agg #[.int .i64 0, .int .i64 0], .int .i64 (-1)]) (by simp [results, Try.f59, go_sem, z0, z1]) rfl ?_
      refine ⟨?_, hf⟩
      rw [← HZ.out, HF.out]

    · have hfxd : decide (fx < 0) = false := decide_eq_false (by omega)
      have HF : Hid (stp (Mc.serF a b s t c) = ((ex, fx), fo)) := by
        show _ = _
        rw [HF0.out]
        unfold stp
        rw [if_pos ⟨HEX.out, h5⟩]
      obtain ⟨s0, s1, sf⟩ := hU.out.rcells
      have hGr := hU.out.ng
      have hHr := hU.out.nh
      go_wp2_with fail
      go_region_held3 (fun w' => w'.cell? ⟨G, 0, none⟩ = some (.int .i64 ex) ∧ w'.cell? ⟨G, 1, none⟩ = some (.int .i64 eo) ∧ w'.cell? ⟨H, 0, none⟩ = some (.int .i64 fx) ∧ w'.cell? ⟨H, 1, none⟩ = some (.int .i64 fo) ∧ w'.cell? ⟨w.heap.size + 1, 1, none⟩ = some (.int .i64 b.o)) (first | exact ⟨p0, p1, p2, p3, p4⟩ | exact hU.out.after _ _ | exact hU.out.drew.after _ _ | go_keep) (fail)
      obtain ⟨hf, q0, q1⟩ := res3_fin hU.out.bel hU.out.re ex fx
      have q0' : ((W6.setCell ⟨w.heap.size + 1 + 1 + 1, 0, none⟩ (.int .i64 ex)).setCell ⟨w.heap.size + 1 + 1 + 1, 1, none⟩ (.int .i64 fx)).drew.cell? ⟨w.heap.size + 1 + 1 + 1, 0, none⟩ = some (.int .i64 ex) := q0
      have q1' : ((W6.setCell ⟨w.heap.size + 1 + 1 + 1, 0, none⟩ (.int .i64 ex)).setCell ⟨w.heap.size + 1 + 1 + 1, 1, none⟩ (.int .i64 fx)).drew.cell? ⟨w.heap.size + 1 + 1 + 1, 1, none⟩ = some (.int .i64 fx) := q1
      go_wp2_with fail
      refine bodyPost_ret (v := .tuple #[.agg #[.int .i64 ex, .int .i64 fx], .int .i64 fo]) (by simp [results, Try.f59, go_sem, q0', q1']) rfl ?_
      refine ⟨?_, hf.drew⟩
      rw [← HZ.out, HF.out]
end Go.Proofs.Ytgafpmgdpigliaa

namespace Go.Proofs.Ytgafpmgdpigliaa
open Go.RowKit
open Mc (Ed Ma Wv)

namespace Mc
def stF (f : Nat → Nat → Bool) (s t : Nat) : Nat → Nat → Bool := fun x y => if x = s ∧ y = t then true else f x y
end Mc
open Mc (stF)
/-- The headers of rows of n bools, each in a block of its own. -/
def hdB (n : Nat) (gs : List Nat) : List Value := gs.map fun g => .slice (some ⟨g, 0, none⟩) n n
theorem hdB_snoc (n : Nat) (gs : List Nat) (g : Nat) : hdB n gs ++ [.slice (some ⟨g, 0, none⟩) n n] = hdB n (gs ++ [g]) := by simp [hdB]
def MxB (w : World) (base : Nat) (V : Value) (n : Nat) (gs : List Nat) (L : List (List Bool)) : Prop :=
  w.ownsRow base 114 1 V gs.length (hdB n gs) ∧ gs.length = L.length ∧ gs.Nodup ∧ ∀ (k g : Nat) row, gs[k]? = some g → L[k]? = some row → base ≤ g ∧ row.length = n ∧ BlkB w g row
section
variable {w w' : World} {base n : Nat} {V : Value} {gs : List Nat} {L : List (List Bool)}
theorem MxB.nil_ (w : World) (base n : Nat) : MxB w base (.slice none 0 0) n [] [] := ⟨World.ownsRow_nil _ _ _ _, rfl, List.nodup_nil, fun k g row h => by simp at h⟩
theorem MxB.below (h : MxB w base V n gs L) (hb : Below w.heap.size w w') : MxB w' base V n gs L :=
  ⟨h.1.kept (grown_below hb) (by cases V.ownBlock <;> simp), h.2.1, h.2.2.1, fun k g row h1 h2 => by
    obtain ⟨a, b, c⟩ := h.2.2.2 k g row h1 h2
    exact ⟨a, b, (hb.block _ (heap_lt c)).trans c⟩⟩
/-- A row's block is not the block of the headers. -/
theorem MxB.apart (h : MxB w base V n gs L) {g : Nat} {row : List Bool} (hg : BlkB w g row) : some g ≠ V.ownBlock := fun e => by
  rcases h.1.2 with ⟨rfl, _⟩ | ⟨p, cap, cur, rfl, _, hp, _⟩
  · simp [Value.ownBlock] at e
  · simp [Value.ownBlock] at e
    subst e
    unfold BlkB at hg
    rw [hg] at hp
    simp at hp
theorem MxB.push {g : Nat} {row : List Bool} {w3 : World} {V1 : Value} (h : MxB w base V n gs L) (hnew : ∀ x ∈ gs, x ≠ g) (hr : BlkB w g row) (hbg : base ≤ g) (hrl : row.length = n)
    (h1 : w3.ownsRow base 114 1 V1 (gs.length + 1) (hdB n gs ++ [.slice (some ⟨g, 0, none⟩) n n])) (hg : w.grownBy w3 V.ownBlock) : MxB w3 base V1 n (gs ++ [g]) (L ++ [row]) := by
  have key : ∀ {g' : Nat} {r : List Bool}, BlkB w g' r → BlkB w3 g' r := fun {g'} {r} hb => (hg.block g' (heap_lt hb) (h.apart hb)).trans hb
  refine ⟨by rw [List.length_append, ← hdB_snoc]; exact h1, by simp [h.2.1], ?_, fun k g' r h2 h3 => ?_⟩
  · rw [List.nodup_append]
    exact ⟨h.2.2.1, by simp, fun a ha b hb => by rw [List.mem_singleton.1 hb]; exact hnew a ha⟩
  · rw [List.getElem?_append] at h2 h3
    have hl := h.2.1
    split at h2
    · rename_i hlt
      rw [if_pos (by omega)] at h3
      obtain ⟨a, b, c⟩ := h.2.2.2 k g' r h2 h3
      exact ⟨a, b, key c⟩
    · rename_i hge
      rw [if_neg (by omega)] at h3
      rcases Nat.eq_zero_or_pos (k - gs.length) with h0 | h0
      · rw [h0] at h2
        rw [← hl, h0] at h3
        simp at h2 h3
        subst h2 h3
        exact ⟨hbg, hrl, key hr⟩
      · rw [List.getElem?_eq_none (by simp; omega)] at h2
        cases h2
theorem MxB.set_ (h : MxB w base V n gs L) {k g : Nat} {row : List Bool} (hk : gs[k]? = some g) (hL : L[k]? = some row) (t : Nat) (b : Bool) : MxB (w.setCell ⟨g, t, none⟩ (.bool b)) base V n gs (L.set k (row.set t b)) := by
  obtain ⟨h1, h2, h3⟩ := h.2.2.2 k g row hk hL
  have hne := h.apart h3
  refine ⟨h.1.kept (grown_setCell w ⟨g, t, none⟩ (.bool b)) (by cases hv : V.ownBlock with
    | none => exact .inl rfl
    | some x => exact .inr fun e => hne (by rw [hv]; exact e.symm)), by rw [List.length_set]; exact h.2.1, h.2.2.1, fun j g' r hj hr => ?_⟩
  by_cases hjk : j = k
  · subst hjk
    rw [hk] at hj
    injection hj with hj
    subst hj
    rw [List.getElem?_set_self (List.getElem?_eq_some_iff.1 hL).1] at hr
    injection hr with hr
    subst hr
    exact ⟨h1, by simp [h2], h3.set_ t b⟩
  · rw [List.getElem?_set_ne (by omega)] at hr
    obtain ⟨a, c, d⟩ := h.2.2.2 j g' r hj hr
    have hgg : g' ≠ g := fun e => by
      subst e
      have i1 := (List.getElem?_eq_some_iff.1 hj)
      have i2 := (List.getElem?_eq_some_iff.1 hk)
      obtain ⟨i1, e1⟩ := i1
      obtain ⟨i2, e2⟩ := i2
      have hp := List.pairwise_iff_getElem.1 h.2.2.1
      rcases Nat.lt_trichotomy j k with h4 | h4 | h4
      · exact hp j k i1 i2 h4 (e1.trans e2.symm)
      · exact hjk h4
      · exact hp k j i2 i1 h4 (e2.trans e1.symm)
    exact ⟨a, c, (Below.heap_setCell w ⟨g, t, none⟩ (.bool b) g' hgg).trans d⟩
theorem MxB.lt (h : MxB w base V n gs L) {x : Nat} (hx : x ∈ gs) : x < w.heap.size := by
  obtain ⟨k, hk, e⟩ := List.getElem_of_mem hx
  have hl := h.2.1
  obtain ⟨_, _, hc⟩ := h.2.2.2 k x _ (by rw [List.getElem?_eq_getElem hk, e]) (List.getElem?_eq_getElem (show k < L.length by omega))
  exact heap_lt hc
/-- What a walk loads. -/
theorem MxB.at_ (h : MxB w base V n gs L) {k : Nat} (hk : k < gs.length) : ∃ p c g row, V = .slice (some ⟨p, 0, none⟩) gs.length c ∧ gs[k]? = some g ∧ L[k]? = some row ∧ p < w.heap.size ∧ w.cell? ⟨p, k, none⟩ = some (.slice (some ⟨g, 0, none⟩) n n) ∧ BlkB w g row ∧ row.length = n := by
  have hl := h.2.1
  have h1 := List.getElem?_eq_getElem hk
  have h2 := List.getElem?_eq_getElem (show k < L.length by omega)
  obtain ⟨_, hb, hc⟩ := h.2.2.2 k _ _ h1 h2
  rcases h.1.2 with ⟨_, h0⟩ | ⟨p, cap, cur, hv, _, hp, _⟩
  · omega
  · subst hv
    have hcell := h.1.cells (g := p) rfl k (.slice (some ⟨gs[k], 0, none⟩) n n) (by simp [hdB, h1])
    rw [Addr.add_lit] at hcell
    exact ⟨p, cap, _, _, rfl, h1, h2, heap_lt hp, by simpa using hcell, hc, hb⟩
end
/-- A matrix of bools, n rows of n2 each, that the call itself builds. -/
def MxF (w : World) (base : Nat) (V : Value) (n n2 : Nat) (gs : List Nat) (f : Nat → Nat → Bool) : Prop := ∃ L, MxB w base V n2 gs L ∧ gs.length = n ∧ ∀ s t, s < n → t < n2 → (L[s]?.getD [])[t]? = some (f s t)
theorem MxF.below {w w' : World} {base n n2 : Nat} {V : Value} {gs : List Nat} {f : Nat → Nat → Bool} (h : MxF w base V n n2 gs f) (k : Below w.heap.size w w') : MxF w' base V n n2 gs f := by
  obtain ⟨L, h1, h2, h3⟩ := h
  exact ⟨L, h1.below k, h2, h3⟩
theorem MxF.at_ {w : World} {base n n2 s t : Nat} {V : Value} {gs : List Nat} {f : Nat → Nat → Bool} (h : MxF w base V n n2 gs f) (hs : s < n) (ht : t < n2) :
    ∃ p c g, V = .slice (some ⟨p, 0, none⟩) n c ∧ p < w.heap.size ∧ g < w.heap.size ∧ base ≤ g ∧ w.cell? ⟨p, s, none⟩ = some (.slice (some ⟨g, 0, none⟩) n2 n2) ∧ w.cell? ⟨g, t, none⟩ = some (.bool (f s t)) ∧ w.frozen? ⟨g, t, none⟩ = false ∧ Hid (MxF (w.setCell ⟨g, t, none⟩ (.bool true)) base V n n2 gs (stF f s t)) := by
  obtain ⟨L, h1, h2, h3⟩ := h
  obtain ⟨p, c, g, row, hv, hg, hL, hp, hc, hb, hr⟩ := h1.at_ (k := s) (by omega)
  obtain ⟨z, hz, fz, e⟩ := hb.at_ (k := t) (by omega)
  have h4 := h3 s t hs ht
  rw [hL, Option.getD_some] at h4
  have hzf : z = f s t := by
    have h5 : w.cell? ⟨g, t, none⟩ = some (.bool (f s t)) := by
      rw [cell_of_row w g t _ 4 (0, 0) hb]
      simp [h4]
    rw [hz] at h5
    injection h5 with h5
    injection h5
  rw [hzf] at hz
  refine ⟨p, c, g, by rw [hv, h2], hp, heap_lt hb, (h1.2.2.2 s g row hg hL).1, hc, hz, fz, L.set s (row.set t true), h1.set_ hg hL t true, h2, fun x y hx hy => ?_⟩
  have hsl : s < L.length := (List.getElem?_eq_some_iff.1 hL).1
  unfold stF
  by_cases hxs : x = s
  · subst hxs
    rw [List.getElem?_set_self hsl, Option.getD_some]
    by_cases hyt : y = t
    · subst hyt
      rw [List.getElem?_set_self (by omega), if_pos ⟨rfl, rfl⟩]
    · rw [List.getElem?_set_ne (by omega), if_neg (fun h => hyt h.2)]
      have := h3 x y hx hy
      rwa [hL, Option.getD_some] at this
  · rw [List.getElem?_set_ne (by omega), if_neg (fun h => hxs h.1)]
    exact h3 x y hx hy
/-- A row's block holds bools, and is not the block of the rows. -/
theorem MxF.blk {w : World} {base n n2 s p c g : Nat} {gs : List Nat} {f : Nat → Nat → Bool} (h : MxF w base (.slice (some ⟨p, 0, none⟩) n c) n n2 gs f) (hs : s < n) (hc : w.cell? ⟨p, s, none⟩ = some (.slice (some ⟨g, 0, none⟩) n2 n2)) : (∃ row, BlkB w g row) ∧ p ≠ g := by
  obtain ⟨L, h1, h2, h3⟩ := h
  obtain ⟨p', c', g', row, hv, _, _, _, hc', hb, _⟩ := h1.at_ (k := s) (by omega)
  injection hv with hv
  injection hv with hv
  injection hv with hv
  subst hv
  rw [hc] at hc'
  injection hc' with hc'
  injection hc' with hc'
  injection hc' with hc'
  injection hc' with hc'
  subst hc'
  exact ⟨⟨row, hb⟩, fun e => h1.apart hb (by rw [e]; rfl)⟩
namespace Mc
/-! ### Reached pairs, one after the other -/
theorem nd_len : ∀ (l k : List Int), l.Nodup → (∀ x ∈ l, x ∈ k) → l.length ≤ k.length
  | [], _, _, _ => by simp
  | a :: l, k, hn, h => by
    have h1 := List.nodup_cons.1 hn
    have ha := h a (by simp)
    have ih := nd_len l (k.erase a) h1.2 fun x hx => by
      have hne : x ≠ a := fun e => h1.1 (e ▸ hx)
      exact (List.mem_erase_of_ne hne).2 (h x (by simp [hx]))
    rw [List.length_erase_of_mem ha] at ih
    have := List.length_pos_of_mem ha
    rw [List.length_cons]
    omega
theorem cnt_one {p q : Nat → Bool} {k0 : Nat} (hq : ∀ k, k ≠ k0 → q k = p k) (h0 : p k0 = false) (h1 : q k0 = true) : ∀ (l : List Nat), l.Nodup → l.countP q = l.countP p + if k0 ∈ l then 1 else 0
  | [], _ => by simp
  | a :: l, hn => by
    have hn1 := List.nodup_cons.1 hn
    have ih := cnt_one hq h0 h1 l hn1.2
    rw [List.countP_cons, List.countP_cons, ih]
    by_cases ha : a = k0
    · subst ha
      rw [h0, h1, if_neg hn1.1]
      simp
    · rw [hq a ha]
      have hm : (k0 ∈ a :: l) ↔ k0 ∈ l := by
        rw [List.mem_cons]
        exact ⟨fun h => h.elim (fun e => absurd e.symm ha) id, Or.inr⟩
      by_cases hk : k0 ∈ l
      · rw [if_pos hk, if_pos (hm.2 hk)]
        omega
      · rw [if_neg hk, if_neg (fun h => hk (hm.1 h))]
        omega
def cntM (m : Nat → Nat → Bool) (na nb : Nat) : Nat := (List.range (na * nb)).countP fun k => m (k / nb) (k % nb)
theorem cnt_set {m : Nat → Nat → Bool} {na nb u v : Nat} (hu : u < na) (hv : v < nb) (hm : m u v = false) : cntM (stF m u v) na nb = cntM m na nb + 1 := by
  have hk : u * nb + v ∈ List.range (na * nb) := List.mem_range.2 (cd_lt hu hv)
  unfold cntM
  have h := cnt_one (p := fun k => m (k / nb) (k % nb)) (q := fun k => stF m u v (k / nb) (k % nb)) (k0 := u * nb + v) (fun k hne => by
    show stF m u v (k / nb) (k % nb) = m (k / nb) (k % nb)
    unfold stF
    rw [if_neg]
    rintro ⟨rfl, rfl⟩
    exact hne (by rw [Nat.mul_comm]; exact (Nat.div_add_mod k nb).symm)) (by
    show m ((u * nb + v) / nb) ((u * nb + v) % nb) = false
    rw [cd_div hv, cd_mod hv]
    exact hm) (by
    show stF m u v ((u * nb + v) / nb) ((u * nb + v) % nb) = true
    rw [cd_div hv, cd_mod hv]
    unfold stF
    rw [if_pos ⟨rfl, rfl⟩]) (List.range (na * nb)) List.nodup_range
  rw [h, if_pos hk]
theorem cnt_none (na nb : Nat) : cntM (fun _ _ => false) na nb = 0 := by
  unfold cntM
  simp
theorem cnt_le (m : Nat → Nat → Bool) (na nb : Nat) : cntM m na nb ≤ na * nb := by
  unfold cntM
  have h := List.countP_le_length (p := fun k => m (k / nb) (k % nb)) (l := List.range (na * nb))
  rwa [List.length_range] at h
/-- What is marked is reached; how much is marked. -/
structure RcI (J : Ma) (na nb : Nat) (m : Nat → Nat → Bool) (n : Nat) : Prop where
  z : m 0 0 = true
  snd : ∀ s t : Nat, s < na → t < nb → m s t = true → ((s * nb + t : Nat) : Int) ∈ ord J
  cnt : n = cntM m na nb
/-- Where marked pairs in front of a place lead, is marked. -/
def ClM (f : Nat → Nat → Nat → Pz) (i : Int) (na nb : Nat) (m : Nat → Nat → Bool) (p q j : Nat) : Prop := ∀ s t c : Nat, s < na → t < nb → (c : Int) < i → m s t = true → (s < p ∨ (s = p ∧ (t < q ∨ (t = q ∧ c < j)))) → 0 ≤ (f s t c).1.1 → 0 ≤ (f s t c).1.2 → m (f s t c).1.1.toNat (f s t c).1.2.toNat = true
/-- A pass: either nothing has come so far, and what was gone through is closed, or something has come. -/
def Pg (f : Nat → Nat → Nat → Pz) (i : Int) (na nb : Nat) (m : Nat → Nat → Bool) (n : Nat) (g : Bool) (n0 p q j : Nat) : Prop := (g = false ∧ n = n0 ∧ ClM f i na nb m p q j) ∨ (g = true ∧ n0 < n)
section
variable {i o : Int} {na nb n n0 p q j : Nat} {f : Nat → Nat → Nat → Pz} {m : Nat → Nat → Bool} {g : Bool}
theorem Pg.start : Pg f i na nb m n false n 0 0 0 := Or.inl ⟨rfl, rfl, fun s t c _ _ _ _ h => by omega⟩
theorem Pg.skip (h : Pg f i na nb m n g n0 p q j) (hs : 0 ≤ (f p q j).1.1 → 0 ≤ (f p q j).1.2 → m (f p q j).1.1.toNat (f p q j).1.2.toNat = true) : Pg f i na nb m n g n0 p q (j + 1) := by
  rcases h with ⟨h1, h2, h3⟩ | h
  · refine Or.inl ⟨h1, h2, fun s t c hs' ht hc hm hl d1 d2 => ?_⟩
    by_cases he : s = p ∧ t = q ∧ c = j
    · obtain ⟨rfl, rfl, rfl⟩ := he
      exact hs d1 d2
    · exact h3 s t c hs' ht hc hm (by omega) d1 d2
  · exact Or.inr h
theorem Pg.next (h : Pg f i na nb m n g n0 p q j) (hj : m p q = false ∨ i ≤ j) : Pg f i na nb m n g n0 p (q + 1) 0 := by
  rcases h with ⟨h1, h2, h3⟩ | h
  · refine Or.inl ⟨h1, h2, fun s t c hs' ht hc hm hl d1 d2 => ?_⟩
    by_cases he : s = p ∧ t = q
    · obtain ⟨rfl, rfl⟩ := he
      rcases hj with hj | hj
      · rw [hj] at hm; cases hm
      · exact h3 s t c hs' ht hc hm (by omega) d1 d2
    · exact h3 s t c hs' ht hc hm (by omega) d1 d2
  · exact Or.inr h
theorem Pg.row (h : Pg f i na nb m n g n0 p q j) (hq : nb ≤ q) : Pg f i na nb m n g n0 (p + 1) 0 0 := by
  rcases h with ⟨h1, h2, h3⟩ | h
  · exact Or.inl ⟨h1, h2, fun s t c hs' ht hc hm hl d1 d2 => h3 s t c hs' ht hc hm (by omega) d1 d2⟩
  · exact Or.inr h
theorem Pg.set (h : Pg f i na nb m n g n0 p q j) {m' : Nat → Nat → Bool} {p' q' j' : Nat} : Pg f i na nb m' (n + 1) true n0 p' q' j' := by
  rcases h with ⟨_, h2, _⟩ | ⟨_, h2⟩
  · exact Or.inr ⟨rfl, by omega⟩
  · exact Or.inr ⟨rfl, by omega⟩
theorem RcI.start (hi : 1 ≤ i) (ho : 1 ≤ o) (ha : 1 ≤ na) (hb : 1 ≤ nb) (hJ : JS i o na nb f) : RcI (jm i o na nb f) na nb (stF (fun _ _ => false) 0 0) 1 := by
  refine ⟨by unfold stF; rw [if_pos ⟨rfl, rfl⟩], fun s t hs ht hm => ?_, by rw [cnt_set (by omega) (by omega) rfl, cnt_none]⟩
  unfold stF at hm
  by_cases h : s = 0 ∧ t = 0
  · obtain ⟨rfl, rfl⟩ := h
    rw [Nat.zero_mul]
    exact ((vx_ord (jm_vx hi ho ha hb hJ)).mem 0).2 ⟨Int.le_refl _, [], fun c hc => by simp at hc, rfl⟩
  · rw [if_neg h] at hm
    cases hm
theorem RcI.edge (hi : 1 ≤ i) (ho : 1 ≤ o) (ha : 1 ≤ na) (hb : 1 ≤ nb) (hJ : JS i o na nb f) (h : RcI (jm i o na nb f) na nb m n) {s t c u v : Nat} (hs : s < na) (ht : t < nb) (hc : (c : Int) < i) (hm : m s t = true) (hu : (f s t c).1.1 = u) (hv : (f s t c).1.2 = v) : u < na ∧ v < nb ∧ ((u * nb + v : Nat) : Int) ∈ ord (jm i o na nb f) := by
  obtain ⟨h1, h2, _⟩ := hJ s t c hs ht hc
  refine ⟨by omega, by omega, ?_⟩
  have h4 := (vx_cls (jm_vx hi ho ha hb hJ)).cl _ (h.snd s t hs ht hm) c (by omega) hc
  rw [jm_at hs ht hc, jE_some hu hv] at h4
  exact h4 (by simp only; omega)
theorem RcI.set {u v : Nat} {J : Ma} (h : RcI J na nb m n) (hu : u < na) (hv : v < nb) (hm : m u v = false) (hr : ((u * nb + v : Nat) : Int) ∈ ord J) : RcI J na nb (stF m u v) (n + 1) := by
  refine ⟨?_, fun s t hs ht hst => ?_, by rw [cnt_set hu hv hm, ← h.cnt]⟩
  · unfold stF
    split
    · rfl
    · exact h.z
  · unfold stF at hst
    by_cases he : s = u ∧ t = v
    · obtain ⟨rfl, rfl⟩ := he
      exact hr
    · rw [if_neg he] at hst
      exact h.snd s t hs ht hst
theorem RcI.le {J : Ma} (h : RcI J na nb m n) : n ≤ na * nb := by rw [h.cnt]; exact cnt_le m na nb
/-- What is closed has all that is reached. -/
theorem RcI.fin (hi : 1 ≤ i) (ho : 1 ≤ o) (ha : 1 ≤ na) (hb : 1 ≤ nb) (hJ : JS i o na nb f) (h : RcI (jm i o na nb f) na nb m n) (hc : ClM f i na nb m na 0 0) : n = (ord (jm i o na nb f)).length := by
  have V := jm_vx hi ho ha hb hJ
  have hO := vx_ord V
  have hC := vx_cls V
  have key : ∀ (k : Nat) (w : List Int), w.length = k → Wd (jm i o na nb f) w → 0 ≤ aft (jm i o na nb f) 0 w → ∃ s t : Nat, s < na ∧ t < nb ∧ aft (jm i o na nb f) 0 w = ((s * nb + t : Nat) : Int) ∧ m s t = true := by
    intro k
    induction k with
    | zero =>
      intro w hw _ _
      have hw0 : w = [] := List.length_eq_zero_iff.1 hw
      subst hw0
      exact ⟨0, 0, by omega, by omega, by simp; rfl, h.z⟩
    | succ k ih =>
      intro w hw hwd ht
      obtain ⟨y, c, rfl⟩ := snoc_of (l := w) (fun e => by rw [e] at hw; simp at hw)
      obtain ⟨hwy, hcc⟩ := Wd.split hwd
      rw [aft_snoc] at ht ⊢
      have hq : 0 ≤ aft (jm i o na nb f) 0 y := by
        rcases Int.lt_or_le (aft (jm i o na nb f) 0 y) 0 with h1 | h1
        · rw [nx_neg h1] at ht
          simp at ht
        · exact h1
      obtain ⟨s, t, hs, htn, e, hm⟩ := ih y (by simpa using hw) hwy hq
      obtain ⟨c, rfl⟩ := Int.eq_ofNat_of_zero_le hcc.1
      have hci : (c : Int) < i := hcc.2
      rw [e, jm_at hs htn hci] at ht ⊢
      obtain ⟨h1, h2, _⟩ := hJ s t c hs htn hci
      by_cases hn : (f s t c).1.1 = -1 ∨ (f s t c).1.2 = -1
      · rw [jE_none hn] at ht
        simp at ht
      · have g1 : 0 ≤ (f s t c).1.1 ∧ (f s t c).1.1 < na := by omega
        have g2 : 0 ≤ (f s t c).1.2 ∧ (f s t c).1.2 < nb := by omega
        obtain ⟨u, hu⟩ := Int.eq_ofNat_of_zero_le g1.1
        obtain ⟨v, hv⟩ := Int.eq_ofNat_of_zero_le g2.1
        have h5 := hc s t c hs htn hci hm (Or.inl hs) g1.1 g2.1
        rw [hu, hv, Int.toNat_natCast, Int.toNat_natCast] at h5
        rw [jE_some hu hv]
        exact ⟨u, v, by omega, by omega, rfl, h5⟩
  have hlen : ((List.range (na * nb)).filter fun k => m (k / nb) (k % nb)).length = n := by
    rw [h.cnt]
    unfold cntM
    rw [List.countP_eq_length_filter]
  obtain ⟨L, hL⟩ : ∃ L : List Int, ((List.range (na * nb)).filter fun k => m (k / nb) (k % nb)).map (fun (k : Nat) => (k : Int)) = L := ⟨_, rfl⟩
  have hLn : L.length = n := by rw [← hL, List.length_map, hlen]
  have hLd : L.Nodup := by
    rw [← hL, List.Nodup, List.pairwise_map]
    exact (List.nodup_range.filter _).imp fun {a b} hab e => hab (by omega)
  have h1 := nd_len L (ord (jm i o na nb f)) hLd fun x hx => by
    rw [← hL] at hx
    obtain ⟨k, hk, rfl⟩ := List.mem_map.1 hx
    obtain ⟨hk1, hk2⟩ := List.mem_filter.1 hk
    obtain ⟨s, t, hs, ht, rfl⟩ := cd_inv (List.mem_range.1 hk1)
    rw [cd_div ht, cd_mod ht] at hk2
    exact h.snd s t hs ht hk2
  have h2 := nd_len (ord (jm i o na nb f)) L hC.nd fun x hx => by
    obtain ⟨h3, w, hw, rfl⟩ := (hO.mem x).1 hx
    obtain ⟨s, t, hs, ht, e, hm⟩ := key _ w rfl hw h3
    rw [e, ← hL]
    refine List.mem_map.2 ⟨s * nb + t, List.mem_filter.2 ⟨List.mem_range.2 (cd_lt hs ht), ?_⟩, rfl⟩
    rw [cd_div ht, cd_mod ht]
    exact hm
  omega
end
end Mc
end Go.Proofs.Ytgafpmgdpigliaa

namespace Go.Proofs.Ytgafpmgdpigliaa
open Go.RowKit
open Mc (Ed Ma Wv stF Pg ClM RcI)

theorem boolrowJ_info : (Try.prog.info? 114).map (fun i => (i.zero, i.size, i.bytes)) = some (some (.slice none 0 0), 1, 24) := by kernel_rfl
set_option maxRecDepth 100000 in
set_option maxHeartbeats 8000000 in
theorem rreached_any (f : Nat → Nat → Nat → Mc.Pz) (i na nb : Nat) (par ao bi o bo : Int) (A B : Option Addr) (c c2 : Nat) (w : World) (hi1 : 1 ≤ i) (hi16 : i ≤ 16) (ho1 : 1 ≤ o) (ha1 : 1 ≤ na) (ha64 : na ≤ 64) (hb1 : 1 ≤ nb) (hb64 : nb ≤ 64) (hJS : Mc.JS i o na nb f)
    (CST : ∀ wr, Below w.heap.size w wr → ∀ s t k : Nat, s < na → t < nb → k < i → Calls Try.prog 59 #[.agg #[.int .i64 i, .int .i64 ao, .slice A na c], .agg #[.int .i64 bi, .int .i64 bo, .slice B nb c2], .int .i64 par, .agg #[.int .i64 s, .int .i64 t], .int .i64 k] wr (PzP wr (stp (f s t k)))) :
    Calls Try.prog 23 #[.agg #[.int .i64 i, .int .i64 ao, .slice A na c], .agg #[.int .i64 bi, .int .i64 bo, .slice B nb c2], .int .i64 par] w fun e w' => e = .returned (.int .i64 ((Mc.ord (Mc.jm i o na nb f)).length : Nat)) ∧ Below w.heap.size w w' := by
  obtain ⟨i0, hi0, hz0, hz1, hz2⟩ := info_parts boolrowJ_info
  obtain ⟨h, hh⟩ : ∃ h, w.heap.size = h := ⟨_, rfl⟩
  obtain ⟨W2, hW2⟩ : ∃ W2, boxM (boxM w i ao A na c) bi bo B nb c2 = W2 := ⟨_, rfl⟩
  have hB2 : Below w.heap.size w W2 := by rw [← hW2]; exact ((Below.refl _ _).alloc (Nat.le_refl _) _).alloc (by simp) _
  have hMA : BxM W2 h i ao A na c := by rw [← hW2]; exact (BxM.newE hh i ao A na c).mvB ((Below.refl _ _).alloc (Nat.le_refl _) _)
  have hMB : BxM W2 (h + 1) bi bo B nb c2 := by rw [← hW2]; exact BxM.newE (by simp [boxM, hh]) bi bo B nb c2
  have hz2' : W2.heap.size = h + 1 + 1 := by rw [← hW2, ← hh]; simp [boxM]
  have HC := Lib.hid CST
  have HB2 := Lib.hid hB2
  have HMA := Lib.hid hMA
  have HMB := Lib.hid hMB
  have HZ := Lib.hid hz2'
  have HJ := Lib.hid hJS
  obtain ⟨J, hJ⟩ : ∃ J, Mc.jm i o na nb f = J := ⟨_, rfl⟩
  have HJE := Lib.hid hJ
  obtain ⟨RN, hRN⟩ : ∃ RN, (Mc.ord (Mc.jm i o na nb f)).length = RN := ⟨_, rfl⟩
  have HRN := Lib.hid hRN
  have HFIN : Hid (∀ m n, RcI J na nb m n → ClM f i na nb m na 0 0 → n = RN) := fun m n h1 h2 => by
    rw [← HJE.out] at h1
    rw [← HRN.out]
    exact h1.fin (by omega) ho1 ha1 hb1 HJ.out h2
  have HEDG : Hid (∀ (m : Nat → Nat → Bool) (n s t k u v : Nat), RcI J na nb m n → s < na → t < nb → k < i → m s t = true → (f s t k).1.1 = u → (f s t k).1.2 = v → u < na ∧ v < nb ∧ ((u * nb + v : Nat) : Int) ∈ Mc.ord J) := fun m n s t k u v h1 hs ht hk hm hu hv => by
    rw [← HJE.out] at h1 ⊢
    exact h1.edge (by omega) ho1 ha1 hb1 HJ.out hs ht (by omega) hm hu hv
  have HST : Hid (RcI J na nb (stF (fun _ _ => false) 0 0) 1) := by
    show RcI _ _ _ _ _
    rw [← HJE.out]
    exact RcI.start (by omega) ho1 ha1 hb1 HJ.out
  rw [hRN]
  clear hB2 hMA hMB hz2' hJS CST hJ hRN
  obtain ⟨KK, hKK⟩ : ∃ KK, na * nb = KK := ⟨_, rfl⟩
  have HKL : Hid (∀ m n, RcI J na nb m n → n ≤ KK) := fun m n h => by rw [← hKK]; exact h.le
  have hK4 : KK ≤ 4096 := by rw [← hKK]; exact Nat.mul_le_mul ha64 hb64
  clear hKK
  go_enter Try.func23, Try.ntmps23
  go_upto_region 1 with fail
  try rw [hW2]
  clear hW2
  have HCL : Hid (∀ wr, Below W2.heap.size W2 wr → (wr.cell? ⟨h, 0, none⟩ = some (.int .i64 i) ∧ wr.cell? ⟨h, 1, none⟩ = some (.int .i64 ao) ∧ wr.cell? ⟨h, 2, none⟩ = some (.slice A na c) ∧ wr.cell? ⟨h + 1, 0, none⟩ = some (.int .i64 bi) ∧ wr.cell? ⟨h + 1, 1, none⟩ = some (.int .i64 bo) ∧ wr.cell? ⟨h + 1, 2, none⟩ = some (.slice B nb c2))) := fun wr hb => by
    obtain ⟨a0, a1, a2⟩ := (HMA.out.mvB hb).cells
    obtain ⟨b0, b1, b2⟩ := (HMB.out.mvB hb).cells
    exact ⟨a0, a1, a2, b0, b1, b2⟩
  go_wp2_with fail
  go_loopw [7, 8] (fun x y wr => ∃ (s : Nat) (gs : List Nat), s ≤ na ∧ y = .int .i64 s ∧ Hid (gs.length = s) ∧ Hid (MxB wr W2.heap.size x nb gs (List.replicate s (List.replicate nb false))) ∧ Hid (Below W2.heap.size W2 wr)) (fun _ y _ => na - (intOf y).toNat)
  case atStart => exact ⟨0, [], Nat.zero_le _, rfl, rfl, MxB.nil_ _ _ _, Below.refl _ _⟩
  case round =>
    obtain ⟨s, gs, hs, rfl, hgl, hX, hbr⟩ := hrel
    obtain ⟨m0, m1, m2, q0, q1, q2⟩ := HCL.out wr hbr.out
    by_cases hsn : s < na
    · have hsn' : decide ((s : Int) < na) = true := decide_eq_true (by omega)
      go_wp2_with (at_make; refine wpList_make_bools _ rfl _ _ rfl _ nb rfl rfl rfl (by omega) ?_)
      intro w1 hB1 hb1
      have hX1 := hX.out.below hb1
      have hlt := Lib.hid (fun x hx => MxB.lt hX.out (x := x) hx)
      have hbw := Lib.hid (below_next hbr.out hb1)
      have hgl2 := hgl.out
      have hsz := hb1.size
      have hsz2 := hbr.out.size
      have hown0 := hX1.1
      rw [hgl2] at hown0
      have hownA := hown0.alloc (.cells #[.slice (some ⟨wr.heap.size, 0, none⟩) nb nb] 114)
      have h1 := Lib.hid (cell_one_new w1 (t := 114) (.slice (some ⟨wr.heap.size, 0, none⟩) nb nb))
      have h2 : Hid (∀ u ∈ ([.slice (some ⟨wr.heap.size, 0, none⟩) nb nb] : List Value), u.oneCell' = true) := fun u hu => by simp at hu; subst hu; rfl
      have h3 : s + 1 ≤ maxLen := by unfold maxLen; omega
      have h4 : (s + 1) * 24 ≤ 140737488355328 := by omega
      have h5 : W2.heap.size ≤ (w1.alloc (.cells #[.slice (some ⟨wr.heap.size, 0, none⟩) nb nb] 114)).heap.size := by simp; omega
      clear hX hbr
      go_wp2_with (at_builtin; refine wpList_append_own _ rfl _ _ 113 rfl W2.heap.size 114 i0 (.slice none 0 0) 1 24 Try.underlying113 hi0 hz0 hz1 hz2 rfl (by decide) _ _ _ rfl hownA ⟨w1.heap.size, 0, none⟩ 1 1 [.slice (some ⟨wr.heap.size, 0, none⟩) nb nb] rfl rfl h1.out h2.out h3 h4 h5 ?_)
      intro v1 w5 hown1 hg1 _
      have hX5 : Hid (MxB w5 W2.heap.size v1 nb (gs ++ [wr.heap.size]) (List.replicate (s + 1) (List.replicate nb false))) := by
        show MxB _ _ _ _ _ _
        rw [List.replicate_succ']
        have hXa := hX1.below ((Below.refl _ _).alloc (Nat.le_refl _) (.cells #[.slice (some ⟨wr.heap.size, 0, none⟩) nb nb] 114))
        exact hXa.push (fun x hx e => by have := hlt.out x hx; omega) ((((Below.refl _ _).alloc (Nat.le_refl _) _).block _ hB1.out.lt).trans hB1.out) (by omega) (by simp) (by rw [hgl2]; exact hown1) hg1
      have hbF := Lib.hid ((hbw.out.alloc hbw.out.size (.cells #[.slice (some ⟨wr.heap.size, 0, none⟩) nb nb] 114)).grown hg1 h5 (fun j hj => (hownA.lt j hj).1))
      have hgl5 : Hid ((gs ++ [wr.heap.size]).length = s + 1) := by show _ = _; simp [hgl2]
      clear hown1 hg1 hownA hown0 hX1 h1 h2 h3 h4 h5 hlt hB1 hb1 hbw m0 m1 m2 q0 q1 q2
      go_wp2_with fail
      go_roundw
      case rel => exact ⟨s + 1, _, by omega, by go_num, hgl5, hX5, hbF⟩
      case measure => simp [intOf]; omega
    · have hsn' : decide ((s : Int) < na) = false := decide_eq_false (by omega)
      have hsna : s = na := by omega
      have hglN : Hid (gs.length = na) := by show _ = _; rw [hgl.out, hsna]
      have hF0 : MxF wr W2.heap.size u7 na nb gs (fun _ _ => false) := ⟨List.replicate s (List.replicate nb false), hX.out, hglN.out, fun x y hx hy => by rw [List.getElem?_replicate, if_pos (by omega), Option.getD_some, List.getElem?_replicate, if_pos hy]⟩
      obtain ⟨p, cp, g0, rfl, hp, hg, hbg, k1, k2, k3, hset⟩ := hF0.at_ (s := 0) (t := 0) (by omega) (by omega)
      have hbw := Lib.hid (hbr.out.setCell (p := ⟨g0, 0, none⟩) hbg (.bool true))
      have h01 : (0 : Int) < na := by omega
      have h02 : (0 : Int) < nb := by omega
      clear hX hF0 hbr hsna hgl
      go_upto_region 7 with fail
      obtain ⟨w6, hw6⟩ : ∃ w6, wr.setCell ⟨g0, 0, none⟩ (.bool true) = w6 := ⟨_, rfl⟩
      rw [hw6] at hset hbw
      try rw [hw6]
      clear k1 k2 k3 hbg h01 h02 hw6 hg hp m0 m1 m2 q0 q1 q2
      have hM0 : Hid (∃ m, MxF w6 W2.heap.size (.slice (some ⟨p, 0, none⟩) na cp) na nb gs m ∧ RcI J na nb m 1) := ⟨_, hset.out, HST.out⟩
      clear hset
      go_wp2_with fail
      go_loopw [9, 10] (fun u y wr => ∃ (nn : Nat) (g : Bool), u = .int .i64 nn ∧ y = .bool g ∧ Hid (∃ m, MxF wr W2.heap.size (.slice (some ⟨p, 0, none⟩) na cp) na nb gs m ∧ RcI J na nb m nn ∧ (g = false → ClM f i na nb m na 0 0)) ∧ Hid (Below W2.heap.size W2 wr)) (fun u y _ => 2 * (KK - (intOf u).toNat) + (match y with | .bool true => 1 | _ => 0))
      case atStart =>
        obtain ⟨m, h1, h2⟩ := hM0.out
        exact ⟨1, true, rfl, rfl, ⟨m, h1, h2, fun h => by cases h⟩, hbw⟩
      case round =>
        clear hM0 hbw
        obtain ⟨n0, g, rfl, rfl, hM, hbr⟩ := hrel
        obtain ⟨m0, m1, m2, q0, q1, q2⟩ := HCL.out wr hbr.out
        cases g with
        | false =>
          obtain ⟨m, _, h2, h3⟩ := hM.out
          have hfin : n0 = RN := HFIN.out m n0 h2 (h3 rfl)
          subst hfin
          have hbF := Lib.hid (below_next HB2.out hbr.out)
          clear hM h2 h3
          go_wp2_with fail
          go_ret
          exact ⟨rfl, hbF.out⟩
        | true =>
          have hM1 : Hid (∃ m, MxF wr W2.heap.size (.slice (some ⟨p, 0, none⟩) na cp) na nb gs m ∧ RcI J na nb m n0 ∧ Pg f i na nb m n0 false n0 0 0 0) := by
            obtain ⟨m, h1, h2, _⟩ := hM.out
            exact ⟨m, h1, h2, Mc.Pg.start⟩
          clear hM
          go_wp2_with fail
          clear m0 m1 m2 q0 q1 q2
          go_loopw [9, 10, 11] (fun u y v wr => ∃ (nn : Nat) (g : Bool) (s : Nat), s ≤ na ∧ u = .int .i64 nn ∧ y = .bool g ∧ v = .int .i64 s ∧ Hid (∃ m, MxF wr W2.heap.size (.slice (some ⟨p, 0, none⟩) na cp) na nb gs m ∧ RcI J na nb m nn ∧ Pg f i na nb m nn g n0 s 0 0) ∧ Hid (Below W2.heap.size W2 wr)) (fun _ _ v _ => na - (intOf v).toNat)
          case atStart => exact ⟨n0, false, 0, Nat.zero_le _, rfl, rfl, rfl, hM1, hbr⟩
          case round =>
            clear hM1 hbr
            obtain ⟨n1, g, s, hs, rfl, rfl, rfl, hM, hbr⟩ := hrel
            obtain ⟨m0, m1, m2, q0, q1, q2⟩ := HCL.out wr hbr.out
            by_cases hsn : s < na
            · have hsn' : decide ((s : Int) < na) = true := decide_eq_true (by omega)
              have hsnI : (s : Int) < na := by omega
              go_wp2_with fail
              clear m0 m1 m2 q0 q1 q2
              go_loopw [9, 10, 12] (fun u y v wr => ∃ (nn : Nat) (g : Bool) (t : Nat), t ≤ nb ∧ u = .int .i64 nn ∧ y = .bool g ∧ v = .int .i64 t ∧ Hid (∃ m, MxF wr W2.heap.size (.slice (some ⟨p, 0, none⟩) na cp) na nb gs m ∧ RcI J na nb m nn ∧ Pg f i na nb m nn g n0 s t 0) ∧ Hid (Below W2.heap.size W2 wr)) (fun _ _ v _ => nb - (intOf v).toNat)
              case atStart => exact ⟨n1, g, 0, Nat.zero_le _, rfl, rfl, rfl, hM, hbr⟩
              case round =>
                clear hM hbr
                obtain ⟨n2, g, t, ht, rfl, rfl, rfl, hM, hbr⟩ := hrel
                obtain ⟨m0, m1, m2, q0, q1, q2⟩ := HCL.out wr hbr.out
                by_cases htn : t < nb
                · have htn' : decide ((t : Int) < nb) = true := decide_eq_true (by omega)
                  have htnI : (t : Int) < nb := by omega
                  go_wp2_with fail
                  clear m0 m1 m2 q0 q1 q2
                  go_loopw [9, 10, 13] (fun u y v wr => ∃ (nn : Nat) (g : Bool) (j : Nat), j ≤ i ∧ u = .int .i64 nn ∧ y = .bool g ∧ v = .int .i64 j ∧ Hid (∃ m, MxF wr W2.heap.size (.slice (some ⟨p, 0, none⟩) na cp) na nb gs m ∧ RcI J na nb m nn ∧ Pg f i na nb m nn g n0 s t j) ∧ Hid (Below W2.heap.size W2 wr)) (fun _ _ v _ => i - (intOf v).toNat)
                  case atStart => exact ⟨n2, g, 0, Nat.zero_le _, rfl, rfl, rfl, hM, hbr⟩
                  case round =>
                    clear hM hbr
                    obtain ⟨n3, g, j, hj, rfl, rfl, rfl, hM, hbr⟩ := hrel
                    obtain ⟨m0, m1, m2, q0, q1, q2⟩ := HCL.out wr hbr.out
                    obtain ⟨m, hMf, hRI, hPg⟩ := hM.out
                    obtain ⟨p', cp', gb, hv, hp, hg, hbg, k1, k2, k3, _⟩ := hMf.at_ hsn htn
                    injection hv with hv hv2 hv3
                    injection hv with hv
                    injection hv with hv
                    subst hv hv3
                    have HMf := Lib.hid hMf
                    have HRI := Lib.hid hRI
                    have HPg := Lib.hid hPg
                    clear hM hMf hRI hPg
                    by_cases hji : j < i
                    · have hji' : decide ((j : Int) < i) = true := decide_eq_true (by omega)
                      cases hf : m s t with
                      | false =>
                        rw [hf] at k2
                        have hN : Hid (∃ m, MxF wr W2.heap.size (.slice (some ⟨p, 0, none⟩) na cp) na nb gs m ∧ RcI J na nb m n3 ∧ Pg f i na nb m n3 g n0 s (t + 1) 0) := ⟨m, HMf.out, HRI.out, HPg.out.next (Or.inl hf)⟩
                        go_wp2_with fail
                        go_roundw
                        case rel => exact ⟨n3, g, t + 1, by omega, rfl, rfl, by go_num, hN, hbr⟩
                        case measure => simp [intOf]; omega
                      | true =>
                        rw [hf] at k2
                        have HMT := Lib.hid hf
                        clear hf
                        go_wp2_with fail
                        refine (HC.out _ (below_next HB2.out hbr.out) s t j hsn htn hji).mono ?_
                        rintro e w7 ⟨rfl, hb7⟩
                        clear k1 k2 k3 hp hg hbg m0 m1 m2 q0 q1 q2
                        have HB7 := Lib.hid (below_next hbr.out hb7)
                        have HM7 := Lib.hid (HMf.out.below hb7)
                        clear hb7 HMf hbr
                        obtain ⟨hz1, hz2, hz3⟩ := HJ.out s t j hsn htn (by omega)
                        by_cases hn : (f s t j).1.1 = -1 ∨ (f s t j).1.2 = -1
                        · have hst : stp (f s t j) = ((0, 0), -1) := by unfold stp; rw [if_neg (by omega)]
                          rw [hst]
                          have HP2 := Lib.hid (HPg.out.skip (fun h1 h2 => by omega))
                          have HB8 := Lib.hid (HB7.out.alloc HB7.out.size (.cells #[.int .i64 0, .int .i64 0] 84))
                          have HM8 := Lib.hid (HM7.out.below ((Below.refl _ _).alloc (Nat.le_refl _) (.cells #[.int .i64 0, .int .i64 0] 84)))
                          clear hz1 hz2 hz3 hn hst HPg HB7 HM7
                          go_upto_region 21 with fail
                          obtain ⟨w8, hw8⟩ : ∃ x, w7.alloc (.cells #[.int .i64 0, .int .i64 0] 84) = x := ⟨_, rfl⟩
                          rw [hw8] at HB8 HM8
                          try rw [hw8]
                          clear hw8
                          go_quiet (fail)
                          obtain ⟨W3, hW3⟩ : ∃ W3, w8.drewN nq = W3 := ⟨_, rfl⟩
                          have hbd : Below w8.heap.size w8 W3 := by rw [← hW3]; exact below_drewN' (Below.refl _ _) _
                          rw [hW3]
                          have HB := Lib.hid (below_next HB8.out hbd)
                          have hN : Hid (∃ m, MxF W3 W2.heap.size (.slice (some ⟨p, 0, none⟩) na cp) na nb gs m ∧ RcI J na nb m n3 ∧ Pg f i na nb m n3 g n0 s t (j + 1)) := ⟨m, HM8.out.below hbd, HRI.out, HP2.out⟩
                          clear hW3 hbd HB8 HM8
                          go_wp2_with fail
                          go_roundw
                          case rel => exact ⟨n3, g, j + 1, by omega, rfl, rfl, by go_num, hN, HB⟩
                          case measure => simp [intOf]; omega
                        · obtain ⟨u, hu⟩ := Int.eq_ofNat_of_zero_le (show 0 ≤ (f s t j).1.1 by omega)
                          obtain ⟨v, hv⟩ := Int.eq_ofNat_of_zero_le (show 0 ≤ (f s t j).1.2 by omega)
                          obtain ⟨k, hk⟩ := Int.eq_ofNat_of_zero_le (show 0 ≤ (f s t j).2 by have := hz3 (by omega) (by omega); omega)
                          have hst : stp (f s t j) = (((u : Int), (v : Int)), (k : Int)) := by unfold stp; rw [if_pos (by omega), ← hu, ← hv, ← hk]
                          obtain ⟨hul, hvl, hmem⟩ := HEDG.out m n3 s t j u v HRI.out hsn htn hji HMT.out hu hv
                          have HMEM := Lib.hid hmem
                          have HUV : Hid ((f s t j).1.1.toNat = u ∧ (f s t j).1.2.toNat = v) := ⟨by rw [hu]; rfl, by rw [hv]; rfl⟩
                          rw [hst]
                          have hbox := heap_alloc_new w7 (.cells #[.int .i64 u, .int .i64 v] 84)
                          have HB8 := Lib.hid (HB7.out.alloc HB7.out.size (.cells #[.int .i64 u, .int .i64 v] 84))
                          have HM8 := Lib.hid (HM7.out.below ((Below.refl _ _).alloc (Nat.le_refl _) (.cells #[.int .i64 u, .int .i64 v] 84)))
                          have hbl : ∀ b : Nat, b < w7.heap.size → b ≠ w7.heap.size := fun b h => by omega
                          have hW7 := HM7.out
                          clear hz1 hz2 hz3 hn hst HB7 hmem hu hv hk
                          obtain ⟨_, _, g7, hv7, hp7, hg7, _, _, _, _, _⟩ := hW7.at_ hul hvl
                          injection hv7 with hv7 hv72 hv73
                          injection hv7 with hv7
                          injection hv7 with hv7
                          subst hv7 hv73
                          go_upto_region 21 with fail
                          obtain ⟨w8, hw8⟩ : ∃ x, w7.alloc (.cells #[.int .i64 u, .int .i64 v] 84) = x := ⟨_, rfl⟩
                          obtain ⟨Gt, hGt⟩ : ∃ x, w7.heap.size = x := ⟨_, rfl⟩
                          rw [hw8] at HB8 HM8 hbox
                          rw [hGt] at hbox hp7 hg7
                          try rw [hw8]
                          try rw [hGt]
                          have HBOX := Lib.hid hbox
                          have hulI : (u : Int) < na := by omega
                          have hvlI : (v : Int) < nb := by omega
                          have hk0 : (0 : Int) ≤ k := by omega
                          clear hw8 hGt hW7 hbl hbox HM7 hv72
                          obtain ⟨_, _, g8, hv8, hp8, hg8, hbg8, k1, k2, k3, _⟩ := HM8.out.at_ hul hvl
                          injection hv8 with hv8 hv82 hv83
                          injection hv8 with hv8
                          injection hv8 with hv8
                          subst hv8 hv83
                          have x0 : w8.cell? ⟨Gt, 0, none⟩ = some (.int .i64 u) := by rw [cell_of_row _ _ _ _ _ _ HBOX.out]; rfl
                          have x1 : w8.cell? ⟨Gt, 1, none⟩ = some (.int .i64 v) := by rw [cell_of_row _ _ _ _ _ _ HBOX.out]; rfl
                          cases hmu : m u v with
                          | true =>
                            rw [hmu] at k2
                            have HP2 := Lib.hid (HPg.out.skip (fun _ _ => by rw [HUV.out.1, HUV.out.2]; exact hmu))
                            go_quiet (fail)
                            obtain ⟨W3, hW3⟩ : ∃ W3, w8.drewN nq = W3 := ⟨_, rfl⟩
                            have hbd : Below w8.heap.size w8 W3 := by rw [← hW3]; exact below_drewN' (Below.refl _ _) _
                            rw [hW3]
                            have HB := Lib.hid (below_next HB8.out hbd)
                            have hN : Hid (∃ m, MxF W3 W2.heap.size (.slice (some ⟨p, 0, none⟩) na cp) na nb gs m ∧ RcI J na nb m n3 ∧ Pg f i na nb m n3 g n0 s t (j + 1)) := ⟨m, HM8.out.below hbd, HRI.out, HP2.out⟩
                            clear hW3 hbd HB8 HM8 k1 k2 k3 x0 x1 hp8 hg8 hbg8 hp7 hg7
                            go_wp2_with fail
                            go_roundw
                            case rel => exact ⟨n3, g, j + 1, by omega, rfl, rfl, by go_num, hN, HB⟩
                            case measure => simp [intOf]; omega
                          | false =>
                            rw [hmu] at k2
                            have hn3 := HKL.out m n3 HRI.out
                            have hn3w := IntWalk.i64_in ((n3 : Int) + 1) (by omega)
                            go_quiet (fail)
                            obtain ⟨W3, hW3⟩ : ∃ W3, w8.drewN nq = W3 := ⟨_, rfl⟩
                            have hbd : Below w8.heap.size w8 W3 := by rw [← hW3]; exact below_drewN' (Below.refl _ _) _
                            rw [hW3]
                            have HB := Lib.hid (below_next HB8.out hbd)
                            have hM3 := HM8.out.below hbd
                            have hbx3 : W3.heap[Gt]? = _ := (hbd.block _ (heap_lt HBOX.out)).trans HBOX.out
                            clear hW3 hbd HB8 HM8 k1 k2 k3 x0 x1 hp8 hg8 hbg8
                            go_wp2_with fail
                            obtain ⟨_, _, g9, hv9, hp9, hg9, hbg9, k1, k2, k3, hset⟩ := hM3.at_ hul hvl
                            injection hv9 with hv9 hv92 hv93
                            injection hv9 with hv9
                            injection hv9 with hv9
                            subst hv9 hv93
                            have x0 : W3.cell? ⟨Gt, 0, none⟩ = some (.int .i64 u) := by rw [cell_of_row _ _ _ _ _ _ hbx3]; rfl
                            have x1 : W3.cell? ⟨Gt, 1, none⟩ = some (.int .i64 v) := by rw [cell_of_row _ _ _ _ _ _ hbx3]; rfl
                            obtain ⟨⟨row9, hbk9⟩, hpg⟩ := hM3.blk hul k1
                            have hGg : Gt ≠ g9 := fun e => by
                              have h1 := hbk9
                              unfold BlkB at h1
                              rw [← e, hbx3] at h1
                              injection h1 with h1
                              injection h1 with _ h1 _
                              exact absurd h1 (by decide)
                            have HR9 := Lib.hid (HRI.out.set hul hvl hmu HMEM.out)
                            have HP9 := Lib.hid (HPg.out.set (m' := stF m u v) (p' := s) (q' := t) (j' := j + 1))
                            have HB9 := Lib.hid (HB.out.setCell (p := ⟨g9, v, none⟩) hbg9 (.bool true))
                            have HS9 := Lib.hid hset.out
                            have key : ∀ (W : World) (b o : Nat), b ≠ g9 → (W.setCell ⟨g9, v, none⟩ (.bool true)).cell? ⟨b, o, none⟩ = W.cell? ⟨b, o, none⟩ := fun W b o hb => World.cell?_of_block (a := ⟨b, o, none⟩) (Below.heap_setCell _ _ _ _ hb)
                            have s0 : W3.cell? ⟨Gt, 0, none⟩ = some (.int .i64 u) ∧ W3.cell? ⟨Gt, 1, none⟩ = some (.int .i64 v) ∧ W3.cell? ⟨p, u, none⟩ = some (.slice (some ⟨g9, 0, none⟩) nb nb) := ⟨x0, x1, k1⟩
                            have s1 : (W3.setCell ⟨g9, v, none⟩ (.bool true)).cell? ⟨Gt, 0, none⟩ = some (.int .i64 u) ∧ (W3.setCell ⟨g9, v, none⟩ (.bool true)).cell? ⟨Gt, 1, none⟩ = some (.int .i64 v) ∧ (W3.setCell ⟨g9, v, none⟩ (.bool true)).cell? ⟨p, u, none⟩ = some (.slice (some ⟨g9, 0, none⟩) nb nb) := ⟨(key _ _ _ hGg).trans x0, (key _ _ _ hGg).trans x1, (key _ _ _ hpg).trans k1⟩
                            have s2 : (W3.drew.setCell ⟨g9, v, none⟩ (.bool true)).cell? ⟨Gt, 0, none⟩ = some (.int .i64 u) ∧ (W3.drew.setCell ⟨g9, v, none⟩ (.bool true)).cell? ⟨Gt, 1, none⟩ = some (.int .i64 v) ∧ (W3.drew.setCell ⟨g9, v, none⟩ (.bool true)).cell? ⟨p, u, none⟩ = some (.slice (some ⟨g9, 0, none⟩) nb nb) := s1
                            clear hM3 hbx3 hmu hbk9 HRI HPg HB hset
                            go_region_held3 (fun W => W.cell? ⟨Gt, 0, none⟩ = some (.int .i64 u) ∧ W.cell? ⟨Gt, 1, none⟩ = some (.int .i64 v) ∧ W.cell? ⟨p, u, none⟩ = some (.slice (some ⟨g9, 0, none⟩) nb nb)) (first | exact s0 | exact s1 | exact s2 | go_keep) (fail)
                            have hbF : Below W2.heap.size W2 (W3.setCell ⟨g9, v, none⟩ (.bool true)).drew := HB9.out.drew
                            have hN : Hid (∃ m, MxF (W3.setCell ⟨g9, v, none⟩ (.bool true)).drew W2.heap.size (.slice (some ⟨p, 0, none⟩) na cp) na nb gs m ∧ RcI J na nb m (n3 + 1) ∧ Pg f i na nb m (n3 + 1) true n0 s t (j + 1)) := ⟨stF m u v, HS9.out.below (Below.refl _ _).drew, HR9.out, HP9.out⟩
                            have HBF := Lib.hid hbF
                            clear hbF s0 s1 s2 key k1 k2 k3 x0 x1 hp9 hg9 hbg9
                            go_wp2_with fail
                            go_roundw
                            case rel => exact ⟨n3 + 1, true, j + 1, by omega, by go_num, rfl, by go_num, hN, HBF⟩
                            case measure => simp [intOf]; omega
                    · have hji' : decide ((j : Int) < i) = false := decide_eq_false (by omega)
                      have hN : Hid (∃ m, MxF wr W2.heap.size (.slice (some ⟨p, 0, none⟩) na cp) na nb gs m ∧ RcI J na nb m n3 ∧ Pg f i na nb m n3 g n0 s (t + 1) 0) := ⟨m, HMf.out, HRI.out, HPg.out.next (Or.inr (by omega))⟩
                      go_wp2_with fail
                      go_roundw
                      case rel => exact ⟨n3, g, t + 1, by omega, rfl, rfl, by go_num, hN, hbr⟩
                      case measure => simp [intOf]; omega
                · have htn' : decide ((t : Int) < nb) = false := decide_eq_false (by omega)
                  have hN : Hid (∃ m, MxF wr W2.heap.size (.slice (some ⟨p, 0, none⟩) na cp) na nb gs m ∧ RcI J na nb m n2 ∧ Pg f i na nb m n2 g n0 (s + 1) 0 0) := by
                    obtain ⟨m, h1, h2, h3⟩ := hM.out
                    exact ⟨m, h1, h2, h3.row (by omega)⟩
                  clear hM
                  go_wp2_with fail
                  go_roundw
                  case rel => exact ⟨n2, g, s + 1, by omega, rfl, rfl, by go_num, hN, hbr⟩
                  case measure => simp [intOf]; omega
            · have hsn' : decide ((s : Int) < na) = false := decide_eq_false (by omega)
              have hN : Hid (∃ m, MxF wr W2.heap.size (.slice (some ⟨p, 0, none⟩) na cp) na nb gs m ∧ RcI J na nb m n1 ∧ (g = false → ClM f i na nb m na 0 0)) := by
                obtain ⟨m, h1, h2, h3⟩ := hM.out
                refine ⟨m, h1, h2, fun hg => ?_⟩
                rcases h3 with ⟨_, _, h4⟩ | ⟨h4, _⟩
                · rwa [show s = na by omega] at h4
                · rw [hg] at h4; cases h4
              have hME : Hid (2 * (KK - n1) + (if g = true then 1 else 0) < 2 * (KK - n0) + 1) := by
                obtain ⟨m, h1, h2, h3⟩ := hM.out
                have h5 := HKL.out m n1 h2
                show _ < _
                rcases h3 with ⟨h4, h6, _⟩ | ⟨h4, h6⟩
                · rw [h4, if_neg (by simp)]
                  omega
                · rw [h4, if_pos rfl]
                  omega
              clear hM
              go_wp2_with fail
              go_roundw
              case rel => exact ⟨n1, g, rfl, rfl, hN, hbr⟩
              case measure =>
                have h7 := hME.out
                cases g <;> simp [intOf] at h7 ⊢ <;> omega
end Go.Proofs.Ytgafpmgdpigliaa
