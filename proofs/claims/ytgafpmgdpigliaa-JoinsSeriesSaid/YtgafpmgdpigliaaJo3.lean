/-
  Contracts: the closures of Series and Parallel. No statement is proved here.
-/
import Derived.Test.YtgafpmgdpigliaaJo2
namespace Go.Proofs.Ytgafpmgdpigliaa
open Go.RowKit
open Mc (Ed Ma Wv nE)

/-- What a closure over pairs hands back. -/
def PzP (w : World) (z : Mc.Pz) (e : Ending) (w' : World) : Prop := e = .returned (.tuple #[.agg #[.int .i64 z.1.1, .int .i64 z.1.2], .int .i64 z.2]) ∧ Below w.heap.size w w'
/-- The memory of a closure over pairs, with the first edge in its box. -/
structure PzW (w W : World) (t : Nat) (ex eo : Int) : Prop where
  bel : Below w.heap.size w W
  sz : W.heap.size = w.heap.size + 3
  pt : W.cell? ⟨w.heap.size, 1, none⟩ = some (.int .i64 t)
  res : W.heap[w.heap.size + 1]? = some (.cells #[.int .i64 0, .int .i64 0] 84)
  x : W.heap[w.heap.size + 1 + 1]? = some (.cells #[.int .i64 ex, .int .i64 eo] 27)
theorem PzW.cells {w W : World} {t : Nat} {ex eo : Int} (h : PzW w W t ex eo) : W.cell? ⟨w.heap.size, 1, none⟩ = some (.int .i64 t) ∧ W.cell? ⟨w.heap.size + 1 + 1, 0, none⟩ = some (.int .i64 ex) ∧ W.cell? ⟨w.heap.size + 1 + 1, 1, none⟩ = some (.int .i64 eo) :=
  ⟨h.pt, by rw [cell_of_row _ _ _ _ _ _ h.x]; rfl, by rw [cell_of_row _ _ _ _ _ _ h.x]; rfl⟩
theorem PzW.mk3 (w : World) (s t : Nat) (ex eo : Int) : PzW w ((((w.alloc (.cells #[.int .i64 s, .int .i64 t] 84)).alloc (.cells #[.int .i64 0, .int .i64 0] 84)).alloc (.cells #[.int .i64 ex, .int .i64 eo] 27))) t ex eo := by
  have h1 := heap_alloc_new (w.alloc (.cells #[.int .i64 s, .int .i64 t] 84)) (.cells #[.int .i64 0, .int .i64 0] 84)
  have h2 := heap_alloc_new ((w.alloc (.cells #[.int .i64 s, .int .i64 t] 84)).alloc (.cells #[.int .i64 0, .int .i64 0] 84)) (.cells #[.int .i64 ex, .int .i64 eo] 27)
  rw [World.size_alloc] at h1
  rw [World.size_alloc, World.size_alloc] at h2
  refine ⟨(((Below.refl _ _).alloc (Nat.le_refl _) _).alloc (by simp) _).alloc (by simp; omega) _, by simp, ?_, (Below.heap_alloc _ _ _ (by simp)).trans h1, h2⟩
  have h0 := (Below.heap_alloc ((w.alloc (.cells #[.int .i64 s, .int .i64 t] 84)).alloc (.cells #[.int .i64 0, .int .i64 0] 84)) (.cells #[.int .i64 ex, .int .i64 eo] 27) w.heap.size (by simp; omega)).trans ((Below.heap_alloc (w.alloc (.cells #[.int .i64 s, .int .i64 t] 84)) (.cells #[.int .i64 0, .int .i64 0] 84) w.heap.size (by simp)).trans (heap_alloc_new w (.cells #[.int .i64 s, .int .i64 t] 84)))
  rw [cell_of_row _ _ _ _ _ _ h0]
  rfl
theorem res2_fin {w W : World} {u v : Int} (hb : Below w.heap.size w W) (h : W.heap[w.heap.size + 1]? = some (.cells #[.int .i64 u, .int .i64 v] 84)) (x y : Int) : Below w.heap.size w (((W.setCell ⟨w.heap.size + 1, 0, none⟩ (.int .i64 x)).setCell ⟨w.heap.size + 1, 1, none⟩ (.int .i64 y))).drew ∧ (((W.setCell ⟨w.heap.size + 1, 0, none⟩ (.int .i64 x)).setCell ⟨w.heap.size + 1, 1, none⟩ (.int .i64 y))).drew.cell? ⟨w.heap.size + 1, 0, none⟩ = some (.int .i64 x) ∧
    (((W.setCell ⟨w.heap.size + 1, 0, none⟩ (.int .i64 x)).setCell ⟨w.heap.size + 1, 1, none⟩ (.int .i64 y))).drew.cell? ⟨w.heap.size + 1, 1, none⟩ = some (.int .i64 y) := by
  have h1 : (((W.setCell ⟨w.heap.size + 1, 0, none⟩ (.int .i64 x)).setCell ⟨w.heap.size + 1, 1, none⟩ (.int .i64 y))).drew.heap[w.heap.size + 1]? = some (.cells #[.int .i64 x, .int .i64 y] 84) := by
    show (((W.setCell ⟨w.heap.size + 1, 0, none⟩ (.int .i64 x)).setCell ⟨w.heap.size + 1, 1, none⟩ (.int .i64 y))).heap[w.heap.size + 1]? = _
    simp [World.setCell, Array.getElem?_modify, h]
  refine ⟨((hb.setCell (p := ⟨w.heap.size + 1, 0, none⟩) (by show w.heap.size ≤ w.heap.size + 1; omega) _).setCell (p := ⟨w.heap.size + 1, 1, none⟩) (by show w.heap.size ≤ w.heap.size + 1; omega) _).drew, ?_, ?_⟩ <;> (rw [cell_of_row _ _ _ _ _ _ h1]; rfl)
/-- The same with the second edge in its box. -/
structure PzV (w W : World) (G : Nat) (ex fx fo : Int) : Prop where
  bel : Below w.heap.size w W
  ne : G ≠ w.heap.size + 1
  res : W.heap[w.heap.size + 1]? = some (.cells #[.int .i64 0, .int .i64 0] 84)
  x : W.cell? ⟨w.heap.size + 1 + 1, 0, none⟩ = some (.int .i64 ex)
  y : W.heap[G]? = some (.cells #[.int .i64 fx, .int .i64 fo] 27)
theorem PzV.mk4 {w W : World} {t : Nat} {ex eo : Int} (h : PzW w W t ex eo) (fx fo : Int) : PzV w (W.alloc (.cells #[.int .i64 fx, .int .i64 fo] 27)).drew W.heap.size ex fx fo :=
  ⟨(h.bel.alloc h.bel.size _).drew, by have := h.sz; omega, (Below.heap_alloc W _ _ (heap_lt h.res)).trans h.res, by
    have h1 : (W.alloc (.cells #[.int .i64 fx, .int .i64 fo] 27)).drew.heap[w.heap.size + 1 + 1]? = _ := (Below.heap_alloc W _ _ (heap_lt h.x)).trans h.x
    rw [cell_of_row _ _ _ _ _ _ h1]; rfl, heap_alloc_new W _⟩
section
variable {w W : World} {G : Nat} {ex fx fo : Int}
theorem PzV.cells (h : PzV w W G ex fx fo) : W.cell? ⟨w.heap.size + 1 + 1, 0, none⟩ = some (.int .i64 ex) ∧ W.cell? ⟨G, 0, none⟩ = some (.int .i64 fx) ∧ W.cell? ⟨G, 1, none⟩ = some (.int .i64 fo) :=
  ⟨h.x, by rw [cell_of_row _ _ _ _ _ _ h.y]; rfl, by rw [cell_of_row _ _ _ _ _ _ h.y]; rfl⟩
theorem PzV.rcells (h : PzV w W G ex fx fo) : W.cell? ⟨w.heap.size + 1, 0, none⟩ = some (.int .i64 0) ∧ W.cell? ⟨w.heap.size + 1, 1, none⟩ = some (.int .i64 0) ∧ ∀ o, W.frozen? ⟨w.heap.size + 1, o, none⟩ = false :=
  ⟨by rw [cell_of_row _ _ _ _ _ _ h.res]; rfl, by rw [cell_of_row _ _ _ _ _ _ h.res]; rfl, blk_frz h.res⟩
theorem PzV.after (h : PzV w W G ex fx fo) (x y : Value) : ((W.setCell ⟨w.heap.size + 1, 0, none⟩ x).setCell ⟨w.heap.size + 1, 1, none⟩ y).cell? ⟨w.heap.size + 1 + 1, 0, none⟩ = some (.int .i64 ex) ∧ ((W.setCell ⟨w.heap.size + 1, 0, none⟩ x).setCell ⟨w.heap.size + 1, 1, none⟩ y).cell? ⟨G, 0, none⟩ = some (.int .i64 fx) ∧ ((W.setCell ⟨w.heap.size + 1, 0, none⟩ x).setCell ⟨w.heap.size + 1, 1, none⟩ y).cell? ⟨G, 1, none⟩ = some (.int .i64 fo) := by
  obtain ⟨a, b, c⟩ := h.cells
  have key : ∀ (B o : Nat), B ≠ w.heap.size + 1 → ((W.setCell ⟨w.heap.size + 1, 0, none⟩ x).setCell ⟨w.heap.size + 1, 1, none⟩ y).cell? ⟨B, o, none⟩ = W.cell? ⟨B, o, none⟩ := fun B o hB => World.cell?_of_block (a := ⟨B, o, none⟩) ((Below.heap_setCell _ _ _ _ hB).trans (Below.heap_setCell _ _ _ _ hB))
  exact ⟨(key _ _ (by omega)).trans a, (key _ _ h.ne).trans b, (key _ _ h.ne).trans c⟩
theorem PzV.after' (h : PzV w W G ex fx fo) (x y : Value) : ((W.drew.setCell ⟨w.heap.size + 1, 0, none⟩ x).setCell ⟨w.heap.size + 1, 1, none⟩ y).cell? ⟨w.heap.size + 1 + 1, 0, none⟩ = some (.int .i64 ex) ∧ ((W.drew.setCell ⟨w.heap.size + 1, 0, none⟩ x).setCell ⟨w.heap.size + 1, 1, none⟩ y).cell? ⟨G, 0, none⟩ = some (.int .i64 fx) ∧ ((W.drew.setCell ⟨w.heap.size + 1, 0, none⟩ x).setCell ⟨w.heap.size + 1, 1, none⟩ y).cell? ⟨G, 1, none⟩ = some (.int .i64 fo) := h.after x y
/-- What lies in the result behind both stores. -/
theorem PzV.fin (h : PzV w W G ex fx fo) (x y : Int) : Below w.heap.size w (((W.setCell ⟨w.heap.size + 1, 0, none⟩ (.int .i64 x)).setCell ⟨w.heap.size + 1, 1, none⟩ (.int .i64 y))).drew ∧ (((W.setCell ⟨w.heap.size + 1, 0, none⟩ (.int .i64 x)).setCell ⟨w.heap.size + 1, 1, none⟩ (.int .i64 y))).drew.cell? ⟨w.heap.size + 1, 0, none⟩ = some (.int .i64 x) ∧
    (((W.setCell ⟨w.heap.size + 1, 0, none⟩ (.int .i64 x)).setCell ⟨w.heap.size + 1, 1, none⟩ (.int .i64 y))).drew.cell? ⟨w.heap.size + 1, 1, none⟩ = some (.int .i64 y) := res2_fin h.bel h.res x y
end
set_option maxRecDepth 100000 in
set_option maxHeartbeats 2000000 in
theorem ser1_any (a b : Ma) (va : Mc.Val a) (vb : Mc.Val b) (hab : a.o = b.i) (ga gb : Nat) (A B : Option Addr) (na nb d1 d2 s t c : Nat) (w : World) (hba : BxM w ga a.i a.o A na d1) (hbb : BxM w gb b.i b.o B nb d2) (hra : RdR w A a.r) (hrb : RdR w B b.r) (hna : a.r.length = na) (hnb : b.r.length = nb)
    (hs : s < na) (ht : t < nb) (hc : (c : Int) < a.i) :
    Calls Try.prog 57 #[.agg #[.int .i64 s, .int .i64 t], .int .i64 c, .pointer (some ⟨ga, 0, none⟩), .pointer (some ⟨gb, 0, none⟩)] w (PzP w (Mc.serF a b s t c)) := by
  have hna64 := va.r1
  have hnb64 := vb.r1
  have hgal := heap_lt hba
  have hgbl := heap_lt hbb
  obtain ⟨b1, off1, R1, q1, n1, row1, rfl, hb1, hcw1, _, _, _, hpw1, hln1, hqr1⟩ := hra.at_ (k := s) (by omega)
  have hn1 : (n1 : Int) = a.i := by rw [← hln1.out]; exact va.len row1 (List.mem_of_getElem? hqr1.out)
  obtain ⟨e1, o1, ex, eo, rfl, he1, hx0, hy0, hqe1⟩ := hpw1.at_ (k := c) (by rw [hln1.out]; omega)
  obtain ⟨b2, off2, R2, q2, n2, row2, rfl, hb2, hcw2, _, _, _, hpw2, hln2, hqr2⟩ := hrb.at_ (k := t) (by omega)
  have hn2 : (n2 : Int) = b.i := by rw [← hln2.out]; exact vb.len row2 (List.mem_of_getElem? hqr2.out)
  have hX : Mc.nx a s c = (ex, eo) := Mc.nx_at hqr1.out hqe1.out
  have hok := va.ok row1 (List.mem_of_getElem? hqr1.out) _ (List.mem_of_getElem? hqe1.out)
  simp only at hok
  obtain ⟨g0, g1, g2⟩ := hba.cells
  obtain ⟨k0, k1, k2⟩ := hbb.cells
  have hs1 : (s : Int) < na := by omega
  have ht1 : (t : Int) < nb := by omega
  have hc1 : (c : Int) < n1 := by omega
  have hE1 : ex = -1 → Hid (Mc.serF a b s t c = ((-1, -1), -1)) := fun h => by
    show _ = _
    unfold Mc.serF
    rw [hX, if_pos h]
  rcases hok with ⟨rfl, rfl⟩ | ⟨h1, h2, h3, h4⟩
  · have HF := hE1 rfl
    rw [HF.out]
    clear hE1 HF hX hra hrb hba hbb hpw1 hpw2 va vb hcw2 k0 k1 k2 g0 g1 hn1 hn2 hna hnb hab hna64 hnb64
    go_enter Try.func57, Try.ntmps57
    go_wp2
    refine bodyPost_ret (v := .tuple #[.agg #[.int .i64 (-1), .int .i64 (-1)], .int .i64 (-1)]) (by simp [results, Try.f57, go_sem]) rfl ?_
    exact ⟨rfl, (((Below.refl _ _).alloc (Nat.le_refl _) _).alloc (by simp) _).alloc (by simp; omega) _⟩
  · have hne : (ex == -1) = false := by rw [beq_eq_false_iff_ne]; omega
    obtain ⟨eo, rfl⟩ := Int.eq_ofNat_of_zero_le h3
    have hj : eo < n2 := by omega
    obtain ⟨e2, o2, fx, fo, rfl, he2, hx2, hy2, hqe2⟩ := hpw2.at_ (k := eo) (by rw [hln2.out]; exact hj)
    have HF : Hid (Mc.serF a b s t c = ((ex, fx), fo)) := by
      show _ = _
      unfold Mc.serF
      rw [hX, if_neg (by simp only; omega)]
      simp only
      rw [Mc.nx_at hqr2.out hqe2.out]
    rw [HF.out]
    have hj1 : (eo : Int) < n2 := by omega
    clear hE1 HF hX hra hrb hba hbb hpw1 hpw2 va vb k0 k1 g0 g1 hn1 hn2 hna hnb hab hna64 hnb64
    have hcell : ∀ {W : World}, Below w.heap.size w W → W.cell? ⟨gb, 2, none⟩ = some (.slice (some ⟨b2, off2, none⟩) nb d2) ∧ W.cell? ⟨b2, off2 + t, none⟩ = some (.slice (some ⟨e2, o2, none⟩) n2 q2) ∧ W.cell? ⟨e2, o2 + eo * 2, none⟩ = some (.int .i64 fx) ∧ W.cell? ⟨e2, o2 + eo * 2 + 1, none⟩ = some (.int .i64 fo) := fun hb =>
      ⟨(hb.cell (p := ⟨gb, 2, none⟩) hgbl).trans k2, (hb.cell (p := ⟨b2, off2 + t, none⟩) hb2).trans hcw2, (hb.cell (p := ⟨e2, o2 + eo * 2, none⟩) he2).trans hx2, (hb.cell (p := ⟨e2, o2 + eo * 2 + 1, none⟩) he2).trans hy2⟩
    have HC := Lib.hid (fun W hb => hcell (W := W) hb)
    have hw3 : Hid (PzW w ((((w.alloc (.cells #[.int .i64 s, .int .i64 t] 84)).alloc (.cells #[.int .i64 0, .int .i64 0] 84)).alloc (.cells #[.int .i64 ex, .int .i64 eo] 27))) t ex eo) := PzW.mk3 w s t ex eo
    clear hcell k2 hcw2 hx2 hy2
    go_enter Try.func57, Try.ntmps57
    go_wp2_with fail
    clear g2 hcw1 hx0 hy0
    obtain ⟨W3, hW3⟩ : ∃ W3, ((((w.alloc (.cells #[.int .i64 s, .int .i64 t] 84)).alloc (.cells #[.int .i64 0, .int .i64 0] 84)).alloc (.cells #[.int .i64 ex, .int .i64 eo] 27))) = W3 := ⟨_, rfl⟩
    rw [hW3] at hw3 ⊢
    clear hW3
    have hb3 := hw3.out.bel
    obtain ⟨r0, r1, r2, r3⟩ := HC.out _ hb3
    obtain ⟨p0, p1, p2⟩ := hw3.out.cells
    have ne0 := World.new_ne _ _ r0
    have ne1 := World.new_ne _ _ r1
    have ne2 := World.new_ne _ _ r2
    have ne3 := World.new_ne _ _ r3
    have ne4 := World.new_ne _ _ p0
    have ne5 := World.new_ne _ _ p2
    go_region_held3 (fun w' => w'.cell? ⟨gb, 2, none⟩ = some (.slice (some ⟨b2, off2, none⟩) nb d2) ∧ w'.cell? ⟨b2, off2 + t, none⟩ = some (.slice (some ⟨e2, o2, none⟩) n2 q2) ∧ w'.cell? ⟨e2, o2 + eo * 2, none⟩ = some (.int .i64 fx) ∧ w'.cell? ⟨e2, o2 + eo * 2 + 1, none⟩ = some (.int .i64 fo) ∧ w'.cell? ⟨w.heap.size, 1, none⟩ = some (.int .i64 t) ∧ w'.cell? ⟨w.heap.size + 1 + 1, 1, none⟩ = some (.int .i64 eo)) (first | exact ⟨r0, r1, r2, r3, p0, p2⟩ | go_keep) (fail)
    go_wp2_with fail
    have hv := PzV.mk4 hw3.out fx fo
    clear r0 r1 r2 r3 p0 p1 p2 ne0 ne1 ne2 ne3 ne4 ne5 HC hb3 hw3
    obtain ⟨G, hG⟩ : ∃ G, W3.heap.size = G := ⟨_, rfl⟩
    obtain ⟨W4, hW4⟩ : ∃ W4, (W3.alloc (.cells #[.int .i64 fx, .int .i64 fo] 27)).drew = W4 := ⟨_, rfl⟩
    rw [hG, hW4] at hv
    rw [hW4]
    simp only [hG]
    clear hW4 hG
    obtain ⟨p0, p1, p2⟩ := hv.cells
    obtain ⟨s0, s1, sf⟩ := hv.rcells
    have HV := Lib.hid hv
    have hGr := hv.ne
    clear hv
    go_region_held3 (fun w' => w'.cell? ⟨w.heap.size + 1 + 1, 0, none⟩ = some (.int .i64 ex) ∧ w'.cell? ⟨G, 0, none⟩ = some (.int .i64 fx) ∧ w'.cell? ⟨G, 1, none⟩ = some (.int .i64 fo)) (first | exact ⟨p0, p1, p2⟩ | exact HV.out.after _ _ | exact HV.out.after' _ _ | go_keep) (fail)
    go_wp2_with fail
    obtain ⟨hf, q0, q1⟩ := HV.out.fin ex fx
    refine bodyPost_ret (v := .tuple #[.agg #[.int .i64 ex, .int .i64 fx], .int .i64 fo]) (by simp [results, Try.f57, go_sem, q0, q1]) rfl ?_
    exact ⟨rfl, hf⟩
/-- The memory of Parallel's closure at its beginning. -/
structure P0W (w : World) (s t : Nat) (W : World) : Prop where
  bel : Below w.heap.size w W
  sz : W.heap.size = w.heap.size + 2
  pr : W.heap[w.heap.size]? = some (.cells #[.int .i64 s, .int .i64 t] 84)
  res : W.heap[w.heap.size + 1]? = some (.cells #[.int .i64 0, .int .i64 0] 84)
theorem P0W.cells {w W : World} {s t : Nat} (h : P0W w s t W) : W.cell? ⟨w.heap.size, 0, none⟩ = some (.int .i64 s) ∧ W.cell? ⟨w.heap.size, 1, none⟩ = some (.int .i64 t) := ⟨by rw [cell_of_row _ _ _ _ _ _ h.pr]; rfl, by rw [cell_of_row _ _ _ _ _ _ h.pr]; rfl⟩
theorem P0W.mk2 (w : World) (s t : Nat) : P0W w s t ((w.alloc (.cells #[.int .i64 s, .int .i64 t] 84)).alloc (.cells #[.int .i64 0, .int .i64 0] 84)) := by
  have h1 := heap_alloc_new (w.alloc (.cells #[.int .i64 s, .int .i64 t] 84)) (.cells #[.int .i64 0, .int .i64 0] 84)
  rw [World.size_alloc] at h1
  exact ⟨((Below.refl _ _).alloc (Nat.le_refl _) _).alloc (by simp) _, by simp, (Below.heap_alloc _ _ _ (by simp)).trans (heap_alloc_new w _), h1⟩
/-- The memory of Parallel's closure, both edges in their boxes. -/
structure PzU (w W : World) (G H : Nat) (ex eo fx fo : Int) : Prop where
  bel : Below w.heap.size w W
  ng : G ≠ w.heap.size + 1
  nh : H ≠ w.heap.size + 1
  res : W.heap[w.heap.size + 1]? = some (.cells #[.int .i64 0, .int .i64 0] 84)
  x : W.heap[G]? = some (.cells #[.int .i64 ex, .int .i64 eo] 27)
  y : W.heap[H]? = some (.cells #[.int .i64 fx, .int .i64 fo] 27)
section
variable {w W : World} {G H : Nat} {ex eo fx fo : Int}
theorem PzU.cells (h : PzU w W G H ex eo fx fo) : W.cell? ⟨G, 0, none⟩ = some (.int .i64 ex) ∧ W.cell? ⟨G, 1, none⟩ = some (.int .i64 eo) ∧ W.cell? ⟨H, 0, none⟩ = some (.int .i64 fx) ∧ W.cell? ⟨H, 1, none⟩ = some (.int .i64 fo) := by
  refine ⟨?_, ?_, ?_, ?_⟩ <;> first | (rw [cell_of_row _ _ _ _ _ _ h.x]; rfl) | (rw [cell_of_row _ _ _ _ _ _ h.y]; rfl)
theorem PzU.rcells (h : PzU w W G H ex eo fx fo) : W.cell? ⟨w.heap.size + 1, 0, none⟩ = some (.int .i64 0) ∧ W.cell? ⟨w.heap.size + 1, 1, none⟩ = some (.int .i64 0) ∧ ∀ o, W.frozen? ⟨w.heap.size + 1, o, none⟩ = false :=
  ⟨by rw [cell_of_row _ _ _ _ _ _ h.res]; rfl, by rw [cell_of_row _ _ _ _ _ _ h.res]; rfl, blk_frz h.res⟩
theorem PzU.after (h : PzU w W G H ex eo fx fo) {g : Nat} {o : Int} (hg : g < w.heap.size) (ho : W.cell? ⟨g, 1, none⟩ = some (.int .i64 o)) (x y : Value) : ((W.setCell ⟨w.heap.size + 1, 0, none⟩ x).setCell ⟨w.heap.size + 1, 1, none⟩ y).cell? ⟨G, 0, none⟩ = some (.int .i64 ex) ∧ ((W.setCell ⟨w.heap.size + 1, 0, none⟩ x).setCell ⟨w.heap.size + 1, 1, none⟩ y).cell? ⟨G, 1, none⟩ = some (.int .i64 eo) ∧
    ((W.setCell ⟨w.heap.size + 1, 0, none⟩ x).setCell ⟨w.heap.size + 1, 1, none⟩ y).cell? ⟨H, 0, none⟩ = some (.int .i64 fx) ∧ ((W.setCell ⟨w.heap.size + 1, 0, none⟩ x).setCell ⟨w.heap.size + 1, 1, none⟩ y).cell? ⟨H, 1, none⟩ = some (.int .i64 fo) ∧ ((W.setCell ⟨w.heap.size + 1, 0, none⟩ x).setCell ⟨w.heap.size + 1, 1, none⟩ y).cell? ⟨g, 1, none⟩ = some (.int .i64 o) := by
  obtain ⟨a, b, c, d⟩ := h.cells
  have key : ∀ (B o : Nat), B ≠ w.heap.size + 1 → ((W.setCell ⟨w.heap.size + 1, 0, none⟩ x).setCell ⟨w.heap.size + 1, 1, none⟩ y).cell? ⟨B, o, none⟩ = W.cell? ⟨B, o, none⟩ := fun B o hB => World.cell?_of_block (a := ⟨B, o, none⟩) ((Below.heap_setCell _ _ _ _ hB).trans (Below.heap_setCell _ _ _ _ hB))
  exact ⟨(key _ _ h.ng).trans a, (key _ _ h.ng).trans b, (key _ _ h.nh).trans c, (key _ _ h.nh).trans d, (key _ _ (by omega)).trans ho⟩
end
theorem PzU.mk_xy {w W : World} {s t : Nat} (h : P0W w s t W) (ex eo fx fo : Int) : PzU w ((W.alloc (.cells #[.int .i64 ex, .int .i64 eo] 27)).alloc (.cells #[.int .i64 fx, .int .i64 fo] 27)).drew W.heap.size (W.heap.size + 1) ex eo fx fo := by
  have hs := h.sz
  have h2 := heap_alloc_new (W.alloc (.cells #[.int .i64 ex, .int .i64 eo] 27)) (.cells #[.int .i64 fx, .int .i64 fo] 27)
  rw [World.size_alloc] at h2
  exact ⟨((h.bel.alloc h.bel.size _).alloc (by have := h.bel.size; simp; omega) _).drew, by omega, by omega, (Below.heap_alloc _ _ _ (by simp; omega)).trans ((Below.heap_alloc _ _ _ (by omega)).trans h.res), (Below.heap_alloc _ _ _ (by simp)).trans (heap_alloc_new W _), h2⟩
theorem PzU.mk_yx {w W : World} {s t : Nat} (h : P0W w s t W) (ex eo fx fo : Int) : PzU w ((W.alloc (.cells #[.int .i64 fx, .int .i64 fo] 27)).alloc (.cells #[.int .i64 ex, .int .i64 eo] 27)).drew (W.heap.size + 1) W.heap.size ex eo fx fo := by
  have h1 := PzU.mk_xy h fx fo ex eo
  exact ⟨h1.bel, h1.nh, h1.ng, h1.res, h1.y, h1.x⟩
set_option maxRecDepth 100000 in
set_option maxHeartbeats 4000000 in
theorem par1_any (a b : Ma) (va : Mc.Val a) (vb : Mc.Val b) (hab : a.i = b.i) (ga gb : Nat) (A B : Option Addr) (na nb d1 d2 s t c : Nat) (w : World) (hba : BxM w ga a.i a.o A na d1) (hbb : BxM w gb b.i b.o B nb d2) (hra : RdR w A a.r) (hrb : RdR w B b.r) (hna : a.r.length = na) (hnb : b.r.length = nb)
    (hs : s < na) (ht : t < nb) (hc : (c : Int) < a.i) :
    Calls Try.prog 64 #[.agg #[.int .i64 s, .int .i64 t], .int .i64 c, .pointer (some ⟨ga, 0, none⟩), .pointer (some ⟨gb, 0, none⟩)] w (PzP w (Mc.parF a b s t c)) := by
  have hna64 := va.r1
  have hnb64 := vb.r1
  have hgal := heap_lt hba
  have hgbl := heap_lt hbb
  obtain ⟨b1, off1, R1, q1, n1, row1, rfl, hb1, hcw1, _, _, _, hpw1, hln1, hqr1⟩ := hra.at_ (k := s) (by omega)
  have hn1 : (n1 : Int) = a.i := by rw [← hln1.out]; exact va.len row1 (List.mem_of_getElem? hqr1.out)
  obtain ⟨e1, o1, ex, eo, rfl, he1, hx0, hy0, hqe1⟩ := hpw1.at_ (k := c) (by rw [hln1.out]; omega)
  obtain ⟨b2, off2, R2, q2, n2, row2, rfl, hb2, hcw2, _, _, _, hpw2, hln2, hqr2⟩ := hrb.at_ (k := t) (by omega)
  have hn2 : (n2 : Int) = b.i := by rw [← hln2.out]; exact vb.len row2 (List.mem_of_getElem? hqr2.out)
  obtain ⟨e2, o2, fx, fo, rfl, he2, hx2, hy2, hqe2⟩ := hpw2.at_ (k := c) (by rw [hln2.out]; omega)
  have hX : Mc.nx a s c = (ex, eo) := Mc.nx_at hqr1.out hqe1.out
  have hY : Mc.nx b t c = (fx, fo) := Mc.nx_at hqr2.out hqe2.out
  have hok := va.ok row1 (List.mem_of_getElem? hqr1.out) _ (List.mem_of_getElem? hqe1.out)
  have hok2 := vb.ok row2 (List.mem_of_getElem? hqr2.out) _ (List.mem_of_getElem? hqe2.out)
  simp only at hok hok2
  have ha16 := va.o1
  have hb16 := vb.o1
  have ha0 := va.o0
  have hb0 := vb.o0
  obtain ⟨bo, hbo⟩ : ∃ x, b.o = x := ⟨_, rfl⟩
  rw [hbo] at hbb hok2 hb16 hb0
  have heo : -1 ≤ eo ∧ eo ≤ 16 := by omega
  have hfo : -1 ≤ fo ∧ fo ≤ 16 := by omega
  have hmul : -16 ≤ eo * bo ∧ eo * bo ≤ 256 := by
    have h1 : eo * bo ≤ 16 * bo := Int.mul_le_mul_of_nonneg_right heo.2 (by omega)
    have h2 : (-1) * bo ≤ eo * bo := Int.mul_le_mul_of_nonneg_right heo.1 (by omega)
    omega
  obtain ⟨g0, g1, g2⟩ := hba.cells
  obtain ⟨k0, k1, k2⟩ := hbb.cells
  have hs1 : (s : Int) < na := by omega
  have ht1 : (t : Int) < nb := by omega
  have hc1 : (c : Int) < n1 := by omega
  have hc2 : (c : Int) < n2 := by omega
  have HF : Hid (Mc.parF a b s t c = ((ex, fx), eo * bo + fo)) := by
    show _ = _
    unfold Mc.parF
    rw [hX, hY, hbo]
  rw [HF.out]
  have hw1 : IntKind.i64.wrap (eo * bo) = eo * bo := IntWalk.i64_in _ ⟨by omega, by omega⟩
  have hw2 : IntKind.i64.wrap (eo * bo + fo) = eo * bo + fo := IntWalk.i64_in _ ⟨by omega, by omega⟩
  have HW1 := Lib.hid hw1
  have HW2 := Lib.hid hw2
  have hcell : ∀ {W : World}, Below w.heap.size w W → W.cell? ⟨ga, 2, none⟩ = some (.slice (some ⟨b1, off1, none⟩) na d1) ∧ W.cell? ⟨b1, off1 + s, none⟩ = some (.slice (some ⟨e1, o1, none⟩) n1 q1) ∧ W.cell? ⟨e1, o1 + c * 2, none⟩ = some (.int .i64 ex) ∧ W.cell? ⟨e1, o1 + c * 2 + 1, none⟩ = some (.int .i64 eo) ∧ W.cell? ⟨gb, 2, none⟩ = some (.slice (some ⟨b2, off2, none⟩) nb d2) ∧ W.cell? ⟨b2, off2 + t, none⟩ = some (.slice (some ⟨e2, o2, none⟩) n2 q2) ∧ W.cell? ⟨e2, o2 + c * 2, none⟩ = some (.int .i64 fx) ∧ W.cell? ⟨e2, o2 + c * 2 + 1, none⟩ = some (.int .i64 fo) ∧ W.cell? ⟨gb, 1, none⟩ = some (.int .i64 bo) := fun hb =>
    ⟨(hb.cell (p := ⟨ga, 2, none⟩) hgal).trans g2, (hb.cell (p := ⟨b1, off1 + s, none⟩) hb1).trans hcw1, (hb.cell (p := ⟨e1, o1 + c * 2, none⟩) he1).trans hx0, (hb.cell (p := ⟨e1, o1 + c * 2 + 1, none⟩) he1).trans hy0, (hb.cell (p := ⟨gb, 2, none⟩) hgbl).trans k2, (hb.cell (p := ⟨b2, off2 + t, none⟩) hb2).trans hcw2, (hb.cell (p := ⟨e2, o2 + c * 2, none⟩) he2).trans hx2, (hb.cell (p := ⟨e2, o2 + c * 2 + 1, none⟩) he2).trans hy2, (hb.cell (p := ⟨gb, 1, none⟩) hgbl).trans k1⟩
  have HC := Lib.hid (fun W hb => hcell (W := W) hb)
  have hw3 : Hid (P0W w s t ((w.alloc (.cells #[.int .i64 s, .int .i64 t] 84)).alloc (.cells #[.int .i64 0, .int .i64 0] 84))) := P0W.mk2 w s t
  clear hcell k0 k1 k2 hcw2 hx2 hy2 g0 g1 g2 hcw1 hx0 hy0 HF hX hY hra hrb hba hbb hpw1 hpw2 va vb hn1 hn2 hna hnb hab hna64 hnb64 hok hok2 hw1 hw2 hbo ha16 ha0
  go_enter Try.func64, Try.ntmps64
  go_upto_region 1 with fail
  obtain ⟨W3, hW3⟩ : ∃ W3, ((w.alloc (.cells #[.int .i64 s, .int .i64 t] 84)).alloc (.cells #[.int .i64 0, .int .i64 0] 84)) = W3 := ⟨_, rfl⟩
  rw [hW3] at hw3 ⊢
  clear hW3
  go_cut [8, 9] from 10 to 27 (fun u v wx => ∃ (G H : Nat), u = .pointer (some ⟨G, 0, none⟩) ∧ v = .pointer (some ⟨H, 0, none⟩) ∧ Hid (PzU w wx G H ex eo fx fo))
  case first =>
    obtain ⟨r0, r1, r2, r3, r4, r5, r6, r7, _⟩ := HC.out _ hw3.out.bel
    obtain ⟨p0, p1⟩ := hw3.out.cells
    have ne0 := World.new_ne _ _ r0
    have ne1 := World.new_ne _ _ r1
    have ne2 := World.new_ne _ _ r2
    have ne3 := World.new_ne _ _ r3
    have ne4 := World.new_ne _ _ r4
    have ne5 := World.new_ne _ _ r5
    have ne6 := World.new_ne _ _ r6
    have ne7 := World.new_ne _ _ r7
    have ne8 := World.new_ne _ _ p0
    have ne9 := World.new_ne _ _ p1
    go_region_held3 (fun W => W.cell? ⟨ga, 2, none⟩ = some (.slice (some ⟨b1, off1, none⟩) na d1) ∧ W.cell? ⟨b1, off1 + s, none⟩ = some (.slice (some ⟨e1, o1, none⟩) n1 q1) ∧ W.cell? ⟨e1, o1 + c * 2, none⟩ = some (.int .i64 ex) ∧ W.cell? ⟨e1, o1 + c * 2 + 1, none⟩ = some (.int .i64 eo) ∧ W.cell? ⟨gb, 2, none⟩ = some (.slice (some ⟨b2, off2, none⟩) nb d2) ∧ W.cell? ⟨b2, off2 + t, none⟩ = some (.slice (some ⟨e2, o2, none⟩) n2 q2) ∧ W.cell? ⟨e2, o2 + c * 2, none⟩ = some (.int .i64 fx) ∧ W.cell? ⟨e2, o2 + c * 2 + 1, none⟩ = some (.int .i64 fo) ∧ W.cell? ⟨w.heap.size, 0, none⟩ = some (.int .i64 s) ∧ W.cell? ⟨w.heap.size, 1, none⟩ = some (.int .i64 t)) (first | exact ⟨r0, r1, r2, r3, r4, r5, r6, r7, p0, p1⟩ | go_keep) (fail)
    all_goals
      go_wp2_with fail
      go_meet
      first
        | exact ⟨_, _, rfl, rfl, PzU.mk_xy hw3.out ex eo fx fo⟩
        | exact ⟨_, _, rfl, rfl, PzU.mk_yx hw3.out ex eo fx fo⟩
        | fail
  case rest =>
  obtain ⟨G, H, rfl, rfl, hU⟩ := hcut
  go_wp2_with fail
  obtain ⟨p0, p1, p2, p3⟩ := hU.out.cells
  obtain ⟨s0, s1, sf⟩ := hU.out.rcells
  obtain ⟨_, _, _, _, _, _, _, _, p4⟩ := HC.out _ hU.out.bel
  have hGr := hU.out.ng
  have hHr := hU.out.nh
  have hw1 := HW1.out
  have hw2 := HW2.out
  go_region_held3 (fun W => W.cell? ⟨G, 0, none⟩ = some (.int .i64 ex) ∧ W.cell? ⟨G, 1, none⟩ = some (.int .i64 eo) ∧ W.cell? ⟨H, 0, none⟩ = some (.int .i64 fx) ∧ W.cell? ⟨H, 1, none⟩ = some (.int .i64 fo) ∧ W.cell? ⟨gb, 1, none⟩ = some (.int .i64 bo)) (first | exact ⟨p0, p1, p2, p3, p4⟩ | exact hU.out.after hgbl p4 _ _ | go_keep) (fail)
  go_wp2_with fail
  obtain ⟨hf, q0, q1⟩ := res2_fin hU.out.bel hU.out.res ex fx
  refine bodyPost_ret (v := .tuple #[.agg #[.int .i64 ex, .int .i64 fx], .int .i64 (eo * bo + fo)]) (by simp [results, Try.f64, go_sem, q0, q1]) rfl ?_
  exact ⟨rfl, hf⟩
end Go.Proofs.Ytgafpmgdpigliaa
