/-
  Contracts of splits: the heads in memory, rest, word. No statement is proved here.
-/
import Derived.Test.YtonnplhiaidjnaaSpY
import Derived.Test.YtonnplhiaidjnaaSwZ
import Derived.Test.YtonnplhiaidjnaaSkA
import Derived.Deep.QuietTactic
import Derived.BigQuiet
namespace Go.Proofs.Ytonnplhiaidjnaa
open Go.RowKit
open Mc (Ed Ma)

/-- Block g has the heads: how long the words are, and their first symbols. -/
def Hds (w : World) (g : Nat) (f h : Nat → Nat → Nat) : Prop := ∃ cs : Array Value, w.heap[g]? = some (.cells cs 141 (0, 0)) ∧ cs.size = 8192 ∧ ∀ a b, a < 64 → b < 64 → cs[a * 128 + b * 2]? = some (.int .i64 (f a b)) ∧ cs[a * 128 + b * 2 + 1]? = some (.int .i64 (h a b))
section
variable {w w' : World} {g : Nat} {f h : Nat → Nat → Nat}
theorem Hds.lt (H : Hds w g f h) : g < w.heap.size := by obtain ⟨cs, h1, _⟩ := H; exact heap_lt h1
theorem Hds.at_ (H : Hds w g f h) {a b : Nat} (ha : a < 64) (hb : b < 64) : w.cell? ⟨g, a * 128 + b * 2, none⟩ = some (.int .i64 (f a b)) ∧ w.cell? ⟨g, a * 128 + b * 2 + 1, none⟩ = some (.int .i64 (h a b)) := by
  obtain ⟨cs, h1, _, h3⟩ := H
  obtain ⟨h4, h5⟩ := h3 a b ha hb
  exact ⟨by rw [cell_of_row _ _ _ _ _ _ h1]; exact h4, by rw [cell_of_row _ _ _ _ _ _ h1]; exact h5⟩
theorem Hds.frozen (H : Hds w g f h) (k : Nat) : w.frozen? ⟨g, k, none⟩ = false := by
  obtain ⟨cs, h1, _⟩ := H
  simp [World.frozen?, h1]
theorem Hds.below (H : Hds w g f h) (hb : Below w.heap.size w w') : Hds w' g f h := by
  obtain ⟨cs, h1, h2⟩ := H
  exact ⟨cs, (hb.block g (heap_lt h1)).trans h1, h2⟩
theorem Hds.cells {B : Nat} (H : Hds w g f h) (k : Cells B w w') : Hds w' g f h := by
  obtain ⟨cs, h1, h2⟩ := H
  exact ⟨cs, k.same _ _ h1 rfl, h2⟩
theorem Hds.far (H : Hds w g f h) {b o : Nat} (hne : g ≠ b) (u : Value) : Hds (w.setCell ⟨b, o, none⟩ u) g f h := by
  obtain ⟨cs, h1, h2⟩ := H
  exact ⟨cs, (Below.heap_setCell w ⟨b, o, none⟩ u g hne).trans h1, h2⟩
theorem Hds.set_ (H : Hds w g f h) {a b : Nat} (hb : b < 64) (x y : Nat) :
    Hds ((w.setCell ⟨g, a * 128 + b * 2, none⟩ (.int .i64 x)).setCell ⟨g, a * 128 + b * 2 + 1, none⟩ (.int .i64 y)) g (fun p q => if p = a ∧ q = b then x else f p q) (fun p q => if p = a ∧ q = b then y else h p q) := by
  obtain ⟨cs, h1, h2, h3⟩ := H
  refine ⟨(cs.setIfInBounds (a * 128 + b * 2) (.int .i64 x)).setIfInBounds (a * 128 + b * 2 + 1) (.int .i64 y), by simp [World.setCell, Array.getElem?_modify, h1], by simpa using h2, fun p q hp hq => ?_⟩
  obtain ⟨h4, h5⟩ := h3 p q hp hq
  have hlt : p * 128 + q * 2 + 1 < cs.size := by omega
  by_cases e : p = a ∧ q = b
  · obtain ⟨rfl, rfl⟩ := e
    dsimp only
    rw [if_pos ⟨rfl, rfl⟩, if_pos ⟨rfl, rfl⟩]
    refine ⟨?_, ?_⟩
    · rw [Array.getElem?_setIfInBounds_ne (by omega), Array.getElem?_setIfInBounds_self_of_lt (by omega)]
    · rw [Array.getElem?_setIfInBounds_self_of_lt (by simpa using hlt)]
  · dsimp only
    rw [if_neg e, if_neg e]
    have hne : p * 128 + q * 2 ≠ a * 128 + b * 2 := fun h => e (by omega)
    refine ⟨?_, ?_⟩
    · rw [Array.getElem?_setIfInBounds_ne (by omega), Array.getElem?_setIfInBounds_ne (by omega)]; exact h4
    · rw [Array.getElem?_setIfInBounds_ne (by omega), Array.getElem?_setIfInBounds_ne (by omega)]; exact h5
end

theorem rest_any (g : Nat) (f h : Nat → Nat → Nat) (x0 x1 y0 y1 : Int) (w : World) (H : Hds w g f h) (hlt : x1 = y1 → x0 ≠ -1 → 0 ≤ x0 ∧ x0 < 64 ∧ 0 ≤ y0 ∧ y0 < 64) :
    Calls Try.prog 85 #[.pointer (some ⟨g, 0, none⟩), .agg #[.int .i64 x0, .int .i64 x1], .agg #[.int .i64 y0, .int .i64 y1]] w fun e w' => e = .returned (.tuple #[.int .i64 (Mc.rsN f (x0, x1) (y0, y1)), .bool (Mc.rsB f (x0, x1) (y0, y1))]) ∧ Below w.heap.size w w' := by
  obtain ⟨rn, hrn⟩ : ∃ r : Nat, Mc.rsN f (x0, x1) (y0, y1) = r := ⟨_, rfl⟩
  obtain ⟨rb, hrb⟩ : ∃ r, Mc.rsB f (x0, x1) (y0, y1) = r := ⟨_, rfl⟩
  rw [hrn, hrb]
  have HN := Lib.hid hrn
  have HB := Lib.hid hrb
  have p0 : ∀ u, ((w.alloc (.cells #[.int .i64 x0, .int .i64 x1] 58)).alloc u).cell? ⟨w.heap.size, 0, none⟩ = some (.int .i64 x0) := fun u => by
    rw [World.cell?_alloc_past _ _ _ (by simp), World.cell?_alloc_at _ _ _ _ rfl]; rfl
  clear hrn hrb p0
  have hb : Below w.heap.size w ((w.alloc (.cells #[.int .i64 x0, .int .i64 x1] 58)).alloc (.cells #[.int .i64 y0, .int .i64 y1] 58)) := ((Below.refl _ _).alloc (Nat.le_refl _) _).alloc (by simp) _
  have HBL := Lib.hid hb
  have hH := H.below hb
  by_cases ho : x1 = y1
  · subst ho
    have ho2 : (x1 != x1) = false := by simp
    by_cases hx : x0 = -1
    · subst hx
      have e1 : rn = 0 := by rw [← HN.out]; simp [Mc.rsN]
      have e2 : rb = false := by rw [← HB.out]; simp [Mc.rsB]
      subst e1 e2
      clear hlt H hH hb HN HB
      go_enter Try.func85, Try.ntmps85
      go_wp2_with fail
      go_returns
      exact ⟨rfl, HBL.out⟩
    · obtain ⟨h1, h2, h3, h4⟩ := hlt rfl hx
      obtain ⟨a, rfl⟩ := Int.eq_ofNat_of_zero_le h1
      obtain ⟨b, rfl⟩ := Int.eq_ofNat_of_zero_le h3
      have ha : a < 64 := by omega
      have hb' : b < 64 := by omega
      have hx2 : ((a : Int) == -1) = false := by simp
      have hz : f a b = rn := by rw [← HN.out]; simp [Mc.rsN, hx]
      obtain ⟨c0, _⟩ := hH.at_ ha hb'
      rw [hz] at c0
      have HR : Hid (rb = ((rn : Int) != 0)) := by
        show _ = _
        rw [← HB.out]
        unfold Mc.rsB
        rw [Bool.eq_iff_iff]
        simp [hx, hz]
      clear hlt H hH hb HN HB h1 h2 h3 h4 hz hx
      go_enter Try.func85, Try.ntmps85
      go_wp2_with fail
      go_quiet (fail)
      go_wp2_with fail
      go_returns
      exact ⟨by rw [HR.out]; rfl, below_drewN' HBL.out _⟩
  · have ho2 : (x1 != y1) = true := by simp [ho]
    have e1 : rn = 0 := by rw [← HN.out]; simp [Mc.rsN, ho]
    have e2 : rb = true := by rw [← HB.out]; simp [Mc.rsB, ho]
    subst e1 e2
    clear hlt H hH hb HN HB
    go_enter Try.func85, Try.ntmps85
    go_wp2_with fail
    go_returns
    exact ⟨rfl, HBL.out⟩

set_option maxRecDepth 100000 in
set_option maxHeartbeats 1000000 in
theorem word_any (m : Ma) (i : Nat) (o : Int) (R : Option Addr) (n c g : Nat) (f h : Nat → Nat → Nat) (s t : Nat) (w : World) (v : Mc.Val m) (hi : m.i = i) (hn : m.r.length = n) (hr : RdR w R m.r) (H : Hds w g f h) (hT : Mc.TbF m f h) (hs : s < n) (ht : t < n) :
    Calls Try.prog 66 #[.pointer (some ⟨g, 0, none⟩), .agg #[.int .i64 i, .int .i64 o, .slice R n c], .int .i64 s, .int .i64 t] w fun e w' => ∃ B, e = .returned (.slice (some ⟨B, 0, none⟩) (Mc.sl m s t) (Mc.sl m s t)) ∧ w.heap.size ≤ B ∧ Hid (Blk w' B (Mc.sepw m s t)) ∧ Below w.heap.size w w' := by
  obtain ⟨L, hL⟩ : ∃ L, Mc.sl m s t = L := ⟨_, rfl⟩
  have hL64 : L < 64 := by
    have := Mc.sl_lt v (s := s) (t := t) (by omega) (by omega)
    have := v.r1
    omega
  have HS : Hid (Mc.sepw m s t = Mc.sw m L s t) := by show _ = _; unfold Mc.sepw; rw [hL]
  rw [hL]
  have HL := Lib.hid hL
  have HV := Lib.hid v
  have HI := Lib.hid hi
  have HN := Lib.hid hn
  have HT := Lib.hid hT
  have hn64 : n ≤ 64 := by have := v.r1; omega
  have EB : Below w.heap.size w (boxM w i o R n c) := (Below.refl _ _).alloc (Nat.le_refl _) _
  have hM := BxM.new w i o R n c
  have hH := H.below EB
  have hs64 : s < 64 := by omega
  have ht64 : t < 64 := by omega
  obtain ⟨c0, _⟩ := hH.at_ (a := s) (b := t) (by omega) (by omega)
  rw [(hT s t (by omega) (by omega)).1, hL] at c0
  have HB := Lib.hid EB
  have HM := Lib.hid hM
  clear hi hn hT v hL EB hM H
  go_enter Try.func66, Try.ntmps66
  go_wp2_with (refine wpList_make_ints _ rfl _ _ rfl _ L rfl rfl rfl (by omega) ?_)
  intro w1 hB1 hb1
  have hsz : (boxM w i o R n c).heap.size = w.heap.size + 1 := by simp
  have hb1' : Below (boxM w i o R n c).heap.size (boxM w i o R n c) w1 := by rw [hsz]; exact hb1
  have hB0 : Hid (Blk w1 (w.heap.size + 1) ((Mc.sw m L s t).take 0 ++ List.replicate (L - 0) 0)) := by
    show Blk _ _ _
    simpa using hB1.out
  have hb2 := Lib.hid (below_next HB.out hb1')
  have hM1 := Lib.hid (HM.out.mvB hb1')
  have hH1 := Lib.hid (hH.below hb1')
  have hBg : w.heap.size ≤ w.heap.size + 1 := by omega
  have hlg : w.heap.size < w.heap.size + 1 := by omega
  have hBg2 : g < w.heap.size + 1 := by have := hH.lt; omega
  have HR := Lib.hid hr
  obtain ⟨B, hBe⟩ : ∃ B, w.heap.size + 1 = B := ⟨_, rfl⟩
  rw [hBe] at hB0 hBg hBg2 hlg
  rw [hBe]
  have hbB : Hid (Below B w1 w1) := Below.refl _ _
  clear hBe hB1 hb1 hb1' hsz c0 hH HM HB hr
  go_wp2_with fail
  go_loopw [23, 2, 3] (fun kv xv yv wr => ∃ (k : Nat) (x y : Int), k ≤ L ∧ kv = .int .i64 k ∧ xv = .int .i64 x ∧ yv = .int .i64 y ∧ Hid (k < L → ∃ a b : Nat, x = a ∧ y = b ∧ a < n ∧ b < n ∧ Mc.sl m a b = L - k ∧ (Mc.sw m L s t).drop k = Mc.sw m (L - k) a b) ∧ Hid (Blk wr B ((Mc.sw m L s t).take k ++ List.replicate (L - k) 0)) ∧ Hid (BxM wr w.heap.size i o R n c) ∧ Hid (Hds wr g f h) ∧ Hid (Below w.heap.size w wr)) (fun kv _ _ _ => L - (intOf kv).toNat)
  case atStart => exact ⟨0, s, t, Nat.zero_le _, rfl, rfl, rfl, fun _ => ⟨s, t, rfl, rfl, hs, ht, by rw [HL.out, Nat.sub_zero], rfl⟩, hB0, hM1, hH1, hb2⟩
  case round =>
    clear hB0 hM1 hH1 hb2 hbB
    obtain ⟨k, x, y, hk, rfl, rfl, rfl, hW, hB, hM, hH, hbr⟩ := hrel
    by_cases hkL : k < L
    · have hkL' : (k : Int) < L := by omega
      obtain ⟨a, b, rfl, rfl, ha, hb, hsl, hdr⟩ := hW.out hkL
      have haN : a < m.r.length := by rw [HN.out]; exact ha
      have hbN : b < m.r.length := by rw [HN.out]; exact hb
      have hlt64 : a < 64 := by omega
      have hlb64 : b < 64 := by omega
      obtain ⟨j, hj⟩ : ∃ j, Mc.sm m a b = j := ⟨_, rfl⟩
      obtain ⟨d1, _, _⟩ := Mc.sm_hit HV.out haN hbN (by omega)
      rw [hj] at d1
      have hji : j < i := by have := HI.out; omega
      obtain ⟨_, c1⟩ := hH.out.at_ hlt64 hlb64
      rw [(HT.out a b haN hbN).2 (by omega), hj] at c1
      have hcur : ((Mc.sw m L s t).take k ++ List.replicate (L - k) 0).set k (j : Int) = (Mc.sw m L s t).take (k + 1) ++ List.replicate (L - (k + 1)) 0 ∧ (Mc.sw m L s t).drop (k + 1) = Mc.sw m (L - (k + 1)) (Mc.nx m a j).1.toNat (Mc.nx m b j).1.toNat := by
        obtain ⟨q, hq⟩ : ∃ q, L - k = q + 1 := ⟨L - k - 1, by omega⟩
        rw [hq, show Mc.sw m (q + 1) a b = (Mc.sm m a b : Int) :: Mc.sw m q (Mc.nx m a (Mc.sm m a b)).1.toNat (Mc.nx m b (Mc.sm m a b)).1.toNat from rfl, hj] at hdr
        have hkl : k < (Mc.sw m L s t).length := by rw [Mc.sw_len]; exact hkL
        rw [List.drop_eq_getElem_cons hkl] at hdr
        injection hdr with h1 h2
        refine ⟨?_, by rw [h2, show L - (k + 1) = q by omega]⟩
        rw [show L - (k + 1) = q by omega, hq, List.set_append_right _ _ (by rw [List.length_take]; omega), List.length_take, Nat.min_eq_left (by omega), Nat.sub_self, List.replicate_succ, List.set_cons_zero, List.take_add_one, List.getElem?_eq_getElem hkl, h1]
        simp
      have hnext := Mc.sw_next HV.out haN hbN (L := L - k - 1) (by omega)
      rw [hj] at hnext
      have HC := Lib.hid hcur
      have HX := Lib.hid hnext
      obtain ⟨b1, o1, B1, cc1, n1, row1, rfl, hb1, hc1, _, _, _, hp1, hl1, hr1⟩ := HR.out.at_ (k := a) (by omega)
      obtain ⟨b2, o2, B2, cc2, n2, row2, e2, hb2, hc2, _, _, _, hp2, hl2, hr2⟩ := HR.out.at_ (k := b) (by omega)
      injection e2 with e2
      injection e2 with e2 e3
      subst e2 e3
      have hn1 : n1 = i := by have := HV.out.len row1 (List.mem_of_getElem? hr1.out); have := hl1.out; have := HI.out; omega
      have hn2 : n2 = i := by have := HV.out.len row2 (List.mem_of_getElem? hr2.out); have := hl2.out; have := HI.out; omega
      subst hn1
      subst hn2
      obtain ⟨q1, r1, x0, x1, rfl, hq1, hx0, _, hxe⟩ := hp1.at_ (k := j) (by have := hl1.out; omega)
      obtain ⟨q2, r2, y0, y1, rfl, hq2, hy0, _, hye⟩ := hp2.at_ (k := j) (by have := hl2.out; omega)
      have nxx : Hid (Mc.nx m a j = (x0, x1)) := Mc.nx_at hr1.out hxe.out
      have nxy : Hid (Mc.nx m b j = (y0, y1)) := Mc.nx_at hr2.out hye.out
      obtain ⟨z, hz, hfz, _⟩ := hB.out.at_ (k := k) (by simp; rw [Mc.sw_len]; omega)
      have hB2 := hB.out.set_ k (j : Int)
      rw [hcur.1] at hB2
      have HB2 := Lib.hid hB2
      have hM2 := Lib.hid (hM.out.farS (b := B) (off := k) (by omega) (.int .i64 j))
      have hH2 := Lib.hid (hH.out.far (b := B) (o := k) (by omega) (.int .i64 j))
      have hbr2 := Lib.hid (hbr.out.setCell (p := ⟨B, k, none⟩) hBg (.int .i64 j))
      have d3 := (hbr2.out.cell (p := ⟨b1, o1 + a, none⟩) hb1).trans hc1
      have d4 := (hbr2.out.cell (p := ⟨b1, o1 + b, none⟩) hb1).trans hc2
      have d5 := (hbr2.out.cell (p := ⟨q1, r1 + j * 2, none⟩) hq1).trans hx0
      have d6 := (hbr2.out.cell (p := ⟨q2, r2 + j * 2, none⟩) hq2).trans hy0
      obtain ⟨_, _, m2⟩ := BxM.cells hM2.out
      clear hcur hnext hB2 hb1 hc1 hp1 hb2 hc2 hp2 hq1 hq2 hx0 hy0 hsl hdr hM hH hbr hB hW
      go_wp2_with fail
      go_quiet (fail)
      go_wp2_with fail
      go_roundw
      case rel =>
        refine ⟨k + 1, x0, y0, by omega, by go_num, rfl, rfl, fun hlt => ?_, HB2, hM2.out, hH2.out, below_drewN' hbr2.out _⟩
        rcases HX.out with ⟨h1, _⟩ | ⟨_, _, a', b', h3, h4, h5, h6, h7⟩
        · omega
        · rw [nxx.out] at h3
          rw [nxy.out] at h4
          refine ⟨a', b', h3, h4, by rw [← HN.out]; exact h5, by rw [← HN.out]; exact h6, by omega, ?_⟩
          rw [HC.out.2, nxx.out, nxy.out]
          simp only at h3 h4 ⊢
          rw [h3, h4, Int.toNat_natCast, Int.toNat_natCast]
      case measure => simp [intOf]; omega
    · obtain rfl : k = L := by omega
      have hfin : Hid (Blk wr B (Mc.sepw m s t)) := by
        have h1 := hB.out
        rw [List.take_of_length_le (by rw [Mc.sw_len]; exact Nat.le_refl _), Nat.sub_self, List.replicate_zero, List.append_nil] at h1
        show Blk _ _ _
        rw [HS.out]; exact h1
      clear hB hW
      go_wp2_with fail
      go_ret
      exact ⟨B, rfl, hBg, hfin, hbr.out⟩
end Go.Proofs.Ytonnplhiaidjnaa
