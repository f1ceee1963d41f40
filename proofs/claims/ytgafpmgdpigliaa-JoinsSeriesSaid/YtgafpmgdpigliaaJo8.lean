/-
  Contract: Unite. No statement is proved here.
-/
import Derived.Test.YtgafpmgdpigliaaJo7
import Derived.Lib.MinMax
namespace Go.Proofs.Ytgafpmgdpigliaa
open Go.RowKit
open Mc (Ed Ma Wv nE)

/-- Rows in memory of the call's own, with no spare room, are handed back. -/
def JrP (w : World) (i o : Int) (rs : List (List Ed)) (e : Ending) (w' : World) : Prop := ∃ p k gs, e = .returned (.tuple #[.agg #[.int .i64 i, .int .i64 o, .slice (some ⟨p, 0, none⟩) k k], .int .i64 0]) ∧ Hid (rs.length = k) ∧ Hid (gs.length = k) ∧ Hid (Wb w.heap.size p k rs gs w') ∧ Below w.heap.size w w'
/-- Rows, or an error. -/
def JeP (w : World) (x i o : Int) (rs : List (List Ed)) (e : Ending) (w' : World) : Prop := (x ≠ 0 ∧ JzP w x e w') ∨ (x = 0 ∧ JrP w i o rs e w')
theorem Wb.base {base base' p n : Nat} {rs : List (List Ed)} {gs : List Nat} {W : World} (h : Wb base p n rs gs W) (hb : base' ≤ base) : Wb base' p n rs gs W := ⟨h.blk, h.row, fun g hg => ⟨by have := (h.own g hg).1; omega, (h.own g hg).2⟩, h.inj, by have := h.p0; omega⟩
theorem Wb.far3 {base p n g : Nat} {rs : List (List Ed)} {gs : List Nat} {W : World} (h : Wb base p n rs gs W) (hg : g < base) (x y v : Value) : Wb base p n rs gs (((W.setCell ⟨g, 0, none⟩ x).setCell ⟨g, 1, none⟩ y).setCell ⟨g, 2, none⟩ v) := by
  have hp := h.p0
  exact ((h.far (by omega) (fun q hq => by have := (h.own q hq).1; omega) _).far (by omega) (fun q hq => by have := (h.own q hq).1; omega) _).far (by omega) (fun q hq => by have := (h.own q hq).1; omega) _
theorem sh_zero (x : Ed) : Mc.sh 0 x = x := by unfold Mc.sh; split <;> simp
theorem map_sh0 (rs : List (List Ed)) : (rs.map fun row => row.map (Mc.sh 0)) = rs := by
  have : (Mc.sh 0) = id := funext sh_zero
  rw [this]
  simp
theorem bes_put {a b : Ma} {bl : List (List Ed)} {na nb : Nat} (ha : a.r.length = na) (hb : b.r.length = nb) (hl : bl.length = na + nb) : putK (putK bl (a.r.map fun row => row.map (Mc.sh 0)) 0 na) (b.r.map fun row => row.map (Mc.sh na)) na nb = (Mc.bes a b).r := by
  rw [map_sh0]
  unfold putK Mc.bes
  simp only [List.take_zero, List.nil_append, Nat.zero_add, ha]
  rw [List.take_of_length_le (show a.r.length ≤ na by omega), List.take_of_length_le (show (b.r.map fun row => row.map (Mc.sh na)).length ≤ nb by rw [List.length_map]; omega), List.take_append_of_le_length (by omega), List.take_of_length_le (show a.r.length ≤ na by omega), List.drop_of_length_le (by simp; omega), List.append_nil]
/-- The error of Unite. -/
def uech (a b : Ma) : Int := if jch a b ≠ 0 then jch a b else if a.i ≠ b.i then 5 else if 64 < a.r.length + b.r.length then 3 else 0
set_option maxRecDepth 100000 in
set_option maxHeartbeats 2000000 in
theorem unite_any (a b : Ma) (A B : Option Addr) (n c n2 c2 : Nat) (w : World) (hra : RdR w A a.r) (hn : a.r.length = n) (hnb : n ≤ 1000000) (hrl : ∀ row ∈ a.r, row.length ≤ 1000000) (hrb : RdR w B b.r) (hn2 : b.r.length = n2) (hnb2 : n2 ≤ 1000000) (hrl2 : ∀ row ∈ b.r, row.length ≤ 1000000) :
    Calls Try.prog 30 #[.agg #[.int .i64 a.i, .int .i64 a.o, .slice A n c], .agg #[.int .i64 b.i, .int .i64 b.o, .slice B n2 c2]] w (JeP w (uech a b) a.i (max a.o b.o) (Mc.bes a b).r) := by
  have hJ0 := J2.mk_ w a b A B n c n2 c2
  obtain ⟨x0, x1, x2⟩ := hJ0.ba.cells
  obtain ⟨y0, y1, y2⟩ := hJ0.bb.cells
  obtain ⟨W0, hW0⟩ : ∃ W0, (boxM (boxM w a.i a.o A n c) b.i b.o B n2 c2).alloc (.cells #[.int .i64 0, .int .i64 0, .slice none 0 0] 24) = W0 := ⟨_, rfl⟩
  have HCK := Lib.hid (jcheck2_any a b A B n c n2 c2 W0.heap.size (W0.alloc (.cells #[.int .i64 a.i, .int .i64 a.o, .slice A n c, .int .i64 b.i, .int .i64 b.o, .slice B n2 c2] 24)) (heap_alloc_new W0 _) (by rw [← hW0]; exact (hra.below hJ0.bel).below ((Below.refl _ _).alloc (Nat.le_refl _) _)) hn hnb hrl (by rw [← hW0]; exact (hrb.below hJ0.bel).below ((Below.refl _ _).alloc (Nat.le_refl _) _)) hn2 hnb2 hrl2)
  have HRA := Lib.hid hra
  have HRB := Lib.hid hrb
  have HN := Lib.hid hn
  have HN2 := Lib.hid hn2
  obtain ⟨P0, hP0⟩ : ∃ P0, JeP w (uech a b) a.i (max a.o b.o) (Mc.bes a b).r = P0 := ⟨_, rfl⟩
  have HP0 := Lib.hid hP0
  rw [hP0]
  rw [hW0] at hJ0 x0 x1 x2 y0 y1 y2
  have HJ0 := Lib.hid hJ0
  have HW0 := Lib.hid hW0
  clear hJ0 hW0 hP0 hra hrb hn hn2 hrl hrl2 hnb hnb2
  go_enter Try.func30, Try.ntmps30
  go_upto_region 1 with fail
  try rw [HW0.out]
  go_wp2_with fail
  refine HCK.out.mono ?_
  rintro e w1 ⟨rfl, hb1⟩
  have hJ1 := Lib.hid (HJ0.out.below (((Below.refl _ _).alloc (Nat.le_refl _) _).trans (hb1.mono (by simp))))
  clear x0 x1 x2 y0 y1 y2 hb1 HJ0 HW0 HCK
  obtain ⟨e0, e1, e2⟩ := hJ1.out.bz.cells
  obtain ⟨f0, f1, f2⟩ := hJ1.out.bz.frozen
  obtain ⟨x0, x1, x2⟩ := hJ1.out.ba.cells
  obtain ⟨y0, y1, y2⟩ := hJ1.out.bb.cells
  have hRZ := set3_reads hJ1.out.bz (.int .i64 0) (.int .i64 0) (.slice none 0 0)
  have hBZ := Lib.hid (hJ1.out.err (.int .i64 0) (.int .i64 0) (.slice none 0 0))
  by_cases hc : jch a b = 0
  · obtain ⟨va, vb⟩ := jch_ok hc
    have VA := Lib.hid va
    have VB := Lib.hid vb
    have HC := Lib.hid hc
    rw [hc]
    clear hc va vb
    have hn64 : n ≤ 64 := by have := VA.out.r1; have := HN.out; omega
    have hn264 : n2 ≤ 64 := by have := VB.out.r1; have := HN2.out; omega
    have hsum : IntKind.i64.wrap ((n : Int) + n2) = ((n + n2 : Nat) : Int) := by rw [IntWalk.i64_in _ ⟨by omega, by omega⟩]; omega
    by_cases ho : a.i = b.i
    · have HO := Lib.hid ho
      have hob : (a.i == b.i) = true := by rw [beq_iff_eq]; exact ho
      by_cases h64 : 64 < n + n2
      · have hoe : Hid (uech a b = 3) := by show _ = _; unfold uech; rw [if_neg (by rw [HC.out]; simp), if_neg (by simp [HO.out]), if_pos (by rw [HN.out, HN2.out]; exact h64)]
        have hd : decide ((64 : Int) < n + n2) = true := decide_eq_true (by omega)
        obtain ⟨r0, r1, r2⟩ := hRZ
        clear ho
        go_wp2
        refine bodyPost_ret (v := .tuple #[.agg #[.int .i64 0, .int .i64 0, .slice none 0 0], .int .i64 3]) (by simp [results, Try.f30, go_sem, r0, r1, r2]) rfl ?_
        rw [← HP0.out, hoe.out]
        exact Or.inl ⟨by simp, rfl, hBZ.out⟩
      · have hoe : Hid (uech a b = 0) := by show _ = _; unfold uech; rw [if_neg (by rw [HC.out]; simp), if_neg (by simp [HO.out]), if_neg (by rw [HN.out, HN2.out]; exact h64)]
        have hd : decide ((64 : Int) < n + n2) = false := decide_eq_false (by omega)
        clear ho
        go_wp2_with fail
        have hi : ((a.i.toNat : Nat) : Int) = a.i := by have := VA.out.i0; omega
        obtain ⟨mo, hmo⟩ : ∃ x, max a.o b.o = x := ⟨_, rfl⟩
        obtain ⟨bl, hbl⟩ : ∃ x, List.replicate (n + n2) (List.replicate a.i.toNat nE) = x := ⟨_, rfl⟩
        have hBK := blank_any a.i.toNat mo (n + n2) w1 (by have := VA.out.i1; omega) (by omega)
        rw [hi, hbl, show (((n + n2 : Nat)) : Int) = (n : Int) + n2 by omega] at hBK
        have hbll : Hid (bl.length = n + n2) := by show _ = _; rw [← hbl]; simp
        have hblr : Hid (∀ row ∈ bl, row.length = a.i.toNat) := fun row hr => by rw [← hbl] at hr; rw [List.eq_of_mem_replicate hr]; simp
        have HMO := Lib.hid hmo
        rw [hmo]
        have HBK := Lib.hid hBK
        clear hBK hbl hmo
        refine HBK.out.mono ?_
        rintro e w2 ⟨p, gs, rfl, hgs, hWb, hb2⟩
        have hB2 := Lib.hid hb2
        have hGS := Lib.hid hgs
        have hJ2 := hJ1.out.below hb2
        have HB3 : Hid (Below w2.heap.size w2 (w2.alloc (.cells #[.int .i64 a.i, .int .i64 mo, .slice (some ⟨p, 0, none⟩) (n + n2) (n + n2)] 24))) := (Below.refl _ _).alloc (Nat.le_refl _) _
        have hJ3 := Lib.hid (hJ2.below HB3.out)
        have hW3 := Lib.hid (hWb.below HB3.out)
        have hBX : Hid (BxM (w2.alloc (.cells #[.int .i64 a.i, .int .i64 mo, .slice (some ⟨p, 0, none⟩) (n + n2) (n + n2)] 24)) w2.heap.size a.i mo (some ⟨p, 0, none⟩) (n + n2) (n + n2)) := BxM.new w2 _ _ _ _ _
        have hbgs : Hid (∀ g ∈ gs, g < w2.heap.size) := fun g hg => (hWb.own g hg).2.2
        clear hJ2 hWb hb2 hgs e0 e1 e2 f0 f1 f2 x0 x1 x2 y0 y1 y2
        obtain ⟨x0, x1, x2⟩ := hJ3.out.ba.cells
        obtain ⟨z0, z1, z2⟩ := hBX.out.cells
        have h1w : w1.heap.size ≤ w2.heap.size := hB2.out.size
        have hP1 : Calls Try.prog 65 #[.slice (some ⟨p, 0, none⟩) (n + n2) (n + n2), .agg #[.int .i64 a.i, .int .i64 a.o, .slice A n c], .int .i64 0] (w2.alloc (.cells #[.int .i64 a.i, .int .i64 mo, .slice (some ⟨p, 0, none⟩) (n + n2) (n + n2)] 24)) _ :=
          put_any a VA.out a.i.toNat A n c 0 w1.heap.size p (n + n2) bl gs w1 _ hi.symm (HRA.out.below hJ1.out.bel) HN.out hW3.out hGS.out hbll.out (by omega) (below_next hB2.out HB3.out) (Nat.le_refl _) (by rw [World.size_alloc]; omega) hblr.out (by omega)
        have HP1 := Lib.hid hP1
        clear hP1
        go_wp2_with fail
        refine HP1.out.mono ?_
        rintro e w4 ⟨rfl, hW4, hb4, hk4⟩
        have hgx : Hid (w2.heap.size ∉ gs) := fun h => by have := hbgs.out _ h; omega
        have hBX4 : Hid (BxM w4 w2.heap.size a.i mo (some ⟨p, 0, none⟩) (n + n2) (n + n2)) := (hk4 _ (by rw [World.size_alloc]; omega) hgx.out).trans hBX.out
        have hbw4 : Hid (Below w1.heap.size w1 w4) := (below_next hB2.out HB3.out).trans hb4
        have hz4 : w2.heap.size < w4.heap.size := heap_lt hBX4.out
        have hJ4 := Lib.hid (hJ1.out.below hbw4.out)
        have hW4' := Lib.hid hW4
        clear hW4 hb4 hk4 x0 x1 x2 z0 z1 z2 HP1 hJ3 hBX hW3
        obtain ⟨x0, x1, x2⟩ := hJ4.out.ba.cells
        obtain ⟨y0, y1, y2⟩ := hJ4.out.bb.cells
        obtain ⟨z0, z1, z2⟩ := hBX4.out.cells
        have hP2 := put_any b VB.out a.i.toNat B n2 c2 n w1.heap.size p (n + n2) (putK bl (a.r.map fun row => row.map (Mc.sh 0)) 0 n) gs w1 w4 (by rw [← HO.out]; exact hi.symm) (HRB.out.below hJ1.out.bel) HN2.out hW4'.out hGS.out (by rw [putK_len (by rw [List.length_map, HN.out, hbll.out]; omega) (by rw [List.length_map, HN.out]; exact Nat.le_refl _)]; exact hbll.out) (by omega) hbw4.out (Nat.le_refl _) (by omega) (by
          intro row hr
          rw [map_sh0] at hr
          unfold putK at hr
          rcases List.mem_append.1 hr with hr | hr
          · rcases List.mem_append.1 hr with hr | hr
            · exact hblr.out row (List.mem_of_mem_take hr)
            · have := VA.out.len row (List.mem_of_mem_take hr); omega
          · exact hblr.out row (List.mem_of_mem_drop hr)) (by omega)
        rw [bes_put HN.out HN2.out hbll.out] at hP2
        have HP2 := Lib.hid hP2
        clear hP2
        go_wp2_with fail
        refine HP2.out.mono ?_
        rintro e w5 ⟨rfl, hW5, hb5, hk5⟩
        have hBX5 : BxM w5 w2.heap.size a.i mo (some ⟨p, 0, none⟩) (n + n2) (n + n2) := (hk5 _ hz4 hgx.out).trans hBX4.out
        have hbw5 : Below w1.heap.size w1 w5 := hbw4.out.trans hb5
        have hZ := (hJ1.out.below hbw5).bz
        clear x0 x1 x2 y0 y1 y2 z0 z1 z2 hk5 HP2
        obtain ⟨z0, z1, z2⟩ := hBX5.cells
        obtain ⟨e0, e1, e2⟩ := hZ.cells
        obtain ⟨f0, f1, f2⟩ := hZ.frozen
        obtain ⟨r0, r1, r2⟩ := set3_reads hZ (.int .i64 a.i) (.int .i64 mo) (.slice (some ⟨p, 0, none⟩) (n + n2) (n + n2))
        have hwz := hJ1.out.bel.size
        have hbzl := heap_lt hJ1.out.bz
        have HFin : Hid (JeP w (uech a b) a.i (max a.o b.o) (Mc.bes a b).r (.returned (.tuple #[.agg #[.int .i64 a.i, .int .i64 mo, .slice (some ⟨p, 0, none⟩) (n + n2) (n + n2)], .int .i64 0])) (((w5.setCell ⟨w.heap.size + 1 + 1, 0, none⟩ (.int .i64 a.i)).setCell ⟨w.heap.size + 1 + 1, 1, none⟩ (.int .i64 mo)).setCell ⟨w.heap.size + 1 + 1, 2, none⟩ (.slice (some ⟨p, 0, none⟩) (n + n2) (n + n2)))) := by
          refine Or.inr ⟨hoe.out, p, n + n2, gs, by rw [HMO.out], by show _ = _; rw [Mc.bes_len, HN.out, HN2.out], hGS.out, (hW5.far3 hbzl _ _ _).base (by omega), below_set3' (below_next hJ1.out.bel hbw5) (by omega) _ _ _⟩
        clear hBX5 hbw5 hZ hW5 hb5
        go_wp2
        refine bodyPost_ret (v := .tuple #[.agg #[.int .i64 a.i, .int .i64 mo, .slice (some ⟨p, 0, none⟩) (n + n2) (n + n2)], .int .i64 0]) (by simp [results, Try.f30, go_sem, r0, r1, r2]) rfl ?_
        rw [← HP0.out]
        exact HFin.out
    · have hoe : Hid (uech a b = 5) := by show _ = _; unfold uech; rw [if_neg (by rw [HC.out]; simp), if_pos ho]
      have hob : (a.i == b.i) = false := by rw [beq_eq_false_iff_ne]; exact ho
      obtain ⟨r0, r1, r2⟩ := hRZ
      clear ho
      go_wp2
      refine bodyPost_ret (v := .tuple #[.agg #[.int .i64 0, .int .i64 0, .slice none 0 0], .int .i64 5]) (by simp [results, Try.f30, go_sem, r0, r1, r2]) rfl ?_
      rw [← HP0.out, hoe.out]
      exact Or.inl ⟨by simp, rfl, hBZ.out⟩
  · obtain ⟨ce, hce⟩ : ∃ ce, jch a b = ce := ⟨_, rfl⟩
    have hec : Hid (uech a b = ce ∧ ce ≠ 0) := by
      refine ⟨?_, by rw [← hce]; exact hc⟩
      unfold uech
      rw [if_pos hc, hce]
    rw [hce] at hc ⊢
    have hne : (ce == 0) = false := by rw [beq_eq_false_iff_ne]; exact hc
    obtain ⟨r0, r1, r2⟩ := hRZ
    clear hce hc
    go_wp2
    refine bodyPost_ret (v := .tuple #[.agg #[.int .i64 0, .int .i64 0, .slice none 0 0], .int .i64 ce]) (by simp [results, Try.f30, go_sem, r0, r1, r2]) rfl ?_
    rw [← HP0.out, hec.out.1]
    exact Or.inl ⟨hec.out.2, rfl, hBZ.out⟩
end Go.Proofs.Ytgafpmgdpigliaa
