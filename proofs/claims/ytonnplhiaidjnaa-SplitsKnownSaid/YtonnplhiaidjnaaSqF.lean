/-
  Several texts in one: Sq6, Sq7. No statement is proved here.
-/
import Derived.Test.YtonnplhiaidjnaaSq5
import Derived.Test.YtonnplhiaidjnaaSdY
import Derived.Test.YtonnplhiaidjnaaShelf
import Derived.Test.YtonnplhiaidjnaaRd1
import Derived.StillTailTactics
import Derived.Test.YtonnplhiaidjnaaRa4
import Derived.Deep.RegionHeld3
namespace Go.Proofs.Ytonnplhiaidjnaa
open Go.RowKit
open Mc (Ed Ma)

/-- Block g holds lists, of which the first ones are known. -/
def Rsp (w : World) (g k : Nat) (rows : List (List Int)) : Prop := ∃ vs : List Value, w.heap[g]? = some (.cells vs.toArray 29 (0, 0)) ∧ vs.length = k ∧ (∀ v ∈ vs, ∃ A n c, v = Value.slice A n c) ∧ ∀ (j : Nat) (x : List Int), rows[j]? = some x → ∃ A c, vs[j]? = some (.slice A x.length c) ∧ Rd w A x
section
variable {w w' : World} {g k : Nat} {rows : List (List Int)}
theorem Rsp.lt (h : Rsp w g k rows) : g < w.heap.size := by obtain ⟨vs, h1, _⟩ := h; exact heap_lt h1
theorem Rsp.below (h : Rsp w g k rows) (hb : Below w.heap.size w w') : Rsp w' g k rows := by
  obtain ⟨vs, h1, h2, h3, h4⟩ := h
  refine ⟨vs, (hb.block g (heap_lt h1)).trans h1, h2, h3, fun j x hj => ?_⟩
  obtain ⟨A, c, h5, h6⟩ := h4 j x hj
  exact ⟨A, c, h5, h6.below hb⟩
theorem Rsp.start {base : Nat} (h : Ws w g base (List.replicate k [])) : Rsp w g k [] := by
  obtain ⟨vs, h1, h2, h3⟩ := h
  rw [List.length_replicate] at h2
  refine ⟨vs, h1, h2, fun v hv => ?_, fun j x hj => by simp at hj⟩
  obtain ⟨j, hj⟩ := List.mem_iff_getElem?.1 hv
  have hjk : j < k := by rw [← h2]; exact (List.getElem?_eq_some_iff.1 hj).1
  obtain ⟨u, h4, h5⟩ := h3 j [] (by rw [List.getElem?_replicate, if_pos hjk])
  rw [hj] at h4
  injection h4 with h4
  subst h4
  obtain ⟨A, c, e, _⟩ := own_formI h5
  exact ⟨A, _, c, e⟩
theorem Rsp.frozen (h : Rsp w g k rows) (j : Nat) : w.frozen? ⟨g, j, none⟩ = false := by
  obtain ⟨vs, h1, _⟩ := h
  simp [World.frozen?, h1]
theorem Rsp.cell (h : Rsp w g k rows) {j : Nat} (hj : j < k) : ∃ v, w.cell? ⟨g, j, none⟩ = some v := by
  obtain ⟨vs, h1, h2, _⟩ := h
  exact ⟨_, by rw [cell_of_row _ _ _ _ _ _ h1]; simp; exact List.getElem?_eq_getElem (by omega)⟩
/-- Numbers do not lie where lists do. -/
theorem Rsp.away (h : Rsp w g k rows) {A : Option Addr} {x : List Int} (hx : Rd w A x) (j : Nat) (u : Value) : Rd (w.setCell ⟨g, j, none⟩ u) A x := fun hp => by
  obtain ⟨vs, h1, h2, h3, _⟩ := h
  obtain ⟨b, off, e, hb, hc⟩ := hx hp
  have hne : b ≠ g := fun e2 => by
    subst e2
    have := hc 0 hp
    rw [cell_of_row _ _ _ _ _ _ h1] at this
    obtain ⟨A', n', c', e3⟩ := h3 _ (List.mem_of_getElem? (by simpa using this))
    cases e3
  refine ⟨b, off, e, by simpa [World.setCell] using hb, fun i hi => ?_⟩
  exact (World.cell?_of_block (w := w) (a := ⟨b, off + i, none⟩) (Below.heap_setCell w ⟨g, j, none⟩ u b hne)).trans (hc i hi)
theorem Rsp.put (h : Rsp w g k rows) {A : Option Addr} {c : Nat} {x : List Int} (hx : Rd w A x) (hj : rows.length < k) : Rsp (w.setCell ⟨g, rows.length, none⟩ (.slice A x.length c)) g k (rows ++ [x]) := by
  have h0 := h
  obtain ⟨vs, h1, h2, h3, h4⟩ := h
  refine ⟨vs.set rows.length (.slice A x.length c), by simp [World.setCell, Array.getElem?_modify, h1], by simp [h2], fun v hv => ?_, fun j y hy => ?_⟩
  · rcases List.mem_or_eq_of_mem_set hv with h5 | h5
    · exact h3 v h5
    · exact ⟨_, _, _, h5⟩
  · by_cases e : j = rows.length
    · subst e
      rw [List.getElem?_append_right (Nat.le_refl _), Nat.sub_self] at hy
      simp at hy
      subst hy
      exact ⟨A, c, by rw [List.getElem?_set_self (by omega)], h0.away hx _ _⟩
    · have hjl : j < rows.length := by
        have := (List.getElem?_eq_some_iff.1 hy).1
        simp at this
        omega
      rw [List.getElem?_append_left hjl] at hy
      obtain ⟨A', c', h5, h6⟩ := h4 j y hy
      exact ⟨A', c', by rw [List.getElem?_set_ne (fun e2 => e e2.symm)]; exact h5, h0.away h6 _ _⟩
theorem Rsp.at_ (h : Rsp w g k rows) {j : Nat} {x : List Int} (hj : rows[j]? = some x) : ∃ A c, w.cell? ⟨g, j, none⟩ = some (.slice A x.length c) ∧ Rd w A x := by
  obtain ⟨vs, h1, h2, h3, h4⟩ := h
  obtain ⟨A, c, h5, h6⟩ := h4 j x hj
  exact ⟨A, c, by rw [cell_of_row _ _ _ _ _ _ h1]; simpa using h5, h6⟩
end
section
variable (m : Ma) (i : Nat) (o : Int) (A : Option Addr) (n c : Nat)
theorem runE_at {m : Ma} (v : Mc.Val m) {s : Int} (hs : Mc.inS m s = true) (ws : List Int) : Mc.runE m s ws = M.check ws m.i := by
  unfold Mc.inS at hs
  simp at hs
  rw [Mc.runE_cst]
  have : Mc.cst m s = 0 := by unfold Mc.cst; rw [if_neg (by rw [Mc.chk_of v]; simp), if_pos hs]
  rw [if_neg (by rw [this]; simp)]
theorem prun_at (s : Int) (W : Option Addr) (k d : Nat) (ws : List Int) (w : World) (v : Mc.Val m) (hi : m.i = i) (ho : m.o = o) (hn : m.r.length = n) (hk : ws.length = k) (hr : RdR w A m.r) (hw : Rd w W ws) (hs : Mc.inS m s = true) (hkb : k ≤ 1000000) :
    Calls Try.prog 82 #[.agg #[.int .i64 i, .int .i64 o, .slice A n c], .int .i64 s, .slice W k d] w fun e w' => ∃ B j, e = .returned (.tuple #[.slice B j j, .int .i64 (M.check ws m.i)]) ∧ (M.check ws m.i = 0 → j = k ∧ Rd w' B (Mc.run m s ws)) ∧ Below w.heap.size w w' := by
  subst ho hn hk
  rw [← hi]
  have h64 := v.r1
  refine (prun_any m.i m.o s m.r ws A W m.r.length c ws.length d w hr hw rfl (by omega) (fun row hrow => by have := v.len row hrow; have := v.i1; omega) rfl hkb).mono ?_
  rw [show Mc.runE ⟨m.i, m.o, m.r⟩ s ws = M.check ws m.i from runE_at v hs ws]
  rintro e w' ⟨B, j, rfl, hj, hrd, hb⟩
  refine ⟨B, j, rfl, fun h0 => ?_, hb⟩
  have hE : Mc.runE m s ws = 0 := by rw [runE_at v hs]; exact h0
  obtain ⟨_, h2, h3, h4⟩ := runE_ok0 hE
  have hs2 : 0 ≤ s ∧ s < m.r.length := by unfold Mc.inS at hs; simpa using hs
  have e1 : Mc.runV ⟨m.i, m.o, m.r⟩ s ws = Mc.run m s ws := Mc.runV_ok v hs2 h3 h4
  rw [e1] at hj hrd
  exact ⟨by rw [← hj.out, Mc.run_len], hrd⟩
set_option maxRecDepth 100000 in
set_option maxHeartbeats 1000000 in
theorem responses_err (S W : Option Addr) (k d kw dw : Nat) (ss ws : List Int) (E : Int) (w : World) (v : Mc.Val m) (hi : m.i = i) (ho : m.o = o) (hn : m.r.length = n) (hk : ss.length = k) (hkw : ws.length = kw) (hr : RdR w A m.r) (hs : Rd w S ss) (hw : Rd w W ws) (hin : ss.all (Mc.inS m) = true) (hk0 : 0 < k) (hk64 : k ≤ 64) (hkb : kw ≤ 1000000) (hE : M.check ws m.i = E) (hE0 : E ≠ 0) :
    Calls Try.prog 68 #[.agg #[.int .i64 i, .int .i64 o, .slice A n c], .slice W kw dw, .slice S k d] w fun e w' => e = .returned (.tuple #[.slice none 0 0, .int .i64 E]) ∧ Below w.heap.size w w' := by
  have EB : Below w.heap.size w (boxM w i o A n c) := (Below.refl _ _).alloc (Nat.le_refl _) _
  obtain ⟨b, off, s, rfl, hb, hc, hsv⟩ := hs.at_ (k := 0) (by omega)
  have hs0 : ss[0]? = some s := by
    rw [← hsv.out, List.getElem?_eq_getElem (show 0 < ss.length by omega)]; rfl
  have CR := fun w' hr hw => prun_at m i o A n c s W kw dw ws w' v hi ho hn hkw hr hw (List.all_eq_true.1 hin s (List.mem_of_getElem? hs0)) hkb
  simp only [hE] at CR
  have HM := Lib.hid (BxM.new w i o A n c)
  have HB := Lib.hid EB
  have HR := Lib.hid hr
  have HW := Lib.hid hw
  have hne : (E != 0) = true := by simp [hE0]
  have h0k : (0 : Int) < k := by omega
  clear EB v hi ho hn hr hs hw hin hE hs0 hsv hk hkw
  go_enter Try.func68, Try.ntmps68
  go_wp2_with (refine wpList_make_words _ rfl _ _ rfl _ k rfl rfl rfl (by omega) ?_)
  intro w1 hW1 hb1 hz1
  have hsz : (boxM w i o A n c).heap.size = w.heap.size + 1 := by simp
  have hb1' : Below (boxM w i o A n c).heap.size (boxM w i o A n c) w1 := by rw [hsz]; exact hb1
  have hb2 := Lib.hid (below_next HB.out hb1')
  obtain ⟨m0, m1, m2⟩ := BxM.cells (HM.out.mvB hb1')
  have hc1 := (hb2.out.cell (p := ⟨b, off, none⟩) hb).trans (by simpa using hc)
  clear hb1 hb1' hW1 hz1 HB HM
  go_wp2_with fail
  obtain ⟨wk, rfl⟩ : ∃ wk : World, wk = w1 := ⟨_, rfl⟩
  go_loopw [18] (fun v wr => v = .int .i64 0 ∧ wr = wk) (fun v _ => 0)
  case atStart => exact ⟨rfl, rfl⟩
  case round =>
    obtain ⟨rfl, rfl⟩ := hrel
    go_wp2_with fail
    clear m0 m1 m2 hc1
    refine (CR _ (HR.out.below hb2.out) (HW.out.below hb2.out)).mono ?_
    rintro e w2 ⟨B, j, rfl, _, hb3⟩
    have hbF := Lib.hid (below_next hb2.out hb3)
    go_wp2_with fail
    go_returns
    exact ⟨rfl, hbF.out⟩
set_option maxRecDepth 100000 in
set_option maxHeartbeats 1000000 in
theorem responses_ok (S W : Option Addr) (k d kw dw : Nat) (ss ws : List Int) (w : World) (v : Mc.Val m) (hi : m.i = i) (ho : m.o = o) (hn : m.r.length = n) (hk : ss.length = k) (hkw : ws.length = kw) (hr : RdR w A m.r) (hs : Rd w S ss) (hw : Rd w W ws) (hin : ss.all (Mc.inS m) = true) (hk64 : k ≤ 64) (hkb : kw ≤ 1000000) (hE : M.check ws m.i = 0) :
    Calls Try.prog 68 #[.agg #[.int .i64 i, .int .i64 o, .slice A n c], .slice W kw dw, .slice S k d] w fun e w' => ∃ g, e = .returned (.tuple #[.slice (some ⟨g, 0, none⟩) k k, .int .i64 0]) ∧ Hid (Rsp w' g k (ss.map fun s => Mc.run m s ws)) ∧ Below w.heap.size w w' := by
  have EB : Below w.heap.size w (boxM w i o A n c) := (Below.refl _ _).alloc (Nat.le_refl _) _
  have CR := fun s h w' hr hw => prun_at m i o A n c s W kw dw ws w' v hi ho hn hkw hr hw h hkb
  simp only [hE] at CR
  have HM := Lib.hid (BxM.new w i o A n c)
  have HB := Lib.hid EB
  have HR := Lib.hid hr
  have HW := Lib.hid hw
  have HS := Lib.hid hs
  have HK := Lib.hid hk
  have HIN := Lib.hid hin
  have HKW := Lib.hid hkw
  clear EB v hi ho hn hr hs hw hin hE hk hkw
  go_enter Try.func68, Try.ntmps68
  go_wp2_with (refine wpList_make_words _ rfl _ _ rfl _ k rfl rfl rfl (by omega) ?_)
  intro w1 hW1 hb1 hz1
  have hsz : (boxM w i o A n c).heap.size = w.heap.size + 1 := by simp
  have hb1' : Below (boxM w i o A n c).heap.size (boxM w i o A n c) w1 := by rw [hsz]; exact hb1
  have hb2 := Lib.hid (below_next HB.out hb1')
  have hM1 := Lib.hid (HM.out.mvB hb1')
  have hR0 : Hid (Rsp w1 (w.heap.size + 1) k ((ss.map fun s => Mc.run m s ws).take 0)) := Rsp.start (hW1.out 0)
  clear hb1 hb1' hW1 hz1 HB HM hsz
  obtain ⟨g, hg⟩ : ∃ g, w.heap.size + 1 = g := ⟨_, rfl⟩
  have hwg : w.heap.size ≤ g := by omega
  have hwg2 : w.heap.size ≠ g := by omega
  rw [hg] at hR0
  try rw [hg]
  go_wp2_with fail
  go_loopw [18] (fun v wr => ∃ j : Nat, j ≤ k ∧ v = .int .i64 j ∧ Hid (Rsp wr g k ((ss.map fun s => Mc.run m s ws).take j)) ∧ Hid (BxM wr w.heap.size i o A n c) ∧ Hid (Below w.heap.size w wr)) (fun v _ => k - (intOf v).toNat)
  case atStart => exact ⟨0, Nat.zero_le _, rfl, hR0, hM1, hb2⟩
  case round =>
    clear hR0 hM1 hb2
    obtain ⟨j, hj, rfl, hRs, hM, hbr⟩ := hrel
    by_cases hjk : j < k
    · have hjk' : (j : Int) < k := by omega
      obtain ⟨b, off, s, rfl, hb, hc, hsv⟩ := HS.out.at_ (k := j) (by have := HK.out; omega)
      have hjl : j < ss.length := by have := HK.out; omega
      have hat : ss[j]? = some s := by
        rw [← hsv.out, List.getElem?_eq_getElem hjl]; rfl
      have hc1 := (hbr.out.cell (p := ⟨b, off + j, none⟩) hb).trans hc
      obtain ⟨m0, m1, m2⟩ := BxM.cells hM.out
      have C1 := CR s (List.all_eq_true.1 HIN.out s (List.mem_of_getElem? hat)) wr (HR.out.below hbr.out) (HW.out.below hbr.out)
      have HAT := Lib.hid hat
      clear hat hsv hc hb
      go_wp2_with fail
      clear m0 m1 m2 hc1
      refine C1.mono ?_
      rintro e w2 ⟨B, l, rfl, hl, hb3⟩
      obtain ⟨rfl, hrd⟩ := hl trivial
      have hR2 := hRs.out.below hb3
      have hM2 := hM.out.mvB hb3
      have hbr2 := below_next hbr.out hb3
      have htl : ((ss.map fun s => Mc.run m s ws).take j).length = j := by rw [List.length_take, List.length_map]; omega
      have hf := hR2.frozen j
      obtain ⟨u, hu⟩ := hR2.cell hjk
      have hput := hR2.put (c := l) hrd (by rw [htl]; exact hjk)
      have hrl : (Mc.run m s ws).length = l := by rw [Mc.run_len]; exact HKW.out
      have happ : (ss.map fun s => Mc.run m s ws).take j ++ [Mc.run m s ws] = (ss.map fun s => Mc.run m s ws).take (j + 1) := by rw [List.take_add_one, List.getElem?_map, HAT.out]; rfl
      rw [htl, hrl, happ] at hput
      have HP := Lib.hid hput
      have hM3 := Lib.hid (hM2.farS (b := g) (off := j) hwg2 (.slice B l l))
      have hbr3 := Lib.hid (hbr2.setCell (p := ⟨g, j, none⟩) hwg (.slice B l l))
      clear hput hrl happ htl hR2 hM2 hbr2 hRs hM hbr hb3 hrd C1 hl
      go_wp2_with fail
      go_roundw
      case rel => exact ⟨j + 1, by omega, by go_num, HP, hM3, hbr3⟩
      case measure => simp [intOf]; omega
    · obtain rfl : j = k := by omega
      have hfin : Hid (Rsp wr g j (ss.map fun s => Mc.run m s ws)) := by
        have := hRs.out
        rwa [List.take_of_length_le (by rw [List.length_map]; have := HK.out; omega)] at this
      clear hRs
      go_wp2_with fail
      go_returns
      exact ⟨g, rfl, hfin, hbr.out⟩
end
end Go.Proofs.Ytonnplhiaidjnaa

namespace Go.Proofs.Ytonnplhiaidjnaa
open Go.RowKit
open Mc (Ed Ma)

theorem equal2_any (P Q : Option Addr) (n c d : Nat) (xs ys : List Int) (b : Bool) (w : World) (h1 : Rd w P xs) (h2 : Rd w Q ys) (hx : xs.length = n) (hy : ys.length = n) (hn : n ≤ 1000000) (hb : M.same xs ys = b) :
    Calls Try.prog 56 #[.slice P n c, .slice Q n d] w fun e w' => e = .returned (.bool b) ∧ Below w.heap.size w w' := by
  have hbeq : (xs == ys) = b := by
    rw [← hb, Bool.eq_iff_iff, beq_iff_eq, Mc.same_iff']
  rw [← hbeq]
  by_cases hz : n = 0
  · subst hz
    refine (Try.slices_Equal_int_empty P Q c 0 d w (by omega)).mono ?_
    rintro e w' ⟨rfl, rfl⟩
    rw [List.eq_nil_of_length_eq_zero hx, List.eq_nil_of_length_eq_zero hy]
    exact ⟨rfl, Below.refl _ _⟩
  · obtain ⟨b1, o1, rfl, _, c1⟩ := h1 (by omega)
    obtain ⟨b2, o2, rfl, _, c2⟩ := h2 (by omega)
    refine (Try.slices_Equal_int b1 o1 n c b2 o2 n d xs ys w (by omega) (by omega) (by omega) (by omega) (fun j hj => by rw [c1 j hj]; simp) (fun j hj => by rw [c2 j hj]; simp)).mono ?_
    rintro e w' ⟨rfl, q, rfl⟩
    rw [List.take_of_length_le (by omega), List.take_of_length_le (by omega)]
    exact ⟨rfl, below_drewN' (Below.refl _ _) q⟩
section
variable (i o : Int) (rs : List (List Ed)) (A W : Option Addr) (n c kw dw : Nat) (s t : Int) (w : World)
set_option maxRecDepth 100000 in
theorem separates_err (hr : RdR w A rs) (hn : rs.length = n) (hnb : n ≤ 1000000) (hrl : ∀ row ∈ rs, row.length ≤ 1000000) (E : Int) (hE : Mc.skE ⟨i, o, rs⟩ [s, t] = E) (hne : E ≠ 0) :
    Calls Try.prog 38 #[.agg #[.int .i64 i, .int .i64 o, .slice A n c], .slice W kw dw, .int .i64 s, .int .i64 t] w fun e w' => e = .returned (.tuple #[.bool false, .int .i64 E]) ∧ Below w.heap.size w w' := by
  have b1 : Below w.heap.size w (boxM w i o A n c) := (Below.refl _ _).alloc (Nat.le_refl _) _
  have b2 : Below w.heap.size w ((boxM w i o A n c).alloc (.cells #[.int .i64 s, .int .i64 t] 3)) := b1.alloc (by simp) _
  have C1 := scheck_any i o rs A (some ⟨(boxM w i o A n c).heap.size, 0, none⟩) n c 2 2 [s, t] _ (hr.below b2) (rd_lit (boxM w i o A n c) [s, t]) hn rfl hnb hrl (by omega)
  rw [hE] at C1
  have hsz : (boxM w i o A n c).heap.size = w.heap.size + 1 := by simp
  rw [hsz] at C1
  have HB := Lib.hid b2
  have hne' : (E != 0) = true := by simp [hne]
  obtain ⟨m0, m1, m2⟩ := BxM.cells (BxM.new w i o A n c)
  clear b1 b2 hr hrl hE hsz
  go_enter Try.func38, Try.ntmps38
  go_wp2_with fail
  refine C1.mono ?_
  rintro e w1 ⟨rfl, hb1⟩
  have hbF := Lib.hid (below_next HB.out hb1)
  go_wp2_with fail
  go_returns
  exact ⟨rfl, hbF.out⟩
end
section
variable (m : Ma) (i : Nat) (o : Int) (A W : Option Addr) (n c kw dw : Nat) (ws : List Int) (s t : Nat) (w : World)
theorem two_boxed (v : Mc.Val m) (hi : m.i = i) (ho : m.o = o) (hn : m.r.length = n) (hr : RdR w A m.r) (hs : s < n) (ht : t < n) :
    ∃ W0, (boxM w i o A n c).alloc (.cells #[.int .i64 s, .int .i64 t] 3) = W0 ∧ Below w.heap.size w W0 ∧ BxM W0 w.heap.size i o A n c ∧
      Calls Try.prog 64 #[.agg #[.int .i64 i, .int .i64 o, .slice A n c], .slice (some ⟨w.heap.size + 1, 0, none⟩) 2 2] W0 fun e w' => e = .returned (.int .i64 0) ∧ Below W0.heap.size W0 w' := by
  refine ⟨_, rfl, ((Below.refl _ _).alloc (Nat.le_refl _) _).alloc (by simp) _, (BxM.new w i o A n c).mvB ((Below.refl _ _).alloc (Nat.le_refl _) _), ?_⟩
  exact box2 m i o A n c w s t 0 v hi ho hn hr (Mc.skE_ok (Mc.chk_of v) (by simp [Mc.inS]; omega))
set_option maxRecDepth 100000 in
set_option maxHeartbeats 1000000 in
theorem separates_bad (E : Int) (v : Mc.Val m) (hi : m.i = i) (ho : m.o = o) (hn : m.r.length = n) (hkw : ws.length = kw) (hr : RdR w A m.r) (hw : Rd w W ws) (hs : s < n) (ht : t < n) (hkb : kw ≤ 1000000) (hE : M.check ws m.i = E) (hE0 : E ≠ 0) :
    Calls Try.prog 38 #[.agg #[.int .i64 i, .int .i64 o, .slice A n c], .slice W kw dw, .int .i64 s, .int .i64 t] w fun e w' => e = .returned (.tuple #[.bool false, .int .i64 E]) ∧ Below w.heap.size w w' := by
  obtain ⟨W0, hW0, b2, hM, C1⟩ := two_boxed m i o A n c s t w v hi ho hn hr hs ht
  have hin : [(s : Int), (t : Int)].all (Mc.inS m) = true := by simp [Mc.inS]; omega
  have CR := fun S w hr hS hw => responses_err m i o A n c S W 2 2 kw dw [(s : Int), (t : Int)] ws E w v hi ho hn rfl hkw hr hS hw hin (by omega) (by omega) hkb hE hE0
  have HB := Lib.hid b2
  have HM := Lib.hid hM
  have HR := Lib.hid hr
  have HW := Lib.hid hw
  have hne' : (E != 0) = true := by simp [hE0]
  obtain ⟨m0, m1, m2⟩ := BxM.cells (BxM.new w i o A n c)
  clear b2 hM hr hw v hi hn hin hE hkw
  go_enter Try.func38, Try.ntmps38
  go_upto_region 1 with fail
  go_wp2_with fail
  try rw [show (w.alloc (.cells #[.int .i64 i, .int .i64 o, .slice A n c] 27)).alloc (.cells #[.int .i64 s, .int .i64 t] 3) = W0 from hW0]
  refine C1.mono ?_
  rintro e w1 ⟨rfl, hb1⟩
  have hM1 := HM.out.mvB hb1
  have hb2 := below_next HB.out hb1
  clear C1 m0 m1 m2 hb1 hW0 HM HB
  obtain ⟨m0, m1, m2⟩ := BxM.cells hM1
  obtain ⟨Q, hQ⟩ : ∃ Q, w1.alloc (.cells #[.int .i64 s, .int .i64 t] 3) = Q := ⟨_, rfl⟩
  have hbQ : Below w1.heap.size w1 Q := by rw [← hQ]; exact (Below.refl _ _).alloc (Nat.le_refl _) _
  have hbQ2 := below_next hb2 hbQ
  have hSQ : Rd Q (some ⟨w1.heap.size, 0, none⟩) [(s : Int), (t : Int)] := by rw [← hQ]; exact rd_lit w1 [(s : Int), (t : Int)]
  go_wp2_with fail
  try rw [hQ]
  refine (CR _ Q (HR.out.below hbQ2) hSQ (HW.out.below hbQ2)).mono ?_
  rintro e w2 ⟨rfl, hb3⟩
  have hbF := Lib.hid (below_next hbQ2 hb3)
  go_wp2_with fail
  go_returns
  exact ⟨rfl, hbF.out⟩
set_option maxRecDepth 100000 in
set_option maxHeartbeats 1000000 in
theorem separates_ok (b : Bool) (v : Mc.Val m) (hi : m.i = i) (ho : m.o = o) (hn : m.r.length = n) (hkw : ws.length = kw) (hr : RdR w A m.r) (hw : Rd w W ws) (hs : s < n) (ht : t < n) (hkb : kw ≤ 1000000) (hE : M.check ws m.i = 0) (hb : M.same (Mc.run m s ws) (Mc.run m t ws) = b) :
    Calls Try.prog 38 #[.agg #[.int .i64 i, .int .i64 o, .slice A n c], .slice W kw dw, .int .i64 s, .int .i64 t] w fun e w' => e = .returned (.tuple #[.bool !b, .int .i64 0]) ∧ Below w.heap.size w w' := by
  obtain ⟨W0, hW0, b2, hM, C1⟩ := two_boxed m i o A n c s t w v hi ho hn hr hs ht
  have hin : [(s : Int), (t : Int)].all (Mc.inS m) = true := by simp [Mc.inS]; omega
  have CR := fun S w hr hS hw => responses_ok m i o A n c S W 2 2 kw dw [(s : Int), (t : Int)] ws w v hi ho hn rfl hkw hr hS hw hin (by omega) hkb hE
  have HB := Lib.hid b2
  have HM := Lib.hid hM
  have HR := Lib.hid hr
  have HW := Lib.hid hw
  have HBB := Lib.hid hb
  have HKW := Lib.hid hkw
  obtain ⟨m0, m1, m2⟩ := BxM.cells (BxM.new w i o A n c)
  clear b2 hM hr hw v hi hn hin hE hkw hb
  go_enter Try.func38, Try.ntmps38
  go_upto_region 1 with fail
  go_wp2_with fail
  try rw [show (w.alloc (.cells #[.int .i64 i, .int .i64 o, .slice A n c] 27)).alloc (.cells #[.int .i64 s, .int .i64 t] 3) = W0 from hW0]
  refine C1.mono ?_
  rintro e w1 ⟨rfl, hb1⟩
  have hM1 := HM.out.mvB hb1
  have hb2 := below_next HB.out hb1
  clear C1 m0 m1 m2 hb1 hW0 HM HB
  obtain ⟨m0, m1, m2⟩ := BxM.cells hM1
  obtain ⟨Q, hQ⟩ : ∃ Q, w1.alloc (.cells #[.int .i64 s, .int .i64 t] 3) = Q := ⟨_, rfl⟩
  have hbQ : Below w1.heap.size w1 Q := by rw [← hQ]; exact (Below.refl _ _).alloc (Nat.le_refl _) _
  have hbQ2 := below_next hb2 hbQ
  have hSQ : Rd Q (some ⟨w1.heap.size, 0, none⟩) [(s : Int), (t : Int)] := by rw [← hQ]; exact rd_lit w1 [(s : Int), (t : Int)]
  go_wp2_with fail
  try rw [hQ]
  refine (CR _ Q (HR.out.below hbQ2) hSQ (HW.out.below hbQ2)).mono ?_
  rintro e w2 ⟨g, rfl, hRs, hb3⟩
  have hbF := Lib.hid (below_next hbQ2 hb3)
  clear hbQ2 hb3 hSQ hbQ hQ hb2 m0 m1 m2 hM1 CR HR HW
  obtain ⟨A0, c0, q0, r0⟩ := hRs.out.at_ (j := 0) (x := Mc.run m s ws) rfl
  obtain ⟨A1, c1, q1, r1⟩ := hRs.out.at_ (j := 1) (x := Mc.run m t ws) rfl
  rw [Mc.run_len, HKW.out] at q0 q1
  have hl0 := hRs.out.lt
  have f0 : ∀ x : BW w2, x.out.cell? ⟨g, 0, none⟩ = some (.slice A0 kw c0) := fun x => (x.ok.cell (p := ⟨g, 0, none⟩) hl0).trans q0
  have f1 : ∀ x : BW w2, x.out.cell? ⟨g, 1, none⟩ = some (.slice A1 kw c1) := fun x => (x.ok.cell (p := ⟨g, 1, none⟩) hl0).trans q1
  have CE := fun (x : BW w2) => equal2_any A0 A1 kw c0 c1 (Mc.run m s ws) (Mc.run m t ws) b x.out (r0.below x.ok) (r1.below x.ok) (by rw [Mc.run_len]; exact HKW.out) (by rw [Mc.run_len]; exact HKW.out) hkb HBB.out
  clear q0 q1
  go_upto_region 7 with fail
  refine wp_region_quiet_below (by kernel_rfl) (by kernel_rfl) ?_
  repeat (go_big_quiet_step ((rename_i x; refine (CE x).mono ?_; rintro e wy ⟨rfl, hy⟩; exact ⟨rfl, ⟨wy, below_next x.ok hy⟩, rfl⟩)))
  refine wpQuiet_nil ?_
  intro w20 hw20
  obtain ⟨⟨wx, hbW⟩, hw3⟩ := hw20
  dsimp only at hw3
  subst hw3
  have hbE := below_next hbF.out hbW
  clear f0 f1 CE
  go_wp2_with fail
  go_returns
  exact ⟨rfl, hbE⟩
end
end Go.Proofs.Ytonnplhiaidjnaa
