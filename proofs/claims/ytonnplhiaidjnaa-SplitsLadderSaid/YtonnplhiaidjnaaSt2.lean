/-
  Contracts of the reference of layer 8: Splits, Separate. No statement is proved here.
-/
import Derived.Test.YtonnplhiaidjnaaSt1
import Derived.Test.YtonnplhiaidjnaaRd1
import Derived.Test.YtonnplhiaidjnaaSpM
import Derived.Deep.RegionHeld3
import Derived.Deep.LoopGhost
namespace Go.Proofs.Ytonnplhiaidjnaa
open Go.RowKit
open Mc (Ed Ma)

theorem snext_at (A : Option Addr) (n c : Nat) (zs : List Int) (i : Int) (w : World) (hr : Rd w A zs) (hn : zs.length = n) (hi : 1 ≤ i) (hi2 : i ≤ 100) (hl : n ≤ 65536) (hv : M.Val i zs) :
    Calls Try.prog 67 #[.slice A n c, .int .i64 i] w fun e w' => ∃ B k d, e = .returned (.slice B k d) ∧ Hid ((M.next i zs).length = k) ∧ k ≤ n + 1 ∧ Rd w' B (M.next i zs) ∧ Below w.heap.size w w' := by
  refine (snext_any A n c zs i w hr hn hi hi2 hl hv).mono ?_
  rintro e w' ⟨V, rfl, hV, hb⟩
  have hw := hV.out
  obtain ⟨B, d, rfl, _⟩ := own_formI hw
  exact ⟨B, _, d, rfl, rfl, by have := (M.next_val hi _ zs rfl hv).2.2; omega, Rd.of_own hw, hb⟩
section
variable (m : Ma) (i : Nat) (o : Int) (A : Option Addr) (n c : Nat) (w : World)
theorem sameb_at (X Y : Option Addr) (k c d : Nat) (x y : List Int) (b : Bool) (hx : Rd w X x) (hy : Rd w Y y) (h1 : x.length = k) (h2 : y.length = k) (hk : k ≤ 1000000) (hb : M.same x y = b) :
    Calls Try.prog 18 #[.slice X k c, .slice Y k d] w fun e w' => e = .returned (.bool b) ∧ Below w.heap.size w w' := by
  have := same_at w X Y k c d x y hx hy h1 h2 hk
  rwa [hb] at this
set_option maxRecDepth 100000 in
theorem rsplits_any (s t : Nat) (W : Option Addr) (k d : Nat) (ws : List Int) (b : Bool) (v : Mc.Val m) (hi : m.i = i) (ho : m.o = o) (hn : m.r.length = n) (hk : ws.length = k) (hr : RdR w A m.r) (hw : Rd w W ws) (hs : s < n) (ht : t < n) (hwd : Mc.Wd m ws) (hl : k ≤ 65536)
    (hb : M.same (Mc.run m s ws) (Mc.run m t ws) = b) :
    Calls Try.prog 39 #[.agg #[.int .i64 i, .int .i64 o, .slice A n c], .slice W k d, .int .i64 s, .int .i64 t] w fun e w' => e = .returned (.int .i64 (if b then 0 else 1)) ∧ Below w.heap.size w w' := by
  have EB : Below w.heap.size w (boxM w i o A n c) := (Below.refl _ _).alloc (Nat.le_refl _) _
  obtain ⟨m0, m1, m2⟩ := BxM.cells (BxM.new w i o A n c)
  have lg : w.heap.size < (boxM w i o A n c).heap.size := by simp
  obtain ⟨X, hX⟩ : ∃ X, boxM w i o A n c = X := ⟨_, rfl⟩
  rw [hX] at EB m0 m1 m2 lg
  have KP : ∀ w', Below X.heap.size X w' → w'.cell? ⟨w.heap.size, 0, none⟩ = some (.int .i64 i) ∧ w'.cell? ⟨w.heap.size, 1, none⟩ = some (.int .i64 o) ∧ w'.cell? ⟨w.heap.size, 2, none⟩ = some (.slice A n c) := fun w' y =>
    ⟨(y.cell (p := ⟨w.heap.size, 0, none⟩) lg).trans m0, (y.cell (p := ⟨w.heap.size, 1, none⟩) lg).trans m1, (y.cell (p := ⟨w.heap.size, 2, none⟩) lg).trans m2⟩
  have HV := Lib.hid v
  have HI := Lib.hid hi
  have HO := Lib.hid ho
  have HN := Lib.hid hn
  have HK := Lib.hid hk
  have HW := Lib.hid hwd
  have hS1 : Hid (Mc.St m (s : Int)) := Or.inr ⟨by omega, by omega⟩
  have hS2 : Hid (Mc.St m (t : Int)) := Or.inr ⟨by omega, by omega⟩
  have HBB := Lib.hid hb
  have y0 : Below X.heap.size X X.drew := (Below.refl _ _).drew
  have hrD := hr.below (below_next EB y0)
  have hwD := hw.below (below_next EB y0)
  have HRR := Lib.hid hr
  have HWW := Lib.hid hw
  clear hr hw v hi ho hn hk hwd hb
  go_enter Try.func39, Try.ntmps39
  go_upto_region 1 with fail
  try rw [show w.alloc (.cells #[.int .i64 i, .int .i64 o, .slice A n c] 27) = X from hX]
  go_region_held3 (fun w' => w'.cell? ⟨w.heap.size, 0, none⟩ = some (.int .i64 i) ∧ w'.cell? ⟨w.heap.size, 1, none⟩ = some (.int .i64 o) ∧ w'.cell? ⟨w.heap.size, 2, none⟩ = some (.slice A n c))
    (first | exact ⟨x30, x31, x32⟩ | exact ⟨x20, x21, x22⟩ | exact ⟨x10, x11, x12⟩ | exact ⟨m0, m1, m2⟩ | go_keep)
    (first
      | (go_at_call 25
         (with_reducible refine (rrun_at m i o A n c _ s W k d ws HV.out HI.out HO.out HN.out HK.out hrD hwD hS1.out HW.out hl).mono ?_)
         rintro e wa1 ⟨B6, q6, rfl, hr6, hb3⟩
         have y1 := below_next y0 hb3
         have hr1 := HRR.out.below (below_next EB y1)
         have hw1 := HWW.out.below (below_next EB y1)
         obtain ⟨x10, x11, x12⟩ := KP _ y1
         dsimp only)
      | (go_at_call 25
         (with_reducible refine (rrun_at m i o A n c _ t W k d ws HV.out HI.out HO.out HN.out HK.out hr1 hw1 hS2.out HW.out hl).mono ?_)
         rintro e wa2 ⟨B7, q7, rfl, hr7, hb4⟩
         have y2 := below_next y1 hb4
         have hr6b := hr6.below hb4
         obtain ⟨x20, x21, x22⟩ := KP _ y2
         dsimp only)
      | (go_at_call 18
         (with_reducible refine (sameb_at _ B6 B7 k q6 q7 (Mc.run m s ws) (Mc.run m t ws) b hr6b hr7 (by rw [Mc.run_len]; exact HK.out) (by rw [Mc.run_len]; exact HK.out) (by omega) HBB.out).mono ?_)
         rintro e wa3 ⟨rfl, hb5⟩
         have y3 := below_next y2 hb5
         obtain ⟨x30, x31, x32⟩ := KP _ y3
         dsimp only)
      | fail)
  all_goals
    have hbF := Lib.hid (below_next EB y3)
    clear HBB
    cases b with
    | true =>
      go_wp2_with fail
      go_ret
      exact ⟨rfl, hbF.out⟩
    | false =>
      go_wp2_with fail
      go_ret
      exact ⟨rfl, hbF.out⟩
set_option maxRecDepth 100000 in
set_option maxHeartbeats 1000000 in
theorem rseparate_any (s t L : Nat) (v : Mc.Val m) (hi : m.i = i) (ho : m.o = o) (hn : m.r.length = n) (hr : RdR w A m.r) (hs : s < n) (ht : t < n) (hL : Mc.sl m s t = L) :
    Calls Try.prog 34 #[.agg #[.int .i64 i, .int .i64 o, .slice A n c], .int .i64 s, .int .i64 t] w fun e w' => ∃ B d, e = .returned (.tuple #[.slice B L d, .bool (decide (0 < L))]) ∧ Rd w' B (Mc.sepw m s t) ∧ Below w.heap.size w w' := by
  have EB : Below w.heap.size w (boxM w i o A n c) := (Below.refl _ _).alloc (Nat.le_refl _) _
  have HM := Lib.hid (BxM.new w i o A n c)
  obtain ⟨K, hK⟩ : ∃ K, max n 2 = K := ⟨_, rfl⟩
  have hK2 : max (n : Int) 2 = K := by omega
  have hn64 : n ≤ 64 := by have := v.r1; omega
  have hK64 : K ≤ 64 := by omega
  have hnK : n ≤ K := by omega
  have hi1 : 1 ≤ m.i := v.i0
  have hi16 : m.i ≤ 16 := v.i1
  have hsN : s < m.r.length := by omega
  have htN : t < m.r.length := by omega
  have CS := fun ws W k d w b hk hr hw hwd hl hb => rsplits_any m i o A n c w s t W k d ws b v hi ho hn hk hr hw hs ht hwd hl hb
  have HV := Lib.hid v
  have HI := Lib.hid hi
  have HN := Lib.hid hn
  have HL := Lib.hid hL
  have hI1 : 1 ≤ i := by omega
  have hI16 : i ≤ 16 := by omega
  have HR := Lib.hid hr
  obtain ⟨X, hX⟩ : ∃ X, (boxM w i o A n c).alloc (.cells #[] 3) = X := ⟨_, rfl⟩
  have hb0 : Hid (Below w.heap.size w X) := by show Below _ _ _; rw [← hX]; exact EB.alloc (by simp) _
  have hMX : Hid (BxM X w.heap.size i o A n c) := by show BxM _ _ _ _ _ _ _; rw [← hX]; exact HM.out.mvB ((Below.refl _ _).alloc (Nat.le_refl _) _)
  have hlt0 : w.heap.size < X.heap.size := heap_lt hMX.out
  have hbx : Hid (Below X.heap.size X X) := Below.refl _ _
  have hS0 := Lib.hid (Mc.SI.start (s := s) (t := t) v)
  clear EB v hi ho hn hr hL hK HM
  go_enter Try.func34, Try.ntmps34
  go_wp2_with fail
  try rw [show (w.alloc (.cells #[.int .i64 i, .int .i64 o, .slice A n c] 27)).alloc (.cells #[] 3) = X from hX]
  clear hX
  go_loopg [8] (Mc.far2 m K []) (fun k v wr => ∃ (x : List Int) (l : Nat) (B : Option Addr) (d : Nat), v = .slice B l d ∧ l ≤ K ∧ k = Mc.far2 m K x ∧ Hid (x.length = l) ∧ Hid (Rd wr B x) ∧ Hid (Mc.SI m s t x) ∧ Hid (Below X.heap.size X wr))
  case atStart => exact ⟨[], 0, _, _, rfl, Nat.zero_le _, rfl, rfl, (fun h => by simp at h), hS0, hbx⟩
  case round =>
    clear hS0 hbx
    obtain ⟨x, l, B, d, rfl, hl, hgk, hxl, hx, hS, hbr⟩ := hrel
    obtain ⟨m0, m1, m2⟩ := BxM.cells (hMX.out.mvB hbr.out)
    have hbw := Lib.hid (below_next hb0.out hbr.out)
    by_cases hlt : l < K
    · have hlt' : (l : Int) < K := by omega
      cases hb : M.same (Mc.run m s x) (Mc.run m t x) with
      | true =>
        have C1 := CS x B l d wr true hxl.out (HR.out.below hbw.out) hx.out hS.out.wd (by omega) hb
        have hS2 := Lib.hid (hS.out.step HV.out (Mc.same_iff'.1 hb))
        have hF := Lib.hid (Mc.far2_lt HV.out (k := K) hS.out.wd (by rw [hxl.out]; exact hlt))
        clear hb
        go_wp2_with fail
        refine C1.mono ?_
        rintro e w1 ⟨rfl, hb1⟩
        have hbr1 := below_next hbr.out hb1
        have hx1 := hx.out.below hb1
        clear m0 m1 m2 C1 hbw
        obtain ⟨m0, m1, m2⟩ := BxM.cells (hMX.out.mvB hbr1)
        go_wp2_with fail
        clear m0 m1 m2
        refine (snext_at B l d x i _ hx1 hxl.out (by omega) (by omega) (by omega) (by have := hS.out.wd; unfold Mc.Wd at this; rwa [HI.out] at this)).mono ?_
        rintro e w2 ⟨B2, l2, d2, rfl, hl2, hl3, hx2, hb2⟩
        have hbr2 := Lib.hid (below_next hbr1 hb2)
        have hS3 : Hid (Mc.SI m s t (M.next i x)) := by have := hS2.out; rwa [HI.out] at this
        have hF3 : Hid (Mc.far2 m K (M.next i x) < Mc.far2 m K x) := by have := hF.out; rwa [HI.out] at this
        have HX2 := Lib.hid hx2
        clear hx2 hb2 hbr1 hx1
        go_wp2_with fail
        go_roundg (Mc.far2 m K (M.next i x))
        case measure => rw [hgk]; exact hF3.out
        case rel => exact ⟨M.next i x, l2, B2, d2, rfl, by omega, rfl, hl2, HX2, hS3, hbr2⟩
      | false =>
        have C1 := CS x B l d wr false hxl.out (HR.out.below hbw.out) hx.out hS.out.wd (by omega) hb
        have hit := Lib.hid (hS.out.hit HV.out hsN htN (fun e => by rw [e, M.same_yes rfl] at hb; cases hb))
        clear hb
        go_wp2_with fail
        refine C1.mono ?_
        rintro e w1 ⟨rfl, hb1⟩
        have hbF := Lib.hid (below_next hbw.out hb1)
        have hx1 := Lib.hid (hx.out.below hb1)
        have hlL : l = L := by rw [← hxl.out, hit.out.2, Mc.sepw_len, HL.out]
        have hL0 : 0 < l := by have := hit.out.1; have := HL.out; omega
        clear hbw hb1 C1
        go_wp2_with fail
        go_returns
        subst hlL
        exact ⟨B, d, by simp [hL0], by rw [← hit.out.2]; exact hx1.out, hbF.out⟩
    · obtain rfl : l = K := by omega
      have hlt' : ¬ (l : Int) < l := by omega
      have hz := hS.out.fin HV.out hsN htN (by rw [hxl.out, HN.out]; exact hnK)
      have hL0 : L = 0 := by rw [← HL.out]; exact hz
      have HS : Hid (Mc.sepw m s t = []) := List.length_eq_zero_iff.1 (by rw [Mc.sepw_len]; exact hz)
      go_wp2_with fail
      go_returns
      subst hL0
      exact ⟨none, ⟨0, rfl⟩, by rw [HS.out]; exact Rd.nil_, hbw.out⟩
end
end Go.Proofs.Ytonnplhiaidjnaa
