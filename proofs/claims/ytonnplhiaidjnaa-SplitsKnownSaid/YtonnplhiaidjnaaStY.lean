/-
  Several texts in one: St1, St2. No statement is proved here.
-/
import Derived.Test.YtonnplhiaidjnaaSwZ
import Derived.Test.YtonnplhiaidjnaaBaZ
import Derived.Deep.CutRange
import Derived.Test.YtonnplhiaidjnaaRd1
import Derived.Test.YtonnplhiaidjnaaSpY
import Derived.Deep.RegionHeld3
import Derived.Deep.LoopGhost
namespace Go.Proofs.Ytonnplhiaidjnaa
open Go.RowKit

set_option maxRecDepth 100000 in
set_option maxHeartbeats 2000000 in
theorem snext_any (A : Option Addr) (n c : Nat) (zs : List Int) (i : Int) (w : World) (hr : Rd w A zs) (hn : zs.length = n) (hi : 1 ≤ i) (hi2 : i ≤ 100) (hl : n ≤ 65536) (hv : M.Val i zs) :
    Calls Try.prog 67 #[.slice A n c, .int .i64 i] w (Nxt w (M.next i zs)) := by
  obtain ⟨i0, hi0, hz0, hz1, hz2⟩ := info_parts int_info
  obtain ⟨R, hR⟩ : ∃ R, M.next i zs = R := ⟨_, rfl⟩
  have HRE := Lib.hid hR
  rw [hR]
  have HV := Lib.hid hv
  have HN := Lib.hid hn
  clear hR hv
  have hpost : Hid (∀ (V : Value) (w' : World), Hid (w'.ownsRow w.heap.size 3 1 V R.length (ints R)) → Below w.heap.size w w' → Nxt w R (.returned V) w') := fun V w' h1 h2 => ⟨V, rfl, h1, h2⟩
  have hown0 := own_emptyI w w.heap.size (Nat.le_refl _)
  have hbA : Below w.heap.size w (w.alloc (.cells #[] 3)) := (Below.refl _ _).alloc (Nat.le_refl _) _
  go_enter Try.func67, Try.ntmps67
  go_upto_region 1 with fail
  go_cut [5] from 7 to 9 (fun v wx => ∃ g cp, v = .slice (some ⟨g, 0, none⟩) n cp ∧ Hid (wx.ownsRow w.heap.size 3 1 (.slice (some ⟨g, 0, none⟩) n cp) n (ints zs)) ∧ Below w.heap.size w wx)
  case first =>
    rcases Nat.eq_zero_or_pos n with h0 | h0
    · subst h0
      have hzs : zs = [] := List.length_eq_zero_iff.1 HN.out
      subst hzs
      have HO := Lib.hid hown0
      clear hn hown0
      go_wp2_with (at_builtin; refine wpList_append_none _ rfl _ _ 29 rfl 3 i0 hi0 Try.underlying29 ⟨w.heap.size, 0, none⟩ A c rfl rfl ?_)
      go_wp2
      go_meet
      exact ⟨_, 0, rfl, HO.out, hbA⟩
    · obtain ⟨b, off, rfl, hb, hc⟩ := hr (by rw [HN.out]; exact h0)
      have hnews : Hid (∀ j u, (ints zs)[j]? = some u → (w.alloc (.cells #[] 3)).cell? ((⟨b, off, none⟩ : Addr).add j) = some u) := fun j u hj => by
        have hjl : j < zs.length := by have := (List.getElem?_eq_some_iff.1 hj).1; rwa [ints_len] at this
        rw [ints_at hjl] at hj
        injection hj with hj
        subst hj
        rw [Addr.add_lit, World.cell?_alloc_past _ _ _ (by show b < _; exact hb)]
        exact hc j hjl
      have h1c : Hid (∀ u ∈ ints zs, u.oneCell' = true) := fun u hu => by
        obtain ⟨z, _, rfl⟩ := List.mem_map.1 hu
        rfl
      have hil : Hid ((ints zs).length = n * 1) := by show _ = _; rw [ints_len, HN.out, Nat.mul_one]
      have h3 : 0 + n ≤ maxLen := by unfold maxLen; omega
      have h4 : (0 + n) * 8 ≤ 140737488355328 := by omega
      have h5 : w.heap.size ≤ (w.alloc (.cells #[] 3)).heap.size := by simp
      have HO := Lib.hid hown0
      clear hn hown0 hc
      go_wp2_with (at_builtin; refine wpList_append_own _ rfl _ _ 29 rfl w.heap.size 3 i0 (.int .i64 0) 1 8 Try.underlying29 hi0 hz0 hz1 hz2 rfl (by decide) _ _ _ rfl HO.out ⟨b, off, none⟩ n c (ints zs) rfl hil.out hnews.out h1c.out h3 h4 h5 ?_)
      intro v1 w1 hown1 hg1 _
      obtain ⟨g, cp, rfl⟩ : ∃ g cp, v1 = .slice (some ⟨g, 0, none⟩) n cp := by
        rcases hown1.2 with ⟨_, e0⟩ | ⟨g, cp, cur, e, _⟩
        · omega
        · exact ⟨g, cp, e⟩
      have hown2 : Hid (w1.ownsRow w.heap.size 3 1 (.slice (some ⟨g, 0, none⟩) n cp) n (ints zs)) := by
        exact hown1
      have hbx := hbA.grown hg1 h5 (fun j hj => (HO.out.lt j hj).1)
      clear hown1 hg1
      go_wp2
      go_meet
      exact ⟨g, cp, rfl, hown2, hbx⟩
  case rest =>
    obtain ⟨g, cp, rfl, HO, hbx⟩ := hcut
    clear hown0 hbA hr hn
    go_wp2
    go_loopw [6] (fun x wr => ∃ (k : Nat) (cur : List Int), k ≤ n ∧ x = .int .i64 ((n : Int) - 1 - k) ∧ Hid (wr.ownsRow w.heap.size 3 1 (.slice (some ⟨g, 0, none⟩) n cp) n (ints cur)) ∧ Hid (M.Fol i zs k cur) ∧ Below w.heap.size w wr) (fun x _ => ((intOf x) + 1).toNat)
    case atStart => exact ⟨0, zs, Nat.zero_le _, by go_num, HO, M.Fol.start i zs, hbx⟩
    case round =>
      obtain ⟨k, cur, hk, rfl, HO2, HF, hbr⟩ := hrel
      clear HO hbx
      by_cases hlt : k < n
      · obtain ⟨j, hj⟩ : ∃ j : Nat, n = k + 1 + j := ⟨n - (k + 1), by omega⟩
        have hji : (n : Int) - 1 - k = (j : Int) := by omega
        have hjn : j < n := by omega
        have HJ := Lib.hid hj
        rw [hji]
        have hlz : k < zs.length := by rw [HN.out]; exact hlt
        have hjj : zs.length - 1 - k = j := by rw [HN.out]; omega
        obtain ⟨z, hc, hf, hbg, hz⟩ := own_cellI HO2.out (k := j) (by omega)
        have hz' : cur[zs.length - 1 - k]?.getD 0 = z := by rw [hjj]; exact hz.out
        obtain ⟨hv1, hv2⟩ := HF.out.val hlz hz' HV.out
        have hwg : w.heap.size ≤ (⟨g, j, none⟩ : Addr).block := hbg
        by_cases hup : z < i - 1
        · have HU : Hid (R = cur.set j (z + 1)) := by
            have := HRE.out.symm.trans (HF.out.up hlz hz' hup)
            rwa [hjj] at this
          have HL : Hid (R.length = n) := by
            show _ = _
            rw [HU.out, List.length_set, HF.out.len (Nat.le_of_lt hlz), HN.out]
          have HS := Lib.hid (own_setI (k := j) HO2.out (z + 1))
          have hbr' := hbr.setCell hwg (.int .i64 (z + 1))
          have HP := Lib.hid (hpost.out (.slice (some ⟨g, 0, none⟩) n cp) _ (by show World.ownsRow _ _ _ _ _ _ _; rw [HL.out, HU.out]; exact HS.out) hbr')
          clear hz' hjj hlz hji hj
          go_wp2
          go_ret
          exact HP.out
        · have HU : Hid (M.Fol i zs (k + 1) (cur.set j 0)) := by
            have := HF.out.over hlz hz' hup
            rwa [hjj] at this
          have HS := Lib.hid (own_setI (k := j) HO2.out 0)
          have hbr' := hbr.setCell hwg (.int .i64 0)
          clear hz' hjj hlz hji hj
          go_wp2
          have hj := HJ.out
          go_roundw
          case rel => exact ⟨k + 1, _, by omega, by go_num, HS.out, HU, hbr'⟩
          case measure => simp [intOf] <;> omega
      · obtain rfl : k = n := by omega
        have hm1 : (k : Int) - 1 - k = -1 := by omega
        rw [hm1]
        have hsz := hbr.size
        have HL : Hid (R = cur ++ [0]) := by
          have h1 : M.Fol i zs zs.length cur := by rw [HN.out]; exact HF.out
          have h2 := h1.1
          show _ = _
          rw [← HRE.out, h1.done, h2]
          simp [List.replicate_succ']
        have HL2 : Hid (R.length = k + 1) := by
          show _ = _
          rw [HL.out, List.length_append, HF.out.len (by rw [HN.out]; exact Nat.le_refl _), HN.out]
          rfl
        go_wp2_with (at_builtin; refine wpList_append_own _ rfl _ _ 29 rfl w.heap.size 3 i0 (.int .i64 0) 1 8 Try.underlying29 hi0 hz0 hz1 hz2 rfl (by decide) _ _ _ rfl (HO2.out.alloc _) ⟨wr.heap.size, 0, none⟩ 1 1 [.int .i64 0] rfl rfl ?c1 ?c2 ?c3 ?c4 ?c5 ?_)
        case c1 => exact (cell_one_new _ _ _)
        case c2 => intro u hu; simp at hu; subst hu; rfl
        case c3 => unfold maxLen; omega
        case c4 => omega
        case c5 => simp; omega
        intro v1 w1 hown1 hg1 _
        obtain ⟨hown2, hbr2⟩ := own_step hbr hsz HO2.out hown1 hg1
        have HP := Lib.hid (hpost.out v1 w1 (by show World.ownsRow _ _ _ _ _ _ _; rw [HL2.out, HL.out]; exact hown2) hbr2)
        clear hown1 hg1 hown2
        go_wp2
        go_ret
        exact HP.out
end Go.Proofs.Ytonnplhiaidjnaa

namespace Go.Proofs.Ytonnplhiaidjnaa
open Go.RowKit
open Mc (Ed Ma)

theorem snext_at (A : Option Addr) (n c : Nat) (zs : List Int) (i : Int) (w : World) (hr : Rd w A zs) (hn : zs.length = n) (hi : 1 ≤ i) (hi2 : i ≤ 100) (hl : n ≤ 65536) (hv : M.Val i zs) :
    Calls Try.prog 67 #[.slice A n c, .int .i64 i] w fun e w' => ∃ B k d, e = .returned (.slice B k d) ∧ Hid ((M.next i zs).length = k) ∧ k ≤ n + 1 ∧ Rd w' B (M.next i zs) ∧ Below w.heap.size w w' := by
  refine (snext_any A n c zs i w hr hn hi hi2 hl hv).mono ?_
  rintro e w' ⟨V, rfl, hV, hb⟩
  have hw := hV.out
  obtain ⟨B, d, rfl, _⟩ := own_formI hw
  exact ⟨B, _, d, rfl, rfl, by have := (M.next_val hi _ zs rfl hv).2.2; omega, Rd.of_own hw, hb⟩
section
variable (m : Ma) (i : Nat) (o : Int) (A : Option Addr) (n c : Nat) (w : World)
theorem sameb_at (X Y : Option Addr) (k c d : Nat) (x y : List Int) (b : Bool) (hx : Rd w X x) (hy : Rd w Y y) (h1 : x.length = k) (h2 : y.length = k) (hk : k ≤ 1000000) (hb : M.same x y = b) :
    Calls Try.prog 18 #[.slice X k c, .slice Y k d] w fun e w' => e = .returned (.bool b) ∧ Below w.heap.size w w' := by
  have := same_at w X Y k c d x y hx hy h1 h2 hk
  rwa [hb] at this
set_option maxRecDepth 100000 in
theorem rsplits_any (s t : Nat) (W : Option Addr) (k d : Nat) (ws : List Int) (b : Bool) (v : Mc.Val m) (hi : m.i = i) (ho : m.o = o) (hn : m.r.length = n) (hk : ws.length = k) (hr : RdR w A m.r) (hw : Rd w W ws) (hs : s < n) (ht : t < n) (hwd : Mc.Wd m ws) (hl : k ≤ 65536)
    (hb : M.same (Mc.run m s ws) (Mc.run m t ws) = b) :
    Calls Try.prog 39 #[.agg #[.int .i64 i, .int .i64 o, .slice A n c], .slice W k d, .int .i64 s, .int .i64 t] w fun e w' => e = .returned (.int .i64 (if b then 0 else 1)) ∧ Below w.heap.size w w' := by
  have EB : Below w.heap.size w (boxM w i o A n c) := (Below.refl _ _).alloc (Nat.le_refl _) _
  obtain ⟨m0, m1, m2⟩ := BxM.cells (BxM.new w i o A n c)
  have lg : w.heap.size < (boxM w i o A n c).heap.size := by simp
  obtain ⟨X, hX⟩ : ∃ X, boxM w i o A n c = X := ⟨_, rfl⟩
  rw [hX] at EB m0 m1 m2 lg
  have KP : ∀ w', Below X.heap.size X w' → w'.cell? ⟨w.heap.size, 0, none⟩ = some (.int .i64 i) ∧ w'.cell? ⟨w.heap.size, 1, none⟩ = some (.int .i64 o) ∧ w'.cell? ⟨w.heap.size, 2, none⟩ = some (.slice A n c) := fun w' y =>
    ⟨(y.cell (p := ⟨w.heap.size, 0, none⟩) lg).trans m0, (y.cell (p := ⟨w.heap.size, 1, none⟩) lg).trans m1, (y.cell (p := ⟨w.heap.size, 2, none⟩) lg).trans m2⟩
  have HV := Lib.hid v
  have HI := Lib.hid hi
  have HO := Lib.hid ho
  have HN := Lib.hid hn
  have HK := Lib.hid hk
  have HW := Lib.hid hwd
  have hS1 : Hid (Mc.St m (s : Int)) := Or.inr ⟨by omega, by omega⟩
  have hS2 : Hid (Mc.St m (t : Int)) := Or.inr ⟨by omega, by omega⟩
  have HBB := Lib.hid hb
  have y0 : Below X.heap.size X X.drew := (Below.refl _ _).drew
  have hrD := hr.below (below_next EB y0)
  have hwD := hw.below (below_next EB y0)
  have HRR := Lib.hid hr
  have HWW := Lib.hid hw
  clear hr hw v hi ho hn hk hwd hb
  go_enter Try.func39, Try.ntmps39
  go_upto_region 1 with fail
  try rw [show w.alloc (.cells #[.int .i64 i, .int .i64 o, .slice A n c] 27) = X from hX]
  go_region_held3 (fun w' => w'.cell? ⟨w.heap.size, 0, none⟩ = some (.int .i64 i) ∧ w'.cell? ⟨w.heap.size, 1, none⟩ = some (.int .i64 o) ∧ w'.cell? ⟨w.heap.size, 2, none⟩ = some (.slice A n c))
    (first | exact ⟨x30, x31, x32⟩ | exact ⟨x20, x21, x22⟩ | exact ⟨x10, x11, x12⟩ | exact ⟨m0, m1, m2⟩ | go_keep)
    (first
      | (go_at_call 25
         (with_reducible refine (rrun_at m i o A n c _ s W k d ws HV.out HI.out HO.out HN.out HK.out hrD hwD hS1.out HW.out hl).mono ?_)
         rintro e wa1 ⟨B6, q6, rfl, hr6, hb3⟩
         have y1 := below_next y0 hb3
         have hr1 := HRR.out.below (below_next EB y1)
         have hw1 := HWW.out.below (below_next EB y1)
         obtain ⟨x10, x11, x12⟩ := KP _ y1
         dsimp only)
      | (go_at_call 25
         (with_reducible refine (rrun_at m i o A n c _ t W k d ws HV.out HI.out HO.out HN.out HK.out hr1 hw1 hS2.out HW.out hl).mono ?_)
         rintro e wa2 ⟨B7, q7, rfl, hr7, hb4⟩
         have y2 := below_next y1 hb4
         have hr6b := hr6.below hb4
         obtain ⟨x20, x21, x22⟩ := KP _ y2
         dsimp only)
      | (go_at_call 18
         (with_reducible refine (sameb_at _ B6 B7 k q6 q7 (Mc.run m s ws) (Mc.run m t ws) b hr6b hr7 (by rw [Mc.run_len]; exact HK.out) (by rw [Mc.run_len]; exact HK.out) (by omega) HBB.out).mono ?_)
         rintro e wa3 ⟨rfl, hb5⟩
         have y3 := below_next y2 hb5
         obtain ⟨x30, x31, x32⟩ := KP _ y3
         dsimp only)
      | fail)
  all_goals
    have hbF := Lib.hid (below_next EB y3)
    clear HBB
    cases b with
    | true =>
      go_wp2_with fail
      go_ret
      exact ⟨rfl, hbF.out⟩
    | false =>
      go_wp2_with fail
      go_ret
      exact ⟨rfl, hbF.out⟩
set_option maxRecDepth 100000 in
set_option maxHeartbeats 1000000 in
theorem rseparate_any (s t L : Nat) (v : Mc.Val m) (hi : m.i = i) (ho : m.o = o) (hn : m.r.length = n) (hr : RdR w A m.r) (hs : s < n) (ht : t < n) (hL : Mc.sl m s t = L) :
    Calls Try.prog 34 #[.agg #[.int .i64 i, .int .i64 o, .slice A n c], .int .i64 s, .int .i64 t] w fun e w' => ∃ B d, e = .returned (.tuple #[.slice B L d, .bool (decide (0 < L))]) ∧ Rd w' B (Mc.sepw m s t) ∧ Below w.heap.size w w' := by
  have EB : Below w.heap.size w (boxM w i o A n c) := (Below.refl _ _).alloc (Nat.le_refl _) _
  have HM := Lib.hid (BxM.new w i o A n c)
  obtain ⟨K, hK⟩ : ∃ K, max n 2 = K := ⟨_, rfl⟩
  have hK2 : max (n : Int) 2 = K := by omega
  have hn64 : n ≤ 64 := by have := v.r1; omega
  have hK64 : K ≤ 64 := by omega
  have hnK : n ≤ K := by omega
  have hi1 : 1 ≤ m.i := v.i0
  have hi16 : m.i ≤ 16 := v.i1
  have hsN : s < m.r.length := by omega
  have htN : t < m.r.length := by omega
  have CS := fun ws W k d w b hk hr hw hwd hl hb => rsplits_any m i o A n c w s t W k d ws b v hi ho hn hk hr hw hs ht hwd hl hb
  have HV := Lib.hid v
  have HI := Lib.hid hi
  have HN := Lib.hid hn
  have HL := Lib.hid hL
  have hI1 : 1 ≤ i := by omega
  have hI16 : i ≤ 16 := by omega
  have HR := Lib.hid hr
  obtain ⟨X, hX⟩ : ∃ X, (boxM w i o A n c).alloc (.cells #[] 3) = X := ⟨_, rfl⟩
  have hb0 : Hid (Below w.heap.size w X) := by show Below _ _ _; rw [← hX]; exact EB.alloc (by simp) _
  have hMX : Hid (BxM X w.heap.size i o A n c) := by show BxM _ _ _ _ _ _ _; rw [← hX]; exact HM.out.mvB ((Below.refl _ _).alloc (Nat.le_refl _) _)
  have hlt0 : w.heap.size < X.heap.size := heap_lt hMX.out
  have hbx : Hid (Below X.heap.size X X) := Below.refl _ _
  have hS0 := Lib.hid (Mc.SI.start (s := s) (t := t) v)
  clear EB v hi ho hn hr hL hK HM
  go_enter Try.func34, Try.ntmps34
  go_wp2_with fail
  try rw [show (w.alloc (.cells #[.int .i64 i, .int .i64 o, .slice A n c] 27)).alloc (.cells #[] 3) = X from hX]
  clear hX
  go_loopg [8] (Mc.far2 m K []) (fun k v wr => ∃ (x : List Int) (l : Nat) (B : Option Addr) (d : Nat), v = .slice B l d ∧ l ≤ K ∧ k = Mc.far2 m K x ∧ Hid (x.length = l) ∧ Hid (Rd wr B x) ∧ Hid (Mc.SI m s t x) ∧ Hid (Below X.heap.size X wr))
  case atStart => exact ⟨[], 0, _, _, rfl, Nat.zero_le _, rfl, rfl, (fun h => by simp at h), hS0, hbx⟩
  case round =>
    clear hS0 hbx
    obtain ⟨x, l, B, d, rfl, hl, hgk, hxl, hx, hS, hbr⟩ := hrel
    obtain ⟨m0, m1, m2⟩ := BxM.cells (hMX.out.mvB hbr.out)
    have hbw := Lib.hid (below_next hb0.out hbr.out)
    by_cases hlt : l < K
    · have hlt' : (l : Int) < K := by omega
      cases hb : M.same (Mc.run m s x) (Mc.run m t x) with
      | true =>
        have C1 := CS x B l d wr true hxl.out (HR.out.below hbw.out) hx.out hS.out.wd (by omega) hb
        have hS2 := Lib.hid (hS.out.step HV.out (Mc.same_iff'.1 hb))
        have hF := Lib.hid (Mc.far2_lt HV.out (k := K) hS.out.wd (by rw [hxl.out]; exact hlt))
        clear hb
        go_wp2_with fail
        refine C1.mono ?_
        rintro e w1 ⟨rfl, hb1⟩
        have hbr1 := below_next hbr.out hb1
        have hx1 := hx.out.below hb1
        clear m0 m1 m2 C1 hbw
        obtain ⟨m0, m1, m2⟩ := BxM.cells (hMX.out.mvB hbr1)
        go_wp2_with fail
        clear m0 m1 m2
        refine (snext_at B l d x i _ hx1 hxl.out (by omega) (by omega) (by omega) (by have := hS.out.wd; unfold Mc.Wd at this; rwa [HI.out] at this)).mono ?_
        rintro e w2 ⟨B2, l2, d2, rfl, hl2, hl3, hx2, hb2⟩
        have hbr2 := Lib.hid (below_next hbr1 hb2)
        have hS3 : Hid (Mc.SI m s t (M.next i x)) := by have := hS2.out; rwa [HI.out] at this
        have hF3 : Hid (Mc.far2 m K (M.next i x) < Mc.far2 m K x) := by have := hF.out; rwa [HI.out] at this
        have HX2 := Lib.hid hx2
        clear hx2 hb2 hbr1 hx1
        go_wp2_with fail
        go_roundg (Mc.far2 m K (M.next i x))
        case measure => rw [hgk]; exact hF3.out
        case rel => exact ⟨M.next i x, l2, B2, d2, rfl, by omega, rfl, hl2, HX2, hS3, hbr2⟩
      | false =>
        have C1 := CS x B l d wr false hxl.out (HR.out.below hbw.out) hx.out hS.out.wd (by omega) hb
        have hit := Lib.hid (hS.out.hit HV.out hsN htN (fun e => by rw [e, M.same_yes rfl] at hb; cases hb))
        clear hb
        go_wp2_with fail
        refine C1.mono ?_
        rintro e w1 ⟨rfl, hb1⟩
        have hbF := Lib.hid (below_next hbw.out hb1)
        have hx1 := Lib.hid (hx.out.below hb1)
        have hlL : l = L := by rw [← hxl.out, hit.out.2, Mc.sepw_len, HL.out]
        have hL0 : 0 < l := by have := hit.out.1; have := HL.out; omega
        clear hbw hb1 C1
        go_wp2_with fail
        go_returns
        subst hlL
        exact ⟨B, d, by simp [hL0], by rw [← hit.out.2]; exact hx1.out, hbF.out⟩
    · obtain rfl : l = K := by omega
      have hlt' : ¬ (l : Int) < l := by omega
      have hz := hS.out.fin HV.out hsN htN (by rw [hxl.out, HN.out]; exact hnK)
      have hL0 : L = 0 := by rw [← HL.out]; exact hz
      have HS : Hid (Mc.sepw m s t = []) := List.length_eq_zero_iff.1 (by rw [Mc.sepw_len]; exact hz)
      go_wp2_with fail
      go_returns
      subst hL0
      exact ⟨none, ⟨0, rfl⟩, by rw [HS.out]; exact Rd.nil_, hbw.out⟩
end
end Go.Proofs.Ytonnplhiaidjnaa
