/-
  Contracts of splits: check, Separate. No statement is proved here.
-/
import Derived.Test.YtonnplhiaidjnaaSqC
import Derived.Test.YtonnplhiaidjnaaRb1
import Derived.Deep.RegionHeld3
namespace Go.Proofs.Ytonnplhiaidjnaa
open Go.RowKit
open Mc (Ed Ma)

namespace Mc
/-- A state that there is. -/
def inS (m : Ma) (s : Int) : Bool := decide (0 ≤ s) && decide (s < m.r.length)
/-- The error of a machine and some of its states. -/
def skE (m : Ma) (ss : List Int) : Int := if chk m ≠ 0 then chk m else if ss.all (inS m) then 0 else 1
theorem skE_nil (m : Ma) : skE m [] = chk m := by
  unfold skE
  by_cases h : chk m = 0
  · simp [h]
  · simp [h]
theorem skE_bad {m : Ma} {ss : List Int} (h : chk m ≠ 0) : skE m ss = chk m := by unfold skE; rw [if_pos h]
theorem skE_out {m : Ma} {ss : List Int} {k : Nat} {s : Int} (h : chk m = 0) (hs : ss[k]? = some s) (hi : inS m s = false) : skE m ss = 1 := by
  unfold skE
  rw [if_neg (by rw [h]; simp), if_neg]
  intro h2
  have := List.all_eq_true.1 h2 s (List.mem_of_getElem? hs)
  rw [hi] at this
  cases this
theorem skE_ok {m : Ma} {ss : List Int} (h : chk m = 0) (hi : ss.all (inS m) = true) : skE m ss = 0 := by
  unfold skE
  rw [if_neg (by rw [h]; simp), if_pos hi]
theorem inS_nat {m : Ma} {s : Nat} (h : s < m.r.length) : inS m s = true := by unfold inS; simp; omega
theorem skE_two {m : Ma} {s t : Int} (h : skE m [s, t] = 0) : chk m = 0 ∧ 0 ≤ s ∧ s < m.r.length ∧ 0 ≤ t ∧ t < m.r.length := by
  by_cases h1 : chk m = 0
  · refine ⟨h1, ?_⟩
    unfold skE at h
    rw [if_neg (by rw [h1]; simp)] at h
    by_cases h2 : [s, t].all (inS m) = true
    · simp [inS] at h2
      exact ⟨h2.1.1, h2.1.2, h2.2.1, h2.2.2⟩
    · rw [if_neg h2] at h; cases h
  · rw [skE_bad h1] at h; exact absurd h h1
end Mc

set_option maxRecDepth 100000 in
theorem scheck_any (i o : Int) (rs : List (List Ed)) (A S : Option Addr) (n c k d : Nat) (ss : List Int) (w : World) (hr : RdR w A rs) (hs : Rd w S ss) (hn : rs.length = n) (hk : ss.length = k) (hnb : n ≤ 1000000) (hrl : ∀ row ∈ rs, row.length ≤ 1000000) (hkb : k ≤ 1000000) :
    Calls Try.prog 64 #[.agg #[.int .i64 i, .int .i64 o, .slice A n c], .slice S k d] w fun e w' => e = .returned (.int .i64 (Mc.skE ⟨i, o, rs⟩ ss)) ∧ Below w.heap.size w w' := by
  have EB : Below w.heap.size w (boxM w i o A n c) := (Below.refl _ _).alloc (Nat.le_refl _) _
  have C1 := pcheck_any i o rs A n c _ (hr.below EB) hn hnb hrl
  have HM := Lib.hid (BxM.new w i o A n c)
  have HB := Lib.hid EB
  have HN := Lib.hid hn
  have HK := Lib.hid hk
  have HS := Lib.hid hs
  obtain ⟨E, hE⟩ : ∃ E, Mc.chk ⟨i, o, rs⟩ = E := ⟨_, rfl⟩
  have HE := Lib.hid hE
  rw [hE] at C1
  obtain ⟨m0, m1, m2⟩ := BxM.cells HM.out
  clear EB hn hk hs hE hr hrl
  go_enter Try.func64, Try.ntmps64
  go_wp2_with fail
  refine C1.mono ?_
  rintro e w1 ⟨rfl, hb1⟩
  have hM1 := Lib.hid (HM.out.mvB hb1)
  have hb2 := Lib.hid (below_next HB.out hb1)
  clear C1 m0 m1 m2 hb1
  by_cases h0 : E = 0
  · subst h0
    have hz : Hid (Below w1.heap.size w1 w1) := Below.refl _ _
    go_wp2_with fail
    go_loopw [15] (fun v wr => ∃ j : Nat, j ≤ k ∧ v = .int .i64 j ∧ Hid ((ss.take j).all (Mc.inS ⟨i, o, rs⟩) = true) ∧ Hid (Below w1.heap.size w1 wr)) (fun v _ => k - (intOf v).toNat)
    case atStart => exact ⟨0, Nat.zero_le _, rfl, by simp [Hid], hz⟩
    case round =>
      clear hz
      obtain ⟨j, hj, rfl, hall, hbr⟩ := hrel
      by_cases hjk : j < k
      · have hjk' : decide ((j : Int) < k) = true := decide_eq_true (by omega)
        have hbw := below_next hb2.out hbr.out
        obtain ⟨b, off, s, rfl, hb, hc, hsv⟩ := HS.out.at_ (k := j) (by have := HK.out; omega)
        have hc2 := (hbw.cell (p := ⟨b, off + j, none⟩) hb).trans hc
        obtain ⟨_, _, m2⟩ := BxM.cells (hM1.out.mvB hbr.out)
        have hbF := Lib.hid hbw
        have hat : Hid (ss[j]? = some s) := by
          have hjl : j < ss.length := by have := HK.out; omega
          show _ = _
          rw [← hsv.out, List.getElem?_eq_getElem hjl]
          rfl
        by_cases h1 : s < 0
        · have d1 : decide (s < 0) = true := decide_eq_true h1
          have hf : Hid (Mc.skE ⟨i, o, rs⟩ ss = 1) := Mc.skE_out HE.out hat.out (by unfold Mc.inS; simp; omega)
          clear hbw hc hb hsv
          go_wp2_with fail
          go_ret
          exact ⟨ret_int hf.out.symm, hbF.out⟩
        · have d1 : decide (s < 0) = false := decide_eq_false h1
          by_cases h2 : (n : Int) ≤ s
          · have d2 : decide ((n : Int) ≤ s) = true := decide_eq_true h2
            have hf : Hid (Mc.skE ⟨i, o, rs⟩ ss = 1) := Mc.skE_out HE.out hat.out (by unfold Mc.inS; simp; intro _; have := HN.out; omega)
            clear hbw hc hb hsv
            go_wp2_with fail
            go_ret
            exact ⟨ret_int hf.out.symm, hbF.out⟩
          · have d2 : decide ((n : Int) ≤ s) = false := decide_eq_false h2
            have hn2 : Hid ((ss.take (j + 1)).all (Mc.inS ⟨i, o, rs⟩) = true) := by
              show _ = _
              rw [List.take_add_one, hat.out, List.all_append, hall.out]
              simp [Mc.inS]
              have := HN.out
              omega
            clear hbw hc hb hsv hall
            go_wp2_with fail
            go_roundw
            case rel => exact ⟨j + 1, by omega, by go_num, hn2, hbr⟩
            case measure => simp [intOf]; omega
      · have hjk' : decide ((j : Int) < k) = false := decide_eq_false (by omega)
        have hf : Hid (Mc.skE ⟨i, o, rs⟩ ss = 0) := Mc.skE_ok HE.out (by have := hall.out; rwa [List.take_of_length_le (by have := HK.out; omega)] at this)
        have hbF := Lib.hid (below_next hb2.out hbr.out)
        clear hall
        go_wp2_with fail
        go_ret
        exact ⟨ret_int hf.out.symm, hbF.out⟩
  · have hne : (E != 0) = true := by simp [h0]
    have hf : Hid (Mc.skE ⟨i, o, rs⟩ ss = E) := by show _ = _; rw [Mc.skE_bad (by rw [HE.out]; exact h0), HE.out]
    go_wp2_with fail
    go_ret
    exact ⟨ret_int hf.out.symm, hb2.out⟩

section
variable (i o : Int) (rs : List (List Ed)) (A : Option Addr) (n c : Nat) (s t : Int) (w : World)
set_option maxRecDepth 100000 in
theorem separate_err (hr : RdR w A rs) (hn : rs.length = n) (hnb : n ≤ 1000000) (hrl : ∀ row ∈ rs, row.length ≤ 1000000) (E : Int) (hE : Mc.skE ⟨i, o, rs⟩ [s, t] = E) (hne : E ≠ 0) :
    Calls Try.prog 33 #[.agg #[.int .i64 i, .int .i64 o, .slice A n c], .int .i64 s, .int .i64 t] w fun e w' => e = .returned (.tuple #[.slice none 0 0, .bool false, .int .i64 E]) ∧ Below w.heap.size w w' := by
  have b1 : Below w.heap.size w (boxM w i o A n c) := (Below.refl _ _).alloc (Nat.le_refl _) _
  have b2 : Below w.heap.size w ((boxM w i o A n c).alloc (.cells #[.int .i64 s, .int .i64 t] 3)) := b1.alloc (by simp) _
  have C1 := scheck_any i o rs A (some ⟨(boxM w i o A n c).heap.size, 0, none⟩) n c 2 2 [s, t] _ (hr.below b2) (rd_lit (boxM w i o A n c) [s, t]) hn rfl hnb hrl (by omega)
  rw [hE] at C1
  have hsz : (boxM w i o A n c).heap.size = w.heap.size + 1 := by simp
  rw [hsz] at C1
  have HB := Lib.hid b2
  have hne' : (E != 0) = true := by simp [hne]
  obtain ⟨m0, m1, m2⟩ := BxM.cells (BxM.new w i o A n c)
  clear b1 b2 hr hrl hE hsz
  go_enter Try.func33, Try.ntmps33
  go_wp2_with fail
  refine C1.mono ?_
  rintro e w1 ⟨rfl, hb1⟩
  have hbF := Lib.hid (below_next HB.out hb1)
  go_wp2_with fail
  go_returns
  exact ⟨rfl, hbF.out⟩
end
section
variable (m : Ma) (i : Nat) (o : Int) (A : Option Addr) (n c : Nat) (w : World)
theorem box2 (s t : Int) (E : Int) (v : Mc.Val m) (hi : m.i = i) (ho : m.o = o) (hn : m.r.length = n) (hr : RdR w A m.r) (hE : Mc.skE m [s, t] = E) :
    Calls Try.prog 64 #[.agg #[.int .i64 i, .int .i64 o, .slice A n c], .slice (some ⟨w.heap.size + 1, 0, none⟩) 2 2] ((boxM w i o A n c).alloc (.cells #[.int .i64 s, .int .i64 t] 3)) fun e w' => e = .returned (.int .i64 E) ∧ Below ((boxM w i o A n c).alloc (.cells #[.int .i64 s, .int .i64 t] 3)).heap.size ((boxM w i o A n c).alloc (.cells #[.int .i64 s, .int .i64 t] 3)) w' := by
  have b1 : Below w.heap.size w (boxM w i o A n c) := (Below.refl _ _).alloc (Nat.le_refl _) _
  have b2 : Below w.heap.size w ((boxM w i o A n c).alloc (.cells #[.int .i64 s, .int .i64 t] 3)) := b1.alloc (by simp) _
  have hn64 := v.r1
  have C1 := scheck_any m.i m.o m.r A (some ⟨(boxM w i o A n c).heap.size, 0, none⟩) n c 2 2 [s, t] _ (hr.below b2) (rd_lit (boxM w i o A n c) [s, t]) hn rfl (by omega) (fun row hrow => by have := v.len row hrow; have := v.i1; omega) (by omega)
  rw [show (boxM w i o A n c).heap.size = w.heap.size + 1 by simp] at C1
  rw [show Mc.skE ⟨m.i, m.o, m.r⟩ [s, t] = E from hE] at C1
  rw [hi, ho] at C1
  exact C1
set_option maxRecDepth 100000 in
set_option maxHeartbeats 1000000 in
theorem separate_ok (s t L : Nat) (v : Mc.Val m) (hi : m.i = i) (ho : m.o = o) (hn : m.r.length = n) (hr : RdR w A m.r) (hs : s < n) (ht : t < n) (hL : Mc.sl m s t = L) :
    Calls Try.prog 33 #[.agg #[.int .i64 i, .int .i64 o, .slice A n c], .int .i64 s, .int .i64 t] w fun e w' => ∃ B, e = .returned (.tuple #[.slice (some ⟨B, 0, none⟩) L L, .bool (decide (0 < L)), .int .i64 0]) ∧ Rd w' (some ⟨B, 0, none⟩) (Mc.sepw m s t) ∧ Below w.heap.size w w' := by
  have C1 := box2 m i o A n c w s t 0 v hi ho hn hr (Mc.skE_ok (Mc.chk_of v) (by simp [Mc.inS]; omega))
  obtain ⟨W0, hW0⟩ : ∃ W0, (boxM w i o A n c).alloc (.cells #[.int .i64 s, .int .i64 t] 3) = W0 := ⟨_, rfl⟩
  have b2 : Below w.heap.size w W0 := by rw [← hW0]; exact ((Below.refl _ _).alloc (Nat.le_refl _) _).alloc (by simp) _
  have hM : BxM W0 w.heap.size i o A n c := by rw [← hW0]; exact (BxM.new w i o A n c).mvB ((Below.refl _ _).alloc (Nat.le_refl _) _)
  rw [hW0] at C1
  have CS := fun w hr => search_any m i o A n c w v hi hn hr
  have CW := fun g f h w hr H hT => word_any m i o A n c g f h s t w v hi hn hr H hT hs ht
  simp only [hL] at CW
  have HB := Lib.hid b2
  have HM := Lib.hid hM
  have HR := Lib.hid hr
  have hL64 : L < 64 := by
    have h1 := Mc.sl_lt v (s := s) (t := t) (by omega) (by omega)
    have := v.r1
    omega
  obtain ⟨m0, m1, m2⟩ := BxM.cells (BxM.new w i o A n c)
  clear b2 hM hr v hi hn hL
  go_enter Try.func33, Try.ntmps33
  go_upto_region 1 with fail
  go_wp2_with fail
  try rw [show (w.alloc (.cells #[.int .i64 i, .int .i64 o, .slice A n c] 27)).alloc (.cells #[.int .i64 s, .int .i64 t] 3) = W0 from hW0]
  refine C1.mono ?_
  rintro e w1 ⟨rfl, hb1⟩
  have hM1 := HM.out.mvB hb1
  have hb2 := below_next HB.out hb1
  clear C1 m0 m1 m2 hb1 hW0 HM HB
  obtain ⟨m0, m1, m2⟩ := BxM.cells hM1
  have lg : w.heap.size < w1.heap.size := heap_lt hM1
  go_upto_region 4 with fail
  have KP : ∀ w', Below w1.heap.size w1 w' → w'.cell? ⟨w.heap.size, 0, none⟩ = some (.int .i64 i) ∧ w'.cell? ⟨w.heap.size, 1, none⟩ = some (.int .i64 o) ∧ w'.cell? ⟨w.heap.size, 2, none⟩ = some (.slice A n c) := fun w' y =>
    ⟨(y.cell (p := ⟨w.heap.size, 0, none⟩) lg).trans m0, (y.cell (p := ⟨w.heap.size, 1, none⟩) lg).trans m1, (y.cell (p := ⟨w.heap.size, 2, none⟩) lg).trans m2⟩
  have y0 : Below w1.heap.size w1 w1.drew := (Below.refl _ _).drew
  have hrD := HR.out.below (below_next hb2 y0)
  go_region_held3 (fun w' => w'.cell? ⟨w.heap.size, 0, none⟩ = some (.int .i64 i) ∧ w'.cell? ⟨w.heap.size, 1, none⟩ = some (.int .i64 o) ∧ w'.cell? ⟨w.heap.size, 2, none⟩ = some (.slice A n c))
    (first | exact ⟨x20, x21, x22⟩ | exact ⟨x10, x11, x12⟩ | exact ⟨m0, m1, m2⟩ | go_keep)
    (first
      | (go_at_call 65
         (with_reducible refine (CS _ hrD).mono ?_)
         rintro e wa1 ⟨g, f, h, rfl, hgw, hH, hT, hb3⟩
         have y1 := below_next y0 hb3.out
         have hr1 := HR.out.below (below_next hb2 y1)
         have hH1 := hH.out
         have hT1 := hT.out
         obtain ⟨x10, x11, x12⟩ := KP _ y1
         dsimp only)
      | (go_at_call 66
         (with_reducible refine (CW g f h _ hr1 hH1 hT1).mono ?_)
         rintro e wa2 ⟨B, rfl, hgB, hBk, hb4⟩
         have y2 := below_next y1 hb4
         obtain ⟨x20, x21, x22⟩ := KP _ y2
         dsimp only)
      | fail)
  all_goals
    have hbF := Lib.hid (below_next hb2 y2)
    clear KP y0 y1 y2 x10 x11 x12 x20 x21 x22 m0 m1 m2 hr1 hH1 hT1 hH hT hb3 hb4 hrD hM1 hb2
    go_wp2_with fail
    go_returns
    exact ⟨B, rfl, hBk.out.rd, hbF.out⟩
end
end Go.Proofs.Ytonnplhiaidjnaa
