/-
  Contract of the reference of layer 8: After. No statement is proved here.
-/
import Derived.Test.YtonnplhiaidjnaaStY
import Derived.Test.YtonnplhiaidjnaaSqH
import Derived.Test.YtonnplhiaidjnaaSkA
namespace Go.Proofs.Ytonnplhiaidjnaa
open Go.RowKit
open Mc (Ed Ma)

section
variable (m : Ma) (i : Nat) (o : Int) (A W : Option Addr) (n c kw dw : Nat) (ws : List Int) (w : World)
set_option maxRecDepth 100000 in
set_option maxHeartbeats 2000000 in
theorem rsafter_any (v : Mc.Val m) (hi : m.i = i) (ho : m.o = o) (hn : m.r.length = n) (hkw : ws.length = kw) (hr : RdR w A m.r) (hw : Rd w W ws) (hwd : Mc.Wd m ws) (hkb : kw ≤ 65536) :
    Calls Try.prog 44 #[.agg #[.int .i64 i, .int .i64 o, .slice A n c], .slice W kw dw] w fun e w' => ∃ B q, e = .returned (.slice B n q) ∧ Rd w' B (M.ofL (Mc.stn m ws)) ∧ Below w.heap.size w w' := by
  have hn64 : n ≤ 64 := by have := v.r1; omega
  obtain ⟨j0, hj0, hy0, hy1, hy2⟩ := info_parts int_info
  have CS := fun s t b w hr hw hs ht hb => rsplits_any m i o A n c w s t W kw dw ws b v hi ho hn hkw hr hw hs ht hwd hkb hb
  have HV := Lib.hid v
  have HN := Lib.hid hn
  have HR := Lib.hid hr
  have HW := Lib.hid hw
  have HM := Lib.hid (BxM.new w i o A n c)
  obtain ⟨X, hX⟩ : ∃ X, boxM w i o A n c = X := ⟨_, rfl⟩
  have hbX : Hid (Below w.heap.size w X) := by show Below _ _ _; rw [← hX]; exact (Below.refl _ _).alloc (Nat.le_refl _) _
  have HMX : Hid (BxM X w.heap.size i o A n c) := by show BxM _ _ _ _ _ _ _; rw [← hX]; exact HM.out
  have hz : Hid (Below X.heap.size X X) := Below.refl _ _
  have hST : Hid ((Mc.stn m ws).length = n) := by show _ = _; rw [Mc.stn_len]; exact hn
  clear v hi ho hn hkw hr hw hwd HM
  go_enter Try.func44, Try.ntmps44
  go_wp2_with fail
  try rw [show w.alloc (.cells #[.int .i64 i, .int .i64 o, .slice A n c] 27) = X from hX]
  clear hX
  go_loopw [5, 6] (fun x y wr => ∃ s : Nat, s ≤ n ∧ y = .int .i64 s ∧ Hid (wr.ownsRow X.heap.size 3 1 x s (ints ((Mc.stn m ws).take s))) ∧ Hid (Below X.heap.size X wr)) (fun _ y _ => n - (intOf y).toNat)
  case atStart => exact ⟨0, Nat.zero_le _, rfl, World.ownsRow_nil _ _ _ _, hz⟩
  case round =>
    clear hz
    obtain ⟨s, hs, rfl, hown, hbr⟩ := hrel
    obtain ⟨m0, m1, m2⟩ := BxM.cells (HMX.out.mvB hbr.out)
    by_cases hsn : s < n
    · have hsn' : (s : Int) < n := by omega
      have hsN : s < m.r.length := by rw [HN.out]; exact hsn
      go_wp2_with fail
      obtain ⟨wo, rfl⟩ : ∃ wo : World, wo = wr := ⟨_, rfl⟩
      have hz : Hid (Below wo.heap.size wo wo) := Below.refl _ _
      clear m0 m1 m2
      go_loopw [7] (fun y wr => ∃ k : Nat, k ≤ s ∧ y = .int .i64 k ∧ Hid (∀ k', k' < k → Mc.run m s ws ≠ Mc.run m k' ws) ∧ Hid (Below wo.heap.size wo wr)) (fun y _ => n - (intOf y).toNat)
      case atStart => exact ⟨0, Nat.zero_le _, rfl, fun k' h => absurd h (by omega), hz⟩
      case round =>
        clear hz
        obtain ⟨k, hk, rfl, hno, hbk⟩ := hrel
        have hb2 := below_next hbr.out hbk.out
        obtain ⟨m0, m1, m2⟩ := BxM.cells (HMX.out.mvB hb2)
        have hbw := below_next hbX.out hb2
        have hkn : k < n := by omega
        cases hb : Go.Proofs.Ytonnplhiaidjnaa.M.same (Mc.run m s ws) (Mc.run m k ws) with
        | false =>
          have C1 := CS s k false wr (HR.out.below hbw) (HW.out.below hbw) hsn hkn hb
          have hne : Mc.run m s ws ≠ Mc.run m k ws := fun e => by rw [e, M.same_yes rfl] at hb; cases hb
          have hks : k < s := by
            rcases Nat.lt_or_ge k s with h | h
            · exact h
            · have : k = s := by omega
              subst this
              exact absurd rfl hne
          have hno2 : Hid (∀ k', k' < k + 1 → Mc.run m s ws ≠ Mc.run m k' ws) := fun k' h => by
            by_cases e : k' = k
            · subst e; exact hne
            · exact hno.out k' (by omega)
          clear hb hno hbw hb2
          go_wp2_with fail
          clear m0 m1 m2
          refine C1.mono ?_
          rintro e w1 ⟨rfl, hb1⟩
          have hbk2 := Lib.hid (below_next hbk.out hb1)
          clear C1 hbk hb1
          go_wp2_with fail
          go_roundw
          case rel => exact ⟨k + 1, by omega, by go_num, hno2, hbk2⟩
          case measure => simp [intOf]; omega
        | true =>
          have C1 := CS s k true wr (HR.out.below hbw) (HW.out.below hbw) hsn hkn hb
          have hkN : k < m.r.length := by rw [HN.out]; exact hkn
          have hrk : Mc.run m s ws = Mc.run m k ws := Mc.same_iff'.1 hb
          have hfi : Hid ((Mc.stn m ws)[s]? = some (k : Int)) := by
            show _ = _
            rw [Mc.stn_at ws hsN, Mc.fi_of (rows := Mc.rsps m ws) (x := Mc.run m s ws) (j := k) (by rw [Mc.rsps_at ws hkN, hrk]) (fun i hi => by
              rw [Mc.rsps_at ws (by omega)]
              intro e
              injection e with e
              exact hno.out i hi e.symm)]
          clear hb hno hrk hbw hb2
          go_wp2_with fail
          clear m0 m1 m2
          refine C1.mono ?_
          rintro e w1 ⟨rfl, hb1⟩
          have hb2 := Lib.hid (below_next hbr.out (below_next hbk.out hb1))
          have hown0 := own_below hown.out (below_next hbk.out hb1)
          have hsz := hb2.out.size
          have hownA := hown0.alloc (.cells #[.int .i64 k] 3)
          have h1 := Lib.hid (cell_one_new w1 (t := 3) (.int .i64 k))
          have h2 : Hid (∀ u ∈ ([.int .i64 k] : List Value), u.oneCell' = true) := fun u hu => by simp at hu; subst hu; rfl
          have h3 : s + 1 ≤ maxLen := by unfold maxLen; omega
          have h4 : (s + 1) * 8 ≤ 140737488355328 := by omega
          have h5 : X.heap.size ≤ (w1.alloc (.cells #[.int .i64 k] 3)).heap.size := by simp; omega
          have HB2 := hb2
          clear C1 hbk hb1 hown hbr hown0
          go_wp2_with (at_builtin; refine wpList_append_own _ rfl _ _ 29 rfl X.heap.size 3 j0 (.int .i64 0) 1 8 Try.underlying29 hj0 hy0 hy1 hy2 rfl (by decide) _ _ _ rfl hownA ⟨w1.heap.size, 0, none⟩ 1 1 [.int .i64 k] rfl rfl h1.out h2.out h3 h4 h5 ?_)
          intro v1 w5 hown1 hg1 _
          have hb5 := Lib.hid ((HB2.out.alloc hsz (.cells #[.int .i64 k] 3)).grown hg1 h5 (fun j hj => (hownA.lt j hj).1))
          have happ : (Mc.stn m ws).take s ++ [(k : Int)] = (Mc.stn m ws).take (s + 1) := by rw [List.take_add_one, hfi.out]; rfl
          rw [ints_snoc, happ] at hown1
          have hown2 := Lib.hid hown1
          clear hown1 hg1 hownA h1 h2 h3 h4 h5 happ HB2 hb2 hsz hfi
          go_wp2_with fail
          go_roundw
          case rel => exact ⟨s + 1, by omega, by go_num, hown2, hb5⟩
          case measure => simp [intOf]; omega
    · obtain rfl : s = n := by omega
      have hsn' : ¬ (s : Int) < s := by omega
      have h := hown.out
      rw [List.take_of_length_le (by rw [hST.out]; exact Nat.le_refl _)] at h
      obtain ⟨B, q, rfl, _⟩ := own_formI h
      have C4 := rof_any B q (Mc.stn m ws) wr (Rd.of_own h) (by rw [hST.out]; omega)
      rw [hST.out] at C4
      have hbw := Lib.hid (below_next hbX.out hbr.out)
      clear hown h
      go_wp2_with fail
      refine C4.mono ?_
      rintro e w1 ⟨B2, q2, rfl, hrd, _, hb1⟩
      rw [M.ofL_len, hST.out]
      have hbF := Lib.hid (below_next hbw.out hb1)
      have HRD := Lib.hid hrd
      go_wp2_with fail
      go_ret
      exact ⟨B2, q2, rfl, HRD.out, hbF.out⟩
end
end Go.Proofs.Ytonnplhiaidjnaa
