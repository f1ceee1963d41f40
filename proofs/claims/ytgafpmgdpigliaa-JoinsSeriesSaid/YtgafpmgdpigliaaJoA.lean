/-
  Contract: checkRename. No statement is proved here.
-/
import Derived.Test.YtgafpmgdpigliaaJo9
namespace Go.Proofs.Ytgafpmgdpigliaa
open Go.RowKit
open Mc (Ed Ma Wv nE)

/-- All numbers are below n, and none occurs twice. -/
def dstB (l : List Int) (n : Nat) : Bool := decide (Dst l n)
def kerr (c0 c1 c2 d0 d1 d2 z : Bool) : Int := if (c0 && c1 && c2) = false then 16 else if (d0 && d1 && d2) = false then 1 else if z = false then 1 else 0
def zb (l : List Int) : Bool := l[0]? == some 0
/-- The error of Rename. -/
def kech (a : Ma) (ins outs sts : List Int) : Int := if Mc.chk a ≠ 0 then Mc.chk a else kerr ((ins.length : Int) == a.i) ((outs.length : Int) == a.o) ((sts.length : Int) == (a.r.length : Int)) (dstB ins a.i.toNat) (dstB outs a.o.toNat) (dstB sts a.r.length) (zb sts)
/-- What has been found in order so far. -/
def Ok3 (k : Nat) (c0 c1 c2 : Bool) : Prop := (1 ≤ k → c0 = true) ∧ (2 ≤ k → c1 = true) ∧ (3 ≤ k → c2 = true)
set_option maxRecDepth 100000 in
set_option maxHeartbeats 1500000 in
theorem kcheck_any (a : Ma) (A : Option Addr) (n c : Nat) (ins outs sts : List Int) (I O S : Option Addr) (l0 cI l1 cO l2 cS : Nat) (w : World) (hra : RdR w A a.r) (hn : a.r.length = n) (hnb : n ≤ 1000000) (hrl : ∀ row ∈ a.r, row.length ≤ 1000000)
    (hri : Rd w I ins) (hl0 : ins.length = l0) (hro : Rd w O outs) (hl1 : outs.length = l1) (hrs : Rd w S sts) (hl2 : sts.length = l2) (hm0 : l0 ≤ 9223372036854775807) (hm1 : l1 ≤ 9223372036854775807) (hm2 : l2 ≤ 9223372036854775807) :
    Calls Try.prog 62 #[.agg #[.int .i64 a.i, .int .i64 a.o, .slice A n c], .slice I l0 cI, .slice O l1 cO, .slice S l2 cS] w fun e w' => e = .returned (.int .i64 (kech a ins outs sts)) ∧ Below w.heap.size w w' := by
  have hb0 : Below w.heap.size w (w.alloc (.cells #[.int .i64 a.i, .int .i64 a.o, .slice A n c] 24)) := (Below.refl _ _).alloc (Nat.le_refl _) _
  have hM0 : BxM (w.alloc (.cells #[.int .i64 a.i, .int .i64 a.o, .slice A n c] 24)) w.heap.size a.i a.o A n c := BxM.new w a.i a.o A n c
  obtain ⟨x0, x1, x2⟩ := hM0.cells
  obtain ⟨W0, hW0⟩ : ∃ W0, w.alloc (.cells #[.int .i64 a.i, .int .i64 a.o, .slice A n c] 24) = W0 := ⟨_, rfl⟩
  have HCK := Lib.hid (jcheck1_any a A n c W0.heap.size (W0.alloc (.cells #[.int .i64 a.i, .int .i64 a.o, .slice A n c] 24)) (heap_alloc_new W0 _) (by rw [← hW0]; exact (hra.below hb0).below ((Below.refl _ _).alloc (Nat.le_refl _) _)) hn hnb hrl)
  have HN := Lib.hid hn
  have HL0 := Lib.hid hl0
  have HL1 := Lib.hid hl1
  have HL2 := Lib.hid hl2
  have HRI := Lib.hid hri
  have HRO := Lib.hid hro
  have HRS := Lib.hid hrs
  obtain ⟨R, hR⟩ : ∃ R, kech a ins outs sts = R := ⟨_, rfl⟩
  rw [hR]
  have HR := Lib.hid hR
  rw [hW0] at hb0 hM0 x0 x1 x2
  have HB0 := Lib.hid hb0
  have HM0 := Lib.hid hM0
  have HW0 := Lib.hid hW0
  clear hb0 hM0 hW0 hra hn hrl hnb hR hl0 hl1 hl2 hri hro hrs
  go_enter Try.func62, Try.ntmps62
  go_upto_region 1 with fail
  try rw [HW0.out]
  go_wp2_with fail
  with_reducible refine HCK.out.mono ?_
  rintro e w1 ⟨rfl, hb1⟩
  have hb01 : Below W0.heap.size W0 w1 := ((Below.refl _ _).alloc (Nat.le_refl _) _).trans (hb1.mono (by simp))
  have hB1 := Lib.hid (below_next HB0.out hb01)
  have hM1 := Lib.hid (HM0.out.mvB hb01)
  clear x0 x1 x2 hb1 hb01 HB0 HM0 HW0 HCK
  obtain ⟨x0, x1, x2⟩ := hM1.out.cells
  by_cases hc : Mc.chk a = 0
  · have VA := Lib.hid (Mc.val_of hc)
    have HC := Lib.hid hc
    rw [hc]
    clear hc
    have hn64 : n ≤ 64 := by have := VA.out.r1; have := HN.out; omega
    obtain ⟨ai, hai⟩ : ∃ ai : Nat, a.i = ai := ⟨a.i.toNat, by have := VA.out.i0; omega⟩
    obtain ⟨ao, hao⟩ : ∃ ao : Nat, a.o = ao := ⟨a.o.toNat, by have := VA.out.o0; omega⟩
    have hai16 : ai ≤ 16 := by have := VA.out.i1; omega
    have hao16 : ao ≤ 16 := by have := VA.out.o1; omega
    have HAI := Lib.hid hai
    have HAO := Lib.hid hao
    rw [hai, hao] at hM1
    rw [hai] at x0
    rw [hao] at x1
    rw [hai, hao]
    clear hai hao
    obtain ⟨c0, hc0⟩ : ∃ b, ((l0 : Int) == (ai : Int)) = b := ⟨_, rfl⟩
    obtain ⟨c1, hc1⟩ : ∃ b, ((l1 : Int) == (ao : Int)) = b := ⟨_, rfl⟩
    obtain ⟨c2, hc2⟩ : ∃ b, ((l2 : Int) == (n : Int)) = b := ⟨_, rfl⟩
    obtain ⟨d0, hd0⟩ : ∃ b, dstB ins ai = b := ⟨_, rfl⟩
    obtain ⟨d1, hd1⟩ : ∃ b, dstB outs ao = b := ⟨_, rfl⟩
    obtain ⟨d2, hd2⟩ : ∃ b, dstB sts n = b := ⟨_, rfl⟩
    have hRE : Hid (R = kerr c0 c1 c2 d0 d1 d2 (zb sts)) := by
      show _ = _
      rw [← HR.out]
      unfold kech
      rw [if_neg (by rw [HC.out]; simp), HL0.out, HL1.out, HL2.out, HAI.out, HAO.out, HN.out, Int.toNat_natCast, Int.toNat_natCast, hc0, hc1, hc2, hd0, hd1, hd2]
    have HC2 := Lib.hid hc2
    have HD0 := Lib.hid hd0
    have HD1 := Lib.hid hd1
    have HD2 := Lib.hid hd2
    have hDC0 : Hid (∀ wr, Below w1.heap.size w1 wr → Calls Try.prog 86 #[.slice I l0 cI, .int .i64 ai] wr fun e w' => e = .returned (.bool d0) ∧ Below wr.heap.size wr w') := fun wr hb => by rw [← hd0]; exact distinct_any ins I l0 cI ai wr ((HRI.out.below hB1.out).below hb) HL0.out hm0 (by omega)
    have hDC1 : Hid (∀ wr, Below w1.heap.size w1 wr → Calls Try.prog 86 #[.slice O l1 cO, .int .i64 ao] wr fun e w' => e = .returned (.bool d1) ∧ Below wr.heap.size wr w') := fun wr hb => by rw [← hd1]; exact distinct_any outs O l1 cO ao wr ((HRO.out.below hB1.out).below hb) HL1.out hm1 (by omega)
    have hDC2 : Hid (∀ wr, Below w1.heap.size w1 wr → Calls Try.prog 86 #[.slice S l2 cS, .int .i64 n] wr fun e w' => e = .returned (.bool d2) ∧ Below wr.heap.size wr w') := fun wr hb => by rw [← hd2]; exact distinct_any sts S l2 cS n wr ((HRS.out.below hB1.out).below hb) HL2.out hm2 (by omega)
    clear hd0 hd1 hd2
    have hI0 : ∀ w, (Instr.index 142 (.agg #[.slice I l0 cI, .int .i64 ai, .slice O l1 cO, .int .i64 ao, .slice S l2 cS, .int .i64 n]) (.int .i64 0)).run Try.prog w = .ok (.agg #[.slice I l0 cI, .int .i64 ai]) w := fun w => by kernel_rfl
    have hI1 : ∀ w, (Instr.index 142 (.agg #[.slice I l0 cI, .int .i64 ai, .slice O l1 cO, .int .i64 ao, .slice S l2 cS, .int .i64 n]) (.int .i64 1)).run Try.prog w = .ok (.agg #[.slice O l1 cO, .int .i64 ao]) w := fun w => by kernel_rfl
    have hI2 : ∀ w, (Instr.index 142 (.agg #[.slice I l0 cI, .int .i64 ai, .slice O l1 cO, .int .i64 ao, .slice S l2 cS, .int .i64 n]) (.int .i64 2)).run Try.prog w = .ok (.agg #[.slice S l2 cS, .int .i64 n]) w := fun w => by kernel_rfl
    have hB2 : Hid (Below w1.heap.size w1 (w1.alloc (.cells #[.slice I l0 cI, .int .i64 ai, .slice O l1 cO, .int .i64 ao, .slice S l2 cS, .int .i64 n] 142))) := (Below.refl _ _).alloc (Nat.le_refl _) _
    have hX2 : Hid ((w1.alloc (.cells #[.slice I l0 cI, .int .i64 ai, .slice O l1 cO, .int .i64 ao, .slice S l2 cS, .int .i64 n] 142)).heap[w1.heap.size]? = some (.cells #[.slice I l0 cI, .int .i64 ai, .slice O l1 cO, .int .i64 ao, .slice S l2 cS, .int .i64 n] 142)) := heap_alloc_new w1 _
    obtain ⟨g, hg⟩ : ∃ g, w1.heap.size = g := ⟨_, rfl⟩
    have HG := Lib.hid hg
    go_wp2_with fail
    rw [hg] at hX2
    clear hg x0 x1 x2
    go_loopw [36] (fun z wr => ∃ k : Nat, k ≤ 3 ∧ z = .int .i64 k ∧ Hid (Ok3 k c0 c1 c2) ∧ Hid (Below w1.heap.size w1 wr) ∧ Hid (wr.heap[g]? = some (.cells #[.slice I l0 cI, .int .i64 ai, .slice O l1 cO, .int .i64 ao, .slice S l2 cS, .int .i64 n] 142))) (fun z _ => 4 - (intOf z).toNat)
    case atStart => exact ⟨0, by omega, rfl, ⟨fun h => by omega, fun h => by omega, fun h => by omega⟩, hB2, hX2⟩
    case round =>
      obtain ⟨k, hk, rfl, hOk, hbr, hXr⟩ := hrel
      clear hB2 hX2
      by_cases h0 : k = 0
      · subst h0
        have hbA := Lib.hid (below_next hbr.out ((Below.refl _ _).alloc (Nat.le_refl _) (.cells #[.slice I l0 cI, .int .i64 ai] 141)))
        have hXA : Hid ((wr.alloc (.cells #[.slice I l0 cI, .int .i64 ai] 141)).heap[g]? = some (.cells #[.slice I l0 cI, .int .i64 ai, .slice O l1 cO, .int .i64 ao, .slice S l2 cS, .int .i64 n] 142)) := (Below.heap_alloc _ _ _ (heap_lt hXr.out)).trans hXr.out
        cases c0 with
        | true =>
          go_wp2
          go_roundw
          case rel => exact ⟨1, by omega, by go_num, ⟨fun _ => rfl, fun h => by omega, fun h => by omega⟩, hbA, hXA⟩
          case measure => simp [intOf]
        | false =>
          obtain rfl : R = 16 := by rw [hRE.out]; simp [kerr]
          go_wp2
          go_ret
          exact ⟨rfl, below_next hB1.out hbA.out⟩
      by_cases h1 : k = 1
      · subst h1
        have hbA := Lib.hid (below_next hbr.out ((Below.refl _ _).alloc (Nat.le_refl _) (.cells #[.slice O l1 cO, .int .i64 ao] 141)))
        have hXA : Hid ((wr.alloc (.cells #[.slice O l1 cO, .int .i64 ao] 141)).heap[g]? = some (.cells #[.slice I l0 cI, .int .i64 ai, .slice O l1 cO, .int .i64 ao, .slice S l2 cS, .int .i64 n] 142)) := (Below.heap_alloc _ _ _ (heap_lt hXr.out)).trans hXr.out
        cases c1 with
        | true =>
          go_wp2
          go_roundw
          case rel => exact ⟨2, by omega, by go_num, ⟨fun _ => hOk.out.1 (by omega), fun _ => rfl, fun h => by omega⟩, hbA, hXA⟩
          case measure => simp [intOf]
        | false =>
          obtain rfl : R = 16 := by rw [hRE.out]; simp [kerr]
          go_wp2
          go_ret
          exact ⟨rfl, below_next hB1.out hbA.out⟩
      by_cases h2 : k = 2
      · subst h2
        have hbA := Lib.hid (below_next hbr.out ((Below.refl _ _).alloc (Nat.le_refl _) (.cells #[.slice S l2 cS, .int .i64 n] 141)))
        have hXA : Hid ((wr.alloc (.cells #[.slice S l2 cS, .int .i64 n] 141)).heap[g]? = some (.cells #[.slice I l0 cI, .int .i64 ai, .slice O l1 cO, .int .i64 ao, .slice S l2 cS, .int .i64 n] 142)) := (Below.heap_alloc _ _ _ (heap_lt hXr.out)).trans hXr.out
        cases c2 with
        | true =>
          go_wp2
          go_roundw
          case rel => exact ⟨3, by omega, by go_num, ⟨fun _ => hOk.out.1 (by omega), fun _ => hOk.out.2.1 (by omega), fun _ => rfl⟩, hbA, hXA⟩
          case measure => simp [intOf]
        | false =>
          obtain rfl : R = 16 := by rw [hRE.out]; simp [kerr]
          go_wp2
          go_ret
          exact ⟨rfl, below_next hB1.out hbA.out⟩
      have hkd : decide ((k : Int) < 3) = false := decide_eq_false (by omega)
      have e0 := hOk.out.1 (by omega)
      have e1 := hOk.out.2.1 (by omega)
      have e2 := hOk.out.2.2 (by omega)
      subst e0 e1 e2
      have hXc : wr.cell? ⟨g, 0, none⟩ = some (.slice I l0 cI) ∧ wr.cell? ⟨g, 1, none⟩ = some (.int .i64 ai) ∧ wr.cell? ⟨g, 2, none⟩ = some (.slice O l1 cO) ∧ wr.cell? ⟨g, 3, none⟩ = some (.int .i64 ao) ∧ wr.cell? ⟨g, 4, none⟩ = some (.slice S l2 cS) ∧ wr.cell? ⟨g, 5, none⟩ = some (.int .i64 n) := by
        refine ⟨?_, ?_, ?_, ?_, ?_, ?_⟩ <;> (rw [cell_of_row _ _ _ _ _ _ hXr.out]; rfl)
      obtain ⟨q0, q1, q2, q3, q4, q5⟩ := hXc
      clear h0 h1 h2
      go_wp2_with fail
      clear q0 q1 q2 q3 q4 q5 hXr
      go_loopw [47] (fun z wr => ∃ k : Nat, k ≤ 3 ∧ z = .int .i64 k ∧ Hid (Ok3 k d0 d1 d2) ∧ Hid (Below w1.heap.size w1 wr)) (fun z _ => 4 - (intOf z).toNat)
      case atStart => exact ⟨0, by omega, rfl, ⟨fun h => by omega, fun h => by omega, fun h => by omega⟩, hbr⟩
      case round =>
        obtain ⟨k, hk, rfl, hOk, hbr⟩ := hrel
        by_cases h0 : k = 0
        · subst h0
          have hbA := below_next hbr.out ((Below.refl _ _).alloc (Nat.le_refl _) (.cells #[.slice I l0 cI, .int .i64 ai] 141))
          have HBA := Lib.hid hbA
          clear hbA
          go_wp2_with fail
          refine (hDC0.out _ HBA.out).mono ?_
          rintro e w4 ⟨rfl, hb4⟩
          have hb5 := Lib.hid (below_next HBA.out hb4)
          clear hb4
          cases d0 with
          | true =>
            go_wp2
            go_roundw
            case rel => exact ⟨1, by omega, by go_num, ⟨fun _ => rfl, fun h => by omega, fun h => by omega⟩, hb5⟩
            case measure => simp [intOf]
          | false =>
            obtain rfl : R = 1 := by rw [hRE.out]; simp [kerr]
            go_wp2
            go_ret
            exact ⟨rfl, below_next hB1.out hb5.out⟩
        by_cases h1 : k = 1
        · subst h1
          have hbA := below_next hbr.out ((Below.refl _ _).alloc (Nat.le_refl _) (.cells #[.slice O l1 cO, .int .i64 ao] 141))
          have HBA := Lib.hid hbA
          clear hbA
          go_wp2_with fail
          refine (hDC1.out _ HBA.out).mono ?_
          rintro e w4 ⟨rfl, hb4⟩
          have hb5 := Lib.hid (below_next HBA.out hb4)
          clear hb4
          cases d1 with
          | true =>
            go_wp2
            go_roundw
            case rel => exact ⟨2, by omega, by go_num, ⟨fun _ => hOk.out.1 (by omega), fun _ => rfl, fun h => by omega⟩, hb5⟩
            case measure => simp [intOf]
          | false =>
            obtain rfl : R = 1 := by rw [hRE.out]; simp [kerr]
            go_wp2
            go_ret
            exact ⟨rfl, below_next hB1.out hb5.out⟩
        by_cases h2 : k = 2
        · subst h2
          have hbA := below_next hbr.out ((Below.refl _ _).alloc (Nat.le_refl _) (.cells #[.slice S l2 cS, .int .i64 n] 141))
          have HBA := Lib.hid hbA
          clear hbA
          go_wp2_with fail
          refine (hDC2.out _ HBA.out).mono ?_
          rintro e w4 ⟨rfl, hb4⟩
          have hb5 := Lib.hid (below_next HBA.out hb4)
          clear hb4
          cases d2 with
          | true =>
            go_wp2
            go_roundw
            case rel => exact ⟨3, by omega, by go_num, ⟨fun _ => hOk.out.1 (by omega), fun _ => hOk.out.2.1 (by omega), fun _ => rfl⟩, hb5⟩
            case measure => simp [intOf]
          | false =>
            obtain rfl : R = 1 := by rw [hRE.out]; simp [kerr]
            go_wp2
            go_ret
            exact ⟨rfl, below_next hB1.out hb5.out⟩
        have hkd2 : decide ((k : Int) < 3) = false := decide_eq_false (by omega)
        have e0 := hOk.out.1 (by omega)
        have e1 := hOk.out.2.1 (by omega)
        have e2 := hOk.out.2.2 (by omega)
        subst e0 e1 e2
        have hl2n : l2 = n := by have h := HC2.out; rw [beq_iff_eq] at h; exact_mod_cast h
        have hl20 : 0 < l2 := by have := VA.out.r0; have := HN.out; omega
        have hl2i : (0 : Int) < l2 := by omega
        obtain ⟨bs, os, z, rfl, _, hcs, hz⟩ := ((HRS.out.below hB1.out).below hbr.out).at_ (k := 0) (by rw [HL2.out]; exact hl20)
        have hz0 : Hid (sts[0]? = some z) := by
          show _ = _
          have h1 := hz.out
          rw [List.getElem?_eq_getElem (by rw [HL2.out]; exact hl20)] at h1 ⊢
          exact congrArg some h1
        have HL2N := Lib.hid hl2n
        have hcs' : wr.cell? ⟨bs, os, none⟩ = some (.int .i64 z) := by simpa using hcs
        clear hz h0 h1 h2 hl2n hcs
        by_cases hz1 : z = 0
        · subst hz1
          obtain rfl : R = 0 := by rw [hRE.out]; simp [kerr, zb, hz0.out]
          go_wp2
          go_ret
          exact ⟨rfl, below_next hB1.out hbr.out⟩
        · have hzb : (z == 0) = false := by rw [beq_eq_false_iff_ne]; exact hz1
          obtain rfl : R = 1 := by rw [hRE.out]; simp [kerr, zb, hz0.out, hz1]
          go_wp2
          go_ret
          exact ⟨rfl, below_next hB1.out hbr.out⟩
  · obtain ⟨ce, hce⟩ : ∃ ce, Mc.chk a = ce := ⟨_, rfl⟩
    obtain rfl : R = ce := by
      rw [← HR.out]
      unfold kech
      rw [if_pos hc, hce]
    rw [hce] at hc ⊢
    have hne : (R == 0) = false := by rw [beq_eq_false_iff_ne]; exact hc
    clear hce hc
    go_wp2
    go_ret
    exact ⟨rfl, hB1.out⟩
end Go.Proofs.Ytgafpmgdpigliaa
