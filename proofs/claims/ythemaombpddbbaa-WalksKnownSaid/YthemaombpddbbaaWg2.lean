/-
  The walk of WalksTrim. No statement is proved here.
-/
import Derived.Test.YthemaombpddbbaaWeZ
import Derived.Test.YthemaombpddbbaaWfZ
namespace Go.Proofs.Ythemaombpddbbaa
open Go.RowKit
open Mc (Ed Ma)

namespace Mc
theorem sym_wd {m : Ma} {i : Int} {zs : List Int} (hi : m.i = i) (h1 : 1 ≤ i) : Wd m (M.sym i zs) := by
  intro c hc
  have hc : c ∈ (zs.take 12).map (· % i) := hc
  obtain ⟨z, _, rfl⟩ := List.mem_map.1 hc
  rw [hi]
  exact ⟨Int.emod_nonneg _ (by omega), Int.emod_lt_of_pos _ (by omega)⟩
theorem sym_len (i : Int) (zs : List Int) : (M.sym i zs).length ≤ 12 := by
  show ((zs.take 12).map (· % i)).length ≤ 12
  rw [List.length_map, List.length_take]; omega
end Mc
theorem wof_at (A : Option Addr) (c : Nat) (zs : List Int) (n : Nat) (w : World) (h : Rd8 w A zs) (h1 : 1 ≤ n) (h2 : n ≤ 16) (hm : zs.length ≤ 9223372036854775807) :
    Calls Try.prog 15 #[.agg #[.slice A zs.length c], .int .i64 n] w fun e w' => ∃ B k q, e = .returned (.slice B k q) ∧ Hid ((M.sym n zs).length = k) ∧ k ≤ 12 ∧ Rd w' B (M.sym n zs) ∧ Below w.heap.size w w' := by
  refine (of_any A c zs n w h (by omega) (by omega) hm).mono ?_
  rintro e w' ⟨B, q, rfl, hrd, hc, hb⟩
  exact ⟨B, _, q, rfl, rfl, Mc.sym_len _ _, hrd, hb⟩
section
variable (m : Ma) (i o : Int) (A : Option Addr) (n c : Nat) (w : World)
theorem rrun_at (s : Int) (W : Option Addr) (k d : Nat) (ws : List Int) (v : Mc.Val m) (hi : m.i = i) (ho : m.o = o) (hn : m.r.length = n) (hk : ws.length = k) (hr : RdR w A m.r) (hw : Rd w W ws) (hs : Mc.St m s) (hwd : Mc.Wd m ws) (hl : k ≤ 65536) :
    Calls Try.prog 20 #[.agg #[.int .i64 i, .int .i64 o, .slice A n c], .int .i64 s, .slice W k d] w fun e w' => ∃ B q, e = .returned (.slice B k q) ∧ Rd w' B (Mc.run m s ws) ∧ Below w.heap.size w w' := by
  subst hi ho hn hk
  refine (rrun_any m s A W c d ws w v hr hw hs hwd hl).mono ?_
  rintro e w' ⟨B, q, rfl, h1, _, h2⟩
  rw [Mc.run_len]
  exact ⟨B, q, rfl, h1, h2⟩
theorem conn_yes (v : Mc.Val m) (hi : m.i = i) (ho : m.o = o) (hn : m.r.length = n) (hr : RdR w A m.r) (hc : Mc.conn m = true) :
    Calls Try.prog 71 #[.agg #[.int .i64 i, .int .i64 o, .slice A n c]] w fun e w' => e = .returned (.bool true) ∧ Below w.heap.size w w' := by
  subst hi ho hn
  have := connected_any m A c w v hr
  rwa [hc] at this
theorem trim_at (v : Mc.Val m) (hi : m.i = i) (ho : m.o = o) (hn : m.r.length = n) (hr : RdR w A m.r) :
    Calls Try.prog 33 #[.agg #[.int .i64 i, .int .i64 o, .slice A n c]] w fun e w' => ∃ p g k, e = .returned (.tuple #[.agg #[.int .i64 i, .int .i64 o, .slice (some ⟨p, 0, none⟩) k k], .slice (some ⟨g, 0, none⟩) k k, .int .i64 0]) ∧ Hid ((Mc.asc m).length = k) ∧ Ex w' p k (Mc.prt m (Mc.asc m)).r ∧ Rd w' (some ⟨g, 0, none⟩) (Mc.asc m) ∧ Below w.heap.size w w' := by
  subst hi ho hn
  refine (wtrim_ok m A c w v hr).mono ?_
  rintro e w' ⟨p, k, gs, g, rfl, hk, hg, hW, hB, hb⟩
  have hv := Mc.asc_val v
  have hl : (Mc.prt m (Mc.asc m)).r.length = k := by rw [Mc.prt_len]; exact hk.out
  exact ⟨p, g, k, rfl, hk, ⟨gs, hg.out, hl, by have := hv.r1; omega, hv.rows, hW.out.lower (Nat.zero_le _)⟩, hB.out.rd, hb⟩
end

set_option maxRecDepth 100000 in
set_option maxHeartbeats 4000000 in
theorem lawTrim_walk (a b d : Int) (p : Bool) (A : Option Addr) (c : Nat) (es : List Int) (B1 : Option Addr) (e1 : Nat) (ws : List Int) (w : World) (hr : Rd16 w A es) (hr8 : Rd8 w B1 ws) (hl : es.length ≤ 9223372036854775807) (hlw : ws.length ≤ 9223372036854775807)
    (ha : 0 ≤ a ∧ a ≤ 255) (hb : 0 ≤ b ∧ b ≤ 255) (hd : 0 ≤ d ∧ d ≤ 255) :
    Calls Try.prog 39 #[.agg #[.int .u8 a, .int .u8 b, .int .u8 d, .bool p, .slice A es.length c], .agg #[.slice B1 ws.length e1]] w fun e w' => e = .returned (.bool true) ∧ Below w.heap.size w w' := by
  obtain ⟨n, hn⟩ : ∃ n : Nat, 1 + a % 6 = n := ⟨(1 + a % 6).toNat, by omega⟩
  obtain ⟨i, hi⟩ : ∃ i : Nat, 1 + b % 3 = i := ⟨(1 + b % 3).toNat, by omega⟩
  obtain ⟨o, ho⟩ : ∃ o : Nat, 1 + d % 3 = o := ⟨(1 + d % 3).toNat, by omega⟩
  have CM := fun w hr => mof_at a b d p A c es n i o w hr hl ha hb hd hn hi ho
  have hn1 : 1 ≤ n := by omega
  have hi1 : 1 ≤ i := by omega
  have hn6 : n ≤ 6 := by omega
  have hi3 : i ≤ 3 := by omega
  obtain ⟨M, hM⟩ : ∃ M, Mc.mkN p n i o es = M := ⟨_, rfl⟩
  have V := Lib.hid (Mc.mkN_val (p := p) (n := n) (i := i) (o := o) (es := es) (by omega) (by omega) (by omega) (by omega) (by omega) (by omega))
  have hlen : Hid ((Mc.mkN p n i o es).r.length = n) := Mc.mkN_len _ _ _ _ _
  have hmi : Hid ((Mc.mkN p n i o es).i = i) := rfl
  have hmo : Hid ((Mc.mkN p n i o es).o = o) := rfl
  rw [hM] at V hlen hmi hmo
  simp only [hM] at CM
  clear hM ha hb hd hn hi ho hl
  have CW := fun w h => wof_at B1 e1 ws i w h hi1 (by omega) hlw
  have CT := fun R c1 w hr => trim_at M i o R n c1 w V.out hmi.out hmo.out hlen.out hr
  have CR := fun R c1 w hr => racc_at M i o R n c1 w V.out hmi.out hmo.out hlen.out hr
  have HW := Lib.hid (Mc.sym_wd (m := M) (i := i) (zs := ws) hmi.out (by omega))
  obtain ⟨Y, hY⟩ : ∃ Y, Go.Proofs.Ythemaombpddbbaa.M.sym i ws = Y := ⟨_, rfl⟩
  rw [hY] at HW
  simp only [hY] at CW
  obtain ⟨Q, hQ⟩ : ∃ Q, Mc.wk M 0 = Q := ⟨_, rfl⟩
  have HQ := Lib.hid hQ
  simp only [hQ] at CR
  have HR := Lib.hid hr
  have HR8 := Lib.hid hr8
  obtain ⟨E, hE⟩ : ∃ E, ws.length = E := ⟨_, rfl⟩
  simp only [hE] at CW
  rw [hE]
  clear hr hr8 hQ hY hE hlw
  have s0 : MT w w [] := MT.start
  obtain ⟨K0, hK0⟩ : ∃ K0, w.heap.size = K0 := ⟨_, rfl⟩
  have s1 := MT.putK (P := fun w => w.heap[K0 + 1]? = some (.cells #[.slice B1 E e1] 27)) (MT.alloc (MT.alloc s0 (.cells #[.int .u8 a, .int .u8 b, .int .u8 d, .bool p, .slice A es.length c] 24)) (.cells #[.slice B1 E e1] 27))
    (by
      have h := heap_alloc_new (w.alloc (.cells #[.int .u8 a, .int .u8 b, .int .u8 d, .bool p, .slice A es.length c] 24)) (.cells #[.slice B1 E e1] 27)
      rw [show (w.alloc (.cells #[.int .u8 a, .int .u8 b, .int .u8 d, .bool p, .slice A es.length c] 24)).heap.size = w.heap.size + 1 by simp, hK0] at h
      exact h) (fun _ _ h hb => (hb.block _ (heap_lt h)).trans h)
  clear s0
  go_enter Try.func39, Try.ntmps39
  go_wp2_with fail
  refine (CM _ (HR.out.below s1.2.1)).mono ?_
  rintro e w1 ⟨R, c1, rfl, hrd, hbl⟩
  have s2 := MK.putB (g := w1.heap.size) (MT.alloc (MK.putR (MT.next s1 hbl) hrd) (.cells #[.int .i64 i, .int .i64 o, .slice R n c1] 30)) (heap_alloc_new w1 _)
  clear s1 hrd hbl CM HR
  go_upto_region 2 with fail
  obtain ⟨g, hg⟩ : ∃ g, w1.heap.size = g := ⟨_, rfl⟩
  obtain ⟨W, hW⟩ : ∃ W, w1.alloc (.cells #[.int .i64 i, .int .i64 o, .slice R n c1] 30) = W := ⟨_, rfl⟩
  rw [hg, hW] at s2
  rw [hg, hW]
  clear hg hW
  obtain ⟨m0, m1, m2⟩ := BxM.cells (MK.get s2 0 rfl)
  have hpl : W.heap[K0 + 1]? = some (.cells #[.slice B1 E e1] 27) := MK.get s2 2 rfl
  have l0 : W.cell? ⟨K0 + 1, 0, none⟩ = some (.slice B1 E e1) := by rw [cell_of_row _ _ _ _ _ _ hpl]; rfl
  clear hpl
  go_wp2_with fail
  clear m0 m1 m2 l0
  refine (CW _ (HR8.out.below s2.2.1)).mono ?_
  rintro e w2 ⟨B2, k2, q2, rfl, hk2, h12, hrd, hbl⟩
  have s3 := MK.putL (MT.next s2 hbl) hrd
  clear s2 hrd hbl CW HR8
  obtain ⟨m0, m1, m2⟩ := BxM.cells (MK.get s3 1 rfl)
  go_wp2_with fail
  clear m0 m1 m2
  refine (CT R c1 _ (MK.get s3 2 rfl)).mono ?_
  rintro e w3 ⟨pt, gt, K, rfl, hK, hX, hrd, hbl⟩
  have s4 := MK.putB (g := w3.heap.size) (MT.alloc (MK.putL (MK.putX (MT.next s3 hbl) hX) hrd) (.cells #[.int .i64 i, .int .i64 o, .slice (some ⟨pt, 0, none⟩) K K] 30)) (heap_alloc_new w3 _)
  clear s3 hX hrd hbl CT
  obtain ⟨m0, m1, m2⟩ := BxM.cells (MK.get s4 4 rfl)
  go_wp2_with fail
  clear m0 m1 m2
  refine (CR R c1 _ (MK.get s4 5 rfl)).mono ?_
  rintro e w5 ⟨g3, g4, rfl, _, hO, hbl⟩
  have s5 := MK.putO (MT.next s4 hbl) hO
  clear s4 hO hbl CR
  obtain ⟨gg, hgg⟩ : ∃ gg, w3.heap.size = gg := ⟨_, rfl⟩
  rw [hgg] at s5
  rw [hgg]
  clear hgg
  go_wp2
  have SF := Lib.hid s5
  clear s5
  go_loopw [12, 13] (fun l v wr => ∃ k : Nat, k ≤ n ∧ v = .int .i64 k ∧ Hid (OwI wr w5.heap.size l (Mc.fl M k)) ∧ Hid (Below w5.heap.size w5 wr)) (fun _ v _ => n - (intOf v).toNat)
  case atStart => exact ⟨0, by omega, rfl, OwI.nil_ _ _, Below.refl _ _⟩
  case round =>
    obtain ⟨k, hk, rfl, hO, hbr⟩ := hrel
    have sK := MT.next SF.out hbr.out
    by_cases hlt : k < n
    · have hkn : (k : Int) < n := by omega
      have cb := BlkB.val (MK.get sK 0 rfl) (Mc.tab_at (f := Mc.oB) (Q := Q) hlt)
      obtain ⟨β, hβ⟩ : ∃ β, Mc.oB (Q.lookup (k : Int)) = β := ⟨_, rfl⟩
      rw [hβ] at cb
      have HB := Lib.hid hβ
      clear hβ sK
      cases β with
      | false =>
        have hfl : Hid (Mc.fl M (k + 1) = Mc.fl M k) := Mc.fl_no (by rw [HQ.out]; exact HB.out)
        have hO2 : Hid (OwI wr w5.heap.size u12 (Mc.fl M (k + 1))) := by show OwI _ _ _ _; rw [hfl.out]; exact hO.out
        clear hfl hO
        go_wp2
        go_roundw
        case rel => exact ⟨k + 1, by omega, by go_num, hO2, hbr⟩
        case measure => simp [intOf]; omega
      | true =>
        have hfl : Hid (Mc.fl M (k + 1) = Mc.fl M k ++ [(k : Int)]) := Mc.fl_yes (by rw [HQ.out]; exact HB.out)
        have hflen := Mc.fl_len M k
        have hS : Hid (Rd (wr.alloc (.cells #[.int .i64 k] 3)) (some ⟨wr.heap.size, 0, none⟩) [(k : Int)]) := Rd.of_block (t := 3) (heap_alloc_new wr _)
        have hO3 : Hid (OwI (wr.alloc (.cells #[.int .i64 k] 3)) w5.heap.size u12 (Mc.fl M k)) := own_below hO.out ((Below.refl _ _).alloc (Nat.le_refl _) _)
        have hb3 := Lib.hid (hbr.out.alloc hbr.out.size (.cells #[.int .i64 k] 3))
        clear hO
        go_wp2_with (at_builtin; refine wpList_append_list _ (W0 := w5) (B := w5.heap.size) (xs := Mc.fl M k) (ys := [(k : Int)]) hO3.out hS.out rfl ?b1 ?b2 hb3.out rfl _ _ rfl rfl rfl ?_)
        case b1 => simp; omega
        case b2 => exact hb3.out.size
        intro v9 w6 hO4 hb4
        have hO5 : Hid (OwI w6 w5.heap.size v9 (Mc.fl M (k + 1))) := by show OwI _ _ _ _; rw [hfl.out]; exact hO4
        have HB4 := Lib.hid hb4
        clear hO4 hb4 hO3 hb3 hS hfl cb
        go_wp2
        go_roundw
        case rel => exact ⟨k + 1, by omega, by go_num, hO5, HB4⟩
        case measure => simp [intOf]; omega
    · obtain rfl : k = n := by omega
      have hfa : Hid (Mc.fl M k = Mc.asc M) := by show _ = _; rw [← Mc.fl_asc V.out, hlen.out]
      have hO2 := hO.out
      rw [hfa.out] at hO2
      obtain ⟨A9, d9, rfl, hd9⟩ := own_formI hO2
      have sR := MK.putL sK (Rd.of_own hO2)
      rw [hK.out]
      clear sK SF hO hO2 hbr hfa hd9
      have sD := MT.next sR (Below.refl _ _).drew
      have HK := Lib.hid hK.out
      have HV := Lib.hid (Mc.asc_val V.out)
      have HC := Lib.hid (Mc.asc_cls V.out)
      have HCn := Lib.hid (Mc.asc_conn V.out)
      have HRn := Lib.hid (Mc.asc_run V.out HW.out)
      have HPl : Hid ((Mc.prt M (Mc.asc M)).r.length = K) := by show _ = _; rw [Mc.prt_len]; exact hK.out
      have HPi : Hid ((Mc.prt M (Mc.asc M)).i = i) := hmi.out
      have HPo : Hid ((Mc.prt M (Mc.asc M)).o = o) := hmo.out
      have HWp : Hid (Mc.Wd (Mc.prt M (Mc.asc M)) Y) := HW.out
      have HSt : Hid (Mc.St M 0) := Or.inr (by have := hlen.out; omega)
      have HSp : Hid (Mc.St (Mc.prt M (Mc.asc M)) 0) := Or.inr (by have := HPl.out; have h1 := (Mc.asc_bound V.out).1; have := HK.out; omega)
      have hK64 : K ≤ 64 := by have := (Mc.asc_bound V.out).2; have := HK.out; omega
      obtain ⟨a0, a1, a2⟩ := BxM.cells (MK.get sR 2 rfl)
      obtain ⟨a3, a4, a5⟩ := BxM.cells (MK.get sR 6 rfl)
      clear hK
      go_upto_region 11 with fail
      go_region_held3 (fun w' => w'.cell? ⟨gg, 0, none⟩ = some (.int .i64 i) ∧ w'.cell? ⟨gg, 1, none⟩ = some (.int .i64 o) ∧ w'.cell? ⟨gg, 2, none⟩ = some (.slice (some ⟨pt, 0, none⟩) K K) ∧ w'.cell? ⟨g, 0, none⟩ = some (.int .i64 i) ∧ w'.cell? ⟨g, 1, none⟩ = some (.int .i64 o) ∧ w'.cell? ⟨g, 2, none⟩ = some (.slice R k c1))
        (first | exact ⟨x80, x81, x82, x83, x84, x85⟩ | exact ⟨x70, x71, x72, x73, x74, x75⟩ | exact ⟨x60, x61, x62, x63, x64, x65⟩ | exact ⟨x50, x51, x52, x53, x54, x55⟩ | exact ⟨x40, x41, x42, x43, x44, x45⟩ | exact ⟨x30, x31, x32, x33, x34, x35⟩ | exact ⟨x20, x21, x22, x23, x24, x25⟩ | exact ⟨x10, x11, x12, x13, x14, x15⟩ | exact ⟨a0, a1, a2, a3, a4, a5⟩ | go_keep)
        (first
          | (go_at_call 63
             (with_reducible refine (list_yes (some ⟨gt, 0, none⟩) A9 K d9 (Mc.asc M) 0 _ (MK.get sD 3 rfl) (MK.get sD 0 rfl) HK.out (by omega)).mono ?_)
             rintro e wa1 ⟨rfl, hb1⟩
             have t1 := MT.next sD hb1
             obtain ⟨x10, x11, x12⟩ := BxM.cells (MK.get t1 2 rfl)
             obtain ⟨x13, x14, x15⟩ := BxM.cells (MK.get t1 6 rfl)
             dsimp only)
          | (go_at_call 23
             (with_reducible refine (part_at M i o (Mc.asc M) R A9 k c1 K d9 _ V.out hmi.out hmo.out hlen.out (MK.get t1 7 rfl) (MK.get t1 0 rfl) HK.out HC.out.nd HC.out.rg).mono ?_)
             rintro e wa2 ⟨B5, k5, d5, rfl, hk5, hr5, hb2⟩
             have t2 := MT.next t1 hb2
             have t2a := MK.putR t2 hr5
             obtain rfl : K = k5 := by rw [← HK.out]; exact hk5.out
             obtain ⟨x20, x21, x22⟩ := BxM.cells (MK.get t2a 3 rfl)
             obtain ⟨x23, x24, x25⟩ := BxM.cells (MK.get t2a 7 rfl)
             dsimp only)
          | (go_at_call 17
             (with_reducible refine (machine_yes i o (Mc.prt M (Mc.asc M)).r pt K d5 B5 _ (MK.get t2a 5 rfl) (MK.get t2a 0 rfl)).mono ?_)
             rintro e wa3 ⟨rfl, hb3⟩
             have t3 := MT.next t2a hb3
             obtain ⟨x30, x31, x32⟩ := BxM.cells (MK.get t3 3 rfl)
             obtain ⟨x33, x34, x35⟩ := BxM.cells (MK.get t3 7 rfl)
             dsimp only)
          | (go_at_call 71
             (with_reducible refine (conn_yes (Mc.prt M (Mc.asc M)) i o (some ⟨pt, 0, none⟩) K K _ HV.out HPi.out HPo.out HPl.out (Ex.rd (MK.get t3 5 rfl)) HCn.out).mono ?_)
             rintro e wa4 ⟨rfl, hb4⟩
             have t4 := MT.next t3 hb4
             obtain ⟨x40, x41, x42⟩ := BxM.cells (MK.get t4 3 rfl)
             obtain ⟨x43, x44, x45⟩ := BxM.cells (MK.get t4 7 rfl)
             dsimp only)
          | (go_at_call 20
             (with_reducible refine (rrun_at (Mc.prt M (Mc.asc M)) i o (some ⟨pt, 0, none⟩) K K _ 0 B2 k2 q2 Y HV.out HPi.out HPo.out HPl.out hk2.out (Ex.rd (MK.get t4 5 rfl)) (MK.get t4 6 rfl) HSp.out HWp.out (by omega)).mono ?_)
             rintro e wa5 ⟨B6, q6, rfl, hr6, hb5⟩
             have t5 := MT.next t4 hb5
             have t5a := MK.putL t5 hr6
             obtain ⟨x50, x51, x52⟩ := BxM.cells (MK.get t5a 4 rfl)
             obtain ⟨x53, x54, x55⟩ := BxM.cells (MK.get t5a 8 rfl)
             dsimp only)
          | (go_at_call 20
             (with_reducible refine (rrun_at M i o R k c1 _ 0 B2 k2 q2 Y V.out hmi.out hmo.out hlen.out hk2.out (MK.get t5a 9 rfl) (MK.get t5a 7 rfl) HSt.out HW.out (by omega)).mono ?_)
             rintro e wa6 ⟨B7, q7, rfl, hr7, hb6⟩
             have t6 := MT.next t5a hb6
             have t6a := MK.putL t6 hr7
             obtain ⟨x60, x61, x62⟩ := BxM.cells (MK.get t6a 5 rfl)
             obtain ⟨x63, x64, x65⟩ := BxM.cells (MK.get t6a 9 rfl)
             dsimp only)
          | (go_at_call 19
             (with_reducible refine (rsame_yes B6 B7 k2 q6 q7 (Mc.run M 0 Y) _ (by rw [← HRn.out]; exact (MK.get t6a 1 rfl)) (MK.get t6a 0 rfl) (by rw [Mc.run_len]; exact hk2.out) (by omega)).mono ?_)
             rintro e wa7 ⟨rfl, hb7⟩
             have t7 := MT.next t6a hb7
             obtain ⟨x70, x71, x72⟩ := BxM.cells (MK.get t7 5 rfl)
             obtain ⟨x73, x74, x75⟩ := BxM.cells (MK.get t7 9 rfl)
             dsimp only)
          | (go_at_call 24
             (with_reducible refine (lives_walk _).mono ?_)
             rintro e wa8 ⟨rfl, hb8⟩
             have t8 := MT.next t7 hb8
             obtain ⟨x80, x81, x82⟩ := BxM.cells (MK.get t8 5 rfl)
             obtain ⟨x83, x84, x85⟩ := BxM.cells (MK.get t8 9 rfl)
             dsimp only)
          | fail)
      all_goals
        have hfin := t8.2.1
        go_wp2
        go_ret
        exact ⟨rfl, hfin⟩
end Go.Proofs.Ythemaombpddbbaa
