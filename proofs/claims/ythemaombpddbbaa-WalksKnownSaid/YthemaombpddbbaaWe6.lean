/-
  The walk of WalksAccess. No statement is proved here.
-/
import Derived.Test.YthemaombpddbbaaWeZ
namespace Go.Proofs.Ythemaombpddbbaa
open Go.RowKit
open Mc (Ed Ma)

set_option maxRecDepth 100000 in
set_option maxHeartbeats 4000000 in
theorem lawAccess_walk (a b d : Int) (p : Bool) (A : Option Addr) (c : Nat) (es : List Int) (w : World) (hr : Rd16 w A es) (hl : es.length ≤ 9223372036854775807)
    (ha : 0 ≤ a ∧ a ≤ 255) (hb : 0 ≤ b ∧ b ≤ 255) (hd : 0 ≤ d ∧ d ≤ 255) :
    Calls Try.prog 37 #[.agg #[.int .u8 a, .int .u8 b, .int .u8 d, .bool p, .slice A es.length c]] w fun e w' => e = .returned (.bool true) ∧ Below w.heap.size w w' := by
  obtain ⟨n, hn⟩ : ∃ n : Nat, 1 + a % 6 = n := ⟨(1 + a % 6).toNat, by omega⟩
  obtain ⟨i, hi⟩ : ∃ i : Nat, 1 + b % 3 = i := ⟨(1 + b % 3).toNat, by omega⟩
  obtain ⟨o, ho⟩ : ∃ o : Nat, 1 + d % 3 = o := ⟨(1 + d % 3).toNat, by omega⟩
  have CM := fun w hr => mof_at a b d p A c es n i o w hr hl ha hb hd hn hi ho
  have hn1 : 1 ≤ n := by omega
  have hi1 : 1 ≤ i := by omega
  have hn6 : n ≤ 6 := by omega
  have hi3 : i ≤ 3 := by omega
  obtain ⟨M, hM⟩ : ∃ M, Mc.mkN p n i o es = M := ⟨_, rfl⟩
  have V := Lib.hid (Mc.mkN_val (p := p) (n := n) (i := i) (o := o) (es := es) (by omega) (by omega) (by omega) (by omega) (by omega) (by omega))
  have hlen : Hid ((Mc.mkN p n i o es).r.length = n) := Mc.mkN_len _ _ _ _ _
  have hmi : Hid ((Mc.mkN p n i o es).i = i) := rfl
  have hmo : Hid ((Mc.mkN p n i o es).o = o) := rfl
  rw [hM] at V hlen hmi hmo
  simp only [hM] at CM
  clear hM ha hb hd hn hi ho hl
  have CA := fun R c1 w hr => acc_at M i o R n c1 w V.out hmi.out hmo.out hlen.out hr
  have CR := fun R c1 w hr => racc_at M i o R n c1 w V.out hmi.out hmo.out hlen.out hr
  have CE := fun R c1 w hr => reach_at M i o R n c1 w V.out hmi.out hmo.out hlen.out hr
  have CF := fun R c1 w W k d ws hk hr hw hwd hd => rafter_at M i o R n c1 w 0 W k d ws V.out hmi.out hmo.out hlen.out hk hr hw (Or.inr (by have := hlen.out; omega)) hwd hd
  obtain ⟨Q, hQ⟩ : ∃ Q, Mc.wk M 0 = Q := ⟨_, rfl⟩
  have HQ := Lib.hid hQ
  simp only [hQ] at CA CR
  have HR := Lib.hid hr
  clear hr hQ
  have s0 : MT w w [] := MT.start
  go_enter Try.func37, Try.ntmps37
  have s1 := MT.alloc s0 (.cells #[.int .u8 a, .int .u8 b, .int .u8 d, .bool p, .slice A es.length c] 24)
  clear s0
  go_wp2_with fail
  refine (CM _ (HR.out.below s1.2.1)).mono ?_
  rintro e w1 ⟨R, c1, rfl, hrd, hbl⟩
  have s2 := MK.putB (g := w1.heap.size) (MT.alloc (MK.putR (MT.next s1 hbl) hrd) (.cells #[.int .i64 i, .int .i64 o, .slice R n c1] 30)) (heap_alloc_new w1 _)
  clear s1 hrd hbl CM HR
  obtain ⟨m0, m1, m2⟩ := BxM.cells (MK.get s2 0 rfl)
  go_wp2_with fail
  clear m0 m1 m2
  refine (CA R c1 _ (MK.get s2 1 rfl)).mono ?_
  rintro e w2 ⟨g1, g2, rfl, hW, hO, hbl⟩
  have s3 := MK.putO (MK.put (MT.next s2 hbl) (Wx.kept _ _) hW) hO
  clear s2 hW hO hbl CA
  obtain ⟨m0, m1, m2⟩ := BxM.cells (MK.get s3 2 rfl)
  go_wp2_with fail
  clear m0 m1 m2
  refine (CR R c1 _ (MK.get s3 3 rfl)).mono ?_
  rintro e w3 ⟨g3, g4, rfl, hW, hO, hbl⟩
  have s4 := MK.putO (MK.put (MT.next s3 hbl) (Wr.kept _ _) hW) hO
  clear s3 hW hO hbl CR
  have hnn : ((n : Int) != n) = false := by simp
  obtain ⟨g, hg⟩ : ∃ g, w1.heap.size = g := ⟨_, rfl⟩
  rw [hg] at s4
  rw [hg]
  clear hg
  go_wp2
  have SF := Lib.hid s4
  clear s4 hnn
  go_loopw [9, 10] (fun l v wr => ∃ k : Nat, k ≤ n ∧ v = .int .i64 k ∧ Hid (OwI wr w3.heap.size l (Mc.fl M k)) ∧ Hid (Below w3.heap.size w3 wr)) (fun _ v _ => n - (intOf v).toNat)
  case atStart => exact ⟨0, by omega, rfl, OwI.nil_ _ _, Below.refl _ _⟩
  case round =>
    obtain ⟨k, hk, rfl, hO, hbr⟩ := hrel
    have sK := MT.next SF.out hbr.out
    by_cases hlt : k < n
    · have hkn : (k : Int) < n := by omega
      have cb := BlkB.val (MK.get SF.out 2 rfl) (Mc.tab_at (f := Mc.oB) (Q := Q) hlt)
      have cb2 := BlkB.val (MK.get SF.out 0 rfl) (Mc.tab_at (f := Mc.oB) (Q := Q) hlt)
      obtain ⟨As, cl, hAs⟩ : ∃ A, w3.cell? ⟨g1, k, none⟩ = some (.slice A (Mc.oW (Q.lookup (k : Int))).length (Mc.oW (Q.lookup (k : Int))).length) ∧ Rd w3 A (Mc.oW (Q.lookup (k : Int))) := (MK.get SF.out 3 rfl) k _ (Mc.tab_at hlt)
      obtain ⟨Ar, cr, cl2, hAr⟩ : ∃ A c, w3.cell? ⟨g3, k, none⟩ = some (.slice A (Mc.oW (Q.lookup (k : Int))).length c) ∧ Rd w3 A (Mc.oW (Q.lookup (k : Int))) := (MK.get SF.out 1 rfl) k _ (Mc.tab_at hlt)
      obtain ⟨X, hX⟩ : ∃ X, Mc.oW (Q.lookup (k : Int)) = X := ⟨_, rfl⟩
      obtain ⟨β, hβ⟩ : ∃ β, Mc.oB (Q.lookup (k : Int)) = β := ⟨_, rfl⟩
      obtain ⟨L, hL⟩ : ∃ L, X.length = L := ⟨_, rfl⟩
      have h64 : L ≤ 64 := by
        have := Mc.look_short (t := (k : Int)) V.out (s := 0) (by have := V.out.r0; omega)
        rw [HQ.out, hX, hL] at this
        exact this
      rw [hX, hL] at cl cl2
      rw [hX] at hAs hAr
      rw [hβ] at cb cb2
      have HX := Lib.hid hX
      have HB := Lib.hid hβ
      have HL := Lib.hid hL
      clear hX hβ hL
      have sL := MT.putC (MT.putC (MT.putC (MT.putC (MK.putL (MK.putL SF.out hAs) hAr) cb) cb2) cl) cl2
      clear sK cb cb2 cl cl2 hAs hAr
      have TL := Lib.hid sL
      have f0 : ∀ x : BW wr, x.out.cell? ⟨g2, k, none⟩ = some (.bool β) := fun x => MK.get (MT.next TL.out (below_next hbr.out x.ok)) 3 rfl
      have f1 : ∀ x : BW wr, x.out.cell? ⟨g4, k, none⟩ = some (.bool β) := fun x => MK.get (MT.next TL.out (below_next hbr.out x.ok)) 2 rfl
      have f2 : ∀ x : BW wr, x.out.cell? ⟨g1, k, none⟩ = some (.slice As L L) := fun x => MK.get (MT.next TL.out (below_next hbr.out x.ok)) 1 rfl
      have f3 : ∀ x : BW wr, x.out.cell? ⟨g3, k, none⟩ = some (.slice Ar L cr) := fun x => MK.get (MT.next TL.out (below_next hbr.out x.ok)) 0 rfl
      have CY := fun (x : BW wr) => list_yes As Ar L cr X 0 x.out (MK.get (MT.next TL.out (below_next hbr.out x.ok)) 5 rfl) (MK.get (MT.next TL.out (below_next hbr.out x.ok)) 4 rfl) HL.out (by omega)
      have hbb : (β != β) = false := by simp
      clear sL
      go_upto_region 10 with fail
      refine wp_region_quiet_below (by kernel_rfl) (by kernel_rfl) ?_
      repeat (go_big_quiet_step ((rename_i x; (with_reducible refine (CY x).mono ?_); rintro e w2 ⟨rfl, hb2⟩; exact ⟨rfl, ⟨w2, below_next x.ok hb2⟩, rfl⟩)))
      refine wpQuiet_nil ?_
      intro w4 hw4
      obtain ⟨⟨wx, hbW⟩, hw5⟩ := hw4
      dsimp only at hw5
      subst hw5
      clear f0 f1 f2 f3 CY hbb
      have sM := MT.next TL.out (below_next hbr.out hbW)
      have hOM : Hid (OwI w4 w3.heap.size u9 (Mc.fl M k)) := own_below hO.out hbW
      have hbM := Lib.hid (below_next hbr.out hbW)
      have cb : w4.cell? ⟨g2, k, none⟩ = some (.bool β) := MK.get sM 3 rfl
      clear hO hbr hbW
      cases β with
      | false =>
        have hfl : Hid (Mc.fl M (k + 1) = Mc.fl M k) := Mc.fl_no (by rw [HQ.out]; exact HB.out)
        have hO2 : Hid (OwI w4 w3.heap.size u9 (Mc.fl M (k + 1))) := by show OwI _ _ _ _; rw [hfl.out]; exact hOM.out
        clear hfl hOM sM
        go_wp2
        go_roundw
        case rel => exact ⟨k + 1, by omega, by go_num, hO2, hbM⟩
        case measure => simp [intOf]; omega
      | true =>
        have hfl : Hid (Mc.fl M (k + 1) = Mc.fl M k ++ [(k : Int)]) := Mc.fl_yes (by rw [HQ.out]; exact HB.out)
        have hflen := Mc.fl_len M k
        have hS : Hid (Rd (w4.alloc (.cells #[.int .i64 k] 3)) (some ⟨w4.heap.size, 0, none⟩) [(k : Int)]) := Rd.of_block (t := 3) (heap_alloc_new w4 _)
        have hO3 : Hid (OwI (w4.alloc (.cells #[.int .i64 k] 3)) w3.heap.size u9 (Mc.fl M k)) := own_below hOM.out ((Below.refl _ _).alloc (Nat.le_refl _) _)
        have hb3 := Lib.hid (hbM.out.alloc hbM.out.size (.cells #[.int .i64 k] 3))
        have SM := Lib.hid sM
        clear hOM sM
        go_wp2_with (at_builtin; refine wpList_append_list _ (W0 := w3) (B := w3.heap.size) (xs := Mc.fl M k) (ys := [(k : Int)]) hO3.out hS.out rfl ?b1 ?b2 hb3.out rfl _ _ rfl rfl rfl ?_)
        case b1 => simp; omega
        case b2 => exact hb3.out.size
        intro v9 w5 hO4 hb4
        have hO5 : Hid (OwI w5 w3.heap.size v9 (Mc.fl M (k + 1))) := by show OwI _ _ _ _; rw [hfl.out]; exact hO4
        have HB4 := Lib.hid hb4
        have HLK : Hid (Q.lookup (k : Int) = some X) := by
          show _ = _
          have h1 := HB.out
          have h2 := HX.out
          cases h3 : Q.lookup (k : Int) with
          | none => rw [h3] at h1; cases h1
          | some u => rw [h3] at h2; exact congrArg some h2
        clear hO4 hb4 hO3 hb3 hS hfl cb SM
        go_wp2
        go_loopw [11] (fun v wq => ∃ j : Nat, j ≤ L ∧ v = .int .i64 j ∧ Hid (Below w5.heap.size w5 wq)) (fun v _ => L - (intOf v).toNat)
        case atStart => exact ⟨0, by omega, rfl, Below.refl _ _⟩
        case round =>
          obtain ⟨j, hj, rfl, hbq⟩ := hrel
          have hbq3 := Lib.hid (below_next HB4.out hbq.out)
          have cl : wr.cell? ⟨g1, k, none⟩ = some (.slice As L L) := MK.get (MT.next TL.out hbq3.out) 1 rfl
          by_cases hjl : j < L
          · have hjL : (j : Int) < L := by omega
            obtain ⟨bA, oA, rfl, _⟩ := Rd.val (k := j) (MK.get TL.out 5 rfl) (List.getElem?_eq_getElem (by rw [HL.out]; exact hjl))
            obtain ⟨t, ht1, htn, ht2, hwd⟩ := Mc.look_pre V.out (s := (k : Int)) (w := X) (by rw [HQ.out]; exact HLK.out) j
            rw [hlen.out] at htn
            have htl : (X.take j).length = j := by rw [List.length_take, HL.out]; omega
            obtain ⟨At, ct, hAt⟩ : ∃ A, w3.cell? ⟨g1, t, none⟩ = some (.slice A (Mc.oW (Q.lookup (t : Int))).length (Mc.oW (Q.lookup (t : Int))).length) ∧ Rd w3 A (Mc.oW (Q.lookup (t : Int))) := (MK.get SF.out 3 rfl) t _ (Mc.tab_at htn)
            rw [HQ.out] at ht2
            rw [ht2] at ct hAt
            have hww : Mc.oW (some (X.take j)) = X.take j := rfl
            rw [hww] at ct hAt
            rw [htl] at ct
            have UL := Lib.hid (MT.putC (MK.putL TL.out hAt) ct)
            have HTL := Lib.hid htl
            have f0 : ∀ x : BW wr, x.out.cell? ⟨g1, k, none⟩ = some (.slice (some ⟨bA, oA, none⟩) L L) := fun x => MK.get (MT.next UL.out (below_next hbq3.out x.ok)) 3 rfl
            have f1 : ∀ x : BW wr, x.out.cell? ⟨g1, t, none⟩ = some (.slice At j j) := fun x => MK.get (MT.next UL.out (below_next hbq3.out x.ok)) 0 rfl
            have f2 : ∀ x : BW wr, x.out.cell? ⟨g, 0, none⟩ = some (.int .i64 i) := fun x => (BxM.cells (MK.get (MT.next UL.out (below_next hbq3.out x.ok)) 12 rfl)).1
            have f3 : ∀ x : BW wr, x.out.cell? ⟨g, 1, none⟩ = some (.int .i64 o) := fun x => (BxM.cells (MK.get (MT.next UL.out (below_next hbq3.out x.ok)) 12 rfl)).2.1
            have f4 : ∀ x : BW wr, x.out.cell? ⟨g, 2, none⟩ = some (.slice R n c1) := fun x => (BxM.cells (MK.get (MT.next UL.out (below_next hbq3.out x.ok)) 12 rfl)).2.2
            have CY := fun (x : BW wr) => CF R c1 x.out (some ⟨bA, oA, none⟩) j L (X.take j) HTL.out (MK.get (MT.next UL.out (below_next hbq3.out x.ok)) 13 rfl) (Rd.take (MK.get (MT.next UL.out (below_next hbq3.out x.ok)) 7 rfl) j) hwd (by omega)
            simp only [ht1] at CY
            clear ct hAt hww ht1 ht2 htl
            go_upto_region 17 with fail
            refine wp_region_quiet_below (by kernel_rfl) (by kernel_rfl) ?_
            repeat (go_big_quiet_step ((rename_i x; (with_reducible refine (CY x).mono ?_); rintro e w2 ⟨rfl, hb2⟩; exact ⟨rfl, ⟨w2, below_next x.ok hb2⟩, rfl⟩)))
            refine wpQuiet_nil ?_
            intro w6 hw6
            obtain ⟨⟨wx, hbW⟩, hw7⟩ := hw6
            dsimp only at hw7
            subst hw7
            clear f0 f1 f2 f3 f4 CY cl
            have hb6 := Lib.hid (below_next hbq3.out hbW)
            have hb65 := Lib.hid (below_next hbq.out hbW)
            have f0 : ∀ x : BW w6, x.out.cell? ⟨g1, k, none⟩ = some (.slice (some ⟨bA, oA, none⟩) L L) := fun x => MK.get (MT.next UL.out (below_next hb6.out x.ok)) 3 rfl
            have f1 : ∀ x : BW w6, x.out.cell? ⟨g1, t, none⟩ = some (.slice At j j) := fun x => MK.get (MT.next UL.out (below_next hb6.out x.ok)) 0 rfl
            have CY := fun (x : BW w6) => rsame_yes At (some ⟨bA, oA, none⟩) j j L (X.take j) x.out (MK.get (MT.next UL.out (below_next hb6.out x.ok)) 1 rfl) (Rd.take (MK.get (MT.next UL.out (below_next hb6.out x.ok)) 7 rfl) j) HTL.out (by omega)
            have t1 : decide ((t : Int) < 0) = false := decide_eq_false (by omega)
            have htn' : (t : Int) < n := by omega
            clear hbW hbq3
            go_upto_region 18 with fail
            refine wp_region_quiet_below (by kernel_rfl) (by kernel_rfl) ?_
            repeat (go_big_quiet_step ((rename_i x; (with_reducible refine (CY x).mono ?_); rintro e w2 ⟨rfl, hb2⟩; exact ⟨rfl, ⟨w2, below_next x.ok hb2⟩, rfl⟩)))
            refine wpQuiet_nil ?_
            intro w8 hw8
            obtain ⟨⟨wx, hbW⟩, hw7⟩ := hw8
            dsimp only at hw7
            subst hw7
            clear f0 f1 CY
            have hb8 := Lib.hid (below_next hb65.out hbW)
            clear UL hb6 hb65 hbW
            go_wp2
            go_roundw
            case rel => exact ⟨j + 1, by omega, by go_num, hb8⟩
            case measure => simp [intOf]; omega
          · have hO6 : Hid (OwI wr w3.heap.size v9 (Mc.fl M (k + 1))) := own_below hO5.out hbq.out
            go_wp2
            go_roundw
            case rel => exact ⟨k + 1, by omega, by go_num, hO6, hbq3⟩
            case measure => simp [intOf]; omega
    · have hle : (Mc.fl M n).length ≤ 6 := by have := Mc.fl_len M n; omega
      obtain rfl : k = n := by omega
      have hfa : Hid (Mc.fl M k = Mc.asc M) := by show _ = _; rw [← Mc.fl_asc V.out, hlen.out]
      have hO2 := hO.out
      rw [hfa.out] at hO2 hle
      obtain ⟨A9, d9, rfl, hd9⟩ := own_formI hO2
      have sR := MK.putL sK (Rd.of_own hO2)
      obtain ⟨m0, m1, m2⟩ := BxM.cells (MK.get sR 5 rfl)
      clear sK SF hO hO2 hbr hfa
      go_wp2_with fail
      clear m0 m1 m2
      refine (CE R c1 _ (MK.get sR 6 rfl)).mono ?_
      rintro e w4 ⟨gr, q, rfl, hq, hrd, hbl⟩
      have s5 := MK.putL (MT.next sR hbl) hrd
      clear sR hrd hbl
      obtain ⟨K, hK⟩ : ∃ K, (Mc.asc M).length = K := ⟨_, rfl⟩
      obtain rfl : K = q := by rw [← hK]; exact hq.out
      have HK := Lib.hid hK
      try rw [hK]
      rw [hK] at hle
      clear hK hd9 hq
      go_wp2_with fail
      refine (list_yes (some ⟨gr, 0, none⟩) A9 K d9 (Mc.asc M) 0 _ (MK.get s5 0 rfl) (MK.get s5 1 rfl) HK.out (by omega)).mono ?_
      rintro e w5 ⟨rfl, hbl⟩
      have s6 := MT.next s5 hbl
      clear s5 hbl
      go_wp2_with fail
      refine (lives_walk w5).mono ?_
      rintro e w9 ⟨rfl, hb9⟩
      have hfin := below_next s6.2.1 hb9
      clear s6
      go_wp2
      go_ret
      exact ⟨rfl, hfin⟩
end Go.Proofs.Ythemaombpddbbaa
