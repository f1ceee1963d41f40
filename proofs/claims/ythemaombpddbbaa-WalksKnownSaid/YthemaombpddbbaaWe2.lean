/-
  The walk of WalksPath. No statement is proved here.
-/
import Derived.Test.YthemaombpddbbaaWeZ
namespace Go.Proofs.Ythemaombpddbbaa
open Go.RowKit
open Mc (Ed Ma)

set_option maxRecDepth 100000 in
set_option maxHeartbeats 4000000 in
theorem lawPath_walk (a b d : Int) (p : Bool) (A : Option Addr) (c : Nat) (es : List Int) (p0 p1 : Int) (w : World) (hr : Rd16 w A es) (hl : es.length ≤ 9223372036854775807)
    (ha : 0 ≤ a ∧ a ≤ 255) (hb : 0 ≤ b ∧ b ≤ 255) (hd : 0 ≤ d ∧ d ≤ 255) (hp0 : 0 ≤ p0 ∧ p0 ≤ 255) (hp1 : 0 ≤ p1 ∧ p1 ≤ 255) :
    Calls Try.prog 38 #[.agg #[.int .u8 a, .int .u8 b, .int .u8 d, .bool p, .slice A es.length c], .int .u8 p0, .int .u8 p1] w fun e w' => e = .returned (.bool true) ∧ Below w.heap.size w w' := by
  obtain ⟨n, hn⟩ : ∃ n : Nat, 1 + a % 6 = n := ⟨(1 + a % 6).toNat, by omega⟩
  obtain ⟨i, hi⟩ : ∃ i : Nat, 1 + b % 3 = i := ⟨(1 + b % 3).toNat, by omega⟩
  obtain ⟨o, ho⟩ : ∃ o : Nat, 1 + d % 3 = o := ⟨(1 + d % 3).toNat, by omega⟩
  have CM := fun w hr => mof_at a b d p A c es n i o w hr hl ha hb hd hn hi ho
  have hn1 : 1 ≤ n := by omega
  have hi1 : 1 ≤ i := by omega
  have hn6 : n ≤ 6 := by omega
  have hi3 : i ≤ 3 := by omega
  obtain ⟨M, hM⟩ : ∃ M, Mc.mkN p n i o es = M := ⟨_, rfl⟩
  have V := Lib.hid (Mc.mkN_val (p := p) (n := n) (i := i) (o := o) (es := es) (by omega) (by omega) (by omega) (by omega) (by omega) (by omega))
  have hlen : Hid ((Mc.mkN p n i o es).r.length = n) := Mc.mkN_len _ _ _ _ _
  have hmi : Hid ((Mc.mkN p n i o es).i = i) := rfl
  have hmo : Hid ((Mc.mkN p n i o es).o = o) := rfl
  rw [hM] at V hlen hmi hmo
  simp only [hM] at CM
  clear hM ha hb hd hn hi ho hl
  obtain ⟨s, hs, hsn⟩ : ∃ s : Nat, p0.tmod (n : Int) = s ∧ s < n := ⟨(p0.tmod (n : Int)).toNat, by rw [Int.tmod_eq_emod_of_nonneg hp0.1]; have := Int.emod_nonneg p0 (show (n : Int) ≠ 0 by omega); omega, by rw [Int.tmod_eq_emod_of_nonneg hp0.1]; have := Int.emod_lt_of_pos p0 (show (0 : Int) < n by omega); have := Int.emod_nonneg p0 (show (n : Int) ≠ 0 by omega); omega⟩
  obtain ⟨t, ht, htn⟩ : ∃ t : Nat, p1.tmod (n : Int) = t ∧ t < n := ⟨(p1.tmod (n : Int)).toNat, by rw [Int.tmod_eq_emod_of_nonneg hp1.1]; have := Int.emod_nonneg p1 (show (n : Int) ≠ 0 by omega); omega, by rw [Int.tmod_eq_emod_of_nonneg hp1.1]; have := Int.emod_lt_of_pos p1 (show (0 : Int) < n by omega); have := Int.emod_nonneg p1 (show (n : Int) ≠ 0 by omega); omega⟩
  have hss : Hid ((0 : Int) ≤ s ∧ (s : Int) < M.r.length) := by show _ ∧ _; rw [hlen.out]; omega
  obtain ⟨Q, hQ⟩ : ∃ Q, Mc.wk M s = Q := ⟨_, rfl⟩
  have HQ := Lib.hid hQ
  have CP := fun R c1 w hr => path_at M i o R n c1 w s t V.out hmi.out hmo.out hlen.out hsn htn hr
  have CD := fun R c1 w hr => dist_at M i o R n c1 w s V.out hmi.out hmo.out hlen.out hsn hr
  have CR := fun R c1 w hr => paths_at M i o R n c1 w s V.out hmi.out hmo.out hlen.out hsn hr
  simp only [hQ] at CP CD CR
  have HS := Lib.hid hs
  have HT := Lib.hid ht
  have HR := Lib.hid hr
  clear hs ht hr hQ
  have s0 : MT w w [] := MT.start
  go_enter Try.func38, Try.ntmps38
  have s1 := MT.alloc s0 (.cells #[.int .u8 a, .int .u8 b, .int .u8 d, .bool p, .slice A es.length c] 24)
  clear s0
  go_wp2_with fail
  refine (CM _ (HR.out.below s1.2.1)).mono ?_
  rintro e w1 ⟨R, c1, rfl, hrd, hbl⟩
  have s2 := MK.putB (g := w1.heap.size) (MT.alloc (MK.putR (MT.next s1 hbl) hrd) (.cells #[.int .i64 i, .int .i64 o, .slice R n c1] 30)) (heap_alloc_new w1 _)
  clear s1 hrd hbl CM HR
  go_wp2_with fail
  obtain ⟨g, hg⟩ : ∃ g, w1.heap.size = g := ⟨_, rfl⟩
  obtain ⟨W, hW⟩ : ∃ W, w1.alloc (.cells #[.int .i64 i, .int .i64 o, .slice R n c1] 30) = W := ⟨_, rfl⟩
  rw [hg, hW] at s2
  rw [hg, hW]
  clear hg hW
  obtain ⟨m0, m1, m2⟩ := BxM.cells (MK.get s2 0 rfl)
  have hw0 : IntKind.i64.wrap p0 = p0 := IntWalk.i64_in _ (by omega)
  have hw1 : IntKind.i64.wrap p1 = p1 := IntWalk.i64_in _ (by omega)
  have hn0 : ((n : Int) == 0) = false := by rw [beq_eq_false_iff_ne]; omega
  have hn0a : ¬ n = 0 := by omega
  have hs' := HS.out
  have ht' := HT.out
  go_quiet (fail)
  clear m0 m1 m2 hw0 hw1 hn0 hn0a hs' ht' HS HT
  have s3 := MT.next s2 (below_drewN' (Below.refl _ _) nq)
  clear s2
  obtain ⟨W3, hW3⟩ : ∃ W3, W.drewN nq = W3 := ⟨_, rfl⟩
  rw [hW3] at s3
  rw [hW3]
  clear hW3
  obtain ⟨m0, m1, m2⟩ := BxM.cells (MK.get s3 0 rfl)
  go_wp2_with fail
  clear m0 m1 m2
  refine (CP R c1 _ (MK.get s3 1 rfl)).mono ?_
  rintro e w3 ⟨B3, k3, rfl, hk3, h64, hP, hbl⟩
  have s4 := MK.putL (MT.next s3 hbl) hP
  clear s3 hP hbl CP
  obtain ⟨m0, m1, m2⟩ := BxM.cells (MK.get s4 1 rfl)
  go_wp2_with fail
  clear m0 m1 m2
  refine (CD R c1 _ (MK.get s4 2 rfl)).mono ?_
  rintro e w4 ⟨B4, rfl, hP, hbl⟩
  have s5 := MK.putL (MT.next s4 hbl) hP
  clear s4 hP hbl CD
  obtain ⟨m0, m1, m2⟩ := BxM.cells (MK.get s5 2 rfl)
  go_wp2_with fail
  clear m0 m1 m2
  refine (CR R c1 _ (MK.get s5 3 rfl)).mono ?_
  rintro e w5 ⟨g1, g2, rfl, hW, hO, hbl⟩
  have s6 := MK.putO (MK.put (MT.next s5 hbl) (Wr.kept _ _) hW) hO
  clear s5 hW hO hbl CR
  obtain ⟨At, ct, q1, q2⟩ : ∃ A c, w5.cell? ⟨g1, t, none⟩ = some (.slice A (Mc.oW (Q.lookup (t : Int))).length c) ∧ Rd w5 A (Mc.oW (Q.lookup (t : Int))) := (MK.get s6 1 rfl) t _ (Mc.tab_at htn)
  have q3 := BlkB.val (MK.get s6 0 rfl) (Mc.tab_at (f := Mc.oB) (Q := Q) htn)
  obtain ⟨bd, od, rfl, _⟩ := Rd.val (MK.get s6 2 rfl) (Mc.tab_at (f := Mc.oD) (Q := Q) (show 0 < n by omega))
  obtain ⟨X, hX⟩ : ∃ X, Mc.oW (Q.lookup (t : Int)) = X := ⟨_, rfl⟩
  obtain ⟨β, hβ⟩ : ∃ β, Mc.oB (Q.lookup (t : Int)) = β := ⟨_, rfl⟩
  rw [hX] at q1 q2 s6 hk3
  rw [hβ] at q3
  rw [hβ]
  rw [hk3.out] at q1
  clear hX hβ
  have s7 := MT.putC (MK.putL s6 q2) q3
  clear s6 q3 q2
  have hbb : (β != β) = false := by simp
  have htn' : (t : Int) < n := by omega
  go_wp2_with fail
  clear q1
  refine (list_yes B3 At k3 ct X 0 _ (MK.get s7 5 rfl) (MK.get s7 1 rfl) hk3.out (by omega)).mono ?_
  rintro e w6 ⟨rfl, hbl⟩
  have s8 := MT.next s7 hbl
  clear s7 hbl hk3
  have q3 : w6.cell? _ = _ := MK.get s8 0 rfl
  go_wp2
  clear q3 hbb
  have SF := Lib.hid s8
  clear s8
  go_loopw [17] (fun v wr => ∃ k : Nat, k ≤ n ∧ v = .int .i64 k ∧ Hid (Below w6.heap.size w6 wr)) (fun v _ => n - (intOf v).toNat)
  case atStart => exact ⟨0, by omega, rfl, Below.refl _ _⟩
  case round =>
    obtain ⟨k, hk, rfl, hbr⟩ := hrel
    have sK := MT.next SF.out hbr.out
    by_cases hlt : k < n
    · have hkn : (k : Int) < n := by omega
      have cb := BlkB.val (MK.get sK 2 rfl) (Mc.tab_at (f := Mc.oB) (Q := Q) hlt)
      obtain ⟨_, _, hE, cd⟩ := Rd.val (MK.get sK 4 rfl) (Mc.tab_at (f := Mc.oD) (Q := Q) hlt)
      injection hE with hE
      injection hE with hE1 hE2
      subst hE1 hE2
      obtain ⟨Ak, ck, cl, _⟩ : ∃ A c, wr.cell? ⟨g1, k, none⟩ = some (.slice A (Mc.oW (Q.lookup (k : Int))).length c) ∧ _ := (MK.get sK 3 rfl) k _ (Mc.tab_at hlt)
      cases hk0 : Q.lookup (k : Int) with
      | none =>
        rw [hk0] at cb cd
        have hcb : Value.bool (Mc.oB none) = .bool false := rfl
        have hcd : Value.int .i64 (Mc.oD none) = .int .i64 (-1) := rfl
        rw [hcb] at cb
        rw [hcd] at cd
        clear hcb hcd
        go_wp2
        go_loopw [19] (fun v wq => ∃ j : Nat, j ≤ i ∧ v = .int .i64 j ∧ Hid (Below w6.heap.size w6 wq)) (fun v _ => i - (intOf v).toNat)
        case atStart => exact ⟨0, by omega, rfl, hbr⟩
        case round =>
          obtain ⟨j, hj, rfl, hbq⟩ := hrel
          clear cb cd cl sK hbr
          have sJ := MT.next SF.out hbq.out
          obtain ⟨m0, m1, m2⟩ := BxM.cells (MK.get sJ 6 rfl)
          by_cases hjl : j < i
          · have hji : (j : Int) < i := by omega
            obtain ⟨_, _, hE, cd⟩ := Rd.val (MK.get sJ 4 rfl) (Mc.tab_at (f := Mc.oD) (Q := Q) hlt)
            injection hE with hE
            injection hE with hE1 hE2
            subst hE1 hE2
            rw [hk0] at cd
            obtain ⟨br, ofr, Br, cr, nr, row, rfl, _, hcr, hnc, _, _, hPr, hrl, hrk⟩ := (MK.get sJ 7 rfl).at_ (k := k) (by rw [hlen.out]; exact hlt)
            have hrl2 : row.length = i := by have := V.out.len row (List.mem_of_getElem? hrk.out); rw [hmi.out] at this; omega
            obtain ⟨bx, ox, x, y, rfl, _, hx, _, hxy⟩ := hPr.at_ (k := j) (by omega)
            have hni : nr = i := by rw [← hrl.out]; exact hrl2
            subst hni
            clear hPr hrl hrk hxy sJ
            have hm1 : Value.int .i64 (Mc.oD none) = .int .i64 (-1) := rfl
            rw [hm1] at cd
            go_wp2
            go_quiet (fail)
            go_wp2
            go_roundw
            case rel => exact ⟨j + 1, by omega, by go_num, Lib.hid (below_drewN' hbq.out _)⟩
            case measure => simp [intOf]; omega
          · have hb2 := hbq

            go_wp2
            go_roundw
            case rel => exact ⟨k + 1, by omega, by go_num, hb2⟩
            case measure => simp [intOf]; omega
      | some u =>
        rw [hk0] at cb cd cl
        have hcb : Value.bool (Mc.oB (some u)) = .bool true := rfl
        have hcd : Value.int .i64 (Mc.oD (some u)) = .int .i64 u.length := rfl
        have hcl : (Mc.oW (some u)).length = u.length := rfl
        rw [hcb] at cb
        rw [hcd] at cd
        rw [hcl] at cl
        have hnn : ((u.length : Int) != u.length) = false := by simp
        clear hcb hcd hcl
        go_wp2
        go_loopw [19] (fun v wq => ∃ j : Nat, j ≤ i ∧ v = .int .i64 j ∧ Hid (Below w6.heap.size w6 wq)) (fun v _ => i - (intOf v).toNat)
        case atStart => exact ⟨0, by omega, rfl, hbr⟩
        case round =>
          obtain ⟨j, hj, rfl, hbq⟩ := hrel
          clear cb cd cl sK hbr
          have sJ := MT.next SF.out hbq.out
          obtain ⟨m0, m1, m2⟩ := BxM.cells (MK.get sJ 6 rfl)
          by_cases hjl : j < i
          · have hji : (j : Int) < i := by omega
            obtain ⟨_, _, hE, cd⟩ := Rd.val (MK.get sJ 4 rfl) (Mc.tab_at (f := Mc.oD) (Q := Q) hlt)
            injection hE with hE
            injection hE with hE1 hE2
            subst hE1 hE2
            rw [hk0] at cd
            obtain ⟨br, ofr, Br, cr, nr, row, rfl, _, hcr, hnc, _, _, hPr, hrl, hrk⟩ := (MK.get sJ 7 rfl).at_ (k := k) (by rw [hlen.out]; exact hlt)
            have hrl2 : row.length = i := by have := V.out.len row (List.mem_of_getElem? hrk.out); rw [hmi.out] at this; omega
            obtain ⟨bx, ox, x, y, rfl, _, hx, _, hxy⟩ := hPr.at_ (k := j) (by omega)
            have hni : nr = i := by rw [← hrl.out]; exact hrl2
            subst hni
            have hcd : Value.int .i64 (Mc.oD (some u)) = .int .i64 u.length := rfl
            rw [hcd] at cd
            have hu := Mc.look_short (t := (k : Int)) V.out hss.out
            rw [HQ.out, hk0] at hu
            have hu : u.length ≤ 64 := hu
            have hu0 : (0 : Int) ≤ u.length := by omega
            by_cases hx0 : 0 ≤ x
            · obtain ⟨u', hl', hul⟩ := Mc.look_step V.out hss.out hrk.out hxy.out (by rw [hmi.out]; exact hji) (by rw [HQ.out]; exact hk0) hx0
              rw [HQ.out] at hl'
              obtain ⟨x', rfl⟩ := Int.eq_ofNat_of_zero_le hx0
              have hxn : x' < n := by
                rcases (Mc.wk_bf V.out hss.out).look (t := (x' : Int)) with ⟨_, _, _, _, h6⟩ | ⟨h4, _⟩
                · rw [hlen.out] at h6; omega
                · rw [HQ.out] at h4
                  have hl'' : Q.lookup (x' : Int) = some u' := hl'
                  rw [hl''] at h4; cases h4
              obtain ⟨_, _, hE, cx⟩ := Rd.val (MK.get sJ 4 rfl) (Mc.tab_at (f := Mc.oD) (Q := Q) hxn)
              injection hE with hE
              injection hE with hE1 hE2
              subst hE1 hE2
              have hl'' : Q.lookup (x' : Int) = some u' := hl'
              rw [hl''] at cx
              have hcx : Value.int .i64 (Mc.oD (some u')) = .int .i64 u'.length := rfl
              rw [hcx] at cx
              have hul : u'.length ≤ u.length + 1 := hul
              obtain ⟨q, hq⟩ : ∃ q, u.length = q := ⟨_, rfl⟩
              obtain ⟨q', hq'⟩ : ∃ q', u'.length = q' := ⟨_, rfl⟩
              rw [hq] at cd hu hu0 hul
              rw [hq'] at cx hul
              have t1 : decide ((0 : Int) ≤ q) = true := decide_eq_true (by omega)
              have t2 : decide ((0 : Int) ≤ x') = true := decide_eq_true (by omega)
              have t3 : decide ((q' : Int) < 0) = false := decide_eq_false (by omega)
              have t4 : IntKind.i64.wrap ((q : Int) + 1) = q + 1 := IntWalk.i64_in _ (by omega)
              have t5 : decide ((q : Int) + 1 < q') = false := decide_eq_false (by omega)
              have hxi : (x' : Int) < n := by omega
              clear hPr hrl hrk hxy sJ hl' hl'' hcx hcd hq hq' hul hu hu0 hx0 HQ
              go_wp2
              go_quiet (fail)
              go_wp2
              go_roundw
              case rel => exact ⟨j + 1, by omega, by go_num, Lib.hid (below_drewN' hbq.out _)⟩
              case measure => simp [intOf]; omega
            · have t1 : decide ((0 : Int) ≤ u.length) = true := decide_eq_true (by omega)
              have t2 : decide ((0 : Int) ≤ x) = false := decide_eq_false (by omega)
              clear hPr hrl hrk hxy sJ hcd hu
              go_wp2
              go_quiet (fail)
              go_wp2
              go_roundw
              case rel => exact ⟨j + 1, by omega, by go_num, Lib.hid (below_drewN' hbq.out _)⟩
              case measure => simp [intOf]; omega
          · have hb2 := hbq

            go_wp2
            go_roundw
            case rel => exact ⟨k + 1, by omega, by go_num, hb2⟩
            case measure => simp [intOf]; omega
    · have SL := sK.2.1
      clear sK SF hbr
      go_wp2_with fail
      refine (lives_walk wr).mono ?_
      rintro e w9 ⟨rfl, hb9⟩
      go_wp2
      go_ret
      exact ⟨rfl, below_next SL hb9⟩
end Go.Proofs.Ythemaombpddbbaa
