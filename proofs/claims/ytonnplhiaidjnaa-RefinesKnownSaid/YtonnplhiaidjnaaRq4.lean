/-
  The walk of the law RefinesRespects. No statement is proved here.
-/
import Derived.Test.YtonnplhiaidjnaaRq1
import Derived.Test.YtonnplhiaidjnaaRf3
import Derived.Test.YtonnplhiaidjnaaSkB
import Derived.Test.YtonnplhiaidjnaaSC13
import Derived.Deep.RegionHeld3
import Derived.Deep.QuietTactic
import Derived.BigQuiet
namespace Go.Proofs.Ytonnplhiaidjnaa
open Go.RowKit
open Mc (Ed Ma)

theorem pof_at (A : Option Addr) (c l : Nat) (xs : List Int) (n : Nat) (w : World) (h : Rd8 w A xs) (hn : n ≤ 256) (hl : xs.length = l) :
    Calls Try.prog 26 #[.agg #[.slice A l c], .int .i64 n] w fun e w' => ∃ B q, e = .returned (.slice B n q) ∧ Rd w' B (M.ofL (M.pad xs n)) ∧ Below w.heap.size w w' := by
  subst hl
  refine (pof_any A c xs n w h hn).mono ?_
  rintro e w' ⟨B, q, rfl, hrd, _, hb⟩
  rw [M.ofL_len, M.pad_len]
  exact ⟨B, q, rfl, hrd, hb⟩
theorem join_at (A B : Option Addr) (c d n : Nat) (p q : List Int) (w : World) (hp : Rd w A p) (hq : Rd w B q) (hl : p.length = n) (hl2 : q.length = n) (hn : n ≤ 64) (hv : M.Vd p) (hv2 : M.Vd q) :
    Calls Try.prog 29 #[.slice A n c, .slice B n d] w fun e w' => ∃ C, e = .returned (.tuple #[.slice C n n, .int .i64 0]) ∧ Rd w' C (M.pjoin p q) ∧ Below w.heap.size w w' := by
  have hb : M.both p q = 0 := M.Two.both ⟨hv, hv2, by omega, by omega⟩
  have h := join_any A B c d p q w hp hq
  rw [M.joinV_ok hb, hb, hl, hl2] at h
  refine h.mono ?_
  rintro e w' ⟨C, rfl, h1, h2⟩
  rw [M.join_len, hl]
  exact ⟨C, rfl, h1, h2⟩
section
variable (m : Ma) (i : Nat) (o : Int) (A P : Option Addr) (n c k : Nat) (p : List Int) (w : World)
theorem rresp_1 (v : Mc.Val m) (hi : m.i = i) (hn : m.r.length = n) (hr : RdR w A m.r) (hp : Rd w P p) (hv : M.Vd p) (hl : p.length = n) (h : (Mc.rfd m p == p) = true) :
    Calls Try.prog 28 #[.agg #[.int .i64 i, .int .i64 o, .slice A n c], .slice P n k] w fun e w' => e = .returned (.int .i64 1) ∧ Below w.heap.size w w' := by
  have := rresp_any m i o A P n c k p w v hi hn hr hp hv hl
  rwa [if_pos h] at this
theorem rresp_0 (v : Mc.Val m) (hi : m.i = i) (hn : m.r.length = n) (hr : RdR w A m.r) (hp : Rd w P p) (hv : M.Vd p) (hl : p.length = n) (h : (Mc.rfd m p == p) = false) :
    Calls Try.prog 28 #[.agg #[.int .i64 i, .int .i64 o, .slice A n c], .slice P n k] w fun e w' => e = .returned (.int .i64 0) ∧ Below w.heap.size w w' := by
  have := rresp_any m i o A P n c k p w v hi hn hr hp hv hl
  rwa [if_neg (by rw [h]; simp)] at this
end
set_option maxRecDepth 100000 in
set_option maxHeartbeats 8000000 in
theorem lawResp_walk (a b d : Int) (p : Bool) (A : Option Addr) (c : Nat) (es : List Int) (Y : Option Addr) (yc : Nat) (ys : List Int) (Z : Option Addr) (zc : Nat) (zs : List Int) (w : World) (hr : Rd16 w A es) (hy : Rd8 w Y ys) (hz : Rd8 w Z zs) (hl : es.length ≤ 9223372036854775807) (_hly : ys.length ≤ 9223372036854775807) (_hlz : zs.length ≤ 9223372036854775807) (ha : 0 ≤ a ∧ a ≤ 255) (hb : 0 ≤ b ∧ b ≤ 255) (hd : 0 ≤ d ∧ d ≤ 255) :
    Calls Try.prog 5 #[.agg #[.int .u8 a, .int .u8 b, .int .u8 d, .bool p, .slice A es.length c], .agg #[.slice Y ys.length yc], .agg #[.slice Z zs.length zc]] w fun e w' => e = .returned (.bool true) ∧ Below w.heap.size w w' := by
  obtain ⟨n, hn⟩ : ∃ n : Nat, 1 + a % 6 = n := ⟨(1 + a % 6).toNat, by omega⟩
  obtain ⟨i, hi⟩ : ∃ i : Nat, 1 + b % 3 = i := ⟨(1 + b % 3).toNat, by omega⟩
  obtain ⟨o, ho⟩ : ∃ o : Nat, 1 + d % 3 = o := ⟨(1 + d % 3).toNat, by omega⟩
  have hn6 : n ≤ 6 := by omega
  have CM := fun w hr => mof_at a b d p A c es n i o w hr hl ha hb hd hn hi ho
  obtain ⟨M, hM⟩ : ∃ M, Mc.mkN p n i o es = M := ⟨_, rfl⟩
  have V := Lib.hid (Mc.mkN_val (p := p) (n := n) (i := i) (o := o) (es := es) (by omega) (by omega) (by omega) (by omega) (by omega) (by omega))
  have hlen : Hid ((Mc.mkN p n i o es).r.length = n) := Mc.mkN_len _ _ _ _ _
  have hmi : Hid ((Mc.mkN p n i o es).i = i) := rfl
  have hmo : Hid ((Mc.mkN p n i o es).o = o) := rfl
  rw [hM] at V hlen hmi hmo
  simp only [hM] at CM
  clear hM ha hb hd hn hi ho hl _hly _hlz
  have h0 := V.out.r0
  obtain ⟨E1, hE1⟩ : ∃ E, ys.length = E := ⟨_, rfl⟩
  obtain ⟨E2, hE2⟩ : ∃ E, zs.length = E := ⟨_, rfl⟩
  obtain ⟨E3, hE3⟩ : ∃ E, es.length = E := ⟨_, rfl⟩
  have CY := fun w h => pof_at Y yc E1 ys n w h (by omega) hE1
  have CZ := fun w h => pof_at Z zc E2 zs n w h (by omega) hE2
  rw [hE1, hE2, hE3]
  simp only [hE3] at CM
  obtain ⟨P, hP⟩ : ∃ P, Go.Proofs.Ytonnplhiaidjnaa.M.ofL (Go.Proofs.Ytonnplhiaidjnaa.M.pad ys n) = P := ⟨_, rfl⟩
  obtain ⟨Q, hQ⟩ : ∃ Q, Go.Proofs.Ytonnplhiaidjnaa.M.ofL (Go.Proofs.Ytonnplhiaidjnaa.M.pad zs n) = Q := ⟨_, rfl⟩
  simp only [hP] at CY
  simp only [hQ] at CZ
  have HPL : Hid (P.length = n) := by show _ = _; rw [← hP, Go.Proofs.Ytonnplhiaidjnaa.M.ofL_len, Go.Proofs.Ytonnplhiaidjnaa.M.pad_len]
  have HQL : Hid (Q.length = n) := by show _ = _; rw [← hQ, Go.Proofs.Ytonnplhiaidjnaa.M.ofL_len, Go.Proofs.Ytonnplhiaidjnaa.M.pad_len]
  have HPV : Hid (Go.Proofs.Ytonnplhiaidjnaa.M.Vd P) := by rw [← hP]; exact Go.Proofs.Ytonnplhiaidjnaa.M.Vd.of_ _
  have HQV : Hid (Go.Proofs.Ytonnplhiaidjnaa.M.Vd Q) := by rw [← hQ]; exact Go.Proofs.Ytonnplhiaidjnaa.M.Vd.of_ _
  obtain ⟨C, hC⟩ : ∃ C, Mc.cls M = C := ⟨_, rfl⟩
  have HC : Hid (Mc.cls M = C) := hC
  have HCL : Hid (C.length = n) := by show _ = _; rw [← hC]; exact (Mc.rnd_len _ _).trans hlen.out
  have HCV : Hid (Go.Proofs.Ytonnplhiaidjnaa.M.Vd C) := by rw [← hC]; exact Mc.rnd_vd _ _
  have HCR : Hid ((Mc.rfd M C == C) = true) := by show _ = _; rw [← hC, Mc.rsp_cls h0]; simp
  have HFN : Hid ((Mc.rfd M P == P) = true → Go.Proofs.Ytonnplhiaidjnaa.M.fin P C) := fun h => by
    rw [beq_iff_eq, Mc.rsp_iff HPV.out (HPL.out.trans hlen.out.symm)] at h
    rw [← hC]
    intro s t hs ht e
    rw [HPL.out, ← hlen.out] at hs ht
    exact Mc.rsp_fin V.out h _ s t hs ht e
  obtain ⟨J, hJ⟩ : ∃ J, Go.Proofs.Ytonnplhiaidjnaa.M.pjoin P Q = J := ⟨_, rfl⟩
  have HJ : Hid (Go.Proofs.Ytonnplhiaidjnaa.M.pjoin P Q = J) := hJ
  have HJL : Hid (J.length = n) := by show _ = _; rw [← hJ, Go.Proofs.Ytonnplhiaidjnaa.M.join_len]; exact HPL.out
  have HJV : Hid (Go.Proofs.Ytonnplhiaidjnaa.M.Vd J) := by rw [← hJ]; exact Go.Proofs.Ytonnplhiaidjnaa.M.join_vd _ _
  have HJR : Hid ((Mc.rfd M P == P) = true → (Mc.rfd M Q == Q) = true → (Mc.rfd M J == J) = true) := fun h1 h2 => by
    rw [beq_iff_eq, Mc.rsp_iff HPV.out (HPL.out.trans hlen.out.symm)] at h1
    rw [beq_iff_eq, Mc.rsp_iff HQV.out (HQL.out.trans hlen.out.symm)] at h2
    rw [beq_iff_eq, Mc.rsp_iff HJV.out (HJL.out.trans hlen.out.symm), ← hJ]
    exact Mc.rsp_join V.out h1 h2 (HPL.out.trans hlen.out.symm)
  obtain ⟨ba, hba⟩ : ∃ b, (Mc.rfd M P == P) = b := ⟨_, rfl⟩
  obtain ⟨bb, hbb⟩ : ∃ b, (Mc.rfd M Q == Q) = b := ⟨_, rfl⟩
  have HBA := Lib.hid hba
  have HBB := Lib.hid hbb
  have HR := Lib.hid hr
  have HY := Lib.hid hy
  have HZ := Lib.hid hz
  clear hr hy hz hP hQ hC hJ hba hbb hE1 hE2 hE3 h0
  obtain ⟨K0, hK0⟩ : ∃ K0, w.heap.size = K0 := ⟨_, rfl⟩
  have s0 : MT w w [] := MT.start
  have s1 := MT.putK (P := fun w => w.heap[K0]? = some (.cells #[.int .u8 a, .int .u8 b, .int .u8 d, .bool p, .slice A E3 c] 24)) (MT.alloc s0 (.cells #[.int .u8 a, .int .u8 b, .int .u8 d, .bool p, .slice A E3 c] 24))
    (by rw [← hK0]; exact heap_alloc_new w _) (fun _ _ h hb => (hb.block _ (heap_lt h)).trans h)
  have s2 := MT.putK (P := fun w => w.heap[K0 + 1]? = some (.cells #[.slice Y E1 yc] 52)) (MT.alloc s1 (.cells #[.slice Y E1 yc] 52))
    (by
      have h := heap_alloc_new (w.alloc (.cells #[.int .u8 a, .int .u8 b, .int .u8 d, .bool p, .slice A E3 c] 24)) (.cells #[.slice Y E1 yc] 52)
      rw [World.size_alloc, hK0] at h
      exact h) (fun _ _ h hb => (hb.block _ (heap_lt h)).trans h)
  have s3 := MT.putK (P := fun w => w.heap[K0 + 1 + 1]? = some (.cells #[.slice Z E2 zc] 52)) (MT.alloc s2 (.cells #[.slice Z E2 zc] 52))
    (by
      have h := heap_alloc_new ((w.alloc (.cells #[.int .u8 a, .int .u8 b, .int .u8 d, .bool p, .slice A E3 c] 24)).alloc (.cells #[.slice Y E1 yc] 52)) (.cells #[.slice Z E2 zc] 52)
      rw [World.size_alloc, World.size_alloc, hK0] at h
      exact h) (fun _ _ h hb => (hb.block _ (heap_lt h)).trans h)
  clear s0 s1 s2
  go_enter Try.func5, Try.ntmps5
  go_upto_region 1 with fail
  obtain ⟨W0, hW0⟩ : ∃ W0, ((w.alloc (.cells #[.int .u8 a, .int .u8 b, .int .u8 d, .bool p, .slice A E3 c] 24)).alloc (.cells #[.slice Y E1 yc] 52)).alloc (.cells #[.slice Z E2 zc] 52) = W0 := ⟨_, rfl⟩
  rw [hW0] at s3
  try rw [hW0]
  try rw [hK0]
  clear hW0 hK0
  have kM : W0.cell? ⟨K0, 0, none⟩ = some (.int .u8 a) ∧ W0.cell? ⟨K0, 1, none⟩ = some (.int .u8 b) ∧ W0.cell? ⟨K0, 2, none⟩ = some (.int .u8 d) ∧ W0.cell? ⟨K0, 3, none⟩ = some (.bool p) ∧ W0.cell? ⟨K0, 4, none⟩ = some (.slice A E3 c) := by
    have h1 := MK.get s3 2 rfl
    refine ⟨?_, ?_, ?_, ?_, ?_⟩ <;> (rw [cell_of_row _ _ _ _ _ _ h1]; rfl)
  obtain ⟨c0, c1, c2, c3, c4⟩ := kM
  go_wp2_with fail
  clear c0 c1 c2 c3 c4
  refine (CM _ (HR.out.below s3.2.1)).mono ?_
  rintro e w1 ⟨R, c1, rfl, hrd, hbl⟩
  have s4 := MK.putB (g := w1.heap.size) (MT.alloc (MK.putR (MT.next s3 hbl) hrd) (.cells #[.int .i64 i, .int .i64 o, .slice R n c1] 27)) (heap_alloc_new w1 _)
  clear s3 hrd hbl CM HR
  go_upto_region 2 with fail
  obtain ⟨g, hg⟩ : ∃ g, w1.heap.size = g := ⟨_, rfl⟩
  obtain ⟨W2, hW2⟩ : ∃ W, w1.alloc (.cells #[.int .i64 i, .int .i64 o, .slice R n c1] 27) = W := ⟨_, rfl⟩
  rw [hg, hW2] at s4
  try rw [hg]
  try rw [hW2]
  clear hg hW2
  have kY : W2.cell? ⟨K0 + 1, 0, none⟩ = some (.slice Y E1 yc) := by
    have h1 := MK.get s4 3 rfl
    rw [cell_of_row _ _ _ _ _ _ h1]; rfl
  have kZ : W2.cell? ⟨K0 + 1 + 1, 0, none⟩ = some (.slice Z E2 zc) := by
    have h1 := MK.get s4 2 rfl
    rw [cell_of_row _ _ _ _ _ _ h1]; rfl
  obtain ⟨m0, m1, m2⟩ := BxM.cells (MK.get s4 0 rfl)
  have lg : g < W2.heap.size := heap_lt (MK.get s4 0 rfl)
  have ly : K0 + 1 < W2.heap.size := heap_lt (MK.get s4 3 rfl)
  have lz : K0 + 1 + 1 < W2.heap.size := heap_lt (MK.get s4 2 rfl)
  have KP : ∀ w', Below W2.heap.size W2 w' → w'.cell? ⟨g, 2, none⟩ = some (.slice R n c1) ∧ w'.cell? ⟨K0 + 1, 0, none⟩ = some (.slice Y E1 yc) ∧ w'.cell? ⟨K0 + 1 + 1, 0, none⟩ = some (.slice Z E2 zc) := fun w' y =>
    ⟨(y.cell (p := ⟨g, 2, none⟩) lg).trans m2, (y.cell (p := ⟨K0 + 1, 0, none⟩) ly).trans kY, (y.cell (p := ⟨K0 + 1 + 1, 0, none⟩) lz).trans kZ⟩
  have sD := MT.next s4 (Below.refl _ _).drew
  have y0 : Below W2.heap.size W2 W2.drew := (Below.refl _ _).drew
  clear m0 m1
  have hYD := HY.out.below sD.2.1
  go_region_held3 (fun w' => w'.cell? ⟨g, 2, none⟩ = some (.slice R n c1) ∧ w'.cell? ⟨K0 + 1, 0, none⟩ = some (.slice Y E1 yc) ∧ w'.cell? ⟨K0 + 1 + 1, 0, none⟩ = some (.slice Z E2 zc))
    (first | exact ⟨x22, x23, x24⟩ | exact ⟨x12, x13, x14⟩ | exact ⟨m2, kY, kZ⟩ | go_keep)
    (first
      | (go_at_call 26
         (with_reducible refine (CY _ hYD).mono ?_)
         rintro e wa1 ⟨BP, qP, rfl, hrP, hb3⟩
         have t1 := MK.putL (MT.next sD hb3) hrP
         have y1 := below_next y0 hb3
         have hZ1 := HZ.out.below t1.2.1
         obtain ⟨x12, x13, x14⟩ := KP _ y1
         dsimp only)
      | (go_at_call 26
         (with_reducible refine (CZ _ hZ1).mono ?_)
         rintro e wa2 ⟨BQ, qQ, rfl, hrQ, hb4⟩
         have t2 := MK.putL (MT.next t1 hb4) hrQ
         have y2 := below_next y1 hb4
         obtain ⟨x22, x23, x24⟩ := KP _ y2
         dsimp only)
      | fail)
  all_goals
    clear KP sD y0 y1 m2 kY kZ hrP hrQ hb3 hb4 t1 y2 x12 x13 x14 x22 x23 x24 CY CZ HY HZ hYD hZ1
    obtain ⟨m0, m1, m2⟩ := BxM.cells (MK.get t2 2 rfl)
    go_wp2_with fail
    clear m0 m1 m2
    have C1 := fun w' hr hp => presp_at M i o R n c1 w' BP qP n P V.out hmi.out hmo.out hlen.out hr hp HPL.out HPV.out rfl
    simp only [HBA.out] at C1
    refine (C1 _ (MK.get t2 3 rfl) (MK.get t2 1 rfl)).mono ?_
    rintro e w3 ⟨rfl, hbl⟩
    have s5 := MT.next t2 hbl
    clear t2 hbl C1
    obtain ⟨m0, m1, m2⟩ := BxM.cells (MK.get s5 2 rfl)
    go_wp2_with fail
    clear m0 m1 m2
    have C1 := fun w' hr hp => presp_at M i o R n c1 w' BQ qQ n Q V.out hmi.out hmo.out hlen.out hr hp HQL.out HQV.out rfl
    simp only [HBB.out] at C1
    refine (C1 _ (MK.get s5 3 rfl) (MK.get s5 0 rfl)).mono ?_
    rintro e w4 ⟨rfl, hbl⟩
    have s6 := MT.next s5 hbl
    clear s5 hbl C1
    obtain ⟨m0, m1, m2⟩ := BxM.cells (MK.get s6 2 rfl)
    cases ba
    · cases bb
      · go_wp2_with fail
        clear m0 m1 m2
        refine (rresp_0 M i o R BP n c1 qP P _ V.out hmi.out hlen.out (MK.get s6 3 rfl) (MK.get s6 1 rfl) HPV.out HPL.out HBA.out).mono ?_
        rintro e w5 ⟨rfl, hbl⟩
        have u := MT.next s6 hbl
        clear s6 hbl
        have s6 := u
        clear u
        obtain ⟨m0, m1, m2⟩ := BxM.cells (MK.get s6 2 rfl)
        go_wp2_with fail
        clear m0 m1 m2
        refine (rresp_0 M i o R BQ n c1 qQ Q _ V.out hmi.out hlen.out (MK.get s6 3 rfl) (MK.get s6 0 rfl) HQV.out HQL.out HBB.out).mono ?_
        rintro e w5 ⟨rfl, hbl⟩
        have u := MT.next s6 hbl
        clear s6 hbl
        have s6 := u
        clear u
        obtain ⟨m0, m1, m2⟩ := BxM.cells (MK.get s6 2 rfl)
        go_wp2_with fail
        clear m0 m1 m2
        refine (rclasses_any M i o R n c1 _ V.out hmi.out hlen.out (MK.get s6 3 rfl)).mono ?_
        rintro e w6 ⟨BC, qC, rfl, hrd, hbl⟩
        rw [HC.out] at hrd
        have s7 := MK.putL (MT.next s6 hbl) hrd
        clear s6 hrd hbl
        obtain ⟨m0, m1, m2⟩ := BxM.cells (MK.get s7 3 rfl)
        go_wp2_with fail
        clear m0 m1 m2
        have C1 := fun w' hr hp => presp_at M i o R n c1 w' BC qC n C V.out hmi.out hmo.out hlen.out hr hp HCL.out HCV.out rfl
        simp only [HCR.out] at C1
        refine (C1 _ (MK.get s7 4 rfl) (MK.get s7 0 rfl)).mono ?_
        rintro e w7 ⟨rfl, hbl⟩
        have s8 := MT.next s7 hbl
        clear s7 hbl C1
        have s9 := s8
        clear s8
        go_wp2_with fail
        have hbF := Lib.hid s9.2.1
        clear s9
        refine (lives_walk _).mono ?_
        rintro e wl ⟨rfl, hb⟩
        go_wp2_with fail
        go_ret
        exact ⟨rfl, below_next hbF.out hb⟩
      · go_wp2_with fail
        clear m0 m1 m2
        refine (rresp_0 M i o R BP n c1 qP P _ V.out hmi.out hlen.out (MK.get s6 3 rfl) (MK.get s6 1 rfl) HPV.out HPL.out HBA.out).mono ?_
        rintro e w5 ⟨rfl, hbl⟩
        have u := MT.next s6 hbl
        clear s6 hbl
        have s6 := u
        clear u
        obtain ⟨m0, m1, m2⟩ := BxM.cells (MK.get s6 2 rfl)
        go_wp2_with fail
        clear m0 m1 m2
        refine (rresp_1 M i o R BQ n c1 qQ Q _ V.out hmi.out hlen.out (MK.get s6 3 rfl) (MK.get s6 0 rfl) HQV.out HQL.out HBB.out).mono ?_
        rintro e w5 ⟨rfl, hbl⟩
        have u := MT.next s6 hbl
        clear s6 hbl
        have s6 := u
        clear u
        obtain ⟨m0, m1, m2⟩ := BxM.cells (MK.get s6 2 rfl)
        go_wp2_with fail
        clear m0 m1 m2
        refine (rclasses_any M i o R n c1 _ V.out hmi.out hlen.out (MK.get s6 3 rfl)).mono ?_
        rintro e w6 ⟨BC, qC, rfl, hrd, hbl⟩
        rw [HC.out] at hrd
        have s7 := MK.putL (MT.next s6 hbl) hrd
        clear s6 hrd hbl
        obtain ⟨m0, m1, m2⟩ := BxM.cells (MK.get s7 3 rfl)
        go_wp2_with fail
        clear m0 m1 m2
        have C1 := fun w' hr hp => presp_at M i o R n c1 w' BC qC n C V.out hmi.out hmo.out hlen.out hr hp HCL.out HCV.out rfl
        simp only [HCR.out] at C1
        refine (C1 _ (MK.get s7 4 rfl) (MK.get s7 0 rfl)).mono ?_
        rintro e w7 ⟨rfl, hbl⟩
        have s8 := MT.next s7 hbl
        clear s7 hbl C1
        have s9 := s8
        clear s8
        go_wp2_with fail
        have hbF := Lib.hid s9.2.1
        clear s9
        refine (lives_walk _).mono ?_
        rintro e wl ⟨rfl, hb⟩
        go_wp2_with fail
        go_ret
        exact ⟨rfl, below_next hbF.out hb⟩
    · cases bb
      · go_wp2_with fail
        clear m0 m1 m2
        refine (rresp_1 M i o R BP n c1 qP P _ V.out hmi.out hlen.out (MK.get s6 3 rfl) (MK.get s6 1 rfl) HPV.out HPL.out HBA.out).mono ?_
        rintro e w5 ⟨rfl, hbl⟩
        have u := MT.next s6 hbl
        clear s6 hbl
        have s6 := u
        clear u
        obtain ⟨m0, m1, m2⟩ := BxM.cells (MK.get s6 2 rfl)
        go_wp2_with fail
        clear m0 m1 m2
        refine (rresp_0 M i o R BQ n c1 qQ Q _ V.out hmi.out hlen.out (MK.get s6 3 rfl) (MK.get s6 0 rfl) HQV.out HQL.out HBB.out).mono ?_
        rintro e w5 ⟨rfl, hbl⟩
        have u := MT.next s6 hbl
        clear s6 hbl
        have s6 := u
        clear u
        obtain ⟨m0, m1, m2⟩ := BxM.cells (MK.get s6 2 rfl)
        go_wp2_with fail
        clear m0 m1 m2
        refine (rclasses_any M i o R n c1 _ V.out hmi.out hlen.out (MK.get s6 3 rfl)).mono ?_
        rintro e w6 ⟨BC, qC, rfl, hrd, hbl⟩
        rw [HC.out] at hrd
        have s7 := MK.putL (MT.next s6 hbl) hrd
        clear s6 hrd hbl
        obtain ⟨m0, m1, m2⟩ := BxM.cells (MK.get s7 3 rfl)
        go_wp2_with fail
        clear m0 m1 m2
        have C1 := fun w' hr hp => presp_at M i o R n c1 w' BC qC n C V.out hmi.out hmo.out hlen.out hr hp HCL.out HCV.out rfl
        simp only [HCR.out] at C1
        refine (C1 _ (MK.get s7 4 rfl) (MK.get s7 0 rfl)).mono ?_
        rintro e w7 ⟨rfl, hbl⟩
        have s8 := MT.next s7 hbl
        clear s7 hbl C1
        go_wp2_with fail
        refine (rfiner_at _ BP BC n qP qC P C (MK.get s8 2 rfl) (MK.get s8 0 rfl) HPL.out HCL.out (by omega) (HFN.out HBA.out)).mono ?_
        rintro e w8 ⟨rfl, hbl⟩
        have s9 := MT.next s8 hbl
        clear s8 hbl
        go_wp2_with fail
        have hbF := Lib.hid s9.2.1
        clear s9
        refine (lives_walk _).mono ?_
        rintro e wl ⟨rfl, hb⟩
        go_wp2_with fail
        go_ret
        exact ⟨rfl, below_next hbF.out hb⟩
      · go_wp2_with fail
        clear m0 m1 m2
        refine (rresp_1 M i o R BP n c1 qP P _ V.out hmi.out hlen.out (MK.get s6 3 rfl) (MK.get s6 1 rfl) HPV.out HPL.out HBA.out).mono ?_
        rintro e w5 ⟨rfl, hbl⟩
        have u := MT.next s6 hbl
        clear s6 hbl
        have s6 := u
        clear u
        obtain ⟨m0, m1, m2⟩ := BxM.cells (MK.get s6 2 rfl)
        go_wp2_with fail
        clear m0 m1 m2
        refine (rresp_1 M i o R BQ n c1 qQ Q _ V.out hmi.out hlen.out (MK.get s6 3 rfl) (MK.get s6 0 rfl) HQV.out HQL.out HBB.out).mono ?_
        rintro e w5 ⟨rfl, hbl⟩
        have u := MT.next s6 hbl
        clear s6 hbl
        have s6 := u
        clear u
        obtain ⟨m0, m1, m2⟩ := BxM.cells (MK.get s6 2 rfl)
        go_wp2_with fail
        clear m0 m1 m2
        refine (rclasses_any M i o R n c1 _ V.out hmi.out hlen.out (MK.get s6 3 rfl)).mono ?_
        rintro e w6 ⟨BC, qC, rfl, hrd, hbl⟩
        rw [HC.out] at hrd
        have s7 := MK.putL (MT.next s6 hbl) hrd
        clear s6 hrd hbl
        obtain ⟨m0, m1, m2⟩ := BxM.cells (MK.get s7 3 rfl)
        go_wp2_with fail
        clear m0 m1 m2
        have C1 := fun w' hr hp => presp_at M i o R n c1 w' BC qC n C V.out hmi.out hmo.out hlen.out hr hp HCL.out HCV.out rfl
        simp only [HCR.out] at C1
        refine (C1 _ (MK.get s7 4 rfl) (MK.get s7 0 rfl)).mono ?_
        rintro e w7 ⟨rfl, hbl⟩
        have s8 := MT.next s7 hbl
        clear s7 hbl C1
        go_wp2_with fail
        refine (rfiner_at _ BP BC n qP qC P C (MK.get s8 2 rfl) (MK.get s8 0 rfl) HPL.out HCL.out (by omega) (HFN.out HBA.out)).mono ?_
        rintro e w8 ⟨rfl, hbl⟩
        have s9 := MT.next s8 hbl
        clear s8 hbl
        go_wp2_with fail
        refine (join_at BP BQ qP qQ n P Q _ (MK.get s9 2 rfl) (MK.get s9 1 rfl) HPL.out HQL.out (by omega) HPV.out HQV.out).mono ?_
        rintro e w9 ⟨BJ, rfl, hrd, hbl⟩
        rw [HJ.out] at hrd
        have s10 := MK.putL (MT.next s9 hbl) hrd
        clear s9 hrd hbl
        obtain ⟨m0, m1, m2⟩ := BxM.cells (MK.get s10 4 rfl)
        go_wp2_with fail
        clear m0 m1 m2
        have C1 := fun w' hr hp => presp_at M i o R n c1 w' BJ n n J V.out hmi.out hmo.out hlen.out hr hp HJL.out HJV.out rfl
        simp only [HJR.out HBA.out HBB.out] at C1
        refine (C1 _ (MK.get s10 5 rfl) (MK.get s10 0 rfl)).mono ?_
        rintro e w10 ⟨rfl, hbl⟩
        have s11 := MT.next s10 hbl
        clear s10 hbl C1
        go_wp2_with fail
        have hbF := Lib.hid s11.2.1
        clear s11
        refine (lives_walk _).mono ?_
        rintro e wl ⟨rfl, hb⟩
        go_wp2_with fail
        go_ret
        exact ⟨rfl, below_next hbF.out hb⟩
end Go.Proofs.Ytonnplhiaidjnaa
