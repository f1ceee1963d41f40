/-
  The walk of the law RefinesEquivalent. No statement is proved here.
-/
import Derived.Test.YtonnplhiaidjnaaRq1
import Derived.Deep.RegionHeld3
import Derived.Deep.QuietTactic
import Derived.BigQuiet
namespace Go.Proofs.Ytonnplhiaidjnaa
open Go.RowKit
open Mc (Ed Ma)

theorem samey_at (w : World) (X Y : Option Addr) (k c d : Nat) (x y : List Int) (hx : Rd w X x) (hy : Rd w Y y) (h1 : x.length = k) (he : x = y) (hk : k ≤ 1000000) :
    Calls Try.prog 18 #[.slice X k c, .slice Y k d] w fun e w' => e = .returned (.bool true) ∧ Below w.heap.size w w' := by
  subst he
  have := same_at w X Y k c d x x hx hy h1 h1 hk
  rwa [M.same_yes rfl] at this
set_option maxRecDepth 100000 in
set_option maxHeartbeats 8000000 in
theorem lawEquiv_walk (a b d : Int) (p : Bool) (A : Option Addr) (c : Nat) (es : List Int) (x0 x1 : Int) (B1 : Option Addr) (e1 : Nat) (ws : List Int) (w : World) (hr : Rd16 w A es) (hr8 : Rd8 w B1 ws) (hl : es.length ≤ 9223372036854775807) (hlw : ws.length ≤ 9223372036854775807) (ha : 0 ≤ a ∧ a ≤ 255) (hb : 0 ≤ b ∧ b ≤ 255) (hd : 0 ≤ d ∧ d ≤ 255) :
    Calls Try.prog 4 #[.agg #[.int .u8 a, .int .u8 b, .int .u8 d, .bool p, .slice A es.length c], .agg #[.int .i64 x0, .int .i64 x1], .agg #[.slice B1 ws.length e1]] w fun e w' => e = .returned (.bool true) ∧ Below w.heap.size w w' := by
  obtain ⟨n, hn⟩ : ∃ n : Nat, 1 + a % 6 = n := ⟨(1 + a % 6).toNat, by omega⟩
  obtain ⟨i, hi⟩ : ∃ i : Nat, 1 + b % 3 = i := ⟨(1 + b % 3).toNat, by omega⟩
  obtain ⟨o, ho⟩ : ∃ o : Nat, 1 + d % 3 = o := ⟨(1 + d % 3).toNat, by omega⟩
  have hn6 : n ≤ 6 := by omega
  have hi3 : i ≤ 3 := by omega
  have hi1 : 1 ≤ i := by omega
  have CM := fun w hr => mof_at a b d p A c es n i o w hr hl ha hb hd hn hi ho
  obtain ⟨M, hM⟩ : ∃ M, Mc.mkN p n i o es = M := ⟨_, rfl⟩
  have V := Lib.hid (Mc.mkN_val (p := p) (n := n) (i := i) (o := o) (es := es) (by omega) (by omega) (by omega) (by omega) (by omega) (by omega))
  have hlen : Hid ((Mc.mkN p n i o es).r.length = n) := Mc.mkN_len _ _ _ _ _
  have hmi : Hid ((Mc.mkN p n i o es).i = i) := rfl
  have hmo : Hid ((Mc.mkN p n i o es).o = o) := rfl
  rw [hM] at V hlen hmi hmo
  simp only [hM] at CM
  clear hM ha hb hd hn hi ho hl
  have CW := fun w h => wof_at B1 e1 ws i w h hi1 (by omega) hlw
  have HW := Lib.hid (Mc.sym_wd (m := M) (i := i) (zs := ws) hmi.out (by omega))
  obtain ⟨Y, hY⟩ : ∃ Y, Go.Proofs.Ytonnplhiaidjnaa.M.sym i ws = Y := ⟨_, rfl⟩
  rw [hY] at HW
  simp only [hY] at CW
  obtain ⟨P, hP⟩ : ∃ P, Mc.cls M = P := ⟨_, rfl⟩
  have HP : Hid (Mc.cls M = P) := hP
  have HPL : Hid (P.length = n) := by show _ = _; rw [← hP]; exact (Mc.rnd_len _ _).trans hlen.out
  clear hP
  have HR := Lib.hid hr
  have HR8 := Lib.hid hr8
  obtain ⟨E, hE⟩ : ∃ E, ws.length = E := ⟨_, rfl⟩
  simp only [hE] at CW
  rw [hE]
  obtain ⟨E2, hE2⟩ : ∃ E2, es.length = E2 := ⟨_, rfl⟩
  simp only [hE2] at CM
  rw [hE2]
  clear hr hr8 hY hE hE2 hlw
  obtain ⟨K0, hK0⟩ : ∃ K0, w.heap.size = K0 := ⟨_, rfl⟩
  have s0 : MT w w [] := MT.start
  have s1 := MT.putK (P := fun w => w.heap[K0]? = some (.cells #[.int .u8 a, .int .u8 b, .int .u8 d, .bool p, .slice A E2 c] 24)) (MT.alloc s0 (.cells #[.int .u8 a, .int .u8 b, .int .u8 d, .bool p, .slice A E2 c] 24))
    (by rw [← hK0]; exact heap_alloc_new w _) (fun _ _ h hb => (hb.block _ (heap_lt h)).trans h)
  have s2 := MT.putK (P := fun w => w.heap[K0 + 1]? = some (.cells #[.int .i64 x0, .int .i64 x1] 42)) (MT.alloc s1 (.cells #[.int .i64 x0, .int .i64 x1] 42))
    (by
      have h := heap_alloc_new (w.alloc (.cells #[.int .u8 a, .int .u8 b, .int .u8 d, .bool p, .slice A E2 c] 24)) (.cells #[.int .i64 x0, .int .i64 x1] 42)
      rw [World.size_alloc, hK0] at h
      exact h) (fun _ _ h hb => (hb.block _ (heap_lt h)).trans h)
  have s3 := MT.putK (P := fun w => w.heap[K0 + 1 + 1]? = some (.cells #[.slice B1 E e1] 45)) (MT.alloc s2 (.cells #[.slice B1 E e1] 45))
    (by
      have h := heap_alloc_new ((w.alloc (.cells #[.int .u8 a, .int .u8 b, .int .u8 d, .bool p, .slice A E2 c] 24)).alloc (.cells #[.int .i64 x0, .int .i64 x1] 42)) (.cells #[.slice B1 E e1] 45)
      rw [World.size_alloc, World.size_alloc, hK0] at h
      exact h) (fun _ _ h hb => (hb.block _ (heap_lt h)).trans h)
  clear s0 s1 s2
  go_enter Try.func4, Try.ntmps4
  go_upto_region 1 with fail
  obtain ⟨W0, hW0⟩ : ∃ W0, ((w.alloc (.cells #[.int .u8 a, .int .u8 b, .int .u8 d, .bool p, .slice A E2 c] 24)).alloc (.cells #[.int .i64 x0, .int .i64 x1] 42)).alloc (.cells #[.slice B1 E e1] 45) = W0 := ⟨_, rfl⟩
  rw [hW0] at s3
  try rw [hW0]
  try rw [hK0]
  clear hW0 hK0
  have kM : W0.cell? ⟨K0, 0, none⟩ = some (.int .u8 a) ∧ W0.cell? ⟨K0, 1, none⟩ = some (.int .u8 b) ∧ W0.cell? ⟨K0, 2, none⟩ = some (.int .u8 d) ∧ W0.cell? ⟨K0, 3, none⟩ = some (.bool p) ∧ W0.cell? ⟨K0, 4, none⟩ = some (.slice A E2 c) := by
    have h1 := MK.get s3 2 rfl
    refine ⟨?_, ?_, ?_, ?_, ?_⟩ <;> (rw [cell_of_row _ _ _ _ _ _ h1]; rfl)
  obtain ⟨c0, c1, c2, c3, c4⟩ := kM
  go_wp2_with fail
  clear c0 c1 c2 c3 c4
  refine (CM _ (HR.out.below s3.2.1)).mono ?_
  rintro e w1 ⟨R, c1, rfl, hrd, hbl⟩
  have s4 := MK.putB (g := w1.heap.size) (MT.alloc (MK.putR (MT.next s3 hbl) hrd) (.cells #[.int .i64 i, .int .i64 o, .slice R n c1] 27)) (heap_alloc_new w1 _)
  clear s3 hrd hbl CM HR
  go_upto_region 2 with fail
  obtain ⟨g, hg⟩ : ∃ g, w1.heap.size = g := ⟨_, rfl⟩
  obtain ⟨W2, hW2⟩ : ∃ W, w1.alloc (.cells #[.int .i64 i, .int .i64 o, .slice R n c1] 27) = W := ⟨_, rfl⟩
  rw [hg, hW2] at s4
  try rw [hg]
  try rw [hW2]
  clear hg hW2
  have kW : W2.cell? ⟨K0 + 1 + 1, 0, none⟩ = some (.slice B1 E e1) := by
    have h1 := MK.get s4 2 rfl
    rw [cell_of_row _ _ _ _ _ _ h1]; rfl
  obtain ⟨m0, m1, m2⟩ := BxM.cells (MK.get s4 0 rfl)
  go_wp2_with fail
  clear m0 m1 m2 kW
  refine (CW _ (HR8.out.below s4.2.1)).mono ?_
  rintro e w3 ⟨WA, wl, wc, rfl, hwl, hw12, hrd, hbl⟩
  have s5 := MK.putL (MT.next s4 hbl) hrd
  clear s4 hrd hbl CW HR8
  obtain ⟨m0, m1, m2⟩ := BxM.cells (MK.get s5 1 rfl)
  obtain ⟨z0, z1⟩ := z_cells (MK.get s5 4 rfl)
  go_wp2_with fail
  clear m0 m1 m2 z0 z1
  refine (pequiv_at M i o R n c1 _ x0 x1 V.out hmi.out hmo.out hlen.out (MK.get s5 2 rfl)).mono ?_
  rintro e w4 ⟨rfl, hbl⟩
  have s6 := MT.next s5 hbl
  clear s5 hbl
  by_cases hin : Mc.inR M x0 x1
  · obtain ⟨h1, h2, h3, h4⟩ := hin
    obtain ⟨s, rfl⟩ := Int.eq_ofNat_of_zero_le h1
    obtain ⟨t, rfl⟩ := Int.eq_ofNat_of_zero_le h2
    have hs : s < M.r.length := by omega
    have ht : t < M.r.length := by omega
    obtain ⟨q1, q2⟩ := Mc.eqv_in V.out hs ht
    obtain ⟨u, hu⟩ : ∃ u, Go.Proofs.Ytonnplhiaidjnaa.M.gz (Mc.cls M) s = u := ⟨_, rfl⟩
    obtain ⟨v, hv⟩ : ∃ v, Go.Proofs.Ytonnplhiaidjnaa.M.gz (Mc.cls M) t = v := ⟨_, rfl⟩
    rw [q1, q2, hu, hv]
    have HUV : Hid (u = v → Mc.run M s Y = Mc.run M t Y) := fun e => Mc.cls_run V.out hs ht (by rw [hu, hv, e]) Y HW.out
    have HU : Hid (Go.Proofs.Ytonnplhiaidjnaa.M.gz P s = u) := by rw [HP.out] at hu; exact hu
    have HV2 : Hid (Go.Proofs.Ytonnplhiaidjnaa.M.gz P t = v) := by rw [HP.out] at hv; exact hv
    have hS1 : Hid (Mc.St M (s : Int)) := Or.inr ⟨by omega, by omega⟩
    have hS2 : Hid (Mc.St M (t : Int)) := Or.inr ⟨by omega, by omega⟩
    have hsn : s < n := by rw [← hlen.out]; exact hs
    have htn : t < n := by rw [← hlen.out]; exact ht
    clear h1 h2 h3 h4 q1 q2 hu hv hs ht
    have d1 : decide ((s : Int) < 0) = false := decide_eq_false (by omega)
    have d2 : decide ((t : Int) < 0) = false := decide_eq_false (by omega)
    have d3 : decide ((n : Int) ≤ s) = false := decide_eq_false (by omega)
    have d4 : decide ((n : Int) ≤ t) = false := decide_eq_false (by omega)
    obtain ⟨m0, m1, m2⟩ := BxM.cells (MK.get s6 1 rfl)
    obtain ⟨z0, z1⟩ := z_cells (MK.get s6 4 rfl)
    go_wp2_with fail
    clear m0 m1 m2 z0 z1
    refine (rclasses_any M i o R n c1 _ V.out hmi.out hlen.out (MK.get s6 2 rfl)).mono ?_
    rintro e w5 ⟨C, cc, rfl, hrd, hbl⟩
    rw [HP.out] at hrd
    have s7 := MK.putL (MT.next s6 hbl) hrd
    clear s6 hrd hbl
    obtain ⟨m0, m1, m2⟩ := BxM.cells (MK.get s7 2 rfl)
    obtain ⟨z0, z1⟩ := z_cells (MK.get s7 5 rfl)
    have hrP : Rd w5 C P := MK.get s7 0 rfl
    obtain ⟨pb, po, rfl⟩ := hrP.opn (by have := HPL.out; omega)
    obtain ⟨u', hub, huc, hu⟩ := hrP.cl (k := s) (by have := HPL.out; omega)
    obtain ⟨v', hvb, hvc, hv⟩ := hrP.cl (k := t) (by have := HPL.out; omega)
    obtain rfl : u' = u := by rw [← HU.out]; exact hu.out.symm
    obtain rfl : v' = v := by rw [← HV2.out]; exact hv.out.symm
    clear hrP hu hv
    have lg : g < w5.heap.size := heap_lt (MK.get s7 2 rfl)
    have lz : K0 + 1 < w5.heap.size := heap_lt (MK.get s7 5 rfl)
    have KP : ∀ w', Below w5.heap.size w5 w' → w'.cell? ⟨g, 0, none⟩ = some (.int .i64 i) ∧ w'.cell? ⟨g, 1, none⟩ = some (.int .i64 o) ∧ w'.cell? ⟨g, 2, none⟩ = some (.slice R n c1) ∧ w'.cell? ⟨K0 + 1, 0, none⟩ = some (.int .i64 s) ∧ w'.cell? ⟨K0 + 1, 1, none⟩ = some (.int .i64 t) ∧ w'.cell? ⟨pb, po + s, none⟩ = some (.int .i64 u') ∧ w'.cell? ⟨pb, po + t, none⟩ = some (.int .i64 v') := fun w' y =>
      ⟨(y.cell (p := ⟨g, 0, none⟩) lg).trans m0, (y.cell (p := ⟨g, 1, none⟩) lg).trans m1, (y.cell (p := ⟨g, 2, none⟩) lg).trans m2, (y.cell (p := ⟨K0 + 1, 0, none⟩) lz).trans z0, (y.cell (p := ⟨K0 + 1, 1, none⟩) lz).trans z1, (y.cell (p := ⟨pb, po + s, none⟩) hub).trans huc, (y.cell (p := ⟨pb, po + t, none⟩) hub).trans hvc⟩
    have sD := MT.next s7 (Below.refl _ _).drew
    have y0 : Below w5.heap.size w5 w5.drew := (Below.refl _ _).drew
    have hbF := s7.2.1
    by_cases huv : u' = v'
    · have hq : (u' == v') = true := by simp [huv]
      rw [hq]
      have hrun := Lib.hid (HUV.out huv)
      clear HUV
      go_upto_region 7 with fail
      go_region_held3 (fun w' => w'.cell? ⟨g, 0, none⟩ = some (.int .i64 i) ∧ w'.cell? ⟨g, 1, none⟩ = some (.int .i64 o) ∧ w'.cell? ⟨g, 2, none⟩ = some (.slice R n c1) ∧ w'.cell? ⟨K0 + 1, 0, none⟩ = some (.int .i64 s) ∧ w'.cell? ⟨K0 + 1, 1, none⟩ = some (.int .i64 t) ∧ w'.cell? ⟨pb, po + s, none⟩ = some (.int .i64 u') ∧ w'.cell? ⟨pb, po + t, none⟩ = some (.int .i64 v'))
        (first | exact ⟨x40, x41, x42, x43, x44, x45, x46⟩ | exact ⟨x30, x31, x32, x33, x34, x35, x36⟩ | exact ⟨x20, x21, x22, x23, x24, x25, x26⟩ | exact ⟨x10, x11, x12, x13, x14, x15, x16⟩ | exact ⟨m0, m1, m2, z0, z1, huc, hvc⟩ | go_keep)
        (first
          | (go_at_call 25
             (with_reducible refine (rrun_at M i o R n c1 _ s WA wl wc Y V.out hmi.out hmo.out hlen.out hwl.out (MK.get sD 3 rfl) (MK.get sD 1 rfl) hS1.out HW.out (by omega)).mono ?_)
             rintro e wa1 ⟨B6, q6, rfl, hr6, hb3⟩
             have t1 := MK.putL (MT.next sD hb3) hr6
             have y1 := below_next y0 hb3
             obtain ⟨x10, x11, x12, x13, x14, x15, x16⟩ := KP _ y1
             dsimp only)
          | (go_at_call 25
             (with_reducible refine (rrun_at M i o R n c1 _ t WA wl wc Y V.out hmi.out hmo.out hlen.out hwl.out (MK.get t1 4 rfl) (MK.get t1 2 rfl) hS2.out HW.out (by omega)).mono ?_)
             rintro e wa2 ⟨B7, q7, rfl, hr7, hb4⟩
             have t2 := MK.putL (MT.next t1 hb4) hr7
             have y2 := below_next y1 hb4
             obtain ⟨x20, x21, x22, x23, x24, x25, x26⟩ := KP _ y2
             dsimp only)
          | (go_at_call 18
             (with_reducible refine (samey_at _ B6 B7 wl q6 q7 (Mc.run M s Y) (Mc.run M t Y) (MK.get t2 1 rfl) (MK.get t2 0 rfl) (by rw [Mc.run_len]; exact hwl.out) hrun.out (by omega)).mono ?_)
             rintro e wa3 ⟨rfl, hb5⟩
             have y3 := below_next y2 hb5
             obtain ⟨x30, x31, x32, x33, x34, x35, x36⟩ := KP _ y3
             dsimp only)
          | (go_at_call 22
             (with_reducible refine (lives_walk _).mono ?_)
             rintro e wa4 ⟨rfl, hb6⟩
             have y4 := below_next y3 hb6
             obtain ⟨x40, x41, x42, x43, x44, x45, x46⟩ := KP _ y4
             dsimp only)
          | fail)
      all_goals
        go_wp2_with fail
        go_ret
        exact ⟨rfl, below_next hbF y4⟩
    · have hq : (u' == v') = false := by simp [huv]
      rw [hq]
      have f0 : ∀ x : BW w5, x.out.cell? ⟨g, 0, none⟩ = some (.int .i64 i) := fun x => (KP _ x.ok).1
      have f1 : ∀ x : BW w5, x.out.cell? ⟨g, 1, none⟩ = some (.int .i64 o) := fun x => (KP _ x.ok).2.1
      have f2 : ∀ x : BW w5, x.out.cell? ⟨g, 2, none⟩ = some (.slice R n c1) := fun x => (KP _ x.ok).2.2.1
      have f3 : ∀ x : BW w5, x.out.cell? ⟨K0 + 1, 0, none⟩ = some (.int .i64 s) := fun x => (KP _ x.ok).2.2.2.1
      have f4 : ∀ x : BW w5, x.out.cell? ⟨K0 + 1, 1, none⟩ = some (.int .i64 t) := fun x => (KP _ x.ok).2.2.2.2.1
      have f5 : ∀ x : BW w5, x.out.cell? ⟨pb, po + s, none⟩ = some (.int .i64 u') := fun x => (KP _ x.ok).2.2.2.2.2.1
      have f6 : ∀ x : BW w5, x.out.cell? ⟨pb, po + t, none⟩ = some (.int .i64 v') := fun x => (KP _ x.ok).2.2.2.2.2.2
      clear HUV m0 m1 m2 z0 z1 huc hvc KP
      go_upto_region 7 with fail
      refine wp_region_quiet_below (by kernel_rfl) (by kernel_rfl) ?_
      repeat (go_big_quiet_step ((rename_i x; refine (lives_walk _).mono ?_; rintro e w2 ⟨rfl, hb2⟩; exact ⟨rfl, ⟨w2, below_next x.ok hb2⟩, rfl⟩)))
      refine wpQuiet_nil ?_
      intro w20 hw20
      obtain ⟨⟨wx, hbW⟩, hw3⟩ := hw20
      dsimp only at hw3
      subst hw3
      clear f0 f1 f2 f3 f4 f5 f6
      go_wp2_with fail
      go_ret
      exact ⟨rfl, below_next hbF hbW⟩
  · obtain ⟨q1, q2⟩ := Mc.eqv_out V.out hin
    rw [q1, q2]
    have hin2 : x0 < 0 ∨ x1 < 0 ∨ n ≤ x0 ∨ n ≤ x1 := by
      unfold Mc.inR at hin
      rw [hlen.out] at hin
      omega
    clear hin q1 q2
    obtain ⟨m0, m1, m2⟩ := BxM.cells (MK.get s6 1 rfl)
    obtain ⟨z0, z1⟩ := z_cells (MK.get s6 4 rfl)
    have hbF := s6.2.1
    by_cases h1 : x0 < 0
    · have d1 : decide (x0 < 0) = true := decide_eq_true h1
      go_wp2_with fail
      refine (lives_walk _).mono ?_
      rintro e wl ⟨rfl, hb⟩
      go_wp2_with fail
      go_ret
      exact ⟨rfl, below_next hbF hb⟩
    have d1 : decide (x0 < 0) = false := decide_eq_false h1
    by_cases h2 : x1 < 0
    · have d2 : decide (x1 < 0) = true := decide_eq_true h2
      go_wp2_with fail
      refine (lives_walk _).mono ?_
      rintro e wl ⟨rfl, hb⟩
      go_wp2_with fail
      go_ret
      exact ⟨rfl, below_next hbF hb⟩
    have d2 : decide (x1 < 0) = false := decide_eq_false h2
    by_cases h3 : (n : Int) ≤ x0
    · have d3 : decide ((n : Int) ≤ x0) = true := decide_eq_true h3
      go_wp2_with fail
      refine (lives_walk _).mono ?_
      rintro e wl ⟨rfl, hb⟩
      go_wp2_with fail
      go_ret
      exact ⟨rfl, below_next hbF hb⟩
    have d3 : decide ((n : Int) ≤ x0) = false := decide_eq_false h3
    have h4 : (n : Int) ≤ x1 := by omega
    have d4 : decide ((n : Int) ≤ x1) = true := decide_eq_true h4
    go_wp2_with fail
    refine (lives_walk _).mono ?_
    rintro e wl ⟨rfl, hb⟩
    go_wp2_with fail
    go_ret
    exact ⟨rfl, below_next hbF hb⟩
end Go.Proofs.Ytonnplhiaidjnaa
