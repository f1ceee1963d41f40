/-
  The walk of the law SplitsSeparate. No statement is proved here.
-/
import Derived.Test.YtonnplhiaidjnaaSr0
import Derived.Test.YtonnplhiaidjnaaRfY
import Derived.Deep.RegionHeld3
import Derived.Deep.QuietTactic
import Derived.BigQuiet
namespace Go.Proofs.Ytonnplhiaidjnaa
open Go.RowKit
open Mc (Ed Ma)

namespace Mc
theorem sl_cls {m : Ma} (v : Val m) {s t : Nat} (hs : s < m.r.length) (ht : t < m.r.length) : (M.gz (cls m) s != M.gz (cls m) t) = decide (0 < sl m s t) := by
  have h0 := v.r0
  have key : M.gz (cls m) s = M.gz (cls m) t ↔ sl m s t = 0 := by
    rw [sl_zero v hs ht]
    constructor
    · intro h k w hw _
      exact cls_run v hs ht h w hw
    · intro h
      have := (rnd_iff v m.r.length hs ht).2 (h _)
      rwa [cls_all h0] at this
  rw [Bool.eq_iff_iff, decide_eq_true_eq, bne_iff_ne, ne_eq, key]
  omega
end Mc
set_option maxRecDepth 100000 in
set_option maxHeartbeats 8000000 in
theorem lawSep_walk (a b d : Int) (p : Bool) (A : Option Addr) (c : Nat) (es : List Int) (x0 x1 : Int) (w : World) (hr : Rd16 w A es) (hl : es.length ≤ 9223372036854775807) (ha : 0 ≤ a ∧ a ≤ 255) (hb : 0 ≤ b ∧ b ≤ 255) (hd : 0 ≤ d ∧ d ≤ 255) (hx0 : 0 ≤ x0 ∧ x0 ≤ 255) (hx1 : 0 ≤ x1 ∧ x1 ≤ 255) :
    Calls Try.prog 7 #[.agg #[.int .u8 a, .int .u8 b, .int .u8 d, .bool p, .slice A es.length c], .agg #[.int .u8 x0, .int .u8 x1]] w fun e w' => e = .returned (.bool true) ∧ Below w.heap.size w w' := by
  obtain ⟨n, hn⟩ : ∃ n : Nat, 1 + a % 6 = n := ⟨(1 + a % 6).toNat, by omega⟩
  obtain ⟨i, hi⟩ : ∃ i : Nat, 1 + b % 3 = i := ⟨(1 + b % 3).toNat, by omega⟩
  obtain ⟨o, ho⟩ : ∃ o : Nat, 1 + d % 3 = o := ⟨(1 + d % 3).toNat, by omega⟩
  obtain ⟨y0, rfl⟩ := Int.eq_ofNat_of_zero_le hx0.1
  obtain ⟨y1, rfl⟩ := Int.eq_ofNat_of_zero_le hx1.1
  have hn6 : n ≤ 6 := by omega
  have hn1 : 1 ≤ n := by omega
  obtain ⟨s, hsq⟩ : ∃ s, y0 % n = s := ⟨_, rfl⟩
  obtain ⟨t, htq⟩ : ∃ t, y1 % n = t := ⟨_, rfl⟩
  have hsn : s < n := by rw [← hsq]; exact Nat.mod_lt _ hn1
  have htn : t < n := by rw [← htq]; exact Nat.mod_lt _ hn1
  have hs1 : (y0 : Int) % n = s := by rw [← hsq]; rfl
  have ht1 : (y1 : Int) % n = t := by rw [← htq]; rfl
  have hs2 : (y0 : Int).tmod n = s := by rw [← hsq]; rfl
  have ht2 : (y1 : Int).tmod n = t := by rw [← htq]; rfl
  have hw0 : wrap64 (y0 : Int) = y0 := by unfold wrap64; omega
  have hw1 : wrap64 (y1 : Int) = y1 := by unfold wrap64; omega
  have hz1 : ((n : Int) == 0) = false := by simp; omega
  have hz2 : (n : Int) ≠ 0 := by omega
  have CM := fun w hr => mof_at a b d p A c es n i o w hr hl ha hb hd hn hi ho
  obtain ⟨M, hM⟩ : ∃ M, Mc.mkN p n i o es = M := ⟨_, rfl⟩
  have V := Lib.hid (Mc.mkN_val (p := p) (n := n) (i := i) (o := o) (es := es) (by omega) (by omega) (by omega) (by omega) (by omega) (by omega))
  have hlen : Hid ((Mc.mkN p n i o es).r.length = n) := Mc.mkN_len _ _ _ _ _
  have hmi : Hid ((Mc.mkN p n i o es).i = i) := rfl
  have hmo : Hid ((Mc.mkN p n i o es).o = o) := rfl
  rw [hM] at V hlen hmi hmo
  simp only [hM] at CM
  have hsN : s < M.r.length := by rw [hlen.out]; exact hsn
  have htN : t < M.r.length := by rw [hlen.out]; exact htn
  obtain ⟨L, hL⟩ : ∃ L, Mc.sl M s t = L := ⟨_, rfl⟩
  obtain ⟨bb, hbb⟩ : ∃ bb, decide (0 < L) = bb := ⟨_, rfl⟩
  obtain ⟨X, hX⟩ : ∃ X, Mc.sepw M s t = X := ⟨_, rfl⟩
  have CS1 := fun R c1 w hr => separate_b M i o R n c1 w s t L bb V.out hmi.out hmo.out hlen.out hr hsn htn hL hbb
  have CS2 := fun R c1 w hr => separate_b M i o R n c1 w t s L bb V.out hmi.out hmo.out hlen.out hr htn hsn (by rw [Mc.sl_comm]; exact hL) hbb
  have CR1 := fun R c1 w hr => rseparate_b M i o R n c1 w s t L bb V.out hmi.out hmo.out hlen.out hr hsn htn hL hbb
  rw [← Mc.sepw_comm V.out hsN htN] at CS2
  simp only [hX] at CS1 CS2 CR1
  have HXL : Hid (X.length = L) := by show _ = _; rw [← hX, Mc.sepw_len, hL]
  have hLn : L < n := by have := Mc.sl_lt V.out hsN htN; rw [hlen.out] at this; omega
  obtain ⟨P, hP⟩ : ∃ P, Mc.cls M = P := ⟨_, rfl⟩
  have HP : Hid (Mc.cls M = P) := hP
  have HPL : Hid (P.length = n) := by show _ = _; rw [← hP]; exact (Mc.rnd_len _ _).trans hlen.out
  have HUV : Hid ((Go.Proofs.Ytonnplhiaidjnaa.M.gz P s != Go.Proofs.Ytonnplhiaidjnaa.M.gz P t) = bb) := by show _ = _; rw [← hP, Mc.sl_cls V.out hsN htN, hL, hbb]
  have HR := Lib.hid hr
  obtain ⟨E2, hE2⟩ : ∃ E2, es.length = E2 := ⟨_, rfl⟩
  simp only [hE2] at CM
  rw [hE2]
  clear hM ha hb hd hn hi ho hl hr hE2 hP hX hbb hL hsN htN hx0 hx1
  obtain ⟨K0, hK0⟩ : ∃ K0, w.heap.size = K0 := ⟨_, rfl⟩
  have s0 : MT w w [] := MT.start
  have s1 := MT.putK (P := fun w => w.heap[K0]? = some (.cells #[.int .u8 a, .int .u8 b, .int .u8 d, .bool p, .slice A E2 c] 24)) (MT.alloc s0 (.cells #[.int .u8 a, .int .u8 b, .int .u8 d, .bool p, .slice A E2 c] 24))
    (by rw [← hK0]; exact heap_alloc_new w _) (fun _ _ h hb => (hb.block _ (heap_lt h)).trans h)
  have s2 := MT.putK (P := fun w => w.heap[K0 + 1]? = some (.cells #[.int .u8 y0, .int .u8 y1] 63)) (MT.alloc s1 (.cells #[.int .u8 y0, .int .u8 y1] 63))
    (by
      have h := heap_alloc_new (w.alloc (.cells #[.int .u8 a, .int .u8 b, .int .u8 d, .bool p, .slice A E2 c] 24)) (.cells #[.int .u8 y0, .int .u8 y1] 63)
      rw [World.size_alloc, hK0] at h
      exact h) (fun _ _ h hb => (hb.block _ (heap_lt h)).trans h)
  clear s0 s1
  go_enter Try.func7, Try.ntmps7
  go_upto_region 1 with fail
  obtain ⟨W0, hW0⟩ : ∃ W0, (w.alloc (.cells #[.int .u8 a, .int .u8 b, .int .u8 d, .bool p, .slice A E2 c] 24)).alloc (.cells #[.int .u8 y0, .int .u8 y1] 63) = W0 := ⟨_, rfl⟩
  rw [hW0] at s2
  try rw [hW0]
  try rw [hK0]
  clear hW0 hK0
  have kM : W0.cell? ⟨K0, 0, none⟩ = some (.int .u8 a) ∧ W0.cell? ⟨K0, 1, none⟩ = some (.int .u8 b) ∧ W0.cell? ⟨K0, 2, none⟩ = some (.int .u8 d) ∧ W0.cell? ⟨K0, 3, none⟩ = some (.bool p) ∧ W0.cell? ⟨K0, 4, none⟩ = some (.slice A E2 c) := by
    have h1 := MK.get s2 1 rfl
    refine ⟨?_, ?_, ?_, ?_, ?_⟩ <;> (rw [cell_of_row _ _ _ _ _ _ h1]; rfl)
  obtain ⟨c0, c1, c2, c3, c4⟩ := kM
  go_wp2_with fail
  clear c0 c1 c2 c3 c4
  refine (CM _ (HR.out.below s2.2.1)).mono ?_
  rintro e w1 ⟨R, c1, rfl, hrd, hbl⟩
  have s3 := MK.putB (g := w1.heap.size) (MT.alloc (MK.putR (MT.next s2 hbl) hrd) (.cells #[.int .i64 i, .int .i64 o, .slice R n c1] 27)) (heap_alloc_new w1 _)
  clear s2 hrd hbl CM HR
  go_upto_region 2 with fail
  obtain ⟨g, hg⟩ : ∃ g, w1.heap.size = g := ⟨_, rfl⟩
  obtain ⟨W2, hW2⟩ : ∃ W, w1.alloc (.cells #[.int .i64 i, .int .i64 o, .slice R n c1] 27) = W := ⟨_, rfl⟩
  rw [hg, hW2] at s3
  try rw [hg]
  try rw [hW2]
  clear hg hW2
  obtain ⟨m0, m1, m2⟩ := BxM.cells (MK.get s3 0 rfl)
  obtain ⟨z0, z1⟩ := u8_cells (MK.get s3 2 rfl)
  go_quiet (fail)
  simp only [hw0, hw1]
  try rw [hs2]
  try rw [ht2]
  have s4 := MT.next s3 (below_drewN' (Below.refl W2.heap.size W2) nq)
  clear s3 m0 m1 m2 z0 z1 hs1 ht1 hs2 ht2 hw0 hw1 hsq htq
  obtain ⟨m0, m1, m2⟩ := BxM.cells (MK.get s4 0 rfl)
  go_wp2_with fail
  clear m0 m1 m2
  refine (CS1 R c1 _ (MK.get s4 1 rfl)).mono ?_
  rintro e w3 ⟨B1, rfl, hrd, hbl⟩
  have s5 := MK.putL (MT.next s4 hbl) hrd
  clear s4 hrd hbl
  obtain ⟨m0, m1, m2⟩ := BxM.cells (MK.get s5 1 rfl)
  go_wp2_with fail
  clear m0 m1 m2
  refine (CR1 R c1 _ (MK.get s5 2 rfl)).mono ?_
  rintro e w4 ⟨B2, q2, rfl, hrd, hbl⟩
  have s6 := MK.putL (MT.next s5 hbl) hrd
  clear s5 hrd hbl
  obtain ⟨m0, m1, m2⟩ := BxM.cells (MK.get s6 2 rfl)
  go_wp2_with fail
  clear m0 m1 m2
  refine (CS2 R c1 _ (MK.get s6 3 rfl)).mono ?_
  rintro e w5 ⟨B3, rfl, hrd, hbl⟩
  have s7 := MK.putL (MT.next s6 hbl) hrd
  clear s6 hrd hbl
  obtain ⟨m0, m1, m2⟩ := BxM.cells (MK.get s7 3 rfl)
  go_wp2_with fail
  clear m0 m1 m2
  refine (rclasses_any M i o R n c1 _ V.out hmi.out hlen.out (MK.get s7 4 rfl)).mono ?_
  rintro e w6 ⟨C, cc, rfl, hrd, hbl⟩
  rw [HP.out] at hrd
  have s8 := MK.putL (MT.next s7 hbl) hrd
  clear s7 hrd hbl CS1 CS2 CR1
  have hrP : Rd w6 C P := MK.get s8 0 rfl
  obtain ⟨pb, po, rfl⟩ := hrP.opn (by have := HPL.out; omega)
  obtain ⟨u, hub, huc, hu⟩ := hrP.cl (k := s) (by have := HPL.out; omega)
  obtain ⟨v, hvb, hvc, hv⟩ := hrP.cl (k := t) (by have := HPL.out; omega)
  have huv : (u != v) = bb := by rw [← HUV.out, hu.out, hv.out]
  have f0 : ∀ x : BW w6, x.out.cell? ⟨pb, po + s, none⟩ = some (.int .i64 u) := fun x => (x.ok.cell (p := ⟨pb, po + s, none⟩) hub).trans huc
  have f1 : ∀ x : BW w6, x.out.cell? ⟨pb, po + t, none⟩ = some (.int .i64 v) := fun x => (x.ok.cell (p := ⟨pb, po + t, none⟩) hvb).trans hvc
  have r1 : Rd w6 B1 X := MK.get s8 3 rfl
  have r2 : Rd w6 B2 X := MK.get s8 2 rfl
  have r3 : Rd w6 B3 X := MK.get s8 1 rfl
  have CL1 := fun (x : BW w6) => slist_yes B1 B2 L q2 X 0 x.out (r1.below x.ok) (r2.below x.ok) HXL.out (by omega)
  have CL3 := fun (x : BW w6) => slist_yes B3 B2 L q2 X 0 x.out (r3.below x.ok) (r2.below x.ok) HXL.out (by omega)
  have hbF := s8.2.1
  clear s8 hrP hub huc hvb hvc hu hv r1 r2 r3
  cases bb
  all_goals
    go_upto_region 7 with fail
    refine wp_region_quiet_below (by kernel_rfl) (by kernel_rfl) ?_
    repeat (go_big_quiet_step ((rename_i x; first
      | (with_reducible refine (CL1 x).mono ?_; rintro e wy ⟨rfl, hy⟩; exact ⟨rfl, ⟨wy, below_next x.ok hy⟩, rfl⟩)
      | (with_reducible refine (CL3 x).mono ?_; rintro e wy ⟨rfl, hy⟩; exact ⟨rfl, ⟨wy, below_next x.ok hy⟩, rfl⟩)
      | (with_reducible refine (slives_walk _).mono ?_; rintro e wy ⟨rfl, hy⟩; exact ⟨rfl, ⟨wy, below_next x.ok hy⟩, rfl⟩)
      | fail)))
    refine wpQuiet_nil ?_
    intro w20 hw20
    obtain ⟨⟨wx, hbW⟩, hw3⟩ := hw20
    dsimp only at hw3
    subst hw3
    clear f0 f1 CL1 CL3
    go_wp2_with fail
    go_ret
    exact ⟨rfl, below_next hbF hbW⟩
end Go.Proofs.Ytonnplhiaidjnaa
