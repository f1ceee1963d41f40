/-
  Several texts in one: Qb1, Qb2. No statement is proved here.
-/
import Derived.Test.YtnodnfailjmpeaaQ5
import Derived.Test.YtnodnfailjmpeaaQhZ
import Derived.Test.YtnodnfailjmpeaaQnI
import Derived.Test.YtnodnfailjmpeaaRbZ
import Derived.Deep.QuietTactic
namespace Go.Proofs.Ytnodnfailjmpeaa
open Go.RowKit
open Mc (Ed Ma)

theorem qedge_any (x y : Int) (w : World) : Calls Try.prog 10 #[.int .i64 x, .int .i64 y] w fun e w' => e = .returned (.agg #[.int .i64 x, .int .i64 y]) ∧ Below w.heap.size w w' := by
  go_enter Try.func10, Try.ntmps10
  go_wp2
  go_returns
  exact ⟨rfl, (Below.refl _ _).alloc (Nat.le_refl _) _⟩
theorem qlist_yes (A B : Option Addr) (n d : Nat) (x : List Int) (f : Int) (w : World) (hx : Rd w A x) (hy : Rd w B x) (hn : x.length = n) (hm : n ≤ 9223372036854775807) :
    Calls Try.prog 43 #[.slice A n n, .int .i64 f, .slice B n d, .int .i64 f] w fun e w' => e = .returned (.bool true) ∧ Below w.heap.size w w' := by
  subst hn
  have hs : Hid (M.same x x = true) := M.same_yes rfl
  have hff : (f == f) = true := by simp
  have hll : ((x.length : Int) == x.length) = true := by simp
  go_enter Try.func43, Try.ntmps43
  go_wp2_with fail
  refine (same_any _ _ _ _ _ _ _ hx hy hm).mono ?_
  rintro e w1 ⟨rfl, hb1⟩
  rw [hs.out]
  go_wp2
  go_ret
  exact ⟨rfl, hb1⟩

set_option maxRecDepth 100000 in
set_option maxHeartbeats 2000000 in
theorem qmachine_yes (i o : Int) (rs : List (List Ed)) (p k d : Nat) (B : Option Addr) (w : World) (hm : Ex w p k rs) (hb : RdR w B rs) :
    Calls Try.prog 41 #[.agg #[.int .i64 i, .int .i64 o, .slice (some ⟨p, 0, none⟩) k k], .int .i64 0, .agg #[.int .i64 i, .int .i64 o, .slice B k d]] w fun e w' => e = .returned (.bool true) ∧ Below w.heap.size w w' := by
  have hbx : Below w.heap.size w ((boxM w i o (some ⟨p, 0, none⟩) k k).alloc (.cells #[.int .i64 i, .int .i64 o, .slice B k d] 24)) := ((Below.refl _ _).alloc (Nat.le_refl _) _).alloc (by simp) _
  have hb0 : BxM ((boxM w i o (some ⟨p, 0, none⟩) k k).alloc (.cells #[.int .i64 i, .int .i64 o, .slice B k d] 24)) w.heap.size i o (some ⟨p, 0, none⟩) k k := (BxM.new w _ _ _ _ _).mvB ((Below.refl _ _).alloc (Nat.le_refl _) _)
  have hb1 : BxM ((boxM w i o (some ⟨p, 0, none⟩) k k).alloc (.cells #[.int .i64 i, .int .i64 o, .slice B k d] 24)) (w.heap.size + 1) i o B k d := BxM.newE (w := boxM w i o (some ⟨p, 0, none⟩) k k) (by simp) _ _ _ _ _
  obtain ⟨q0, q1, q2⟩ := hb0.cells
  obtain ⟨z0, z1, z2⟩ := hb1.cells
  obtain ⟨gs, h1, h2, h3, h4, h5⟩ := Lib.hid hm |>.out
  have CS := rmsame_yes ⟨i, o, rs⟩ i o (some ⟨p, 0, none⟩) B k k d _ rfl rfl h2 (hm.below hbx).rd (hb.below hbx) h3 h4
  have HM := Lib.hid (hm.below hbx)
  have H0 := Lib.hid hb0
  have HX := Lib.hid hbx
  have hkk : ((k : Int) == k) = true := by simp
  have hk6 := h3
  clear hm hb hb0 hb1 h1 h2 h3 h4 h5 hbx
  go_enter Try.func41, Try.ntmps41
  go_wp2_with fail
  refine CS.mono ?_
  rintro e w1 ⟨rfl, hb1⟩
  have H1 := Lib.hid (H0.out.mvB hb1)
  have HM1 := Lib.hid (HM.out.below hb1)
  have HX1 := Lib.hid (below_next HX.out hb1)
  clear CS q0 q1 q2 z0 z1 z2 H0 HM HX hb1
  obtain ⟨q0, q1, q2⟩ := H1.out.cells
  go_wp2
  clear q0 q1 q2
  go_loopw [7] (fun v wr => ∃ j : Nat, j ≤ k ∧ v = .int .i64 j ∧ Hid (Below w.heap.size w wr) ∧ Hid (BxM wr w.heap.size i o (some ⟨p, 0, none⟩) k k) ∧ Hid (Ex wr p k rs)) (fun v _ => k - (intOf v).toNat)
  case atStart => exact ⟨0, by omega, rfl, HX1, H1, HM1⟩
  case round =>
    obtain ⟨j, hj, rfl, hX, hB, hE⟩ := hrel
    obtain ⟨q0, q1, q2⟩ := hB.out.cells
    by_cases hlt : j < k
    · have hdl : decide ((j : Int) < k) = true := decide_eq_true (by omega)
      obtain ⟨A, n, hc⟩ := hE.out.at_ hlt
      have hnn : ((n : Int) != n) = false := by simp
      have hj0 : (0 : Int) ≤ j := by omega
      have hjk : (j : Int) < k := by omega
      have hHj := Lib.hid hj
      clear HX1 H1 HM1 hj
      go_wp2
      go_quiet (fail)
      go_wp2
      go_roundw
      case rel => exact ⟨j + 1, by omega, by simp, Lib.hid (below_drewN' hX.out _), Lib.hid (hB.out.mvB (below_drewN' (Below.refl _ _) _)), Lib.hid (hE.out.below (below_drewN' (Below.refl _ _) _))⟩
      case measure => simp [intOf]; omega
    · have hdl : decide ((j : Int) < k) = false := decide_eq_false (by omega)
      have hfin := hX
      clear HX1 H1 HM1 hX hB hE
      go_wp2
      go_ret
      exact ⟨rfl, hfin.out⟩

namespace Mc
/-- The map by way of the canonical machine, as a list. -/
theorem ql_list {m : Ma} (v : Val m) : ql m = (List.range m.r.length).map fun (s : Nat) => tgt (cls (cnn m)) (ix (ord m) s) := by
  unfold ql mpl
  refine List.map_congr_left fun s _ => ?_
  by_cases h : (s : Int) ∈ ord m
  · exact qm_ix v h
  · rw [ix_none h, tgt_none]
    exact qm_none h
abbrev qy0 : List Ed := [(1, 0), (2, 0)]
abbrev qy1 : List Ed := [(3, 0), (2, 0)]
abbrev qy2 : List Ed := [(2, 0), (0, 1)]
abbrev qy3 : List Ed := [(1, 0), (2, 0)]
abbrev qy4 : List Ed := [(4, 0), (4, 0)]
abbrev qz0 : List Ed := [(0, 0), (1, 0)]
abbrev qz1 : List Ed := [(1, 0), (0, 1)]
abbrev QR : List (List Ed) := [qy0, qy1, qy2, qy3, qy4]
abbrev QS : List (List Ed) := [qz0, qz1]
abbrev QX : Ma := ⟨2, 2, QR⟩
abbrev QY : Ma := ⟨2, 2, QS⟩
theorem QX_val : Val QX := val_of (by decide +kernel)
theorem QY_val : Val QY := val_of (by decide +kernel)
/-- The canonical machine of the example. -/
abbrev QC : Ma := ⟨2, 2, [[(1, 0), (2, 0)], [(3, 0), (2, 0)], [(2, 0), (0, 1)], [(1, 0), (2, 0)]]⟩
theorem QX_ord : ord QX = [0, 1, 2, 3] := by decide +kernel
theorem QX_cnn : cnn QX = QC := by unfold cnn; rw [QX_ord]; decide +kernel
theorem QC_cls : cls QC = [0, 0, 1, 0] := by rw [← cls_all (m := QC) (by decide)]; decide +kernel
theorem QX_qn : qn QX = QY := by rw [← mrg_qn QX_val, QX_cnn, QC_cls]; decide +kernel
theorem QX_ql : ql QX = [0, 0, 1, 0, -1] := by rw [ql_list QX_val, QX_cnn, QC_cls, QX_ord]; decide +kernel
theorem QY_ord : ord QY = [0, 1] := by decide +kernel
theorem QY_cnn : cnn QY = QY := by unfold cnn; rw [QY_ord]; decide +kernel
theorem QY_cls : cls QY = [0, 1] := by rw [← cls_all (m := QY) (by decide)]; decide +kernel
theorem QY_qn : qn QY = QY := by rw [← mrg_qn QY_val, QY_cnn, QY_cls]; decide +kernel
theorem QX_conn : conn QX = false := by
  rw [← Bool.not_eq_true, conn_con QX_val, QX_ord]
  intro h
  have := h 4 (by decide)
  revert this
  decide
theorem QY_conn : conn QY = true := min_conn QY_val (by rw [QY_qn])
theorem QX_prp : prp QX = 11 := by
  unfold prp
  rw [show cmpV QX = true by decide +kernel, if_neg (by simp), show conV QX = false by unfold conV; rw [QX_conn]; simp, if_pos rfl]
theorem QY_prp : prp QY = 0 := by
  unfold prp
  rw [show cmpV QY = true by decide +kernel, if_neg (by simp), show conV QY = true by unfold conV; rw [chk_of QY_val, QY_conn]; rfl, if_neg (by simp), QY_qn, if_pos rfl]
theorem QH_no : ¬ HomP QX QY [0, 0, 1, 0, 0] := by
  rintro ⟨_, h⟩
  have := h 4 1 (by decide) (by decide)
  revert this
  decide +kernel
theorem QH_yes : HomP QY QY [0, 1] := by
  refine ⟨by decide, fun s i hs hi => ?_⟩
  have hi2 : i < 2 := by have : (i : Int) < 2 := hi; omega
  have key : ∀ s : Fin 2, ∀ i : Fin 2, nx QY (M.gz [0, 1] s.val) (i.val : Int) = (tgt [0, 1] (nx QY (s.val : Int) (i.val : Int)).1, (nx QY (s.val : Int) (i.val : Int)).2) := by decide +kernel
  exact key ⟨s, hs⟩ ⟨i, hi2⟩
theorem QH_err : hmE QX QY [0, 0, 1] = 16 := by decide +kernel
end Mc
theorem rdr_five (w : World) (A B C D E : Addr) (h0 : RdP w (some A) Mc.qy0) (h1 : RdP w (some B) Mc.qy1) (h2 : RdP w (some C) Mc.qy2) (h3 : RdP w (some D) Mc.qy3) (h4 : RdP w (some E) Mc.qy4) :
    RdR (w.alloc (.cells #[.slice (some A) 2 2, .slice (some B) 2 2, .slice (some C) 2 2, .slice (some D) 2 2, .slice (some E) 2 2] 28)) (some ⟨w.heap.size, 0, none⟩) Mc.QR :=
  rdr_cells w Mc.QR _ fun k row hk => by
    match k, hk with
    | 0, hk => simp at hk; subst hk; exact ⟨A, rfl, h0, by decide⟩
    | 1, hk => simp at hk; subst hk; exact ⟨B, rfl, h1, by decide⟩
    | 2, hk => simp at hk; subst hk; exact ⟨C, rfl, h2, by decide⟩
    | 3, hk => simp at hk; subst hk; exact ⟨D, rfl, h3, by decide⟩
    | 4, hk => simp at hk; subst hk; exact ⟨E, rfl, h4, by decide⟩
theorem rdr_two9 (w : World) (A B : Addr) (h0 : RdP w (some A) Mc.qz0) (h1 : RdP w (some B) Mc.qz1) :
    RdR (w.alloc (.cells #[.slice (some A) 2 2, .slice (some B) 2 2] 28)) (some ⟨w.heap.size, 0, none⟩) Mc.QS :=
  rdr_cells w Mc.QS _ fun k row hk => by
    match k, hk with
    | 0, hk => simp at hk; subst hk; exact ⟨A, rfl, h0, by decide⟩
    | 1, hk => simp at hk; subst hk; exact ⟨B, rfl, h1, by decide⟩
theorem MK.putX9 {E : World → Prop} {w w1 : World} {L : List (World → Prop)} (h : MK E w w1 L) {p k : Nat} {l : List (List Ed)} (hr : Ex w1 p k l) : MK E w w1 ((fun w => Ex w p k l) :: L) := h.put (fun _ _ h hb => h.below hb) hr
section
variable (A B : Option Addr) (w : World)
theorem q_min (hr : RdR w A Mc.QR) : Calls Try.prog 11 #[.agg #[.int .i64 2, .int .i64 2, .slice A 5 5]] w fun e w' => ∃ P, e = .returned (.tuple #[.agg #[.int .i64 2, .int .i64 2, .slice (some ⟨P, 0, none⟩) 2 2], .int .i64 0]) ∧ Ex w' P 2 Mc.QS ∧ Below w.heap.size w w' := by
  have := qmin_at Mc.QX 2 2 A 5 5 w 2 Mc.QX_val rfl rfl rfl (by rw [Mc.QX_qn]; rfl) hr
  rwa [Mc.QX_qn] at this
theorem q_map (hr : RdR w A Mc.QR) : Calls Try.prog 12 #[.agg #[.int .i64 2, .int .i64 2, .slice A 5 5]] w fun e w' => ∃ g, e = .returned (.tuple #[.slice (some ⟨g, 0, none⟩) 5 5, .int .i64 0]) ∧ Rd w' (some ⟨g, 0, none⟩) [0, 0, 1, 0, -1] ∧ Below w.heap.size w w' := by
  have := qmap_at Mc.QX 2 2 A 5 5 w Mc.QX_val rfl rfl rfl hr
  rwa [Mc.QX_ql] at this
theorem q_is1 (hr : RdR w A Mc.QR) : Calls Try.prog 42 #[.agg #[.int .i64 2, .int .i64 2, .slice A 5 5]] w fun e w' => e = .returned (.tuple #[.bool false, .int .i64 0]) ∧ Below w.heap.size w w' :=
  qis_at Mc.QX 2 2 A 5 5 w false Mc.QX_val rfl rfl rfl (by rw [Mc.QX_qn]; rfl) hr
theorem q_is2 (hr : RdR w A Mc.QS) : Calls Try.prog 42 #[.agg #[.int .i64 2, .int .i64 2, .slice A 2 2]] w fun e w' => e = .returned (.tuple #[.bool true, .int .i64 0]) ∧ Below w.heap.size w w' :=
  qis_at Mc.QY 2 2 A 2 2 w true Mc.QY_val rfl rfl rfl (by rw [Mc.QY_qn]; rfl) hr
theorem q_hom1 (F : Option Addr) (hr : RdR w A Mc.QR) (hq : RdR w B Mc.QS) (hF : Rd w F [0, 0, 1, 0, 0]) : Calls Try.prog 45 #[.agg #[.int .i64 2, .int .i64 2, .slice A 5 5], .agg #[.int .i64 2, .int .i64 2, .slice B 2 2], .slice F 5 5] w fun e w' => e = .returned (.tuple #[.bool false, .int .i64 0]) ∧ Below w.heap.size w w' :=
  qhom_any Mc.QX Mc.QY A B 5 5 2 2 F 5 [0, 0, 1, 0, 0] w Mc.QX_val Mc.QY_val hr hq rfl rfl hF rfl rfl (by decide +kernel) false ⟨fun h => by simp at h, fun h => absurd h Mc.QH_no⟩
theorem q_hom2 (F : Option Addr) (hq : RdR w B Mc.QS) (hF : Rd w F [0, 1]) : Calls Try.prog 45 #[.agg #[.int .i64 2, .int .i64 2, .slice B 2 2], .agg #[.int .i64 2, .int .i64 2, .slice B 2 2], .slice F 2 2] w fun e w' => e = .returned (.tuple #[.bool true, .int .i64 0]) ∧ Below w.heap.size w w' :=
  qhom_any Mc.QY Mc.QY B B 2 2 2 2 F 2 [0, 1] w Mc.QY_val Mc.QY_val hq hq rfl rfl hF rfl rfl (by decide +kernel) true ⟨fun _ => Mc.QH_yes, fun _ => rfl⟩
theorem q_hom3 (F : Option Addr) (hr : RdR w A Mc.QR) (hq : RdR w B Mc.QS) (hF : Rd w F [0, 0, 1]) : Calls Try.prog 45 #[.agg #[.int .i64 2, .int .i64 2, .slice A 5 5], .agg #[.int .i64 2, .int .i64 2, .slice B 2 2], .slice F 3 3] w fun e w' => e = .returned (.tuple #[.bool false, .int .i64 16]) ∧ Below w.heap.size w w' :=
  qhom_err Mc.QX Mc.QY 2 2 2 2 A B 5 5 2 2 F 3 3 [0, 0, 1] w 16 rfl rfl rfl rfl hr hq rfl rfl (by decide) (by decide) (by decide) (by decide) hF rfl (by decide) Mc.QH_err (by decide)
theorem q_prp1 (hr : RdR w A Mc.QR) : Calls Try.prog 49 #[.agg #[.int .i64 2, .int .i64 2, .slice A 5 5]] w fun e w' => e = .returned (.int .i64 11) ∧ Below w.heap.size w w' :=
  qproper_at Mc.QX 2 2 A 5 5 w 11 Mc.QX_val rfl rfl rfl Mc.QX_prp hr
theorem q_prp2 (hr : RdR w A Mc.QS) : Calls Try.prog 49 #[.agg #[.int .i64 2, .int .i64 2, .slice A 2 2]] w fun e w' => e = .returned (.int .i64 0) ∧ Below w.heap.size w w' :=
  qproper_at Mc.QY 2 2 A 2 2 w 0 Mc.QY_val rfl rfl rfl Mc.QY_prp hr
end
end Go.Proofs.Ytnodnfailjmpeaa

namespace Go.Proofs.Ytnodnfailjmpeaa
open Go.RowKit
open Mc (Ed Ma)

set_option maxRecDepth 100000 in
set_option maxHeartbeats 8000000 in
theorem qlives_walk (w : World) : Calls Try.prog 19 #[] w fun e w' => e = .returned (.bool true) ∧ Below w.heap.size w w' := by
  have s0 : MT w w [] := MT.start
  go_enter Try.func19, Try.ntmps19
  go_wp2_with fail
  refine (qedge_any 1 0 _).mono ?_
  rintro e w1 ⟨rfl, hb⟩
  have s1 := MT.next s0 hb
  clear hb s0
  go_wp2_with fail
  refine (qedge_any 2 0 _).mono ?_
  rintro e w2 ⟨rfl, hb⟩
  have s2 := MT.next s1 hb
  clear hb s1
  have s3 := MK.putP (MT.alloc s2 (.cells #[.int .i64 1, .int .i64 0, .int .i64 2, .int .i64 0] 26)) (rdp_lit w2 Mc.qy0 _ rfl)
  clear s2
  go_wp2_with fail
  refine (qedge_any 3 0 _).mono ?_
  rintro e w3 ⟨rfl, hb⟩
  have s4 := MT.next s3 hb
  clear hb s3
  go_wp2_with fail
  refine (qedge_any 2 0 _).mono ?_
  rintro e w4 ⟨rfl, hb⟩
  have s5 := MT.next s4 hb
  clear hb s4
  have s6 := MK.putP (MT.alloc s5 (.cells #[.int .i64 3, .int .i64 0, .int .i64 2, .int .i64 0] 26)) (rdp_lit w4 Mc.qy1 _ rfl)
  clear s5
  go_wp2_with fail
  refine (qedge_any 2 0 _).mono ?_
  rintro e w5 ⟨rfl, hb⟩
  have s7 := MT.next s6 hb
  clear hb s6
  go_wp2_with fail
  refine (qedge_any 0 1 _).mono ?_
  rintro e w6 ⟨rfl, hb⟩
  have s8 := MT.next s7 hb
  clear hb s7
  have s9 := MK.putP (MT.alloc s8 (.cells #[.int .i64 2, .int .i64 0, .int .i64 0, .int .i64 1] 26)) (rdp_lit w6 Mc.qy2 _ rfl)
  clear s8
  go_wp2_with fail
  refine (qedge_any 1 0 _).mono ?_
  rintro e w7 ⟨rfl, hb⟩
  have s10 := MT.next s9 hb
  clear hb s9
  go_wp2_with fail
  refine (qedge_any 2 0 _).mono ?_
  rintro e w8 ⟨rfl, hb⟩
  have s11 := MT.next s10 hb
  clear hb s10
  have s12 := MK.putP (MT.alloc s11 (.cells #[.int .i64 1, .int .i64 0, .int .i64 2, .int .i64 0] 26)) (rdp_lit w8 Mc.qy3 _ rfl)
  clear s11
  go_wp2_with fail
  refine (qedge_any 4 0 _).mono ?_
  rintro e w9 ⟨rfl, hb⟩
  have s13 := MT.next s12 hb
  clear hb s12
  go_wp2_with fail
  refine (qedge_any 4 0 _).mono ?_
  rintro e w10 ⟨rfl, hb⟩
  have s14 := MT.next s13 hb
  clear hb s13
  have s15 := MK.putP (MT.alloc s14 (.cells #[.int .i64 4, .int .i64 0, .int .i64 4, .int .i64 0] 26)) (rdp_lit w10 Mc.qy4 _ rfl)
  clear s14
  have s16 := MK.putR (MT.alloc s15 (.cells #[.slice (some ⟨w2.heap.size, 0, none⟩) 2 2, .slice (some ⟨w4.heap.size, 0, none⟩) 2 2, .slice (some ⟨w6.heap.size, 0, none⟩) 2 2, .slice (some ⟨w8.heap.size, 0, none⟩) 2 2, .slice (some ⟨w10.heap.size, 0, none⟩) 2 2] 28))
    (by
      have h := rdr_five _ ⟨w2.heap.size, 0, none⟩ ⟨w4.heap.size, 0, none⟩ ⟨w6.heap.size, 0, none⟩ ⟨w8.heap.size, 0, none⟩ ⟨w10.heap.size, 0, none⟩ (MK.get s15 4 rfl) (MK.get s15 3 rfl) (MK.get s15 2 rfl) (MK.get s15 1 rfl) (MK.get s15 0 rfl)
      rw [show (w10.alloc (.cells #[.int .i64 4, .int .i64 0, .int .i64 4, .int .i64 0] 26)).heap.size = w10.heap.size + 1 by simp] at h
      exact h)
  clear s15
  have s17 := MK.putB (g := w10.heap.size + 1 + 1) (MT.alloc s16 (.cells #[.int .i64 2, .int .i64 2, .slice (some ⟨w10.heap.size + 1, 0, none⟩) 5 5] 24))
    (by
      have h := heap_alloc_new ((w10.alloc (.cells #[.int .i64 4, .int .i64 0, .int .i64 4, .int .i64 0] 26)).alloc (.cells #[.slice (some ⟨w2.heap.size, 0, none⟩) 2 2, .slice (some ⟨w4.heap.size, 0, none⟩) 2 2, .slice (some ⟨w6.heap.size, 0, none⟩) 2 2, .slice (some ⟨w8.heap.size, 0, none⟩) 2 2, .slice (some ⟨w10.heap.size, 0, none⟩) 2 2] 28)) (.cells #[.int .i64 2, .int .i64 2, .slice (some ⟨w10.heap.size + 1, 0, none⟩) 5 5] 24)
      rw [show ((w10.alloc (.cells #[.int .i64 4, .int .i64 0, .int .i64 4, .int .i64 0] 26)).alloc (.cells #[.slice (some ⟨w2.heap.size, 0, none⟩) 2 2, .slice (some ⟨w4.heap.size, 0, none⟩) 2 2, .slice (some ⟨w6.heap.size, 0, none⟩) 2 2, .slice (some ⟨w8.heap.size, 0, none⟩) 2 2, .slice (some ⟨w10.heap.size, 0, none⟩) 2 2] 28)).heap.size = w10.heap.size + 1 + 1 by simp] at h
      exact h)
  clear s16
  go_upto_region 2 with fail
  obtain ⟨w11, hw⟩ : ∃ q, ((w10.alloc (.cells #[.int .i64 4, .int .i64 0, .int .i64 4, .int .i64 0] 26)).alloc (.cells #[.slice (some ⟨w2.heap.size, 0, none⟩) 2 2, .slice (some ⟨w4.heap.size, 0, none⟩) 2 2, .slice (some ⟨w6.heap.size, 0, none⟩) 2 2, .slice (some ⟨w8.heap.size, 0, none⟩) 2 2, .slice (some ⟨w10.heap.size, 0, none⟩) 2 2] 28)).alloc (.cells #[.int .i64 2, .int .i64 2, .slice (some ⟨w10.heap.size + 1, 0, none⟩) 5 5] 24) = q := ⟨_, rfl⟩
  obtain ⟨GM, hG⟩ : ∃ G, w10.heap.size + 1 + 1 = G := ⟨_, rfl⟩
  obtain ⟨QM, hQ⟩ : ∃ Q, w10.heap.size + 1 = Q := ⟨_, rfl⟩
  rw [hw, hG, hQ] at s17
  try rw [hw]
  try rw [hG]
  try rw [hQ]
  clear hw hG hQ
  go_wp2_with fail
  refine (qedge_any 0 0 _).mono ?_
  rintro e w12 ⟨rfl, hb⟩
  have s18 := MT.next s17 hb
  clear hb s17
  go_wp2_with fail
  refine (qedge_any 1 0 _).mono ?_
  rintro e w13 ⟨rfl, hb⟩
  have s19 := MT.next s18 hb
  clear hb s18
  have s20 := MK.putP (MT.alloc s19 (.cells #[.int .i64 0, .int .i64 0, .int .i64 1, .int .i64 0] 26)) (rdp_lit w13 Mc.qz0 _ rfl)
  clear s19
  go_wp2_with fail
  refine (qedge_any 1 0 _).mono ?_
  rintro e w14 ⟨rfl, hb⟩
  have s21 := MT.next s20 hb
  clear hb s20
  go_wp2_with fail
  refine (qedge_any 0 1 _).mono ?_
  rintro e w15 ⟨rfl, hb⟩
  have s22 := MT.next s21 hb
  clear hb s21
  have s23 := MK.putP (MT.alloc s22 (.cells #[.int .i64 1, .int .i64 0, .int .i64 0, .int .i64 1] 26)) (rdp_lit w15 Mc.qz1 _ rfl)
  clear s22
  have s24 := MK.putR (MT.alloc s23 (.cells #[.slice (some ⟨w13.heap.size, 0, none⟩) 2 2, .slice (some ⟨w15.heap.size, 0, none⟩) 2 2] 28))
    (by
      have h := rdr_two9 _ ⟨w13.heap.size, 0, none⟩ ⟨w15.heap.size, 0, none⟩ (MK.get s23 1 rfl) (MK.get s23 0 rfl)
      rw [show (w15.alloc (.cells #[.int .i64 1, .int .i64 0, .int .i64 0, .int .i64 1] 26)).heap.size = w15.heap.size + 1 by simp] at h
      exact h)
  clear s23
  have s25 := MK.putB (g := w15.heap.size + 1 + 1) (MT.alloc s24 (.cells #[.int .i64 2, .int .i64 2, .slice (some ⟨w15.heap.size + 1, 0, none⟩) 2 2] 24))
    (by
      have h := heap_alloc_new ((w15.alloc (.cells #[.int .i64 1, .int .i64 0, .int .i64 0, .int .i64 1] 26)).alloc (.cells #[.slice (some ⟨w13.heap.size, 0, none⟩) 2 2, .slice (some ⟨w15.heap.size, 0, none⟩) 2 2] 28)) (.cells #[.int .i64 2, .int .i64 2, .slice (some ⟨w15.heap.size + 1, 0, none⟩) 2 2] 24)
      rw [show ((w15.alloc (.cells #[.int .i64 1, .int .i64 0, .int .i64 0, .int .i64 1] 26)).alloc (.cells #[.slice (some ⟨w13.heap.size, 0, none⟩) 2 2, .slice (some ⟨w15.heap.size, 0, none⟩) 2 2] 28)).heap.size = w15.heap.size + 1 + 1 by simp] at h
      exact h)
  clear s24
  go_upto_region 3 with fail
  obtain ⟨w16, hw⟩ : ∃ q, ((w15.alloc (.cells #[.int .i64 1, .int .i64 0, .int .i64 0, .int .i64 1] 26)).alloc (.cells #[.slice (some ⟨w13.heap.size, 0, none⟩) 2 2, .slice (some ⟨w15.heap.size, 0, none⟩) 2 2] 28)).alloc (.cells #[.int .i64 2, .int .i64 2, .slice (some ⟨w15.heap.size + 1, 0, none⟩) 2 2] 24) = q := ⟨_, rfl⟩
  obtain ⟨GS, hG⟩ : ∃ G, w15.heap.size + 1 + 1 = G := ⟨_, rfl⟩
  obtain ⟨QS, hQ⟩ : ∃ Q, w15.heap.size + 1 = Q := ⟨_, rfl⟩
  rw [hw, hG, hQ] at s25
  try rw [hw]
  try rw [hG]
  try rw [hQ]
  clear hw hG hQ
  obtain ⟨b00, b01, b02⟩ := BxM.cells (MK.get s25 4 rfl)
  go_wp2_with fail
  clear b00 b01 b02
  refine (q_min _ _ (MK.get s25 5 rfl)).mono ?_
  rintro e w17 ⟨P, rfl, hr, hb⟩
  have s26 := MT.next s25 hb
  clear hb s25
  have s27 := MK.putX9 s26 hr
  clear s26 hr
  have s28 := MK.putB (g := w17.heap.size) (MT.alloc s27 (.cells #[.int .i64 2, .int .i64 2, .slice (some ⟨P, 0, none⟩) 2 2] 24)) (heap_alloc_new w17 _)
  clear s27
  go_upto_region 4 with fail
  obtain ⟨GC, hG⟩ : ∃ G, w17.heap.size = G := ⟨_, rfl⟩
  obtain ⟨w18, hw⟩ : ∃ q, w17.alloc (.cells #[.int .i64 2, .int .i64 2, .slice (some ⟨P, 0, none⟩) 2 2] 24) = q := ⟨_, rfl⟩
  rw [hG, hw] at s28
  try rw [hG]
  try rw [hw]
  clear hw hG
  obtain ⟨b00, b01, b02⟩ := BxM.cells (MK.get s28 6 rfl)
  go_wp2_with fail
  clear b00 b01 b02
  refine (q_map _ _ (MK.get s28 7 rfl)).mono ?_
  rintro e w19 ⟨g, rfl, hr, hb⟩
  have s29 := MT.next s28 hb
  clear hb s28
  have s30 := MK.putL s29 hr
  clear s29 hr
  obtain ⟨b00, b01, b02⟩ := BxM.cells (MK.get s30 7 rfl)
  go_wp2_with fail
  clear b00 b01 b02
  refine (q_is1 _ _ (MK.get s30 8 rfl)).mono ?_
  rintro e w20 ⟨rfl, hb⟩
  have s31 := MT.next s30 hb
  clear hb s30
  obtain ⟨b00, b01, b02⟩ := BxM.cells (MK.get s31 3 rfl)
  go_wp2_with fail
  clear b00 b01 b02
  refine (q_is2 _ _ (MK.get s31 4 rfl)).mono ?_
  rintro e w21 ⟨rfl, hb⟩
  have s32 := MT.next s31 hb
  clear hb s31
  obtain ⟨b00, b01, b02⟩ := BxM.cells (MK.get s32 7 rfl)
  obtain ⟨b10, b11, b12⟩ := BxM.cells (MK.get s32 3 rfl)
  have s33 := MK.putL (MT.alloc s32 (.cells (ints [0, 0, 1, 0, 0]).toArray 3)) (rd_lit w21 [0, 0, 1, 0, 0])
  go_wp2_with fail
  clear b00 b01 b02 b10 b11 b12
  clear s32
  refine (q_hom1 _ _ _ _ (MK.get s33 9 rfl) (MK.get s33 5 rfl) (MK.get s33 0 rfl)).mono ?_
  rintro e w22 ⟨rfl, hb⟩
  have s34 := MT.next s33 hb
  clear hb s33
  obtain ⟨b00, b01, b02⟩ := BxM.cells (MK.get s34 4 rfl)
  have s35 := MK.putL (MT.alloc s34 (.cells (ints [0, 1]).toArray 3)) (rd_lit w22 [0, 1])
  go_wp2_with fail
  clear b00 b01 b02
  clear s34
  refine (q_hom2 _ _ _ (MK.get s35 6 rfl) (MK.get s35 0 rfl)).mono ?_
  rintro e w23 ⟨rfl, hb⟩
  have s36 := MT.next s35 hb
  clear hb s35
  obtain ⟨b00, b01, b02⟩ := BxM.cells (MK.get s36 9 rfl)
  obtain ⟨b10, b11, b12⟩ := BxM.cells (MK.get s36 5 rfl)
  have s37 := MK.putL (MT.alloc s36 (.cells (ints [0, 0, 1]).toArray 3)) (rd_lit w23 [0, 0, 1])
  go_wp2_with fail
  clear b00 b01 b02 b10 b11 b12
  clear s36
  refine (q_hom3 _ _ _ _ (MK.get s37 11 rfl) (MK.get s37 7 rfl) (MK.get s37 0 rfl)).mono ?_
  rintro e w24 ⟨rfl, hb⟩
  have s38 := MT.next s37 hb
  clear hb s37
  obtain ⟨b00, b01, b02⟩ := BxM.cells (MK.get s38 4 rfl)
  obtain ⟨b10, b11, b12⟩ := BxM.cells (MK.get s38 6 rfl)
  go_wp2_with fail
  clear b00 b01 b02 b10 b11 b12
  refine (qmachine_yes 2 2 Mc.QS P 2 2 _ _ (MK.get s38 5 rfl) (MK.get s38 7 rfl)).mono ?_
  rintro e w25 ⟨rfl, hb⟩
  have s39 := MT.next s38 hb
  clear hb s38
  have s40 := MK.putL (MT.alloc s39 (.cells (ints [0, 0, 1, 0, -1]).toArray 3)) (rd_lit w25 [0, 0, 1, 0, -1])
  go_wp2_with fail
  clear s39
  refine (qlist_yes (some ⟨g, 0, none⟩) (some ⟨w25.heap.size, 0, none⟩) 5 5 [0, 0, 1, 0, -1] 0 _ (MK.get s40 4 rfl) (MK.get s40 0 rfl) rfl (by decide)).mono ?_
  rintro e w26 ⟨rfl, hb⟩
  have s41 := MT.next s40 hb
  clear hb s40
  obtain ⟨b00, b01, b02⟩ := BxM.cells (MK.get s41 11 rfl)
  go_wp2_with fail
  clear b00 b01 b02
  refine (q_prp1 _ _ (MK.get s41 12 rfl)).mono ?_
  rintro e w27 ⟨rfl, hb⟩
  have s42 := MT.next s41 hb
  clear hb s41
  obtain ⟨b00, b01, b02⟩ := BxM.cells (MK.get s42 7 rfl)
  go_wp2_with fail
  clear b00 b01 b02
  refine (q_prp2 _ _ (MK.get s42 8 rfl)).mono ?_
  rintro e w28 ⟨rfl, hb⟩
  have s43 := MT.next s42 hb
  clear hb s42
  have hfin := s43.2.1
  clear s43
  go_wp2_with fail
  go_ret
  exact ⟨rfl, hfin⟩
end Go.Proofs.Ytnodnfailjmpeaa
