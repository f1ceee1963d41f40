/-
  Contracts of the reference of layer 9: Proper. No statement is proved here.
-/
import Derived.Test.YtnodnfailjmpeaaQnI
import Derived.Test.YtnodnfailjmpeaaRfY
import Derived.Test.YtnodnfailjmpeaaScA
import Derived.Test.YtnodnfailjmpeaaScB
import Derived.Deep.QuietTactic
namespace Go.Proofs.Ytnodnfailjmpeaa
open Go.RowKit
open Mc (Ed Ma)

namespace Mc
/-- What a machine lacks to be proper, as the reference has it. -/
noncomputable def prR (m : Ma) : Int := if ((dfd m.r : Int) == m.r.length * m.i) = false then 9 else if conn m = false then 11 else if (qn m).r.length = m.r.length then 0 else 12
theorem prR_12 {m : Ma} (v : Val m) (h1 : ((dfd m.r : Int) == m.r.length * m.i) = true) (h2 : conn m = true) {s t : Nat} (hs : s < m.r.length) (ht : t < s) (e : M.gz (cls m) s = M.gz (cls m) t) : prR m = 12 := by
  unfold prR
  rw [h1, h2, if_neg (by simp), if_neg (by simp), if_neg]
  intro h
  have := (min_len v h2).1 h s t hs (by omega) e
  omega
theorem prR_0 {m : Ma} (v : Val m) (h1 : ((dfd m.r : Int) == m.r.length * m.i) = true) (h2 : conn m = true) (h : ∀ s t : Nat, s < m.r.length → t < s → M.gz (cls m) s ≠ M.gz (cls m) t) : prR m = 0 := by
  unfold prR
  rw [h1, h2, if_neg (by simp), if_neg (by simp), if_pos]
  refine (min_len v h2).2 fun s t hs ht e => ?_
  rcases Nat.lt_trichotomy s t with h3 | h3 | h3
  · exact absurd e.symm (h t s ht h3)
  · exact h3
  · exact absurd e (h s t hs h3)
end Mc
section
variable (m : Ma) (A : Option Addr) (c : Nat) (w : World)
set_option maxRecDepth 100000 in
set_option maxHeartbeats 4000000 in
theorem rproper_any (i : Nat) (o : Int) (n : Nat) (z : Int) (v : Mc.Val m) (hi : m.i = i) (ho : m.o = o) (hn : m.r.length = n) (hz : Mc.prR m = z) (hr : RdR w A m.r) :
    Calls Try.prog 50 #[.agg #[.int .i64 i, .int .i64 o, .slice A n c]] w fun e w' => e = .returned (.int .i64 z) ∧ Below w.heap.size w w' := by
  have EB : Below w.heap.size w (boxM w i o A n c) := (Below.refl _ _).alloc (Nat.le_refl _) _
  have hn64 : n ≤ 64 := by rw [← hn]; exact v.r1
  have C1 := rmcheck_any m A c _ (hr.below EB) (by have := v.r1; omega)
  have HC2 := Lib.hid (fun (wz : World) (h : RdR wz A m.r) => complete_any m A c wz v h)
  have HC3 := Lib.hid (fun (wz : World) (h : RdR wz A m.r) => connected_any m A c wz v h)
  have HC4 := Lib.hid (fun (wz : World) (h : RdR wz A m.r) => rclasses_any m i o A n c wz v hi hn h)
  obtain ⟨β1, hβ1⟩ : ∃ β, ((Mc.dfd m.r : Int) == m.r.length * m.i) = β := ⟨_, rfl⟩
  obtain ⟨β2, hβ2⟩ : ∃ β, Mc.conn m = β := ⟨_, rfl⟩
  have HB1 := Lib.hid hβ1
  have HB2 := Lib.hid hβ2
  simp only [hβ1] at HC2
  simp only [hβ2] at HC3
  rw [Mc.chk_of v] at C1
  simp only [hi, ho, hn] at HC2 HC3 C1
  have HV := Lib.hid v
  have HZ := Lib.hid hz
  have HN := Lib.hid hn
  have HM := Lib.hid (BxM.new w i o A n c)
  obtain ⟨q0, q1, q2⟩ := HM.out.cells
  have HB := Lib.hid EB
  have hcl : Hid ((Mc.cls m).length = n) := by show _ = _; rw [Mc.cls_len, hn]
  clear EB v hi ho hn hz hβ1 hβ2
  go_enter Try.func50, Try.ntmps50
  go_wp2_with fail
  refine C1.mono ?_
  rintro e w1 ⟨rfl, hb1⟩
  have hM1 := HM.out.mvB hb1
  have hbl1 := below_next HB.out hb1
  clear q0 q1 q2 C1
  obtain ⟨q0, q1, q2⟩ := hM1.cells
  have C2 := HC2.out w1 (hr.below hbl1)
  go_wp2_with fail
  refine C2.mono ?_
  rintro e w2 ⟨rfl, hb2⟩
  have hM2 := hM1.mvB hb2
  have hbl2 := below_next hbl1 hb2
  clear q0 q1 q2 C2
  cases β1 with
  | false =>
    have hz : Hid (z = 9) := by show _ = _; rw [← HZ.out]; unfold Mc.prR; rw [HB1.out, if_pos rfl]
    go_wp2
    go_ret
    exact ⟨ret_int hz.out.symm, hbl2⟩
  | true =>
    obtain ⟨q0, q1, q2⟩ := hM2.cells
    have C3 := HC3.out w2 (hr.below hbl2)
    go_wp2_with fail
    refine C3.mono ?_
    rintro e w3 ⟨rfl, hb3⟩
    have hM3 := hM2.mvB hb3
    have hbl3 := below_next hbl2 hb3
    clear q0 q1 q2 C3
    cases β2 with
    | false =>
      have hz : Hid (z = 11) := by show _ = _; rw [← HZ.out]; unfold Mc.prR; rw [HB1.out, HB2.out, if_neg (by simp), if_pos rfl]
      go_wp2
      go_ret
      exact ⟨ret_int hz.out.symm, hbl3⟩
    | true =>
      obtain ⟨q0, q1, q2⟩ := hM3.cells
      have C4 := HC4.out w3 (hr.below hbl3)
      go_wp2_with fail
      refine C4.mono ?_
      rintro e w4 ⟨X, q, rfl, hx, hb4⟩
      have hbl4 := Lib.hid (below_next hbl3 hb4)
      obtain ⟨p, hp⟩ : ∃ p, Mc.cls m = p := ⟨_, rfl⟩
      have HP := Lib.hid hp
      rw [hp] at hx hcl
      clear q0 q1 q2 C4 hM1 hM2 hM3 hbl1 hbl2 hbl3 hb1 hb2 hb3 hb4 HC2 HC3 HC4 HM HB hr hp
      go_wp2
      go_loopw [5] (fun v wr => ∃ s : Nat, s ≤ n ∧ v = .int .i64 s ∧ Hid (∀ s' t : Nat, s' < s → t < s' → M.gz p s' ≠ M.gz p t) ∧ Hid (Below w4.heap.size w4 wr)) (fun v _ => n - (intOf v).toNat)
      case atStart => exact ⟨0, Nat.zero_le _, rfl, fun s' t h => absurd h (Nat.not_lt_zero _), Below.refl _ _⟩
      case round =>
        obtain ⟨s, hs, rfl, hG, hbr⟩ := hrel
        by_cases hsn : s < n
        · have hsn' : (s : Int) < n := by omega
          obtain ⟨b1, o1, u, hXe, hb1, hc1, hu⟩ := hx.at_ (k := s) (by rw [hcl.out]; exact hsn)
          subst hXe
          have HU : Hid (M.gz p s = u) := hu.out
          clear hu
          go_wp2
          obtain ⟨wo, rfl⟩ : ∃ wo : World, wo = wr := ⟨_, rfl⟩
          go_loopw [6] (fun v wr => ∃ t : Nat, t ≤ s ∧ v = .int .i64 t ∧ Hid (∀ t' : Nat, t' < t → M.gz p s ≠ M.gz p t') ∧ Hid (Below wo.heap.size wo wr)) (fun v _ => s - (intOf v).toNat)
          case atStart => exact ⟨0, Nat.zero_le _, rfl, fun t h => absurd h (Nat.not_lt_zero _), Below.refl _ _⟩
          case round =>
            obtain ⟨t, ht, rfl, hH, hbx⟩ := hrel
            have hbw := below_next hbr.out hbx.out
            by_cases hts : t < s
            · have hts' : (t : Int) < s := by omega
              have htn' : (t : Int) < n := by omega
              obtain ⟨b2, o2, y, hXe2, _, hc2, hy⟩ := hx.at_ (k := t) (by rw [hcl.out]; omega)
              injection hXe2 with hXe2
              injection hXe2 with e1 e2
              subst e1 e2
              have HY : Hid (M.gz p t = y) := hy.out
              have g1 := (hbw.cell (p := ⟨b1, o1 + s, none⟩) hb1).trans hc1
              have g2 := (hbw.cell (p := ⟨b1, o1 + t, none⟩) hb1).trans hc2
              have hfin := Lib.hid (fun k => below_next hbl4.out (below_drewN' hbw k))
              clear hy
              by_cases he : u = y
              · have heb : (u == y) = true := by rw [he]; simp
                have hz : Hid (z = 12) := by
                  show _ = _
                  rw [← HZ.out]
                  refine Mc.prR_12 HV.out HB1.out HB2.out (s := s) (t := t) (by rw [HN.out]; exact hsn) hts ?_
                  rw [HP.out, HU.out, HY.out, he]
                clear hG hH he
                go_wp2
                go_quiet (fail)
                go_wp2
                go_ret
                exact ⟨ret_int hz.out.symm, hfin.out _⟩
              · have heb : (u == y) = false := by rw [beq_eq_false_iff_ne]; exact he
                have hH2 : Hid (∀ t' : Nat, t' < t + 1 → M.gz p s ≠ M.gz p t') := fun t' h => by
                  rcases Nat.lt_or_ge t' t with h2 | h2
                  · exact hH.out t' h2
                  · obtain rfl : t' = t := by omega
                    rw [HU.out, HY.out]
                    exact he
                clear hH he
                go_wp2
                go_quiet (fail)
                go_wp2
                go_roundw
                case rel => exact ⟨t + 1, by omega, by go_num, hH2, below_drewN' hbx.out _⟩
                case measure => simp [intOf]; omega
            · obtain rfl : t = s := by omega
              have hts' : ¬ (t : Int) < t := by omega
              have hG2 : Hid (∀ s' t' : Nat, s' < t + 1 → t' < s' → M.gz p s' ≠ M.gz p t') := fun s' t' h1 h2 => by
                rcases Nat.lt_or_ge s' t with h3 | h3
                · exact hG.out s' t' h3 h2
                · obtain rfl : s' = t := by omega
                  exact hH.out t' h2
              have HBW := Lib.hid hbw
              clear hG hH
              go_wp2
              go_roundw
              case rel => exact ⟨t + 1, by omega, by go_num, hG2, HBW⟩
              case measure => simp [intOf]; omega
        · obtain rfl : s = n := by omega
          have hsn' : ¬ (s : Int) < s := by omega
          have hz : Hid (z = 0) := by
            show _ = _
            rw [← HZ.out]
            refine Mc.prR_0 HV.out HB1.out HB2.out fun s' t h1 h2 => ?_
            rw [HP.out]
            exact hG.out s' t (by rw [← HN.out]; exact h1) h2
          have hfin := Lib.hid (below_next hbl4.out hbr.out)
          clear hG
          go_wp2
          go_ret
          exact ⟨ret_int hz.out.symm, hfin.out⟩
set_option maxRecDepth 100000 in
theorem rproper_err (z : Int) (hzz : Mc.chk m = z) (hz : z ≠ 0) (hr : RdR w A m.r) (hn : m.r.length ≤ 1000000) :
    Calls Try.prog 50 #[.agg #[.int .i64 m.i, .int .i64 m.o, .slice A m.r.length c]] w fun e w' => e = .returned (.int .i64 z) ∧ Below w.heap.size w w' := by
  have EB : Below w.heap.size w (boxM w m.i m.o A m.r.length c) := (Below.refl _ _).alloc (Nat.le_refl _) _
  have C1 := rmcheck_any m A c _ (hr.below EB) hn
  rw [hzz] at C1
  have hzn : (z != 0) = true := by simpa using hz
  have hzb : (z == 0) = false := by rw [beq_eq_false_iff_ne]; exact hz
  obtain ⟨q0, q1, q2⟩ := (BxM.new w m.i m.o A m.r.length c).cells
  have HB := Lib.hid EB
  clear EB hzz hz hr hn
  go_enter Try.func50, Try.ntmps50
  go_wp2_with fail
  refine C1.mono ?_
  rintro e w1 ⟨rfl, hb1⟩
  have hfin := Lib.hid (below_next HB.out hb1)
  clear q0 q1 q2 C1
  go_wp2
  go_ret
  exact ⟨rfl, hfin.out⟩
end
end Go.Proofs.Ytnodnfailjmpeaa
