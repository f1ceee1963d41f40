/-
  Contracts of the reference of layer 7: Respects. No statement is proved here.
-/
import Derived.Test.YtonnplhiaidjnaaRf1
namespace Go.Proofs.Ytonnplhiaidjnaa
open Go.RowKit
open Mc (Ed Ma)

set_option maxRecDepth 100000 in
set_option maxHeartbeats 4000000 in
theorem rresp_any (m : Ma) (i : Nat) (o : Int) (A P : Option Addr) (n c k : Nat) (p : List Int) (w : World) (v : Mc.Val m) (hi : m.i = i) (hn : m.r.length = n) (hr : RdR w A m.r) (hp : Rd w P p) (hv : M.Vd p) (hl : p.length = n) :
    Calls Try.prog 28 #[.agg #[.int .i64 i, .int .i64 o, .slice A n c], .slice P n k] w fun e w' => e = .returned (.int .i64 (if Mc.rfd m p == p then 1 else 0)) ∧ Below w.heap.size w w' := by
  obtain ⟨bb, hbb⟩ : ∃ bb, (Mc.rfd m p == p) = bb := ⟨_, rfl⟩
  have HIFF : Hid (bb = true ↔ ∀ s t, t < s → s < n → Go.Proofs.Ytonnplhiaidjnaa.M.gz p s = Go.Proofs.Ytonnplhiaidjnaa.M.gz p t → Mc.apt m p s t i = false) := by
    show _ ↔ _
    rw [← hbb, beq_iff_eq, Mc.rsp_iff hv (by omega), Mc.rsp_pairs v hi, hn]
  have HBAD : Hid (∀ s t, t < s → s < n → Go.Proofs.Ytonnplhiaidjnaa.M.gz p s = Go.Proofs.Ytonnplhiaidjnaa.M.gz p t → Mc.apt m p s t i = true → bb = false) := fun s t h1 h2 h3 h4 => by
    cases h : bb with
    | false => rfl
    | true => have := HIFF.out.1 h s t h1 h2 h3; rw [h4] at this; cases this
  rw [hbb]
  clear hbb hv
  obtain ⟨r, hrr⟩ : ∃ r : Int, (if bb then 1 else 0) = r := ⟨_, rfl⟩
  have HRR : Hid (r = if bb then 1 else 0) := hrr.symm
  rw [hrr]
  clear hrr
  obtain ⟨pb, po, rfl⟩ := hp.opn (by have := v.r0; omega)
  have HI := Lib.hid hi
  have hi16 : i ≤ 16 := by have := v.i1; omega
  have hn64 : n ≤ 64 := by have := v.r1; omega
  have HV := Lib.hid v
  have HN := Lib.hid hn
  clear hi v hn
  have EB : Below w.heap.size w (boxM w i o A n c) := (Below.refl _ _).alloc (Nat.le_refl _) _
  have HB := Lib.hid EB
  have HM := Lib.hid (BxM.new w i o A n c)
  clear EB
  go_enter Try.func28, Try.ntmps28
  go_wp2_with fail
  go_loopw [5] (fun x wr => ∃ s : Nat, s ≤ n ∧ x = .int .i64 s ∧ Hid (∀ s' t', t' < s' → s' < s → M.gz p s' = M.gz p t' → Mc.apt m p s' t' i = false) ∧ Hid (BxM wr w.heap.size i o A n c) ∧ Hid (Below w.heap.size w wr)) (fun x _ => n - (intOf x).toNat)
  case atStart => exact ⟨0, Nat.zero_le _, rfl, fun _ _ _ h => absurd h (by omega), HM, HB⟩
  case round =>
    clear HM HB
    obtain ⟨s, hs, rfl, hok, hM, hbr⟩ := hrel
    by_cases hsn : s < n
    · have hsn' : (s : Int) < n := by omega
      go_wp2_with fail
      go_loopw [6] (fun x wr => ∃ t : Nat, t ≤ s ∧ x = .int .i64 t ∧ Hid (∀ t', t' < t → M.gz p s = M.gz p t' → Mc.apt m p s t' i = false) ∧ Hid (BxM wr w.heap.size i o A n c) ∧ Hid (Below w.heap.size w wr)) (fun x _ => s - (intOf x).toNat)
      case atStart => exact ⟨0, Nat.zero_le _, rfl, fun _ h => absurd h (by omega), hM, hbr⟩
      case round =>
        clear hM hbr
        obtain ⟨t, ht, rfl, hok2, hM, hbr⟩ := hrel
        by_cases hts : t < s
        · have hts' : (t : Int) < s := by omega
          go_wp2_with fail
          go_loopw [7] (fun x wr => ∃ j : Nat, j ≤ i ∧ x = .int .i64 j ∧ Hid (j = 0 ∨ M.gz p s = M.gz p t) ∧ Hid (Mc.apt m p s t j = false) ∧ Hid (BxM wr w.heap.size i o A n c) ∧ Hid (Below w.heap.size w wr)) (fun x _ => i - (intOf x).toNat)
          case atStart => exact ⟨0, Nat.zero_le _, rfl, .inl rfl, rfl, hM, hbr⟩
          case round =>
            clear hM hbr
            obtain ⟨j, hj, rfl, hje, hap, hM, hbr⟩ := hrel
            obtain ⟨m0, m1, m2⟩ := BxM.cells hM.out
            obtain ⟨ps, psb, psc, psh⟩ := hp.cl (k := s) (by omega)
            obtain ⟨pt, ptb, ptc, pth⟩ := hp.cl (k := t) (by omega)
            have g1 := (hbr.out.cell (p := ⟨pb, po + s, none⟩) psb).trans psc
            have g2 := (hbr.out.cell (p := ⟨pb, po + t, none⟩) ptb).trans ptc
            have htn : t < n := by omega
            by_cases hgo : j < i ∧ M.gz p s = M.gz p t
            · obtain ⟨hji, heq⟩ := hgo
              have hji' : decide ((j : Int) < i) = true := decide_eq_true (by omega)
              have hpst : ps = pt := by rw [← psh.out, ← pth.out]; exact heq
              have hpe : (ps == pt) = true := by simp [hpst]
              clear psc ptc psh pth hpst hje
              go_upto_region 8 with fail
              go_quiet (fail)
              obtain ⟨wq, hwq, hwb⟩ : ∃ wq, wr.drewN nq = wq ∧ Below wr.heap.size wr (wr.drewN nq) := ⟨_, rfl, below_drewN' (Below.refl _ _) _⟩
              have hM' : Hid (BxM wq w.heap.size i o A n c) := by show BxM _ _ _ _ _ _ _; rw [← hwq]; exact hM.out.mvB hwb
              have hbr' : Hid (Below w.heap.size w wq) := by show Below _ _ _; rw [← hwq]; exact below_next hbr.out hwb
              clear m0 m1 m2 g1 g2
              try rw [hwq]
              clear hwq hwb hM hbr
              obtain ⟨wr, rfl⟩ : ∃ wr : World, wr = wq := ⟨_, rfl⟩
              have hM := hM'
              have hbr := hbr'
              clear hM' hbr'
              obtain ⟨m0, m1, m2⟩ := BxM.cells hM.out
              obtain ⟨b1, o1, B1, c1, n1, row1, rfl, hb1, hc1, _, _, _, hp1, hl1, hr1⟩ := hr.at_ (k := s) (by have := HN.out; omega)
              obtain ⟨b2, o2, B2, c2, n2, row2, e2, hb2, hc2, _, _, _, hp2, hl2, hr2⟩ := hr.at_ (k := t) (by have := HN.out; omega)
              injection e2 with e2
              injection e2 with e2 e3
              subst e2 e3
              have hn1 : n1 = i := by have := HV.out.len row1 (List.mem_of_getElem? hr1.out); have := hl1.out; have := HI.out; omega
              have hn2 : n2 = i := by have := HV.out.len row2 (List.mem_of_getElem? hr2.out); have := hl2.out; have := HI.out; omega
              subst hn1
              subst hn2
              obtain ⟨q1, r1, x0, x1, rfl, hq1, hx0, hx1, hxe⟩ := hp1.at_ (k := j) (by have := hl1.out; omega)
              obtain ⟨q2, r2, y0, y1, rfl, hq2, hy0, hy1, hye⟩ := hp2.at_ (k := j) (by have := hl2.out; omega)
              have d1 := (hbr.out.cell (p := ⟨b1, o1 + s, none⟩) hb1).trans hc1
              have d2 := (hbr.out.cell (p := ⟨b1, o1 + t, none⟩) hb1).trans hc2
              have d3 := (hbr.out.cell (p := ⟨q1, r1 + j * 2, none⟩) hq1).trans hx0
              have d4 := (hbr.out.cell (p := ⟨q1, r1 + j * 2 + 1, none⟩) hq1).trans hx1
              have d5 := (hbr.out.cell (p := ⟨q2, r2 + j * 2, none⟩) hq2).trans hy0
              have d6 := (hbr.out.cell (p := ⟨q2, r2 + j * 2 + 1, none⟩) hq2).trans hy1
              have hsz := hbr.out.size
              have z0 : w.heap.size < wr.heap.size := heap_lt hM.out
              have z1 : b1 < wr.heap.size := by omega
              have z2 : q1 < wr.heap.size := by omega
              have z3 : q2 < wr.heap.size := by omega
              go_upto_region 10 with fail
              go_cut [8, 9] from 38 to 53 (fun u v wx => ∃ gx gy, u = .pointer (some ⟨gx, 0, none⟩) ∧ v = .pointer (some ⟨gy, 0, none⟩) ∧ Hid (BxE wx gx x0 x1) ∧ Hid (BxE wx gy y0 y1) ∧ Hid (Below wr.heap.size wr wx))
              case first =>
                go_region
                all_goals
                  go_wp2_with fail
                  go_meet
                  first
                    | exact ⟨_, _, rfl, rfl, (two_edges wr x0 x1 y0 y1).1, (two_edges wr x0 x1 y0 y1).2.1, (two_edges wr x0 x1 y0 y1).2.2⟩
                    | exact ⟨_, _, rfl, rfl, (two_edges wr y0 y1 x0 x1).2.1, (two_edges wr y0 y1 x0 x1).1, (two_edges wr y0 y1 x0 x1).2.2⟩
              case rest =>
              obtain ⟨gx, gy, rfl, rfl, hgx, hgy, hbc⟩ := hcut
              have hM2 := Lib.hid (hM.out.mvB hbc.out)
              have hbr2 := Lib.hid (below_next hbr.out hbc.out)
              obtain ⟨u0, u1, _, _⟩ := hgx.out.cells
              obtain ⟨u2, u3, _, _⟩ := hgy.out.cells
              have nxx : Hid (Mc.nx m s j = (x0, x1)) := Mc.nx_at hr1.out hxe.out
              have nxy : Hid (Mc.nx m t j = (y0, y1)) := Mc.nx_at hr2.out hye.out
              have hstep : Hid (Mc.apt m p s t (j + 1) = Mc.apE p (x0, x1) (y0, y1)) := by show _ = _; rw [Mc.apt_snoc, hap.out, Bool.false_or, nxx.out, nxy.out]
              have hX1 : Hid (0 ≤ x0 → x0 < n) := fun h => by
                obtain ⟨a, _⟩ := Mc.nx_st HV.out (s := (s : Int)) (i := (j : Int)) (Or.inr ⟨by omega, by have := HN.out; omega⟩) ⟨by omega, by have := HI.out; omega⟩
                rw [nxx.out] at a
                have := HN.out
                rcases a with a | ⟨_, a⟩ <;> simp at a <;> omega
              have hY1 : Hid (0 ≤ y0 → y0 < n) := fun h => by
                obtain ⟨a, _⟩ := Mc.nx_st HV.out (s := (t : Int)) (i := (j : Int)) (Or.inr ⟨by omega, by have := HN.out; omega⟩) ⟨by omega, by have := HI.out; omega⟩
                rw [nxy.out] at a
                have := HN.out
                rcases a with a | ⟨_, a⟩ <;> simp at a <;> omega
              clear hgx hgy hbc hM hbr d1 d2 d3 d4 d5 d6 z0 z1 z2 z3 hsz hx0 hx1 hy0 hy1 hc1 hc2 m0 m1 m2 hap hp1 hp2 hq1 hq2
              by_cases ho : x1 = y1
              · have ho' : (x1 == y1) = true := by simp [ho]
                have ho2 : (x1 != y1) = false := by simp [ho]
                by_cases hx : 0 ≤ x0
                · have hx' : decide (0 ≤ x0) = true := decide_eq_true hx
                  by_cases hy : 0 ≤ y0
                  · have hy' : decide (0 ≤ y0) = true := decide_eq_true hy
                    obtain ⟨x0, rfl⟩ : ∃ k : Nat, x0 = k := ⟨x0.toNat, by omega⟩
                    obtain ⟨y0, rfl⟩ : ∃ k : Nat, y0 = k := ⟨y0.toNat, by omega⟩
                    have hxn : x0 < n := by have := hX1.out hx; omega
                    have hyn : y0 < n := by have := hY1.out hy; omega
                    obtain ⟨e1v, e1b, e1c, e1h⟩ := hp.cl (k := x0) (by omega)
                    obtain ⟨e2v, e2b, e2c, e2h⟩ := hp.cl (k := y0) (by omega)
                    have e1 := (hbr2.out.cell (p := ⟨pb, po + x0, none⟩) e1b).trans e1c
                    have e2 := (hbr2.out.cell (p := ⟨pb, po + y0, none⟩) e2b).trans e2c
                    obtain ⟨f, hf, hf3⟩ : ∃ f, (e1v != e2v) = f ∧ (e1v == e2v) = !f := ⟨_, rfl, by cases h : (e1v == e2v) <;> simp [bne, h]⟩
                    have hf2 : Hid (Mc.apt m p s t (j + 1) = f) := by
                      have q1 := e1h.out
                      have q2 := e2h.out
                      have q3 : (e1v != e2v) = decide (e1v ≠ e2v) := by by_cases h : e1v = e2v <;> simp [h]
                      show _ = _
                      rw [hstep.out, ← hf, q3]
                      unfold Mc.apE
                      simp [ho, q1, q2]
                    clear e1c e2c e1b e2b e1h e2h
                    cases f with
                    | true =>
                      have hyes : Hid (Mc.apt m p s t n2 = true) := Mc.apt_hit hji (by rw [nxx.out, nxy.out, ← hstep.out]; exact hf2.out)
                      clear hf2 hstep nxx nxy
                      go_wp2_with fail
                      go_quiet (fail)
                      go_wp2_with fail
                      go_ret
                      exact ⟨ret_int (by rw [HRR.out, HBAD.out s t hts hsn heq hyes.out]; rfl), below_drewN' hbr2.out _⟩
                    | false =>
                      have hno := hf2
                      clear hstep nxx nxy
                      go_wp2_with fail
                      go_quiet (fail)
                      go_wp2_with fail
                      go_roundw
                      case rel => exact ⟨j + 1, by omega, by go_num, .inr heq, hno, hM2, below_drewN' hbr2.out _⟩
                      case measure => simp [intOf]; omega
                  · have hy' : decide (0 ≤ y0) = false := decide_eq_false hy
                    have hno : Hid (Mc.apt m p s t (j + 1) = false) := by
                      show _ = _
                      rw [hstep.out]
                      unfold Mc.apE
                      simp [ho, hy]
                    clear hstep nxx nxy
                    go_wp2_with fail
                    go_quiet (fail)
                    go_wp2_with fail
                    go_roundw
                    case rel => exact ⟨j + 1, by omega, by go_num, .inr heq, hno, hM2, below_drewN' hbr2.out _⟩
                    case measure => simp [intOf]; omega
                · have hx' : decide (0 ≤ x0) = false := decide_eq_false hx
                  have hno : Hid (Mc.apt m p s t (j + 1) = false) := by
                    show _ = _
                    rw [hstep.out]
                    unfold Mc.apE
                    simp [ho, hx]
                  clear hstep nxx nxy
                  go_wp2_with fail
                  go_quiet (fail)
                  go_wp2_with fail
                  go_roundw
                  case rel => exact ⟨j + 1, by omega, by go_num, .inr heq, hno, hM2, below_drewN' hbr2.out _⟩
                  case measure => simp [intOf]; omega
              · have ho' : (x1 == y1) = false := by simp [ho]
                have ho2 : (x1 != y1) = true := by simp [ho]
                have hyes : Hid (Mc.apt m p s t n2 = true) := Mc.apt_hit hji (by rw [nxx.out, nxy.out]; unfold Mc.apE; simp [ho])
                clear hstep nxx nxy
                go_wp2_with fail
                go_quiet (fail)
                go_wp2_with fail
                go_ret
                exact ⟨ret_int (by rw [HRR.out, HBAD.out s t hts hsn heq hyes.out]; rfl), below_drewN' hbr2.out _⟩
            · have hcond : ¬ (j < i) ∨ ¬ (M.gz p s = M.gz p t) := by
                rcases Nat.lt_or_ge j i with h | h
                · exact .inr fun e => hgo ⟨h, e⟩
                · exact .inl (by omega)
              have hfin : Hid (M.gz p s = M.gz p t → Mc.apt m p s t i = false) := fun e => by
                rcases hcond with h | h
                · have : j = i := by omega
                  rw [← this]; exact hap.out
                · exact absurd e h
              have hok3 : Hid (∀ t', t' < t + 1 → M.gz p s = M.gz p t' → Mc.apt m p s t' i = false) := fun t' h1 h2 => by
                rcases Nat.lt_or_ge t' t with h4 | h4
                · exact hok2.out t' h4 h2
                · obtain rfl : t' = t := by omega
                  exact hfin.out h2
              by_cases hji : j < i
              · have hji' : decide ((j : Int) < i) = true := decide_eq_true (by omega)
                have hpe : (ps == pt) = false := by
                  rw [beq_eq_false_iff_ne]
                  intro e
                  exact hcond.resolve_left (by omega) (by rw [psh.out, pth.out, e])
                clear psc ptc psh pth hje hap hfin hcond hgo
                go_upto_region 8 with fail
                go_quiet (fail)
                go_wp2_with fail
                go_roundw
                case rel => exact ⟨t + 1, by omega, by go_num, hok3, hM, below_drewN' hbr.out _⟩
                case measure => simp [intOf]; omega
              · have hji' : decide ((j : Int) < i) = false := decide_eq_false (by omega)
                clear psc ptc psh pth hje hap hfin hcond hgo
                go_upto_region 8 with fail
                go_quiet (fail)
                go_wp2_with fail
                go_roundw
                case rel => exact ⟨t + 1, by omega, by go_num, hok3, hM, below_drewN' hbr.out _⟩
                case measure => simp [intOf]; omega
        · have hts' : decide ((t : Int) < s) = false := decide_eq_false (by omega)
          obtain rfl : t = s := by omega
          have hok3 : Hid (∀ s' t', t' < s' → s' < t + 1 → M.gz p s' = M.gz p t' → Mc.apt m p s' t' i = false) := fun s' t' h1 h2 h3 => by
            rcases Nat.lt_or_ge s' t with h4 | h4
            · exact hok.out s' t' h1 h4 h3
            · obtain rfl : s' = t := by omega
              exact hok2.out t' h1 h3
          go_wp2_with fail
          go_roundw
          case rel => exact ⟨t + 1, by omega, by go_num, hok3, hM, hbr⟩
          case measure => simp [intOf]; omega
    · have hsn' : decide ((s : Int) < n) = false := decide_eq_false (by omega)
      obtain rfl : s = n := by omega
      have hyes : Hid (bb = true) := HIFF.out.2 fun s' t' h1 h2 h3 => hok.out s' t' h1 h2 h3
      go_wp2_with fail
      go_ret
      exact ⟨ret_int (by rw [HRR.out, hyes.out]; rfl), hbr.out⟩
end Go.Proofs.Ytonnplhiaidjnaa
