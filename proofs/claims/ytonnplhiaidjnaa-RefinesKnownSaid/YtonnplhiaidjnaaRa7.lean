/-
  Contracts: refines.Equivalent, refines.Respects.
-/
import Derived.Test.YtonnplhiaidjnaaRa6
import Derived.Deep.QuietTactic
import Derived.BigQuiet
namespace Go.Proofs.Ytonnplhiaidjnaa
open Go.RowKit
open Mc (Ed Ma)

namespace Mc
/-- Both numbers are states. -/
def inR (m : Ma) (s t : Int) : Prop := 0 ≤ s ∧ 0 ≤ t ∧ s < m.r.length ∧ t < m.r.length
instance (m : Ma) (s t : Int) : Decidable (inR m s t) := inferInstanceAs (Decidable (_ ∧ _ ∧ _ ∧ _))
/-- What Equivalent gives. -/
noncomputable def eqV (m : Ma) (s t : Int) : Bool := decide (chk m = 0) && decide (inR m s t) && (M.gz (cls m) s.toNat == M.gz (cls m) t.toNat)
def eqE (m : Ma) (s t : Int) : Int := if chk m = 0 then (if inR m s t then 0 else 1) else chk m
/-- What Respects gives. -/
def rsE (m : Ma) (p : List Int) : Int := if chk m = 0 then (if M.pck p = 0 then (if p.length = m.r.length then 0 else 16) else M.pck p) else chk m
def rsV (m : Ma) (p : List Int) : Bool := decide (rsE m p = 0) && (rfd m p == p)
end Mc

set_option maxRecDepth 100000 in
set_option maxHeartbeats 1000000 in
theorem equiv_any (i o : Int) (rs : List (List Ed)) (A : Option Addr) (n c : Nat) (s t : Int) (w : World) (hr : RdR w A rs) (hn : rs.length = n) (hnb : n ≤ 1000000) (hrl : ∀ row ∈ rs, row.length ≤ 1000000) :
    Calls Try.prog 24 #[.agg #[.int .i64 i, .int .i64 o, .slice A n c], .int .i64 s, .int .i64 t] w fun e w' => e = .returned (.tuple #[.bool (Mc.eqV ⟨i, o, rs⟩ s t), .int .i64 (Mc.eqE ⟨i, o, rs⟩ s t)]) ∧ Below w.heap.size w w' := by
  have EB : Below w.heap.size w (boxM w i o A n c) := (Below.refl _ _).alloc (Nat.le_refl _) _
  have C1 := classes_any i o rs A n c _ (hr.below EB) hn hnb hrl
  have hM := BxM.new w i o A n c
  have HB := Lib.hid EB
  clear EB
  obtain ⟨y0, y1, y2⟩ := BxM.cells hM
  by_cases hch : Mc.chk ⟨i, o, rs⟩ = 0
  · have v := Mc.val_of hch
    have hcv : Mc.clV ⟨i, o, rs⟩ = Mc.cls ⟨i, o, rs⟩ := by simp [Mc.clV, hch]
    have hcl : (Mc.cls ⟨i, o, rs⟩).length = n := by unfold Mc.cls; rw [Mc.rnd_len]; exact hn
    rw [hch, hcv] at C1
    obtain ⟨zs, hzs⟩ : ∃ zs, Mc.cls ⟨i, o, rs⟩ = zs := ⟨_, rfl⟩
    have hev : Hid (Mc.eqV ⟨i, o, rs⟩ s t = (decide (Mc.inR ⟨i, o, rs⟩ s t) && (M.gz zs s.toNat == M.gz zs t.toNat))) := by simp [Hid, Mc.eqV, hch, hzs]
    have hee : Hid (Mc.eqE ⟨i, o, rs⟩ s t = if Mc.inR ⟨i, o, rs⟩ s t then 0 else 1) := by simp [Hid, Mc.eqE, hch]
    have hin : Hid (Mc.inR ⟨i, o, rs⟩ s t ↔ (0 ≤ s ∧ 0 ≤ t ∧ s < n ∧ t < n)) := by show _ ↔ _; unfold Mc.inR; simp only [hn]
    rw [hzs] at C1 hcl
    clear hzs hcv hch v
    obtain ⟨k, hk⟩ : ∃ k, Mc.clN ⟨i, o, rs⟩ = k := ⟨_, rfl⟩
    rw [hk] at C1
    clear hk
    go_enter Try.func24, Try.ntmps24
    go_wp2_with fail
    clear y0 y1 y2 hM
    refine C1.mono ?_
    rintro e w1 ⟨B, rfl, hrd, hb1⟩
    rw [hcl]
    have hbF := Lib.hid (below_next HB.out hb1)
    clear C1 hb1
    obtain ⟨a, ha, ha2⟩ : ∃ a, (if t < s then t else s) = a ∧ Hid (a = if t < s then t else s) := ⟨_, rfl, rfl⟩
    obtain ⟨z, hz, hz2⟩ : ∃ z, (if s < t then t else s) = z ∧ Hid (z = if s < t then t else s) := ⟨_, rfl, rfl⟩
    by_cases h0 : a < 0
    · have hno : Hid (¬ Mc.inR ⟨i, o, rs⟩ s t) := by
        show ¬ _
        rw [hin.out]
        have := ha2.out
        split at this <;> omega
      go_wp2_with fail
      go_ret2
      refine ⟨?_, hbF.out⟩
      rw [hev.out, hee.out, if_neg hno.out, decide_eq_false hno.out]
      rfl
    · have h0' : decide (a < 0) = false := decide_eq_false h0
      by_cases h1 : (n : Int) ≤ z
      · have hno : Hid (¬ Mc.inR ⟨i, o, rs⟩ s t) := by
          show ¬ _
          rw [hin.out]
          have := hz2.out
          split at this <;> omega
        have h1' : decide ((n : Int) ≤ z) = true := decide_eq_true h1
        go_wp2_with fail
        go_ret2
        refine ⟨?_, hbF.out⟩
        rw [hev.out, hee.out, if_neg hno.out, decide_eq_false hno.out]
        rfl
      · have h1' : decide ((n : Int) ≤ z) = false := decide_eq_false h1
        obtain ⟨s, rfl⟩ : ∃ s' : Nat, s = s' := ⟨s.toNat, by have := ha2.out; split at this <;> omega⟩
        obtain ⟨t, rfl⟩ : ∃ t' : Nat, t = t' := ⟨t.toNat, by have := ha2.out; split at this <;> omega⟩
        have hsn : s < n := by have := hz2.out; split at this <;> omega
        have htn : t < n := by have := hz2.out; split at this <;> omega
        have hyes : Hid (Mc.inR ⟨i, o, rs⟩ s t) := hin.out.2 (by omega)
        obtain ⟨b, off, rfl⟩ := hrd.opn (by omega)
        obtain ⟨u, hub, huc, hu⟩ := hrd.cl (k := s) (by omega)
        obtain ⟨q, hqb, hqc, hq⟩ := hrd.cl (k := t) (by omega)
        clear hub hqb hrd
        go_wp2_with fail
        go_quiet (fail)
        go_wp2_with fail
        go_ret2
        refine ⟨?_, below_drewN' hbF.out _⟩
        have e : (u == q) = (M.gz zs s == M.gz zs t) := by rw [hu.out, hq.out]
        rw [hev.out, hee.out, if_pos hyes.out, decide_eq_true hyes.out, Bool.true_and, Int.toNat_natCast, Int.toNat_natCast, ← e]
        rfl
  · obtain ⟨f, hf⟩ : ∃ f, Mc.chk ⟨i, o, rs⟩ = f := ⟨_, rfl⟩
    have hev : Hid (Mc.eqV ⟨i, o, rs⟩ s t = false) := by simp [Hid, Mc.eqV, hch]
    have hee : Hid (Mc.eqE ⟨i, o, rs⟩ s t = f) := by show _ = _; unfold Mc.eqE; rw [if_neg hch, hf]
    rw [hf] at C1 hch
    have h2 : (f != 0) = true := by simp [hch]
    obtain ⟨zs, hzs⟩ : ∃ zs, Mc.clV ⟨i, o, rs⟩ = zs := ⟨_, rfl⟩
    obtain ⟨k, hk⟩ : ∃ k, Mc.clN ⟨i, o, rs⟩ = k := ⟨_, rfl⟩
    rw [hzs, hk] at C1
    clear hf hch hk hzs
    go_enter Try.func24, Try.ntmps24
    go_wp2_with fail
    clear y0 y1 y2 hM
    refine C1.mono ?_
    rintro e w1 ⟨B, rfl, hrd, hb1⟩
    have hbF := Lib.hid (below_next HB.out hb1)
    go_wp2_with fail
    go_ret2
    exact ⟨by rw [hev.out, hee.out]; rfl, hbF.out⟩

set_option maxRecDepth 100000 in
set_option maxHeartbeats 1000000 in
theorem respects_any (i o : Int) (rs : List (List Ed)) (A P : Option Addr) (n c d l : Nat) (p : List Int) (w : World) (hr : RdR w A rs) (hn : rs.length = n) (hnb : n ≤ 1000000) (hrl : ∀ row ∈ rs, row.length ≤ 1000000) (hp : Rd w P p) (hl : p.length = l) :
    Calls Try.prog 27 #[.agg #[.int .i64 i, .int .i64 o, .slice A n c], .slice P l d] w fun e w' => e = .returned (.tuple #[.bool (Mc.rsV ⟨i, o, rs⟩ p), .int .i64 (Mc.rsE ⟨i, o, rs⟩ p)]) ∧ Below w.heap.size w w' := by
  have EB : Below w.heap.size w (boxM w i o A n c) := (Below.refl _ _).alloc (Nat.le_refl _) _
  have C1 := pcheck_any i o rs A n c _ (hr.below EB) hn hnb hrl
  have hM := BxM.new w i o A n c
  have HB := Lib.hid EB
  clear EB
  obtain ⟨y0, y1, y2⟩ := BxM.cells hM
  have HM := Lib.hid hM
  clear hM
  by_cases hch : Mc.chk ⟨i, o, rs⟩ = 0
  · have v := Mc.val_of hch
    have hze : Hid (Mc.rsE ⟨i, o, rs⟩ p = if M.pck p = 0 then (if l = n then 0 else 16) else M.pck p) := by show _ = _; unfold Mc.rsE; rw [if_pos hch, hl]; simp only [hn]
    have HV := Lib.hid v
    rw [hch] at C1
    clear hch v
    by_cases hpc : M.pck p = 0
    · have hvd := M.pck_zero hpc
      have HVD := Lib.hid hvd
      by_cases hln : l = n
      · have he : Hid (Mc.rsE ⟨i, o, rs⟩ p = 0) := by show _ = _; rw [hze.out, if_pos hpc, if_pos hln]
        have hv : Hid (Mc.rsV ⟨i, o, rs⟩ p = (Mc.rfd ⟨i, o, rs⟩ p == p)) := by show _ = _; unfold Mc.rsV; rw [he.out]; simp
        subst hln
        clear hvd
        go_enter Try.func27, Try.ntmps27
        go_wp2_with fail
        clear y0 y1 y2
        refine C1.mono ?_
        rintro e w1 ⟨rfl, hb1⟩
        have hbF := Lib.hid (below_next HB.out hb1)
        have hp1 := hp.below hbF.out
        have hr1 := hr.below hbF.out
        obtain ⟨y0, y1, y2⟩ := BxM.cells (show BxM w1 w.heap.size i o A l c from HM.out.mvB hb1)
        have C2 := kcheck_any P d p w1 hp1
        rw [hpc, hl] at C2
        clear C1
        go_wp2_with fail
        refine C2.mono ?_
        rintro e w2 ⟨rfl, hb2⟩
        have hM2 : BxM w2 w.heap.size i o A l c := (show BxM w1 w.heap.size i o A l c from HM.out.mvB hb1).mvB hb2
        have hbG := Lib.hid (below_next hbF.out hb2)
        clear y0 y1 y2 C2 hb1 hb2
        obtain ⟨y0, y1, y2⟩ := BxM.cells hM2
        have hp2 := hp.below hbG.out
        have C3 := refined_any ⟨i, o, rs⟩ i o A P l c d p w2 HV.out rfl (hr.below hbG.out) hn hp2 hl (Mc.vd_bd HVD.out.2 (by have := HV.out.r1; simp only at this; omega))
        go_wp2_with fail
        refine C3.mono ?_
        rintro e w3 ⟨g, rfl, hg, hg', hrd, hb3⟩
        have C4 := equal_any g l l d P (Mc.rfd ⟨i, o, rs⟩ p) p w3 hrd (hp2.below hb3) (by rw [Mc.rfd_len]; exact hn) hl (by have := HVD.out.1; omega)
        have hbH := Lib.hid (below_next hbG.out hb3)
        clear y0 y1 y2 C3
        go_wp2_with fail
        refine C4.mono ?_
        rintro e w4 ⟨rfl, hb4⟩
        have hbI := Lib.hid (below_next hbH.out hb4)
        go_wp2_with fail
        go_ret2
        exact ⟨by rw [hv.out, he.out]; rfl, hbI.out⟩
      · have he : Hid (Mc.rsE ⟨i, o, rs⟩ p = 16) := by show _ = _; rw [hze.out, if_pos hpc, if_neg hln]
        have hv : Hid (Mc.rsV ⟨i, o, rs⟩ p = false) := by show _ = _; unfold Mc.rsV; rw [he.out]; simp
        have hln2 : ((l : Int) != n) = true := by simp; omega
        have hln3 : ((l : Int) == n) = false := by simp; omega
        clear hvd HVD
        go_enter Try.func27, Try.ntmps27
        go_wp2_with fail
        clear y0 y1 y2
        refine C1.mono ?_
        rintro e w1 ⟨rfl, hb1⟩
        have hbF := Lib.hid (below_next HB.out hb1)
        have C2 := kcheck_any P d p w1 (hp.below hbF.out)
        rw [hpc, hl] at C2
        clear C1
        go_wp2_with fail
        refine C2.mono ?_
        rintro e w2 ⟨rfl, hb2⟩
        have hM2 : BxM w2 w.heap.size i o A n c := (show BxM w1 w.heap.size i o A n c from HM.out.mvB hb1).mvB hb2
        have hbG := Lib.hid (below_next hbF.out hb2)
        clear C2 hb1 hb2
        obtain ⟨y0, y1, y2⟩ := BxM.cells hM2
        go_wp2_with fail
        go_ret2
        exact ⟨by rw [hv.out, he.out]; rfl, hbG.out⟩
    · obtain ⟨f, hf⟩ : ∃ f, M.pck p = f := ⟨_, rfl⟩
      have he : Hid (Mc.rsE ⟨i, o, rs⟩ p = f) := by show _ = _; rw [hze.out, if_neg hpc, hf]
      rw [hf] at hpc
      have hv : Hid (Mc.rsV ⟨i, o, rs⟩ p = false) := by show _ = _; unfold Mc.rsV; rw [he.out, decide_eq_false hpc]; rfl
      have h2 : (f != 0) = true := by simp [hpc]
      go_enter Try.func27, Try.ntmps27
      go_wp2_with fail
      clear y0 y1 y2
      refine C1.mono ?_
      rintro e w1 ⟨rfl, hb1⟩
      have hbF := Lib.hid (below_next HB.out hb1)
      have C2 := kcheck_any P d p w1 (hp.below hbF.out)
      rw [hf, hl] at C2
      clear C1 hf hpc
      go_wp2_with fail
      refine C2.mono ?_
      rintro e w2 ⟨rfl, hb2⟩
      have hbG := Lib.hid (below_next hbF.out hb2)
      clear C2 hb1 hb2
      go_wp2_with fail
      go_ret2
      exact ⟨by rw [hv.out, he.out]; rfl, hbG.out⟩
  · obtain ⟨f, hf⟩ : ∃ f, Mc.chk ⟨i, o, rs⟩ = f := ⟨_, rfl⟩
    have he : Hid (Mc.rsE ⟨i, o, rs⟩ p = f) := by show _ = _; unfold Mc.rsE; rw [if_neg hch, hf]
    rw [hf] at C1 hch
    have hv : Hid (Mc.rsV ⟨i, o, rs⟩ p = false) := by show _ = _; unfold Mc.rsV; rw [he.out, decide_eq_false hch]; rfl
    have h2 : (f != 0) = true := by simp [hch]
    clear hf hch
    go_enter Try.func27, Try.ntmps27
    go_wp2_with fail
    clear y0 y1 y2
    refine C1.mono ?_
    rintro e w1 ⟨rfl, hb1⟩
    have hbF := Lib.hid (below_next HB.out hb1)
    go_wp2_with fail
    go_ret2
    exact ⟨by rw [hv.out, he.out]; rfl, hbF.out⟩
end Go.Proofs.Ytonnplhiaidjnaa
