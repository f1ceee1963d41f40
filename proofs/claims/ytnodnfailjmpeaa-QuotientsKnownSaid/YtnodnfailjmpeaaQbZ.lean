/-
  Several texts in one: Q3, Q4. No statement is proved here.
-/
import Derived.Test.YtnodnfailjmpeaaQaZ
import Derived.Test.YtnodnfailjmpeaaWiZ
import Derived.Test.YtnodnfailjmpeaaWd0
import Derived.Test.YtnodnfailjmpeaaRa6
namespace Go.Proofs.Ytnodnfailjmpeaa
open Go.RowKit
open Mc (Ed Ma)

namespace Mc
/-- The map, of the first k states; of the others their places. -/
noncomputable def pls (m : Ma) (k : Nat) : List Int := (List.range m.r.length).map fun (s : Nat) => if s < k then qm m s else ix (ord m) s
section
variable {m : Ma} {k s : Nat}
theorem pls_len (m : Ma) (k : Nat) : (pls m k).length = m.r.length := by simp [pls]
theorem pls_at (hs : s < m.r.length) : (pls m k)[s]? = some (if s < k then qm m s else ix (ord m) s) := by simp [pls, hs]
theorem pls_zero (v : Val m) : pls m 0 = isoV m (cnn m) := by
  rw [(iso_cnn v).2.2]
  unfold pls
  exact List.map_congr_left fun s _ => if_neg (by omega)
theorem pls_all (m : Ma) : pls m m.r.length = ql m := by
  unfold pls ql mpl
  exact List.map_congr_left fun s h => if_pos (List.mem_range.1 h)
theorem pls_set (hk : k < m.r.length) : (pls m k).set k (qm m k) = pls m (k + 1) := by
  refine List.ext_getElem? fun s => ?_
  rw [List.getElem?_set]
  rcases Nat.lt_or_ge s m.r.length with hs | hs
  · by_cases e : k = s
    · subst e
      rw [if_pos rfl, if_pos (by rw [pls_len]; exact hk), pls_at hs, if_pos (by omega)]
    · rw [if_neg e, pls_at hs, pls_at hs]
      by_cases h : s < k
      · rw [if_pos h, if_pos (by omega)]
      · rw [if_neg h, if_neg (by omega)]
  · rw [if_neg (by omega), List.getElem?_eq_none (by rw [pls_len]; exact hs), List.getElem?_eq_none (by rw [pls_len]; exact hs)]
theorem pls_old (hk : k < m.r.length) (h : ix (ord m) k = -1) : pls m (k + 1) = pls m k := by
  rw [← pls_set hk]
  refine List.ext_getElem? fun s => ?_
  rw [List.getElem?_set]
  by_cases e : k = s
  · subst e
    rw [if_pos rfl, if_pos (by rw [pls_len]; exact hk), pls_at hk, if_neg (by omega), h]
    congr 1
    refine if_neg fun hin => ?_
    unfold ix at h
    rw [if_pos hin] at h
    omega
  · rw [if_neg e]
end
end Mc
theorem Blk.kept (g : Nat) (l : List Int) : Kept (fun w => Blk w g l) := fun _ _ h b => h.mvB b
theorem Blk.farS {W : World} {g h k : Nat} {l : List Int} (hb : Blk W g l) (hne : g ≠ h) (u : Value) : Blk (W.setCell ⟨h, k, none⟩ u) g l := (Below.heap_setCell W ⟨h, k, none⟩ u g hne).trans hb
theorem Wbk.kept (base p n : Nat) (rs : List (List Ed)) (gs : List Nat) : Kept (fun w => Wb base p n rs gs w) := fun _ _ h b => h.below b
theorem qclasses_at (m : Ma) (i o : Int) (A : Option Addr) (n c : Nat) (w : World) (v : Mc.Val m) (hi : m.i = i) (ho : m.o = o) (hn : m.r.length = n) (hr : RdR w A m.r) :
    Calls Try.prog 71 #[.agg #[.int .i64 i, .int .i64 o, .slice A n c]] w fun e w' => ∃ B z, e = .returned (.tuple #[.slice B n n, .int .i64 z, .int .i64 0]) ∧ Rd w' B (Mc.cls m) ∧ Below w.heap.size w w' := by
  subst hi ho hn
  refine (classes_any m.i m.o m.r A m.r.length c w hr rfl (by have := v.r1; omega) v.rows).mono ?_
  rintro e w' ⟨B, rfl, h1, h2⟩
  have e0 : Mc.chk ⟨m.i, m.o, m.r⟩ = 0 := Mc.chk_of v
  have e1 : Mc.clV ⟨m.i, m.o, m.r⟩ = Mc.cls m := by unfold Mc.clV; rw [if_pos e0]
  rw [e1] at h1
  rw [e0, e1, Mc.cls_len]
  exact ⟨B, _, rfl, h1, h2⟩
theorem merged_at (m : Ma) (i o : Int) (hi : m.i = i) (ho : m.o = o) (V : Mc.Val m) (p : List Int) (hv : M.Vd p) (A : Option Addr) (c : Nat) (S : Option Addr) (n d : Nat) (w : World) (hr : RdR w A m.r) (hS : Rd w S p) (hn : p.length = n) (hmn : m.r.length = n) :
    Calls Try.prog 72 #[.agg #[.int .i64 i, .int .i64 o, .slice A n c], .slice S n d] w fun e w' => ∃ P k gs g, e = .returned (.tuple #[.agg #[.int .i64 i, .int .i64 o, .slice (some ⟨P, 0, none⟩) k k], .slice (some ⟨g, 0, none⟩) n n]) ∧ Hid ((Mc.mrg m p).r.length = k) ∧ Hid (gs.length = k) ∧ Hid (Wb w.heap.size P k (Mc.mrg m p).r gs w') ∧ Hid (Rd w' (some ⟨g, 0, none⟩) p) ∧ Hid (w.heap.size ≤ g) ∧ Below w.heap.size w w' := by
  subst hi ho
  exact merged_any m V p hv A c S n d w hr hS hn hmn
/-- The memory of minimise while its list is written. -/
structure Mi (w : World) (b G g g2 P k : Nat) (m : Ma) (gs : List Nat) (rs : List (List Ed)) (cs zs : List Int) (W : World) : Prop where
  bel : Below w.heap.size w W
  bo : BxM W b 0 0 none 0 0
  bf : BxM W G m.i m.o (some ⟨P, 0, none⟩) k k
  wb : Wb w.heap.size P k rs gs W
  nb : Rd W (some ⟨g2, 0, none⟩) cs
  pl : Blk W g zs
structure Mj (w : World) (b G g g2 P : Nat) (gs : List Nat) : Prop where
  h1 : w.heap.size ≤ g
  h2 : b ≠ g
  h3 : G ≠ g
  h4 : P ≠ g
  h5 : ∀ x ∈ gs, x ≠ g
  h6 : g2 ≠ g
  h7 : w.heap.size ≤ b
  h8 : P ≠ b
  h9 : ∀ x ∈ gs, x ≠ b
theorem Mi.set {w W : World} {b G g g2 P k : Nat} {m : Ma} {gs : List Nat} {rs : List (List Ed)} {cs zs : List Int} (h : Mi w b G g g2 P k m gs rs cs zs W) (d : Mj w b G g g2 P gs) (j : Nat) (z : Int) :
    Mi w b G g g2 P k m gs rs cs (zs.set j z) (W.setCell ⟨g, j, none⟩ (.int .i64 z)) :=
  ⟨h.bel.setCell (p := ⟨g, j, none⟩) d.h1 _, h.bo.farS d.h2 _, h.bf.farS d.h3 _, h.wb.far d.h4 d.h5 _, h.nb.farB d.h6, h.pl.set_ j z⟩
/-- What minimise hands back. -/
def MinP (w : World) (m : Ma) (n : Nat) (e : Ending) (w' : World) : Prop := ∃ P k gs g, e = .returned (.tuple #[.agg #[.int .i64 m.i, .int .i64 m.o, .slice (some ⟨P, 0, none⟩) k k], .slice (some ⟨g, 0, none⟩) n n, .int .i64 0]) ∧ Hid ((Mc.qn m).r.length = k) ∧ Hid (gs.length = k) ∧ Hid (Wb w.heap.size P k (Mc.qn m).r gs w') ∧ Hid (Blk w' g (Mc.ql m)) ∧ Below w.heap.size w w'

set_option maxRecDepth 100000 in
set_option maxHeartbeats 4000000 in
theorem minimise_ok (m : Ma) (A : Option Addr) (c n : Nat) (w : World) (V : Mc.Val m) (hr : RdR w A m.r) (hn : m.r.length = n) :
    Calls Try.prog 40 #[.agg #[.int .i64 m.i, .int .i64 m.o, .slice A n c]] w (MinP w m n) := by
  have hn64 : n ≤ 64 := by rw [← hn]; exact V.r1
  have C1 := fun wz (h : RdR wz A m.r) => hn ▸ wcanon_ok m A c wz V h
  have hb0 : Below w.heap.size w (boxZ w m.i m.o A n c) := (boxZ_lies w m.i m.o A n c).1
  have hM0 := (boxZ_lies w m.i m.o A n c).2.1
  have hZ0 := (boxZ_lies w m.i m.o A n c).2.2
  obtain ⟨h0, hh0⟩ : ∃ h0, w.heap.size = h0 := ⟨_, rfl⟩
  have s0 : MT w (boxZ w m.i m.o A n c) [] := MT.next MT.start hb0
  have s1 := MK.putR (MK.putB (MK.putB s0 hM0) hZ0) (hr.below hb0)
  have HV := Lib.hid V
  have HN := Lib.hid hn
  obtain ⟨C, hC⟩ : ∃ C, Mc.cnn m = C := ⟨_, rfl⟩
  have HC := Lib.hid hC
  have hCi : Hid (C.i = m.i) := by show _ = _; rw [← hC]; rfl
  have hCo : Hid (C.o = m.o) := by show _ = _; rw [← hC]; rfl
  have VC : Hid (Mc.Val C) := hC ▸ Mc.cnn_val V
  have hQ : Hid (Mc.mrg C (Mc.cls C) = Mc.qn m) := by show _ = _; rw [← hC]; exact Mc.mrg_qn V
  have hIB : Hid (Mc.isoB m C = true) := by show _ = _; rw [← hC]; exact (Mc.iso_cnn V).2.1
  have hP0 : Hid (Mc.isoV m C = Mc.pls m 0) := by show _ = _; rw [← hC]; exact (Mc.pls_zero V).symm
  clear V hn hb0 hM0 hZ0 s0 hC hr
  go_enter Try.func40, Try.ntmps40
  go_upto_region 1 with fail
  obtain ⟨W0, hW0⟩ : ∃ W0, (w.alloc (.cells #[.int .i64 m.i, .int .i64 m.o, .slice A n c] 24)).alloc (.cells #[.int .i64 0, .int .i64 0, .slice none 0 0] 24) = W0 := ⟨_, rfl⟩
  rw [show boxZ w m.i m.o A n c = W0 from hW0] at s1
  try rw [hW0]
  have s2 := s1
  clear s1
  try rw [hh0] at s2
  try rw [hh0]
  clear hW0
  obtain ⟨q0, q1, q2⟩ := BxM.cells (MK.get s2 2 rfl)
  go_wp2_with fail
  clear q0 q1 q2
  refine (C1 _ (MK.get s2 0 rfl)).mono ?_
  rintro e w1 ⟨p1, K, gs1, rfl, hK, hg1, hW1, hb1⟩
  have hKC : Hid (C.r.length = K) := by show _ = _; rw [← HC.out, Mc.cnn_len]; exact hK.out
  have hK64 : K ≤ 64 := by rw [← hKC.out]; exact VC.out.r1
  have hRC : RdR w1 (some ⟨p1, 0, none⟩) C.r := by
    have h1 := hW1.out
    rw [show (Mc.prt m (Mc.ord m)).r = C.r by rw [← HC.out]; rfl] at h1
    exact h1.rd hg1.out hKC.out.symm (by omega) VC.out.rows
  have s3 := MK.putB (g := w1.heap.size) (MT.alloc (MK.putR (MT.next s2 hb1) hRC) (.cells #[.int .i64 m.i, .int .i64 m.o, .slice (some ⟨p1, 0, none⟩) K K] 24)) (heap_alloc_new w1 _)
  clear s2 C1 hRC hW1 hb1 hg1 hK
  go_upto_region 2 with fail
  obtain ⟨G1, hG1⟩ : ∃ g, w1.heap.size = g := ⟨_, rfl⟩
  obtain ⟨W2, hW2⟩ : ∃ W, w1.alloc (.cells #[.int .i64 m.i, .int .i64 m.o, .slice (some ⟨p1, 0, none⟩) K K] 24) = W := ⟨_, rfl⟩
  rw [hG1, hW2] at s3
  try rw [hG1]
  try rw [hW2]
  clear hG1 hW2
  have C2 := wiso_own m C A (some ⟨p1, 0, none⟩) n c K K W2 (MK.get s3 2 rfl) (MK.get s3 1 rfl) HN.out hKC.out (by omega) (by omega) HV.out.rows VC.out.rows hIB.out
  rw [hCi.out, hCo.out] at C2
  obtain ⟨q0, q1, q2⟩ := BxM.cells (MK.get s3 0 rfl)
  obtain ⟨q3, q4, q5⟩ := BxM.cells (MK.get s3 4 rfl)
  go_wp2_with fail
  clear q0 q1 q2 q3 q4 q5
  refine C2.mono ?_
  rintro e w3 ⟨g, k3, rfl, hk3, hg3, hB3, hb3⟩
  have hkn : n = k3 := by rw [← hk3.out, hP0.out, Mc.pls_len, HN.out]
  subst hkn
  have hB3' : Blk w3 g (Mc.pls m 0) := by rw [← hP0.out]; exact hB3.out
  have hgl : g < w3.heap.size := hB3'.lt
  have hgw : w.heap.size ≤ g := Nat.le_trans s3.2.1.size hg3.out
  have hG1l : G1 < W2.heap.size := heap_lt (MK.get s3 0 rfl)
  have hO1l : h0 + 1 < W2.heap.size := heap_lt (MK.get s3 3 rfl)
  have hg3' : W2.heap.size ≤ g := hg3.out
  have s4 := MK.put (MT.next s3 hb3) (Blk.kept _ _) hB3'
  clear s3 C2 hB3 hB3' hb3 hk3 hg3
  have C3 := qclasses_at C m.i m.o (some ⟨p1, 0, none⟩) K K w3 VC.out hCi.out hCo.out hKC.out (MK.get s4 2 rfl)
  obtain ⟨q0, q1, q2⟩ := BxM.cells (MK.get s4 1 rfl)
  go_wp2_with fail
  clear q0 q1 q2
  refine C3.mono ?_
  rintro e w4 ⟨B4, z4, rfl, hr4, hb4⟩
  have s5 := MK.putL (MT.next s4 hb4) hr4
  have hgl4 : g < w4.heap.size := Nat.lt_of_lt_of_le hgl hb4.size
  have hO4 : h0 + 1 < w4.heap.size := by omega
  clear s4 C3 hr4 hb4
  have C4 := merged_at C m.i m.o hCi.out hCo.out VC.out (Mc.cls C) (Mc.cls_vd C) (some ⟨p1, 0, none⟩) K B4 K K w4 (MK.get s5 3 rfl) (MK.get s5 0 rfl) (by rw [Mc.cls_len]; exact hKC.out) hKC.out
  obtain ⟨q0, q1, q2⟩ := BxM.cells (MK.get s5 2 rfl)
  go_wp2_with fail
  clear q0 q1 q2
  refine C4.mono ?_
  rintro e w5 ⟨P, k, gs, g2, rfl, hk, hgs, hW5, hN5, hg2, hb5⟩
  rw [hQ.out] at hk hW5
  obtain ⟨rs, hrs⟩ : ∃ rs, (Mc.qn m).r = rs := ⟨_, rfl⟩
  obtain ⟨cs, hcs⟩ : ∃ cs, Mc.cls C = cs := ⟨_, rfl⟩
  have HRS := Lib.hid hrs
  have HCS := Lib.hid hcs
  rw [hrs] at hk hW5
  rw [hcs] at hN5
  have hcl : Hid (cs.length = K) := by show _ = _; rw [← hcs, Mc.cls_len]; exact hKC.out
  have hp0 := hW5.out.p0
  have ho5 := hW5.out.own
  have hw45 := hb5.size
  have s6 := MT.alloc (MT.next s5 hb5) (.cells #[.int .i64 m.i, .int .i64 m.o, .slice (some ⟨P, 0, none⟩) k k] 24)
  have hal : Below w5.heap.size w5 (w5.alloc (.cells #[.int .i64 m.i, .int .i64 m.o, .slice (some ⟨P, 0, none⟩) k k] 24)) := (Below.refl _ _).alloc (Nat.le_refl _) _
  have hMj : Hid (Mj w (h0 + 1) w5.heap.size g g2 P gs) := ⟨hgw, by omega, by omega, by omega, fun x hx => by have := (ho5 x hx).1; omega, by have := hg2.out; omega, by omega, by omega, fun x hx => by have := (ho5 x hx).1; omega⟩
  have hMi : Hid (Mi w (h0 + 1) w5.heap.size g g2 P k m gs rs cs (Mc.pls m 0) (w5.alloc (.cells #[.int .i64 m.i, .int .i64 m.o, .slice (some ⟨P, 0, none⟩) k k] 24))) :=
    ⟨s6.2.1, MK.get s6 5 rfl, heap_alloc_new w5 _, (hW5.out.below hal).lower (by have := s5.2.1.size; omega), hN5.out.below hal, MK.get s6 1 rfl⟩
  clear s5 s6 C4 hrs hcs hN5 hW5 hp0 ho5 hal hb5
  go_upto_region 7 with fail
  obtain ⟨G5, hG5⟩ : ∃ g, w5.heap.size = g := ⟨_, rfl⟩
  obtain ⟨W6, hW6⟩ : ∃ W, w5.alloc (.cells #[.int .i64 m.i, .int .i64 m.o, .slice (some ⟨P, 0, none⟩) k k] 24) = W := ⟨_, rfl⟩
  rw [hG5] at hMj
  rw [hG5, hW6] at hMi
  try rw [hG5]
  try rw [hW6]
  clear hG5 hW6 hw45
  go_wp2
  go_loopw [47] (fun v wr => ∃ j : Nat, j ≤ n ∧ v = .int .i64 j ∧ Hid (Mi w (h0 + 1) G5 g g2 P k m gs rs cs (Mc.pls m j) wr)) (fun v _ => n - (intOf v).toNat)
  case atStart => exact ⟨0, Nat.zero_le _, rfl, hMi⟩
  case round =>
    obtain ⟨j, hj, rfl, hI⟩ := hrel
    clear hMi
    by_cases hlt : j < n
    · have hlt' : (j : Int) < n := by omega
      have hjl : j < m.r.length := by rw [HN.out]; exact hlt
      obtain ⟨x0, x1⟩ := hI.out.pl.at_ (k := j) (by rw [Mc.pls_len]; exact hjl)
      obtain ⟨z, hz⟩ : ∃ z, Mc.ix (Mc.ord m) j = z := ⟨_, rfl⟩
      rw [Mc.pls_at hjl, if_neg (by omega), Option.getD_some, hz] at x0
      by_cases hzn : z = -1
      · have hI2 : Hid (Mi w (h0 + 1) G5 g g2 P k m gs rs cs (Mc.pls m (j + 1)) wr) := by
          rw [Mc.pls_old hjl (hz.trans hzn)]
          exact hI
        have hzb : (z != -1) = false := by rw [hzn]; rfl
        subst hzn
        clear hz hI
        go_wp2
        go_roundw
        case rel => exact ⟨j + 1, by omega, by go_num, hI2⟩
        case measure => simp [intOf]; omega
      · have hzb : (z != -1) = true := by simpa using hzn
        have hin : (j : Int) ∈ Mc.ord m := by
          apply Classical.byContradiction
          intro h
          exact hzn (hz.symm.trans (Mc.ix_none h))
        have hz0 : 0 ≤ z := by rw [← hz]; unfold Mc.ix; rw [if_pos hin]; omega
        have hzl : z < (Mc.ord m).length := by rw [← hz]; exact Mc.ix_lt _
        obtain ⟨t, rfl⟩ := Int.eq_ofNat_of_zero_le hz0
        have htK : t < K := by rw [← hKC.out, ← HC.out, Mc.cnn_len]; omega
        obtain ⟨b9, off9, u, he9, hb9, hc9, hu9⟩ := hI.out.nb.at_ (k := t) (by rw [hcl.out]; exact htK)
        injection he9 with he9
        injection he9 with e1 e2
        subst e1 e2
        rw [Nat.zero_add] at hc9
        have hqm : Mc.qm m j = u := by
          rw [Mc.qm_ix HV.out hin, hz, Mc.tgt_nat]
          show M.gz (Mc.cls (Mc.cnn m)) t = u
          rw [HC.out, HCS.out]
          exact hu9.out
        have hI2 : Hid (Mi w (h0 + 1) G5 g g2 P k m gs rs cs (Mc.pls m (j + 1)) (wr.setCell ⟨g, j, none⟩ (.int .i64 u))) := by
          have h1 := hI.out.set hMj.out j u
          rw [← hqm, Mc.pls_set hjl, hqm] at h1
          exact h1
        have htn : (t : Int) < K := by omega
        clear hz hI hqm hzn hin hzl hu9
        go_wp2
        go_roundw
        case rel => exact ⟨j + 1, by omega, by go_num, hI2⟩
        case measure => simp [intOf]; omega
    · obtain rfl : j = n := by omega
      have hlt' : ¬ (j : Int) < j := by omega
      obtain ⟨q0, q1, q2⟩ := BxM.cells hI.out.bf
      obtain ⟨e0, e1, e2⟩ := BxM.cells hI.out.bo
      obtain ⟨f0, f1, f2⟩ := BxM.frozen hI.out.bo
      obtain ⟨r0, r1, r2⟩ := set3_reads hI.out.bo (.int .i64 m.i) (.int .i64 m.o) (.slice (some ⟨P, 0, none⟩) k k)
      have d := hMj.out
      have hfin : Hid (MinP w m j (.returned (.tuple #[.agg #[.int .i64 m.i, .int .i64 m.o, .slice (some ⟨P, 0, none⟩) k k], .slice (some ⟨g, 0, none⟩) j j, .int .i64 0])) (((wr.setCell ⟨h0 + 1, 0, none⟩ (.int .i64 m.i)).setCell ⟨h0 + 1, 1, none⟩ (.int .i64 m.o)).setCell ⟨h0 + 1, 2, none⟩ (.slice (some ⟨P, 0, none⟩) k k))) := by
        have hpl : Mc.pls m j = Mc.ql m := by rw [← HN.out]; exact Mc.pls_all m
        have hB := hI.out.pl
        rw [hpl] at hB
        refine ⟨P, k, gs, g, rfl, by rw [HRS.out]; exact hk.out, hgs.out, ?_, ?_, below_set3' hI.out.bel d.h7 _ _ _⟩
        · rw [HRS.out]
          exact ((hI.out.wb.far d.h8 d.h9 _).far d.h8 d.h9 _).far d.h8 d.h9 _
        · exact ((hB.farS d.h2.symm _).farS d.h2.symm _).farS d.h2.symm _
      clear hI d
      go_wp2
      refine bodyPost_ret (v := .tuple #[.agg #[.int .i64 m.i, .int .i64 m.o, .slice (some ⟨P, 0, none⟩) k k], .slice (some ⟨g, 0, none⟩) j j, .int .i64 0]) (by simp [results, Try.f40, go_sem, r0, r1, r2]) rfl ?_
      exact hfin.out
end Go.Proofs.Ytnodnfailjmpeaa

namespace Go.Proofs.Ytnodnfailjmpeaa
open Go.RowKit
open Mc (Ed Ma)

set_option maxRecDepth 100000 in
set_option maxHeartbeats 1000000 in
theorem minimise_err (i o : Int) (rs : List (List Ed)) (A : Option Addr) (n c : Nat) (w : World) (hr : RdR w A rs) (hn : rs.length = n) (hnb : n ≤ 1000000) (hrl : ∀ row ∈ rs, row.length ≤ 1000000) (hz : Mc.chk ⟨i, o, rs⟩ ≠ 0) :
    Calls Try.prog 40 #[.agg #[.int .i64 i, .int .i64 o, .slice A n c]] w fun e w' => e = .returned (.tuple #[.agg #[.int .i64 0, .int .i64 0, .slice none 0 0], .slice none 0 0, .int .i64 (Mc.chk ⟨i, o, rs⟩)]) ∧ Below w.heap.size w w' := by
  obtain ⟨hb0, hM0, hZ0⟩ := boxZ_lies w i o A n c
  obtain ⟨q0, q1, q2⟩ := hM0.cells
  have C := wcanon_err i o rs A n c _ (hr.below hb0) hn hnb hrl hz
  obtain ⟨z, hzz⟩ : ∃ z, Mc.chk ⟨i, o, rs⟩ = z := ⟨_, rfl⟩
  rw [hzz] at hz C ⊢
  have hzn : (z != 0) = true := by simpa using hz
  have hzb : (z == 0) = false := by rw [beq_eq_false_iff_ne]; exact hz
  clear hzz hrl
  go_enter Try.func40, Try.ntmps40
  go_wp2_with fail
  refine C.mono ?_
  rintro e w1 ⟨rfl, hb1⟩
  have hal : Below w1.heap.size w1 (w1.alloc (.cells #[.int .i64 0, .int .i64 0, .slice none 0 0] 24)) := (Below.refl _ _).alloc (Nat.le_refl _) _
  have hb2 := below_next (below_next hb0 hb1) hal
  have hZ1 := (hZ0.mvB hb1).mvB hal
  clear q0 q1 q2
  obtain ⟨q0, q1, q2⟩ := hZ1.cells
  obtain ⟨f0, f1, f2⟩ := hZ1.frozen
  obtain ⟨r0, r1, r2⟩ := set3_reads hZ1 (.int .i64 0) (.int .i64 0) (.slice none 0 0)
  have hb3 := below_set3' hb2 (g := w.heap.size + 1) (by omega) (.int .i64 0) (.int .i64 0) (.slice none 0 0)
  have hH := Lib.hid hb3
  clear C hb0 hb1 hM0 hZ0 hb3 hal hb2 hZ1
  go_upto_region 2 with fail
  obtain ⟨W1, hW1⟩ : ∃ W, w1.alloc (.cells #[.int .i64 0, .int .i64 0, .slice none 0 0] 24) = W := ⟨_, rfl⟩
  rw [hW1] at hH q0 q1 q2 f0 f1 f2 r0 r1 r2
  try rw [hW1]
  clear hW1
  go_wp2
  refine bodyPost_ret (v := .tuple #[.agg #[.int .i64 0, .int .i64 0, .slice none 0 0], .slice none 0 0, .int .i64 z]) (by simp [results, Try.f40, go_sem, r0, r1, r2]) rfl ?_
  exact ⟨rfl, hH.out⟩
theorem Blk.far3 {W : World} {g h : Nat} {l : List Int} (hb : Blk W g l) (hne : g ≠ h) (x y v : Value) : Blk (((W.setCell ⟨h, 0, none⟩ x).setCell ⟨h, 1, none⟩ y).setCell ⟨h, 2, none⟩ v) g l := ((hb.farS hne _).farS hne _).farS hne _
theorem Ex.far3 {W : World} {p k h : Nat} {rs : List (List Ed)} {gs : List Nat} {b : Nat} (hw : Wb b p k rs gs W) (hg : gs.length = k) (hk : rs.length = k) (hk6 : k ≤ 1000000) (hrl : ∀ row ∈ rs, row.length ≤ 1000000) (hb : h < b) (x y v : Value) : Ex (((W.setCell ⟨h, 0, none⟩ x).setCell ⟨h, 1, none⟩ y).setCell ⟨h, 2, none⟩ v) p k rs := by
  have h1 : p ≠ h := by have := hw.p0; omega
  have h2 : ∀ g ∈ gs, g ≠ h := fun g hg => by have := (hw.own g hg).1; omega
  exact ⟨gs, hg, hk, hk6, hrl, (((hw.far h1 h2 _).far h1 h2 _).far h1 h2 _).lower (Nat.zero_le _)⟩
section
variable (m : Ma) (i o : Int) (A : Option Addr) (n c : Nat) (w : World)
theorem minimise_at (K : Nat) (v : Mc.Val m) (hi : m.i = i) (ho : m.o = o) (hn : m.r.length = n) (hK : (Mc.qn m).r.length = K) (hr : RdR w A m.r) :
    Calls Try.prog 40 #[.agg #[.int .i64 i, .int .i64 o, .slice A n c]] w fun e w' => ∃ P gs g, e = .returned (.tuple #[.agg #[.int .i64 i, .int .i64 o, .slice (some ⟨P, 0, none⟩) K K], .slice (some ⟨g, 0, none⟩) n n, .int .i64 0]) ∧ Hid (gs.length = K) ∧ Hid (Wb w.heap.size P K (Mc.qn m).r gs w') ∧ Hid (Blk w' g (Mc.ql m)) ∧ Below w.heap.size w w' := by
  subst hi ho
  refine (minimise_ok m A c n w v hr hn).mono ?_
  rintro e w' ⟨P, k, gs, g, rfl, hk, h1, h2, h3, h4⟩
  obtain rfl : k = K := hk.out.symm.trans hK
  exact ⟨P, gs, g, rfl, h1, h2, h3, h4⟩
set_option maxRecDepth 100000 in
set_option maxHeartbeats 1000000 in
theorem qmin_at (K : Nat) (v : Mc.Val m) (hi : m.i = i) (ho : m.o = o) (hn : m.r.length = n) (hK : (Mc.qn m).r.length = K) (hr : RdR w A m.r) :
    Calls Try.prog 11 #[.agg #[.int .i64 i, .int .i64 o, .slice A n c]] w fun e w' => ∃ P, e = .returned (.tuple #[.agg #[.int .i64 i, .int .i64 o, .slice (some ⟨P, 0, none⟩) K K], .int .i64 0]) ∧ Ex w' P K (Mc.qn m).r ∧ Below w.heap.size w w' := by
  obtain ⟨hb0, hM0, hZ0⟩ := boxZ_lies w i o A n c
  obtain ⟨q0, q1, q2⟩ := hM0.cells
  have C := minimise_at m i o A n c _ K v hi ho hn hK (hr.below hb0)
  have HK := Lib.hid hK
  have HQ := Lib.hid (Mc.qn_val v)
  have hK64 : K ≤ 64 := by rw [← hK]; exact (Mc.qn_val v).r1
  clear v hi ho hn hK hr
  go_enter Try.func11, Try.ntmps11
  go_wp2_with fail
  refine C.mono ?_
  rintro e w1 ⟨P, gs, g, rfl, hg, hW, _, hb1⟩
  have hal : Below w1.heap.size w1 (w1.alloc (.cells #[.int .i64 i, .int .i64 o, .slice (some ⟨P, 0, none⟩) K K] 24)) := (Below.refl _ _).alloc (Nat.le_refl _) _
  have hF : BxM (w1.alloc (.cells #[.int .i64 i, .int .i64 o, .slice (some ⟨P, 0, none⟩) K K] 24)) w1.heap.size i o (some ⟨P, 0, none⟩) K K := BxM.new w1 i o (some ⟨P, 0, none⟩) K K
  have hb2 := below_next (below_next hb0 hb1) hal
  have hZ1 := (hZ0.mvB hb1).mvB hal
  have hW1 := hW.out.below hal
  clear q0 q1 q2
  obtain ⟨q0, q1, q2⟩ := hZ1.cells
  obtain ⟨f0, f1, f2⟩ := hZ1.frozen
  obtain ⟨x0, x1, x2⟩ := hF.cells
  obtain ⟨r0, r1, r2⟩ := set3_reads hZ1 (.int .i64 i) (.int .i64 o) (.slice (some ⟨P, 0, none⟩) K K)
  have hfin : Hid (Ex _ P K (Mc.qn m).r ∧ _) := ⟨Ex.far3 hW1 hg.out HK.out (by omega) HQ.out.rows (h := w.heap.size + 1) (by simp) (.int .i64 i) (.int .i64 o) (.slice (some ⟨P, 0, none⟩) K K), below_set3' hb2 (g := w.heap.size + 1) (by omega) (.int .i64 i) (.int .i64 o) (.slice (some ⟨P, 0, none⟩) K K)⟩
  clear C hb0 hb1 hM0 hZ0 hal hb2 hZ1 hF hW1 hW
  go_upto_region 2 with fail
  obtain ⟨W1, hW1⟩ : ∃ W, w1.alloc (.cells #[.int .i64 i, .int .i64 o, .slice (some ⟨P, 0, none⟩) K K] 24) = W := ⟨_, rfl⟩
  obtain ⟨G1, hG1⟩ : ∃ g, w1.heap.size = g := ⟨_, rfl⟩
  rw [hW1] at hfin q0 q1 q2 f0 f1 f2 r0 r1 r2 x0 x1 x2
  rw [hG1] at x0 x1 x2
  try rw [hW1]
  try rw [hG1]
  clear hW1 hG1
  go_wp2
  refine bodyPost_ret (v := .tuple #[.agg #[.int .i64 i, .int .i64 o, .slice (some ⟨P, 0, none⟩) K K], .int .i64 0]) (by simp [results, Try.f11, go_sem, r0, r1, r2]) rfl ?_
  exact ⟨P, rfl, hfin.out⟩
set_option maxRecDepth 100000 in
set_option maxHeartbeats 1000000 in
theorem qmap_at (v : Mc.Val m) (hi : m.i = i) (ho : m.o = o) (hn : m.r.length = n) (hr : RdR w A m.r) :
    Calls Try.prog 12 #[.agg #[.int .i64 i, .int .i64 o, .slice A n c]] w fun e w' => ∃ g, e = .returned (.tuple #[.slice (some ⟨g, 0, none⟩) n n, .int .i64 0]) ∧ Rd w' (some ⟨g, 0, none⟩) (Mc.ql m) ∧ Below w.heap.size w w' := by
  have hb0 : Below w.heap.size w (boxM w i o A n c) := (Below.refl _ _).alloc (Nat.le_refl _) _
  obtain ⟨q0, q1, q2⟩ := (BxM.new w i o A n c).cells
  have C := minimise_at m i o A n c _ _ v hi ho hn rfl (hr.below hb0)
  have HB := Lib.hid hb0
  clear v hi ho hn hr hb0
  go_enter Try.func12, Try.ntmps12
  go_wp2_with fail
  refine C.mono ?_
  rintro e w1 ⟨P, gs, g, rfl, hg, hW, hB, hb1⟩
  obtain ⟨K, hK⟩ : ∃ K, (Mc.qn m).r.length = K := ⟨_, rfl⟩
  rw [hK]
  have hal : Below w1.heap.size w1 (w1.alloc (.cells #[.int .i64 i, .int .i64 o, .slice (some ⟨P, 0, none⟩) K K] 24)) := (Below.refl _ _).alloc (Nat.le_refl _) _
  have hfin : Hid (Rd _ (some ⟨g, 0, none⟩) (Mc.ql m) ∧ _) := ⟨(hB.out.mvB hal).rd, below_next (below_next HB.out hb1) hal⟩
  clear q0 q1 q2 C hb1 hal hB hW hK
  go_wp2
  go_ret2
  exact ⟨g, rfl, hfin.out⟩
set_option maxRecDepth 100000 in
set_option maxHeartbeats 1000000 in
theorem qis_at (b : Bool) (v : Mc.Val m) (hi : m.i = i) (ho : m.o = o) (hn : m.r.length = n) (hb : decide ((Mc.qn m).r.length = n) = b) (hr : RdR w A m.r) :
    Calls Try.prog 42 #[.agg #[.int .i64 i, .int .i64 o, .slice A n c]] w fun e w' => e = .returned (.tuple #[.bool b, .int .i64 0]) ∧ Below w.heap.size w w' := by
  have hb0 : Below w.heap.size w (boxM w i o A n c) := (Below.refl _ _).alloc (Nat.le_refl _) _
  obtain ⟨q0, q1, q2⟩ := (BxM.new w i o A n c).cells
  obtain ⟨K, hK⟩ : ∃ K, (Mc.qn m).r.length = K := ⟨_, rfl⟩
  rw [hK] at hb
  have hbb : ((K : Int) == n) = b := by
    rw [← hb]
    by_cases h : K = n
    · subst h; simp
    · rw [decide_eq_false h, beq_eq_false_iff_ne]; omega
  have C := qmin_at m i o A n c _ K v hi ho hn hK (hr.below hb0)
  have HB := Lib.hid hb0
  have HM := Lib.hid (BxM.new w i o A n c)
  clear v hi ho hn hr hb0 hb hK
  go_enter Try.func42, Try.ntmps42
  go_wp2_with fail
  refine C.mono ?_
  rintro e w1 ⟨P, rfl, _, hb1⟩
  have hal : Below w1.heap.size w1 (w1.alloc (.cells #[.int .i64 i, .int .i64 o, .slice (some ⟨P, 0, none⟩) K K] 24)) := (Below.refl _ _).alloc (Nat.le_refl _) _
  have hfin := Lib.hid (below_next (below_next HB.out hb1) hal)
  obtain ⟨x0, x1, x2⟩ := (BxM.new w1 i o (some ⟨P, 0, none⟩) K K).cells
  clear q0 q1 q2
  obtain ⟨q0, q1, q2⟩ := ((HM.out.mvB hb1).mvB hal).cells
  clear C hb1 hal HM
  go_wp2
  go_ret2
  exact ⟨rfl, hfin.out⟩
end
section
variable (i o : Int) (rs : List (List Ed)) (A : Option Addr) (n c : Nat) (w : World)
/-- What they answer where the machine is not valid. -/
theorem qmin_err (z : Int) (hr : RdR w A rs) (hn : rs.length = n) (hnb : n ≤ 1000000) (hrl : ∀ row ∈ rs, row.length ≤ 1000000) (hzz : Mc.chk ⟨i, o, rs⟩ = z) (hz : z ≠ 0) :
    Calls Try.prog 11 #[.agg #[.int .i64 i, .int .i64 o, .slice A n c]] w fun e w' => e = .returned (.tuple #[.agg #[.int .i64 0, .int .i64 0, .slice none 0 0], .int .i64 z]) ∧ Below w.heap.size w w' := by
  obtain ⟨hb0, hM0, hZ0⟩ := boxZ_lies w i o A n c
  obtain ⟨q0, q1, q2⟩ := hM0.cells
  have C := minimise_err i o rs A n c _ (hr.below hb0) hn hnb hrl (by rw [hzz]; exact hz)
  rw [hzz] at C
  clear hr hn hnb hrl hzz
  go_enter Try.func11, Try.ntmps11
  go_wp2_with fail
  refine C.mono ?_
  rintro e w1 ⟨rfl, hb1⟩
  have hal : Below w1.heap.size w1 (w1.alloc (.cells #[.int .i64 0, .int .i64 0, .slice none 0 0] 24)) := (Below.refl _ _).alloc (Nat.le_refl _) _
  have hF : BxM (w1.alloc (.cells #[.int .i64 0, .int .i64 0, .slice none 0 0] 24)) w1.heap.size 0 0 none 0 0 := BxM.new w1 0 0 none 0 0
  have hb2 := below_next (below_next hb0 hb1) hal
  have hZ1 := (hZ0.mvB hb1).mvB hal
  clear q0 q1 q2
  obtain ⟨q0, q1, q2⟩ := hZ1.cells
  obtain ⟨f0, f1, f2⟩ := hZ1.frozen
  obtain ⟨x0, x1, x2⟩ := hF.cells
  obtain ⟨r0, r1, r2⟩ := set3_reads hZ1 (.int .i64 0) (.int .i64 0) (.slice none 0 0)
  have hfin := Lib.hid (below_set3' hb2 (g := w.heap.size + 1) (by omega) (.int .i64 0) (.int .i64 0) (.slice none 0 0))
  clear C hb0 hb1 hM0 hZ0 hal hb2 hZ1 hF
  go_upto_region 2 with fail
  obtain ⟨W1, hW1⟩ : ∃ W, w1.alloc (.cells #[.int .i64 0, .int .i64 0, .slice none 0 0] 24) = W := ⟨_, rfl⟩
  obtain ⟨G1, hG1⟩ : ∃ g, w1.heap.size = g := ⟨_, rfl⟩
  rw [hW1] at hfin q0 q1 q2 f0 f1 f2 r0 r1 r2 x0 x1 x2
  rw [hG1] at x0 x1 x2
  try rw [hW1]
  try rw [hG1]
  clear hW1 hG1
  go_wp2
  refine bodyPost_ret (v := .tuple #[.agg #[.int .i64 0, .int .i64 0, .slice none 0 0], .int .i64 z]) (by simp [results, Try.f11, go_sem, r0, r1, r2]) rfl ?_
  exact ⟨rfl, hfin.out⟩
theorem qmap_err (z : Int) (hr : RdR w A rs) (hn : rs.length = n) (hnb : n ≤ 1000000) (hrl : ∀ row ∈ rs, row.length ≤ 1000000) (hzz : Mc.chk ⟨i, o, rs⟩ = z) (hz : z ≠ 0) :
    Calls Try.prog 12 #[.agg #[.int .i64 i, .int .i64 o, .slice A n c]] w fun e w' => e = .returned (.tuple #[.slice none 0 0, .int .i64 z]) ∧ Below w.heap.size w w' := by
  have hb0 : Below w.heap.size w (boxM w i o A n c) := (Below.refl _ _).alloc (Nat.le_refl _) _
  obtain ⟨q0, q1, q2⟩ := (BxM.new w i o A n c).cells
  have C := minimise_err i o rs A n c _ (hr.below hb0) hn hnb hrl (by rw [hzz]; exact hz)
  rw [hzz] at C
  clear hr hn hnb hrl hzz
  go_enter Try.func12, Try.ntmps12
  go_wp2_with fail
  refine C.mono ?_
  rintro e w1 ⟨rfl, hb1⟩
  have hfin := Lib.hid (below_next (below_next hb0 hb1) ((Below.refl _ _).alloc (Nat.le_refl _) (.cells #[.int .i64 0, .int .i64 0, .slice none 0 0] 24)))
  clear q0 q1 q2 C hb1 hb0
  go_wp2
  go_ret2
  exact ⟨rfl, hfin.out⟩
theorem qis_err (z : Int) (hr : RdR w A rs) (hn : rs.length = n) (hnb : n ≤ 1000000) (hrl : ∀ row ∈ rs, row.length ≤ 1000000) (hzz : Mc.chk ⟨i, o, rs⟩ = z) (hz : z ≠ 0) :
    Calls Try.prog 42 #[.agg #[.int .i64 i, .int .i64 o, .slice A n c]] w fun e w' => e = .returned (.tuple #[.bool false, .int .i64 z]) ∧ Below w.heap.size w w' := by
  have hb0 : Below w.heap.size w (boxM w i o A n c) := (Below.refl _ _).alloc (Nat.le_refl _) _
  obtain ⟨q0, q1, q2⟩ := (BxM.new w i o A n c).cells
  have C := qmin_err i o rs A n c _ z (hr.below hb0) hn hnb hrl hzz hz
  have hzn : (z != 0) = true := by simpa using hz
  have hzb : (z == 0) = false := by rw [beq_eq_false_iff_ne]; exact hz
  clear hr hn hnb hrl hzz
  go_enter Try.func42, Try.ntmps42
  go_wp2_with fail
  refine C.mono ?_
  rintro e w1 ⟨rfl, hb1⟩
  have hfin := Lib.hid (below_next (below_next hb0 hb1) ((Below.refl _ _).alloc (Nat.le_refl _) (.cells #[.int .i64 0, .int .i64 0, .slice none 0 0] 24)))
  clear q0 q1 q2 C hb1 hb0
  go_wp2
  go_ret2
  exact ⟨rfl, hfin.out⟩
end
end Go.Proofs.Ytnodnfailjmpeaa
