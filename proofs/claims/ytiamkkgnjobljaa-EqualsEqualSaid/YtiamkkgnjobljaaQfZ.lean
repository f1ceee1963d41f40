/-
  Several texts in one: Q8, Q9. No statement is proved here.
-/
import Derived.Test.YtiamkkgnjobljaaQnH
import Derived.Test.YtiamkkgnjobljaaRfY
import Derived.Test.YtiamkkgnjobljaaSwZ
import Derived.Deep.QuietTactic
import Derived.Test.YtiamkkgnjobljaaQnI
import Derived.Test.YtiamkkgnjobljaaScB
import Derived.BigQuiet
namespace Go.Proofs.Ytiamkkgnjobljaa
open Go.RowKit
open Mc (Ed Ma)

namespace Mc
theorem nw_iff {p L : List Int} {k : Nat} : nw p L k = true ↔ ∀ i x, i < k → L[i]? = some x → cl p x ≠ cl p ((L[k]?).getD 0) := by
  unfold nw
  rw [List.all_eq_true]
  constructor
  · intro h i x hi hx e
    have := h x (List.mem_of_getElem? (i := i) (by rw [List.getElem?_take, if_pos hi]; exact hx))
    simp [e] at this
  · intro h x hx
    obtain ⟨i, hi⟩ := List.mem_iff_getElem?.1 hx
    rw [List.getElem?_take] at hi
    by_cases hik : i < k
    · rw [if_pos hik] at hi
      simpa using h i x hik hi
    · rw [if_neg hik] at hi; cases hi
/-- Whether a state of a class was met among the first j. -/
def Dup (p M : List Int) (u : Int) (j : Nat) (z : Int) : Prop := (z = 0 ∧ ∀ i x, i < j → M[i]? = some x → cl p x ≠ u) ∨ (z = 1 ∧ ∃ i x, i < j ∧ M[i]? = some x ∧ cl p x = u)
end Mc
set_option maxRecDepth 100000 in
set_option maxHeartbeats 4000000 in
theorem rfirsts_any (m : Ma) (i : Nat) (o : Int) (A : Option Addr) (n c : Nat) (w : World) (v : Mc.Val m) (hi : m.i = i) (ho : m.o = o) (hn : m.r.length = n) (hr : RdR w A m.r) :
    Calls Try.prog 49 #[.agg #[.int .i64 i, .int .i64 o, .slice A n c]] w fun e w' => ∃ V, e = .returned V ∧ Hid (OwI w' w.heap.size V (Mc.fst_ m (Mc.ord m))) ∧ Below w.heap.size w w' := by
  have EB : Below w.heap.size w (boxM w i o A n c) := (Below.refl _ _).alloc (Nat.le_refl _) _
  have hn64 : n ≤ 64 := by rw [← hn]; exact v.r1
  have C1 := rclasses_any m i o A n c _ v hi hn (hr.below EB)
  have C2 : ∀ wz, RdR wz A m.r → Calls Try.prog 79 #[.agg #[.int .i64 i, .int .i64 o, .slice A n c]] wz (Ordd wz m) := fun wz h => by
    have := order_any m A c wz v h
    rw [hi, ho, hn] at this
    exact this
  have HC2 := Lib.hid C2
  have HM := Lib.hid (BxM.new w i o A n c)
  obtain ⟨q0, q1, q2⟩ := HM.out.cells
  have HB := Lib.hid EB
  have HO := Lib.hid (Mc.ord_ord v)
  have hrg := Lib.hid (Mc.ord_cls v).rg
  have hll := Mc.ord_len v (Mc.ord_ord v)
  have hcl : Hid ((Mc.cls m).length = n) := by show _ = _; rw [Mc.cls_len, hn]
  have HN := Lib.hid hn
  obtain ⟨p, hp⟩ : ∃ p, Mc.cls m = p := ⟨_, rfl⟩
  have HP := Lib.hid hp
  rw [hp] at C1 hcl
  clear EB v hi ho hn C2 hp
  go_enter Try.func49, Try.ntmps49
  go_wp2_with fail
  refine C1.mono ?_
  rintro e w1 ⟨X, q, rfl, hx, hb1⟩
  clear q0 q1 q2 C1
  have hM1 := HM.out.mvB hb1
  have hbl1 := below_next HB.out hb1
  obtain ⟨q0, q1, q2⟩ := hM1.cells
  have C2 := HC2.out w1 (hr.below hbl1)
  clear HB hr
  go_wp2_with fail
  refine C2.mono ?_
  rintro e w2 ⟨V0, L, rfl, hV, hL, hb2⟩
  obtain rfl : L = Mc.ord m := hL.out.uniq HO.out
  obtain ⟨LA, lc, rfl, _⟩ := own_formI hV.out
  have hLr : Rd w2 LA (Mc.ord m) := Rd.of_own hV.out
  have hXr : Rd w2 X p := hx.below hb2
  have hbl2 := Lib.hid (below_next hbl1 hb2)
  have hrg2 : Hid (∀ s ∈ Mc.ord m, 0 ≤ s ∧ s < n) := by
    intro s hs
    have := hrg.out s hs
    rw [HN.out] at this
    exact this
  have hfs : Hid (Mc.fst_ m (Mc.ord m) = Mc.frN p (Mc.ord m) (Mc.ord m).length) := by show _ = _; unfold Mc.fst_; rw [HP.out]
  obtain ⟨M, hM⟩ : ∃ M, Mc.ord m = M := ⟨_, rfl⟩
  rw [hM] at hLr hrg2 hll hfs ⊢
  obtain ⟨l, hl⟩ : ∃ l, M.length = l := ⟨_, rfl⟩
  rw [hl] at hll hfs ⊢
  have HL := Lib.hid hl
  have HMo := Lib.hid hM
  clear C2 q0 q1 q2 hM1 hbl1 hb1 hx HC2 HM hV hL HO hrg hb2 hl hM HP
  go_wp2
  go_loopw [5, 6] (fun x y wr => ∃ (k : Nat) (V : Value), k ≤ l ∧ y = .int .i64 k ∧ V = x ∧ Hid (OwI wr w2.heap.size V (Mc.frN p M k)) ∧ Hid (Below w2.heap.size w2 wr)) (fun _ y _ => l - (intOf y).toNat)
  case atStart => exact ⟨0, _, Nat.zero_le _, rfl, rfl, OwI.nil_ _ _, Below.refl _ _⟩
  case round =>
    obtain ⟨k, V, hk, rfl, rfl, hO, hbr⟩ := hrel
    by_cases hkl : k < l
    · have hkl' : (k : Int) < l := by omega
      obtain ⟨b0, o0, y, hLe, hb0, hc0, hy⟩ := hLr.at_ (k := k) (by rw [HL.out]; exact hkl)
      subst hLe
      have hyl : Hid (M[k]? = some y) := by
        show _ = _
        have := hy.out
        rw [List.getElem?_eq_getElem (by rw [HL.out]; exact hkl)] at this ⊢
        exact congrArg some this
      have hyr := hrg2.out y (List.mem_of_getElem? hyl.out)
      obtain ⟨t, rfl⟩ := Int.eq_ofNat_of_zero_le hyr.1
      have htn : t < n := by omega
      have htn' : (t : Int) < n := by omega
      obtain ⟨b1, o1, u, hXe, hb1, hc1, hu⟩ := hXr.at_ (k := t) (by rw [hcl.out]; exact htn)
      subst hXe
      clear hy
      go_wp2
      obtain ⟨wo, rfl⟩ : ∃ wo : World, wo = wr := ⟨_, rfl⟩
      go_loopw [7, 8] (fun x y wr => ∃ (j : Nat) (z : Int), j ≤ k ∧ y = .int .i64 j ∧ x = .int .i64 z ∧ Hid (Mc.Dup p M u j z) ∧ Hid (Below wo.heap.size wo wr)) (fun _ y _ => k - (intOf y).toNat)
      case atStart => exact ⟨0, 0, Nat.zero_le _, rfl, rfl, .inl ⟨rfl, fun i x h => absurd h (Nat.not_lt_zero _)⟩, Below.refl _ _⟩
      case round =>
        obtain ⟨j, z, hj, rfl, rfl, hZ, hbx⟩ := hrel
        have hbw := below_next hbr.out hbx.out
        by_cases hjk : j < k
        · have hjk' : (j : Int) < k := by omega
          have hjl' : (j : Int) < l := by omega
          obtain ⟨b3, o3, x, hLe3, _, hc3, hx⟩ := hLr.at_ (k := j) (by rw [HL.out]; omega)
          injection hLe3 with hLe3
          injection hLe3 with e1 e2
          subst e1 e2
          have hxl : Hid (M[j]? = some x) := by
            show _ = _
            have := hx.out
            rw [List.getElem?_eq_getElem (by rw [HL.out]; omega)] at this ⊢
            exact congrArg some this
          have hxr := hrg2.out x (List.mem_of_getElem? hxl.out)
          obtain ⟨s, rfl⟩ := Int.eq_ofNat_of_zero_le hxr.1
          have hsn' : (s : Int) < n := by omega
          obtain ⟨b4, o4, q4, hXe4, _, hc4, hq4⟩ := hXr.at_ (k := s) (by rw [hcl.out]; omega)
          injection hXe4 with hXe4
          injection hXe4 with e3 e4
          subst e3 e4
          have g0 := (hbw.cell (p := ⟨b0, o0 + k, none⟩) hb0).trans hc0
          have g1 := (hbw.cell (p := ⟨b1, o1 + t, none⟩) hb1).trans hc1
          have g3 := (hbw.cell (p := ⟨b0, o0 + j, none⟩) hb0).trans hc3
          have g4 := (hbw.cell (p := ⟨b1, o1 + s, none⟩) hb1).trans hc4
          have hcs : Hid (Mc.cl p s = q4) := by show _ = _; unfold Mc.cl; rw [Int.toNat_natCast]; exact hq4.out
          clear hx hq4
          by_cases he : q4 = u
          · have heb : (q4 == u) = true := by rw [he]; simp
            have hZ2 : Hid (Mc.Dup p M u (j + 1) 1) := .inr ⟨rfl, j, s, by omega, hxl.out, by rw [hcs.out, he]⟩
            clear hZ he
            go_wp2
            go_quiet (fail)
            have hbx2 := Lib.hid (below_drewN' hbx.out)
            go_wp2
            go_roundw
            case rel => exact ⟨j + 1, 1, by omega, by go_num, rfl, hZ2, hbx2.out _⟩
            case measure => simp [intOf]; omega
          · have heb : (q4 == u) = false := by rw [beq_eq_false_iff_ne]; exact he
            have hZ2 : Hid (Mc.Dup p M u (j + 1) z) := by
              rcases hZ.out with ⟨h1, h2⟩ | ⟨h1, i, x, h2, h3, h4⟩
              · refine .inl ⟨h1, fun i x h3 h4 => ?_⟩
                rcases Nat.lt_or_ge i j with h5 | h5
                · exact h2 i x h5 h4
                · obtain rfl : i = j := by omega
                  rw [hxl.out] at h4
                  injection h4 with h4
                  rw [← h4, hcs.out]
                  exact he
              · exact .inr ⟨h1, i, x, by omega, h3, h4⟩
            clear hZ he
            go_wp2
            go_quiet (fail)
            have hbx2 := Lib.hid (below_drewN' hbx.out)
            go_wp2
            go_roundw
            case rel => exact ⟨j + 1, z, by omega, by go_num, rfl, hZ2, hbx2.out _⟩
            case measure => simp [intOf]; omega
        · obtain rfl : j = k := by omega
          have hjk' : ¬ (j : Int) < j := by omega
          have hcu : Hid (Mc.cl p ((M[j]?).getD 0) = u) := by
            show _ = _
            rw [hyl.out, Option.getD_some]
            unfold Mc.cl
            rw [Int.toNat_natCast]
            exact hu.out
          rcases hZ.out with ⟨rfl, h2⟩ | ⟨rfl, i, x, h2, h3, h4⟩
          · have hnw : Mc.nw p M j = true := Mc.nw_iff.2 fun i x h3 h4 => by rw [hcu.out]; exact h2 i x h3 h4
            have hst : Hid (Mc.frN p M (j + 1) = Mc.frN p M j ++ [(t : Int)]) := by
              show _ = _
              rw [Mc.frN_step, if_pos hnw, hyl.out]
              rfl
            have g0 := (hbw.cell (p := ⟨b0, o0 + j, none⟩) hb0).trans hc0
            have hbb := Lib.hid hbw
            have hown := (own_below hO.out hbx.out).alloc (.cells #[.int .i64 t] 3)
            have hS1 : Hid (Rd (wr.alloc (.cells #[.int .i64 t] 3)) (some ⟨wr.heap.size, 0, none⟩) [(t : Int)]) := Rd.of_block (t := 3) (heap_alloc_new wr _)
            have hsz := hbw.size
            have hb9 := hbw.alloc hsz (.cells #[.int .i64 t] 3)
            have hfl : (Mc.frN p M j).length ≤ 64 := by
              unfold Mc.frN
              rw [List.length_map]
              have := List.length_filter_le (Mc.nw p M) (List.range j)
              rw [List.length_range] at this
              omega
            clear hZ h2 hnw hO hbr hbx
            go_wp2_with (at_builtin; refine wpList_append_list _ (W0 := w2) (B := w2.heap.size) (xs := Mc.frN p M j) (ys := [(t : Int)]) hown hS1.out rfl (by simp; omega) (by simp; omega) hb9 rfl _ _ rfl rfl rfl ?_)
            intro v3 w3 hown3 hb3
            rw [← hst.out] at hown3
            have HO3 := Lib.hid hown3
            have HB3 := Lib.hid hb3
            clear hown3 hb3 hown hb9
            go_wp2
            go_roundw
            case rel => exact ⟨j + 1, v3, by omega, by go_num, rfl, HO3, HB3⟩
            case measure => simp [intOf]; omega
          · have hnw : ¬ Mc.nw p M j = true := fun h => by
              have := Mc.nw_iff.1 h i x h2 h3
              rw [hcu.out] at this
              exact this h4
            have hst : Mc.frN p M (j + 1) = Mc.frN p M j := by rw [Mc.frN_step, if_neg hnw, List.append_nil]
            have hO2 : Hid (OwI wr w2.heap.size V (Mc.frN p M (j + 1))) := by
              show OwI _ _ _ _
              rw [hst]
              exact own_below hO.out hbx.out
            have HBW := Lib.hid hbw
            clear hZ h2 h3 h4 hnw hst hO hbr hbx hbw
            go_wp2
            go_roundw
            case rel => exact ⟨j + 1, V, by omega, by go_num, rfl, hO2, HBW⟩
            case measure => simp [intOf]; omega
    · obtain rfl : k = l := by omega
      have hkl' : ¬ (k : Int) < k := by omega
      have hfin : Hid (OwI wr w.heap.size V (Mc.fst_ m (Mc.ord m)) ∧ Below w.heap.size w wr) := by
        refine ⟨?_, below_next hbl2.out hbr.out⟩
        rw [HMo.out, hfs.out]
        exact own_base hO.out hbl2.out.size
      clear hO hbr
      go_wp2
      go_ret
      exact ⟨_, rfl, hfin.out⟩
end Go.Proofs.Ytiamkkgnjobljaa

namespace Go.Proofs.Ytiamkkgnjobljaa
open Go.RowKit
open Mc (Ed Ma)

namespace Mc
/-- The place among the first j first states of a class, of a state that is reached. -/
def Plc (p F : List Int) (bs : Bool) (u : Int) (j : Nat) (z : Int) : Prop := (z = -1 ∧ ∀ i x, i < j → F[i]? = some x → ¬ (bs = true ∧ cl p x = u)) ∨ (bs = true ∧ ∃ i : Nat, ∃ x, i < j ∧ z = i ∧ F[i]? = some x ∧ cl p x = u)
theorem Plc.done {m : Ma} {s : Nat} {z : Int} {bs : Bool} (hb : bs = true ↔ (s : Int) ∈ ord m) (h : Plc (cls m) (fst_ m (ord m)) bs (M.gz (cls m) s) (fst_ m (ord m)).length z) : z = qm m s := by
  rcases h with ⟨rfl, h⟩ | ⟨h1, i, x, h2, rfl, h3, h4⟩
  · by_cases hs : (s : Int) ∈ ord m
    · exfalso
      obtain ⟨f, hf, e⟩ := fst_cov (m := m) hs
      obtain ⟨i, hi⟩ := List.mem_iff_getElem?.1 hf
      exact h i f (List.getElem?_eq_some_iff.1 hi).1 hi ⟨hb.2 hs, by rw [e, cl_nat]⟩
    · exact (qm_none hs).symm
  · exact (mpg_at h3 (hb.1 h1) (by rw [h4, cl_nat])).symm
end Mc
set_option maxRecDepth 100000 in
set_option maxHeartbeats 4000000 in
theorem rqmap_any (m : Ma) (i : Nat) (o : Int) (A : Option Addr) (n c : Nat) (w : World) (v : Mc.Val m) (hi : m.i = i) (ho : m.o = o) (hn : m.r.length = n) (hr : RdR w A m.r) :
    Calls Try.prog 50 #[.agg #[.int .i64 i, .int .i64 o, .slice A n c]] w fun e w' => ∃ B d, e = .returned (.slice B n d) ∧ Rd w' B (Mc.ql m) ∧ Below w.heap.size w w' := by
  have EB : Below w.heap.size w (boxM w i o A n c) := (Below.refl _ _).alloc (Nat.le_refl _) _
  have hn64 : n ≤ 64 := by rw [← hn]; exact v.r1
  have C1 := rclasses_any m i o A n c _ v hi hn (hr.below EB)
  have HC2 := Lib.hid (fun (wz : World) (h : RdR wz A m.r) => rfirsts_any m i o A n c wz v hi ho hn h)
  have C3 : ∀ wz, RdR wz A m.r → Calls Try.prog 80 #[.agg #[.int .i64 i, .int .i64 o, .slice A n c], .int .i64 0] wz fun e w' => ∃ g B, e = .returned (.slice (some ⟨g, 0, none⟩) n n) ∧ Hid (BlkB w' g B) ∧ Hid (B.length = n) ∧ Hid (∀ s, Mc.T B s ↔ Mc.Rch m 0 s) ∧ Below wz.heap.size wz w' := fun wz h => by
    have := reached_any m 0 A c wz v h v.r0
    rw [hi, ho, hn] at this
    refine this.mono ?_
    rintro e w' ⟨g, B, n', rfl, h1, h2, h3, h4, h5⟩
    obtain rfl : n' = n := h1.out
    exact ⟨g, B, rfl, h2, h3, h4, h5⟩
  have HC3 := Lib.hid C3
  have HM := Lib.hid (BxM.new w i o A n c)
  obtain ⟨q0, q1, q2⟩ := HM.out.cells
  have HB := Lib.hid EB
  have HV := Lib.hid v
  have hrg : Hid (∀ s ∈ Mc.fst_ m (Mc.ord m), 0 ≤ s ∧ s < n) := fun s hs => by
    have := (Mc.ord_cls v).rg s (Mc.fst_mem hs)
    rwa [hn] at this
  have hll : (Mc.fst_ m (Mc.ord m)).length ≤ 64 := by have := Mc.fst_le v (Mc.ord_ord v); omega
  have hcl : Hid ((Mc.cls m).length = n) := by show _ = _; rw [Mc.cls_len, hn]
  have HN := Lib.hid hn
  obtain ⟨p, hp⟩ : ∃ p, Mc.cls m = p := ⟨_, rfl⟩
  have HP := Lib.hid hp
  rw [hp] at C1 hcl
  clear EB v hi ho hn C3 hp
  go_enter Try.func50, Try.ntmps50
  go_wp2_with fail
  refine C1.mono ?_
  rintro e w1 ⟨X, q, rfl, hx, hb1⟩
  clear q0 q1 q2 C1
  have hM1 := HM.out.mvB hb1
  have hbl1 := below_next HB.out hb1
  obtain ⟨q0, q1, q2⟩ := hM1.cells
  have C2 := HC2.out w1 (hr.below hbl1)
  clear HB
  go_wp2_with fail
  refine C2.mono ?_
  rintro e w2 ⟨V0, rfl, hV, hb2⟩
  obtain ⟨F, hF⟩ : ∃ F, Mc.fst_ m (Mc.ord m) = F := ⟨_, rfl⟩
  have HF := Lib.hid hF
  rw [hF] at hV hrg hll
  obtain ⟨LA, lc, rfl, _⟩ := own_formI hV.out
  obtain ⟨l, hl⟩ : ∃ l, F.length = l := ⟨_, rfl⟩
  have HL := Lib.hid hl
  have hLr0 : Rd w2 LA F := Rd.of_own hV.out
  rw [hl] at hll ⊢
  have hM2 := hM1.mvB hb2
  have hbl2 := below_next hbl1 hb2
  clear q0 q1 q2 C2 hM1 hF hl hV
  obtain ⟨q0, q1, q2⟩ := hM2.cells
  have C3 := HC3.out w2 (hr.below hbl2)
  clear HC3 HC2 hr
  go_wp2_with fail
  refine C3.mono ?_
  rintro e w3 ⟨gB, Bs, rfl, hBs, hBl, hBT, hb3⟩
  have hLr : Rd w3 LA F := hLr0.below hb3
  have hXr : Rd w3 X p := (hx.below hb2).below hb3
  have hbl3 := Lib.hid (below_next hbl2 hb3)
  clear q0 q1 q2 C3 hM2 hLr0 hx hb1 hb2 hb3 hbl1 hbl2 HM
  go_wp2
  go_loopw [6, 7] (fun x y wr => ∃ (s : Nat) (V : Value), s ≤ n ∧ y = .int .i64 s ∧ V = x ∧ Hid (OwI wr w3.heap.size V ((Mc.ql m).take s)) ∧ Hid (Below w3.heap.size w3 wr)) (fun _ y _ => n - (intOf y).toNat)
  case atStart => exact ⟨0, _, Nat.zero_le _, rfl, rfl, OwI.nil_ _ _, Below.refl _ _⟩
  case round =>
    obtain ⟨s, V, hs, rfl, rfl, hO, hbr⟩ := hrel
    by_cases hsn : s < n
    · have hsn' : (s : Int) < n := by omega
      obtain ⟨bs, hc5, _, hbv⟩ := hBs.out.at_ (k := s) (by rw [hBl.out]; exact hsn)
      have hbi : Hid (bs = true ↔ (s : Int) ∈ Mc.ord m) := by
        show _ ↔ _
        rw [← Mc.rch_ord HV.out, ← hBT.out]
        unfold Mc.T
        rw [hbv.out]
        simp
      have hgB := hBs.out.lt
      obtain ⟨b1, o1, u, hXe, hb1, hc1, hu⟩ := hXr.at_ (k := s) (by rw [hcl.out]; exact hsn)
      subst hXe
      clear hbv
      go_wp2
      obtain ⟨wo, rfl⟩ : ∃ wo : World, wo = wr := ⟨_, rfl⟩
      go_loopw [8, 9] (fun x y wr => ∃ (j : Nat) (z : Int), j ≤ l ∧ y = .int .i64 j ∧ x = .int .i64 z ∧ Hid (Mc.Plc p F bs u j z) ∧ Hid (Below wo.heap.size wo wr)) (fun _ y _ => l - (intOf y).toNat)
      case atStart => exact ⟨0, -1, Nat.zero_le _, rfl, rfl, .inl ⟨rfl, fun i x h => absurd h (Nat.not_lt_zero _)⟩, Below.refl _ _⟩
      case round =>
        obtain ⟨j, z, hj, rfl, rfl, hZ, hbx⟩ := hrel
        have hbw := below_next hbr.out hbx.out
        by_cases hjl : j < l
        · have hjl' : (j : Int) < l := by omega
          have HJL := Lib.hid hjl
          obtain ⟨b3, o3, x, hLe3, hb3, hc3, hx⟩ := hLr.at_ (k := j) (by rw [HL.out]; omega)
          subst hLe3
          have hxl : Hid (F[j]? = some x) := by
            show _ = _
            have := hx.out
            rw [List.getElem?_eq_getElem (by rw [HL.out]; omega)] at this ⊢
            exact congrArg some this
          have hxr := hrg.out x (List.mem_of_getElem? hxl.out)
          obtain ⟨t, rfl⟩ := Int.eq_ofNat_of_zero_le hxr.1
          have htn' : (t : Int) < n := by omega
          obtain ⟨b4, o4, q4, hXe4, _, hc4, hq4⟩ := hXr.at_ (k := t) (by rw [hcl.out]; omega)
          injection hXe4 with hXe4
          injection hXe4 with e3 e4
          subst e3 e4
          have f0 : ∀ y : BW wr, y.out.cell? ⟨gB, s, none⟩ = some (.bool bs) := fun y => ((below_next hbw y.ok).cell (p := ⟨gB, s, none⟩) hgB).trans hc5
          have f1 : ∀ y : BW wr, y.out.cell? ⟨b3, o3 + j, none⟩ = some (.int .i64 t) := fun y => ((below_next hbw y.ok).cell (p := ⟨b3, o3 + j, none⟩) hb3).trans hc3
          have f2 : ∀ y : BW wr, y.out.cell? ⟨b1, o1 + t, none⟩ = some (.int .i64 q4) := fun y => ((below_next hbw y.ok).cell (p := ⟨b1, o1 + t, none⟩) hb1).trans hc4
          have f3 : ∀ y : BW wr, y.out.cell? ⟨b1, o1 + s, none⟩ = some (.int .i64 u) := fun y => ((below_next hbw y.ok).cell (p := ⟨b1, o1 + s, none⟩) hb1).trans hc1
          have hcs : Hid (Mc.cl p t = q4) := by show _ = _; unfold Mc.cl; rw [Int.toNat_natCast]; exact hq4.out
          have HBX := Lib.hid hbx.out
          clear hx hq4 hbx
          have hskip : ¬ (bs = true ∧ q4 = u) → Hid (Mc.Plc p F bs u (j + 1) z) := fun he => by
            rcases hZ.out with ⟨h1, h2⟩ | ⟨h1, i, x, h2, h3, h4, h5⟩
            · refine .inl ⟨h1, fun i x h3 h4 => ?_⟩
              rcases Nat.lt_or_ge i j with h5 | h5
              · exact h2 i x h5 h4
              · obtain rfl : i = j := by omega
                rw [hxl.out] at h4
                injection h4 with h4
                rw [← h4, hcs.out]
                exact he
            · exact .inr ⟨h1, i, x, by omega, h3, h4, h5⟩
          have HSK := Lib.hid hskip
          clear hskip
          cases bs with
          | false =>
            have hZ2 := HSK.out (by simp)
            clear hZ f1 f2 f3
            go_wp2_with fail
            refine wp_region_quiet_below (by kernel_rfl) (by kernel_rfl) ?_
            repeat (go_big_quiet_step (fail))
            refine wpQuiet_nil ?_
            intro w11 hw11
            obtain ⟨⟨wx, hbW⟩, hw3⟩ := hw11
            dsimp only at hw3
            subst hw3
            have hbx2 := Lib.hid (below_next HBX.out hbW)
            clear f0
            go_wp2
            go_roundw
            case rel => exact ⟨j + 1, z, by have := HJL.out; omega, by go_num, rfl, hZ2, hbx2⟩
            case measure => have := HJL.out; simp [intOf]; omega
          | true =>
            by_cases he : q4 = u
            · have heb : (q4 == u) = true := by rw [he]; simp
              have hZ2 : Hid (Mc.Plc p F true u (j + 1) j) := .inr ⟨rfl, j, t, by omega, rfl, hxl.out, by rw [hcs.out, he]⟩
              clear hZ he HSK
              go_wp2_with fail
              refine wp_region_quiet_below (by kernel_rfl) (by kernel_rfl) ?_
              repeat (go_big_quiet_step (fail))
              refine wpQuiet_nil ?_
              intro w11 hw11
              obtain ⟨⟨wx, hbW⟩, hw3⟩ := hw11
              dsimp only at hw3
              subst hw3
              have hbx2 := Lib.hid (below_next HBX.out hbW)
              clear f0 f1 f2 f3
              go_wp2
              go_roundw
              case rel => exact ⟨j + 1, j, by have := HJL.out; omega, by go_num, rfl, hZ2, hbx2⟩
              case measure => have := HJL.out; simp [intOf]; omega
            · have heb : (q4 == u) = false := by rw [beq_eq_false_iff_ne]; exact he
              have hZ2 := HSK.out (fun h => he h.2)
              clear hZ he HSK
              go_wp2_with fail
              refine wp_region_quiet_below (by kernel_rfl) (by kernel_rfl) ?_
              repeat (go_big_quiet_step (fail))
              refine wpQuiet_nil ?_
              intro w11 hw11
              obtain ⟨⟨wx, hbW⟩, hw3⟩ := hw11
              dsimp only at hw3
              subst hw3
              have hbx2 := Lib.hid (below_next HBX.out hbW)
              clear f0 f1 f2 f3
              go_wp2
              go_roundw
              case rel => exact ⟨j + 1, z, by have := HJL.out; omega, by go_num, rfl, hZ2, hbx2⟩
              case measure => have := HJL.out; simp [intOf]; omega
        · obtain rfl : j = l := by omega
          have hjl' : ¬ (j : Int) < j := by omega
          have hzq : z = Mc.qm m s := by
            have h1 := hZ.out
            refine Mc.Plc.done hbi.out ?_
            rw [HP.out, HF.out, HL.out, show M.gz p s = u from hu.out]
            exact h1
          have htk : Hid ((Mc.ql m).take (s + 1) = (Mc.ql m).take s ++ [z]) := by
            show _ = _
            rw [M.take_gz (by rw [Mc.ql_len, HN.out]; exact hsn), Mc.ql_gz (by rw [HN.out]; exact hsn), hzq]
          have hbb := Lib.hid hbw
          have hown := (own_below hO.out hbx.out).alloc (.cells #[.int .i64 z] 3)
          have hS1 : Hid (Rd (wr.alloc (.cells #[.int .i64 z] 3)) (some ⟨wr.heap.size, 0, none⟩) [z]) := Rd.of_block (t := 3) (heap_alloc_new wr _)
          have hsz := hbw.size
          have hb9 := hbw.alloc hsz (.cells #[.int .i64 z] 3)
          have hfl : ((Mc.ql m).take s).length ≤ 64 := by rw [List.length_take]; omega
          clear hZ hzq hO hbr hbx
          go_wp2_with (at_builtin; refine wpList_append_list _ (W0 := w3) (B := w3.heap.size) (xs := (Mc.ql m).take s) (ys := [z]) hown hS1.out rfl (by simp; omega) (by simp; omega) hb9 rfl _ _ rfl rfl rfl ?_)
          intro v3 w4 hown3 hb4
          rw [← htk.out] at hown3
          have HO3 := Lib.hid hown3
          have HB3 := Lib.hid hb4
          clear hown3 hb4 hown hb9
          go_wp2
          go_roundw
          case rel => exact ⟨s + 1, v3, by omega, by go_num, rfl, HO3, HB3⟩
          case measure => simp [intOf]; omega
    · obtain rfl : s = n := by omega
      have hsn' : ¬ (s : Int) < s := by omega
      have hlen : (Mc.ql m).length = s := by rw [Mc.ql_len, HN.out]
      have h1 := hO.out
      rw [List.take_of_length_le (by omega)] at h1
      obtain ⟨RA, rc, rfl, _⟩ := own_formI h1
      have hfin : Hid (Rd wr RA (Mc.ql m) ∧ Below w.heap.size w wr) := ⟨Rd.of_own h1, below_next hbl3.out hbr.out⟩
      rw [hlen]
      clear hO hbr h1 hlen
      go_wp2
      go_ret
      exact ⟨RA, ⟨rc, rfl⟩, hfin.out⟩
end Go.Proofs.Ytiamkkgnjobljaa
