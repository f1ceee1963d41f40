/-
  Contract: Same. No statement is proved here.
-/
import Derived.Test.YtnodnfailjmpeaaSMdZ
import Derived.Test.YtnodnfailjmpeaaRfZ
namespace Go.Proofs.Ytnodnfailjmpeaa
open Go.RowKit
open Mc (Ed Ma Pe)
attribute [local go_sem] Oper.semAt_some

namespace Mc
/-- The first k edges stand in other rows, too. -/
def Eqs (rs qs : List (List Ed)) (k : Nat) : Prop := ∀ p ∈ (pl 0 rs).take k, ∃ row, qs[p.1]? = some row ∧ row[p.2.1]? = some p.2.2
theorem Eqs.start (rs qs : List (List Ed)) : Eqs rs qs 0 := fun p h => by simp at h
theorem Eqs.snoc {rs qs : List (List Ed)} {k : Nat} {p : Pe} {row : List Ed} (h : Eqs rs qs k) (hp : (pl 0 rs)[k]? = some p) (h1 : qs[p.1]? = some row) (h2 : row[p.2.1]? = some p.2.2) : Eqs rs qs (k + 1) := fun q hq => by
  rw [List.take_add_one, hp, List.mem_append] at hq
  rcases hq with hq | hq
  · exact h q hq
  · simp at hq
    subst hq
    exact ⟨row, h1, h2⟩
theorem Eqs.done {rs qs : List (List Ed)} {i : Int} (h : Eqs rs qs (pl 0 rs).length) (hl : rs.length = qs.length) (h1 : ∀ row ∈ rs, (row.length : Int) = i) (h2 : ∀ row ∈ qs, (row.length : Int) = i) : rs = qs := by
  apply List.ext_getElem hl
  intro s hs1 hs2
  have e1 := h1 rs[s] (List.getElem_mem hs1)
  have e2 := h2 qs[s] (List.getElem_mem hs2)
  apply List.ext_getElem (by omega)
  intro j hj1 hj2
  have hp := pl_at (List.getElem?_eq_getElem hs1) (List.getElem?_eq_getElem hj1)
  obtain ⟨row, h3, h4⟩ := h _ (by rw [List.take_length]; exact List.mem_of_getElem? hp)
  simp only at h3 h4
  rw [List.getElem?_eq_getElem hs2] at h3
  injection h3 with h3
  subst h3
  rw [List.getElem?_eq_getElem hj2] at h4
  injection h4 with h4
  exact h4.symm
theorem ne_pl {rs qs : List (List Ed)} {k : Nat} {p : Pe} {row : List Ed} {x : Ed} (hp : (pl 0 rs)[k]? = some p) (h1 : qs[p.1]? = some row) (h2 : row[p.2.1]? = some x) (hne : x ≠ p.2.2) : rs ≠ qs := by
  rintro rfl
  obtain ⟨row', h3, h4⟩ := pl_get hp
  rw [h1] at h3
  injection h3 with h3
  subst h3
  rw [h2] at h4
  injection h4 with h4
  exact hne h4
end Mc

/-- Two machines in boxes, a result in another one. -/
structure Sm (w : World) (g h r : Nat) (i o : Int) (A : Option Addr) (n c : Nat) (i' o' : Int) (B : Option Addr) (k d : Nat) (v : Value) (W : World) : Prop where
  fr : Fr1 w g r i o A n c v W
  bb : BxM W h i' o' B k d
  h0 : w.heap.size ≤ h
  ne : h ≠ r
section
variable {w W W' : World} {g h r : Nat} {i o i' o' : Int} {A B : Option Addr} {n c k d : Nat} {v : Value}
theorem Sm.cells {b : Nat} (x : Sm w g h r i o A n c i' o' B k d v W) (kk : Cells b W W') (hB : w.heap.size ≤ b) : Sm w g h r i o A n c i' o' B k d v W' :=
  ⟨x.fr.cells kk hB, x.bb.mvC kk, x.h0, x.ne⟩
theorem Sm.below (x : Sm w g h r i o A n c i' o' B k d v W) (kk : Below W.heap.size W W') : Sm w g h r i o A n c i' o' B k d v W' := x.cells (Cells.of_below' kk) x.fr.bel.size
theorem Sm.shut (x : Sm w g h r i o A n c i' o' B k d v W) {N : Nat} (hN : W.heap[N]? = some (.deferred (some []))) (hw : w.heap.size ≤ N) : Sm w g h r i o A n c i' o' B k d v (W.putObj N (.deferred none)) :=
  x.cells (b := w.heap.size) (Cells.put _ hN rfl hw) (Nat.le_refl _)
theorem Sm.put (x : Sm w g h r i o A n c i' o' B k d v W) (u : Value) : Sm w g h r i o A n c i' o' B k d u (W.setCell ⟨r, 0, none⟩ u) :=
  ⟨x.fr.put u, x.bb.farS x.ne u, x.h0, x.ne⟩
end

set_option maxRecDepth 100000 in
set_option maxHeartbeats 1600000 in
theorem psame_any (i o i' o' : Int) (rs qs : List (List Ed)) (A B : Option Addr) (n c k d : Nat) (w : World) (hr : RdR w A rs) (hq : RdR w B qs) (hn : rs.length = n) (hnb : n ≤ 1000000) (hrl : ∀ row ∈ rs, row.length ≤ 1000000) (hk : qs.length = k) (hkb : k ≤ 1000000) (hql : ∀ row ∈ qs, row.length ≤ 1000000) :
    Calls Try.prog 94 #[.agg #[.int .i64 i, .int .i64 o, .slice A n c], .agg #[.int .i64 i', .int .i64 o', .slice B k d]] w fun e w' => e = .returned (.bool (Mc.samV ⟨i, o, rs⟩ ⟨i', o', qs⟩)) ∧ Below w.heap.size w w' := by
  subst hn hk
  have RL := Lib.hid hrl
  have QL := Lib.hid hql
  clear hrl hql
  obtain ⟨W1, hW1⟩ : ∃ W1, ((w.alloc (.cells #[.int .i64 i, .int .i64 o, .slice A rs.length c] 24)).alloc (.cells #[.int .i64 i', .int .i64 o', .slice B qs.length d] 24)).alloc (.cells #[.bool false] 4) = W1 := ⟨_, rfl⟩
  have hF0 : Sm w w.heap.size (w.heap.size + 1) (w.heap.size + 1 + 1) i o A rs.length c i' o' B qs.length d (.bool false) W1 := by
    rw [← hW1]
    exact ⟨⟨(((Below.refl _ _).alloc (Nat.le_refl _) _).alloc (by simp) _).alloc (by simp; omega) _, ((BxM.new w i o A rs.length c).mvB ((Below.refl _ _).alloc (Nat.le_refl _) _)).mvB ((Below.refl _ _).alloc (Nat.le_refl _) _), Box.new_ (by simp) _ _, Nat.le_refl _, by omega, by omega⟩,
      (BxM.newE (w := boxM w i o A rs.length c) (by simp) i' o' B qs.length d).mvB ((Below.refl _ _).alloc (Nat.le_refl _) _), by omega, by omega⟩
  obtain ⟨m, _⟩ : ∃ m : Nat, True := ⟨3, trivial⟩
  refine (callsIn_wide (n := m)).1 ?_
  refine callsIn_of_wp_marks Try.func94 rfl trivial ?_
  simp only [Try.ntmps94, List.size_toArray, List.length_cons, List.length_nil, Nat.reduceAdd, Nat.reduceSub, Array.replicate_succ, Array.replicate_zero, List.push_toArray, List.append_toArray, List.nil_append, List.cons_append]
  obtain ⟨q0, q1, q2⟩ := hF0.fr.bm.cells
  obtain ⟨z0, z1, z2⟩ := hF0.bb.cells
  gi_wp2_with fail
  refine wide_calls (pcheck_any i o rs A rs.length c W1 (hr.below hF0.fr.bel) rfl hnb RL.out) ?_
  rintro e w1 ⟨rfl, hb1⟩
  have hF := hF0.below hb1
  clear hF0 hb1 hW1 q0 q1 q2 z0 z1 z2
  obtain ⟨q0, q1, q2⟩ := hF.fr.bm.cells
  obtain ⟨z0, z1, z2⟩ := hF.bb.cells
  have qc := hF.fr.br.1
  have qf := hF.fr.br.2
  by_cases hz : Mc.chk ⟨i, o, rs⟩ = 0
  · rw [hz]
    gi_wp2_with fail
    refine wide_calls (pcheck_any i' o' qs B qs.length d w1 (hq.below hF.fr.bel) rfl hkb QL.out) ?_
    rintro e w2 ⟨rfl, hb2⟩
    replace hF := hF.below hb2
    clear hb2 q0 q1 q2 z0 z1 z2 qc qf
    obtain ⟨q0, q1, q2⟩ := hF.fr.bm.cells
    obtain ⟨z0, z1, z2⟩ := hF.bb.cells
    have qc := hF.fr.br.1
    have qf := hF.fr.br.2
    by_cases hz2 : Mc.chk ⟨i', o', qs⟩ = 0
    · rw [hz2]
      have V := Mc.val_of hz
      have V2 := Mc.val_of hz2
      by_cases hi : i = i'
      · by_cases ho : o = o'
        · by_cases hl : rs.length = qs.length
          · subst hi ho
            have hlb : ((rs.length : Int) == qs.length) = true := by rw [hl]; simp
            have HL := Lib.hid hl
            clear hl
            gi_wp2_with fail
            refine wide_calls (edges_any _ _ _ _ _ _) ?_
            rintro e w3 ⟨rfl, rfl⟩
            gi_wp2_with fail
            have hbx : Below w2.heap.size w2 (boxM w2 i o A rs.length c) := (Below.refl _ _).alloc (Nat.le_refl _) _
            have hz1 : w.heap.size + 2 < w2.heap.size := hF.fr.br.lt
            have hG := edges1_gives (m - 1) w2.heap.size i o A rs.length c rs (fun b => b = w.heap.size + 1 + 1) w (boxM w2 i o A rs.length c) hr rfl (below_next hF.fr.bel hbx) (BxM.new w2 i o A rs.length c) (by show ¬ _ = _; omega) (fun b h => by show w.heap.size ≤ b; omega) hnb RL.out
            have hF1 := hF.below hbx
            have hs1 : w.heap.size + 4 ≤ (boxM w2 i o A rs.length c).heap.size := by simp; omega
            have LR := Lib.hid V.len
            have LQ := Lib.hid V2.len
            have hsv : Hid (Mc.samV ⟨i, o, rs⟩ ⟨i, o, qs⟩ = decide (rs = qs)) := by show _ = _; simp [Mc.samV, hz, hz2]
            clear q0 q1 q2 z0 z1 z2 qc qf V V2 hlb hz hz2 hbx
            refine range_list (m := m) 122 _ rfl (enters_of Try.func122 (by kernel_rfl) rfl) ((Mc.pl 0 rs).map ev) (fun b => b = w.heap.size + 1 + 1) (fun b h => by show b < _; omega) ?hps hG
              (fun k W => Sm w w.heap.size (w.heap.size + 1) (w.heap.size + 1 + 1) i o A rs.length c i o B qs.length d (.bool false) W ∧ Mc.Eqs rs qs k)
              (fun c' W => c' = .ret ∧ Sm w w.heap.size (w.heap.size + 1) (w.heap.size + 1 + 1) i o A rs.length c i o B qs.length d (.bool false) W ∧ Hid (rs ≠ qs))
              (fun k A B h c => ⟨h.1.cells c (by omega), h.2⟩) (fun c' A B h c => ⟨h.1, h.2.1.cells c (by omega), h.2.2⟩) ⟨hF1, Mc.Eqs.start _ _⟩ ?round ?done ?stop
            case hps => intro v hv; obtain ⟨p, _, rfl⟩ := List.mem_map.1 hv; rfl
            case round =>
              intro l k v W hk hW ⟨hI, hA⟩
              rw [List.getElem?_map, Option.map_eq_some_iff] at hk
              obtain ⟨⟨s, j, x, y⟩, hp, rfl⟩ := hk
              have HP := Lib.hid hp
              have HA := Lib.hid hA
              obtain ⟨row0, hr1, hr2⟩ := Mc.pl_get hp
              simp only at hr1 hr2
              have hsl : s < qs.length := by rw [← HL.out]; exact (List.getElem?_eq_some_iff.1 hr1).1
              have hrow0 := LR.out row0 (List.mem_of_getElem? hr1)
              have hj0 : j < row0.length := (List.getElem?_eq_some_iff.1 hr2).1
              clear hp hA hr1 hr2
              simp only [ev]
              gi_wp2_with fail
              have hbA : Below W.heap.size W ((W.alloc (.cells #[.int .i64 s, .int .i64 j] 81)).alloc (.cells #[.int .i64 x, .int .i64 y] 26)) := ((Below.refl _ _).alloc (Nat.le_refl _) _).alloc (by simp) _
              refine ⟨hbA, fun W2 hc2 => ?_⟩
              have s0 : W2.cell? ⟨W.heap.size, 0, none⟩ = some (.int .i64 s) := hc2.cell (by rw [World.cell?_alloc_past _ _ _ (by simp), World.cell?_alloc_at _ _ _ _ rfl]; rfl)
              have s1 : W2.cell? ⟨W.heap.size, 1, none⟩ = some (.int .i64 j) := hc2.cell (by rw [World.cell?_alloc_past _ _ _ (by simp), World.cell?_alloc_at _ _ _ _ rfl]; rfl)
              obtain ⟨p0, p1, _, _⟩ := ((BxE.new (W.alloc (.cells #[.int .i64 s, .int .i64 j] 81)) x y).mvC hc2).cells
              rw [World.size_alloc] at p0 p1
              have hI2 := (hI.below hbA).cells hc2 (by omega)
              clear hc2 hI hbA hW
              obtain ⟨z0, z1, z2⟩ := hI2.bb.cells
              have qc := hI2.fr.br.1
              have qf := hI2.fr.br.2
              obtain ⟨b, off, C, dd, qn, row, rfl, hb, hcw, _, _, _, hpp, hln, hqr⟩ := hq.at_ hsl
              have hrow1 := LQ.out row (List.mem_of_getElem? hqr.out)
              try simp only at hrow0
              try simp only at hrow1
              have hjl : j < row.length := by omega
              obtain ⟨b2, off2, x', y', rfl, hb2, hx0, hy0, hqe⟩ := hpp.at_ hjl
              have hc1 := (hI2.fr.bel.cell (p := ⟨b, off + s, none⟩) hb).trans hcw
              have hx := (hI2.fr.bel.cell (p := ⟨b2, off2 + j * 2, none⟩) hb2).trans hx0
              have hy := (hI2.fr.bel.cell (p := ⟨b2, off2 + j * 2 + 1, none⟩) hb2).trans hy0
              have hjq : j < qn := by rw [← hln.out]; exact hjl
              clear hcw hx0 hy0 hrow0 hrow1 hj0 hjl
              by_cases he : x' = x ∧ y' = y
              · have hrun : ∀ w, (binOp .neq 26 (.agg #[.int .i64 x', .int .i64 y']) (.agg #[.int .i64 x, .int .i64 y])).run Try.prog w = .ok (.bool false) w := fun w => by
                  rw [run_neq_edge, he.1, he.2]; simp
                gi_wp2_with fail
                refine wpIn_region_quiet_lit (by kernel_rfl) (by kernel_rfl) (by kernel_rfl) ?_
                repeat (quiet_step (fail))
                refine wpQuiet_nil ?_
                rintro _ ⟨nq, rfl⟩
                have R : roundP (fun b => b = w.heap.size + 1 + 1) (fun k W => Sm w w.heap.size (w.heap.size + 1) (w.heap.size + 1 + 1) i o A rs.length c i o (some ⟨b, off, none⟩) qs.length d (.bool false) W ∧ Mc.Eqs rs qs k) (fun c' W => c' = .ret ∧ Sm w w.heap.size (w.heap.size + 1) (w.heap.size + 1 + 1) i o A rs.length c i o (some ⟨b, off, none⟩) qs.length d (.bool false) W ∧ Hid (rs ≠ qs)) k W2 .normal ⟨#[], []⟩ (W2.drewN nq) :=
                  ⟨⟨hI2.cells (Cells.drewN (B := w.heap.size) W2 nq) (Nat.le_refl _), HA.out.snoc HP.out hqr.out (by rw [hqe.out, he.1, he.2])⟩, KA.drewN W2 nq⟩
                have RH := Lib.hid R
                clear R
                gi_wp2_with fail
                exact RH.out
              · have hrun : ∀ w, (binOp .neq 26 (.agg #[.int .i64 x', .int .i64 y']) (.agg #[.int .i64 x, .int .i64 y])).run Try.prog w = .ok (.bool true) w := fun w => by
                  rw [run_neq_edge]
                  have : ((x' == x) && (y' == y)) = false := by
                    cases h : ((x' == x) && (y' == y)) with
                    | false => rfl
                    | true => simp at h; exact absurd h he
                  rw [this]; rfl
                gi_wp2_with fail
                refine wpIn_region_quiet_lit (by kernel_rfl) (by kernel_rfl) (by kernel_rfl) ?_
                repeat (quiet_step (fail))
                refine wpQuiet_nil ?_
                rintro _ ⟨nq, rfl⟩
                have hI4 := hI2.cells (Cells.drewN (B := w.heap.size) W2 nq) (Nat.le_refl _)
                have R : roundP (fun b => b = w.heap.size + 1 + 1) (fun k W => Sm w w.heap.size (w.heap.size + 1) (w.heap.size + 1 + 1) i o A rs.length c i o (some ⟨b, off, none⟩) qs.length d (.bool false) W ∧ Mc.Eqs rs qs k) (fun c' W => c' = .ret ∧ Sm w w.heap.size (w.heap.size + 1) (w.heap.size + 1 + 1) i o A rs.length c i o (some ⟨b, off, none⟩) qs.length d (.bool false) W ∧ Hid (rs ≠ qs)) k W2 .ret ⟨#[], []⟩ ((W2.drewN nq).setCell ⟨w.heap.size + 1 + 1, 0, none⟩ (.bool false)) :=
                  ⟨⟨rfl, hI4.put _, Mc.ne_pl HP.out hqr.out hqe.out (fun e => he (by injection e with e1 e2; exact ⟨e1, e2⟩))⟩, (KA.drewN W2 nq).trans (KA.one _ _ _)⟩
                have RH := Lib.hid R
                clear R
                gi_wp2_with fail
                exact RH.out
            case done =>
              intro N W hN ⟨hI, hA⟩ hd
              have hf : Hid (Mc.samV ⟨i, o, rs⟩ ⟨i, o, qs⟩ = true) := by
                show _ = _
                rw [hsv.out]
                refine decide_eq_true (Mc.Eqs.done (by rw [← List.length_map]; exact hA) HL.out LR.out LQ.out)
              have qc := hI.fr.br.1
              have qf := hI.fr.br.2
              have hI2 := hI.put (.bool true)
              have hd2 := far_deferred hd hI.fr.br (.bool true)
              have hI3 := hI2.shut hd2 (by omega)
              simp only [marked]
              gi_wp2_with fail
              refine ⟨by simp, .inl ⟨_, _, rfl, run_takeDeferred hd2, ?_⟩⟩
              refine ⟨.bool true, ?_, ret_bool hf.out.symm, hI3.fr.bel⟩
              simp [results, Try.f94, go_sem, hI3.fr.br.1]
            case stop =>
              rintro N c' W hN ⟨rfl, hI, hne⟩ hd
              have hf : Hid (Mc.samV ⟨i, o, rs⟩ ⟨i, o, qs⟩ = false) := by show _ = _; rw [hsv.out]; exact decide_eq_false hne
              have hI3 := hI.shut hd (by omega)
              simp only [marked]
              gi_wp2_with fail
              refine ⟨by simp, .inl ⟨_, _, rfl, run_takeDeferred hd, ?_⟩⟩
              refine ⟨.bool false, ?_, ret_bool hf.out.symm, hI3.fr.bel⟩
              simp [results, Try.f94, go_sem, hI3.fr.br.1]
          · have hf : Hid (Mc.samV ⟨i, o, rs⟩ ⟨i', o', qs⟩ = false) := by
              show _ = _
              simp [Mc.samV]; intro _ _ _ _ h; exact absurd (congrArg List.length h) hl
            have hlb : ((rs.length : Int) == qs.length) = false := by rw [beq_eq_false_iff_ne]; omega
            subst hi ho
            clear V V2 hl
            gi_wp2_with fail
            have hI3 := hF.put (.bool false)
            refine ⟨.bool false, ?_, ret_bool hf.out.symm, hI3.fr.bel⟩
            simp [results, Try.f94, go_sem, hI3.fr.br.1]
        · have hf : Hid (Mc.samV ⟨i, o, rs⟩ ⟨i', o', qs⟩ = false) := by
            show _ = _
            simp [Mc.samV, ho]
          have hob : (o == o') = false := by rw [beq_eq_false_iff_ne]; exact ho
          subst hi
          clear V V2
          gi_wp2_with fail
          have hI3 := hF.put (.bool false)
          refine ⟨.bool false, ?_, ret_bool hf.out.symm, hI3.fr.bel⟩
          simp [results, Try.f94, go_sem, hI3.fr.br.1]
      · have hf : Hid (Mc.samV ⟨i, o, rs⟩ ⟨i', o', qs⟩ = false) := by
          show _ = _
          simp [Mc.samV, hi]
        have hib : (i == i') = false := by rw [beq_eq_false_iff_ne]; exact hi
        clear V V2
        gi_wp2_with fail
        have hI3 := hF.put (.bool false)
        refine ⟨.bool false, ?_, ret_bool hf.out.symm, hI3.fr.bel⟩
        simp [results, Try.f94, go_sem, hI3.fr.br.1]
    · have hzb : (Mc.chk ⟨i', o', qs⟩ == 0) = false := by rw [beq_eq_false_iff_ne]; exact hz2
      have hf : Hid (Mc.samV ⟨i, o, rs⟩ ⟨i', o', qs⟩ = false) := by show _ = _; simp [Mc.samV, hz2]
      generalize Mc.chk ⟨i', o', qs⟩ = z at hz2 hzb ⊢
      gi_wp2_with fail
      have hI3 := hF.put (.bool false)
      refine ⟨.bool false, ?_, ret_bool hf.out.symm, hI3.fr.bel⟩
      simp [results, Try.f94, go_sem, hI3.fr.br.1]
  · have hzb : (Mc.chk ⟨i, o, rs⟩ == 0) = false := by rw [beq_eq_false_iff_ne]; exact hz
    have hf : Hid (Mc.samV ⟨i, o, rs⟩ ⟨i', o', qs⟩ = false) := by show _ = _; simp [Mc.samV, hz]
    have hI3 := hF.put (.bool false)
    rcases Mc.chk_vals ⟨i, o, rs⟩ with h | h | h
    · exact absurd h hz
    all_goals
      rw [h]
      gi_wp2_with fail
      refine ⟨trivial, ?_⟩
      gi_wp2_with fail
      refine ⟨.bool false, ?_, ret_bool hf.out.symm, hI3.fr.bel⟩
      simp [results, Try.f94, go_sem, hI3.fr.br.1]
end Go.Proofs.Ytnodnfailjmpeaa
