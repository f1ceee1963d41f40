/-
  Contract: Transitions. No statement is proved here.
-/
import Derived.Test.YtiohfflkolopeaaMd4
namespace Go.Proofs.Ytiohfflkolopeaa
open Go.RowKit
open Mc (Ed Ma Pe)
attribute [local go_sem] Oper.semAt_some

namespace Mc
def Cnt (l : List Pe) (k : Nat) (z : Nat) : Prop := (l.take k).countP (fun p => decide (0 ≤ p.2.2.1)) = z
theorem Cnt.start (l : List Pe) : Cnt l 0 0 := by simp [Cnt]
theorem Cnt.up {l : List Pe} {k z : Nat} {p : Pe} (h : Cnt l k z) (hp : l[k]? = some p) (hx : 0 ≤ p.2.2.1) : Cnt l (k + 1) (z + 1) := by
  unfold Cnt at h ⊢; rw [cnt_snoc hp, h, if_pos hx]
theorem Cnt.skip {l : List Pe} {k z : Nat} {p : Pe} (h : Cnt l k z) (hp : l[k]? = some p) (hx : ¬ 0 ≤ p.2.2.1) : Cnt l (k + 1) z := by
  unfold Cnt at h ⊢; rw [cnt_snoc hp, h, if_neg hx, Nat.add_zero]
theorem Cnt.done {rs : List (List Ed)} {z : Nat} (h : Cnt (pl 0 rs) (pl 0 rs).length z) : dfd rs = z := by
  unfold Cnt at h; rw [List.take_length, pl_cnt] at h; exact h
theorem Cnt.le {l : List Pe} {k z : Nat} (h : Cnt l k z) : z ≤ l.length := by
  unfold Cnt at h
  rw [← h]
  exact Nat.le_trans List.countP_le_length (by rw [List.length_take]; omega)
end Mc

set_option maxRecDepth 100000 in
set_option maxHeartbeats 4000000 in
theorem ptransitions_any (i o : Int) (rs : List (List Ed)) (A : Option Addr) (n c : Nat) (w : World) (hr : RdR w A rs) (hn : rs.length = n) (hnb : n ≤ 1000000) (hrl : ∀ row ∈ rs, row.length ≤ 1000000) :
    Calls Try.prog 14 #[.agg #[.int .i64 i, .int .i64 o, .slice A n c]] w fun e w' => e = .returned (.tuple #[.int .i64 (Mc.trV ⟨i, o, rs⟩), .int .i64 (Mc.chk ⟨i, o, rs⟩)]) ∧ Below w.heap.size w w' := by
  subst hn
  have RL := Lib.hid hrl
  clear hrl
  have hb0 : Below w.heap.size w (boxM w i o A rs.length c) := (Below.refl _ _).alloc (Nat.le_refl _) _
  obtain ⟨m, _⟩ : ∃ m : Nat, True := ⟨3, trivial⟩
  refine (callsIn_wide (n := m)).1 ?_
  refine callsIn_of_wp_marks Try.func14 rfl trivial ?_
  simp only [Try.ntmps14, List.size_toArray, List.length_cons, List.length_nil, Nat.reduceAdd, Nat.reduceSub, Array.replicate_succ, Array.replicate_zero, List.push_toArray, List.append_toArray, List.nil_append, List.cons_append]
  gi_wp2_with fail
  refine wide_calls (pcheck_any i o rs A rs.length c _ (hr.below hb0) rfl hnb RL.out) ?_
  rintro e w1 ⟨rfl, hb1⟩
  have hB1 := below_next hb0 hb1
  have hM1 := (BxM.new w i o A rs.length c).mvB hb1
  have hz0 : w.heap.size < w1.heap.size := heap_lt hM1
  clear hb0 hb1
  obtain ⟨q0, q1, q2⟩ := hM1.cells
  by_cases hz : Mc.chk ⟨i, o, rs⟩ = 0
  · have V := Mc.val_of hz
    have HE := Lib.hid (fun k p h => Mc.pl_ed (m := ⟨i, o, rs⟩) V (k := k) (p := p) h)
    have HN : Hid ((Mc.pl 0 rs).length ≤ 1024) := by
      have h1 := Mc.pl_total V
      have h2 := V.r1; have h3 := V.i1; have h4 := V.i0
      simp only at h1 h2 h3 h4
      have h5 : (rs.length : Int) * i ≤ 64 * 16 := Int.mul_le_mul (by omega) h3 (by omega) (by omega)
      show _ ≤ _
      omega
    have hv : Hid (Mc.trV ⟨i, o, rs⟩ = Mc.dfd rs) := by show _ = _; unfold Mc.trV; rw [if_pos hz]
    clear V
    rw [hz]
    have hF0 : Fr1 w w.heap.size w1.heap.size i o A rs.length c (.int .i64 0) (w1.alloc (.cells #[.int .i64 0] 3)) :=
      ⟨hB1.alloc (by omega) _, hM1.mvB ((Below.refl _ _).alloc (Nat.le_refl _) _), Box.new _ _ _, Nat.le_refl _, by omega, by omega⟩
    obtain ⟨w2, hw2⟩ : ∃ w2, w1.alloc (.cells #[.int .i64 0] 3) = w2 := ⟨_, rfl⟩
    rw [hw2] at hF0
    obtain ⟨r, hrr⟩ : ∃ r, w1.heap.size = r := ⟨_, rfl⟩
    rw [hrr] at hF0 hz0
    clear q0 q1 q2 hM1
    have qf := hF0.br.2
    have qc := hF0.br.1
    have hF3 := hF0.put (.int .i64 0)
    obtain ⟨w9, hw9⟩ : ∃ w9, w2.setCell ⟨r, 0, none⟩ (.int .i64 0) = w9 := ⟨_, rfl⟩
    rw [hw9] at hF3
    have hs9 : r < w9.heap.size := hF3.br.lt
    obtain ⟨q0, q1, q2⟩ := hF3.bm.cells
    gi_wp2_with fail
    refine wide_calls (edges_any _ _ _ _ _ _) ?_
    rintro e w3 ⟨rfl, rfl⟩
    gi_wp2_with fail
    have hbx : Below w9.heap.size w9 (boxM w9 i o A rs.length c) := (Below.refl _ _).alloc (Nat.le_refl _) _
    have hG := edges1_gives (m - 1) w9.heap.size i o A rs.length c rs (fun b => b = r) w (boxM w9 i o A rs.length c) hr rfl (below_next hF3.bel hbx) (BxM.new w9 i o A rs.length c) (by show ¬ _ = _; omega) (fun b h => by show w.heap.size ≤ b; omega) hnb RL.out
    have hF1 := hF3.below hbx
    have hs1 : r + 2 ≤ (boxM w9 i o A rs.length c).heap.size := by simp; omega
    clear q0 q1 q2 qf qc hF3 hw9 hF0 hw2
    refine range_list (m := m) 48 _ rfl (enters_of Try.func48 (by kernel_rfl) rfl) ((Mc.pl 0 rs).map ev) (fun b => b = r) (fun b h => by show b < _; omega) ?hps hG
      (fun k W => ∃ z : Nat, Fr1 w w.heap.size r i o A rs.length c (.int .i64 z) W ∧ Hid (Mc.Cnt (Mc.pl 0 rs) k z))
      (fun _ _ => False)
      (fun k A B ⟨z, h1, h2⟩ c => ⟨z, h1.cells c (by omega), h2⟩) (fun c' A B h c => h) ⟨0, hF1, Mc.Cnt.start _⟩ ?round ?done ?stop
    case hps => intro v hv; obtain ⟨p, _, rfl⟩ := List.mem_map.1 hv; rfl
    case round =>
      intro l k v W hk hW ⟨z, hI, hA⟩
      rw [List.getElem?_map, Option.map_eq_some_iff] at hk
      obtain ⟨⟨s, j, x, y⟩, hp, rfl⟩ := hk
      have HP := Lib.hid hp
      have hxx := HE.out _ _ hp
      have hzl := Nat.le_trans hA.out.le HN.out
      clear hp
      simp only [ev]
      gi_wp2_with fail
      refine ⟨(Below.refl _ _).alloc (Nat.le_refl _) _, fun W2 hc2 => ?_⟩
      obtain ⟨p0, p1, _, _⟩ := ((BxE.new W x y).mvC hc2).cells
      have hI2 := (hI.below ((Below.refl _ _).alloc (Nat.le_refl _) (.cells #[.int .i64 x, .int .i64 y] 39))).cells hc2 (by omega)
      clear hc2 hI hW
      gi_wp2_with fail
      refine round_calls (l := l) (defined_any _ _ _) ?_
      rintro e w4 ⟨rfl, hb4⟩
      have hI3 := hI2.below hb4
      have qc := hI3.br.1
      have qf := hI3.br.2
      by_cases hx : x = -1
      · have R : roundP (fun b => b = r) (fun k W => ∃ z : Nat, Fr1 w w.heap.size r i o A rs.length c (.int .i64 z) W ∧ Hid (Mc.Cnt (Mc.pl 0 rs) k z)) (fun _ _ => False) k W2 .normal ⟨#[], []⟩ w4 :=
          ⟨⟨z, hI3, hA.out.skip HP.out (by simp only; omega)⟩, KA.of_below hb4⟩
        have RH := Lib.hid R
        clear R
        have hxd : decide (x = -1) = true := decide_eq_true hx
        gi_wp2_with fail
        exact RH.out
      · have R : roundP (fun b => b = r) (fun k W => ∃ z : Nat, Fr1 w w.heap.size r i o A rs.length c (.int .i64 z) W ∧ Hid (Mc.Cnt (Mc.pl 0 rs) k z)) (fun _ _ => False) k W2 .normal ⟨#[], []⟩ (w4.setCell ⟨r, 0, none⟩ (.int .i64 ((z : Int) + 1))) :=
          ⟨⟨z + 1, by have := hI3.put (.int .i64 ((z : Int) + 1)); simpa using this, hA.out.up HP.out (by simp only; omega)⟩, (KA.of_below hb4).trans (KA.one _ _ _)⟩
        have RH := Lib.hid R
        clear R
        have hxd : decide (x = -1) = false := decide_eq_false hx
        gi_wp2_with fail
        exact RH.out
    case done =>
      intro N W hN ⟨z, hI, hA⟩ hd
      have hf : Hid (Mc.dfd rs = z) := by
        have := hA.out
        rw [List.length_map] at this
        exact this.done
      have qc := hI.br.1
      have hI3 := hI.shut hd (by omega)
      simp only [marked]
      gi_wp2_with fail
      refine ⟨by simp, .inl ⟨_, _, rfl, run_takeDeferred hd, ?_⟩⟩
      refine ⟨.tuple #[.int .i64 z, .int .i64 0], ?_, by rw [hv.out, hf.out, hz], hI3.bel⟩
      simp [results, Try.f14, go_sem]
    case stop =>
      rintro N c' W hN h hd
      exact h.elim
  · have hzb : (Mc.chk ⟨i, o, rs⟩ == 0) = false := by rw [beq_eq_false_iff_ne]; exact hz
    have hv : Hid (Mc.trV ⟨i, o, rs⟩ = 0) := by show _ = _; unfold Mc.trV; rw [if_neg hz]
    obtain ⟨z, hzz⟩ : ∃ z, Mc.chk ⟨i, o, rs⟩ = z := ⟨_, rfl⟩
    rw [hzz] at hz hzb ⊢
    have HZ := Lib.hid hzz
    clear hzz
    gi_wp2_with fail
    refine ⟨.tuple #[.int .i64 0, .int .i64 z], ?_, by rw [hv.out, HZ.out], hB1⟩
    simp [results, Try.f14, go_sem]
end Go.Proofs.Ytiohfflkolopeaa
