/-
  Contracts: Complete, Transitions. No statement is proved here.
-/
import Derived.Test.YtiohfflkolopeaaMd3
namespace Go.Proofs.Ytiohfflkolopeaa
open Go.RowKit
open Mc (Ed Ma Pe)
attribute [local go_sem] Oper.semAt_some

namespace Mc
theorem pl_ed {m : Ma} (v : Val m) {k : Nat} {p : Pe} (h : (pl 0 m.r)[k]? = some p) : p.2.2.1 = -1 ∨ 0 ≤ p.2.2.1 := by
  obtain ⟨row, h1, h2⟩ := pl_get h
  rcases v.ok row (List.mem_of_getElem? h1) p.2.2 (List.mem_of_getElem? h2) with ⟨a, _⟩ | ⟨a, _⟩
  · exact .inl a
  · exact .inr a
theorem pl_total {m : Ma} (v : Val m) : ((pl 0 m.r).length : Int) = m.r.length * m.i := pl_len m.r 0 v.len
theorem cmp_all {m : Ma} (v : Val m) : cmpV m = (pl 0 m.r).all (fun p => decide (0 ≤ p.2.2.1)) := by
  unfold cmpV
  rw [if_pos (chk_of v), ← pl_total v, ← pl_cnt m.r 0]
  cases h : (pl 0 m.r).all (fun p => decide (0 ≤ p.2.2.1)) with
  | true =>
    rw [beq_iff_eq]
    have := List.countP_eq_length.2 (List.all_eq_true.1 h)
    rw [this]
  | false =>
    rw [beq_eq_false_iff_ne]
    intro e
    have e2 : (pl 0 m.r).countP (fun p => decide (0 ≤ p.2.2.1)) = (pl 0 m.r).length := by omega
    rw [List.all_eq_true.2 (List.countP_eq_length.1 e2)] at h
    cases h
theorem cnt_snoc {l : List Pe} {k : Nat} {p : Pe} (h : l[k]? = some p) : (l.take (k + 1)).countP (fun p => decide (0 ≤ p.2.2.1)) = (l.take k).countP (fun p => decide (0 ≤ p.2.2.1)) + if 0 ≤ p.2.2.1 then 1 else 0 := by
  rw [List.take_add_one, List.countP_append, h]
  by_cases hx : 0 ≤ p.2.2.1 <;> simp [hx]
def Alld (l : List Pe) (k : Nat) : Prop := (l.take k).all (fun p => decide (0 ≤ p.2.2.1)) = true
end Mc

/-- A machine in a box, two results in other ones. -/
structure Fr2 (w : World) (g r s : Nat) (i o : Int) (A : Option Addr) (n c : Nat) (v u : Value) (W : World) : Prop where
  fr : Fr1 w g r i o A n c v W
  bs : Box W s u
  s0 : w.heap.size ≤ s
  ne1 : g ≠ s
  ne2 : r ≠ s
section
variable {w W W' : World} {g r s : Nat} {i o : Int} {A : Option Addr} {n c : Nat} {v u : Value}
theorem Fr2.cells {B : Nat} (h : Fr2 w g r s i o A n c v u W) (k : Cells B W W') (hB : w.heap.size ≤ B) : Fr2 w g r s i o A n c v u W' :=
  ⟨h.fr.cells k hB, h.bs.cells k, h.s0, h.ne1, h.ne2⟩
theorem Fr2.below (h : Fr2 w g r s i o A n c v u W) (k : Below W.heap.size W W') : Fr2 w g r s i o A n c v u W' := h.cells (Cells.of_below' k) h.fr.bel.size
theorem Fr2.put (h : Fr2 w g r s i o A n c v u W) (x : Value) : Fr2 w g r s i o A n c x u (W.setCell ⟨r, 0, none⟩ x) :=
  ⟨h.fr.put x, h.bs.far h.ne2.symm x, h.s0, h.ne1, h.ne2⟩
theorem Fr2.put2 (h : Fr2 w g r s i o A n c v u W) (x : Value) : Fr2 w g r s i o A n c v x (W.setCell ⟨s, 0, none⟩ x) :=
  ⟨⟨h.fr.bel.setCell (p := ⟨s, 0, none⟩) h.s0 x, h.fr.bm.farS h.ne1 x, h.fr.br.far h.ne2 x, h.fr.g0, h.fr.r0, h.fr.ne⟩, h.bs.set_ x, h.s0, h.ne1, h.ne2⟩
theorem Fr2.shut (h : Fr2 w g r s i o A n c v u W) {N : Nat} (hN : W.heap[N]? = some (.deferred (some []))) (hw : w.heap.size ≤ N) : Fr2 w g r s i o A n c v u (W.putObj N (.deferred none)) :=
  h.cells (B := w.heap.size) (Cells.put _ hN rfl hw) (Nat.le_refl _)
end
theorem far_deferred {W : World} {N r : Nat} (hd : W.heap[N]? = some (.deferred (some []))) {v : Value} (hb : Box W r v) (u : Value) : (W.setCell ⟨r, 0, none⟩ u).heap[N]? = some (.deferred (some [])) := by
  refine (Below.heap_setCell W ⟨r, 0, none⟩ u N ?_).trans hd
  rintro rfl
  obtain ⟨x, hx, hc⟩ := cell_block hb.1
  rw [hd] at hx
  cases hx
  cases hc

set_option maxRecDepth 100000 in
set_option maxHeartbeats 4000000 in
theorem pcomplete_any (i o : Int) (rs : List (List Ed)) (A : Option Addr) (n c : Nat) (w : World) (hr : RdR w A rs) (hn : rs.length = n) (hnb : n ≤ 1000000) (hrl : ∀ row ∈ rs, row.length ≤ 1000000) :
    Calls Try.prog 12 #[.agg #[.int .i64 i, .int .i64 o, .slice A n c]] w fun e w' => e = .returned (.tuple #[.bool (Mc.cmpV ⟨i, o, rs⟩), .int .i64 (Mc.chk ⟨i, o, rs⟩)]) ∧ Below w.heap.size w w' := by
  subst hn
  have RL := Lib.hid hrl
  clear hrl
  obtain ⟨W1, hW1⟩ : ∃ W1, ((w.alloc (.cells #[.int .i64 i, .int .i64 o, .slice A rs.length c] 24)).alloc (.cells #[.bool false] 4)).alloc (.cells #[.int .i64 0] 28) = W1 := ⟨_, rfl⟩
  have hF0 : Fr2 w w.heap.size (w.heap.size + 1) (w.heap.size + 1 + 1) i o A rs.length c (.bool false) (.int .i64 0) W1 := by
    rw [← hW1]
    exact ⟨⟨(((Below.refl _ _).alloc (Nat.le_refl _) _).alloc (by simp) _).alloc (by simp; omega) _, ((BxM.new w i o A rs.length c).mvB ((Below.refl _ _).alloc (Nat.le_refl _) _)).mvB ((Below.refl _ _).alloc (Nat.le_refl _) _), (Box.new_ (by simp) _ _).alloc _, Nat.le_refl _, by omega, by omega⟩, Box.new_ (by simp) _ _, by omega, by omega, by omega⟩
  obtain ⟨m, _⟩ : ∃ m : Nat, True := ⟨3, trivial⟩
  refine (callsIn_wide (n := m)).1 ?_
  refine callsIn_of_wp_marks Try.func12 rfl trivial ?_
  simp only [Try.ntmps12, List.size_toArray, List.length_cons, List.length_nil, Nat.reduceAdd, Nat.reduceSub, Array.replicate_succ, Array.replicate_zero, List.push_toArray, List.append_toArray, List.nil_append, List.cons_append]
  obtain ⟨q0, q1, q2⟩ := hF0.fr.bm.cells
  gi_wp2_with fail
  refine wide_calls (pcheck_any i o rs A rs.length c W1 (hr.below hF0.fr.bel) rfl hnb RL.out) ?_
  rintro e w1 ⟨rfl, hb1⟩
  have hF := hF0.below hb1
  clear hF0 hb1 hW1 q0 q1 q2
  obtain ⟨q0, q1, q2⟩ := hF.fr.bm.cells
  have qc := hF.fr.br.1
  have qf := hF.fr.br.2
  have sc := hF.bs.1
  have sf := hF.bs.2
  have n12 : w.heap.size + 1 ≠ w.heap.size + 1 + 1 := by omega
  by_cases hz : Mc.chk ⟨i, o, rs⟩ = 0
  · have V := Mc.val_of hz
    have HV := Lib.hid (Mc.cmp_all V)
    have HE := Lib.hid (fun k p h => Mc.pl_ed (m := ⟨i, o, rs⟩) V (k := k) (p := p) h)
    clear V
    rw [hz]
    gi_wp2_with fail
    refine wide_calls (edges_any _ _ _ _ _ _) ?_
    rintro e w2 ⟨rfl, rfl⟩
    gi_wp2_with fail
    have hbx : Below w1.heap.size w1 (boxM w1 i o A rs.length c) := (Below.refl _ _).alloc (Nat.le_refl _) _
    have hz1 : w.heap.size + 3 ≤ w1.heap.size := by have := hF.bs.lt; omega
    have hG := edges1_gives (m - 1) w1.heap.size i o A rs.length c rs (fun b => b = w.heap.size + 1 ∨ b = w.heap.size + 1 + 1) w (boxM w1 i o A rs.length c) hr rfl (below_next hF.fr.bel hbx) (BxM.new w1 i o A rs.length c) (by show ¬ (_ ∨ _); omega) (fun b h => by rcases h with h | h <;> omega) hnb RL.out
    have hF1 := hF.below hbx
    have hs1 : w.heap.size + 4 ≤ (boxM w1 i o A rs.length c).heap.size := by simp; omega
    clear q0 q1 q2 qc qf sc sf
    refine range_list (m := m) 48 _ rfl (enters_of Try.func48 (by kernel_rfl) rfl) ((Mc.pl 0 rs).map ev) (fun b => b = w.heap.size + 1 ∨ b = w.heap.size + 1 + 1) (fun b h => by rcases h with h | h <;> omega) ?hps hG
      (fun k W => Fr2 w w.heap.size (w.heap.size + 1) (w.heap.size + 1 + 1) i o A rs.length c (.bool false) (.int .i64 0) W ∧ Hid (Mc.Alld (Mc.pl 0 rs) k))
      (fun c' W => c' = .ret ∧ Fr2 w w.heap.size (w.heap.size + 1) (w.heap.size + 1 + 1) i o A rs.length c (.bool false) (.int .i64 0) W ∧ Hid (Mc.cmpV ⟨i, o, rs⟩ = false))
      (fun k A B h c => ⟨h.1.cells c (by omega), h.2⟩) (fun c' A B h c => ⟨h.1, h.2.1.cells c (by omega), h.2.2⟩) ⟨hF1, by simp [Hid, Mc.Alld]⟩ ?round ?done ?stop
    case hps => intro v hv; obtain ⟨p, _, rfl⟩ := List.mem_map.1 hv; rfl
    case round =>
      intro l k v W hk hW ⟨hI, hA⟩
      rw [List.getElem?_map, Option.map_eq_some_iff] at hk
      obtain ⟨⟨s, j, x, y⟩, hp, rfl⟩ := hk
      have HP := Lib.hid hp
      have hxx := HE.out _ _ hp
      clear hp
      simp only [ev]
      gi_wp2_with fail
      refine ⟨(Below.refl _ _).alloc (Nat.le_refl _) _, fun W2 hc2 => ?_⟩
      obtain ⟨p0, p1, _, _⟩ := ((BxE.new W x y).mvC hc2).cells
      have hI2 := (hI.below ((Below.refl _ _).alloc (Nat.le_refl _) (.cells #[.int .i64 x, .int .i64 y] 39))).cells hc2 (by omega)
      clear hc2 hI hW
      gi_wp2_with fail
      refine round_calls (l := l) (defined_any _ _ _) ?_
      rintro e w3 ⟨rfl, hb3⟩
      have hI3 := hI2.below hb3
      have qc := hI3.fr.br.1
      have qf := hI3.fr.br.2
      have sc := hI3.bs.1
      have sf := hI3.bs.2
      by_cases hx : x = -1
      · have R : roundP (fun b => b = w.heap.size + 1 ∨ b = w.heap.size + 1 + 1) (fun k W => Fr2 w w.heap.size (w.heap.size + 1) (w.heap.size + 1 + 1) i o A rs.length c (.bool false) (.int .i64 0) W ∧ Hid (Mc.Alld (Mc.pl 0 rs) k)) (fun c' W => c' = .ret ∧ Fr2 w w.heap.size (w.heap.size + 1) (w.heap.size + 1 + 1) i o A rs.length c (.bool false) (.int .i64 0) W ∧ Hid (Mc.cmpV ⟨i, o, rs⟩ = false)) k W2 .ret ⟨#[], []⟩ ((w3.setCell ⟨w.heap.size + 1, 0, none⟩ (.bool false)).setCell ⟨w.heap.size + 1 + 1, 0, none⟩ (.int .i64 0)) :=
          ⟨⟨rfl, (hI3.put _).put2 _, by show _ = _; rw [HV.out]; exact Mc.all_hit HP.out (by simp [hx])⟩, ((KA.of_below hb3).trans (KA.set (D := (fun b => b = w.heap.size + 1 ∨ b = w.heap.size + 1 + 1)) _ (.inl rfl) _)).trans (KA.set (D := (fun b => b = w.heap.size + 1 ∨ b = w.heap.size + 1 + 1)) _ (.inr rfl) _)⟩
        have RH := Lib.hid R
        clear R
        have hxd : decide (x = -1) = true := decide_eq_true hx
        gi_wp2_with fail
        exact RH.out
      · have R : roundP (fun b => b = w.heap.size + 1 ∨ b = w.heap.size + 1 + 1) (fun k W => Fr2 w w.heap.size (w.heap.size + 1) (w.heap.size + 1 + 1) i o A rs.length c (.bool false) (.int .i64 0) W ∧ Hid (Mc.Alld (Mc.pl 0 rs) k)) (fun c' W => c' = .ret ∧ Fr2 w w.heap.size (w.heap.size + 1) (w.heap.size + 1 + 1) i o A rs.length c (.bool false) (.int .i64 0) W ∧ Hid (Mc.cmpV ⟨i, o, rs⟩ = false)) k W2 .normal ⟨#[], []⟩ w3 :=
          ⟨⟨hI3, Mc.all_snoc HP.out hA.out (by have := hxx.resolve_left hx; simpa using this)⟩, KA.of_below hb3⟩
        have RH := Lib.hid R
        clear R
        have hxd : decide (x = -1) = false := decide_eq_false hx
        gi_wp2_with fail
        exact RH.out
    case done =>
      intro N W hN ⟨hI, hA⟩ hd
      have hf : Hid (Mc.cmpV ⟨i, o, rs⟩ = true) := by
        show _ = _
        have := hA.out
        unfold Mc.Alld at this
        rw [List.length_map, List.take_length] at this
        rw [HV.out]; exact this
      have qc := hI.fr.br.1
      have qf := hI.fr.br.2
      have sc := hI.bs.1
      have sf := hI.bs.2
      have hI2 := (hI.put (.bool true)).put2 (.int .i64 0)
      have hd2 := far_deferred (far_deferred hd hI.fr.br (.bool true)) (hI.put (.bool true)).bs (.int .i64 0)
      have hI3 := hI2.shut hd2 (by omega)
      simp only [marked]
      gi_wp2_with fail
      refine ⟨by simp, .inl ⟨_, _, rfl, run_takeDeferred hd2, ?_⟩⟩
      refine ⟨.tuple #[.bool true, .int .i64 0], ?_, by rw [hf.out, hz], hI3.fr.bel⟩
      simp [results, Try.f12, go_sem, hI3.fr.br.1, hI3.bs.1]
    case stop =>
      rintro N c' W hN ⟨rfl, hI, hf⟩ hd
      have hI3 := hI.shut hd (by omega)
      simp only [marked]
      gi_wp2_with fail
      refine ⟨by simp, .inl ⟨_, _, rfl, run_takeDeferred hd, ?_⟩⟩
      refine ⟨.tuple #[.bool false, .int .i64 0], ?_, by rw [hf.out, hz], hI3.fr.bel⟩
      simp [results, Try.f12, go_sem, hI3.fr.br.1, hI3.bs.1]
  · have hzb : (Mc.chk ⟨i, o, rs⟩ == 0) = false := by rw [beq_eq_false_iff_ne]; exact hz
    have hv : Hid (Mc.cmpV ⟨i, o, rs⟩ = false) := by show _ = _; unfold Mc.cmpV; rw [if_neg hz]
    obtain ⟨z, hzz⟩ : ∃ z, Mc.chk ⟨i, o, rs⟩ = z := ⟨_, rfl⟩
    rw [hzz] at hz hzb ⊢
    have HZ := Lib.hid hzz
    clear hzz
    gi_wp2_with fail
    have hI3 := (hF.put (.bool false)).put2 (.int .i64 z)
    refine ⟨.tuple #[.bool false, .int .i64 z], ?_, by rw [hv.out, HZ.out], hI3.fr.bel⟩
    simp [results, Try.f12, go_sem, hI3.fr.br.1, hI3.bs.1]
end Go.Proofs.Ytiohfflkolopeaa
