/-
  Contract: Check of a machine. No statement is proved here.
-/
import Derived.Test.YtiohfflkolopeaaMd2
namespace Go.Proofs.Ytiohfflkolopeaa
open Go.RowKit
open Mc (Ed Ma Pe)
attribute [local go_sem] Oper.semAt_some

/-- The edges are checked, one after the other. -/
theorem chk_pl {i o : Int} {rs : List (List Ed)} (h0 : ¬ (16 < i ∨ 16 < o ∨ 64 < rs.length)) (h1 : ¬ (i < 1 ∨ o < 1 ∨ rs.length = 0)) (hl : ∀ row ∈ rs, (row.length : Int) = i) :
    Mc.chk ⟨i, o, rs⟩ = if (Mc.pl 0 rs).all (fun p => Mc.okE rs.length o p.2.2) then 0 else 1 := by
  rw [Mc.chk_in h0 h1, Mc.pl_all]
  simp only
  have : ∀ row ∈ rs, Mc.okR rs.length i o row = row.all (Mc.okE rs.length o) := fun row hrow => by simp [Mc.okR, hl row hrow]
  clear h0 h1 hl
  generalize rs.length = n at this ⊢
  have e : rs.all (Mc.okR n i o) = rs.all fun row => row.all (Mc.okE n o) := by
    induction rs with
    | nil => rfl
    | cons row rs ih =>
      simp only [List.all_cons]
      rw [this row (by simp), ih fun r hr => this r (by simp [hr])]
  rw [e]

set_option maxRecDepth 100000 in
set_option maxHeartbeats 4000000 in
theorem pcheck_any (i o : Int) (rs : List (List Ed)) (A : Option Addr) (n c : Nat) (w : World) (hr : RdR w A rs) (hn : rs.length = n) (hnb : n ≤ 1000000) (hrl : ∀ row ∈ rs, row.length ≤ 1000000) :
    Calls Try.prog 16 #[.agg #[.int .i64 i, .int .i64 o, .slice A n c]] w fun e w' => e = .returned (.int .i64 (Mc.chk ⟨i, o, rs⟩)) ∧ Below w.heap.size w w' := by
  subst hn
  have RL := Lib.hid hrl
  clear hrl
  have EB : ∀ z : Value, Below w.heap.size w ((w.alloc (.cells #[.int .i64 i, .int .i64 o, .slice A rs.length c] 24)).alloc (.cells #[z] 28)) := fun z => ((Below.refl _ _).alloc (Nat.le_refl _) _).alloc (by simp) _
  by_cases h1 : 16 < i
  · have hf : Hid (Mc.chk ⟨i, o, rs⟩ = 3) := Mc.chk_limit (.inl h1)
    go_enter Try.func16, Try.ntmps16
    go_wp2
    go_returns
    exact ⟨ret_int hf.out.symm, EB _⟩
  by_cases h2 : 16 < o
  · have hf : Hid (Mc.chk ⟨i, o, rs⟩ = 3) := Mc.chk_limit (.inr (.inl h2))
    go_enter Try.func16, Try.ntmps16
    go_wp2
    go_returns
    exact ⟨ret_int hf.out.symm, EB _⟩
  by_cases h3 : 64 < (rs.length : Int)
  · have hf : Hid (Mc.chk ⟨i, o, rs⟩ = 3) := Mc.chk_limit (.inr (.inr (by simp only; omega)))
    go_enter Try.func16, Try.ntmps16
    go_wp2
    go_returns
    exact ⟨ret_int hf.out.symm, EB _⟩
  by_cases h4 : i < 1
  · have hf : Hid (Mc.chk ⟨i, o, rs⟩ = 1) := Mc.chk_arg (by simp only; omega) (.inl h4)
    go_enter Try.func16, Try.ntmps16
    go_wp2
    go_returns
    exact ⟨ret_int hf.out.symm, EB _⟩
  by_cases h5 : o < 1
  · have hf : Hid (Mc.chk ⟨i, o, rs⟩ = 1) := Mc.chk_arg (by simp only; omega) (.inr (.inl h5))
    go_enter Try.func16, Try.ntmps16
    go_wp2
    go_returns
    exact ⟨ret_int hf.out.symm, EB _⟩
  by_cases h6 : (rs.length : Int) < 1
  · have hf : Hid (Mc.chk ⟨i, o, rs⟩ = 1) := Mc.chk_arg (by simp only; omega) (.inr (.inr (by simp only; omega)))
    go_enter Try.func16, Try.ntmps16
    go_wp2
    go_returns
    exact ⟨ret_int hf.out.symm, EB _⟩
  have hfz := Lib.hid (chk_pl (i := i) (o := o) (rs := rs) (by omega) (by omega))
  have hbd : Hid (∀ row ∈ rs, (row.length : Int) ≠ i → Mc.chk ⟨i, o, rs⟩ = 1) := fun row hrow hne => by
    rw [Mc.chk_in (by simp only; omega) (by simp only; omega), if_neg]
    simp only [List.all_eq_true]
    intro h
    have := h row hrow
    rw [Mc.okR_len hne] at this
    cases this
  obtain ⟨m, _⟩ : ∃ m : Nat, True := ⟨3, trivial⟩
  refine (callsIn_wide (n := m)).1 ?_
  refine callsIn_of_wp_marks Try.func16 rfl trivial ?_
  simp only [Try.ntmps16, List.size_toArray, List.length_cons, List.length_nil, Nat.reduceAdd, Nat.reduceSub, Array.replicate_succ, Array.replicate_zero, List.push_toArray, List.append_toArray, List.nil_append, List.cons_append]
  gi_wp2
  gi_loopw [38] (fun v wr => ∃ a : Nat, a ≤ rs.length ∧ v = .int .i64 a ∧ Hid (∀ row ∈ rs.take a, (row.length : Int) = i) ∧ Fr1 w w.heap.size (w.heap.size + 1) i o A rs.length c (.int .i64 0) wr ∧ w.heap.size + 2 ≤ wr.heap.size) (fun v _ => rs.length - (intOf v).toNat)
  case atStart => exact ⟨0, Nat.zero_le _, rfl, fun _ h => by simp at h, ⟨EB _, (BxM.new w i o A rs.length c).mvB ((Below.refl _ _).alloc (Nat.le_refl _) _), Box.new_ (by simp) _ _, Nat.le_refl _, by omega, by omega⟩, by simp⟩
  case round =>
    obtain ⟨a, ha, rfl, hk, hF, hsz⟩ := hrel
    obtain ⟨q0, q1, q2⟩ := hF.bm.cells
    have qf := hF.br.2
    have qc := hF.br.1
    by_cases hlt : a < rs.length
    · obtain ⟨b, off, B, d', q, row, rfl, hb, hcw, _, _, _, hpw, hln, hq⟩ := hr.at_ (k := a) (by omega)
      have hc := (hF.bel.cell (p := ⟨b, off + a, none⟩) hb).trans hcw
      by_cases hqi : (q : Int) = i
      · have hqb : ((q : Int) == i) = true := by rw [hqi]; simp
        gi_wp2
        have hk2 : Hid (∀ row ∈ rs.take (a + 1), (row.length : Int) = i) := fun row' h => by
          rw [List.take_add_one, hq.out, List.mem_append] at h
          rcases h with h | h
          · exact hk.out row' h
          · simp at h
            subst h
            rw [hln.out]; exact hqi
        go_roundw
        case rel => exact ⟨a + 1, by omega, by go_num, hk2, hF, hsz⟩
        case measure => simp [intOf]; omega
      · have hqb : ((q : Int) == i) = false := by rw [beq_eq_false_iff_ne]; exact hqi
        have hf := Lib.hid (hbd.out row (List.mem_of_getElem? hq.out) (by rw [hln.out]; exact hqi))
        gi_wp2
        have hF2 := hF.put (.int .i64 1)
        refine ⟨.int .i64 1, ?_, ret_int hf.out.symm, hF2.bel⟩
        simp [results, Try.f16, go_sem, hF2.br.1]
    · have hall := Lib.hid (hfz.out (fun row hrow => hk.out row (by rw [List.take_of_length_le (by omega)]; exact hrow)))
      clear hk hbd hfz q0 q1 q2 qf qc
      obtain ⟨q0, q1, q2⟩ := hF.bm.cells
      gi_wp2_with fail
      refine wide_calls (edges_any _ _ _ _ _ _) ?_
      rintro e w1 ⟨rfl, rfl⟩
      gi_wp2_with fail
      have hbx : Below wr.heap.size wr (boxM wr i o A rs.length c) := (Below.refl _ _).alloc (Nat.le_refl _) _
      have hG := edges1_gives (m - 1) wr.heap.size i o A rs.length c rs (fun b => b = w.heap.size + 1) w (boxM wr i o A rs.length c) hr rfl (below_next hF.bel hbx) (BxM.new wr i o A rs.length c) (by show ¬ _ = _; omega) (fun b h => by show w.heap.size ≤ b; omega) hnb RL.out
      have hF1 := hF.below hbx
      have hs1 : w.heap.size + 3 ≤ (boxM wr i o A rs.length c).heap.size := by simp; omega
      refine range_list (m := m) 48 _ rfl (enters_of Try.func48 (by kernel_rfl) rfl) ((Mc.pl 0 rs).map ev) (fun b => b = w.heap.size + 1) (fun b h => by show b < _; omega) ?hps hG
        (fun k W => Fr1 w w.heap.size (w.heap.size + 1) i o A rs.length c (.int .i64 0) W ∧ Hid (((Mc.pl 0 rs).take k).all (fun p => Mc.okE rs.length o p.2.2) = true))
        (fun c' W => c' = .ret ∧ Fr1 w w.heap.size (w.heap.size + 1) i o A rs.length c (.int .i64 1) W ∧ Hid (Mc.chk ⟨i, o, rs⟩ = 1))
        (fun k A B h c => ⟨h.1.cells c (by omega), h.2⟩) (fun c' A B h c => ⟨h.1, h.2.1.cells c (by omega), h.2.2⟩) ⟨hF1, by simp [Hid]⟩ ?round ?done ?stop
      case hps => intro v hv; obtain ⟨p, _, rfl⟩ := List.mem_map.1 hv; rfl
      case round =>
        intro l k v W hk hW ⟨hI, hA⟩
        rw [List.getElem?_map, Option.map_eq_some_iff] at hk
        obtain ⟨⟨s, j, x, y⟩, hp, rfl⟩ := hk
        have HP := Lib.hid hp
        clear hp
        simp only [ev]
        gi_wp2_with fail
        refine ⟨(Below.refl _ _).alloc (Nat.le_refl _) _, fun W2 hc2 => ?_⟩
        obtain ⟨p0, p1, _, _⟩ := ((BxE.new W x y).mvC hc2).cells
        have hI2 := (hI.below ((Below.refl _ _).alloc (Nat.le_refl _) (.cells #[.int .i64 x, .int .i64 y] 39))).cells hc2 (by omega)
        clear hc2 hI hW
        obtain ⟨q0, q1, q2⟩ := hI2.bm.cells
        have qc := hI2.br.1
        have qf := hI2.br.2
        gi_wp2_with fail
        refine round_calls (l := l) (fits_any _ _ _ _ _ _ _ _) ?_
        rintro e w3 ⟨rfl, hb3⟩
        have hI3 := hI2.below hb3
        clear q0 q1 q2 qc qf
        have qc := hI3.br.1
        have qf := hI3.br.2
        cases hx : Mc.okE rs.length o (x, y) with
        | true =>
          have R : roundP (fun b => b = w.heap.size + 1) (fun k W => Fr1 w w.heap.size (w.heap.size + 1) i o A rs.length c (.int .i64 0) W ∧ Hid (((Mc.pl 0 rs).take k).all (fun p => Mc.okE rs.length o p.2.2) = true)) (fun c' W => c' = .ret ∧ Fr1 w w.heap.size (w.heap.size + 1) i o A rs.length c (.int .i64 1) W ∧ Hid (Mc.chk ⟨i, o, rs⟩ = 1)) k W2 .normal ⟨#[], []⟩ w3 :=
            ⟨⟨hI3, Mc.all_snoc HP.out hA.out hx⟩, KA.of_below hb3⟩
          have RH := Lib.hid R
          clear R
          gi_wp2_with fail
          exact RH.out
        | false =>
          have R : roundP (fun b => b = w.heap.size + 1) (fun k W => Fr1 w w.heap.size (w.heap.size + 1) i o A rs.length c (.int .i64 0) W ∧ Hid (((Mc.pl 0 rs).take k).all (fun p => Mc.okE rs.length o p.2.2) = true)) (fun c' W => c' = .ret ∧ Fr1 w w.heap.size (w.heap.size + 1) i o A rs.length c (.int .i64 1) W ∧ Hid (Mc.chk ⟨i, o, rs⟩ = 1)) k W2 .ret ⟨#[], []⟩ (w3.setCell ⟨w.heap.size + 1, 0, none⟩ (.int .i64 1)) :=
            ⟨⟨rfl, hI3.put _, by show _ = _; rw [hall.out, Mc.all_hit HP.out hx]; rfl⟩, (KA.of_below hb3).trans (KA.one _ _ _)⟩
          have RH := Lib.hid R
          clear R
          gi_wp2_with fail
          exact RH.out
      case done =>
        intro N W hN ⟨hI, hA⟩ hd
        have hf : Hid (Mc.chk ⟨i, o, rs⟩ = 0) := by
          show _ = _
          have := hA.out
          rw [List.length_map, List.take_length] at this
          rw [hall.out, this]; rfl
        have qc := hI.br.1
        have qf := hI.br.2
        have hI2 := hI.put (.int .i64 0)
        have hd2 : (W.setCell ⟨w.heap.size + 1, 0, none⟩ (.int .i64 0)).heap[N]? = some (.deferred (some [])) := (Below.heap_setCell W ⟨w.heap.size + 1, 0, none⟩ _ N (by show N ≠ w.heap.size + 1; omega)).trans hd
        have hI3 := hI2.shut hd2 (by omega)
        simp only [marked]
        gi_wp2_with fail
        refine ⟨by simp, .inl ⟨_, _, rfl, run_takeDeferred hd2, ?_⟩⟩
        refine ⟨.int .i64 0, ?_, ret_int hf.out.symm, hI3.bel⟩
        simp [results, Try.f16, go_sem, hI3.br.1]
      case stop =>
        rintro N c' W hN ⟨rfl, hI, hf⟩ hd
        have hI3 := hI.shut hd (by omega)
        simp only [marked]
        gi_wp2_with fail
        refine ⟨by simp, .inl ⟨_, _, rfl, run_takeDeferred hd, ?_⟩⟩
        refine ⟨.int .i64 1, ?_, ret_int hf.out.symm, hI3.bel⟩
        simp [results, Try.f16, go_sem, hI3.br.1]
end Go.Proofs.Ytiohfflkolopeaa
