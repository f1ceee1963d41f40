/-
  Contract: Run. No statement is proved here.
-/
import Derived.Test.YtonnplhiaidjnaaSMd9
namespace Go.Proofs.Ytonnplhiaidjnaa
open Go.RowKit
open Mc (Ed Ma Pe)
attribute [local go_sem] Oper.semAt_some

/-- A response that is written, cell by cell: the first k outputs stand. -/
def Mc.part (m : Ma) (s : Int) (ws : List Int) (k : Nat) : List Int := Mc.run m s (ws.take k) ++ List.replicate (ws.length - k) 0
theorem Mc.part_len (m : Ma) (s : Int) (ws : List Int) {k : Nat} (h : k ≤ ws.length) : (Mc.part m s ws k).length = ws.length := by
  unfold Mc.part
  rw [List.length_append, Mc.run_len, List.length_take, List.length_replicate]; omega
theorem Mc.part_zero (m : Ma) (s : Int) (ws : List Int) : Mc.part m s ws 0 = List.replicate ws.length 0 := by simp [Mc.part, Mc.run]
theorem Mc.part_all (m : Ma) (s : Int) (ws : List Int) : Mc.part m s ws ws.length = Mc.run m s ws := by simp [Mc.part]
theorem Mc.part_next {m : Ma} {s : Int} {ws : List Int} {k : Nat} (h : k < ws.length) : (Mc.part m s ws k).set k (Mc.tke m s ws k).2 = Mc.part m s ws (k + 1) := by
  unfold Mc.part
  rw [Mc.run_take h]
  have hl : (Mc.run m s (ws.take k)).length = k := by rw [Mc.run_len, List.length_take]; omega
  rw [List.set_append_right _ _ (by omega), hl, Nat.sub_self, show ws.length - k = (ws.length - (k + 1)) + 1 by omega, List.replicate_succ, List.set_cons_zero, List.append_assoc]
  rfl

/-- The response in a block of the call's own, its slice in a box. -/
structure Rn (w : World) (g r p : Nat) (i o : Int) (A : Option Addr) (n c k : Nat) (l : List Int) (W : World) : Prop where
  fr : Fr1 w g r i o A n c (.slice (some ⟨p, 0, none⟩) k k) W
  blk : BlkR W p l
  p0 : w.heap.size ≤ p
  pg : p ≠ g
  pr : p ≠ r
section
variable {w W W' : World} {g r p k : Nat} {i o : Int} {A : Option Addr} {n c : Nat} {l : List Int}
theorem Rn.cells {B : Nat} (h : Rn w g r p i o A n c k l W) (kk : Cells B W W') (hB : w.heap.size ≤ B) : Rn w g r p i o A n c k l W' :=
  ⟨h.fr.cells kk hB, h.blk.mvC kk, h.p0, h.pg, h.pr⟩
theorem Rn.below (h : Rn w g r p i o A n c k l W) (kk : Below W.heap.size W W') : Rn w g r p i o A n c k l W' := h.cells (Cells.of_below' kk) h.fr.bel.size
theorem Rn.shut (h : Rn w g r p i o A n c k l W) {N : Nat} (hN : W.heap[N]? = some (.deferred (some []))) (hw : w.heap.size ≤ N) : Rn w g r p i o A n c k l (W.putObj N (.deferred none)) :=
  h.cells (B := w.heap.size) (Cells.put _ hN rfl hw) (Nat.le_refl _)
theorem Rn.put (h : Rn w g r p i o A n c k l W) (q : Nat) (y : Int) : Rn w g r p i o A n c k (l.set q y) (W.setCell ⟨p, q, none⟩ (.int .i64 y)) :=
  ⟨⟨h.fr.bel.setCell (p := ⟨p, q, none⟩) h.p0 _, h.fr.bm.farS h.pg.symm _, h.fr.br.far h.pr.symm _, h.fr.g0, h.fr.r0, h.fr.ne⟩, h.blk.set_ q y, h.p0, h.pg, h.pr⟩
end

set_option maxRecDepth 100000 in
set_option maxHeartbeats 1600000 in
theorem prun_any (i o s : Int) (rs : List (List Ed)) (ws : List Int) (A W : Option Addr) (n c k d : Nat) (w : World) (hr : RdR w A rs) (hw : Rd w W ws) (hn : rs.length = n) (hnb : n ≤ 1000000) (hrl : ∀ row ∈ rs, row.length ≤ 1000000) (hk : ws.length = k) (hkb : k ≤ 1000000) :
    Calls Try.prog 82 #[.agg #[.int .i64 i, .int .i64 o, .slice A n c], .int .i64 s, .slice W k d] w fun e w' => ∃ B j, e = .returned (.tuple #[.slice B j j, .int .i64 (Mc.runE ⟨i, o, rs⟩ s ws)]) ∧ Hid ((Mc.runV ⟨i, o, rs⟩ s ws).length = j) ∧ Rd w' B (Mc.runV ⟨i, o, rs⟩ s ws) ∧ Below w.heap.size w w' := by
  subst hn hk
  have RL := Lib.hid hrl
  clear hrl
  have hb0 : Below w.heap.size w (boxM w i o A rs.length c) := (Below.refl _ _).alloc (Nat.le_refl _) _
  obtain ⟨m, _⟩ : ∃ m : Nat, True := ⟨3, trivial⟩
  refine (callsIn_wide (n := m)).1 ?_
  refine callsIn_of_wp_marks Try.func82 rfl trivial ?_
  simp only [Try.ntmps82, List.size_toArray, List.length_cons, List.length_nil, Nat.reduceAdd, Nat.reduceSub, Array.replicate_succ, Array.replicate_zero, List.push_toArray, List.append_toArray, List.nil_append, List.cons_append]
  gi_wp2_with fail
  refine wide_calls (checkWord_any i o s rs ws A W rs.length c ws.length d _ (hr.below hb0) (hw.below hb0) rfl hnb RL.out rfl hkb) ?_
  rintro e w1 ⟨rfl, hb1⟩
  have hB1 := below_next hb0 hb1
  have hM1 := (BxM.new w i o A rs.length c).mvB hb1
  have hz0 : w.heap.size < w1.heap.size := heap_lt hM1
  clear hb0 hb1
  obtain ⟨q0, q1, q2⟩ := hM1.cells
  by_cases hz : Mc.runE ⟨i, o, rs⟩ s ws = 0
  · obtain ⟨V, hSt, hWd, hle⟩ := runE_ok0 hz
    have hv : Hid (Mc.runV ⟨i, o, rs⟩ s ws = Mc.run ⟨i, o, rs⟩ s ws) := by show _ = _; unfold Mc.runV; rw [if_pos hz]
    rw [hz]
    gi_wp2_with (gi_at_make; go_loud (refine wpListIn_make_intsR _ rfl _ _ rfl _ ws.length rfl rfl rfl (by omega) ?_; intro w2 hB2 hb2; have hM2' := (hM1.mvB hb2).mvB ((Below.refl _ w2).alloc (Nat.le_refl _) (.cells #[.slice (some ⟨w1.heap.size, 0, none⟩) ws.length ws.length] 29)); obtain ⟨q0', q1', q2'⟩ := hM2'.cells))
    refine wide_calls (taken_any _ _ _ _ _ _ _ _ _ _) ?_
    rintro e w3 ⟨rfl, rfl⟩
    gi_wp2_with fail
    have hB2w := below_next hB1 hb2
    have hp12 : w1.heap.size < w2.heap.size := hB2.lt
    obtain ⟨W3, hW3⟩ : ∃ W3, w2.alloc (.cells #[.slice (some ⟨w1.heap.size, 0, none⟩) ws.length ws.length] 29) = W3 := ⟨_, rfl⟩
    have hU0 : Rn w w.heap.size w2.heap.size w1.heap.size i o A rs.length c ws.length (Mc.part ⟨i, o, rs⟩ s ws 0) W3 := by
      rw [← hW3, Mc.part_zero]
      exact ⟨⟨hB2w.alloc (by omega) _, hM2', Box.new _ _ _, Nat.le_refl _, by omega, by omega⟩, hB2.mvC (Cells.of_below' ((Below.refl _ _).alloc (Nat.le_refl _) _)), by omega, by omega, by omega⟩
    rw [hW3]
    obtain ⟨r, hrr⟩ : ∃ r, w2.heap.size = r := ⟨_, rfl⟩
    obtain ⟨p, hpp⟩ : ∃ p, w1.heap.size = p := ⟨_, rfl⟩
    have hsr : W3.heap.size = r + 1 := by rw [← hW3, World.size_alloc, hrr]
    rw [hrr, hpp] at hU0 hp12
    rw [hpp] at hz0
    rw [hrr, hpp]
    clear hW3 hM2' q0' q1' q2' hB2w hb2 hB2 hrr hB1 hM1 q0 q1 q2 hpp w2
    clear w1
    obtain ⟨hbx, hbM, hbs, hbw, hsz⟩ := taken_lies W3 i o s A W rs.length c ws.length d
    rw [hsr] at hbM hbs hbw
    have hG := taken1_gives (m - 1) (r + 1) (r + 1 + 1) (r + 1 + 1 + 1) ⟨i, o, rs⟩ s ws A W rs.length c ws.length d (fun b => b = p) w (takenW W3 i o s A W rs.length c ws.length d) V hSt hWd hr hw rfl rfl hkb (below_next hU0.fr.bel hbx) hbM hbs hbw (by show ¬ _ = _; omega) (fun b h => by show w.heap.size ≤ b; omega) (fun b h => by rw [hsz]; omega)
    have hF1 := hU0.below hbx
    have hsW : w.heap.size ≤ (takenW W3 i o s A W rs.length c ws.length d).heap.size := by rw [hsz]; omega
    clear hbx hbM hbs hbw hU0
    refine range_list (m := m) 90 _ rfl (enters_of Try.func90 (by kernel_rfl) rfl) ((List.range ws.length).map (tv ⟨i, o, rs⟩ s ws)) (fun b => b = p) (fun b h => by rw [hsz]; omega) ?hps hG
      (fun k W => Rn w w.heap.size r p i o A rs.length c ws.length (Mc.part ⟨i, o, rs⟩ s ws k) W)
      (fun _ _ => False)
      (fun k A B h1 c => h1.cells c hsW) (fun c' A B h c => h) hF1 ?round ?done ?stop
    case hps => intro v hv; obtain ⟨p, _, rfl⟩ := List.mem_map.1 hv; rfl
    case round =>
      intro l k v W hk hW hI
      rw [List.getElem?_map, Option.map_eq_some_iff] at hk
      obtain ⟨k', hp, rfl⟩ := hk
      have hkl : k < ws.length := by have := (List.getElem?_eq_some_iff.1 hp).1; simpa using this
      rw [List.getElem?_range hkl] at hp
      injection hp with hp
      subst hp
      have HN := Lib.hid (Mc.part_next (m := ⟨i, o, rs⟩) (s := s) hkl)
      have HL := Lib.hid (Mc.part_len ⟨i, o, rs⟩ s ws (Nat.le_of_lt hkl))
      obtain ⟨⟨x, y⟩, hxy⟩ : ∃ x, Mc.tke ⟨i, o, rs⟩ s ws k = x := ⟨_, rfl⟩
      rw [hxy] at HN
      simp only [tv, hxy]
      clear hxy
      gi_wp2_with fail
      refine ⟨(Below.refl _ _).alloc (Nat.le_refl _) _, fun W2 hc2 => ?_⟩
      obtain ⟨p0, p1, _, _⟩ := ((BxE.new W x y).mvC hc2).cells
      have hI2 := (hI.below ((Below.refl _ _).alloc (Nat.le_refl _) (.cells #[.int .i64 x, .int .i64 y] 58))).cells hc2 (by omega)
      have qc := hI2.fr.br.1
      have qf := hI2.fr.br.2
      obtain ⟨u1, u2⟩ := hI2.blk.at_ (k := k) (by rw [HL.out]; exact hkl)
      clear hc2 hI hW
      have R : roundP (fun b => b = p) (fun k W => Rn w w.heap.size r p i o A rs.length c ws.length (Mc.part ⟨i, o, rs⟩ s ws k) W) (fun _ _ => False) k W2 .normal ⟨#[], []⟩ (W2.setCell ⟨p, k, none⟩ (.int .i64 y)) := by
        refine ⟨?_, KA.one _ _ _⟩
        show Rn w w.heap.size r p i o A rs.length c ws.length (Mc.part ⟨i, o, rs⟩ s ws (k + 1)) _
        rw [← HN.out]
        exact hI2.put k y
      have RH := Lib.hid R
      clear R
      gi_wp2_with fail
      exact RH.out
    case done =>
      intro N W hN hI hd
      have hst : Mc.part ⟨i, o, rs⟩ s ws ((List.range ws.length).map (tv ⟨i, o, rs⟩ s ws)).length = Mc.run ⟨i, o, rs⟩ s ws := by
        rw [List.length_map, List.length_range]; exact Mc.part_all _ _ _
      replace hI : Rn w w.heap.size r p i o A rs.length c ws.length (Mc.run ⟨i, o, rs⟩ s ws) W := by rw [← hst]; exact hI
      clear hst
      have qc := hI.fr.br.1
      have hI3 := hI.shut hd (Nat.le_trans hsW hN)
      simp only [marked]
      gi_wp2_with fail
      refine ⟨by simp, .inl ⟨_, _, rfl, run_takeDeferred hd, ?_⟩⟩
      refine ⟨.tuple #[.slice (some ⟨p, 0, none⟩) ws.length ws.length, .int .i64 0], ?_, some ⟨p, 0, none⟩, ws.length, by rw [hz], by rw [hv.out]; exact Mc.run_len _ _ _, by rw [hv.out]; exact hI3.blk.rd, hI3.fr.bel⟩
      simp [results, Try.f82, go_sem]
    case stop =>
      rintro N c' W hN h hd
      exact h.elim
  · have hzb : (Mc.runE ⟨i, o, rs⟩ s ws == 0) = false := by rw [beq_eq_false_iff_ne]; exact hz
    have hv : Hid (Mc.runV ⟨i, o, rs⟩ s ws = []) := by show _ = _; unfold Mc.runV; rw [if_neg hz]
    obtain ⟨z, hzz⟩ : ∃ z, Mc.runE ⟨i, o, rs⟩ s ws = z := ⟨_, rfl⟩
    rw [hzz] at hz hzb ⊢
    have HZ := Lib.hid hzz
    clear hzz
    gi_wp2_with fail
    refine ⟨.tuple #[.slice none 0 0, .int .i64 z], ?_, none, 0, by rw [HZ.out], by rw [hv.out]; rfl, by rw [hv.out]; exact Rd.nil_, hB1⟩
    simp [results, Try.f82, go_sem]
end Go.Proofs.Ytonnplhiaidjnaa
