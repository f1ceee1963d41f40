/-
  Contract: Undefined. No statement is proved here.
-/
import Derived.Test.YtiohfflkolopeaaMd5
import Derived.Test.YtiohfflkolopeaaMc8
namespace Go.Proofs.Ytiohfflkolopeaa
open Go.RowKit
open Mc (Ed Ma Pe)
attribute [local go_sem] Oper.semAt_some

theorem place_info : (Try.prog.info? 25).map (fun i => (i.zero, i.size, i.bytes)) = some (some (.agg #[.int .i64 0, .int .i64 0]), 2, 16) := by kernel_rfl
theorem own_cells {B b : Nat} {W W' : World} {e : TypeId} {s n : Nat} {v : Value} {xs : List Value} (h : W.ownsRow b e s v n xs) (k : Cells B W W') : W'.ownsRow b e s v n xs := by
  refine ⟨h.1, ?_⟩
  rcases h.2 with h1 | ⟨g, cap, cur, hv, hb, hg, rest⟩
  · exact .inl h1
  · exact .inr ⟨g, cap, cur, hv, hb, k.same _ _ hg rfl, rest⟩
theorem own_far {b r off : Nat} {W : World} {e : TypeId} {s n : Nat} {v : Value} {xs : List Value} (h : W.ownsRow b e s v n xs) (hne : v.ownBlock ≠ some r) (u : Value) : (W.setCell ⟨r, off, none⟩ u).ownsRow b e s v n xs := by
  refine ⟨h.1, ?_⟩
  rcases h.2 with h1 | ⟨g, cap, cur, rfl, hb, hg, rest⟩
  · exact .inl h1
  · exact .inr ⟨g, cap, cur, rfl, hb, (Below.heap_setCell W ⟨r, off, none⟩ u g (by intro e; exact hne (by simp [Value.ownBlock, e]))).trans hg, rest⟩
/-- A list of pairs of the call's own reads as it. -/
theorem RdP.of_places {w : World} {base : Nat} {A : Option Addr} {n c : Nat} {row : List Ed} (h : w.ownsRow base 25 2 (.slice A n c) n (eC row)) : RdP w A row := fun hp => by
  have hn : row.length = n := by have := h.1; rw [eC_len] at this; omega
  obtain ⟨g, cap, hv, _, hlt⟩ := h.form (by omega)
  have hA : A = some ⟨g, 0, none⟩ := by injection hv
  subst hA
  refine ⟨g, 0, rfl, hlt, fun k x hk => ?_⟩
  obtain ⟨h1, h2⟩ := eC_at hk
  have hc : ∀ j v, (eC row)[j]? = some v → w.cell? ⟨g, 0 + j, none⟩ = some v := fun j v hj => by
    have := h.cells (g := g) rfl j v hj
    rw [Nat.zero_add]
    rw [Addr.add_lit] at this
    simpa using this
  exact ⟨hc _ _ h1, by have := hc _ _ h2; rwa [← Nat.add_assoc] at this⟩

/-- Places that are gathered: the slice lies in a box, its cells in a block of the call's own. -/
structure Un (w : World) (g r p M : Nat) (i o : Int) (A : Option Addr) (n c : Nat) (l : List Ed) (W : World) : Prop where
  fr : Fr1 w g r i o A n c (.slice (some ⟨p, 0, none⟩) l.length M) W
  own : W.ownsRow w.heap.size 25 2 (.slice (some ⟨p, 0, none⟩) l.length M) l.length (eC l)
  p0 : w.heap.size ≤ p
  pg : p ≠ g
  pr : p ≠ r
section
variable {w W W' : World} {g r p M : Nat} {i o : Int} {A : Option Addr} {n c : Nat} {l : List Ed}
theorem Un.cells {B : Nat} (h : Un w g r p M i o A n c l W) (k : Cells B W W') (hB : w.heap.size ≤ B) : Un w g r p M i o A n c l W' :=
  ⟨h.fr.cells k hB, own_cells h.own k, h.p0, h.pg, h.pr⟩
theorem Un.below (h : Un w g r p M i o A n c l W) (k : Below W.heap.size W W') : Un w g r p M i o A n c l W' := h.cells (Cells.of_below' k) h.fr.bel.size
theorem Un.shut (h : Un w g r p M i o A n c l W) {N : Nat} (hN : W.heap[N]? = some (.deferred (some []))) (hw : w.heap.size ≤ N) : Un w g r p M i o A n c l (W.putObj N (.deferred none)) :=
  h.cells (B := w.heap.size) (Cells.put _ hN rfl hw) (Nat.le_refl _)
theorem Fr1.grow {v : Value} {W0 : World} (h : Fr1 w g r i o A n c v W0) (hg : W0.grownBy W' (some p)) (p0 : w.heap.size ≤ p) (pg : p ≠ g) (pr : p ≠ r) : Fr1 w g r i o A n c v W' := by
  have hb : ∀ k, k < W0.heap.size → k ≠ p → W'.heap[k]? = W0.heap[k]? := fun k hk hne => hg.block k hk (by intro e; cases e; exact hne rfl)
  exact ⟨h.bel.grown hg h.bel.size (fun k hk => by cases hk; exact p0), (hb g (heap_lt h.bm) pg.symm).trans h.bm,
    ⟨(World.cell?_of_block (w := W0) (a := ⟨r, 0, none⟩) (hb r h.br.lt pr.symm)).trans h.br.1, (World.frozen?_of_block (w := W0) (a := ⟨r, 0, none⟩) (hb r h.br.lt pr.symm)).trans h.br.2⟩, h.g0, h.r0, h.ne⟩
/-- One place more. -/
theorem Un.more {x : Ed} {v : Value} (hfr : Fr1 w g r i o A n c v W') (h2 : W'.ownsRow w.heap.size 25 2 (.slice (some ⟨p, 0, none⟩) (l.length + 1) M) (l.length + 1) (eC l ++ [.int .i64 x.1, .int .i64 x.2])) (p0 : w.heap.size ≤ p) (pg : p ≠ g) (pr : p ≠ r) :
    Un w g r p M i o A n c (l ++ [x]) (W'.setCell ⟨r, 0, none⟩ (.slice (some ⟨p, 0, none⟩) (l.length + 1) M)) := by
  have e : eC l ++ [.int .i64 x.1, .int .i64 x.2] = eC (l ++ [x]) := by rw [eC_app, eC_one]
  rw [e] at h2
  have hl : (l ++ [x]).length = l.length + 1 := by simp
  refine ⟨by rw [hl]; exact hfr.put _, ?_, p0, pg, pr⟩
  rw [hl]
  exact own_far h2 (by simp [Value.ownBlock, pr]) _
end
theorem KA.grown {D : Nat → Prop} {W W' : World} {p : Nat} (h : W.grownBy W' (some p)) (hp : D p) : KA D W W' := ⟨h.size, fun b o hb ho => (h.block b (hlt ho) (by intro e; cases e; exact hb hp)).trans ho⟩

set_option maxRecDepth 100000 in
set_option maxHeartbeats 1000000 in
theorem pundefined_any (i o : Int) (rs : List (List Ed)) (A : Option Addr) (n c : Nat) (w : World) (hr : RdR w A rs) (hn : rs.length = n) (hnb : n ≤ 1000000) (hrl : ∀ row ∈ rs, row.length ≤ 1000000) :
    Calls Try.prog 15 #[.agg #[.int .i64 i, .int .i64 o, .slice A n c]] w fun e w' => ∃ B k, e = .returned (.tuple #[.slice B k k, .int .i64 (Mc.chk ⟨i, o, rs⟩)]) ∧ Hid ((Mc.unV ⟨i, o, rs⟩).length = k) ∧ RdP w' B (Mc.unV ⟨i, o, rs⟩) ∧ Below w.heap.size w w' := by
  subst hn
  have RL := Lib.hid hrl
  clear hrl
  have hb0 : Below w.heap.size w (boxM w i o A rs.length c) := (Below.refl _ _).alloc (Nat.le_refl _) _
  obtain ⟨m, _⟩ : ∃ m : Nat, True := ⟨3, trivial⟩
  refine (callsIn_wide (n := m)).1 ?_
  refine callsIn_of_wp_marks Try.func15 rfl trivial ?_
  simp only [Try.ntmps15, List.size_toArray, List.length_cons, List.length_nil, Nat.reduceAdd, Nat.reduceSub, Array.replicate_succ, Array.replicate_zero, List.push_toArray, List.append_toArray, List.nil_append, List.cons_append]
  gi_wp2_with fail
  refine wide_calls (ptransitions_any i o rs A rs.length c _ (hr.below hb0) rfl hnb RL.out) ?_
  rintro e w1 ⟨rfl, hb1⟩
  have hB1 := below_next hb0 hb1
  have hM1 := (BxM.new w i o A rs.length c).mvB hb1
  have hz0 : w.heap.size < w1.heap.size := heap_lt hM1
  clear hb0 hb1
  obtain ⟨q0, q1, q2⟩ := hM1.cells
  by_cases hz : Mc.chk ⟨i, o, rs⟩ = 0
  · have V := Mc.val_of hz
    have HE := Lib.hid (fun k p h => Mc.pl_ed (m := ⟨i, o, rs⟩) V (k := k) (p := p) h)
    have hle : (Mc.pl 0 rs).length ≤ 1024 ∧ ((Mc.pl 0 rs).length : Int) = rs.length * i ∧ ((Mc.und rs 0).length : Int) + Mc.dfd rs = rs.length * i := by
      have h1 := Mc.pl_total V
      have h2 := V.r1; have h3 := V.i1; have h4 := V.i0
      simp only at h1 h2 h3 h4
      have h5 : (rs.length : Int) * i ≤ 64 * 16 := Int.mul_le_mul (by omega) h3 (by omega) (by omega)
      exact ⟨by omega, h1, Mc.und_len rs 0 V.len⟩
    obtain ⟨hle1, hle2, hle3⟩ := hle
    have hv : Hid (Mc.trV ⟨i, o, rs⟩ = Mc.dfd rs) := by show _ = _; unfold Mc.trV; rw [if_pos hz]
    have hu : Hid (Mc.unV ⟨i, o, rs⟩ = Mc.und rs 0) := by show _ = _; unfold Mc.unV; rw [if_pos hz]
    rw [hz, hv.out]
    obtain ⟨M, hM⟩ : ∃ M, (Mc.und rs 0).length = M := ⟨_, rfl⟩
    obtain ⟨z, hzd⟩ : ∃ z, Mc.dfd rs = z := ⟨_, rfl⟩
    obtain ⟨T, hT⟩ : ∃ T, (Mc.pl 0 rs).length = T := ⟨_, rfl⟩
    rw [hM, hzd] at hle3
    rw [hT] at hle1 hle2
    rw [hzd]
    have hT2 : (rs.length : Int) * i = T := hle2.symm
    have hM2 : (T : Int) - z = M := by omega
    have HM := Lib.hid hM
    clear V hle2 hle3 hM hzd hT
    obtain ⟨i0, hi, hz0', hz1', hz2'⟩ := info_parts place_info
    gi_wp2_with (gi_at_make; go_loud (refine wpListIn_make_own _ rfl _ _ 33 rfl w.heap.size 25 i0 (.agg #[.int .i64 0, .int .i64 0]) 2 Try.underlying33 hi hz0' hz1' .i64 .i64 M M rfl rfl rfl (by rw [hz2']; omega) (by unfold maxLen; omega) (by omega) ?_; intro w2 hown2 hg2; have hb2 : Below w1.heap.size w1 w2 := (Below.refl _ _).grown hg2 (Nat.le_refl _) (fun k hk => by cases hk); have hM2' := (hM1.mvB hb2).mvB ((Below.refl _ w2).alloc (Nat.le_refl _) (.cells #[.slice (some ⟨w1.heap.size, 0, none⟩) 0 M] 33)); obtain ⟨q0', q1', q2'⟩ := hM2'.cells))
    refine wide_calls (edges_any _ _ _ _ _ _) ?_
    rintro e w3 ⟨rfl, rfl⟩
    gi_wp2_with fail
    have hB2 := below_next hB1 hb2
    have hp12 : w1.heap.size < w2.heap.size := by
      rcases hown2.2 with ⟨e, _⟩ | ⟨g, cap, cur, e, _, hg, _⟩
      · cases e
      · injection e with e1
        injection e1 with e1
        injection e1 with e1
        rw [e1]
        exact hlt hg
    obtain ⟨W3, hW3⟩ : ∃ W3, w2.alloc (.cells #[.slice (some ⟨w1.heap.size, 0, none⟩) 0 M] 33) = W3 := ⟨_, rfl⟩
    have hU0 : Un w w.heap.size w2.heap.size w1.heap.size M i o A rs.length c [] W3 := by
      rw [← hW3]
      exact ⟨⟨hB2.alloc (by omega) _, hM2', Box.new _ _ _, Nat.le_refl _, by omega, by omega⟩, own_cells hown2 (Cells.of_below' ((Below.refl _ _).alloc (Nat.le_refl _) _)), by omega, by omega, by omega⟩
    rw [hW3]
    have hp0 : w.heap.size < w1.heap.size := hz0
    obtain ⟨r, hrr⟩ : ∃ r, w2.heap.size = r := ⟨_, rfl⟩
    obtain ⟨p, hpp⟩ : ∃ p, w1.heap.size = p := ⟨_, rfl⟩
    rw [hrr, hpp] at hU0 hp12
    rw [hpp] at hp0
    rw [hrr, hpp]
    have hsr : W3.heap.size = r + 1 := by rw [← hW3, World.size_alloc, hrr]
    clear hW3 hM2' q0' q1' q2' hB2 hb2 hown2 hg2 hrr hB1 hM1 q0 q1 q2 hz0 hpp hT2 hM2 w2
    clear w1
    have hbx : Below W3.heap.size W3 (boxM W3 i o A rs.length c) := (Below.refl _ _).alloc (Nat.le_refl _) _
    have hG := edges1_gives (m - 1) (r + 1) i o A rs.length c rs (fun b => b = r ∨ b = p) w (boxM W3 i o A rs.length c) hr rfl (below_next hU0.fr.bel hbx) (BxM.newE hsr i o A rs.length c) (by show ¬ (_ ∨ _); omega) (fun b h => by rcases h with h | h <;> omega) hnb RL.out
    have hU1 := hU0.below hbx
    have hs1 : r + 2 ≤ (boxM W3 i o A rs.length c).heap.size := by simp; omega
    refine range_list (m := m) 48 _ rfl (enters_of Try.func48 (by kernel_rfl) rfl) ((Mc.pl 0 rs).map ev) (fun b => b = r ∨ b = p) (fun b h => by rcases h with h | h <;> omega) ?hps hG
      (fun k W => Un w w.heap.size r p M i o A rs.length c (Mc.undP ((Mc.pl 0 rs).take k)) W)
      (fun _ _ => False)
      (fun k A B h c => h.cells c (by omega)) (fun c' A B h c => h) hU1 ?round ?done ?stop
    case hps => intro v hv; obtain ⟨p, _, rfl⟩ := List.mem_map.1 hv; rfl
    case round =>
      intro l k v W hk hW hI
      rw [List.getElem?_map, Option.map_eq_some_iff] at hk
      obtain ⟨⟨s, j, x, y⟩, hp, rfl⟩ := hk
      have hs0 := Mc.undP_snoc hp
      simp only at hs0
      have HS := Lib.hid hs0
      clear hs0
      have HR : Hid ((Mc.undP ((Mc.pl 0 rs).take (k + 1))).length ≤ M) := by
        show _ ≤ _
        rw [← HM.out, ← Mc.undP_pl]
        exact Mc.undP_pre _
      have hxx := HE.out _ _ hp
      obtain ⟨u, hu1⟩ : ∃ u, Mc.undP ((Mc.pl 0 rs).take k) = u := ⟨_, rfl⟩
      rw [hu1] at hI HS
      clear hp
      simp only [ev]
      gi_wp2_with fail
      have hbA : Below W.heap.size W ((W.alloc (.cells #[.int .i64 s, .int .i64 j] 25)).alloc (.cells #[.int .i64 x, .int .i64 y] 39)) := ((Below.refl _ _).alloc (Nat.le_refl _) _).alloc (by simp) _
      refine ⟨hbA, fun W2 hc2 => ?_⟩
      have s0 : W2.cell? ⟨W.heap.size, 0, none⟩ = some (.int .i64 s) := hc2.cell (by rw [World.cell?_alloc_past _ _ _ (by simp), World.cell?_alloc_at _ _ _ _ rfl]; rfl)
      have s1 : W2.cell? ⟨W.heap.size, 1, none⟩ = some (.int .i64 j) := hc2.cell (by rw [World.cell?_alloc_past _ _ _ (by simp), World.cell?_alloc_at _ _ _ _ rfl]; rfl)
      obtain ⟨p0, p1, _, _⟩ := ((BxE.new (W.alloc (.cells #[.int .i64 s, .int .i64 j] 25)) x y).mvC hc2).cells
      rw [World.size_alloc] at p0 p1
      have hI2 := (hI.below hbA).cells hc2 (by omega)
      have hkA : W.heap.size ≤ W2.heap.size := by have := hbA.size; have := hc2.size; omega
      clear hc2 hI hbA
      gi_wp2_with fail
      refine round_calls (l := l) (defined_any _ _ _) ?_
      rintro e w4 ⟨rfl, hb4⟩
      have hI3 := hI2.below hb4
      have hsz4 : W.heap.size < W2.heap.size := by obtain ⟨_, h, _⟩ := cell_block s0; exact hlt h
      replace s0 := (hb4.cell (p := ⟨W.heap.size, 0, none⟩) hsz4).trans s0
      replace s1 := (hb4.cell (p := ⟨W.heap.size, 1, none⟩) hsz4).trans s1
      have qc := hI3.fr.br.1
      have qf := hI3.fr.br.2
      clear p0 p1 hI2
      by_cases hx : x = -1
      · have hxd : decide (x = -1) = true := decide_eq_true hx
        rw [HS.out, if_pos (show x < 0 by omega), List.length_append] at HR
        have hroom : u.length + 1 ≤ M := HR.out
        have hap := Lib.hid hI3.own
        have hn0 : ∀ (j' : Nat) (u : Value), [Value.int .i64 s, Value.int .i64 j][j']? = some u → (w4.alloc (.cells #[.int .i64 s, .int .i64 j] 25)).cell? ((⟨w4.heap.size, 0, none⟩ : Addr).add j') = some u := by
          intro j' u hj
          rw [Addr.add_lit, World.cell?_alloc_at _ _ _ _ rfl]
          match j', hj with
          | 0, hj => simpa using hj
          | 1, hj => simpa using hj
        have hn1 : ∀ u ∈ [Value.int .i64 s, Value.int .i64 j], u.oneCell' = true := by
          intro u hu
          simp at hu
          rcases hu with rfl | rfl <;> rfl
        have HN0 := Lib.hid hn0
        have HN1 := Lib.hid hn1
        have hbN : Below w4.heap.size w4 (w4.alloc (.cells #[.int .i64 s, .int .i64 j] 25)) := (Below.refl _ _).alloc (Nat.le_refl _) _
        have hF4 := Lib.hid (hI3.fr.below hbN)
        have hkN := Lib.hid ((KA.of_below hb4).trans (KA.of_below (D := fun b => b = r ∨ b = p) hbN))
        have hpg := hI3.pg
        have hpr := hI3.pr
        have hp00 := hI3.p0
        have hXS := Lib.hid (by rw [HS.out, if_pos (show x < 0 by omega)] : Mc.undP ((Mc.pl 0 rs).take (k + 1)) = u ++ [((s : Int), (j : Int))])
        clear hn0 hn1 hI3 hb4 HS
        gi_wp2_with (gi_at_builtin; go_loud (refine wpListIn_append_fits _ rfl _ _ 33 rfl w.heap.size 25 i0 2 Try.underlying33 hi hz1' p u.length M (eC u) rfl (own_cells hap.out (Cells.of_below' hbN)) ⟨w4.heap.size, 0, none⟩ 1 1 [.int .i64 s, .int .i64 j] rfl rfl HN0.out HN1.out hroom ?_; intro w5 hown5 hg5; have hF5 := hF4.out.grow hg5 hp00 hpg hpr; have qc5 := hF5.br.1; have qf5 := hF5.br.2))
        have R : roundP (fun b => b = r ∨ b = p) (fun k W => Un w w.heap.size r p M i o A rs.length c (Mc.undP ((Mc.pl 0 rs).take k)) W) (fun _ _ => False) k W2 .normal ⟨#[], []⟩ (w5.setCell ⟨r, 0, none⟩ (.slice (some ⟨p, 0, none⟩) (u.length + 1) M)) := by
          refine ⟨?_, (hkN.out.trans (KA.grown hg5 (.inr rfl))).trans (KA.set (D := fun b => b = r ∨ b = p) _ (.inl rfl) _)⟩
          show Un w w.heap.size r p M i o A rs.length c (Mc.undP ((Mc.pl 0 rs).take (k + 1))) _
          rw [hXS.out]
          exact Un.more hF5 hown5 hp00 hpg hpr
        exact R
      · have hxd : decide (x = -1) = false := decide_eq_false hx
        have R : roundP (fun b => b = r ∨ b = p) (fun k W => Un w w.heap.size r p M i o A rs.length c (Mc.undP ((Mc.pl 0 rs).take k)) W) (fun _ _ => False) k W2 .normal ⟨#[], []⟩ w4 := by
          refine ⟨?_, KA.of_below hb4⟩
          show Un w w.heap.size r p M i o A rs.length c (Mc.undP ((Mc.pl 0 rs).take (k + 1))) w4
          rw [HS.out, if_neg (show ¬ x < 0 by omega), List.append_nil]
          exact hI3
        have RH := Lib.hid R
        clear R
        gi_wp2_with fail
        exact RH.out
    case done =>
      intro N W hN hI hd
      have hf : Hid (Mc.undP (List.take ((Mc.pl 0 rs).map ev).length (Mc.pl 0 rs)) = Mc.und rs 0) := by
        show _ = _
        rw [List.length_map, List.take_length, Mc.undP_pl]
      replace hI : Un w w.heap.size r p M i o A rs.length c (Mc.und rs 0) W := by rw [← hf.out]; exact hI
      have qc := hI.fr.br.1
      rw [HM.out] at qc
      have hI3 := hI.shut hd (by omega)
      simp only [marked]
      gi_wp2_with fail
      refine ⟨by simp, .inl ⟨_, _, rfl, run_takeDeferred hd, ?_⟩⟩
      refine ⟨.tuple #[.slice (some ⟨p, 0, none⟩) M M, .int .i64 0], ?_, some ⟨p, 0, none⟩, M, by rw [hz], by rw [hu.out]; exact HM, ?_, hI3.fr.bel⟩
      · simp [results, Try.f15, go_sem]
      · rw [hu.out]
        exact RdP.of_places hI3.own
    case stop =>
      rintro N c' W hN h hd
      exact h.elim
  · have hzb : (Mc.chk ⟨i, o, rs⟩ == 0) = false := by rw [beq_eq_false_iff_ne]; exact hz
    have hv : Hid (Mc.unV ⟨i, o, rs⟩ = []) := by show _ = _; unfold Mc.unV; rw [if_neg hz]
    have hv2 : Hid (Mc.trV ⟨i, o, rs⟩ = 0) := by show _ = _; unfold Mc.trV; rw [if_neg hz]
    rw [hv2.out]
    obtain ⟨z, hzz⟩ : ∃ z, Mc.chk ⟨i, o, rs⟩ = z := ⟨_, rfl⟩
    rw [hzz] at hz hzb ⊢
    have HZ := Lib.hid hzz
    clear hzz
    gi_wp2_with fail
    refine ⟨.tuple #[.slice none 0 0, .int .i64 z], ?_, none, 0, by rw [HZ.out], by rw [hv.out]; rfl, by rw [hv.out]; exact RdP.nil_, hB1⟩
    simp [results, Try.f15, go_sem]
end Go.Proofs.Ytiohfflkolopeaa
