/-
  Contract: joint. No statement is proved here.
-/
import Derived.Test.YtgafpmgdpigliaaJo4
namespace Go.Proofs.Ytgafpmgdpigliaa
open Go.RowKit Go.Maps Go.WideMaps
open Mc (Ed Ma Wv nE)

/-- What joint hands back. -/
def JoP (w : World) (J : Ma) (e : Ending) (w' : World) : Prop :=
  ((Mc.ord J).length ≤ 64 ∧ ∃ p k gs, e = .returned (.tuple #[.agg #[.int .i64 J.i, .int .i64 J.o, .slice (some ⟨p, 0, none⟩) k k], .int .i64 0]) ∧ Hid ((Mc.ord J).length = k) ∧ Hid (gs.length = k) ∧ Hid (Wb w.heap.size p k (Mc.prt J (Mc.ord J)).r gs w') ∧ Below w.heap.size w w') ∨
  (64 < (Mc.ord J).length ∧ e = .returned (.tuple #[.agg #[.int .i64 0, .int .i64 0, .slice none 0 0], .int .i64 3]) ∧ Below w.heap.size w w')
theorem Jw.rows {w W W' : World} {nb n : Nat} {Q : List Wv} {V r : Value} {vs : List Value} (h : Jw w nb Q V W) (hr : W.ownsRow (w.heap.size + 2) 29 1 r n vs) (k : W.grownBy W' r.ownBlock) : Jw w nb Q V W' := by
  have hl : ∀ j, r.ownBlock = some j → w.heap.size + 2 ≤ j := fun j hj => (hr.lt j hj).1
  refine ⟨h.bel.grown k h.bel.size (fun j e => by have := hl j e; omega), (k.block _ (heap_lt h.rz) (by intro e; have := hl _ e.symm; omega)).trans h.rz, h.mp.block (k.block _ h.mp.lt (by intro e; have := hl _ e.symm; omega)), h.qo.kept k (own_apart h.qo hr (by decide))⟩
theorem Jw.at_ {w W : World} {nb : Nat} {Q : List Wv} {gq q cq p s t : Nat} {xw : List Int} (h : Jw w nb Q (.slice (some ⟨gq, 0, none⟩) q cq) W) (ht : t < nb) (hx : Q[p]? = some (((s * nb + t : Nat) : Int), xw)) : W.cell? ⟨gq, p * 2, none⟩ = some (.int .i64 s) ∧ W.cell? ⟨gq, p * 2 + 1, none⟩ = some (.int .i64 t) := by
  have e : (Q.map (pq nb))[p]? = some ((s : Int), (t : Int)) := by
    rw [List.getElem?_map, hx]
    show some (pq nb _) = _
    unfold pq
    rw [← Int.natCast_ediv, ← Int.natCast_emod, Mc.cd_div ht, Mc.cd_mod ht]
  obtain ⟨h1, h2⟩ := eC_at e
  have c1 := h.qo.cells (g := gq) rfl _ _ h1
  have c2 := h.qo.cells (g := gq) rfl _ _ h2
  rw [Addr.add_lit] at c1 c2
  exact ⟨by simpa using c1, by simpa using c2⟩
theorem own_neJ {w : World} {base : Nat} {V : Value} {n b : Nat} {e t : TypeId} {sz : Nat} {vs : List Value} {cs : Array Value} {fr : Nat × Nat} (h : w.ownsRow base e sz V n vs) (hc : w.heap[b]? = some (.cells cs t fr)) (ht : t ≠ e) : some b ≠ V.ownBlock := by
  intro e1
  rcases h.2 with ⟨rfl, _⟩ | ⟨g, c, cu, rfl, _, hg, _⟩
  · cases e1
  · simp [Value.ownBlock] at e1
    subst e1
    rw [hg] at hc
    injection hc with hc
    injection hc with _ h2 _
    exact ht h2.symm
theorem own_blkT {w : World} {base g n c k : Nat} {e : TypeId} {sz : Nat} {vs : List Value} (h : w.ownsRow base e sz (.slice (some ⟨g, 0, none⟩) n c) k vs) : ∃ cur, w.heap[g]? = some (.cells cur e (0, 0)) := by
  rcases h.2 with ⟨e1, _⟩ | ⟨g', c', cu, e1, _, hg, _⟩
  · cases e1
  · injection e1 with e1 _ _
    injection e1 with e1
    injection e1 with e1 _ _
    subst e1
    exact ⟨_, hg⟩
theorem curK_skip {row old : List Ed} {j : Nat} {x : Ed} (h1 : row[j]? = some x) (h2 : old[j]? = some x) : curK row old (j + 1) = curK row old j := by
  have hj := (List.getElem?_eq_some_iff.1 h1).1
  obtain ⟨hj2, e2⟩ := List.getElem?_eq_some_iff.1 h2
  unfold curK
  rw [List.take_add_one, h1, List.drop_eq_getElem_cons hj2, e2]
  simp
theorem mem_pq {nb : Nat} {Q : List Wv} {u v : Nat} (hv : v < nb) (h0 : ∀ y ∈ Q, 0 ≤ y.1) {k : Nat} : (Q.map (pq nb))[k]? = some ((u : Int), (v : Int)) ↔ ∃ w, Q[k]? = some (((u * nb + v : Nat) : Int), w) := by
  rw [List.getElem?_map]
  constructor
  · intro h
    cases hq : Q[k]? with
    | none => rw [hq] at h; cases h
    | some y =>
      rw [hq] at h
      obtain ⟨y1, y2⟩ := y
      have hy := h0 _ (List.mem_of_getElem? hq)
      obtain ⟨n, hn⟩ := Int.eq_ofNat_of_zero_le hy
      simp only at hn
      subst hn
      have h := Option.some.inj h
      unfold pq at h
      rw [Prod.mk.injEq, ← Int.natCast_ediv, ← Int.natCast_emod] at h
      have e1 : n / nb = u := by exact_mod_cast h.1
      have e2 : n % nb = v := by exact_mod_cast h.2
      refine ⟨y2, ?_⟩
      have := Nat.div_add_mod n nb
      rw [e1, e2, Nat.mul_comm] at this
      rw [this]
  · rintro ⟨w, hw⟩
    rw [hw]
    show some (pq nb _) = _
    unfold pq
    rw [← Int.natCast_ediv, ← Int.natCast_emod, Mc.cd_div hv, Mc.cd_mod hv]
theorem bfE_old {m : Ma} {x : Wv} {Q : List Wv} {j k c : Nat} {y : Int} {w : List Int} (hn : Mc.nx m x.1 j = ((c : Int), y)) (hk : Q[k]? = some ((c : Int), w)) : Mc.bfE m x Q j = Q := by
  unfold Mc.bfE
  rw [hn]
  refine if_pos (Or.inr ?_)
  cases h : Q.lookup (c : Int) with
  | some z => rfl
  | none => exact absurd rfl (Mc.look_none h _ (List.mem_of_getElem? hk))
theorem bfE_none {m : Ma} {x : Wv} {Q : List Wv} {j : Nat} (hn : Mc.nx m x.1 j = nE) : Mc.bfE m x Q j = Q := by
  unfold Mc.bfE
  rw [hn]
  exact if_pos (Or.inl (by decide))
theorem bfE_new {m : Ma} {x : Wv} {Q : List Wv} {j c : Nat} {y : Int} (hn : Mc.nx m x.1 j = ((c : Int), y)) (hk : ∀ e ∈ Q, e.1 ≠ (c : Int)) : Mc.bfE m x Q j = Q ++ [((c : Int), x.2 ++ [(j : Int)])] := by
  unfold Mc.bfE
  rw [hn]
  refine if_neg ?_
  rw [Mc.look_of_none hk]
  simp
set_option maxRecDepth 100000 in
set_option maxHeartbeats 8000000 in
theorem joint_any (x1 x2 : Value) (i : Nat) (o : Int) (na nb : Nat) (f : Nat → Nat → Nat → Mc.Pz) (w : World) (hi1 : 1 ≤ i) (hi16 : i ≤ 16) (ho1 : 1 ≤ o) (ho16 : o ≤ 16) (ha1 : 1 ≤ na) (hb1 : 1 ≤ nb) (ha64 : na ≤ 64) (hb64 : nb ≤ 64) (hJS : Mc.JS i o na nb f)
    (HF : Hid (∀ (W : World) (s t c : Nat), Below w.heap.size w W → s < na → t < nb → (c : Int) < i → Calls Try.prog 57 #[.agg #[.int .i64 s, .int .i64 t], .int .i64 c, x1, x2] W (PzP W (f s t c)))) :
    Calls Try.prog 56 #[.int .i64 i, .int .i64 o, .func (.func 57) #[] #[x1, x2]] w (JoP w (Mc.jm i o na nb f)) := by
  have VX := Lib.hid (Mc.jm_vx (i := i) (by omega) ho1 ha1 hb1 hJS)
  have HJS := Lib.hid hJS
  obtain ⟨J, hJ⟩ : ∃ J, Mc.jm i o na nb f = J := ⟨_, rfl⟩
  have JAT : Hid (∀ s t c : Nat, s < na → t < nb → (c : Int) < (i : Int) → Mc.nx J ((s * nb + t : Nat) : Int) (c : Int) = Mc.jE nb (f s t c)) := fun s t c hs ht hc => by rw [← hJ]; exact Mc.jm_at hs ht hc
  have JROW : Hid (∀ s t : Nat, s < na → t < nb → J.r[s * nb + t]? = some ((List.range i).map fun c => Mc.jE nb (f s t c))) := fun s t hs ht => by
    rw [← hJ]
    have h := Mc.jm_row (f := f) (i := i) (o := o) (s := s) (t := t) hs ht
    rw [Int.toNat_natCast] at h
    exact h
  have hPL : Hid (J.r.length = na * nb) := by show _ = _; rw [← hJ]; exact Mc.jm_len
  have hJi : Hid (J.i = i) := by show _ = _; rw [← hJ]; rfl
  have hJo : Hid (J.o = o) := by show _ = _; rw [← hJ]; rfl
  rw [hJ] at VX ⊢
  have HQV := Lib.hid (Mc.vx_vq VX.out)
  have hab : na * nb ≤ 4096 := Nat.mul_le_mul ha64 hb64
  have hab0 : 0 < na * nb := Nat.mul_pos ha1 hb1
  have BS := Lib.hid (Mc.BF.startQ HQV.out (s := 0) ⟨by omega, by rw [hPL.out]; omega⟩)
  obtain ⟨L, hL⟩ : ∃ L, Mc.wk J 0 = L := ⟨_, rfl⟩
  have HL := Lib.hid hL
  have HLB : Hid (Mc.BF J 0 L L.length 0) := by show Mc.BF _ _ _ _ _; rw [← hL]; exact Mc.vx_bf VX.out
  obtain ⟨R, hR⟩ : ∃ R, (Mc.prt J (Mc.ord J)).r = R := ⟨_, rfl⟩
  have HR := Lib.hid hR
  have hRl : Hid (R.length = L.length) := by show _ = _; rw [← hR, Mc.prt_len, Mc.ord_lenX, hL]
  have hRrow : Hid (∀ (p s t : Nat) xw, s < na → t < nb → L[p]? = some (((s * nb + t : Nat) : Int), xw) → R[p]? = some ((List.range i).map fun c => (Mc.ix (L.map (·.1)) (Mc.jE nb (f s t c)).1, (Mc.jE nb (f s t c)).2))) := fun p s t xw hs ht hp => by
    rw [← hR]
    unfold Mc.prt Mc.ord
    rw [hL]
    simp only [List.getElem?_map, hp, Option.map_some, Function.comp, Int.toNat_natCast, JROW.out s t hs ht, Option.getD_some, List.map_map]
    rfl
  have hnd : Hid ((L.map (·.1)).Nodup) := Mc.BF.nodupQ HQV.out HLB.out
  obtain ⟨P0, hP0⟩ : ∃ P0, JoP w J = P0 := ⟨_, rfl⟩
  have HP0 := Lib.hid hP0
  rw [hP0]
  have hzM : BxM (w.alloc (.cells #[.int .i64 0, .int .i64 0, .slice none 0 0] 24)) w.heap.size 0 0 none 0 0 := BxM.new w 0 0 none 0 0
  have hmm := @run_makeMap Try.prog
  obtain ⟨wp, hput, hps, hpg⟩ := (PNum.made (w.alloc (.cells #[.int .i64 0, .int .i64 0, .slice none 0 0] 24))).put (by unfold maxLen; omega) (by simp) (x := 0) (y := 0) ⟨⟨by simp, by simp⟩, ⟨by simp, by simp⟩⟩ (by simp)
  rw [World.size_alloc] at hput hps hpg
  have hput : (Instr.mapUpdate 136 (.map (some (w.heap.size + 1))) (.agg #[.int .i64 0, .int .i64 0]) (.int .i64 0)).run Try.prog ((w.alloc (.cells #[.int .i64 0, .int .i64 0, .slice none 0 0] 24)).alloc (.map #[] 0)) = .ok () wp := hput
  obtain ⟨G, hG⟩ : ∃ G, wp.heap.size = G := ⟨_, rfl⟩
  have hbz : Below w.heap.size w ((w.alloc (.cells #[.int .i64 0, .int .i64 0, .slice none 0 0] 24)).alloc (.map #[] 0)) := ((Below.refl _ _).alloc (Nat.le_refl _) _).alloc (by simp) _
  have hWG : w.heap.size + 2 ≤ G := by have := hpg.size; rw [hG] at this; simp at this; omega
  have hbp : Below w.heap.size w wp := hbz.grown hpg (by simp; omega) (fun j hj => by injection hj with hj; omega)
  have hzp : wp.heap[w.heap.size]? = some (.cells #[.int .i64 0, .int .i64 0, .slice none 0 0] 24) := (hpg.block _ (by simp; omega) (by intro e; injection e with e; omega)).trans ((Below.heap_alloc _ _ _ (by simp)).trans hzM)
  have hJW : Hid (Jw w nb [((0 : Int), [])] (.slice (some ⟨G, 0, none⟩) 1 1) (wp.alloc (.cells #[.int .i64 0, .int .i64 0] 84))) := by
    have hb3 : Below wp.heap.size wp (wp.alloc (.cells #[.int .i64 0, .int .i64 0] 84)) := (Below.refl _ _).alloc (Nat.le_refl _) _
    have e : (pq nb ((0 : Int), [])) = (0, 0) := by simp [pq]
    refine ⟨below_next hbp hb3, (hb3.block _ (heap_lt hzp)).trans hzp, by simpa [e] using hps.block (hb3.block _ hps.lt), ?_⟩
    refine ⟨by simp [eC], .inr ⟨G, 1, #[.int .i64 0, .int .i64 0], rfl, hWG, ?_, Nat.le_refl _, by unfold maxLen; omega, rfl, by simp [e, eC]⟩⟩
    rw [← hG]
    exact heap_alloc_new wp _
  clear hzM hps hpg hbz hbp hzp hWG hL hR hJ hJS hP0 hi1
  go_enter Try.func56, Try.ntmps56
  go_wp2_with fail
  clear hput hmm hG
  go_loopw [9, 10, 11] (fun v r z wr => ∃ (p : Nat) (Q : List Wv) (gq q cq fu : Nat) (vs : List Value), z = .int .i64 p ∧ v = .slice (some ⟨gq, 0, none⟩) q cq ∧ p ≤ q ∧ p ≤ 64 ∧ q ≤ 4096 ∧ 1 ≤ q ∧ fu + p = na * nb + 1 ∧ Hid (Q.length = q) ∧ Hid (Mc.bfG J fu p Q = L) ∧ Hid (Mc.BF J 0 Q p 0) ∧ Hid (Jw w nb Q (.slice (some ⟨gq, 0, none⟩) q cq) wr) ∧ Hid (Bld wr (w.heap.size + 2) r (R.take p) vs)) (fun _ _ z _ => 65 - (intOf z).toNat)
  case atStart => exact ⟨0, [((0 : Int), [])], _, 1, 1, na * nb + 1, [], rfl, rfl, by omega, by omega, by omega, by omega, by omega, rfl, (by have := HL.out; unfold Mc.wk at this; rw [hPL.out] at this; exact this), BS.out, hJW, Bld.nil_ _ _⟩
  case round =>
    obtain ⟨p, Q, gq, q, cq, fu, vs, rfl, rfl, hpq, hp64, hq64, hq1, hfu, hQ, hG, hB, hW, hBl⟩ := hrel
    clear hJW BS
    obtain ⟨W1, rfl⟩ : ∃ W1, W1 = wr := ⟨wr, rfl⟩
    obtain ⟨RA, RC, hre, hrc1, hrc2, hrc3, hrR⟩ := hBl.out.rd
    have hpL : Hid (p ≤ L.length) := by
      show p ≤ _
      have h1 := (Mc.bfG_pre J fu p Q).length_le
      rw [hG.out, hQ.out] at h1
      omega
    have hqab : q ≤ na * nb := by have := hB.out.lenQ HQV.out; rwa [hQ.out, hPL.out] at this
    have hrlen : (R.take p).length = p := by rw [List.length_take, hRl.out]; have := hpL.out; omega
    rw [hrlen] at hre hrc1
    subst hre
    by_cases hlt : p < q
    · by_cases h64 : p = 64
      · have hbig : Hid (64 < (Mc.ord J).length) := by
          show 64 < _
          have h1 := (Mc.bfG_pre J fu p Q).length_le
          rw [hG.out, hQ.out] at h1
          rw [Mc.ord_lenX, HL.out]
          omega
        have hd : ((p : Int) == 64) = true := by rw [beq_iff_eq]; omega
        have hZ : BxM W1 w.heap.size 0 0 none 0 0 := hW.out.rz
        obtain ⟨e0, e1, e2⟩ := hZ.cells
        obtain ⟨f0, f1, f2⟩ := hZ.frozen
        obtain ⟨r0, r1, r2⟩ := set3_reads hZ (.int .i64 0) (.int .i64 0) (.slice none 0 0)
        have HFin : Hid (JoP w J (.returned (.tuple #[.agg #[.int .i64 0, .int .i64 0, .slice none 0 0], .int .i64 3])) (((W1.setCell ⟨w.heap.size, 0, none⟩ (.int .i64 0)).setCell ⟨w.heap.size, 1, none⟩ (.int .i64 0)).setCell ⟨w.heap.size, 2, none⟩ (.slice none 0 0))) :=
          Or.inr ⟨hbig.out, rfl, below_set3' hW.out.bel (Nat.le_refl _) _ _ _⟩
        clear hW hBl hB hG hZ
        go_wp2
        refine bodyPost_ret (v := .tuple #[.agg #[.int .i64 0, .int .i64 0, .slice none 0 0], .int .i64 3]) (by simp [results, Try.f56, go_sem, r0, r1, r2]) rfl ?_
        rw [← HP0.out]
        exact HFin.out
      · have hd : ((p : Int) == 64) = false := by rw [beq_eq_false_iff_ne]; omega
        obtain ⟨⟨xs, xw⟩, hx⟩ : ∃ x, Q[p]? = some x := ⟨_, List.getElem?_eq_getElem (by rw [hQ.out]; exact hlt)⟩
        obtain ⟨⟨hx0, hx1⟩, hxl⟩ := hB.out.lw _ (List.mem_of_getElem? hx)
        simp only at hx0 hx1
        rw [hPL.out] at hx1
        obtain ⟨kc, rfl⟩ := Int.eq_ofNat_of_zero_le hx0
        obtain ⟨s, t, hs, ht, rfl⟩ := Mc.cd_inv (n := nb) (p := na) (k := kc) (by omega)
        have hLp : Hid (L[p]? = some (((s * nb + t : Nat) : Int), xw)) := by
          show _ = _
          rw [← hG.out]
          exact Mc.pre_at (Mc.bfG_pre J fu p Q) hx
        have hRp := Lib.hid (hRrow.out p s t xw hs ht hLp.out)
        obtain ⟨row, hrow⟩ : ∃ row, ((List.range i).map fun c => (Mc.ix (L.map (·.1)) (Mc.jE nb (f s t c)).1, (Mc.jE nb (f s t c)).2)) = row := ⟨_, rfl⟩
        rw [hrow] at hRp
        have hrowl : Hid (row.length = i) := by show _ = _; rw [← hrow]; simp
        have hrowj : Hid (∀ j, j < i → row[j]? = some (Mc.ix (L.map (·.1)) (Mc.jE nb (f s t j)).1, (Mc.jE nb (f s t j)).2)) := fun j hj => by rw [← hrow, List.getElem?_map, List.getElem?_range hj]; rfl
        have HX := Lib.hid hx
        clear hrow hx hx0 hxl
        go_wp2_with fail
        refine (blankRow_any i _ (by omega)).mono ?_
        rintro e w2 ⟨gr, rfl, hgr, hgl, hb2⟩
        have hW2 := Lib.hid (hW.out.below hb2)
        have hgr2 : Hid (w2.heap[gr]? = some (.cells (eC (curK row (List.replicate i nE) 0)).toArray 27 (0, 0))) := by
          show _ = _
          rw [curK_zero]
          exact hgr
        have hK2 : Hid (Kt W1 w2) := (Kt.refl W1).below hb2
        have hgz : w.heap.size + 2 ≤ gr := by have := hW.out.sz; omega
        clear hgr hW hb2
        go_wp2
        go_loopw [9, 36] (fun v z wx => ∃ (j : Nat) (Q' : List Wv) (gq q cq : Nat), z = .int .i64 j ∧ v = .slice (some ⟨gq, 0, none⟩) q cq ∧ j ≤ i ∧ q ≤ 4096 ∧ p < q ∧ Hid (Q'.length = q) ∧ Hid (Mc.bfR J (((s * nb + t : Nat) : Int), xw) j Q = Q') ∧ Hid (Jw w nb Q' (.slice (some ⟨gq, 0, none⟩) q cq) wx) ∧ Hid (Kt W1 wx) ∧ Hid (wx.heap[gr]? = some (.cells (eC (curK row (List.replicate i nE) j)).toArray 27 (0, 0)))) (fun _ z _ => i - (intOf z).toNat)
        case atStart => exact ⟨0, Q, gq, q, cq, rfl, rfl, Nat.zero_le _, hq64, hlt, hQ, rfl, hW2, hK2, hgr2⟩
        case round =>
          clear hW2 hK2 hgr2
          obtain ⟨j, Q', gq', q', cq', rfl, rfl, hj, hq', hpq', hQ', hR', hW, hK, hrw⟩ := hrel
          have hpre := Mc.bfR_pre J (((s * nb + t : Nat) : Int), xw) Q j
          rw [hR'.out] at hpre
          have HX' := Lib.hid (Mc.pre_at hpre HX.out)
          by_cases hji : j < i
          · have hji1 : (j : Int) < i := by omega
            obtain ⟨fv, hfv⟩ : ∃ fv, fu = fv + 1 := ⟨fu - 1, by omega⟩
            have hJn : J.i.toNat = i := by rw [hJi.out]; simp
            have hpL2 : ∀ Q2, Mc.bfR J (((s * nb + t : Nat) : Int), xw) (j + 1) Q = Q2 → Q2 <+: L := fun Q2 h => by
              have h1 := Mc.bfR_mono J (((s * nb + t : Nat) : Int), xw) Q (j + 1) (i - (j + 1))
              rw [show j + 1 + (i - (j + 1)) = i by omega, h] at h1
              have h2 := hG.out
              rw [hfv, bfG_atE HX.out, hJn] at h2
              rw [← h2]
              exact h1.trans (Mc.bfG_pre J fv (p + 1) _)
            have HPL := Lib.hid hpL2
            have hBF := Lib.hid (hB.out.bfRQ HQV.out ⟨by omega, by rw [hPL.out]; omega⟩ HX.out j (by rw [hJi.out]; omega))
            rw [hR'.out] at hBF
            have hrange := Lib.hid (fun e he => (hBF.out.lw e he).1)
            have hNX := Lib.hid (JAT.out s t j hs ht hji1)
            have hRj := Lib.hid (hrowj.out j hji)
            have hS := HJS.out s t j hs ht hji1
            obtain ⟨c0, c1⟩ := hW.out.at_ ht HX'.out
            have hbr : Hid ((List.replicate i nE)[j]? = some nE) := by show _ = _; rw [List.getElem?_replicate, if_pos hji]
            have hstep : Hid (Mc.bfR J (((s * nb + t : Nat) : Int), xw) (j + 1) Q = Mc.bfE J (((s * nb + t : Nat) : Int), xw) Q' j) := by show _ = _; rw [← hR'.out]; rfl
            have hpq1 : (p : Int) < q' := by omega
            clear hpL2 hpre
            obtain ⟨z, hz⟩ : ∃ z, f s t j = z := ⟨_, rfl⟩
            have hCF := HF.out wr s t j hW.out.bel hs ht hji1
            rw [hz] at hCF hS hNX hRj
            obtain ⟨⟨zu, zv⟩, zo⟩ := z
            simp only at hS
            have HCF := Lib.hid hCF
            clear hCF hz hfv
            go_wp2_with fail
            refine HCF.out.mono ?_
            rintro e w3 ⟨rfl, hb3⟩
            have hz3 : w.heap.size + 2 ≤ w3.heap.size := by have := hW.out.sz; have := hb3.size; omega
            simp only
            have hW3 := Lib.hid (hW.out.below (hb3.trans (((Below.refl _ _).alloc (Nat.le_refl _) (.cells #[.int .i64 zu, .int .i64 zv] 84)).mono hb3.size)))
            have hK3 : Hid (Kt wr (w3.alloc (.cells #[.int .i64 zu, .int .i64 zv] 84))) := ((Kt.refl wr).below hb3).below ((Below.refl _ _).alloc (Nat.le_refl _) _)
            have hbx : Hid ((w3.alloc (.cells #[.int .i64 zu, .int .i64 zv] 84)).heap[w3.heap.size]? = some (.cells #[.int .i64 zu, .int .i64 zv] 84)) := heap_alloc_new w3 _
            have t0 : (w3.alloc (.cells #[.int .i64 zu, .int .i64 zv] 84)).cell? ⟨w3.heap.size, 0, none⟩ = some (.int .i64 zu) := by rw [cell_of_row _ _ _ _ _ _ hbx.out]; rfl
            have t1 : (w3.alloc (.cells #[.int .i64 zu, .int .i64 zv] 84)).cell? ⟨w3.heap.size, 1, none⟩ = some (.int .i64 zv) := by rw [cell_of_row _ _ _ _ _ _ hbx.out]; rfl
            have hskip : zu = -1 ∨ zv = -1 → Hid (Mc.bfR J (((s * nb + t : Nat) : Int), xw) (j + 1) Q = Q') ∧ Hid (curK row (List.replicate i nE) (j + 1) = curK row (List.replicate i nE) j) := fun h => by
              have h1 : Mc.jE nb ((zu, zv), zo) = nE := Mc.jE_none h
              have h2 := hNX.out
              have h3 := hRj.out
              rw [h1] at h2 h3
              refine ⟨?_, ?_⟩
              · show _ = _
                rw [hstep.out]
                exact bfE_none h2
              · show _ = _
                have h4 : Mc.ix (L.map (·.1)) nE.1 = -1 := Mc.ix_none fun hin => by
                  obtain ⟨e, he, h5⟩ := List.mem_map.1 hin
                  have := (HLB.out.lw e he).1.1
                  have h6 : e.1 = -1 := h5
                  omega
                rw [h4] at h3
                exact curK_skip h3 hbr.out
            have hKW : Hid (Kt W1 (w3.alloc (.cells #[.int .i64 zu, .int .i64 zv] 84))) := hK.out.trans hK3.out
            have hrw3 : Hid ((w3.alloc (.cells #[.int .i64 zu, .int .i64 zv] 84)).heap[gr]? = some (.cells (eC (curK row (List.replicate i nE) j)).toArray 27 (0, 0))) := hK3.out gr _ _ _ hrw.out (Or.inl rfl)
            clear hb3 c0 c1 HCF
            by_cases hzu : zu = -1
            · obtain ⟨k1, k2⟩ := hskip (Or.inl hzu)
              have hrw4 : Hid ((w3.alloc (.cells #[.int .i64 zu, .int .i64 zv] 84)).heap[gr]? = some (.cells (eC (curK row (List.replicate i nE) (j + 1))).toArray 27 (0, 0))) := by show _ = _; rw [k2.out]; exact hrw3.out
              subst hzu
              clear hskip k2 hrw hrw3 hW hS
              go_wp2
              go_roundw
              case rel => exact ⟨j + 1, Q', gq', q', cq', by go_num, rfl, by omega, hq', hpq', hQ', k1, hW3, hKW, hrw4⟩
              case measure => simp [intOf]; omega
            · have hzu0 : 0 ≤ zu ∧ zu < na := by omega
              obtain ⟨u, rfl⟩ := Int.eq_ofNat_of_zero_le hzu0.1
              have hun : ((u : Int) == -1) = false := by rw [beq_eq_false_iff_ne]; omega
              by_cases hzv : zv = -1
              · obtain ⟨k1, k2⟩ := hskip (Or.inr hzv)
                have hrw4 : Hid ((w3.alloc (.cells #[.int .i64 u, .int .i64 zv] 84)).heap[gr]? = some (.cells (eC (curK row (List.replicate i nE) (j + 1))).toArray 27 (0, 0))) := by show _ = _; rw [k2.out]; exact hrw3.out
                subst hzv
                clear hskip k2 hrw hrw3 hW hS hzu hzu0
                go_wp2
                go_roundw
                case rel => exact ⟨j + 1, Q', gq', q', cq', by go_num, rfl, by omega, hq', hpq', hQ', k1, hW3, hKW, hrw4⟩
                case measure => simp [intOf]; omega
              · have hzv0 : 0 ≤ zv ∧ zv < nb := by omega
                obtain ⟨v, rfl⟩ := Int.eq_ofNat_of_zero_le hzv0.1
                have hvn : ((v : Int) == -1) = false := by rw [beq_eq_false_iff_ne]; omega
                have hv : v < nb := by omega
                have hu : u < na := by omega
                have hnx : Hid (Mc.nx J ((s * nb + t : Nat) : Int) (j : Int) = (((u * nb + v : Nat) : Int), zo)) := by show _ = _; rw [hNX.out]; exact Mc.jE_some rfl rfl
                have hrj : Hid (row[j]? = some (Mc.ix (L.map (·.1)) ((u * nb + v : Nat) : Int), zo)) := by
                  show _ = _
                  have h1 : Mc.jE nb (((u : Int), (v : Int)), zo) = (((u * nb + v : Nat) : Int), zo) := Mc.jE_some rfl rfl
                  rw [hRj.out, h1]
                have hinq : InQ ((u : Int), (v : Int)) := ⟨⟨by simp, by simp only; omega⟩, ⟨by simp, by simp only; omega⟩⟩
                clear hskip hNX hRj hS hzu hzv hzu0 hzv0 hrw
                by_cases hm : ((u : Int), (v : Int)) ∈ Q'.map (pq nb)
                · obtain ⟨k, hk⟩ := List.mem_iff_getElem?.1 hm
                  obtain ⟨yw, hy⟩ := (mem_pq hv (fun y hy => (hrange.out y hy).1)).1 hk
                  have hlook := hW3.out.mp.look_yes hk
                  have k1 : Hid (Mc.bfR J (((s * nb + t : Nat) : Int), xw) (j + 1) Q = Q') := by show _ = _; rw [hstep.out]; exact bfE_old hnx.out hy
                  have hix : Mc.ix (L.map (·.1)) ((u * nb + v : Nat) : Int) = k := by
                    refine Mc.ix_at hnd.out ?_
                    rw [List.getElem?_map, Mc.pre_at (HPL.out _ k1.out) hy]
                    rfl
                  have hrj2 := hrj.out
                  rw [hix] at hrj2
                  have hcl : (curK row (List.replicate i nE) j).length = i := by rw [curK_len (by rw [hrowl.out, List.length_replicate]) (by rw [hrowl.out]; exact hj), hrowl.out]
                  obtain ⟨ecs, hecs⟩ : ∃ v, (curK row (List.replicate i nE) j)[j]? = some v := ⟨_, List.getElem?_eq_getElem (by rw [hcl]; exact hji)⟩
                  obtain ⟨s0, s1⟩ := rowB_cells hrw3.out hecs
                  have sf := blk_frz hrw3.out
                  have hput := rowB_put hrw3.out (k := j) (by rw [hcl]; exact hji) ((k : Int), zo)
                  rw [curK_set (by rw [hrowl.out, List.length_replicate]) hrj2] at hput
                  have hgw : Hid (w.heap.size + 2 ≤ gr) := hgz
                  have hrwF := Lib.hid hput
                  have hWF := Lib.hid ((hW3.out.far hrw3.out hgz (.int .i64 (k : Int)) (off := j * 2)))
                  have hblk1 : (((w3.alloc (.cells #[.int .i64 u, .int .i64 v] 84)).setCell ⟨gr, j * 2, none⟩ (.int .i64 (k : Int)))).heap[gr]? = some (.cells ((eC (curK row (List.replicate i nE) j)).toArray.setIfInBounds (j * 2) (.int .i64 (k : Int))) 27 (0, 0)) := by
                    simp [World.setCell, Array.getElem?_modify, hrw3.out]
                  have hWG := Lib.hid (hWF.out.far hblk1 hgz (.int .i64 zo) (off := j * 2 + 1))
                  have hKG := Lib.hid ((hKW.out.setNew hgl (off := j * 2) (.int .i64 (k : Int))).setNew hgl (off := j * 2 + 1) (.int .i64 zo))
                  clear hW hrw3 hput hrj2 hecs hcl hix hk hm hy hblk1 hWF hrj hnx
                  go_wp2
                  go_roundw
                  case rel => exact ⟨j + 1, Q', gq', q', cq', by go_num, rfl, by omega, hq', hpq', hQ', k1, hWG, hKG, hrwF⟩
                  case measure => simp [intOf]; omega
                · have hne : ∀ e ∈ Q', e.1 ≠ ((u * nb + v : Nat) : Int) := fun e he h => hm (by
                    obtain ⟨k, hk⟩ := List.mem_iff_getElem?.1 he
                    obtain ⟨e1, e2⟩ := e
                    simp only at h
                    subst h
                    exact List.mem_of_getElem? ((mem_pq hv (fun y hy => (hrange.out y hy).1)).2 ⟨e2, hk⟩))
                  obtain ⟨cc, hlook⟩ := hW3.out.mp.look_no hinq hm
                  have k1 : Hid (Mc.bfR J (((s * nb + t : Nat) : Int), xw) (j + 1) Q = Q' ++ [(((u * nb + v : Nat) : Int), xw ++ [(j : Int)])]) := by show _ = _; rw [hstep.out]; exact bfE_new hnx.out hne
                  have hix : Mc.ix (L.map (·.1)) ((u * nb + v : Nat) : Int) = q' := by
                    refine Mc.ix_at hnd.out ?_
                    have h1 : (Q' ++ [(((u * nb + v : Nat) : Int), xw ++ [(j : Int)])])[q']? = some (((u * nb + v : Nat) : Int), xw ++ [(j : Int)]) := by rw [List.getElem?_append_right (by rw [hQ'.out]; exact Nat.le_refl _), hQ'.out, Nat.sub_self]; rfl
                    rw [List.getElem?_map, Mc.pre_at (HPL.out _ k1.out) h1]
                    rfl
                  have hrj2 := hrj.out
                  rw [hix] at hrj2
                  have hq2 : q' + 1 ≤ 4096 := by
                    have h1 := (hB.out.bfRQ HQV.out ⟨by omega, by rw [hPL.out]; omega⟩ HX.out (j + 1) (by rw [hJi.out]; omega)).lenQ HQV.out
                    rw [k1.out, List.length_append, hQ'.out, hPL.out] at h1
                    simp at h1
                    omega
                  have hpqe : pq nb (((u * nb + v : Nat) : Int), xw ++ [(j : Int)]) = ((u : Int), (v : Int)) := by
                    unfold pq
                    rw [← Int.natCast_ediv, ← Int.natCast_emod, Mc.cd_div hv, Mc.cd_mod hv]
                  obtain ⟨wp, hput, hps, hpg⟩ := hW3.out.mp.put (by rw [hQ'.out]; unfold maxLen; omega) (by rw [List.length_map, hQ'.out]; omega) hinq hm
                  rw [List.length_map, hQ'.out] at hput
                  have hzp : w.heap.size + 1 < w3.heap.size := by omega
                  have t0p : wp.cell? ⟨w3.heap.size, 0, none⟩ = some (.int .i64 u) := by
                    have h1 := (hpg.block w3.heap.size (heap_lt hbx.out) (by intro e; injection e with e; omega)).trans hbx.out
                    rw [cell_of_row _ _ _ _ _ _ h1]; rfl
                  have t1p : wp.cell? ⟨w3.heap.size, 1, none⟩ = some (.int .i64 v) := by
                    have h1 := (hpg.block w3.heap.size (heap_lt hbx.out) (by intro e; injection e with e; omega)).trans hbx.out
                    rw [cell_of_row _ _ _ _ _ _ h1]; rfl
                  have hrwp := Lib.hid ((hpg.block gr (heap_lt hrw3.out) (by intro e; injection e with e; omega)).trans hrw3.out)
                  have hKp : Hid (Kt (w3.alloc (.cells #[.int .i64 u, .int .i64 v] 84)) wp) := (Kt.refl _).grown hpg (fun cs t fr h => by
                    obtain ⟨es, cl, h2⟩ := hW3.out.mp.isMap
                    rw [h2] at h
                    injection h with h
                    cases h)
                  have hown : wp.ownsRow (w.heap.size + 2) 84 2 (.slice (some ⟨gq', 0, none⟩) q' cq') (Q'.map (pq nb)).length (eC (Q'.map (pq nb))) := by
                    rw [List.length_map]
                    exact hW3.out.qo.kept hpg (by
                      cases hob : (Value.slice (some ⟨gq', 0, none⟩) q' cq').ownBlock with
                      | none => exact Or.inl rfl
                      | some g => exact Or.inr (fun e => by injection e with e; have := (hW3.out.qo.lt g hob).1; omega))
                  have hB2 : w.heap.size + 2 ≤ wp.heap.size := by have := hpg.size; have := hW3.out.sz; omega
                  have hlen : (Q'.map (pq nb)).length ≤ 1000000 := by rw [List.length_map, hQ'.out]; omega
                  have HOWN := Lib.hid hown
                  have hrwA : Hid ((wp.alloc (.cells #[.int .i64 u, .int .i64 v] 84)).heap[gr]? = some (.cells (eC (curK row (List.replicate i nE) j)).toArray 27 (0, 0))) := (Below.heap_alloc _ _ _ (heap_lt hrwp.out)).trans hrwp.out
                  have hcl : (curK row (List.replicate i nE) j).length = i := by rw [curK_len (by rw [hrowl.out, List.length_replicate]) (by rw [hrowl.out]; exact hj), hrowl.out]
                  obtain ⟨ecs, hecs⟩ : ∃ v, (curK row (List.replicate i nE) j)[j]? = some v := ⟨_, List.getElem?_eq_getElem (by rw [hcl]; exact hji)⟩
                  have HECS := Lib.hid hecs
                  have HCL := Lib.hid hcl
                  have HRJ2 := Lib.hid hrj2
                  clear hcl hrj2
                  have HPUT := Lib.hid hps
                  have HPG := Lib.hid hpg
                  have HPE := Lib.hid hpqe
                  clear hown hps hpg hpqe hm hne hW hix hnx hrj hrw3
                  go_wp2_with (first
                    | (refine wpList_append_pairG _ _ _ HOWN.out hlen hB2 rfl _ _ rfl rfl rfl ?_
                       intro v1 w6 hown6 hg6
                       rw [List.length_map, hQ'.out] at hown6
                       obtain ⟨g6, c6, rfl, _, _⟩ := hown6.form (by omega)
                       have hrw6 := (hg6.block gr (heap_lt hrwA.out) (own_neJ (HOWN.out.alloc _) hrwA.out (by decide))).trans hrwA.out
                       obtain ⟨s0, s1⟩ := rowB_cells hrw6 hecs
                       have sf := blk_frz hrw6)
                    | fail)
                  have hput6 := rowB_put hrw6 (k := j) (by rw [HCL.out]; exact hji) ((q' : Int), zo)
                  rw [curK_set (by rw [hrowl.out, List.length_replicate]) HRJ2.out] at hput6
                  have hps2 := HPUT.out
                  rw [← HPE.out] at hps2 hown6
                  rw [← hQ'.out] at hown6
                  have hJ6 := hW3.out.more (Below.refl _ _) hps2 HPG.out ((Below.refl _ _).alloc (Nat.le_refl _) (.cells #[.int .i64 u, .int .i64 v] 84)) hg6 hown6
                  rw [hQ'.out] at hJ6
                  obtain ⟨cur6, hcur6⟩ := own_blkT (HOWN.out.alloc (.cells #[.int .i64 u, .int .i64 v] 84))
                  have hK6 : Kt W1 w6 := ((hKW.out.trans hKp.out).below ((Below.refl _ _).alloc (Nat.le_refl _) (.cells #[.int .i64 u, .int .i64 v] 84))).grown hg6 (fun cs t fr h => by
                    rw [hcur6] at h
                    injection h with h
                    injection h with _ h _
                    subst h
                    exact ⟨by decide, by decide⟩)
                  have hblk6 : (w6.setCell ⟨gr, j * 2, none⟩ (.int .i64 (q' : Int))).heap[gr]? = some (.cells ((eC (curK row (List.replicate i nE) j)).toArray.setIfInBounds (j * 2) (.int .i64 (q' : Int))) 27 (0, 0)) := by
                    simp [World.setCell, Array.getElem?_modify, hrw6]
                  have HJ7 := Lib.hid ((hJ6.far hrw6 hgz (off := j * 2) (.int .i64 (q' : Int))).far hblk6 hgz (off := j * 2 + 1) (.int .i64 zo))
                  have HK7 := Lib.hid ((hK6.setNew hgl (off := j * 2) (.int .i64 (q' : Int))).setNew hgl (off := j * 2 + 1) (.int .i64 zo))
                  have HR7 := Lib.hid hput6
                  have HQ7 : Hid ((Q' ++ [(((u * nb + v : Nat) : Int), xw ++ [(j : Int)])]).length = q' + 1) := by show _ = _; rw [List.length_append, hQ'.out]; rfl
                  clear hJ6 hK6 hblk6 hput6 hown6 hg6 hcur6 hps2 s0 s1 sf hrw6 hput t0p t1p hlook
                  go_roundw
                  case rel => exact ⟨j + 1, Q' ++ [(((u * nb + v : Nat) : Int), xw ++ [(j : Int)])], g6, q' + 1, c6, by go_num, rfl, by omega, hq2, by omega, HQ7, k1, HJ7, HK7, HR7⟩
                  case measure => simp [intOf]; omega
          · have hjn : j = i := by omega
            have hfull : curK row (List.replicate i nE) j = row := by
              have h1 : j = row.length := by rw [hrowl.out]; exact hjn
              rw [h1]
              exact curK_all (by rw [hrowl.out, List.length_replicate])
            rw [hfull] at hrw
            have hBl2 := hBl.out.kt hK.out
            have hOR : OwR wr (w.heap.size + 2) (.slice (some ⟨gr, 0, none⟩) row.length i) row := ⟨eC_len row, .inr ⟨gr, i, _, rfl, hgz, hrw.out, by rw [hrowl.out]; exact Nat.le_refl _, by unfold maxLen; omega, by have h1 := eC_len row; rw [hrowl.out] at h1; simpa using h1, by rw [← eC_len row]; simp⟩⟩
            have hown := hBl2.1
            rw [hrlen] at hown
            have HOWN := Lib.hid hown
            have HOR := Lib.hid hOR
            have HBL := Lib.hid hBl2
            have hsz : w.heap.size + 2 ≤ wr.heap.size := hW.out.sz
            have hBF := hB.out.rowQ HQV.out ⟨by omega, by rw [hPL.out]; omega⟩ HX.out
            have hJn : J.i.toNat = i := by rw [hJi.out]; simp
            have hR2 := hR'.out
            rw [hjn] at hR2
            rw [hJn, hR2] at hBF
            have HBF := Lib.hid hBF
            obtain ⟨fv, rfl⟩ : ∃ fv, fu = fv + 1 := ⟨fu - 1, by omega⟩
            have hG' : Hid (Mc.bfG J fv (p + 1) Q' = L) := by
              show _ = _
              rw [← hG.out, bfG_atE HX.out, hJn, hR2]
            have htk : R.take (p + 1) = R.take p ++ [row] := by rw [List.take_add_one, hRp.out]; rfl
            have HTK := Lib.hid htk
            clear hown hOR hBl2 hBF hR2 htk hfull hJn hpre
            go_wp2_with (first
              | (refine wpList_append_rowG _ (.slice (some ⟨gr, 0, none⟩) i i) rfl HOWN.out (by omega) hsz rfl _ _ rfl rfl rfl ?_; intro v7 w7 hown7 hg7)
              | fail)
            have hJ7 := (hW.out.below ((Below.refl _ _).alloc (Nat.le_refl _) (.cells #[.slice (some ⟨gr, 0, none⟩) i i] 29))).rows (HOWN.out.alloc _) hg7
            have hBl7 := HBL.out.push (o := .cells #[.slice (some ⟨gr, 0, none⟩) i i] 29) (w1 := w7) (V1 := v7) HOR.out (by rw [hrlen, hrowl.out]; exact hown7) hg7
            rw [← HTK.out] at hBl7
            have HJ7 := Lib.hid hJ7
            have HBL7 := Lib.hid hBl7
            clear hJ7 hBl7 hown7 hg7 hW hK hrw
            go_roundw
            case rel => exact ⟨p + 1, Q', gq', q', cq', fv, _, by go_num, rfl, by omega, by omega, hq', by omega, by omega, hQ', hG', HBF, HJ7, HBL7⟩
            case measure => simp [intOf]; omega
    · have hpe : p = q := by omega
      have hLQ : Hid (L = Q) := by
        show _ = _
        have h1 := hG.out
        have h2 := hQ.out
        rw [hpe, ← h2, bfG_endE] at h1
        exact h1.symm
      have hol : Hid ((Mc.ord J).length = p) := by show _ = _; rw [Mc.ord_lenX, HL.out, hLQ.out, hQ.out, hpe]
      obtain ⟨V, hcl, hcr⟩ := Mc.vx_can VX.out (by rw [hJi.out]; omega) (by rw [hJo.out]; omega) (by rw [hol.out]; exact hp64)
      have hRR : Hid (RdR W1 RA (Mc.prt J (Mc.ord J)).r) := by
        show RdR _ _ _
        rw [HR.out]
        have h1 := hrR
        rw [List.take_of_length_le (by have h2 := hol.out; rw [Mc.ord_lenX, HL.out] at h2; rw [hRl.out]; omega)] at h1
        exact h1
      have hCW := wcanon_ok (Mc.prt J (Mc.ord J)) RA RC W1 V hRR.out
      rw [Mc.prt_len, hol.out] at hCW
      have e1 : (Mc.prt J (Mc.ord J)).i = i := hJi.out
      have e2 : (Mc.prt J (Mc.ord J)).o = o := hJo.out
      rw [e1, e2] at hCW
      have HCW := Lib.hid hCW
      have HCL := Lib.hid hcl
      have HCR := Lib.hid hcr
      have HPQ := Lib.hid hpe
      clear hpe hCW hcl hcr e1 e2 hRR hrR hBl hB hG
      go_wp2_with fail
      with_reducible refine HCW.out.mono ?_
      rintro e w7 ⟨p7, k7, gs7, rfl, hk7, hgs7, hWb7, hb7⟩
      have hZ : BxM w7 w.heap.size 0 0 none 0 0 := (hb7.block _ (heap_lt hW.out.rz)).trans hW.out.rz
      obtain ⟨e0, e1, e2⟩ := hZ.cells
      obtain ⟨f0, f1, f2⟩ := hZ.frozen
      have hmi : (Mc.prt J (Mc.ord J)).i = i := hJi.out
      have hmo : (Mc.prt J (Mc.ord J)).o = o := hJo.out
      rw [hmi, hmo]
      clear hmi hmo
      obtain ⟨r0, r1, r2⟩ := set3_reads hZ (.int .i64 i) (.int .i64 o) (.slice (some ⟨p7, 0, none⟩) k7 k7)
      have HFin : Hid (JoP w J (.returned (.tuple #[.agg #[.int .i64 i, .int .i64 o, .slice (some ⟨p7, 0, none⟩) k7 k7], .int .i64 0])) (((w7.setCell ⟨w.heap.size, 0, none⟩ (.int .i64 i)).setCell ⟨w.heap.size, 1, none⟩ (.int .i64 o)).setCell ⟨w.heap.size, 2, none⟩ (.slice (some ⟨p7, 0, none⟩) k7 k7))) := by
        refine Or.inl ⟨by rw [hol.out]; exact hp64, p7, k7, gs7, by rw [hJi.out, hJo.out], by show _ = _; rw [← hk7.out, HCL.out], hgs7, ?_, below_set3' (below_next hW.out.bel hb7) (Nat.le_refl _) _ _ _⟩
        have h1 := hWb7.out
        rw [HCR.out] at h1
        have hsz := hW.out.sz
        have h2 : Wb w.heap.size p7 k7 (Mc.prt J (Mc.ord J)).r gs7 w7 := ⟨h1.blk, h1.row, fun g hg => ⟨by have := (h1.own g hg).1; omega, (h1.own g hg).2⟩, h1.inj, by have := h1.p0; omega⟩
        have hpp := h1.p0
        exact ((h2.far (by omega) (fun g hg => by have := (h1.own g hg).1; omega) _).far (by omega) (fun g hg => by have := (h1.own g hg).1; omega) _).far (by omega) (fun g hg => by have := (h1.own g hg).1; omega) _
      clear hW hZ hWb7 hb7 HCW
      go_wp2
      refine bodyPost_ret (v := .tuple #[.agg #[.int .i64 i, .int .i64 o, .slice (some ⟨p7, 0, none⟩) k7 k7], .int .i64 0]) (by simp [results, Try.f56, go_sem, r0, r1, r2]) rfl ?_
      rw [← HP0.out]
      exact HFin.out
end Go.Proofs.Ytgafpmgdpigliaa
