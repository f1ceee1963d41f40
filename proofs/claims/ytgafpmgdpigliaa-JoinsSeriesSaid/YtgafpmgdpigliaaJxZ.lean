/-
  Several texts in one: JjM, Jjt. No statement is proved here.
-/
import Derived.Test.YtgafpmgdpigliaaJo5
import Derived.Test.YtgafpmgdpigliaaJyZ
import Derived.Test.YtgafpmgdpigliaaWh0
import Derived.ChangeKeysEq
import Derived.Deep.CutRange
namespace Go.Proofs.Ytgafpmgdpigliaa
open Go.RowKit
open Mc (Ed Ma Wv nE)

namespace Mc
/-- The queue at the beginning of a row. -/
def RowS (J : Ma) (s q : Nat) : Prop := ∃ (Q : List Wv) (fu : Nat), Q.length = q ∧ bfG J fu s Q = wk J 0 ∧ BF J 0 Q s 0 ∧ fu + s = J.r.length + 1 ∧ s ≤ q
/-- The queue in the middle of a row. -/
def InS (J : Ma) (s j q : Nat) : Prop := ∃ (Q : List Wv) (fu : Nat) (x : Wv), bfG J fu s Q = wk J 0 ∧ BF J 0 Q s 0 ∧ fu + s = J.r.length + 1 ∧ Q[s]? = some x ∧ (bfR J x j Q).length = q ∧ (j : Int) ≤ J.i
section
variable {J : Ma} {s j q : Nat}
theorem RowS.start (V : Vx J) : RowS J 0 1 := ⟨[(0, [])], J.r.length + 1, rfl, rfl, BF.startQ (vx_vq V) ⟨by omega, by have := V.r0; omega⟩, rfl, Nat.zero_le _⟩
theorem ord_at {k : Nat} {e : Wv} (h : (wk J 0)[k]? = some e) : (ord J)[k]? = some e.1 := by
  unfold ord
  rw [List.getElem?_map, h]
  rfl
theorem RowS.le (h : RowS J s q) : q ≤ (ord J).length := by
  obtain ⟨Q, fu, h1, h2, _⟩ := h
  have := (bfG_pre J fu s Q).length_le
  rw [h2, h1] at this
  rwa [ord_lenX]
theorem pre_get {Q R : List Wv} (h : Q <+: R) {k : Nat} {x : Wv} (hk : Q[k]? = some x) : R[k]? = some x := by
  obtain ⟨S, rfl⟩ := h
  rw [List.getElem?_append_left (List.getElem?_eq_some_iff.1 hk).1]
  exact hk
theorem RowS.go (V : Vx J) (h : RowS J s q) (hs : s < (ord J).length) : s < q ∧ InS J s 0 q := by
  obtain ⟨Q, fu, h1, h2, h3, h4, h5⟩ := h
  have hlt : s < q := by
    rcases Nat.lt_or_ge s q with h | h
    · exact h
    · exfalso
      have e : s = Q.length := by omega
      rw [e, bfG_endE] at h2
      rw [ord_lenX, ← h2] at hs
      omega
  have hx := List.getElem?_eq_getElem (show s < Q.length by omega)
  exact ⟨hlt, Q, fu, Q[s], h2, h3, h4, hx, h1, by have := V.i0; omega⟩
theorem ins_pre (V : Vx J) {Q : List Wv} {fu : Nat} {x : Wv} (h2 : bfG J fu s Q = wk J 0) (h3 : BF J 0 Q s 0) (h4 : fu + s = J.r.length + 1) (hx : Q[s]? = some x) {k : Nat} (hk : (k : Int) ≤ J.i) : bfR J x k Q <+: wk J 0 := by
  have hl := h3.lenQ (vx_vq V)
  have hs := (List.getElem?_eq_some_iff.1 hx).1
  obtain ⟨fu, rfl⟩ : ∃ f, fu = f + 1 := ⟨fu - 1, by omega⟩
  rw [bfG_atE hx] at h2
  have h5 := bfG_pre J fu (s + 1) (bfR J x J.i.toNat Q)
  rw [h2] at h5
  have h6 := bfR_mono J x Q k (J.i.toNat - k)
  rw [show k + (J.i.toNat - k) = J.i.toNat by omega] at h6
  exact h6.trans h5
theorem InS.le (V : Vx J) (h : InS J s j q) : q ≤ (ord J).length := by
  obtain ⟨Q, fu, x, h2, h3, h4, hx, h5, h6⟩ := h
  have := (ins_pre V h2 h3 h4 hx h6).length_le
  rw [h5] at this
  rwa [ord_lenX]
theorem InS.turn (V : Vx J) (h : InS J s j q) (hj : J.i ≤ j) : RowS J (s + 1) q := by
  obtain ⟨Q, fu, x, h2, h3, h4, hx, h5, h6⟩ := h
  have hl := h3.lenQ (vx_vq V)
  have hs := (List.getElem?_eq_some_iff.1 hx).1
  obtain ⟨fu, rfl⟩ : ∃ f, fu = f + 1 := ⟨fu - 1, by omega⟩
  have hji : j = J.i.toNat := by omega
  rw [bfG_atE hx, ← hji] at h2
  have h7 := h3.rowQ (vx_vq V) ⟨by omega, by have := V.r0; omega⟩ hx
  rw [← hji] at h7
  have h8 := (bfR_pre J x Q j).length_le
  exact ⟨bfR J x j Q, fu, h5, h2, h7, by omega, by omega⟩
/-- An edge is gone through. -/
theorem InS.edge (V : Vx J) (h : InS J s j q) (hj : (j : Int) < J.i) {a : Int} (ha : (ord J)[s]? = some a) :
    (nx J a j = nE ∧ InS J s (j + 1) q) ∨ ∃ (c k : Nat) (y : Int), nx J a j = ((c : Int), y) ∧ ix (ord J) c = k ∧ (ord J)[k]? = some (c : Int) ∧ ((k = q ∧ InS J s (j + 1) (q + 1)) ∨ (k < q ∧ InS J s (j + 1) q)) := by
  obtain ⟨Q, fu, x, h2, h3, h4, hx, h5, h6⟩ := h
  have hC := vx_cls V
  have hO := vx_ord V
  have hp0 := ins_pre V h2 h3 h4 hx h6
  have hp1 := ins_pre V h2 h3 h4 hx (k := j + 1) (by omega)
  have hxa : x.1 = a := by
    have e0 := bfG_pre J fu s Q
    rw [h2] at e0
    have e1 := ord_at (pre_get e0 hx)
    rw [ha] at e1
    injection e1 with e1
    exact e1.symm
  have hin := hO.mem a
  have hST := (nx_stX V (s := a) (i := j) (Or.inr (hC.rg a (List.mem_of_getElem? ha))) ⟨by omega, hj⟩)
  have hst : bfR J x (j + 1) Q = bfE J x (bfR J x j Q) j := rfl
  rcases hST.1 with e | ⟨e, _⟩
  · have hn : nx J a j = nE := by
      have e2 := hST.2.1 e
      exact Prod.ext e e2
    refine Or.inl ⟨hn, Q, fu, x, h2, h3, h4, hx, ?_, by omega⟩
    rw [hst, bfE_none (by rw [hxa]; exact hn)]
    exact h5
  · obtain ⟨c, hc⟩ := Int.eq_ofNat_of_zero_le e
    have hn : nx J a j = ((c : Int), (nx J a j).2) := Prod.ext hc rfl
    refine Or.inr ?_
    by_cases hold : ∃ e ∈ bfR J x j Q, e.1 = (c : Int)
    · obtain ⟨e', he, he1⟩ := hold
      obtain ⟨k, hk⟩ := List.mem_iff_getElem?.1 he
      have hkq : k < q := by have := (List.getElem?_eq_some_iff.1 hk).1; omega
      have hok := ord_at (pre_get hp0 hk)
      rw [he1] at hok
      refine ⟨c, k, _, hn, ix_at hC.nd hok, hok, Or.inr ⟨hkq, Q, fu, x, h2, h3, h4, hx, ?_, by omega⟩⟩
      rw [hst, bfE_old (k := k) (w := e'.2) (by rw [hxa]; exact hn) (by rw [hk, ← he1])]
      exact h5
    · have hall : ∀ e ∈ bfR J x j Q, e.1 ≠ (c : Int) := fun e he h => hold ⟨e, he, h⟩
      have hnew := bfE_new (m := J) (x := x) (Q := bfR J x j Q) (j := j) (by rw [hxa]; exact hn) hall
      rw [hst, hnew] at hp1
      have hlast : (bfR J x j Q ++ [((c : Int), x.2 ++ [(j : Int)])])[q]? = some ((c : Int), x.2 ++ [(j : Int)]) := by
        rw [List.getElem?_append_right (by omega), h5]
        simp
      have hok := ord_at (pre_get hp1 hlast)
      refine ⟨c, q, _, hn, ix_at hC.nd hok, hok, Or.inl ⟨rfl, Q, fu, x, h2, h3, h4, hx, ?_, by omega⟩⟩
      rw [hst, hnew, List.length_append, h5]
      rfl
end
end Mc
end Go.Proofs.Ytgafpmgdpigliaa

namespace Go.Proofs.Ytgafpmgdpigliaa
open Go.RowKit
open Mc (Ed Ma Wv nE RowS InS)

theorem partJ_a (a b : Int) (w : World) : (part 3 #[.int .i64 a, .int .i64 b] (0 * Try.prog.cellsOf 3)).run Try.prog w = .ok (.int .i64 a) w := by kernel_rfl
theorem partJ_b (a b : Int) (w : World) : (part 3 #[.int .i64 a, .int .i64 b] (1 * Try.prog.cellsOf 3)).run Try.prog w = .ok (.int .i64 b) w := by kernel_rfl
theorem run_equal_pairJ (a b a' b' : Int) (w : World) : (Op.equalIn 10000 84 (.agg #[.int .i64 a, .int .i64 b]) (.agg #[.int .i64 a', .int .i64 b'])).run Try.prog w = .ok ((a == a') && (b == b')) w := by
  obtain ⟨i, hi⟩ := Option.isSome_iff_exists.1 (show (Try.prog.info? 3).isSome = true by kernel_rfl)
  rw [run_equalIn_array w 9999 _ _ Try.underlying84 hi, show List.range 2 = [0, 1] from rfl]
  simp only [Op.eqItems]
  rw [Sem.run_bind, partJ_a, Result.andThen_ok, Sem.run_bind, partJ_a, Result.andThen_ok, Sem.run_bind, run_equalIn_int (P := Try.prog) _ 9998 3 .i64 .i64 _ _ Try.underlying3, Result.andThen_ok]
  cases h7 : (a == a')
  · rfl
  · simp only [Bool.not_true, Bool.false_eq_true, if_false, Bool.true_and]
    rw [Sem.run_bind, partJ_b, Result.andThen_ok, Sem.run_bind, partJ_b, Result.andThen_ok, Sem.run_bind, run_equalIn_int (P := Try.prog) _ 9998 3 .i64 .i64 _ _ Try.underlying3, Result.andThen_ok]
    cases h8 : (b == b') <;> rfl
theorem run_neq_pairJ (a b : Int) (w : World) : (binOp .neq 84 (.agg #[.int .i64 a, .int .i64 b]) (.agg #[.int .i64 a, .int .i64 b])).run Try.prog w = .ok (.bool false) w := by
  rw [run_neq_struct, run_equal_pairJ]
  simp
/-- The box of a pair. -/
def BxP (w : World) (g : Nat) (u v : Int) : Prop := w.heap[g]? = some (.cells #[.int .i64 u, .int .i64 v] 84)
section
variable {w w' : World} {g : Nat} {u v : Int}
theorem BxP.new_ (w : World) (u v : Int) : BxP (w.alloc (.cells #[.int .i64 u, .int .i64 v] 84)) w.heap.size u v := heap_alloc_new w _
theorem BxP.toD_ (h : BxP w g u v) (k : Below w.drew.heap.size w.drew w') : BxP w' g u v := (k.block _ (heap_lt h)).trans h
theorem BxP.all (h : BxP w g u v) : (w.cell? ⟨g, 0, none⟩ = some (.int .i64 u) ∧ w.cell? ⟨g, 1, none⟩ = some (.int .i64 v)) ∧ (w.frozen? ⟨g, 0, none⟩ = false ∧ w.frozen? ⟨g, 1, none⟩ = false) ∧ g < w.heap.size :=
  ⟨⟨by rw [cell_of_row _ _ _ _ _ _ h]; rfl, by rw [cell_of_row _ _ _ _ _ _ h]; rfl⟩, ⟨blk_frz h 0, blk_frz h 1⟩, heap_lt h⟩
theorem BxP.set_ (h : BxP w g u v) (x y : Int) : BxP ((w.setCell ⟨g, 0, none⟩ (.int .i64 x)).setCell ⟨g, 1, none⟩ (.int .i64 y)) g x y := by
  unfold BxP at h ⊢
  simp [World.setCell, Array.getElem?_modify, h]
theorem BxP.al (h : BxP w g u v) (ob : Obj) : BxP (w.alloc ob) g u v := (Below.heap_alloc w ob g (heap_lt h)).trans h
theorem BxP.dr (h : BxP w g u v) : BxP w.drew g u v := h
end
/-- A pair in the list of pairs that were met. -/
theorem prs_at {W : World} {base gq q cq nb p s t : Nat} {l : List Int} (h : W.ownsRow base 84 2 (.slice (some ⟨gq, 0, none⟩) q cq) q (eC ((l.map fun x => (x / (nb : Int), x % (nb : Int))).take q))) (ht : t < nb) (hp : p < q) (hx : l[p]? = some ((s * nb + t : Nat) : Int)) : W.cell? ⟨gq, p * 2, none⟩ = some (.int .i64 s) ∧ W.cell? ⟨gq, p * 2 + 1, none⟩ = some (.int .i64 t) := by
  have e : ((l.map fun x => (x / (nb : Int), x % (nb : Int))).take q)[p]? = some ((s : Int), (t : Int)) := by
    rw [List.getElem?_take_of_lt hp, List.getElem?_map, hx]
    show some (((s * nb + t : Nat) : Int) / (nb : Int), ((s * nb + t : Nat) : Int) % (nb : Int)) = _
    rw [← Int.natCast_ediv, ← Int.natCast_emod, Mc.cd_div ht, Mc.cd_mod ht]
  obtain ⟨h1, h2⟩ := eC_at e
  have c1 := h.cells (g := gq) rfl _ _ h1
  have c2 := h.cells (g := gq) rfl _ _ h2
  rw [Addr.add_lit] at c1 c2
  exact ⟨by simpa using c1, by simpa using c2⟩
theorem own_lt_slice {W : World} {base gq q cq : Nat} {xs : List Value} (h : W.ownsRow base 84 2 (.slice (some ⟨gq, 0, none⟩) q cq) q xs) : gq < W.heap.size := (h.lt gq rfl).2
set_option maxRecDepth 100000 in
set_option maxHeartbeats 8000000 in
theorem rjoint_ser (f : Nat → Nat → Nat → Mc.Pz) (i na nb N : Nat) (ao bi o bo : Int) (A B P : Option Addr) (c c2 c3 : Nat) (w : World) (hi1 : 1 ≤ i) (hi16 : i ≤ 16) (ho1 : 1 ≤ o) (ho16 : o ≤ 16) (ha1 : 1 ≤ na) (ha64 : na ≤ 64) (hb1 : 1 ≤ nb) (hb64 : nb ≤ 64) (hJS : Mc.JS i o na nb f) (hpo : o = bo)
    (CST : ∀ wr, Below w.heap.size w wr → ∀ s t k : Nat, s < na → t < nb → k < i → Calls Try.prog 59 #[.agg #[.int .i64 i, .int .i64 ao, .slice A na c], .agg #[.int .i64 bi, .int .i64 bo, .slice B nb c2], .int .i64 0, .agg #[.int .i64 s, .int .i64 t], .int .i64 k] wr (PzP wr (stp (f s t k))))
    (hN : (Mc.ord (Mc.jm i o na nb f)).length = N) (hN64 : N ≤ 64) (hP : RdR w P (Mc.prt (Mc.jm i o na nb f) (Mc.ord (Mc.jm i o na nb f))).r) :
    Calls Try.prog 19 #[.agg #[.int .i64 i, .int .i64 o, .slice P N c3], .agg #[.int .i64 i, .int .i64 ao, .slice A na c], .agg #[.int .i64 bi, .int .i64 bo, .slice B nb c2], .int .i64 0] w fun e w' => e = .returned (.int .i64 1) ∧ Below w.heap.size w w' := by
  have VX := Lib.hid (Mc.jm_vx (i := i) (by omega) ho1 ha1 hb1 hJS)
  have HJS := Lib.hid hJS
  have HC := Lib.hid CST
  have CRE := Lib.hid (fun wr (hb : Below w.heap.size w wr) => rreached_any f i na nb 0 ao bi o bo A B c c2 wr hi1 hi16 ho1 ha1 ha64 hb1 hb64 hJS (fun wr' hb' => CST wr' (below_next hb hb')))
  obtain ⟨J, hJ⟩ : ∃ J, Mc.jm i o na nb f = J := ⟨_, rfl⟩
  have JAT : Hid (∀ s t c : Nat, s < na → t < nb → (c : Int) < (i : Int) → Mc.nx J ((s * nb + t : Nat) : Int) (c : Int) = Mc.jE nb (f s t c)) := fun s t c hs ht hc => by rw [← hJ]; exact Mc.jm_at hs ht hc
  have JROW : Hid (∀ s t : Nat, s < na → t < nb → J.r[s * nb + t]? = some ((List.range i).map fun c => Mc.jE nb (f s t c))) := fun s t hs ht => by
    rw [← hJ]
    have h := Mc.jm_row (f := f) (i := i) (o := o) (s := s) (t := t) hs ht
    rw [Int.toNat_natCast] at h
    exact h
  have hPL : Hid (J.r.length = na * nb) := by show _ = _; rw [← hJ]; exact Mc.jm_len
  have hJi : Hid (J.i = i) := by show _ = _; rw [← hJ]; rfl
  have hJo : Hid (J.o = o) := by show _ = _; rw [← hJ]; rfl
  rw [hJ] at VX hN hP CRE
  rw [hN] at CRE
  have VP := Lib.hid (Mc.vx_can VX.out (by rw [hJi.out]; omega) (by rw [hJo.out]; exact ho16) (by rw [hN]; exact hN64)).1
  have CCK : Hid (∀ wr, Below w.heap.size w wr → Calls Try.prog 58 #[.agg #[.int .i64 i, .int .i64 o, .slice P N c3]] wr fun e w' => e = .returned (.int .i64 0) ∧ Below wr.heap.size wr w') := fun wr hb => by
    have h := rmcheck_any (Mc.prt J (Mc.ord J)) P c3 wr (hP.below hb) (by rw [Mc.prt_len, hN]; omega)
    rw [Mc.chk_of VP.out, show (Mc.prt J (Mc.ord J)).i = i from hJi.out, show (Mc.prt J (Mc.ord J)).o = o from hJo.out, Mc.prt_len, hN] at h
    exact h
  have hC := Mc.vx_cls VX.out
  have HCLS := Lib.hid hC
  obtain ⟨L, hL⟩ : ∃ L, Mc.ord J = L := ⟨_, rfl⟩
  have HL := Lib.hid hL
  obtain ⟨R, hR⟩ : ∃ R, (Mc.prt J (Mc.ord J)).r = R := ⟨_, rfl⟩
  have hRrow : Hid (∀ (p s t : Nat), s < na → t < nb → L[p]? = some ((s * nb + t : Nat) : Int) → R[p]? = some ((List.range i).map fun c => (Mc.ix L (Mc.jE nb (f s t c)).1, (Mc.jE nb (f s t c)).2))) := fun p s t hs ht hp => by
    rw [← hR]
    unfold Mc.prt
    rw [hL]
    simp only [List.getElem?_map, hp, Option.map_some, Int.toNat_natCast, JROW.out s t hs ht, Option.getD_some, List.map_map]
    rfl
  have HLat : Hid (∀ p : Nat, p < N → ∃ s t : Nat, s < na ∧ t < nb ∧ L[p]? = some ((s * nb + t : Nat) : Int)) := fun p hp => by
    have h1 := List.getElem?_eq_getElem (show p < (Mc.ord J).length by rw [hN]; exact hp)
    have h2 := HCLS.out.rg _ (List.getElem_mem (show p < (Mc.ord J).length by rw [hN]; exact hp))
    rw [hPL.out] at h2
    obtain ⟨k, hk⟩ := Int.eq_ofNat_of_zero_le h2.1
    obtain ⟨s, t, hs, ht, e⟩ := Mc.cd_inv (k := k) (p := na) (n := nb) (by omega)
    exact ⟨s, t, hs, ht, by rw [← hL, h1, hk, e]⟩
  have HR := Lib.hid hR
  have HN9 : Hid (L.length = N) := by show _ = _; rw [← hL]; exact hN
  rw [hR] at hP
  obtain ⟨h, hh⟩ : ∃ h, w.heap.size = h := ⟨_, rfl⟩
  obtain ⟨W3, hW3⟩ : ∃ W3, boxM (boxM (boxM w i o P N c3) i ao A na c) bi bo B nb c2 = W3 := ⟨_, rfl⟩
  have hB3 : Below w.heap.size w W3 := by rw [← hW3]; exact (((Below.refl _ _).alloc (Nat.le_refl _) _).alloc (by simp) _).alloc (by simp; omega) _
  have hM0 : BxM W3 h i o P N c3 := by rw [← hW3]; exact ((BxM.newE hh i o P N c3).mvB ((Below.refl _ _).alloc (Nat.le_refl _) _)).mvB ((Below.refl _ _).alloc (Nat.le_refl _) _)
  have hM1 : BxM W3 (h + 1) i ao A na c := by rw [← hW3]; exact (BxM.newE (by simp [boxM, hh]) i ao A na c).mvB ((Below.refl _ _).alloc (Nat.le_refl _) _)
  have hM2 : BxM W3 (h + 1 + 1) bi bo B nb c2 := by rw [← hW3]; exact BxM.newE (by simp [boxM, hh]) bi bo B nb c2
  have HRP := Lib.hid (hP.below hB3)
  have HB3 := Lib.hid hB3
  have HM0 := Lib.hid hM0
  have HM1 := Lib.hid hM1
  have HM2 := Lib.hid hM2
  have HCL : Hid (∀ wr, Below W3.heap.size W3 wr → (wr.cell? ⟨h, 0, none⟩ = some (.int .i64 i) ∧ wr.cell? ⟨h, 1, none⟩ = some (.int .i64 o) ∧ wr.cell? ⟨h, 2, none⟩ = some (.slice P N c3) ∧ wr.cell? ⟨h + 1, 0, none⟩ = some (.int .i64 i) ∧ wr.cell? ⟨h + 1, 1, none⟩ = some (.int .i64 ao) ∧ wr.cell? ⟨h + 1, 2, none⟩ = some (.slice A na c) ∧ wr.cell? ⟨h + 1 + 1, 0, none⟩ = some (.int .i64 bi) ∧ wr.cell? ⟨h + 1 + 1, 1, none⟩ = some (.int .i64 bo) ∧ wr.cell? ⟨h + 1 + 1, 2, none⟩ = some (.slice B nb c2))) := fun wr hb => by
    obtain ⟨a0, a1, a2⟩ := (HM0.out.mvB hb).cells
    obtain ⟨b0, b1, b2⟩ := (HM1.out.mvB hb).cells
    obtain ⟨d0, d1, d2⟩ := (HM2.out.mvB hb).cells
    exact ⟨a0, a1, a2, b0, b1, b2, d0, d1, d2⟩
  have HRS : Hid (RowS J 0 1) := RowS.start VX.out
  have hw : IntKind.i64.wrap (ao * bo) = ao * bo ∨ True := Or.inr trivial
  have hob : (o != bo) = false := by rw [hpo]; simp
  have HPO := Lib.hid hpo
  clear hpo hw hB3 hM0 hM1 hM2 hJS CST hJ hN hP hL hR hC
  go_enter Try.func19, Try.ntmps19
  go_upto_region 1 with fail
  try rw [hW3]
  clear hW3
  obtain ⟨a0, a1, a2, b0, b1, b2, d0, d1, d2⟩ := HCL.out W3 (Below.refl _ _)
  go_upto_region 4 with fail
  have HD : Hid (Below W3.heap.size W3 W3.drew) := (Below.refl _ _).drew
  have s0 := HCL.out _ (Below.refl _ _)
  have sD := HCL.out _ HD.out
  have hii : ((i : Int) != i) = false := by simp
  have hoo : (o != o) = false := by simp
  have hNN : ((N : Int) != N) = false := by simp
  go_region_held3 (fun W => (W.cell? ⟨h, 0, none⟩ = some (.int .i64 i) ∧ W.cell? ⟨h, 1, none⟩ = some (.int .i64 o) ∧ W.cell? ⟨h, 2, none⟩ = some (.slice P N c3) ∧ W.cell? ⟨h + 1, 0, none⟩ = some (.int .i64 i) ∧ W.cell? ⟨h + 1, 1, none⟩ = some (.int .i64 ao) ∧ W.cell? ⟨h + 1, 2, none⟩ = some (.slice A na c) ∧ W.cell? ⟨h + 1 + 1, 0, none⟩ = some (.int .i64 bi) ∧ W.cell? ⟨h + 1 + 1, 1, none⟩ = some (.int .i64 bo) ∧ W.cell? ⟨h + 1 + 1, 2, none⟩ = some (.slice B nb c2)))
    (first | (with_reducible exact s2) | (with_reducible exact s1) | (with_reducible exact s0) | (with_reducible exact sD) | go_keep)
    (first
      | (go_at_call 58
         (with_reducible refine (CCK.out _ (below_next HB3.out HD.out)).mono ?_)
         rintro e z1 ⟨rfl, hz1⟩
         have t1 := Lib.hid (below_next HD.out hz1)
         have s1 := HCL.out _ t1.out
         dsimp only)
      | (go_at_call 23
         (with_reducible refine (CRE.out _ (below_next HB3.out t1.out)).mono ?_)
         rintro e z2 ⟨rfl, hz2⟩
         have t2 := Lib.hid (below_next t1.out hz2)
         have s2 := HCL.out _ t2.out
         dsimp only)
      | fail)
  have HZ2 := Lib.hid t2.out
  clear s0 sD s1 s2 a0 a1 a2 b0 b1 b2 d0 d1 d2 t1 t2 hz1 hz2 CCK CRE HD hii hoo hNN
  go_upto_region 7 with fail
  have hown0 : Hid ((z2.alloc (.cells #[.int .i64 0, .int .i64 0] 84)).ownsRow z2.heap.size 84 2 (.slice (some ⟨z2.heap.size, 0, none⟩) 1 1) 1 (eC ((L.map fun x => (x / (nb : Int), x % (nb : Int))).take 1))) := by
    have h0 : L[0]? = some 0 := by rw [← HL.out]; exact (Mc.vx_ord VX.out).zero (by rw [hJi.out]; omega)
    have e : (L.map fun x => (x / (nb : Int), x % (nb : Int))).take 1 = [(0, 0)] := by
      cases hLc : L with
      | nil => rw [hLc] at h0; cases h0
      | cons x l =>
        rw [hLc] at h0
        simp at h0
        subst h0
        simp
    show World.ownsRow _ _ _ _ _ _ _
    rw [e]
    exact ⟨by simp [eC], .inr ⟨z2.heap.size, 1, #[.int .i64 0, .int .i64 0], rfl, Nat.le_refl _, heap_alloc_new z2 _, Nat.le_refl _, by unfold maxLen; omega, rfl, by simp [eC]⟩⟩
  have HB4 : Hid (Below z2.heap.size z2 (z2.alloc (.cells #[.int .i64 0, .int .i64 0] 84))) := (Below.refl _ _).alloc (Nat.le_refl _) _
  obtain ⟨W5, hW5⟩ : ∃ W5, z2.alloc (.cells #[.int .i64 0, .int .i64 0] 84) = W5 := ⟨_, rfl⟩
  obtain ⟨g0, hg0⟩ : ∃ g0, z2.heap.size = g0 := ⟨_, rfl⟩
  obtain ⟨bs, hbs⟩ : ∃ bs, z2.heap.size = bs := ⟨_, rfl⟩
  have HBS := Lib.hid hbs
  rw [hW5] at hown0 HB4
  rw [hg0] at hown0
  try rw [hW5]
  try rw [hg0]
  have hown1 : Hid (W5.ownsRow bs 84 2 (.slice (some ⟨g0, 0, none⟩) 1 1) 1 (eC ((L.map fun x => (x / (nb : Int), x % (nb : Int))).take 1))) := by rw [← hbs, hg0]; exact hown0
  have HB5 : Hid (Below bs z2 W5) := by rw [← hbs]; exact HB4.out
  clear hW5 hg0 hbs hown0 HB4
  have HLP : Hid (∀ q, q ≤ N → ((L.map fun x => (x / (nb : Int), x % (nb : Int))).take q).length = q) := fun q hq => by rw [List.length_take, List.length_map, HN9.out]; omega
  go_wp2_with fail
  go_loopw [10, 11] (fun v z wr => ∃ (s q gq cq : Nat), s ≤ N ∧ z = .int .i64 s ∧ v = .slice (some ⟨gq, 0, none⟩) q cq ∧ q ≤ 64 ∧ Hid (RowS J s q) ∧ Hid (wr.ownsRow bs 84 2 (.slice (some ⟨gq, 0, none⟩) q cq) q (eC ((L.map fun x => (x / (nb : Int), x % (nb : Int))).take q))) ∧ Hid (Below bs z2 wr)) (fun _ z _ => N - (intOf z).toNat)
  case atStart => exact ⟨0, 1, _, _, Nat.zero_le _, rfl, rfl, by omega, HRS, hown1, HB5⟩
  case round =>
    clear hown1 HB5 HRS
    obtain ⟨s, q, gq, cq, hs, rfl, rfl, hq64, hRS, hown, hbr⟩ := hrel
    have HNX : Hid (∀ wr wr', Below bs z2 wr → Below wr.heap.size wr wr' → Below bs z2 wr') := fun wr wr' h1 h2 => by rw [← HBS.out] at h1 ⊢; exact below_next h1 h2
    have HCW : Hid (∀ wr, Below bs z2 wr → Below W3.heap.size W3 wr) := fun wr hb => by rw [← HBS.out] at hb; exact below_next HZ2.out hb
    obtain ⟨a0, a1, a2, b0, b1, b2, d0, d1, d2⟩ := HCL.out wr (HCW.out _ hbr.out)
    by_cases hsN : s < N
    · have hsNi : (s : Int) < N := by omega
      obtain ⟨hsq, hIn0⟩ := hRS.out.go VX.out (by rw [HL.out, HN9.out]; exact hsN)
      have hsqb : ((s : Int) == q) = false := by rw [beq_eq_false_iff_ne]; omega
      have HIN := Lib.hid hIn0
      obtain ⟨s0, t0, hs0, ht0, hLs⟩ := HLat.out s hsN
      have HLS := Lib.hid hLs
      have HRW := Lib.hid (hRrow.out s s0 t0 hs0 ht0 hLs)
      clear hRS hIn0 hLs
      go_wp2_with fail
      clear a0 a1 a2 b0 b1 b2 d0 d1 d2
      go_loopw [10, 12] (fun v z wr => ∃ (j q gq cq : Nat), j ≤ i ∧ z = .int .i64 j ∧ v = .slice (some ⟨gq, 0, none⟩) q cq ∧ q ≤ 64 ∧ s < q ∧ Hid (InS J s j q) ∧ Hid (wr.ownsRow bs 84 2 (.slice (some ⟨gq, 0, none⟩) q cq) q (eC ((L.map fun x => (x / (nb : Int), x % (nb : Int))).take q))) ∧ Hid (Below bs z2 wr)) (fun _ z _ => i - (intOf z).toNat)
      case atStart => exact ⟨0, q, gq, cq, Nat.zero_le _, rfl, rfl, hq64, hsq, HIN, hown, hbr⟩
      case round =>
        clear HIN hown hbr hsq hsqb hq64
        obtain ⟨j, q, gq, cq, hj, rfl, rfl, hq64, hsq, hIn, hown, hbr⟩ := hrel
        obtain ⟨a0, a1, a2, b0, b1, b2, d0, d1, d2⟩ := HCL.out wr (HCW.out _ hbr.out)
        have hqN : Hid (q ≤ N) := by show q ≤ N; have := hIn.out.le VX.out; rw [HL.out, HN9.out] at this; exact this
        by_cases hji : j < i
        · have hjii : (j : Int) < i := by omega
          obtain ⟨p0, p1⟩ := prs_at hown.out ht0 hsq HLS.out
          have hgql := own_lt_slice hown.out
          have hsqi : (s : Int) < q := by omega
          have HSP : Hid (∀ W, Below wr.heap.size wr W → (W.cell? ⟨h + 1, 0, none⟩ = some (.int .i64 i) ∧ W.cell? ⟨h + 1, 1, none⟩ = some (.int .i64 ao) ∧ W.cell? ⟨h + 1, 2, none⟩ = some (.slice A na c) ∧ W.cell? ⟨h + 1 + 1, 0, none⟩ = some (.int .i64 bi) ∧ W.cell? ⟨h + 1 + 1, 1, none⟩ = some (.int .i64 bo) ∧ W.cell? ⟨h + 1 + 1, 2, none⟩ = some (.slice B nb c2) ∧ W.cell? ⟨gq, s * 2, none⟩ = some (.int .i64 s0) ∧ W.cell? ⟨gq, s * 2 + 1, none⟩ = some (.int .i64 t0))) := fun W hb => by
            obtain ⟨_, _, _, b0, b1, b2, d0, d1, d2⟩ := HCL.out W (below_next (HCW.out _ hbr.out) hb)
            exact ⟨b0, b1, b2, d0, d1, d2, (hb.cell (p := ⟨gq, s * 2, none⟩) hgql).trans p0, (hb.cell (p := ⟨gq, s * 2 + 1, none⟩) hgql).trans p1⟩
          obtain ⟨zx, zy, zo, hZ⟩ : ∃ zx zy zo, stp (f s0 t0 j) = ((zx, zy), zo) := ⟨_, _, _, rfl⟩
          have HZZ := Lib.hid hZ
          have C15 : Hid (∀ W, Below wr.heap.size wr W → Calls Try.prog 59 #[.agg #[.int .i64 i, .int .i64 ao, .slice A na c], .agg #[.int .i64 bi, .int .i64 bo, .slice B nb c2], .int .i64 0, .agg #[.int .i64 s0, .int .i64 t0], .int .i64 j] W fun e w' => e = .returned (.tuple #[.agg #[.int .i64 zx, .int .i64 zy], .int .i64 zo]) ∧ Below W.heap.size W w') := fun W hb => by
            have h := HC.out W (below_next HB3.out (below_next (HCW.out _ hbr.out) hb)) s0 t0 j hs0 ht0 hji
            rw [hZ] at h
            exact h
          clear hZ hgql
          have x0 := HSP.out _ (Below.refl _ _)
          go_wp2_with fail
          go_cut [13, 14] from 70 to 81 (fun u v wx => ∃ G : Nat, u = .pointer (some ⟨G, 0, none⟩) ∧ v = .int .i64 zo ∧ Hid (BxP wx G zx zy) ∧ Hid (Below wr.heap.size wr wx) ∧ wr.heap.size ≤ G)
          case first =>
            go_region_held3 (fun W => (W.cell? ⟨h + 1, 0, none⟩ = some (.int .i64 i) ∧ W.cell? ⟨h + 1, 1, none⟩ = some (.int .i64 ao) ∧ W.cell? ⟨h + 1, 2, none⟩ = some (.slice A na c) ∧ W.cell? ⟨h + 1 + 1, 0, none⟩ = some (.int .i64 bi) ∧ W.cell? ⟨h + 1 + 1, 1, none⟩ = some (.int .i64 bo) ∧ W.cell? ⟨h + 1 + 1, 2, none⟩ = some (.slice B nb c2) ∧ W.cell? ⟨gq, s * 2, none⟩ = some (.int .i64 s0) ∧ W.cell? ⟨gq, s * 2 + 1, none⟩ = some (.int .i64 t0)))
              ((refine HSP.out _ ?_; repeat (with_reducible (first | refine bS ?_ (by omega) _ | refine bA ?_ _ | refine bD ?_ | exact Below.refl _ _ | refine below_next ?_ (by assumption)))))
              (first
                | (go_at_call 59
                   (with_reducible refine (C15.out _ (by repeat (with_reducible (first | refine bA ?_ _ | refine bD ?_ | exact Below.refl _ _)))).mono ?_)
                   rintro e wA ⟨rfl, hbA⟩
                   have zA := hbA.size
                   try simp at zA
                   try (with_reducible have bA0 := BxP.toD_ (BxP.new_ wr 0 0) hbA)
                   try obtain ⟨⟨x00, x01⟩, ⟨x03, x04⟩, x06⟩ := bA0.all
                   dsimp only)
                | fail)
            all_goals
              go_wp2_with fail
              go_meet
              first
                | exact ⟨_, rfl, rfl, BxP.new_ _ _ _, by show Below _ _ _; repeat (with_reducible (first | refine bS ?_ (by omega) _ | refine bA ?_ _ | refine bD ?_ | exact Below.refl _ _ | refine below_next ?_ (by assumption))), by omega⟩
                | exact ⟨_, rfl, rfl, bA0.set_ _ _, by show Below _ _ _; repeat (with_reducible (first | refine bS ?_ (by omega) _ | refine bA ?_ _ | refine bD ?_ | exact Below.refl _ _ | refine below_next ?_ (by assumption))), by omega⟩
                | fail
          case rest =>
          obtain ⟨G, rfl, rfl, hP, hbx, hGw⟩ := hcut
          have hGxw := hbx.out.size
          have hgq := own_lt_slice hown.out
          have hbc := HNX.out _ _ hbr.out hbx.out
          have hownc := own_below hown.out hbx.out
          have hRl := (List.getElem?_eq_some_iff.1 HRW.out).1
          obtain ⟨b1, off1, R1, q1, n1, row1, hPe, hb1, hcw1, _, _, _, hpw1, hln1, hqr1⟩ := (HRP.out.below (HCW.out _ hbc)).at_ (k := s) hRl
          have hrw : row1 = (List.range i).map fun c => (Mc.ix L (Mc.jE nb (f s0 t0 c)).1, (Mc.jE nb (f s0 t0 c)).2) := by
            have h1 := hqr1.out
            rw [HRW.out] at h1
            injection h1 with h1
            exact h1.symm
          have hn1 : n1 = i := by rw [← hln1.out, hrw]; simp
          obtain ⟨e1, o1, xt, xo, rfl, he1, hx0, hx1, hxe⟩ := hpw1.at_ (k := j) (by rw [hln1.out, hn1]; exact hji)
          have hxv : xt = Mc.ix L (Mc.jE nb (f s0 t0 j)).1 ∧ xo = (Mc.jE nb (f s0 t0 j)).2 := by
            have h1 := hxe.out
            rw [hrw, List.getElem?_map, List.getElem?_range hji] at h1
            injection h1 with h1
            injection h1 with h2 h3
            exact ⟨h2.symm, h3.symm⟩
          have hNX0 := JAT.out s0 t0 j hs0 ht0 hjii
          have HXV := Lib.hid hxv
          have HNX0 := Lib.hid hNX0
          subst hn1
          obtain ⟨a0, a1, a2, b0, b1', b2, d0, d1, d2⟩ := HCL.out _ (HCW.out _ hbc)
          have HPE := Lib.hid hPe
          rw [hPe] at a2
          clear hPe
          have hsR : s < N := hsN
          have HBC := Lib.hid hbc
          have HOWC := Lib.hid hownc
          have HPC := hP
          have HGQ := Lib.hid hgq
          clear hgq hown hbr hP hbx hownc hbc hrw hln1 hqr1 hpw1 hxe hxv hNX0 C15 HSP
          obtain ⟨⟨y0, y1⟩, ⟨y2, y3⟩, y4⟩ := HPC.out.all
          go_upto_region 17 with fail
          have HB6 := Lib.hid (HNX.out _ _ HBC.out ((Below.refl _ _).alloc (Nat.le_refl _) (.cells #[.int .i64 xt, .int .i64 xo] 27)))
          have HP6 := Lib.hid (HPC.out.al (.cells #[.int .i64 xt, .int .i64 xo] 27))
          have HO6 := Lib.hid (own_below HOWC.out ((Below.refl _ _).alloc (Nat.le_refl _) (.cells #[.int .i64 xt, .int .i64 xo] 27)))
          have hX6 := heap_alloc_new wc (.cells #[.int .i64 xt, .int .i64 xo] 27)
          obtain ⟨w6, hw6⟩ : ∃ x, wc.alloc (.cells #[.int .i64 xt, .int .i64 xo] 27) = x := ⟨_, rfl⟩
          obtain ⟨Gx, hGx⟩ : ∃ x, wc.heap.size = x := ⟨_, rfl⟩
          rw [hw6] at HB6 HP6 HO6 hX6
          rw [hGx] at hX6 hGxw
          try rw [hw6]
          try rw [hGx]
          have HX6 := Lib.hid hX6
          clear hw6 hGx hX6 a0 a1 a2 b0 b1' b2 d0 d1 d2 hx0 hx1 hcw1 y0 y1 y2 y3 y4 HBC HPC HOWC
          obtain ⟨⟨y0, y1⟩, ⟨y2, y3⟩, y4⟩ := HP6.out.all
          have x0 : w6.cell? ⟨Gx, 0, none⟩ = some (.int .i64 xt) := by rw [cell_of_row _ _ _ _ _ _ HX6.out]; rfl
          have x1 : w6.cell? ⟨Gx, 1, none⟩ = some (.int .i64 xo) := by rw [cell_of_row _ _ _ _ _ _ HX6.out]; rfl
          rcases hIn.out.edge VX.out (by rw [hJi.out]; exact hjii) (by rw [HL.out]; exact HLS.out) with ⟨hn, hIn2⟩ | ⟨cc, k, y, hn, hix, hLk, hk⟩
          · have hje : Mc.jE nb (f s0 t0 j) = nE := by rw [← HNX0.out]; exact hn
            have hnd : ¬ (0 ≤ (f s0 t0 j).1.1 ∧ 0 ≤ (f s0 t0 j).1.2) := fun h => by
              unfold Mc.jE at hje
              rw [if_pos h] at hje
              have h1 := congrArg Prod.fst hje
              have h2 : 0 ≤ (f s0 t0 j).1.1 * (nb : Int) := Int.mul_nonneg h.1 (by omega)
              simp at h1
              omega
            have hz := HZZ.out
            unfold stp at hz
            rw [if_neg hnd] at hz
            injection hz with hz1 hz2
            have hxo : xo = -1 := by rw [HXV.out.2, hje]
            subst hxo hz2
            have HI2 := Lib.hid hIn2
            clear hz1 hn hIn2 hje hnd hIn
            go_wp2_with fail
            clear x0 x1 y0 y1 y2 y3 y4
            go_roundw
            case rel => exact ⟨j + 1, q, gq, cq, by omega, by go_num, rfl, hq64, hsq, HI2, HO6, HB6⟩
            case measure => simp [intOf]; omega
          · have hje : Mc.jE nb (f s0 t0 j) = ((cc : Int), y) := by rw [← HNX0.out]; exact hn
            have hd : 0 ≤ (f s0 t0 j).1.1 ∧ 0 ≤ (f s0 t0 j).1.2 := by
              rcases Classical.em (0 ≤ (f s0 t0 j).1.1 ∧ 0 ≤ (f s0 t0 j).1.2) with h | h
              · exact h
              · exfalso
                unfold Mc.jE at hje
                rw [if_neg h] at hje
                have h1 := congrArg Prod.fst hje
                simp at h1 <;> omega
            obtain ⟨u, hu⟩ := Int.eq_ofNat_of_zero_le hd.1
            obtain ⟨v, hv⟩ := Int.eq_ofNat_of_zero_le hd.2
            obtain ⟨hj1, hj2, hj3⟩ := HJS.out s0 t0 j hs0 ht0 hjii
            have hvl : v < nb := by omega
            have hy := hj3 hd.1 hd.2
            have hjs := Mc.jE_some (nb := nb) hu hv
            rw [hje] at hjs
            injection hjs with hcu hyz
            have hcuv : cc = u * nb + v := by exact_mod_cast hcu
            have hz := HZZ.out
            unfold stp at hz
            rw [if_pos hd] at hz
            have hzx : zx = u := by rw [← hu, hz]
            have hzy : zy = v := by rw [← hv, hz]
            have hzo : y = zo := by rw [hyz, hz]
            have hxo : y = xo := by rw [HXV.out.2, hje]
            have hxt : xt = k := by rw [HXV.out.1, hje, ← HL.out]; exact hix
            have hyn : 0 ≤ y := by rw [hyz]; exact hy.1
            subst hzx hzy hzo hxo hxt
            rw [hcuv, HL.out] at hLk
            have HLK := Lib.hid hLk
            have hyy : (y != y) = false := by simp
            have hyd : decide (y < 0) = false := decide_eq_false (by omega)
            have hrun := run_neq_pairJ (u : Int) (v : Int)
            clear hu hv hj1 hj2 hj3 hd hy hcu hyz hz hix hn hje hLk hcuv hIn
            rcases hk with ⟨hkq, hIn2⟩ | ⟨hkq, hIn2⟩
            · obtain rfl : q = k := hkq.symm
              have HI2 := Lib.hid hIn2
              have hq2N : q + 1 ≤ N := by have := hIn2.le VX.out; rw [HL.out, HN9.out] at this; exact this
              have hgt : decide ((q : Int) < q) = false := decide_eq_false (by omega)
              have heqb : ((q : Int) == q) = true := by simp
              have hxsl := HLP.out q (by omega)
              have hownX : w6.ownsRow bs 84 2 (.slice (some ⟨gq, 0, none⟩) q cq) ((L.map fun x => (x / (nb : Int), x % (nb : Int))).take q).length (eC ((L.map fun x => (x / (nb : Int), x % (nb : Int))).take q)) := by rw [hxsl]; exact HO6.out
              have hszb : bs ≤ w6.heap.size := by have := HB6.out.size; have := HBS.out; omega
              clear hIn2
              go_wp2_with (at_builtin; refine wpList_append_pairG _ (u : Int) (v : Int) hownX (by rw [hxsl]; omega) hszb rfl _ _ rfl rfl rfl ?_)
              intro v1 w9 hown9 hg9
              have htk : (L.map fun x => (x / (nb : Int), x % (nb : Int))).take q ++ [((u : Int), (v : Int))] = (L.map fun x => (x / (nb : Int), x % (nb : Int))).take (q + 1) := by
                rw [List.take_add_one, List.getElem?_map, HLK.out]
                show _ = _ ++ [(((u * nb + v : Nat) : Int) / (nb : Int), ((u * nb + v : Nat) : Int) % (nb : Int))]
                rw [← Int.natCast_ediv, ← Int.natCast_emod, Mc.cd_div hvl, Mc.cd_mod hvl]
              rw [htk] at hown9
              obtain ⟨g9, c9, rfl⟩ : ∃ g9 c9, v1 = .slice (some ⟨g9, 0, none⟩) (q + 1) c9 := by
                rcases hown9.2 with ⟨_, h0⟩ | ⟨g, cap, cu, hv, _⟩
                · omega
                · exact ⟨g, cap, hv⟩
              obtain ⟨n0, n1⟩ := prs_at hown9 hvl (show q < q + 1 by omega) HLK.out
              have hbF : Below bs z2 w9 := (HB6.out.alloc hszb (.cells #[.int .i64 u, .int .i64 v] 84)).grown hg9 (by simp; omega) (fun jj hjj => (hownX.lt jj hjj).1)
              have hal : ∀ b : Nat, b < w6.heap.size → b ≠ gq → w9.heap[b]? = w6.heap[b]? := fun b h1 h2 => (hg9.block b (by simp; omega) (fun e => h2 (by injection e))).trans (Below.heap_alloc w6 _ b h1)
              have hG9 : BxP w9 G u v := (hal G (heap_lt HP6.out) (by have := HGQ.out; omega)).trans HP6.out
              have hX9 : w9.heap[Gx]? = _ := (hal Gx (heap_lt HX6.out) (by have := HGQ.out; omega)).trans HX6.out
              clear x0 x1 y0 y1 y2 y3 y4 hal hg9 hownX
              obtain ⟨⟨y0, y1⟩, _, _⟩ := hG9.all
              have x0 : w9.cell? ⟨Gx, 0, none⟩ = some (.int .i64 q) := by rw [cell_of_row _ _ _ _ _ _ hX9]; rfl
              have hk1 : (q : Int) < (q : Int) + 1 := by omega
              have HOW9 := Lib.hid hown9
              have HBF9 := Lib.hid hbF
              clear hown9 hbF hG9 hX9 htk hxsl
              go_upto_region 24 with fail
              go_quiet (fail)
              obtain ⟨W3', hW3'⟩ : ∃ W3', w9.drewN nq = W3' := ⟨_, rfl⟩
              have hbd : Below w9.heap.size w9 W3' := by rw [← hW3']; exact below_drewN' (Below.refl _ _) _
              rw [hW3']
              have HBF := Lib.hid (HNX.out _ _ HBF9.out hbd)
              have HOF := Lib.hid (own_below HOW9.out hbd)
              clear hW3' hbd
              go_wp2_with fail
              go_roundw
              case rel => exact ⟨j + 1, q + 1, g9, c9, by omega, by go_num, rfl, by omega, by omega, HI2, HOF, HBF⟩
              case measure => simp [intOf]; omega
            · have HI2 := Lib.hid hIn2
              have hgt : decide ((q : Int) < k) = false := decide_eq_false (by omega)
              have heqb : ((k : Int) == q) = false := by rw [beq_eq_false_iff_ne]; omega
              have hkqi : ¬ (k : Int) = q := by omega
              have hkl : (k : Int) < q := by omega
              obtain ⟨n0, n1⟩ := prs_at HO6.out hvl hkq HLK.out
              clear hIn2
              go_upto_region 24 with fail
              go_quiet (fail)
              obtain ⟨W3', hW3'⟩ : ∃ W3', w6.drewN nq = W3' := ⟨_, rfl⟩
              have hbd : Below w6.heap.size w6 W3' := by rw [← hW3']; exact below_drewN' (Below.refl _ _) _
              rw [hW3']
              have HBF := Lib.hid (HNX.out _ _ HB6.out hbd)
              have HOF := Lib.hid (own_below HO6.out hbd)
              clear hW3' hbd
              go_wp2_with fail
              go_roundw
              case rel => exact ⟨j + 1, q, gq, cq, by omega, by go_num, rfl, by omega, by omega, HI2, HOF, HBF⟩
              case measure => simp [intOf]; omega
        · have hjii : ¬ (j : Int) < i := by omega
          have hRS2 : Hid (RowS J (s + 1) q) := hIn.out.turn VX.out (by rw [hJi.out]; omega)
          clear hIn
          go_wp2_with fail
          clear a0 a1 a2 b0 b1 b2 d0 d1 d2
          go_roundw
          case rel => exact ⟨s + 1, q, gq, cq, by omega, by go_num, rfl, hq64, hRS2, hown, hbr⟩
          case measure => simp [intOf]; omega
    · have hsNi : ¬ (s : Int) < N := by omega
      have hfin := Lib.hid (below_next HB3.out (HCW.out _ hbr.out))
      clear hRS hown hbr
      go_wp2_with fail
      go_ret
      exact ⟨rfl, by rw [← hh]; exact hfin.out⟩
end Go.Proofs.Ytgafpmgdpigliaa
