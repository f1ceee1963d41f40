/-
  Contract: Access. No statement is proved here.
-/
import Derived.Test.YtldpfbmkmehadaaWb3
import Derived.Test.YtldpfbmkmehadaaWbr
namespace Go.Proofs.Ytldpfbmkmehadaa
open Go.RowKit
open Mc (Ed Ma Wv)
attribute [local go_sem] Oper.semAt_some

/-- Block g holds words, each exact and in a block of its own. -/
def WsB (W : World) (g : Nat) (l : List (List Int)) : Prop := ∃ vs : List Value, W.heap[g]? = some (.cells vs.toArray 36 (0, 0)) ∧ vs.length = l.length ∧ ∀ (k : Nat) (x : List Int), l[k]? = some x → ∃ A, vs[k]? = some (.slice A x.length x.length) ∧ OwnB 0 W A x
section
variable {W W' : World} {g : Nat} {l : List (List Int)}
theorem WsB.kp {T : TypeId} (h : WsB W g l) (k : Kp 0 T W W') (h1 : (36 : TypeId) ≠ T) (h2 : (3 : TypeId) ≠ T) : WsB W' g l := by
  obtain ⟨vs, a, b, c⟩ := h
  refine ⟨vs, k g _ _ _ (Nat.zero_le _) a h1, b, fun j x hj => ?_⟩
  obtain ⟨A, d, e⟩ := c j x hj
  exact ⟨A, d, e.kp k h2⟩
theorem WsB.below (h : WsB W g l) (k : Below W.heap.size W W') : WsB W' g l := h.kp (T := 0) (Kp.of_below k) (by decide) (by decide)
theorem WsB.ch {M : Nat} (h : WsB W g l) (k : Ch M W W') (hg : g < M) : WsB W' g l := by
  obtain ⟨vs, a, b, c⟩ := h
  refine ⟨vs, (k.low g hg).trans a, b, fun j x hj => ?_⟩
  obtain ⟨A, d, e⟩ := c j x hj
  refine ⟨A, d, fun hp => ?_⟩
  obtain ⟨q, h1, h2, h3⟩ := e hp
  exact ⟨q, h1, h2, h3.ch k⟩
theorem WsB.lt (h : WsB W g l) : g < W.heap.size := by
  obtain ⟨vs, a, _⟩ := h
  exact heap_lt a
theorem WsB.cell (h : WsB W g l) {k : Nat} (hk : k < l.length) : ∃ v, W.cell? ⟨g, k, none⟩ = some v ∧ W.frozen? ⟨g, k, none⟩ = false := by
  obtain ⟨vs, a, b, c⟩ := h
  refine ⟨vs[k]'(by omega), ?_, ?_⟩
  · rw [cell_of_row W g k _ 36 (0, 0) a]
    simp [List.getElem?_eq_getElem (show k < vs.length by omega)]
  · simp [World.frozen?, a]
theorem WsB.at_ (h : WsB W g l) {k : Nat} {x : List Int} (hk : l[k]? = some x) : ∃ A, W.cell? ⟨g, k, none⟩ = some (.slice A x.length x.length) ∧ Rd W A x := by
  obtain ⟨vs, a, b, c⟩ := h
  obtain ⟨A, d, e⟩ := c k x hk
  refine ⟨A, ?_, e.rd⟩
  rw [cell_of_row W g k _ 36 (0, 0) a]
  simpa using d
theorem WsB.set_ (h : WsB W g l) {t : Nat} {A : Option Addr} {x : List Int} (hx : OwnB 0 W A x) (ht : t < l.length) : WsB (W.setCell ⟨g, t, none⟩ (.slice A x.length x.length)) g (l.set t x) := by
  obtain ⟨vs, a, b, c⟩ := h
  have hkp : Kp 0 36 W (W.setCell ⟨g, t, none⟩ (.slice A x.length x.length)) := Kp.set a _
  refine ⟨vs.set t (.slice A x.length x.length), by simp [World.setCell, Array.getElem?_modify, a], by simp [b], fun j y hj => ?_⟩
  by_cases e : t = j
  · subst e
    rw [List.getElem?_set_self ht] at hj
    injection hj with hj
    subst hj
    exact ⟨A, by rw [List.getElem?_set_self (by omega)], hx.kp hkp (by decide)⟩
  · rw [List.getElem?_set_ne e] at hj
    obtain ⟨B, d, f⟩ := c j y hj
    exact ⟨B, by rw [List.getElem?_set_ne e]; exact d, f.kp hkp (by decide)⟩
end
theorem OwnD.b0 {D : Nat → Prop} {W : World} {A : Option Addr} {x : List Int} (h : OwnD D W A x) : OwnB 0 W A x := fun hp => by
  obtain ⟨g, h1, _, h3⟩ := h hp
  exact ⟨g, h1, Nat.zero_le _, h3⟩
theorem BlkB.ch {M g : Nat} {W W' : World} {cs : List Bool} (h : BlkB W g cs) (k : Ch M W W') (hg : g < M) : BlkB W' g cs := (k.low g hg).trans h

theorem wpListIn_make_words {F : Fence} {m : Nat} (w : World) {ops : Array Oper} {rest : List Oper} {o : Oper} {a : Act} {Q : Exit → Act → World → Prop}
    (hg : o.guard = none) (l c : Operand) (hop : o.op = Op.makeSlice 29 l c) (L : Int) (n : Nat) (hl : a.eval l = .int .i64 L) (hc : a.eval c = .int .i64 L) (hL : L = (n : Int)) (hn : n ≤ 65537)
    (hK : ∀ w', WsB w' w.heap.size (List.replicate n []) → Below w.heap.size w w' → wpListIn F m Try.prog ops Q rest (a.put o.dst (.slice (some ⟨w.heap.size, 0, none⟩) n n)) w') :
    wpListIn F m Try.prog ops Q (o :: rest) a w := by
  subst hL
  refine wpListIn_plain hg fun K hK' => ?_
  have hrun := run_make_row' (P := Try.prog) 29 36 (.slice none 0 0) 24 Try.underlying29 words_info rfl .i64 .i64 n (by omega) (by omega) w
  unfold Oper.wpIn
  refine ⟨?_, ?_⟩
  · simp [Oper.about, hop]
  · rw [Oper.semAt_plain F _ _ (by rw [hop]; intro c hc'; cases hc')]
    simp [execOp, hop, hl, hc, hrun, Result.andThen]
    refine hK' _ _ (hK _ ?_ ((Below.refl _ _).alloc (Nat.le_refl _) _))
    refine ⟨List.replicate n (.slice none 0 0), ?_, by simp, fun k x hk => ?_⟩
    · rw [heap_alloc_new]
      have e := toList_madeCells_one (.slice none 0 0) n
      have e2 : madeCells #[.slice none 0 0] n = (List.replicate n (Value.slice none 0 0)).toArray := by
        rw [← Array.toList_inj, e]
      rw [e2]
    · rw [List.getElem?_replicate] at hk
      split at hk
      · rename_i hkn
        injection hk with hk
        subst hk
        exact ⟨none, by rw [List.getElem?_replicate, if_pos hkn]; rfl, fun hp => absurd hp (by simp)⟩
      · cases hk
theorem wpListIn_make_bools {F : Fence} {m : Nat} (w : World) {ops : Array Oper} {rest : List Oper} {o : Oper} {a : Act} {Q : Exit → Act → World → Prop}
    (hg : o.guard = none) (l c : Operand) (hop : o.op = Op.makeSlice 30 l c) (L : Int) (n : Nat) (hl : a.eval l = .int .i64 L) (hc : a.eval c = .int .i64 L) (hL : L = (n : Int)) (hn : n ≤ 65537)
    (hK : ∀ w', BlkB w' w.heap.size (List.replicate n false) → Below w.heap.size w w' → wpListIn F m Try.prog ops Q rest (a.put o.dst (.slice (some ⟨w.heap.size, 0, none⟩) n n)) w') :
    wpListIn F m Try.prog ops Q (o :: rest) a w := by
  subst hL
  refine wpListIn_plain hg fun K hK' => ?_
  have hrun := run_make_row' (P := Try.prog) 30 4 (.bool false) 1 Try.underlying30 bool_info rfl .i64 .i64 n (by omega) (by omega) w
  unfold Oper.wpIn
  refine ⟨?_, ?_⟩
  · simp [Oper.about, hop]
  · rw [Oper.semAt_plain F _ _ (by rw [hop]; intro c hc'; cases hc')]
    simp [execOp, hop, hl, hc, hrun, Result.andThen]
    refine hK' _ _ (hK _ ?_ ((Below.refl _ _).alloc (Nat.le_refl _) _))
    show _ = _
    rw [heap_alloc_new]
    have e := toList_madeCells_one (.bool false) n
    have e2 : madeCells #[.bool false] n = ((List.replicate n false).map Value.bool).toArray := by
      rw [← Array.toList_inj, e]
      simp
    rw [e2]

namespace Mc
def accV (m : Ma) : List (List Int) := if chk m = 0 then tab oW (wk m 0) m.r.length else []
def accB (m : Ma) : List Bool := if chk m = 0 then tab oB (wk m 0) m.r.length else []
end Mc
/-- The memory of Access: the words, what is reached, their boxes. -/
structure Ac (w : World) (gP bP gR bR n : Nat) (l : List (List Int)) (r : List Bool) (W : World) : Prop where
  bel : Below w.heap.size w W
  xP : Box W bP (.slice (some ⟨gP, 0, none⟩) n n)
  xR : Box W bR (.slice (some ⟨gR, 0, none⟩) n n)
  ws : WsB W gP l
  rs : BlkB W gR r
  o1 : w.heap.size ≤ gP
  o2 : gP < bP
  o3 : bP < gR
  o4 : gR < bR
section
variable {w W W' : World} {gP bP gR bR n : Nat} {l : List (List Int)} {r : List Bool}
theorem Ac.ch {M : Nat} (x : Ac w gP bP gR bR n l r W) (k : Ch M W W') (h1 : bR < M) : Ac w gP bP gR bR n l r W' := by
  have h2 := x.o1; have h3 := x.o2; have h4 := x.o3; have h5 := x.o4
  exact ⟨k.below (by omega) x.bel, x.xP.ch k (by omega), x.xR.ch k h1, x.ws.ch k (by omega), x.rs.ch k (by omega), h2, h3, h4, h5⟩
theorem Ac.put (x : Ac w gP bP gR bR n l r W) {t : Nat} {A : Option Addr} {v : List Int} (hA : OwnB 0 W A v) (ht : t < l.length) : Ac w gP bP gR bR n (l.set t v) (r.set t true) ((W.setCell ⟨gP, t, none⟩ (.slice A v.length v.length)).setCell ⟨gR, t, none⟩ (.bool true)) := by
  have h2 := x.o1; have h3 := x.o2; have h4 := x.o3; have h5 := x.o4
  have hr1 : BlkB (W.setCell ⟨gP, t, none⟩ (.slice A v.length v.length)) gR r := (Below.heap_setCell W ⟨gP, t, none⟩ _ gR (by show gR ≠ gP; omega)).trans x.rs
  refine ⟨(x.bel.setCell (p := ⟨gP, t, none⟩) h2 _).setCell (p := ⟨gR, t, none⟩) (by show w.heap.size ≤ gR; omega) _, (x.xP.far (by omega) _).far (by omega) _, (x.xR.far (by omega) _).far (by omega) _, ?_, hr1.set_ t true, h2, h3, h4, h5⟩
  exact (x.ws.set_ hA ht).kp (T := 4) (Kp.set hr1 _) (by decide) (by decide)
end
/-- What Access hands back. -/
def AccP (w : World) (m : Ma) (e : Ending) (w' : World) : Prop := ∃ B C k, e = .returned (.tuple #[.slice B k k, .slice C k k, .int .i64 (Mc.chk m)]) ∧ Hid ((Mc.accV m).length = k) ∧ Hid ((Mc.accB m).length = k) ∧
  (k ≠ 0 → ∃ g1 g2, B = some ⟨g1, 0, none⟩ ∧ C = some ⟨g2, 0, none⟩ ∧ WsB w' g1 (Mc.accV m) ∧ BlkB w' g2 (Mc.accB m)) ∧ Below w.heap.size w w'

set_option maxRecDepth 100000 in
set_option maxHeartbeats 4000000 in
theorem wacc_any (i o : Int) (rs : List (List Ed)) (A : Option Addr) (n c : Nat) (w : World) (hr : RdR w A rs) (hn : rs.length = n) (hnb : n ≤ 1000000) (hrl : ∀ row ∈ rs, row.length ≤ 1000000) :
    Calls Try.prog 12 #[.agg #[.int .i64 i, .int .i64 o, .slice A n c]] w (AccP w ⟨i, o, rs⟩) := by
  have RL := Lib.hid hrl
  have HN := Lib.hid hn
  obtain ⟨mm, _⟩ : ∃ mm : Nat, True := ⟨3, trivial⟩
  have hM0 := BxM.new w i o A n c
  have hb0 : Below w.heap.size w (boxM w i o A n c) := (Below.refl _ _).alloc (Nat.le_refl _) _
  have hr1 := hr.below hb0
  clear hrl
  refine (callsIn_wide (n := mm)).1 ?_
  refine callsIn_of_wp_marks Try.func12 rfl trivial ?_
  simp only [Try.ntmps12, List.size_toArray, List.length_cons, List.length_nil, Nat.reduceAdd, Nat.reduceSub, Array.replicate_succ, Array.replicate_zero, List.push_toArray, List.append_toArray, List.nil_append, List.cons_append]
  gi_wp2_with fail
  refine wide_calls (wcheck_any i o rs A n c none 0 0 [] _ hr1 hn hnb RL.out Rd.nil_ rfl (by omega)) ?_
  rintro e w2 ⟨rfl, hb2⟩
  rw [Mc.chkS_nil]
  have hB2 := below_next hb0 hb2
  have hM2 := hM0.mvB hb2
  have hz2 : w.heap.size < w2.heap.size := heap_lt hM2
  obtain ⟨q0, q1, q2⟩ := hM2.cells
  clear hb0 hM0 hr1 hb2
  by_cases hz : Mc.chk ⟨i, o, rs⟩ = 0
  · have hv : Hid (Mc.accV ⟨i, o, rs⟩ = Mc.tab Mc.oW (Mc.wk ⟨i, o, rs⟩ 0) n) := by
      show _ = _
      unfold Mc.accV
      rw [if_pos hz, hn]
    have hvb : Hid (Mc.accB ⟨i, o, rs⟩ = Mc.tab Mc.oB (Mc.wk ⟨i, o, rs⟩ 0) n) := by
      show _ = _
      unfold Mc.accB
      rw [if_pos hz, hn]
    have V := Mc.val_of hz
    have HV := Lib.hid V
    have hr64 : n ≤ 64 := by have := V.r1; simp only [hn] at this; exact this
    have hr0 : 1 ≤ n := by have := V.r0; simp only [hn] at this; exact this
    have HZ := Lib.hid hz
    rw [hz]
    clear V hz
    gi_wp2_with (gi_at_make; go_loud (refine wpListIn_make_words _ rfl _ _ rfl _ n rfl rfl rfl (by omega) ?_))
    intro w3 hW3 hb3
    obtain ⟨gP, hgP⟩ : ∃ gP, w2.heap.size = gP := ⟨_, rfl⟩
    rw [hgP] at hW3 hz2 ⊢
    have hM3 := hM2.mvB hb3
    have hz3 := hW3.lt
    have hB3 := below_next hB2 hb3
    clear q0 q1 q2 hM2 hB2 hb3
    have q0 : ∀ ob, (w3.alloc ob).cell? ⟨w.heap.size, 0, none⟩ = some (.int .i64 i) := fun ob => (hM3.mvB ((Below.refl _ _).alloc (Nat.le_refl _) ob)).cells.1
    have q1 : ∀ ob, (w3.alloc ob).cell? ⟨w.heap.size, 1, none⟩ = some (.int .i64 o) := fun ob => (hM3.mvB ((Below.refl _ _).alloc (Nat.le_refl _) ob)).cells.2.1
    have q2 : ∀ ob, (w3.alloc ob).cell? ⟨w.heap.size, 2, none⟩ = some (.slice A n c) := fun ob => (hM3.mvB ((Below.refl _ _).alloc (Nat.le_refl _) ob)).cells.2.2
    have hbA : Below w3.heap.size w3 (w3.alloc (.cells #[.slice (some ⟨gP, 0, none⟩) n n] 29)) := (Below.refl _ _).alloc (Nat.le_refl _) _
    have hX4 := Box.new w3 (.slice (some ⟨gP, 0, none⟩) n n) 29
    gi_wp2_with (gi_at_make; go_loud (refine wpListIn_make_bools _ rfl _ _ rfl _ n rfl rfl rfl (by omega) ?_))
    intro w5 hR5 hb5
    obtain ⟨bP, hbP⟩ : ∃ bP, w3.heap.size = bP := ⟨_, rfl⟩
    rw [← World.size_alloc w3 (.cells #[.slice (some ⟨gP, 0, none⟩) n n] 29)] at hb5
    have hM5 := (hM3.mvB hbA).mvB hb5
    have hW5 := (hW3.below hbA).below hb5
    have hX5 := hX4.below hb5
    have hB5 := below_next (below_next hB3 hbA) hb5
    have hz5 := hR5.lt
    rw [hbP] at hR5 hz5
    rw [hbP] at hX5 hz3
    try rw [hbP]
    clear q0 q1 q2 hM3 hX4 hB3 hbA hb5 hW3
    have q0 : ∀ ob, (w5.alloc ob).cell? ⟨w.heap.size, 0, none⟩ = some (.int .i64 i) := fun ob => (hM5.mvB ((Below.refl _ _).alloc (Nat.le_refl _) ob)).cells.1
    have q1 : ∀ ob, (w5.alloc ob).cell? ⟨w.heap.size, 1, none⟩ = some (.int .i64 o) := fun ob => (hM5.mvB ((Below.refl _ _).alloc (Nat.le_refl _) ob)).cells.2.1
    have q2 : ∀ ob, (w5.alloc ob).cell? ⟨w.heap.size, 2, none⟩ = some (.slice A n c) := fun ob => (hM5.mvB ((Below.refl _ _).alloc (Nat.le_refl _) ob)).cells.2.2
    gi_wp2_with fail
    refine wide_calls (walk_any _ _ _ _ _ _ _) ?_
    rintro e w6 ⟨rfl, rfl⟩
    gi_wp2_with fail
    obtain ⟨bR, hbR⟩ : ∃ bR, w5.heap.size = bR := ⟨_, rfl⟩
    obtain ⟨Wl, hWl⟩ : ∃ Wl, (boxM (w5.alloc (.cells #[.slice (some ⟨bP + 1, 0, none⟩) n n] 30)) i o A n c).alloc (.cells #[.int .i64 0] 3) = Wl := ⟨_, rfl⟩
    rw [hbR, hWl]
    rw [hbR] at hz5
    have hbB : Below w5.heap.size w5 Wl := by rw [← hWl]; exact (((Below.refl _ _).alloc (Nat.le_refl _) _).alloc (by simp) _).alloc (by simp; omega) _
    have hbw : Below w.heap.size w Wl := below_next hB5 hbB
    have hzl : Wl.heap.size = bR + 3 := by rw [← hWl, ← hbR]; simp
    have hbx : BxM Wl (bR + 1) i o A rs.length c := by
      rw [← hWl, ← hbR, hn]
      exact (BxM.newE (by simp) i o A n c).mvB ((Below.refl _ _).alloc (Nat.le_refl _) _)
    have hst : Wl.cell? ⟨bR + 1 + 1, 0, none⟩ = some (.int .i64 ((0 : Nat) : Int)) := by
      rw [← hWl, ← hbR]
      exact (Box.new_ (by simp) (.int .i64 0) 3).1
    have hAc : Ac w gP bP (bP + 1) bR n (Mc.tab Mc.oW ((Mc.wk ⟨i, o, rs⟩ 0).take 0) n) (Mc.tab Mc.oB ((Mc.wk ⟨i, o, rs⟩ 0).take 0) n) Wl := by
      refine ⟨hbw, hX5.below hbB, ?_, ?_, ?_, by omega, by omega, by omega, by omega⟩
      · rw [← hWl, ← hbR]
        exact ((Box.new w5 (.slice (some ⟨bP + 1, 0, none⟩) n n) 30).alloc _).alloc _
      · rw [List.take_zero, Mc.tab_nil]
        exact hW5.below hbB
      · rw [List.take_zero, Mc.tab_nil]
        exact hR5.below hbB (by omega)
    have hG : GivesW (mm - 1) 53 #[.pointer (some ⟨bR + 1 + 1, 0, none⟩), .pointer (some ⟨bR + 1, 0, none⟩)] (Mc.wk ⟨i, o, rs⟩ 0) (fun b => b = gP ∨ b = bP + 1) Wl :=
      walk1_gives (mm - 1) ⟨i, o, rs⟩ HV.out (bR + 1) (bR + 1 + 1) A c 0 (fun b => b = gP ∨ b = bP + 1) w Wl hr hbw hbx hst (by simp only [hn]; omega) (fun h => by omega) (fun b h => by omega) (fun b h => by omega)
    have hBF := Lib.hid (Mc.wk_bf HV.out (s := 0) (by simp only [hn]; omega))
    clear q0 q1 q2 hM5 hW5 hR5 hX5 hB5 hbB hbx hst hWl
    refine range_words (m := mm) 53 _ rfl (enters_of Try.func53 (by kernel_rfl) rfl) (Mc.wk ⟨i, o, rs⟩ 0) (fun b => b = gP ∨ b = bP + 1) (fun b h => by omega) rfl hG
      (fun k W => Ac w gP bP (bP + 1) bR n (Mc.tab Mc.oW ((Mc.wk ⟨i, o, rs⟩ 0).take k) n) (Mc.tab Mc.oB ((Mc.wk ⟨i, o, rs⟩ 0).take k) n) W) (fun _ _ => False) (fun k A B h c => h.ch c (by omega)) (fun c' A B h _ => h.elim) hAc ?round ?done ?stop
    case round =>
      intro l k x X W hk hW hI hO
      obtain ⟨xs, xw⟩ := x
      have hx := (hBF.out.lw _ (List.mem_of_getElem? hk)).1
      simp only [hn] at hx
      obtain ⟨t, rfl⟩ := Int.eq_ofNat_of_zero_le hx.1
      have htn : t < n := by omega
      have hlt0 := Mc.look_take HV.out hBF.out hk
      have HT := Lib.hid (Mc.tab_snoc (f := Mc.oW) (n := n) (w := xw) hlt0)
      have HU := Lib.hid (Mc.tab_snoc (f := Mc.oB) (n := n) (w := xw) hlt0)
      rw [← Mc.take_snocW hk] at HT HU
      obtain ⟨cs, hcs⟩ : ∃ cs, Mc.tab Mc.oW ((Mc.wk ⟨i, o, rs⟩ 0).take k) n = cs := ⟨_, rfl⟩
      obtain ⟨ds, hds⟩ : ∃ ds, Mc.tab Mc.oB ((Mc.wk ⟨i, o, rs⟩ 0).take k) n = ds := ⟨_, rfl⟩
      have hcl : Hid (cs.length = n) := by show _ = _; rw [← hcs]; exact Mc.tab_len
      have hdl : Hid (ds.length = n) := by show _ = _; rw [← hds]; exact Mc.tab_len
      rw [hcs] at HT
      rw [hds] at HU
      rw [hcs, hds] at hI
      obtain ⟨len, hlen⟩ : ∃ len, xw.length = len := ⟨_, rfl⟩
      simp only [wvv]
      clear hk hG hAc hcs hds hx hlt0
      rw [hlen]
      gi_wp2_with fail
      refine ⟨Below.refl _ _, fun W2 hc2 => ?_⟩
      have hI2 := hI.ch (Ch.of_cells hc2) (by omega)
      have hO2 := hO.cells hc2
      have hzW := hc2.size
      clear hI hc2 hO
      have b0 := hI2.xP.1
      have b1 := hI2.xR.1
      have b2 := (hI2.xR.far (c := gP) (o := t) (by have := hI2.o2; have := hI2.o3; have := hI2.o4; omega) (.slice X len len)).1
      obtain ⟨v0, c0, c1⟩ := hI2.ws.cell (k := t) (by rw [hcl.out]; exact htn)
      obtain ⟨v1, d0, d1, _⟩ := BlkB.at_ (show BlkB (W2.setCell ⟨gP, t, none⟩ (.slice X len len)) (bP + 1) ds from (Below.heap_setCell W2 ⟨gP, t, none⟩ _ _ (by have := hI2.o2; show bP + 1 ≠ gP; omega)).trans hI2.rs) (k := t) (by rw [hdl.out]; exact htn)
      have hI5 := hI2.put hO2.b0 (t := t) (by rw [hcl.out]; exact htn)
      rw [hlen] at hI5
      have R : roundP (fun b => b = gP ∨ b = bP + 1) (fun k W => Ac w gP bP (bP + 1) bR n (Mc.tab Mc.oW ((Mc.wk ⟨i, o, rs⟩ 0).take k) n) (Mc.tab Mc.oB ((Mc.wk ⟨i, o, rs⟩ 0).take k) n) W) (fun _ _ => False) k W2 .normal ⟨#[], []⟩ ((W2.setCell ⟨gP, t, none⟩ (.slice X len len)).setCell ⟨bP + 1, t, none⟩ (.bool true)).drew := by
        refine ⟨?_, ((KA.set (D := fun b => b = gP ∨ b = bP + 1) _ (.inl rfl) _).trans (KA.set (D := fun b => b = gP ∨ b = bP + 1) _ (.inr rfl) _)).trans (KA.of_below (Below.refl _ _).drew)⟩
        show Ac _ _ _ _ _ _ _ _ _
        rw [HT.out, HU.out]
        exact ⟨hI5.bel.drew, hI5.xP, hI5.xR, hI5.ws, hI5.rs, hI5.o1, hI5.o2, hI5.o3, hI5.o4⟩
      have RH := Lib.hid R
      clear R hI5 hI2 hO2 hlen
      gi_wp2_with fail
      exact acc_region b0 b1 b2 c0 c1 d0 d1 htn RH.out
    case done =>
      intro N W hN hI hd
      rw [List.take_length] at hI
      have b0 := hI.xP.1
      have b1 := hI.xR.1
      have hws := Lib.hid hI.ws
      have hrs := Lib.hid hI.rs
      have hbel := Lib.hid hI.bel
      have hfin : Hid (∀ W', Cells w.heap.size W W' → AccP w ⟨i, o, rs⟩ (.returned (.tuple #[.slice (some ⟨gP, 0, none⟩) n n, .slice (some ⟨bP + 1, 0, none⟩) n n, .int .i64 0])) W') := fun W' hc => by
        refine ⟨_, _, n, by rw [HZ.out], by rw [hv.out]; exact Mc.tab_len, by rw [hvb.out]; exact Mc.tab_len, fun _ => ⟨gP, bP + 1, rfl, rfl, ?_, ?_⟩, hc.below (Nat.le_refl _) hbel.out⟩
        · rw [hv.out]
          exact hws.out.kp (T := 0) (fun b cs t fr _ hb _ => hc.same b _ hb rfl) (by decide) (by decide)
        · rw [hvb.out]
          exact hc.same _ _ hrs.out rfl
      clear hI hAc hG
      simp only [marked]
      gi_wp2_with fail
      gi_region
      all_goals
        gi_wp2_with fail
        have hd2 : (World.drew W).heap[N]? = some (.deferred (some [])) := hd
        refine ⟨by simp, .inl ⟨_, _, rfl, run_takeDeferred hd2, ?_⟩⟩
        refine ⟨.tuple #[.slice (some ⟨gP, 0, none⟩) n n, .slice (some ⟨bP + 1, 0, none⟩) n n, .int .i64 0], ?_, hfin.out _ ((Cells.of_below (Below.refl _ _).drew hbel.out.size).trans (Cells.put _ hd2 rfl (by have := hbel.out.size; have := hbw.size; omega)))⟩
        simp [results, Try.f12, go_sem]
    case stop =>
      rintro N c' W hN h hd
      exact h.elim
  · have hzb : (Mc.chk ⟨i, o, rs⟩ == 0) = false := by rw [beq_eq_false_iff_ne]; exact hz
    have hv : Hid (Mc.accV ⟨i, o, rs⟩ = []) := by
      show _ = _
      unfold Mc.accV
      rw [if_neg hz]
    have hvb : Hid (Mc.accB ⟨i, o, rs⟩ = []) := by
      show _ = _
      unfold Mc.accB
      rw [if_neg hz]
    obtain ⟨z, hzz⟩ : ∃ z, Mc.chk ⟨i, o, rs⟩ = z := ⟨_, rfl⟩
    rw [hzz] at hz hzb ⊢
    have HZ := Lib.hid hzz
    have hzn : (z != 0) = true := by simpa using hz
    have hfin : Hid (AccP w ⟨i, o, rs⟩ (.returned (.tuple #[.slice none 0 0, .slice none 0 0, .int .i64 z])) w2) := ⟨none, none, 0, by rw [HZ.out], by rw [hv.out]; rfl, by rw [hvb.out]; rfl, fun h => absurd rfl h, hB2⟩
    clear hzz
    gi_wp2_with fail
    refine ⟨.tuple #[.slice none 0 0, .slice none 0 0, .int .i64 z], ?_, hfin.out⟩
    simp [results, Try.f12, go_sem]
end Go.Proofs.Ytldpfbmkmehadaa
