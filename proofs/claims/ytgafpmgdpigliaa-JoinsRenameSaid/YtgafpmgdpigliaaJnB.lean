/-
  Inverse lists step by step; renaming back; blocks of ints; the box of three lists. No statement is proved here.
-/
import Derived.Test.YtgafpmgdpigliaaJnZ
import Derived.Test.YtgafpmgdpigliaaMnZ
import Derived.Deep.OwnRows
namespace Go.Proofs.Ytgafpmgdpigliaa
open Go.RowKit
open Mc (Ed Ma Wv nE)

/-- The inverse list, as far as the first k numbers tell it. -/
def invK (l : List Int) (k : Nat) : List Int := (List.range l.length).map fun t : Nat => if l.idxOf (t : Int) < k then ((l.idxOf (t : Int) : Nat) : Int) else 0
theorem invK_len (l : List Int) (k : Nat) : (invK l k).length = l.length := by simp [invK]
theorem invK_at (l : List Int) (k : Nat) {t : Nat} (h : t < l.length) : (invK l k)[t]? = some (if l.idxOf (t : Int) < k then ((l.idxOf (t : Int) : Nat) : Int) else 0) := by
  unfold invK
  rw [List.getElem?_map, List.getElem?_range h]
  rfl
theorem invK_zero (l : List Int) : invK l 0 = List.replicate l.length 0 := by
  refine List.ext_getElem? fun t => ?_
  by_cases h : t < l.length
  · rw [invK_at l 0 h, List.getElem?_replicate, if_pos h, if_neg (Nat.not_lt_zero _)]
  · rw [List.getElem?_eq_none (by rw [invK_len]; omega), List.getElem?_eq_none (by simp; omega)]
theorem invK_step {l : List Int} {n k z : Nat} (h : Dst l n) (hl : l.length = n) (hk : l[k]? = some (z : Int)) : (invK l k).set z (k : Int) = invK l (k + 1) := by
  refine List.ext_getElem? fun t => ?_
  by_cases ht : t < l.length
  · rw [List.getElem?_set, invK_at l (k + 1) ht, invK_at l k ht, invK_len]
    have hi := idx_iff h hl hk (t := t) (by omega)
    by_cases hz : z = t
    · subst hz
      rw [if_pos rfl, if_pos ht, hi.2 rfl, if_pos (by omega)]
    · rw [if_neg hz]
      have hne : l.idxOf (t : Int) ≠ k := fun e => hz (hi.1 e).symm
      by_cases h1 : l.idxOf (t : Int) < k
      · rw [if_pos h1, if_pos (by omega)]
      · rw [if_neg h1, if_neg (by omega)]
  · rw [List.getElem?_eq_none (by rw [List.length_set, invK_len]; omega), List.getElem?_eq_none (by rw [invK_len]; omega)]
theorem invK_done {l : List Int} {n : Nat} (h : Dst l n) (hl : l.length = n) : invK l n = invN l := by
  refine List.ext_getElem? fun t => ?_
  by_cases ht : t < l.length
  · rw [invK_at l n ht, invN_at l ht, if_pos]
    have := List.idxOf_lt_length_of_mem (h.mem hl (t := t) (by omega))
    omega
  · rw [List.getElem?_eq_none (by rw [invK_len]; omega), List.getElem?_eq_none (by rw [invN_len]; omega)]
/-- Renaming back is not refused. -/
theorem rn_back_x {a : Ma} {ins outs sts : List Int} (R : RnJ a ins outs sts) (h0 : sts[0]? = some 0) : xR (renM a ins outs sts) (invN ins) (invN outs) (invN sts) = 0 := by
  have v := R.va
  have hi := v.i0
  have ho := v.o0
  have hr := v.r0
  have l1 := R.li
  have l2 := R.lo
  have l3 := R.ls
  have p1 : permV (invN ins) = 1 := by rw [permV_dst, invN_len, l1, if_pos (invN_dst R.di l1)]
  have p2 : permV (invN outs) = 1 := by rw [permV_dst, invN_len, l2, if_pos (invN_dst R.do_ l2)]
  have p3 : permV (invN sts) = 1 := by rw [permV_dst, invN_len, l3, if_pos (invN_dst R.ds l3)]
  have z0 : (invN sts)[0]? = some 0 := by
    have h1 := invN_val R.ds R.ls (z := 0) (Int.le_refl 0) (by omega)
    have h2 : gzN sts 0 = 0 := by
      unfold gzN
      rw [show (0 : Int).toNat = 0 from rfl, h0]
      rfl
    rwa [h2] at h1
  unfold xR
  rw [if_neg, if_neg]
  · rw [p1, p2, p3]
    intro h
    rcases h with h | h
    · exact absurd h (by decide)
    · exact h z0
  · rw [invN_len, invN_len, invN_len, rn_len]
    show ¬ ((ins.length : Int) ≠ a.i ∨ (outs.length : Int) ≠ a.o ∨ sts.length ≠ a.r.length)
    omega
/-! ### A block of ints -/
def BlkI (w : World) (g : Nat) (xs : List Int) : Prop := w.heap[g]? = some (.cells (ints xs).toArray 3 (0, 0))
section
variable {w w' : World} {g : Nat} {xs : List Int}
theorem BlkI.at_ (h : BlkI w g xs) {k : Nat} (hk : k < xs.length) : ∃ z, w.cell? ⟨g, k, none⟩ = some (.int .i64 z) ∧ w.frozen? ⟨g, k, none⟩ = false ∧ Hid (xs[k]? = some z) := by
  have e := List.getElem?_eq_getElem hk
  refine ⟨xs[k], ?_, ?_, e⟩
  · rw [cell_of_row w g k _ 3 (0, 0) h]
    simp [ints, e]
  · unfold BlkI at h
    simp [World.frozen?, h]
theorem BlkI.set_ (h : BlkI w g xs) (k : Nat) (v : Int) : BlkI (w.setCell ⟨g, k, none⟩ (.int .i64 v)) g (xs.set k v) := by
  unfold BlkI at h ⊢
  simp [World.setCell, Array.getElem?_modify, h, ints, List.map_set]
theorem BlkI.far (h : BlkI w g xs) {G k : Nat} (hne : g ≠ G) (v : Value) : BlkI (w.setCell ⟨G, k, none⟩ v) g xs := (Below.heap_setCell _ _ _ _ hne).trans h
theorem BlkI.to (h : BlkI w g xs) (hb : Below w.heap.size w w') : BlkI w' g xs := (hb.block _ (heap_lt h)).trans h
theorem BlkI.rd (h : BlkI w g xs) : Rd w (some ⟨g, 0, none⟩) xs := Rd.of_block h
end
theorem madeI (n : Nat) : madeCells #[Value.int .i64 0] n = (ints (List.replicate n 0)).toArray := by
  have e := toList_madeCells_one (.int .i64 0) n
  rw [← Array.toList_inj, e]
  simp [ints]
theorem make_yields {o : Oper} {a : Act} {w : World} {s n : Nat} (h : o.op = .makeSlice 30 (.tmp s) (.tmp s)) (hs : a.tmps.getD s undef = .int .i64 n) (hn : n ≤ 65537) :
    yieldsM Try.prog o a w (fun v w' => v = .slice (some ⟨w.heap.size, 0, none⟩) n n ∧ w' = w.alloc (.cells (ints (List.replicate n 0)).toArray 3)) := by
  unfold yieldsM
  obtain ⟨dst, op, type, pos, after, guard⟩ := o
  simp only at h
  subst h
  have hs' : a.tmps[s]?.getD undef = .int .i64 n := by simpa using hs
  have hrun := run_make_row' (P := Try.prog) 30 3 (.int .i64 0) 8 Try.underlying30 int_info rfl .i64 .i64 n (by omega) (by omega) w
  rw [madeI] at hrun
  simp [execOp, Act.eval, hs', hrun]
/-! ### The box of three lists -/
def BxN (w : World) (g : Nat) (A : Option Addr) (n c : Nat) (B : Option Addr) (m d : Nat) (C : Option Addr) (k e : Nat) : Prop := w.heap[g]? = some (.cells #[.slice A n c, .slice B m d, .slice C k e] 68)
section
variable {w w' : World} {g n c m d k e : Nat} {A B C : Option Addr}
theorem BxN.below (h : BxN w g A n c B m d C k e) (hb : Below w.heap.size w w') : BxN w' g A n c B m d C k e := (hb.block _ (heap_lt h)).trans h
theorem BxN.far (h : BxN w g A n c B m d C k e) {G q : Nat} (hne : g ≠ G) (v : Value) : BxN (w.setCell ⟨G, q, none⟩ v) g A n c B m d C k e := (Below.heap_setCell _ _ _ _ hne).trans h
theorem BxN.cells (h : BxN w g A n c B m d C k e) : w.cell? ⟨g, 0, none⟩ = some (.slice A n c) ∧ w.cell? ⟨g, 1, none⟩ = some (.slice B m d) ∧ w.cell? ⟨g, 2, none⟩ = some (.slice C k e) := by
  refine ⟨?_, ?_, ?_⟩ <;> (rw [cell_of_row _ _ _ _ _ _ h]; rfl)
theorem BxN.ne (h : BxN w g A n c B m d C k e) {G : Nat} {xs : List Int} (hB : BlkI w G xs) : g ≠ G := fun x => by
  subst x
  unfold BxN at h
  unfold BlkI at hB
  rw [h] at hB
  injection hB with hB
  injection hB with _ h2 _
  exact absurd h2 (by decide)
end
set_option maxRecDepth 100000 in
theorem storeN_yields {o : Oper} {a : Act} {w : World} {s t G n c m d k e n' c' m' d' k' e' : Nat} {A B C A' B' C' : Option Addr} (h : o.op = .store 68 (.tmp s) (.tmp t)) (hs : a.tmps.getD s undef = .pointer (some ⟨G, 0, none⟩)) (ht : a.tmps.getD t undef = .agg #[.slice A' n' c', .slice B' m' d', .slice C' k' e']) (hB : BxN w G A n c B m d C k e) :
    yieldsM Try.prog o a w (fun v w' => v = undef ∧ w' = set3 w G (.slice A' n' c') (.slice B' m' d') (.slice C' k' e')) := by
  unfold yieldsM
  obtain ⟨dst, op, type, pos, after, guard⟩ := o
  simp only at h
  subst h
  obtain ⟨c0, c1, c2⟩ := hB.cells
  have hf : ∀ k, w.frozen? ⟨G, k, none⟩ = false := fun k => by
    unfold BxN at hB
    simp [World.frozen?, hB]
  have hB1 : BxN (w.setCell ⟨G, 0, none⟩ (.slice A' n' c')) G A' n' c' B m d C k e := by
    unfold BxN at hB ⊢
    simp [World.setCell, Array.getElem?_modify, hB]
  have hB2 : BxN ((w.setCell ⟨G, 0, none⟩ (.slice A' n' c')).setCell ⟨G, 1, none⟩ (.slice B' m' d')) G A' n' c' B' m' d' C k e := by
    have h1 : (w.setCell ⟨G, 0, none⟩ (.slice A' n' c')).heap[G]? = _ := hB1
    show ((w.setCell ⟨G, 0, none⟩ (.slice A' n' c')).setCell ⟨G, 1, none⟩ (.slice B' m' d')).heap[G]? = _
    generalize w.setCell ⟨G, 0, none⟩ (.slice A' n' c') = w1 at *
    simp [World.setCell, Array.getElem?_modify, h1]
  have e1 := hB1.cells.2.1
  have e2 := hB2.cells.2.2
  have f1 : (w.setCell ⟨G, 0, none⟩ (.slice A' n' c')).frozen? ⟨G, 1, none⟩ = false := by
    have h1 : (w.setCell ⟨G, 0, none⟩ (.slice A' n' c')).heap[G]? = _ := hB1
    simp only [World.frozen?, h1]
    simp
  have f2 : ((w.setCell ⟨G, 0, none⟩ (.slice A' n' c')).setCell ⟨G, 1, none⟩ (.slice B' m' d')).frozen? ⟨G, 2, none⟩ = false := by
    have h1 : ((w.setCell ⟨G, 0, none⟩ (.slice A' n' c')).setCell ⟨G, 1, none⟩ (.slice B' m' d')).heap[G]? = _ := hB2
    simp only [World.frozen?, h1]
    simp
  have hs' : a.tmps[s]?.getD undef = .pointer (some ⟨G, 0, none⟩) := by simpa using hs
  have ht' : a.tmps[t]?.getD undef = .agg #[.slice A' n' c', .slice B' m' d', .slice C' k' e'] := by simpa using ht
  simp [execOp, go_sem, hs', ht', c0, hf, e1, e2, f1, f2]
theorem set3_block {w : World} {G : Nat} {a b c x y z : Value} {T : TypeId} {fr : Nat × Nat} (h : w.heap[G]? = some (.cells #[a, b, c] T fr)) : (set3 w G x y z).heap[G]? = some (.cells #[x, y, z] T fr) ∧ (set3 w G x y z).heap.size = w.heap.size ∧ ∀ q : Nat, q ≠ G → (set3 w G x y z).heap[q]? = w.heap[q]? := by
  refine ⟨?_, ?_, fun q hq => ?_⟩
  · have h1 : (w.setCell ⟨G, 0, none⟩ x).heap[G]? = some (.cells #[x, b, c] T fr) := by simp [World.setCell, Array.getElem?_modify, h]
    have h2 : ((w.setCell ⟨G, 0, none⟩ x).setCell ⟨G, 1, none⟩ y).heap[G]? = some (.cells #[x, y, c] T fr) := by
      generalize w.setCell ⟨G, 0, none⟩ x = w1 at *
      simp [World.setCell, Array.getElem?_modify, h1]
    show (((w.setCell ⟨G, 0, none⟩ x).setCell ⟨G, 1, none⟩ y).setCell ⟨G, 2, none⟩ z).heap[G]? = _
    generalize (w.setCell ⟨G, 0, none⟩ x).setCell ⟨G, 1, none⟩ y = w2 at *
    simp [World.setCell, Array.getElem?_modify, h2]
  · simp [set3, World.setCell]
  · show (((w.setCell ⟨G, 0, none⟩ x).setCell ⟨G, 1, none⟩ y).setCell ⟨G, 2, none⟩ z).heap[q]? = _
    rw [Below.heap_setCell _ _ _ _ (show q ≠ G from hq), Below.heap_setCell _ _ _ _ (show q ≠ G from hq), Below.heap_setCell _ _ _ _ (show q ≠ G from hq)]
/-- The three lists of the law's own, with their box. -/
structure NvJ (w7 : World) (G B0 B1 B2 L0 L1 L2 : Nat) (x0 x1 x2 : List Int) (wx : World) : Prop where
  bel : Below w7.heap.size w7 wx
  bx : BxN wx G (some ⟨B0, 0, none⟩) L0 L0 (some ⟨B1, 0, none⟩) L1 L1 (some ⟨B2, 0, none⟩) L2 L2
  k0 : BlkI wx B0 x0
  k1 : BlkI wx B1 x1
  k2 : BlkI wx B2 x2
  n01 : B0 ≠ B1
  n02 : B0 ≠ B2
  n12 : B1 ≠ B2
  g0 : w7.heap.size ≤ B0
  g1 : w7.heap.size ≤ B1
  g2 : w7.heap.size ≤ B2
section
variable {w7 wx wy : World} {G B0 B1 B2 L0 L1 L2 : Nat} {x0 x1 x2 : List Int}
theorem NvJ.to (h : NvJ w7 G B0 B1 B2 L0 L1 L2 x0 x1 x2 wx) (hb : Below wx.heap.size wx wy) : NvJ w7 G B0 B1 B2 L0 L1 L2 x0 x1 x2 wy :=
  ⟨below_next h.bel hb, h.bx.below hb, h.k0.to hb, h.k1.to hb, h.k2.to hb, h.n01, h.n02, h.n12, h.g0, h.g1, h.g2⟩
theorem NvJ.set0 (h : NvJ w7 G B0 B1 B2 L0 L1 L2 x0 x1 x2 wx) (k : Nat) (z : Int) : NvJ w7 G B0 B1 B2 L0 L1 L2 (x0.set k z) x1 x2 (wx.setCell ⟨B0, k, none⟩ (.int .i64 z)) :=
  ⟨h.bel.setCell (p := ⟨B0, k, none⟩) h.g0 _, h.bx.far (h.bx.ne h.k0) _, h.k0.set_ k z, h.k1.far (Ne.symm h.n01) _, h.k2.far (Ne.symm h.n02) _, h.n01, h.n02, h.n12, h.g0, h.g1, h.g2⟩
theorem NvJ.set1 (h : NvJ w7 G B0 B1 B2 L0 L1 L2 x0 x1 x2 wx) (k : Nat) (z : Int) : NvJ w7 G B0 B1 B2 L0 L1 L2 x0 (x1.set k z) x2 (wx.setCell ⟨B1, k, none⟩ (.int .i64 z)) :=
  ⟨h.bel.setCell (p := ⟨B1, k, none⟩) h.g1 _, h.bx.far (h.bx.ne h.k1) _, h.k0.far h.n01 _, h.k1.set_ k z, h.k2.far (Ne.symm h.n12) _, h.n01, h.n02, h.n12, h.g0, h.g1, h.g2⟩
theorem NvJ.set2 (h : NvJ w7 G B0 B1 B2 L0 L1 L2 x0 x1 x2 wx) (k : Nat) (z : Int) : NvJ w7 G B0 B1 B2 L0 L1 L2 x0 x1 (x2.set k z) (wx.setCell ⟨B2, k, none⟩ (.int .i64 z)) :=
  ⟨h.bel.setCell (p := ⟨B2, k, none⟩) h.g2 _, h.bx.far (h.bx.ne h.k2) _, h.k0.far h.n02 _, h.k1.far h.n12 _, h.k2.set_ k z, h.n01, h.n02, h.n12, h.g0, h.g1, h.g2⟩
end
/-! ### The kinds of operations of a region that makes three lists and their box -/
section
variable {W : World} {ds : List (Option Tmp)} {T0 : Tmp → Value} {Ts : List TypeId} {KS : List (NK Ts)} {i : Nat} {o : Oper} {t : Tmp}
theorem bop_const {P : Program} {x : Value} (hg : o.guard = none) (hd : o.dst = some t) (hK : KS[i]? = some (.hop (kx x))) (h : ∀ (a : Act) (w : World) (adr : Nat → Nat), Below W.heap.size W w → (∀ t, ds.contains (some t) = false → a.tmps.getD t undef = T0 t) → DepX W ds KS o a.tmps w adr → yieldsM P o a w fun v w' => v = x ∧ w' = w) : Bop P W ds T0 KS i o := by
  refine ⟨hg, ?_⟩
  rw [hK]
  intro a w adr hC hf hD
  refine yieldsM_mono (h a w adr hC hf hD) fun v w' hv => ?_
  obtain ⟨rfl, rfl⟩ := hv
  refine ⟨?_, Below.refl _ _⟩
  unfold norm
  rw [hd]
  rfl
set_option maxRecDepth 100000 in
theorem bopN_field {s g k : Nat} (h : o.op = .fieldAddr 68 (.tmp s) k) (hk : k < 3) (hg : o.guard = none) (hd : o.dst = some t) (hs : ds.contains (some s) = false) (hT : T0 s = .pointer (some ⟨g, 0, none⟩)) (hK : KS[i]? = some (.hop (kx (.pointer (some ⟨g, k, none⟩))))) : Bop Try.prog W ds T0 KS i o :=
  bop_const hg hd hK fun a w adr hC hf hD => by
    have h1 : a.tmps.getD s undef = .pointer (some ⟨g, 0, none⟩) := (hf s hs).trans hT
    obtain ⟨dst, op, type, pos, after, guard⟩ := o
    simp only at h
    subst h
    have h2 : a.tmps[s]?.getD undef = .pointer (some ⟨g, 0, none⟩) := by simpa using h1
    have hk3 : k = 0 ∨ k = 1 ∨ k = 2 := by omega
    unfold yieldsM
    rcases hk3 with rfl | rfl | rfl <;> simp [execOp, go_sem, h2]
theorem bop_loadL {s j g k n c : Nat} {A : Option Addr} (h : o.op = .load 30 (.tmp s)) (hg : o.guard = none) (hd : o.dst = some t) (hn : needK o j = true) (hj : ds[j]? = some (some s)) (hJ : KS[j]? = some (.hop (kx (.pointer (some ⟨g, k, none⟩))))) (hB : W.cell? ⟨g, k, none⟩ = some (.slice A n c)) (hgl : g < W.heap.size) (hK : KS[i]? = some (.hop (kx (.slice A n c)))) : Bop Try.prog W ds T0 KS i o :=
  bop_const hg hd hK fun a w adr hC hf hD => by
    have h1 : a.tmps.getD s undef = .pointer (some ⟨g, k, none⟩) := hD.at_ hn hJ hj
    have hc : w.cell? ⟨g, k, none⟩ = some (.slice A n c) := (hC.cell (p := ⟨g, k, none⟩) hgl).trans hB
    obtain ⟨dst, op, type, pos, after, guard⟩ := o
    simp only at h
    subst h
    have h2 : a.tmps[s]?.getD undef = .pointer (some ⟨g, k, none⟩) := by simpa using h1
    unfold yieldsM
    simp [execOp, go_sem, h2, hc]
theorem bop_len {s j n c : Nat} {A : Option Addr} (h : o.op = .call { callee := .builtin .len, args := #[.tmp s], argTypes := #[30] }) (hg : o.guard = none) (hd : o.dst = some t) (hn : needK o j = true) (hj : ds[j]? = some (some s)) (hJ : KS[j]? = some (.hop (kx (.slice A n c)))) (hK : KS[i]? = some (.hop (kx (.int .i64 n)))) : Bop Try.prog W ds T0 KS i o :=
  bop_const hg hd hK fun a w adr hC hf hD => by
    have h1 : a.tmps.getD s undef = .slice A n c := hD.at_ hn hJ hj
    obtain ⟨dst, op, type, pos, after, guard⟩ := o
    simp only at h
    subst h
    have h2 : a.tmps[s]?.getD undef = .slice A n c := by simpa using h1
    unfold yieldsM
    simp [go_sem, h2]
theorem bop_make {s j n : Nat} (h : o.op = .makeSlice 30 (.tmp s) (.tmp s)) (hg : o.guard = none) (hd : o.dst = some t) (hn : needK o j = true) (hj : ds[j]? = some (some s)) (hJ : KS[j]? = some (.hop (kx (.int .i64 n)))) (hn2 : n ≤ 65537) (hK : KS[i]? = some (.new (.cells (ints (List.replicate n 0)).toArray 3) (fun g => .slice (some ⟨g, 0, none⟩) n n) none)) : Bop Try.prog W ds T0 KS i o := by
  refine ⟨hg, ?_⟩
  rw [hK]
  intro a w adr hC hf hD
  refine yieldsM_mono (make_yields h (hD.at_ hn hJ hj) hn2) fun v w' hv => ?_
  obtain ⟨rfl, rfl⟩ := hv
  refine ⟨?_, rfl⟩
  unfold norm
  rw [hd]
/-- The three lists as one value. -/
def kN3 (W : World) (L0 L1 L2 : Nat) : KX [68] := ⟨fun v w => ∃ B0 B1 B2 : Nat, v = .agg #[.slice (some ⟨B0, 0, none⟩) L0 L0, .slice (some ⟨B1, 0, none⟩) L1 L1, .slice (some ⟨B2, 0, none⟩) L2 L2] ∧ BlkI w B0 (List.replicate L0 0) ∧ BlkI w B1 (List.replicate L1 0) ∧ BlkI w B2 (List.replicate L2 0) ∧ B0 ≠ B1 ∧ B0 ≠ B2 ∧ B1 ≠ B2 ∧ W.heap.size ≤ B0 ∧ W.heap.size ≤ B1 ∧ W.heap.size ≤ B2,
  fun v w w' h hR => by
    obtain ⟨B0, B1, B2, e, k0, k1, k2, h⟩ := h
    exact ⟨B0, B1, B2, e, RB.block hR k0 (by decide), RB.block hR k1 (by decide), RB.block hR k2 (by decide), h⟩⟩
theorem bop_build3 {KS : List (NK [68])} {s0 s1 s2 j0 j1 j2 L0 L1 L2 : Nat} (h : o.op = .build 68 #[(0, .tmp s0), (1, .tmp s1), (2, .tmp s2)]) (hg : o.guard = none) (hd : o.dst = some t) (hn0 : needK o j0 = true) (hn1 : needK o j1 = true) (hn2 : needK o j2 = true) (hj0 : ds[j0]? = some (some s0)) (hj1 : ds[j1]? = some (some s1)) (hj2 : ds[j2]? = some (some s2)) (h01 : j0 ≠ j1) (h02 : j0 ≠ j2) (h12 : j1 ≠ j2)
    (hJ0 : KS[j0]? = some (.new (.cells (ints (List.replicate L0 0)).toArray 3) (fun g => .slice (some ⟨g, 0, none⟩) L0 L0) none)) (hJ1 : KS[j1]? = some (.new (.cells (ints (List.replicate L1 0)).toArray 3) (fun g => .slice (some ⟨g, 0, none⟩) L1 L1) none)) (hJ2 : KS[j2]? = some (.new (.cells (ints (List.replicate L2 0)).toArray 3) (fun g => .slice (some ⟨g, 0, none⟩) L2 L2) none)) (hK : KS[i]? = some (.hop (kN3 W L0 L1 L2))) : Bop Try.prog W ds T0 KS i o := by
  refine ⟨hg, ?_⟩
  rw [hK]
  intro a w adr hC hf hD
  obtain ⟨a1, a2, _, a4⟩ := hD.new_at hn0 hJ0 hj0
  obtain ⟨b1, b2, _, b4⟩ := hD.new_at hn1 hJ1 hj1
  obtain ⟨c1, c2, _, c4⟩ := hD.new_at hn2 hJ2 hj2
  have n01 := hD.inj j0 j1 _ _ _ _ _ _ hn0 hn1 hJ0 hJ1 h01
  have n02 := hD.inj j0 j2 _ _ _ _ _ _ hn0 hn2 hJ0 hJ2 h02
  have n12 := hD.inj j1 j2 _ _ _ _ _ _ hn1 hn2 hJ1 hJ2 h12
  obtain ⟨dst, op, type, pos, after, guard⟩ := o
  simp only at h hd
  subst h hd
  have a1' : a.tmps[s0]?.getD undef = .slice (some ⟨adr j0, 0, none⟩) L0 L0 := by simpa using a1
  have b1' : a.tmps[s1]?.getD undef = .slice (some ⟨adr j1, 0, none⟩) L1 L1 := by simpa using b1
  have c1' : a.tmps[s2]?.getD undef = .slice (some ⟨adr j2, 0, none⟩) L2 L2 := by simpa using c1
  unfold yieldsM
  simp [execOp, go_sem, a1', b1', c1']
  exact ⟨⟨adr j0, adr j1, adr j2, rfl, a4 rfl, b4 rfl, c4 rfl, n01, n02, n12, a2, b2, c2⟩, Below.refl _ _⟩
theorem bopN_alloc {s : Nat} (h : o.op = .alloc 68) (hg : o.guard = none) (hd : o.dst = some t) (hK : KS[i]? = some (.new (.cells #[.slice none 0 0, .slice none 0 0, .slice none 0 0] 68) (fun g => .pointer (some ⟨g, 0, none⟩)) (some s))) : Bop Try.prog W ds T0 KS i o := by
  refine ⟨hg, ?_⟩
  rw [hK]
  intro a w adr hC hf hD
  obtain ⟨dst, op, type, pos, after, guard⟩ := o
  simp only at h hd
  subst h hd
  unfold yieldsM
  simp [execOp, go_sem, norm]
def aggC (v : Value) : Array Value := match v with
  | .agg a => a
  | _ => #[]
theorem bopN_store {KS : List (NK [68])} {s u j k L0 L1 L2 : Nat} (h : o.op = .store 68 (.tmp s) (.tmp u)) (hg : o.guard = none) (hd : o.dst = none) (hn : needK o j = true) (hn2 : needK o k = true) (hj : ds[j]? = some (some s)) (hk : ds[k]? = some (some u)) (hJ : KS[j]? = some (.new (.cells #[.slice none 0 0, .slice none 0 0, .slice none 0 0] 68) (fun g => .pointer (some ⟨g, 0, none⟩)) (some i))) (hJ2 : KS[k]? = some (.hop (kN3 W L0 L1 L2))) (hK : KS[i]? = some (.st j k 68 aggC)) : Bop Try.prog W ds T0 KS i o := by
  refine ⟨hg, ?_⟩
  rw [hK]
  refine ⟨hd, _, _, _, hJ, hJ2, by decide, hn, hn2, fun a w G hC h1 hG hc h2 => ?_⟩
  have e1 : a.tmps.getD s undef = .pointer (some ⟨G, 0, none⟩) := by
    unfold dv at h1
    rw [hj] at h1
    exact h1
  obtain ⟨B0, B1, B2, e2, _⟩ := h2
  have e3 : a.tmps.getD u undef = .agg #[.slice (some ⟨B0, 0, none⟩) L0 L0, .slice (some ⟨B1, 0, none⟩) L1 L1, .slice (some ⟨B2, 0, none⟩) L2 L2] := by
    unfold dv at e2
    rw [hk] at e2
    exact e2
  refine yieldsM_mono (storeN_yields h e1 e3 hc) fun v w' hv => ?_
  obtain ⟨rfl, rfl⟩ := hv
  obtain ⟨x1, x2, x3⟩ := set3_block (x := .slice (some ⟨B0, 0, none⟩) L0 L0) (y := .slice (some ⟨B1, 0, none⟩) L1 L1) (z := .slice (some ⟨B2, 0, none⟩) L2 L2) hc
  exact ⟨below_set3' hC hG _ _ _, x2, by rw [e2]; exact x1, x3⟩
end
end Go.Proofs.Ytgafpmgdpigliaa
