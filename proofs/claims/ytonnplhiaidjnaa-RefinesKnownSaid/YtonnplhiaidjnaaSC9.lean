/-
  Contracts: classes.links.
-/
import Derived.Test.YtonnplhiaidjnaaSC8
namespace Go.Proofs.Ytonnplhiaidjnaa
open Go.RowKit

/-- Block g is known whole: the pairs ps. -/
def BlkP (w : World) (g : Nat) (ps : List (Int × Int)) : Prop := w.heap[g]? = some (.cells (pcells ps).toArray 42 (0, 0))
theorem pcells_set : ∀ (ps : List (Int × Int)) (k : Nat) (x y : Int), k < ps.length → ((pcells ps).set (k * 2) (.int .i64 x)).set (k * 2 + 1) (.int .i64 y) = pcells (ps.set k (x, y))
  | [], k, x, y, h => absurd h (by simp)
  | z :: ps, 0, x, y, _ => by simp [pcells]
  | z :: ps, k + 1, x, y, h => by
    have ih := pcells_set ps k x y (by simpa using h)
    have e : ∀ q, pcells (z :: q) = .int .i64 z.1 :: .int .i64 z.2 :: pcells q := fun q => by simp [pcells]
    have e1 : (k + 1) * 2 = k * 2 + 1 + 1 := by omega
    rw [List.set_cons_succ, e, e, e1, List.set_cons_succ, List.set_cons_succ, List.set_cons_succ, List.set_cons_succ, ih]
section
variable {w w' : World} {g : Nat} {ps : List (Int × Int)}
theorem BlkP.lt (h : BlkP w g ps) : g < w.heap.size := by
  rcases Nat.lt_or_ge g w.heap.size with hlt | hge
  · exact hlt
  · unfold BlkP at h; rw [Array.getElem?_eq_none hge] at h; cases h
theorem BlkP.at_ (h : BlkP w g ps) {k : Nat} (hk : k < ps.length) : ∃ x y, w.cell? ⟨g, k * 2, none⟩ = some (.int .i64 x) ∧ w.cell? ⟨g, k * 2 + 1, none⟩ = some (.int .i64 y) ∧ w.frozen? ⟨g, k * 2, none⟩ = false ∧ w.frozen? ⟨g, k * 2 + 1, none⟩ = false := by
  obtain ⟨h1, h2⟩ := pcells_at ps k hk
  refine ⟨(ps[k]?.getD (0, 0)).1, (ps[k]?.getD (0, 0)).2, ?_, ?_, ?_, ?_⟩
  · rw [cell_of_row w g (k * 2) _ 42 (0, 0) h]; simpa using h1
  · rw [cell_of_row w g (k * 2 + 1) _ 42 (0, 0) h]; simpa using h2
  · unfold BlkP at h; simp [World.frozen?, h]
  · unfold BlkP at h; simp [World.frozen?, h]
theorem BlkP.set_ (h : BlkP w g ps) (k : Nat) (hk : k < ps.length) (x y : Int) : BlkP ((w.setCell ⟨g, k * 2, none⟩ (.int .i64 x)).setCell ⟨g, k * 2 + 1, none⟩ (.int .i64 y)) g (ps.set k (x, y)) := by
  unfold BlkP at h ⊢
  rw [← pcells_set ps k x y hk]
  simp [World.setCell, Array.getElem?_modify, h]
theorem BlkP.below {B : Nat} (h : BlkP w g ps) (hb : Below B w w') (hg : g < B) : BlkP w' g ps := (hb.block g hg).trans h
theorem BlkP.rd (h : BlkP w g ps) : RdQ w (some ⟨g, 0, none⟩) ps := fun _ => by
  refine ⟨g, 0, rfl, h.lt, fun k hk => ?_⟩
  obtain ⟨h1, h2⟩ := pcells_at ps k hk
  rw [Nat.zero_add]
  constructor
  · rw [cell_of_row w g (k * 2) _ 42 (0, 0) h]; simpa using h1
  · rw [cell_of_row w g (k * 2 + 1) _ 42 (0, 0) h]; simpa using h2
end
theorem grown_set1 (w : World) (g k : Nat) (u : Value) : w.grownBy (w.setCell ⟨g, k, none⟩ u) (some g) :=
  ⟨rfl, rfl, rfl, by simp, fun j _ hj => heap_setCell_other w ⟨g, k, none⟩ j u (fun e => hj (by simp [e]))⟩
theorem grown_set2 (w : World) (g k l : Nat) (u v : Value) : w.grownBy ((w.setCell ⟨g, k, none⟩ u).setCell ⟨g, l, none⟩ v) (some g) := (grown_set1 w g k u).trans (grown_set1 _ g l v)
theorem take_set_snoc {α : Type} (l : List α) (k : Nat) (x : α) (h : k < l.length) : (l.set k x).take (k + 1) = l.take k ++ [x] := by
  rw [List.take_add_one, List.getElem?_set_self h, List.take_set]
  congr 1
  exact List.set_eq_of_length_le (by rw [List.length_take]; omega)
theorem pcells_zero : ∀ n, pcells (List.replicate n (0, 0)) = List.replicate (n * 2) (.int .i64 0)
  | 0 => rfl
  | n + 1 => by
    have ih := pcells_zero n
    have e1 : (n + 1) * 2 = n * 2 + 1 + 1 := by omega
    rw [List.replicate_succ, e1, List.replicate_succ, List.replicate_succ, ← ih]
    simp [pcells]
theorem made_pairs (n : Nat) : madeCells #[.int .i64 0, .int .i64 0] (n * 2) = (pcells (List.replicate n (0, 0))).toArray := by
  rw [pcells_zero]
  apply Array.ext
  · simp [madeCells]
  · intro i h1 h2
    have : i % 2 = 0 ∨ i % 2 = 1 := by omega
    rcases this with h | h <;> simp [madeCells, h]
/-- make([][2]int, n): a block of zeros. -/
theorem wpList_make_pairs (w : World) {ops : Array Oper} {rest : List Oper} {o : Oper} {a : Act} {Q : Exit → Act → World → Prop}
    (hg : o.guard = none) (l c : Operand) (hop : o.op = Op.makeSlice 103 l c) (L : Int) (n : Nat) (hl : a.eval l = .int .i64 L) (hc : a.eval c = .int .i64 L) (hL : L = (n : Int)) (hn : n ≤ 65537)
    (hK : ∀ w', Hid (BlkP w' w.heap.size (List.replicate n (0, 0))) → Below w.heap.size w w' → wpList Try.prog ops Q rest (a.put o.dst (.slice (some ⟨w.heap.size, 0, none⟩) n n)) w') :
    wpList Try.prog ops Q (o :: rest) a w := by
  subst hL
  refine wpList_plain hg fun K hK' => ?_
  obtain ⟨i0, hi0, hz0, hz1, hz2⟩ := info_parts pair_info
  have hrun := run_make (P := Try.prog) w 103 42 i0 _ Try.underlying103 hi0 hz0 .i64 .i64 n n (by omega) (by omega) (by rw [hz2]; omega) (by omega)
  rw [hz1] at hrun
  have ec : (Value.agg #[.int .i64 0, .int .i64 0]).cells = #[.int .i64 0, .int .i64 0] := rfl
  rw [ec, Int.toNat_natCast, made_pairs] at hrun
  unfold Oper.wp
  simp [execOp, hop, hl, hc, hrun, Result.andThen]
  refine hK' _ _ (hK _ ?_ ((Below.refl _ _).alloc (Nat.le_refl _) _))
  show _ = _
  rw [heap_alloc_new]

theorem links_step {w wr w1 : World} {g m : Nat} {k : Int} {fs : List Int} {cur : List (Int × Int)} {A2 : Option Addr} {c2 : Nat} {v1 : Value} {o : Obj} (hbr : Below g w wr) (hsz : g + 1 ≤ wr.heap.size)
    (hown : wr.ownsRow (g + 1) 3 1 (.slice A2 m c2) m (ints fs)) (hB : BlkP wr g cur) (h1 : w1.ownsRow (g + 1) 3 1 v1 (m + 1) (ints fs ++ [.int .i64 k])) (hg : (wr.alloc o).grownBy w1 (Value.slice A2 m c2).ownBlock) :
    ∃ g3 c3, v1 = .slice (some ⟨g3, 0, none⟩) (m + 1) c3 ∧ g + 1 ≤ g3 ∧ w1.ownsRow (g + 1) 3 1 (.slice (some ⟨g3, 0, none⟩) (m + 1) c3) (m + 1) (ints (fs ++ [k])) ∧ BlkP w1 g cur ∧ Below g w w1 ∧ g + 1 ≤ w1.heap.size ∧ w1.cell? ⟨g3, m, none⟩ = some (.int .i64 k) := by
  have hl := own_len hown
  rw [ints_snoc] at h1
  obtain ⟨A3, c3, rfl, _, _⟩ := own_form h1
  obtain ⟨g3, rfl, hg3, _⟩ := own_pos h1 (by omega)
  have hs := hg.size
  simp at hs
  refine ⟨g3, c3, rfl, hg3, h1, ?_, (hbr.alloc (by omega) o).grown hg (by simp; omega) (fun j hj => by have := (hown.lt j hj).1; omega), by omega, ?_⟩
  · have hb : BlkP (wr.alloc o) g cur := ((Below.refl (g + 1) wr).alloc hsz o).block g (by omega) |>.trans hB
    refine (hg.block g (by have := hb.lt; omega) fun e => ?_).trans hb
    have := (hown.lt g e.symm).1
    omega
  · obtain ⟨z, hc, _, hz⟩ := own_cl h1 (k := m) (by omega)
    have : M.gz (fs ++ [k]) m = k := by rw [← hl]; exact M.gz_snoc
    rw [hc, ← hz.out, this]

set_option maxRecDepth 100000 in
set_option maxHeartbeats 1000000 in
theorem links_any (A : Option Addr) (c : Nat) (p : List Int) (w : World) (h : Rd w A p) (h1 : p.length ≤ 256) (hv : M.Vd p) :
    Calls Try.prog 61 #[.slice A p.length c] w fun e w' => ∃ g, e = .returned (.slice (some ⟨g, 0, none⟩) p.length p.length) ∧ RdQ w' (some ⟨g, 0, none⟩) (intP (M.lk p)) ∧ g < w'.heap.size ∧ Below w.heap.size w w' := by
  have HV := Lib.hid hv
  clear hv
  obtain ⟨i0, hi0, hz0, hz1, hz2⟩ := info_parts int_info
  go_enter Try.func61, Try.ntmps61
  go_wp2_with (refine wpList_make_pairs _ rfl _ _ rfl _ p.length rfl rfl rfl (by omega) ?_)
  intro w1 hB1 hb1
  go_wp2
  obtain ⟨g, hg⟩ : ∃ g, w.heap.size = g := ⟨_, rfl⟩
  have hgB : w.heap.size = g := hg
  rw [hg] at hB1 ⊢
  obtain ⟨cur0, hcur0⟩ : ∃ cur0 : List (Int × Int), List.replicate p.length ((0 : Int), (0 : Int)) = cur0 := ⟨_, rfl⟩
  rw [hcur0] at hB1
  go_loopw [3, 12] (fun v i wr => ∃ (k m : Nat) (fs : List Int) (cur : List (Int × Int)) (A2 : Option Addr) (c2 : Nat), k ≤ p.length ∧ i = .int .i64 k ∧ v = .slice A2 m c2 ∧ m ≤ k ∧ wr.ownsRow (g + 1) 3 1 (.slice A2 m c2) m (ints fs) ∧ Hid (M.Lk p k fs) ∧
    Hid (BlkP wr g cur) ∧ Hid (cur.length = p.length) ∧ Hid (cur.take k = intP (M.lkN p k)) ∧ Below g w wr ∧ g + 1 ≤ wr.heap.size) (fun _ i _ => p.length - (intOf i).toNat)
  case atStart => exact ⟨0, 0, [], cur0, none, 0, Nat.zero_le _, rfl, rfl, Nat.le_refl _, World.ownsRow_nil _ _ _ _, M.Lk.start _, hB1, by rw [Hid, ← hcur0]; simp, rfl, by rw [← hgB]; exact hb1, by have := hB1.out.lt; omega⟩
  case round =>
    clear hB1 hb1
    obtain ⟨k, m, fs, cur, A2, c2, hk, rfl, rfl, hm, hown, hL, hB, hcl, hct, hbr, hsz⟩ := hrel
    by_cases hlt : k < p.length
    · obtain ⟨b, off, rfl⟩ := h.opn (by omega)
      obtain ⟨z, hb, hc, hz⟩ := (h.below (by rw [hgB]; exact hbr)).cl hlt
      have hfl := own_len hown
      by_cases he : z = m
      · subst he
        have hL' : Hid (M.Lk p (k + 1) (fs ++ [(k : Int)])) := hL.out.new HV.out hlt (by rw [hz.out, hfl])
        have e2 := (hL'.out.got HV.out hlt).2
        rw [hz.out, Int.toNat_natCast] at e2
        have e3 : M.gz (fs ++ [(k : Int)]) m = k := by rw [← hfl]; exact M.gz_snoc
        have E3 := Lib.hid (e3.symm.trans e2)
        clear hL e2 e3
        go_wp2_with (at_builtin; refine wpList_append_own _ rfl _ _ 29 rfl (g + 1) 3 i0 (.int .i64 0) 1 8 Try.underlying29 hi0 hz0 hz1 hz2 rfl (by decide) _ _ _ rfl (hown.alloc _) ⟨wr.heap.size, 0, none⟩ 1 1 [.int .i64 k] rfl rfl (cell_one_new _ _ _) (by intro u hu; simp at hu; subst hu; rfl) (by unfold maxLen; omega) (by omega) (by simp; omega) ?_; intro v1 w1 hown1 hg1 _; obtain ⟨g3, c3, rfl, hg3, hown2, hB2, hbr2, hsz2, hcy⟩ := links_step hbr hsz hown hB.out hown1 hg1; obtain ⟨x1, x2, hx1, hx2, hx3, hx4⟩ := hB2.at_ (k := k) (by rw [hcl.out]; exact hlt))
        clear hown1 hg1 hown hB hbr hsz
        go_roundw
        case rel =>
          refine ⟨k + 1, m + 1, _, cur.set k (k, k), _, c3, by omega, by go_num, rfl, by omega, ?_, hL', hB2.set_ k (by rw [hcl.out]; exact hlt) k k, by rw [Hid, List.length_set]; exact hcl.out, ?_, (hbr2.setCell (Nat.le_refl _) _).setCell (Nat.le_refl _) _, by simpa using hsz2⟩
          · exact hown2.kept (grown_set2 _ _ _ _ _ _) (.inr (by intro e; injection e with e; simp at e; omega))
          · rw [Hid, M.lkN_succ, intP_snoc, ← hct.out, take_set_snoc _ _ _ (by rw [hcl.out]; exact hlt), hz.out, ← E3.out]
        case measure => simp [intOf] <;> omega
      · have hne : (z == (m : Int)) = false := by simpa using he
        have hL' : Hid (M.Lk p (k + 1) fs) := hL.out.old HV.out hlt (by rw [hz.out, hfl]; exact he)
        obtain ⟨e1, e2⟩ := hL'.out.got HV.out hlt
        rw [hz.out] at e1 e2
        have hz0 := (M.vd_gz HV.out hlt).1
        rw [hz.out] at hz0
        obtain ⟨u, rfl⟩ : ∃ u : Nat, z = u := ⟨z.toNat, by omega⟩
        rw [Int.toNat_natCast, hfl] at e1
        obtain ⟨g2, rfl, hg2, hgl⟩ := own_pos hown (by omega)
        obtain ⟨y, hcy, _, hy⟩ := own_cl hown e1
        obtain ⟨x1, x2, hx1, hx2, hx3, hx4⟩ := hB.out.at_ (k := k) (by rw [hcl.out]; exact hlt)
        clear hL
        go_wp2
        go_roundw
        case rel =>
          refine ⟨k + 1, m, fs, cur.set k (y, k), _, c2, by omega, by go_num, rfl, by omega, ?_, hL', hB.out.set_ k (by rw [hcl.out]; exact hlt) y k, by rw [Hid, List.length_set]; exact hcl.out, ?_, (hbr.setCell (Nat.le_refl _) _).setCell (Nat.le_refl _) _, by simpa using hsz⟩
          · exact hown.kept (grown_set2 _ _ _ _ _ _) (.inr (by intro e; injection e with e; simp at e; omega))
          · rw [Hid, M.lkN_succ, intP_snoc, ← hct.out, take_set_snoc _ _ _ (by rw [hcl.out]; exact hlt), hz.out, ← e2, Int.toNat_natCast, hy.out]
        case measure => simp [intOf] <;> omega
    · have : k = p.length := by omega
      subst this
      have hr := hB.out.rd
      have e : cur = intP (M.lk p) := by
        have := hct.out
        rw [List.take_of_length_le (by rw [hcl.out]; omega)] at this
        exact this
      rw [e] at hr
      go_wp2
      go_ret
      exact ⟨g, rfl, hr, by omega, by rw [hgB]; exact hbr⟩
end Go.Proofs.Ytonnplhiaidjnaa
