/-
  Words for memory that the walks share: lists that are built, blocks that are known whole, lists of lists; the reference's Compare and Same. No statement is proved here.
-/
import Derived.Test.YtnhibkkkpmaddaaDoorC1
import Derived.Test.YtnhibkkkpmaddaaDoorMath
import Derived.Maps.AppendAt
import Derived.RegionTactic
import Derived.Deep.OwnRows
import Derived.Laws.CopyOwn
import Derived.Lib.SmallJoins
import Derived.Deep.RegionWith
namespace Go.Proofs.YtnhibkkkpmaddaaDoor
open Go.RowKit

theorem int_info : (Tryd.prog.info? 3).map (fun i => (i.zero, i.size, i.bytes)) = some (some (.int .i64 0), 1, 8) := by kernel_rfl

/-- What a function that builds a list hands back. -/
def Built (w : World) (zs : List Int) (e : Ending) (w' : World) : Prop := ∃ A c, e = .returned (.slice A zs.length c) ∧ Rd w' A zs ∧ zs.length ≤ c ∧ Below w.heap.size w w'

theorem Built.of_own {w w' : World} {v : Value} {base n : Nat} {zs : List Int} (h : w'.ownsRow base 3 1 v n (ints zs)) (hb : Below w.heap.size w w') : Built w zs (.returned v) w' := by
  have hn : zs.length = n := by have := h.1; rw [ints_len] at this; omega
  subst hn
  rcases h.2 with ⟨rfl, h0⟩ | ⟨g, cap, cur, rfl, _, _, hc, _⟩
  · exact ⟨none, 0, by rw [h0], fun hp => absurd hp (by omega), by omega, hb⟩
  · exact ⟨_, _, rfl, Rd.of_own h, hc, hb⟩

theorem own_step {w wr w1 : World} {B : Nat} {v v1 : Value} {k : Nat} {xs : List Int} {z : Int} {o : Obj} (hbr : Below B w wr) (hB : B ≤ wr.heap.size) (hown : wr.ownsRow B 3 1 v k (ints xs))
    (h1 : w1.ownsRow B 3 1 v1 (k + 1) (ints xs ++ [.int .i64 z])) (hg : (wr.alloc o).grownBy w1 v.ownBlock) :
    w1.ownsRow B 3 1 v1 (k + 1) (ints (xs ++ [z])) ∧ Below B w w1 :=
  ⟨by rw [← ints_snoc]; exact h1, (hbr.alloc hB o).grown hg (by simp; omega) (fun j hj => (hown.lt j hj).1)⟩

/-- A list in new memory, without spare capacity. -/
def Exact (w : World) (zs : List Int) (e : Ending) (w' : World) : Prop := ∃ A, e = .returned (.slice A zs.length zs.length) ∧ Rd w' A zs ∧ Below w.heap.size w w'
/-- The same with an error beside it. -/
def Made (w : World) (zs : List Int) (f : Int) (e : Ending) (w' : World) : Prop := ∃ A, e = .returned (.tuple #[.slice A zs.length zs.length, .int .i64 f]) ∧ Rd w' A zs ∧ Below w.heap.size w w'

/-- Block g is known whole: the ints cs. -/
def Blk (w : World) (g : Nat) (cs : List Int) : Prop := w.heap[g]? = some (.cells (ints cs).toArray 3 (0, 0))
section
variable {w w' : World} {g : Nat} {cs : List Int}
theorem Blk.lt (h : Blk w g cs) : g < w.heap.size := by
  rcases Nat.lt_or_ge g w.heap.size with hlt | hge
  · exact hlt
  · unfold Blk at h; rw [Array.getElem?_eq_none hge] at h; cases h
theorem Blk.cell (h : Blk w g cs) {k : Nat} (hk : k < cs.length) : w.cell? ⟨g, k, none⟩ = some (.int .i64 (cs[k]?.getD 0)) := by
  rw [cell_of_row w g k _ 3 (0, 0) h]
  simpa using ints_at hk
theorem Blk.at_ (h : Blk w g cs) {k : Nat} (hk : k < cs.length) : ∃ z, w.cell? ⟨g, k, none⟩ = some (.int .i64 z) ∧ w.frozen? ⟨g, k, none⟩ = false ∧ Hid (cs[k]?.getD 0 = z) := by
  refine ⟨_, h.cell hk, ?_, rfl⟩
  unfold Blk at h
  simp [World.frozen?, h]
theorem Blk.set_ (h : Blk w g cs) (k : Nat) (v : Int) : Blk (w.setCell ⟨g, k, none⟩ (.int .i64 v)) g (cs.set k v) := by
  unfold Blk at h ⊢
  simp [World.setCell, Array.getElem?_modify, h, ints, List.map_set]
theorem Blk.drewN (h : Blk w g cs) (n : Nat) : Blk (w.drewN n) g cs := h
theorem Blk.below {B : Nat} (h : Blk w g cs) (hb : Below B w w') (hg : g < B) : Blk w' g cs := (hb.block g hg).trans h
theorem Blk.rd (h : Blk w g cs) : Rd w (some ⟨g, 0, none⟩) cs := Rd.of_block h
end

/-- make([]int, n): a block of zeros. -/
theorem wpList_make_ints (w : World) {ops : Array Oper} {rest : List Oper} {o : Oper} {a : Act} {Q : Exit → Act → World → Prop}
    (hg : o.guard = none) (l c : Operand) (hop : o.op = Op.makeSlice 22 l c) (L : Int) (n : Nat) (hl : a.eval l = .int .i64 L) (hc : a.eval c = .int .i64 L) (hL : L = (n : Int)) (hn : n ≤ 65537)
    (hK : ∀ w', Hid (Blk w' w.heap.size (List.replicate n 0)) → Below w.heap.size w w' → wpList Tryd.prog ops Q rest (a.put o.dst (.slice (some ⟨w.heap.size, 0, none⟩) n n)) w') :
    wpList Tryd.prog ops Q (o :: rest) a w := by
  subst hL
  refine wpList_plain hg fun K hK' => ?_
  have hrun := run_make_row' (P := Tryd.prog) 22 3 (.int .i64 0) 8 Tryd.underlying22 int_info rfl .i64 .i64 n (by omega) (by omega) w
  unfold Oper.wp
  simp [execOp, hop, hl, hc, hrun, Result.andThen]
  refine hK' _ _ (hK _ ?_ ((Below.refl _ _).alloc (Nat.le_refl _) _))
  show _ = _
  rw [heap_alloc_new]
  have e := toList_madeCells_one (.int .i64 0) n
  have e2 : madeCells #[.int .i64 0] n = (ints (List.replicate n 0)).toArray := by
    rw [← Array.toList_inj, e]
    simp [ints]
  rw [e2]

def rowL (rows : List (List Int)) (k : Nat) : List Int := rows[k]?.getD []
/-- A slice value over address L reads as a list of lists. -/
def RdS (w : World) (L : Option Addr) (rows : List (List Int)) : Prop :=
  0 < rows.length → ∃ b off, L = some ⟨b, off, none⟩ ∧ b < w.heap.size ∧ ∀ k, k < rows.length → ∃ A c, w.cell? ⟨b, off + k, none⟩ = some (.slice A (rowL rows k).length c) ∧ Rd w A (rowL rows k)
theorem RdS.below {w w' : World} {L : Option Addr} {rows : List (List Int)} (h : RdS w L rows) (hb : Below w.heap.size w w') : RdS w' L rows := fun hp => by
  obtain ⟨b, off, e, hl, hc⟩ := h hp
  refine ⟨b, off, e, by have := hb.size; omega, fun k hk => ?_⟩
  obtain ⟨A, c, h1, h2⟩ := hc k hk
  exact ⟨A, c, ((bcell hb).1 _ _ hl).trans h1, h2.below hb⟩
theorem RdS.at_ {w : World} {L : Option Addr} {rows : List (List Int)} (h : RdS w L rows) {k : Nat} (hk : k < rows.length) : ∃ b off A c m, L = some ⟨b, off, none⟩ ∧ b < w.heap.size ∧ w.cell? ⟨b, off + k, none⟩ = some (.slice A m c) ∧ Rd w A (rowL rows k) ∧ Hid ((rowL rows k).length = m) := by
  obtain ⟨b, off, e, hl, hc⟩ := h (by omega)
  obtain ⟨A, c, h1, h2⟩ := hc k hk
  exact ⟨b, off, A, c, _, e, hl, h1, h2, rfl⟩
theorem Made.mk {w w' : World} {zs xs : List Int} {f g : Int} {A : Option Addr} {m : Nat} (h1 : xs = zs) (h2 : g = f) (hm : zs.length = m) (hr : Rd w' A zs) (hb : Below w.heap.size w w') : Made w xs g (.returned (.tuple #[.slice A m m, .int .i64 f])) w' := by
  subst h1 h2 hm
  exact ⟨A, rfl, hr, hb⟩

theorem str_info : (Tryd.prog.info? 9).map (fun i => (i.zero, i.size, i.bytes)) = some (some (.string ⟨#[]⟩), 1, 16) := by kernel_rfl
/-- Block g is known whole: the strings ss. -/
def BlkS (w : World) (g : Nat) (ss : List ByteArray) : Prop := w.heap[g]? = some (.cells (ss.map Value.string).toArray 9 (0, 0))
section
variable {w w' : World} {g : Nat} {ss : List ByteArray}
theorem BlkS.lt (h : BlkS w g ss) : g < w.heap.size := by
  rcases Nat.lt_or_ge g w.heap.size with hlt | hge
  · exact hlt
  · unfold BlkS at h; rw [Array.getElem?_eq_none hge] at h; cases h
theorem BlkS.cell (h : BlkS w g ss) (k : Nat) (x : ByteArray) (hx : ss[k]? = some x) : w.cell? ⟨g, 0 + k, none⟩ = some (.string x) := by
  rw [cell_of_row w g (0 + k) _ 9 (0, 0) h, Nat.zero_add]
  simp [hx]
theorem BlkS.at_ (h : BlkS w g ss) {k : Nat} (hk : k < ss.length) : ∃ x, w.cell? ⟨g, k, none⟩ = some (.string x) ∧ w.frozen? ⟨g, k, none⟩ = false ∧ Hid (ss[k]? = some x) := by
  have e := List.getElem?_eq_getElem hk
  refine ⟨ss[k], ?_, ?_, e⟩
  · have := h.cell k _ e
    rwa [Nat.zero_add] at this
  · unfold BlkS at h
    simp [World.frozen?, h]
theorem BlkS.set_ (h : BlkS w g ss) (k : Nat) (v : ByteArray) : BlkS (w.setCell ⟨g, k, none⟩ (.string v)) g (ss.set k v) := by
  unfold BlkS at h ⊢
  simp [World.setCell, Array.getElem?_modify, h, List.map_set]
theorem BlkS.far (h : BlkS w g ss) {g2 : Nat} (hg : g ≠ g2) (k : Nat) (u : Value) : BlkS (w.setCell ⟨g2, k, none⟩ u) g ss := (Below.heap_setCell w ⟨g2, k, none⟩ u g hg).trans h
theorem BlkS.below {B : Nat} (h : BlkS w g ss) (hb : Below B w w') (hg : g < B) : BlkS w' g ss := (hb.block g hg).trans h
end
/-- make([]string, n): a block of empty strings. -/
theorem wpList_make_strs (w : World) {ops : Array Oper} {rest : List Oper} {o : Oper} {a : Act} {Q : Exit → Act → World → Prop}
    (hg : o.guard = none) (l c : Operand) (hop : o.op = Op.makeSlice 60 l c) (L : Int) (n : Nat) (hl : a.eval l = .int .i64 L) (hc : a.eval c = .int .i64 L) (hL : L = (n : Int)) (hn : n ≤ 1000000)
    (hK : ∀ w', Hid (BlkS w' w.heap.size (List.replicate n ⟨#[]⟩)) → Below w.heap.size w w' → wpList Tryd.prog ops Q rest (a.put o.dst (.slice (some ⟨w.heap.size, 0, none⟩) n n)) w') :
    wpList Tryd.prog ops Q (o :: rest) a w := by
  subst hL
  refine wpList_plain hg fun K hK' => ?_
  have hrun := run_make_row' (P := Tryd.prog) 60 9 (.string ⟨#[]⟩) 16 Tryd.underlying60 str_info rfl .i64 .i64 n (by omega) (by omega) w
  unfold Oper.wp
  simp [execOp, hop, hl, hc, hrun, Result.andThen]
  refine hK' _ _ (hK _ ?_ ((Below.refl _ _).alloc (Nat.le_refl _) _))
  show _ = _
  rw [heap_alloc_new]
  have e := toList_madeCells_one (.string ⟨#[]⟩) n
  have e2 : madeCells #[.string ⟨#[]⟩] n = ((List.replicate n (⟨#[]⟩ : ByteArray)).map Value.string).toArray := by
    rw [← Array.toList_inj, e]
    simp
  rw [e2]

set_option maxHeartbeats 400000 in
theorem rcmp_loop (A B : Option Addr) (c d : Nat) (x y : List Int) (w : World) (hx : Rd w A x) (hy : Rd w B y) (h1 : x.length = y.length) (hm : x.length ≤ 9223372036854775807) :
    Calls Tryd.prog 39 #[.slice A x.length c, .slice B y.length d] w fun e w' => e = .returned (.int .i64 (M.cmp x y)) ∧ Below w.heap.size w w' := by
  have H1 := Lib.hid h1
  have h2 : ¬ (x.length : Int) < y.length := by omega
  have h3 : ¬ (y.length : Int) < x.length := by omega
  clear h1
  go_enter Tryd.func39, Tryd.ntmps39
  go_wp2
  go_loopw [5] (fun i wr => ∃ k : Nat, k ≤ x.length ∧ i = .int .i64 k ∧ Hid (x.take k = y.take k) ∧ Below w.heap.size w wr) (fun i _ => x.length - (intOf i).toNat)
  case atStart => exact ⟨0, Nat.zero_le _, rfl, by simp [Hid], Below.refl _ _⟩
  case round =>
    obtain ⟨k, hk, rfl, hn, hbr⟩ := hrel
    by_cases hlt : k < x.length
    · obtain ⟨b, off, z, rfl, hb, hc, hz⟩ := (hx.below hbr).at_ hlt
      obtain ⟨b2, off2, z2, rfl, hb2, hc2, hz2⟩ := (hy.below hbr).at_ (k := k) (by have := H1.out; omega)
      have hk2 : (k : Int) < y.length := by have := H1.out; omega
      rcases Int.lt_trichotomy z z2 with hzz | hzz | hzz
      · have hfin : Hid (M.cmp x y = -1) := M.cmp_lt H1.out hlt hn.out (by rw [hz.out, hz2.out]; exact hzz)
        go_wp2
        go_quiet (fail)
        go_wp2
        go_ret
        exact ⟨ret_int hfin.out.symm, below_drewN' hbr _⟩
      · subst hzz
        have hn' : Hid (x.take (k + 1) = y.take (k + 1)) := M.take_snoc_eq hlt (by omega) hn.out (by rw [hz.out, hz2.out])
        go_wp2
        go_quiet (fail)
        go_wp2
        go_quiet (fail)
        go_wp2
        go_roundw
        case rel => exact ⟨k + 1, by omega, by go_num, hn', below_drewN' hbr _⟩
        case measure => simp [intOf]; omega
      · have hfin : Hid (M.cmp x y = 1) := M.cmp_gt H1.out hlt hn.out (by rw [hz.out, hz2.out]; exact hzz)
        go_wp2
        go_quiet (fail)
        go_wp2
        go_quiet (fail)
        go_wp2
        go_ret
        exact ⟨ret_int hfin.out.symm, below_drewN' (below_drewN' hbr _) _⟩
    · have hfin : Hid (M.cmp x y = 0) := M.cmp_end (by omega) (by have := H1.out; omega) hn.out
      go_wp2
      go_ret
      exact ⟨ret_int hfin.out.symm, hbr⟩

theorem rcmp_any (A B : Option Addr) (c d : Nat) (x y : List Int) (w : World) (hx : Rd w A x) (hy : Rd w B y) (hm : x.length ≤ 9223372036854775807) :
    Calls Tryd.prog 39 #[.slice A x.length c, .slice B y.length d] w fun e w' => e = .returned (.int .i64 (M.cmp x y)) ∧ Below w.heap.size w w' := by
  rcases Nat.lt_trichotomy x.length y.length with h | h | h
  · have hf : Hid (M.cmp x y = -1) := M.cmp_short h
    go_enter Tryd.func39, Tryd.ntmps39
    go_wp2
    go_ret
    exact ⟨ret_int hf.out.symm, Below.refl _ _⟩
  · exact rcmp_loop A B c d x y w hx hy h hm
  · have hf : Hid (M.cmp x y = 1) := M.cmp_long h
    go_enter Tryd.func39, Tryd.ntmps39
    go_wp2
    go_ret
    exact ⟨ret_int hf.out.symm, Below.refl _ _⟩

theorem same_any (A B : Option Addr) (c d : Nat) (x y : List Int) (w : World) (hx : Rd w A x) (hy : Rd w B y) (hm : x.length ≤ 9223372036854775807) :
    Calls Tryd.prog 30 #[.slice A x.length c, .slice B y.length d] w fun e w' => e = .returned (.bool (M.same x y)) ∧ Below w.heap.size w w' := by
  go_enter Tryd.func30, Tryd.ntmps30
  go_wp2_with fail
  refine (rcmp_any _ _ _ _ _ _ _ hx hy hm).mono ?_
  rintro e w1 ⟨rfl, hb1⟩
  go_wp2
  go_ret
  exact ⟨ret_bool M.same_def, hb1⟩

end Go.Proofs.YtnhibkkkpmaddaaDoor
