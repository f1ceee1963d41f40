/-
  Contracts: classes.Blocks.
-/
import Derived.Test.YtnhibkkkpmaddaaDoorC7
import Derived.Test.YtnhibkkkpmaddaaDoorClsT
import Derived.Laws.Tables
namespace Go.Proofs.YtnhibkkkpmaddaaDoor
open Go.RowKit

namespace M
/-- The numbers below k that are in a block. -/
def blkN (p : List Int) (b k : Nat) : List Int := (iota k).filter fun i => gz p i.toNat == (b : Int)
theorem blkN_done (p : List Int) (b : Nat) : blkN p b p.length = blk p b := rfl
theorem blkN_zero (p : List Int) (b : Nat) : blkN p b 0 = [] := rfl
theorem blkN_hit {p : List Int} {b k : Nat} (h : gz p k = b) : blkN p b (k + 1) = blkN p b k ++ [(k : Int)] := by
  unfold blkN
  rw [iota_snoc, List.filter_append]
  simp [h]
theorem blkN_miss {p : List Int} {b k : Nat} (h : ¬ gz p k = b) : blkN p b (k + 1) = blkN p b k := by
  unfold blkN
  rw [iota_snoc, List.filter_append]
  simp [h]
theorem blkN_up (p : List Int) (b k : Nat) : (blkN p b k).length ≤ (blkN p b (k + 1)).length := by
  by_cases h : gz p k = b
  · rw [blkN_hit h, List.length_append]; omega
  · rw [blkN_miss h]; exact Nat.le_refl _
theorem blkN_mono (p : List Int) (b : Nat) {k n : Nat} (h : k ≤ n) : (blkN p b k).length ≤ (blkN p b n).length := by
  induction n with
  | zero => have : k = 0 := by omega
            subst this; exact Nat.le_refl _
  | succ n ih =>
    rcases Nat.lt_or_ge n k with h1 | h1
    · have : k = n + 1 := by omega
      subst this; exact Nat.le_refl _
    · exact Nat.le_trans (ih h1) (blkN_up p b n)
theorem blkN_le (p : List Int) (b k : Nat) : (blkN p b k).length ≤ k := by
  have := List.length_filter_le (fun i => gz p i.toNat == (b : Int)) (iota k)
  rw [iota_len] at this
  exact this
end M

/-- Block G is known whole: m slices. -/
def Bs (w : World) (G m : Nat) (sv : Nat → Value) : Prop := w.heap[G]? = some (.cells ((List.range m).map sv).toArray 22 (0, 0))
section
variable {w w' : World} {G m : Nat} {sv : Nat → Value}
theorem Bs.lt (h : Bs w G m sv) : G < w.heap.size := by
  rcases Nat.lt_or_ge G w.heap.size with hlt | hge
  · exact hlt
  · unfold Bs at h; rw [Array.getElem?_eq_none hge] at h; cases h
theorem Bs.cell (h : Bs w G m sv) {b : Nat} (hb : b < m) : w.cell? ⟨G, b, none⟩ = some (sv b) := by
  rw [cell_of_row w G b _ 22 (0, 0) h]
  simp [hb]
theorem Bs.free (h : Bs w G m sv) (b : Nat) : w.frozen? ⟨G, b, none⟩ = false := by unfold Bs at h; simp [World.frozen?, h]
theorem Bs.set_ (h : Bs w G m sv) (b : Nat) (v : Value) : Bs (w.setCell ⟨G, b, none⟩ v) G m (fun i => if i = b then v else sv i) := by
  unfold Bs at h ⊢
  have e : ((List.range m).map fun i => if i = b then v else sv i) = ((List.range m).map sv).set b v := by
    apply List.ext_getElem?
    intro j
    rw [List.getElem?_set]
    simp only [List.getElem?_map, List.length_map, List.length_range]
    by_cases h1 : j < m
    · by_cases h2 : b = j
      · subst h2; simp [h1]
      · have h3 : ¬ j = b := fun e => h2 e.symm
        simp [h1, h2, h3]
    · by_cases h2 : b = j
      · subst h2; simp [h1]
      · simp [h1, h2]
  rw [e]
  simp [World.setCell, Array.getElem?_modify, h]
theorem Bs.kept {row : Option Nat} (h : Bs w G m sv) (hg : w.grownBy w' row) (hne : some G ≠ row) : Bs w' G m sv := (hg.block G h.lt hne).trans h
theorem Bs.congr {sv' : Nat → Value} (h : Bs w G m sv) (he : ∀ b, b < m → sv b = sv' b) : Bs w G m sv' := by
  unfold Bs at h ⊢
  rw [h]
  congr 3
  exact List.map_congr_left fun b hb => he b (List.mem_range.1 hb)
end
theorem slc_info : (Tryd.prog.info? 22).map (fun i => (i.zero, i.size, i.bytes)) = some (some (.slice none 0 0), 1, 24) := by kernel_rfl
/-- make([][]int, n): a block of nil slices. -/
theorem wpList_make_slcs (w : World) {ops : Array Oper} {rest : List Oper} {o : Oper} {a : Act} {Q : Exit → Act → World → Prop}
    (hg : o.guard = none) (l c : Operand) (hop : o.op = Op.makeSlice 28 l c) (L : Int) (n : Nat) (hl : a.eval l = .int .i64 L) (hc : a.eval c = .int .i64 L) (hL : L = (n : Int)) (hn : n ≤ 65537)
    (hK : ∀ w', Hid (Bs w' w.heap.size n (fun _ => .slice none 0 0)) → w.grownBy w' none → w'.heap.size = w.heap.size + 1 → wpList Tryd.prog ops Q rest (a.put o.dst (.slice (some ⟨w.heap.size, 0, none⟩) n n)) w') :
    wpList Tryd.prog ops Q (o :: rest) a w := by
  subst hL
  refine wpList_plain hg fun K hK' => ?_
  have hrun := run_make_row' (P := Tryd.prog) 28 22 (.slice none 0 0) 24 Tryd.underlying28 slc_info rfl .i64 .i64 n (by omega) (by omega) w
  unfold Oper.wp
  simp [execOp, hop, hl, hc, hrun, Result.andThen]
  refine hK' _ _ (hK _ ?_ (World.grownBy_alloc w _ none) (by simp))
  show _ = _
  rw [heap_alloc_new]
  have e := toList_madeCells_one (.slice none 0 0) n
  have e2 : madeCells #[.slice none 0 0] n = ((List.range n).map fun _ => Value.slice none 0 0).toArray := by
    rw [← Array.toList_inj, e]
    simp only [List.map_const', List.length_range]
  rw [e2]
/-- make([]int, 0, n): a row with room. -/
theorem wpList_make_cap (w : World) {ops : Array Oper} {rest : List Oper} {o : Oper} {a : Act} {Q : Exit → Act → World → Prop}
    (hg : o.guard = none) (l c : Operand) (hop : o.op = Op.makeSlice 22 l c) (n B : Nat) (hl : a.eval l = .int .i64 0) (hc : a.eval c = .int .i64 n) (hn : n ≤ 65537) (G : Nat) (hG : w.heap.size = G) (hB : B ≤ G)
    (hK : ∀ w', w'.ownsRow B 3 1 (.slice (some ⟨G, 0, none⟩) 0 n) 0 (ints []) → w.grownBy w' none → w'.heap.size = G + 1 → wpList Tryd.prog ops Q rest (a.put o.dst (.slice (some ⟨G, 0, none⟩) 0 n)) w') :
    wpList Tryd.prog ops Q (o :: rest) a w := by
  subst hG
  refine wpList_plain hg fun K hK' => ?_
  obtain ⟨i0, hi0, hz0, hz1, hz2⟩ := info_parts int_info
  have hrun := run_make (P := Tryd.prog) w 22 3 i0 _ Tryd.underlying22 hi0 hz0 .i64 .i64 0 n (by omega) (by omega) (by rw [hz2]; omega) (by omega)
  rw [hz1, Int.toNat_natCast, Nat.mul_one] at hrun
  unfold Oper.wp
  simp [execOp, hop, hl, hc, hrun, Result.andThen]
  refine hK' _ _ (hK _ ⟨rfl, .inr ⟨w.heap.size, n, _, rfl, hB, heap_alloc_new w _, Nat.zero_le _, by unfold maxLen; omega, ?_, by simp [ints]⟩⟩ (World.grownBy_alloc w _ none) (by simp))
  rw [size_madeCells, Nat.mul_one]
/-- append(s, z) where there is room. -/
theorem wpList_append_fits (w : World) {ops : Array Oper} {rest : List Oper} {o : Oper} {a : Act} {Q : Exit → Act → World → Prop} (hgd : o.guard = none) (s x : Operand)
    (ho : o.op = .call { callee := .builtin .append, args := #[s, x], argTypes := #[22, 22] }) (B g n cap : Nat) (xs : List Int) (hs : a.eval s = .slice (some ⟨g, 0, none⟩) n cap)
    (hown : w.ownsRow B 3 1 (.slice (some ⟨g, 0, none⟩) n cap) n (ints xs)) (ad : Addr) (z : Int) (hx : a.eval x = .slice (some ad) 1 1) (hz : w.cell? ad = some (.int .i64 z)) (hroom : n + 1 ≤ cap)
    (h : ∀ w', w'.ownsRow B 3 1 (.slice (some ⟨g, 0, none⟩) (n + 1) cap) (n + 1) (ints (xs ++ [z])) → w.grownBy w' (some g) → wpList Tryd.prog ops Q rest (a.put o.dst (.slice (some ⟨g, 0, none⟩) (n + 1) cap)) w') : wpList Tryd.prog ops Q (o :: rest) a w := by
  refine wpList_plain hgd fun K hK' => ?_
  obtain ⟨i0, hi0, hz0, hz1, hz2⟩ := info_parts int_info
  rcases hown.2 with ⟨h0, _⟩ | ⟨g', cap', cur, e, hB, hg, hnc, hcm, hcs, htake⟩
  · cases h0
  · simp only [Value.slice.injEq, Option.some.injEq, Addr.mk.injEq, and_true, true_and] at e
    obtain ⟨rfl, rfl⟩ := e
    have hrun := run_append_room (P := Tryd.prog) w 22 o.type 3 i0 Tryd.underlying22 hi0 g n cap cur hg ad 1 1 [.int .i64 z] (by rw [hz1]; rfl) (by
      intro j u hu
      match j, hu with
      | 0, hu => simp at hu; subst hu; obtain ⟨b, off, sp⟩ := ad; simpa [Addr.add] using hz) (by intro u hu; simp at hu; subst hu; rfl) hroom (by rw [hz1]; simp; omega)
    unfold Oper.wp
    simp [execOp, ho, resolve, invoke, builtin, hs, hx, hrun, Result.andThen]
    refine hK' _ _ (h _ ?_ ?_)
    · refine ⟨by rw [ints_len]; have := hown.1; rw [ints_len] at this; simp; omega, .inr ⟨g, cap, _, rfl, hB, setRow_heap w g cur _ 3 (0, 0) hg, hroom, hcm, ?_, ?_⟩⟩
      · rw [hz1]; simp; omega
      · rw [hz1]
        have hl : (ints xs).length = n := by have := hown.1; omega
        simp only [Nat.mul_one] at htake ⊢
        have e3 : ∀ d : List Value, ints xs ++ Value.int .i64 z :: d = (ints xs ++ [.int .i64 z]) ++ d := fun d => by simp
        rw [htake, ← ints_snoc]
        rw [e3, List.take_append_of_le_length (by simp [hl]), List.take_of_length_le (by simp [hl])]
    · exact ⟨rfl, rfl, rfl, by simp, fun k _ hk => setRow_other w g k _ (fun e => hk (by rw [e]))⟩

/-- A slice value over address L reads as a list of lists without spare room. -/
def RdX (w : World) (L : Option Addr) (m : Nat) (row : Nat → List Int) : Prop :=
  0 < m → ∃ b, L = some ⟨b, 0, none⟩ ∧ b < w.heap.size ∧ ∀ k, k < m → ∃ A, w.cell? ⟨b, k, none⟩ = some (.slice A (row k).length (row k).length) ∧ Rd w A (row k)
theorem RdX.below {w w' : World} {L : Option Addr} {m : Nat} {row : Nat → List Int} (h : RdX w L m row) (hb : Below w.heap.size w w') : RdX w' L m row := fun hp => by
  obtain ⟨b, e, hl, hc⟩ := h hp
  refine ⟨b, e, by have := hb.size; omega, fun k hk => ?_⟩
  obtain ⟨A, h1, h2⟩ := hc k hk
  exact ⟨A, ((bcell hb).1 _ _ hl).trans h1, h2.below hb⟩
/-- What Blocks hands back. -/
def Blks (w : World) (p : List Int) (e : Ending) (w' : World) : Prop :=
  if M.pck p = 0 then ∃ L, e = .returned (.tuple #[.slice L (M.cnt p) (M.cnt p), .int .i64 0]) ∧ RdX w' L (M.cnt p) (M.blk p) ∧ Below w.heap.size w w'
  else e = .returned (.tuple #[.slice none 0 0, .int .i64 (M.pck p)]) ∧ Below w.heap.size w w'

set_option maxRecDepth 100000 in
set_option maxHeartbeats 2000000 in
theorem blocks_in (A : Option Addr) (c : Nat) (p : List Int) (w : World) (h : Rd w A p) (h1 : p.length ≤ 256) (hv : M.Vd p) (m : Nat) (hm : M.cnt p = m) :
    Calls Tryd.prog 13 #[.slice A p.length c] w fun e w' => ∃ G, e = .returned (.tuple #[.slice (some ⟨G, 0, none⟩) m m, .int .i64 0]) ∧ RdX w' (some ⟨G, 0, none⟩) m (M.blk p) ∧ Below w.heap.size w w' := by
  have C1 := count_any A c p w h
  have hp0 : M.pck p = 0 := M.pck_ok (by omega) hv
  rw [M.cntV_ok hp0, hp0, hm] at C1
  have hm2 : m ≤ 256 := by have := M.cnt_le p; omega
  have HV := Lib.hid hv
  have HM := Lib.hid hm
  clear hv hp0 hm
  go_enter Tryd.func13, Tryd.ntmps13
  go_wp2_with fail
  refine C1.mono ?_
  rintro e w0 ⟨rfl, hb0⟩
  have hs0 := hb0.size
  go_wp2_with (refine wpList_make_ints _ rfl _ _ rfl _ m rfl rfl rfl (by omega) ?_)
  intro w1 hB1 hb1
  obtain ⟨g1, hg1⟩ : ∃ g1, Hid (w0.heap.size = g1) := ⟨_, rfl⟩
  have hown1 := hB1.out.own (B := w0.heap.size) (n := m) (Nat.le_refl _) (by simp) (by unfold maxLen; omega)
  have hbw1 : Below w.heap.size w w1 := hb0.trans (hb1.mono hs0)
  rw [hg1.out] at hown1 ⊢
  have hgB : w.heap.size ≤ g1 := by have := hg1.out; omega
  obtain ⟨cur0, hcur0⟩ : ∃ cur0, Hid (List.replicate m (0 : Int) = cur0) := ⟨_, rfl⟩
  rw [hcur0.out] at hown1
  have hz0 : Hid (∀ b, b < m → M.gz cur0 b = (M.blkN p b 0).length) := by
    intro b hb
    rw [← hcur0.out]
    simp [M.gz, hb, M.blkN_zero]
  clear hcur0 hB1 hb1 hs0 hb0 hg1
  go_wp2
  go_loopw [26] (fun i wr => ∃ (k : Nat) (cur : List Int), k ≤ p.length ∧ i = .int .i64 k ∧ wr.ownsRow g1 3 1 (.slice (some ⟨g1, 0, none⟩) m m) m (ints cur) ∧ Hid (∀ b, b < m → M.gz cur b = (M.blkN p b k).length) ∧ Below w.heap.size w wr) (fun i _ => p.length - (intOf i).toNat)
  case atStart => exact ⟨0, cur0, Nat.zero_le _, rfl, hown1, hz0, hbw1⟩
  case round =>
    clear hown1 hz0 hbw1
    obtain ⟨k, cur, hk, rfl, hown, hC, hbr⟩ := hrel
    by_cases hlt : k < p.length
    · obtain ⟨b, off, rfl⟩ := h.opn (by omega)
      obtain ⟨z, hb, hc, hz⟩ := (h.below hbr).cl hlt
      have hzb := HV.out.bound (M.gz_mem hlt)
      rw [hz.out, HM.out] at hzb
      obtain ⟨u, rfl⟩ : ∃ u : Nat, z = u := ⟨z.toNat, by omega⟩
      have hum : u < m := by omega
      obtain ⟨x, hcx, hfx, hx⟩ := own_cl hown hum
      have hx2 := hC.out u hum
      rw [hx.out] at hx2
      have hle := M.blkN_le p u k
      have hcl := own_len hown
      obtain ⟨n0, hn0⟩ : ∃ n0, Hid ((M.blkN p u k).length = n0) := ⟨_, rfl⟩
      rw [hn0.out] at hx2 hle
      subst hx2
      have hC' : Hid (∀ b, b < m → M.gz (cur.set u ((n0 : Int) + 1)) b = (M.blkN p b (k + 1)).length) := by
        intro b hb
        rw [M.gz_set (by omega)]
        by_cases e : b = u
        · subst e
          rw [if_pos rfl, M.blkN_hit hz.out, List.length_append, List.length_singleton]
          have := hn0.out
          omega
        · rw [if_neg e, M.blkN_miss (by rw [hz.out]; omega)]
          exact hC.out b hb
      clear hC
      go_wp2
      go_roundw
      case rel => exact ⟨k + 1, _, by omega, by go_num, own_set hown u _, hC', hbr.setCell hgB _⟩
      case measure => simp [intOf] <;> omega
    · have : k = p.length := by omega
      subst this
      go_wp2_with (refine wpList_make_slcs _ rfl _ _ rfl _ m rfl rfl rfl (by omega) ?_)
      intro w2 hB2 hg2 hs2
      obtain ⟨G, hG⟩ : ∃ G, Hid (wr.heap.size = G) := ⟨_, rfl⟩
      have hG1 : g1 < G := by have := (hown.lt g1 (by rfl)).2; have := hG.out; omega
      rw [hG.out] at hB2 hs2 ⊢
      have hown2 := hown.kept hg2 (.inr (by simp [Value.ownBlock]))
      have hbr2 : Below w.heap.size w w2 := hbr.grown hg2 hbr.size (fun j hj => by cases hj)
      have hC2 := hC
      have hcl := own_len hown
      clear hown hbr hg2 hG hC
      go_wp2
      go_loopw [41] (fun i wq => ∃ k : Nat, k ≤ m ∧ i = .int .i64 k ∧ wq.ownsRow g1 3 1 (.slice (some ⟨g1, 0, none⟩) m m) m (ints cur) ∧ Hid (Bs wq G m fun b => if b < k then .slice (some ⟨G + 1 + b, 0, none⟩) 0 (M.blk p b).length else .slice none 0 0) ∧
        Hid (∀ b, b < k → wq.ownsRow (G + 1) 3 1 (.slice (some ⟨G + 1 + b, 0, none⟩) 0 (M.blk p b).length) 0 (ints [])) ∧ wq.heap.size = G + 1 + k ∧ Below w.heap.size w wq) (fun i _ => m - (intOf i).toNat)
      case atStart => exact ⟨0, Nat.zero_le _, rfl, hown2, hB2.out.congr (fun b _ => by simp), (fun b hb => absurd hb (by omega)), hs2, hbr2⟩
      case round =>
        clear hown2 hbr2 hB2 hs2
        obtain ⟨k, hk, rfl, hown, hB, hR, hsz, hbr⟩ := hrel
        by_cases hkm : k < m
        · obtain ⟨x, hcx, _, hx⟩ := own_cl hown hkm
          have hx2 := hC2.out k hkm
          rw [hx.out, M.blkN_done] at hx2
          obtain ⟨n0, hn0⟩ : ∃ n0, Hid ((M.blk p k).length = n0) := ⟨_, rfl⟩
          rw [hn0.out] at hx2
          subst hx2
          have hle := M.blkN_le p k p.length
          rw [M.blkN_done, hn0.out] at hle
          go_wp2_with (refine wpList_make_cap _ rfl _ _ rfl n0 (G + 1) rfl rfl (by omega) (G + 1 + k) hsz (by omega) ?_; intro w3 hown3 hg3 hs3; have hB3 := hB.out.kept hg3 (by simp); have hcG := hB3.cell hkm; have hfG := hB3.free k)
          have hown3' := hown.kept hg3 (.inr (by simp [Value.ownBlock]))
          have hbr3 : Below w.heap.size w w3 := hbr.grown hg3 hbr.size (fun j hj => by cases hj)
          have hGs : ∀ (v : Value), w3.grownBy (w3.setCell ⟨G, k, none⟩ v) (some G) := fun v => ⟨rfl, rfl, rfl, by simp, fun j _ hj => heap_setCell_other w3 ⟨G, k, none⟩ j v (fun e => hj (by simp [e]))⟩
          go_roundw
          case rel =>
            refine ⟨k + 1, by omega, by go_num, hown3'.kept (hGs _) (.inr (by simp [Value.ownBlock]; omega)), ?_, ?_, ?_, hbr3.setCell (by simp; omega) _⟩
            · refine (hB3.set_ k _).congr fun b hb => ?_
              by_cases e : b = k
              · subst e
                rw [if_pos rfl, if_pos (by omega), hn0.out]
              · rw [if_neg e]
                by_cases e2 : b < k
                · rw [if_pos e2, if_pos (by omega)]
                · rw [if_neg e2, if_neg (by omega)]
            · intro b hb
              by_cases e : b = k
              · subst e
                rw [hn0.out]
                exact hown3.kept (hGs _) (.inr (by simp [Value.ownBlock]; omega))
              · exact ((hR.out b (by omega)).kept hg3 (.inr (by simp [Value.ownBlock]))).kept (hGs _) (.inr (by simp [Value.ownBlock]; omega))
            · simp; omega
          case measure => simp [intOf] <;> omega
        · have : k = m := by omega
          subst this
          have hB' : Hid (Bs wr G k fun b => .slice (some ⟨G + 1 + b, 0, none⟩) (M.blkN p b 0).length (M.blk p b).length) := hB.out.congr fun b hb => by rw [if_pos hb, M.blkN_zero]; rfl
          have hR' : Hid (∀ b, b < k → wr.ownsRow (G + 1) 3 1 (.slice (some ⟨G + 1 + b, 0, none⟩) (M.blkN p b 0).length (M.blk p b).length) (M.blkN p b 0).length (ints (M.blkN p b 0))) := fun b hb => hR.out b hb
          have hs' : G + 1 + k ≤ wr.heap.size := by omega
          clear hB hR hown hsz hC2 hcl
          go_wp2
          go_loopw [54] (fun i wq => ∃ s : Nat, s ≤ p.length ∧ i = .int .i64 s ∧ Hid (Bs wq G k fun b => .slice (some ⟨G + 1 + b, 0, none⟩) (M.blkN p b s).length (M.blk p b).length) ∧
            Hid (∀ b, b < k → wq.ownsRow (G + 1) 3 1 (.slice (some ⟨G + 1 + b, 0, none⟩) (M.blkN p b s).length (M.blk p b).length) (M.blkN p b s).length (ints (M.blkN p b s))) ∧ G + 1 + k ≤ wq.heap.size ∧ Below w.heap.size w wq) (fun i _ => p.length - (intOf i).toNat)
          case atStart => exact ⟨0, Nat.zero_le _, rfl, hB', hR', hs', hbr⟩
          case round =>
            clear hB' hR' hs' hbr
            obtain ⟨s, hs, rfl, hB, hR, hsz, hbr⟩ := hrel
            by_cases hlt : s < p.length
            · obtain ⟨b, off, rfl⟩ := h.opn (by omega)
              obtain ⟨z, hb, hc, hz⟩ := (h.below hbr).cl hlt
              have hzb := HV.out.bound (M.gz_mem hlt)
              rw [hz.out, HM.out] at hzb
              obtain ⟨u, rfl⟩ : ∃ u : Nat, z = u := ⟨z.toNat, by omega⟩
              have hum : u < k := by omega
              have hcu : wr.cell? ⟨G, u, none⟩ = some (.slice (some ⟨G + 1 + u, 0, none⟩) (M.blkN p u s).length (M.blk p u).length) := hB.out.cell hum
              have hroom := M.blkN_mono p u (show s + 1 ≤ p.length by omega)
              rw [M.blkN_done] at hroom
              have hhit := M.blkN_hit hz.out
              have hl2 : (M.blkN p u (s + 1)).length = (M.blkN p u s).length + 1 := by rw [hhit]; simp
              have hown := hR.out u hum
              obtain ⟨n1, hn1⟩ : ∃ n1, Hid ((M.blkN p u s).length = n1) := ⟨_, rfl⟩
              obtain ⟨n2, hn2⟩ : ∃ n2, Hid ((M.blk p u).length = n2) := ⟨_, rfl⟩
              obtain ⟨xs, hxs⟩ : ∃ xs, Hid (M.blkN p u s = xs) := ⟨_, rfl⟩
              rw [hn1.out, hn2.out] at hcu hown
              rw [hxs.out] at hown
              rw [hl2, hn1.out, hn2.out] at hroom
              have HH := Lib.hid hhit
              have HL := Lib.hid hl2
              clear hhit hl2
              go_wp2_with (at_builtin; refine wpList_append_fits _ rfl _ _ rfl (G + 1) (G + 1 + u) n1 n2 xs rfl (hown.alloc _) ⟨wr.heap.size, 0, none⟩ s rfl (by rw [World.cell?_alloc_at _ _ _ _ rfl]; rfl) hroom ?_; intro w3 hown3 hg3; have hB3 := (hB.out.kept (World.grownBy_alloc wr _ none) (by simp)).kept hg3 (by simp; omega); have hcG := hB3.cell hum; have hfG := hB3.free u)
              have hGs : ∀ (v : Value), w3.grownBy (w3.setCell ⟨G, u, none⟩ v) (some G) := fun v => ⟨rfl, rfl, rfl, by simp, fun j _ hj => heap_setCell_other w3 ⟨G, u, none⟩ j v (fun e => hj (by simp [e]))⟩
              have hbr3 : Below w.heap.size w w3 := (hbr.alloc hbr.size _).grown hg3 (by have := hbr.size; simp; omega) (fun j hj => by cases hj; omega)
              have hs3 := hg3.size
              go_roundw
              case rel =>
                refine ⟨s + 1, by omega, by go_num, ?_, ?_, by simp at hs3 ⊢; omega, hbr3.setCell (by simp; omega) _⟩
                · refine (hB3.set_ u _).congr fun b hb => ?_
                  by_cases e : b = u
                  · subst e
                    rw [if_pos rfl, HL.out, hn1.out, hn2.out]
                  · rw [if_neg e, M.blkN_miss (by rw [hz.out]; omega)]
                · intro b hb
                  by_cases e : b = u
                  · subst e
                    rw [HH.out, hxs.out, List.length_append, ← hxs.out, hn1.out, hn2.out, hxs.out]
                    exact hown3.kept (hGs _) (.inr (by simp [Value.ownBlock]; omega))
                  · rw [M.blkN_miss (by rw [hz.out]; omega)]
                    exact (((hR.out b hb).alloc _).kept hg3 (.inr (by simp [Value.ownBlock]; omega))).kept (hGs _) (.inr (by simp [Value.ownBlock]; omega))
              case measure => simp [intOf] <;> omega
            · have : s = p.length := by omega
              subst this
              go_wp2
              go_ret2
              refine ⟨G, rfl, fun _ => ⟨G, rfl, hB.out.lt, fun b hb => ⟨some ⟨G + 1 + b, 0, none⟩, hB.out.cell hb, ?_⟩⟩, hbr⟩
              exact Rd.of_own (hR.out b hb)

theorem blocks_any (A : Option Addr) (c : Nat) (p : List Int) (w : World) (h : Rd w A p) :
    Calls Tryd.prog 13 #[.slice A p.length c] w (Blks w p) := by
  by_cases hp : M.pck p = 0
  · obtain ⟨h1, h2⟩ := M.pck_zero hp
    refine (blocks_in A c p w h h1 h2 _ rfl).mono ?_
    rintro e w' ⟨G, rfl, hr, hb⟩
    unfold Blks
    rw [if_pos hp]
    exact ⟨_, rfl, hr, hb⟩
  · have C1 := count_any A c p w h
    obtain ⟨x, hx⟩ : ∃ x, Hid (M.pck p = x) := ⟨_, rfl⟩
    have hx0 : x ≠ 0 := by rw [← hx.out]; exact hp
    rw [M.cntV_err hx.out hx0, hx.out] at C1
    have hne : (x != 0) = true := by simpa using hx0
    unfold Blks
    simp only [if_neg hp]
    rw [hx.out]
    clear hp hx
    go_enter Tryd.func13, Tryd.ntmps13
    go_wp2_with fail
    refine C1.mono ?_
    rintro e w1 ⟨rfl, hb1⟩
    go_wp2
    go_ret2
    exact ⟨rfl, hb1⟩
end Go.Proofs.YtnhibkkkpmaddaaDoor
