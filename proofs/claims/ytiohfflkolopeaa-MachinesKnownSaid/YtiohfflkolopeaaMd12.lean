/-
  Contract: Connected, by its search in depth. No statement is proved here.
-/
import Derived.Test.YtiohfflkolopeaaMd4
import Derived.Test.YtiohfflkolopeaaDf
namespace Go.Proofs.Ytiohfflkolopeaa
open Go.RowKit
open Mc (Ed Ma Pe)

/-- Block g is known whole: an array of bools. -/
def BlkA (w : World) (g : Nat) (cs : List Bool) : Prop := w.heap[g]? = some (.cells (cs.map Value.bool).toArray 80 (0, 0))
theorem BlkA.at_ {w : World} {g : Nat} {cs : List Bool} (h : BlkA w g cs) {k : Nat} {b : Bool} (hk : cs[k]? = some b) : w.cell? ⟨g, k, none⟩ = some (.bool b) ∧ w.frozen? ⟨g, k, none⟩ = false := by
  constructor
  · rw [cell_of_row w g k _ 80 (0, 0) h]
    simp [hk]
  · unfold BlkA at h
    simp [World.frozen?, h]
theorem BlkA.set_ {w : World} {g : Nat} {cs : List Bool} (h : BlkA w g cs) (k : Nat) (v : Bool) : BlkA (w.setCell ⟨g, k, none⟩ (.bool v)) g (cs.set k v) := by
  unfold BlkA at h ⊢
  simp [World.setCell, Array.getElem?_modify, h, List.map_set]
theorem BlkA.far {w : World} {g b off : Nat} {cs : List Bool} (h : BlkA w g cs) (hne : g ≠ b) (u : Value) : BlkA (w.setCell ⟨b, off, none⟩ u) g cs := (Below.heap_setCell w ⟨b, off, none⟩ u g hne).trans h

/-- The memory of a search: the machine, what is marked, how many are, and the function itself. -/
structure Cn (w : World) (g r c q : Nat) (i o : Int) (A : Option Addr) (n d : Nat) (B : List Bool) (W : World) : Prop where
  bel : Below w.heap.size w W
  bm : BxM W g i o A n d
  rb : BlkA W r B
  bc : Box W c (.int .i64 (B.count true))
  bf : Box W q (.func (.func 40) #[] #[.pointer (some ⟨r, 0, none⟩), .pointer (some ⟨c, 0, none⟩), .pointer (some ⟨g, 0, none⟩), .pointer (some ⟨q, 0, none⟩)])
  r0 : w.heap.size ≤ r
  c0 : w.heap.size ≤ c
  ne : g ≠ r ∧ g ≠ c ∧ r ≠ c ∧ q ≠ r ∧ q ≠ c
theorem Cn.below {w : World} {g r c q : Nat} {i o : Int} {A : Option Addr} {n d : Nat} {B : List Bool} {W W' : World} (h : Cn w g r c q i o A n d B W) (k : Below W.heap.size W W') : Cn w g r c q i o A n d B W' :=
  ⟨below_next h.bel k, h.bm.mvB k, (k.block _ (hlt h.rb)).trans h.rb, h.bc.below k, h.bf.below k, h.r0, h.c0, h.ne⟩
/-- A state is marked, and counted. -/
theorem Cn.mark {w : World} {g r c q : Nat} {i o : Int} {A : Option Addr} {n d s : Nat} {B : List Bool} {W : World} (h : Cn w g r c q i o A n d B W) (hb : B[s]? = some false) :
    Cn w g r c q i o A n d (B.set s true) ((W.setCell ⟨r, s, none⟩ (.bool true)).setCell ⟨c, 0, none⟩ (.int .i64 ((B.count true : Int) + 1))) := by
  obtain ⟨n1, n2, n3, n4, n5⟩ := h.ne
  refine ⟨(h.bel.setCell (p := ⟨r, s, none⟩) h.r0 _).setCell (p := ⟨c, 0, none⟩) h.c0 _, (h.bm.farS n1 _).farS n2 _, (h.rb.set_ s true).far n3 _, ?_, (h.bf.far n4 _).far n5 _, h.r0, h.c0, h.ne⟩
  have := (h.bc.far n3.symm (o := s) (.bool true)).set_ (.int .i64 ((B.count true : Int) + 1))
  rw [Mc.count_set hb]
  simpa using this

set_option maxRecDepth 100000 in
set_option maxHeartbeats 1600000 in
theorem reach_any (m : Ma) (V : Mc.Val m) (g r c q : Nat) (A : Option Addr) (d : Nat) (w : World) (hr : RdR w A m.r) : ∀ (f : Nat) (B : List Bool) (s : Nat) (W : World), B.length = 64 → 64 < f + B.count true → s < m.r.length → Cn w g r c q m.i m.o A m.r.length d B W →
    Calls Try.prog 40 #[.int .i64 s, .pointer (some ⟨r, 0, none⟩), .pointer (some ⟨c, 0, none⟩), .pointer (some ⟨g, 0, none⟩), .pointer (some ⟨q, 0, none⟩)] W fun e W' => (∃ v, e = .returned v) ∧ ∃ B', Mc.Srch m s B B' ∧ Cn w g r c q m.i m.o A m.r.length d B' W' := by
  intro f
  induction f with
  | zero =>
    intro B s W hl hf
    have := List.count_le_length (a := true) (l := B)
    omega
  | succ f ih =>
    intro B s W hl hf hs hC
    have IH := Lib.hid ih
    clear ih
    have hs64 : s < 64 := by have := V.r1; omega
    have hcl := List.count_le_length (a := true) (l := B)
    obtain ⟨b0, hb0⟩ : ∃ b, B[s]? = some b := ⟨_, List.getElem?_eq_getElem (by omega)⟩
    obtain ⟨rc, rf⟩ := hC.rb.at_ hb0
    cases b0 with
    | true =>
      have hres := Lib.hid (Mc.Srch.refl (m := m) hb0)
      have HC := Lib.hid hC
      clear hf hcl V hl hC
      go_enter Try.func40, Try.ntmps40
      go_wp2
      refine bodyPost_ret (results_none rfl _ _ _) rfl ?_
      exact ⟨⟨_, rfl⟩, B, hres.out, HC.out⟩
    | false =>
      obtain ⟨n1, n2, n3, n4, n5⟩ := hC.ne
      obtain ⟨q0, q1, q2⟩ := hC.bm.cells
      have cc := (hC.bc.far (c := r) n3.symm (o := s) (.bool true)).1
      have cf := (hC.bc.far (c := r) n3.symm (o := s) (.bool true)).2
      have hM := hC.mark hb0
      have hcn : (B.count true : Int) ≤ 64 := by omega
      obtain ⟨W1, hW1⟩ : ∃ W1, (W.setCell ⟨r, s, none⟩ (.bool true)).setCell ⟨c, 0, none⟩ (.int .i64 ((B.count true : Int) + 1)) = W1 := ⟨_, rfl⟩
      rw [hW1] at hM
      obtain ⟨b, off, X, dd, qn, row, rfl, hb, hcw, _, _, _, hp, hln, hqr⟩ := hr.at_ hs
      have hc1 := (hM.bel.cell (p := ⟨b, off + s, none⟩) hb).trans hcw
      obtain ⟨p0, p1, p2⟩ := hM.bm.cells
      have hrow := V.len row (List.mem_of_getElem? hqr.out)
      have hqn : (qn : Int) = m.i := by rw [← hln.out]; exact hrow
      have hi16 := V.i1
      have HS := Lib.hid (Mc.Smid.start (m := m) (row := row) (B := B) (s := s) (by omega))
      have HB := Lib.hid hb0
      have HL := Lib.hid hl
      have HF := Lib.hid hf
      have EE := Lib.hid (fun x (hx : x ∈ row) => V.ok row (List.mem_of_getElem? hqr.out) x hx)
      have MM := Lib.hid hM
      clear V hrow hb0 hl hf hcl hC hM
      go_enter Try.func40, Try.ntmps40
      go_wp2
      go_loopw [21] (fun v wr => ∃ (j : Nat) (C : List Bool), j ≤ qn ∧ v = .int .i64 j ∧ Hid (Mc.Smid m s row B C j) ∧ Hid (Cn w g r c q m.i m.o (some ⟨b, off, none⟩) m.r.length d C wr)) (fun v _ => qn - (intOf v).toNat)
      case atStart => exact ⟨0, _, Nat.zero_le _, rfl, HS, MM⟩
      case round =>
        obtain ⟨j, C, hj, rfl, hm, hC⟩ := hrel
        clear hW1 p0 p1 p2 hc1 MM W1 rc rf cc cf q0 q1 q2
        by_cases hjl : j < qn
        · obtain ⟨b2, off2, x, y, rfl, hb2, hx0, hy0, hqe⟩ := hp.at_ (k := j) (by rw [hln.out]; exact hjl)
          have hx := (hC.out.bel.cell (p := ⟨b2, off2 + j * 2, none⟩) hb2).trans hx0
          have hy := (hC.out.bel.cell (p := ⟨b2, off2 + j * 2 + 1, none⟩) hb2).trans hy0
          have hxo := EE.out _ (List.mem_of_getElem? hqe.out)
          simp only at hxo
          have hbA : Below wr.heap.size wr (wr.alloc (.cells #[.int .i64 x, .int .i64 y] 39)) := (Below.refl _ _).alloc (Nat.le_refl _) _
          have hCA := Lib.hid (hC.out.below hbA)
          have PE := Lib.hid (BxE.new wr x y)
          have k0 := PE.out.cells.1
          have k1 := PE.out.cells.2.1
          clear hbA hx0 hy0
          go_wp2_with fail
          refine (defined_any _ _ _).mono ?_
          rintro e w2 ⟨rfl, hb22⟩
          have hC2 := Lib.hid (hCA.out.below hb22)
          have k0' : w2.cell? ⟨wr.heap.size, 0, none⟩ = some (.int .i64 x) := (hb22.cell (p := ⟨wr.heap.size, 0, none⟩) (by simp)).trans k0
          have f0 := hC2.out.bf.1
          clear k0 k1 hx hy hb22 PE
          by_cases hx1 : x = -1
          · have hxd : decide (x = -1) = true := decide_eq_true hx1
            have hgo := Lib.hid (hm.out.skip hqe.out (by simp only; omega))
            clear hxo hx1
            go_wp2
            go_roundw
            case rel => exact ⟨j + 1, C, by omega, by go_num, hgo, hC2⟩
            case measure => simp [intOf]; omega
          · have hxd : decide (x = -1) = false := decide_eq_false hx1
            obtain ⟨x, rfl⟩ := Int.eq_ofNat_of_zero_le (show 0 ≤ x by omega)
            have hxl : x < m.r.length := by omega
            have hcnt : 64 < f + C.count true := by
              have := Mc.count_lt' B C s hm.out.len.symm hm.out.sub HB.out hm.out.has
              have := HF.out
              omega
            have hCl : C.length = 64 := hm.out.len.trans HL.out
            clear hxo hx1
            go_wp2_with fail
            refine (IH.out C x w2 hCl hcnt hxl hC2.out).mono ?_
            rintro e w3 ⟨⟨v, rfl⟩, B', hS, hC3⟩
            have hgo := Lib.hid (hm.out.put hqr.out hqe.out (by simp only; omega) (by simpa using hS))
            have HC3 := Lib.hid hC3
            clear hS hC3 hcnt hCl
            go_wp2
            go_roundw
            case rel => exact ⟨j + 1, B', by omega, by go_num, hgo, HC3⟩
            case measure => simp [intOf]; omega
        · have hd := Lib.hid (hm.out.done hqr.out (by rw [hln.out]; omega))
          go_wp2
          go_end0
          exact ⟨⟨_, rfl⟩, C, hd.out, hC.out⟩

theorem run_store_func {P : Program} {w : World} {a : Addr} {m : Mode} (f : Fn) (xs ys : Array Value) : (store a (.func f xs ys) m).run P w = stored P w a (.func f xs ys) m := run_store P w a _ m rfl
attribute [local go_sem] run_store_func

set_option maxRecDepth 100000 in
set_option maxHeartbeats 1600000 in
theorem pconnected_any (i o : Int) (rs : List (List Ed)) (A : Option Addr) (n c : Nat) (w : World) (hr : RdR w A rs) (hn : rs.length = n) (hnb : n ≤ 1000000) (hrl : ∀ row ∈ rs, row.length ≤ 1000000) :
    Calls Try.prog 13 #[.agg #[.int .i64 i, .int .i64 o, .slice A n c]] w fun e w' => e = .returned (.tuple #[.bool (Mc.conV ⟨i, o, rs⟩), .int .i64 (Mc.chk ⟨i, o, rs⟩)]) ∧ Below w.heap.size w w' := by
  subst hn
  have RL := Lib.hid hrl
  clear hrl
  have hb0 : Below w.heap.size w (boxM w i o A rs.length c) := (Below.refl _ _).alloc (Nat.le_refl _) _
  have hr0 := hr.below hb0
  go_enter Try.func13, Try.ntmps13
  go_wp2_with fail
  refine (pcheck_any i o rs A rs.length c _ hr0 rfl hnb RL.out).mono ?_
  rintro e w1 ⟨rfl, hb1⟩
  have hB1 := below_next hb0 hb1
  have hM1 := (BxM.new w i o A rs.length c).mvB hb1
  have hz0 : w.heap.size < w1.heap.size := heap_lt hM1
  clear hb0 hb1
  by_cases hz : Mc.chk ⟨i, o, rs⟩ = 0
  · have V := Mc.val_of hz
    have hv : Hid (Mc.conV ⟨i, o, rs⟩ = Mc.conn ⟨i, o, rs⟩) := by show _ = _; unfold Mc.conV; rw [if_pos hz]
    rw [hz]
    have hlit : (List.map Value.bool (List.replicate 64 false)).toArray = #[.bool false, .bool false, .bool false, .bool false, .bool false, .bool false, .bool false, .bool false, .bool false, .bool false, .bool false, .bool false, .bool false, .bool false, .bool false, .bool false, .bool false, .bool false, .bool false, .bool false, .bool false, .bool false, .bool false, .bool false, .bool false, .bool false, .bool false, .bool false, .bool false, .bool false, .bool false, .bool false, .bool false, .bool false, .bool false, .bool false, .bool false, .bool false, .bool false, .bool false, .bool false, .bool false, .bool false, .bool false, .bool false, .bool false, .bool false, .bool false, .bool false, .bool false, .bool false, .bool false, .bool false, .bool false, .bool false, .bool false, .bool false, .bool false, .bool false, .bool false, .bool false, .bool false, .bool false, .bool false] := by rfl
    have HL := Lib.hid hlit
    clear hlit
    go_wp2_with fail
    have C := fun W => reach_any ⟨i, o, rs⟩ V w.heap.size w1.heap.size (w1.heap.size + 1) (w1.heap.size + 1 + 1) A c w hr 65 (List.replicate 64 false) 0 W (by rw [List.length_replicate]) (by omega) (by have := V.r0; simp only at this ⊢; omega)
    simp only [Int.cast_ofNat_Int] at C
    refine (C _ ?hC).mono ?_
    case hC =>
      refine ⟨((hB1.alloc (by omega) _).alloc (by simp; omega) _).alloc (by simp; omega) _, ((hM1.mvB ((Below.refl _ _).alloc (Nat.le_refl _) _)).mvB ((Below.refl _ _).alloc (Nat.le_refl _) _)).mvB ((Below.refl _ _).alloc (Nat.le_refl _) _), ?_, ?_, Box.new_ (by simp) _ _, by omega, by omega, by omega⟩
      · unfold BlkA
        rw [HL.out]
        exact (Below.heap_alloc _ _ _ (by simp only [World.size_alloc]; omega)).trans ((Below.heap_alloc _ _ _ (by simp only [World.size_alloc]; omega)).trans (World.alloc_heap_new w1 _))
      · have hc0 : ((List.replicate 64 false).count true : Int) = 0 := by rfl
        rw [hc0]
        exact (Box.new_ (by simp) _ _).alloc _
    rintro e w3 ⟨⟨v, rfl⟩, B', hS, hC3⟩
    have hcn := Lib.hid (Mc.conn_cnt V hS)
    simp only at hcn
    have hbe := hC3.bel
    have cc := hC3.bc.1
    obtain ⟨q0, q1, q2⟩ := hC3.bm.cells
    obtain ⟨z, hzc⟩ : ∃ z, B'.count true = z := ⟨_, rfl⟩
    rw [hzc] at cc hcn
    clear hS hC3 hzc C V
    have hfin : ((z : Int) == rs.length) = Mc.conn ⟨i, o, rs⟩ := by
      rw [hcn.out]
      rw [Bool.eq_iff_iff, beq_iff_eq, decide_eq_true_iff]; omega
    have HF := Lib.hid hfin
    clear hfin hcn
    go_wp2
    go_returns
    exact ⟨by rw [hv.out, hz, ← HF.out]; rfl, hbe⟩
  · have hzb : (Mc.chk ⟨i, o, rs⟩ == 0) = false := by rw [beq_eq_false_iff_ne]; exact hz
    have hv : Hid (Mc.conV ⟨i, o, rs⟩ = false) := by show _ = _; unfold Mc.conV; rw [if_neg hz]
    obtain ⟨z, hzz⟩ : ∃ z, Mc.chk ⟨i, o, rs⟩ = z := ⟨_, rfl⟩
    rw [hzz] at hz hzb ⊢
    have HZ := Lib.hid hzz
    clear hzz
    go_wp2
    go_returns
    exact ⟨by rw [hv.out, HZ.out]; rfl, hB1⟩
end Go.Proofs.Ytiohfflkolopeaa
