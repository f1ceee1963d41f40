/-
  Contracts: the reference's Run and After of machines.
-/
import Derived.Test.YtldpfbmkmehadaaSMc4
import Derived.Deep.AppendLies
import Derived.Deep.CutRange
namespace Go.Proofs.Ytldpfbmkmehadaa
open Go.RowKit
open Mc (Ed Ma)

theorem grown_below {w w' : World} (h : Below w.heap.size w w') : w.grownBy w' none := ⟨h.os, h.tape, h.output, h.size, fun k hk _ => h.block k hk⟩
theorem own_below {w w' : World} {B : Nat} {t : TypeId} {sz n : Nat} {v : Value} {xs : List Value} (h : w.ownsRow B t sz v n xs) (hb : Below w.heap.size w w') : w'.ownsRow B t sz v n xs :=
  h.kept (grown_below hb) (by cases hv : v.ownBlock <;> simp)
/-- Two cells, written into the call's own new block. -/
theorem pair_set (w : World) (g : Nat) (x y : Value) (B : Nat) (hB : B ≤ g) (hg : w.heap[g]? = some (.cells #[.int .i64 0, .int .i64 0] 49)) :
    ((w.setCell ⟨g, 0, none⟩ x).setCell ⟨g, 1, none⟩ y).heap[g]? = some (.cells #[x, y] 49) ∧ Below B w ((w.setCell ⟨g, 0, none⟩ x).setCell ⟨g, 1, none⟩ y) := by
  refine ⟨?_, ((Below.refl B w).setCell (p := ⟨g, 0, none⟩) hB _).setCell (p := ⟨g, 1, none⟩) hB _⟩
  simp [World.setCell, Array.getElem?_modify, hg]

set_option maxRecDepth 100000 in
set_option maxHeartbeats 4000000 in
theorem rrun_any (m : Ma) (s0 : Int) (A W : Option Addr) (c d : Nat) (ws : List Int) (w : World) (v : Mc.Val m) (hr : RdR w A m.r) (hw : Rd w W ws) (hs : Mc.St m s0) (hwd : Mc.Wd m ws) (hl : ws.length ≤ 65536) :
    Calls Try.prog 27 #[.agg #[.int .i64 m.i, .int .i64 m.o, .slice A m.r.length c], .int .i64 s0, .slice W ws.length d] w (Built w (Mc.run m s0 ws)) := by
  have C := fun s k w hr hs hk => next_any m s k A c w v hr hs hk
  have hnx := Lib.hid (fun s k hs hk => Mc.nx_st (m := m) v (s := s) (i := k) hs hk)
  obtain ⟨i, o, rs⟩ := m
  simp only at hr C ⊢
  have hwd := Lib.hid hwd
  have hs := Lib.hid hs
  clear v
  obtain ⟨i0, hi0, hz0, hz1, hz2⟩ := info_parts int_info
  go_enter Try.func27, Try.ntmps27
  go_wp2
  go_loopw [1, 7, 8] (fun sv u q wr => ∃ (k : Nat) (xs : List Int) (s : Int), k ≤ ws.length ∧ sv = .int .i64 s ∧ q = .int .i64 k ∧ wr.ownsRow (w.heap.size + 1) 3 1 u k (ints xs) ∧ Hid (xs ++ Mc.run ⟨i, o, rs⟩ s (ws.drop k) = Mc.run ⟨i, o, rs⟩ s0 ws) ∧ Hid (Mc.St ⟨i, o, rs⟩ s) ∧ Below (w.heap.size + 1) (boxM w i o A rs.length c) wr) (fun _ _ q _ => ws.length - (intOf q).toNat)
  case atStart => exact ⟨0, [], s0, Nat.zero_le _, rfl, rfl, World.ownsRow_nil _ _ _ _, by simp [Hid], hs, Below.refl _ _⟩
  case round =>
    obtain ⟨k, xs, s, hk, rfl, rfl, hown, hx, hst, hbr⟩ := hrel
    obtain ⟨b0, b1, b2⟩ := box_cells hbr
    have hsz := box_size hbr
    by_cases hlt : k < ws.length
    · obtain ⟨b, off, z, rfl, hb, hc, hz⟩ := (hw.below (box_below hbr)).at_ hlt
      have hzr : Hid (0 ≤ z ∧ z < i) := by
        have := hwd.out z (by rw [← hz.out, List.getElem?_eq_getElem hlt]; exact List.getElem_mem hlt)
        exact this
      have hw2 : Below (w.heap.size + 1) (boxM w i o A rs.length c) (wr.alloc (.cells #[.int .i64 0, .int .i64 0] 49)) := hbr.alloc hsz _
      obtain ⟨c0, c1, c2⟩ := box_cells hw2
      have hc2 : (wr.alloc (.cells #[.int .i64 0, .int .i64 0] 49)).cell? ⟨b, off + k, none⟩ = some (.int .i64 z) := (World.cell?_alloc_past _ _ _ hb).trans hc
      have q3 : Below w.heap.size w (wr.alloc (.cells #[.int .i64 0, .int .i64 0] 49)).drew := (box_below hw2).drew
      have X := Lib.hid (hr.below q3)
      have q4 : Below w.heap.size w wr.drew := (box_below hbr).drew
      have X0 := Lib.hid (hr.below q4)
      have hzl : w.heap.size < wr.heap.size := by omega
      obtain ⟨px, hpx⟩ : ∃ px, (Mc.nx ⟨i, o, rs⟩ s z).1 = px := ⟨_, rfl⟩
      obtain ⟨py, hpy⟩ : ∃ py, (Mc.nx ⟨i, o, rs⟩ s z).2 = py := ⟨_, rfl⟩
      have C1 := fun w hr => C s z w hr hst.out hzr.out
      simp only [hpx, hpy] at C1
      have hpx := Lib.hid hpx
      have hpy := Lib.hid hpy
      go_upto_region 5 with fail
      go_cut [9] from 10 to 29 (fun p wx => ∃ G, p = .pointer (some ⟨G, 0, none⟩) ∧ Hid (wx.heap[G]? = some (.cells #[.int .i64 px, .int .i64 py] 49)) ∧ wr.heap.size ≤ G ∧ Below wr.heap.size wr wx)
      case first =>
        go_region_held3 (fun w' => w'.cell? ⟨w.heap.size, 0, none⟩ = some (.int .i64 i) ∧ w'.cell? ⟨w.heap.size, 1, none⟩ = some (.int .i64 o) ∧ w'.cell? ⟨w.heap.size, 2, none⟩ = some (.slice A rs.length c) ∧ w'.cell? ⟨b, off + k, none⟩ = some (.int .i64 z)) (first | exact ⟨k0, k1, k2, k3⟩ | exact ⟨g0, g1, g2, g3⟩ | exact ⟨c0, c1, c2, hc2⟩ | exact ⟨b0, b1, b2, hc⟩ | go_keep)
          (first
            | (go_at_call 39
               (with_reducible refine (C1 _ X0.out).mono ?_)
               rintro e w1 ⟨rfl, hb1⟩
               have g0 := (hb1.cell (p := ⟨w.heap.size, 0, none⟩) hzl).trans b0
               have g1 := (hb1.cell (p := ⟨w.heap.size, 1, none⟩) hzl).trans b1
               have g2 := (hb1.cell (p := ⟨w.heap.size, 2, none⟩) hzl).trans b2
               have g3 := (hb1.cell (p := ⟨b, off + k, none⟩) hb).trans hc)
            | (go_at_call 39
               (with_reducible refine (C1 _ X.out).mono ?_)
               rintro e w1 ⟨rfl, hb1⟩
               have hl1 : (wr.alloc (.cells #[.int .i64 0, .int .i64 0] 49)).drew.heap.size = wr.heap.size + 1 := by simp
               have g0 := (hb1.cell (p := ⟨w.heap.size, 0, none⟩) (by rw [hl1]; show w.heap.size < _; omega)).trans c0
               have g1 := (hb1.cell (p := ⟨w.heap.size, 1, none⟩) (by rw [hl1]; show w.heap.size < _; omega)).trans c1
               have g2 := (hb1.cell (p := ⟨w.heap.size, 2, none⟩) (by rw [hl1]; show w.heap.size < _; omega)).trans c2
               have g3 := (hb1.cell (p := ⟨b, off + k, none⟩) (by rw [hl1]; show b < _; omega)).trans hc2
               have g4 := (hb1.block wr.heap.size (by rw [hl1]; omega)).trans (heap_alloc_new wr _)
               have f0 : w1.cell? ⟨wr.heap.size, 0, none⟩ = some (.int .i64 0) := by rw [cell_of_row w1 _ _ _ _ _ g4]; rfl
               have f1 : w1.cell? ⟨wr.heap.size, 1, none⟩ = some (.int .i64 0) := by rw [cell_of_row w1 _ _ _ _ _ g4]; rfl
               have f2 : w1.frozen? ⟨wr.heap.size, 0, none⟩ = false := by simp [World.frozen?, g4]
               have f3 : w1.frozen? ⟨wr.heap.size, 1, none⟩ = false := by simp [World.frozen?, g4]
               have hs2 : Below wr.heap.size w1 ((w1.setCell ⟨wr.heap.size, 0, none⟩ (.int .i64 px)).setCell ⟨wr.heap.size, 1, none⟩ (.int .i64 py)) := ((Below.refl wr.heap.size w1).setCell (p := ⟨wr.heap.size, 0, none⟩) (Nat.le_refl wr.heap.size) _).setCell (p := ⟨wr.heap.size, 1, none⟩) (Nat.le_refl wr.heap.size) _
               have k0 := (hs2.cell (p := ⟨w.heap.size, 0, none⟩) hzl).trans g0
               have k1 := (hs2.cell (p := ⟨w.heap.size, 1, none⟩) hzl).trans g1
               have k2 := (hs2.cell (p := ⟨w.heap.size, 2, none⟩) hzl).trans g2
               have k3 := (hs2.cell (p := ⟨b, off + k, none⟩) hb).trans g3
               have hg4 := Lib.hid g4
               clear g4))
        all_goals
          go_wp2_with fail
          go_meet
          first
            | exact ⟨wr.heap.size, rfl, (pair_set w1 wr.heap.size _ _ wr.heap.size (Nat.le_refl _) hg4.out).1, Nat.le_refl _, (((Below.refl wr.heap.size wr).alloc (Nat.le_refl _) _).drew.trans (hb1.mono (by rw [hl1]; omega))).trans (pair_set w1 wr.heap.size _ _ wr.heap.size (Nat.le_refl _) hg4.out).2⟩
            | exact ⟨w1.heap.size, rfl, heap_alloc_new w1 _, (by have := hb1.size; simpa using this), (((Below.refl wr.heap.size wr).drew.trans (hb1.mono (by simp)))).alloc (by have := hb1.size; simpa using this) _⟩
      case rest =>
      obtain ⟨G, rfl, hG, hGw, hbx⟩ := hcut
      have e0 : wc.cell? ⟨G, 0, none⟩ = some (.int .i64 px) := by rw [cell_of_row wc _ _ _ _ _ hG.out]; rfl
      have e1 : wc.cell? ⟨G, 1, none⟩ = some (.int .i64 py) := by rw [cell_of_row wc _ _ _ _ _ hG.out]; rfl
      have hGl : G < wc.heap.size := by
        have hG := hG.out
        rcases Nat.lt_or_ge G wc.heap.size with h | h
        · exact h
        · rw [Array.getElem?_eq_none h] at hG; cases hG
      have hGn : some G ≠ u7.ownBlock := fun e => by
        have := (hown.lt G e.symm).1
        have := (hown.lt G e.symm).2
        omega
      have hown1 := own_below hown hbx
      have hbr1 : Below (w.heap.size + 1) (boxM w i o A rs.length c) wc := hbr.trans (hbx.mono hsz)
      have hsz1 := box_size hbr1
      have hstep : Hid ((xs ++ [py]) ++ Mc.run ⟨i, o, rs⟩ px (ws.drop (k + 1)) = Mc.run ⟨i, o, rs⟩ s0 ws) := by
        show _ = _
        have hz := hz.out
        rw [List.getElem?_eq_getElem hlt, Option.getD_some] at hz
        rw [← hx.out, List.drop_eq_getElem_cons hlt, hz, Mc.run, hpx.out, hpy.out, List.append_assoc]
        rfl
      have hst1 : Hid (Mc.St ⟨i, o, rs⟩ px) := by
        have := (hnx.out s z hst.out hzr.out).1
        rw [hpx.out] at this
        exact this
      have f0 : (wc.alloc (.cells #[.int .i64 py] 3)).cell? ⟨G, 0, none⟩ = some (.int .i64 px) := (World.cell?_alloc_past _ _ _ hGl).trans e0
      clear hown hbr hsz hw2 c0 c1 c2 hc2 q3 X q4 X0 C1 b0 b1 b2 hc hx hst
      go_wp2_with (at_builtin; refine wpList_append_own _ rfl _ _ 36 rfl (w.heap.size + 1) 3 i0 (.int .i64 0) 1 8 Try.underlying36 hi0 hz0 hz1 hz2 rfl (by decide) _ _ _ rfl (hown1.alloc _) ⟨wc.heap.size, 0, none⟩ 1 1 [.int .i64 py] rfl rfl ?c1 ?c2 ?c3 ?c4 ?c5 ?_)
      case c1 => exact (cell_one_new _ _ _)
      case c2 => intro u hu; simp at hu; subst hu; rfl
      case c3 => unfold maxLen; omega
      case c4 => omega
      case c5 => simp; omega
      intro v1 w2 hown2 hg1 _
      have e3 : w2.cell? ⟨G, 0, none⟩ = some (.int .i64 px) := hg1.cell f0 hGn
      obtain ⟨hown3, hbr3⟩ := own_step hbr1 hsz1 hown1 hown2 hg1
      clear hown2 hg1 hown1
      go_wp2
      go_roundw
      case rel => exact ⟨k + 1, _, px, by omega, by go_num, by go_num, hown3, hstep, hst1, hbr3⟩
      case measure => simp [intOf]; omega
    · have hfin : Hid (xs = Mc.run ⟨i, o, rs⟩ s0 ws) := by
        have h := hx.out
        rw [List.drop_eq_nil_of_le (by omega)] at h
        show _ = _
        simpa [Mc.run] using h
      go_wp2
      go_ret
      rw [← hfin.out]
      exact Built.of_own hown (box_below hbr)

theorem Rd.tl {w : World} {b off : Nat} {z : Int} {ws : List Int} (h : Rd w (some ⟨b, off, none⟩) (z :: ws)) : Rd w (some ⟨b, off + 1, none⟩) ws := fun hp => by
  obtain ⟨b', off', e, hb, hc⟩ := h (by simp)
  injection e with e
  injection e with e1 e2
  subst e1 e2
  refine ⟨b, off + 1, rfl, hb, fun k hk => ?_⟩
  have := hc (k + 1) (by simp; omega)
  rw [show off + 1 + k = off + (k + 1) by omega, this]
  simp
theorem tail_len (n : Nat) : ((n + 1 : Nat) : Int) - 1 = (n : Int) := by omega
set_option maxRecDepth 100000 in
set_option maxHeartbeats 2000000 in
theorem rafter_any (m : Ma) (A : Option Addr) (c : Nat) (v : Mc.Val m) : ∀ (ws : List Int) (s0 : Int) (W : Option Addr) (n d : Nat) (w : World), RdR w A m.r → Rd w W ws → Mc.St m s0 → Mc.Wd m ws → ws.length = n → n ≤ d →
    Calls Try.prog 15 #[.agg #[.int .i64 m.i, .int .i64 m.o, .slice A m.r.length c], .int .i64 s0, .slice W n d] w fun e w' => e = .returned (.int .i64 (Mc.aft m s0 ws)) ∧ Below w.heap.size w w'
  | [], s0, W, n, d, w, hr, hw, hs, hwd, hl, hd => by
    simp at hl
    subst hl
    obtain ⟨i, o, rs⟩ := m
    simp only at hr ⊢
    have hb0 : Below (w.heap.size + 1) (boxM w i o A rs.length c) (boxM w i o A rs.length c) := Below.refl _ _
    go_enter Try.func15, Try.ntmps15
    go_wp2
    go_ret
    exact ⟨rfl, box_below hb0⟩
  | z :: ws, s0, W, n, d, w, hr, hw, hs, hwd, hl, hd => by
    have IH := rafter_any m A c v ws
    have C := fun s k w hr hs hk => next_any m s k A c w v hr hs hk
    have hst1 := (Mc.nx_st v hs (hwd z (by simp))).1
    have hfin : Hid (Mc.aft m (Mc.nx m s0 z).1 ws = Mc.aft m s0 (z :: ws)) := rfl
    have hzr := hwd z (by simp)
    have hwd2 : Mc.Wd m ws := fun x hx => hwd x (by simp [hx])
    obtain ⟨i, o, rs⟩ := m
    simp only at hr C IH hst1 hzr ⊢
    obtain ⟨b, off, rfl, hb, hc⟩ := hw (by simp)
    have hc0 := hc 0 (by simp)
    simp at hc0
    clear hc v hwd
    have hn1 : ws.length + 1 = n := by simpa using hl
    clear hl
    have hb0 : Below (w.heap.size + 1) (boxM w i o A rs.length c) (boxM w i o A rs.length c) := Below.refl _ _
    obtain ⟨q0, q1, q2⟩ := box_cells hb0
    have q3 := (box_below hb0).drew
    have q5 : (boxM w i o A rs.length c).cell? ⟨b, off, none⟩ = some (.int .i64 z) := ((bcell (box_below hb0)).1 b off hb).trans hc0
    have hz : w.heap.size < (boxM w i o A rs.length c).heap.size := by simp
    have hz2 : b < (boxM w i o A rs.length c).heap.size := by simp; omega
    obtain ⟨px, hpx⟩ : ∃ px, (Mc.nx ⟨i, o, rs⟩ s0 z).1 = px := ⟨_, rfl⟩
    obtain ⟨py, hpy⟩ : ∃ py, (Mc.nx ⟨i, o, rs⟩ s0 z).2 = py := ⟨_, rfl⟩
    have C1 := fun w hr => C s0 z w hr hs hzr
    simp only [hpx, hpy] at C1 hst1 hfin
    clear C hpx hpy
    have hne : ((n : Int) == 0) = false := by rw [beq_eq_false_iff_ne]; omega
    have X0 := Lib.hid (hr.below q3)
    have Y0 := Lib.hid (hw.below q3)
    have hfd : ∀ w : World, (Instr.field 49 (.agg #[.int .i64 px, .int .i64 py]) 0).run Try.prog w = .ok (.int .i64 px) w := fun _ => by kernel_rfl
    have e0 : (0 : Int) < n := by omega
    have e0' : 0 < n := by omega
    have L1 : ws.length = n - 1 := by omega
    have L2 : n - 1 ≤ d - 1 := by omega
    have IH1 := fun w hr hw => IH px (some ⟨b, off + 1, none⟩) (n - 1) (d - 1) w hr hw hst1 hwd2 L1 L2
    have IH0 := fun w hr hw (h0 : ws.length = 0) => IH px (some ⟨b, off, none⟩) 0 0 w hr hw hst1 hwd2 h0 (Nat.le_refl _)
    clear IH
    go_enter Try.func15, Try.ntmps15
    go_wp2_with fail
    obtain ⟨w0, hw0⟩ : ∃ w0, boxM w i o A rs.length c = w0 := ⟨_, rfl⟩
    have hw1 : w.alloc (.cells #[.int .i64 i, .int .i64 o, .slice A rs.length c] 27) = w0 := hw0
    rw [hw0] at q0 q1 q2 q3 q5 hz hz2 X0 Y0
    rw [hw1]
    clear hw0 hw1 hb0
    by_cases hd1 : d = 1
    · subst hd1
      have n1 : n = 1 := by omega
      subst n1
      have hws : ws = [] := List.eq_nil_of_length_eq_zero (by omega)
      subst hws
      clear IH1
      go_region_held3 (fun w' => w'.cell? ⟨w.heap.size, 0, none⟩ = some (.int .i64 i) ∧ w'.cell? ⟨w.heap.size, 1, none⟩ = some (.int .i64 o) ∧ w'.cell? ⟨w.heap.size, 2, none⟩ = some (.slice A rs.length c) ∧ w'.cell? ⟨b, off, none⟩ = some (.int .i64 z)) (first | exact ⟨k0, k1, k2, k3⟩ | exact ⟨g0, g1, g2, g3⟩ | exact ⟨q0, q1, q2, q5⟩ | go_keep)
        (first
          | (go_at_call 39
             (with_reducible refine (C1 _ X0.out).mono ?_)
             rintro e w1 ⟨rfl, hb1⟩
             have g0 := (hb1.cell (p := ⟨w.heap.size, 0, none⟩) hz).trans q0
             have g1 := (hb1.cell (p := ⟨w.heap.size, 1, none⟩) hz).trans q1
             have g2 := (hb1.cell (p := ⟨w.heap.size, 2, none⟩) hz).trans q2
             have g3 := (hb1.cell (p := ⟨b, off, none⟩) hz2).trans q5
             have z1 : w0.heap.size ≤ w1.heap.size := hb1.size
             have q6 := below_next q3 hb1
             have X1 := Lib.hid (hr.below q6))
          | (go_at_call 15
             (with_reducible refine (IH0 _ X1.out Rd.nil_ rfl).mono ?_)
             rintro e w2 ⟨rfl, hb2⟩
             have q7 := below_next q6 hb2
             have k0 := (hb2.cell (p := ⟨w.heap.size, 0, none⟩) (by show w.heap.size < _; omega)).trans g0
             have k1 := (hb2.cell (p := ⟨w.heap.size, 1, none⟩) (by show w.heap.size < _; omega)).trans g1
             have k2 := (hb2.cell (p := ⟨w.heap.size, 2, none⟩) (by show w.heap.size < _; omega)).trans g2
             have k3 := (hb2.cell (p := ⟨b, off, none⟩) (by show b < _; omega)).trans g3))
      go_wp2
      go_ret
      exact ⟨ret_int hfin.out, q7⟩
    · have e1 : (1 : Int) ≤ n := by omega
      have e2 : (n : Int) ≤ d := by omega
      go_region_held3 (fun w' => w'.cell? ⟨w.heap.size, 0, none⟩ = some (.int .i64 i) ∧ w'.cell? ⟨w.heap.size, 1, none⟩ = some (.int .i64 o) ∧ w'.cell? ⟨w.heap.size, 2, none⟩ = some (.slice A rs.length c) ∧ w'.cell? ⟨b, off, none⟩ = some (.int .i64 z)) (first | exact ⟨k0, k1, k2, k3⟩ | exact ⟨g0, g1, g2, g3⟩ | exact ⟨q0, q1, q2, q5⟩ | go_keep)
        (first
          | (go_at_call 39
             (with_reducible refine (C1 _ X0.out).mono ?_)
             rintro e w1 ⟨rfl, hb1⟩
             have g0 := (hb1.cell (p := ⟨w.heap.size, 0, none⟩) hz).trans q0
             have g1 := (hb1.cell (p := ⟨w.heap.size, 1, none⟩) hz).trans q1
             have g2 := (hb1.cell (p := ⟨w.heap.size, 2, none⟩) hz).trans q2
             have g3 := (hb1.cell (p := ⟨b, off, none⟩) hz2).trans q5
             have z1 : w0.heap.size ≤ w1.heap.size := hb1.size
             have q6 := below_next q3 hb1
             have X1 := Lib.hid (hr.below q6)
             have Y1 := Lib.hid (hw.below q6).tl)
          | (go_at_call 15
             (with_reducible refine (IH1 _ X1.out Y1.out).mono ?_)
             rintro e w2 ⟨rfl, hb2⟩
             have q7 := below_next q6 hb2
             have k0 := (hb2.cell (p := ⟨w.heap.size, 0, none⟩) (by show w.heap.size < _; omega)).trans g0
             have k1 := (hb2.cell (p := ⟨w.heap.size, 1, none⟩) (by show w.heap.size < _; omega)).trans g1
             have k2 := (hb2.cell (p := ⟨w.heap.size, 2, none⟩) (by show w.heap.size < _; omega)).trans g2
             have k3 := (hb2.cell (p := ⟨b, off, none⟩) (by show b < _; omega)).trans g3))
      go_wp2
      go_ret
      exact ⟨ret_int hfin.out, q7⟩
end Go.Proofs.Ytldpfbmkmehadaa
