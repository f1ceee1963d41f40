/-
  Contracts: the reference's Next and Check of machines.
-/
import Derived.Test.YtldpfbmkmehadaaSMc2
import Derived.Handy
namespace Go.Proofs.Ytldpfbmkmehadaa
open Go.RowKit
open Mc (Ed Ma)

theorem next_neg (i o s k : Int) (A : Option Addr) (n c : Nat) (w : World) (h : s < 0) :
    Calls Try.prog 39 #[.agg #[.int .i64 i, .int .i64 o, .slice A n c], .int .i64 s, .int .i64 k] w fun e w' => e = .returned (.agg #[.int .i64 (-1), .int .i64 (-1)]) ∧ Below w.heap.size w w' := by
  go_enter Try.func39, Try.ntmps39
  go_wp2
  go_returns
  exact ⟨rfl, ((Below.refl _ _).alloc (Nat.le_refl _) _).alloc (by simp) _⟩
theorem next_at (i o : Int) (s k : Nat) (x y : Int) (row : List Ed) (rs : List (List Ed)) (A : Option Addr) (c : Nat) (w : World) (hr : RdR w A rs) (hs : rs[s]? = some row) (hk : row[k]? = some (x, y)) :
    Calls Try.prog 39 #[.agg #[.int .i64 i, .int .i64 o, .slice A rs.length c], .int .i64 s, .int .i64 k] w fun e w' => e = .returned (.agg #[.int .i64 x, .int .i64 y]) ∧ Below w.heap.size w w' := by
  have hsl : s < rs.length := (List.getElem?_eq_some_iff.1 hs).1
  have hkl : k < row.length := (List.getElem?_eq_some_iff.1 hk).1
  obtain ⟨b, off, B, d, n, row', rfl, hb, hc, _, _, _, hp, hn, hq⟩ := hr.at_ hsl
  have hq := hq.out
  rw [hs] at hq
  injection hq with hq
  subst hq
  have hn := hn.out
  subst hn
  obtain ⟨b2, off2, x', y', rfl, hb2, h1, h2, hq⟩ := hp.at_ hkl
  have hq := hq.out
  rw [hk] at hq
  injection hq with hq
  injection hq with e1 e2
  subst e1 e2
  go_enter Try.func39, Try.ntmps39
  go_wp2
  go_returns
  exact ⟨rfl, ((Below.refl _ _).alloc (Nat.le_refl _) _).alloc (by simp) _⟩
theorem next_any (m : Ma) (s k : Int) (A : Option Addr) (c : Nat) (w : World) (v : Mc.Val m) (hr : RdR w A m.r) (hs : Mc.St m s) (hk : 0 ≤ k ∧ k < m.i) :
    Calls Try.prog 39 #[.agg #[.int .i64 m.i, .int .i64 m.o, .slice A m.r.length c], .int .i64 s, .int .i64 k] w fun e w' => e = .returned (.agg #[.int .i64 (Mc.nx m s k).1, .int .i64 (Mc.nx m s k).2]) ∧ Below w.heap.size w w' := by
  rcases hs with rfl | ⟨h1, h2⟩
  · rw [Mc.nx_neg (by omega)]
    exact next_neg _ _ _ _ _ _ _ _ (by omega)
  · obtain ⟨s, rfl⟩ := Int.eq_ofNat_of_zero_le h1
    obtain ⟨k, rfl⟩ := Int.eq_ofNat_of_zero_le hk.1
    have hl : s < m.r.length := by omega
    have hrow := v.len m.r[s] (List.getElem_mem hl)
    have hil : k < (m.r[s]).length := by omega
    rw [Mc.nx_at (List.getElem?_eq_getElem hl) (List.getElem?_eq_getElem hil)]
    exact next_at m.i m.o s k _ _ _ m.r A c w hr (List.getElem?_eq_getElem hl) (List.getElem?_eq_getElem hil)

set_option maxRecDepth 100000 in
set_option maxHeartbeats 4000000 in
theorem rmcheck_any (m : Ma) (A : Option Addr) (c : Nat) (w : World) (hr : RdR w A m.r) (hl : m.r.length ≤ 1000000) :
    Calls Try.prog 33 #[.agg #[.int .i64 m.i, .int .i64 m.o, .slice A m.r.length c]] w fun e w' => e = .returned (.int .i64 (Mc.chk m)) ∧ Below w.heap.size w w' := by
  obtain ⟨i, o, rs⟩ := m
  simp only at hr hl ⊢
  by_cases h1 : 16 < i
  · have hf : Hid (Mc.chk ⟨i, o, rs⟩ = 3) := Mc.chk_limit (.inl h1)
    go_enter Try.func33, Try.ntmps33
    go_wp2
    go_ret
    exact ⟨ret_int hf.out.symm, (Below.refl _ _).alloc (Nat.le_refl _) _⟩
  by_cases h2 : 16 < o
  · have hf : Hid (Mc.chk ⟨i, o, rs⟩ = 3) := Mc.chk_limit (.inr (.inl h2))
    go_enter Try.func33, Try.ntmps33
    go_wp2
    go_ret
    exact ⟨ret_int hf.out.symm, (Below.refl _ _).alloc (Nat.le_refl _) _⟩
  by_cases h3 : 64 < (rs.length : Int)
  · have hf : Hid (Mc.chk ⟨i, o, rs⟩ = 3) := Mc.chk_limit (.inr (.inr (by simp only; omega)))
    go_enter Try.func33, Try.ntmps33
    go_wp2
    go_ret
    exact ⟨ret_int hf.out.symm, (Below.refl _ _).alloc (Nat.le_refl _) _⟩
  by_cases h4 : i < 1
  · have hf : Hid (Mc.chk ⟨i, o, rs⟩ = 1) := Mc.chk_arg (by simp only; omega) (.inl h4)
    go_enter Try.func33, Try.ntmps33
    go_wp2
    go_ret
    exact ⟨ret_int hf.out.symm, (Below.refl _ _).alloc (Nat.le_refl _) _⟩
  by_cases h5 : o < 1
  · have hf : Hid (Mc.chk ⟨i, o, rs⟩ = 1) := Mc.chk_arg (by simp only; omega) (.inr (.inl h5))
    go_enter Try.func33, Try.ntmps33
    go_wp2
    go_ret
    exact ⟨ret_int hf.out.symm, (Below.refl _ _).alloc (Nat.le_refl _) _⟩
  by_cases h6 : rs = []
  · have hf : Hid (Mc.chk ⟨i, o, rs⟩ = 1) := Mc.chk_arg (by simp only; omega) (.inr (.inr (by simp [h6])))
    have h6' : ((rs.length : Int) == 0) = true := by rw [h6]; rfl
    clear h6
    go_enter Try.func33, Try.ntmps33
    go_wp2
    go_ret
    exact ⟨ret_int hf.out.symm, (Below.refl _ _).alloc (Nat.le_refl _) _⟩
  have h6' : ((rs.length : Int) == 0) = false := by
    rw [beq_eq_false_iff_ne]
    have := List.length_pos_iff.2 h6
    omega
  have hall : Hid (Mc.chk ⟨i, o, rs⟩ = if rs.all (Mc.okR rs.length i o) then 0 else 1) := Mc.chk_in (by simp only; omega) (by simp only; have := List.length_pos_iff.2 h6; omega)
  clear h6
  go_enter Try.func33, Try.ntmps33
  go_wp2
  go_loopw [3] (fun v wr => ∃ k : Nat, k ≤ rs.length ∧ v = .int .i64 k ∧ Hid ((rs.take k).all (Mc.okR rs.length i o) = true) ∧ Below (w.heap.size + 1) (boxM w i o A rs.length c) wr) (fun v _ => rs.length - (intOf v).toNat)
  case atStart => exact ⟨0, Nat.zero_le _, rfl, by simp [Hid], Below.refl _ _⟩
  case round =>
    obtain ⟨k, hk, rfl, hn, hbr⟩ := hrel
    obtain ⟨q0, q1, q2⟩ := box_cells hbr
    have hsz := box_size hbr
    by_cases hlt : k < rs.length
    · obtain ⟨b, off, B, d, n, row, rfl, hb, hcw, _, _, _, hpw, hln, hq⟩ := hr.at_ hlt
      have hc := ((bcell (box_below hbr)).1 b (off + k) hb).trans hcw
      have hbd : Hid (Mc.okR rs.length i o row = false → Mc.chk ⟨i, o, rs⟩ = 1) := fun h => by
        rw [hall.out, Mc.all_hit hq.out h]; rfl
      by_cases hni : (n : Int) = i
      · have hnb : ((n : Int) == i) = true := by rw [hni]; exact beq_self_eq_true _
        have hrow : Hid ((row.length : Int) = i) := by have := hln.out; rw [this]; exact hni
        go_wp2
        go_quiet (fail)
        go_wp2
        obtain ⟨wo, rfl⟩ : ∃ wo : World, wo = wr := ⟨_, rfl⟩
        go_loopw [4] (fun v wr => ∃ j : Nat, j ≤ n ∧ v = .int .i64 j ∧ Hid ((row.take j).all (Mc.okE rs.length o) = true) ∧ Below (w.heap.size + 1) (boxM w i o (some ⟨b, off, none⟩) rs.length c) wr) (fun v _ => n - (intOf v).toNat)
        case atStart => exact ⟨0, Nat.zero_le _, rfl, by simp [Hid], below_drewN' hbr _⟩
        case round =>
          obtain ⟨j, hj, rfl, hnj, hbr2⟩ := hrel
          clear q0 q1 q2 hsz
          obtain ⟨q0, q1, q2⟩ := box_cells hbr2
          have hsz := box_size hbr2
          have hc2 := ((bcell (box_below hbr2)).1 b (off + k) hb).trans hcw
          by_cases hjl : j < n
          · obtain ⟨b2, off2, x, y, rfl, hb2, hx0, hy0, hqe⟩ := hpw.at_ (k := j) (by rw [hln.out]; exact hjl)
            have hx := ((bcell (box_below hbr2)).1 b2 (off2 + j * 2) hb2).trans hx0
            have hy := ((bcell (box_below hbr2)).1 b2 (off2 + j * 2 + 1) hb2).trans hy0
            have hji : (j : Int) < i := by omega
            have hout : Hid (Mc.okE rs.length o (x, y) = false → Mc.chk ⟨i, o, rs⟩ = 1) := fun h => hbd.out (Mc.okR_bad hqe.out h)
            have hin : Hid (Mc.okE rs.length o (x, y) = true → (row.take (j + 1)).all (Mc.okE rs.length o) = true) := fun h => Mc.all_snoc hqe.out hnj.out h
            clear hbd hall hnj
            have hb3 : Below (w.heap.size + 1) (boxM w i o (some ⟨b, off, none⟩) rs.length c) (wr.alloc (.cells #[.int .i64 x, .int .i64 y] 49)) := hbr2.alloc hsz _
            obtain ⟨p0, p1, p2⟩ := box_cells hb3
            by_cases e1 : x = -1
            · by_cases e2 : y = -1
              · have hgo := Lib.hid (hin.out (Mc.okE_none e1 e2))
                subst e1 e2
                go_wp2
                go_roundw
                case rel => exact ⟨j + 1, by omega, by go_num, hgo, hb3⟩
                case measure => simp [intOf]; omega
              · have e2' : (y == -1) = false := by rw [beq_eq_false_iff_ne]; exact e2
                have hf := Lib.hid (hout.out (Mc.okE_out (fun h => e2 h.2) (.inl (by omega))))
                subst e1
                go_wp2
                go_ret
                exact ⟨ret_int hf.out.symm, box_below hb3⟩
            · have e1' : (x == -1) = false := by rw [beq_eq_false_iff_ne]; exact e1
              by_cases g1 : x < 0
              · have hf := Lib.hid (hout.out (Mc.okE_out (fun h => e1 h.1) (.inl g1)))
                go_wp2
                go_ret
                exact ⟨ret_int hf.out.symm, box_below hb3⟩
              by_cases g2 : (rs.length : Int) ≤ x
              · have hf := Lib.hid (hout.out (Mc.okE_out (fun h => e1 h.1) (.inr (.inl g2))))
                go_wp2
                go_ret
                exact ⟨ret_int hf.out.symm, box_below hb3⟩
              by_cases g3 : y < 0
              · have hf := Lib.hid (hout.out (Mc.okE_out (fun h => e1 h.1) (.inr (.inr (.inl g3)))))
                go_wp2
                go_ret
                exact ⟨ret_int hf.out.symm, box_below hb3⟩
              by_cases g4 : o ≤ y
              · have hf := Lib.hid (hout.out (Mc.okE_out (fun h => e1 h.1) (.inr (.inr (.inr g4)))))
                go_wp2
                go_ret
                exact ⟨ret_int hf.out.symm, box_below hb3⟩
              have hgo := Lib.hid (hin.out (Mc.okE_in (by simp only; omega) (by simp only; omega) (by simp only; omega) (by simp only; omega)))
              go_wp2
              go_roundw
              case rel => exact ⟨j + 1, by omega, by go_num, hgo, hb3⟩
              case measure => simp [intOf]; omega
          · have hji : ¬ (j : Int) < i := by omega
            have hgo : Hid ((rs.take (k + 1)).all (Mc.okR rs.length i o) = true) := by
              have h := hnj.out
              rw [List.take_of_length_le (by rw [hln.out]; omega)] at h
              exact Mc.all_snoc hq.out hn.out (Mc.okR_ok hrow.out h)
            go_wp2
            go_roundw
            case rel => exact ⟨k + 1, by omega, by go_num, hgo, hbr2⟩
            case measure => simp [intOf]; omega
      · have hnb : ((n : Int) == i) = false := by rw [beq_eq_false_iff_ne]; exact hni
        have hf : Hid (Mc.chk ⟨i, o, rs⟩ = 1) := hbd.out (Mc.okR_len (by rw [hln.out]; exact hni))
        clear hbd hall
        go_wp2
        go_quiet (fail)
        go_wp2
        go_ret
        exact ⟨ret_int hf.out.symm, below_drewN' (box_below hbr) _⟩
    · have hf : Hid (Mc.chk ⟨i, o, rs⟩ = 0) := by
        have h := hn.out
        rw [List.take_of_length_le (by omega)] at h
        show _ = _
        rw [hall.out, h]; rfl
      go_wp2
      go_ret
      exact ⟨ret_int hf.out.symm, box_below hbr⟩
end Go.Proofs.Ytldpfbmkmehadaa
