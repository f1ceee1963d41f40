/-
  Contracts of package quotients: Proper. No statement is proved here.
-/
import Derived.Test.YtnodnfailjmpeaaQbZ
import Derived.Test.YtnodnfailjmpeaaQcZ
namespace Go.Proofs.Ytnodnfailjmpeaa
open Go.RowKit
open Mc (Ed Ma)

section
variable (i o : Int) (rs : List (List Ed)) (A : Option Addr) (n c g : Nat) (w : World)
set_option maxRecDepth 100000 in
theorem proper1 (hb : BxM w g i o A n c) (hr : RdR w A rs) (hn : rs.length = n) (hnb : n ≤ 1000000) (hrl : ∀ row ∈ rs, row.length ≤ 1000000) :
    Calls Try.prog 78 #[.pointer (some ⟨g, 0, none⟩)] w fun e w' => e = .returned (.tuple #[.bool (Mc.cmpV ⟨i, o, rs⟩), .int .i64 (Mc.chk ⟨i, o, rs⟩)]) ∧ Below w.heap.size w w' := by
  have C := pcomplete_any i o rs A n c w hr hn hnb hrl
  obtain ⟨q0, q1, q2⟩ := hb.cells
  clear hb hr hn hnb hrl
  go_enter Try.func78, Try.ntmps78
  go_wp2_with fail
  refine C.mono ?_
  rintro e w1 ⟨rfl, hb1⟩
  clear q0 q1 q2 C
  go_wp2
  go_ret2
  exact ⟨rfl, hb1⟩
set_option maxRecDepth 100000 in
theorem proper2 (hb : BxM w g i o A n c) (hr : RdR w A rs) (hn : rs.length = n) (hnb : n ≤ 1000000) (hrl : ∀ row ∈ rs, row.length ≤ 1000000) :
    Calls Try.prog 80 #[.pointer (some ⟨g, 0, none⟩)] w fun e w' => e = .returned (.tuple #[.bool (Mc.conV ⟨i, o, rs⟩), .int .i64 (Mc.chk ⟨i, o, rs⟩)]) ∧ Below w.heap.size w w' := by
  have C := pconnected_any i o rs A n c w hr hn hnb hrl
  obtain ⟨q0, q1, q2⟩ := hb.cells
  clear hb hr hn hnb hrl
  go_enter Try.func80, Try.ntmps80
  go_wp2_with fail
  refine C.mono ?_
  rintro e w1 ⟨rfl, hb1⟩
  clear q0 q1 q2 C
  go_wp2
  go_ret2
  exact ⟨rfl, hb1⟩
end
section
variable (m : Ma) (i o : Int) (A : Option Addr) (n c g : Nat) (w : World)
set_option maxRecDepth 100000 in
theorem proper3 (b : Bool) (v : Mc.Val m) (hi : m.i = i) (ho : m.o = o) (hn : m.r.length = n) (hbb : decide ((Mc.qn m).r.length = n) = b) (hb : BxM w g i o A n c) (hr : RdR w A m.r) :
    Calls Try.prog 82 #[.pointer (some ⟨g, 0, none⟩)] w fun e w' => e = .returned (.tuple #[.bool b, .int .i64 0]) ∧ Below w.heap.size w w' := by
  have C := qis_at m i o A n c w b v hi ho hn hbb hr
  obtain ⟨q0, q1, q2⟩ := hb.cells
  clear hb hr hn hi ho v hbb
  go_enter Try.func82, Try.ntmps82
  go_wp2_with fail
  refine C.mono ?_
  rintro e w1 ⟨rfl, hb1⟩
  clear q0 q1 q2 C
  go_wp2
  go_ret2
  exact ⟨rfl, hb1⟩
end
namespace Mc
/-- What a machine lacks to be proper. -/
noncomputable def prp (m : Ma) : Int := if cmpV m = false then 9 else if conV m = false then 11 else if (qn m).r.length = m.r.length then 0 else 12
end Mc
attribute [local go_sem] run_store_func
/-- The needs of a proper machine, as a value. -/
abbrev nds (F1 F2 F3 : Value) : Value := .agg #[F1, .int .i64 9, F2, .int .i64 11, F3, .int .i64 12]
abbrev nd (k g : Nat) : Value := .func (Fn.func k) #[] #[.pointer (some ⟨g, 0, none⟩)]
theorem run_nd0 (F1 F2 F3 : Value) (w : World) : (Instr.index 129 (nds F1 F2 F3) (.int .i64 0)).run Try.prog w = .ok (.agg #[F1, .int .i64 9]) w := by kernel_rfl
theorem run_nd1 (F1 F2 F3 : Value) (w : World) : (Instr.index 129 (nds F1 F2 F3) (.int .i64 1)).run Try.prog w = .ok (.agg #[F2, .int .i64 11]) w := by kernel_rfl
theorem run_nd2 (F1 F2 F3 : Value) (w : World) : (Instr.index 129 (nds F1 F2 F3) (.int .i64 2)).run Try.prog w = .ok (.agg #[F3, .int .i64 12]) w := by kernel_rfl
set_option maxRecDepth 100000 in
set_option maxHeartbeats 4000000 in
theorem qproper_err (i o : Int) (rs : List (List Ed)) (A : Option Addr) (n c : Nat) (w : World) (z : Int) (hr : RdR w A rs) (hn : rs.length = n) (hnb : n ≤ 1000000) (hrl : ∀ row ∈ rs, row.length ≤ 1000000) (hzz : Mc.chk ⟨i, o, rs⟩ = z) (hz : z ≠ 0) :
    Calls Try.prog 49 #[.agg #[.int .i64 i, .int .i64 o, .slice A n c]] w fun e w' => e = .returned (.int .i64 z) ∧ Below w.heap.size w w' := by
  have hb0 : Below w.heap.size w (boxM w i o A n c) := (Below.refl _ _).alloc (Nat.le_refl _) _
  have s0 : MT w (boxM w i o A n c) [] := MT.next MT.start hb0
  obtain ⟨h0, hh0⟩ : ∃ h0, w.heap.size = h0 := ⟨_, rfl⟩
  have s1 := MT.alloc (MK.putR (MK.putB s0 (BxM.new w i o A n c)) (hr.below hb0)) (.cells #[nd 78 w.heap.size, .int .i64 9, nd 80 w.heap.size, .int .i64 11, nd 82 w.heap.size, .int .i64 12] 129)
  have HN := Lib.hid hn
  have HZ := Lib.hid hzz
  have HL := Lib.hid hrl
  have hzn : (z != 0) = true := by simpa using hz
  have hzb : (z == 0) = false := by rw [beq_eq_false_iff_ne]; exact hz
  clear hn hzz hrl hr hb0 s0
  go_enter Try.func49, Try.ntmps49
  go_upto_region 2 with fail
  rw [hh0] at s1
  obtain ⟨W0, hW0⟩ : ∃ W0, (w.alloc (.cells #[.int .i64 i, .int .i64 o, .slice A n c] 24)).alloc (.cells #[.func (Fn.func 78) #[] #[.pointer (some ⟨h0, 0, none⟩)], .int .i64 9, .func (Fn.func 80) #[] #[.pointer (some ⟨h0, 0, none⟩)], .int .i64 11, .func (Fn.func 82) #[] #[.pointer (some ⟨h0, 0, none⟩)], .int .i64 12] 129) = W0 := ⟨_, rfl⟩
  have hrow : W0.heap[h0 + 1]? = some (.cells #[nd 78 h0, .int .i64 9, nd 80 h0, .int .i64 11, nd 82 h0, .int .i64 12] 129 (0, 0)) := by
    rw [← hW0]
    have h9 := heap_alloc_new (w.alloc (.cells #[.int .i64 i, .int .i64 o, .slice A n c] 24)) (.cells #[nd 78 h0, .int .i64 9, nd 80 h0, .int .i64 11, nd 82 h0, .int .i64 12] 129)
    rw [World.size_alloc, hh0] at h9
    exact h9
  have x0 : W0.cell? ⟨h0 + 1, 0, none⟩ = some (nd 78 h0) := by rw [cell_of_row _ _ _ _ _ _ hrow]; rfl
  have x1 : W0.cell? ⟨h0 + 1, 1, none⟩ = some (.int .i64 9) := by rw [cell_of_row _ _ _ _ _ _ hrow]; rfl
  have x2 : W0.cell? ⟨h0 + 1, 2, none⟩ = some (nd 80 h0) := by rw [cell_of_row _ _ _ _ _ _ hrow]; rfl
  have x3 : W0.cell? ⟨h0 + 1, 3, none⟩ = some (.int .i64 11) := by rw [cell_of_row _ _ _ _ _ _ hrow]; rfl
  have x4 : W0.cell? ⟨h0 + 1, 4, none⟩ = some (nd 82 h0) := by rw [cell_of_row _ _ _ _ _ _ hrow]; rfl
  have x5 : W0.cell? ⟨h0 + 1, 5, none⟩ = some (.int .i64 12) := by rw [cell_of_row _ _ _ _ _ _ hrow]; rfl
  rw [show (boxM w i o A n c).alloc _ = W0 from hW0] at s1
  rw [hW0]
  clear hW0 hrow
  go_wp2
  have hs0 := Lib.hid s1
  clear s1
  go_loopw [16] (fun v wr => v = .int .i64 0 ∧ Hid (MT w wr [fun w => RdR w A rs, fun w => BxM w h0 i o A n c])) (fun _ _ => 0)
  case atStart => exact ⟨rfl, hs0⟩
  case round =>
    obtain ⟨rfl, hs⟩ := hrel
    clear hs0 x0 x1 x2 x3 x4 x5
    have HI0 := fun w => run_nd0 (nd 78 h0) (nd 80 h0) (nd 82 h0) w
    have s2 := MT.alloc hs.out (.cells #[nd 78 h0, .int .i64 9] 128)
    have C := proper1 i o rs A n c h0 _ (MK.get s2 1 rfl) (MK.get s2 0 rfl) HN.out hnb HL.out
    obtain ⟨β, hval⟩ : ∃ β, Mc.cmpV ⟨i, o, rs⟩ = β := ⟨_, rfl⟩
    rw [HZ.out, hval] at C
    clear hs hval
    go_wp2_with fail
    refine C.mono ?_
    rintro e w1 ⟨rfl, hb1⟩
    have hfin := Lib.hid (MT.next s2 hb1).2.1
    clear s2 HI0 C hb1
    go_wp2
    go_ret
    exact ⟨rfl, hfin.out⟩
set_option maxRecDepth 100000 in
set_option maxHeartbeats 4000000 in
theorem qproper_at (m : Ma) (i o : Int) (A : Option Addr) (n c : Nat) (w : World) (z : Int) (v : Mc.Val m) (hi : m.i = i) (ho : m.o = o) (hn : m.r.length = n) (hz : Mc.prp m = z) (hr : RdR w A m.r) :
    Calls Try.prog 49 #[.agg #[.int .i64 i, .int .i64 o, .slice A n c]] w fun e w' => e = .returned (.int .i64 z) ∧ Below w.heap.size w w' := by
  have hb0 : Below w.heap.size w (boxM w i o A n c) := (Below.refl _ _).alloc (Nat.le_refl _) _
  have s0 : MT w (boxM w i o A n c) [] := MT.next MT.start hb0
  obtain ⟨h0, hh0⟩ : ∃ h0, w.heap.size = h0 := ⟨_, rfl⟩
  have s1 := MT.alloc (MK.putR (MK.putB s0 (BxM.new w i o A n c)) (hr.below hb0)) (.cells #[nd 78 w.heap.size, .int .i64 9, nd 80 w.heap.size, .int .i64 11, nd 82 w.heap.size, .int .i64 12] 129)
  have hn64 : n ≤ 64 := by rw [← hn]; exact v.r1
  have HV := Lib.hid v
  have HI := Lib.hid hi
  have HO := Lib.hid ho
  have HN := Lib.hid hn
  have HZ := Lib.hid hz
  clear v hi ho hn hz hr hb0 s0
  go_enter Try.func49, Try.ntmps49
  go_upto_region 2 with fail
  rw [hh0] at s1
  obtain ⟨W0, hW0⟩ : ∃ W0, (w.alloc (.cells #[.int .i64 i, .int .i64 o, .slice A n c] 24)).alloc (.cells #[.func (Fn.func 78) #[] #[.pointer (some ⟨h0, 0, none⟩)], .int .i64 9, .func (Fn.func 80) #[] #[.pointer (some ⟨h0, 0, none⟩)], .int .i64 11, .func (Fn.func 82) #[] #[.pointer (some ⟨h0, 0, none⟩)], .int .i64 12] 129) = W0 := ⟨_, rfl⟩
  have hrow : W0.heap[h0 + 1]? = some (.cells #[nd 78 h0, .int .i64 9, nd 80 h0, .int .i64 11, nd 82 h0, .int .i64 12] 129 (0, 0)) := by
    rw [← hW0]
    have h9 := heap_alloc_new (w.alloc (.cells #[.int .i64 i, .int .i64 o, .slice A n c] 24)) (.cells #[nd 78 h0, .int .i64 9, nd 80 h0, .int .i64 11, nd 82 h0, .int .i64 12] 129)
    rw [World.size_alloc, hh0] at h9
    exact h9
  have x0 : W0.cell? ⟨h0 + 1, 0, none⟩ = some (nd 78 h0) := by rw [cell_of_row _ _ _ _ _ _ hrow]; rfl
  have x1 : W0.cell? ⟨h0 + 1, 1, none⟩ = some (.int .i64 9) := by rw [cell_of_row _ _ _ _ _ _ hrow]; rfl
  have x2 : W0.cell? ⟨h0 + 1, 2, none⟩ = some (nd 80 h0) := by rw [cell_of_row _ _ _ _ _ _ hrow]; rfl
  have x3 : W0.cell? ⟨h0 + 1, 3, none⟩ = some (.int .i64 11) := by rw [cell_of_row _ _ _ _ _ _ hrow]; rfl
  have x4 : W0.cell? ⟨h0 + 1, 4, none⟩ = some (nd 82 h0) := by rw [cell_of_row _ _ _ _ _ _ hrow]; rfl
  have x5 : W0.cell? ⟨h0 + 1, 5, none⟩ = some (.int .i64 12) := by rw [cell_of_row _ _ _ _ _ _ hrow]; rfl
  rw [show (boxM w i o A n c).alloc _ = W0 from hW0] at s1
  rw [hW0]
  clear hW0 hrow
  go_wp2
  have hs0 := Lib.hid s1
  clear s1
  go_loopw [16] (fun v wr => ∃ j : Nat, j ≤ 3 ∧ v = .int .i64 j ∧ (1 ≤ j → Hid (Mc.cmpV m = true)) ∧ (2 ≤ j → Hid (Mc.conV m = true)) ∧ (3 ≤ j → Hid ((Mc.qn m).r.length = m.r.length)) ∧ Hid (MT w wr [fun w => RdR w A m.r, fun w => BxM w h0 i o A n c])) (fun v _ => 3 - (intOf v).toNat)
  case atStart => exact ⟨0, by omega, rfl, fun h => absurd h (by omega), fun h => absurd h (by omega), fun h => absurd h (by omega), hs0⟩
  case round =>
    obtain ⟨j, hj, rfl, h1, h2, h3, hs⟩ := hrel
    clear hs0 x0 x1 x2 x3 x4 x5
    have hj3 : j = 0 ∨ j = 1 ∨ j = 2 ∨ j = 3 := by omega
    rcases hj3 with rfl | rfl | rfl | rfl
    · have HI0 := fun w => run_nd0 (nd 78 h0) (nd 80 h0) (nd 82 h0) w
      have s2 := MT.alloc hs.out (.cells #[nd 78 h0, .int .i64 9] 128)
      have C := proper1 i o m.r A n c h0 _ (MK.get s2 1 rfl) (MK.get s2 0 rfl) HN.out (by omega) HV.out.rows
      have hch : Mc.chk ⟨i, o, m.r⟩ = 0 := by rw [← HI.out, ← HO.out]; exact Mc.chk_of HV.out
      rw [hch] at C
      obtain ⟨β, hval⟩ : ∃ β, Mc.cmpV ⟨i, o, m.r⟩ = β := ⟨_, rfl⟩
      have hβ : Hid (Mc.cmpV m = β) := by show _ = _; rw [← hval, ← HI.out, ← HO.out]
      rw [hval] at C
      clear hs
      go_wp2_with fail
      refine C.mono ?_
      rintro e w1 ⟨rfl, hb1⟩
      have s3 := MT.next s2 hb1
      have hbox : ∀ k, (w1.cell? ⟨wr.heap.size, k, none⟩) = ((wr.alloc (.cells #[nd 78 h0, .int .i64 9] 128)).cell? ⟨wr.heap.size, k, none⟩) := fun k => World.cell?_of_block (a := ⟨wr.heap.size, k, none⟩) (hb1.block _ (by simp))
      have y1 : w1.cell? ⟨wr.heap.size, 1, none⟩ = some (.int .i64 9) := by rw [hbox, cell_of_row _ _ _ _ _ _ (heap_alloc_new wr _)]; rfl
      have HS := Lib.hid (show MT w w1 _ from s3)
      have hfin := Lib.hid s3.2.1
      clear s2 s3 hbox HI0 C hb1
      cases β with
      | true =>
        go_wp2
        go_roundw
        case rel => exact ⟨1, by omega, rfl, fun _ => hβ, fun h => absurd h (by omega), fun h => absurd h (by omega), HS⟩
        case measure => simp [intOf]
      | false =>
        have hzv : Hid (z = 9) := by
          show _ = _
          rw [← HZ.out]
          unfold Mc.prp
          rw [hβ.out, if_pos rfl]
        go_wp2
        go_ret
        exact ⟨ret_int hzv.out.symm, hfin.out⟩
    · have HI0 := fun w => run_nd1 (nd 78 h0) (nd 80 h0) (nd 82 h0) w
      have s2 := MT.alloc hs.out (.cells #[nd 80 h0, .int .i64 11] 128)
      have C := proper2 i o m.r A n c h0 _ (MK.get s2 1 rfl) (MK.get s2 0 rfl) HN.out (by omega) HV.out.rows
      have hA := h1 (by omega)
      have hch : Mc.chk ⟨i, o, m.r⟩ = 0 := by rw [← HI.out, ← HO.out]; exact Mc.chk_of HV.out
      rw [hch] at C
      obtain ⟨β, hval⟩ : ∃ β, Mc.conV ⟨i, o, m.r⟩ = β := ⟨_, rfl⟩
      have hβ : Hid (Mc.conV m = β) := by show _ = _; rw [← hval, ← HI.out, ← HO.out]
      rw [hval] at C
      clear hs
      go_wp2_with fail
      refine C.mono ?_
      rintro e w1 ⟨rfl, hb1⟩
      have s3 := MT.next s2 hb1
      have hbox : ∀ k, (w1.cell? ⟨wr.heap.size, k, none⟩) = ((wr.alloc (.cells #[nd 80 h0, .int .i64 11] 128)).cell? ⟨wr.heap.size, k, none⟩) := fun k => World.cell?_of_block (a := ⟨wr.heap.size, k, none⟩) (hb1.block _ (by simp))
      have y1 : w1.cell? ⟨wr.heap.size, 1, none⟩ = some (.int .i64 11) := by rw [hbox, cell_of_row _ _ _ _ _ _ (heap_alloc_new wr _)]; rfl
      have HS := Lib.hid (show MT w w1 _ from s3)
      have hfin := Lib.hid s3.2.1
      clear s2 s3 hbox HI0 C hb1
      cases β with
      | true =>
        go_wp2
        go_roundw
        case rel => exact ⟨2, by omega, rfl, fun _ => hA, fun _ => hβ, fun h => absurd h (by omega), HS⟩
        case measure => simp [intOf]
      | false =>
        have hzv : Hid (z = 11) := by
          show _ = _
          rw [← HZ.out]
          unfold Mc.prp
          rw [hA.out, hβ.out, if_neg (by simp), if_pos rfl]
        go_wp2
        go_ret
        exact ⟨ret_int hzv.out.symm, hfin.out⟩
    · have HI0 := fun w => run_nd2 (nd 78 h0) (nd 80 h0) (nd 82 h0) w
      have s2 := MT.alloc hs.out (.cells #[nd 82 h0, .int .i64 12] 128)
      have C := proper3 m i o A n c h0 _ _ HV.out HI.out HO.out HN.out rfl (MK.get s2 1 rfl) (MK.get s2 0 rfl)
      have hA := h1 (by omega)
      have hB := h2 (by omega)
      obtain ⟨β, hval⟩ : ∃ β, decide ((Mc.qn m).r.length = n) = β := ⟨_, rfl⟩
      have hβ := Lib.hid hval
      have hL : β = true → Hid ((Mc.qn m).r.length = m.r.length) := fun h => by show _ = _; rw [HN.out]; exact of_decide_eq_true (hβ.out.trans h)
      rw [hval] at C
      clear hs
      go_wp2_with fail
      refine C.mono ?_
      rintro e w1 ⟨rfl, hb1⟩
      have s3 := MT.next s2 hb1
      have hbox : ∀ k, (w1.cell? ⟨wr.heap.size, k, none⟩) = ((wr.alloc (.cells #[nd 82 h0, .int .i64 12] 128)).cell? ⟨wr.heap.size, k, none⟩) := fun k => World.cell?_of_block (a := ⟨wr.heap.size, k, none⟩) (hb1.block _ (by simp))
      have y1 : w1.cell? ⟨wr.heap.size, 1, none⟩ = some (.int .i64 12) := by rw [hbox, cell_of_row _ _ _ _ _ _ (heap_alloc_new wr _)]; rfl
      have HS := Lib.hid (show MT w w1 _ from s3)
      have hfin := Lib.hid s3.2.1
      clear s2 s3 hbox HI0 C hb1
      cases β with
      | true =>
        go_wp2
        go_roundw
        case rel => exact ⟨3, by omega, rfl, fun _ => hA, fun _ => hB, fun _ => (by first | exact hL rfl | exact hL trivial), HS⟩
        case measure => simp [intOf]
      | false =>
        have hzv : Hid (z = 12) := by
          show _ = _
          rw [← HZ.out]
          unfold Mc.prp
          rw [hA.out, hB.out, if_neg (by simp), if_neg (by simp), if_neg (by rw [HN.out]; exact of_decide_eq_false hβ.out)]
        go_wp2
        go_ret
        exact ⟨ret_int hzv.out.symm, hfin.out⟩
    · have hzv : Hid (z = 0) := by
        show _ = _
        rw [← HZ.out]
        unfold Mc.prp
        rw [(h1 (by omega)).out, (h2 (by omega)).out, if_neg (by simp), if_neg (by simp), if_pos (h3 (by omega)).out]
      have hfin := Lib.hid hs.out.2.1
      clear hs h1 h2 h3
      go_wp2
      go_ret
      exact ⟨ret_int hzv.out.symm, hfin.out⟩
end Go.Proofs.Ytnodnfailjmpeaa
