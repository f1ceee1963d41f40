/-
  Contracts of the reference of layer 7: Classes. No statement is proved here.
-/
import Derived.Test.YtonnplhiaidjnaaRf6
namespace Go.Proofs.Ytonnplhiaidjnaa
open Go.RowKit
open Mc (Ed Ma)

set_option maxRecDepth 100000 in
theorem rclasses_any (m : Ma) (i : Nat) (o : Int) (A : Option Addr) (n c : Nat) (w : World) (v : Mc.Val m) (hi : m.i = i) (hn : m.r.length = n) (hr : RdR w A m.r) :
    Calls Try.prog 17 #[.agg #[.int .i64 i, .int .i64 o, .slice A n c]] w fun e w' => ∃ B q, e = .returned (.slice B n q) ∧ Rd w' B (Mc.cls m) ∧ Below w.heap.size w w' := by
  have EB : Below w.heap.size w (boxM w i o A n c) := (Below.refl _ _).alloc (Nat.le_refl _) _
  have h1 := v.r0
  have h64 := v.r1
  have C1 := rrounds_any m i n o A n c _ v hi hn (hr.below EB) (by omega)
  rw [show Mc.rnd m n = Mc.cls m by rw [← hn]; exact Mc.cls_all (by omega)] at C1
  obtain ⟨m0, m1, m2⟩ := BxM.cells (BxM.new w i o A n c)
  have HB := Lib.hid EB
  clear EB v hi hn hr
  go_enter Try.func17, Try.ntmps17
  go_wp2_with fail
  refine C1.mono ?_
  rintro e w1 ⟨X, q, rfl, hx, hb1⟩
  go_wp2_with fail
  go_ret
  exact ⟨X, q, rfl, hx, below_next HB.out hb1⟩
end Go.Proofs.Ytonnplhiaidjnaa
