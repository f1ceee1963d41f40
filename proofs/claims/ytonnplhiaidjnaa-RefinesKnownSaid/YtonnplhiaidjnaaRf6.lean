/-
  Contracts of the reference of layer 7: Rounds, Classes. No statement is proved here.
-/
import Derived.Test.YtonnplhiaidjnaaRf5
import Derived.Deep.QuietTactic
import Derived.BigQuiet
namespace Go.Proofs.Ytonnplhiaidjnaa
open Go.RowKit
open Mc (Ed Ma)

set_option maxRecDepth 100000 in
theorem rrounds_any (m : Ma) (i k : Nat) (o : Int) (A : Option Addr) (n c : Nat) (w : World) (v : Mc.Val m) (hi : m.i = i) (hn : m.r.length = n) (hr : RdR w A m.r) (hk6 : k ≤ 1000000) :
    Calls Try.prog 19 #[.agg #[.int .i64 i, .int .i64 o, .slice A n c], .int .i64 k] w fun e w' => ∃ B q, e = .returned (.slice B n q) ∧ Rd w' B (Mc.rnd m k) ∧ Below w.heap.size w w' := by
  have EB : Below w.heap.size w (boxM w i o A n c) := (Below.refl _ _).alloc (Nat.le_refl _) _
  have C1 := marked_any m i k o A n c _ v hi hn (hr.below EB) hk6
  obtain ⟨m0, m1, m2⟩ := BxM.cells (BxM.new w i o A n c)
  have HB := Lib.hid EB
  have hrl := Lib.hid (Mc.rnd_len m k)
  have hn64 : n ≤ 64 := by have := v.r1; omega
  have HN := Lib.hid hn
  clear EB v hi hn hr
  go_enter Try.func19, Try.ntmps19
  go_wp2_with fail
  refine C1.mono ?_
  rintro e w1 ⟨X, q, rfl, hx, hb1⟩
  clear C1 m0 m1 m2
  have hbF := Lib.hid (below_next HB.out hb1)
  have C2 := partition_any X n q (Mc.rnd m k) w1 hx (Mc.rnd_vd m k) (by rw [hrl.out]; exact HN.out) hn64
  clear hx hb1
  go_wp2_with fail
  refine C2.mono ?_
  rintro e w2 ⟨B, q2, rfl, hrd, hb2⟩
  go_wp2_with fail
  go_ret
  exact ⟨B, q2, rfl, hrd, below_next hbF.out hb2⟩
end Go.Proofs.Ytonnplhiaidjnaa
