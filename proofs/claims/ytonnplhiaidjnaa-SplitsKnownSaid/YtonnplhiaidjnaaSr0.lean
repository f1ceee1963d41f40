/-
  Contracts of Separate, of the program and of the reference, in the words of a law's walk. No statement is proved here.
-/
import Derived.Test.YtonnplhiaidjnaaSbY
import Derived.Test.YtonnplhiaidjnaaStY
import Derived.Deep.RegionHeld3
import Derived.Deep.QuietTactic
import Derived.BigQuiet
namespace Go.Proofs.Ytonnplhiaidjnaa
open Go.RowKit
open Mc (Ed Ma)

theorem u8_cells {w : World} {K : Nat} {x0 x1 : Int} (h : w.heap[K]? = some (.cells #[.int .u8 x0, .int .u8 x1] 63)) : w.cell? ⟨K, 0, none⟩ = some (.int .u8 x0) ∧ w.cell? ⟨K, 1, none⟩ = some (.int .u8 x1) :=
  ⟨by rw [cell_of_row _ _ _ _ _ _ h]; rfl, by rw [cell_of_row _ _ _ _ _ _ h]; rfl⟩
section
variable (m : Ma) (i : Nat) (o : Int) (A : Option Addr) (n c : Nat) (w : World)
theorem separate_b (s t L : Nat) (b : Bool) (v : Mc.Val m) (hi : m.i = i) (ho : m.o = o) (hn : m.r.length = n) (hr : RdR w A m.r) (hs : s < n) (ht : t < n) (hL : Mc.sl m s t = L) (hb : decide (0 < L) = b) :
    Calls Try.prog 33 #[.agg #[.int .i64 i, .int .i64 o, .slice A n c], .int .i64 s, .int .i64 t] w fun e w' => ∃ B, e = .returned (.tuple #[.slice B L L, .bool b, .int .i64 0]) ∧ Rd w' B (Mc.sepw m s t) ∧ Below w.heap.size w w' := by
  subst hb
  refine (separate_ok m i o A n c w s t L v hi ho hn hr hs ht hL).mono ?_
  rintro e w' ⟨B, rfl, h1, h2⟩
  exact ⟨_, rfl, h1, h2⟩
theorem rseparate_b (s t L : Nat) (b : Bool) (v : Mc.Val m) (hi : m.i = i) (ho : m.o = o) (hn : m.r.length = n) (hr : RdR w A m.r) (hs : s < n) (ht : t < n) (hL : Mc.sl m s t = L) (hb : decide (0 < L) = b) :
    Calls Try.prog 34 #[.agg #[.int .i64 i, .int .i64 o, .slice A n c], .int .i64 s, .int .i64 t] w fun e w' => ∃ B d, e = .returned (.tuple #[.slice B L d, .bool b]) ∧ Rd w' B (Mc.sepw m s t) ∧ Below w.heap.size w w' := by
  subst hb
  exact rseparate_any m i o A n c w s t L v hi ho hn hr hs ht hL
end
end Go.Proofs.Ytonnplhiaidjnaa
