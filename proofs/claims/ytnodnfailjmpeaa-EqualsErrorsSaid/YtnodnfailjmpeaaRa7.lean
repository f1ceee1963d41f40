/-
  Contracts: refines.Equivalent, refines.Respects.
-/
import Derived.Test.YtnodnfailjmpeaaRa6
import Derived.Deep.QuietTactic
import Derived.BigQuiet
namespace Go.Proofs.Ytnodnfailjmpeaa
open Go.RowKit
open Mc (Ed Ma)

namespace Mc
/-- Both numbers are states. -/
def inR (m : Ma) (s t : Int) : Prop := 0 ≤ s ∧ 0 ≤ t ∧ s < m.r.length ∧ t < m.r.length
instance (m : Ma) (s t : Int) : Decidable (inR m s t) := inferInstanceAs (Decidable (_ ∧ _ ∧ _ ∧ _))
/-- What Equivalent gives. -/
noncomputable def eqV (m : Ma) (s t : Int) : Bool := decide (chk m = 0) && decide (inR m s t) && (M.gz (cls m) s.toNat == M.gz (cls m) t.toNat)
def eqE (m : Ma) (s t : Int) : Int := if chk m = 0 then (if inR m s t then 0 else 1) else chk m
/-- What Respects gives. -/
def rsE (m : Ma) (p : List Int) : Int := if chk m = 0 then (if M.pck p = 0 then (if p.length = m.r.length then 0 else 16) else M.pck p) else chk m
def rsV (m : Ma) (p : List Int) : Bool := decide (rsE m p = 0) && (rfd m p == p)
end Mc

end Go.Proofs.Ytnodnfailjmpeaa
