/-
  The regions of the law's own lives, taken out of the translation by a function. No statement is proved here.
-/
import Derived.Test.YtiohfflkolopeaaMc11
namespace Go.Proofs.Ytiohfflkolopeaa
open Go.RowKit
def findRegion (k : Nat) : Code → Option Code
  | .region id ops d => if id = k then some (.region id ops d) else none
  | .seq a b => match findRegion k a with
    | some c => some c
    | none => findRegion k b
  | .block _ c => findRegion k c
  | .scope c => findRegion k c
  | .loop c => findRegion k c
  | .cond _ a b => match findRegion k a with
    | some c => some c
    | none => findRegion k b
  | _ => none
noncomputable def liveReg (k : Nat) : Code := ((Try.f25.body.bind (findRegion k)).getD .skip)
end Go.Proofs.Ytiohfflkolopeaa
