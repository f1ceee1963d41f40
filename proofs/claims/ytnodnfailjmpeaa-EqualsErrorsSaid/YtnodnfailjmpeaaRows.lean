/-
  No cell of these rows narrows 'for every input' (looked for: loops, veiled, ifaces, maps, wideKeys, modest, calm, conditions, laid).
  DERIVED. THE GIVEN ROWS OF THIS SEAT. 7 by the template 'for every input the law returns true; each argument reads behind the call as it read before'; 0 by the template 'total and deterministic' (their statements: YtnodnfailjmpeaaTotals.lean).
  GIVEN WITH THE SEED: the statements are not yours to turn. If you find one false, say at which input.
  Laid BY PROGRAM, IN A SANDBOX (cutbox-rows.mjs): the forced cells as the released guide's own fill.sh prints them over the translation bd4f6cead4e80981… (all of the seat's roots in one cut). By AI agents, Wed Nov 11 2026. No macro, syntax, notation, axiom, sorry.
-/
import Derived.Test.YtnodnfailjmpeaaChecked
import GoSem.Claim
import GoSem.ClaimJoined
import GoSem.ClaimMapViews
import Derived.JoinedTies
import Derived.KernelRfl
namespace Go.Proofs.Ytnodnfailjmpeaa
/- THE CELL 'sum', in the pinned program and in every row, IS THE sha256 OF THE DUMP (.gsa) THAT YtnodnfailjmpeaaProg.lean LOADS. Nothing in Lean hashes anything: it is a label: what it is worth is what the hold of that sum in a sandbox is worth. -/
noncomputable def Try.pinned : Pinned := { name := "ytnodnfailjmpeaa", sum := "bd4f6cead4e80981c5eb0a71face3dff17c02296a9ae83c3bdc21f20dd341a2d", checked := Try.checked }
namespace Rows
def none {H : Type} : Left H := { results := [], args := [] }

/-- 'gauntletlaw09.QuotientsKnown': WHATEVER THE INPUT: true; the input reads as it did. -/
def quotientsKnownSpec : ChangeSpec := { name := "quotientsKnown", fn := fun _ => fun
  | [] => { results := [.lit (.bool true)], args := [] }
  | _ => none }
def quotientsKnownRow : OpenClaim := { program := "ytnodnfailjmpeaa", sum := "bd4f6cead4e80981c5eb0a71face3dff17c02296a9ae83c3bdc21f20dd341a2d", func := "gauntlet/gauntletlaw09.QuotientsKnown", spec := "quotientsKnown", unfollowed := true, recurses := true, plainKeys := false, apart := false }
def QuotientsKnownSaid : Prop := quotientsKnownRow.holds Try.pinned (OpenSpec.ofChange quotientsKnownSpec)

/-- ITS FALSE NEIGHBOUR: 'it returns false'. Refute it at one input. -/
def quotientsKnownWrong : ChangeSpec := { name := "quotientsKnown", fn := fun _ => fun
  | [] => { results := [.lit (.bool false)], args := [] }
  | _ => none }
def QuotientsKnownWrongFalsely : Prop := quotientsKnownRow.holds Try.pinned (OpenSpec.ofChange quotientsKnownWrong)

/-- 'gauntletlaw10.EqualsDiffer': WHATEVER THE INPUT: true; the input reads as it did. -/
def equalsDifferSpec : ChangeSpec := { name := "equalsDiffer", fn := fun _ => fun
  | [d] => { results := [.lit (.bool true)], args := [d] }
  | _ => none }
def equalsDifferRow : OpenClaim := { program := "ytnodnfailjmpeaa", sum := "bd4f6cead4e80981c5eb0a71face3dff17c02296a9ae83c3bdc21f20dd341a2d", func := "gauntlet/gauntletlaw10.EqualsDiffer", spec := "equalsDiffer", unfollowed := true, recurses := true, plainKeys := false, apart := false }
def EqualsDifferSaid : Prop := equalsDifferRow.holds Try.pinned (OpenSpec.ofChange equalsDifferSpec)

/-- ITS FALSE NEIGHBOUR: 'it returns false'. Refute it at one input. -/
def equalsDifferWrong : ChangeSpec := { name := "equalsDiffer", fn := fun _ => fun
  | [d] => { results := [.lit (.bool false)], args := [d] }
  | _ => none }
def EqualsDifferWrongFalsely : Prop := equalsDifferRow.holds Try.pinned (OpenSpec.ofChange equalsDifferWrong)

/-- 'gauntletlaw10.EqualsEqual': WHATEVER THE INPUT: true; the input reads as it did. -/
def equalsEqualSpec : ChangeSpec := { name := "equalsEqual", fn := fun _ => fun
  | [d1, d2] => { results := [.lit (.bool true)], args := [d1, d2] }
  | _ => none }
def equalsEqualRow : OpenClaim := { program := "ytnodnfailjmpeaa", sum := "bd4f6cead4e80981c5eb0a71face3dff17c02296a9ae83c3bdc21f20dd341a2d", func := "gauntlet/gauntletlaw10.EqualsEqual", spec := "equalsEqual", unfollowed := true, recurses := true, plainKeys := false, apart := false }
def EqualsEqualSaid : Prop := equalsEqualRow.holds Try.pinned (OpenSpec.ofChange equalsEqualSpec)

/-- ITS FALSE NEIGHBOUR: 'it returns false'. Refute it at one input. -/
def equalsEqualWrong : ChangeSpec := { name := "equalsEqual", fn := fun _ => fun
  | [d1, d2] => { results := [.lit (.bool false)], args := [d1, d2] }
  | _ => none }
def EqualsEqualWrongFalsely : Prop := equalsEqualRow.holds Try.pinned (OpenSpec.ofChange equalsEqualWrong)

/-- 'gauntletlaw10.EqualsWithin': WHATEVER THE INPUT: true; the input reads as it did. -/
def equalsWithinSpec : ChangeSpec := { name := "equalsWithin", fn := fun _ => fun
  | [d1, d2] => { results := [.lit (.bool true)], args := [d1, d2] }
  | _ => none }
def equalsWithinRow : OpenClaim := { program := "ytnodnfailjmpeaa", sum := "bd4f6cead4e80981c5eb0a71face3dff17c02296a9ae83c3bdc21f20dd341a2d", func := "gauntlet/gauntletlaw10.EqualsWithin", spec := "equalsWithin", unfollowed := true, recurses := true, plainKeys := false, apart := false }
def EqualsWithinSaid : Prop := equalsWithinRow.holds Try.pinned (OpenSpec.ofChange equalsWithinSpec)

/-- ITS FALSE NEIGHBOUR: 'it returns false'. Refute it at one input. -/
def equalsWithinWrong : ChangeSpec := { name := "equalsWithin", fn := fun _ => fun
  | [d1, d2] => { results := [.lit (.bool false)], args := [d1, d2] }
  | _ => none }
def EqualsWithinWrongFalsely : Prop := equalsWithinRow.holds Try.pinned (OpenSpec.ofChange equalsWithinWrong)

/-- 'gauntletlaw10.EqualsRelate': WHATEVER THE INPUT: true; the input reads as it did. -/
def equalsRelateSpec : ChangeSpec := { name := "equalsRelate", fn := fun _ => fun
  | [d1, d2] => { results := [.lit (.bool true)], args := [d1, d2] }
  | _ => none }
def equalsRelateRow : OpenClaim := { program := "ytnodnfailjmpeaa", sum := "bd4f6cead4e80981c5eb0a71face3dff17c02296a9ae83c3bdc21f20dd341a2d", func := "gauntlet/gauntletlaw10.EqualsRelate", spec := "equalsRelate", unfollowed := true, recurses := true, plainKeys := false, apart := false }
def EqualsRelateSaid : Prop := equalsRelateRow.holds Try.pinned (OpenSpec.ofChange equalsRelateSpec)

/-- ITS FALSE NEIGHBOUR: 'it returns false'. Refute it at one input. -/
def equalsRelateWrong : ChangeSpec := { name := "equalsRelate", fn := fun _ => fun
  | [d1, d2] => { results := [.lit (.bool false)], args := [d1, d2] }
  | _ => none }
def EqualsRelateWrongFalsely : Prop := equalsRelateRow.holds Try.pinned (OpenSpec.ofChange equalsRelateWrong)

/-- 'gauntletlaw10.EqualsErrors': WHATEVER THE INPUT: true; the input reads as it did. -/
def equalsErrorsSpec : ChangeSpec := { name := "equalsErrors", fn := fun _ => fun
  | [d1, d2, d3] => { results := [.lit (.bool true)], args := [d1, d2, d3] }
  | _ => none }
def equalsErrorsRow : OpenClaim := { program := "ytnodnfailjmpeaa", sum := "bd4f6cead4e80981c5eb0a71face3dff17c02296a9ae83c3bdc21f20dd341a2d", func := "gauntlet/gauntletlaw10.EqualsErrors", spec := "equalsErrors", unfollowed := true, recurses := true, plainKeys := false, apart := false }
def EqualsErrorsSaid : Prop := equalsErrorsRow.holds Try.pinned (OpenSpec.ofChange equalsErrorsSpec)

/-- ITS FALSE NEIGHBOUR: 'it returns false'. Refute it at one input. -/
def equalsErrorsWrong : ChangeSpec := { name := "equalsErrors", fn := fun _ => fun
  | [d1, d2, d3] => { results := [.lit (.bool false)], args := [d1, d2, d3] }
  | _ => none }
def EqualsErrorsWrongFalsely : Prop := equalsErrorsRow.holds Try.pinned (OpenSpec.ofChange equalsErrorsWrong)

/-- 'gauntletlaw10.EqualsKnown': WHATEVER THE INPUT: true; the input reads as it did. -/
def equalsKnownSpec : ChangeSpec := { name := "equalsKnown", fn := fun _ => fun
  | [] => { results := [.lit (.bool true)], args := [] }
  | _ => none }
def equalsKnownRow : OpenClaim := { program := "ytnodnfailjmpeaa", sum := "bd4f6cead4e80981c5eb0a71face3dff17c02296a9ae83c3bdc21f20dd341a2d", func := "gauntlet/gauntletlaw10.EqualsKnown", spec := "equalsKnown", unfollowed := true, recurses := true, plainKeys := false, apart := false }
def EqualsKnownSaid : Prop := equalsKnownRow.holds Try.pinned (OpenSpec.ofChange equalsKnownSpec)

/-- ITS FALSE NEIGHBOUR: 'it returns false'. Refute it at one input. -/
def equalsKnownWrong : ChangeSpec := { name := "equalsKnown", fn := fun _ => fun
  | [] => { results := [.lit (.bool false)], args := [] }
  | _ => none }
def EqualsKnownWrongFalsely : Prop := equalsKnownRow.holds Try.pinned (OpenSpec.ofChange equalsKnownWrong)

/- THE SECOND FORM. 'bulk': how many values and letters a reading holds, each counted each time it is reached (what is shared counts as often as it is met; a slice's spare places count too). A statement '..UptoSaid' is the law's where the arguments, and the package variables that the reading takes, are together of bulk at most 1048576: NARROWER than '..Said'. Prove '..Said' where nothing that the law and all that it calls make is longer than what came in: it says more and counts as full. Else prove '..UptoSaid'. A law counts once. -/
mutual
def uptoBulk {H : Type} : DataW H → Nat
  | .lit (.string bytes) => bytes.length + 1
  | .lit _ => 1
  | .nil => 1
  | .ptr d => uptoBulk d + 1
  | .slice elems spare => uptoBulkAll elems + uptoBulkAll spare + 1
  | .agg parts => uptoBulkAll parts + 1
  | .iface _ d => uptoBulk d + 1
  | .map entries => uptoBulkEntries entries + 1
  | .held _ => 1
def uptoBulkAll {H : Type} : List (DataW H) → Nat
  | [] => 0
  | d :: r => uptoBulk d + uptoBulkAll r
def uptoBulkEntries {H : Type} : List (Lit × DataW H) → Nat
  | [] => 0
  | x :: r => uptoBulkEntry x + uptoBulkEntries r
def uptoBulkEntry {H : Type} : Lit × DataW H → Nat
  | (.string bytes, d) => bytes.length + uptoBulk d + 1
  | (_, d) => uptoBulk d + 1
 end
def uptoSmall : (H : Type) → List (DataW H) → Bool := fun _ ds => decide (uptoBulkAll ds ≤ 1048576)
def OpenSpec.upto (s : _root_.Go.ChangeSpec) : _root_.Go.OpenSpec := { _root_.Go.OpenSpec.ofChange s with cond := some uptoSmall }

/-- 'gauntletlaw09.QuotientsKnown', WHERE WHAT IT READS IS OF BULK AT MOST 1048576: true; the input reads as it did. -/
def quotientsKnownUptoRow : OpenClaim := { program := "ytnodnfailjmpeaa", sum := "bd4f6cead4e80981c5eb0a71face3dff17c02296a9ae83c3bdc21f20dd341a2d", func := "gauntlet/gauntletlaw09.QuotientsKnown", spec := "quotientsKnown", unfollowed := true, recurses := true, plainKeys := false, apart := false, narrowed := true }
def QuotientsKnownUptoSaid : Prop := quotientsKnownUptoRow.holds Try.pinned (OpenSpec.upto quotientsKnownSpec)

/-- 'gauntletlaw10.EqualsDiffer', WHERE WHAT IT READS IS OF BULK AT MOST 1048576: true; the input reads as it did. -/
def equalsDifferUptoRow : OpenClaim := { program := "ytnodnfailjmpeaa", sum := "bd4f6cead4e80981c5eb0a71face3dff17c02296a9ae83c3bdc21f20dd341a2d", func := "gauntlet/gauntletlaw10.EqualsDiffer", spec := "equalsDiffer", unfollowed := true, recurses := true, plainKeys := false, apart := false, narrowed := true }
def EqualsDifferUptoSaid : Prop := equalsDifferUptoRow.holds Try.pinned (OpenSpec.upto equalsDifferSpec)

/-- 'gauntletlaw10.EqualsEqual', WHERE WHAT IT READS IS OF BULK AT MOST 1048576: true; the input reads as it did. -/
def equalsEqualUptoRow : OpenClaim := { program := "ytnodnfailjmpeaa", sum := "bd4f6cead4e80981c5eb0a71face3dff17c02296a9ae83c3bdc21f20dd341a2d", func := "gauntlet/gauntletlaw10.EqualsEqual", spec := "equalsEqual", unfollowed := true, recurses := true, plainKeys := false, apart := false, narrowed := true }
def EqualsEqualUptoSaid : Prop := equalsEqualUptoRow.holds Try.pinned (OpenSpec.upto equalsEqualSpec)

/-- 'gauntletlaw10.EqualsWithin', WHERE WHAT IT READS IS OF BULK AT MOST 1048576: true; the input reads as it did. -/
def equalsWithinUptoRow : OpenClaim := { program := "ytnodnfailjmpeaa", sum := "bd4f6cead4e80981c5eb0a71face3dff17c02296a9ae83c3bdc21f20dd341a2d", func := "gauntlet/gauntletlaw10.EqualsWithin", spec := "equalsWithin", unfollowed := true, recurses := true, plainKeys := false, apart := false, narrowed := true }
def EqualsWithinUptoSaid : Prop := equalsWithinUptoRow.holds Try.pinned (OpenSpec.upto equalsWithinSpec)

/-- 'gauntletlaw10.EqualsRelate', WHERE WHAT IT READS IS OF BULK AT MOST 1048576: true; the input reads as it did. -/
def equalsRelateUptoRow : OpenClaim := { program := "ytnodnfailjmpeaa", sum := "bd4f6cead4e80981c5eb0a71face3dff17c02296a9ae83c3bdc21f20dd341a2d", func := "gauntlet/gauntletlaw10.EqualsRelate", spec := "equalsRelate", unfollowed := true, recurses := true, plainKeys := false, apart := false, narrowed := true }
def EqualsRelateUptoSaid : Prop := equalsRelateUptoRow.holds Try.pinned (OpenSpec.upto equalsRelateSpec)

/-- 'gauntletlaw10.EqualsErrors', WHERE WHAT IT READS IS OF BULK AT MOST 1048576: true; the input reads as it did. -/
def equalsErrorsUptoRow : OpenClaim := { program := "ytnodnfailjmpeaa", sum := "bd4f6cead4e80981c5eb0a71face3dff17c02296a9ae83c3bdc21f20dd341a2d", func := "gauntlet/gauntletlaw10.EqualsErrors", spec := "equalsErrors", unfollowed := true, recurses := true, plainKeys := false, apart := false, narrowed := true }
def EqualsErrorsUptoSaid : Prop := equalsErrorsUptoRow.holds Try.pinned (OpenSpec.upto equalsErrorsSpec)

/-- 'gauntletlaw10.EqualsKnown', WHERE WHAT IT READS IS OF BULK AT MOST 1048576: true; the input reads as it did. -/
def equalsKnownUptoRow : OpenClaim := { program := "ytnodnfailjmpeaa", sum := "bd4f6cead4e80981c5eb0a71face3dff17c02296a9ae83c3bdc21f20dd341a2d", func := "gauntlet/gauntletlaw10.EqualsKnown", spec := "equalsKnown", unfollowed := true, recurses := true, plainKeys := false, apart := false, narrowed := true }
def EqualsKnownUptoSaid : Prop := equalsKnownUptoRow.holds Try.pinned (OpenSpec.upto equalsKnownSpec)

end Rows
end Go.Proofs.Ytnodnfailjmpeaa
