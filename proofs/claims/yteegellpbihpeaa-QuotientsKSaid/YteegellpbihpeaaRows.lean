/-
  No cell of these rows narrows 'for every input' (looked for: loops, veiled, ifaces, maps, wideKeys, modest, calm, conditions, laid).
  DERIVED. THE GIVEN ROWS OF THIS SEAT. 8 by the template 'for every input the law returns true; each argument reads behind the call as it read before'; 0 by the template 'total and deterministic' (their statements: YteegellpbihpeaaTotals.lean).
  GIVEN WITH THE SEED: the statements are not yours to turn. If you find one false, say at which input.
  Laid BY PROGRAM, IN A SANDBOX (cutbox-rows.mjs): the forced cells as the released guide's own fill.sh prints them over the translation 326ce4f6d73e0c3b… (all of the seat's roots in one cut). By AI agents, Wed Nov 11 2026. No macro, syntax, notation, axiom, sorry.
-/
import Derived.Test.YteegellpbihpeaaChecked
import GoSem.Claim
import GoSem.ClaimJoined
import GoSem.ClaimMapViews
import Derived.JoinedTies
import Derived.KernelRfl
namespace Go.Proofs.Yteegellpbihpeaa
/- THE CELL 'sum', in the pinned program and in every row, IS THE sha256 OF THE DUMP (.gsa) THAT YteegellpbihpeaaProg.lean LOADS. Nothing in Lean hashes anything: it is a label: what it is worth is what the hold of that sum in a sandbox is worth. -/
noncomputable def Try.pinned : Pinned := { name := "yteegellpbihpeaa", sum := "326ce4f6d73e0c3b3f4c20414879663b8c0d9f6536b0dcc86948ce94b00ff842", checked := Try.checked }
namespace Rows
def none {H : Type} : Left H := { results := [], args := [] }

/-- 'gauntletlaw09.QuotientsMinimal': WHATEVER THE INPUT: true; the input reads as it did. -/
def quotientsMinimalSpec : ChangeSpec := { name := "quotientsMinimal", fn := fun _ => fun
  | [d1, d2] => { results := [.lit (.bool true)], args := [d1, d2] }
  | _ => none }
def quotientsMinimalRow : OpenClaim := { program := "yteegellpbihpeaa", sum := "326ce4f6d73e0c3b3f4c20414879663b8c0d9f6536b0dcc86948ce94b00ff842", func := "gauntlet/gauntletlaw09.QuotientsMinimal", spec := "quotientsMinimal", unfollowed := true, recurses := true, plainKeys := false, apart := false }
def QuotientsMinimalSaid : Prop := quotientsMinimalRow.holds Try.pinned (OpenSpec.ofChange quotientsMinimalSpec)

/-- ITS FALSE NEIGHBOUR: 'it returns false'. Refute it at one input. -/
def quotientsMinimalWrong : ChangeSpec := { name := "quotientsMinimal", fn := fun _ => fun
  | [d1, d2] => { results := [.lit (.bool false)], args := [d1, d2] }
  | _ => none }
def QuotientsMinimalWrongFalsely : Prop := quotientsMinimalRow.holds Try.pinned (OpenSpec.ofChange quotientsMinimalWrong)

/-- 'gauntletlaw09.QuotientsMap': WHATEVER THE INPUT: true; the input reads as it did. -/
def quotientsMapSpec : ChangeSpec := { name := "quotientsMap", fn := fun _ => fun
  | [d1, d2] => { results := [.lit (.bool true)], args := [d1, d2] }
  | _ => none }
def quotientsMapRow : OpenClaim := { program := "yteegellpbihpeaa", sum := "326ce4f6d73e0c3b3f4c20414879663b8c0d9f6536b0dcc86948ce94b00ff842", func := "gauntlet/gauntletlaw09.QuotientsMap", spec := "quotientsMap", unfollowed := true, recurses := true, plainKeys := false, apart := false }
def QuotientsMapSaid : Prop := quotientsMapRow.holds Try.pinned (OpenSpec.ofChange quotientsMapSpec)

/-- ITS FALSE NEIGHBOUR: 'it returns false'. Refute it at one input. -/
def quotientsMapWrong : ChangeSpec := { name := "quotientsMap", fn := fun _ => fun
  | [d1, d2] => { results := [.lit (.bool false)], args := [d1, d2] }
  | _ => none }
def QuotientsMapWrongFalsely : Prop := quotientsMapRow.holds Try.pinned (OpenSpec.ofChange quotientsMapWrong)

/-- 'gauntletlaw09.QuotientsUnique': WHATEVER THE INPUT: true; the input reads as it did. -/
def quotientsUniqueSpec : ChangeSpec := { name := "quotientsUnique", fn := fun _ => fun
  | [d1, d2] => { results := [.lit (.bool true)], args := [d1, d2] }
  | _ => none }
def quotientsUniqueRow : OpenClaim := { program := "yteegellpbihpeaa", sum := "326ce4f6d73e0c3b3f4c20414879663b8c0d9f6536b0dcc86948ce94b00ff842", func := "gauntlet/gauntletlaw09.QuotientsUnique", spec := "quotientsUnique", unfollowed := true, recurses := true, plainKeys := false, apart := false }
def QuotientsUniqueSaid : Prop := quotientsUniqueRow.holds Try.pinned (OpenSpec.ofChange quotientsUniqueSpec)

/-- ITS FALSE NEIGHBOUR: 'it returns false'. Refute it at one input. -/
def quotientsUniqueWrong : ChangeSpec := { name := "quotientsUnique", fn := fun _ => fun
  | [d1, d2] => { results := [.lit (.bool false)], args := [d1, d2] }
  | _ => none }
def QuotientsUniqueWrongFalsely : Prop := quotientsUniqueRow.holds Try.pinned (OpenSpec.ofChange quotientsUniqueWrong)

/-- 'gauntletlaw09.QuotientsProper': WHATEVER THE INPUT: true; the input reads as it did. -/
def quotientsProperSpec : ChangeSpec := { name := "quotientsProper", fn := fun _ => fun
  | [d1, d2] => { results := [.lit (.bool true)], args := [d1, d2] }
  | _ => none }
def quotientsProperRow : OpenClaim := { program := "yteegellpbihpeaa", sum := "326ce4f6d73e0c3b3f4c20414879663b8c0d9f6536b0dcc86948ce94b00ff842", func := "gauntlet/gauntletlaw09.QuotientsProper", spec := "quotientsProper", unfollowed := true, recurses := true, plainKeys := false, apart := false }
def QuotientsProperSaid : Prop := quotientsProperRow.holds Try.pinned (OpenSpec.ofChange quotientsProperSpec)

/-- ITS FALSE NEIGHBOUR: 'it returns false'. Refute it at one input. -/
def quotientsProperWrong : ChangeSpec := { name := "quotientsProper", fn := fun _ => fun
  | [d1, d2] => { results := [.lit (.bool false)], args := [d1, d2] }
  | _ => none }
def QuotientsProperWrongFalsely : Prop := quotientsProperRow.holds Try.pinned (OpenSpec.ofChange quotientsProperWrong)

/-- 'gauntletlaw09.QuotientsHomomorphic': WHATEVER THE INPUT: true; the input reads as it did. -/
def quotientsHomomorphicSpec : ChangeSpec := { name := "quotientsHomomorphic", fn := fun _ => fun
  | [d1, d2, d3] => { results := [.lit (.bool true)], args := [d1, d2, d3] }
  | _ => none }
def quotientsHomomorphicRow : OpenClaim := { program := "yteegellpbihpeaa", sum := "326ce4f6d73e0c3b3f4c20414879663b8c0d9f6536b0dcc86948ce94b00ff842", func := "gauntlet/gauntletlaw09.QuotientsHomomorphic", spec := "quotientsHomomorphic", unfollowed := true, recurses := true, plainKeys := false, apart := false }
def QuotientsHomomorphicSaid : Prop := quotientsHomomorphicRow.holds Try.pinned (OpenSpec.ofChange quotientsHomomorphicSpec)

/-- ITS FALSE NEIGHBOUR: 'it returns false'. Refute it at one input. -/
def quotientsHomomorphicWrong : ChangeSpec := { name := "quotientsHomomorphic", fn := fun _ => fun
  | [d1, d2, d3] => { results := [.lit (.bool false)], args := [d1, d2, d3] }
  | _ => none }
def QuotientsHomomorphicWrongFalsely : Prop := quotientsHomomorphicRow.holds Try.pinned (OpenSpec.ofChange quotientsHomomorphicWrong)

/-- 'gauntletlaw09.QuotientsErrors': WHATEVER THE INPUT: true; the input reads as it did. -/
def quotientsErrorsSpec : ChangeSpec := { name := "quotientsErrors", fn := fun _ => fun
  | [d1, d2] => { results := [.lit (.bool true)], args := [d1, d2] }
  | _ => none }
def quotientsErrorsRow : OpenClaim := { program := "yteegellpbihpeaa", sum := "326ce4f6d73e0c3b3f4c20414879663b8c0d9f6536b0dcc86948ce94b00ff842", func := "gauntlet/gauntletlaw09.QuotientsErrors", spec := "quotientsErrors", unfollowed := true, recurses := true, plainKeys := false, apart := false }
def QuotientsErrorsSaid : Prop := quotientsErrorsRow.holds Try.pinned (OpenSpec.ofChange quotientsErrorsSpec)

/-- ITS FALSE NEIGHBOUR: 'it returns false'. Refute it at one input. -/
def quotientsErrorsWrong : ChangeSpec := { name := "quotientsErrors", fn := fun _ => fun
  | [d1, d2] => { results := [.lit (.bool false)], args := [d1, d2] }
  | _ => none }
def QuotientsErrorsWrongFalsely : Prop := quotientsErrorsRow.holds Try.pinned (OpenSpec.ofChange quotientsErrorsWrong)

/-- 'gauntletlaw09.QuotientsK': WHATEVER THE INPUT: true; the input reads as it did. -/
def quotientsKSpec : ChangeSpec := { name := "quotientsK", fn := fun _ => fun
  | [d] => { results := [.lit (.bool true)], args := [d] }
  | _ => none }
def quotientsKRow : OpenClaim := { program := "yteegellpbihpeaa", sum := "326ce4f6d73e0c3b3f4c20414879663b8c0d9f6536b0dcc86948ce94b00ff842", func := "gauntlet/gauntletlaw09.QuotientsK", spec := "quotientsK", unfollowed := true, recurses := true, plainKeys := false, apart := false }
def QuotientsKSaid : Prop := quotientsKRow.holds Try.pinned (OpenSpec.ofChange quotientsKSpec)

/-- ITS FALSE NEIGHBOUR: 'it returns false'. Refute it at one input. -/
def quotientsKWrong : ChangeSpec := { name := "quotientsK", fn := fun _ => fun
  | [d] => { results := [.lit (.bool false)], args := [d] }
  | _ => none }
def QuotientsKWrongFalsely : Prop := quotientsKRow.holds Try.pinned (OpenSpec.ofChange quotientsKWrong)

/-- 'gauntletlaw09.QuotientsKnown': WHATEVER THE INPUT: true; the input reads as it did. -/
def quotientsKnownSpec : ChangeSpec := { name := "quotientsKnown", fn := fun _ => fun
  | [] => { results := [.lit (.bool true)], args := [] }
  | _ => none }
def quotientsKnownRow : OpenClaim := { program := "yteegellpbihpeaa", sum := "326ce4f6d73e0c3b3f4c20414879663b8c0d9f6536b0dcc86948ce94b00ff842", func := "gauntlet/gauntletlaw09.QuotientsKnown", spec := "quotientsKnown", unfollowed := true, recurses := true, plainKeys := false, apart := false }
def QuotientsKnownSaid : Prop := quotientsKnownRow.holds Try.pinned (OpenSpec.ofChange quotientsKnownSpec)

/-- ITS FALSE NEIGHBOUR: 'it returns false'. Refute it at one input. -/
def quotientsKnownWrong : ChangeSpec := { name := "quotientsKnown", fn := fun _ => fun
  | [] => { results := [.lit (.bool false)], args := [] }
  | _ => none }
def QuotientsKnownWrongFalsely : Prop := quotientsKnownRow.holds Try.pinned (OpenSpec.ofChange quotientsKnownWrong)

/- THE SECOND FORM. 'bulk': how many values and letters a reading holds, each counted each time it is reached (what is shared counts as often as it is met; a slice's spare places count too). A statement '..UptoSaid' is the law's where the arguments, and the package variables that the reading takes, are together of bulk at most 1048576: NARROWER than '..Said'. Prove '..Said' where nothing that the law and all that it calls make is longer than what came in: it says more and counts as full. Else prove '..UptoSaid'. A law counts once. -/
mutual
def uptoBulk {H : Type} : DataW H → Nat
  | .lit (.string bytes) => bytes.length + 1
  | .lit _ => 1
  | .nil => 1
  | .ptr d => uptoBulk d + 1
  | .slice elems spare => uptoBulkAll elems + uptoBulkAll spare + 1
  | .agg parts => uptoBulkAll parts + 1
  | .iface _ d => uptoBulk d + 1
  | .map entries => uptoBulkEntries entries + 1
  | .held _ => 1
def uptoBulkAll {H : Type} : List (DataW H) → Nat
  | [] => 0
  | d :: r => uptoBulk d + uptoBulkAll r
def uptoBulkEntries {H : Type} : List (Lit × DataW H) → Nat
  | [] => 0
  | x :: r => uptoBulkEntry x + uptoBulkEntries r
def uptoBulkEntry {H : Type} : Lit × DataW H → Nat
  | (.string bytes, d) => bytes.length + uptoBulk d + 1
  | (_, d) => uptoBulk d + 1
 end
def uptoSmall : (H : Type) → List (DataW H) → Bool := fun _ ds => decide (uptoBulkAll ds ≤ 1048576)
def OpenSpec.upto (s : _root_.Go.ChangeSpec) : _root_.Go.OpenSpec := { _root_.Go.OpenSpec.ofChange s with cond := some uptoSmall }

/-- 'gauntletlaw09.QuotientsMinimal', WHERE WHAT IT READS IS OF BULK AT MOST 1048576: true; the input reads as it did. -/
def quotientsMinimalUptoRow : OpenClaim := { program := "yteegellpbihpeaa", sum := "326ce4f6d73e0c3b3f4c20414879663b8c0d9f6536b0dcc86948ce94b00ff842", func := "gauntlet/gauntletlaw09.QuotientsMinimal", spec := "quotientsMinimal", unfollowed := true, recurses := true, plainKeys := false, apart := false, narrowed := true }
def QuotientsMinimalUptoSaid : Prop := quotientsMinimalUptoRow.holds Try.pinned (OpenSpec.upto quotientsMinimalSpec)

/-- 'gauntletlaw09.QuotientsMap', WHERE WHAT IT READS IS OF BULK AT MOST 1048576: true; the input reads as it did. -/
def quotientsMapUptoRow : OpenClaim := { program := "yteegellpbihpeaa", sum := "326ce4f6d73e0c3b3f4c20414879663b8c0d9f6536b0dcc86948ce94b00ff842", func := "gauntlet/gauntletlaw09.QuotientsMap", spec := "quotientsMap", unfollowed := true, recurses := true, plainKeys := false, apart := false, narrowed := true }
def QuotientsMapUptoSaid : Prop := quotientsMapUptoRow.holds Try.pinned (OpenSpec.upto quotientsMapSpec)

/-- 'gauntletlaw09.QuotientsUnique', WHERE WHAT IT READS IS OF BULK AT MOST 1048576: true; the input reads as it did. -/
def quotientsUniqueUptoRow : OpenClaim := { program := "yteegellpbihpeaa", sum := "326ce4f6d73e0c3b3f4c20414879663b8c0d9f6536b0dcc86948ce94b00ff842", func := "gauntlet/gauntletlaw09.QuotientsUnique", spec := "quotientsUnique", unfollowed := true, recurses := true, plainKeys := false, apart := false, narrowed := true }
def QuotientsUniqueUptoSaid : Prop := quotientsUniqueUptoRow.holds Try.pinned (OpenSpec.upto quotientsUniqueSpec)

/-- 'gauntletlaw09.QuotientsProper', WHERE WHAT IT READS IS OF BULK AT MOST 1048576: true; the input reads as it did. -/
def quotientsProperUptoRow : OpenClaim := { program := "yteegellpbihpeaa", sum := "326ce4f6d73e0c3b3f4c20414879663b8c0d9f6536b0dcc86948ce94b00ff842", func := "gauntlet/gauntletlaw09.QuotientsProper", spec := "quotientsProper", unfollowed := true, recurses := true, plainKeys := false, apart := false, narrowed := true }
def QuotientsProperUptoSaid : Prop := quotientsProperUptoRow.holds Try.pinned (OpenSpec.upto quotientsProperSpec)

/-- 'gauntletlaw09.QuotientsHomomorphic', WHERE WHAT IT READS IS OF BULK AT MOST 1048576: true; the input reads as it did. -/
def quotientsHomomorphicUptoRow : OpenClaim := { program := "yteegellpbihpeaa", sum := "326ce4f6d73e0c3b3f4c20414879663b8c0d9f6536b0dcc86948ce94b00ff842", func := "gauntlet/gauntletlaw09.QuotientsHomomorphic", spec := "quotientsHomomorphic", unfollowed := true, recurses := true, plainKeys := false, apart := false, narrowed := true }
def QuotientsHomomorphicUptoSaid : Prop := quotientsHomomorphicUptoRow.holds Try.pinned (OpenSpec.upto quotientsHomomorphicSpec)

/-- 'gauntletlaw09.QuotientsErrors', WHERE WHAT IT READS IS OF BULK AT MOST 1048576: true; the input reads as it did. -/
def quotientsErrorsUptoRow : OpenClaim := { program := "yteegellpbihpeaa", sum := "326ce4f6d73e0c3b3f4c20414879663b8c0d9f6536b0dcc86948ce94b00ff842", func := "gauntlet/gauntletlaw09.QuotientsErrors", spec := "quotientsErrors", unfollowed := true, recurses := true, plainKeys := false, apart := false, narrowed := true }
def QuotientsErrorsUptoSaid : Prop := quotientsErrorsUptoRow.holds Try.pinned (OpenSpec.upto quotientsErrorsSpec)

/-- 'gauntletlaw09.QuotientsK', WHERE WHAT IT READS IS OF BULK AT MOST 1048576: true; the input reads as it did. -/
def quotientsKUptoRow : OpenClaim := { program := "yteegellpbihpeaa", sum := "326ce4f6d73e0c3b3f4c20414879663b8c0d9f6536b0dcc86948ce94b00ff842", func := "gauntlet/gauntletlaw09.QuotientsK", spec := "quotientsK", unfollowed := true, recurses := true, plainKeys := false, apart := false, narrowed := true }
def QuotientsKUptoSaid : Prop := quotientsKUptoRow.holds Try.pinned (OpenSpec.upto quotientsKSpec)

/-- 'gauntletlaw09.QuotientsKnown', WHERE WHAT IT READS IS OF BULK AT MOST 1048576: true; the input reads as it did. -/
def quotientsKnownUptoRow : OpenClaim := { program := "yteegellpbihpeaa", sum := "326ce4f6d73e0c3b3f4c20414879663b8c0d9f6536b0dcc86948ce94b00ff842", func := "gauntlet/gauntletlaw09.QuotientsKnown", spec := "quotientsKnown", unfollowed := true, recurses := true, plainKeys := false, apart := false, narrowed := true }
def QuotientsKnownUptoSaid : Prop := quotientsKnownUptoRow.holds Try.pinned (OpenSpec.upto quotientsKnownSpec)

end Rows
end Go.Proofs.Yteegellpbihpeaa
