/-
  No cell of these rows narrows 'for every input' (looked for: loops, veiled, ifaces, maps, wideKeys, modest, calm, conditions, laid).
  DERIVED. THE GIVEN ROWS OF THIS SEAT. 11 by the template 'for every input the law returns true; each argument reads behind the call as it read before'; 0 by the template 'total and deterministic' (their statements: YtonnplhiaidjnaaTotals.lean).
  GIVEN WITH THE SEED: the statements are not yours to turn. If you find one false, say at which input.
  Laid BY PROGRAM, IN A SANDBOX (cutbox-rows.mjs): the forced cells as the released guide's own fill.sh prints them over the translation 5e623353d16c4102… (all of the seat's roots in one cut). By AI agents, Wed Nov 11 2026. No macro, syntax, notation, axiom, sorry.
-/
import Derived.Test.YtonnplhiaidjnaaChecked
import GoSem.Claim
import GoSem.ClaimJoined
import GoSem.ClaimMapViews
import Derived.JoinedTies
import Derived.KernelRfl
namespace Go.Proofs.Ytonnplhiaidjnaa
/- THE CELL 'sum', in the pinned program and in every row, IS THE sha256 OF THE DUMP (.gsa) THAT YtonnplhiaidjnaaProg.lean LOADS. Nothing in Lean hashes anything: it is a label: what it is worth is what the hold of that sum in a sandbox is worth. -/
noncomputable def Try.pinned : Pinned := { name := "ytonnplhiaidjnaa", sum := "5e623353d16c41021f86d6449f81e20dc45ba2d4e5cd0819940f27ffa1f25030", checked := Try.checked }
namespace Rows
def none {H : Type} : Left H := { results := [], args := [] }

/-- 'gauntletlaw07.RefinesClasses': WHATEVER THE INPUT: true; the input reads as it did. -/
def refinesClassesSpec : ChangeSpec := { name := "refinesClasses", fn := fun _ => fun
  | [d1, d2] => { results := [.lit (.bool true)], args := [d1, d2] }
  | _ => none }
def refinesClassesRow : OpenClaim := { program := "ytonnplhiaidjnaa", sum := "5e623353d16c41021f86d6449f81e20dc45ba2d4e5cd0819940f27ffa1f25030", func := "gauntlet/gauntletlaw07.RefinesClasses", spec := "refinesClasses", unfollowed := true, recurses := true, plainKeys := false, apart := false }
def RefinesClassesSaid : Prop := refinesClassesRow.holds Try.pinned (OpenSpec.ofChange refinesClassesSpec)

/-- ITS FALSE NEIGHBOUR: 'it returns false'. Refute it at one input. -/
def refinesClassesWrong : ChangeSpec := { name := "refinesClasses", fn := fun _ => fun
  | [d1, d2] => { results := [.lit (.bool false)], args := [d1, d2] }
  | _ => none }
def RefinesClassesWrongFalsely : Prop := refinesClassesRow.holds Try.pinned (OpenSpec.ofChange refinesClassesWrong)

/-- 'gauntletlaw07.RefinesEquivalent': WHATEVER THE INPUT: true; the input reads as it did. -/
def refinesEquivalentSpec : ChangeSpec := { name := "refinesEquivalent", fn := fun _ => fun
  | [d1, d2, d3] => { results := [.lit (.bool true)], args := [d1, d2, d3] }
  | _ => none }
def refinesEquivalentRow : OpenClaim := { program := "ytonnplhiaidjnaa", sum := "5e623353d16c41021f86d6449f81e20dc45ba2d4e5cd0819940f27ffa1f25030", func := "gauntlet/gauntletlaw07.RefinesEquivalent", spec := "refinesEquivalent", unfollowed := true, recurses := true, plainKeys := false, apart := false }
def RefinesEquivalentSaid : Prop := refinesEquivalentRow.holds Try.pinned (OpenSpec.ofChange refinesEquivalentSpec)

/-- ITS FALSE NEIGHBOUR: 'it returns false'. Refute it at one input. -/
def refinesEquivalentWrong : ChangeSpec := { name := "refinesEquivalent", fn := fun _ => fun
  | [d1, d2, d3] => { results := [.lit (.bool false)], args := [d1, d2, d3] }
  | _ => none }
def RefinesEquivalentWrongFalsely : Prop := refinesEquivalentRow.holds Try.pinned (OpenSpec.ofChange refinesEquivalentWrong)

/-- 'gauntletlaw07.RefinesRespects': WHATEVER THE INPUT: true; the input reads as it did. -/
def refinesRespectsSpec : ChangeSpec := { name := "refinesRespects", fn := fun _ => fun
  | [d1, d2, d3] => { results := [.lit (.bool true)], args := [d1, d2, d3] }
  | _ => none }
def refinesRespectsRow : OpenClaim := { program := "ytonnplhiaidjnaa", sum := "5e623353d16c41021f86d6449f81e20dc45ba2d4e5cd0819940f27ffa1f25030", func := "gauntlet/gauntletlaw07.RefinesRespects", spec := "refinesRespects", unfollowed := true, recurses := true, plainKeys := false, apart := false }
def RefinesRespectsSaid : Prop := refinesRespectsRow.holds Try.pinned (OpenSpec.ofChange refinesRespectsSpec)

/-- ITS FALSE NEIGHBOUR: 'it returns false'. Refute it at one input. -/
def refinesRespectsWrong : ChangeSpec := { name := "refinesRespects", fn := fun _ => fun
  | [d1, d2, d3] => { results := [.lit (.bool false)], args := [d1, d2, d3] }
  | _ => none }
def RefinesRespectsWrongFalsely : Prop := refinesRespectsRow.holds Try.pinned (OpenSpec.ofChange refinesRespectsWrong)

/-- 'gauntletlaw07.RefinesKnown': WHATEVER THE INPUT: true; the input reads as it did. -/
def refinesKnownSpec : ChangeSpec := { name := "refinesKnown", fn := fun _ => fun
  | [] => { results := [.lit (.bool true)], args := [] }
  | _ => none }
def refinesKnownRow : OpenClaim := { program := "ytonnplhiaidjnaa", sum := "5e623353d16c41021f86d6449f81e20dc45ba2d4e5cd0819940f27ffa1f25030", func := "gauntlet/gauntletlaw07.RefinesKnown", spec := "refinesKnown", unfollowed := true, recurses := true, plainKeys := false, apart := false }
def RefinesKnownSaid : Prop := refinesKnownRow.holds Try.pinned (OpenSpec.ofChange refinesKnownSpec)

/-- ITS FALSE NEIGHBOUR: 'it returns false'. Refute it at one input. -/
def refinesKnownWrong : ChangeSpec := { name := "refinesKnown", fn := fun _ => fun
  | [] => { results := [.lit (.bool false)], args := [] }
  | _ => none }
def RefinesKnownWrongFalsely : Prop := refinesKnownRow.holds Try.pinned (OpenSpec.ofChange refinesKnownWrong)

/-- 'gauntletlaw08.SplitsSeparate': WHATEVER THE INPUT: true; the input reads as it did. -/
def splitsSeparateSpec : ChangeSpec := { name := "splitsSeparate", fn := fun _ => fun
  | [d1, d2] => { results := [.lit (.bool true)], args := [d1, d2] }
  | _ => none }
def splitsSeparateRow : OpenClaim := { program := "ytonnplhiaidjnaa", sum := "5e623353d16c41021f86d6449f81e20dc45ba2d4e5cd0819940f27ffa1f25030", func := "gauntlet/gauntletlaw08.SplitsSeparate", spec := "splitsSeparate", unfollowed := true, recurses := true, plainKeys := false, apart := false }
def SplitsSeparateSaid : Prop := splitsSeparateRow.holds Try.pinned (OpenSpec.ofChange splitsSeparateSpec)

/-- ITS FALSE NEIGHBOUR: 'it returns false'. Refute it at one input. -/
def splitsSeparateWrong : ChangeSpec := { name := "splitsSeparate", fn := fun _ => fun
  | [d1, d2] => { results := [.lit (.bool false)], args := [d1, d2] }
  | _ => none }
def SplitsSeparateWrongFalsely : Prop := splitsSeparateRow.holds Try.pinned (OpenSpec.ofChange splitsSeparateWrong)

/-- 'gauntletlaw08.SplitsSeparates': WHATEVER THE INPUT: true; the input reads as it did. -/
def splitsSeparatesSpec : ChangeSpec := { name := "splitsSeparates", fn := fun _ => fun
  | [d1, d2, d3] => { results := [.lit (.bool true)], args := [d1, d2, d3] }
  | _ => none }
def splitsSeparatesRow : OpenClaim := { program := "ytonnplhiaidjnaa", sum := "5e623353d16c41021f86d6449f81e20dc45ba2d4e5cd0819940f27ffa1f25030", func := "gauntlet/gauntletlaw08.SplitsSeparates", spec := "splitsSeparates", unfollowed := true, recurses := true, plainKeys := false, apart := false }
def SplitsSeparatesSaid : Prop := splitsSeparatesRow.holds Try.pinned (OpenSpec.ofChange splitsSeparatesSpec)

/-- ITS FALSE NEIGHBOUR: 'it returns false'. Refute it at one input. -/
def splitsSeparatesWrong : ChangeSpec := { name := "splitsSeparates", fn := fun _ => fun
  | [d1, d2, d3] => { results := [.lit (.bool false)], args := [d1, d2, d3] }
  | _ => none }
def SplitsSeparatesWrongFalsely : Prop := splitsSeparatesRow.holds Try.pinned (OpenSpec.ofChange splitsSeparatesWrong)

/-- 'gauntletlaw08.SplitsTable': WHATEVER THE INPUT: true; the input reads as it did. -/
def splitsTableSpec : ChangeSpec := { name := "splitsTable", fn := fun _ => fun
  | [d] => { results := [.lit (.bool true)], args := [d] }
  | _ => none }
def splitsTableRow : OpenClaim := { program := "ytonnplhiaidjnaa", sum := "5e623353d16c41021f86d6449f81e20dc45ba2d4e5cd0819940f27ffa1f25030", func := "gauntlet/gauntletlaw08.SplitsTable", spec := "splitsTable", unfollowed := true, recurses := true, plainKeys := false, apart := false }
def SplitsTableSaid : Prop := splitsTableRow.holds Try.pinned (OpenSpec.ofChange splitsTableSpec)

/-- ITS FALSE NEIGHBOUR: 'it returns false'. Refute it at one input. -/
def splitsTableWrong : ChangeSpec := { name := "splitsTable", fn := fun _ => fun
  | [d] => { results := [.lit (.bool false)], args := [d] }
  | _ => none }
def SplitsTableWrongFalsely : Prop := splitsTableRow.holds Try.pinned (OpenSpec.ofChange splitsTableWrong)

/-- 'gauntletlaw08.SplitsLadder': WHATEVER THE INPUT: true; the input reads as it did. -/
def splitsLadderSpec : ChangeSpec := { name := "splitsLadder", fn := fun _ => fun
  | [d] => { results := [.lit (.bool true)], args := [d] }
  | _ => none }
def splitsLadderRow : OpenClaim := { program := "ytonnplhiaidjnaa", sum := "5e623353d16c41021f86d6449f81e20dc45ba2d4e5cd0819940f27ffa1f25030", func := "gauntlet/gauntletlaw08.SplitsLadder", spec := "splitsLadder", unfollowed := true, recurses := true, plainKeys := false, apart := false }
def SplitsLadderSaid : Prop := splitsLadderRow.holds Try.pinned (OpenSpec.ofChange splitsLadderSpec)

/-- ITS FALSE NEIGHBOUR: 'it returns false'. Refute it at one input. -/
def splitsLadderWrong : ChangeSpec := { name := "splitsLadder", fn := fun _ => fun
  | [d] => { results := [.lit (.bool false)], args := [d] }
  | _ => none }
def SplitsLadderWrongFalsely : Prop := splitsLadderRow.holds Try.pinned (OpenSpec.ofChange splitsLadderWrong)

/-- 'gauntletlaw08.SplitsAfter': WHATEVER THE INPUT: true; the input reads as it did. -/
def splitsAfterSpec : ChangeSpec := { name := "splitsAfter", fn := fun _ => fun
  | [d1, d2] => { results := [.lit (.bool true)], args := [d1, d2] }
  | _ => none }
def splitsAfterRow : OpenClaim := { program := "ytonnplhiaidjnaa", sum := "5e623353d16c41021f86d6449f81e20dc45ba2d4e5cd0819940f27ffa1f25030", func := "gauntlet/gauntletlaw08.SplitsAfter", spec := "splitsAfter", unfollowed := true, recurses := true, plainKeys := false, apart := false }
def SplitsAfterSaid : Prop := splitsAfterRow.holds Try.pinned (OpenSpec.ofChange splitsAfterSpec)

/-- ITS FALSE NEIGHBOUR: 'it returns false'. Refute it at one input. -/
def splitsAfterWrong : ChangeSpec := { name := "splitsAfter", fn := fun _ => fun
  | [d1, d2] => { results := [.lit (.bool false)], args := [d1, d2] }
  | _ => none }
def SplitsAfterWrongFalsely : Prop := splitsAfterRow.holds Try.pinned (OpenSpec.ofChange splitsAfterWrong)

/-- 'gauntletlaw08.SplitsErrors': WHATEVER THE INPUT: true; the input reads as it did. -/
def splitsErrorsSpec : ChangeSpec := { name := "splitsErrors", fn := fun _ => fun
  | [d1, d2, d3] => { results := [.lit (.bool true)], args := [d1, d2, d3] }
  | _ => none }
def splitsErrorsRow : OpenClaim := { program := "ytonnplhiaidjnaa", sum := "5e623353d16c41021f86d6449f81e20dc45ba2d4e5cd0819940f27ffa1f25030", func := "gauntlet/gauntletlaw08.SplitsErrors", spec := "splitsErrors", unfollowed := true, recurses := true, plainKeys := false, apart := false }
def SplitsErrorsSaid : Prop := splitsErrorsRow.holds Try.pinned (OpenSpec.ofChange splitsErrorsSpec)

/-- ITS FALSE NEIGHBOUR: 'it returns false'. Refute it at one input. -/
def splitsErrorsWrong : ChangeSpec := { name := "splitsErrors", fn := fun _ => fun
  | [d1, d2, d3] => { results := [.lit (.bool false)], args := [d1, d2, d3] }
  | _ => none }
def SplitsErrorsWrongFalsely : Prop := splitsErrorsRow.holds Try.pinned (OpenSpec.ofChange splitsErrorsWrong)

/-- 'gauntletlaw08.SplitsKnown': WHATEVER THE INPUT: true; the input reads as it did. -/
def splitsKnownSpec : ChangeSpec := { name := "splitsKnown", fn := fun _ => fun
  | [] => { results := [.lit (.bool true)], args := [] }
  | _ => none }
def splitsKnownRow : OpenClaim := { program := "ytonnplhiaidjnaa", sum := "5e623353d16c41021f86d6449f81e20dc45ba2d4e5cd0819940f27ffa1f25030", func := "gauntlet/gauntletlaw08.SplitsKnown", spec := "splitsKnown", unfollowed := true, recurses := true, plainKeys := false, apart := false }
def SplitsKnownSaid : Prop := splitsKnownRow.holds Try.pinned (OpenSpec.ofChange splitsKnownSpec)

/-- ITS FALSE NEIGHBOUR: 'it returns false'. Refute it at one input. -/
def splitsKnownWrong : ChangeSpec := { name := "splitsKnown", fn := fun _ => fun
  | [] => { results := [.lit (.bool false)], args := [] }
  | _ => none }
def SplitsKnownWrongFalsely : Prop := splitsKnownRow.holds Try.pinned (OpenSpec.ofChange splitsKnownWrong)

/- THE SECOND FORM. 'bulk': how many values and letters a reading holds, each counted each time it is reached (what is shared counts as often as it is met; a slice's spare places count too). A statement '..UptoSaid' is the law's where the arguments, and the package variables that the reading takes, are together of bulk at most 1048576: NARROWER than '..Said'. Prove '..Said' where nothing that the law and all that it calls make is longer than what came in: it says more and counts as full. Else prove '..UptoSaid'. A law counts once. -/
mutual
def uptoBulk {H : Type} : DataW H → Nat
  | .lit (.string bytes) => bytes.length + 1
  | .lit _ => 1
  | .nil => 1
  | .ptr d => uptoBulk d + 1
  | .slice elems spare => uptoBulkAll elems + uptoBulkAll spare + 1
  | .agg parts => uptoBulkAll parts + 1
  | .iface _ d => uptoBulk d + 1
  | .map entries => uptoBulkEntries entries + 1
  | .held _ => 1
def uptoBulkAll {H : Type} : List (DataW H) → Nat
  | [] => 0
  | d :: r => uptoBulk d + uptoBulkAll r
def uptoBulkEntries {H : Type} : List (Lit × DataW H) → Nat
  | [] => 0
  | x :: r => uptoBulkEntry x + uptoBulkEntries r
def uptoBulkEntry {H : Type} : Lit × DataW H → Nat
  | (.string bytes, d) => bytes.length + uptoBulk d + 1
  | (_, d) => uptoBulk d + 1
 end
def uptoSmall : (H : Type) → List (DataW H) → Bool := fun _ ds => decide (uptoBulkAll ds ≤ 1048576)
def OpenSpec.upto (s : _root_.Go.ChangeSpec) : _root_.Go.OpenSpec := { _root_.Go.OpenSpec.ofChange s with cond := some uptoSmall }

/-- 'gauntletlaw07.RefinesClasses', WHERE WHAT IT READS IS OF BULK AT MOST 1048576: true; the input reads as it did. -/
def refinesClassesUptoRow : OpenClaim := { program := "ytonnplhiaidjnaa", sum := "5e623353d16c41021f86d6449f81e20dc45ba2d4e5cd0819940f27ffa1f25030", func := "gauntlet/gauntletlaw07.RefinesClasses", spec := "refinesClasses", unfollowed := true, recurses := true, plainKeys := false, apart := false, narrowed := true }
def RefinesClassesUptoSaid : Prop := refinesClassesUptoRow.holds Try.pinned (OpenSpec.upto refinesClassesSpec)

/-- 'gauntletlaw07.RefinesEquivalent', WHERE WHAT IT READS IS OF BULK AT MOST 1048576: true; the input reads as it did. -/
def refinesEquivalentUptoRow : OpenClaim := { program := "ytonnplhiaidjnaa", sum := "5e623353d16c41021f86d6449f81e20dc45ba2d4e5cd0819940f27ffa1f25030", func := "gauntlet/gauntletlaw07.RefinesEquivalent", spec := "refinesEquivalent", unfollowed := true, recurses := true, plainKeys := false, apart := false, narrowed := true }
def RefinesEquivalentUptoSaid : Prop := refinesEquivalentUptoRow.holds Try.pinned (OpenSpec.upto refinesEquivalentSpec)

/-- 'gauntletlaw07.RefinesRespects', WHERE WHAT IT READS IS OF BULK AT MOST 1048576: true; the input reads as it did. -/
def refinesRespectsUptoRow : OpenClaim := { program := "ytonnplhiaidjnaa", sum := "5e623353d16c41021f86d6449f81e20dc45ba2d4e5cd0819940f27ffa1f25030", func := "gauntlet/gauntletlaw07.RefinesRespects", spec := "refinesRespects", unfollowed := true, recurses := true, plainKeys := false, apart := false, narrowed := true }
def RefinesRespectsUptoSaid : Prop := refinesRespectsUptoRow.holds Try.pinned (OpenSpec.upto refinesRespectsSpec)

/-- 'gauntletlaw07.RefinesKnown', WHERE WHAT IT READS IS OF BULK AT MOST 1048576: true; the input reads as it did. -/
def refinesKnownUptoRow : OpenClaim := { program := "ytonnplhiaidjnaa", sum := "5e623353d16c41021f86d6449f81e20dc45ba2d4e5cd0819940f27ffa1f25030", func := "gauntlet/gauntletlaw07.RefinesKnown", spec := "refinesKnown", unfollowed := true, recurses := true, plainKeys := false, apart := false, narrowed := true }
def RefinesKnownUptoSaid : Prop := refinesKnownUptoRow.holds Try.pinned (OpenSpec.upto refinesKnownSpec)

/-- 'gauntletlaw08.SplitsSeparate', WHERE WHAT IT READS IS OF BULK AT MOST 1048576: true; the input reads as it did. -/
def splitsSeparateUptoRow : OpenClaim := { program := "ytonnplhiaidjnaa", sum := "5e623353d16c41021f86d6449f81e20dc45ba2d4e5cd0819940f27ffa1f25030", func := "gauntlet/gauntletlaw08.SplitsSeparate", spec := "splitsSeparate", unfollowed := true, recurses := true, plainKeys := false, apart := false, narrowed := true }
def SplitsSeparateUptoSaid : Prop := splitsSeparateUptoRow.holds Try.pinned (OpenSpec.upto splitsSeparateSpec)

/-- 'gauntletlaw08.SplitsSeparates', WHERE WHAT IT READS IS OF BULK AT MOST 1048576: true; the input reads as it did. -/
def splitsSeparatesUptoRow : OpenClaim := { program := "ytonnplhiaidjnaa", sum := "5e623353d16c41021f86d6449f81e20dc45ba2d4e5cd0819940f27ffa1f25030", func := "gauntlet/gauntletlaw08.SplitsSeparates", spec := "splitsSeparates", unfollowed := true, recurses := true, plainKeys := false, apart := false, narrowed := true }
def SplitsSeparatesUptoSaid : Prop := splitsSeparatesUptoRow.holds Try.pinned (OpenSpec.upto splitsSeparatesSpec)

/-- 'gauntletlaw08.SplitsTable', WHERE WHAT IT READS IS OF BULK AT MOST 1048576: true; the input reads as it did. -/
def splitsTableUptoRow : OpenClaim := { program := "ytonnplhiaidjnaa", sum := "5e623353d16c41021f86d6449f81e20dc45ba2d4e5cd0819940f27ffa1f25030", func := "gauntlet/gauntletlaw08.SplitsTable", spec := "splitsTable", unfollowed := true, recurses := true, plainKeys := false, apart := false, narrowed := true }
def SplitsTableUptoSaid : Prop := splitsTableUptoRow.holds Try.pinned (OpenSpec.upto splitsTableSpec)

/-- 'gauntletlaw08.SplitsLadder', WHERE WHAT IT READS IS OF BULK AT MOST 1048576: true; the input reads as it did. -/
def splitsLadderUptoRow : OpenClaim := { program := "ytonnplhiaidjnaa", sum := "5e623353d16c41021f86d6449f81e20dc45ba2d4e5cd0819940f27ffa1f25030", func := "gauntlet/gauntletlaw08.SplitsLadder", spec := "splitsLadder", unfollowed := true, recurses := true, plainKeys := false, apart := false, narrowed := true }
def SplitsLadderUptoSaid : Prop := splitsLadderUptoRow.holds Try.pinned (OpenSpec.upto splitsLadderSpec)

/-- 'gauntletlaw08.SplitsAfter', WHERE WHAT IT READS IS OF BULK AT MOST 1048576: true; the input reads as it did. -/
def splitsAfterUptoRow : OpenClaim := { program := "ytonnplhiaidjnaa", sum := "5e623353d16c41021f86d6449f81e20dc45ba2d4e5cd0819940f27ffa1f25030", func := "gauntlet/gauntletlaw08.SplitsAfter", spec := "splitsAfter", unfollowed := true, recurses := true, plainKeys := false, apart := false, narrowed := true }
def SplitsAfterUptoSaid : Prop := splitsAfterUptoRow.holds Try.pinned (OpenSpec.upto splitsAfterSpec)

/-- 'gauntletlaw08.SplitsErrors', WHERE WHAT IT READS IS OF BULK AT MOST 1048576: true; the input reads as it did. -/
def splitsErrorsUptoRow : OpenClaim := { program := "ytonnplhiaidjnaa", sum := "5e623353d16c41021f86d6449f81e20dc45ba2d4e5cd0819940f27ffa1f25030", func := "gauntlet/gauntletlaw08.SplitsErrors", spec := "splitsErrors", unfollowed := true, recurses := true, plainKeys := false, apart := false, narrowed := true }
def SplitsErrorsUptoSaid : Prop := splitsErrorsUptoRow.holds Try.pinned (OpenSpec.upto splitsErrorsSpec)

/-- 'gauntletlaw08.SplitsKnown', WHERE WHAT IT READS IS OF BULK AT MOST 1048576: true; the input reads as it did. -/
def splitsKnownUptoRow : OpenClaim := { program := "ytonnplhiaidjnaa", sum := "5e623353d16c41021f86d6449f81e20dc45ba2d4e5cd0819940f27ffa1f25030", func := "gauntlet/gauntletlaw08.SplitsKnown", spec := "splitsKnown", unfollowed := true, recurses := true, plainKeys := false, apart := false, narrowed := true }
def SplitsKnownUptoSaid : Prop := splitsKnownUptoRow.holds Try.pinned (OpenSpec.upto splitsKnownSpec)

end Rows
end Go.Proofs.Ytonnplhiaidjnaa
