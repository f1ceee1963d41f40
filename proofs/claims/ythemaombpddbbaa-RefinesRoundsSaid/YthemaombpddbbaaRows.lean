/-
  No cell of these rows narrows 'for every input' (looked for: loops, veiled, ifaces, maps, wideKeys, modest, calm, conditions, laid).
  DERIVED. THE GIVEN ROWS OF THIS SEAT. 11 by the template 'for every input the law returns true; each argument reads behind the call as it read before'; 0 by the template 'total and deterministic' (their statements: YthemaombpddbbaaTotals.lean).
  GIVEN WITH THE SEED: the statements are not yours to turn. If you find one false, say at which input.
  Laid BY PROGRAM, IN A SANDBOX (cutbox-rows.mjs): the forced cells as the released guide's own fill.sh prints them over the translation b87d5171fd89981c… (all of the seat's roots in one cut). By AI agents, Wed Nov 11 2026. No macro, syntax, notation, axiom, sorry.
-/
import Derived.Test.YthemaombpddbbaaChecked
import GoSem.Claim
import GoSem.ClaimJoined
import GoSem.ClaimMapViews
import Derived.JoinedTies
import Derived.KernelRfl
namespace Go.Proofs.Ythemaombpddbbaa
/- THE CELL 'sum', in the pinned program and in every row, IS THE sha256 OF THE DUMP (.gsa) THAT YthemaombpddbbaaProg.lean LOADS. Nothing in Lean hashes anything: it is a label: what it is worth is what the hold of that sum in a sandbox is worth. -/
noncomputable def Try.pinned : Pinned := { name := "ythemaombpddbbaa", sum := "b87d5171fd89981cd9bf9fe73babc979000be71e1aac2688c5670b2a1c2cb462", checked := Try.checked }
namespace Rows
def none {H : Type} : Left H := { results := [], args := [] }

/-- 'gauntletlaw06.WalksCanonical': WHATEVER THE INPUT: true; the input reads as it did. -/
def walksCanonicalSpec : ChangeSpec := { name := "walksCanonical", fn := fun _ => fun
  | [d1, d2, d3] => { results := [.lit (.bool true)], args := [d1, d2, d3] }
  | _ => none }
def walksCanonicalRow : OpenClaim := { program := "ythemaombpddbbaa", sum := "b87d5171fd89981cd9bf9fe73babc979000be71e1aac2688c5670b2a1c2cb462", func := "gauntlet/gauntletlaw06.WalksCanonical", spec := "walksCanonical", unfollowed := true, recurses := true, plainKeys := false, apart := false }
def WalksCanonicalSaid : Prop := walksCanonicalRow.holds Try.pinned (OpenSpec.ofChange walksCanonicalSpec)

/-- ITS FALSE NEIGHBOUR: 'it returns false'. Refute it at one input. -/
def walksCanonicalWrong : ChangeSpec := { name := "walksCanonical", fn := fun _ => fun
  | [d1, d2, d3] => { results := [.lit (.bool false)], args := [d1, d2, d3] }
  | _ => none }
def WalksCanonicalWrongFalsely : Prop := walksCanonicalRow.holds Try.pinned (OpenSpec.ofChange walksCanonicalWrong)

/-- 'gauntletlaw06.WalksIsomorphic': WHATEVER THE INPUT: true; the input reads as it did. -/
def walksIsomorphicSpec : ChangeSpec := { name := "walksIsomorphic", fn := fun _ => fun
  | [d1, d2, d3] => { results := [.lit (.bool true)], args := [d1, d2, d3] }
  | _ => none }
def walksIsomorphicRow : OpenClaim := { program := "ythemaombpddbbaa", sum := "b87d5171fd89981cd9bf9fe73babc979000be71e1aac2688c5670b2a1c2cb462", func := "gauntlet/gauntletlaw06.WalksIsomorphic", spec := "walksIsomorphic", unfollowed := true, recurses := true, plainKeys := false, apart := false }
def WalksIsomorphicSaid : Prop := walksIsomorphicRow.holds Try.pinned (OpenSpec.ofChange walksIsomorphicSpec)

/-- ITS FALSE NEIGHBOUR: 'it returns false'. Refute it at one input. -/
def walksIsomorphicWrong : ChangeSpec := { name := "walksIsomorphic", fn := fun _ => fun
  | [d1, d2, d3] => { results := [.lit (.bool false)], args := [d1, d2, d3] }
  | _ => none }
def WalksIsomorphicWrongFalsely : Prop := walksIsomorphicRow.holds Try.pinned (OpenSpec.ofChange walksIsomorphicWrong)

/-- 'gauntletlaw06.WalksErrors': WHATEVER THE INPUT: true; the input reads as it did. -/
def walksErrorsSpec : ChangeSpec := { name := "walksErrors", fn := fun _ => fun
  | [d1, d2, d3] => { results := [.lit (.bool true)], args := [d1, d2, d3] }
  | _ => none }
def walksErrorsRow : OpenClaim := { program := "ythemaombpddbbaa", sum := "b87d5171fd89981cd9bf9fe73babc979000be71e1aac2688c5670b2a1c2cb462", func := "gauntlet/gauntletlaw06.WalksErrors", spec := "walksErrors", unfollowed := true, recurses := true, plainKeys := false, apart := false }
def WalksErrorsSaid : Prop := walksErrorsRow.holds Try.pinned (OpenSpec.ofChange walksErrorsSpec)

/-- ITS FALSE NEIGHBOUR: 'it returns false'. Refute it at one input. -/
def walksErrorsWrong : ChangeSpec := { name := "walksErrors", fn := fun _ => fun
  | [d1, d2, d3] => { results := [.lit (.bool false)], args := [d1, d2, d3] }
  | _ => none }
def WalksErrorsWrongFalsely : Prop := walksErrorsRow.holds Try.pinned (OpenSpec.ofChange walksErrorsWrong)

/-- 'gauntletlaw06.WalksC': WHATEVER THE INPUT: true; the input reads as it did. -/
def walksCSpec : ChangeSpec := { name := "walksC", fn := fun _ => fun
  | [d] => { results := [.lit (.bool true)], args := [d] }
  | _ => none }
def walksCRow : OpenClaim := { program := "ythemaombpddbbaa", sum := "b87d5171fd89981cd9bf9fe73babc979000be71e1aac2688c5670b2a1c2cb462", func := "gauntlet/gauntletlaw06.WalksC", spec := "walksC", unfollowed := true, recurses := true, plainKeys := false, apart := false }
def WalksCSaid : Prop := walksCRow.holds Try.pinned (OpenSpec.ofChange walksCSpec)

/-- ITS FALSE NEIGHBOUR: 'it returns false'. Refute it at one input. -/
def walksCWrong : ChangeSpec := { name := "walksC", fn := fun _ => fun
  | [d] => { results := [.lit (.bool false)], args := [d] }
  | _ => none }
def WalksCWrongFalsely : Prop := walksCRow.holds Try.pinned (OpenSpec.ofChange walksCWrong)

/-- 'gauntletlaw06.WalksKnown': WHATEVER THE INPUT: true; the input reads as it did. -/
def walksKnownSpec : ChangeSpec := { name := "walksKnown", fn := fun _ => fun
  | [] => { results := [.lit (.bool true)], args := [] }
  | _ => none }
def walksKnownRow : OpenClaim := { program := "ythemaombpddbbaa", sum := "b87d5171fd89981cd9bf9fe73babc979000be71e1aac2688c5670b2a1c2cb462", func := "gauntlet/gauntletlaw06.WalksKnown", spec := "walksKnown", unfollowed := true, recurses := true, plainKeys := false, apart := false }
def WalksKnownSaid : Prop := walksKnownRow.holds Try.pinned (OpenSpec.ofChange walksKnownSpec)

/-- ITS FALSE NEIGHBOUR: 'it returns false'. Refute it at one input. -/
def walksKnownWrong : ChangeSpec := { name := "walksKnown", fn := fun _ => fun
  | [] => { results := [.lit (.bool false)], args := [] }
  | _ => none }
def WalksKnownWrongFalsely : Prop := walksKnownRow.holds Try.pinned (OpenSpec.ofChange walksKnownWrong)

/-- 'gauntletlaw07.RefinesRounds': WHATEVER THE INPUT: true; the input reads as it did. -/
def refinesRoundsSpec : ChangeSpec := { name := "refinesRounds", fn := fun _ => fun
  | [d1, d2] => { results := [.lit (.bool true)], args := [d1, d2] }
  | _ => none }
def refinesRoundsRow : OpenClaim := { program := "ythemaombpddbbaa", sum := "b87d5171fd89981cd9bf9fe73babc979000be71e1aac2688c5670b2a1c2cb462", func := "gauntlet/gauntletlaw07.RefinesRounds", spec := "refinesRounds", unfollowed := true, recurses := true, plainKeys := false, apart := false }
def RefinesRoundsSaid : Prop := refinesRoundsRow.holds Try.pinned (OpenSpec.ofChange refinesRoundsSpec)

/-- ITS FALSE NEIGHBOUR: 'it returns false'. Refute it at one input. -/
def refinesRoundsWrong : ChangeSpec := { name := "refinesRounds", fn := fun _ => fun
  | [d1, d2] => { results := [.lit (.bool false)], args := [d1, d2] }
  | _ => none }
def RefinesRoundsWrongFalsely : Prop := refinesRoundsRow.holds Try.pinned (OpenSpec.ofChange refinesRoundsWrong)

/-- 'gauntletlaw07.RefinesClasses': WHATEVER THE INPUT: true; the input reads as it did. -/
def refinesClassesSpec : ChangeSpec := { name := "refinesClasses", fn := fun _ => fun
  | [d1, d2] => { results := [.lit (.bool true)], args := [d1, d2] }
  | _ => none }
def refinesClassesRow : OpenClaim := { program := "ythemaombpddbbaa", sum := "b87d5171fd89981cd9bf9fe73babc979000be71e1aac2688c5670b2a1c2cb462", func := "gauntlet/gauntletlaw07.RefinesClasses", spec := "refinesClasses", unfollowed := true, recurses := true, plainKeys := false, apart := false }
def RefinesClassesSaid : Prop := refinesClassesRow.holds Try.pinned (OpenSpec.ofChange refinesClassesSpec)

/-- ITS FALSE NEIGHBOUR: 'it returns false'. Refute it at one input. -/
def refinesClassesWrong : ChangeSpec := { name := "refinesClasses", fn := fun _ => fun
  | [d1, d2] => { results := [.lit (.bool false)], args := [d1, d2] }
  | _ => none }
def RefinesClassesWrongFalsely : Prop := refinesClassesRow.holds Try.pinned (OpenSpec.ofChange refinesClassesWrong)

/-- 'gauntletlaw07.RefinesEquivalent': WHATEVER THE INPUT: true; the input reads as it did. -/
def refinesEquivalentSpec : ChangeSpec := { name := "refinesEquivalent", fn := fun _ => fun
  | [d1, d2, d3] => { results := [.lit (.bool true)], args := [d1, d2, d3] }
  | _ => none }
def refinesEquivalentRow : OpenClaim := { program := "ythemaombpddbbaa", sum := "b87d5171fd89981cd9bf9fe73babc979000be71e1aac2688c5670b2a1c2cb462", func := "gauntlet/gauntletlaw07.RefinesEquivalent", spec := "refinesEquivalent", unfollowed := true, recurses := true, plainKeys := false, apart := false }
def RefinesEquivalentSaid : Prop := refinesEquivalentRow.holds Try.pinned (OpenSpec.ofChange refinesEquivalentSpec)

/-- ITS FALSE NEIGHBOUR: 'it returns false'. Refute it at one input. -/
def refinesEquivalentWrong : ChangeSpec := { name := "refinesEquivalent", fn := fun _ => fun
  | [d1, d2, d3] => { results := [.lit (.bool false)], args := [d1, d2, d3] }
  | _ => none }
def RefinesEquivalentWrongFalsely : Prop := refinesEquivalentRow.holds Try.pinned (OpenSpec.ofChange refinesEquivalentWrong)

/-- 'gauntletlaw07.RefinesRespects': WHATEVER THE INPUT: true; the input reads as it did. -/
def refinesRespectsSpec : ChangeSpec := { name := "refinesRespects", fn := fun _ => fun
  | [d1, d2, d3] => { results := [.lit (.bool true)], args := [d1, d2, d3] }
  | _ => none }
def refinesRespectsRow : OpenClaim := { program := "ythemaombpddbbaa", sum := "b87d5171fd89981cd9bf9fe73babc979000be71e1aac2688c5670b2a1c2cb462", func := "gauntlet/gauntletlaw07.RefinesRespects", spec := "refinesRespects", unfollowed := true, recurses := true, plainKeys := false, apart := false }
def RefinesRespectsSaid : Prop := refinesRespectsRow.holds Try.pinned (OpenSpec.ofChange refinesRespectsSpec)

/-- ITS FALSE NEIGHBOUR: 'it returns false'. Refute it at one input. -/
def refinesRespectsWrong : ChangeSpec := { name := "refinesRespects", fn := fun _ => fun
  | [d1, d2, d3] => { results := [.lit (.bool false)], args := [d1, d2, d3] }
  | _ => none }
def RefinesRespectsWrongFalsely : Prop := refinesRespectsRow.holds Try.pinned (OpenSpec.ofChange refinesRespectsWrong)

/-- 'gauntletlaw07.RefinesErrors': WHATEVER THE INPUT: true; the input reads as it did. -/
def refinesErrorsSpec : ChangeSpec := { name := "refinesErrors", fn := fun _ => fun
  | [d1, d2, d3] => { results := [.lit (.bool true)], args := [d1, d2, d3] }
  | _ => none }
def refinesErrorsRow : OpenClaim := { program := "ythemaombpddbbaa", sum := "b87d5171fd89981cd9bf9fe73babc979000be71e1aac2688c5670b2a1c2cb462", func := "gauntlet/gauntletlaw07.RefinesErrors", spec := "refinesErrors", unfollowed := true, recurses := true, plainKeys := false, apart := false }
def RefinesErrorsSaid : Prop := refinesErrorsRow.holds Try.pinned (OpenSpec.ofChange refinesErrorsSpec)

/-- ITS FALSE NEIGHBOUR: 'it returns false'. Refute it at one input. -/
def refinesErrorsWrong : ChangeSpec := { name := "refinesErrors", fn := fun _ => fun
  | [d1, d2, d3] => { results := [.lit (.bool false)], args := [d1, d2, d3] }
  | _ => none }
def RefinesErrorsWrongFalsely : Prop := refinesErrorsRow.holds Try.pinned (OpenSpec.ofChange refinesErrorsWrong)

/-- 'gauntletlaw07.RefinesKnown': WHATEVER THE INPUT: true; the input reads as it did. -/
def refinesKnownSpec : ChangeSpec := { name := "refinesKnown", fn := fun _ => fun
  | [] => { results := [.lit (.bool true)], args := [] }
  | _ => none }
def refinesKnownRow : OpenClaim := { program := "ythemaombpddbbaa", sum := "b87d5171fd89981cd9bf9fe73babc979000be71e1aac2688c5670b2a1c2cb462", func := "gauntlet/gauntletlaw07.RefinesKnown", spec := "refinesKnown", unfollowed := true, recurses := true, plainKeys := false, apart := false }
def RefinesKnownSaid : Prop := refinesKnownRow.holds Try.pinned (OpenSpec.ofChange refinesKnownSpec)

/-- ITS FALSE NEIGHBOUR: 'it returns false'. Refute it at one input. -/
def refinesKnownWrong : ChangeSpec := { name := "refinesKnown", fn := fun _ => fun
  | [] => { results := [.lit (.bool false)], args := [] }
  | _ => none }
def RefinesKnownWrongFalsely : Prop := refinesKnownRow.holds Try.pinned (OpenSpec.ofChange refinesKnownWrong)

/- THE SECOND FORM. 'bulk': how many values and letters a reading holds, each counted each time it is reached (what is shared counts as often as it is met; a slice's spare places count too). A statement '..UptoSaid' is the law's where the arguments, and the package variables that the reading takes, are together of bulk at most 1048576: NARROWER than '..Said'. Prove '..Said' where nothing that the law and all that it calls make is longer than what came in: it says more and counts as full. Else prove '..UptoSaid'. A law counts once. -/
mutual
def uptoBulk {H : Type} : DataW H → Nat
  | .lit (.string bytes) => bytes.length + 1
  | .lit _ => 1
  | .nil => 1
  | .ptr d => uptoBulk d + 1
  | .slice elems spare => uptoBulkAll elems + uptoBulkAll spare + 1
  | .agg parts => uptoBulkAll parts + 1
  | .iface _ d => uptoBulk d + 1
  | .map entries => uptoBulkEntries entries + 1
  | .held _ => 1
def uptoBulkAll {H : Type} : List (DataW H) → Nat
  | [] => 0
  | d :: r => uptoBulk d + uptoBulkAll r
def uptoBulkEntries {H : Type} : List (Lit × DataW H) → Nat
  | [] => 0
  | x :: r => uptoBulkEntry x + uptoBulkEntries r
def uptoBulkEntry {H : Type} : Lit × DataW H → Nat
  | (.string bytes, d) => bytes.length + uptoBulk d + 1
  | (_, d) => uptoBulk d + 1
 end
def uptoSmall : (H : Type) → List (DataW H) → Bool := fun _ ds => decide (uptoBulkAll ds ≤ 1048576)
def OpenSpec.upto (s : _root_.Go.ChangeSpec) : _root_.Go.OpenSpec := { _root_.Go.OpenSpec.ofChange s with cond := some uptoSmall }

/-- 'gauntletlaw06.WalksCanonical', WHERE WHAT IT READS IS OF BULK AT MOST 1048576: true; the input reads as it did. -/
def walksCanonicalUptoRow : OpenClaim := { program := "ythemaombpddbbaa", sum := "b87d5171fd89981cd9bf9fe73babc979000be71e1aac2688c5670b2a1c2cb462", func := "gauntlet/gauntletlaw06.WalksCanonical", spec := "walksCanonical", unfollowed := true, recurses := true, plainKeys := false, apart := false, narrowed := true }
def WalksCanonicalUptoSaid : Prop := walksCanonicalUptoRow.holds Try.pinned (OpenSpec.upto walksCanonicalSpec)

/-- 'gauntletlaw06.WalksIsomorphic', WHERE WHAT IT READS IS OF BULK AT MOST 1048576: true; the input reads as it did. -/
def walksIsomorphicUptoRow : OpenClaim := { program := "ythemaombpddbbaa", sum := "b87d5171fd89981cd9bf9fe73babc979000be71e1aac2688c5670b2a1c2cb462", func := "gauntlet/gauntletlaw06.WalksIsomorphic", spec := "walksIsomorphic", unfollowed := true, recurses := true, plainKeys := false, apart := false, narrowed := true }
def WalksIsomorphicUptoSaid : Prop := walksIsomorphicUptoRow.holds Try.pinned (OpenSpec.upto walksIsomorphicSpec)

/-- 'gauntletlaw06.WalksErrors', WHERE WHAT IT READS IS OF BULK AT MOST 1048576: true; the input reads as it did. -/
def walksErrorsUptoRow : OpenClaim := { program := "ythemaombpddbbaa", sum := "b87d5171fd89981cd9bf9fe73babc979000be71e1aac2688c5670b2a1c2cb462", func := "gauntlet/gauntletlaw06.WalksErrors", spec := "walksErrors", unfollowed := true, recurses := true, plainKeys := false, apart := false, narrowed := true }
def WalksErrorsUptoSaid : Prop := walksErrorsUptoRow.holds Try.pinned (OpenSpec.upto walksErrorsSpec)

/-- 'gauntletlaw06.WalksC', WHERE WHAT IT READS IS OF BULK AT MOST 1048576: true; the input reads as it did. -/
def walksCUptoRow : OpenClaim := { program := "ythemaombpddbbaa", sum := "b87d5171fd89981cd9bf9fe73babc979000be71e1aac2688c5670b2a1c2cb462", func := "gauntlet/gauntletlaw06.WalksC", spec := "walksC", unfollowed := true, recurses := true, plainKeys := false, apart := false, narrowed := true }
def WalksCUptoSaid : Prop := walksCUptoRow.holds Try.pinned (OpenSpec.upto walksCSpec)

/-- 'gauntletlaw06.WalksKnown', WHERE WHAT IT READS IS OF BULK AT MOST 1048576: true; the input reads as it did. -/
def walksKnownUptoRow : OpenClaim := { program := "ythemaombpddbbaa", sum := "b87d5171fd89981cd9bf9fe73babc979000be71e1aac2688c5670b2a1c2cb462", func := "gauntlet/gauntletlaw06.WalksKnown", spec := "walksKnown", unfollowed := true, recurses := true, plainKeys := false, apart := false, narrowed := true }
def WalksKnownUptoSaid : Prop := walksKnownUptoRow.holds Try.pinned (OpenSpec.upto walksKnownSpec)

/-- 'gauntletlaw07.RefinesRounds', WHERE WHAT IT READS IS OF BULK AT MOST 1048576: true; the input reads as it did. -/
def refinesRoundsUptoRow : OpenClaim := { program := "ythemaombpddbbaa", sum := "b87d5171fd89981cd9bf9fe73babc979000be71e1aac2688c5670b2a1c2cb462", func := "gauntlet/gauntletlaw07.RefinesRounds", spec := "refinesRounds", unfollowed := true, recurses := true, plainKeys := false, apart := false, narrowed := true }
def RefinesRoundsUptoSaid : Prop := refinesRoundsUptoRow.holds Try.pinned (OpenSpec.upto refinesRoundsSpec)

/-- 'gauntletlaw07.RefinesClasses', WHERE WHAT IT READS IS OF BULK AT MOST 1048576: true; the input reads as it did. -/
def refinesClassesUptoRow : OpenClaim := { program := "ythemaombpddbbaa", sum := "b87d5171fd89981cd9bf9fe73babc979000be71e1aac2688c5670b2a1c2cb462", func := "gauntlet/gauntletlaw07.RefinesClasses", spec := "refinesClasses", unfollowed := true, recurses := true, plainKeys := false, apart := false, narrowed := true }
def RefinesClassesUptoSaid : Prop := refinesClassesUptoRow.holds Try.pinned (OpenSpec.upto refinesClassesSpec)

/-- 'gauntletlaw07.RefinesEquivalent', WHERE WHAT IT READS IS OF BULK AT MOST 1048576: true; the input reads as it did. -/
def refinesEquivalentUptoRow : OpenClaim := { program := "ythemaombpddbbaa", sum := "b87d5171fd89981cd9bf9fe73babc979000be71e1aac2688c5670b2a1c2cb462", func := "gauntlet/gauntletlaw07.RefinesEquivalent", spec := "refinesEquivalent", unfollowed := true, recurses := true, plainKeys := false, apart := false, narrowed := true }
def RefinesEquivalentUptoSaid : Prop := refinesEquivalentUptoRow.holds Try.pinned (OpenSpec.upto refinesEquivalentSpec)

/-- 'gauntletlaw07.RefinesRespects', WHERE WHAT IT READS IS OF BULK AT MOST 1048576: true; the input reads as it did. -/
def refinesRespectsUptoRow : OpenClaim := { program := "ythemaombpddbbaa", sum := "b87d5171fd89981cd9bf9fe73babc979000be71e1aac2688c5670b2a1c2cb462", func := "gauntlet/gauntletlaw07.RefinesRespects", spec := "refinesRespects", unfollowed := true, recurses := true, plainKeys := false, apart := false, narrowed := true }
def RefinesRespectsUptoSaid : Prop := refinesRespectsUptoRow.holds Try.pinned (OpenSpec.upto refinesRespectsSpec)

/-- 'gauntletlaw07.RefinesErrors', WHERE WHAT IT READS IS OF BULK AT MOST 1048576: true; the input reads as it did. -/
def refinesErrorsUptoRow : OpenClaim := { program := "ythemaombpddbbaa", sum := "b87d5171fd89981cd9bf9fe73babc979000be71e1aac2688c5670b2a1c2cb462", func := "gauntlet/gauntletlaw07.RefinesErrors", spec := "refinesErrors", unfollowed := true, recurses := true, plainKeys := false, apart := false, narrowed := true }
def RefinesErrorsUptoSaid : Prop := refinesErrorsUptoRow.holds Try.pinned (OpenSpec.upto refinesErrorsSpec)

/-- 'gauntletlaw07.RefinesKnown', WHERE WHAT IT READS IS OF BULK AT MOST 1048576: true; the input reads as it did. -/
def refinesKnownUptoRow : OpenClaim := { program := "ythemaombpddbbaa", sum := "b87d5171fd89981cd9bf9fe73babc979000be71e1aac2688c5670b2a1c2cb462", func := "gauntlet/gauntletlaw07.RefinesKnown", spec := "refinesKnown", unfollowed := true, recurses := true, plainKeys := false, apart := false, narrowed := true }
def RefinesKnownUptoSaid : Prop := refinesKnownUptoRow.holds Try.pinned (OpenSpec.upto refinesKnownSpec)

end Rows
end Go.Proofs.Ythemaombpddbbaa
