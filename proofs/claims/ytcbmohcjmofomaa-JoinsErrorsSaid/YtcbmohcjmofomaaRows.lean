/-
  No cell of these rows narrows 'for every input' (looked for: loops, veiled, ifaces, maps, wideKeys, modest, calm, conditions, laid).
  DERIVED. THE GIVEN ROWS OF THIS SEAT. 9 by the template 'for every input the law returns true; each argument reads behind the call as it read before'; 0 by the template 'total and deterministic' (their statements: YtcbmohcjmofomaaTotals.lean).
  GIVEN WITH THE SEED: the statements are not yours to turn. If you find one false, say at which input.
  Laid BY PROGRAM, IN A SANDBOX (cutbox-rows.mjs): the forced cells as the released guide's own fill.sh prints them over the translation d24a8f220338d00b… (all of the seat's roots in one cut). By AI agents, Wed Nov 11 2026. No macro, syntax, notation, axiom, sorry.
-/
import Derived.Test.YtcbmohcjmofomaaChecked
import GoSem.Claim
import GoSem.ClaimJoined
import GoSem.ClaimMapViews
import Derived.JoinedTies
import Derived.KernelRfl
namespace Go.Proofs.Ytcbmohcjmofomaa
/- THE CELL 'sum', in the pinned program and in every row, IS THE sha256 OF THE DUMP (.gsa) THAT YtcbmohcjmofomaaProg.lean LOADS. Nothing in Lean hashes anything: it is a label: what it is worth is what the hold of that sum in a sandbox is worth. -/
noncomputable def Try.pinned : Pinned := { name := "ytcbmohcjmofomaa", sum := "d24a8f220338d00b047a601b62cb52536a4f32585d7eb590b01da2fcaf4472e6", checked := Try.checked }
namespace Rows
def none {H : Type} : Left H := { results := [], args := [] }

/-- 'gauntletlaw10.EqualsKnown': WHATEVER THE INPUT: true; the input reads as it did. -/
def equalsKnownSpec : ChangeSpec := { name := "equalsKnown", fn := fun _ => fun
  | [] => { results := [.lit (.bool true)], args := [] }
  | _ => none }
def equalsKnownRow : OpenClaim := { program := "ytcbmohcjmofomaa", sum := "d24a8f220338d00b047a601b62cb52536a4f32585d7eb590b01da2fcaf4472e6", func := "gauntlet/gauntletlaw10.EqualsKnown", spec := "equalsKnown", unfollowed := true, recurses := true, plainKeys := false, apart := false }
def EqualsKnownSaid : Prop := equalsKnownRow.holds Try.pinned (OpenSpec.ofChange equalsKnownSpec)

/-- ITS FALSE NEIGHBOUR: 'it returns false'. Refute it at one input. -/
def equalsKnownWrong : ChangeSpec := { name := "equalsKnown", fn := fun _ => fun
  | [] => { results := [.lit (.bool false)], args := [] }
  | _ => none }
def EqualsKnownWrongFalsely : Prop := equalsKnownRow.holds Try.pinned (OpenSpec.ofChange equalsKnownWrong)

/-- 'gauntletlaw11.JoinsSeries': WHATEVER THE INPUT: true; the input reads as it did. -/
def joinsSeriesSpec : ChangeSpec := { name := "joinsSeries", fn := fun _ => fun
  | [d1, d2, d3] => { results := [.lit (.bool true)], args := [d1, d2, d3] }
  | _ => none }
def joinsSeriesRow : OpenClaim := { program := "ytcbmohcjmofomaa", sum := "d24a8f220338d00b047a601b62cb52536a4f32585d7eb590b01da2fcaf4472e6", func := "gauntlet/gauntletlaw11.JoinsSeries", spec := "joinsSeries", unfollowed := true, recurses := true, plainKeys := false, apart := false }
def JoinsSeriesSaid : Prop := joinsSeriesRow.holds Try.pinned (OpenSpec.ofChange joinsSeriesSpec)

/-- ITS FALSE NEIGHBOUR: 'it returns false'. Refute it at one input. -/
def joinsSeriesWrong : ChangeSpec := { name := "joinsSeries", fn := fun _ => fun
  | [d1, d2, d3] => { results := [.lit (.bool false)], args := [d1, d2, d3] }
  | _ => none }
def JoinsSeriesWrongFalsely : Prop := joinsSeriesRow.holds Try.pinned (OpenSpec.ofChange joinsSeriesWrong)

/-- 'gauntletlaw11.JoinsParallel': WHATEVER THE INPUT: true; the input reads as it did. -/
def joinsParallelSpec : ChangeSpec := { name := "joinsParallel", fn := fun _ => fun
  | [d1, d2, d3] => { results := [.lit (.bool true)], args := [d1, d2, d3] }
  | _ => none }
def joinsParallelRow : OpenClaim := { program := "ytcbmohcjmofomaa", sum := "d24a8f220338d00b047a601b62cb52536a4f32585d7eb590b01da2fcaf4472e6", func := "gauntlet/gauntletlaw11.JoinsParallel", spec := "joinsParallel", unfollowed := true, recurses := true, plainKeys := false, apart := false }
def JoinsParallelSaid : Prop := joinsParallelRow.holds Try.pinned (OpenSpec.ofChange joinsParallelSpec)

/-- ITS FALSE NEIGHBOUR: 'it returns false'. Refute it at one input. -/
def joinsParallelWrong : ChangeSpec := { name := "joinsParallel", fn := fun _ => fun
  | [d1, d2, d3] => { results := [.lit (.bool false)], args := [d1, d2, d3] }
  | _ => none }
def JoinsParallelWrongFalsely : Prop := joinsParallelRow.holds Try.pinned (OpenSpec.ofChange joinsParallelWrong)

/-- 'gauntletlaw11.JoinsRename': WHATEVER THE INPUT: true; the input reads as it did. -/
def joinsRenameSpec : ChangeSpec := { name := "joinsRename", fn := fun _ => fun
  | [d1, d2, d3] => { results := [.lit (.bool true)], args := [d1, d2, d3] }
  | _ => none }
def joinsRenameRow : OpenClaim := { program := "ytcbmohcjmofomaa", sum := "d24a8f220338d00b047a601b62cb52536a4f32585d7eb590b01da2fcaf4472e6", func := "gauntlet/gauntletlaw11.JoinsRename", spec := "joinsRename", unfollowed := true, recurses := true, plainKeys := false, apart := false }
def JoinsRenameSaid : Prop := joinsRenameRow.holds Try.pinned (OpenSpec.ofChange joinsRenameSpec)

/-- ITS FALSE NEIGHBOUR: 'it returns false'. Refute it at one input. -/
def joinsRenameWrong : ChangeSpec := { name := "joinsRename", fn := fun _ => fun
  | [d1, d2, d3] => { results := [.lit (.bool false)], args := [d1, d2, d3] }
  | _ => none }
def JoinsRenameWrongFalsely : Prop := joinsRenameRow.holds Try.pinned (OpenSpec.ofChange joinsRenameWrong)

/-- 'gauntletlaw11.JoinsFill': WHATEVER THE INPUT: true; the input reads as it did. -/
def joinsFillSpec : ChangeSpec := { name := "joinsFill", fn := fun _ => fun
  | [d1, d2, d3] => { results := [.lit (.bool true)], args := [d1, d2, d3] }
  | _ => none }
def joinsFillRow : OpenClaim := { program := "ytcbmohcjmofomaa", sum := "d24a8f220338d00b047a601b62cb52536a4f32585d7eb590b01da2fcaf4472e6", func := "gauntlet/gauntletlaw11.JoinsFill", spec := "joinsFill", unfollowed := true, recurses := true, plainKeys := false, apart := false }
def JoinsFillSaid : Prop := joinsFillRow.holds Try.pinned (OpenSpec.ofChange joinsFillSpec)

/-- ITS FALSE NEIGHBOUR: 'it returns false'. Refute it at one input. -/
def joinsFillWrong : ChangeSpec := { name := "joinsFill", fn := fun _ => fun
  | [d1, d2, d3] => { results := [.lit (.bool false)], args := [d1, d2, d3] }
  | _ => none }
def JoinsFillWrongFalsely : Prop := joinsFillRow.holds Try.pinned (OpenSpec.ofChange joinsFillWrong)

/-- 'gauntletlaw11.JoinsRestrict': WHATEVER THE INPUT: true; the input reads as it did. -/
def joinsRestrictSpec : ChangeSpec := { name := "joinsRestrict", fn := fun _ => fun
  | [d1, d2, d3] => { results := [.lit (.bool true)], args := [d1, d2, d3] }
  | _ => none }
def joinsRestrictRow : OpenClaim := { program := "ytcbmohcjmofomaa", sum := "d24a8f220338d00b047a601b62cb52536a4f32585d7eb590b01da2fcaf4472e6", func := "gauntlet/gauntletlaw11.JoinsRestrict", spec := "joinsRestrict", unfollowed := true, recurses := true, plainKeys := false, apart := false }
def JoinsRestrictSaid : Prop := joinsRestrictRow.holds Try.pinned (OpenSpec.ofChange joinsRestrictSpec)

/-- ITS FALSE NEIGHBOUR: 'it returns false'. Refute it at one input. -/
def joinsRestrictWrong : ChangeSpec := { name := "joinsRestrict", fn := fun _ => fun
  | [d1, d2, d3] => { results := [.lit (.bool false)], args := [d1, d2, d3] }
  | _ => none }
def JoinsRestrictWrongFalsely : Prop := joinsRestrictRow.holds Try.pinned (OpenSpec.ofChange joinsRestrictWrong)

/-- 'gauntletlaw11.JoinsUnite': WHATEVER THE INPUT: true; the input reads as it did. -/
def joinsUniteSpec : ChangeSpec := { name := "joinsUnite", fn := fun _ => fun
  | [d1, d2, d3] => { results := [.lit (.bool true)], args := [d1, d2, d3] }
  | _ => none }
def joinsUniteRow : OpenClaim := { program := "ytcbmohcjmofomaa", sum := "d24a8f220338d00b047a601b62cb52536a4f32585d7eb590b01da2fcaf4472e6", func := "gauntlet/gauntletlaw11.JoinsUnite", spec := "joinsUnite", unfollowed := true, recurses := true, plainKeys := false, apart := false }
def JoinsUniteSaid : Prop := joinsUniteRow.holds Try.pinned (OpenSpec.ofChange joinsUniteSpec)

/-- ITS FALSE NEIGHBOUR: 'it returns false'. Refute it at one input. -/
def joinsUniteWrong : ChangeSpec := { name := "joinsUnite", fn := fun _ => fun
  | [d1, d2, d3] => { results := [.lit (.bool false)], args := [d1, d2, d3] }
  | _ => none }
def JoinsUniteWrongFalsely : Prop := joinsUniteRow.holds Try.pinned (OpenSpec.ofChange joinsUniteWrong)

/-- 'gauntletlaw11.JoinsErrors': WHATEVER THE INPUT: true; the input reads as it did. -/
def joinsErrorsSpec : ChangeSpec := { name := "joinsErrors", fn := fun _ => fun
  | [d1, d2] => { results := [.lit (.bool true)], args := [d1, d2] }
  | _ => none }
def joinsErrorsRow : OpenClaim := { program := "ytcbmohcjmofomaa", sum := "d24a8f220338d00b047a601b62cb52536a4f32585d7eb590b01da2fcaf4472e6", func := "gauntlet/gauntletlaw11.JoinsErrors", spec := "joinsErrors", unfollowed := true, recurses := true, plainKeys := false, apart := false }
def JoinsErrorsSaid : Prop := joinsErrorsRow.holds Try.pinned (OpenSpec.ofChange joinsErrorsSpec)

/-- ITS FALSE NEIGHBOUR: 'it returns false'. Refute it at one input. -/
def joinsErrorsWrong : ChangeSpec := { name := "joinsErrors", fn := fun _ => fun
  | [d1, d2] => { results := [.lit (.bool false)], args := [d1, d2] }
  | _ => none }
def JoinsErrorsWrongFalsely : Prop := joinsErrorsRow.holds Try.pinned (OpenSpec.ofChange joinsErrorsWrong)

/-- 'gauntletlaw11.JoinsKnown': WHATEVER THE INPUT: true; the input reads as it did. -/
def joinsKnownSpec : ChangeSpec := { name := "joinsKnown", fn := fun _ => fun
  | [] => { results := [.lit (.bool true)], args := [] }
  | _ => none }
def joinsKnownRow : OpenClaim := { program := "ytcbmohcjmofomaa", sum := "d24a8f220338d00b047a601b62cb52536a4f32585d7eb590b01da2fcaf4472e6", func := "gauntlet/gauntletlaw11.JoinsKnown", spec := "joinsKnown", unfollowed := true, recurses := true, plainKeys := false, apart := false }
def JoinsKnownSaid : Prop := joinsKnownRow.holds Try.pinned (OpenSpec.ofChange joinsKnownSpec)

/-- ITS FALSE NEIGHBOUR: 'it returns false'. Refute it at one input. -/
def joinsKnownWrong : ChangeSpec := { name := "joinsKnown", fn := fun _ => fun
  | [] => { results := [.lit (.bool false)], args := [] }
  | _ => none }
def JoinsKnownWrongFalsely : Prop := joinsKnownRow.holds Try.pinned (OpenSpec.ofChange joinsKnownWrong)

/- THE SECOND FORM. 'bulk': how many values and letters a reading holds, each counted each time it is reached (what is shared counts as often as it is met; a slice's spare places count too). A statement '..UptoSaid' is the law's where the arguments, and the package variables that the reading takes, are together of bulk at most 1048576: NARROWER than '..Said'. Prove '..Said' where nothing that the law and all that it calls make is longer than what came in: it says more and counts as full. Else prove '..UptoSaid'. A law counts once. -/
mutual
def uptoBulk {H : Type} : DataW H → Nat
  | .lit (.string bytes) => bytes.length + 1
  | .lit _ => 1
  | .nil => 1
  | .ptr d => uptoBulk d + 1
  | .slice elems spare => uptoBulkAll elems + uptoBulkAll spare + 1
  | .agg parts => uptoBulkAll parts + 1
  | .iface _ d => uptoBulk d + 1
  | .map entries => uptoBulkEntries entries + 1
  | .held _ => 1
def uptoBulkAll {H : Type} : List (DataW H) → Nat
  | [] => 0
  | d :: r => uptoBulk d + uptoBulkAll r
def uptoBulkEntries {H : Type} : List (Lit × DataW H) → Nat
  | [] => 0
  | x :: r => uptoBulkEntry x + uptoBulkEntries r
def uptoBulkEntry {H : Type} : Lit × DataW H → Nat
  | (.string bytes, d) => bytes.length + uptoBulk d + 1
  | (_, d) => uptoBulk d + 1
 end
def uptoSmall : (H : Type) → List (DataW H) → Bool := fun _ ds => decide (uptoBulkAll ds ≤ 1048576)
def OpenSpec.upto (s : _root_.Go.ChangeSpec) : _root_.Go.OpenSpec := { _root_.Go.OpenSpec.ofChange s with cond := some uptoSmall }

/-- 'gauntletlaw10.EqualsKnown', WHERE WHAT IT READS IS OF BULK AT MOST 1048576: true; the input reads as it did. -/
def equalsKnownUptoRow : OpenClaim := { program := "ytcbmohcjmofomaa", sum := "d24a8f220338d00b047a601b62cb52536a4f32585d7eb590b01da2fcaf4472e6", func := "gauntlet/gauntletlaw10.EqualsKnown", spec := "equalsKnown", unfollowed := true, recurses := true, plainKeys := false, apart := false, narrowed := true }
def EqualsKnownUptoSaid : Prop := equalsKnownUptoRow.holds Try.pinned (OpenSpec.upto equalsKnownSpec)

/-- 'gauntletlaw11.JoinsSeries', WHERE WHAT IT READS IS OF BULK AT MOST 1048576: true; the input reads as it did. -/
def joinsSeriesUptoRow : OpenClaim := { program := "ytcbmohcjmofomaa", sum := "d24a8f220338d00b047a601b62cb52536a4f32585d7eb590b01da2fcaf4472e6", func := "gauntlet/gauntletlaw11.JoinsSeries", spec := "joinsSeries", unfollowed := true, recurses := true, plainKeys := false, apart := false, narrowed := true }
def JoinsSeriesUptoSaid : Prop := joinsSeriesUptoRow.holds Try.pinned (OpenSpec.upto joinsSeriesSpec)

/-- 'gauntletlaw11.JoinsParallel', WHERE WHAT IT READS IS OF BULK AT MOST 1048576: true; the input reads as it did. -/
def joinsParallelUptoRow : OpenClaim := { program := "ytcbmohcjmofomaa", sum := "d24a8f220338d00b047a601b62cb52536a4f32585d7eb590b01da2fcaf4472e6", func := "gauntlet/gauntletlaw11.JoinsParallel", spec := "joinsParallel", unfollowed := true, recurses := true, plainKeys := false, apart := false, narrowed := true }
def JoinsParallelUptoSaid : Prop := joinsParallelUptoRow.holds Try.pinned (OpenSpec.upto joinsParallelSpec)

/-- 'gauntletlaw11.JoinsRename', WHERE WHAT IT READS IS OF BULK AT MOST 1048576: true; the input reads as it did. -/
def joinsRenameUptoRow : OpenClaim := { program := "ytcbmohcjmofomaa", sum := "d24a8f220338d00b047a601b62cb52536a4f32585d7eb590b01da2fcaf4472e6", func := "gauntlet/gauntletlaw11.JoinsRename", spec := "joinsRename", unfollowed := true, recurses := true, plainKeys := false, apart := false, narrowed := true }
def JoinsRenameUptoSaid : Prop := joinsRenameUptoRow.holds Try.pinned (OpenSpec.upto joinsRenameSpec)

/-- 'gauntletlaw11.JoinsFill', WHERE WHAT IT READS IS OF BULK AT MOST 1048576: true; the input reads as it did. -/
def joinsFillUptoRow : OpenClaim := { program := "ytcbmohcjmofomaa", sum := "d24a8f220338d00b047a601b62cb52536a4f32585d7eb590b01da2fcaf4472e6", func := "gauntlet/gauntletlaw11.JoinsFill", spec := "joinsFill", unfollowed := true, recurses := true, plainKeys := false, apart := false, narrowed := true }
def JoinsFillUptoSaid : Prop := joinsFillUptoRow.holds Try.pinned (OpenSpec.upto joinsFillSpec)

/-- 'gauntletlaw11.JoinsRestrict', WHERE WHAT IT READS IS OF BULK AT MOST 1048576: true; the input reads as it did. -/
def joinsRestrictUptoRow : OpenClaim := { program := "ytcbmohcjmofomaa", sum := "d24a8f220338d00b047a601b62cb52536a4f32585d7eb590b01da2fcaf4472e6", func := "gauntlet/gauntletlaw11.JoinsRestrict", spec := "joinsRestrict", unfollowed := true, recurses := true, plainKeys := false, apart := false, narrowed := true }
def JoinsRestrictUptoSaid : Prop := joinsRestrictUptoRow.holds Try.pinned (OpenSpec.upto joinsRestrictSpec)

/-- 'gauntletlaw11.JoinsUnite', WHERE WHAT IT READS IS OF BULK AT MOST 1048576: true; the input reads as it did. -/
def joinsUniteUptoRow : OpenClaim := { program := "ytcbmohcjmofomaa", sum := "d24a8f220338d00b047a601b62cb52536a4f32585d7eb590b01da2fcaf4472e6", func := "gauntlet/gauntletlaw11.JoinsUnite", spec := "joinsUnite", unfollowed := true, recurses := true, plainKeys := false, apart := false, narrowed := true }
def JoinsUniteUptoSaid : Prop := joinsUniteUptoRow.holds Try.pinned (OpenSpec.upto joinsUniteSpec)

/-- 'gauntletlaw11.JoinsErrors', WHERE WHAT IT READS IS OF BULK AT MOST 1048576: true; the input reads as it did. -/
def joinsErrorsUptoRow : OpenClaim := { program := "ytcbmohcjmofomaa", sum := "d24a8f220338d00b047a601b62cb52536a4f32585d7eb590b01da2fcaf4472e6", func := "gauntlet/gauntletlaw11.JoinsErrors", spec := "joinsErrors", unfollowed := true, recurses := true, plainKeys := false, apart := false, narrowed := true }
def JoinsErrorsUptoSaid : Prop := joinsErrorsUptoRow.holds Try.pinned (OpenSpec.upto joinsErrorsSpec)

/-- 'gauntletlaw11.JoinsKnown', WHERE WHAT IT READS IS OF BULK AT MOST 1048576: true; the input reads as it did. -/
def joinsKnownUptoRow : OpenClaim := { program := "ytcbmohcjmofomaa", sum := "d24a8f220338d00b047a601b62cb52536a4f32585d7eb590b01da2fcaf4472e6", func := "gauntlet/gauntletlaw11.JoinsKnown", spec := "joinsKnown", unfollowed := true, recurses := true, plainKeys := false, apart := false, narrowed := true }
def JoinsKnownUptoSaid : Prop := joinsKnownUptoRow.holds Try.pinned (OpenSpec.upto joinsKnownSpec)

end Rows
end Go.Proofs.Ytcbmohcjmofomaa
