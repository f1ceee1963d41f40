/-
  No cell of these rows narrows 'for every input' (looked for: loops, veiled, ifaces, maps, wideKeys, modest, calm, conditions, laid).
  DERIVED. THE GIVEN ROWS OF THIS SEAT. 9 by the template 'for every input the law returns true; each argument reads behind the call as it read before'; 0 by the template 'total and deterministic' (their statements: YtjodhihcckcefaaTotals.lean).
  GIVEN WITH THE SEED: the statements are not yours to turn. If you find one false, say at which input.
  Laid BY PROGRAM, IN A SANDBOX (cutbox-rows.mjs): the forced cells as the released guide's own fill.sh prints them over the translation 2a297f9968fd0e11… (all of the seat's roots in one cut). By AI agents, Wed Nov 11 2026. No macro, syntax, notation, axiom, sorry.
-/
import Derived.Test.YtjodhihcckcefaaChecked
import GoSem.Claim
import GoSem.ClaimJoined
import GoSem.ClaimMapViews
import Derived.JoinedTies
import Derived.KernelRfl
namespace Go.Proofs.Ytjodhihcckcefaa
/- THE CELL 'sum', in the pinned program and in every row, IS THE sha256 OF THE DUMP (.gsa) THAT YtjodhihcckcefaaProg.lean LOADS. Nothing in Lean hashes anything: it is a label: what it is worth is what the hold of that sum in a sandbox is worth. -/
noncomputable def Try.pinned : Pinned := { name := "ytjodhihcckcefaa", sum := "2a297f9968fd0e11a6d0fdda6f29433f7c5207a74fcda8f05f46ea2a0a9f83a0", checked := Try.checked }
namespace Rows
def none {H : Type} : Left H := { results := [], args := [] }

/-- 'gauntletlaw12.TriesCheck': WHATEVER THE INPUT: true; the input reads as it did. -/
def triesCheckSpec : ChangeSpec := { name := "triesCheck", fn := fun _ => fun
  | [d1, d2, d3] => { results := [.lit (.bool true)], args := [d1, d2, d3] }
  | _ => none }
def triesCheckRow : OpenClaim := { program := "ytjodhihcckcefaa", sum := "2a297f9968fd0e11a6d0fdda6f29433f7c5207a74fcda8f05f46ea2a0a9f83a0", func := "gauntlet/gauntletlaw12.TriesCheck", spec := "triesCheck", unfollowed := true, recurses := true, apart := false }
def TriesCheckSaid : Prop := triesCheckRow.holds Try.pinned (OpenSpec.ofChange triesCheckSpec)

/-- ITS FALSE NEIGHBOUR: 'it returns false'. Refute it at one input. -/
def triesCheckWrong : ChangeSpec := { name := "triesCheck", fn := fun _ => fun
  | [d1, d2, d3] => { results := [.lit (.bool false)], args := [d1, d2, d3] }
  | _ => none }
def TriesCheckWrongFalsely : Prop := triesCheckRow.holds Try.pinned (OpenSpec.ofChange triesCheckWrong)

/-- 'gauntletlaw12.TriesSort': WHATEVER THE INPUT: true; the input reads as it did. -/
def triesSortSpec : ChangeSpec := { name := "triesSort", fn := fun _ => fun
  | [d1, d2] => { results := [.lit (.bool true)], args := [d1, d2] }
  | _ => none }
def triesSortRow : OpenClaim := { program := "ytjodhihcckcefaa", sum := "2a297f9968fd0e11a6d0fdda6f29433f7c5207a74fcda8f05f46ea2a0a9f83a0", func := "gauntlet/gauntletlaw12.TriesSort", spec := "triesSort", unfollowed := true, recurses := true, apart := false }
def TriesSortSaid : Prop := triesSortRow.holds Try.pinned (OpenSpec.ofChange triesSortSpec)

/-- ITS FALSE NEIGHBOUR: 'it returns false'. Refute it at one input. -/
def triesSortWrong : ChangeSpec := { name := "triesSort", fn := fun _ => fun
  | [d1, d2] => { results := [.lit (.bool false)], args := [d1, d2] }
  | _ => none }
def TriesSortWrongFalsely : Prop := triesSortRow.holds Try.pinned (OpenSpec.ofChange triesSortWrong)

/-- 'gauntletlaw12.TriesReduce': WHATEVER THE INPUT: true; the input reads as it did. -/
def triesReduceSpec : ChangeSpec := { name := "triesReduce", fn := fun _ => fun
  | [d] => { results := [.lit (.bool true)], args := [d] }
  | _ => none }
def triesReduceRow : OpenClaim := { program := "ytjodhihcckcefaa", sum := "2a297f9968fd0e11a6d0fdda6f29433f7c5207a74fcda8f05f46ea2a0a9f83a0", func := "gauntlet/gauntletlaw12.TriesReduce", spec := "triesReduce", unfollowed := true, recurses := true, apart := false }
def TriesReduceSaid : Prop := triesReduceRow.holds Try.pinned (OpenSpec.ofChange triesReduceSpec)

/-- ITS FALSE NEIGHBOUR: 'it returns false'. Refute it at one input. -/
def triesReduceWrong : ChangeSpec := { name := "triesReduce", fn := fun _ => fun
  | [d] => { results := [.lit (.bool false)], args := [d] }
  | _ => none }
def TriesReduceWrongFalsely : Prop := triesReduceRow.holds Try.pinned (OpenSpec.ofChange triesReduceWrong)

/-- 'gauntletlaw12.TriesSets': WHATEVER THE INPUT: true; the input reads as it did. -/
def triesSetsSpec : ChangeSpec := { name := "triesSets", fn := fun _ => fun
  | [d1, d2] => { results := [.lit (.bool true)], args := [d1, d2] }
  | _ => none }
def triesSetsRow : OpenClaim := { program := "ytjodhihcckcefaa", sum := "2a297f9968fd0e11a6d0fdda6f29433f7c5207a74fcda8f05f46ea2a0a9f83a0", func := "gauntlet/gauntletlaw12.TriesSets", spec := "triesSets", unfollowed := true, recurses := true, apart := false }
def TriesSetsSaid : Prop := triesSetsRow.holds Try.pinned (OpenSpec.ofChange triesSetsSpec)

/-- ITS FALSE NEIGHBOUR: 'it returns false'. Refute it at one input. -/
def triesSetsWrong : ChangeSpec := { name := "triesSets", fn := fun _ => fun
  | [d1, d2] => { results := [.lit (.bool false)], args := [d1, d2] }
  | _ => none }
def TriesSetsWrongFalsely : Prop := triesSetsRow.holds Try.pinned (OpenSpec.ofChange triesSetsWrong)

/-- 'gauntletlaw12.TriesSetsAny': WHATEVER THE INPUT: true; the input reads as it did. -/
def triesSetsAnySpec : ChangeSpec := { name := "triesSetsAny", fn := fun _ => fun
  | [d1, d2, d3] => { results := [.lit (.bool true)], args := [d1, d2, d3] }
  | _ => none }
def triesSetsAnyRow : OpenClaim := { program := "ytjodhihcckcefaa", sum := "2a297f9968fd0e11a6d0fdda6f29433f7c5207a74fcda8f05f46ea2a0a9f83a0", func := "gauntlet/gauntletlaw12.TriesSetsAny", spec := "triesSetsAny", unfollowed := true, recurses := true, apart := false }
def TriesSetsAnySaid : Prop := triesSetsAnyRow.holds Try.pinned (OpenSpec.ofChange triesSetsAnySpec)

/-- ITS FALSE NEIGHBOUR: 'it returns false'. Refute it at one input. -/
def triesSetsAnyWrong : ChangeSpec := { name := "triesSetsAny", fn := fun _ => fun
  | [d1, d2, d3] => { results := [.lit (.bool false)], args := [d1, d2, d3] }
  | _ => none }
def TriesSetsAnyWrongFalsely : Prop := triesSetsAnyRow.holds Try.pinned (OpenSpec.ofChange triesSetsAnyWrong)

/-- 'gauntletlaw12.TriesUpto': WHATEVER THE INPUT: true; the input reads as it did. -/
def triesUptoSpec : ChangeSpec := { name := "triesUpto", fn := fun _ => fun
  | [d1, d2] => { results := [.lit (.bool true)], args := [d1, d2] }
  | _ => none }
def triesUptoRow : OpenClaim := { program := "ytjodhihcckcefaa", sum := "2a297f9968fd0e11a6d0fdda6f29433f7c5207a74fcda8f05f46ea2a0a9f83a0", func := "gauntlet/gauntletlaw12.TriesUpto", spec := "triesUpto", unfollowed := true, recurses := true, apart := false }
def TriesUptoSaid : Prop := triesUptoRow.holds Try.pinned (OpenSpec.ofChange triesUptoSpec)

/-- ITS FALSE NEIGHBOUR: 'it returns false'. Refute it at one input. -/
def triesUptoWrong : ChangeSpec := { name := "triesUpto", fn := fun _ => fun
  | [d1, d2] => { results := [.lit (.bool false)], args := [d1, d2] }
  | _ => none }
def TriesUptoWrongFalsely : Prop := triesUptoRow.holds Try.pinned (OpenSpec.ofChange triesUptoWrong)

/-- 'gauntletlaw12.TriesTrie': WHATEVER THE INPUT: true; the input reads as it did. -/
def triesTrieSpec : ChangeSpec := { name := "triesTrie", fn := fun _ => fun
  | [d] => { results := [.lit (.bool true)], args := [d] }
  | _ => none }
def triesTrieRow : OpenClaim := { program := "ytjodhihcckcefaa", sum := "2a297f9968fd0e11a6d0fdda6f29433f7c5207a74fcda8f05f46ea2a0a9f83a0", func := "gauntlet/gauntletlaw12.TriesTrie", spec := "triesTrie", unfollowed := true, recurses := true, apart := false }
def TriesTrieSaid : Prop := triesTrieRow.holds Try.pinned (OpenSpec.ofChange triesTrieSpec)

/-- ITS FALSE NEIGHBOUR: 'it returns false'. Refute it at one input. -/
def triesTrieWrong : ChangeSpec := { name := "triesTrie", fn := fun _ => fun
  | [d] => { results := [.lit (.bool false)], args := [d] }
  | _ => none }
def TriesTrieWrongFalsely : Prop := triesTrieRow.holds Try.pinned (OpenSpec.ofChange triesTrieWrong)

/-- 'gauntletlaw12.TriesForm': WHATEVER THE INPUT: true; the input reads as it did. -/
def triesFormSpec : ChangeSpec := { name := "triesForm", fn := fun _ => fun
  | [d] => { results := [.lit (.bool true)], args := [d] }
  | _ => none }
def triesFormRow : OpenClaim := { program := "ytjodhihcckcefaa", sum := "2a297f9968fd0e11a6d0fdda6f29433f7c5207a74fcda8f05f46ea2a0a9f83a0", func := "gauntlet/gauntletlaw12.TriesForm", spec := "triesForm", unfollowed := true, recurses := true, apart := false }
def TriesFormSaid : Prop := triesFormRow.holds Try.pinned (OpenSpec.ofChange triesFormSpec)

/-- ITS FALSE NEIGHBOUR: 'it returns false'. Refute it at one input. -/
def triesFormWrong : ChangeSpec := { name := "triesForm", fn := fun _ => fun
  | [d] => { results := [.lit (.bool false)], args := [d] }
  | _ => none }
def TriesFormWrongFalsely : Prop := triesFormRow.holds Try.pinned (OpenSpec.ofChange triesFormWrong)

/-- 'gauntletlaw12.TriesKnown': WHATEVER THE INPUT: true; the input reads as it did. -/
def triesKnownSpec : ChangeSpec := { name := "triesKnown", fn := fun _ => fun
  | [] => { results := [.lit (.bool true)], args := [] }
  | _ => none }
def triesKnownRow : OpenClaim := { program := "ytjodhihcckcefaa", sum := "2a297f9968fd0e11a6d0fdda6f29433f7c5207a74fcda8f05f46ea2a0a9f83a0", func := "gauntlet/gauntletlaw12.TriesKnown", spec := "triesKnown", unfollowed := true, recurses := true, apart := false }
def TriesKnownSaid : Prop := triesKnownRow.holds Try.pinned (OpenSpec.ofChange triesKnownSpec)

/-- ITS FALSE NEIGHBOUR: 'it returns false'. Refute it at one input. -/
def triesKnownWrong : ChangeSpec := { name := "triesKnown", fn := fun _ => fun
  | [] => { results := [.lit (.bool false)], args := [] }
  | _ => none }
def TriesKnownWrongFalsely : Prop := triesKnownRow.holds Try.pinned (OpenSpec.ofChange triesKnownWrong)

/- THE SECOND FORM. 'bulk': how many values and letters a reading holds, each counted each time it is reached (what is shared counts as often as it is met; a slice's spare places count too). A statement '..UptoSaid' is the law's where the arguments, and the package variables that the reading takes, are together of bulk at most 1048576: NARROWER than '..Said'. Prove '..Said' where nothing that the law and all that it calls make is longer than what came in: it says more and counts as full. Else prove '..UptoSaid'. A law counts once. -/
mutual
def uptoBulk {H : Type} : DataW H → Nat
  | .lit (.string bytes) => bytes.length + 1
  | .lit _ => 1
  | .nil => 1
  | .ptr d => uptoBulk d + 1
  | .slice elems spare => uptoBulkAll elems + uptoBulkAll spare + 1
  | .agg parts => uptoBulkAll parts + 1
  | .iface _ d => uptoBulk d + 1
  | .map entries => uptoBulkEntries entries + 1
  | .held _ => 1
def uptoBulkAll {H : Type} : List (DataW H) → Nat
  | [] => 0
  | d :: r => uptoBulk d + uptoBulkAll r
def uptoBulkEntries {H : Type} : List (Lit × DataW H) → Nat
  | [] => 0
  | x :: r => uptoBulkEntry x + uptoBulkEntries r
def uptoBulkEntry {H : Type} : Lit × DataW H → Nat
  | (.string bytes, d) => bytes.length + uptoBulk d + 1
  | (_, d) => uptoBulk d + 1
 end
def uptoSmall : (H : Type) → List (DataW H) → Bool := fun _ ds => decide (uptoBulkAll ds ≤ 1048576)
def OpenSpec.upto (s : _root_.Go.ChangeSpec) : _root_.Go.OpenSpec := { _root_.Go.OpenSpec.ofChange s with cond := some uptoSmall }

/-- 'gauntletlaw12.TriesCheck', WHERE WHAT IT READS IS OF BULK AT MOST 1048576: true; the input reads as it did. -/
def triesCheckUptoRow : OpenClaim := { program := "ytjodhihcckcefaa", sum := "2a297f9968fd0e11a6d0fdda6f29433f7c5207a74fcda8f05f46ea2a0a9f83a0", func := "gauntlet/gauntletlaw12.TriesCheck", spec := "triesCheck", unfollowed := true, recurses := true, apart := false, narrowed := true }
def TriesCheckUptoSaid : Prop := triesCheckUptoRow.holds Try.pinned (OpenSpec.upto triesCheckSpec)

/-- 'gauntletlaw12.TriesSort', WHERE WHAT IT READS IS OF BULK AT MOST 1048576: true; the input reads as it did. -/
def triesSortUptoRow : OpenClaim := { program := "ytjodhihcckcefaa", sum := "2a297f9968fd0e11a6d0fdda6f29433f7c5207a74fcda8f05f46ea2a0a9f83a0", func := "gauntlet/gauntletlaw12.TriesSort", spec := "triesSort", unfollowed := true, recurses := true, apart := false, narrowed := true }
def TriesSortUptoSaid : Prop := triesSortUptoRow.holds Try.pinned (OpenSpec.upto triesSortSpec)

/-- 'gauntletlaw12.TriesReduce', WHERE WHAT IT READS IS OF BULK AT MOST 1048576: true; the input reads as it did. -/
def triesReduceUptoRow : OpenClaim := { program := "ytjodhihcckcefaa", sum := "2a297f9968fd0e11a6d0fdda6f29433f7c5207a74fcda8f05f46ea2a0a9f83a0", func := "gauntlet/gauntletlaw12.TriesReduce", spec := "triesReduce", unfollowed := true, recurses := true, apart := false, narrowed := true }
def TriesReduceUptoSaid : Prop := triesReduceUptoRow.holds Try.pinned (OpenSpec.upto triesReduceSpec)

/-- 'gauntletlaw12.TriesSets', WHERE WHAT IT READS IS OF BULK AT MOST 1048576: true; the input reads as it did. -/
def triesSetsUptoRow : OpenClaim := { program := "ytjodhihcckcefaa", sum := "2a297f9968fd0e11a6d0fdda6f29433f7c5207a74fcda8f05f46ea2a0a9f83a0", func := "gauntlet/gauntletlaw12.TriesSets", spec := "triesSets", unfollowed := true, recurses := true, apart := false, narrowed := true }
def TriesSetsUptoSaid : Prop := triesSetsUptoRow.holds Try.pinned (OpenSpec.upto triesSetsSpec)

/-- 'gauntletlaw12.TriesSetsAny', WHERE WHAT IT READS IS OF BULK AT MOST 1048576: true; the input reads as it did. -/
def triesSetsAnyUptoRow : OpenClaim := { program := "ytjodhihcckcefaa", sum := "2a297f9968fd0e11a6d0fdda6f29433f7c5207a74fcda8f05f46ea2a0a9f83a0", func := "gauntlet/gauntletlaw12.TriesSetsAny", spec := "triesSetsAny", unfollowed := true, recurses := true, apart := false, narrowed := true }
def TriesSetsAnyUptoSaid : Prop := triesSetsAnyUptoRow.holds Try.pinned (OpenSpec.upto triesSetsAnySpec)

/-- 'gauntletlaw12.TriesUpto', WHERE WHAT IT READS IS OF BULK AT MOST 1048576: true; the input reads as it did. -/
def triesUptoUptoRow : OpenClaim := { program := "ytjodhihcckcefaa", sum := "2a297f9968fd0e11a6d0fdda6f29433f7c5207a74fcda8f05f46ea2a0a9f83a0", func := "gauntlet/gauntletlaw12.TriesUpto", spec := "triesUpto", unfollowed := true, recurses := true, apart := false, narrowed := true }
def TriesUptoUptoSaid : Prop := triesUptoUptoRow.holds Try.pinned (OpenSpec.upto triesUptoSpec)

/-- 'gauntletlaw12.TriesTrie', WHERE WHAT IT READS IS OF BULK AT MOST 1048576: true; the input reads as it did. -/
def triesTrieUptoRow : OpenClaim := { program := "ytjodhihcckcefaa", sum := "2a297f9968fd0e11a6d0fdda6f29433f7c5207a74fcda8f05f46ea2a0a9f83a0", func := "gauntlet/gauntletlaw12.TriesTrie", spec := "triesTrie", unfollowed := true, recurses := true, apart := false, narrowed := true }
def TriesTrieUptoSaid : Prop := triesTrieUptoRow.holds Try.pinned (OpenSpec.upto triesTrieSpec)

/-- 'gauntletlaw12.TriesForm', WHERE WHAT IT READS IS OF BULK AT MOST 1048576: true; the input reads as it did. -/
def triesFormUptoRow : OpenClaim := { program := "ytjodhihcckcefaa", sum := "2a297f9968fd0e11a6d0fdda6f29433f7c5207a74fcda8f05f46ea2a0a9f83a0", func := "gauntlet/gauntletlaw12.TriesForm", spec := "triesForm", unfollowed := true, recurses := true, apart := false, narrowed := true }
def TriesFormUptoSaid : Prop := triesFormUptoRow.holds Try.pinned (OpenSpec.upto triesFormSpec)

/-- 'gauntletlaw12.TriesKnown', WHERE WHAT IT READS IS OF BULK AT MOST 1048576: true; the input reads as it did. -/
def triesKnownUptoRow : OpenClaim := { program := "ytjodhihcckcefaa", sum := "2a297f9968fd0e11a6d0fdda6f29433f7c5207a74fcda8f05f46ea2a0a9f83a0", func := "gauntlet/gauntletlaw12.TriesKnown", spec := "triesKnown", unfollowed := true, recurses := true, apart := false, narrowed := true }
def TriesKnownUptoSaid : Prop := triesKnownUptoRow.holds Try.pinned (OpenSpec.upto triesKnownSpec)

end Rows
end Go.Proofs.Ytjodhihcckcefaa
