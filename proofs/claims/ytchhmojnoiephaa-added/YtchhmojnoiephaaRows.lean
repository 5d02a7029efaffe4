/-
  No cell of these rows narrows 'for every input' (looked for: loops, veiled, ifaces, maps, wideKeys, modest, calm, conditions, laid).
  DERIVED. THE GIVEN ROWS OF THIS SEAT. 8 by the template 'for every input the law returns true; each argument reads behind the call as it read before'; 0 by the template 'total and deterministic' (their statements: YtchhmojnoiephaaTotals.lean).
  GIVEN WITH THE SEED: the statements are not yours to turn. If you find one false, say at which input.
  Laid BY PROGRAM, IN A SANDBOX (cutbox-rows.mjs): the forced cells as the released guide's own fill.sh prints them over the translation dee271821b542d9b… (all of the seat's roots in one cut). By AI agents, Wed Nov 11 2026. No macro, syntax, notation, axiom, sorry.
-/
import Derived.Test.YtchhmojnoiephaaChecked
import GoSem.Claim
import GoSem.ClaimJoined
import GoSem.ClaimMapViews
import Derived.JoinedTies
import Derived.KernelRfl
namespace Go.Proofs.Ytchhmojnoiephaa
/- THE CELL 'sum', in the pinned program and in every row, IS THE sha256 OF THE DUMP (.gsa) THAT YtchhmojnoiephaaProg.lean LOADS. Nothing in Lean hashes anything: it is a label: what it is worth is what the hold of that sum in a sandbox is worth. -/
noncomputable def Try.pinned : Pinned := { name := "ytchhmojnoiephaa", sum := "dee271821b542d9b29892c6d0a8c4815163e5959eede360398a94f869715e6a3", checked := Try.checked }
namespace Rows
def none {H : Type} : Left H := { results := [], args := [] }

/-- 'hublaw.Topics': WHATEVER THE INPUT: true; the input reads as it did. -/
def topicsSpec : ChangeSpec := { name := "topics", fn := fun _ => fun
  | [d] => { results := [.lit (.bool true)], args := [d] }
  | _ => none }
def topicsRow : OpenClaim := { program := "ytchhmojnoiephaa", sum := "dee271821b542d9b29892c6d0a8c4815163e5959eede360398a94f869715e6a3", func := "hub/hublaw.Topics", spec := "topics", apart := false }
def TopicsSaid : Prop := topicsRow.holds Try.pinned (OpenSpec.ofChange topicsSpec)

/-- ITS FALSE NEIGHBOUR: 'it returns false'. Refute it at one input. -/
def topicsWrong : ChangeSpec := { name := "topics", fn := fun _ => fun
  | [d] => { results := [.lit (.bool false)], args := [d] }
  | _ => none }
def TopicsWrongFalsely : Prop := topicsRow.holds Try.pinned (OpenSpec.ofChange topicsWrong)

/-- 'hublaw.Filters': WHATEVER THE INPUT: true; the input reads as it did. -/
def filtersSpec : ChangeSpec := { name := "filters", fn := fun _ => fun
  | [d] => { results := [.lit (.bool true)], args := [d] }
  | _ => none }
def filtersRow : OpenClaim := { program := "ytchhmojnoiephaa", sum := "dee271821b542d9b29892c6d0a8c4815163e5959eede360398a94f869715e6a3", func := "hub/hublaw.Filters", spec := "filters", apart := false }
def FiltersSaid : Prop := filtersRow.holds Try.pinned (OpenSpec.ofChange filtersSpec)

/-- ITS FALSE NEIGHBOUR: 'it returns false'. Refute it at one input. -/
def filtersWrong : ChangeSpec := { name := "filters", fn := fun _ => fun
  | [d] => { results := [.lit (.bool false)], args := [d] }
  | _ => none }
def FiltersWrongFalsely : Prop := filtersRow.holds Try.pinned (OpenSpec.ofChange filtersWrong)

/-- 'hublaw.Matching': WHATEVER THE INPUT: true; the input reads as it did. -/
def matchingSpec : ChangeSpec := { name := "matching", fn := fun _ => fun
  | [d1, d2] => { results := [.lit (.bool true)], args := [d1, d2] }
  | _ => none }
def matchingRow : OpenClaim := { program := "ytchhmojnoiephaa", sum := "dee271821b542d9b29892c6d0a8c4815163e5959eede360398a94f869715e6a3", func := "hub/hublaw.Matching", spec := "matching", recurses := true, apart := false }
def MatchingSaid : Prop := matchingRow.holds Try.pinned (OpenSpec.ofChange matchingSpec)

/-- ITS FALSE NEIGHBOUR: 'it returns false'. Refute it at one input. -/
def matchingWrong : ChangeSpec := { name := "matching", fn := fun _ => fun
  | [d1, d2] => { results := [.lit (.bool false)], args := [d1, d2] }
  | _ => none }
def MatchingWrongFalsely : Prop := matchingRow.holds Try.pinned (OpenSpec.ofChange matchingWrong)

/-- 'hublaw.Level': WHATEVER THE INPUT: true; the input reads as it did. -/
def levelSpec : ChangeSpec := { name := "level", fn := fun _ => fun
  | [d1, d2, d3, d4] => { results := [.lit (.bool true)], args := [d1, d2, d3, d4] }
  | _ => none }
def levelRow : OpenClaim := { program := "ytchhmojnoiephaa", sum := "dee271821b542d9b29892c6d0a8c4815163e5959eede360398a94f869715e6a3", func := "hub/hublaw.Level", spec := "level", apart := false }
def LevelSaid : Prop := levelRow.holds Try.pinned (OpenSpec.ofChange levelSpec)

/-- ITS FALSE NEIGHBOUR: 'it returns false'. Refute it at one input. -/
def levelWrong : ChangeSpec := { name := "level", fn := fun _ => fun
  | [d1, d2, d3, d4] => { results := [.lit (.bool false)], args := [d1, d2, d3, d4] }
  | _ => none }
def LevelWrongFalsely : Prop := levelRow.holds Try.pinned (OpenSpec.ofChange levelWrong)

/-- 'hublaw.Itself': WHATEVER THE INPUT: true; the input reads as it did. -/
def itselfSpec : ChangeSpec := { name := "itself", fn := fun _ => fun
  | [d1, d2] => { results := [.lit (.bool true)], args := [d1, d2] }
  | _ => none }
def itselfRow : OpenClaim := { program := "ytchhmojnoiephaa", sum := "dee271821b542d9b29892c6d0a8c4815163e5959eede360398a94f869715e6a3", func := "hub/hublaw.Itself", spec := "itself", apart := false }
def ItselfSaid : Prop := itselfRow.holds Try.pinned (OpenSpec.ofChange itselfSpec)

/-- ITS FALSE NEIGHBOUR: 'it returns false'. Refute it at one input. -/
def itselfWrong : ChangeSpec := { name := "itself", fn := fun _ => fun
  | [d1, d2] => { results := [.lit (.bool false)], args := [d1, d2] }
  | _ => none }
def ItselfWrongFalsely : Prop := itselfRow.holds Try.pinned (OpenSpec.ofChange itselfWrong)

/-- 'hublaw.Added': WHATEVER THE INPUT: true; the input reads as it did. -/
def addedSpec : ChangeSpec := { name := "added", fn := fun _ => fun
  | [d1, d2, d3, d4] => { results := [.lit (.bool true)], args := [d1, d2, d3, d4] }
  | _ => none }
def addedRow : OpenClaim := { program := "ytchhmojnoiephaa", sum := "dee271821b542d9b29892c6d0a8c4815163e5959eede360398a94f869715e6a3", func := "hub/hublaw.Added", spec := "added", apart := false }
def AddedSaid : Prop := addedRow.holds Try.pinned (OpenSpec.ofChange addedSpec)

/-- ITS FALSE NEIGHBOUR: 'it returns false'. Refute it at one input. -/
def addedWrong : ChangeSpec := { name := "added", fn := fun _ => fun
  | [d1, d2, d3, d4] => { results := [.lit (.bool false)], args := [d1, d2, d3, d4] }
  | _ => none }
def AddedWrongFalsely : Prop := addedRow.holds Try.pinned (OpenSpec.ofChange addedWrong)

/-- 'hublaw.CodeChecks': WHATEVER THE INPUT: true; the input reads as it did. -/
def codeChecksSpec : ChangeSpec := { name := "codeChecks", fn := fun _ => fun
  | [d] => { results := [.lit (.bool true)], args := [d] }
  | _ => none }
def codeChecksRow : OpenClaim := { program := "ytchhmojnoiephaa", sum := "dee271821b542d9b29892c6d0a8c4815163e5959eede360398a94f869715e6a3", func := "hub/hublaw.CodeChecks", spec := "codeChecks", apart := false }
def CodeChecksSaid : Prop := codeChecksRow.holds Try.pinned (OpenSpec.ofChange codeChecksSpec)

/-- ITS FALSE NEIGHBOUR: 'it returns false'. Refute it at one input. -/
def codeChecksWrong : ChangeSpec := { name := "codeChecks", fn := fun _ => fun
  | [d] => { results := [.lit (.bool false)], args := [d] }
  | _ => none }
def CodeChecksWrongFalsely : Prop := codeChecksRow.holds Try.pinned (OpenSpec.ofChange codeChecksWrong)

/-- 'hublaw.Walks': WHATEVER THE INPUT: true; the input reads as it did. -/
def walksSpec : ChangeSpec := { name := "walks", fn := fun _ => fun
  | [d1, d2] => { results := [.lit (.bool true)], args := [d1, d2] }
  | _ => none }
def walksRow : OpenClaim := { program := "ytchhmojnoiephaa", sum := "dee271821b542d9b29892c6d0a8c4815163e5959eede360398a94f869715e6a3", func := "hub/hublaw.Walks", spec := "walks", apart := false }
def WalksSaid : Prop := walksRow.holds Try.pinned (OpenSpec.ofChange walksSpec)

/-- ITS FALSE NEIGHBOUR: 'it returns false'. Refute it at one input. -/
def walksWrong : ChangeSpec := { name := "walks", fn := fun _ => fun
  | [d1, d2] => { results := [.lit (.bool false)], args := [d1, d2] }
  | _ => none }
def WalksWrongFalsely : Prop := walksRow.holds Try.pinned (OpenSpec.ofChange walksWrong)

/- THE SECOND FORM. 'bulk': how many values and letters a reading holds, each counted each time it is reached (what is shared counts as often as it is met; a slice's spare places count too). A statement '..UptoSaid' is the law's where the arguments, and the package variables that the reading takes, are together of bulk at most 1048576: NARROWER than '..Said'. Prove '..Said' where nothing that the law and all that it calls make is longer than what came in: it says more and counts as full. Else prove '..UptoSaid'. A law counts once. -/
mutual
def uptoBulk {H : Type} : DataW H → Nat
  | .lit (.string bytes) => bytes.length + 1
  | .lit _ => 1
  | .nil => 1
  | .ptr d => uptoBulk d + 1
  | .slice elems spare => uptoBulkAll elems + uptoBulkAll spare + 1
  | .agg parts => uptoBulkAll parts + 1
  | .iface _ d => uptoBulk d + 1
  | .map entries => uptoBulkEntries entries + 1
  | .held _ => 1
def uptoBulkAll {H : Type} : List (DataW H) → Nat
  | [] => 0
  | d :: r => uptoBulk d + uptoBulkAll r
def uptoBulkEntries {H : Type} : List (Lit × DataW H) → Nat
  | [] => 0
  | x :: r => uptoBulkEntry x + uptoBulkEntries r
def uptoBulkEntry {H : Type} : Lit × DataW H → Nat
  | (.string bytes, d) => bytes.length + uptoBulk d + 1
  | (_, d) => uptoBulk d + 1
 end
def uptoSmall : (H : Type) → List (DataW H) → Bool := fun _ ds => decide (uptoBulkAll ds ≤ 1048576)
def OpenSpec.upto (s : _root_.Go.ChangeSpec) : _root_.Go.OpenSpec := { _root_.Go.OpenSpec.ofChange s with cond := some uptoSmall }

/-- 'hublaw.Topics', WHERE WHAT IT READS IS OF BULK AT MOST 1048576: true; the input reads as it did. -/
def topicsUptoRow : OpenClaim := { program := "ytchhmojnoiephaa", sum := "dee271821b542d9b29892c6d0a8c4815163e5959eede360398a94f869715e6a3", func := "hub/hublaw.Topics", spec := "topics", apart := false, narrowed := true }
def TopicsUptoSaid : Prop := topicsUptoRow.holds Try.pinned (OpenSpec.upto topicsSpec)

/-- 'hublaw.Filters', WHERE WHAT IT READS IS OF BULK AT MOST 1048576: true; the input reads as it did. -/
def filtersUptoRow : OpenClaim := { program := "ytchhmojnoiephaa", sum := "dee271821b542d9b29892c6d0a8c4815163e5959eede360398a94f869715e6a3", func := "hub/hublaw.Filters", spec := "filters", apart := false, narrowed := true }
def FiltersUptoSaid : Prop := filtersUptoRow.holds Try.pinned (OpenSpec.upto filtersSpec)

/-- 'hublaw.Matching', WHERE WHAT IT READS IS OF BULK AT MOST 1048576: true; the input reads as it did. -/
def matchingUptoRow : OpenClaim := { program := "ytchhmojnoiephaa", sum := "dee271821b542d9b29892c6d0a8c4815163e5959eede360398a94f869715e6a3", func := "hub/hublaw.Matching", spec := "matching", recurses := true, apart := false, narrowed := true }
def MatchingUptoSaid : Prop := matchingUptoRow.holds Try.pinned (OpenSpec.upto matchingSpec)

/-- 'hublaw.Level', WHERE WHAT IT READS IS OF BULK AT MOST 1048576: true; the input reads as it did. -/
def levelUptoRow : OpenClaim := { program := "ytchhmojnoiephaa", sum := "dee271821b542d9b29892c6d0a8c4815163e5959eede360398a94f869715e6a3", func := "hub/hublaw.Level", spec := "level", apart := false, narrowed := true }
def LevelUptoSaid : Prop := levelUptoRow.holds Try.pinned (OpenSpec.upto levelSpec)

/-- 'hublaw.Itself', WHERE WHAT IT READS IS OF BULK AT MOST 1048576: true; the input reads as it did. -/
def itselfUptoRow : OpenClaim := { program := "ytchhmojnoiephaa", sum := "dee271821b542d9b29892c6d0a8c4815163e5959eede360398a94f869715e6a3", func := "hub/hublaw.Itself", spec := "itself", apart := false, narrowed := true }
def ItselfUptoSaid : Prop := itselfUptoRow.holds Try.pinned (OpenSpec.upto itselfSpec)

/-- 'hublaw.Added', WHERE WHAT IT READS IS OF BULK AT MOST 1048576: true; the input reads as it did. -/
def addedUptoRow : OpenClaim := { program := "ytchhmojnoiephaa", sum := "dee271821b542d9b29892c6d0a8c4815163e5959eede360398a94f869715e6a3", func := "hub/hublaw.Added", spec := "added", apart := false, narrowed := true }
def AddedUptoSaid : Prop := addedUptoRow.holds Try.pinned (OpenSpec.upto addedSpec)

/-- 'hublaw.CodeChecks', WHERE WHAT IT READS IS OF BULK AT MOST 1048576: true; the input reads as it did. -/
def codeChecksUptoRow : OpenClaim := { program := "ytchhmojnoiephaa", sum := "dee271821b542d9b29892c6d0a8c4815163e5959eede360398a94f869715e6a3", func := "hub/hublaw.CodeChecks", spec := "codeChecks", apart := false, narrowed := true }
def CodeChecksUptoSaid : Prop := codeChecksUptoRow.holds Try.pinned (OpenSpec.upto codeChecksSpec)

/-- 'hublaw.Walks', WHERE WHAT IT READS IS OF BULK AT MOST 1048576: true; the input reads as it did. -/
def walksUptoRow : OpenClaim := { program := "ytchhmojnoiephaa", sum := "dee271821b542d9b29892c6d0a8c4815163e5959eede360398a94f869715e6a3", func := "hub/hublaw.Walks", spec := "walks", apart := false, narrowed := true }
def WalksUptoSaid : Prop := walksUptoRow.holds Try.pinned (OpenSpec.upto walksSpec)

end Rows
end Go.Proofs.Ytchhmojnoiephaa
