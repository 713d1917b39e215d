/-
  No cell of these rows narrows 'for every input' (looked for: loops, veiled, ifaces, maps, wideKeys, modest, calm, conditions, laid).
  DERIVED. THE GIVEN ROWS OF THIS SEAT. 13 by the template 'for every input the law returns true; each argument reads behind the call as it read before'; 0 by the template 'total and deterministic' (their statements: YtbbidgdgcbnanaaTotals.lean).
  GIVEN WITH THE SEED: the statements are not yours to turn. If you find one false, say at which input.
  Laid BY PROGRAM, IN A SANDBOX (cutbox-rows.mjs): the forced cells as the released guide's own fill.sh prints them over the translation 1be3715e8c733ed4… (all of the seat's roots in one cut). By AI agents, Wed Nov 11 2026. No macro, syntax, notation, axiom, sorry.
-/
import Derived.Test.YtbbidgdgcbnanaaChecked
import GoSem.Claim
import GoSem.ClaimJoined
import GoSem.ClaimMapViews
import Derived.JoinedTies
import Derived.KernelRfl
namespace Go.Proofs.Ytbbidgdgcbnanaa
/- THE CELL 'sum', in the pinned program and in every row, IS THE sha256 OF THE DUMP (.gsa) THAT YtbbidgdgcbnanaaProg.lean LOADS. Nothing in Lean hashes anything: it is a label: what it is worth is what the hold of that sum in a sandbox is worth. -/
noncomputable def Try.pinned : Pinned := { name := "ytbbidgdgcbnanaa", sum := "1be3715e8c733ed43b3d87ba9302482a6332d50ed03231b9c67f35e088bcd549", checked := Try.checked }
namespace Rows
def none {H : Type} : Left H := { results := [], args := [] }

/-- 'galloonlaw04.HaggleValues': WHATEVER THE INPUT: true; the input reads as it did. -/
def haggleValuesSpec : ChangeSpec := { name := "haggleValues", fn := fun _ => fun
  | [d] => { results := [.lit (.bool true)], args := [d] }
  | _ => none }
def haggleValuesRow : OpenClaim := { program := "ytbbidgdgcbnanaa", sum := "1be3715e8c733ed43b3d87ba9302482a6332d50ed03231b9c67f35e088bcd549", func := "galloon/galloonlaw04.HaggleValues", spec := "haggleValues", unfollowed := true, recurses := true, apart := false }
def HaggleValuesSaid : Prop := haggleValuesRow.holds Try.pinned (OpenSpec.ofChange haggleValuesSpec)

/-- ITS FALSE NEIGHBOUR: 'it returns false'. Refute it at one input. -/
def haggleValuesWrong : ChangeSpec := { name := "haggleValues", fn := fun _ => fun
  | [d] => { results := [.lit (.bool false)], args := [d] }
  | _ => none }
def HaggleValuesWrongFalsely : Prop := haggleValuesRow.holds Try.pinned (OpenSpec.ofChange haggleValuesWrong)

/-- 'galloonlaw04.HaggleSearches': WHATEVER THE INPUT: true; the input reads as it did. -/
def haggleSearchesSpec : ChangeSpec := { name := "haggleSearches", fn := fun _ => fun
  | [d] => { results := [.lit (.bool true)], args := [d] }
  | _ => none }
def haggleSearchesRow : OpenClaim := { program := "ytbbidgdgcbnanaa", sum := "1be3715e8c733ed43b3d87ba9302482a6332d50ed03231b9c67f35e088bcd549", func := "galloon/galloonlaw04.HaggleSearches", spec := "haggleSearches", unfollowed := true, recurses := true, apart := false }
def HaggleSearchesSaid : Prop := haggleSearchesRow.holds Try.pinned (OpenSpec.ofChange haggleSearchesSpec)

/-- ITS FALSE NEIGHBOUR: 'it returns false'. Refute it at one input. -/
def haggleSearchesWrong : ChangeSpec := { name := "haggleSearches", fn := fun _ => fun
  | [d] => { results := [.lit (.bool false)], args := [d] }
  | _ => none }
def HaggleSearchesWrongFalsely : Prop := haggleSearchesRow.holds Try.pinned (OpenSpec.ofChange haggleSearchesWrong)

/-- 'galloonlaw04.HaggleProofs': WHATEVER THE INPUT: true; the input reads as it did. -/
def haggleProofsSpec : ChangeSpec := { name := "haggleProofs", fn := fun _ => fun
  | [d1, d2] => { results := [.lit (.bool true)], args := [d1, d2] }
  | _ => none }
def haggleProofsRow : OpenClaim := { program := "ytbbidgdgcbnanaa", sum := "1be3715e8c733ed43b3d87ba9302482a6332d50ed03231b9c67f35e088bcd549", func := "galloon/galloonlaw04.HaggleProofs", spec := "haggleProofs", unfollowed := true, recurses := true, apart := false }
def HaggleProofsSaid : Prop := haggleProofsRow.holds Try.pinned (OpenSpec.ofChange haggleProofsSpec)

/-- ITS FALSE NEIGHBOUR: 'it returns false'. Refute it at one input. -/
def haggleProofsWrong : ChangeSpec := { name := "haggleProofs", fn := fun _ => fun
  | [d1, d2] => { results := [.lit (.bool false)], args := [d1, d2] }
  | _ => none }
def HaggleProofsWrongFalsely : Prop := haggleProofsRow.holds Try.pinned (OpenSpec.ofChange haggleProofsWrong)

/-- 'galloonlaw04.HaggleDecides': WHATEVER THE INPUT: true; the input reads as it did. -/
def haggleDecidesSpec : ChangeSpec := { name := "haggleDecides", fn := fun _ => fun
  | [d1, d2, d3] => { results := [.lit (.bool true)], args := [d1, d2, d3] }
  | _ => none }
def haggleDecidesRow : OpenClaim := { program := "ytbbidgdgcbnanaa", sum := "1be3715e8c733ed43b3d87ba9302482a6332d50ed03231b9c67f35e088bcd549", func := "galloon/galloonlaw04.HaggleDecides", spec := "haggleDecides", unfollowed := true, recurses := true, apart := false }
def HaggleDecidesSaid : Prop := haggleDecidesRow.holds Try.pinned (OpenSpec.ofChange haggleDecidesSpec)

/-- ITS FALSE NEIGHBOUR: 'it returns false'. Refute it at one input. -/
def haggleDecidesWrong : ChangeSpec := { name := "haggleDecides", fn := fun _ => fun
  | [d1, d2, d3] => { results := [.lit (.bool false)], args := [d1, d2, d3] }
  | _ => none }
def HaggleDecidesWrongFalsely : Prop := haggleDecidesRow.holds Try.pinned (OpenSpec.ofChange haggleDecidesWrong)

/-- 'galloonlaw04.HaggleChecks': WHATEVER THE INPUT: true; the input reads as it did. -/
def haggleChecksSpec : ChangeSpec := { name := "haggleChecks", fn := fun _ => fun
  | [d1, d2] => { results := [.lit (.bool true)], args := [d1, d2] }
  | _ => none }
def haggleChecksRow : OpenClaim := { program := "ytbbidgdgcbnanaa", sum := "1be3715e8c733ed43b3d87ba9302482a6332d50ed03231b9c67f35e088bcd549", func := "galloon/galloonlaw04.HaggleChecks", spec := "haggleChecks", unfollowed := true, recurses := true, apart := false }
def HaggleChecksSaid : Prop := haggleChecksRow.holds Try.pinned (OpenSpec.ofChange haggleChecksSpec)

/-- ITS FALSE NEIGHBOUR: 'it returns false'. Refute it at one input. -/
def haggleChecksWrong : ChangeSpec := { name := "haggleChecks", fn := fun _ => fun
  | [d1, d2] => { results := [.lit (.bool false)], args := [d1, d2] }
  | _ => none }
def HaggleChecksWrongFalsely : Prop := haggleChecksRow.holds Try.pinned (OpenSpec.ofChange haggleChecksWrong)

/-- 'galloonlaw04.HaggleOrders': WHATEVER THE INPUT: true; the input reads as it did. -/
def haggleOrdersSpec : ChangeSpec := { name := "haggleOrders", fn := fun _ => fun
  | [d] => { results := [.lit (.bool true)], args := [d] }
  | _ => none }
def haggleOrdersRow : OpenClaim := { program := "ytbbidgdgcbnanaa", sum := "1be3715e8c733ed43b3d87ba9302482a6332d50ed03231b9c67f35e088bcd549", func := "galloon/galloonlaw04.HaggleOrders", spec := "haggleOrders", unfollowed := true, recurses := true, apart := false }
def HaggleOrdersSaid : Prop := haggleOrdersRow.holds Try.pinned (OpenSpec.ofChange haggleOrdersSpec)

/-- ITS FALSE NEIGHBOUR: 'it returns false'. Refute it at one input. -/
def haggleOrdersWrong : ChangeSpec := { name := "haggleOrders", fn := fun _ => fun
  | [d] => { results := [.lit (.bool false)], args := [d] }
  | _ => none }
def HaggleOrdersWrongFalsely : Prop := haggleOrdersRow.holds Try.pinned (OpenSpec.ofChange haggleOrdersWrong)

/-- 'galloonlaw04.HaggleFound': WHATEVER THE INPUT: true; the input reads as it did. -/
def haggleFoundSpec : ChangeSpec := { name := "haggleFound", fn := fun _ => fun
  | [d1, d2] => { results := [.lit (.bool true)], args := [d1, d2] }
  | _ => none }
def haggleFoundRow : OpenClaim := { program := "ytbbidgdgcbnanaa", sum := "1be3715e8c733ed43b3d87ba9302482a6332d50ed03231b9c67f35e088bcd549", func := "galloon/galloonlaw04.HaggleFound", spec := "haggleFound", unfollowed := true, recurses := true, apart := false }
def HaggleFoundSaid : Prop := haggleFoundRow.holds Try.pinned (OpenSpec.ofChange haggleFoundSpec)

/-- ITS FALSE NEIGHBOUR: 'it returns false'. Refute it at one input. -/
def haggleFoundWrong : ChangeSpec := { name := "haggleFound", fn := fun _ => fun
  | [d1, d2] => { results := [.lit (.bool false)], args := [d1, d2] }
  | _ => none }
def HaggleFoundWrongFalsely : Prop := haggleFoundRow.holds Try.pinned (OpenSpec.ofChange haggleFoundWrong)

/-- 'galloonlaw04.HaggleTurned': WHATEVER THE INPUT: true; the input reads as it did. -/
def haggleTurnedSpec : ChangeSpec := { name := "haggleTurned", fn := fun _ => fun
  | [d1, d2, d3] => { results := [.lit (.bool true)], args := [d1, d2, d3] }
  | _ => none }
def haggleTurnedRow : OpenClaim := { program := "ytbbidgdgcbnanaa", sum := "1be3715e8c733ed43b3d87ba9302482a6332d50ed03231b9c67f35e088bcd549", func := "galloon/galloonlaw04.HaggleTurned", spec := "haggleTurned", unfollowed := true, recurses := true, apart := false }
def HaggleTurnedSaid : Prop := haggleTurnedRow.holds Try.pinned (OpenSpec.ofChange haggleTurnedSpec)

/-- ITS FALSE NEIGHBOUR: 'it returns false'. Refute it at one input. -/
def haggleTurnedWrong : ChangeSpec := { name := "haggleTurned", fn := fun _ => fun
  | [d1, d2, d3] => { results := [.lit (.bool false)], args := [d1, d2, d3] }
  | _ => none }
def HaggleTurnedWrongFalsely : Prop := haggleTurnedRow.holds Try.pinned (OpenSpec.ofChange haggleTurnedWrong)

/-- 'galloonlaw04.HaggleSorted': WHATEVER THE INPUT: true; the input reads as it did. -/
def haggleSortedSpec : ChangeSpec := { name := "haggleSorted", fn := fun _ => fun
  | [d1, d2] => { results := [.lit (.bool true)], args := [d1, d2] }
  | _ => none }
def haggleSortedRow : OpenClaim := { program := "ytbbidgdgcbnanaa", sum := "1be3715e8c733ed43b3d87ba9302482a6332d50ed03231b9c67f35e088bcd549", func := "galloon/galloonlaw04.HaggleSorted", spec := "haggleSorted", unfollowed := true, recurses := true, apart := false }
def HaggleSortedSaid : Prop := haggleSortedRow.holds Try.pinned (OpenSpec.ofChange haggleSortedSpec)

/-- ITS FALSE NEIGHBOUR: 'it returns false'. Refute it at one input. -/
def haggleSortedWrong : ChangeSpec := { name := "haggleSorted", fn := fun _ => fun
  | [d1, d2] => { results := [.lit (.bool false)], args := [d1, d2] }
  | _ => none }
def HaggleSortedWrongFalsely : Prop := haggleSortedRow.holds Try.pinned (OpenSpec.ofChange haggleSortedWrong)

/-- 'galloonlaw04.HaggleProved': WHATEVER THE INPUT: true; the input reads as it did. -/
def haggleProvedSpec : ChangeSpec := { name := "haggleProved", fn := fun _ => fun
  | [d1, d2, d3, d4] => { results := [.lit (.bool true)], args := [d1, d2, d3, d4] }
  | _ => none }
def haggleProvedRow : OpenClaim := { program := "ytbbidgdgcbnanaa", sum := "1be3715e8c733ed43b3d87ba9302482a6332d50ed03231b9c67f35e088bcd549", func := "galloon/galloonlaw04.HaggleProved", spec := "haggleProved", unfollowed := true, recurses := true, apart := false }
def HaggleProvedSaid : Prop := haggleProvedRow.holds Try.pinned (OpenSpec.ofChange haggleProvedSpec)

/-- ITS FALSE NEIGHBOUR: 'it returns false'. Refute it at one input. -/
def haggleProvedWrong : ChangeSpec := { name := "haggleProved", fn := fun _ => fun
  | [d1, d2, d3, d4] => { results := [.lit (.bool false)], args := [d1, d2, d3, d4] }
  | _ => none }
def HaggleProvedWrongFalsely : Prop := haggleProvedRow.holds Try.pinned (OpenSpec.ofChange haggleProvedWrong)

/-- 'galloonlaw04.HagglePlanned': WHATEVER THE INPUT: true; the input reads as it did. -/
def hagglePlannedSpec : ChangeSpec := { name := "hagglePlanned", fn := fun _ => fun
  | [d1, d2, d3] => { results := [.lit (.bool true)], args := [d1, d2, d3] }
  | _ => none }
def hagglePlannedRow : OpenClaim := { program := "ytbbidgdgcbnanaa", sum := "1be3715e8c733ed43b3d87ba9302482a6332d50ed03231b9c67f35e088bcd549", func := "galloon/galloonlaw04.HagglePlanned", spec := "hagglePlanned", unfollowed := true, recurses := true, apart := false }
def HagglePlannedSaid : Prop := hagglePlannedRow.holds Try.pinned (OpenSpec.ofChange hagglePlannedSpec)

/-- ITS FALSE NEIGHBOUR: 'it returns false'. Refute it at one input. -/
def hagglePlannedWrong : ChangeSpec := { name := "hagglePlanned", fn := fun _ => fun
  | [d1, d2, d3] => { results := [.lit (.bool false)], args := [d1, d2, d3] }
  | _ => none }
def HagglePlannedWrongFalsely : Prop := hagglePlannedRow.holds Try.pinned (OpenSpec.ofChange hagglePlannedWrong)

/-- 'galloonlaw04.HaggleNumbers': WHATEVER THE INPUT: true; the input reads as it did. -/
def haggleNumbersSpec : ChangeSpec := { name := "haggleNumbers", fn := fun _ => fun
  | [d1, d2, d3, d4] => { results := [.lit (.bool true)], args := [d1, d2, d3, d4] }
  | _ => none }
def haggleNumbersRow : OpenClaim := { program := "ytbbidgdgcbnanaa", sum := "1be3715e8c733ed43b3d87ba9302482a6332d50ed03231b9c67f35e088bcd549", func := "galloon/galloonlaw04.HaggleNumbers", spec := "haggleNumbers", unfollowed := true, recurses := true, apart := false }
def HaggleNumbersSaid : Prop := haggleNumbersRow.holds Try.pinned (OpenSpec.ofChange haggleNumbersSpec)

/-- ITS FALSE NEIGHBOUR: 'it returns false'. Refute it at one input. -/
def haggleNumbersWrong : ChangeSpec := { name := "haggleNumbers", fn := fun _ => fun
  | [d1, d2, d3, d4] => { results := [.lit (.bool false)], args := [d1, d2, d3, d4] }
  | _ => none }
def HaggleNumbersWrongFalsely : Prop := haggleNumbersRow.holds Try.pinned (OpenSpec.ofChange haggleNumbersWrong)

/-- 'galloonlaw04.HaggleMore': WHATEVER THE INPUT: true; the input reads as it did. -/
def haggleMoreSpec : ChangeSpec := { name := "haggleMore", fn := fun _ => fun
  | [d1, d2, d3, d4] => { results := [.lit (.bool true)], args := [d1, d2, d3, d4] }
  | _ => none }
def haggleMoreRow : OpenClaim := { program := "ytbbidgdgcbnanaa", sum := "1be3715e8c733ed43b3d87ba9302482a6332d50ed03231b9c67f35e088bcd549", func := "galloon/galloonlaw04.HaggleMore", spec := "haggleMore", unfollowed := true, recurses := true, apart := false }
def HaggleMoreSaid : Prop := haggleMoreRow.holds Try.pinned (OpenSpec.ofChange haggleMoreSpec)

/-- ITS FALSE NEIGHBOUR: 'it returns false'. Refute it at one input. -/
def haggleMoreWrong : ChangeSpec := { name := "haggleMore", fn := fun _ => fun
  | [d1, d2, d3, d4] => { results := [.lit (.bool false)], args := [d1, d2, d3, d4] }
  | _ => none }
def HaggleMoreWrongFalsely : Prop := haggleMoreRow.holds Try.pinned (OpenSpec.ofChange haggleMoreWrong)

/- THE SECOND FORM. 'bulk': how many values and letters a reading holds, each counted each time it is reached (what is shared counts as often as it is met; a slice's spare places count too). A statement '..UptoSaid' is the law's where the arguments, and the package variables that the reading takes, are together of bulk at most 1048576: NARROWER than '..Said'. Prove '..Said' where nothing that the law and all that it calls make is longer than what came in: it says more and counts as full. Else prove '..UptoSaid'. A law counts once. -/
mutual
def uptoBulk {H : Type} : DataW H → Nat
  | .lit (.string bytes) => bytes.length + 1
  | .lit _ => 1
  | .nil => 1
  | .ptr d => uptoBulk d + 1
  | .slice elems spare => uptoBulkAll elems + uptoBulkAll spare + 1
  | .agg parts => uptoBulkAll parts + 1
  | .iface _ d => uptoBulk d + 1
  | .map entries => uptoBulkEntries entries + 1
  | .held _ => 1
def uptoBulkAll {H : Type} : List (DataW H) → Nat
  | [] => 0
  | d :: r => uptoBulk d + uptoBulkAll r
def uptoBulkEntries {H : Type} : List (Lit × DataW H) → Nat
  | [] => 0
  | x :: r => uptoBulkEntry x + uptoBulkEntries r
def uptoBulkEntry {H : Type} : Lit × DataW H → Nat
  | (.string bytes, d) => bytes.length + uptoBulk d + 1
  | (_, d) => uptoBulk d + 1
 end
def uptoSmall : (H : Type) → List (DataW H) → Bool := fun _ ds => decide (uptoBulkAll ds ≤ 1048576)
def OpenSpec.upto (s : _root_.Go.ChangeSpec) : _root_.Go.OpenSpec := { _root_.Go.OpenSpec.ofChange s with cond := some uptoSmall }

/-- 'galloonlaw04.HaggleValues', WHERE WHAT IT READS IS OF BULK AT MOST 1048576: true; the input reads as it did. -/
def haggleValuesUptoRow : OpenClaim := { program := "ytbbidgdgcbnanaa", sum := "1be3715e8c733ed43b3d87ba9302482a6332d50ed03231b9c67f35e088bcd549", func := "galloon/galloonlaw04.HaggleValues", spec := "haggleValues", unfollowed := true, recurses := true, apart := false, narrowed := true }
def HaggleValuesUptoSaid : Prop := haggleValuesUptoRow.holds Try.pinned (OpenSpec.upto haggleValuesSpec)

/-- 'galloonlaw04.HaggleSearches', WHERE WHAT IT READS IS OF BULK AT MOST 1048576: true; the input reads as it did. -/
def haggleSearchesUptoRow : OpenClaim := { program := "ytbbidgdgcbnanaa", sum := "1be3715e8c733ed43b3d87ba9302482a6332d50ed03231b9c67f35e088bcd549", func := "galloon/galloonlaw04.HaggleSearches", spec := "haggleSearches", unfollowed := true, recurses := true, apart := false, narrowed := true }
def HaggleSearchesUptoSaid : Prop := haggleSearchesUptoRow.holds Try.pinned (OpenSpec.upto haggleSearchesSpec)

/-- 'galloonlaw04.HaggleProofs', WHERE WHAT IT READS IS OF BULK AT MOST 1048576: true; the input reads as it did. -/
def haggleProofsUptoRow : OpenClaim := { program := "ytbbidgdgcbnanaa", sum := "1be3715e8c733ed43b3d87ba9302482a6332d50ed03231b9c67f35e088bcd549", func := "galloon/galloonlaw04.HaggleProofs", spec := "haggleProofs", unfollowed := true, recurses := true, apart := false, narrowed := true }
def HaggleProofsUptoSaid : Prop := haggleProofsUptoRow.holds Try.pinned (OpenSpec.upto haggleProofsSpec)

/-- 'galloonlaw04.HaggleDecides', WHERE WHAT IT READS IS OF BULK AT MOST 1048576: true; the input reads as it did. -/
def haggleDecidesUptoRow : OpenClaim := { program := "ytbbidgdgcbnanaa", sum := "1be3715e8c733ed43b3d87ba9302482a6332d50ed03231b9c67f35e088bcd549", func := "galloon/galloonlaw04.HaggleDecides", spec := "haggleDecides", unfollowed := true, recurses := true, apart := false, narrowed := true }
def HaggleDecidesUptoSaid : Prop := haggleDecidesUptoRow.holds Try.pinned (OpenSpec.upto haggleDecidesSpec)

/-- 'galloonlaw04.HaggleChecks', WHERE WHAT IT READS IS OF BULK AT MOST 1048576: true; the input reads as it did. -/
def haggleChecksUptoRow : OpenClaim := { program := "ytbbidgdgcbnanaa", sum := "1be3715e8c733ed43b3d87ba9302482a6332d50ed03231b9c67f35e088bcd549", func := "galloon/galloonlaw04.HaggleChecks", spec := "haggleChecks", unfollowed := true, recurses := true, apart := false, narrowed := true }
def HaggleChecksUptoSaid : Prop := haggleChecksUptoRow.holds Try.pinned (OpenSpec.upto haggleChecksSpec)

/-- 'galloonlaw04.HaggleOrders', WHERE WHAT IT READS IS OF BULK AT MOST 1048576: true; the input reads as it did. -/
def haggleOrdersUptoRow : OpenClaim := { program := "ytbbidgdgcbnanaa", sum := "1be3715e8c733ed43b3d87ba9302482a6332d50ed03231b9c67f35e088bcd549", func := "galloon/galloonlaw04.HaggleOrders", spec := "haggleOrders", unfollowed := true, recurses := true, apart := false, narrowed := true }
def HaggleOrdersUptoSaid : Prop := haggleOrdersUptoRow.holds Try.pinned (OpenSpec.upto haggleOrdersSpec)

/-- 'galloonlaw04.HaggleFound', WHERE WHAT IT READS IS OF BULK AT MOST 1048576: true; the input reads as it did. -/
def haggleFoundUptoRow : OpenClaim := { program := "ytbbidgdgcbnanaa", sum := "1be3715e8c733ed43b3d87ba9302482a6332d50ed03231b9c67f35e088bcd549", func := "galloon/galloonlaw04.HaggleFound", spec := "haggleFound", unfollowed := true, recurses := true, apart := false, narrowed := true }
def HaggleFoundUptoSaid : Prop := haggleFoundUptoRow.holds Try.pinned (OpenSpec.upto haggleFoundSpec)

/-- 'galloonlaw04.HaggleTurned', WHERE WHAT IT READS IS OF BULK AT MOST 1048576: true; the input reads as it did. -/
def haggleTurnedUptoRow : OpenClaim := { program := "ytbbidgdgcbnanaa", sum := "1be3715e8c733ed43b3d87ba9302482a6332d50ed03231b9c67f35e088bcd549", func := "galloon/galloonlaw04.HaggleTurned", spec := "haggleTurned", unfollowed := true, recurses := true, apart := false, narrowed := true }
def HaggleTurnedUptoSaid : Prop := haggleTurnedUptoRow.holds Try.pinned (OpenSpec.upto haggleTurnedSpec)

/-- 'galloonlaw04.HaggleSorted', WHERE WHAT IT READS IS OF BULK AT MOST 1048576: true; the input reads as it did. -/
def haggleSortedUptoRow : OpenClaim := { program := "ytbbidgdgcbnanaa", sum := "1be3715e8c733ed43b3d87ba9302482a6332d50ed03231b9c67f35e088bcd549", func := "galloon/galloonlaw04.HaggleSorted", spec := "haggleSorted", unfollowed := true, recurses := true, apart := false, narrowed := true }
def HaggleSortedUptoSaid : Prop := haggleSortedUptoRow.holds Try.pinned (OpenSpec.upto haggleSortedSpec)

/-- 'galloonlaw04.HaggleProved', WHERE WHAT IT READS IS OF BULK AT MOST 1048576: true; the input reads as it did. -/
def haggleProvedUptoRow : OpenClaim := { program := "ytbbidgdgcbnanaa", sum := "1be3715e8c733ed43b3d87ba9302482a6332d50ed03231b9c67f35e088bcd549", func := "galloon/galloonlaw04.HaggleProved", spec := "haggleProved", unfollowed := true, recurses := true, apart := false, narrowed := true }
def HaggleProvedUptoSaid : Prop := haggleProvedUptoRow.holds Try.pinned (OpenSpec.upto haggleProvedSpec)

/-- 'galloonlaw04.HagglePlanned', WHERE WHAT IT READS IS OF BULK AT MOST 1048576: true; the input reads as it did. -/
def hagglePlannedUptoRow : OpenClaim := { program := "ytbbidgdgcbnanaa", sum := "1be3715e8c733ed43b3d87ba9302482a6332d50ed03231b9c67f35e088bcd549", func := "galloon/galloonlaw04.HagglePlanned", spec := "hagglePlanned", unfollowed := true, recurses := true, apart := false, narrowed := true }
def HagglePlannedUptoSaid : Prop := hagglePlannedUptoRow.holds Try.pinned (OpenSpec.upto hagglePlannedSpec)

/-- 'galloonlaw04.HaggleNumbers', WHERE WHAT IT READS IS OF BULK AT MOST 1048576: true; the input reads as it did. -/
def haggleNumbersUptoRow : OpenClaim := { program := "ytbbidgdgcbnanaa", sum := "1be3715e8c733ed43b3d87ba9302482a6332d50ed03231b9c67f35e088bcd549", func := "galloon/galloonlaw04.HaggleNumbers", spec := "haggleNumbers", unfollowed := true, recurses := true, apart := false, narrowed := true }
def HaggleNumbersUptoSaid : Prop := haggleNumbersUptoRow.holds Try.pinned (OpenSpec.upto haggleNumbersSpec)

/-- 'galloonlaw04.HaggleMore', WHERE WHAT IT READS IS OF BULK AT MOST 1048576: true; the input reads as it did. -/
def haggleMoreUptoRow : OpenClaim := { program := "ytbbidgdgcbnanaa", sum := "1be3715e8c733ed43b3d87ba9302482a6332d50ed03231b9c67f35e088bcd549", func := "galloon/galloonlaw04.HaggleMore", spec := "haggleMore", unfollowed := true, recurses := true, apart := false, narrowed := true }
def HaggleMoreUptoSaid : Prop := haggleMoreUptoRow.holds Try.pinned (OpenSpec.upto haggleMoreSpec)

end Rows
end Go.Proofs.Ytbbidgdgcbnanaa
