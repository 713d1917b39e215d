/-
  No cell of these rows narrows 'for every input' (looked for: loops, veiled, ifaces, maps, wideKeys, modest, calm, conditions, laid).
  DERIVED. THE GIVEN ROWS OF THIS SEAT. 14 by the template 'for every input the law returns true; each argument reads behind the call as it read before'; 0 by the template 'total and deterministic' (their statements: YtndbjojjaapeaaaTotals.lean).
  GIVEN WITH THE SEED: the statements are not yours to turn. If you find one false, say at which input.
  Laid BY PROGRAM, IN A SANDBOX (cutbox-rows.mjs): the forced cells as the released guide's own fill.sh prints them over the translation 5f6242c9fb54a252… (all of the seat's roots in one cut). By AI agents, Wed Nov 11 2026. No macro, syntax, notation, axiom, sorry.
-/
import Derived.Test.YtndbjojjaapeaaaChecked
import GoSem.Claim
import GoSem.ClaimJoined
import GoSem.ClaimMapViews
import Derived.JoinedTies
import Derived.KernelRfl
namespace Go.Proofs.Ytndbjojjaapeaaa
/- THE CELL 'sum', in the pinned program and in every row, IS THE sha256 OF THE DUMP (.gsa) THAT YtndbjojjaapeaaaProg.lean LOADS. Nothing in Lean hashes anything: it is a label: what it is worth is what the hold of that sum in a sandbox is worth. -/
noncomputable def Try.pinned : Pinned := { name := "ytndbjojjaapeaaa", sum := "5f6242c9fb54a2525134813da6366922ce4f525f8c9a401aae92b259e243c05e", checked := Try.checked }
namespace Rows
def none {H : Type} : Left H := { results := [], args := [] }

/-- 'galloonlaw06.ShuffleValues': WHATEVER THE INPUT: true; the input reads as it did. -/
def shuffleValuesSpec : ChangeSpec := { name := "shuffleValues", fn := fun _ => fun
  | [d1, d2] => { results := [.lit (.bool true)], args := [d1, d2] }
  | _ => none }
def shuffleValuesRow : OpenClaim := { program := "ytndbjojjaapeaaa", sum := "5f6242c9fb54a2525134813da6366922ce4f525f8c9a401aae92b259e243c05e", func := "galloon/galloonlaw06.ShuffleValues", spec := "shuffleValues", unfollowed := true, recurses := true, apart := false }
def ShuffleValuesSaid : Prop := shuffleValuesRow.holds Try.pinned (OpenSpec.ofChange shuffleValuesSpec)

/-- ITS FALSE NEIGHBOUR: 'it returns false'. Refute it at one input. -/
def shuffleValuesWrong : ChangeSpec := { name := "shuffleValues", fn := fun _ => fun
  | [d1, d2] => { results := [.lit (.bool false)], args := [d1, d2] }
  | _ => none }
def ShuffleValuesWrongFalsely : Prop := shuffleValuesRow.holds Try.pinned (OpenSpec.ofChange shuffleValuesWrong)

/-- 'galloonlaw06.ShuffleForms': WHATEVER THE INPUT: true; the input reads as it did. -/
def shuffleFormsSpec : ChangeSpec := { name := "shuffleForms", fn := fun _ => fun
  | [d1, d2] => { results := [.lit (.bool true)], args := [d1, d2] }
  | _ => none }
def shuffleFormsRow : OpenClaim := { program := "ytndbjojjaapeaaa", sum := "5f6242c9fb54a2525134813da6366922ce4f525f8c9a401aae92b259e243c05e", func := "galloon/galloonlaw06.ShuffleForms", spec := "shuffleForms", unfollowed := true, recurses := true, apart := false }
def ShuffleFormsSaid : Prop := shuffleFormsRow.holds Try.pinned (OpenSpec.ofChange shuffleFormsSpec)

/-- ITS FALSE NEIGHBOUR: 'it returns false'. Refute it at one input. -/
def shuffleFormsWrong : ChangeSpec := { name := "shuffleForms", fn := fun _ => fun
  | [d1, d2] => { results := [.lit (.bool false)], args := [d1, d2] }
  | _ => none }
def ShuffleFormsWrongFalsely : Prop := shuffleFormsRow.holds Try.pinned (OpenSpec.ofChange shuffleFormsWrong)

/-- 'galloonlaw06.ShuffleUnforms': WHATEVER THE INPUT: true; the input reads as it did. -/
def shuffleUnformsSpec : ChangeSpec := { name := "shuffleUnforms", fn := fun _ => fun
  | [d1, d2] => { results := [.lit (.bool true)], args := [d1, d2] }
  | _ => none }
def shuffleUnformsRow : OpenClaim := { program := "ytndbjojjaapeaaa", sum := "5f6242c9fb54a2525134813da6366922ce4f525f8c9a401aae92b259e243c05e", func := "galloon/galloonlaw06.ShuffleUnforms", spec := "shuffleUnforms", unfollowed := true, recurses := true, apart := false }
def ShuffleUnformsSaid : Prop := shuffleUnformsRow.holds Try.pinned (OpenSpec.ofChange shuffleUnformsSpec)

/-- ITS FALSE NEIGHBOUR: 'it returns false'. Refute it at one input. -/
def shuffleUnformsWrong : ChangeSpec := { name := "shuffleUnforms", fn := fun _ => fun
  | [d1, d2] => { results := [.lit (.bool false)], args := [d1, d2] }
  | _ => none }
def ShuffleUnformsWrongFalsely : Prop := shuffleUnformsRow.holds Try.pinned (OpenSpec.ofChange shuffleUnformsWrong)

/-- 'galloonlaw06.ShuffleAfters': WHATEVER THE INPUT: true; the input reads as it did. -/
def shuffleAftersSpec : ChangeSpec := { name := "shuffleAfters", fn := fun _ => fun
  | [d1, d2] => { results := [.lit (.bool true)], args := [d1, d2] }
  | _ => none }
def shuffleAftersRow : OpenClaim := { program := "ytndbjojjaapeaaa", sum := "5f6242c9fb54a2525134813da6366922ce4f525f8c9a401aae92b259e243c05e", func := "galloon/galloonlaw06.ShuffleAfters", spec := "shuffleAfters", unfollowed := true, recurses := true, apart := false }
def ShuffleAftersSaid : Prop := shuffleAftersRow.holds Try.pinned (OpenSpec.ofChange shuffleAftersSpec)

/-- ITS FALSE NEIGHBOUR: 'it returns false'. Refute it at one input. -/
def shuffleAftersWrong : ChangeSpec := { name := "shuffleAfters", fn := fun _ => fun
  | [d1, d2] => { results := [.lit (.bool false)], args := [d1, d2] }
  | _ => none }
def ShuffleAftersWrongFalsely : Prop := shuffleAftersRow.holds Try.pinned (OpenSpec.ofChange shuffleAftersWrong)

/-- 'galloonlaw06.ShuffleJoins': WHATEVER THE INPUT: true; the input reads as it did. -/
def shuffleJoinsSpec : ChangeSpec := { name := "shuffleJoins", fn := fun _ => fun
  | [d1, d2] => { results := [.lit (.bool true)], args := [d1, d2] }
  | _ => none }
def shuffleJoinsRow : OpenClaim := { program := "ytndbjojjaapeaaa", sum := "5f6242c9fb54a2525134813da6366922ce4f525f8c9a401aae92b259e243c05e", func := "galloon/galloonlaw06.ShuffleJoins", spec := "shuffleJoins", unfollowed := true, recurses := true, apart := false }
def ShuffleJoinsSaid : Prop := shuffleJoinsRow.holds Try.pinned (OpenSpec.ofChange shuffleJoinsSpec)

/-- ITS FALSE NEIGHBOUR: 'it returns false'. Refute it at one input. -/
def shuffleJoinsWrong : ChangeSpec := { name := "shuffleJoins", fn := fun _ => fun
  | [d1, d2] => { results := [.lit (.bool false)], args := [d1, d2] }
  | _ => none }
def ShuffleJoinsWrongFalsely : Prop := shuffleJoinsRow.holds Try.pinned (OpenSpec.ofChange shuffleJoinsWrong)

/-- 'galloonlaw06.ShuffleClosed': WHATEVER THE INPUT: true; the input reads as it did. -/
def shuffleClosedSpec : ChangeSpec := { name := "shuffleClosed", fn := fun _ => fun
  | [d1, d2, d3] => { results := [.lit (.bool true)], args := [d1, d2, d3] }
  | _ => none }
def shuffleClosedRow : OpenClaim := { program := "ytndbjojjaapeaaa", sum := "5f6242c9fb54a2525134813da6366922ce4f525f8c9a401aae92b259e243c05e", func := "galloon/galloonlaw06.ShuffleClosed", spec := "shuffleClosed", unfollowed := true, recurses := true, apart := false }
def ShuffleClosedSaid : Prop := shuffleClosedRow.holds Try.pinned (OpenSpec.ofChange shuffleClosedSpec)

/-- ITS FALSE NEIGHBOUR: 'it returns false'. Refute it at one input. -/
def shuffleClosedWrong : ChangeSpec := { name := "shuffleClosed", fn := fun _ => fun
  | [d1, d2, d3] => { results := [.lit (.bool false)], args := [d1, d2, d3] }
  | _ => none }
def ShuffleClosedWrongFalsely : Prop := shuffleClosedRow.holds Try.pinned (OpenSpec.ofChange shuffleClosedWrong)

/-- 'galloonlaw06.ShuffleInverted': WHATEVER THE INPUT: true; the input reads as it did. -/
def shuffleInvertedSpec : ChangeSpec := { name := "shuffleInverted", fn := fun _ => fun
  | [d1, d2] => { results := [.lit (.bool true)], args := [d1, d2] }
  | _ => none }
def shuffleInvertedRow : OpenClaim := { program := "ytndbjojjaapeaaa", sum := "5f6242c9fb54a2525134813da6366922ce4f525f8c9a401aae92b259e243c05e", func := "galloon/galloonlaw06.ShuffleInverted", spec := "shuffleInverted", unfollowed := true, recurses := true, apart := false }
def ShuffleInvertedSaid : Prop := shuffleInvertedRow.holds Try.pinned (OpenSpec.ofChange shuffleInvertedSpec)

/-- ITS FALSE NEIGHBOUR: 'it returns false'. Refute it at one input. -/
def shuffleInvertedWrong : ChangeSpec := { name := "shuffleInverted", fn := fun _ => fun
  | [d1, d2] => { results := [.lit (.bool false)], args := [d1, d2] }
  | _ => none }
def ShuffleInvertedWrongFalsely : Prop := shuffleInvertedRow.holds Try.pinned (OpenSpec.ofChange shuffleInvertedWrong)

/-- 'galloonlaw06.ShuffleRivest': WHATEVER THE INPUT: true; the input reads as it did. -/
def shuffleRivestSpec : ChangeSpec := { name := "shuffleRivest", fn := fun _ => fun
  | [d1, d2] => { results := [.lit (.bool true)], args := [d1, d2] }
  | _ => none }
def shuffleRivestRow : OpenClaim := { program := "ytndbjojjaapeaaa", sum := "5f6242c9fb54a2525134813da6366922ce4f525f8c9a401aae92b259e243c05e", func := "galloon/galloonlaw06.ShuffleRivest", spec := "shuffleRivest", unfollowed := true, recurses := true, apart := false }
def ShuffleRivestSaid : Prop := shuffleRivestRow.holds Try.pinned (OpenSpec.ofChange shuffleRivestSpec)

/-- ITS FALSE NEIGHBOUR: 'it returns false'. Refute it at one input. -/
def shuffleRivestWrong : ChangeSpec := { name := "shuffleRivest", fn := fun _ => fun
  | [d1, d2] => { results := [.lit (.bool false)], args := [d1, d2] }
  | _ => none }
def ShuffleRivestWrongFalsely : Prop := shuffleRivestRow.holds Try.pinned (OpenSpec.ofChange shuffleRivestWrong)

/-- 'galloonlaw06.ShuffleParted': WHATEVER THE INPUT: true; the input reads as it did. -/
def shufflePartedSpec : ChangeSpec := { name := "shuffleParted", fn := fun _ => fun
  | [d1, d2, d3] => { results := [.lit (.bool true)], args := [d1, d2, d3] }
  | _ => none }
def shufflePartedRow : OpenClaim := { program := "ytndbjojjaapeaaa", sum := "5f6242c9fb54a2525134813da6366922ce4f525f8c9a401aae92b259e243c05e", func := "galloon/galloonlaw06.ShuffleParted", spec := "shuffleParted", unfollowed := true, recurses := true, apart := false }
def ShufflePartedSaid : Prop := shufflePartedRow.holds Try.pinned (OpenSpec.ofChange shufflePartedSpec)

/-- ITS FALSE NEIGHBOUR: 'it returns false'. Refute it at one input. -/
def shufflePartedWrong : ChangeSpec := { name := "shuffleParted", fn := fun _ => fun
  | [d1, d2, d3] => { results := [.lit (.bool false)], args := [d1, d2, d3] }
  | _ => none }
def ShufflePartedWrongFalsely : Prop := shufflePartedRow.holds Try.pinned (OpenSpec.ofChange shufflePartedWrong)

/-- 'galloonlaw06.ShuffleCounts': WHATEVER THE INPUT: true; the input reads as it did. -/
def shuffleCountsSpec : ChangeSpec := { name := "shuffleCounts", fn := fun _ => fun
  | [d] => { results := [.lit (.bool true)], args := [d] }
  | _ => none }
def shuffleCountsRow : OpenClaim := { program := "ytndbjojjaapeaaa", sum := "5f6242c9fb54a2525134813da6366922ce4f525f8c9a401aae92b259e243c05e", func := "galloon/galloonlaw06.ShuffleCounts", spec := "shuffleCounts", unfollowed := true, recurses := true, apart := false }
def ShuffleCountsSaid : Prop := shuffleCountsRow.holds Try.pinned (OpenSpec.ofChange shuffleCountsSpec)

/-- ITS FALSE NEIGHBOUR: 'it returns false'. Refute it at one input. -/
def shuffleCountsWrong : ChangeSpec := { name := "shuffleCounts", fn := fun _ => fun
  | [d] => { results := [.lit (.bool false)], args := [d] }
  | _ => none }
def ShuffleCountsWrongFalsely : Prop := shuffleCountsRow.holds Try.pinned (OpenSpec.ofChange shuffleCountsWrong)

/-- 'galloonlaw06.ShuffleThere': WHATEVER THE INPUT: true; the input reads as it did. -/
def shuffleThereSpec : ChangeSpec := { name := "shuffleThere", fn := fun _ => fun
  | [d1, d2, d3, d4] => { results := [.lit (.bool true)], args := [d1, d2, d3, d4] }
  | _ => none }
def shuffleThereRow : OpenClaim := { program := "ytndbjojjaapeaaa", sum := "5f6242c9fb54a2525134813da6366922ce4f525f8c9a401aae92b259e243c05e", func := "galloon/galloonlaw06.ShuffleThere", spec := "shuffleThere", unfollowed := true, recurses := true, apart := false }
def ShuffleThereSaid : Prop := shuffleThereRow.holds Try.pinned (OpenSpec.ofChange shuffleThereSpec)

/-- ITS FALSE NEIGHBOUR: 'it returns false'. Refute it at one input. -/
def shuffleThereWrong : ChangeSpec := { name := "shuffleThere", fn := fun _ => fun
  | [d1, d2, d3, d4] => { results := [.lit (.bool false)], args := [d1, d2, d3, d4] }
  | _ => none }
def ShuffleThereWrongFalsely : Prop := shuffleThereRow.holds Try.pinned (OpenSpec.ofChange shuffleThereWrong)

/-- 'galloonlaw06.ShuffleSame': WHATEVER THE INPUT: true; the input reads as it did. -/
def shuffleSameSpec : ChangeSpec := { name := "shuffleSame", fn := fun _ => fun
  | [d1, d2, d3, d4] => { results := [.lit (.bool true)], args := [d1, d2, d3, d4] }
  | _ => none }
def shuffleSameRow : OpenClaim := { program := "ytndbjojjaapeaaa", sum := "5f6242c9fb54a2525134813da6366922ce4f525f8c9a401aae92b259e243c05e", func := "galloon/galloonlaw06.ShuffleSame", spec := "shuffleSame", unfollowed := true, recurses := true, apart := false }
def ShuffleSameSaid : Prop := shuffleSameRow.holds Try.pinned (OpenSpec.ofChange shuffleSameSpec)

/-- ITS FALSE NEIGHBOUR: 'it returns false'. Refute it at one input. -/
def shuffleSameWrong : ChangeSpec := { name := "shuffleSame", fn := fun _ => fun
  | [d1, d2, d3, d4] => { results := [.lit (.bool false)], args := [d1, d2, d3, d4] }
  | _ => none }
def ShuffleSameWrongFalsely : Prop := shuffleSameRow.holds Try.pinned (OpenSpec.ofChange shuffleSameWrong)

/-- 'galloonlaw06.ShuffleShifted': WHATEVER THE INPUT: true; the input reads as it did. -/
def shuffleShiftedSpec : ChangeSpec := { name := "shuffleShifted", fn := fun _ => fun
  | [d1, d2, d3] => { results := [.lit (.bool true)], args := [d1, d2, d3] }
  | _ => none }
def shuffleShiftedRow : OpenClaim := { program := "ytndbjojjaapeaaa", sum := "5f6242c9fb54a2525134813da6366922ce4f525f8c9a401aae92b259e243c05e", func := "galloon/galloonlaw06.ShuffleShifted", spec := "shuffleShifted", unfollowed := true, recurses := true, apart := false }
def ShuffleShiftedSaid : Prop := shuffleShiftedRow.holds Try.pinned (OpenSpec.ofChange shuffleShiftedSpec)

/-- ITS FALSE NEIGHBOUR: 'it returns false'. Refute it at one input. -/
def shuffleShiftedWrong : ChangeSpec := { name := "shuffleShifted", fn := fun _ => fun
  | [d1, d2, d3] => { results := [.lit (.bool false)], args := [d1, d2, d3] }
  | _ => none }
def ShuffleShiftedWrongFalsely : Prop := shuffleShiftedRow.holds Try.pinned (OpenSpec.ofChange shuffleShiftedWrong)

/-- 'galloonlaw06.ShuffleOwn': WHATEVER THE INPUT: true; the input reads as it did. -/
def shuffleOwnSpec : ChangeSpec := { name := "shuffleOwn", fn := fun _ => fun
  | [d1, d2] => { results := [.lit (.bool true)], args := [d1, d2] }
  | _ => none }
def shuffleOwnRow : OpenClaim := { program := "ytndbjojjaapeaaa", sum := "5f6242c9fb54a2525134813da6366922ce4f525f8c9a401aae92b259e243c05e", func := "galloon/galloonlaw06.ShuffleOwn", spec := "shuffleOwn", unfollowed := true, recurses := true, apart := false }
def ShuffleOwnSaid : Prop := shuffleOwnRow.holds Try.pinned (OpenSpec.ofChange shuffleOwnSpec)

/-- ITS FALSE NEIGHBOUR: 'it returns false'. Refute it at one input. -/
def shuffleOwnWrong : ChangeSpec := { name := "shuffleOwn", fn := fun _ => fun
  | [d1, d2] => { results := [.lit (.bool false)], args := [d1, d2] }
  | _ => none }
def ShuffleOwnWrongFalsely : Prop := shuffleOwnRow.holds Try.pinned (OpenSpec.ofChange shuffleOwnWrong)

/- THE SECOND FORM. 'bulk': how many values and letters a reading holds, each counted each time it is reached (what is shared counts as often as it is met; a slice's spare places count too). A statement '..UptoSaid' is the law's where the arguments, and the package variables that the reading takes, are together of bulk at most 1048576: NARROWER than '..Said'. Prove '..Said' where nothing that the law and all that it calls make is longer than what came in: it says more and counts as full. Else prove '..UptoSaid'. A law counts once. -/
mutual
def uptoBulk {H : Type} : DataW H → Nat
  | .lit (.string bytes) => bytes.length + 1
  | .lit _ => 1
  | .nil => 1
  | .ptr d => uptoBulk d + 1
  | .slice elems spare => uptoBulkAll elems + uptoBulkAll spare + 1
  | .agg parts => uptoBulkAll parts + 1
  | .iface _ d => uptoBulk d + 1
  | .map entries => uptoBulkEntries entries + 1
  | .held _ => 1
def uptoBulkAll {H : Type} : List (DataW H) → Nat
  | [] => 0
  | d :: r => uptoBulk d + uptoBulkAll r
def uptoBulkEntries {H : Type} : List (Lit × DataW H) → Nat
  | [] => 0
  | x :: r => uptoBulkEntry x + uptoBulkEntries r
def uptoBulkEntry {H : Type} : Lit × DataW H → Nat
  | (.string bytes, d) => bytes.length + uptoBulk d + 1
  | (_, d) => uptoBulk d + 1
 end
def uptoSmall : (H : Type) → List (DataW H) → Bool := fun _ ds => decide (uptoBulkAll ds ≤ 1048576)
def OpenSpec.upto (s : _root_.Go.ChangeSpec) : _root_.Go.OpenSpec := { _root_.Go.OpenSpec.ofChange s with cond := some uptoSmall }

/-- 'galloonlaw06.ShuffleValues', WHERE WHAT IT READS IS OF BULK AT MOST 1048576: true; the input reads as it did. -/
def shuffleValuesUptoRow : OpenClaim := { program := "ytndbjojjaapeaaa", sum := "5f6242c9fb54a2525134813da6366922ce4f525f8c9a401aae92b259e243c05e", func := "galloon/galloonlaw06.ShuffleValues", spec := "shuffleValues", unfollowed := true, recurses := true, apart := false, narrowed := true }
def ShuffleValuesUptoSaid : Prop := shuffleValuesUptoRow.holds Try.pinned (OpenSpec.upto shuffleValuesSpec)

/-- 'galloonlaw06.ShuffleForms', WHERE WHAT IT READS IS OF BULK AT MOST 1048576: true; the input reads as it did. -/
def shuffleFormsUptoRow : OpenClaim := { program := "ytndbjojjaapeaaa", sum := "5f6242c9fb54a2525134813da6366922ce4f525f8c9a401aae92b259e243c05e", func := "galloon/galloonlaw06.ShuffleForms", spec := "shuffleForms", unfollowed := true, recurses := true, apart := false, narrowed := true }
def ShuffleFormsUptoSaid : Prop := shuffleFormsUptoRow.holds Try.pinned (OpenSpec.upto shuffleFormsSpec)

/-- 'galloonlaw06.ShuffleUnforms', WHERE WHAT IT READS IS OF BULK AT MOST 1048576: true; the input reads as it did. -/
def shuffleUnformsUptoRow : OpenClaim := { program := "ytndbjojjaapeaaa", sum := "5f6242c9fb54a2525134813da6366922ce4f525f8c9a401aae92b259e243c05e", func := "galloon/galloonlaw06.ShuffleUnforms", spec := "shuffleUnforms", unfollowed := true, recurses := true, apart := false, narrowed := true }
def ShuffleUnformsUptoSaid : Prop := shuffleUnformsUptoRow.holds Try.pinned (OpenSpec.upto shuffleUnformsSpec)

/-- 'galloonlaw06.ShuffleAfters', WHERE WHAT IT READS IS OF BULK AT MOST 1048576: true; the input reads as it did. -/
def shuffleAftersUptoRow : OpenClaim := { program := "ytndbjojjaapeaaa", sum := "5f6242c9fb54a2525134813da6366922ce4f525f8c9a401aae92b259e243c05e", func := "galloon/galloonlaw06.ShuffleAfters", spec := "shuffleAfters", unfollowed := true, recurses := true, apart := false, narrowed := true }
def ShuffleAftersUptoSaid : Prop := shuffleAftersUptoRow.holds Try.pinned (OpenSpec.upto shuffleAftersSpec)

/-- 'galloonlaw06.ShuffleJoins', WHERE WHAT IT READS IS OF BULK AT MOST 1048576: true; the input reads as it did. -/
def shuffleJoinsUptoRow : OpenClaim := { program := "ytndbjojjaapeaaa", sum := "5f6242c9fb54a2525134813da6366922ce4f525f8c9a401aae92b259e243c05e", func := "galloon/galloonlaw06.ShuffleJoins", spec := "shuffleJoins", unfollowed := true, recurses := true, apart := false, narrowed := true }
def ShuffleJoinsUptoSaid : Prop := shuffleJoinsUptoRow.holds Try.pinned (OpenSpec.upto shuffleJoinsSpec)

/-- 'galloonlaw06.ShuffleClosed', WHERE WHAT IT READS IS OF BULK AT MOST 1048576: true; the input reads as it did. -/
def shuffleClosedUptoRow : OpenClaim := { program := "ytndbjojjaapeaaa", sum := "5f6242c9fb54a2525134813da6366922ce4f525f8c9a401aae92b259e243c05e", func := "galloon/galloonlaw06.ShuffleClosed", spec := "shuffleClosed", unfollowed := true, recurses := true, apart := false, narrowed := true }
def ShuffleClosedUptoSaid : Prop := shuffleClosedUptoRow.holds Try.pinned (OpenSpec.upto shuffleClosedSpec)

/-- 'galloonlaw06.ShuffleInverted', WHERE WHAT IT READS IS OF BULK AT MOST 1048576: true; the input reads as it did. -/
def shuffleInvertedUptoRow : OpenClaim := { program := "ytndbjojjaapeaaa", sum := "5f6242c9fb54a2525134813da6366922ce4f525f8c9a401aae92b259e243c05e", func := "galloon/galloonlaw06.ShuffleInverted", spec := "shuffleInverted", unfollowed := true, recurses := true, apart := false, narrowed := true }
def ShuffleInvertedUptoSaid : Prop := shuffleInvertedUptoRow.holds Try.pinned (OpenSpec.upto shuffleInvertedSpec)

/-- 'galloonlaw06.ShuffleRivest', WHERE WHAT IT READS IS OF BULK AT MOST 1048576: true; the input reads as it did. -/
def shuffleRivestUptoRow : OpenClaim := { program := "ytndbjojjaapeaaa", sum := "5f6242c9fb54a2525134813da6366922ce4f525f8c9a401aae92b259e243c05e", func := "galloon/galloonlaw06.ShuffleRivest", spec := "shuffleRivest", unfollowed := true, recurses := true, apart := false, narrowed := true }
def ShuffleRivestUptoSaid : Prop := shuffleRivestUptoRow.holds Try.pinned (OpenSpec.upto shuffleRivestSpec)

/-- 'galloonlaw06.ShuffleParted', WHERE WHAT IT READS IS OF BULK AT MOST 1048576: true; the input reads as it did. -/
def shufflePartedUptoRow : OpenClaim := { program := "ytndbjojjaapeaaa", sum := "5f6242c9fb54a2525134813da6366922ce4f525f8c9a401aae92b259e243c05e", func := "galloon/galloonlaw06.ShuffleParted", spec := "shuffleParted", unfollowed := true, recurses := true, apart := false, narrowed := true }
def ShufflePartedUptoSaid : Prop := shufflePartedUptoRow.holds Try.pinned (OpenSpec.upto shufflePartedSpec)

/-- 'galloonlaw06.ShuffleCounts', WHERE WHAT IT READS IS OF BULK AT MOST 1048576: true; the input reads as it did. -/
def shuffleCountsUptoRow : OpenClaim := { program := "ytndbjojjaapeaaa", sum := "5f6242c9fb54a2525134813da6366922ce4f525f8c9a401aae92b259e243c05e", func := "galloon/galloonlaw06.ShuffleCounts", spec := "shuffleCounts", unfollowed := true, recurses := true, apart := false, narrowed := true }
def ShuffleCountsUptoSaid : Prop := shuffleCountsUptoRow.holds Try.pinned (OpenSpec.upto shuffleCountsSpec)

/-- 'galloonlaw06.ShuffleThere', WHERE WHAT IT READS IS OF BULK AT MOST 1048576: true; the input reads as it did. -/
def shuffleThereUptoRow : OpenClaim := { program := "ytndbjojjaapeaaa", sum := "5f6242c9fb54a2525134813da6366922ce4f525f8c9a401aae92b259e243c05e", func := "galloon/galloonlaw06.ShuffleThere", spec := "shuffleThere", unfollowed := true, recurses := true, apart := false, narrowed := true }
def ShuffleThereUptoSaid : Prop := shuffleThereUptoRow.holds Try.pinned (OpenSpec.upto shuffleThereSpec)

/-- 'galloonlaw06.ShuffleSame', WHERE WHAT IT READS IS OF BULK AT MOST 1048576: true; the input reads as it did. -/
def shuffleSameUptoRow : OpenClaim := { program := "ytndbjojjaapeaaa", sum := "5f6242c9fb54a2525134813da6366922ce4f525f8c9a401aae92b259e243c05e", func := "galloon/galloonlaw06.ShuffleSame", spec := "shuffleSame", unfollowed := true, recurses := true, apart := false, narrowed := true }
def ShuffleSameUptoSaid : Prop := shuffleSameUptoRow.holds Try.pinned (OpenSpec.upto shuffleSameSpec)

/-- 'galloonlaw06.ShuffleShifted', WHERE WHAT IT READS IS OF BULK AT MOST 1048576: true; the input reads as it did. -/
def shuffleShiftedUptoRow : OpenClaim := { program := "ytndbjojjaapeaaa", sum := "5f6242c9fb54a2525134813da6366922ce4f525f8c9a401aae92b259e243c05e", func := "galloon/galloonlaw06.ShuffleShifted", spec := "shuffleShifted", unfollowed := true, recurses := true, apart := false, narrowed := true }
def ShuffleShiftedUptoSaid : Prop := shuffleShiftedUptoRow.holds Try.pinned (OpenSpec.upto shuffleShiftedSpec)

/-- 'galloonlaw06.ShuffleOwn', WHERE WHAT IT READS IS OF BULK AT MOST 1048576: true; the input reads as it did. -/
def shuffleOwnUptoRow : OpenClaim := { program := "ytndbjojjaapeaaa", sum := "5f6242c9fb54a2525134813da6366922ce4f525f8c9a401aae92b259e243c05e", func := "galloon/galloonlaw06.ShuffleOwn", spec := "shuffleOwn", unfollowed := true, recurses := true, apart := false, narrowed := true }
def ShuffleOwnUptoSaid : Prop := shuffleOwnUptoRow.holds Try.pinned (OpenSpec.upto shuffleOwnSpec)

end Rows
end Go.Proofs.Ytndbjojjaapeaaa
