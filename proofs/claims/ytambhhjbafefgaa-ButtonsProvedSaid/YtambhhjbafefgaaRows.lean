/-
  No cell of these rows narrows 'for every input' (looked for: loops, veiled, ifaces, maps, wideKeys, modest, calm, conditions, laid).
  DERIVED. THE GIVEN ROWS OF THIS SEAT. 13 by the template 'for every input the law returns true; each argument reads behind the call as it read before'; 0 by the template 'total and deterministic' (their statements: YtambhhjbafefgaaTotals.lean).
  GIVEN WITH THE SEED: the statements are not yours to turn. If you find one false, say at which input.
  Laid BY PROGRAM, IN A SANDBOX (cutbox-rows.mjs): the forced cells as the released guide's own fill.sh prints them over the translation 672eea80c33b75ac… (all of the seat's roots in one cut). By AI agents, Wed Nov 11 2026. No macro, syntax, notation, axiom, sorry.
-/
import Derived.Test.YtambhhjbafefgaaChecked
import GoSem.Claim
import GoSem.ClaimJoined
import GoSem.ClaimMapViews
import Derived.JoinedTies
import Derived.KernelRfl
namespace Go.Proofs.Ytambhhjbafefgaa
/- THE CELL 'sum', in the pinned program and in every row, IS THE sha256 OF THE DUMP (.gsa) THAT YtambhhjbafefgaaProg.lean LOADS. Nothing in Lean hashes anything: it is a label: what it is worth is what the hold of that sum in a sandbox is worth. -/
noncomputable def Try.pinned : Pinned := { name := "ytambhhjbafefgaa", sum := "672eea80c33b75ac644e9bcfb9b964b4723871e236ba54d278f23867850b9c18", checked := Try.checked }
namespace Rows
def none {H : Type} : Left H := { results := [], args := [] }

/-- 'galloonlaw02.ButtonsBests': WHATEVER THE INPUT: true; the input reads as it did. -/
def buttonsBestsSpec : ChangeSpec := { name := "buttonsBests", fn := fun _ => fun
  | [d] => { results := [.lit (.bool true)], args := [d] }
  | _ => none }
def buttonsBestsRow : OpenClaim := { program := "ytambhhjbafefgaa", sum := "672eea80c33b75ac644e9bcfb9b964b4723871e236ba54d278f23867850b9c18", func := "galloon/galloonlaw02.ButtonsBests", spec := "buttonsBests", unfollowed := true, recurses := true, plainKeys := false, apart := false }
def ButtonsBestsSaid : Prop := buttonsBestsRow.holds Try.pinned (OpenSpec.ofChange buttonsBestsSpec)

/-- ITS FALSE NEIGHBOUR: 'it returns false'. Refute it at one input. -/
def buttonsBestsWrong : ChangeSpec := { name := "buttonsBests", fn := fun _ => fun
  | [d] => { results := [.lit (.bool false)], args := [d] }
  | _ => none }
def ButtonsBestsWrongFalsely : Prop := buttonsBestsRow.holds Try.pinned (OpenSpec.ofChange buttonsBestsWrong)

/-- 'galloonlaw02.ButtonsChecks': WHATEVER THE INPUT: true; the input reads as it did. -/
def buttonsChecksSpec : ChangeSpec := { name := "buttonsChecks", fn := fun _ => fun
  | [d1, d2] => { results := [.lit (.bool true)], args := [d1, d2] }
  | _ => none }
def buttonsChecksRow : OpenClaim := { program := "ytambhhjbafefgaa", sum := "672eea80c33b75ac644e9bcfb9b964b4723871e236ba54d278f23867850b9c18", func := "galloon/galloonlaw02.ButtonsChecks", spec := "buttonsChecks", unfollowed := true, recurses := true, plainKeys := false, apart := false }
def ButtonsChecksSaid : Prop := buttonsChecksRow.holds Try.pinned (OpenSpec.ofChange buttonsChecksSpec)

/-- ITS FALSE NEIGHBOUR: 'it returns false'. Refute it at one input. -/
def buttonsChecksWrong : ChangeSpec := { name := "buttonsChecks", fn := fun _ => fun
  | [d1, d2] => { results := [.lit (.bool false)], args := [d1, d2] }
  | _ => none }
def ButtonsChecksWrongFalsely : Prop := buttonsChecksRow.holds Try.pinned (OpenSpec.ofChange buttonsChecksWrong)

/-- 'galloonlaw02.ButtonsItems': WHATEVER THE INPUT: true; the input reads as it did. -/
def buttonsItemsSpec : ChangeSpec := { name := "buttonsItems", fn := fun _ => fun
  | [d1, d2] => { results := [.lit (.bool true)], args := [d1, d2] }
  | _ => none }
def buttonsItemsRow : OpenClaim := { program := "ytambhhjbafefgaa", sum := "672eea80c33b75ac644e9bcfb9b964b4723871e236ba54d278f23867850b9c18", func := "galloon/galloonlaw02.ButtonsItems", spec := "buttonsItems", unfollowed := true, recurses := true, plainKeys := false, apart := false }
def ButtonsItemsSaid : Prop := buttonsItemsRow.holds Try.pinned (OpenSpec.ofChange buttonsItemsSpec)

/-- ITS FALSE NEIGHBOUR: 'it returns false'. Refute it at one input. -/
def buttonsItemsWrong : ChangeSpec := { name := "buttonsItems", fn := fun _ => fun
  | [d1, d2] => { results := [.lit (.bool false)], args := [d1, d2] }
  | _ => none }
def ButtonsItemsWrongFalsely : Prop := buttonsItemsRow.holds Try.pinned (OpenSpec.ofChange buttonsItemsWrong)

/-- 'galloonlaw02.ButtonsIndexes': WHATEVER THE INPUT: true; the input reads as it did. -/
def buttonsIndexesSpec : ChangeSpec := { name := "buttonsIndexes", fn := fun _ => fun
  | [d1, d2] => { results := [.lit (.bool true)], args := [d1, d2] }
  | _ => none }
def buttonsIndexesRow : OpenClaim := { program := "ytambhhjbafefgaa", sum := "672eea80c33b75ac644e9bcfb9b964b4723871e236ba54d278f23867850b9c18", func := "galloon/galloonlaw02.ButtonsIndexes", spec := "buttonsIndexes", unfollowed := true, recurses := true, plainKeys := false, apart := false }
def ButtonsIndexesSaid : Prop := buttonsIndexesRow.holds Try.pinned (OpenSpec.ofChange buttonsIndexesSpec)

/-- ITS FALSE NEIGHBOUR: 'it returns false'. Refute it at one input. -/
def buttonsIndexesWrong : ChangeSpec := { name := "buttonsIndexes", fn := fun _ => fun
  | [d1, d2] => { results := [.lit (.bool false)], args := [d1, d2] }
  | _ => none }
def ButtonsIndexesWrongFalsely : Prop := buttonsIndexesRow.holds Try.pinned (OpenSpec.ofChange buttonsIndexesWrong)

/-- 'galloonlaw02.ButtonsSlacks': WHATEVER THE INPUT: true; the input reads as it did. -/
def buttonsSlacksSpec : ChangeSpec := { name := "buttonsSlacks", fn := fun _ => fun
  | [d] => { results := [.lit (.bool true)], args := [d] }
  | _ => none }
def buttonsSlacksRow : OpenClaim := { program := "ytambhhjbafefgaa", sum := "672eea80c33b75ac644e9bcfb9b964b4723871e236ba54d278f23867850b9c18", func := "galloon/galloonlaw02.ButtonsSlacks", spec := "buttonsSlacks", unfollowed := true, recurses := true, plainKeys := false, apart := false }
def ButtonsSlacksSaid : Prop := buttonsSlacksRow.holds Try.pinned (OpenSpec.ofChange buttonsSlacksSpec)

/-- ITS FALSE NEIGHBOUR: 'it returns false'. Refute it at one input. -/
def buttonsSlacksWrong : ChangeSpec := { name := "buttonsSlacks", fn := fun _ => fun
  | [d] => { results := [.lit (.bool false)], args := [d] }
  | _ => none }
def ButtonsSlacksWrongFalsely : Prop := buttonsSlacksRow.holds Try.pinned (OpenSpec.ofChange buttonsSlacksWrong)

/-- 'galloonlaw02.ButtonsNarrows': WHATEVER THE INPUT: true; the input reads as it did. -/
def buttonsNarrowsSpec : ChangeSpec := { name := "buttonsNarrows", fn := fun _ => fun
  | [d1, d2, d3] => { results := [.lit (.bool true)], args := [d1, d2, d3] }
  | _ => none }
def buttonsNarrowsRow : OpenClaim := { program := "ytambhhjbafefgaa", sum := "672eea80c33b75ac644e9bcfb9b964b4723871e236ba54d278f23867850b9c18", func := "galloon/galloonlaw02.ButtonsNarrows", spec := "buttonsNarrows", unfollowed := true, recurses := true, plainKeys := false, apart := false }
def ButtonsNarrowsSaid : Prop := buttonsNarrowsRow.holds Try.pinned (OpenSpec.ofChange buttonsNarrowsSpec)

/-- ITS FALSE NEIGHBOUR: 'it returns false'. Refute it at one input. -/
def buttonsNarrowsWrong : ChangeSpec := { name := "buttonsNarrows", fn := fun _ => fun
  | [d1, d2, d3] => { results := [.lit (.bool false)], args := [d1, d2, d3] }
  | _ => none }
def ButtonsNarrowsWrongFalsely : Prop := buttonsNarrowsRow.holds Try.pinned (OpenSpec.ofChange buttonsNarrowsWrong)

/-- 'galloonlaw02.ButtonsShifted': WHATEVER THE INPUT: true; the input reads as it did. -/
def buttonsShiftedSpec : ChangeSpec := { name := "buttonsShifted", fn := fun _ => fun
  | [d1, d2, d3] => { results := [.lit (.bool true)], args := [d1, d2, d3] }
  | _ => none }
def buttonsShiftedRow : OpenClaim := { program := "ytambhhjbafefgaa", sum := "672eea80c33b75ac644e9bcfb9b964b4723871e236ba54d278f23867850b9c18", func := "galloon/galloonlaw02.ButtonsShifted", spec := "buttonsShifted", unfollowed := true, recurses := true, plainKeys := false, apart := false }
def ButtonsShiftedSaid : Prop := buttonsShiftedRow.holds Try.pinned (OpenSpec.ofChange buttonsShiftedSpec)

/-- ITS FALSE NEIGHBOUR: 'it returns false'. Refute it at one input. -/
def buttonsShiftedWrong : ChangeSpec := { name := "buttonsShifted", fn := fun _ => fun
  | [d1, d2, d3] => { results := [.lit (.bool false)], args := [d1, d2, d3] }
  | _ => none }
def ButtonsShiftedWrongFalsely : Prop := buttonsShiftedRow.holds Try.pinned (OpenSpec.ofChange buttonsShiftedWrong)

/-- 'galloonlaw02.ButtonsOrdered': WHATEVER THE INPUT: true; the input reads as it did. -/
def buttonsOrderedSpec : ChangeSpec := { name := "buttonsOrdered", fn := fun _ => fun
  | [d1, d2, d3] => { results := [.lit (.bool true)], args := [d1, d2, d3] }
  | _ => none }
def buttonsOrderedRow : OpenClaim := { program := "ytambhhjbafefgaa", sum := "672eea80c33b75ac644e9bcfb9b964b4723871e236ba54d278f23867850b9c18", func := "galloon/galloonlaw02.ButtonsOrdered", spec := "buttonsOrdered", unfollowed := true, recurses := true, plainKeys := false, apart := false }
def ButtonsOrderedSaid : Prop := buttonsOrderedRow.holds Try.pinned (OpenSpec.ofChange buttonsOrderedSpec)

/-- ITS FALSE NEIGHBOUR: 'it returns false'. Refute it at one input. -/
def buttonsOrderedWrong : ChangeSpec := { name := "buttonsOrdered", fn := fun _ => fun
  | [d1, d2, d3] => { results := [.lit (.bool false)], args := [d1, d2, d3] }
  | _ => none }
def ButtonsOrderedWrongFalsely : Prop := buttonsOrderedRow.holds Try.pinned (OpenSpec.ofChange buttonsOrderedWrong)

/-- 'galloonlaw02.ButtonsTurned': WHATEVER THE INPUT: true; the input reads as it did. -/
def buttonsTurnedSpec : ChangeSpec := { name := "buttonsTurned", fn := fun _ => fun
  | [d1, d2, d3] => { results := [.lit (.bool true)], args := [d1, d2, d3] }
  | _ => none }
def buttonsTurnedRow : OpenClaim := { program := "ytambhhjbafefgaa", sum := "672eea80c33b75ac644e9bcfb9b964b4723871e236ba54d278f23867850b9c18", func := "galloon/galloonlaw02.ButtonsTurned", spec := "buttonsTurned", unfollowed := true, recurses := true, plainKeys := false, apart := false }
def ButtonsTurnedSaid : Prop := buttonsTurnedRow.holds Try.pinned (OpenSpec.ofChange buttonsTurnedSpec)

/-- ITS FALSE NEIGHBOUR: 'it returns false'. Refute it at one input. -/
def buttonsTurnedWrong : ChangeSpec := { name := "buttonsTurned", fn := fun _ => fun
  | [d1, d2, d3] => { results := [.lit (.bool false)], args := [d1, d2, d3] }
  | _ => none }
def ButtonsTurnedWrongFalsely : Prop := buttonsTurnedRow.holds Try.pinned (OpenSpec.ofChange buttonsTurnedWrong)

/-- 'galloonlaw02.ButtonsProved': WHATEVER THE INPUT: true; the input reads as it did. -/
def buttonsProvedSpec : ChangeSpec := { name := "buttonsProved", fn := fun _ => fun
  | [d1, d2, d3] => { results := [.lit (.bool true)], args := [d1, d2, d3] }
  | _ => none }
def buttonsProvedRow : OpenClaim := { program := "ytambhhjbafefgaa", sum := "672eea80c33b75ac644e9bcfb9b964b4723871e236ba54d278f23867850b9c18", func := "galloon/galloonlaw02.ButtonsProved", spec := "buttonsProved", unfollowed := true, recurses := true, plainKeys := false, apart := false }
def ButtonsProvedSaid : Prop := buttonsProvedRow.holds Try.pinned (OpenSpec.ofChange buttonsProvedSpec)

/-- ITS FALSE NEIGHBOUR: 'it returns false'. Refute it at one input. -/
def buttonsProvedWrong : ChangeSpec := { name := "buttonsProved", fn := fun _ => fun
  | [d1, d2, d3] => { results := [.lit (.bool false)], args := [d1, d2, d3] }
  | _ => none }
def ButtonsProvedWrongFalsely : Prop := buttonsProvedRow.holds Try.pinned (OpenSpec.ofChange buttonsProvedWrong)

/-- 'galloonlaw02.ButtonsWide': WHATEVER THE INPUT: true; the input reads as it did. -/
def buttonsWideSpec : ChangeSpec := { name := "buttonsWide", fn := fun _ => fun
  | [d1, d2, d3, d4] => { results := [.lit (.bool true)], args := [d1, d2, d3, d4] }
  | _ => none }
def buttonsWideRow : OpenClaim := { program := "ytambhhjbafefgaa", sum := "672eea80c33b75ac644e9bcfb9b964b4723871e236ba54d278f23867850b9c18", func := "galloon/galloonlaw02.ButtonsWide", spec := "buttonsWide", unfollowed := true, recurses := true, plainKeys := false, apart := false }
def ButtonsWideSaid : Prop := buttonsWideRow.holds Try.pinned (OpenSpec.ofChange buttonsWideSpec)

/-- ITS FALSE NEIGHBOUR: 'it returns false'. Refute it at one input. -/
def buttonsWideWrong : ChangeSpec := { name := "buttonsWide", fn := fun _ => fun
  | [d1, d2, d3, d4] => { results := [.lit (.bool false)], args := [d1, d2, d3, d4] }
  | _ => none }
def ButtonsWideWrongFalsely : Prop := buttonsWideRow.holds Try.pinned (OpenSpec.ofChange buttonsWideWrong)

/-- 'galloonlaw02.ButtonsGreedy': WHATEVER THE INPUT: true; the input reads as it did. -/
def buttonsGreedySpec : ChangeSpec := { name := "buttonsGreedy", fn := fun _ => fun
  | [d1, d2, d3] => { results := [.lit (.bool true)], args := [d1, d2, d3] }
  | _ => none }
def buttonsGreedyRow : OpenClaim := { program := "ytambhhjbafefgaa", sum := "672eea80c33b75ac644e9bcfb9b964b4723871e236ba54d278f23867850b9c18", func := "galloon/galloonlaw02.ButtonsGreedy", spec := "buttonsGreedy", unfollowed := true, recurses := true, plainKeys := false, apart := false }
def ButtonsGreedySaid : Prop := buttonsGreedyRow.holds Try.pinned (OpenSpec.ofChange buttonsGreedySpec)

/-- ITS FALSE NEIGHBOUR: 'it returns false'. Refute it at one input. -/
def buttonsGreedyWrong : ChangeSpec := { name := "buttonsGreedy", fn := fun _ => fun
  | [d1, d2, d3] => { results := [.lit (.bool false)], args := [d1, d2, d3] }
  | _ => none }
def ButtonsGreedyWrongFalsely : Prop := buttonsGreedyRow.holds Try.pinned (OpenSpec.ofChange buttonsGreedyWrong)

/-- 'galloonlaw02.ButtonsOwn': WHATEVER THE INPUT: true; the input reads as it did. -/
def buttonsOwnSpec : ChangeSpec := { name := "buttonsOwn", fn := fun _ => fun
  | [d1, d2, d3] => { results := [.lit (.bool true)], args := [d1, d2, d3] }
  | _ => none }
def buttonsOwnRow : OpenClaim := { program := "ytambhhjbafefgaa", sum := "672eea80c33b75ac644e9bcfb9b964b4723871e236ba54d278f23867850b9c18", func := "galloon/galloonlaw02.ButtonsOwn", spec := "buttonsOwn", unfollowed := true, recurses := true, plainKeys := false, apart := false }
def ButtonsOwnSaid : Prop := buttonsOwnRow.holds Try.pinned (OpenSpec.ofChange buttonsOwnSpec)

/-- ITS FALSE NEIGHBOUR: 'it returns false'. Refute it at one input. -/
def buttonsOwnWrong : ChangeSpec := { name := "buttonsOwn", fn := fun _ => fun
  | [d1, d2, d3] => { results := [.lit (.bool false)], args := [d1, d2, d3] }
  | _ => none }
def ButtonsOwnWrongFalsely : Prop := buttonsOwnRow.holds Try.pinned (OpenSpec.ofChange buttonsOwnWrong)

/- THE SECOND FORM. 'bulk': how many values and letters a reading holds, each counted each time it is reached (what is shared counts as often as it is met; a slice's spare places count too). A statement '..UptoSaid' is the law's where the arguments, and the package variables that the reading takes, are together of bulk at most 1048576: NARROWER than '..Said'. Prove '..Said' where nothing that the law and all that it calls make is longer than what came in: it says more and counts as full. Else prove '..UptoSaid'. A law counts once. -/
mutual
def uptoBulk {H : Type} : DataW H → Nat
  | .lit (.string bytes) => bytes.length + 1
  | .lit _ => 1
  | .nil => 1
  | .ptr d => uptoBulk d + 1
  | .slice elems spare => uptoBulkAll elems + uptoBulkAll spare + 1
  | .agg parts => uptoBulkAll parts + 1
  | .iface _ d => uptoBulk d + 1
  | .map entries => uptoBulkEntries entries + 1
  | .held _ => 1
def uptoBulkAll {H : Type} : List (DataW H) → Nat
  | [] => 0
  | d :: r => uptoBulk d + uptoBulkAll r
def uptoBulkEntries {H : Type} : List (Lit × DataW H) → Nat
  | [] => 0
  | x :: r => uptoBulkEntry x + uptoBulkEntries r
def uptoBulkEntry {H : Type} : Lit × DataW H → Nat
  | (.string bytes, d) => bytes.length + uptoBulk d + 1
  | (_, d) => uptoBulk d + 1
 end
def uptoSmall : (H : Type) → List (DataW H) → Bool := fun _ ds => decide (uptoBulkAll ds ≤ 1048576)
def OpenSpec.upto (s : _root_.Go.ChangeSpec) : _root_.Go.OpenSpec := { _root_.Go.OpenSpec.ofChange s with cond := some uptoSmall }

/-- 'galloonlaw02.ButtonsBests', WHERE WHAT IT READS IS OF BULK AT MOST 1048576: true; the input reads as it did. -/
def buttonsBestsUptoRow : OpenClaim := { program := "ytambhhjbafefgaa", sum := "672eea80c33b75ac644e9bcfb9b964b4723871e236ba54d278f23867850b9c18", func := "galloon/galloonlaw02.ButtonsBests", spec := "buttonsBests", unfollowed := true, recurses := true, plainKeys := false, apart := false, narrowed := true }
def ButtonsBestsUptoSaid : Prop := buttonsBestsUptoRow.holds Try.pinned (OpenSpec.upto buttonsBestsSpec)

/-- 'galloonlaw02.ButtonsChecks', WHERE WHAT IT READS IS OF BULK AT MOST 1048576: true; the input reads as it did. -/
def buttonsChecksUptoRow : OpenClaim := { program := "ytambhhjbafefgaa", sum := "672eea80c33b75ac644e9bcfb9b964b4723871e236ba54d278f23867850b9c18", func := "galloon/galloonlaw02.ButtonsChecks", spec := "buttonsChecks", unfollowed := true, recurses := true, plainKeys := false, apart := false, narrowed := true }
def ButtonsChecksUptoSaid : Prop := buttonsChecksUptoRow.holds Try.pinned (OpenSpec.upto buttonsChecksSpec)

/-- 'galloonlaw02.ButtonsItems', WHERE WHAT IT READS IS OF BULK AT MOST 1048576: true; the input reads as it did. -/
def buttonsItemsUptoRow : OpenClaim := { program := "ytambhhjbafefgaa", sum := "672eea80c33b75ac644e9bcfb9b964b4723871e236ba54d278f23867850b9c18", func := "galloon/galloonlaw02.ButtonsItems", spec := "buttonsItems", unfollowed := true, recurses := true, plainKeys := false, apart := false, narrowed := true }
def ButtonsItemsUptoSaid : Prop := buttonsItemsUptoRow.holds Try.pinned (OpenSpec.upto buttonsItemsSpec)

/-- 'galloonlaw02.ButtonsIndexes', WHERE WHAT IT READS IS OF BULK AT MOST 1048576: true; the input reads as it did. -/
def buttonsIndexesUptoRow : OpenClaim := { program := "ytambhhjbafefgaa", sum := "672eea80c33b75ac644e9bcfb9b964b4723871e236ba54d278f23867850b9c18", func := "galloon/galloonlaw02.ButtonsIndexes", spec := "buttonsIndexes", unfollowed := true, recurses := true, plainKeys := false, apart := false, narrowed := true }
def ButtonsIndexesUptoSaid : Prop := buttonsIndexesUptoRow.holds Try.pinned (OpenSpec.upto buttonsIndexesSpec)

/-- 'galloonlaw02.ButtonsSlacks', WHERE WHAT IT READS IS OF BULK AT MOST 1048576: true; the input reads as it did. -/
def buttonsSlacksUptoRow : OpenClaim := { program := "ytambhhjbafefgaa", sum := "672eea80c33b75ac644e9bcfb9b964b4723871e236ba54d278f23867850b9c18", func := "galloon/galloonlaw02.ButtonsSlacks", spec := "buttonsSlacks", unfollowed := true, recurses := true, plainKeys := false, apart := false, narrowed := true }
def ButtonsSlacksUptoSaid : Prop := buttonsSlacksUptoRow.holds Try.pinned (OpenSpec.upto buttonsSlacksSpec)

/-- 'galloonlaw02.ButtonsNarrows', WHERE WHAT IT READS IS OF BULK AT MOST 1048576: true; the input reads as it did. -/
def buttonsNarrowsUptoRow : OpenClaim := { program := "ytambhhjbafefgaa", sum := "672eea80c33b75ac644e9bcfb9b964b4723871e236ba54d278f23867850b9c18", func := "galloon/galloonlaw02.ButtonsNarrows", spec := "buttonsNarrows", unfollowed := true, recurses := true, plainKeys := false, apart := false, narrowed := true }
def ButtonsNarrowsUptoSaid : Prop := buttonsNarrowsUptoRow.holds Try.pinned (OpenSpec.upto buttonsNarrowsSpec)

/-- 'galloonlaw02.ButtonsShifted', WHERE WHAT IT READS IS OF BULK AT MOST 1048576: true; the input reads as it did. -/
def buttonsShiftedUptoRow : OpenClaim := { program := "ytambhhjbafefgaa", sum := "672eea80c33b75ac644e9bcfb9b964b4723871e236ba54d278f23867850b9c18", func := "galloon/galloonlaw02.ButtonsShifted", spec := "buttonsShifted", unfollowed := true, recurses := true, plainKeys := false, apart := false, narrowed := true }
def ButtonsShiftedUptoSaid : Prop := buttonsShiftedUptoRow.holds Try.pinned (OpenSpec.upto buttonsShiftedSpec)

/-- 'galloonlaw02.ButtonsOrdered', WHERE WHAT IT READS IS OF BULK AT MOST 1048576: true; the input reads as it did. -/
def buttonsOrderedUptoRow : OpenClaim := { program := "ytambhhjbafefgaa", sum := "672eea80c33b75ac644e9bcfb9b964b4723871e236ba54d278f23867850b9c18", func := "galloon/galloonlaw02.ButtonsOrdered", spec := "buttonsOrdered", unfollowed := true, recurses := true, plainKeys := false, apart := false, narrowed := true }
def ButtonsOrderedUptoSaid : Prop := buttonsOrderedUptoRow.holds Try.pinned (OpenSpec.upto buttonsOrderedSpec)

/-- 'galloonlaw02.ButtonsTurned', WHERE WHAT IT READS IS OF BULK AT MOST 1048576: true; the input reads as it did. -/
def buttonsTurnedUptoRow : OpenClaim := { program := "ytambhhjbafefgaa", sum := "672eea80c33b75ac644e9bcfb9b964b4723871e236ba54d278f23867850b9c18", func := "galloon/galloonlaw02.ButtonsTurned", spec := "buttonsTurned", unfollowed := true, recurses := true, plainKeys := false, apart := false, narrowed := true }
def ButtonsTurnedUptoSaid : Prop := buttonsTurnedUptoRow.holds Try.pinned (OpenSpec.upto buttonsTurnedSpec)

/-- 'galloonlaw02.ButtonsProved', WHERE WHAT IT READS IS OF BULK AT MOST 1048576: true; the input reads as it did. -/
def buttonsProvedUptoRow : OpenClaim := { program := "ytambhhjbafefgaa", sum := "672eea80c33b75ac644e9bcfb9b964b4723871e236ba54d278f23867850b9c18", func := "galloon/galloonlaw02.ButtonsProved", spec := "buttonsProved", unfollowed := true, recurses := true, plainKeys := false, apart := false, narrowed := true }
def ButtonsProvedUptoSaid : Prop := buttonsProvedUptoRow.holds Try.pinned (OpenSpec.upto buttonsProvedSpec)

/-- 'galloonlaw02.ButtonsWide', WHERE WHAT IT READS IS OF BULK AT MOST 1048576: true; the input reads as it did. -/
def buttonsWideUptoRow : OpenClaim := { program := "ytambhhjbafefgaa", sum := "672eea80c33b75ac644e9bcfb9b964b4723871e236ba54d278f23867850b9c18", func := "galloon/galloonlaw02.ButtonsWide", spec := "buttonsWide", unfollowed := true, recurses := true, plainKeys := false, apart := false, narrowed := true }
def ButtonsWideUptoSaid : Prop := buttonsWideUptoRow.holds Try.pinned (OpenSpec.upto buttonsWideSpec)

/-- 'galloonlaw02.ButtonsGreedy', WHERE WHAT IT READS IS OF BULK AT MOST 1048576: true; the input reads as it did. -/
def buttonsGreedyUptoRow : OpenClaim := { program := "ytambhhjbafefgaa", sum := "672eea80c33b75ac644e9bcfb9b964b4723871e236ba54d278f23867850b9c18", func := "galloon/galloonlaw02.ButtonsGreedy", spec := "buttonsGreedy", unfollowed := true, recurses := true, plainKeys := false, apart := false, narrowed := true }
def ButtonsGreedyUptoSaid : Prop := buttonsGreedyUptoRow.holds Try.pinned (OpenSpec.upto buttonsGreedySpec)

/-- 'galloonlaw02.ButtonsOwn', WHERE WHAT IT READS IS OF BULK AT MOST 1048576: true; the input reads as it did. -/
def buttonsOwnUptoRow : OpenClaim := { program := "ytambhhjbafefgaa", sum := "672eea80c33b75ac644e9bcfb9b964b4723871e236ba54d278f23867850b9c18", func := "galloon/galloonlaw02.ButtonsOwn", spec := "buttonsOwn", unfollowed := true, recurses := true, plainKeys := false, apart := false, narrowed := true }
def ButtonsOwnUptoSaid : Prop := buttonsOwnUptoRow.holds Try.pinned (OpenSpec.upto buttonsOwnSpec)

end Rows
end Go.Proofs.Ytambhhjbafefgaa
