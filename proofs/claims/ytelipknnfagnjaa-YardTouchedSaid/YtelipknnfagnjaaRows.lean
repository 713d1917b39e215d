/-
  No cell of these rows narrows 'for every input' (looked for: loops, veiled, ifaces, maps, wideKeys, modest, calm, conditions, laid).
  DERIVED. THE GIVEN ROWS OF THIS SEAT. 11 by the template 'for every input the law returns true; each argument reads behind the call as it read before'; 0 by the template 'total and deterministic' (their statements: YtelipknnfagnjaaTotals.lean).
  GIVEN WITH THE SEED: the statements are not yours to turn. If you find one false, say at which input.
  Laid BY PROGRAM, IN A SANDBOX (cutbox-rows.mjs): the forced cells as the released guide's own fill.sh prints them over the translation 3f01635b5f07d81d… (all of the seat's roots in one cut). By AI agents, Wed Nov 11 2026. No macro, syntax, notation, axiom, sorry.
-/
import Derived.Test.YtelipknnfagnjaaChecked
import GoSem.Claim
import GoSem.ClaimJoined
import GoSem.ClaimMapViews
import Derived.JoinedTies
import Derived.KernelRfl
namespace Go.Proofs.Ytelipknnfagnjaa
/- THE CELL 'sum', in the pinned program and in every row, IS THE sha256 OF THE DUMP (.gsa) THAT YtelipknnfagnjaaProg.lean LOADS. Nothing in Lean hashes anything: it is a label: what it is worth is what the hold of that sum in a sandbox is worth. -/
noncomputable def Try.pinned : Pinned := { name := "ytelipknnfagnjaa", sum := "3f01635b5f07d81d902468fe3fcfbadbabfc9e96c56c2c4745c65f260db57522", checked := Try.checked }
namespace Rows
def none {H : Type} : Left H := { results := [], args := [] }

/-- 'galloonlaw03.YardRows': WHATEVER THE INPUT: true; the input reads as it did. -/
def yardRowsSpec : ChangeSpec := { name := "yardRows", fn := fun _ => fun
  | [d1, d2] => { results := [.lit (.bool true)], args := [d1, d2] }
  | _ => none }
def yardRowsRow : OpenClaim := { program := "ytelipknnfagnjaa", sum := "3f01635b5f07d81d902468fe3fcfbadbabfc9e96c56c2c4745c65f260db57522", func := "galloon/galloonlaw03.YardRows", spec := "yardRows", unfollowed := true, recurses := true, plainKeys := false, apart := false }
def YardRowsSaid : Prop := yardRowsRow.holds Try.pinned (OpenSpec.ofChange yardRowsSpec)

/-- ITS FALSE NEIGHBOUR: 'it returns false'. Refute it at one input. -/
def yardRowsWrong : ChangeSpec := { name := "yardRows", fn := fun _ => fun
  | [d1, d2] => { results := [.lit (.bool false)], args := [d1, d2] }
  | _ => none }
def YardRowsWrongFalsely : Prop := yardRowsRow.holds Try.pinned (OpenSpec.ofChange yardRowsWrong)

/-- 'galloonlaw03.YardBelows': WHATEVER THE INPUT: true; the input reads as it did. -/
def yardBelowsSpec : ChangeSpec := { name := "yardBelows", fn := fun _ => fun
  | [d1, d2] => { results := [.lit (.bool true)], args := [d1, d2] }
  | _ => none }
def yardBelowsRow : OpenClaim := { program := "ytelipknnfagnjaa", sum := "3f01635b5f07d81d902468fe3fcfbadbabfc9e96c56c2c4745c65f260db57522", func := "galloon/galloonlaw03.YardBelows", spec := "yardBelows", unfollowed := true, recurses := true, plainKeys := false, apart := false }
def YardBelowsSaid : Prop := yardBelowsRow.holds Try.pinned (OpenSpec.ofChange yardBelowsSpec)

/-- ITS FALSE NEIGHBOUR: 'it returns false'. Refute it at one input. -/
def yardBelowsWrong : ChangeSpec := { name := "yardBelows", fn := fun _ => fun
  | [d1, d2] => { results := [.lit (.bool false)], args := [d1, d2] }
  | _ => none }
def YardBelowsWrongFalsely : Prop := yardBelowsRow.holds Try.pinned (OpenSpec.ofChange yardBelowsWrong)

/-- 'galloonlaw03.YardBetweens': WHATEVER THE INPUT: true; the input reads as it did. -/
def yardBetweensSpec : ChangeSpec := { name := "yardBetweens", fn := fun _ => fun
  | [d1, d2] => { results := [.lit (.bool true)], args := [d1, d2] }
  | _ => none }
def yardBetweensRow : OpenClaim := { program := "ytelipknnfagnjaa", sum := "3f01635b5f07d81d902468fe3fcfbadbabfc9e96c56c2c4745c65f260db57522", func := "galloon/galloonlaw03.YardBetweens", spec := "yardBetweens", unfollowed := true, recurses := true, plainKeys := false, apart := false }
def YardBetweensSaid : Prop := yardBetweensRow.holds Try.pinned (OpenSpec.ofChange yardBetweensSpec)

/-- ITS FALSE NEIGHBOUR: 'it returns false'. Refute it at one input. -/
def yardBetweensWrong : ChangeSpec := { name := "yardBetweens", fn := fun _ => fun
  | [d1, d2] => { results := [.lit (.bool false)], args := [d1, d2] }
  | _ => none }
def YardBetweensWrongFalsely : Prop := yardBetweensRow.holds Try.pinned (OpenSpec.ofChange yardBetweensWrong)

/-- 'galloonlaw03.YardPaths': WHATEVER THE INPUT: true; the input reads as it did. -/
def yardPathsSpec : ChangeSpec := { name := "yardPaths", fn := fun _ => fun
  | [d] => { results := [.lit (.bool true)], args := [d] }
  | _ => none }
def yardPathsRow : OpenClaim := { program := "ytelipknnfagnjaa", sum := "3f01635b5f07d81d902468fe3fcfbadbabfc9e96c56c2c4745c65f260db57522", func := "galloon/galloonlaw03.YardPaths", spec := "yardPaths", unfollowed := true, recurses := true, plainKeys := false, apart := false }
def YardPathsSaid : Prop := yardPathsRow.holds Try.pinned (OpenSpec.ofChange yardPathsSpec)

/-- ITS FALSE NEIGHBOUR: 'it returns false'. Refute it at one input. -/
def yardPathsWrong : ChangeSpec := { name := "yardPaths", fn := fun _ => fun
  | [d] => { results := [.lit (.bool false)], args := [d] }
  | _ => none }
def YardPathsWrongFalsely : Prop := yardPathsRow.holds Try.pinned (OpenSpec.ofChange yardPathsWrong)

/-- 'galloonlaw03.YardFolds': WHATEVER THE INPUT: true; the input reads as it did. -/
def yardFoldsSpec : ChangeSpec := { name := "yardFolds", fn := fun _ => fun
  | [d] => { results := [.lit (.bool true)], args := [d] }
  | _ => none }
def yardFoldsRow : OpenClaim := { program := "ytelipknnfagnjaa", sum := "3f01635b5f07d81d902468fe3fcfbadbabfc9e96c56c2c4745c65f260db57522", func := "galloon/galloonlaw03.YardFolds", spec := "yardFolds", unfollowed := true, recurses := true, plainKeys := false, apart := false }
def YardFoldsSaid : Prop := yardFoldsRow.holds Try.pinned (OpenSpec.ofChange yardFoldsSpec)

/-- ITS FALSE NEIGHBOUR: 'it returns false'. Refute it at one input. -/
def yardFoldsWrong : ChangeSpec := { name := "yardFolds", fn := fun _ => fun
  | [d] => { results := [.lit (.bool false)], args := [d] }
  | _ => none }
def YardFoldsWrongFalsely : Prop := yardFoldsRow.holds Try.pinned (OpenSpec.ofChange yardFoldsWrong)

/-- 'galloonlaw03.YardAdjacent': WHATEVER THE INPUT: true; the input reads as it did. -/
def yardAdjacentSpec : ChangeSpec := { name := "yardAdjacent", fn := fun _ => fun
  | [d1, d2] => { results := [.lit (.bool true)], args := [d1, d2] }
  | _ => none }
def yardAdjacentRow : OpenClaim := { program := "ytelipknnfagnjaa", sum := "3f01635b5f07d81d902468fe3fcfbadbabfc9e96c56c2c4745c65f260db57522", func := "galloon/galloonlaw03.YardAdjacent", spec := "yardAdjacent", unfollowed := true, recurses := true, plainKeys := false, apart := false }
def YardAdjacentSaid : Prop := yardAdjacentRow.holds Try.pinned (OpenSpec.ofChange yardAdjacentSpec)

/-- ITS FALSE NEIGHBOUR: 'it returns false'. Refute it at one input. -/
def yardAdjacentWrong : ChangeSpec := { name := "yardAdjacent", fn := fun _ => fun
  | [d1, d2] => { results := [.lit (.bool false)], args := [d1, d2] }
  | _ => none }
def YardAdjacentWrongFalsely : Prop := yardAdjacentRow.holds Try.pinned (OpenSpec.ofChange yardAdjacentWrong)

/-- 'galloonlaw03.YardSizes': WHATEVER THE INPUT: true; the input reads as it did. -/
def yardSizesSpec : ChangeSpec := { name := "yardSizes", fn := fun _ => fun
  | [d1, d2] => { results := [.lit (.bool true)], args := [d1, d2] }
  | _ => none }
def yardSizesRow : OpenClaim := { program := "ytelipknnfagnjaa", sum := "3f01635b5f07d81d902468fe3fcfbadbabfc9e96c56c2c4745c65f260db57522", func := "galloon/galloonlaw03.YardSizes", spec := "yardSizes", unfollowed := true, recurses := true, plainKeys := false, apart := false }
def YardSizesSaid : Prop := yardSizesRow.holds Try.pinned (OpenSpec.ofChange yardSizesSpec)

/-- ITS FALSE NEIGHBOUR: 'it returns false'. Refute it at one input. -/
def yardSizesWrong : ChangeSpec := { name := "yardSizes", fn := fun _ => fun
  | [d1, d2] => { results := [.lit (.bool false)], args := [d1, d2] }
  | _ => none }
def YardSizesWrongFalsely : Prop := yardSizesRow.holds Try.pinned (OpenSpec.ofChange yardSizesWrong)

/-- 'galloonlaw03.YardSaws': WHATEVER THE INPUT: true; the input reads as it did. -/
def yardSawsSpec : ChangeSpec := { name := "yardSaws", fn := fun _ => fun
  | [d] => { results := [.lit (.bool true)], args := [d] }
  | _ => none }
def yardSawsRow : OpenClaim := { program := "ytelipknnfagnjaa", sum := "3f01635b5f07d81d902468fe3fcfbadbabfc9e96c56c2c4745c65f260db57522", func := "galloon/galloonlaw03.YardSaws", spec := "yardSaws", unfollowed := true, recurses := true, plainKeys := false, apart := false }
def YardSawsSaid : Prop := yardSawsRow.holds Try.pinned (OpenSpec.ofChange yardSawsSpec)

/-- ITS FALSE NEIGHBOUR: 'it returns false'. Refute it at one input. -/
def yardSawsWrong : ChangeSpec := { name := "yardSaws", fn := fun _ => fun
  | [d] => { results := [.lit (.bool false)], args := [d] }
  | _ => none }
def YardSawsWrongFalsely : Prop := yardSawsRow.holds Try.pinned (OpenSpec.ofChange yardSawsWrong)

/-- 'galloonlaw03.YardSimple': WHATEVER THE INPUT: true; the input reads as it did. -/
def yardSimpleSpec : ChangeSpec := { name := "yardSimple", fn := fun _ => fun
  | [d1, d2, d3] => { results := [.lit (.bool true)], args := [d1, d2, d3] }
  | _ => none }
def yardSimpleRow : OpenClaim := { program := "ytelipknnfagnjaa", sum := "3f01635b5f07d81d902468fe3fcfbadbabfc9e96c56c2c4745c65f260db57522", func := "galloon/galloonlaw03.YardSimple", spec := "yardSimple", unfollowed := true, recurses := true, plainKeys := false, apart := false }
def YardSimpleSaid : Prop := yardSimpleRow.holds Try.pinned (OpenSpec.ofChange yardSimpleSpec)

/-- ITS FALSE NEIGHBOUR: 'it returns false'. Refute it at one input. -/
def yardSimpleWrong : ChangeSpec := { name := "yardSimple", fn := fun _ => fun
  | [d1, d2, d3] => { results := [.lit (.bool false)], args := [d1, d2, d3] }
  | _ => none }
def YardSimpleWrongFalsely : Prop := yardSimpleRow.holds Try.pinned (OpenSpec.ofChange yardSimpleWrong)

/-- 'galloonlaw03.YardClose': WHATEVER THE INPUT: true; the input reads as it did. -/
def yardCloseSpec : ChangeSpec := { name := "yardClose", fn := fun _ => fun
  | [d1, d2, d3] => { results := [.lit (.bool true)], args := [d1, d2, d3] }
  | _ => none }
def yardCloseRow : OpenClaim := { program := "ytelipknnfagnjaa", sum := "3f01635b5f07d81d902468fe3fcfbadbabfc9e96c56c2c4745c65f260db57522", func := "galloon/galloonlaw03.YardClose", spec := "yardClose", unfollowed := true, recurses := true, plainKeys := false, apart := false }
def YardCloseSaid : Prop := yardCloseRow.holds Try.pinned (OpenSpec.ofChange yardCloseSpec)

/-- ITS FALSE NEIGHBOUR: 'it returns false'. Refute it at one input. -/
def yardCloseWrong : ChangeSpec := { name := "yardClose", fn := fun _ => fun
  | [d1, d2, d3] => { results := [.lit (.bool false)], args := [d1, d2, d3] }
  | _ => none }
def YardCloseWrongFalsely : Prop := yardCloseRow.holds Try.pinned (OpenSpec.ofChange yardCloseWrong)

/-- 'galloonlaw03.YardTouched': WHATEVER THE INPUT: true; the input reads as it did. -/
def yardTouchedSpec : ChangeSpec := { name := "yardTouched", fn := fun _ => fun
  | [d1, d2, d3] => { results := [.lit (.bool true)], args := [d1, d2, d3] }
  | _ => none }
def yardTouchedRow : OpenClaim := { program := "ytelipknnfagnjaa", sum := "3f01635b5f07d81d902468fe3fcfbadbabfc9e96c56c2c4745c65f260db57522", func := "galloon/galloonlaw03.YardTouched", spec := "yardTouched", unfollowed := true, recurses := true, plainKeys := false, apart := false }
def YardTouchedSaid : Prop := yardTouchedRow.holds Try.pinned (OpenSpec.ofChange yardTouchedSpec)

/-- ITS FALSE NEIGHBOUR: 'it returns false'. Refute it at one input. -/
def yardTouchedWrong : ChangeSpec := { name := "yardTouched", fn := fun _ => fun
  | [d1, d2, d3] => { results := [.lit (.bool false)], args := [d1, d2, d3] }
  | _ => none }
def YardTouchedWrongFalsely : Prop := yardTouchedRow.holds Try.pinned (OpenSpec.ofChange yardTouchedWrong)

/- THE SECOND FORM. 'bulk': how many values and letters a reading holds, each counted each time it is reached (what is shared counts as often as it is met; a slice's spare places count too). A statement '..UptoSaid' is the law's where the arguments, and the package variables that the reading takes, are together of bulk at most 1048576: NARROWER than '..Said'. Prove '..Said' where nothing that the law and all that it calls make is longer than what came in: it says more and counts as full. Else prove '..UptoSaid'. A law counts once. -/
mutual
def uptoBulk {H : Type} : DataW H → Nat
  | .lit (.string bytes) => bytes.length + 1
  | .lit _ => 1
  | .nil => 1
  | .ptr d => uptoBulk d + 1
  | .slice elems spare => uptoBulkAll elems + uptoBulkAll spare + 1
  | .agg parts => uptoBulkAll parts + 1
  | .iface _ d => uptoBulk d + 1
  | .map entries => uptoBulkEntries entries + 1
  | .held _ => 1
def uptoBulkAll {H : Type} : List (DataW H) → Nat
  | [] => 0
  | d :: r => uptoBulk d + uptoBulkAll r
def uptoBulkEntries {H : Type} : List (Lit × DataW H) → Nat
  | [] => 0
  | x :: r => uptoBulkEntry x + uptoBulkEntries r
def uptoBulkEntry {H : Type} : Lit × DataW H → Nat
  | (.string bytes, d) => bytes.length + uptoBulk d + 1
  | (_, d) => uptoBulk d + 1
 end
def uptoSmall : (H : Type) → List (DataW H) → Bool := fun _ ds => decide (uptoBulkAll ds ≤ 1048576)
def OpenSpec.upto (s : _root_.Go.ChangeSpec) : _root_.Go.OpenSpec := { _root_.Go.OpenSpec.ofChange s with cond := some uptoSmall }

/-- 'galloonlaw03.YardRows', WHERE WHAT IT READS IS OF BULK AT MOST 1048576: true; the input reads as it did. -/
def yardRowsUptoRow : OpenClaim := { program := "ytelipknnfagnjaa", sum := "3f01635b5f07d81d902468fe3fcfbadbabfc9e96c56c2c4745c65f260db57522", func := "galloon/galloonlaw03.YardRows", spec := "yardRows", unfollowed := true, recurses := true, plainKeys := false, apart := false, narrowed := true }
def YardRowsUptoSaid : Prop := yardRowsUptoRow.holds Try.pinned (OpenSpec.upto yardRowsSpec)

/-- 'galloonlaw03.YardBelows', WHERE WHAT IT READS IS OF BULK AT MOST 1048576: true; the input reads as it did. -/
def yardBelowsUptoRow : OpenClaim := { program := "ytelipknnfagnjaa", sum := "3f01635b5f07d81d902468fe3fcfbadbabfc9e96c56c2c4745c65f260db57522", func := "galloon/galloonlaw03.YardBelows", spec := "yardBelows", unfollowed := true, recurses := true, plainKeys := false, apart := false, narrowed := true }
def YardBelowsUptoSaid : Prop := yardBelowsUptoRow.holds Try.pinned (OpenSpec.upto yardBelowsSpec)

/-- 'galloonlaw03.YardBetweens', WHERE WHAT IT READS IS OF BULK AT MOST 1048576: true; the input reads as it did. -/
def yardBetweensUptoRow : OpenClaim := { program := "ytelipknnfagnjaa", sum := "3f01635b5f07d81d902468fe3fcfbadbabfc9e96c56c2c4745c65f260db57522", func := "galloon/galloonlaw03.YardBetweens", spec := "yardBetweens", unfollowed := true, recurses := true, plainKeys := false, apart := false, narrowed := true }
def YardBetweensUptoSaid : Prop := yardBetweensUptoRow.holds Try.pinned (OpenSpec.upto yardBetweensSpec)

/-- 'galloonlaw03.YardPaths', WHERE WHAT IT READS IS OF BULK AT MOST 1048576: true; the input reads as it did. -/
def yardPathsUptoRow : OpenClaim := { program := "ytelipknnfagnjaa", sum := "3f01635b5f07d81d902468fe3fcfbadbabfc9e96c56c2c4745c65f260db57522", func := "galloon/galloonlaw03.YardPaths", spec := "yardPaths", unfollowed := true, recurses := true, plainKeys := false, apart := false, narrowed := true }
def YardPathsUptoSaid : Prop := yardPathsUptoRow.holds Try.pinned (OpenSpec.upto yardPathsSpec)

/-- 'galloonlaw03.YardFolds', WHERE WHAT IT READS IS OF BULK AT MOST 1048576: true; the input reads as it did. -/
def yardFoldsUptoRow : OpenClaim := { program := "ytelipknnfagnjaa", sum := "3f01635b5f07d81d902468fe3fcfbadbabfc9e96c56c2c4745c65f260db57522", func := "galloon/galloonlaw03.YardFolds", spec := "yardFolds", unfollowed := true, recurses := true, plainKeys := false, apart := false, narrowed := true }
def YardFoldsUptoSaid : Prop := yardFoldsUptoRow.holds Try.pinned (OpenSpec.upto yardFoldsSpec)

/-- 'galloonlaw03.YardAdjacent', WHERE WHAT IT READS IS OF BULK AT MOST 1048576: true; the input reads as it did. -/
def yardAdjacentUptoRow : OpenClaim := { program := "ytelipknnfagnjaa", sum := "3f01635b5f07d81d902468fe3fcfbadbabfc9e96c56c2c4745c65f260db57522", func := "galloon/galloonlaw03.YardAdjacent", spec := "yardAdjacent", unfollowed := true, recurses := true, plainKeys := false, apart := false, narrowed := true }
def YardAdjacentUptoSaid : Prop := yardAdjacentUptoRow.holds Try.pinned (OpenSpec.upto yardAdjacentSpec)

/-- 'galloonlaw03.YardSizes', WHERE WHAT IT READS IS OF BULK AT MOST 1048576: true; the input reads as it did. -/
def yardSizesUptoRow : OpenClaim := { program := "ytelipknnfagnjaa", sum := "3f01635b5f07d81d902468fe3fcfbadbabfc9e96c56c2c4745c65f260db57522", func := "galloon/galloonlaw03.YardSizes", spec := "yardSizes", unfollowed := true, recurses := true, plainKeys := false, apart := false, narrowed := true }
def YardSizesUptoSaid : Prop := yardSizesUptoRow.holds Try.pinned (OpenSpec.upto yardSizesSpec)

/-- 'galloonlaw03.YardSaws', WHERE WHAT IT READS IS OF BULK AT MOST 1048576: true; the input reads as it did. -/
def yardSawsUptoRow : OpenClaim := { program := "ytelipknnfagnjaa", sum := "3f01635b5f07d81d902468fe3fcfbadbabfc9e96c56c2c4745c65f260db57522", func := "galloon/galloonlaw03.YardSaws", spec := "yardSaws", unfollowed := true, recurses := true, plainKeys := false, apart := false, narrowed := true }
def YardSawsUptoSaid : Prop := yardSawsUptoRow.holds Try.pinned (OpenSpec.upto yardSawsSpec)

/-- 'galloonlaw03.YardSimple', WHERE WHAT IT READS IS OF BULK AT MOST 1048576: true; the input reads as it did. -/
def yardSimpleUptoRow : OpenClaim := { program := "ytelipknnfagnjaa", sum := "3f01635b5f07d81d902468fe3fcfbadbabfc9e96c56c2c4745c65f260db57522", func := "galloon/galloonlaw03.YardSimple", spec := "yardSimple", unfollowed := true, recurses := true, plainKeys := false, apart := false, narrowed := true }
def YardSimpleUptoSaid : Prop := yardSimpleUptoRow.holds Try.pinned (OpenSpec.upto yardSimpleSpec)

/-- 'galloonlaw03.YardClose', WHERE WHAT IT READS IS OF BULK AT MOST 1048576: true; the input reads as it did. -/
def yardCloseUptoRow : OpenClaim := { program := "ytelipknnfagnjaa", sum := "3f01635b5f07d81d902468fe3fcfbadbabfc9e96c56c2c4745c65f260db57522", func := "galloon/galloonlaw03.YardClose", spec := "yardClose", unfollowed := true, recurses := true, plainKeys := false, apart := false, narrowed := true }
def YardCloseUptoSaid : Prop := yardCloseUptoRow.holds Try.pinned (OpenSpec.upto yardCloseSpec)

/-- 'galloonlaw03.YardTouched', WHERE WHAT IT READS IS OF BULK AT MOST 1048576: true; the input reads as it did. -/
def yardTouchedUptoRow : OpenClaim := { program := "ytelipknnfagnjaa", sum := "3f01635b5f07d81d902468fe3fcfbadbabfc9e96c56c2c4745c65f260db57522", func := "galloon/galloonlaw03.YardTouched", spec := "yardTouched", unfollowed := true, recurses := true, plainKeys := false, apart := false, narrowed := true }
def YardTouchedUptoSaid : Prop := yardTouchedUptoRow.holds Try.pinned (OpenSpec.upto yardTouchedSpec)

end Rows
end Go.Proofs.Ytelipknnfagnjaa
