/- Neighbors of the program and of the reference. -/
import Derived.Test.YtfelmjanffhahaaDoorWrp
namespace Go.Proofs.YtfelmjanffhahaaDoor
set_option linter.unusedVariables false
open Go.RowKit Go.Shelf

def nbrB (a b c d : Nat) : Bool := decide (c * b = a * d + 1)

/-- the boxes of two arguments -/
structure Argp (w X : World) (a b c d : Int) : Prop where
  x : Two X w.heap.size 23 a b
  y : Two X (w.heap.size + 1) 23 c d
  b : Below w.heap.size w X
theorem Argp.below {w X Y : World} {a b c d : Int} (h : Argp w X a b c d) (hb : Below X.heap.size X Y) : Argp w Y a b c d := ⟨h.x.below hb, h.y.below hb, b_next h.b hb⟩
theorem Argp.new (w : World) (a b c d : Int) : Argp w ((w.alloc (.cells #[.int .i64 a, .int .i64 b] 23)).alloc (.cells #[.int .i64 c, .int .i64 d] 23)) a b c d := by
  have h1 := (Two.new w 23 a b).alloc (.cells #[.int .i64 c, .int .i64 d] 23)
  have h2 := Two.new (w.alloc (.cells #[.int .i64 a, .int .i64 b] 23)) 23 c d
  simp only [World.size_alloc] at h2
  exact ⟨h1, h2, b_next (below_alloc w _) (below_alloc _ _)⟩

end Go.Proofs.YtfelmjanffhahaaDoor
