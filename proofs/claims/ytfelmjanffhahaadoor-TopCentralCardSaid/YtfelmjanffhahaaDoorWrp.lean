/- Small numbers are not wrapped. -/
import Derived.Test.YtfelmjanffhahaaDoorPlain
import Derived.Laws.Rows
namespace Go.Proofs.YtfelmjanffhahaaDoor
set_option linter.unusedVariables false
open Go.RowKit Go.Shelf
theorem wI {x : Int} (h : -1000000000000000 ≤ x ∧ x ≤ 1000000000000000) : wrap64 x = x := IntWalk.wrap64_in _ (by omega)
theorem iI {x : Int} (h : -1000000000000000 ≤ x ∧ x ≤ 1000000000000000) : IntKind.i64.wrap x = x := IntWalk.i64_in _ (by omega)
theorem wN {n : Nat} (h : n ≤ 1000000000000000) : wrap64 (n : Int) = n := wI (by omega)
theorem iN {n : Nat} (h : n ≤ 1000000000000000) : IntKind.i64.wrap (n : Int) = n := iI (by omega)
theorem wmul {a b c : Nat} (h : a * b = c) (hc : c ≤ 1000000000000000) : wrap64 ((a : Int) * b) = c := by rw [← Int.natCast_mul, h]; exact wN hc
theorem imul {a b c : Nat} (h : a * b = c) (hc : c ≤ 1000000000000000) : IntKind.i64.wrap ((a : Int) * b) = c := by rw [← Int.natCast_mul, h]; exact iN hc
theorem wsub {a b c : Nat} (h : a = b + c) (hc : c ≤ 1000000000000000) : wrap64 ((a : Int) - b) = c := by rw [show (a : Int) - b = c from by omega]; exact wN hc
theorem isub {a b c : Nat} (h : a = b + c) (hc : c ≤ 1000000000000000) : IntKind.i64.wrap ((a : Int) - b) = c := by rw [show (a : Int) - b = c from by omega]; exact iN hc
theorem wadd {a b c : Nat} (h : a + b = c) (hc : c ≤ 1000000000000000) : wrap64 ((a : Int) + b) = c := by rw [show (a : Int) + b = c from by omega]; exact wN hc
theorem iadd {a b c : Nat} (h : a + b = c) (hc : c ≤ 1000000000000000) : IntKind.i64.wrap ((a : Int) + b) = c := by rw [show (a : Int) + b = c from by omega]; exact iN hc
theorem tdivN {a b c : Nat} (h : a / b = c) : Int.tdiv (a : Int) b = c := by rw [← h]; rfl
theorem tmodN {a b c : Nat} (h : a % b = c) : Int.tmod (a : Int) b = c := by rw [← h]; exact tmod_nat _ _

/-- a box of two numbers of whatever type -/
def Two (X : World) (B : Nat) (t : TypeId) (x y : Int) : Prop := X.heap[B]? = some (.cells #[.int .i64 x, .int .i64 y] t (0, 0))
theorem Two.cells {X : World} {B : Nat} {t : TypeId} {x y : Int} (h : Two X B t x y) : X.cell? ⟨B, 0, none⟩ = some (.int .i64 x) ∧ X.cell? ⟨B, 1, none⟩ = some (.int .i64 y) ∧ X.frozen? ⟨B, 0, none⟩ = false ∧ X.frozen? ⟨B, 1, none⟩ = false := by
  refine ⟨?_, ?_, ?_, ?_⟩ <;> simp [World.cell?, World.frozen?, show X.heap[B]? = _ from h]
theorem Two.lt {X : World} {B : Nat} {t : TypeId} {x y : Int} (h : Two X B t x y) : B < X.heap.size := (Array.getElem?_eq_some_iff.1 h).1
theorem Two.new (W : World) (t : TypeId) (x y : Int) : Two (W.alloc (.cells #[.int .i64 x, .int .i64 y] t)) W.heap.size t x y := heap_alloc_new W _
theorem Two.below {X Y : World} {B : Nat} {t : TypeId} {x y : Int} (h : Two X B t x y) (hb : Below X.heap.size X Y) : Two Y B t x y := Eq.trans (hb.block B h.lt) h
theorem Two.alloc {X : World} {B : Nat} {t : TypeId} {x y : Int} (h : Two X B t x y) (o : Obj) : Two (X.alloc o) B t x y := h.below (below_alloc X o)
theorem Two.drewN {X : World} {B : Nat} {t : TypeId} {x y : Int} (h : Two X B t x y) (n : Nat) : Two (X.drewN n) B t x y := h
theorem Two.far {X : World} {B B' o : Nat} {t : TypeId} {x y : Int} {v : Value} (h : Two X B t x y) (hne : B ≠ B') : Two (X.setCell ⟨B', o, none⟩ v) B t x y := Eq.trans (Below.heap_setCell _ _ _ _ hne) h
theorem Two.set0 {X : World} {B : Nat} {t : TypeId} {x y : Int} (h : Two X B t x y) (z : Int) : Two (X.setCell ⟨B, 0, none⟩ (.int .i64 z)) B t z y := by
  obtain ⟨hlt, hk⟩ := Array.getElem?_eq_some_iff.1 h
  show (X.heap.modify B _)[B]? = _
  rw [Array.getElem?_eq_getElem (by rw [Array.size_modify]; exact hlt), Array.getElem_modify_self, hk]
  rfl
theorem Two.set1 {X : World} {B : Nat} {t : TypeId} {x y : Int} (h : Two X B t x y) (z : Int) : Two (X.setCell ⟨B, 1, none⟩ (.int .i64 z)) B t x z := by
  obtain ⟨hlt, hk⟩ := Array.getElem?_eq_some_iff.1 h
  show (X.heap.modify B _)[B]? = _
  rw [Array.getElem?_eq_getElem (by rw [Array.size_modify]; exact hlt), Array.getElem_modify_self, hk]
  rfl

/-- the box of an argument lies as it lay -/
theorem arg_below {w w1 : World} {p k : Int} (b : Below (w.alloc (.cells #[.int .i64 p, .int .i64 k] 23)).heap.size (w.alloc (.cells #[.int .i64 p, .int .i64 k] 23)) w1) :
    w1.cell? ⟨w.heap.size, 0, none⟩ = some (.int .i64 p) ∧ w1.cell? ⟨w.heap.size, 1, none⟩ = some (.int .i64 k) := by
  refine ⟨(b.cell (p := ⟨w.heap.size, 0, none⟩) (by simp)).trans ?_, (b.cell (p := ⟨w.heap.size, 1, none⟩) (by simp)).trans ?_⟩ <;> go_cell
end Go.Proofs.YtfelmjanffhahaaDoor
