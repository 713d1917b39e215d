/- Boxes of four numbers; rows of bytes. -/
import Derived.Test.YtfelmjanffhahaaDoorWrp
import Derived.Lib.SmallJoins
namespace Go.Proofs.YtfelmjanffhahaaDoor
set_option linter.unusedVariables false
open Go.RowKit Go.Shelf

/-- a box of four numbers of whatever type -/
def Quad (X : World) (B : Nat) (t : TypeId) (a b c d : Int) : Prop := X.heap[B]? = some (.cells #[.int .i64 a, .int .i64 b, .int .i64 c, .int .i64 d] t (0, 0))
theorem Quad.cells {X : World} {B : Nat} {t : TypeId} {a b c d : Int} (h : Quad X B t a b c d) : (X.cell? ⟨B, 0, none⟩ = some (.int .i64 a) ∧ X.cell? ⟨B, 1, none⟩ = some (.int .i64 b) ∧ X.cell? ⟨B, 2, none⟩ = some (.int .i64 c) ∧ X.cell? ⟨B, 3, none⟩ = some (.int .i64 d)) ∧
    X.frozen? ⟨B, 0, none⟩ = false ∧ X.frozen? ⟨B, 1, none⟩ = false ∧ X.frozen? ⟨B, 2, none⟩ = false ∧ X.frozen? ⟨B, 3, none⟩ = false := by
  refine ⟨⟨?_, ?_, ?_, ?_⟩, ?_, ?_, ?_, ?_⟩ <;> simp [World.cell?, World.frozen?, show X.heap[B]? = _ from h]
theorem Quad.lt {X : World} {B : Nat} {t : TypeId} {a b c d : Int} (h : Quad X B t a b c d) : B < X.heap.size := (Array.getElem?_eq_some_iff.1 h).1
theorem Quad.new (W : World) (t : TypeId) (a b c d : Int) : Quad (W.alloc (.cells #[.int .i64 a, .int .i64 b, .int .i64 c, .int .i64 d] t)) W.heap.size t a b c d := heap_alloc_new W _
theorem Quad.below {X Y : World} {B : Nat} {t : TypeId} {a b c d : Int} (h : Quad X B t a b c d) (hb : Below X.heap.size X Y) : Quad Y B t a b c d := Eq.trans (hb.block B h.lt) h
theorem Quad.alloc {X : World} {B : Nat} {t : TypeId} {a b c d : Int} (h : Quad X B t a b c d) (o : Obj) : Quad (X.alloc o) B t a b c d := h.below (below_alloc X o)
theorem Quad.drewN {X : World} {B : Nat} {t : TypeId} {a b c d : Int} (h : Quad X B t a b c d) (n : Nat) : Quad (X.drewN n) B t a b c d := h
theorem Quad.far {X : World} {B B' o : Nat} {t : TypeId} {a b c d : Int} {v : Value} (h : Quad X B t a b c d) (hne : B ≠ B') : Quad (X.setCell ⟨B', o, none⟩ v) B t a b c d := Eq.trans (Below.heap_setCell _ _ _ _ hne) h
theorem Quad.kept {X Y : World} {B : Nat} {t : TypeId} {a b c d : Int} {row : Option Nat} (h : Quad X B t a b c d) (hg : X.grownBy Y row) (hne : some B ≠ row) : Quad Y B t a b c d := Eq.trans (hg.block B h.lt hne) h
theorem Two.kept {X Y : World} {B : Nat} {t : TypeId} {a b : Int} {row : Option Nat} (h : Two X B t a b) (hg : X.grownBy Y row) (hne : some B ≠ row) : Two Y B t a b := Eq.trans (hg.block B h.lt hne) h
theorem block_set {X : World} {B o : Nat} {cs : Array Value} {e : TypeId} {m : Nat × Nat} (v : Value) (h : X.heap[B]? = some (.cells cs e m)) : (X.setCell ⟨B, o, none⟩ v).heap[B]? = some (.cells (cs.setIfInBounds o v) e m) := by
  obtain ⟨hlt, hk⟩ := Array.getElem?_eq_some_iff.1 h
  show (X.heap.modify B _)[B]? = _
  rw [Array.getElem?_eq_getElem (by rw [Array.size_modify]; exact hlt), Array.getElem_modify_self, hk]
  rfl
theorem Quad.set {X : World} {B : Nat} {t : TypeId} {a b c d : Int} (h : Quad X B t a b c d) (a' b' c' d' : Int) : Quad ((((X.setCell ⟨B, 0, none⟩ (.int .i64 a')).setCell ⟨B, 1, none⟩ (.int .i64 b')).setCell ⟨B, 2, none⟩ (.int .i64 c')).setCell ⟨B, 3, none⟩ (.int .i64 d')) B t a' b' c' d' :=
  block_set (.int .i64 d') (block_set (.int .i64 c') (block_set (.int .i64 b') (block_set (.int .i64 a') h)))
theorem set4_grown (W : World) (B : Nat) (a b c d : Value) : W.grownBy ((((W.setCell ⟨B, 0, none⟩ a).setCell ⟨B, 1, none⟩ b).setCell ⟨B, 2, none⟩ c).setCell ⟨B, 3, none⟩ d) (some B) := by
  refine ⟨rfl, rfl, rfl, ?_, fun k _ hk => ?_⟩
  · simp
  · have hne : k ≠ B := fun e => hk (by rw [e])
    rw [Below.heap_setCell _ _ _ _ hne, Below.heap_setCell _ _ _ _ hne, Below.heap_setCell _ _ _ _ hne, Below.heap_setCell _ _ _ _ hne]

theorem info_byte : (Tryd.prog.info? 5).map (fun i => (i.zero, i.size, i.bytes)) = some (some (.int .u8 0), 1, 1) := by kernel_rfl
def byteL (l : List UInt8) : List Value := l.map fun c => Value.int .u8 (c.toNat : Int)
theorem byteL_snoc (l : List UInt8) (c : UInt8) : byteL (l ++ [c]) = byteL l ++ [.int .u8 (c.toNat : Int)] := by simp [byteL]
theorem byteL_length (l : List UInt8) : (byteL l).length = l.length := List.length_map _
theorem row_cells {w : World} {base g cap : Nat} {e : TypeId} {l : List UInt8} (h : w.ownsRow base e 1 (.slice (some ⟨g, 0, none⟩) l.length cap) l.length (byteL l)) :
    ∀ j (hj : j < l.length), w.cell? ((⟨g, 0, none⟩ : Addr).add j) = some (.int .u8 (l[j].toNat : Int)) := fun j hj => h.cells rfl j _ (by simp [byteL, hj])
theorem conv_row (w : World) (base : Nat) (v : Value) (l : List UInt8) (h : w.ownsRow base 5 1 v l.length (byteL l)) :
    (convert 59 9 v).run Tryd.prog w = .ok (.string ⟨l.toArray⟩) w := by
  rcases h.2 with ⟨rfl, h0⟩ | ⟨g, cap, cur, rfl, _⟩
  · have : l = [] := List.eq_nil_of_length_eq_zero h0
    subst this
    rw [run_convert_bytes_string (P := Tryd.prog) w _ _ 5 none 0 0 Tryd.underlying59 Tryd.underlying5 Tryd.underlying9]
    rfl
  · exact run_convert_bytes_back w _ _ 5 _ cap l Tryd.underlying59 Tryd.underlying5 Tryd.underlying9 (row_cells h)
end Go.Proofs.YtfelmjanffhahaaDoor
