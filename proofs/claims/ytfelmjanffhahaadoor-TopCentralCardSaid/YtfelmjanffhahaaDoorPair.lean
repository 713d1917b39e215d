/- Boxes of two numbers, written anew. -/
import Derived.Test.YtfelmjanffhahaaDoorOrd
namespace Go.Proofs.YtfelmjanffhahaaDoor
set_option linter.unusedVariables false
open Go.RowKit

theorem drewN_grown {W : World} {n : Nat} {row : Option Nat} : W.grownBy (W.drewN n) row := ⟨rfl, rfl, rfl, Nat.le_refl _, fun _ _ _ => rfl⟩
theorem drew_grown {W : World} {row : Option Nat} : W.grownBy W.drew row := ⟨rfl, rfl, rfl, Nat.le_refl _, fun _ _ _ => rfl⟩
/-- a box of two numbers -/
def Pair (X : World) (B : Nat) (x y : Int) : Prop := X.heap[B]? = some (.cells #[.int .i64 x, .int .i64 y] 23 (0, 0))
theorem Pair.cells {X : World} {B : Nat} {x y : Int} (h : Pair X B x y) : X.cell? ⟨B, 0, none⟩ = some (.int .i64 x) ∧ X.cell? ⟨B, 1, none⟩ = some (.int .i64 y) ∧ X.frozen? ⟨B, 0, none⟩ = false ∧ X.frozen? ⟨B, 1, none⟩ = false := by
  refine ⟨?_, ?_, ?_, ?_⟩ <;> simp [World.cell?, World.frozen?, show X.heap[B]? = _ from h]
theorem Pair.same {X Y : World} {B : Nat} {x y : Int} (h : Pair X B x y) (k : Y.heap[B]? = X.heap[B]?) : Pair Y B x y := Eq.trans k h
theorem Pair.lt {X : World} {B : Nat} {x y : Int} (h : Pair X B x y) : B < X.heap.size := (Array.getElem?_eq_some_iff.1 h).1
theorem Pair.new (W : World) (x y : Int) : Pair (W.alloc (.cells #[.int .i64 x, .int .i64 y] 23)) W.heap.size x y := World.alloc_heap_new W _
theorem Pair.kept {X Y : World} {B : Nat} {x y : Int} {row : Option Nat} (h : Pair X B x y) (hg : X.grownBy Y row) (hne : some B ≠ row) : Pair Y B x y := h.same (hg.block B h.lt hne)
theorem Pair.alloc {X : World} {B : Nat} {x y : Int} (h : Pair X B x y) (o : Obj) : Pair (X.alloc o) B x y := h.kept (World.grownBy_alloc X o none) (by simp)
theorem cells_set {X : World} {B o : Nat} {cs : Array Value} {e : TypeId} {m : Nat × Nat} (v : Value) (h : X.heap[B]? = some (.cells cs e m)) : (X.setCell ⟨B, o, none⟩ v).heap[B]? = some (.cells (cs.setIfInBounds o v) e m) := by
  obtain ⟨hlt, hk⟩ := Array.getElem?_eq_some_iff.1 h
  show (X.heap.modify B _)[B]? = _
  rw [Array.getElem?_eq_getElem (by rw [Array.size_modify]; exact hlt), Array.getElem_modify_self, hk]
  rfl
theorem Pair.set {X : World} {B : Nat} {x y : Int} (h : Pair X B x y) (x' y' : Int) : Pair ((X.setCell ⟨B, 0, none⟩ (.int .i64 x')).setCell ⟨B, 1, none⟩ (.int .i64 y')) B x' y' :=
  cells_set (.int .i64 y') (cells_set (o := 0) (.int .i64 x') h)
theorem Pair.other {X : World} {B B' o : Nat} {x y : Int} {v : Value} (h : Pair X B x y) (hne : B ≠ B') : Pair (X.setCell ⟨B', o, none⟩ v) B x y := h.same (Below.heap_setCell _ _ _ _ hne)
theorem grownBy_set (W : World) (b o : Nat) (v : Value) : W.grownBy (W.setCell ⟨b, o, none⟩ v) (some b) :=
  ⟨rfl, rfl, rfl, (KeepsOthers.setCell W ⟨b, o, none⟩ v).size, fun k _ hk => Below.heap_setCell _ _ _ k (fun e => hk (by rw [e]))⟩

theorem turned_facts {β : Type} {J : β → World → Prop} {s : β} {M Bf Bn Be : Nat} {W3 : World} {xa xb : Nat} {ga gb gc gd N : Int} (hJ : Bears M J) (hf : M ≤ Bf) (hn : M ≤ Bn) (hne : Bf ≠ Bn) (he : Be < M) (hj : J s W3)
    (pf : Pair W3 Bf ga gb) (pn : Pair W3 Bn gc gd) (hc : W3.cell? ⟨Be, 0, none⟩ = some (.int .i64 N)) :
    J s ((((W3.drew.setCell ⟨Bf, 0, none⟩ (.int .i64 gc)).setCell ⟨Bf, 1, none⟩ (.int .i64 gd)).setCell ⟨Bn, 0, none⟩ (.int .i64 xa)).setCell ⟨Bn, 1, none⟩ (.int .i64 xb)) ∧
    Pair ((((W3.drew.setCell ⟨Bf, 0, none⟩ (.int .i64 gc)).setCell ⟨Bf, 1, none⟩ (.int .i64 gd)).setCell ⟨Bn, 0, none⟩ (.int .i64 xa)).setCell ⟨Bn, 1, none⟩ (.int .i64 xb)) Bf gc gd ∧
    Pair ((((W3.drew.setCell ⟨Bf, 0, none⟩ (.int .i64 gc)).setCell ⟨Bf, 1, none⟩ (.int .i64 gd)).setCell ⟨Bn, 0, none⟩ (.int .i64 xa)).setCell ⟨Bn, 1, none⟩ (.int .i64 xb)) Bn xa xb ∧
    ((((W3.drew.setCell ⟨Bf, 0, none⟩ (.int .i64 gc)).setCell ⟨Bf, 1, none⟩ (.int .i64 gd)).setCell ⟨Bn, 0, none⟩ (.int .i64 xa)).setCell ⟨Bn, 1, none⟩ (.int .i64 xb)).cell? ⟨Be, 0, none⟩ = some (.int .i64 N) := by
  have pf' : Pair W3.drew Bf ga gb := pf
  have pn' : Pair W3.drew Bn gc gd := pn
  refine ⟨?_, ((pf'.set gc gd).other hne).other hne, ((pn'.other (fun e => hne e.symm)).other (fun e => hne e.symm)).set xa xb, ?_⟩
  · have w : ∀ {X : World} {B o : Nat} {v : Value}, M ≤ B → J s X → J s (X.setCell ⟨B, o, none⟩ v) := fun hB h => hJ _ _ _ _ h (grownBy_set _ _ _ _) (fun r e => by cases e; exact hB)
    exact w hn (w hn (w hf (w hf (hJ _ _ _ none hj drew_grown (fun r e => by cases e)))))
  · rw [set_far (by omega), set_far (by omega), set_far (by omega), set_far (by omega)]; exact hc
end Go.Proofs.YtfelmjanffhahaaDoor
