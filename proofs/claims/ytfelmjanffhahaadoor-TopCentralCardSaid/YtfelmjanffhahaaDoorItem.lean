/- Item: a range over the row that is left early. -/
import Derived.Test.YtfelmjanffhahaaDoorSize
import Derived.Test.YtfelmjanffhahaaDoorQuad
import Derived.Test.YtfelmjanffhahaaDoorOwnb
namespace Go.Proofs.YtfelmjanffhahaaDoor
set_option linter.unusedVariables false
open Go.RowKit Go.Shelf
attribute [local go_sem] Oper.semAt_some

def itemR (N : Nat) (k : Int) : (Nat × Nat) × Int := if 0 ≤ k ∧ k < len N then (fr N k.toNat, 0) else ((0, 0), 2)

theorem bears_two {β : Type} {b B : Nat} (h : b < B) (t : TypeId) (f g : β → Int) : Bears B (fun s W => Two W b t (f s) (g s)) := fun s W W' row hs hg hr =>
  hs.kept hg (fun e => by have := hr b e.symm; omega)
theorem plTo_val (N : Nat) : ∀ k, k ≤ len N → (plTo N k).map (fun x => x.1) = List.range k
  | 0, _ => rfl
  | k + 1, h => by rw [plTo_succ (by omega), List.map_append, plTo_val N k (by omega), List.range_succ]; rfl
theorem pl_last {N : Nat} {pre : List (Pl N)} {x : Pl N} (h : pre ++ [x] <+: allPl N) : x.1 = pre.length ∧ pre.length < len N := by
  obtain ⟨t, ht⟩ := h
  have h1 := congrArg (fun l : List (Pl N) => (l.map fun x => x.1)[pre.length]?) ht
  simp only [allPl, plTo_val N _ (Nat.le_refl _)] at h1
  rw [List.map_append, List.map_append, List.getElem?_append_left (by simp), List.getElem?_append_right (by simp)] at h1
  simp only [List.length_map, Nat.sub_self, List.map_cons, List.map_nil, List.getElem?_cons_zero] at h1
  rw [eq_comm, List.getElem?_eq_some_iff] at h1
  obtain ⟨h2, h3⟩ := h1
  rw [List.getElem_range] at h3
  rw [List.length_range] at h2
  exact ⟨h3.symm, h2⟩
theorem KeepsAt.set {T b o : Nat} {W : World} (h : b < T) (v : Value) : KeepsAt T W (W.setCell ⟨b, o, none⟩ v) := KeepsAt.of_grown (grownBy_set W b o v) (fun r e => by have := Option.some.inj e; omega)

theorem _root_.Go.Boxed.at {W : World} {B B' o : Nat} {t : TypeId} {v u : Value} (h : Boxed W B t v) (hne : B ≠ B') : Boxed (W.setCell ⟨B', o, none⟩ u) B t v := Eq.trans (Below.heap_setCell _ _ _ _ hne) h

/-- a range has ended, and the results lie in two boxes -/
theorem leaves_cells {F : Fence} {n : Nat} {P : Program} {fn : Func} {tmps : Array Value} {R : Ending → World → Prop} {u : FrameMode} (hu : u ≠ .run) {w : World} {b c n₀ : Nat} {x y z : Int}
    (hb : b < n₀) (hc : c < n₀) (hn : w.heap.size ≤ n₀) (hend : ∀ W, Two W b 23 x y → Boxed W c 24 (.int .i64 z) → Below w.heap.size w W → LeavesInM F n P fn tmps R [] u W)
    (D : Nat) (W : World) (hD : n₀ ≤ D) (hK : W.heap[D]? = some (.deferred (some []))) (h1 : Two W b 23 x y) (h2 : Boxed W c 24 (.int .i64 z)) (h3 : Below w.heap.size w W) : LeavesInM F n P fn tmps R [markD D] u W := by
  refine leaves_one hu (n₀ := n₀) (Φ := fun X => Two X b 23 x y ∧ Boxed X c 24 (.int .i64 z) ∧ Below w.heap.size w X) ?_ (fun W h => hend W h.1 h.2.1 h.2.2) D W hD hK ⟨h1, h2, h3⟩
  rintro Y D' ⟨k1, k2, k3⟩ hD' _
  exact ⟨k1.kept (grownBy_putObj' Y D' _) (fun e => by have := Option.some.inj e; omega), k2.kept (grownBy_putObj' Y D' _) (fun e => by have := Option.some.inj e; omega), k3.grown (grownBy_putObj' Y D' _) k3.size (fun q e => by cases e; omega)⟩

end Go.Proofs.YtfelmjanffhahaaDoor
