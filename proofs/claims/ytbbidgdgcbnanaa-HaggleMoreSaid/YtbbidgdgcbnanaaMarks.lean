/- How a function with ended ranges is left. -/
import Derived.Test.YtbbidgdgcbnanaaOwnb
namespace Go.Proofs.Ytbbidgdgcbnanaa
set_option linter.unusedVariables false
open Go.RowKit Go.Shelf
attribute [local go_sem] Oper.semAt_some

/-- a block for deferred calls, as a range over a function leaves it -/
def markD (D : Nat) : Deferred := { target := .collected D, args := #[] }

/-- the blocks of the ranges that have ended lie open -/
def Marks (n₀ : Nat) (Ds : List Nat) (W : World) : Prop := Ds.Nodup ∧ ∀ D, D ∈ Ds → n₀ ≤ D ∧ W.heap[D]? = some (.deferred (some []))
theorem leaves_marks {F : Fence} {n : Nat} {P : Program} {fn : Func} {tmps : Array Value} {R : Ending → World → Prop} {u : FrameMode} (hu : u ≠ .run) {n₀ : Nat} {Φ : World → Prop}
    (hΦ : ∀ W D, Φ W → n₀ ≤ D → W.heap[D]? = some (.deferred (some [])) → Φ (W.putObj D (.deferred none))) (hend : ∀ W, Φ W → LeavesInM F n P fn tmps R [] u W) :
    ∀ Ds W, Marks n₀ Ds W → Φ W → LeavesInM F n P fn tmps R (Ds.map markD) u W
  | [], W, _, h => hend W h
  | D :: Ds, W, hM, h => by
    have hD := hM.2 D (by simp)
    refine ⟨hu, .inl ⟨D, _, rfl, run_takeDeferred hD.2, ?_⟩⟩
    refine leaves_marks hu hΦ hend Ds _ ⟨(List.nodup_cons.1 hM.1).2, fun D' h' => ⟨(hM.2 D' (by simp [h'])).1, ?_⟩⟩ (hΦ W D h hD.1 hD.2)
    rw [World.putObj_heap_other (by rintro rfl; exact (List.nodup_cons.1 hM.1).1 h')]
    exact (hM.2 D' (by simp [h'])).2
theorem Marks.push {n₀ : Nat} {Ds : List Nat} {W W' : World} (h : Marks n₀ Ds W) {D : Nat} (hD : W.heap.size ≤ D) (h0 : n₀ ≤ D) (hW : ∀ D, D ∈ Ds → W'.heap[D]? = some (.deferred (some []))) (hK : W'.heap[D]? = some (.deferred (some []))) : Marks n₀ (D :: Ds) W' := by
  refine ⟨List.nodup_cons.2 ⟨fun hm => ?_, h.1⟩, fun D' h' => ?_⟩
  · have := (Array.getElem?_eq_some_iff.1 (h.2 D hm).2).1; omega
  · rcases List.mem_cons.1 h' with rfl | h'
    · exact ⟨h0, hK⟩
    · exact ⟨(h.2 D' h').1, hW D' h'⟩

/-- one range has ended: its mark is taken -/
theorem leaves_one {F : Fence} {n : Nat} {P : Program} {fn : Func} {tmps : Array Value} {R : Ending → World → Prop} {u : FrameMode} (hu : u ≠ .run) {n₀ : Nat} {Φ : World → Prop}
    (hΦ : ∀ W D, Φ W → n₀ ≤ D → W.heap[D]? = some (.deferred (some [])) → Φ (W.putObj D (.deferred none))) (hend : ∀ W, Φ W → LeavesInM F n P fn tmps R [] u W)
    (D : Nat) (W : World) (hD : n₀ ≤ D) (hK : W.heap[D]? = some (.deferred (some []))) (h : Φ W) : LeavesInM F n P fn tmps R [markD D] u W :=
  leaves_marks hu hΦ hend [D] W ⟨by simp, fun D' h' => by rw [List.mem_singleton] at h'; subst h'; exact ⟨hD, hK⟩⟩ h
end Go.Proofs.Ytbbidgdgcbnanaa
