/- A row that came in. -/
import Derived.Test.YtbbidgdgcbnanaaInts
import Derived.ProofKit
import Derived.OpenShut
import Derived.ChangeOld
import Derived.ChangeSlices
namespace Go.Proofs.Ytbbidgdgcbnanaa
set_option linter.unusedVariables false
open Go.RowKit Go.ChangeShapes Go.WideShapes

theorem add_block (ad : Addr) (j : Nat) : (ad.add j).block = ad.block := by unfold Addr.add; split <;> rfl
/-- a row that came in, wherever it lies -/
def RowIn (w : World) (v : Value) (row : List Int) : Prop := (∃ c, v = .slice none 0 c ∧ row = []) ∨ ∃ (ad : Addr) (c : Nat), v = .slice (some ad) row.length c ∧ row.length ≤ c ∧ ∀ j, j < row.length → w.cell? (ad.add j) = some (.int .i64 (row.getD j 0))
theorem RowIn.below {w w' : World} {v : Value} {row : List Int} (h : RowIn w v row) (hb : Below w.heap.size w w') : RowIn w' v row := by
  rcases h with h | ⟨ad, c, hv, hc, hd⟩
  · exact .inl h
  · exact .inr ⟨ad, c, hv, hc, fun j hj => (hb.cell (p := ad.add j) (World.block_lt_of_cell? w _ (hd j hj))).trans (hd j hj)⟩
theorem rowIn_of {H : Type} {enc : TypeId × Value → H} {P : Program} {w : World} {base fuel : Nat} {held : Bool} {t e : TypeId} {v : Value} {x : DataW H × List MemPlace} (ht : P.underlying t = some (.slice e)) (he : P.underlying e = some (.int .i64)) (ce : P.cellsOf e = 1)
    (h : DataW.trod enc P w base (fun _ => true) held fuel t [v] = some x) : ∃ xs, RowIn w v xs := by
  rcases open_ints ht he ce h with ⟨hcs, _⟩ | ⟨a, l, c, zs, hcs, _, hl, hm, hz, _, hcell, hwz⟩
  · simp at hcs
    exact ⟨[], .inl ⟨0, hcs, rfl⟩⟩
  · simp at hcs
    have hz2 : zs.length = c := by simpa using hz
    have hlen : (zs.take l).length = l := by rw [List.length_take]; omega
    refine ⟨zs.take l, .inr ⟨a, c, by rw [hlen]; exact hcs, by rw [hlen]; exact hl, fun j hj => ?_⟩⟩
    rw [hlen] at hj
    rw [hcell j (by omega), List.getD_eq_getElem?_getD, List.getD_eq_getElem?_getD, List.getElem?_take_of_lt hj]
theorem RowIn.form {w : World} {v : Value} {row : List Int} (h : RowIn w v row) : ∃ a c, v = .slice a row.length c ∧ ∀ j x, row[j]? = some x → ∃ ad, a = some ad ∧ w.cell? (ad.add j) = some (.int .i64 x) := by
  rcases h with ⟨c, rfl, rfl⟩ | ⟨ad, c, rfl, _, h⟩
  · exact ⟨none, c, rfl, fun j x h => by simp at h⟩
  · refine ⟨some ad, c, rfl, fun j x hj => ⟨ad, rfl, ?_⟩⟩
    have h1 := (List.getElem?_eq_some_iff.1 hj).1
    rw [h j h1, List.getD_eq_getElem?_getD, hj]; rfl
end Go.Proofs.Ytbbidgdgcbnanaa
