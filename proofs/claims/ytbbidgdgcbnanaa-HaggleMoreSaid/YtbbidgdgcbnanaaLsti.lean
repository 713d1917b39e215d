/- A list variable of the caller's own that the rounds of a range over a function append to. -/
import Derived.Test.YtbbidgdgcbnanaaKpr
import Derived.Test.YtbbidgdgcbnanaaMarks
namespace Go.Proofs.Ytbbidgdgcbnanaa
set_option linter.unusedVariables false
open Go.RowKit

theorem ownsRow_bears {W W' : World} {row : Option Nat} {base : Nat} {e : TypeId} {size : Nat} {v : Value} {k : Nat} {xs : List Value} (h : W.ownsRow base e size v k xs) (hg : W.grownBy W' row)
    (hr : ∀ r, row = some r → ∃ o : Obj, W.heap[r]? = some o ∧ o.isCells = false) : W'.ownsRow base e size v k xs := by
  refine World.ownsRow.kept h hg ?_
  rcases h.2 with ⟨rfl, _⟩ | ⟨g, cap, cur, rfl, _, hc, _⟩
  · exact .inl rfl
  · refine .inr fun e => ?_
    obtain ⟨o, h1, h2⟩ := hr g (e.symm.trans (by simp [Value.ownBlock]))
    rw [hc] at h1; cases h1; cases h2
theorem boxed_bears {W W' : World} {row : Option Nat} {B : Nat} {t : TypeId} {v : Value} (h : Boxed W B t v) (hg : W.grownBy W' row) (hr : ∀ r, row = some r → ∃ o : Obj, W.heap[r]? = some o ∧ o.isCells = false) : Boxed W' B t v :=
  h.kept hg (fun e => by
    obtain ⟨o, h1, h2⟩ := hr B e.symm
    rw [show W.heap[B]? = _ from h] at h1; cases h1; cases h2)
/-- the list at B1 holds what s says -/
def LstI {β : Type} (w : World) (B1 base : Nat) (tl te : TypeId) (sz : Nat) (ln : β → Nat) (cs : β → List Value) (s : β) (X : World) : Prop :=
  ∃ v, Boxed X B1 tl v ∧ X.ownsRow base te sz v (ln s) (cs s) ∧ Below w.heap.size w X
section
variable {β : Type} {w : World} {B1 base : Nat} {tl te : TypeId} {sz : Nat} {ln : β → Nat} {cs : β → List Value}
theorem bears_lst {B : Nat} (hB : w.heap.size ≤ B) : BearsR B (LstI w B1 base tl te sz ln cs) := by
  rintro s W W' row ⟨v, h1, h2, h3⟩ hg hr
  exact ⟨v, boxed_bears h1 hg (fun r e => (hr r e).2), ownsRow_bears h2 hg (fun r e => (hr r e).2), h3.grown hg h3.size (fun k e => by have := (hr k e).1; omega)⟩
theorem LstI.cells {s : β} {X : World} (h : LstI w B1 base tl te sz ln cs s X) : RowCells B1 X := by
  obtain ⟨v, hb, ho, _⟩ := h
  rintro k ⟨a, n, c, h1, rfl⟩
  rw [hb.cell] at h1
  simp only [Option.some.injEq] at h1
  subst h1
  rcases ho.2 with ⟨h, _⟩ | ⟨g, cap, cur, h, _, hc, _⟩
  · cases h
  · simp only [Value.slice.injEq, Option.some.injEq] at h
    rw [h.1]
    exact ⟨_, _, _, hc⟩
theorem lst_same {s s' : β} {W W' : World} (h : LstI w B1 base tl te sz ln cs s W) (hg : W.grownBy W' none) (h1 : ln s' = ln s) (h2 : cs s' = cs s) : LstI w B1 base tl te sz ln cs s' W' := by
  obtain ⟨v, hb, ho, hx⟩ := h
  exact ⟨v, hb.kept hg (by simp), by rw [h1, h2]; exact ho.kept hg (by cases v.ownBlock <;> simp), hx.grown hg hx.size (fun k e => by cases e)⟩
theorem lst_step {s s' : β} {T k m : Nat} {W W8 w9 : World} {v v' : Value} {xs news : List Value} (hBT : B1 < T) (hne : tl ≠ te) (hbw : w.heap.size ≤ B1) (hbb : w.heap.size ≤ base) (Hb : Boxed W B1 tl v) (Hown : W.ownsRow base te sz v k xs) (HX : Below w.heap.size w W)
    (hg8 : W.grownBy W8 none) (ho9 : w9.ownsRow base te sz v' (k + m) (xs ++ news)) (hg9 : W8.grownBy w9 v.ownBlock) (hblk : v'.ownBlock = v.ownBlock ∨ v'.ownBlock = some W8.heap.size) (h1 : ln s' = k + m) (h2 : cs s' = xs ++ news) :
    KeepsR T B1 W (w9.setCell ⟨B1, 0, none⟩ v') ∧ LstI w B1 base tl te sz ln cs s' (w9.setCell ⟨B1, 0, none⟩ v') := by
  have Hb8 := Hb.kept hg8 (by simp)
  have Hown8 := Hown.kept hg8 (by cases v.ownBlock <;> simp)
  have hnr := Boxed.not_row Hb8 hne Hown8
  have hn9 := Hb8.kept hg9 hnr
  have hnr9 := Boxed.not_row hn9 hne ho9
  have hX9 : Below w.heap.size w w9 := (HX.grown hg8 HX.size (fun k e => by cases e)).grown hg9 (Nat.le_trans HX.size hg8.size) (fun j e => by have := (Hown.lt j e).1; omega)
  refine ⟨⟨by have := hg8.size; have := hg9.size; simp; omega, fun i o hi hn ho => ?_⟩, v', hn9.set v', ?_, hX9.setCell (p := ⟨B1, 0, none⟩) hbw v'⟩
  · have hil := (Array.getElem?_eq_some_iff.1 ho).1
    have hnv : v.ownBlock ≠ some i := fun e => by
      refine hn ?_
      rcases Hown.2 with ⟨rfl, _⟩ | ⟨g, cap, cur, rfl, _⟩
      · cases e
      · simp only [Value.ownBlock, Option.some.injEq] at e
        exact ⟨_, _, _, Hb.cell, e⟩
    have h8 := (hg8.block i hil (by simp)).trans ho
    have h9 := (hg9.block i (by have := hg8.size; omega) hnv.symm).trans h8
    refine ⟨(Below.heap_setCell _ _ _ _ (by show i ≠ B1; omega)).trans h9, ?_⟩
    rintro ⟨a, n, c, e1, e2⟩
    rw [(hn9.set v').cell] at e1
    simp only [Option.some.injEq] at e1
    subst e1
    simp only [Value.ownBlock, e2] at hblk
    rcases hblk with h | h
    · exact hnv h.symm
    · have := hg8.size; simp at h; omega
  · rw [h1, h2]
    exact World.ownsRow.kept ho9 (grownBy_setCell' w9 B1 v') (by cases h : v'.ownBlock with | none => exact .inl rfl | some g => exact .inr (by rw [h] at hnr9; exact fun e => hnr9 e.symm))
end
end Go.Proofs.Ytbbidgdgcbnanaa
