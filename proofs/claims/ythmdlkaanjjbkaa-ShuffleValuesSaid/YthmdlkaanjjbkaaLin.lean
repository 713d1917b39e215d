/- A table that the call itself builds, line by line. -/
import Derived.Test.YthmdlkaanjjbkaaRsh
namespace Go.Proofs.Ythmdlkaanjjbkaa
set_option linter.unusedVariables false
open Go.RowKit

/-- v is a list of the call's own whose elements are the lines Ls -/
def Lines (w : World) (base : Nat) (v : Value) (Ls : List (List Int)) : Prop :=
  ∃ hs, w.ownsRow base 22 1 v Ls.length hs ∧ (∀ (i : Nat) line, Ls[i]? = some line → ∃ ra rc, hs[i]? = some (.slice ra line.length rc) ∧ line.length ≤ rc ∧ Row w ra line.length (intL line)) ∧ (Ls = [] → v.ownBlock = none)
theorem Lines.nil (w : World) (base : Nat) : Lines w base (.slice none 0 0) [] := ⟨[], World.ownsRow_nil _ _ _ _, (fun i line h => by simp at h), fun _ => rfl⟩
theorem Row.kept {w w' : World} {ra : Option Addr} {line : List Int} {row : Option Nat} (h : Row w ra line.length (intL line)) (hg : w.grownBy w' row) (hne : ∀ g, 0 < line.length → ra = some ⟨g, 0, none⟩ → some g ≠ row) : Row w' ra line.length (intL line) :=
  ⟨h.1, fun hn => by
    obtain ⟨g, h1, h3, h4⟩ := h.2 hn
    exact ⟨g, h1, Nat.lt_of_lt_of_le h3 hg.size, fun j u hu => hg.cell (h4 j u hu) (hne g hn h1)⟩⟩
theorem Row.first {w : World} {g : Nat} {line : List Int} (h : Row w (some ⟨g, 0, none⟩) line.length (intL line)) (hn : 0 < line.length) : ∃ x, w.cell? ⟨g, 0, none⟩ = some (.int .i64 x) := by
  obtain ⟨g', h1, _, h4⟩ := h.2 hn
  obtain rfl : g = g' := by simpa using h1
  exact ⟨_, h4 0 _ (intL_get (List.getElem?_eq_getElem hn))⟩
theorem Lines.apart {w : World} {base : Nat} {v : Value} {Ls : List (List Int)} {hs : List Value} (ho : w.ownsRow base 22 1 v Ls.length hs) (hl : ∀ (i : Nat) line, Ls[i]? = some line → ∃ ra rc, hs[i]? = some (.slice ra line.length rc) ∧ line.length ≤ rc ∧ Row w ra line.length (intL line)) (h0 : Ls = [] → v.ownBlock = none)
    {line : List Int} {g : Nat} (hR : Row w (some ⟨g, 0, none⟩) line.length (intL line)) (hn : 0 < line.length) : v.ownBlock ≠ some g := by
  intro hv
  by_cases he : Ls = []
  · rw [h0 he] at hv; cases hv
  · have hp : 0 < Ls.length := List.length_pos_iff.2 he
    obtain ⟨ra, rc, h1, _⟩ := hl 0 _ (List.getElem?_eq_getElem hp)
    have hc := ho.cells hv 0 _ h1
    rw [addr_add, Nat.zero_add] at hc
    obtain ⟨x, hx⟩ := hR.first hn
    rw [hx] at hc
    cases hc
theorem Lines.kept {w w' : World} {base : Nat} {v : Value} {Ls : List (List Int)} {row : Option Nat} (h : Lines w base v Ls) (hg : w.grownBy w' row) (h1 : v.ownBlock = none ∨ v.ownBlock ≠ row) (h2 : ∀ g x, w.cell? ⟨g, 0, none⟩ = some (.int .i64 x) → some g ≠ row) : Lines w' base v Ls := by
  obtain ⟨hs, ho, hl, h0⟩ := h
  refine ⟨hs, ho.kept hg h1, fun i line hi => ?_, h0⟩
  obtain ⟨ra, rc, a1, a2, a3⟩ := hl i line hi
  refine ⟨ra, rc, a1, a2, a3.kept hg fun g hn hra => ?_⟩
  subst hra
  obtain ⟨x, hx⟩ := a3.first hn
  exact h2 g x hx
theorem Lines.below {w w' : World} {base : Nat} {v : Value} {Ls : List (List Int)} (h : Lines w base v Ls) (hb : Below w.heap.size w w') : Lines w' base v Ls :=
  h.kept (grown_of_below (row := none) hb) (by cases v.ownBlock <;> simp) (fun g x _ => by simp)
theorem Lines.push {w w1 : World} {base rc : Nat} {v v' : Value} {Ls : List (List Int)} {hs : List Value} {line : List Int} {ra : Option Addr} {o : Obj} (ho : w.ownsRow base 22 1 v Ls.length hs)
    (hl : ∀ (i : Nat) line, Ls[i]? = some line → ∃ ra rc, hs[i]? = some (.slice ra line.length rc) ∧ line.length ≤ rc ∧ Row w ra line.length (intL line)) (h0 : Ls = [] → v.ownBlock = none)
    (hR : Row w ra line.length (intL line)) (hrc : line.length ≤ rc) (hg : (w.alloc o).grownBy w1 v.ownBlock) (ho' : w1.ownsRow base 22 1 v' (Ls.length + 1) (hs ++ [.slice ra line.length rc])) : Lines w1 base v' (Ls ++ [line]) := by
  have hk : ∀ {ra : Option Addr} {line : List Int}, Row w ra line.length (intL line) → Row w1 ra line.length (intL line) := fun {ra line} h => by
    refine (h.below (below_alloc w o)).kept hg fun g hn hra => ?_
    subst hra
    exact (Lines.apart ho hl h0 h hn).symm
  refine ⟨hs ++ [.slice ra line.length rc], by rw [List.length_append]; exact ho', fun i l hi => ?_, fun he => by simp at he⟩
  have hlen : hs.length = Ls.length := by have := ho.1; omega
  by_cases hil : i < Ls.length
  · rw [List.getElem?_append_left hil] at hi
    obtain ⟨r1, r2, a1, a2, a3⟩ := hl i l hi
    exact ⟨r1, r2, by rw [List.getElem?_append_left (by omega)]; exact a1, a2, hk a3⟩
  · rw [List.getElem?_append_right (by omega)] at hi
    have hi0 : i - Ls.length = 0 := by
      obtain ⟨h1, _⟩ := List.getElem?_eq_some_iff.1 hi
      simp at h1; omega
    rw [hi0] at hi
    simp at hi
    subst hi
    refine ⟨ra, rc, ?_, hrc, hk hR⟩
    rw [List.getElem?_append_right (by omega), show i - hs.length = 0 from by omega]; rfl
theorem Lines.tbl {w : World} {base : Nat} {v : Value} {C : List (List Int)} (h : Lines w base v C) : ∃ a cap, v = .slice a C.length cap ∧ C.length ≤ cap ∧ cap ≤ maxLen ∧ Tbl w a C := by
  obtain ⟨hs, ho, hl, h0⟩ := h
  have hc := fun g (hg : v.ownBlock = some g) => ho.cells hg
  rcases ho.2 with ⟨rfl, hn⟩ | ⟨g, cap, cur, rfl, _, hg, h4, h5, _⟩
  · exact ⟨none, 0, by rw [hn], by rw [hn]; exact Nat.le_refl _, Nat.zero_le _, fun hp => by omega⟩
  · refine ⟨_, cap, rfl, h4, h5, fun _ => ⟨g, rfl, (Array.getElem?_eq_some_iff.1 hg).1, fun i row hi => ?_⟩⟩
    obtain ⟨ra, rc, a1, a2, a3⟩ := hl i row hi
    have := hc g rfl i _ a1
    rw [addr_add, Nat.zero_add] at this
    exact ⟨ra, rc, this, a2, a3⟩
end Go.Proofs.Ythmdlkaanjjbkaa
