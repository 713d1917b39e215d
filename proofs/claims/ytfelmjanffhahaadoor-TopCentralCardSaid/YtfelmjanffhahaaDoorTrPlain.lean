/- Plain facts on lists of bytes: palindromes. -/
namespace Go.Proofs.YtfelmjanffhahaaDoor.Tr
set_option linter.unusedVariables false

/-- The list equals its reversal. -/
def pal (l : List UInt8) : Bool := l == l.reverse

/-- The first k letters equal those at the mirrored places. -/
def palTo (l : List UInt8) (k : Nat) : Bool := (List.range k).all fun j => l.getD j 0 == l.getD (l.length - 1 - j) 0

theorem palTo_zero (l : List UInt8) : palTo l 0 = true := rfl

theorem palTo_succ (l : List UInt8) (k : Nat) : palTo l (k + 1) = (palTo l k && (l.getD k 0 == l.getD (l.length - 1 - k) 0)) := by
  simp [palTo, List.range_succ]

theorem palTo_iff (l : List UInt8) (k : Nat) : palTo l k = true ↔ ∀ j, j < k → l.getD j 0 = l.getD (l.length - 1 - j) 0 := by
  simp [palTo]

theorem pal_iff (l : List UInt8) : pal l = true ↔ ∀ j, j < l.length → l.getD j 0 = l.getD (l.length - 1 - j) 0 := by
  unfold pal
  rw [beq_iff_eq]
  constructor
  · intro h j hj
    have h1 : l.getD j 0 = l.reverse.getD j 0 := by rw [← h]
    rw [h1]
    simp only [List.getD_eq_getElem?_getD]
    rw [List.getElem?_reverse hj]
  · intro h
    apply List.ext_getElem?
    intro j
    by_cases hj : j < l.length
    · have h1 := h j hj
      simp only [List.getD_eq_getElem?_getD] at h1
      rw [List.getElem?_reverse hj, List.getElem?_eq_getElem hj, List.getElem?_eq_getElem (by omega)]
      rw [List.getElem?_eq_getElem hj, List.getElem?_eq_getElem (by omega)] at h1
      simpa using h1
    · rw [List.getElem?_eq_none (by omega), List.getElem?_eq_none (by simp; omega)]

theorem palTo_half (l : List UInt8) : palTo l (l.length / 2) = pal l := by
  rw [Bool.eq_iff_iff, palTo_iff, pal_iff]
  constructor
  · intro h j hj
    by_cases h1 : j < l.length / 2
    · exact h j h1
    · by_cases h2 : l.length - 1 - j < l.length / 2
      · have := h _ h2
        rw [show l.length - 1 - (l.length - 1 - j) = j from by omega] at this
        exact this.symm
      · rw [show l.length - 1 - j = j from by omega]
  · intro h j hj
    exact h j (by omega)

theorem pal_false_of {l : List UInt8} {k : Nat} (hk : k < l.length / 2) (h : l.getD k 0 ≠ l.getD (l.length - 1 - k) 0) : pal l = false := by
  cases hp : pal l with
  | false => rfl
  | true => exact absurd ((pal_iff l).1 hp k (by omega)) h

end Go.Proofs.YtfelmjanffhahaaDoor.Tr
