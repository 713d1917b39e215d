/- Palindromes at the end of a list, and closures. -/
import Derived.Test.YtfelmjanffhahaaDoorTrRev
namespace Go.Proofs.YtfelmjanffhahaaDoor.Tr
set_option linter.unusedVariables false
def PalAt (l : List UInt8) (x y : Nat) : Prop := ∀ j, x ≤ j → j < y → l.getD j 0 = l.getD (x + y - 1 - j) 0
theorem getD_sub (l : List UInt8) (x y j : Nat) (hj : x + j < y) : ((l.take y).drop x).getD j 0 = l.getD (x + j) 0 := by
  rw [List.getD_eq_getElem?_getD, List.getD_eq_getElem?_getD, List.getElem?_drop, List.getElem?_take_of_lt hj]
theorem palAt_iff (l : List UInt8) (x y : Nat) (hx : x ≤ y) (hy : y ≤ l.length) : pal ((l.take y).drop x) = true ↔ PalAt l x y := by
  have hlen : ((l.take y).drop x).length = y - x := by rw [List.length_drop, List.length_take]; omega
  rw [pal_iff, hlen]
  constructor
  · intro h j h1 h2
    have := h (j - x) (by omega)
    rw [getD_sub l x y _ (by omega), getD_sub l x y _ (by omega), show x + (j - x) = j from by omega, show x + (y - x - 1 - (j - x)) = x + y - 1 - j from by omega] at this
    exact this
  · intro h j hj
    have := h (x + j) (by omega) (by omega)
    rw [getD_sub l x y _ (by omega), getD_sub l x y _ (by omega), show x + (y - x - 1 - j) = x + y - 1 - (x + j) from by omega]
    exact this
theorem PalAt.shrink {l : List UInt8} {x y : Nat} (h : PalAt l x y) (i : Nat) (hi : i ≤ y) : PalAt l (x + i) (y - i) := by
  intro j h1 h2
  have := h j (by omega) (by omega)
  rw [show x + i + (y - i) - 1 - j = x + y - 1 - j from by omega]
  exact this
theorem pal_one (c : UInt8) : pal [c] = true := by simp [pal]
theorem longEnd_pal : ∀ l : List UInt8, pal (l.drop (l.length - longEnd l)) = true
  | [] => rfl
  | c :: l => by
    unfold longEnd
    split
    · rename_i h; simpa using h
    · have h1 := longEnd_le l
      have h2 := longEnd_pal l
      rw [List.length_cons, show l.length + 1 - longEnd l = (l.length - longEnd l) + 1 from by omega, List.drop_succ_cons]
      exact h2
theorem longEnd_max : ∀ (l : List UInt8) (i : Nat), pal (l.drop i) = true → l.length - i ≤ longEnd l
  | [], _, _ => by simp
  | c :: l, 0, h => by
    unfold longEnd
    rw [List.drop_zero] at h
    rw [if_pos h]; simp
  | c :: l, i + 1, h => by
    unfold longEnd
    split
    · rw [List.length_cons]; omega
    · rw [List.drop_succ_cons] at h
      have := longEnd_max l i h
      rw [List.length_cons]; omega
theorem pal_rev {l : List UInt8} (h : pal l = true) : l.reverse = l := by unfold pal at h; exact (beq_iff_eq.1 h).symm
theorem longEnd_pos {l : List UInt8} (h : l ≠ []) : 1 ≤ longEnd l := by
  have hl : 0 < l.length := List.length_pos_iff.2 h
  have := longEnd_max l (l.length - 1) (by
    rw [List.drop_eq_getElem_cons (by omega), show l.length - 1 + 1 = l.length from by omega, List.drop_length]
    exact pal_one _)
  omega
theorem longEnd_palAt (l : List UInt8) (k : Nat) (hk : k < l.length) : PalAt l (k + 1 - longEnd (l.take (k + 1))) (k + 1) ∧ 1 ≤ longEnd (l.take (k + 1)) ∧ longEnd (l.take (k + 1)) ≤ k + 1 := by
  have hlt : (l.take (k + 1)).length = k + 1 := by rw [List.length_take]; omega
  have h1 := longEnd_pal (l.take (k + 1))
  have h2 := longEnd_le (l.take (k + 1))
  rw [hlt] at h1 h2
  have h3 := longEnd_pos (l := l.take (k + 1)) (fun e => by rw [e] at hlt; simp at hlt)
  exact ⟨(palAt_iff l _ _ (by omega) (by omega)).1 h1, h3, h2⟩
theorem longEnd_ge (l : List UInt8) (x k : Nat) (hk : k < l.length) (hx : x ≤ k + 1) (h : PalAt l x (k + 1)) : k + 1 - x ≤ longEnd (l.take (k + 1)) := by
  have hlt : (l.take (k + 1)).length = k + 1 := by rw [List.length_take]; omega
  have := longEnd_max (l.take (k + 1)) x ((palAt_iff l x (k + 1) hx (by omega)).2 h)
  rwa [hlt] at this
theorem closL_size (l : List UInt8) : (closL l).length = 2 * l.length - longEnd l := by
  have := longEnd_le l
  unfold closL; rw [List.length_append, List.length_reverse, List.length_take]; omega
theorem closL_pal (l : List UInt8) : pal (closL l) = true := by
  have h := pal_rev (longEnd_pal l)
  obtain ⟨P, hP⟩ : ∃ P, l.take (l.length - longEnd l) = P := ⟨_, rfl⟩
  obtain ⟨Q, hQ⟩ : ∃ Q, l.drop (l.length - longEnd l) = Q := ⟨_, rfl⟩
  rw [hQ] at h
  have hl : l = P ++ Q := by rw [← hP, ← hQ, List.take_append_drop]
  unfold closL
  rw [hP]
  unfold pal
  rw [beq_iff_eq]
  rw [hl, List.reverse_append, List.reverse_reverse, List.reverse_append, h, List.append_assoc]
theorem getD_app (a b : List UInt8) (j : Nat) (h : j < a.length) : (a ++ b).getD j 0 = a.getD j 0 := by
  rw [List.getD_eq_getElem?_getD, List.getD_eq_getElem?_getD, List.getElem?_append_left h]
theorem getD_end (T : List UInt8) (c : UInt8) : (T ++ [c]).getD T.length 0 = c := by
  rw [List.getD_eq_getElem?_getD, List.getElem?_append_right (Nat.le_refl _)]; simp
theorem PalAt.mirror {l : List UInt8} {L x y : Nat} (hP : PalAt l 0 L) (h : PalAt l x y) (hy : y ≤ L) : PalAt l (L - y) (L - x) := by
  intro j h1 h2
  rw [hP j (Nat.zero_le _) (by omega), h (0 + L - 1 - j) (by omega) (by omega), hP (x + y - 1 - (0 + L - 1 - j)) (Nat.zero_le _) (by omega)]
  congr 1; omega
theorem PalAt.congr {a b : List UInt8} {x y : Nat} (h : PalAt a x y) (hab : ∀ j, j < y → a.getD j 0 = b.getD j 0) : PalAt b x y := by
  intro j h1 h2
  rw [← hab j h2, ← hab (x + y - 1 - j) (by omega)]; exact h j h1 h2
theorem pal_all (l : List UInt8) (h : pal l = true) : PalAt l 0 l.length := by
  have := (palAt_iff l 0 l.length (Nat.zero_le _) (Nat.le_refl _)).1 (by rw [List.take_length]; exact h)
  exact this
theorem le_pal (T : List UInt8) (c : UInt8) : PalAt (T ++ [c]) (T.length + 1 - longEnd (T ++ [c])) (T.length + 1) ∧ 1 ≤ longEnd (T ++ [c]) ∧ longEnd (T ++ [c]) ≤ T.length + 1 := by
  have h := longEnd_palAt (T ++ [c]) T.length (by simp)
  rw [List.take_of_length_le (by simp)] at h
  exact h
theorem le_ge (T : List UInt8) (c : UInt8) (x : Nat) (hx : x ≤ T.length + 1) (hp : PalAt (T ++ [c]) x (T.length + 1)) : T.length + 1 - x ≤ longEnd (T ++ [c]) := by
  have h := longEnd_ge (T ++ [c]) x T.length (by simp) hx hp
  rwa [List.take_of_length_le (by simp)] at h
theorem clos_facts (T : List UInt8) (d : UInt8) (hp : pal T = true) :
    (closL (T ++ [d])).length + longEnd (T ++ [d]) = 2 * (T.length + 1) ∧ (∀ j, j < T.length + 1 → (closL (T ++ [d])).getD j 0 = (T ++ [d]).getD j 0) ∧
    PalAt (closL (T ++ [d])) 0 (closL (T ++ [d])).length ∧ (∀ i, i < T.length → (closL (T ++ [d])).getD ((closL (T ++ [d])).length - T.length + i) 0 = T.getD i 0) := by
  obtain ⟨_, d1, d2⟩ := le_pal T d
  have hs := closL_size (T ++ [d])
  rw [List.length_append, List.length_singleton] at hs
  have hP := pal_all _ (closL_pal (T ++ [d]))
  have h1 : ∀ j, j < T.length + 1 → (closL (T ++ [d])).getD j 0 = (T ++ [d]).getD j 0 := by
    intro j hj; unfold closL; exact getD_app _ _ _ (by simpa using hj)
  refine ⟨by omega, h1, hP, ?_⟩
  intro i hi
  have hT := pal_all _ hp
  rw [hP _ (Nat.zero_le _) (by omega), h1 _ (by omega), getD_app _ _ _ (by omega), hT i (Nat.zero_le _) hi]
  congr 1; omega
end Go.Proofs.YtfelmjanffhahaaDoor.Tr
