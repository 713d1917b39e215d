/- Plain facts: Inner and Outer are palindromes, Inner is a subsequence of the word, and the word one of Outer. -/
import Derived.Test.YteejjcipdpojnaaWithin
namespace Go.Proofs.Yteejjcipdpojnaa
set_option linter.unusedVariables false

theorem subB_is : ∀ x s : List UInt8, subB x s = x.isSublist s
  | [], _ => by simp [subB, List.isSublist]
  | _ :: _, [] => by simp [subB, List.isSublist]
  | a :: x, b :: s => by
    rw [subB, List.isSublist]
    by_cases h : a = b
    · rw [if_pos h, if_pos (by simpa using h)]; exact subB_is x s
    · rw [if_neg h, if_neg (by simpa using h)]; exact subB_is (a :: x) s
theorem subB_of {x s : List UInt8} (h : List.Sublist x s) : subB x s = true := by rw [subB_is]; exact List.isSublist_iff_sublist.2 h

theorem pal_wrap {X : List UInt8} (c : UInt8) (h : pal X = true) : pal (c :: (X ++ [c])) = true := by
  have := pal_rev h
  unfold pal; rw [beq_iff_eq]; simp [this]
theorem innerAt_pal (l : List UInt8) : ∀ d b, pal (innerAt l d b) = true
  | 0, _ => rfl
  | 1, _ => by simp [innerAt, pal]
  | d + 2, b => by
    by_cases he : l.getD b 0 = l.getD (b + d + 1) 0
    · rw [innerAt, if_pos he]; exact pal_wrap _ (innerAt_pal l d (b + 1))
    · rw [innerAt, if_neg he]
      rcases (betterL_len (innerAt l (d + 1) (b + 1)) (innerAt l (d + 1) b)).2.2 with h | h <;> rw [h]
      · exact innerAt_pal l (d + 1) (b + 1)
      · exact innerAt_pal l (d + 1) b
theorem outAt_pal (l : List UInt8) : ∀ d b, pal (outAt l d b) = true
  | 0, _ => rfl
  | 1, _ => by simp [outAt, pal]
  | d + 2, b => by
    by_cases he : l.getD b 0 = l.getD (b + d + 1) 0
    · rw [outAt, if_pos he]; exact pal_wrap _ (outAt_pal l d (b + 1))
    · by_cases hc : (innerAt l (d + 1) b).length ≤ (innerAt l (d + 1) (b + 1)).length
      · rw [outAt, if_neg he, if_pos hc]; exact pal_wrap _ (outAt_pal l (d + 1) (b + 1))
      · rw [outAt, if_neg he, if_neg hc]; exact pal_wrap _ (outAt_pal l (d + 1) b)

/-- the d letters from b on -/
def seg (l : List UInt8) (d b : Nat) : List UInt8 := (l.drop b).take d
theorem seg_first (l : List UInt8) (d b : Nat) (h : b + d + 1 ≤ l.length) : seg l (d + 1) b = l.getD b 0 :: seg l d (b + 1) := by
  unfold seg
  rw [List.drop_eq_getElem_cons (by omega), List.take_succ_cons, List.getD_eq_getElem?_getD, List.getElem?_eq_getElem (by omega)]; rfl
theorem seg_last (l : List UInt8) (d b : Nat) (h : b + d + 1 ≤ l.length) : seg l (d + 1) b = seg l d b ++ [l.getD (b + d) 0] := by
  unfold seg
  rw [List.take_succ_eq_append_getElem (by rw [List.length_drop]; omega), List.getElem_drop, List.getD_eq_getElem?_getD, List.getElem?_eq_getElem (by omega)]; rfl
theorem seg_both (l : List UInt8) (d b : Nat) (h : b + d + 2 ≤ l.length) : seg l (d + 2) b = l.getD b 0 :: (seg l d (b + 1) ++ [l.getD (b + d + 1) 0]) := by
  rw [seg_first l (d + 1) b (by omega), seg_last l d (b + 1) (by omega), show b + 1 + d = b + d + 1 from by omega]

theorem innerAt_sub (l : List UInt8) : ∀ d b, b + d ≤ l.length → List.Sublist (innerAt l d b) (seg l d b)
  | 0, _, _ => List.nil_sublist _
  | 1, b, h => by rw [seg_first l 0 b (by omega)]; simp [innerAt, seg]
  | d + 2, b, h => by
    by_cases he : l.getD b 0 = l.getD (b + d + 1) 0
    · rw [innerAt, if_pos he, seg_both l d b (by omega), ← he]
      exact ((innerAt_sub l d (b + 1) (by omega)).append (List.Sublist.refl _)).cons_cons _
    · rw [innerAt, if_neg he]
      rcases (betterL_len (innerAt l (d + 1) (b + 1)) (innerAt l (d + 1) b)).2.2 with k | k <;> rw [k]
      · rw [seg_first l (d + 1) b (by omega)]; exact (innerAt_sub l (d + 1) (b + 1) (by omega)).cons _
      · rw [seg_last l (d + 1) b (by omega)]; exact (innerAt_sub l (d + 1) b (by omega)).trans (List.sublist_append_left _ _)
theorem outAt_sub (l : List UInt8) : ∀ d b, b + d ≤ l.length → List.Sublist (seg l d b) (outAt l d b)
  | 0, _, _ => by simp [seg]
  | 1, b, h => by rw [seg_first l 0 b (by omega)]; simp [outAt, seg]
  | d + 2, b, h => by
    by_cases he : l.getD b 0 = l.getD (b + d + 1) 0
    · rw [outAt, if_pos he, seg_both l d b (by omega), ← he]
      exact ((outAt_sub l d (b + 1) (by omega)).append (List.Sublist.refl _)).cons_cons _
    · by_cases hc : (innerAt l (d + 1) b).length ≤ (innerAt l (d + 1) (b + 1)).length
      · rw [outAt, if_neg he, if_pos hc, seg_first l (d + 1) b (by omega)]
        exact ((outAt_sub l (d + 1) (b + 1) (by omega)).trans (List.sublist_append_left _ _)).cons_cons _
      · rw [outAt, if_neg he, if_neg hc, seg_last l (d + 1) b (by omega)]
        exact ((outAt_sub l (d + 1) b (by omega)).append (List.Sublist.refl _)).cons _
theorem seg_all (l : List UInt8) : seg l l.length 0 = l := by simp [seg]

theorem innerAt_self (l : List UInt8) : ∀ d b, b + d ≤ l.length → PalAt l b (b + d) → innerAt l d b = seg l d b
  | 0, _, _, _ => by simp [innerAt, seg]
  | 1, b, h, _ => by rw [seg_first l 0 b (by omega)]; simp [innerAt, seg]
  | d + 2, b, h, hp => by
    have he : l.getD b 0 = l.getD (b + d + 1) 0 := by
      have := hp b (by omega) (by omega)
      rwa [show b + (b + (d + 2)) - 1 - b = b + d + 1 from by omega] at this
    have h2 := hp.shrink 1 (by omega)
    rw [show b + (d + 2) - 1 = b + 1 + d from by omega] at h2
    rw [innerAt, if_pos he, seg_both l d b (by omega), ← he, innerAt_self l d (b + 1) (by omega) h2]
theorem innerL_self {l : List UInt8} (h : pal l = true) : innerL l = l := by
  have := innerAt_self l l.length 0 (by omega) (by
    rw [Nat.zero_add]; exact (palAt_iff l 0 l.length (Nat.zero_le _) (Nat.le_refl _)).1 (by rw [List.take_length]; exact h))
  rw [seg_all] at this
  exact this
theorem closL_self {l : List UInt8} (h : pal l = true) : closL l = l := by
  have h1 := longEnd_max l 0 h
  have h2 := longEnd_le l
  unfold closL
  rw [show l.length - longEnd l = 0 from by omega]; simp
theorem word_sub {x l : List UInt8} (h : List.Sublist x l) (hl : wordB l = true) : wordB x = true := by
  unfold wordB at hl ⊢
  rw [Bool.and_eq_true, decide_eq_true_eq] at hl ⊢
  refine ⟨Nat.le_trans h.length_le hl.1, ?_⟩
  rw [List.all_eq_true]
  intro c hc
  exact List.all_eq_true.1 hl.2 c (h.subset hc)
end Go.Proofs.Yteejjcipdpojnaa
