/- Plain facts: Inner is the first one of the longest palindromes among the letters. -/
import Derived.Test.YteejjcipdpojnaaSubs
namespace Go.Proofs.Yteejjcipdpojnaa
set_option linter.unusedVariables false

/-- P is no better than I -/
def Good (I P : List UInt8) : Prop := P.length < I.length ∨ (P.length = I.length ∧ ¬ P < I)

theorem Good.trans {a b c : List UInt8} (h : Good a b) (k : Good b c) : Good a c := by
  rcases h with h | ⟨h, h'⟩ <;> rcases k with k | ⟨k, k'⟩
  · exact .inl (by omega)
  · exact .inl (by omega)
  · exact .inl (by omega)
  · exact .inr ⟨by omega, fun e => by
      rw [List.not_lt] at h' k'
      exact absurd e (List.not_lt.2 (List.le_trans h' k'))⟩
theorem Good.refl (a : List UInt8) : Good a a := .inr ⟨rfl, List.lt_irrefl a⟩
theorem Good.eq {a b : List UInt8} (h : Good a b) (k : Good b a) : a = b := by
  rcases h with h | ⟨h, h'⟩ <;> rcases k with k | ⟨k, k'⟩
  · omega
  · omega
  · omega
  · rw [List.not_lt] at h' k'
    exact List.le_antisymm h' k'
theorem better_one (a b : List UInt8) : Good (betterL a b) a := by
  unfold betterL
  split
  · exact Good.refl a
  · rename_i h
    rcases Nat.lt_trichotomy a.length b.length with k | k | k
    · exact .inl k
    · exact .inr ⟨k, fun e => h (.inr ⟨k, e⟩)⟩
    · exact absurd (.inl k) h
theorem better_two (a b : List UInt8) : Good (betterL a b) b := by
  unfold betterL
  split
  · rename_i h
    rcases h with h | ⟨h, h'⟩
    · exact .inl h
    · exact .inr ⟨h.symm, fun e => List.lt_asymm e h'⟩
  · exact Good.refl b
theorem better_keep {a b : List UInt8} (h : Good b a) : betterL a b = b := by
  unfold betterL
  rw [if_neg]
  rcases h with h | ⟨h, h'⟩
  · rintro (k | ⟨k, _⟩) <;> omega
  · rintro (k | ⟨_, k⟩)
    · omega
    · exact h' k

theorem snoc_lt : ∀ (Q I : List UInt8) (c : UInt8), Q.length = I.length → ¬ Q < I → ¬ (Q ++ [c]) < (I ++ [c])
  | [], [], c, _, _ => List.lt_irrefl _
  | [], _ :: _, _, h, _ => by simp at h
  | _ :: _, [], _, h, _ => by simp at h
  | x :: Q, y :: I, c, h, k => by
    intro e
    rw [List.cons_append, List.cons_append, List.cons_lt_cons_iff] at e
    rw [List.cons_lt_cons_iff] at k
    rcases e with e | ⟨e, e'⟩
    · exact k (.inl e)
    · exact snoc_lt Q I c (by simpa using h) (fun z => k (.inr ⟨e, z⟩)) e'
theorem Good.wrap {I Q : List UInt8} (c : UInt8) (h : Good I Q) : Good (c :: (I ++ [c])) (c :: (Q ++ [c])) := by
  rcases h with h | ⟨h, h'⟩
  · exact .inl (by simp; omega)
  · refine .inr ⟨by simp [h], fun e => ?_⟩
    rw [List.cons_lt_cons_iff] at e
    rcases e with e | ⟨_, e⟩
    · exact UInt8.lt_irrefl _ e
    · exact snoc_lt Q I c h h' e

theorem sub_back {P t : List UInt8} {y e : UInt8} (h : List.Sublist (P ++ [y]) (t ++ [e])) (hne : y ≠ e) : List.Sublist (P ++ [y]) t := by
  have h2 := h.reverse
  rw [List.reverse_append, List.reverse_append] at h2
  simp only [List.reverse_singleton, List.singleton_append] at h2
  rw [List.sublist_cons_iff] at h2
  rcases h2 with h2 | ⟨r, hr, _⟩
  · have := h2.reverse; simpa using this
  · exact absurd (List.cons.inj hr).1 hne
theorem sub_front {P t : List UInt8} {y e : UInt8} (h : List.Sublist (y :: P) (e :: t)) (hne : y ≠ e) : List.Sublist (y :: P) t := by
  rw [List.sublist_cons_iff] at h
  rcases h with h | ⟨r, hr, _⟩
  · exact h
  · exact absurd (List.cons.inj hr).1 hne
theorem pal_parts {P : List UInt8} (h : pal P = true) : P = [] ∨ (∃ x, P = [x]) ∨ ∃ x Q, pal Q = true ∧ P = x :: (Q ++ [x]) := by
  cases P with
  | nil => exact .inl rfl
  | cons x R =>
    rcases List.eq_nil_or_concat R with rfl | ⟨Q, y, rfl⟩
    · exact .inr (.inl ⟨x, rfl⟩)
    · rw [List.concat_eq_append] at *
      have h2 : x :: (Q ++ [y]) = (x :: (Q ++ [y])).reverse := eq_of_beq h
      simp at h2
      obtain ⟨rfl, h3⟩ := h2
      have h4 : Q = Q.reverse := by simpa using h3
      exact .inr (.inr ⟨x, Q, by unfold pal; rw [← h4]; simp, rfl⟩)

theorem inner_pos (l : List UInt8) : ∀ d b, 1 ≤ d → 1 ≤ (innerAt l d b).length
  | 0, _, h => by omega
  | 1, _, _ => by simp [innerAt]
  | d + 2, b, _ => by
    by_cases he : l.getD b 0 = l.getD (b + d + 1) 0
    · rw [innerAt, if_pos he]; simp
    · rw [innerAt, if_neg he]
      have h1 := inner_pos l (d + 1) b (by omega)
      rcases better_two (innerAt l (d + 1) (b + 1)) (innerAt l (d + 1) b) with h | h <;> omega

theorem inner_best (l : List UInt8) : ∀ d b (P : List UInt8), b + d ≤ l.length → pal P = true → List.Sublist P (seg l d b) → Good (innerAt l d b) P
  | 0, b, P, _, _, hs => by
    have : P = [] := by simpa [seg] using hs
    subst this; exact Good.refl _
  | 1, b, P, h, _, hs => by
    rw [seg_first l 0 b (by omega)] at hs
    simp only [seg, List.take_zero] at hs
    rw [List.sublist_cons_iff] at hs
    rcases hs with hs | ⟨r, rfl, hr⟩
    · have : P = [] := by simpa using hs
      subst this; exact .inl (by simp [innerAt])
    · have : r = [] := by simpa using hr
      subst this; exact Good.refl _
  | d + 2, b, P, h, hp, hs => by
    by_cases he : l.getD b 0 = l.getD (b + d + 1) 0
    · rw [innerAt, if_pos he]
      rw [seg_both l d b (by omega), ← he] at hs
      rcases pal_parts hp with rfl | ⟨x, rfl⟩ | ⟨x, Q, hq, rfl⟩
      · exact .inl (by simp)
      · exact .inl (by simp)
      · by_cases hx : x = l.getD b 0
        · subst hx
          rw [List.cons_sublist_cons, List.append_sublist_append_right] at hs
          exact (inner_best l d (b + 1) Q (by omega) hq hs).wrap _
        · have h2 := sub_front hs hx
          rw [← List.cons_append] at h2
          have h3 := sub_back h2 hx
          have := inner_best l d (b + 1) _ (by omega) hp h3
          rcases this with k | ⟨k, _⟩
          · exact .inl (by simp at k ⊢; omega)
          · exact .inl (by simp at k ⊢; omega)
    · rw [innerAt, if_neg he]
      have hor : List.Sublist P (seg l (d + 1) (b + 1)) ∨ List.Sublist P (seg l (d + 1) b) := by
        rcases pal_parts hp with rfl | ⟨x, rfl⟩ | ⟨x, Q, hq, rfl⟩
        · exact .inl (List.nil_sublist _)
        · by_cases hx : x = l.getD b 0
          · right
            rw [seg_first l d b (by omega), hx]; simp
          · left
            rw [seg_first l (d + 1) b (by omega)] at hs
            exact sub_front hs hx
        · by_cases hx : x = l.getD b 0
          · right
            rw [seg_last l (d + 1) b (by omega), ← List.cons_append] at hs
            exact sub_back hs (fun e => he (by rw [← hx, e, Nat.add_assoc]))
          · left
            rw [seg_first l (d + 1) b (by omega)] at hs
            exact sub_front hs hx
      rcases hor with k | k
      · exact (better_one _ _).trans (inner_best l (d + 1) (b + 1) P (by omega) hp k)
      · exact (better_two _ _).trans (inner_best l (d + 1) b P (by omega) hp k)
end Go.Proofs.Yteejjcipdpojnaa
