/- Plain facts of Inner, Outer and the closure: their lengths. -/
import Derived.Test.YteejjcipdpojnaaOut
import Derived.Test.YteejjcipdpojnaaCen
namespace Go.Proofs.Yteejjcipdpojnaa
set_option linter.unusedVariables false

theorem out_inner_len (l : List UInt8) : ∀ d b, (outAt l d b).length + (innerAt l d b).length = 2 * d
  | 0, _ => rfl
  | 1, _ => rfl
  | d + 2, b => by
    have h0 := out_inner_len l d (b + 1)
    have h1 := out_inner_len l (d + 1) (b + 1)
    have h2 := out_inner_len l (d + 1) b
    by_cases he : l.getD b 0 = l.getD (b + d + 1) 0
    · have e1 : outAt l (d + 2) b = l.getD b 0 :: (outAt l d (b + 1) ++ [l.getD b 0]) := by rw [outAt, if_pos he]
      have e2 : innerAt l (d + 2) b = l.getD b 0 :: (innerAt l d (b + 1) ++ [l.getD b 0]) := by rw [innerAt, if_pos he]
      rw [e1, e2]; simp; omega
    · have e2 : innerAt l (d + 2) b = betterL (innerAt l (d + 1) (b + 1)) (innerAt l (d + 1) b) := by rw [innerAt, if_neg he]
      obtain ⟨k1, k2, k3⟩ := betterL_len (innerAt l (d + 1) (b + 1)) (innerAt l (d + 1) b)
      rw [e2]
      have k4 : (betterL (innerAt l (d + 1) (b + 1)) (innerAt l (d + 1) b)).length = max (innerAt l (d + 1) (b + 1)).length (innerAt l (d + 1) b).length := by
        rcases k3 with h | h
        · rw [h] at k2 ⊢; omega
        · rw [h] at k1 ⊢; omega
      rw [k4]
      by_cases hc : (innerAt l (d + 1) b).length ≤ (innerAt l (d + 1) (b + 1)).length
      · have e1 : outAt l (d + 2) b = l.getD b 0 :: (outAt l (d + 1) (b + 1) ++ [l.getD b 0]) := by rw [outAt, if_neg he, if_pos hc]
        rw [e1, List.length_cons, List.length_append, List.length_singleton]; omega
      · have e1 : outAt l (d + 2) b = l.getD (b + d + 1) 0 :: (outAt l (d + 1) b ++ [l.getD (b + d + 1) 0]) := by rw [outAt, if_neg he, if_neg hc]
        rw [e1, List.length_cons, List.length_append, List.length_singleton]; omega

/-- Inner is at least as long as any palindrome among the letters. -/
theorem inner_ge (l : List UInt8) : ∀ d b x y, b ≤ x → y ≤ b + d → PalAt l x y → y - x ≤ (innerAt l d b).length
  | 0, b, x, y, _, _, _ => by simp [innerAt]; omega
  | 1, b, x, y, _, _, _ => by simp [innerAt]; omega
  | d + 2, b, x, y, h1, h2, hp => by
    by_cases he : l.getD b 0 = l.getD (b + d + 1) 0
    · have e2 : innerAt l (d + 2) b = l.getD b 0 :: (innerAt l d (b + 1) ++ [l.getD b 0]) := by rw [innerAt, if_pos he]
      rw [e2, List.length_cons, List.length_append, List.length_singleton]
      have := inner_ge l d (b + 1) (x + 1) (y - 1) (by omega)
      rcases Nat.lt_or_ge y 1 with k | k
      · omega
      · have h := this (by omega) (hp.shrink 1 k)
        omega
    · have e2 : innerAt l (d + 2) b = betterL (innerAt l (d + 1) (b + 1)) (innerAt l (d + 1) b) := by rw [innerAt, if_neg he]
      rw [e2]
      obtain ⟨k1, k2, _⟩ := betterL_len (innerAt l (d + 1) (b + 1)) (innerAt l (d + 1) b)
      rcases Nat.lt_or_ge b x with k | k
      · have := inner_ge l (d + 1) (b + 1) x y (by omega) (by omega) hp; omega
      · rcases Nat.lt_or_ge y (b + d + 2) with j | j
        · have := inner_ge l (d + 1) b x y (by omega) (by omega) hp; omega
        · exfalso
          apply he
          have := hp b (by omega) (by omega)
          rwa [show x + y - 1 - b = b + d + 1 from by omega] at this

theorem closL_size (l : List UInt8) : (closL l).length = 2 * l.length - longEnd l := by
  have := longEnd_le l
  unfold closL; rw [List.length_append, List.length_reverse, List.length_take]; omega
theorem closL_pal (l : List UInt8) : pal (closL l) = true := by
  have h := pal_rev (longEnd_pal l)
  obtain ⟨P, hP⟩ : ∃ P, l.take (l.length - longEnd l) = P := ⟨_, rfl⟩
  obtain ⟨Q, hQ⟩ : ∃ Q, l.drop (l.length - longEnd l) = Q := ⟨_, rfl⟩
  rw [hQ] at h
  have hl : l = P ++ Q := by rw [← hP, ← hQ, List.take_append_drop]
  unfold closL
  rw [hP]
  unfold pal
  rw [beq_iff_eq]
  rw [hl, List.reverse_append, List.reverse_reverse, List.reverse_append, h, List.append_assoc]
theorem outL_le (l : List UInt8) : (outL l).length ≤ 2 * l.length - longEnd l := by
  have h1 := out_inner_len l l.length 0
  have h2 := longEnd_pal l
  have h3 := longEnd_le l
  have h4 := (palAt_iff l (l.length - longEnd l) l.length (by omega) (Nat.le_refl _)).1 (by rw [List.take_length]; exact h2)
  have h5 := inner_ge l l.length 0 (l.length - longEnd l) l.length (Nat.zero_le _) (by omega) h4
  unfold outL; omega
theorem closB_begin (s : ByteArray) : (closB s).extract 0 s.size = s := by
  rw [← mk_data ((closB s).extract 0 s.size), part_data, closB_data]
  unfold closL
  rw [List.drop_zero, List.take_append_of_le_length (by rw [data_length]; omega), List.take_of_length_le (by rw [data_length]; omega), mk_data]

theorem tame_word2 (l : List UInt8) (m : Nat) (hm : m ≤ 100) : wordB (tameL l m) = true := by
  unfold wordB
  rw [Bool.and_eq_true, decide_eq_true_eq]
  refine ⟨by unfold tameL; rw [List.length_map, List.length_take]; omega, ?_⟩
  rw [List.all_eq_true]
  intro x hx
  obtain ⟨c, _, rfl⟩ := List.mem_map.1 hx
  have h := tame_byte c
  have h1 := Int.emod_nonneg (c.toNat : Int) (b := 4) (by decide)
  have h2 := Int.emod_lt_of_pos (c.toNat : Int) (b := 4) (by decide)
  exact letter_yes (by omega) (by omega)
end Go.Proofs.Yteejjcipdpojnaa
