/- Fractions beside each other in a row. -/
import Derived.Test.YtfelmjanffhahaaDoorBefore
import Derived.Test.YtfelmjanffhahaaDoorBet
import Derived.Test.YtfelmjanffhahaaDoorNbr
namespace Go.Proofs.YtfelmjanffhahaaDoor
set_option linter.unusedVariables false

theorem fr_det {N : Nat} (h1 : 1 ≤ N) (k : Nat) : (fr N (k + 1)).1 * (fr N k).2 = (fr N k).1 * (fr N (k + 1)).2 + 1 := (inv_st h1 k).det
theorem fr_mid {N : Nat} (h1 : 1 ≤ N) (k : Nat) : N < (fr N k).2 + (fr N (k + 1)).2 := (inv_st h1 k).big
theorem fr_pos {N : Nat} (h1 : 1 ≤ N) (k : Nat) : 1 ≤ (fr N k).2 ∧ (fr N k).2 ≤ N := ⟨(inv_st h1 k).b1, (inv_st h1 k).bn⟩
theorem fr_le {N k : Nat} (h1 : 1 ≤ N) (hk : k < len N) : (fr N k).1 ≤ (fr N k).2 := (len_spec h1).1 k hk
theorem fr_gcd {N : Nat} (h1 : 1 ≤ N) (k : Nat) : Nat.gcd (fr N k).1 (fr N k).2 = 1 := by
  have h := fr_det h1 k
  have d1 := Nat.gcd_dvd_left (fr N k).1 (fr N k).2
  have d2 := Nat.gcd_dvd_right (fr N k).1 (fr N k).2
  have d3 : Nat.gcd (fr N k).1 (fr N k).2 ∣ (fr N k).1 * (fr N (k + 1)).2 := Nat.dvd_trans d1 (Nat.dvd_mul_right _ _)
  have d4 : Nat.gcd (fr N k).1 (fr N k).2 ∣ (fr N (k + 1)).1 * (fr N k).2 := Nat.dvd_trans d2 (Nat.dvd_mul_left _ _)
  rw [h] at d4
  exact Nat.dvd_one.1 ((Nat.dvd_add_right d3).1 d4)
theorem fr_valid {N k : Nat} (h1 : 1 ≤ N) (h3 : N ≤ 300) (hk : k < len N) : validB (fr N k).1 (fr N k).2 = true :=
  valid_of (fr_pos h1 k).1 (by have := (fr_pos h1 k).2; omega) (fr_le h1 hk) (fr_gcd h1 k)
theorem fr_sum {N : Nat} (h1 : 1 ≤ N) (k : Nat) : ∃ t, (fr N k).1 + (fr N (k + 2)).1 = t * (fr N (k + 1)).1 ∧ (fr N k).2 + (fr N (k + 2)).2 = t * (fr N (k + 1)).2 := by
  obtain ⟨_, h2, h3, _, _⟩ := step_facts (inv_st h1 k)
  refine ⟨(N + (st N k).b) / (st N k).d, ?_, ?_⟩
  · show (st N k).a + ((N + (st N k).b) / (st N k).d * (st N k).c - (st N k).a) = (N + (st N k).b) / (st N k).d * (st N k).c
    omega
  · show (st N k).b + ((N + (st N k).b) / (st N k).d * (st N k).d - (st N k).b) = (N + (st N k).b) / (st N k).d * (st N k).d
    omega
theorem len_three {N : Nat} (h : 2 ≤ N) : 3 ≤ len N := by
  have h2 := (len_spec (show 1 ≤ N by omega)).2.1
  have h3 := len_two (show 1 ≤ N by omega)
  rcases Nat.lt_or_ge (len N) 3 with h4 | h4
  · exfalso
    have e : len N = 2 := by omega
    rw [e] at h2
    have e2 : (N + 1) / N = 1 := by rw [Nat.div_eq_iff (by omega)]; omega
    simp [st, stepG, e2] at h2
    omega
  · exact h4
theorem fr_one {N k : Nat} (h1 : 1 ≤ N) (hk : 1 ≤ k) : 1 ≤ (fr N k).1 := by
  have h := fr_lt h1 (i := 0) k hk
  rcases Nat.eq_zero_or_pos (fr N k).1 with e | e
  · rw [e] at h; simp at h
  · exact e
theorem lessF_fr {N i j : Nat} (h1 : 1 ≤ N) : lessF (fr N i) (fr N j) = decide (i < j) := by
  unfold lessF
  rw [Bool.eq_iff_iff, decide_eq_true_eq, decide_eq_true_eq]
  constructor
  · intro h
    rcases Nat.lt_trichotomy i j with e | e | e
    · exact e
    · subst e; omega
    · have := fr_lt h1 i e; omega
  · exact fun h => fr_lt h1 j h
theorem below_fr {N K k : Nat} (h1 : 1 ≤ N) (hK : K < len N) (h : BelowSpec N (fr N K) k) : k = K := by
  obtain ⟨h2, h3, h4⟩ := h
  rcases Nat.lt_trichotomy k K with e | e | e
  · have := h4 (by omega)
    rw [lessF_fr h1, decide_eq_false_iff_not] at this
    exact absurd e this
  · exact e
  · have := h3 K e
    rw [lessF_fr h1, decide_eq_true_eq] at this
    omega
theorem next_fr {N K : Nat} {r : (Nat × Nat) × Int} (h1 : 1 ≤ N) (hK : K + 1 < len N) (h : NextSpec N (fr N K) r) : r = (fr N (K + 1), 0) := by
  rcases h with ⟨j, h2, h3, h4, h5⟩ | ⟨h2, _⟩
  · rw [lessF_fr h1, decide_eq_true_eq] at h3
    have e : j = K + 1 := by
      rcases Nat.lt_or_ge (K + 1) j with e | e
      · have := h4 (K + 1) e
        rw [lessF_fr h1, decide_eq_false_iff_not] at this
        omega
      · omega
    rw [h5, e]
  · have := h2 (K + 1) hK
    rw [lessF_fr h1, decide_eq_false_iff_not] at this
    omega
theorem before_fr {N K : Nat} (hK : 1 ≤ K) : beforeR N K = (fr N (K - 1), 0) := by unfold beforeR; rw [if_neg (by omega)]

/-- three fractions that follow each other -/
theorem adj_facts {N K : Nat} (h1 : 2 ≤ N) (h3 : N ≤ 300) (hK : 1 ≤ K) (hK2 : K + 1 < len N) : ∃ a b c d e f t : Nat, fr N (K - 1) = (a, b) ∧ fr N K = (c, d) ∧ fr N (K + 1) = (e, f) ∧ validB a b = true ∧ validB c d = true ∧ validB e f = true ∧
    nbrB a b c d = true ∧ nbrB c d e f = true ∧ betN c d e f = ((c + e, d + f), 0) ∧ N < d + f ∧ a + e = t * c ∧ b + f = t * d ∧ 1 ≤ c ∧ 1 ≤ d ∧ a ≤ 300 ∧ b ≤ 300 ∧ c ≤ 300 ∧ d ≤ 300 ∧ e ≤ 300 ∧ f ≤ 300 := by
  have g1 : 1 ≤ N := by omega
  obtain ⟨k, rfl⟩ : ∃ k, K = k + 1 := ⟨K - 1, by omega⟩
  rw [Nat.add_sub_cancel]
  obtain ⟨t, t1, t2⟩ := fr_sum g1 k
  have v1 := fr_valid g1 h3 (show k < len N by omega)
  have v2 := fr_valid g1 h3 (show k + 1 < len N by omega)
  have v3 := fr_valid g1 h3 (show k + 1 + 1 < len N by omega)
  have d1 := fr_det g1 k
  have d2 := fr_det g1 (k + 1)
  have m := fr_mid g1 (k + 1)
  have o := fr_one g1 (show 1 ≤ k + 1 by omega)
  have p1 := fr_pos g1 k
  have p2 := fr_pos g1 (k + 1)
  have p3 := fr_pos g1 (k + 1 + 1)
  have l1 := fr_le g1 (show k < len N by omega)
  have l2 := fr_le g1 (show k + 1 < len N by omega)
  have l3 := fr_le g1 (show k + 1 + 1 < len N by omega)
  rw [show k + 2 = k + 1 + 1 from rfl] at t1 t2
  refine ⟨(fr N k).1, (fr N k).2, (fr N (k + 1)).1, (fr N (k + 1)).2, (fr N (k + 1 + 1)).1, (fr N (k + 1 + 1)).2, t, rfl, rfl, rfl, v1, v2, v3, ?_, ?_, ?_, m, t1, t2, o, p2.1, ?_⟩
  · unfold nbrB; exact decide_eq_true d1
  · unfold nbrB; exact decide_eq_true d2
  · unfold betN
    rw [if_pos (by omega), between_det p2.1 p3.1 d2, if_pos (by simp only; omega)]
  · omega
end Go.Proofs.YtfelmjanffhahaaDoor
