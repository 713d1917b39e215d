/- Rows: all fractions in lowest terms are in them; how many they are, and the row from its end. -/
import Derived.Test.YtfelmjanffhahaaDoorAdj
import Derived.Test.YtfelmjanffhahaaDoorBtw
import Derived.Test.YtfelmjanffhahaaDoorRow
import Derived.Test.YtfelmjanffhahaaDoorTame
namespace Go.Proofs.YtfelmjanffhahaaDoor
set_option linter.unusedVariables false

theorem sorted_ext {α : Type} {R : α → α → Prop} (hirr : ∀ a, ¬ R a a) (hasym : ∀ a b, R a b → ¬ R b a) : ∀ {l m : List α}, l.Pairwise R → m.Pairwise R → (∀ x, x ∈ l ↔ x ∈ m) → l = m
  | [], m, _, _, h => by
    cases m with
    | nil => rfl
    | cons b m => have := (h b).2 (by simp); simp at this
  | a :: l, [], _, _, h => by have := (h a).1 (by simp); simp at this
  | a :: l, b :: m, hl, hm, h => by
    rw [List.pairwise_cons] at hl hm
    have e : a = b := by
      rcases List.mem_cons.1 ((h a).1 (by simp)) with e | e
      · exact e
      · rcases List.mem_cons.1 ((h b).2 (by simp)) with f | f
        · exact f.symm
        · exact absurd (hl.1 b f) (hasym _ _ (hm.1 a e))
    subst e
    refine congrArg (a :: ·) (sorted_ext hirr hasym hl.2 hm.2 fun x => ⟨fun hx => ?_, fun hx => ?_⟩)
    · rcases List.mem_cons.1 ((h x).1 (by simp [hx])) with e | e
      · subst e; exact absurd (hl.1 x hx) (hirr x)
      · exact e
    · rcases List.mem_cons.1 ((h x).2 (by simp [hx])) with e | e
      · subst e; exact absurd (hm.1 x hx) (hirr x)
      · exact e

def LtF (x y : Nat × Nat) : Prop := x.1 * y.2 < y.1 * x.2
theorem LtF_irr (x : Nat × Nat) : ¬ LtF x x := by unfold LtF; omega
theorem LtF_asym (x y : Nat × Nat) (h : LtF x y) : ¬ LtF y x := by unfold LtF at *; omega
theorem frs_sorted {N : Nat} (h1 : 1 ≤ N) (k : Nat) : (frs N k).Pairwise LtF := by
  unfold frs
  rw [List.pairwise_map]
  exact List.Pairwise.imp (fun {a b} h => fr_lt h1 b h) List.pairwise_lt_range

/-- in lowest terms, from 0 to 1, with a denominator of at most N -/
def Low (N : Nat) (x : Nat × Nat) : Prop := 1 ≤ x.2 ∧ x.2 ≤ N ∧ x.1 ≤ x.2 ∧ Nat.gcd x.1 x.2 = 1
theorem fr_low {N k : Nat} (h1 : 1 ≤ N) (hk : k < len N) : Low N (fr N k) := ⟨(fr_pos h1 k).1, (fr_pos h1 k).2, fr_le h1 hk, fr_gcd h1 k⟩
theorem least_idx {P : Nat → Prop} [DecidablePred P] : ∀ {n : Nat}, P n → ∃ k, k ≤ n ∧ P k ∧ ∀ j, j < k → ¬ P j
  | 0, h => ⟨0, Nat.le_refl _, h, fun j hj => absurd hj (by omega)⟩
  | n + 1, h => by
    by_cases e : ∃ j, j ≤ n ∧ P j
    · obtain ⟨j, hj, hp⟩ := e
      obtain ⟨k, h1, h2, h3⟩ := least_idx hp
      exact ⟨k, by omega, h2, h3⟩
    · exact ⟨n + 1, Nat.le_refl _, h, fun j hj hp => e ⟨j, by omega, hp⟩⟩
theorem low_eq {a b c d : Nat} (h1 : Nat.gcd a b = 1) (h2 : Nat.gcd c d = 1) (hb : 1 ≤ b) (h : a * d = c * b) : a = c ∧ b = d := by
  have e1 : b ∣ d := Nat.Coprime.dvd_of_dvd_mul_left ((Nat.gcd_comm b a).trans h1) ⟨c, by rw [h, Nat.mul_comm]⟩
  have e2 : d ∣ b := Nat.Coprime.dvd_of_dvd_mul_left ((Nat.gcd_comm d c).trans h2) ⟨a, by rw [← h, Nat.mul_comm]⟩
  have e3 := Nat.dvd_antisymm e1 e2
  subst e3
  exact ⟨Nat.eq_of_mul_eq_mul_right hb h, rfl⟩
theorem low_fr {N : Nat} (h1 : 1 ≤ N) {x : Nat × Nat} (h : Low N x) : ∃ k, k < len N ∧ fr N k = x := by
  obtain ⟨b1, bn, hab, hg⟩ := h
  obtain ⟨a, b⟩ := x
  simp only at b1 bn hab hg
  have hlen := len_two h1
  have hP : ¬ LtF (fr N (len N - 1)) (a, b) := by unfold LtF; rw [fr_last h1]; simp only; omega
  letI hdec : DecidablePred fun k => ¬ LtF (fr N k) (a, b) := fun k => (inferInstance : Decidable (¬ ((fr N k).1 * b < a * (fr N k).2)))
  obtain ⟨k, hk, hk1, hk2⟩ := least_idx (P := fun k => ¬ LtF (fr N k) (a, b)) hP
  have hkl : k < len N := by omega
  refine ⟨k, hkl, ?_⟩
  have hlow := fr_low h1 hkl
  rcases Nat.lt_or_eq_of_le (show a * (fr N k).2 ≤ (fr N k).1 * b by unfold LtF at hk1; simp only at hk1; omega) with e | e
  · exfalso
    cases k with
    | zero => simp [fr, st] at e
    | succ k =>
      have h2 : LtF (fr N k) (a, b) := by
        have := hk2 k (by omega)
        exact Classical.not_not.1 this
      unfold LtF at h2
      simp only at h2
      have hd := fr_det h1 k
      have hm := fr_mid h1 k
      have hbd := between_det (fr_pos h1 k).1 (fr_pos h1 (k + 1)).1 hd
      have hbs := (between_spec (fr_pos h1 k).1 (show (fr N k).1 * (fr N (k + 1)).2 < (fr N (k + 1)).1 * (fr N k).2 by omega)).2.2.2.2.2 a b h2 e
      rw [hbd] at hbs
      have := hbs.2
      simp only at this
      omega
  · obtain ⟨e1, e2⟩ := low_eq hg hlow.2.2.2 b1 e
    rw [e1, e2]
theorem mem_row {N : Nat} (h1 : 1 ≤ N) (x : Nat × Nat) : x ∈ frs N (len N) ↔ Low N x := by
  unfold frs
  rw [List.mem_map]
  constructor
  · rintro ⟨k, hk, rfl⟩
    exact fr_low h1 (List.mem_range.1 hk)
  · intro h
    obtain ⟨k, hk, e⟩ := low_fr h1 h
    exact ⟨k, List.mem_range.2 hk, e⟩

/-- how many of 1 .. i have no divisor with N -/
def phi (N : Nat) : Nat → Nat
  | 0 => 0
  | i + 1 => if Nat.gcd (i + 1) N = 1 then phi N i + 1 else phi N i
def units (N : Nat) : Nat → List (Nat × Nat)
  | 0 => []
  | i + 1 => if Nat.gcd (i + 1) N = 1 then units N i ++ [(i + 1, N)] else units N i
theorem units_length (N : Nat) : ∀ i, (units N i).length = phi N i
  | 0 => rfl
  | i + 1 => by
    unfold units phi
    split
    · rw [List.length_append, units_length N i]; rfl
    · exact units_length N i
theorem mem_units {N : Nat} : ∀ {i : Nat} {x : Nat × Nat}, x ∈ units N i ↔ 1 ≤ x.1 ∧ x.1 ≤ i ∧ x.2 = N ∧ Nat.gcd x.1 N = 1
  | 0, x => by simp [units]; omega
  | i + 1, x => by
    unfold units
    have ih := @mem_units N i x
    by_cases h : Nat.gcd (i + 1) N = 1
    · rw [if_pos h, List.mem_append, ih, List.mem_singleton]
      constructor
      · rintro (h2 | h2)
        · exact ⟨h2.1, by omega, h2.2.2⟩
        · subst h2; exact ⟨by simp, by simp, rfl, h⟩
      · rintro ⟨h2, h3, h4, h5⟩
        by_cases e : x.1 = i + 1
        · exact .inr (Prod.ext e h4)
        · exact .inl ⟨h2, by omega, h4, h5⟩
    · rw [if_neg h, ih]
      constructor
      · rintro ⟨h2, h3, h4⟩
        exact ⟨h2, by omega, h4⟩
      · rintro ⟨h2, h3, h4, h5⟩
        refine ⟨h2, ?_, h4, h5⟩
        by_cases e : x.1 = i + 1
        · rw [e] at h5; exact absurd h5 h
        · omega
theorem units_sorted {N : Nat} (h1 : 1 ≤ N) : ∀ i, (units N i).Pairwise LtF
  | 0 => by simp [units]
  | i + 1 => by
    unfold units
    split
    · rw [List.pairwise_append]
      refine ⟨units_sorted h1 i, by simp, fun x hx y hy => ?_⟩
      rw [List.mem_singleton] at hy
      subst hy
      obtain ⟨_, h3, h4, _⟩ := mem_units.1 hx
      unfold LtF
      simp only
      rw [h4]
      exact Nat.mul_lt_mul_of_pos_right (by omega) h1
    · exact units_sorted h1 i

theorem filter_both {α : Type} (f : α → Bool) : ∀ l : List α, l.length = (l.filter f).length + (l.filter fun x => !f x).length
  | [] => rfl
  | a :: l => by
    have ih := filter_both f l
    cases h : f a <;> simp [h] <;> omega

/-- The row of N has as many fractions more than that of N - 1 as there are numbers without a divisor with N. -/
theorem len_phi {N : Nat} (h2 : 2 ≤ N) : len N = len (N - 1) + phi N N := by
  have e1 : (frs N (len N)).filter (fun x => decide (x.2 < N)) = frs (N - 1) (len (N - 1)) := by
    refine sorted_ext LtF_irr LtF_asym ((frs_sorted (by omega) _).filter _) (frs_sorted (by omega) _) fun x => ?_
    rw [List.mem_filter, mem_row (by omega), mem_row (by omega), decide_eq_true_eq]
    unfold Low
    constructor
    · rintro ⟨⟨h3, h4, h5, h6⟩, h7⟩
      exact ⟨h3, by omega, h5, h6⟩
    · rintro ⟨h3, h4, h5, h6⟩
      exact ⟨⟨h3, by omega, h5, h6⟩, by omega⟩
  have e2 : (frs N (len N)).filter (fun x => !decide (x.2 < N)) = units N N := by
    refine sorted_ext LtF_irr LtF_asym ((frs_sorted (by omega) _).filter _) (units_sorted (by omega) _) fun x => ?_
    rw [List.mem_filter, mem_row (by omega), mem_units, Bool.not_eq_true', decide_eq_false_iff_not]
    unfold Low
    constructor
    · rintro ⟨⟨h3, h4, h5, h6⟩, h7⟩
      have e : x.2 = N := by omega
      rw [e] at h6
      refine ⟨?_, by omega, e, h6⟩
      rcases Nat.eq_zero_or_pos x.1 with h | h
      · rw [h, Nat.gcd_zero_left] at h6; omega
      · exact h
    · rintro ⟨h3, h4, h5, h6⟩
      exact ⟨⟨by omega, by omega, by omega, by rw [h5]; exact h6⟩, by omega⟩
  have e3 := filter_both (fun x : Nat × Nat => decide (x.2 < N)) (frs N (len N))
  rw [e1, e2, units_length, frs_length, frs_length] at e3
  exact e3

/-- 1 minus the fraction at a position is as far from the end -/
theorem fr_rest {N k : Nat} (h1 : 1 ≤ N) (hk : k < len N) : fr N (len N - 1 - k) = ((fr N k).2 - (fr N k).1, (fr N k).2) := by
  have e : frs N (len N) = (frs N (len N)).reverse.map fun x => (x.2 - x.1, x.2) := by
    refine sorted_ext LtF_irr LtF_asym (frs_sorted h1 _) ?_ fun x => ?_
    · rw [List.pairwise_map, List.pairwise_reverse]
      refine List.Pairwise.imp_of_mem (fun {a b} ha hb h => ?_) (frs_sorted h1 _)
      rw [mem_row h1] at ha hb
      unfold LtF at *
      simp only
      rw [Nat.sub_mul, Nat.sub_mul, Nat.mul_comm b.2 a.2]
      have l1 : b.1 * a.2 ≤ a.2 * b.2 := by rw [Nat.mul_comm a.2]; exact Nat.mul_le_mul_right _ hb.2.2.1
      have l2 : a.1 * b.2 ≤ a.2 * b.2 := Nat.mul_le_mul_right _ ha.2.2.1
      omega
    · rw [List.mem_map]
      constructor
      · intro hx
        refine ⟨(x.2 - x.1, x.2), ?_, ?_⟩
        · rw [List.mem_reverse]
          rw [mem_row h1] at hx ⊢
          exact ⟨hx.1, hx.2.1, by simp, by simp only; rw [Nat.gcd_comm, Nat.gcd_self_sub_right hx.2.2.1, Nat.gcd_comm]; exact hx.2.2.2⟩
        · rw [mem_row h1] at hx
          exact Prod.ext (by simp only; have := hx.2.2.1; omega) rfl
      · rintro ⟨y, hy, rfl⟩
        rw [List.mem_reverse, mem_row h1] at hy
        rw [mem_row h1]
        exact ⟨hy.1, hy.2.1, by simp, by simp only; rw [Nat.gcd_comm, Nat.gcd_self_sub_right hy.2.2.1, Nat.gcd_comm]; exact hy.2.2.2⟩
  have h2 : (frs N (len N))[len N - 1 - k]? = ((frs N (len N)).reverse.map fun x => (x.2 - x.1, x.2))[len N - 1 - k]? := congrArg (fun l : List (Nat × Nat) => l[len N - 1 - k]?) e
  rw [frs_get (by omega), List.getElem?_map, List.getElem?_reverse (by rw [frs_length]; omega), frs_length, show len N - 1 - (len N - 1 - k) = k from by omega, frs_get hk] at h2
  exact Option.some.inj h2
end Go.Proofs.YtfelmjanffhahaaDoor
