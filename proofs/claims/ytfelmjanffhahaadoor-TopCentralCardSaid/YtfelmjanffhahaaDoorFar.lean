/- Rows of fractions: the sequence that finds each fraction from the two before it. -/
namespace Go.Proofs.YtfelmjanffhahaaDoor
set_option linter.unusedVariables false

/-- two fractions, a/b and c/d -/
structure G where
  a : Nat
  b : Nat
  c : Nat
  d : Nat
deriving DecidableEq

/-- the next two -/
def stepG (n : Nat) (s : G) : G := ⟨s.c, s.d, (n + s.b) / s.d * s.c - s.a, (n + s.b) / s.d * s.d - s.b⟩
def st (n : Nat) : Nat → G
  | 0 => ⟨0, 1, 1, n⟩
  | k + 1 => stepG n (st n k)

structure Inv (n : Nat) (s : G) : Prop where
  b1 : 1 ≤ s.b
  bn : s.b ≤ n
  d1 : 1 ≤ s.d
  dn : s.d ≤ n
  det : s.c * s.b = s.a * s.d + 1
  big : n < s.b + s.d

theorem step_facts {n : Nat} {s : G} (h : Inv n s) : 1 ≤ (n + s.b) / s.d ∧ s.a ≤ (n + s.b) / s.d * s.c ∧ s.b < (n + s.b) / s.d * s.d ∧ (n + s.b) / s.d * s.d ≤ n + s.b ∧ n + s.b < (n + s.b) / s.d * s.d + s.d := by
  have h0 : 0 < s.d := h.d1
  have h1 : 1 ≤ (n + s.b) / s.d := (Nat.le_div_iff_mul_le h0).2 (by have := h.dn; omega)
  have h2 : (n + s.b) / s.d * s.d ≤ n + s.b := Nat.div_mul_le_self _ _
  have h3 : n + s.b < (n + s.b) / s.d * s.d + s.d := by
    have := Nat.div_add_mod (n + s.b) s.d
    have h4 := Nat.mod_lt (n + s.b) h0
    rw [Nat.mul_comm] at this; omega
  have h5 : s.b < (n + s.b) / s.d * s.d := by have := h.dn; omega
  refine ⟨h1, ?_, h5, h2, h3⟩
  generalize (n + s.b) / s.d = t at *
  have hb := h.b1
  refine Nat.le_of_mul_le_mul_right (c := s.b) ?_ hb
  rw [Nat.mul_assoc, h.det, Nat.mul_add, Nat.mul_one, ← Nat.mul_assoc, Nat.mul_comm t s.a, Nat.mul_assoc]
  exact Nat.le_trans (Nat.mul_le_mul_left s.a (Nat.le_of_lt h5)) (Nat.le_add_right _ _)

theorem Inv.step {n : Nat} {s : G} (h : Inv n s) : Inv n (stepG n s) := by
  obtain ⟨h1, h2, h3, h4, h5⟩ := step_facts h
  have hd := h.det
  have hdn := h.dn
  refine ⟨h.d1, h.dn, ?_, ?_, ?_, ?_⟩
  · simp only [stepG]; omega
  · simp only [stepG]; omega
  · simp only [stepG]
    generalize (n + s.b) / s.d = t at *
    obtain ⟨x, hx⟩ := Nat.exists_eq_add_of_le h2
    obtain ⟨y, hy⟩ := Nat.exists_eq_add_of_le (Nat.le_of_lt h3)
    rw [hx, hy, Nat.add_sub_cancel_left, Nat.add_sub_cancel_left]
    have e1 : t * s.c * s.d = (s.a + x) * s.d := by rw [hx]
    have e2 : s.c * (t * s.d) = s.c * (s.b + y) := by rw [hy]
    rw [show t * s.c * s.d = s.c * (t * s.d) from by rw [Nat.mul_comm t, Nat.mul_assoc], e2, Nat.mul_add, Nat.add_mul, hd] at e1
    omega
  · simp only [stepG]; omega

theorem inv_st {n : Nat} (hn : 1 ≤ n) : ∀ k, Inv n (st n k)
  | 0 => ⟨by simp [st], by simpa [st] using hn, by simpa [st] using hn, by simp [st], by simp [st], by simp [st]⟩
  | k + 1 => (inv_st hn k).step

theorem st_grow {n : Nat} (hn : 1 ≤ n) : ∀ k, k * (st n k).b ≤ n * n * (st n k).a
  | 0 => by simp
  | k + 1 => by
    have ih := st_grow hn k
    have h := inv_st hn k
    show (k + 1) * (st n k).d ≤ n * n * (st n k).c
    refine Nat.le_of_mul_le_mul_right (c := (st n k).b) ?_ h.b1
    generalize st n k = s at *
    have e1 : (k + 1) * s.d * s.b = k * s.b * s.d + s.b * s.d := by
      rw [Nat.add_mul, Nat.add_mul, Nat.one_mul, Nat.mul_assoc, Nat.mul_comm s.d, Nat.mul_assoc]
    have e2 : n * n * s.c * s.b = n * n * s.a * s.d + n * n := by
      rw [Nat.mul_assoc, h.det, Nat.mul_add, Nat.mul_one, ← Nat.mul_assoc]
    rw [e1, e2]
    exact Nat.add_le_add (Nat.mul_le_mul_right _ ih) (Nat.mul_le_mul h.bn h.dn)

/-- the number of fractions from the k-th one on, up to 1 -/
def lenFrom (n : Nat) : Nat → Nat → Nat
  | 0, _ => 0
  | f + 1, k => if (st n k).a ≤ (st n k).b then lenFrom n f (k + 1) + 1 else 0
def len (n : Nat) : Nat := lenFrom n (n * n + 2) 0

theorem lenFrom_spec (n : Nat) : ∀ f k, (∃ j, j < f ∧ ¬ (st n (k + j)).a ≤ (st n (k + j)).b) → (∀ j, j < lenFrom n f k → (st n (k + j)).a ≤ (st n (k + j)).b) ∧ ¬ (st n (k + lenFrom n f k)).a ≤ (st n (k + lenFrom n f k)).b ∧ lenFrom n f k < f
  | 0, k, ⟨j, hj, _⟩ => absurd hj (by omega)
  | f + 1, k, ⟨j, hj, h⟩ => by
    unfold lenFrom
    by_cases hk : (st n k).a ≤ (st n k).b
    · rw [if_pos hk]
      have hj0 : j ≠ 0 := fun e => by subst e; exact h hk
      obtain ⟨h1, h2, h3⟩ := lenFrom_spec n f (k + 1) ⟨j - 1, by omega, by rw [show k + 1 + (j - 1) = k + j from by omega]; exact h⟩
      refine ⟨fun i hi => ?_, by rw [show k + (lenFrom n f (k + 1) + 1) = k + 1 + lenFrom n f (k + 1) from by omega]; exact h2, by omega⟩
      rcases i with _ | i
      · exact hk
      · have := h1 i (by omega); rwa [show k + 1 + i = k + (i + 1) from by omega] at this
    · rw [if_neg hk]
      exact ⟨fun i hi => absurd hi (by omega), hk, by omega⟩

theorem len_spec {n : Nat} (hn : 1 ≤ n) : (∀ j, j < len n → (st n j).a ≤ (st n j).b) ∧ ¬ (st n (len n)).a ≤ (st n (len n)).b ∧ len n < n * n + 2 := by
  have := lenFrom_spec n (n * n + 2) 0 ⟨n * n + 1, by omega, by
    rw [Nat.zero_add]
    intro h
    have h1 := st_grow hn (n * n + 1)
    have h2 := Nat.le_trans h1 (Nat.mul_le_mul_left (n * n) h)
    have h3 := (inv_st hn (n * n + 1)).b1
    rw [Nat.add_mul, Nat.one_mul] at h2
    omega⟩
  simp only [Nat.zero_add] at this
  exact this

/-- the row of n -/
def fr (n k : Nat) : Nat × Nat := ((st n k).a, (st n k).b)
def rowL (n : Nat) : List (Nat × Nat) := (List.range (len n)).map (fr n)
theorem rowL_length (n : Nat) : (rowL n).length = len n := by simp [rowL]
theorem rowL_get {n k : Nat} (h : k < len n) : (rowL n)[k]? = some (fr n k) := by simp [rowL, h]

/-- the fractions ascend -/
theorem fr_lt {n : Nat} (hn : 1 ≤ n) {i : Nat} : ∀ j, i < j → (fr n i).1 * (fr n j).2 < (fr n j).1 * (fr n i).2
  | 0, h => absurd h (by omega)
  | j + 1, h => by
    have hj := inv_st hn j
    have e1 : (fr n (j + 1)).1 * (fr n j).2 = (fr n j).1 * (fr n (j + 1)).2 + 1 := hj.det
    have hi := (inv_st hn i).b1
    have hb := hj.b1
    rcases Nat.lt_or_eq_of_le (Nat.le_of_lt_succ h) with h1 | h1
    · have ih := fr_lt hn j h1
      have hd : 1 ≤ (fr n (j + 1)).2 := hj.d1
      have hi' : 1 ≤ (fr n i).2 := hi
      have hb' : 1 ≤ (fr n j).2 := hb
      generalize fr n i = x at *
      generalize fr n j = y at *
      generalize fr n (j + 1) = z at *
      refine Nat.lt_of_mul_lt_mul_right (a := y.2) ?_
      have e2 : x.1 * z.2 * y.2 ≤ y.1 * x.2 * z.2 := by
        rw [Nat.mul_assoc, Nat.mul_comm z.2, ← Nat.mul_assoc]
        exact Nat.mul_le_mul_right _ (Nat.le_of_lt ih)
      have e3 : z.1 * x.2 * y.2 = y.1 * x.2 * z.2 + x.2 := by
        rw [Nat.mul_assoc, Nat.mul_comm x.2, ← Nat.mul_assoc, e1, Nat.add_mul, Nat.one_mul, Nat.mul_assoc, Nat.mul_comm z.2, ← Nat.mul_assoc]
      omega
    · subst h1; omega

/-- 0/1 and 1/1 are in the row, and its last fraction is 1/1. -/
theorem len_two {n : Nat} (hn : 1 ≤ n) : 2 ≤ len n := by
  have h := (len_spec hn).2.1
  rcases Nat.lt_or_ge (len n) 2 with h2 | h2
  · exfalso
    rcases (show len n = 0 ∨ len n = 1 by omega) with e | e
    · rw [e] at h; simp [st] at h
    · rw [e] at h; simp [st, stepG] at h; omega
  · exact h2
theorem fr_last {n : Nat} (hn : 1 ≤ n) : fr n (len n - 1) = (1, 1) := by
  obtain ⟨h1, h2, _⟩ := len_spec hn
  have hl := len_two hn
  have ha := h1 (len n - 1) (by omega)
  have hi := inv_st hn (len n - 1)
  have hs : st n (len n) = stepG n (st n (len n - 1)) := by rw [show len n = (len n - 1) + 1 from by omega]; rfl
  rw [hs] at h2
  simp only [stepG] at h2
  have hd := hi.det
  unfold fr
  generalize st n (len n - 1) = s at *
  -- a ≤ b, c > d, c b = a d + 1
  have hb := hi.b1
  obtain ⟨e, he⟩ := Nat.exists_eq_add_of_le ha
  obtain ⟨x, hx⟩ := Nat.exists_eq_add_of_lt (Nat.lt_of_not_le h2)
  have : (s.d + x + 1) * s.b = s.d * s.b + (x + 1) * s.b := by rw [Nat.add_assoc, Nat.add_mul]
  rw [hx, this, he, Nat.mul_add, Nat.mul_add, Nat.mul_comm s.d s.a] at hd
  have h3 : (x + 1) * s.a + (x + 1) * e + s.d * e = 1 := by omega
  have h4 : s.d * e = 0 ∨ 1 ≤ s.d * e := by omega
  have e0 : e = 0 := by
    rcases Nat.eq_zero_or_pos e with h | h
    · exact h
    · have p1 : 1 ≤ s.d * e := Nat.mul_pos hi.d1 h
      have p2 : 1 ≤ (x + 1) * e := Nat.mul_pos (by omega) h
      omega
  subst e0
  have h5 : (x + 1) * s.a = 1 := by simpa using h3
  have h6 : s.a = 1 := by
    have := Nat.eq_one_of_mul_eq_one_left h5
    exact this
  rw [he, h6]
end Go.Proofs.YtfelmjanffhahaaDoor
