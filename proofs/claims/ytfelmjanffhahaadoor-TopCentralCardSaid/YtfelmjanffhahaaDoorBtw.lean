/- The simplest fraction between two: what the search finds, and that nothing between is simpler. -/
namespace Go.Proofs.YtfelmjanffhahaaDoor
set_option linter.unusedVariables false

/-- the simplest fraction between a/b and c/d, found with so many steps -/
def btw : Nat → Nat → Nat → Nat → Nat → Nat × Nat
  | 0, _, _, _, _ => (0, 1)
  | f + 1, a, b, c, d => if (a / b + 1) * d < c then (a / b + 1, 1) else
    (a / b * (btw f d (c - a / b * d) b (a - a / b * b)).1 + (btw f d (c - a / b * d) b (a - a / b * b)).2, (btw f d (c - a / b * d) b (a - a / b * b)).1)

theorem btw_facts {a b c d : Nat} (hb : 1 ≤ b) (h : a * d < c * b) (hn : ¬ (a / b + 1) * d < c) : a / b * b ≤ a ∧ a / b * d < c ∧ a - a / b * b < b ∧ c - a / b * d ≤ d ∧ 1 ≤ d ∧ d * (a - a / b * b) < b * (c - a / b * d) := by
  have h1 : a / b * b ≤ a := Nat.div_mul_le_self _ _
  have h2 : a < a / b * b + b := by
    have := Nat.div_add_mod a b
    have h4 := Nat.mod_lt a hb
    rw [Nat.mul_comm] at this; omega
  generalize a / b = q at *
  have h3 : q * d < c := by
    refine Nat.lt_of_mul_lt_mul_right (a := b) ?_
    rw [show q * d * b = q * b * d from by rw [Nat.mul_assoc, Nat.mul_comm d, ← Nat.mul_assoc]]
    exact Nat.lt_of_le_of_lt (Nat.mul_le_mul_right _ h1) h
  have h4 : c ≤ q * d + d := by rw [Nat.add_mul, Nat.one_mul] at hn; omega
  refine ⟨h1, h3, by omega, by omega, by omega, ?_⟩
  obtain ⟨x, rfl⟩ := Nat.exists_eq_add_of_le h1
  obtain ⟨y, rfl⟩ := Nat.exists_eq_add_of_le (Nat.le_of_lt h3)
  rw [Nat.add_sub_cancel_left, Nat.add_sub_cancel_left]
  rw [Nat.add_mul, Nat.add_mul, show q * d * b = q * b * d from by rw [Nat.mul_assoc, Nat.mul_comm d, ← Nat.mul_assoc]] at h
  rw [Nat.mul_comm d, Nat.mul_comm b]; omega

/-- what is found lies between, is at most the middle, and nothing between has a smaller Num or Den -/
theorem btw_spec : ∀ (f a b c d : Nat), b + d < f + 1 → 1 ≤ b → a * d < c * b →
    a * (btw f a b c d).2 < (btw f a b c d).1 * b ∧ (btw f a b c d).1 * d < c * (btw f a b c d).2 ∧ 1 ≤ (btw f a b c d).2 ∧ (btw f a b c d).1 ≤ a + c ∧ (btw f a b c d).2 ≤ b + d ∧
    ∀ p r, a * r < p * b → p * d < c * r → (btw f a b c d).1 ≤ p ∧ (btw f a b c d).2 ≤ r
  | 0, a, b, c, d, hf, hb, h => absurd hf (by omega)
  | f + 1, a, b, c, d, hf, hb, h => by
    by_cases hn : (a / b + 1) * d < c
    · unfold btw; rw [if_pos hn]
      have h2 : a < a / b * b + b := by
        have := Nat.div_add_mod a b
        have h4 := Nat.mod_lt a hb
        rw [Nat.mul_comm] at this; omega
      have h1 : a / b * b ≤ a := Nat.div_mul_le_self _ _
      have h0 : a / b ≤ a := Nat.div_le_self _ _
      generalize a / b = q at *
      have hc0 : 0 < c := by omega
      refine ⟨by simp only [Nat.mul_one, Nat.add_mul, Nat.one_mul]; exact h2, by simpa using hn, Nat.le_refl _, by simp only; omega, by simp only; omega, ?_⟩
      intro p r k1 k2
      have hr : 1 ≤ r := by
        rcases Nat.eq_zero_or_pos r with e | e
        · subst e; simp at k2
        · exact e
      refine ⟨?_, hr⟩
      have h5 : q * r < p := by
        refine Nat.lt_of_mul_lt_mul_right (a := b) ?_
        rw [show q * r * b = q * b * r from by rw [Nat.mul_assoc, Nat.mul_comm r, ← Nat.mul_assoc]]
        exact Nat.lt_of_le_of_lt (Nat.mul_le_mul_right _ h1) k1
      have := Nat.mul_le_mul_left q hr
      simp only; omega
    · obtain ⟨h1, h3, h4, h5, h6, h7⟩ := btw_facts hb h hn
      have ih := btw_spec f d (c - a / b * d) b (a - a / b * b) (by omega) (by omega) h7
      unfold btw; rw [if_neg hn]
      generalize hX : (btw f d (c - a / b * d) b (a - a / b * b)).1 = X at *
      generalize hY : (btw f d (c - a / b * d) b (a - a / b * b)).2 = Y at *
      clear hX hY
      generalize a / b = q at *
      obtain ⟨i1, i2, i3, i4, i5, i6⟩ := ih
      obtain ⟨x, rfl⟩ := Nat.exists_eq_add_of_le h1
      obtain ⟨y, rfl⟩ := Nat.exists_eq_add_of_le (Nat.le_of_lt h3)
      rw [Nat.add_sub_cancel_left] at *
      rw [Nat.add_sub_cancel_left] at *
      have c1 : ∀ t : Nat, q * b * t = t * q * b := fun t => by rw [Nat.mul_comm, Nat.mul_assoc]
      have hX1 : 1 ≤ X := by
        rcases Nat.eq_zero_or_pos X with e | e
        · subst e; rw [Nat.zero_mul] at i1; omega
        · exact e
      refine ⟨?_, ?_, hX1, ?_, by simp only; omega, ?_⟩
      · simp only
        rw [Nat.add_mul, Nat.add_mul, show q * b * X = q * X * b from by rw [Nat.mul_assoc, Nat.mul_comm b, ← Nat.mul_assoc], Nat.mul_comm x, Nat.mul_comm Y]; omega
      · simp only
        rw [Nat.add_mul, Nat.add_mul, show q * d * X = q * X * d from by rw [Nat.mul_assoc, Nat.mul_comm d, ← Nat.mul_assoc], Nat.mul_comm Y, Nat.mul_comm y]; omega
      · simp only
        have h8 : q * X ≤ q * (d + b) := Nat.mul_le_mul_left _ i4
        rw [Nat.mul_add] at h8
        omega
      · intro p r k1 k2
        have h8 : q * r < p := by
          refine Nat.lt_of_mul_lt_mul_right (a := b) ?_
          rw [show q * r * b = q * b * r from by rw [Nat.mul_assoc, Nat.mul_comm r, ← Nat.mul_assoc]]
          exact Nat.lt_of_le_of_lt (Nat.mul_le_mul_right _ h1) k1
        obtain ⟨z, rfl⟩ := Nat.exists_eq_add_of_le (Nat.le_of_lt h8)
        have j := i6 r z (by
          rw [Nat.add_mul, Nat.add_mul, show q * d * r = q * r * d from by rw [Nat.mul_assoc, Nat.mul_comm d, ← Nat.mul_assoc]] at k2
          rw [Nat.mul_comm d, Nat.mul_comm r]; omega) (by
          rw [Nat.add_mul, Nat.add_mul, show q * b * r = q * r * b from by rw [Nat.mul_assoc, Nat.mul_comm b, ← Nat.mul_assoc]] at k1
          rw [Nat.mul_comm r, Nat.mul_comm b]; omega)
        refine ⟨?_, j.1⟩
        simp only
        have := Nat.mul_le_mul_left q j.1
        omega

/-- the simplest fraction between two -/
def between (a b c d : Nat) : Nat × Nat := btw (b + d) a b c d
theorem btw_fuel {f g a b c d : Nat} (hf : b + d ≤ f) (hg : b + d ≤ g) (hb : 1 ≤ b) (h : a * d < c * b) : btw f a b c d = btw g a b c d := by
  obtain ⟨u1, u2, u3, _, _, u4⟩ := btw_spec f a b c d (by omega) hb h
  obtain ⟨v1, v2, v3, _, _, v4⟩ := btw_spec g a b c d (by omega) hb h
  have h1 := u4 _ _ v1 v2
  have h2 := v4 _ _ u1 u2
  exact Prod.ext (by omega) (by omega)
theorem between_unfold {a b c d : Nat} (hb : 1 ≤ b) (h : a * d < c * b) : between a b c d = if (a / b + 1) * d < c then (a / b + 1, 1) else
    (a / b * (between d (c - a / b * d) b (a - a / b * b)).1 + (between d (c - a / b * d) b (a - a / b * b)).2, (between d (c - a / b * d) b (a - a / b * b)).1) := by
  unfold between
  obtain ⟨f, hf⟩ : ∃ f, b + d = f + 1 := ⟨b + d - 1, by omega⟩
  rw [hf]
  by_cases hn : (a / b + 1) * d < c
  · unfold btw; rw [if_pos hn, if_pos hn]
  · obtain ⟨h1, h3, h4, h5, h6, h7⟩ := btw_facts hb h hn
    rw [btw, if_neg hn, if_neg hn, btw_fuel (f := f) (g := c - a / b * d + (a - a / b * b)) (by omega) (Nat.le_refl _) (by omega) h7]
theorem between_spec {a b c d : Nat} (hb : 1 ≤ b) (h : a * d < c * b) :
    a * (between a b c d).2 < (between a b c d).1 * b ∧ (between a b c d).1 * d < c * (between a b c d).2 ∧ 1 ≤ (between a b c d).2 ∧ (between a b c d).1 ≤ a + c ∧ (between a b c d).2 ≤ b + d ∧
    ∀ p r, a * r < p * b → p * d < c * r → (between a b c d).1 ≤ p ∧ (between a b c d).2 ≤ r := btw_spec _ _ _ _ _ (by omega) hb h

/-- The simplest fraction between neighbors is their middle. -/
theorem between_det {a b c d : Nat} (hb : 1 ≤ b) (hd : 1 ≤ d) (h : c * b = a * d + 1) : between a b c d = (a + c, b + d) := by
  have hs := between_spec (a := a) (b := b) (c := c) (d := d) hb (by omega)
  obtain ⟨h1, h2, _, h4, h5, _⟩ := hs
  generalize between a b c d = m at *
  obtain ⟨p, r⟩ := m
  simp only at *
  -- b (c r - p d) + d (p b - a r) = r
  obtain ⟨x, hx⟩ := Nat.exists_eq_add_of_lt h1
  obtain ⟨y, hy⟩ := Nat.exists_eq_add_of_lt h2
  have e1 : c * r * b = p * d * b + (y + 1) * b := by rw [hy, ← Nat.add_mul]; rw [Nat.add_assoc]
  have e2 : p * b * d = a * r * d + (x + 1) * d := by rw [hx, ← Nat.add_mul]; rw [Nat.add_assoc]
  have e3 : c * r * b = a * d * r + r := by rw [show c * r * b = c * b * r from by rw [Nat.mul_assoc, Nat.mul_comm r, ← Nat.mul_assoc], h, Nat.add_mul, Nat.one_mul]
  have e4 : a * d * r = a * r * d := by rw [Nat.mul_assoc, Nat.mul_comm d, ← Nat.mul_assoc]
  have e5 : p * b * d = p * d * b := by rw [Nat.mul_assoc, Nat.mul_comm b, ← Nat.mul_assoc]
  have hr : r = (y + 1) * b + (x + 1) * d := by omega
  have b1 : b ≤ (y + 1) * b := by rw [Nat.add_mul, Nat.one_mul]; omega
  have d1 : d ≤ (x + 1) * d := by rw [Nat.add_mul, Nat.one_mul]; omega
  have hr' : r = b + d := by omega
  have hy0 : y = 0 := by
    rcases Nat.eq_zero_or_pos y with e | e
    · exact e
    · have : 2 * b ≤ (y + 1) * b := Nat.mul_le_mul_right _ (by omega)
      omega
  have hx0 : x = 0 := by
    rcases Nat.eq_zero_or_pos x with e | e
    · exact e
    · have : 2 * d ≤ (x + 1) * d := Nat.mul_le_mul_right _ (by omega)
      omega
  subst hr' hx0 hy0
  refine Prod.ext ?_ rfl
  simp only
  -- p * b = a * (b + d) + 1 = (a + c) * b
  refine Nat.eq_of_mul_eq_mul_right (show 0 < b from hb) ?_
  rw [hx, Nat.add_mul, h, Nat.mul_add]; omega

/-- The simplest fraction has no common divisor. -/
theorem between_gcd {a b c d : Nat} (hb : 1 ≤ b) (h : a * d < c * b) : Nat.gcd (between a b c d).1 (between a b c d).2 = 1 := by
  obtain ⟨h1, h2, h3, _, _, h6⟩ := between_spec hb h
  generalize between a b c d = m at *
  obtain ⟨p, r⟩ := m
  simp only at *
  obtain ⟨x, hx⟩ := Nat.gcd_dvd_left p r
  obtain ⟨y, hy⟩ := Nat.gcd_dvd_right p r
  have hg : 0 < Nat.gcd p r := Nat.gcd_pos_of_pos_right _ h3
  generalize Nat.gcd p r = g at *
  subst hx hy
  have k1 : a * y < x * b := by
    refine Nat.lt_of_mul_lt_mul_left (a := g) ?_
    rw [← Nat.mul_assoc, ← Nat.mul_assoc, Nat.mul_comm g a, Nat.mul_assoc]; exact h1
  have k2 : x * d < c * y := by
    refine Nat.lt_of_mul_lt_mul_left (a := g) ?_
    rw [← Nat.mul_assoc, ← Nat.mul_assoc, Nat.mul_comm g c, Nat.mul_assoc c]; exact h2
  have := (h6 x y k1 k2).2
  have hy : 0 < y := by
    rcases Nat.eq_zero_or_pos y with e | e
    · subst e; simp at h3
    · exact e
  rcases Nat.lt_or_ge 1 g with e | e
  · have : 2 * y ≤ g * y := Nat.mul_le_mul_right _ e
    omega
  · omega
end Go.Proofs.YtfelmjanffhahaaDoor
