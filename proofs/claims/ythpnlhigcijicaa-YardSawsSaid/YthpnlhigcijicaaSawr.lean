/- Saws: what Saw returns divides 12 k, and the rule of reciprocity in its numbers. -/
import Derived.Test.YthpnlhigcijicaaRec
namespace Go.Proofs.Ythpnlhigcijicaa
set_option linter.unusedVariables false

theorem sawT_mod (p k j : Nat) : sawT (p % k) k j = sawT p k j := by
  unfold sawT; rw [Nat.mod_mul_mod]
theorem sawS_mod (p k : Nat) : ∀ i, sawS (p % k) k i = sawS p k i
  | 0 => rfl
  | i + 1 => by simp only [sawS]; rw [sawS_mod p k i, sawT_mod]
theorem sawV_mod (p k : Nat) : sawV (p % k) k = sawV p k := by unfold sawV sawG; rw [sawS_mod]

/-- 1 minus the fraction -/
theorem sawT_rest {p k j : Nat} (hg : Nat.gcd p k = 1) (hp : p ≤ k) (h1 : 1 ≤ j) (h2 : j < k) : sawT (k - p) k j = - sawT p k j := by
  have hm : (k - p) * j % k = k - p * j % k := by
    have h3 := mod_pos hg h1 h2
    have h4 := Nat.mod_lt (p * j) (show 0 < k by omega)
    have h5 : (k - p) * j = k * j - p * j := Nat.sub_mul _ _ _
    have h6 := Nat.div_add_mod (p * j) k
    have h7 : p * j / k < j := by
      rw [Nat.div_lt_iff_lt_mul (by omega)]
      rcases Nat.lt_or_eq_of_le hp with h | h
      · rw [Nat.mul_comm j]; exact Nat.mul_lt_mul_of_pos_right h h1
      · subst h
        rw [Nat.gcd_self] at hg
        omega
    obtain ⟨t, ht⟩ := Nat.exists_eq_add_of_lt h7
    rw [h5]
    generalize p * j / k = q at *
    generalize p * j % k = m at *
    have h8 : k * j = k * q + k * t + k := by rw [ht, Nat.mul_add, Nat.mul_add, Nat.mul_one]
    rw [← h6, h8, show k * q + k * t + k - (k * q + m) = (k - m) + k * t from by omega, Nat.add_mul_mod_self_left]
    exact Nat.mod_eq_of_lt (by omega)
  unfold sawT
  rw [hm]
  have h4 := Nat.mod_lt (p * j) (show 0 < k by omega)
  rw [show ((k - p * j % k : Nat) : Int) = k - (p * j % k : Nat) from by omega]
  grind
theorem sawS_rest {p k : Nat} (hg : Nat.gcd p k = 1) (hp : p ≤ k) : ∀ i, i < k → sawS (k - p) k i = - sawS p k i
  | 0, _ => rfl
  | i + 1, h => by simp only [sawS]; rw [sawS_rest hg hp i (by omega), sawT_rest hg hp (by omega) h]; omega
theorem sawV_rest {p k : Nat} (hg : Nat.gcd p k = 1) (hp : p ≤ k) (hk : 1 ≤ k) : sawV (k - p) k = (- (sawV p k).1, (sawV p k).2) := by
  unfold sawV sawG
  rw [sawS_rest hg hp _ (by omega), Int.neg_gcd, Int.neg_tdiv]

theorem saw_tri {h k : Nat} (hg : Nat.gcd h k = 1) (hk : 1 ≤ k) : 3 * (sawS h k (k - 1)).natAbs ≤ k * (k * k) := by
  have s1 := sm_mod hg (fun m => (2 * (m : Int) - k) * (2 * (m : Int) - k))
  have hsq : 3 * sm (fun m => (2 * (m : Int) - k) * (2 * (m : Int) - k)) (k - 1) = k * (k - 1) * (k - 2) := by
    rw [sm_congr (g := fun m => 4 * ((m : Int) * m) - (4 * k) * (m : Int) + k * k) (fun m _ _ => by grind), sm_add, sm_sub, sm_mul, sm_mul, sm_const]
    have i1 := sm_id (k - 1)
    have i2 := sm_sq (k - 1)
    rw [show ((k - 1 : Nat) : Int) = k - 1 from by omega] at *
    generalize sm (fun j => (j : Int) * j) (k - 1) = K2 at *
    generalize sm (fun j => (j : Int)) (k - 1) = K1 at *
    generalize (k : Int) = y at *
    have e1 : 3 * (4 * K2 - 4 * y * K1 + (y - 1) * (y * y)) = 2 * (6 * K2) - 6 * y * (2 * K1) + 3 * (y - 1) * (y * y) := by clear i1 i2; grind
    rw [e1, i1, i2]
    clear i1 i2 e1
    grind
  have up : ∀ c : Int, (c = 1 ∨ c = -1) → 2 * (c * sm (sawT h k) (k - 1)) ≤ 2 * sm (fun m => (2 * (m : Int) - k) * (2 * (m : Int) - k)) (k - 1) := fun c hc => by
    have e : 2 * sm (fun m => (2 * (m : Int) - k) * (2 * (m : Int) - k)) (k - 1) = sm (fun m => (2 * (m : Int) - k) * (2 * (m : Int) - k) + (2 * ((h * m % k : Nat) : Int) - k) * (2 * ((h * m % k : Nat) : Int) - k)) (k - 1) := by
      rw [sm_add, s1]; omega
    rw [e, ← Int.mul_assoc, ← sm_mul]
    refine sm_le (fun j _ _ => ?_)
    unfold sawT
    generalize 2 * (j : Int) - k = a
    generalize 2 * ((h * j % k : Nat) : Int) - k = b
    have e1 : 0 ≤ (a - b) * (a - b) := by rw [← Int.natAbs_mul_self]; omega
    have e2 : 0 ≤ (a + b) * (a + b) := by rw [← Int.natAbs_mul_self]; omega
    have e3 : (a - b) * (a - b) = a * a + b * b - 2 * (a * b) := by grind
    have e4 : (a + b) * (a + b) = a * a + b * b + 2 * (a * b) := by grind
    rcases hc with rfl | rfl
    · omega
    · omega
  have u1 := up 1 (.inl rfl)
  have u2 := up (-1) (.inr rfl)
  rw [sawS_sm]
  have h1 : (k : Int) * (k - 1) * (k - 2) ≤ k * (k * k) := by
    rw [Int.mul_assoc]
    refine Int.mul_le_mul_of_nonneg_left ?_ (by omega)
    have : ((k : Int) - 1) * (k - 2) = k * k - 3 * k + 2 := by grind
    omega
  have h2 : (k : Int) * (k * k) = ((k * (k * k) : Nat) : Int) := by simp
  rw [h2] at h1
  generalize k * (k * k) = K at *
  generalize sm (sawT h k) (k - 1) = S at *
  omega

theorem saw_three {h k : Nat} (hg : Nat.gcd h k = 1) (hk : 1 ≤ k) (hh : h ≤ k) : (k : Int) ∣ 3 * sawS h k (k - 1) := by
  rcases Nat.eq_zero_or_pos h with e | e
  · subst e
    rw [Nat.gcd_zero_left] at hg
    subst hg
    exact Int.one_dvd _
  · have hr := recip hg e hk
    have h1 : (k : Int) ∣ ((h : Int) * h) * (3 * sawS h k (k - 1)) := by
      refine ⟨h * ((h : Int) * h + k * k + 1 - 3 * h * k) - 3 * k * sawS k h (h - 1), ?_⟩
      grind
    have hc : Nat.Coprime k (h * h) := Nat.Coprime.mul_right ((Nat.gcd_comm k h).trans hg) ((Nat.gcd_comm k h).trans hg)
    have h2 := Int.natAbs_dvd_natAbs.2 h1
    rw [Int.natAbs_mul, Int.natAbs_natCast, ← Int.natCast_mul, Int.natAbs_natCast] at h2
    exact Int.ofNat_dvd_left.2 (hc.dvd_of_dvd_mul_left h2)

theorem saw_facts {h k : Nat} (hg : Nat.gcd h k = 1) (hk : 1 ≤ k) (hh : h ≤ k) : ∃ g c : Nat, 1 ≤ g ∧ sawS h k (k - 1) = g * (sawV h k).1 ∧ 4 * k * k = g * (sawV h k).2 ∧ 3 * g = k * c ∧
    1 ≤ (sawV h k).2 ∧ (sawV h k).2 ≤ 4 * k * k ∧ (sawV h k).1.natAbs ≤ k * k ∧ Nat.gcd (sawV h k).1.natAbs (sawV h k).2 = 1 := by
  have hq : 1 ≤ 4 * k * k := Nat.mul_pos (by omega) hk
  have hG : sawG h k = Nat.gcd (sawS h k (k - 1)).natAbs (4 * k * k) := by unfold sawG; rw [Int.gcd, Int.natAbs_natCast]
  have h3 := saw_three hg hk hh
  have ht := saw_tri hg hk
  unfold sawV
  rw [hG]
  generalize sawS h k (k - 1) = S at *
  have hgp : 0 < Nat.gcd S.natAbs (4 * k * k) := Nat.gcd_pos_of_pos_right _ hq
  have d1 := Nat.gcd_dvd_left S.natAbs (4 * k * k)
  have d2 := Nat.gcd_dvd_right S.natAbs (4 * k * k)
  have d3 : k ∣ 3 * Nat.gcd S.natAbs (4 * k * k) := by
    rw [← Nat.gcd_mul_left]
    refine Nat.dvd_gcd ?_ ?_
    · have := Int.natAbs_dvd_natAbs.2 h3
      rwa [Int.natAbs_mul] at this
    · exact ⟨12 * k, by grind⟩
  have hcop := Nat.gcd_div_gcd_div_gcd_of_pos_right (n := S.natAbs) (m := 4 * k * k) hq
  have hab : (S.tdiv (Nat.gcd S.natAbs (4 * k * k) : Nat)).natAbs = S.natAbs / Nat.gcd S.natAbs (4 * k * k) := by rw [Int.natAbs_tdiv, Int.natAbs_natCast]; rfl
  have e1 : S = (Nat.gcd S.natAbs (4 * k * k) : Nat) * S.tdiv (Nat.gcd S.natAbs (4 * k * k) : Nat) := by
    rw [Int.mul_tdiv_cancel']
    exact Int.ofNat_dvd_left.2 d1
  have e2 : 4 * k * k = Nat.gcd S.natAbs (4 * k * k) * (4 * k * k / Nat.gcd S.natAbs (4 * k * k)) := (Nat.mul_div_cancel' d2).symm
  obtain ⟨c, hc⟩ := d3
  refine ⟨_, c, hgp, e1, e2, hc, ?_, Nat.div_le_self _ _, ?_, ?_⟩
  · exact Nat.div_pos (Nat.le_of_dvd hq d2) hgp
  · rw [hab]
    have e3 := Nat.mul_div_cancel' d1
    generalize S.natAbs / Nat.gcd S.natAbs (4 * k * k) = x at *
    generalize Nat.gcd S.natAbs (4 * k * k) = g at *
    have hc1 : 1 ≤ c := by rcases Nat.eq_zero_or_pos c with h | h; · subst h; omega
                           · exact h
    have h4 : k * x ≤ k * (k * k) := by
      refine Nat.le_trans ?_ ht
      have : 3 * S.natAbs = k * x * c := by rw [← e3, ← Nat.mul_assoc, hc]; grind
      rw [this]
      exact Nat.le_mul_of_pos_right _ hc1
    exact Nat.le_of_mul_le_mul_left h4 hk
  · rw [hab]; exact hcop

theorem saw_rule {h k : Nat} (hg : Nat.gcd h k = 1) (h1 : 1 ≤ h) (hk : h < k) : ∃ c e : Nat, 12 * h * k = (sawV h k).2 * c ∧ 12 * h * k = (sawV (k % h) h).2 * e ∧ (c : Int) * (sawV h k).1 + e * (sawV (k % h) h).1 = (h : Int) * h + k * k + 1 - 3 * h * k := by
  have hg2 : Nat.gcd k h = 1 := (Nat.gcd_comm k h).trans hg
  obtain ⟨g, c, g1, a1, a2, a3, _⟩ := saw_facts hg (show 1 ≤ k by omega) (by omega)
  obtain ⟨f, e, f1, b1, b2, b3, _⟩ := saw_facts (h := k % h) (k := h) (by rw [← Nat.gcd_rec]; exact hg) h1 (Nat.le_of_lt (Nat.mod_lt _ h1))
  rw [sawS_mod] at b1
  have hr := recip hg h1 (show 1 ≤ k by omega)
  rw [a1, b1] at hr
  generalize (sawV h k).1 = x at *
  generalize (sawV h k).2 = y at *
  generalize (sawV (k % h) h).1 = u at *
  generalize (sawV (k % h) h).2 = v at *
  have p1 : y * c = 12 * k := by
    refine Nat.eq_of_mul_eq_mul_left (show 0 < k by omega) ?_
    have : k * (y * c) = 3 * (g * y) := by rw [← Nat.mul_assoc, Nat.mul_comm k y, Nat.mul_assoc, ← a3]; grind
    rw [this, ← a2]; grind
  have p2 : v * e = 12 * h := by
    refine Nat.eq_of_mul_eq_mul_left (show 0 < h by omega) ?_
    have : h * (v * e) = 3 * (f * v) := by rw [← Nat.mul_assoc, Nat.mul_comm h v, Nat.mul_assoc, ← b3]; grind
    rw [this, ← b2]; grind
  refine ⟨c * h, e * k, by rw [← Nat.mul_assoc, p1]; grind, by rw [← Nat.mul_assoc, p2], ?_⟩
  have q1 : 3 * (g : Int) = k * c := by exact_mod_cast a3
  have q2 : 3 * (f : Int) = h * e := by exact_mod_cast b3
  have hne : (h : Int) * k ≠ 0 := by
    rw [← Int.natCast_mul]
    have := Nat.mul_pos h1 (show 0 < k by omega)
    omega
  refine Int.eq_of_mul_eq_mul_left hne ?_
  rw [← hr]
  have m1 : 3 * (h : Int) * h * (g * x) = h * h * (3 * g) * x := by grind
  have m2 : 3 * (k : Int) * k * (f * u) = k * k * (3 * f) * u := by grind
  rw [m1, m2, q1, q2]
  simp only [Int.natCast_mul]
  grind
end Go.Proofs.Ythpnlhigcijicaa
