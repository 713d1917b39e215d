/- Saws: the sum and its bounds. -/
namespace Go.Proofs.YtfelmjanffhahaaDoor
set_option linter.unusedVariables false
/-- one summand, and the sum of the first of them -/
def sawT (p k j : Nat) : Int := (2 * (j : Int) - k) * (2 * ((p * j % k : Nat) : Int) - k)
def sawS (p k : Nat) : Nat → Int
  | 0 => 0
  | i + 1 => sawS p k i + sawT p k (i + 1)
theorem sawT_bound {p k j : Nat} (hk : 1 ≤ k) (hj : j ≤ k) : -((k : Int) * k) ≤ sawT p k j ∧ sawT p k j ≤ k * k := by
  have h1 := Nat.mod_lt (p * j) hk
  unfold sawT
  generalize p * j % k = r at *
  have a1 : (2 * (j : Int) - k).natAbs ≤ k := by omega
  have a2 : (2 * (r : Int) - k).natAbs ≤ k := by omega
  have a3 : ((2 * (j : Int) - k) * (2 * (r : Int) - k)).natAbs ≤ k * k := by rw [Int.natAbs_mul]; exact Nat.mul_le_mul a1 a2
  have a4 : ((k * k : Nat) : Int) = (k : Int) * k := Int.natCast_mul _ _
  generalize (2 * (j : Int) - k) * (2 * (r : Int) - k) = t at *
  omega
theorem sawS_bound {p k : Nat} (hk : 1 ≤ k) : ∀ i, i ≤ k → -((i : Int) * (k * k)) ≤ sawS p k i ∧ sawS p k i ≤ i * (k * k)
  | 0, _ => by simp [sawS]
  | i + 1, h => by
    have ih := sawS_bound (p := p) hk i (by omega)
    have hb := sawT_bound (p := p) hk h
    unfold sawS
    have e : ((i + 1 : Nat) : Int) * ((k : Int) * k) = i * (k * k) + k * k := by rw [Int.natCast_add, Int.add_mul]; simp
    rw [e]
    generalize sawS p k i = s at *
    generalize sawT p k (i + 1) = t at *
    generalize (i : Int) * ((k : Int) * k) = u at *
    generalize (k : Int) * k = m at *
    omega
theorem sawS_small {p k i : Nat} (hk : 1 ≤ k) (hk2 : k ≤ 1000) (hi : i ≤ k) : -1000000000 ≤ sawS p k i ∧ sawS p k i ≤ 1000000000 := by
  have h := sawS_bound (p := p) hk i hi
  have h1 : i * (k * k) ≤ 1000 * (1000 * 1000) := Nat.mul_le_mul (by omega) (Nat.mul_le_mul hk2 hk2)
  have h2 : ((i * (k * k) : Nat) : Int) = (i : Int) * ((k : Int) * k) := by simp
  generalize (i : Int) * ((k : Int) * k) = u at *
  omega
/-- what Saw returns -/
def sawG (p k : Nat) : Nat := Int.gcd (sawS p k (k - 1)) ((4 * k * k : Nat) : Int)
def sawV (p k : Nat) : Int × Nat := ((sawS p k (k - 1)).tdiv (sawG p k), 4 * k * k / sawG p k)
end Go.Proofs.YtfelmjanffhahaaDoor
