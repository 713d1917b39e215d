/- Saws: reciprocity, by counting points below a diagonal. -/
import Derived.Test.YthpnlhigcijicaaSawm
import Derived.Test.YthpnlhigcijicaaSum
namespace Go.Proofs.Ythpnlhigcijicaa
set_option linter.unusedVariables false

theorem sawS_sm (p k : Nat) : ∀ i, sawS p k i = sm (sawT p k) i
  | 0 => rfl
  | i + 1 => by simp only [sawS, sm]; rw [sawS_sm p k i]
theorem mod_pos {h k j : Nat} (hg : Nat.gcd h k = 1) (h1 : 1 ≤ j) (h2 : j < k) : 1 ≤ h * j % k := by
  rcases Nat.eq_zero_or_pos (h * j % k) with e | e
  · exfalso
    have := Nat.Coprime.dvd_of_dvd_mul_left (show Nat.Coprime k h from (Nat.gcd_comm k h).trans hg) (Nat.dvd_of_mod_eq_zero e)
    have := Nat.le_of_dvd h1 this
    omega
  · exact e
theorem mod_inj {h k i j : Nat} (hg : Nat.gcd h k = 1) (h2 : i < j) (h3 : j < k) : h * i % k ≠ h * j % k := by
  intro e
  have h4 : h * (j - i) % k = 0 := by
    rw [Nat.mul_sub]
    exact Nat.sub_mod_eq_zero_of_mod_eq e.symm
  have := mod_pos hg (show 1 ≤ j - i by omega) (by omega)
  omega
/-- multiplying by h permutes the remainders -/
theorem sm_mod {h k : Nat} (hg : Nat.gcd h k = 1) (F : Nat → Int) : sm (fun j => F (h * j % k)) (k - 1) = sm F (k - 1) := by
  refine sm_perm (s := fun j => h * j % k) F (fun j h1 h2 => ⟨mod_pos hg h1 (by omega), ?_⟩) (fun i j h1 h2 h3 => mod_inj hg h2 (by omega))
  have := Nat.mod_lt (h * j) (show 0 < k by omega)
  show h * j % k ≤ k - 1
  omega

/-- i is at most h j / k, or j is at most k i / h, and not both -/
theorem one_either {h k i j : Nat} (hg : Nat.gcd h k = 1) (i1 : 1 ≤ i) (i2 : i < h) (j1 : 1 ≤ j) (j2 : j < k) : one (i ≤ h * j / k) + one (j ≤ k * i / h) = 1 := by
  have h1 : i ≤ h * j / k ↔ i * k ≤ h * j := Nat.le_div_iff_mul_le (by omega)
  have h2 : j ≤ k * i / h ↔ j * h ≤ k * i := Nat.le_div_iff_mul_le (by omega)
  have hne : i * k ≠ h * j := fun e => by
    have := mod_pos hg j1 j2
    rw [← e, Nat.mul_mod_left] at this
    omega
  have e1 : j * h = h * j := Nat.mul_comm _ _
  have e2 : k * i = i * k := Nat.mul_comm _ _
  rw [e1] at h2
  unfold one
  by_cases c : i * k ≤ h * j
  · rw [if_pos (h1.2 c), if_neg (fun hx => by have := h2.1 hx; omega)]; rfl
  · rw [if_neg (fun hx => c (h1.1 hx)), if_pos (h2.2 (by omega))]; rfl
theorem quo_lt {h k j : Nat} (hh : 1 ≤ h) (j1 : 1 ≤ j) (j2 : j < k) : h * j / k ≤ h - 1 := by
  have : h * j / k < h := by
    rw [Nat.div_lt_iff_lt_mul (by omega)]
    exact Nat.mul_lt_mul_of_pos_left j2 hh
  omega

theorem parts {h k : Nat} (hg : Nat.gcd h k = 1) (hh : 1 ≤ h) (hk : 1 ≤ k) :
    (h : Int) * h * sm (fun j => (j : Int) * j) (k - 1) - 2 * h * k * sm (fun j => (j : Int) * (h * j / k : Nat)) (k - 1) + k * k * sm (fun j => ((h * j / k : Nat) : Int) * (h * j / k : Nat)) (k - 1) = sm (fun j => (j : Int) * j) (k - 1) ∧
    sawS h k (k - 1) = 4 * (h * sm (fun j => (j : Int) * j) (k - 1) - k * sm (fun j => (j : Int) * (h * j / k : Nat)) (k - 1)) - k * k * (k - 1) ∧
    2 * sm (fun j => ((h * j / k : Nat) : Int)) (k - 1) = (k - 1) * (h - 1) := by
  have hm : ∀ j, ((h * j % k : Nat) : Int) = h * j - k * (h * j / k : Nat) := fun j => by
    have := Nat.div_add_mod (h * j) k
    have h2 : (k : Int) * (h * j / k : Nat) + (h * j % k : Nat) = h * j := by exact_mod_cast this
    omega
  have s1 := sm_mod hg (fun m => (m : Int) * m)
  have s2 := sm_mod hg (fun m => (m : Int))
  have i1 := sm_id (k - 1)
  have ek : ((k - 1 : Nat) : Int) = k - 1 := by omega
  rw [ek] at i1
  refine ⟨?_, ?_, ?_⟩
  · refine Eq.trans (Eq.symm ?_) s1
    rw [sm_congr (f := fun j => ((h * j % k : Nat) : Int) * (h * j % k : Nat)) (g := fun j => ((h : Int) * h) * ((j : Int) * j) - (2 * h * k) * ((j : Int) * (h * j / k : Nat)) + (k * k) * (((h * j / k : Nat) : Int) * (h * j / k : Nat))) (fun j _ _ => by rw [hm]; grind)]
    rw [sm_add, sm_sub, sm_mul, sm_mul, sm_mul]
  · rw [sawS_sm, sm_congr (f := sawT h k) (g := fun j => (4 * h) * ((j : Int) * j) - (4 * k) * ((j : Int) * (h * j / k : Nat)) - (2 * k) * (j : Int) - (2 * k) * ((h * j % k : Nat) : Int) + k * k) (fun j _ _ => by unfold sawT; rw [hm]; grind)]
    rw [sm_add, sm_sub, sm_sub, sm_sub, sm_mul, sm_mul, sm_mul, sm_mul, sm_const, s2, ek]
    grind
  · have e : sm (fun j => ((h * j % k : Nat) : Int)) (k - 1) = h * sm (fun j => (j : Int)) (k - 1) - k * sm (fun j => ((h * j / k : Nat) : Int)) (k - 1) := by
      rw [sm_congr (g := fun j => (h : Int) * (j : Int) - k * ((h * j / k : Nat) : Int)) (fun j _ _ => by rw [hm]), sm_sub, sm_mul, sm_mul]
    rw [s2] at e
    have hk0 : (k : Int) ≠ 0 := by omega
    refine Int.eq_of_mul_eq_mul_left hk0 ?_
    grind

theorem cross {h k : Nat} (hg : Nat.gcd h k = 1) (hh : 1 ≤ h) (hk : 1 ≤ k) :
    sm (fun j => ((h * j / k : Nat) : Int) * (h * j / k : Nat)) (k - 1) = (k - 1) * ((h - 1) * (h - 1)) - 2 * sm (fun i => (i : Int) * (k * i / h : Nat)) (h - 1) + sm (fun i => ((k * i / h : Nat) : Int)) (h - 1) := by
  rw [sm_congr (g := fun j => sm (fun i => (2 * (i : Int) - 1) * one (i ≤ h * j / k)) (h - 1)) (fun j j1 j2 => ?_)]
  · rw [sm_swap (fun j i => (2 * (i : Int) - 1) * one (i ≤ h * j / k))]
    rw [sm_congr (g := fun i => (k - 1) * (2 * (i : Int) - 1) - 2 * ((i : Int) * (k * i / h : Nat)) + ((k * i / h : Nat) : Int)) (fun i i1 i2 => ?_)]
    · rw [sm_add, sm_sub, sm_mul, sm_mul, sm_odd]
      rw [show ((h - 1 : Nat) : Int) = h - 1 from by omega]
    · rw [sm_mul, sm_congr (g := fun j => 1 - 1 * one (j ≤ k * i / h)) (fun j j1 j2 => ?_), sm_sub, sm_const, sm_upto (fun _ => 1), sm_const, show ((k - 1 : Nat) : Int) = k - 1 from by omega]
      · grind
      · exact quo_lt hk i1 (by omega)
      · have := one_either hg i1 (show i < h by omega) j1 (show j < k by omega)
        omega
  · rw [sm_upto (fun i => 2 * (i : Int) - 1) (quo_lt hh j1 (by omega)), sm_odd]

/-- reciprocity -/
theorem recip {h k : Nat} (hg : Nat.gcd h k = 1) (hh : 1 ≤ h) (hk : 1 ≤ k) : 3 * (h : Int) * h * sawS h k (k - 1) + 3 * (k : Int) * k * sawS k h (h - 1) = h * k * ((h : Int) * h + k * k + 1 - 3 * h * k) := by
  obtain ⟨a1, a2, a3⟩ := parts hg hh hk
  obtain ⟨b1, b2, b3⟩ := parts ((Nat.gcd_comm k h).trans hg) hk hh
  have c1 := cross hg hh hk
  have q1 := sm_sq (k - 1)
  have q2 := sm_sq (h - 1)
  rw [show ((k - 1 : Nat) : Int) = k - 1 from by omega] at q1
  rw [show ((h - 1 : Nat) : Int) = h - 1 from by omega] at q2
  rw [a2, b2]
  generalize sm (fun j => (j : Int) * j) (k - 1) = K2 at *
  generalize sm (fun j => (j : Int) * j) (h - 1) = H2 at *
  generalize sm (fun j => (j : Int) * (h * j / k : Nat)) (k - 1) = A at *
  generalize sm (fun i => (i : Int) * (k * i / h : Nat)) (h - 1) = B at *
  generalize sm (fun j => ((h * j / k : Nat) : Int) * (h * j / k : Nat)) (k - 1) = Q at *
  generalize sm (fun i => ((k * i / h : Nat) : Int)) (h - 1) = P at *
  clear a2 b2 b1 a3
  generalize (h : Int) = x at *
  generalize (k : Int) = y at *
  have e1 : 12 * x * x * y * A = 6 * x * (x * x * K2 + y * y * Q - K2) := by rw [← show 2 * x * y * A = x * x * K2 + y * y * Q - K2 from by omega]; clear a1 c1 b3 q1 q2; grind
  have e2 : 6 * x * y * y * Q = 6 * x * y * y * ((y - 1) * ((x - 1) * (x - 1)) - 2 * B + P) := by rw [c1]
  have e3 : 6 * x * y * y * P = 3 * x * y * y * ((x - 1) * (y - 1)) := by rw [← b3]; clear a1 c1 b3 q1 q2 e1 e2; grind
  have e4 : x * x * x * (6 * K2) = x * x * x * ((y - 1) * (y - 1 + 1) * (2 * (y - 1) + 1)) := by rw [q1]
  have e5 : x * (6 * K2) = x * ((y - 1) * (y - 1 + 1) * (2 * (y - 1) + 1)) := by rw [q1]
  have e6 : y * y * y * (6 * H2) = y * y * y * ((x - 1) * (x - 1 + 1) * (2 * (x - 1) + 1)) := by rw [q2]
  clear q1 q2 c1 b3 a1
  have e7 : 3 * x * x * (4 * (x * K2 - y * A) - y * y * (y - 1)) + 3 * y * y * (4 * (y * H2 - x * B) - x * x * (x - 1)) =
    12 * x * x * x * K2 - 12 * x * x * y * A - 3 * x * x * y * y * (y - 1) + 12 * y * y * y * H2 - 12 * x * y * y * B - 3 * x * x * y * y * (x - 1) := by grind
  rw [e7, e1]
  have e8 : 6 * x * (x * x * K2 + y * y * Q - K2) = x * x * x * (6 * K2) + 6 * x * y * y * Q - x * (6 * K2) := by grind
  have e9 : 12 * x * x * x * K2 = 2 * (x * x * x * (6 * K2)) := by grind
  have e10 : 12 * y * y * y * H2 = 2 * (y * y * y * (6 * H2)) := by grind
  have e11 : 6 * x * y * y * ((y - 1) * ((x - 1) * (x - 1)) - 2 * B + P) = 6 * x * y * y * ((y - 1) * ((x - 1) * (x - 1))) - 12 * x * y * y * B + 6 * x * y * y * P := by grind
  rw [e8, e9, e10, e2, e11, e3, e4, e5, e6]
  clear e1 e2 e3 e4 e5 e6 e7 e8 e9 e10 e11
  grind
end Go.Proofs.Ythpnlhigcijicaa
