/- Sums from 1 to n: exchange of two sums, permutations, squares. -/
namespace Go.Proofs.Ythpnlhigcijicaa
set_option linter.unusedVariables false

/-- f 1 + .. + f n -/
def sm (f : Nat → Int) : Nat → Int
  | 0 => 0
  | n + 1 => sm f n + f (n + 1)
theorem sm_congr {f g : Nat → Int} : ∀ {n : Nat}, (∀ j, 1 ≤ j → j ≤ n → f j = g j) → sm f n = sm g n
  | 0, _ => rfl
  | n + 1, h => by simp only [sm]; rw [sm_congr (n := n) (fun j h1 h2 => h j h1 (by omega)), h (n + 1) (by omega) (Nat.le_refl _)]
theorem sm_add (f g : Nat → Int) : ∀ n, sm (fun j => f j + g j) n = sm f n + sm g n
  | 0 => rfl
  | n + 1 => by simp only [sm]; rw [sm_add f g n]; omega
theorem sm_sub (f g : Nat → Int) : ∀ n, sm (fun j => f j - g j) n = sm f n - sm g n
  | 0 => rfl
  | n + 1 => by simp only [sm]; rw [sm_sub f g n]; omega
theorem sm_mul (c : Int) (f : Nat → Int) : ∀ n, sm (fun j => c * f j) n = c * sm f n
  | 0 => by simp [sm]
  | n + 1 => by simp only [sm]; rw [sm_mul c f n, Int.mul_add]
theorem sm_zero : ∀ n, sm (fun _ => 0) n = 0
  | 0 => rfl
  | n + 1 => by simp only [sm]; rw [sm_zero n]; rfl
theorem sm_const (c : Int) : ∀ n : Nat, sm (fun _ => c) n = n * c
  | 0 => by simp [sm]
  | n + 1 => by simp only [sm]; rw [sm_const c n]; grind
theorem sm_swap (g : Nat → Nat → Int) (m : Nat) : ∀ n, sm (fun j => sm (g j) m) n = sm (fun i => sm (fun j => g j i) n) m
  | 0 => by simp only [sm]; exact (sm_zero m).symm
  | n + 1 => by simp only [sm]; rw [sm_swap g m n, ← sm_add]
/-- one where c holds, and 0 elsewhere -/
def one (c : Prop) [Decidable c] : Int := if c then 1 else 0
theorem sm_none {f : Nat → Int} {n : Nat} (h : ∀ j, 1 ≤ j → j ≤ n → f j = 0) : sm f n = 0 := (sm_congr h).trans (sm_zero n)
theorem sm_pick (F : Nat → Int) {m : Nat} (h1 : 1 ≤ m) : ∀ {n : Nat}, m ≤ n → sm (fun i => one (m = i) * F i) n = F m
  | 0, h => absurd h (by omega)
  | n + 1, h => by
    simp only [sm]
    by_cases e : m = n + 1
    · subst e
      rw [sm_none (fun j _ h2 => by rw [one, if_neg (by omega)]; simp), one, if_pos rfl]; simp
    · rw [sm_pick F h1 (by omega), one, if_neg e]; simp
theorem sm_le {f g : Nat → Int} : ∀ {n : Nat}, (∀ j, 1 ≤ j → j ≤ n → f j ≤ g j) → sm f n ≤ sm g n
  | 0, _ => Int.le_refl _
  | n + 1, h => by simp only [sm]; have := sm_le (n := n) (fun j h1 h2 => h j h1 (by omega)); have := h (n + 1) (by omega) (Nat.le_refl _); omega
/-- where all are at most 1, and add up to n, all are 1 -/
theorem sm_full {f : Nat → Int} : ∀ {n : Nat}, (∀ j, 1 ≤ j → j ≤ n → f j ≤ 1) → sm f n = n → ∀ j, 1 ≤ j → j ≤ n → f j = 1
  | 0, _, _, j, h1, h2 => absurd h1 (by omega)
  | n + 1, h, hs, j, h1, h2 => by
    simp only [sm] at hs
    have hl := sm_le (n := n) (f := f) (g := fun _ => 1) (fun j h1 h2 => h j h1 (by omega))
    rw [sm_const] at hl
    have hn := h (n + 1) (by omega) (Nat.le_refl _)
    by_cases e : j = n + 1
    · subst e; omega
    · exact sm_full (n := n) (fun j h1 h2 => h j h1 (by omega)) (by omega) j h1 (by omega)
/-- at most one of them is 1 -/
theorem sm_once {s : Nat → Nat} {m : Nat} : ∀ {n : Nat}, (∀ i j, 1 ≤ i → i < j → j ≤ n → s i ≠ s j) → sm (fun j => one (s j = m)) n ≤ 1
  | 0, _ => by simp [sm]
  | n + 1, h => by
    simp only [sm]
    by_cases e : s (n + 1) = m
    · rw [sm_none (fun j h1 h2 => by rw [one, if_neg (fun e' => h j (n + 1) h1 (by omega) (Nat.le_refl _) (e'.trans e.symm))]), one, if_pos e]; simp
    · have := sm_once (n := n) (m := m) (s := s) (fun i j h1 h2 h3 => h i j h1 h2 (by omega))
      rw [one, if_neg e]; omega
theorem sm_perm {s : Nat → Nat} {n : Nat} (F : Nat → Int) (hs : ∀ j, 1 ≤ j → j ≤ n → 1 ≤ s j ∧ s j ≤ n) (hinj : ∀ i j, 1 ≤ i → i < j → j ≤ n → s i ≠ s j) : sm (fun j => F (s j)) n = sm F n := by
  have h1 : sm (fun m => sm (fun j => one (s j = m)) n) n = n := by
    rw [← sm_swap (fun j m => one (s j = m)), sm_congr (g := fun _ => 1) (fun j h1 h2 => ?_), sm_const]; simp
    have := sm_pick (fun _ => 1) (hs j h1 h2).1 (hs j h1 h2).2
    simp only [Int.mul_one] at this
    exact this
  have h2 := sm_full (fun m _ _ => sm_once (m := m) hinj) h1
  rw [sm_congr (g := fun j => sm (fun m => one (s j = m) * F m) n) (fun j h3 h4 => (sm_pick F (hs j h3 h4).1 (hs j h3 h4).2).symm), sm_swap (fun j m => one (s j = m) * F m)]
  refine sm_congr (fun m h3 h4 => ?_)
  rw [sm_congr (g := fun j => F m * one (s j = m)) (fun j _ _ => Int.mul_comm _ _), sm_mul, h2 m h3 h4, Int.mul_one]
theorem sm_id : ∀ n : Nat, 2 * sm (fun j => (j : Int)) n = n * (n + 1)
  | 0 => rfl
  | n + 1 => by simp only [sm]; have := sm_id n; grind
theorem sm_sq : ∀ n : Nat, 6 * sm (fun j => (j : Int) * j) n = n * (n + 1) * (2 * n + 1)
  | 0 => rfl
  | n + 1 => by simp only [sm]; have := sm_sq n; grind
theorem sm_odd : ∀ n : Nat, sm (fun j => 2 * (j : Int) - 1) n = n * n
  | 0 => rfl
  | n + 1 => by simp only [sm]; have := sm_odd n; grind
/-- a sum over those at most m -/
theorem sm_upto (F : Nat → Int) {m : Nat} : ∀ {n : Nat}, m ≤ n → sm (fun i => F i * one (i ≤ m)) n = sm F m
  | 0, h => by
    obtain rfl : m = 0 := by omega
    rfl
  | n + 1, h => by
    by_cases e : m = n + 1
    · subst e; exact sm_congr (fun j _ h2 => by rw [one, if_pos h2, Int.mul_one])
    · simp only [sm]; rw [sm_upto F (by omega), one, if_neg (by omega)]; simp
end Go.Proofs.Ythpnlhigcijicaa
