/- Polynomials by Horner's rule, falling products, limits: mathematics. -/
namespace Go.Proofs.Ythmdlkaanjjbkaa
set_option linter.unusedVariables false

/-- c0 + f0 (c1 + f1 (c2 + ..)) modulo m -/
def nestV (m : Int) (f : Nat → Int) : Nat → List Int → Int
  | _, [] => 0
  | i, c :: cs => (c + f i * nestV m f (i + 1) cs) % m
theorem nestV_range {m : Int} (hm : 0 < m) (f : Nat → Int) : ∀ (cs : List Int) (i : Nat), 0 ≤ nestV m f i cs ∧ nestV m f i cs < m
  | [], _ => ⟨Int.le_refl _, hm⟩
  | _ :: _, _ => ⟨Int.emod_nonneg _ (by omega), Int.emod_lt_of_pos _ hm⟩
/-- the same without the remainders -/
def sumP (f : Nat → Int) : Nat → List Int → Int
  | _, [] => 0
  | i, c :: cs => c + f i * sumP f (i + 1) cs
theorem nestV_sum (m : Int) (f : Nat → Int) : ∀ (cs : List Int) (i : Nat), nestV m f i cs = sumP f i cs % m
  | [], _ => by simp [nestV, sumP]
  | c :: cs, i => by
    unfold nestV sumP
    rw [nestV_sum m f cs (i + 1), Int.add_emod, Int.mul_emod, Int.emod_emod, ← Int.mul_emod, ← Int.add_emod]
/-- f0 f1 .. f(k-1) -/
def prodF (f : Nat → Int) : Nat → Int
  | 0 => 1
  | k + 1 => prodF f k * f k
/-- the terms before the k-th one -/
def termsP (f : Nat → Int) (cs : List Int) : Nat → Int
  | 0 => 0
  | k + 1 => termsP f cs k + cs.getD k 0 * prodF f k
theorem sumP_terms (f : Nat → Int) (cs : List Int) : ∀ k, k ≤ cs.length → sumP f 0 cs = termsP f cs k + prodF f k * sumP f k (cs.drop k)
  | 0, _ => by simp [termsP, prodF]
  | k + 1, h => by
    rw [sumP_terms f cs k (by omega)]
    have e : cs.drop k = cs.getD k 0 :: cs.drop (k + 1) := by
      rw [List.drop_eq_getElem_cons (by omega), List.getD_eq_getElem?_getD, List.getElem?_eq_getElem (by omega)]; rfl
    rw [e]
    show _ + _ * (_ + f k * _) = _ + _ * prodF f k + prodF f k * f k * _
    rw [Int.mul_add, Int.mul_comm (cs.getD k 0) (prodF f k), Int.mul_assoc (prodF f k) (f k)]
    omega
theorem sumP_all (f : Nat → Int) (cs : List Int) : sumP f 0 cs = termsP f cs cs.length := by
  have h := sumP_terms f cs cs.length (Nat.le_refl _)
  rw [List.drop_length] at h
  simpa [sumP] using h

/-- x (x - 1) .. (x - k + 1) -/
def desc (x : Nat) : Nat → Nat
  | 0 => 1
  | k + 1 => desc x k * (x - k)
def fact : Nat → Nat
  | 0 => 1
  | n + 1 => (n + 1) * fact n
theorem desc_step (n : Nat) : ∀ k, desc (n + 1) (k + 1) = (n + 1) * desc n k
  | 0 => by simp [desc]
  | k + 1 => by
    have ih := desc_step n k
    show desc (n + 1) (k + 1) * (n + 1 - (k + 1)) = _
    rw [ih, show n + 1 - (k + 1) = n - k by omega, Nat.mul_assoc]; rfl
theorem desc_fact : ∀ n, desc n n = fact n
  | 0 => rfl
  | n + 1 => by rw [desc_step, desc_fact n]; rfl
theorem desc_zero (x : Nat) : ∀ k, x < k → desc x k = 0
  | 0, h => by omega
  | k + 1, h => by
    show desc x k * (x - k) = 0
    rw [show x - k = 0 by omega, Nat.mul_zero]
theorem prodF_desc (x : Nat) : ∀ k, prodF (fun i => (x : Int) - i) k = (desc x k : Int)
  | 0 => rfl
  | k + 1 => by
    show prodF _ k * ((x : Int) - k) = ((desc x k * (x - k) : Nat) : Int)
    rw [prodF_desc x k]
    by_cases h : k ≤ x
    · rw [Int.natCast_mul, Int.ofNat_sub h]
    · rw [desc_zero x k (by omega)]; simp

/-- the remainder of the falling product, as the reference reckons it -/
def fallN (m x : Nat) : Nat → Nat
  | 0 => 1
  | k + 1 => fallN m x k * (x - k) % m
theorem fallN_desc {m : Nat} (hm : 2 ≤ m) (x : Nat) : ∀ k, fallN m x k = desc x k % m
  | 0 => by show 1 = 1 % m; rw [Nat.mod_eq_of_lt (by omega)]
  | k + 1 => by
    show fallN m x k * (x - k) % m = desc x k * (x - k) % m
    rw [fallN_desc hm x k, Nat.mod_mul_mod]
/-- a form's value, as the reference reckons it -/
def valV (m : Nat) (form : List Int) (x : Nat) : Nat → Int
  | 0 => 0
  | i + 1 => (valV m form x i + form.getD i 0 * (fallN m x i : Int)) % (m : Int)
theorem valV_terms {m : Nat} (hm : 2 ≤ m) (form : List Int) (x : Nat) : ∀ k, valV m form x k = termsP (fun i => (x : Int) - i) form k % (m : Int)
  | 0 => by simp [valV, termsP]
  | k + 1 => by
    show (valV m form x k + form.getD k 0 * (fallN m x k : Int)) % (m : Int) = (termsP _ form k + form.getD k 0 * prodF _ k) % (m : Int)
    rw [valV_terms hm form x k, fallN_desc hm, prodF_desc, Int.natCast_emod, Int.add_emod, Int.mul_emod, Int.emod_emod, Int.emod_emod, ← Int.mul_emod, ← Int.add_emod]
def polyV (m : Int) (p : List Int) (x : Int) : Int := nestV m (fun _ => x) 0 p
def formV (m : Int) (form : List Int) (x : Nat) : Int := nestV m (fun i => (x : Int) - i) 0 form
theorem formV_val {m : Nat} (hm : 2 ≤ m) (form : List Int) (x : Nat) : formV m form x = valV m form x form.length := by
  unfold formV
  rw [nestV_sum, sumP_all, valV_terms hm]

/-- 1 2 .. i modulo m, as the program reckons it -/
def prodP (m : Nat) : Nat → Nat
  | 0 => 1
  | i + 1 => prodP m i * (i + 1) % m
theorem prodP_fact {m : Nat} (hm : 2 ≤ m) : ∀ i, prodP m i = fact i % m
  | 0 => by show 1 = 1 % m; rw [Nat.mod_eq_of_lt (by omega)]
  | i + 1 => by
    show prodP m i * (i + 1) % m = (i + 1) * fact i % m
    rw [prodP_fact hm i, Nat.mod_mul_mod, Nat.mul_comm]
theorem fallN_prodP {m : Nat} (hm : 2 ≤ m) (i : Nat) : fallN m i i = prodP m i := by rw [fallN_desc hm, desc_fact, prodP_fact hm]
/-- what the i-th number of a form is less than -/
def roomN (m i : Nat) : Nat := m / Nat.gcd m (prodP m i)
def degN (m : Nat) : Nat := ((List.range 65).filter fun i => decide (prodP m i ≠ 0)).length
def limL (m : Nat) : List Int := (List.range (degN m)).map fun i => (roomN m i : Int)
theorem deg_facts : ∀ m : Fin 65, 2 ≤ m.1 → 2 ≤ degN m.1 ∧ degN m.1 ≤ m.1 ∧ prodP m.1 (degN m.1) = 0 ∧ (∀ i : Fin 65, i.1 < degN m.1 → prodP m.1 i.1 ≠ 0 ∧ 2 ≤ roomN m.1 i.1) ∧ roomN m.1 (degN m.1) = 1 := by decide +kernel
end Go.Proofs.Ythmdlkaanjjbkaa
