/- Paths and quotients of fractions: subtracting and dividing. -/
namespace Go.Proofs.YtfelmjanffhahaaDoor
set_option linter.unusedVariables false

/-- the letters that lead to the fraction which is u times the lower end and v times the upper end -/
def pth (u v : Nat) : List UInt8 :=
  if h : 1 ≤ u ∧ 1 ≤ v then (if u = v then [] else if v < u then 76 :: pth (u - v) v else 82 :: pth u (v - u)) else []
termination_by u + v
decreasing_by all_goals omega

theorem pth_eq {u : Nat} : pth u u = [] := by rw [pth]; simp
theorem pth_lt {u v : Nat} (hv : 1 ≤ v) (h : v < u) : pth u v = 76 :: pth (u - v) v := by
  rw [pth, dif_pos ⟨by omega, hv⟩, if_neg (by omega), if_pos h]
theorem pth_gt {u v : Nat} (hu : 1 ≤ u) (h : u < v) : pth u v = 82 :: pth u (v - u) := by
  rw [pth, dif_pos ⟨hu, by omega⟩, if_neg (by omega), if_neg (by omega)]

/-- the quotients -/
def quo (a b : Nat) : List Nat := if h : b = 0 then [] else a / b :: quo b (a % b)
termination_by b
decreasing_by exact Nat.mod_lt _ (by omega)
theorem quo_zero (a : Nat) : quo a 0 = [] := by rw [quo]; simp
theorem quo_pos {a b : Nat} (h : 1 ≤ b) : quo a b = a / b :: quo b (a % b) := by rw [quo, dif_neg (by omega)]

def qs (a b : Nat) : Nat := (quo a b).sum
theorem qs_pos {a b : Nat} (h : 1 ≤ b) : qs a b = a / b + qs b (a % b) := by unfold qs; rw [quo_pos h, List.sum_cons]
theorem qs_sub {a b : Nat} (h : 1 ≤ b) (hab : b ≤ a) : qs a b = 1 + qs (a - b) b := by
  rw [qs_pos h, qs_pos h (a := a - b), ← Nat.mod_eq_sub_mod hab, Nat.div_eq_sub_div h hab]; omega
theorem qs_lt {a b : Nat} (h : a < b) : qs a b = qs b a := by
  rw [qs_pos (by omega), Nat.div_eq_of_lt h, Nat.mod_eq_of_lt h]; omega
theorem qs_symm (a b : Nat) : qs a b = qs b a := by
  rcases Nat.lt_trichotomy a b with h | h | h
  · exact qs_lt h
  · rw [h]
  · exact (qs_lt h).symm

theorem gcd_sub {u v : Nat} (h : v ≤ u) : Nat.gcd (u - v) v = Nat.gcd u v := by
  obtain ⟨x, rfl⟩ := Nat.exists_eq_add_of_le h
  rw [Nat.add_sub_cancel_left, Nat.gcd_comm (v + x), Nat.gcd_comm x]; simp

/-- The path has as many letters as the quotients add up to. -/
theorem pth_length : ∀ (n u v : Nat), u + v ≤ n → 1 ≤ u → 1 ≤ v → Nat.gcd u v = 1 → (pth u v).length + 1 = qs u v
  | 0, u, v, h, hu, hv, hg => absurd h (by omega)
  | n + 1, u, v, h, hu, hv, hg => by
    rcases Nat.lt_trichotomy v u with e | e | e
    · rw [pth_lt hv e, List.length_cons, qs_sub hv (Nat.le_of_lt e), ← pth_length n (u - v) v (by omega) (by omega) hv (by rw [gcd_sub (Nat.le_of_lt e)]; exact hg)]; omega
    · subst e
      rw [Nat.gcd_self] at hg
      subst hg
      rw [pth_eq, qs_sub (by omega) (by omega), qs_pos (by omega)]
      simp [qs, quo_zero]
    · rw [pth_gt hu e, List.length_cons, qs_symm, qs_sub hu (Nat.le_of_lt e), qs_symm (v - u), ← pth_length n u (v - u) (by omega) hu (by omega) (by rw [Nat.gcd_comm, gcd_sub (Nat.le_of_lt e), Nat.gcd_comm]; exact hg)]; omega

theorem pth_quo {p q : Nat} (hp : 1 ≤ p) (hpq : p < q) (hg : Nat.gcd p q = 1) : (pth (q - p) p).length + 2 = (quo q p).sum := by
  have h1 := pth_length _ (q - p) p (Nat.le_refl _) (by omega) hp (by rw [gcd_sub (Nat.le_of_lt hpq), Nat.gcd_comm]; exact hg)
  have h2 := qs_sub hp (Nat.le_of_lt hpq)
  show _ = qs q p
  omega

/-- the other letter -/
def flipC (c : UInt8) : UInt8 := if c = 76 then 82 else 76
theorem pth_flip : ∀ (n u v : Nat), u + v ≤ n → pth v u = (pth u v).map flipC
  | 0, u, v, h => by
    rw [pth, dif_neg (by omega), pth, dif_neg (by omega)]; rfl
  | n + 1, u, v, h => by
    by_cases h0 : 1 ≤ u ∧ 1 ≤ v
    · rcases Nat.lt_trichotomy v u with e | e | e
      · rw [pth_lt h0.2 e, pth_gt h0.2 e, List.map_cons, pth_flip n (u - v) v (by omega)]; rfl
      · subst e; rw [pth_eq]; rfl
      · rw [pth_gt h0.1 e, pth_lt h0.1 e, List.map_cons, pth_flip n u (v - u) (by omega)]; rfl
    · rw [pth, dif_neg (by omega), pth, dif_neg h0]; rfl
theorem pth_letters : ∀ (n u v : Nat), u + v ≤ n → ∀ c ∈ pth u v, c = 76 ∨ c = 82
  | 0, u, v, h => by rw [pth, dif_neg (by omega)]; simp
  | n + 1, u, v, h => by
    by_cases h0 : 1 ≤ u ∧ 1 ≤ v
    · rcases Nat.lt_trichotomy v u with e | e | e
      · rw [pth_lt h0.2 e]
        intro c hc
        rcases List.mem_cons.1 hc with rfl | hc
        · exact .inl rfl
        · exact pth_letters n (u - v) v (by omega) c hc
      · subst e; rw [pth_eq]; simp
      · rw [pth_gt h0.1 e]
        intro c hc
        rcases List.mem_cons.1 hc with rfl | hc
        · exact .inr rfl
        · exact pth_letters n u (v - u) (by omega) c hc
    · rw [pth, dif_neg h0]; simp

/-- the fraction with some quotients, or none if its Den is too great -/
def fold1 (q : Nat) (f : Nat × Nat) : Nat × Nat := (f.2, q * f.2 + f.1)
def foldQ (l : List Nat) : Nat × Nat := l.foldr fold1 (0, 1)
theorem foldQ_cons (q : Nat) (l : List Nat) : foldQ (q :: l) = fold1 q (foldQ l) := rfl
theorem foldQ_quo : ∀ (n a b : Nat), b ≤ n → Nat.gcd a b = 1 → foldQ (quo a b) = (b, a)
  | n, a, b, h, hg => by
    rcases Nat.eq_zero_or_pos b with e | e
    · subst e
      rw [Nat.gcd_zero_right] at hg
      subst hg
      rw [quo_zero]; rfl
    · have hlt := Nat.mod_lt a e
      obtain ⟨n, rfl⟩ : ∃ m, n = m + 1 := ⟨n - 1, by omega⟩
      rw [quo_pos e, foldQ_cons, foldQ_quo n b (a % b) (by omega) (by rw [Nat.gcd_comm, ← Nat.gcd_rec, Nat.gcd_comm]; exact hg)]
      unfold fold1
      simp only
      rw [Nat.mul_comm, Nat.div_add_mod]
theorem foldQ_den (l : List Nat) : 1 ≤ (foldQ l).2 ∨ ∃ q ∈ l, q = 0 := by
  induction l with
  | nil => exact .inl (Nat.le_refl _)
  | cons q l ih =>
    rcases ih with h | ⟨x, hx, e⟩
    · rcases Nat.eq_zero_or_pos q with e | e
      · exact .inr ⟨q, by simp, e⟩
      · left
        rw [foldQ_cons]; unfold fold1; simp only
        have : 1 * 1 ≤ q * (foldQ l).2 := Nat.mul_le_mul e h
        omega
    · exact .inr ⟨x, by simp [hx], e⟩

/-- numbers up to 1000000 have at most 40 quotients, all of them positive -/
theorem quo_len : ∀ (n a b : Nat), b ≤ n → 1 ≤ b → b ≤ a → 2 ^ (quo a b).length ≤ 2 * (a * b)
  | n, a, b, h, hb, hab => by
    have hlt := Nat.mod_lt a hb
    obtain ⟨n, rfl⟩ : ∃ m, n = m + 1 := ⟨n - 1, by omega⟩
    rw [quo_pos hb, List.length_cons, Nat.pow_succ]
    rcases Nat.eq_zero_or_pos (a % b) with e | e
    · rw [e, quo_zero]
      have : 1 * 1 ≤ a * b := Nat.mul_le_mul (by omega) hb
      simp; omega
    · have ih := quo_len n b (a % b) (by omega) e (Nat.le_of_lt hlt)
      have h1 : 2 * (a % b) ≤ a := by
        have := Nat.div_add_mod a b
        have h2 : 1 ≤ a / b := (Nat.le_div_iff_mul_le hb).2 (by omega)
        have h3 : b * 1 ≤ b * (a / b) := Nat.mul_le_mul_left b h2
        omega
      have h2 : 2 * (a % b) * b ≤ a * b := Nat.mul_le_mul_right b h1
      rw [Nat.mul_comm b (a % b)] at ih
      rw [Nat.mul_assoc] at h2
      omega
theorem quo_len40 {p q : Nat} (hp : p ≤ q) (hq : q ≤ 1000000) : (quo q p).length ≤ 40 := by
  rcases Nat.eq_zero_or_pos p with e | e
  · subst e; rw [quo_zero]; simp
  · have h := quo_len p q p (Nat.le_refl _) e hp
    have h1 : q * p ≤ 1000000 * 1000000 := Nat.mul_le_mul hq (by omega)
    rcases Nat.lt_or_ge 40 (quo q p).length with h2 | h2
    · have : 2 ^ 41 ≤ 2 ^ (quo q p).length := Nat.pow_le_pow_right (by omega) h2
      have e1 : (2 : Nat) ^ 41 = 2199023255552 := by decide
      omega
    · exact h2
theorem quo_mem : ∀ (n a b : Nat), b ≤ n → b ≤ a → ∀ x ∈ quo a b, 1 ≤ x ∧ x ≤ a
  | n, a, b, h, hab => by
    rcases Nat.eq_zero_or_pos b with e | e
    · subst e; rw [quo_zero]; simp
    · have hlt := Nat.mod_lt a e
      obtain ⟨n, rfl⟩ : ∃ m, n = m + 1 := ⟨n - 1, by omega⟩
      rw [quo_pos e]
      intro x hx
      rcases List.mem_cons.1 hx with rfl | hx
      · exact ⟨(Nat.le_div_iff_mul_le e).2 (by omega), Nat.div_le_self _ _⟩
      · have := quo_mem n b (a % b) (by omega) (Nat.le_of_lt hlt) x hx
        omega
/-- the last quotient is not 1, unless it is the only one -/
theorem quo_last : ∀ (n a b : Nat), b ≤ n → 1 ≤ b → b < a → (quo a b).getLastD 2 ≠ 1
  | n, a, b, h, hb, hab => by
    have hlt := Nat.mod_lt a hb
    obtain ⟨n, rfl⟩ : ∃ m, n = m + 1 := ⟨n - 1, by omega⟩
    rw [quo_pos hb]
    rcases Nat.eq_zero_or_pos (a % b) with e | e
    · rw [e, quo_zero]
      have := Nat.div_add_mod a b
      intro h1
      simp at h1
      rw [e, h1] at this; omega
    · have ih := quo_last n b (a % b) (by omega) e hlt
      have hne : quo b (a % b) ≠ [] := by rw [quo_pos e]; simp
      obtain ⟨x, l, hx⟩ := List.exists_cons_of_ne_nil hne
      rw [hx] at ih ⊢
      simpa using ih
end Go.Proofs.YtfelmjanffhahaaDoor
