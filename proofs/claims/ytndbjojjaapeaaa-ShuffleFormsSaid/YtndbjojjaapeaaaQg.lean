/- Texts, joined: Smm, Prd, Peq, Jnd. -/
import Derived.Test.YtndbjojjaapeaaaQd
import Derived.Test.YtndbjojjaapeaaaQe
import Derived.Test.YtndbjojjaapeaaaQf
/- Mathematics of Same: products with falling factors, sums of polynomials. -/
namespace Go.Proofs.Ytndbjojjaapeaaa
set_option linter.unusedVariables false
open Go.RowKit

/-- times x + c, with the coefficient d from below -/
def stepA (c : Int) (m : Nat) : Int → List Int → List Int
  | d, [] => [d]
  | d, l :: ls => ((d + c * l) % (m : Int)) :: stepA c m (l % (m : Int)) ls
theorem stepA_length (c : Int) (m : Nat) : ∀ (L : List Int) (d : Int), (stepA c m d L).length = L.length + 1
  | [], _ => rfl
  | l :: ls, d => by show (stepA c m _ ls).length + 1 = _; rw [stepA_length c m ls]; rfl
theorem emod_add_mul (a b x m : Int) : (a % m + x * b) % m = (a + x * b) % m := by rw [Int.add_emod, Int.emod_emod, ← Int.add_emod]
theorem stepA_eval (c : Int) (m : Nat) (x : Int) : ∀ (L : List Int) (d : Int), evalL x (stepA c m d L) % (m : Int) = (d + (c + x) * evalL x L) % (m : Int)
  | [], d => by simp [stepA, evalL]
  | l :: ls, d => by
    have ih := stepA_eval c m x ls (l % (m : Int))
    show ((d + c * l) % (m : Int) + x * evalL x (stepA c m (l % (m : Int)) ls)) % (m : Int) = _
    rw [emod_add_mul, Int.add_emod, Int.mul_emod, ih, ← Int.mul_emod, ← Int.add_emod]
    have e2 : (x * (l % (m : Int) + (c + x) * evalL x ls)) % (m : Int) = (x * (l + (c + x) * evalL x ls)) % (m : Int) := by rw [Int.mul_emod, emod_add_mul, ← Int.mul_emod]
    rw [Int.add_emod, e2, ← Int.add_emod]
    show (d + c * l + x * (l + (c + x) * evalL x ls)) % (m : Int) = (d + (c + x) * (l + x * evalL x ls)) % (m : Int)
    congr 1
    grind
/-- the coefficient that comes from below -/
def belowD (m : Nat) (d : Int) (L : List Int) (j : Nat) : Int := if j = 0 then d else L.getD (j - 1) 0 % (m : Int)
theorem stepA_get (c : Int) (m : Nat) : ∀ (L : List Int) (d : Int) (j : Nat), (j < L.length → (stepA c m d L).getD j 0 = (belowD m d L j + c * L.getD j 0) % (m : Int)) ∧ (j = L.length → (stepA c m d L).getD j 0 = belowD m d L j)
  | [], d, j => ⟨fun h => by simp at h, fun h => by subst h; rfl⟩
  | l :: ls, d, 0 => ⟨fun _ => rfl, fun h => by simp at h⟩
  | l :: ls, d, j + 1 => by
    obtain ⟨h1, h2⟩ := stepA_get c m ls (l % (m : Int)) j
    have e : belowD m (l % (m : Int)) ls j = belowD m d (l :: ls) (j + 1) := by
      cases j with
      | zero => rfl
      | succ j => rfl
    have e2 : (stepA c m d (l :: ls)).getD (j + 1) 0 = (stepA c m (l % (m : Int)) ls).getD j 0 := rfl
    have e3 : (l :: ls).getD (j + 1) 0 = ls.getD j 0 := rfl
    rw [e2, e3, ← e]
    exact ⟨fun h => h1 (by simpa using h), fun h => h2 (by simpa using h)⟩
theorem stepA_in {c : Int} {m : Nat} (hm : 1 ≤ m) : ∀ (L : List Int) (d : Int), 0 ≤ d ∧ d < m → ∀ v ∈ stepA c m d L, 0 ≤ v ∧ v < m
  | [], d, hd, v, hv => by simp [stepA] at hv; subst hv; exact hd
  | l :: ls, d, hd, v, hv => by
    rcases List.mem_cons.1 hv with h | h
    · subst h; exact ⟨Int.emod_nonneg _ (by omega), Int.emod_lt_of_pos _ (by omega)⟩
    · exact stepA_in hm ls _ ⟨Int.emod_nonneg _ (by omega), Int.emod_lt_of_pos _ (by omega)⟩ v h
/-- the coefficients after n factors -/
def moreN (m i : Nat) : Nat → List Int
  | 0 => [((roomN m i % m : Nat) : Int)]
  | n + 1 => stepA ((m : Int) - ((n % m : Nat) : Int)) m 0 (moreN m i n)
theorem moreN_length (m i : Nat) : ∀ n, (moreN m i n).length = n + 1
  | 0 => rfl
  | n + 1 => by show (stepA _ m 0 _).length = _; rw [stepA_length, moreN_length m i n]
theorem moreN_in {m : Nat} (hm : 1 ≤ m) (i : Nat) : ∀ n, ∀ v ∈ moreN m i n, 0 ≤ v ∧ v < m
  | 0, v, hv => by
    simp [moreN] at hv
    have := Nat.mod_lt (roomN m i) (show 0 < m by omega)
    omega
  | n + 1, v, hv => stepA_in hm _ 0 ⟨Int.le_refl _, by omega⟩ v hv
theorem moreN_eval {m : Nat} (i : Nat) (x : Int) : ∀ n, evalL x (moreN m i n) % (m : Int) = ((roomN m i : Int) * prodF (fun k => x - k) n) % (m : Int)
  | 0 => by
    show (((roomN m i % m : Nat) : Int) + x * 0) % (m : Int) = ((roomN m i : Int) * 1) % (m : Int)
    rw [Int.mul_zero, Int.add_zero, Int.mul_one, Int.natCast_emod, Int.emod_emod]
  | n + 1 => by
    have ih := moreN_eval (m := m) i x n
    show evalL x (stepA ((m : Int) - ((n % m : Nat) : Int)) m 0 (moreN m i n)) % (m : Int) = ((roomN m i : Int) * (prodF (fun k => x - k) n * (x - n))) % (m : Int)
    rw [stepA_eval, Int.zero_add, Int.mul_emod, ih, ← Int.mul_emod]
    have e : ((m : Int) - ((n % m : Nat) : Int) + x) % (m : Int) = (x - n) % (m : Int) := by
      rw [Int.natCast_emod, show (m : Int) - (n : Int) % (m : Int) + x = (x - (n : Int) % (m : Int)) + m by omega, Int.add_emod_right, Int.sub_emod, Int.emod_emod, ← Int.sub_emod]
    rw [Int.mul_emod, e, ← Int.mul_emod]
    congr 1
    generalize prodF (fun k => x - ↑k) n = y
    grind
theorem moreN_zero {m : Nat} (hm : 2 ≤ m) (i x : Nat) : evalL (x : Int) (moreN m i i) % (m : Int) = 0 := by
  rw [moreN_eval, prodF_desc, ← Int.natCast_mul]
  exact Int.emod_eq_zero_of_dvd (Int.natCast_dvd_natCast.2 (room_dvd hm x i))
/-- the sum of two polynomials -/
def addM (m : Nat) : List Int → List Int → List Int
  | a, [] => a
  | [], y :: b => ((0 + y) % (m : Int)) :: addM m [] b
  | x :: a, y :: b => ((x + y) % (m : Int)) :: addM m a b
theorem addM_length (m : Nat) : ∀ a b : List Int, (addM m a b).length = max a.length b.length
  | a, [] => by cases a <;> simp [addM]
  | [], y :: b => by
    show (addM m [] b).length + 1 = _
    rw [addM_length m [] b]; simp
  | x :: a, y :: b => by
    show (addM m a b).length + 1 = _
    rw [addM_length m a b]; first | (simp; done) | (simp; omega)
theorem addM_eval (m : Nat) (x : Int) : ∀ a b : List Int, evalL x (addM m a b) % (m : Int) = (evalL x a + evalL x b) % (m : Int)
  | a, [] => by cases a <;> simp [addM, evalL]
  | [], y :: b => by
    have ih := addM_eval m x [] b
    show ((0 + y) % (m : Int) + x * evalL x (addM m [] b)) % (m : Int) = (0 + (y + x * evalL x b)) % (m : Int)
    rw [emod_add_mul, Int.add_emod, Int.mul_emod, ih, ← Int.mul_emod, ← Int.add_emod]
    show (0 + y + x * (0 + evalL x b)) % (m : Int) = _
    congr 1
    grind
  | z :: a, y :: b => by
    have ih := addM_eval m x a b
    show ((z + y) % (m : Int) + x * evalL x (addM m a b)) % (m : Int) = ((z + x * evalL x a) + (y + x * evalL x b)) % (m : Int)
    rw [emod_add_mul, Int.add_emod, Int.mul_emod, ih, ← Int.mul_emod, ← Int.add_emod]
    congr 1
    grind
theorem addM_get (m : Nat) : ∀ (a b : List Int) (j : Nat), (j < b.length → (addM m a b).getD j 0 = (a.getD j 0 + b.getD j 0) % (m : Int)) ∧ (b.length ≤ j → (addM m a b).getD j 0 = a.getD j 0)
  | a, [], j => ⟨fun h => by simp at h, fun _ => by cases a <;> rfl⟩
  | [], y :: b, 0 => ⟨fun _ => rfl, fun h => by simp at h⟩
  | x :: a, y :: b, 0 => ⟨fun _ => rfl, fun h => by simp at h⟩
  | [], y :: b, j + 1 => by
    obtain ⟨h1, h2⟩ := addM_get m [] b j
    exact ⟨fun h => h1 (by simpa using h), fun h => h2 (by simpa using h)⟩
  | x :: a, y :: b, j + 1 => by
    obtain ⟨h1, h2⟩ := addM_get m a b j
    exact ⟨fun h => h1 (by simpa using h), fun h => h2 (by simpa using h)⟩
theorem addM_in {m : Nat} (hm : 1 ≤ m) : ∀ a b : List Int, (∀ v ∈ a, 0 ≤ v ∧ v < m) → ∀ v ∈ addM m a b, 0 ≤ v ∧ v < m
  | a, [], ha, v, hv => by cases a <;> exact ha v hv
  | [], y :: b, ha, v, hv => by
    rcases List.mem_cons.1 hv with h | h
    · subst h; exact ⟨Int.emod_nonneg _ (by omega), Int.emod_lt_of_pos _ (by omega)⟩
    · exact addM_in hm [] b (fun v hv => by simp at hv) v h
  | x :: a, y :: b, ha, v, hv => by
    rcases List.mem_cons.1 hv with h | h
    · subst h; exact ⟨Int.emod_nonneg _ (by omega), Int.emod_lt_of_pos _ (by omega)⟩
    · exact addM_in hm a b (fun v hv => ha v (List.mem_cons_of_mem _ hv)) v h
/-- the two have the same function -/
theorem more_same {m : Nat} (hm : 2 ≤ m) (P : List Int) (i : Nat) : sameR m P (addM m P (moreN m i i)) = -1 := by
  unfold sameR
  refine firstN_none m 0 fun x _ _ => ?_
  show decide (polyV m P x ≠ polyV m (addM m P (moreN m i i)) x) = false
  rw [polyV_eval, polyV_eval, addM_eval, Int.add_emod, moreN_zero hm, Int.add_zero, Int.emod_emod]
  simp
theorem more_poly {m : Nat} (hm : 2 ≤ m) (hm2 : m ≤ 64) {P : List Int} (hP : P.length ≤ 12) (hin : ∀ v ∈ P, 0 ≤ v ∧ v < m) {i : Nat} (hi : i < 12) : polyB m (addM m P (moreN m i i)) = true := by
  unfold polyB remB modB
  rw [Bool.and_eq_true, Bool.and_eq_true, List.all_eq_true]
  refine ⟨⟨decide_eq_true (by omega), decide_eq_true ?_⟩, fun x hx => decide_eq_true (addM_in (by omega) _ _ hin x hx)⟩
  rw [addM_length, moreN_length]; omega
/-- a polynomial's function and its form -/
theorem pol_form {m : Nat} (hm : 2 ≤ m) (hm2 : m ≤ 64) (P : List Int) : ∃ F C, valuesL m P = F ∧ F.length = m ∧ (∀ v ∈ F, 0 ≤ v ∧ v < m) ∧ formR m (fun x => F.getD x 0) = some C ∧ C.length ≤ 64 ∧ ((List.range m).map fun x : Nat => formV m C x) = F := by
  obtain ⟨t1, t2, t3⟩ := trim_form hm hm2 P
  obtain ⟨_, d2, _⟩ := deg_facts ⟨m, by omega⟩ hm
  simp only at d2
  exact ⟨valuesL m P, trimZ (formP m P), rfl, valuesL_len m P, valuesL_in (by omega) P, formR_trim hm hm2 P fun x hx => valuesL_get m P hx, by omega, List.map_congr_left fun x _ => t3 x⟩
theorem same_lists {m : Nat} {P Q F H : List Int} (hF : valuesL m P = F) (hH : valuesL m Q = H) (hFl : F.length = m) (hHl : H.length = m) : (sameR m P Q = -1 ∧ F = H) ∨ ∃ j : Nat, sameR m P Q = (j : Int) ∧ j < m ∧ F.getD j 0 ≠ H.getD j 0 ∧ F ≠ H := by
  subst hF hH
  unfold sameR
  rcases firstN_is (P := differP (fun x : Nat => polyV m P x) (fun x : Nat => polyV m Q x)) m 0 with ⟨h1, h2⟩ | ⟨j, h1, _, h3, h4, _⟩
  · left
    refine ⟨h1, ?_⟩
    unfold valuesL
    exact List.map_congr_left fun x hx => by
      have hx := List.mem_range.1 hx
      have := of_decide_eq_false (h2 x (Nat.zero_le _) (by omega))
      simpa using this
  · right
    have h5 : polyV m P j ≠ polyV m Q j := of_decide_eq_true h4
    have h6 : (valuesL m P).getD j 0 ≠ (valuesL m Q).getD j 0 := by rw [valuesL_get m P (by omega), valuesL_get m Q (by omega)]; exact h5
    exact ⟨j, h1, by omega, h6, fun e => h6 (by rw [e])⟩
end Go.Proofs.Ytndbjojjaapeaaa

/- The product of prime powers, and that they are those of the product: mathematics. -/
namespace Go.Proofs.Ytndbjojjaapeaaa
set_option linter.unusedVariables false
open Go.RowKit

def castP (L : List (Nat × Nat)) : List (Int × Int) := L.map fun p => ((p.1 : Int), (p.2 : Int))
def okP (prev : Int) (x : Int × Int) : Bool := decide (2 ≤ x.1 ∧ x.1 ≤ 64 ∧ 1 ≤ x.2 ∧ x.2 ≤ 6 ∧ prev < x.1)
def primB (p : Nat) : Bool := (List.range p).all fun d => decide (d < 2) || decide (p % d ≠ 0)
def prodS : Int → Nat → List (Int × Int) → Nat
  | _, m, [] => if m < 2 then 0 else m
  | prev, m, x :: xs => if okP prev x = true ∧ primB x.1.toNat = true then (if 64 < m * x.1.toNat ^ x.2.toNat then 0 else prodS x.1 (m * x.1.toNat ^ x.2.toNat) xs) else 0
theorem primB_is {p : Nat} (h : primB p = true) : ∀ d, 2 ≤ d → d < p → ¬ d ∣ p := fun d h2 hp hd => by
  unfold primB at h
  rw [List.all_eq_true] at h
  have := h d (List.mem_range.2 hp)
  simp only [Bool.or_eq_true, decide_eq_true_eq] at this
  rcases this with h | h
  · omega
  · exact h (Nat.mod_eq_zero_of_dvd hd)
/-- L lists the prime powers of M -/
def PrL : List (Nat × Nat) → Nat → Prop
  | [], M => M = 1
  | (q, k) :: L, M => 2 ≤ q ∧ 1 ≤ k ∧ k ≤ 6 ∧ (∀ d, 2 ≤ d → d < q → ¬ d ∣ q) ∧ ∃ M', M = q ^ k * M' ∧ 1 ≤ M' ∧ (∀ d, 2 ≤ d → d ∣ M' → q < d) ∧ PrL L M'
theorem least_div {q k M d : Nat} (hq : ∀ d, 2 ≤ d → d < q → ¬ d ∣ q) (hM : ∀ d, 2 ≤ d → d ∣ M → q < d) (h2 : 2 ≤ d) (hd : d ∣ q ^ k * M) (hq2 : 2 ≤ q) : q ≤ d := by
  refine Nat.le_of_not_lt fun hlt => ?_
  have hg : Nat.gcd d q = 1 := by
    have h1 : Nat.gcd d q ∣ q := Nat.gcd_dvd_right d q
    have h3 : Nat.gcd d q ≤ d := Nat.le_of_dvd (by omega) (Nat.gcd_dvd_left d q)
    have h4 : 0 < Nat.gcd d q := Nat.gcd_pos_of_pos_left q (by omega)
    by_cases h5 : 2 ≤ Nat.gcd d q
    · exact absurd h1 (hq _ h5 (by omega))
    · omega
  have hc : Nat.Coprime d (q ^ k) := Nat.Coprime.pow_right k hg
  have := hM d h2 (Nat.Coprime.dvd_of_dvd_mul_left hc hd)
  omega
theorem strip_pow {p : Nat} (hp : 2 ≤ p) {M : Nat} (hM : ¬ p ∣ M) (h1 : 1 ≤ M) : ∀ (k g : Nat), k ≤ g → stripN p g (p ^ k * M) = (k, M)
  | 0, 0, _ => by simp [stripN]
  | 0, g + 1, _ => by
    rw [Nat.pow_zero, Nat.one_mul]
    show (if M % p = 0 then _ else _) = _
    rw [if_neg fun e => hM (Nat.dvd_of_mod_eq_zero e)]
  | k + 1, 0, h => by omega
  | k + 1, g + 1, h => by
    have e1 : (p ^ (k + 1) * M) % p = 0 := by
      rw [Nat.pow_succ, Nat.mul_right_comm]; exact Nat.mul_mod_left _ _
    have e2 : (p ^ (k + 1) * M) / p = p ^ k * M := by
      rw [Nat.pow_succ, Nat.mul_right_comm]; exact Nat.mul_div_cancel _ (by omega)
    show (if (p ^ (k + 1) * M) % p = 0 then ((stripN p g ((p ^ (k + 1) * M) / p)).1 + 1, (stripN p g ((p ^ (k + 1) * M) / p)).2) else _) = _
    rw [if_pos e1, e2, strip_pow hp hM h1 k g (by omega)]
theorem parts_of : ∀ (f p : Nat) (L : List (Nat × Nat)) (M : Nat), 66 - p = f → PrL L M → PStP p M → partsN (66 - p) p M = L
  | 0, p, L, M, hf, hL, hS => by
    rcases L with _ | ⟨⟨q, k⟩, L⟩
    · have hM : M = 1 := hL
      rw [hf]; rfl
    · obtain ⟨q2, k1, k6, hq, M', rfl, m1, hd, hL⟩ := hL
      have h1 : 1 < q ^ k * M' := by
        have : 2 ≤ q ^ k := Nat.le_trans q2 (Nat.le_self_pow (by omega) q)
        have := Nat.mul_le_mul this m1
        omega
      have := hS.le h1
      have := hS.2.2.1
      omega
  | f + 1, p, L, M, hf, hL, hS => by
    rcases L with _ | ⟨⟨q, k⟩, L⟩
    · have hM : M = 1 := hL
      subst hM
      exact partsN_one _ _
    · have hL0 := hL
      obtain ⟨q2, k1, k6, hq, M', rfl, m1, hd, hL⟩ := hL
      have hqk : q ∣ q ^ k := by
        obtain ⟨j, rfl⟩ : ∃ j, k = j + 1 := ⟨k - 1, by omega⟩
        exact ⟨q ^ j, by rw [Nat.pow_succ, Nat.mul_comm]⟩
      have h1 : 1 < q ^ k * M' := by
        have : 2 ≤ q ^ k := Nat.le_trans q2 (Nat.le_self_pow (by omega) q)
        have := Nat.mul_le_mul this m1
        omega
      have hnx := hS.next
      rw [partsN_step hS h1]
      have hp2 := hS.1
      have hqp : p ≤ q := by
        refine Nat.le_of_not_lt fun h => hS.2.2.2 q q2 h (Nat.dvd_trans hqk (Nat.dvd_mul_right _ _))
      by_cases e : q = p
      · subst e
        have hst := strip_pow q2 (fun h => by have := hd q q2 h; omega) m1 k 7 (by omega)
        rw [hst] at hnx ⊢
        simp only at hnx ⊢
        rw [if_pos (show 0 < k by omega), parts_of f (q + 1) L M' (by omega) hL hnx]; rfl
      · have hst : stripN p 7 (q ^ k * M') = (0, q ^ k * M') := by
          have := strip_pow hp2 (fun h => by have := least_div hq hd hp2 h q2; omega) (by omega) (M := q ^ k * M') 0 7 (by omega)
          rwa [Nat.pow_zero, Nat.one_mul] at this
        rw [hst] at hnx ⊢
        simp only at hnx ⊢
        rw [if_neg (show ¬ 0 < 0 by omega), parts_of f (p + 1) ((q, k) :: L) _ (by omega) hL0 hnx]; rfl
theorem prodS_is : ∀ (X : List (Int × Int)) (prev : Int) (M0 : Nat), 0 ≤ prev → 1 ≤ M0 → M0 ≤ 64 → prodS prev M0 X ≠ 0 → 2 ≤ prodS prev M0 X ∧ prodS prev M0 X ≤ 64 ∧ ∃ M L, X = castP L ∧ prodS prev M0 X = M0 * M ∧ 1 ≤ M ∧ (∀ d : Nat, 2 ≤ d → d ∣ M → prev < (d : Int)) ∧ PrL L M
  | [], prev, M0, hp, h1, h64, h => by
    unfold prodS at h ⊢
    by_cases h2 : M0 < 2
    · rw [if_pos h2] at h; exact absurd rfl h
    · rw [if_neg h2]
      exact ⟨by omega, h64, 1, [], rfl, by omega, Nat.le_refl _, fun d hd hd1 => by have := Nat.le_of_dvd (by omega) hd1; omega, rfl⟩
  | (a, b) :: X, prev, M0, hp, h1, h64, h => by
    unfold prodS at h ⊢
    by_cases hc : okP prev (a, b) = true ∧ primB a.toNat = true
    · rw [if_pos hc] at h ⊢
      obtain ⟨hok, hpr⟩ := hc
      have hok := of_decide_eq_true hok
      simp only at hok hpr h ⊢
      obtain ⟨o1, o2, o3, o4, o5⟩ := hok
      obtain ⟨q, rfl⟩ := Int.eq_ofNat_of_zero_le (show 0 ≤ a by omega)
      obtain ⟨k, rfl⟩ := Int.eq_ofNat_of_zero_le (show 0 ≤ b by omega)
      simp only [Int.toNat_natCast] at hpr h ⊢
      by_cases h6 : 64 < M0 * q ^ k
      · rw [if_pos h6] at h; exact absurd rfl h
      · rw [if_neg h6] at h ⊢
        have hqk : 1 ≤ q ^ k := Nat.pos_of_ne_zero fun e => by rw [Nat.pow_eq_zero] at e; omega
        have := Nat.mul_le_mul h1 hqk
        obtain ⟨i1, i2, M, L, rfl, i3, i4, i5, i6⟩ := prodS_is X (q : Int) (M0 * q ^ k) (by omega) (by omega) (by omega) h
        refine ⟨i1, i2, q ^ k * M, (q, k) :: L, rfl, by rw [i3, Nat.mul_assoc], Nat.mul_le_mul hqk i4, fun d hd hdm => ?_, ⟨by omega, by omega, by omega, primB_is hpr, M, rfl, i4, fun d hd hdm => by have := i5 d hd hdm; omega, i6⟩⟩
        have := least_div (primB_is hpr) (fun d hd hdm => by have := i5 d hd hdm; omega) hd hdm (by omega)
        omega
    · rw [if_neg hc] at h; exact absurd rfl h
/-- the product, from nothing -/
def prodX (X : List (Int × Int)) : Nat := prodS 0 1 X
theorem prodX_is {X : List (Int × Int)} (h : prodX X ≠ 0) : 2 ≤ prodX X ∧ prodX X ≤ 64 ∧ X = castP (partsL (prodX X)) := by
  obtain ⟨h1, h2, M, L, h3, h4, h5, _, h6⟩ := prodS_is X 0 1 (Int.le_refl _) (Nat.le_refl _) (by omega) h
  refine ⟨h1, h2, ?_⟩
  rw [Nat.one_mul] at h4
  have hM : prodX X = M := h4
  rw [hM, ← partsL_start, List.nil_append, parts_of _ 2 L M rfl h6 ⟨Nat.le_refl _, h5, by have : M = prodS 0 1 X := h4.symm; omega, fun d h1 h2 => by omega⟩]
  exact h3
theorem prodX_parts : ∀ m : Fin 65, 2 ≤ m.1 → prodX (castP (partsL m.1)) = m.1 := by decide +kernel
end Go.Proofs.Ytndbjojjaapeaaa

/- slices.Equal over pairs and over numbers. -/
namespace Go.Proofs.Ytndbjojjaapeaaa
set_option linter.unusedVariables false
open Go.RowKit

def flatI : List (Int × Int) → List Value
  | [] => []
  | p :: l => .int .i64 p.1 :: .int .i64 p.2 :: flatI l
theorem flatI_length : ∀ l, (flatI l).length = l.length * 2
  | [] => rfl
  | p :: l => by simp [flatI, flatI_length l]; omega
theorem flatI_cast : ∀ L, flatI (castP L) = flatF L
  | [] => rfl
  | p :: l => by
    show _ :: _ :: flatI (castP l) = _ :: _ :: flatF l
    rw [flatI_cast l]
theorem flatI_get : ∀ {l : List (Int × Int)} {j : Nat} {p : Int × Int}, l[j]? = some p → (flatI l)[j * 2]? = some (.int .i64 p.1) ∧ (flatI l)[j * 2 + 1]? = some (.int .i64 p.2)
  | [], j, p, h => by simp at h
  | q :: l, 0, p, h => by simp at h; subst h; exact ⟨rfl, rfl⟩
  | q :: l, j + 1, p, h => by
    have := flatI_get (l := l) (j := j) (by simpa using h)
    rw [show (j + 1) * 2 = j * 2 + 1 + 1 by omega]
    exact this
theorem castP_length (L : List (Nat × Nat)) : (castP L).length = L.length := List.length_map _
theorem Row.two {w : World} {a : Option Addr} {n k : Nat} {X : List (Int × Int)} {x y : Int} (h : Row w a (n * 2) (flatI X)) (hk : k < n) (hx : X[k]? = some (x, y)) : ∃ g, a = some ⟨g, 0, none⟩ ∧ w.cell? ⟨g, k * 2, none⟩ = some (.int .i64 x) ∧ w.cell? ⟨g, k * 2 + 1, none⟩ = some (.int .i64 y) := by
  obtain ⟨g, e, _, hc⟩ := h.2 (by omega)
  obtain ⟨f0, f1⟩ := flatI_get hx
  exact ⟨g, e, hc _ _ f0, hc _ _ f1⟩
def WfX (X : List (Int × Int)) : Prop := ∀ p ∈ X, (Lit.int .i64 p.1).wf = true ∧ (Lit.int .i64 p.2).wf = true
set_option maxRecDepth 100000 in
theorem eq_prs (x y u v : Int) (w : World) (hx : (Lit.int .i64 x).wf = true) (hy : (Lit.int .i64 y).wf = true) (hu : (Lit.int .i64 u).wf = true) (hv : (Lit.int .i64 v).wf = true) : (Op.equalIn 10000 42 (.agg #[.int .i64 x, .int .i64 y]) (.agg #[.int .i64 u, .int .i64 v])).run Try.prog w = .ok (decide ((x, y) = (u, v))) w := by
  have hw : ∀ x y : Int, (Lit.int .i64 x).wf = true → (Lit.int .i64 y).wf = true → ∀ z ∈ [x, y], (Lit.int .i64 z).wf = true := fun x y hx hy z hz => by
    rcases List.mem_cons.1 hz with rfl | h
    · exact hx
    · rw [List.mem_singleton.1 h]; exact hy
  have h := eq_two [x, y] [u, v] w rfl rfl (hw x y hx hy) (hw u v hu hv)
  rw [show decide ([x, y] = [u, v]) = decide ((x, y) = (u, v)) from by rw [decide_eq_decide]; simp] at h
  exact h
set_option maxRecDepth 100000 in
theorem eq_prs_t {x y u v : Int} {w : World} (h : (Op.equalIn 10000 42 (.agg #[.int .i64 x, .int .i64 y]) (.agg #[.int .i64 u, .int .i64 v])).run Try.prog w = .ok (decide ((x, y) = (u, v))) w) (he : (x, y) = (u, v)) : (Op.equalIn 10000 42 (.agg #[.int .i64 x, .int .i64 y]) (.agg #[.int .i64 u, .int .i64 v])).run Try.prog w = .ok true w := by
  rwa [decide_eq_true he] at h
set_option maxRecDepth 100000 in
theorem eq_prs_f {x y u v : Int} {w : World} (h : (Op.equalIn 10000 42 (.agg #[.int .i64 x, .int .i64 y]) (.agg #[.int .i64 u, .int .i64 v])).run Try.prog w = .ok (decide ((x, y) = (u, v))) w) (he : ¬ (x, y) = (u, v)) : (Op.equalIn 10000 42 (.agg #[.int .i64 x, .int .i64 y]) (.agg #[.int .i64 u, .int .i64 v])).run Try.prog w = .ok false w := by
  rwa [decide_eq_false he] at h
set_option maxRecDepth 100000 in
set_option maxHeartbeats 4000000 in
theorem eqInts_any (a b : Option Addr) (n m ca cb : Nat) (xs ys : List Int) (w : World) (ha : Row w a n (intL xs)) (hb : Row w b m (intL ys)) (hx : xs.length = n) (hy : ys.length = m) (hn : n ≤ 1000) (hm : m ≤ 1000) :
    Calls Try.prog 89 #[.slice a n ca, .slice b m cb] w fun e w' => e = .returned (.bool (decide (xs = ys))) ∧ ∃ q, w' = w.drewN q := by
  by_cases hnm : n = m
  · subst hnm
    have Hx := Lib.hid hx
    have Hy := Lib.hid hy
    have Ha := Lib.hid ha
    have Hb := Lib.hid hb
    clear hx hy ha hb
    go_enter Try.func89, Try.ntmps89
    go_wp2
    go_loopw [13] (fun i wr => ∃ k q : Nat, k ≤ n ∧ i = .int .i64 k ∧ Hid (xs.take k = ys.take k) ∧ wr = w.drewN q) (fun i _ => n - (intOf i).toNat)
    case atStart => exact ⟨0, 0, Nat.zero_le _, rfl, rfl, rfl⟩
    case round =>
      obtain ⟨k, q, hk, rfl, HP, rfl⟩ := hrel
      by_cases hlt : k < n
      · have hc : (k : Int) < n := by omega
        obtain ⟨x, hx⟩ : ∃ x, xs[k]? = some x := ⟨_, List.getElem?_eq_getElem (by have := Hx.out; omega)⟩
        obtain ⟨y, hy⟩ : ∃ y, ys[k]? = some y := ⟨_, List.getElem?_eq_getElem (by have := Hy.out; omega)⟩
        obtain ⟨g1, rfl, _, hg1⟩ := Ha.out.2 (by omega)
        obtain ⟨g2, rfl, _, hg2⟩ := Hb.out.2 (by omega)
        have c1 := hg1 k (Value.int .i64 x) (by simp [intL, hx])
        have c2 := hg2 k (Value.int .i64 y) (by simp [intL, hy])
        have hT := take_ext hx hy
        have HT := Lib.hid hT
        clear hx hy hg1 hg2 hT
        by_cases hxy : x = y
        · subst hxy
          go_wp2
          go_quiet (fail)
          go_wp2
          have hz := HT.out.2 ⟨HP.out, by trivial⟩
          go_roundw
          case rel => exact ⟨k + 1, _, by omega, by go_num, hz, by first | rfl | exact World.drewN_drewN _ _ _ | trivial⟩
          case measure => simp [intOf]; omega
        · have h1 : (x == y) = false := by simp [hxy]
          have h2 : (x != y) = true := by simp [hxy]
          have Hxy := Lib.hid hxy
          clear hxy
          go_wp2
          go_quiet (fail)
          go_wp2
          go_ret
          exact ⟨ret_bool (by rw [decide_eq_false]; intro e; exact Hxy.out (HT.out.1 (by rw [e])).2), _, by first | rfl | exact World.drewN_drewN _ _ _ | trivial⟩
      · obtain rfl : k = n := by omega
        have hc : ¬ (k : Int) < k := by omega
        go_wp2
        go_ret
        exact ⟨ret_bool (by rw [decide_eq_true]; have h := HP.out; rwa [List.take_of_length_le (by have := Hx.out; omega), List.take_of_length_le (by have := Hy.out; omega)] at h), _, rfl⟩
  · have h1 : ¬ (n : Int) = m := by omega
    have h2 : ((n : Int) == m) = false := by rw [beq_eq_false_iff_ne]; exact h1
    have hne : ¬ xs = ys := fun e => hnm (by rw [← hx, ← hy, e])
    have Hne := Lib.hid hne
    clear hne h1 hx hy ha hb
    have Hnm := Lib.hid hnm
    clear hnm
    go_enter Try.func89, Try.ntmps89
    go_wp2
    go_ret
    exact ⟨ret_bool (by rw [decide_eq_false Hne.out]), 0, rfl⟩
set_option maxRecDepth 100000 in
set_option maxHeartbeats 4000000 in
theorem eqPairs_any (a b : Option Addr) (n m ca cb : Nat) (xs ys : List (Int × Int)) (w : World) (ha : Row w a (n * 2) (flatI xs)) (hb : Row w b (m * 2) (flatI ys)) (hx : xs.length = n) (hy : ys.length = m) (hn : n ≤ 1000) (hm : m ≤ 1000) (wx : WfX xs) (wy : WfX ys) :
    Calls Try.prog 103 #[.slice a n ca, .slice b m cb] w fun e w' => e = .returned (.bool (decide (xs = ys))) ∧ ∃ q, w' = w.drewN q := by
  by_cases hnm : n = m
  · subst hnm
    have Hx := Lib.hid hx
    have Hy := Lib.hid hy
    have Ha := Lib.hid ha
    have Hb := Lib.hid hb
    have Wx := Lib.hid wx
    have Wy := Lib.hid wy
    clear wx wy
    clear hx hy ha hb
    go_enter Try.func103, Try.ntmps103
    go_wp2
    go_loopw [13] (fun i wr => ∃ k q : Nat, k ≤ n ∧ i = .int .i64 k ∧ Hid (xs.take k = ys.take k) ∧ wr = w.drewN q) (fun i _ => n - (intOf i).toNat)
    case atStart => exact ⟨0, 0, Nat.zero_le _, rfl, rfl, rfl⟩
    case round =>
      obtain ⟨k, q, hk, rfl, HP, rfl⟩ := hrel
      by_cases hlt : k < n
      · have hc : (k : Int) < n := by omega
        obtain ⟨⟨x, x'⟩, hx⟩ : ∃ x, xs[k]? = some x := ⟨_, List.getElem?_eq_getElem (by have := Hx.out; omega)⟩
        obtain ⟨⟨y, y'⟩, hy⟩ : ∃ y, ys[k]? = some y := ⟨_, List.getElem?_eq_getElem (by have := Hy.out; omega)⟩
        obtain ⟨g1, rfl, c1, d1⟩ := Ha.out.two hlt hx
        obtain ⟨g2, rfl, c2, d2⟩ := Hb.out.two hlt hy
        have hT := take_ext hx hy
        have HT := Lib.hid hT
        have w1 := Wx.out _ (List.mem_of_getElem? hx)
        have w2 := Wy.out _ (List.mem_of_getElem? hy)
        have heq := fun W => eq_prs x x' y y' W w1.1 w1.2 w2.1 w2.2
        clear hx hy hT w1 w2
        by_cases hxy : (x, x') = (y, y')
        · have heq' := fun W => eq_prs_t (heq W) hxy
          obtain ⟨rfl, rfl⟩ : x = y ∧ x' = y' := by simpa using hxy
          clear heq hxy
          go_wp2
          go_quiet (fail)
          go_wp2
          have hz := HT.out.2 ⟨HP.out, by trivial⟩
          go_roundw
          case rel => exact ⟨k + 1, _, by omega, by go_num, hz, by first | rfl | exact World.drewN_drewN _ _ _ | trivial⟩
          case measure => simp [intOf]; omega
        · have heq' := fun W => eq_prs_f (heq W) hxy
          have Hxy := Lib.hid hxy
          clear heq hxy
          go_wp2
          go_quiet (fail)
          go_wp2
          go_ret
          exact ⟨ret_bool (by rw [decide_eq_false]; intro e; exact Hxy.out (HT.out.1 (by rw [e])).2), _, by first | rfl | exact World.drewN_drewN _ _ _ | trivial⟩
      · obtain rfl : k = n := by omega
        have hc : ¬ (k : Int) < k := by omega
        go_wp2
        go_ret
        exact ⟨ret_bool (by rw [decide_eq_true]; have h := HP.out; rwa [List.take_of_length_le (by have := Hx.out; omega), List.take_of_length_le (by have := Hy.out; omega)] at h), _, rfl⟩
  · have h1 : ¬ (n : Int) = m := by omega
    have h2 : ((n : Int) == m) = false := by rw [beq_eq_false_iff_ne]; exact h1
    have hne : ¬ xs = ys := fun e => hnm (by rw [← hx, ← hy, e])
    have Hne := Lib.hid hne
    clear hne h1 hx hy ha hb
    have Hnm := Lib.hid hnm
    clear hnm
    go_enter Try.func103, Try.ntmps103
    go_wp2
    go_ret
    exact ⟨ret_bool (by rw [decide_eq_false Hne.out]), 0, rfl⟩
end Go.Proofs.Ytndbjojjaapeaaa

/- Joined: the number with the remainders. -/
namespace Go.Proofs.Ytndbjojjaapeaaa
set_option linter.unusedVariables false
open Go.RowKit

/-- what n leaves modulo each of the prime powers -/
def remI (n : Nat) (L : List (Nat × Nat)) : List Int := L.map fun pk => ((n % powN pk.1 pk.2 : Nat) : Int)
def PkOk (L : List (Nat × Nat)) : Prop := ∀ (j : Nat) (pk : Nat × Nat), L[j]? = some pk → pk.1 ≤ 64 ∧ pk.2 ≤ 6 ∧ 2 ≤ powN pk.1 pk.2 ∧ powN pk.1 pk.2 ≤ 64
theorem parts_ok {m : Nat} (hm : 2 ≤ m) (hm2 : m ≤ 64) : PkOk (partsL m) ∧ 1 ≤ (partsL m).length ∧ (partsL m).length ≤ 3 := by
  obtain ⟨q1, q2, q3⟩ := parts_facts ⟨m, by omega⟩ hm
  simp only at q1 q2 q3
  refine ⟨fun j pk h => ?_, q2, q3⟩
  rw [List.all_eq_true] at q1
  have h4 := q1 pk (List.mem_of_getElem? h)
  have h5 := of_decide_eq_true h4
  exact ⟨h5.2.1, h5.2.2.2.1, h5.2.2.2.2.1, h5.2.2.2.2.2⟩
theorem rem_num2 {n q : Nat} (hn : n ≤ 64) (hq : 2 ≤ q) (hq2 : q ≤ 64) : ∃ u : Nat, n % q = u ∧ u ≤ 64 ∧ Int.tmod (n : Int) (q : Int) = (u : Int) ∧ IntKind.i64.wrap (u : Int) = (u : Int) ∧ wrap64 (u : Int) = (u : Int) ∧ ¬ (q : Int) = 0 ∧ ((q : Int) == 0) = false := by
  have h := Nat.mod_lt n (show 0 < q by omega)
  refine ⟨n % q, rfl, by omega, tmod_nat n q, IntWalk.i64_in _ (by omega), IntWalk.wrap64_in _ (by omega), by omega, by rw [beq_eq_false_iff_ne]; omega⟩
set_option maxRecDepth 100000 in
set_option maxHeartbeats 4000000 in
theorem remaindersOf_any (n : Nat) (a : Option Addr) (np cap : Nat) (L : List (Nat × Nat)) (w : World) (hr : Row w a (np * 2) (flatF L)) (hL : L.length = np) (hn : n ≤ 64) (hnp : np ≤ 3) (hpk : PkOk L) :
    Calls Try.prog 90 #[.int .i64 n, .slice a np cap] w fun e w' => ∃ v, e = .returned v ∧ w'.ownsRow w.heap.size 3 1 v np (intL (remI n L)) ∧ Below w.heap.size w w' := by
  obtain ⟨i0, hi, hz0, hz1, hz2⟩ := info_parts info_int
  have hml : (remI n L).take np = remI n L := List.take_of_length_le (by simp [remI]; omega)
  have htk : ∀ (k : Nat) (pk : Nat × Nat), L[k]? = some pk → (remI n L).take (k + 1) = (remI n L).take k ++ [((n % powN pk.1 pk.2 : Nat) : Int)] := fun k pk hk => by
    unfold remI
    rw [List.take_add_one, List.getElem?_map, hk]; rfl
  generalize remI n L = R at *
  rw [← flatI_cast] at hr
  have Htk := Lib.hid htk
  have Hml := Lib.hid hml
  have Hpk := Lib.hid hpk
  have Hr := Lib.hid hr
  have HL := Lib.hid hL
  clear htk hml hpk hr hL
  go_enter Try.func90, Try.ntmps90
  go_wp2
  go_loopw [5, 10] (fun v i wr => ∃ k : Nat, k ≤ np ∧ i = .int .i64 k ∧ wr.ownsRow w.heap.size 3 1 v k (intL (R.take k)) ∧ Below w.heap.size w wr) (fun _ i _ => np - (intOf i).toNat)
  case atStart => exact ⟨0, Nat.zero_le _, rfl, World.ownsRow_nil _ _ _ _, Below.refl _ _⟩
  case round =>
    obtain ⟨k, hk, rfl, ho, hB⟩ := hrel
    obtain ⟨a5, c5, hv5, -⟩ := Row.of_own ho
    subst hv5
    have HO := Lib.hid ho
    have HB := Lib.hid hB
    clear ho hB
    by_cases hlt : k < np
    · have hc : (k : Int) < (np : Int) := by omega
      obtain ⟨⟨p, e⟩, hpe⟩ : ∃ pk, L[k]? = some pk := ⟨_, List.getElem?_eq_getElem (by have := HL.out; omega)⟩
      obtain ⟨g1, rfl, c0, c1⟩ := (Hr.out.below HB.out).two (x := (p : Int)) (y := (e : Int)) hlt (by unfold castP; rw [List.getElem?_map, hpe]; rfl)
      obtain ⟨x1, x2, x3, x4⟩ := Hpk.out k (p, e) hpe
      have hT := Htk.out k (p, e) hpe
      simp only at x1 x2 x3 x4 hT
      have hPw := fun W => powerOf_any p e W x1 x2
      generalize powN p e = q at hPw x3 x4 hT
      obtain ⟨u, hu, hu64, n1, n2, n3, n4, n5⟩ := rem_num2 hn x3 x4
      rw [hu] at hT
      have HT := Lib.hid hT
      have HPw := Lib.hid hPw
      have Hgo := Lib.hid (show k + 1 ≤ np ∧ k < np ∧ k ≤ 3 by omega)
      have hbx := below_alloc wr (.cells #[.int .i64 (p : Int), .int .i64 (e : Int)] 42)
      have O1 := Lib.hid (own_later HO.out hbx)
      have B1 := Lib.hid (b_next HB.out hbx)
      clear hT hPw hpe x1 x2 x3 x4 hu hu64 hbx hk hlt HO HB
      go_wp2_with fail
      generalize wr.alloc (.cells #[.int .i64 (p : Int), .int .i64 (e : Int)] 42) = Wx at *
      clear c0 c1
      refine (HPw.out _).mono ?_
      rintro e' w4 ⟨rfl, b4⟩
      have O4 := Lib.hid (own_later O1.out b4)
      have B4 := Lib.hid (b_next B1.out b4)
      clear b4 O1 B1 HPw
      go_wp2_with (at_builtin; refine wpList_append_own _ rfl _ _ 22 rfl w.heap.size 3 i0 (.int .i64 0) 1 8 Try.underlying22 hi hz0 hz1 hz2 rfl (by decide) _ _ _ rfl (O4.out.alloc (.cells #[.int .i64 u] 3)) ⟨_, 0, none⟩ 1 1 [.int .i64 u] rfl rfl (one_new _ _ _ _ (by simp)) (by simp [Value.oneCell']) (by have := Hgo.out; clear n1 n2 n3; unfold maxLen; omega) (by have := Hgo.out; clear n1 n2 n3; omega) (by clear n1 n2 n3; have := B4.out.size; simp; omega) ?_; intro v2 w6 hown2 hgrow2 _
                   obtain ⟨a6, c6, hv6, -⟩ := Row.of_own hown2
                   subst hv6
                   have HB6 : Hid (Below w.heap.size w w6) := rel_push B4.out (by clear n1 n2 n3; have := B4.out.size; simp; omega) ((Below.refl _ _).alloc B4.out.size _) O4.out hgrow2
                   have HO6 := Lib.hid hown2
                   clear hown2 hgrow2)
      go_roundw
      case rel =>
        refine ⟨k + 1, Hgo.out.1, by clear n1 n2 n3; go_num, ?_, HB6.out⟩
        rw [HT.out]
        unfold intL
        rw [List.map_append]
        exact HO6.out
      case measure => exact mz_upn Hgo.out.2.1
    · obtain rfl : k = np := by omega
      have hc : ¬ (k : Int) < (k : Int) := by omega
      have ho := HO.out
      rw [Hml.out] at ho
      have HO3 := Lib.hid ho
      clear ho
      go_wp2
      go_ret
      exact ⟨_, rfl, HO3.out, HB.out⟩
theorem castP_wf {m : Nat} (hm : 2 ≤ m) (hm2 : m ≤ 64) : WfX (castP (partsL m)) := fun p hp => by
  unfold castP at hp
  obtain ⟨pk, hpk, rfl⟩ := List.mem_map.1 hp
  obtain ⟨j, hj⟩ := List.mem_iff_getElem?.1 hpk
  obtain ⟨x1, x2, _⟩ := (parts_ok hm hm2).1 j pk hj
  exact ⟨WalkArith.wf_i64 (by omega), WalkArith.wf_i64 (by omega)⟩
theorem prod_at {m : Nat} (hm : 2 ≤ m) (hm2 : m ≤ 64) {X : List (Int × Int)} (h : castP (partsL m) = X) : prodX X = m := by
  rw [← h]; exact prodX_parts ⟨m, by omega⟩ hm
theorem modB_lit (k : Nat) (h : 2 ≤ k ∧ k ≤ 64) : modB (k : Int) = true := decide_eq_true (by omega)
theorem modB_not (k : Nat) (h : ¬ (2 ≤ k ∧ k ≤ 64)) : modB (k : Int) = false := decide_eq_false (by omega)
/-- the modulus of pairs, and whether there is one -/
def modX (X : List (Int × Int)) : Int × Bool := if prodX X = 0 then (0, false) else ((prodX X : Int), true)
set_option maxRecDepth 100000 in
set_option maxHeartbeats 4000000 in
theorem modulusOf_any (a : Option Addr) (n cap : Nat) (X : List (Int × Int)) (w : World) (hr : Row w a (n * 2) (flatI X)) (hX : X.length = n) (hn : n ≤ 1000) (hw : WfX X) :
    Calls Try.prog 88 #[.slice a n cap] w fun e w' => e = .returned (.tuple #[.int .i64 (modX X).1, .bool (modX X).2]) ∧ Below w.heap.size w w' := by
  have Hr := Lib.hid hr
  have HX := Lib.hid hX
  have Hw := Lib.hid hw
  have hM := fun (k : Int) W => isModulus_any k W
  have hyes : ∀ k : Nat, 2 ≤ k → k ≤ 64 → castP (partsL k) = X → modX X = ((k : Int), true) := fun k h1 h2 h => by
    unfold modX
    rw [prod_at h1 h2 h, if_neg (by omega)]
  have hno : (∀ k : Nat, k < 65 → 2 ≤ k → ¬ castP (partsL k) = X) → modX X = (0, false) := fun h => by
    unfold modX
    refine if_pos (Classical.byContradiction fun h0 => ?_)
    obtain ⟨h1, h2, h3⟩ := prodX_is h0
    exact h _ (by omega) h1 h3.symm
  generalize modX X = M at *
  have Hyes := Lib.hid hyes
  have Hno := Lib.hid hno
  have HM := Lib.hid hM
  clear hr hX hw hM hyes hno
  go_enter Try.func88, Try.ntmps88
  go_wp2
  go_loopw [5] (fun i wr => ∃ k : Nat, k ≤ 65 ∧ i = .int .i64 k ∧ Hid (∀ j : Nat, j < k → 2 ≤ j → ¬ castP (partsL j) = X) ∧ Hid (Below w.heap.size w wr)) (fun i _ => 65 - (intOf i).toNat)
  case atStart => exact ⟨0, Nat.zero_le _, rfl, fun j hj => by omega, Below.refl _ _⟩
  case round =>
    obtain ⟨k, hk, rfl, HN, HB⟩ := hrel
    by_cases hlt : k < 65
    · have hc : (k : Int) < 65 := by omega
      have Hgo := Lib.hid (show k + 1 ≤ 65 ∧ k < 65 by omega)
      by_cases hmd : 2 ≤ k ∧ k ≤ 64
      · have hMk := fun W => HM.out (k : Int) W
        rw [modB_lit k hmd] at hMk
        have HMk := Lib.hid hMk
        have HP := Lib.hid fun W => partsOf_any k W (by omega) hmd.2
        have hlen3 := (parts_ok hmd.1 hmd.2).2.2
        have hE := fun a1 b1 c1 c2 W h1 h2 => eqPairs_any a1 b1 (partsL k).length n c1 c2 (castP (partsL k)) X W h1 h2 (castP_length _) HX.out (by omega) hn (castP_wf hmd.1 hmd.2) Hw.out
        simp only [flatI_cast] at hE
        have hy := Hyes.out k hmd.1 hmd.2
        have hpos := (parts_ok hmd.1 hmd.2).2.1
        have hnx : ∀ h : ¬ castP (partsL k) = X, ∀ j : Nat, j < k + 1 → 2 ≤ j → ¬ castP (partsL j) = X := fun h j hj h2 => by
          by_cases e : j = k
          · subst e; exact h
          · exact HN.out j (by omega) h2
        obtain ⟨b, hb⟩ : ∃ b, decide (castP (partsL k) = X) = b := ⟨_, rfl⟩
        have hb1 : b = true → castP (partsL k) = X := fun e => of_decide_eq_true (hb.trans e)
        have hb2 : b = false → ¬ castP (partsL k) = X := fun e => of_decide_eq_false (hb.trans e)
        rw [hb] at hE
        generalize castP (partsL k) = Y at *
        generalize partsL k = L at *
        have HE := Lib.hid hE
        have Hy := Lib.hid hy
        have Hnx := Lib.hid hnx
        have Hb1 := Lib.hid hb1
        have Hb2 := Lib.hid hb2
        have Hpos := Lib.hid hpos
        obtain ⟨np, hnp⟩ : ∃ np, L.length = np := ⟨_, rfl⟩
        clear hMk hE hy hnx hb1 hb2 hb hpos hlen3 HN hmd hlt hk
        rw [hnp] at HP HE Hpos
        clear hnp
        go_wp2_with fail
        refine (HMk.out _).mono ?_
        rintro e w1 ⟨rfl, hw⟩
        subst w1
        go_wp2_with fail
        refine (HP.out _).mono ?_
        rintro e w2 ⟨v, rfl, op, b2⟩
        obtain ⟨pa, pc, rfl, hpc⟩ := own_prs op
        obtain ⟨g1, rfl, _⟩ := hpc Hpos.out
        have RP := Lib.hid (row_pairs op Hpos.out)
        have HB2 := Lib.hid (b_next HB.out b2)
        clear op hpc b2 HB
        go_wp2_with fail
        refine (HE.out _ _ _ _ _ RP.out (Hr.out.below HB2.out)).mono ?_
        rintro e w3 ⟨rfl, hq⟩
        have HB3 := Lib.hid (b_next HB2.out (drew_below hq))
        clear hq HB2 RP
        cases b with
        | true =>
          have h := Hy.out (Hb1.out rfl)
          have Hres := Lib.hid h
          clear h
          go_wp2
          go_ret2
          exact ⟨by rw [Hres.out]; rfl, HB3.out⟩
        | false =>
          have Hres := Lib.hid (Hnx.out (Hb2.out rfl))
          go_wp2
          go_roundw
          case rel => exact ⟨k + 1, Hgo.out.1, by go_num, Hres.out, HB3.out⟩
          case measure => simp [intOf]; have := Hgo.out; omega
      · have hMk := fun W => HM.out (k : Int) W
        rw [modB_not k hmd] at hMk
        have HMk := Lib.hid hMk
        have hnx : ∀ j : Nat, j < k + 1 → 2 ≤ j → ¬ castP (partsL j) = X := fun j hj h2 => by
          by_cases e : j = k
          · subst e; omega
          · exact HN.out j (by omega) h2
        have Hnx := Lib.hid hnx
        clear hMk hnx HN hmd hlt hk
        go_wp2_with fail
        refine (HMk.out _).mono ?_
        rintro e w1 ⟨rfl, hw⟩
        subst w1
        go_wp2
        go_roundw
        case rel => exact ⟨k + 1, Hgo.out.1, by go_num, Hnx.out, HB.out⟩
        case measure => simp [intOf]; have := Hgo.out; omega
    · obtain rfl : k = 65 := by omega
      have hc : ¬ ((65 : Nat) : Int) < 65 := by omega
      have Hres := Lib.hid (Hno.out HN.out)
      clear HN
      go_wp2
      go_ret2
      exact ⟨by rw [Hres.out]; rfl, HB.out⟩
/-- the smallest number from k on, less than m, that leaves the remainders -/
def joinN (L : List (Nat × Nat)) (R : List Int) (m : Nat) : Int := firstN (fun n => decide (remI n L = R)) m 0
set_option maxRecDepth 100000 in
set_option maxHeartbeats 4000000 in
theorem Joined_no (a b : Option Addr) (n cap k c2 : Nat) (X : List (Int × Int)) (w : World) (hr : Row w a (n * 2) (flatI X)) (hX : X.length = n) (hn : n ≤ 1000) (hw : WfX X) (h0 : prodX X = 0) :
    Calls Try.prog 53 #[.slice a n cap, .slice b k c2] w fun e w' => e = .returned (.tuple #[.int .i64 0, .int .i64 2]) ∧ Below w.heap.size w w' := by
  have hM := modulusOf_any a n cap X w hr hX hn hw
  rw [show modX X = (0, false) from if_pos h0] at hM
  have HM := Lib.hid hM
  clear hM hr hX hw h0
  go_enter Try.func53, Try.ntmps53
  go_wp2_with fail
  refine HM.out.mono ?_
  rintro e w1 ⟨rfl, b1⟩
  have B1 := Lib.hid b1
  clear b1
  go_wp2
  go_ret2
  exact ⟨rfl, B1.out⟩
set_option maxRecDepth 100000 in
set_option maxHeartbeats 4000000 in
theorem Joined_yes (m : Nat) (a b : Option Addr) (n cap k c2 : Nat) (R : List Int) (w : World) (hr : Row w a (n * 2) (flatF (partsL m))) (hX : (partsL m).length = n) (hm : 2 ≤ m) (hm2 : m ≤ 64) (hR : Row w b k (intL R)) (hk : k ≤ 1000) :
    Calls Try.prog 53 #[.slice a n cap, .slice b k c2] w fun e w' => e = .returned (.tuple (if joinN (partsL m) R m = -1 then #[.int .i64 0, .int .i64 2] else #[.int .i64 (joinN (partsL m) R m), .int .i64 0])) ∧ Below w.heap.size w w' := by
  obtain ⟨hpk, hp1, hp3⟩ := parts_ok hm hm2
  have hM := fun W hW => modulusOf_any a n cap (castP (partsL m)) W hW (by rw [castP_length, hX]) (by omega) (castP_wf hm hm2)
  have hmx : modX (castP (partsL m)) = ((m : Int), true) := by
    unfold modX
    rw [prod_at hm hm2 rfl, if_neg (by omega)]
  rw [hmx, flatI_cast] at hM
  rw [hX] at hp1 hp3
  have hRl : R.length = k := by have := hR.1; simpa [intL] using this
  have hRm := fun x cap W hW (hx : x ≤ 64) => remaindersOf_any x a n cap (partsL m) W hW hX hx hp3 hpk
  have hrl : ∀ x, (remI x (partsL m)).length = n := fun x => by unfold remI; rw [List.length_map, hX]
  have hE := fun x a1 c1 W h1 h2 => eqInts_any a1 b n k c1 c2 (remI x (partsL m)) R W h1 h2 (hrl x) hRl (by omega) hk
  have hst := fun x (hx : x < m) => firstN_step (P := fun n => decide (remI n (partsL m) = R)) hx
  have h00 : firstN (fun n => decide (remI n (partsL m) = R)) (m - 0) 0 = joinN (partsL m) R m := rfl
  obtain ⟨V, hV⟩ : ∃ V : Array Value, (if joinN (partsL m) R m = -1 then #[.int .i64 0, .int .i64 2] else #[.int .i64 (joinN (partsL m) R m), .int .i64 0]) = V := ⟨_, rfl⟩
  rw [hV]
  generalize joinN (partsL m) R m = J at *
  generalize partsL m = L at *
  have HM := Lib.hid hM
  have HRm := Lib.hid hRm
  have HE := Lib.hid hE
  have Hst := Lib.hid hst
  have H00 := Lib.hid h00
  have HV := Lib.hid hV
  have Hr := Lib.hid hr
  have HR := Lib.hid hR
  clear hM hRm hE hst h00 hr hR hpk hRl hrl hmx hX hV
  go_enter Try.func53, Try.ntmps53
  go_wp2_with fail
  refine (HM.out _ Hr.out).mono ?_
  rintro e w1 ⟨rfl, b1⟩
  have B1 := Lib.hid b1
  clear b1
  simp only
  go_wp2
  go_loopw [17] (fun i wr => ∃ x : Nat, x ≤ m ∧ i = .int .i64 x ∧ Hid (firstN (fun n => decide (remI n L = R)) (m - x) x = J) ∧ Hid (Below w.heap.size w wr)) (fun i _ => m - (intOf i).toNat)
  case atStart => exact ⟨0, Nat.zero_le _, rfl, H00, B1⟩
  case round =>
    clear H00 B1
    obtain ⟨x, hx, rfl, HF, HB⟩ := hrel
    by_cases hlt : x < m
    · have hc : (x : Int) < (m : Int) := by omega
      have Hgo := Lib.hid (show x + 1 ≤ m ∧ x < m by omega)
      have hs := Hst.out x hlt
      rw [HF.out] at hs
      have HRx := Lib.hid fun cap W hW => HRm.out x cap W hW (by omega)
      have hEx := fun a1 c1 W h1 h2 => HE.out x a1 c1 W h1 h2
      obtain ⟨bb, hbb⟩ : ∃ bb, decide (remI x L = R) = bb := ⟨_, rfl⟩
      rw [hbb] at hs hEx
      generalize remI x L = Rx at HRx hEx
      have HEx := Lib.hid hEx
      have Hs := Lib.hid hs
      clear hs hEx hbb HF hlt hx
      go_wp2_with fail
      refine (HRx.out _ _ (Hr.out.below HB.out)).mono ?_
      rintro e w2 ⟨v, rfl, o2, b2⟩
      obtain ⟨a5, c5, rfl, -, r5⟩ := own_slice o2
      have RX := Lib.hid r5
      have HB2 := Lib.hid (b_next HB.out b2)
      clear o2 b2 r5 HB
      go_wp2_with fail
      refine (HEx.out _ _ _ RX.out (HR.out.below HB2.out)).mono ?_
      rintro e w3 ⟨rfl, hq⟩
      have HB3 := Lib.hid (b_next HB2.out (drew_below hq))
      clear hq HB2 RX
      cases bb with
      | true =>
        have h := Hs.out
        rw [if_pos rfl] at h
        have Hres := Lib.hid (show ¬ J = -1 ∧ J = (x : Int) by omega)
        clear h Hs
        go_wp2
        go_ret2
        exact ⟨by rw [← HV.out, if_neg Hres.out.1, Hres.out.2]; rfl, HB3.out⟩
      | false =>
        have h := Hs.out
        rw [if_neg (by decide)] at h
        have Hres := Lib.hid h.symm
        clear h Hs
        go_wp2
        go_roundw
        case rel => exact ⟨x + 1, Hgo.out.1, by go_num, Hres.out, HB3.out⟩
        case measure => simp [intOf]; have := Hgo.out; omega
    · obtain rfl : x = m := by omega
      have hc : ¬ (x : Int) < (x : Int) := by omega
      have h := HF.out
      rw [Nat.sub_self] at h
      have Hres := Lib.hid (show J = -1 from h.symm)
      clear h HF
      go_wp2
      go_ret2
      exact ⟨by rw [← HV.out, if_pos Hres.out]; rfl, HB.out⟩
end Go.Proofs.Ytndbjojjaapeaaa
