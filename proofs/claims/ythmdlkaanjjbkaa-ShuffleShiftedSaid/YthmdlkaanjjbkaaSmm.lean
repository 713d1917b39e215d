/- Mathematics of Same: products with falling factors, sums of polynomials. -/
import Derived.Test.YthmdlkaanjjbkaaThm
import Derived.Test.YthmdlkaanjjbkaaSame
namespace Go.Proofs.Ythmdlkaanjjbkaa
set_option linter.unusedVariables false
open Go.RowKit

/-- times x + c, with the coefficient d from below -/
def stepA (c : Int) (m : Nat) : Int → List Int → List Int
  | d, [] => [d]
  | d, l :: ls => ((d + c * l) % (m : Int)) :: stepA c m (l % (m : Int)) ls
theorem stepA_length (c : Int) (m : Nat) : ∀ (L : List Int) (d : Int), (stepA c m d L).length = L.length + 1
  | [], _ => rfl
  | l :: ls, d => by show (stepA c m _ ls).length + 1 = _; rw [stepA_length c m ls]; rfl
theorem emod_add_mul (a b x m : Int) : (a % m + x * b) % m = (a + x * b) % m := by rw [Int.add_emod, Int.emod_emod, ← Int.add_emod]
theorem stepA_eval (c : Int) (m : Nat) (x : Int) : ∀ (L : List Int) (d : Int), evalL x (stepA c m d L) % (m : Int) = (d + (c + x) * evalL x L) % (m : Int)
  | [], d => by simp [stepA, evalL]
  | l :: ls, d => by
    have ih := stepA_eval c m x ls (l % (m : Int))
    show ((d + c * l) % (m : Int) + x * evalL x (stepA c m (l % (m : Int)) ls)) % (m : Int) = _
    rw [emod_add_mul, Int.add_emod, Int.mul_emod, ih, ← Int.mul_emod, ← Int.add_emod]
    have e2 : (x * (l % (m : Int) + (c + x) * evalL x ls)) % (m : Int) = (x * (l + (c + x) * evalL x ls)) % (m : Int) := by rw [Int.mul_emod, emod_add_mul, ← Int.mul_emod]
    rw [Int.add_emod, e2, ← Int.add_emod]
    show (d + c * l + x * (l + (c + x) * evalL x ls)) % (m : Int) = (d + (c + x) * (l + x * evalL x ls)) % (m : Int)
    congr 1
    grind
/-- the coefficient that comes from below -/
def belowD (m : Nat) (d : Int) (L : List Int) (j : Nat) : Int := if j = 0 then d else L.getD (j - 1) 0 % (m : Int)
theorem stepA_get (c : Int) (m : Nat) : ∀ (L : List Int) (d : Int) (j : Nat), (j < L.length → (stepA c m d L).getD j 0 = (belowD m d L j + c * L.getD j 0) % (m : Int)) ∧ (j = L.length → (stepA c m d L).getD j 0 = belowD m d L j)
  | [], d, j => ⟨fun h => by simp at h, fun h => by subst h; rfl⟩
  | l :: ls, d, 0 => ⟨fun _ => rfl, fun h => by simp at h⟩
  | l :: ls, d, j + 1 => by
    obtain ⟨h1, h2⟩ := stepA_get c m ls (l % (m : Int)) j
    have e : belowD m (l % (m : Int)) ls j = belowD m d (l :: ls) (j + 1) := by
      cases j with
      | zero => rfl
      | succ j => rfl
    have e2 : (stepA c m d (l :: ls)).getD (j + 1) 0 = (stepA c m (l % (m : Int)) ls).getD j 0 := rfl
    have e3 : (l :: ls).getD (j + 1) 0 = ls.getD j 0 := rfl
    rw [e2, e3, ← e]
    exact ⟨fun h => h1 (by simpa using h), fun h => h2 (by simpa using h)⟩
theorem stepA_in {c : Int} {m : Nat} (hm : 1 ≤ m) : ∀ (L : List Int) (d : Int), 0 ≤ d ∧ d < m → ∀ v ∈ stepA c m d L, 0 ≤ v ∧ v < m
  | [], d, hd, v, hv => by simp [stepA] at hv; subst hv; exact hd
  | l :: ls, d, hd, v, hv => by
    rcases List.mem_cons.1 hv with h | h
    · subst h; exact ⟨Int.emod_nonneg _ (by omega), Int.emod_lt_of_pos _ (by omega)⟩
    · exact stepA_in hm ls _ ⟨Int.emod_nonneg _ (by omega), Int.emod_lt_of_pos _ (by omega)⟩ v h
/-- the coefficients after n factors -/
def moreN (m i : Nat) : Nat → List Int
  | 0 => [((roomN m i % m : Nat) : Int)]
  | n + 1 => stepA ((m : Int) - ((n % m : Nat) : Int)) m 0 (moreN m i n)
theorem moreN_length (m i : Nat) : ∀ n, (moreN m i n).length = n + 1
  | 0 => rfl
  | n + 1 => by show (stepA _ m 0 _).length = _; rw [stepA_length, moreN_length m i n]
theorem moreN_in {m : Nat} (hm : 1 ≤ m) (i : Nat) : ∀ n, ∀ v ∈ moreN m i n, 0 ≤ v ∧ v < m
  | 0, v, hv => by
    simp [moreN] at hv
    have := Nat.mod_lt (roomN m i) (show 0 < m by omega)
    omega
  | n + 1, v, hv => stepA_in hm _ 0 ⟨Int.le_refl _, by omega⟩ v hv
theorem moreN_eval {m : Nat} (i : Nat) (x : Int) : ∀ n, evalL x (moreN m i n) % (m : Int) = ((roomN m i : Int) * prodF (fun k => x - k) n) % (m : Int)
  | 0 => by
    show (((roomN m i % m : Nat) : Int) + x * 0) % (m : Int) = ((roomN m i : Int) * 1) % (m : Int)
    rw [Int.mul_zero, Int.add_zero, Int.mul_one, Int.natCast_emod, Int.emod_emod]
  | n + 1 => by
    have ih := moreN_eval (m := m) i x n
    show evalL x (stepA ((m : Int) - ((n % m : Nat) : Int)) m 0 (moreN m i n)) % (m : Int) = ((roomN m i : Int) * (prodF (fun k => x - k) n * (x - n))) % (m : Int)
    rw [stepA_eval, Int.zero_add, Int.mul_emod, ih, ← Int.mul_emod]
    have e : ((m : Int) - ((n % m : Nat) : Int) + x) % (m : Int) = (x - n) % (m : Int) := by
      rw [Int.natCast_emod, show (m : Int) - (n : Int) % (m : Int) + x = (x - (n : Int) % (m : Int)) + m by omega, Int.add_emod_right, Int.sub_emod, Int.emod_emod, ← Int.sub_emod]
    rw [Int.mul_emod, e, ← Int.mul_emod]
    congr 1
    generalize prodF (fun k => x - ↑k) n = y
    grind
theorem moreN_zero {m : Nat} (hm : 2 ≤ m) (i x : Nat) : evalL (x : Int) (moreN m i i) % (m : Int) = 0 := by
  rw [moreN_eval, prodF_desc, ← Int.natCast_mul]
  exact Int.emod_eq_zero_of_dvd (Int.natCast_dvd_natCast.2 (room_dvd hm x i))
/-- the sum of two polynomials -/
def addM (m : Nat) : List Int → List Int → List Int
  | a, [] => a
  | [], y :: b => ((0 + y) % (m : Int)) :: addM m [] b
  | x :: a, y :: b => ((x + y) % (m : Int)) :: addM m a b
theorem addM_length (m : Nat) : ∀ a b : List Int, (addM m a b).length = max a.length b.length
  | a, [] => by cases a <;> simp [addM]
  | [], y :: b => by
    show (addM m [] b).length + 1 = _
    rw [addM_length m [] b]; simp
  | x :: a, y :: b => by
    show (addM m a b).length + 1 = _
    rw [addM_length m a b]; first | (simp; done) | (simp; omega)
theorem addM_eval (m : Nat) (x : Int) : ∀ a b : List Int, evalL x (addM m a b) % (m : Int) = (evalL x a + evalL x b) % (m : Int)
  | a, [] => by cases a <;> simp [addM, evalL]
  | [], y :: b => by
    have ih := addM_eval m x [] b
    show ((0 + y) % (m : Int) + x * evalL x (addM m [] b)) % (m : Int) = (0 + (y + x * evalL x b)) % (m : Int)
    rw [emod_add_mul, Int.add_emod, Int.mul_emod, ih, ← Int.mul_emod, ← Int.add_emod]
    show (0 + y + x * (0 + evalL x b)) % (m : Int) = _
    congr 1
    grind
  | z :: a, y :: b => by
    have ih := addM_eval m x a b
    show ((z + y) % (m : Int) + x * evalL x (addM m a b)) % (m : Int) = ((z + x * evalL x a) + (y + x * evalL x b)) % (m : Int)
    rw [emod_add_mul, Int.add_emod, Int.mul_emod, ih, ← Int.mul_emod, ← Int.add_emod]
    congr 1
    grind
theorem addM_get (m : Nat) : ∀ (a b : List Int) (j : Nat), (j < b.length → (addM m a b).getD j 0 = (a.getD j 0 + b.getD j 0) % (m : Int)) ∧ (b.length ≤ j → (addM m a b).getD j 0 = a.getD j 0)
  | a, [], j => ⟨fun h => by simp at h, fun _ => by cases a <;> rfl⟩
  | [], y :: b, 0 => ⟨fun _ => rfl, fun h => by simp at h⟩
  | x :: a, y :: b, 0 => ⟨fun _ => rfl, fun h => by simp at h⟩
  | [], y :: b, j + 1 => by
    obtain ⟨h1, h2⟩ := addM_get m [] b j
    exact ⟨fun h => h1 (by simpa using h), fun h => h2 (by simpa using h)⟩
  | x :: a, y :: b, j + 1 => by
    obtain ⟨h1, h2⟩ := addM_get m a b j
    exact ⟨fun h => h1 (by simpa using h), fun h => h2 (by simpa using h)⟩
theorem addM_in {m : Nat} (hm : 1 ≤ m) : ∀ a b : List Int, (∀ v ∈ a, 0 ≤ v ∧ v < m) → ∀ v ∈ addM m a b, 0 ≤ v ∧ v < m
  | a, [], ha, v, hv => by cases a <;> exact ha v hv
  | [], y :: b, ha, v, hv => by
    rcases List.mem_cons.1 hv with h | h
    · subst h; exact ⟨Int.emod_nonneg _ (by omega), Int.emod_lt_of_pos _ (by omega)⟩
    · exact addM_in hm [] b (fun v hv => by simp at hv) v h
  | x :: a, y :: b, ha, v, hv => by
    rcases List.mem_cons.1 hv with h | h
    · subst h; exact ⟨Int.emod_nonneg _ (by omega), Int.emod_lt_of_pos _ (by omega)⟩
    · exact addM_in hm a b (fun v hv => ha v (List.mem_cons_of_mem _ hv)) v h
/-- the two have the same function -/
theorem more_same {m : Nat} (hm : 2 ≤ m) (P : List Int) (i : Nat) : sameR m P (addM m P (moreN m i i)) = -1 := by
  unfold sameR
  refine firstN_none m 0 fun x _ _ => ?_
  show decide (polyV m P x ≠ polyV m (addM m P (moreN m i i)) x) = false
  rw [polyV_eval, polyV_eval, addM_eval, Int.add_emod, moreN_zero hm, Int.add_zero, Int.emod_emod]
  simp
theorem more_poly {m : Nat} (hm : 2 ≤ m) (hm2 : m ≤ 64) {P : List Int} (hP : P.length ≤ 12) (hin : ∀ v ∈ P, 0 ≤ v ∧ v < m) {i : Nat} (hi : i < 12) : polyB m (addM m P (moreN m i i)) = true := by
  unfold polyB remB modB
  rw [Bool.and_eq_true, Bool.and_eq_true, List.all_eq_true]
  refine ⟨⟨decide_eq_true (by omega), decide_eq_true ?_⟩, fun x hx => decide_eq_true (addM_in (by omega) _ _ hin x hx)⟩
  rw [addM_length, moreN_length]; omega
/-- a polynomial's function and its form -/
theorem pol_form {m : Nat} (hm : 2 ≤ m) (hm2 : m ≤ 64) (P : List Int) : ∃ F C, valuesL m P = F ∧ F.length = m ∧ (∀ v ∈ F, 0 ≤ v ∧ v < m) ∧ formR m (fun x => F.getD x 0) = some C ∧ C.length ≤ 64 ∧ ((List.range m).map fun x : Nat => formV m C x) = F := by
  obtain ⟨t1, t2, t3⟩ := trim_form hm hm2 P
  obtain ⟨_, d2, _⟩ := deg_facts ⟨m, by omega⟩ hm
  simp only at d2
  exact ⟨valuesL m P, trimZ (formP m P), rfl, valuesL_len m P, valuesL_in (by omega) P, formR_trim hm hm2 P fun x hx => valuesL_get m P hx, by omega, List.map_congr_left fun x _ => t3 x⟩
theorem same_lists {m : Nat} {P Q F H : List Int} (hF : valuesL m P = F) (hH : valuesL m Q = H) (hFl : F.length = m) (hHl : H.length = m) : (sameR m P Q = -1 ∧ F = H) ∨ ∃ j : Nat, sameR m P Q = (j : Int) ∧ j < m ∧ F.getD j 0 ≠ H.getD j 0 ∧ F ≠ H := by
  subst hF hH
  unfold sameR
  rcases firstN_is (P := differP (fun x : Nat => polyV m P x) (fun x : Nat => polyV m Q x)) m 0 with ⟨h1, h2⟩ | ⟨j, h1, _, h3, h4, _⟩
  · left
    refine ⟨h1, ?_⟩
    unfold valuesL
    exact List.map_congr_left fun x hx => by
      have hx := List.mem_range.1 hx
      have := of_decide_eq_false (h2 x (Nat.zero_le _) (by omega))
      simpa using this
  · right
    have h5 : polyV m P j ≠ polyV m Q j := of_decide_eq_true h4
    have h6 : (valuesL m P).getD j 0 ≠ (valuesL m Q).getD j 0 := by rw [valuesL_get m P (by omega), valuesL_get m Q (by omega)]; exact h5
    exact ⟨j, h1, by omega, h6, fun e => h6 (by rw [e])⟩
end Go.Proofs.Ythmdlkaanjjbkaa
