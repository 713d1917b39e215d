/- Mathematics of There: forms without last zeros; every function for a prime is polynomial. -/
import Derived.Test.YthmdlkaanjjbkaaFrm
import Derived.Test.YthmdlkaanjjbkaaParts
namespace Go.Proofs.Ythmdlkaanjjbkaa
set_option linter.unusedVariables false
open Go.RowKit

theorem trimZ_take : ∀ (n : Nat) (l : List Int), l.length = n → ∃ k, k ≤ n ∧ trimZ l = l.take k ∧ (∀ j, k ≤ j → l.getD j 0 = 0) ∧ (k = 0 ∨ l.getD (k - 1) 0 ≠ 0)
  | 0, l, h => by
    obtain rfl : l = [] := List.eq_nil_of_length_eq_zero h
    exact ⟨0, Nat.le_refl _, rfl, fun j _ => by simp, .inl rfl⟩
  | n + 1, l, h => by
    rcases List.eq_nil_or_concat l with rfl | ⟨i, x, rfl⟩
    · simp at h
    · rw [List.concat_eq_append] at h ⊢
      have hi : i.length = n := by simpa using h
      by_cases h0 : x = 0
      · subst h0
        obtain ⟨k, h1, h2, h3, h4⟩ := trimZ_take n i hi
        refine ⟨k, by omega, ?_, fun j hj => ?_, ?_⟩
        · rw [trimZ_snoc, if_pos rfl, h2, List.take_append_of_le_length (by omega)]
        · rw [getD_snoc]
          split
          · exact h3 j hj
          · split <;> rfl
        · rcases h4 with h4 | h4
          · exact .inl h4
          · by_cases hk : k = 0
            · exact .inl hk
            · right
              rw [getD_snoc, if_pos (by omega)]; exact h4
      · refine ⟨n + 1, Nat.le_refl _, ?_, fun j hj => ?_, .inr ?_⟩
        · rw [trimZ_snoc, if_neg h0, List.take_of_length_le (by simp; omega)]
        · rw [getD_snoc, if_neg (by omega), if_neg (by omega)]
        · rw [getD_snoc, Nat.add_sub_cancel, if_neg (by omega), if_pos hi.symm]; exact h0
theorem trimZ_twice (l : List Int) : trimZ (trimZ l) = trimZ l := by
  obtain ⟨k, h1, h2, h3, h4⟩ := trimZ_take l.length l rfl
  rw [h2]
  by_cases hk : k = 0
  · subst hk; rfl
  · have h5 : l.getD (k - 1) 0 ≠ 0 := h4.resolve_left hk
    obtain ⟨j, rfl⟩ : ∃ j, k = j + 1 := ⟨k - 1, by omega⟩
    rw [Nat.add_sub_cancel] at h5
    rw [List.take_add_one, List.getElem?_eq_getElem (by omega), Option.toList_some, trimZ_snoc, if_neg]
    rwa [List.getD_eq_getElem?_getD, List.getElem?_eq_getElem (by omega)] at h5
/-- numbers behind the last ones that are not 0 add nothing -/
theorem valV_zeros {m : Nat} (hm : 2 ≤ m) {a : List Int} {k : Nat} (x : Nat) (h : ∀ j, k ≤ j → a.getD j 0 = 0) : ∀ d, valV m a x (k + d) = valV m a x k
  | 0 => rfl
  | d + 1 => by
    show (valV m a x (k + d) + a.getD (k + d) 0 * _) % (m : Int) = _
    rw [h (k + d) (by omega), Int.zero_mul, Int.add_zero, valV_zeros hm x h d]
    have := valV_range (by omega : 0 < m) a x k
    exact Int.emod_eq_of_lt this.1 this.2
/-- what Form returns for a polynomial: a form, with the same function -/
theorem trim_form {m : Nat} (hm : 2 ≤ m) (h64 : m ≤ 64) (p : List Int) : formB m (trimZ (formP m p)) = true ∧ (trimZ (formP m p)).length ≤ degN m ∧ ∀ x : Nat, formV m (trimZ (formP m p)) x = polyV m p x := by
  obtain ⟨k, h1, h2, h3, h4⟩ := trimZ_take (degN m) (formP m p) (formP_length m p)
  have hlen : ((formP m p).take k).length = k := by rw [List.length_take, formP_length]; omega
  refine ⟨?_, ?_, fun x => ?_⟩
  · unfold formB
    rw [trimZ_twice, Bool.and_eq_true, Bool.and_eq_true]
    refine ⟨⟨?_, ?_⟩, decide_eq_true rfl⟩
    · rw [h2, hlen]; exact decide_eq_true h1
    · rw [h2, hlen]
      unfold roomsB
      rw [List.all_eq_true]
      intro j hj
      have hj := List.mem_range.1 hj
      unfold okN
      rw [getD_take _ _ _ hj, formP_get p (by omega), decide_eq_true_eq]
      have := roomN_pos hm j
      exact ⟨Int.emod_nonneg _ (by omega), Int.emod_lt_of_pos _ (by omega)⟩
  · rw [h2, hlen]; exact h1
  · rw [formV_val hm, h2, hlen, poly_form hm h64 p x]
    obtain ⟨d, hd⟩ : ∃ d, degN m = k + d := ⟨degN m - k, by omega⟩
    rw [hd, valV_zeros hm x h3 d]
    exact valV_take m _ _ x k fun j hj => getD_take _ _ _ hj
theorem formR_trim {m : Nat} (hm : 2 ≤ m) (h64 : m ≤ 64) (p : List Int) {f : Nat → Int} (h : ∀ x, x < m → f x = polyV m p x) : formR m f = some (trimZ (formP m p)) := by
  obtain ⟨_, d2, _⟩ := deg_facts ⟨m, by omega⟩ hm
  rw [formR_congr (m := m) d2 h, formR_poly hm h64 p]
/-- a prime's marks -/
def primeB (m : Nat) : Bool := decide ((partsL m).length = 1) && decide (((partsL m).getD 0 (0, 0)).2 = 1)
set_option maxRecDepth 100000 in
theorem prime_marks : ∀ m : Fin 65, 2 ≤ m.1 → primeB m.1 = true → degN m.1 = m.1 ∧ ∀ i : Fin 65, i.1 < m.1 → roomN m.1 i.1 = m.1 ∧ ∃ u : Fin 65, prodP m.1 i.1 * u.1 % m.1 = 1 := by decide +kernel
theorem parts_some : ∀ m : Fin 65, 2 ≤ m.1 → 1 ≤ (partsL m.1).length ∧ (partsL m.1).length ≤ 3 := by decide +kernel
theorem pick_prime {m : Nat} (hm : 2 ≤ m) {pre : List Int} {i u : Nat} {fi : Int} (hf : 0 ≤ fi ∧ fi < m) (hr : roomN m i = m) (hu : prodP m i * u % m = 1) : ∃ c : Nat, c < m ∧ pickN m pre i fi = some c ∧ (valV m pre i i + (c : Int) * (prodP m i : Int)) % (m : Int) = fi := by
  obtain ⟨c, hc⟩ : ∃ c : Nat, ((fi - valV m pre i i) * (u : Int)) % (m : Int) = (c : Int) :=
    ⟨(((fi - valV m pre i i) * (u : Int)) % (m : Int)).toNat, by have := Int.emod_nonneg ((fi - valV m pre i i) * (u : Int)) (show (m : Int) ≠ 0 by omega); omega⟩
  have hcm : c < m := by have := Int.emod_lt_of_pos ((fi - valV m pre i i) * (u : Int)) (show (0 : Int) < m by omega); omega
  have hu2 : ((prodP m i : Int) * (u : Int)) % (m : Int) = 1 := by rw [← Int.natCast_mul, ← Int.natCast_emod, hu]; rfl
  have hv : (valV m pre i i + (c : Int) * (prodP m i : Int)) % (m : Int) = fi := by
    rw [← hc, Int.add_emod, Int.mul_emod, Int.emod_emod, ← Int.mul_emod, ← Int.add_emod]
    rw [show (fi - valV m pre i i) * (u : Int) * (prodP m i : Int) = (fi - valV m pre i i) * ((prodP m i : Int) * (u : Int)) by rw [Int.mul_assoc, Int.mul_comm (u : Int)]]
    rw [Int.add_emod, Int.mul_emod, hu2, Int.mul_one, Int.emod_emod, ← Int.add_emod]
    rw [show valV m pre i i + (fi - valV m pre i i) = fi by omega]
    exact Int.emod_eq_of_lt hf.1 hf.2
  refine ⟨c, hcm, pick_some hm (by unfold fitB; exact decide_eq_true hv) (by omega), hv⟩
theorem form_prime {m : Nat} (hm : 2 ≤ m) (h64 : m ≤ 64) (hp : primeB m = true) {f : Nat → Int} (hf : ∀ x, x < m → 0 ≤ f x ∧ f x < m) : ∃ l, formR m f = some l := by
  obtain ⟨hd, hi⟩ := prime_marks ⟨m, by omega⟩ hm hp
  simp only at hd
  have hS : ∀ i, i ≤ m → ∃ l, formS m f i = some l ∧ l.length = i ∧ ∀ j, j < i → valV m l j (j + 1) = f j := by
    intro i
    induction i with
    | zero => exact fun _ => ⟨[], rfl, rfl, fun j hj => by omega⟩
    | succ i ih =>
      intro h
      obtain ⟨l, h1, h2, h3⟩ := ih (by omega)
      obtain ⟨hr, ⟨u, hu64⟩, hu⟩ := hi ⟨i, by omega⟩ (by show i < m; omega)
      obtain ⟨c, _, hc2, hc3⟩ := pick_prime (pre := l) hm (hf i (by omega)) hr hu
      have hget : ∀ j, j < i → (l ++ [(c : Int)]).getD j 0 = l.getD j 0 := fun j hj => by rw [getD_snoc, if_pos (by omega)]
      refine ⟨l ++ [(c : Int)], by unfold formS; rw [h1, Option.bind_some, hc2]; rfl, by rw [List.length_append, h2]; rfl, fun j hj => ?_⟩
      by_cases e : j = i
      · subst e
        rw [valV_at hm, valV_take m _ l j j hget, getD_snoc, if_neg (by omega), if_pos h2.symm]
        exact hc3
      · rw [valV_take m _ l j (j + 1) (fun j' h' => hget j' (by omega))]
        exact h3 j (by omega)
  obtain ⟨l, h1, h2, h3⟩ := hS m (Nat.le_refl _)
  refine ⟨trimZ l, ?_⟩
  unfold formR
  rw [hd, h1, Option.bind_some, if_pos]
  unfold makesB
  rw [List.all_eq_true]
  intro x hx
  have hx := List.mem_range.1 hx
  rw [decide_eq_true_eq, h2]
  obtain ⟨d, hd2⟩ : ∃ d, m = x + 1 + d := ⟨m - (x + 1), by omega⟩
  rw [show valV m l x m = valV m l x (x + 1) by
    have := valV_more hm l x d
    rw [← hd2] at this
    exact this]
  exact h3 x hx
end Go.Proofs.Ythmdlkaanjjbkaa
