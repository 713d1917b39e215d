/- A polynomial's function has a form: mathematics. -/
import Derived.Test.YthmdlkaanjjbkaaPoly
namespace Go.Proofs.Ythmdlkaanjjbkaa
set_option linter.unusedVariables false

def sumZ (g : Nat → Int) : Nat → Int
  | 0 => 0
  | k + 1 => sumZ g k + g k
theorem sumZ_congr {g h : Nat → Int} : ∀ k, (∀ j, j < k → g j = h j) → sumZ g k = sumZ h k
  | 0, _ => rfl
  | k + 1, e => by
    show sumZ g k + g k = sumZ h k + h k
    rw [sumZ_congr k (fun j hj => e j (by omega)), e k (by omega)]
theorem sumZ_add (g h : Nat → Int) : ∀ k, sumZ (fun j => g j + h j) k = sumZ g k + sumZ h k
  | 0 => rfl
  | k + 1 => by
    show sumZ _ k + (g k + h k) = sumZ g k + g k + (sumZ h k + h k)
    rw [sumZ_add g h k]; omega
theorem sumZ_mul (c : Int) (g : Nat → Int) : ∀ k, sumZ (fun j => c * g j) k = c * sumZ g k
  | 0 => by simp [sumZ]
  | k + 1 => by
    show sumZ _ k + c * g k = c * (sumZ g k + g k)
    rw [sumZ_mul c g k, Int.mul_add]
theorem sumZ_shift (g : Nat → Int) : ∀ k, sumZ g (k + 1) = g 0 + sumZ (fun j => g (j + 1)) k
  | 0 => by show (0 : Int) + g 0 = g 0 + 0; omega
  | k + 1 => by
    show sumZ g (k + 1) + g (k + 1) = g 0 + (sumZ (fun j => g (j + 1)) k + g (k + 1))
    rw [sumZ_shift g k]; omega
theorem sumZ_more {g : Nat → Int} {k : Nat} : ∀ d, (∀ j, k ≤ j → g j = 0) → sumZ g (k + d) = sumZ g k
  | 0, _ => rfl
  | d + 1, h => by
    show sumZ g (k + d) + g (k + d) = sumZ g k
    rw [sumZ_more d h, h (k + d) (by omega)]; omega
theorem termsP_sum (f : Nat → Int) (cs : List Int) : ∀ k, termsP f cs k = sumZ (fun j => cs.getD j 0 * prodF f j) k
  | 0 => rfl
  | k + 1 => by
    show termsP f cs k + _ = sumZ _ k + _
    rw [termsP_sum f cs k]

/-- the coefficients for x (x - 1) .. -/
def newtF : List Int → Nat → Int
  | [], _ => 0
  | c :: cs, j => (if j = 0 then c else newtF cs (j - 1)) + j * newtF cs j
theorem newtF_zero : ∀ (cs : List Int) (j : Nat), cs.length ≤ j → newtF cs j = 0
  | [], _, _ => rfl
  | c :: cs, j, h => by
    rw [List.length_cons] at h
    unfold newtF
    rw [if_neg (by omega), newtF_zero cs (j - 1) (by omega), newtF_zero cs j (by omega)]; simp
theorem desc_mul (x j : Nat) : (x : Int) * (desc x j : Int) = (desc x (j + 1) : Int) + j * (desc x j : Int) := by
  show _ = ((desc x j * (x - j) : Nat) : Int) + _
  by_cases h : j ≤ x
  · rw [Int.natCast_mul, Int.ofNat_sub h, Int.mul_comm, ← Int.mul_comm (desc x j : Int) (j : Int), ← Int.mul_add]
    congr 1; omega
  · rw [desc_zero x j (by omega)]; simp
theorem newt_eval (x : Nat) : ∀ (cs : List Int) (N : Nat), cs.length ≤ N → sumP (fun _ => (x : Int)) 0 cs = sumZ (fun j => newtF cs j * (desc x j : Int)) N := by
  have key : ∀ (cs : List Int) (i : Nat), sumP (fun _ => (x : Int)) i cs = sumP (fun _ => (x : Int)) 0 cs := by
    intro cs
    induction cs with
    | nil => intro i; rfl
    | cons c cs ih => intro i; show c + _ * sumP _ (i + 1) cs = c + _ * sumP _ 1 cs; rw [ih (i + 1), ih 1]
  intro cs
  induction cs with
  | nil =>
    intro N _
    have : sumZ (fun j => newtF [] j * (desc x j : Int)) N = sumZ (fun _ => 0) N := sumZ_congr _ fun j _ => by simp [newtF]
    rw [this]
    have h0 := sumZ_more (g := fun _ => 0) (k := 0) N (fun _ _ => rfl)
    rw [Nat.zero_add] at h0
    rw [h0]; rfl
  | cons c cs ih =>
    intro N hN
    rw [List.length_cons] at hN
    obtain ⟨M, rfl⟩ : ∃ M, N = M + 1 := ⟨N - 1, by omega⟩
    show c + (x : Int) * sumP _ 1 cs = _
    rw [key cs 1, ih M (by omega), ← sumZ_mul]
    have e1 : sumZ (fun j => (x : Int) * (newtF cs j * (desc x j : Int))) M = sumZ (fun j => newtF cs j * (desc x (j + 1) : Int)) M + sumZ (fun j => (j : Int) * newtF cs j * (desc x j : Int)) M := by
      rw [← sumZ_add]
      refine sumZ_congr _ fun j _ => ?_
      have := desc_mul x j
      rw [Int.mul_left_comm, this, Int.mul_add, Int.mul_left_comm, ← Int.mul_assoc]
    have e2 : sumZ (fun j => (j : Int) * newtF cs j * (desc x j : Int)) (M + 1) = sumZ (fun j => (j : Int) * newtF cs j * (desc x j : Int)) M := by
      show _ + (M : Int) * newtF cs M * (desc x M : Int) = _
      rw [newtF_zero cs M (by omega)]; simp
    have e3 : sumZ (fun j => newtF (c :: cs) j * (desc x j : Int)) (M + 1) = sumZ (fun j => (if j = 0 then c else newtF cs (j - 1)) * (desc x j : Int)) (M + 1) + sumZ (fun j => (j : Int) * newtF cs j * (desc x j : Int)) (M + 1) := by
      rw [← sumZ_add]
      refine sumZ_congr _ fun j _ => ?_
      show ((if j = 0 then c else newtF cs (j - 1)) + j * newtF cs j) * _ = _
      rw [Int.add_mul]
    have e4 : sumZ (fun j => (if j = 0 then c else newtF cs (j - 1)) * (desc x j : Int)) (M + 1) = c + sumZ (fun j => newtF cs j * (desc x (j + 1) : Int)) M := by
      rw [sumZ_shift]
      simp [desc]
    rw [e1, e3, e2, e4]; omega
/-- j! divides x (x - 1) .. (x - j + 1) -/
theorem fact_dvd : ∀ (n k : Nat), fact k ∣ desc n k
  | _, 0 => Nat.dvd_refl 1
  | 0, k + 1 => by rw [desc_zero 0 (k + 1) (by omega)]; exact Nat.dvd_zero _
  | n + 1, k + 1 => by
    rw [desc_step]
    by_cases h : k ≤ n
    · have e : (n + 1) * desc n k = desc n (k + 1) + (k + 1) * desc n k := by
        show _ = desc n k * (n - k) + _
        rw [Nat.mul_comm (desc n k), ← Nat.add_mul]
        congr 1; omega
      rw [e]
      exact Nat.dvd_add (fact_dvd n (k + 1)) (Nat.mul_dvd_mul (Nat.dvd_refl _) (fact_dvd n k))
    · rw [desc_zero n k (by omega)]; simp
theorem fact_pos : ∀ n, 0 < fact n
  | 0 => by decide
  | n + 1 => Nat.mul_pos (by omega) (fact_pos n)
theorem fact_dvd_le {a b : Nat} (h : a ≤ b) : fact a ∣ fact b := by
  induction b with
  | zero =>
    have e : a = 0 := by omega
    rw [e]; exact Nat.dvd_refl _
  | succ b ih =>
    by_cases e : a = b + 1
    · subst e; exact Nat.dvd_refl _
    · exact Nat.dvd_trans (ih (by omega)) ⟨b + 1, Nat.mul_comm _ _⟩
theorem room_fact {m : Nat} (hm : 2 ≤ m) (i : Nat) : roomN m i = m / Nat.gcd m (fact i) := by
  unfold roomN
  rw [prodP_fact hm, Nat.gcd_comm m (fact i % m), ← Nat.gcd_rec m (fact i)]
theorem room_dvd {m : Nat} (hm : 2 ≤ m) (x j : Nat) : m ∣ roomN m j * desc x j := by
  rw [room_fact hm]
  obtain ⟨b, hb⟩ := fact_dvd x j
  have h1 := Nat.gcd_dvd_left m (fact j)
  have h2 := Nat.gcd_dvd_right m (fact j)
  obtain ⟨c, hc⟩ := h2
  refine ⟨c * b, ?_⟩
  rw [hb, ← Nat.mul_assoc, ← Nat.mul_assoc]
  congr 1
  have h3 := Nat.div_mul_cancel h1
  have h4 : m / m.gcd (fact j) * fact j = m / m.gcd (fact j) * (m.gcd (fact j) * c) := by rw [← hc]
  rw [h4, ← Nat.mul_assoc, h3]
/-- the form of a polynomial -/
def formP (m : Nat) (p : List Int) : List Int := (List.range (degN m)).map fun j => newtF p j % (roomN m j : Int)
theorem formP_length (m : Nat) (p : List Int) : (formP m p).length = degN m := by simp [formP]
theorem formP_get {m : Nat} (p : List Int) {j : Nat} (hj : j < degN m) : (formP m p).getD j 0 = newtF p j % (roomN m j : Int) := by
  unfold formP
  rw [List.getD_eq_getElem?_getD, List.getElem?_map, List.getElem?_range hj]; rfl
theorem emod_sumZ {m : Int} {g h : Nat → Int} : ∀ k, (∀ j, j < k → g j % m = h j % m) → sumZ g k % m = sumZ h k % m
  | 0, _ => rfl
  | k + 1, e => by
    show (sumZ g k + g k) % m = (sumZ h k + h k) % m
    rw [Int.add_emod, emod_sumZ k (fun j hj => e j (by omega)), e k (by omega), ← Int.add_emod]
theorem room_term {m : Nat} (hm : 2 ≤ m) (a : Int) (x j : Nat) : (a % (roomN m j : Int)) * (desc x j : Int) % (m : Int) = a * (desc x j : Int) % (m : Int) := by
  have h1 := Int.emod_add_mul_ediv a (roomN m j : Int)
  obtain ⟨c, hc⟩ := room_dvd hm x j
  have h2 : a * (desc x j : Int) = (a % (roomN m j : Int)) * (desc x j : Int) + (m : Int) * ((c : Int) * (a / (roomN m j : Int))) := by
    have h3 : ((roomN m j : Nat) : Int) * (desc x j : Int) = (m : Int) * (c : Int) := by rw [← Int.natCast_mul, hc, Int.natCast_mul]
    calc a * (desc x j : Int) = (a % (roomN m j : Int) + (roomN m j : Int) * (a / (roomN m j : Int))) * (desc x j : Int) := by rw [h1]
      _ = (a % (roomN m j : Int)) * (desc x j : Int) + ((roomN m j : Int) * (desc x j : Int)) * (a / (roomN m j : Int)) := by rw [Int.add_mul, Int.mul_right_comm]
      _ = _ := by rw [h3, Int.mul_assoc]
  rw [h2, Int.add_mul_emod_self_left]
/-- a polynomial's function is that of its form -/
theorem poly_form {m : Nat} (hm : 2 ≤ m) (h64 : m ≤ 64) (p : List Int) (x : Nat) : polyV m p x = valV m (formP m p) x (degN m) := by
  obtain ⟨_, _, h3, _, _⟩ := deg_facts ⟨m, by omega⟩ hm
  simp only at h3
  rw [prodP_fact hm] at h3
  have hd : m ∣ fact (degN m) := Nat.dvd_of_mod_eq_zero h3
  unfold polyV
  rw [nestV_sum, newt_eval x p (degN m + p.length) (by omega), valV_terms hm, termsP_sum]
  have e1 : sumZ (fun j => newtF p j * (desc x j : Int)) (degN m + p.length) % (m : Int) = sumZ (fun j => (if j < degN m then newtF p j * (desc x j : Int) else 0)) (degN m + p.length) % (m : Int) := by
    refine emod_sumZ _ fun j _ => ?_
    by_cases h : j < degN m
    · rw [if_pos h]
    · rw [if_neg h]
      obtain ⟨c, hc⟩ := Nat.dvd_trans hd (Nat.dvd_trans (fact_dvd_le (show degN m ≤ j by omega)) (fact_dvd x j))
      rw [hc, Int.natCast_mul, Int.mul_left_comm, Int.mul_emod_right]; rfl
  rw [e1, sumZ_more (k := degN m) p.length (fun j h => if_neg (by omega))]
  refine emod_sumZ _ fun j hj => ?_
  rw [if_pos hj, formP_get p hj, prodF_desc, room_term hm]
end Go.Proofs.Ythmdlkaanjjbkaa
