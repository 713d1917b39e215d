/- Rivest's theorem: when a polynomial is a permutation for a power of 2. -/
import Derived.Test.YthmdlkaanjjbkaaComp
namespace Go.Proofs.Ythmdlkaanjjbkaa
set_option linter.unusedVariables false

theorem two_or (x : Int) : x % 2 = 0 ∨ x % 2 = 1 := by omega
/-- (f(y) - f(x)) / (y - x) -/
def qL (x y : Int) : List Int → Int
  | [] => 0
  | _ :: cs => evalL y cs + x * qL x y cs
theorem qL_mul (x y : Int) : ∀ l : List Int, (y - x) * qL x y l = evalL y l - evalL x l
  | [] => by simp [qL, evalL]
  | c :: cs => by
    have ih := qL_mul x y cs
    show (y - x) * (evalL y cs + x * qL x y cs) = (c + y * evalL y cs) - (c + x * evalL x cs)
    grind
mutual
def evenS : List Int → Int
  | [] => 0
  | c :: cs => c + oddS cs
def oddS : List Int → Int
  | [] => 0
  | _ :: cs => evenS cs
end
theorem eval_even {x : Int} (h : x % 2 = 0) : ∀ l : List Int, evalL x l % 2 = l.getD 0 0 % 2
  | [] => rfl
  | c :: cs => by
    show (c + x * evalL x cs) % 2 = c % 2
    rw [Int.add_emod, Int.mul_emod, h]; simp
theorem eval_odd {x : Int} (h : x % 2 = 1) : ∀ l : List Int, evalL x l % 2 = (evenS l + oddS l) % 2
  | [] => rfl
  | c :: cs => by
    have ih := eval_odd h cs
    show (c + x * evalL x cs) % 2 = (c + oddS cs + evenS cs) % 2
    rw [Int.add_emod, Int.mul_emod, h, ih]
    omega
theorem q_even {x y : Int} (hx : x % 2 = 0) (hy : y % 2 = 0) : ∀ l : List Int, qL x y l % 2 = l.getD 1 0 % 2
  | [] => rfl
  | c :: cs => by
    show (evalL y cs + x * qL x y cs) % 2 = cs.getD 0 0 % 2
    rw [Int.add_emod, Int.mul_emod, hx, eval_even hy]; simp
theorem q_odd {x y : Int} (hx : x % 2 = 1) (hy : y % 2 = 1) : ∀ l : List Int, qL x y l % 2 = oddS l % 2
  | [] => rfl
  | c :: cs => by
    have ih := q_odd hx hy cs
    show (evalL y cs + x * qL x y cs) % 2 = evenS cs % 2
    rw [Int.add_emod, Int.mul_emod, hx, eval_odd hy, ih]
    omega
/-- the conditions -/
def rivP (l : List Int) : Prop := l.getD 1 0 % 2 = 1 ∧ oddS l % 2 = 1 ∧ (evenS l + oddS l - l.getD 0 0) % 2 = 1
def injP (K : Nat) (l : List Int) : Prop := ∀ x y : Nat, x < y → y < 2 ^ K → evalL x l % ((2 ^ K : Nat) : Int) ≠ evalL y l % ((2 ^ K : Nat) : Int)
theorem dvd_of_emod_eq {a b n : Int} (h : a % n = b % n) : n ∣ b - a := by
  rw [show b - a = -(a - b) by omega]
  exact Int.dvd_neg.2 (Int.dvd_of_emod_eq_zero (Int.emod_eq_emod_iff_emod_sub_eq_zero.1 h))
theorem emod_of_dvd {a b n : Int} (h : n ∣ b - a) : a % n = b % n := (Int.emod_eq_emod_iff_emod_sub_eq_zero.2 (Int.emod_eq_zero_of_dvd h)).symm
theorem odd_cancel {q : Int} (hq : q % 2 = 1) : ∀ (K : Nat) (d : Int), ((2 ^ K : Nat) : Int) ∣ d * q → ((2 ^ K : Nat) : Int) ∣ d
  | 0, d, _ => by simp
  | K + 1, d, h => by
    have e : ((2 ^ (K + 1) : Nat) : Int) = 2 * ((2 ^ K : Nat) : Int) := by rw [Nat.pow_succ, Nat.mul_comm]; simp
    rw [e] at h ⊢
    obtain ⟨t, ht⟩ := h
    have h2 : (d * q) % 2 = 0 := by rw [ht, Int.mul_assoc, Int.mul_emod_right]
    have h3 : d % 2 = 0 := by
      rw [Int.mul_emod, hq] at h2
      omega
    obtain ⟨d', rfl⟩ : ∃ d', d = 2 * d' := ⟨d / 2, by omega⟩
    have h4 : ((2 ^ K : Nat) : Int) ∣ d' * q := ⟨t, by
      have h5 : 2 * (d' * q) = 2 * (((2 ^ K : Nat) : Int) * t) := by rw [← Int.mul_assoc, ht, Int.mul_assoc]
      exact Int.eq_of_mul_eq_mul_left (by decide) h5⟩
    exact Int.mul_dvd_mul_left 2 (odd_cancel hq K d' h4)
theorem riv_inj {l : List Int} (h : rivP l) (K : Nat) (hK : 1 ≤ K) : injP K l := fun x y hxy hy he => by
  obtain ⟨h1, h2, h3⟩ := h
  have hd := dvd_of_emod_eq he
  by_cases hp : (x : Int) % 2 = (y : Int) % 2
  · have hq : qL x y l % 2 = 1 := by
      rcases two_or (x : Int) with e | e
      · rw [q_even e (by omega)]; exact h1
      · rw [q_odd e (by omega)]; exact h2
    rw [← qL_mul] at hd
    have h4 := odd_cancel hq K _ hd
    have h5 : ((2 ^ K : Nat) : Int) ∣ ((y - x : Nat) : Int) := by rw [Int.ofNat_sub (Nat.le_of_lt hxy)]; exact h4
    have h6 := Nat.le_of_dvd (by omega) (Int.natCast_dvd_natCast.1 h5)
    omega
  · have h2d : (2 : Int) ∣ evalL y l - evalL x l := by
      refine Int.dvd_trans ?_ hd
      obtain ⟨j, rfl⟩ : ∃ j, K = j + 1 := ⟨K - 1, by omega⟩
      exact ⟨((2 ^ j : Nat) : Int), by rw [Nat.pow_succ, Nat.mul_comm]; simp⟩
    have h7 := Int.emod_eq_zero_of_dvd h2d
    rcases two_or (x : Int) with e | e
    · have e1 := eval_even e l
      have e2 := eval_odd (x := y) (by omega) l
      omega
    · have e1 := eval_odd e l
      have e2 := eval_even (x := y) (by omega) l
      omega
/-- a place with the same value modulo 2^j that is even -/
theorem lift {l : List Int} (h1 : l.getD 1 0 % 2 = 1) (c : Int) (hc : (evalL 0 l - c) % 2 = 0) : ∀ j, 1 ≤ j → ∃ x : Nat, x % 2 = 0 ∧ ((2 ^ j : Nat) : Int) ∣ evalL x l - c
  | 0, h => by omega
  | 1, _ => ⟨0, rfl, Int.dvd_of_emod_eq_zero hc⟩
  | j + 2, _ => by
    obtain ⟨x, hx, s, hs⟩ := lift h1 c hc (j + 1) (by omega)
    obtain ⟨p, hp⟩ : ∃ p : Nat, 2 ^ (j + 1) = p := ⟨_, rfl⟩
    have hp2 : p % 2 = 0 := by rw [← hp, Nat.pow_succ]; omega
    have e : ((2 ^ (j + 2) : Nat) : Int) = (p : Int) * 2 := by rw [show j + 2 = (j + 1) + 1 by rfl, Nat.pow_succ, hp]; simp
    rw [hp] at hs
    rw [e]
    rcases two_or s with h0 | h0
    · exact ⟨x, hx, by rw [hs]; exact Int.mul_dvd_mul_left _ (Int.dvd_of_emod_eq_zero h0)⟩
    · refine ⟨x + p, by omega, ?_⟩
      have hq := qL_mul x ((x + p : Nat) : Int) l
      have hqo : qL x ((x + p : Nat) : Int) l % 2 = 1 := by rw [q_even (by omega) (by omega)]; exact h1
      rw [show ((x + p : Nat) : Int) - (x : Int) = (p : Int) by omega] at hq
      rw [show evalL ((x + p : Nat) : Int) l - c = (p : Int) * (qL x ((x + p : Nat) : Int) l + s) by rw [Int.mul_add, hq, ← hs]; omega]
      exact Int.mul_dvd_mul_left _ (Int.dvd_of_emod_eq_zero (by omega))
theorem inj_riv {l : List Int} (K : Nat) (hK : 2 ≤ K) (h : injP K l) : rivP l := by
  obtain ⟨j, rfl⟩ : ∃ j, K = j + 2 := ⟨K - 2, by omega⟩
  obtain ⟨p, hp⟩ : ∃ p : Nat, 2 ^ (j + 1) = p := ⟨_, rfl⟩
  have hp2 : p % 2 = 0 := by rw [← hp, Nat.pow_succ]; omega
  have hp1 : 2 ≤ p := by
    have := Nat.pow_pos (n := j) (show 0 < 2 by decide)
    rw [← hp, Nat.pow_succ]; omega
  have e : 2 ^ (j + 2) = p * 2 := by rw [show j + 2 = (j + 1) + 1 by rfl, Nat.pow_succ, hp]
  -- the derivative is odd: else x and x + p collide
  have hder : ∀ x : Nat, x < 2 → qL x ((x + p : Nat) : Int) l % 2 = 1 := fun x hx => by
    rcases two_or (qL x ((x + p : Nat) : Int) l) with h0 | h0
    · exfalso
      refine h x (x + p) (by omega) (by omega) (emod_of_dvd ?_)
      have hq := qL_mul x ((x + p : Nat) : Int) l
      rw [show ((x + p : Nat) : Int) - (x : Int) = (p : Int) by omega] at hq
      rw [← hq, e, Int.natCast_mul]
      exact Int.mul_dvd_mul_left _ (Int.dvd_of_emod_eq_zero h0)
    · exact h0
  have h1 : l.getD 1 0 % 2 = 1 := by rw [← q_even (x := (0 : Nat)) (y := ((0 + p : Nat) : Int)) (by omega) (by omega)]; exact hder 0 (by omega)
  have h2 : oddS l % 2 = 1 := by rw [← q_odd (x := (1 : Nat)) (y := ((1 + p : Nat) : Int)) (by omega) (by omega)]; exact hder 1 (by omega)
  refine ⟨h1, h2, ?_⟩
  have e0 := eval_even (x := 0) rfl l
  have e1 := eval_odd (x := 1) rfl l
  rcases two_or (evenS l + oddS l - l.getD 0 0) with h0 | h0
  · exfalso
    obtain ⟨x, hx, hd⟩ := lift h1 (evalL 1 l) (by omega) (j + 2) (by omega)
    have hpos : 0 < 2 ^ (j + 2) := Nat.pow_pos (by decide)
    have hxm : (x % 2 ^ (j + 2)) % 2 = 0 := by rw [Nat.mod_mod_of_dvd _ ⟨p, by rw [e, Nat.mul_comm]⟩]; exact hx
    have hxl := Nat.mod_lt x hpos
    have hval : evalL ((x % 2 ^ (j + 2) : Nat) : Int) l % ((2 ^ (j + 2) : Nat) : Int) = evalL 1 l % ((2 ^ (j + 2) : Nat) : Int) := by
      rw [Int.natCast_emod, evalL_mod]
      exact (emod_of_dvd hd).symm
    by_cases hz : x % 2 ^ (j + 2) < 1
    · exact h _ 1 hz (by omega) hval
    · exact h 1 _ (by omega) hxl hval.symm
  · exact h0
/-- the sums as the statement reckons them -/
def sumE (l : List Int) : Nat → Int
  | 0 => 0
  | k + 1 => sumE l k + if k % 2 = 0 then l.getD k 0 else 0
def sumO (l : List Int) : Nat → Int
  | 0 => 0
  | k + 1 => sumO l k + if k % 2 = 0 then 0 else l.getD k 0
theorem sum_cons (c : Int) (cs : List Int) : ∀ k, sumE (c :: cs) (k + 1) = c + sumO cs k ∧ sumO (c :: cs) (k + 1) = sumE cs k
  | 0 => by simp [sumE, sumO]
  | k + 1 => by
    obtain ⟨h1, h2⟩ := sum_cons c cs k
    have e1 : sumE (c :: cs) (k + 1 + 1) = sumE (c :: cs) (k + 1) + if (k + 1) % 2 = 0 then cs.getD k 0 else 0 := rfl
    have e2 : sumO (c :: cs) (k + 1 + 1) = sumO (c :: cs) (k + 1) + if (k + 1) % 2 = 0 then 0 else cs.getD k 0 := rfl
    have e3 : sumE cs (k + 1) = sumE cs k + if k % 2 = 0 then cs.getD k 0 else 0 := rfl
    have e4 : sumO cs (k + 1) = sumO cs k + if k % 2 = 0 then 0 else cs.getD k 0 := rfl
    rw [e1, e2, e3, e4, h1, h2]
    by_cases hk : k % 2 = 0
    · have hk1 : ¬ (k + 1) % 2 = 0 := fun h => by clear e1 e2 e3 e4 h1 h2; omega
      simp only [if_neg hk1, if_pos hk]; exact ⟨by omega, by trivial⟩
    · have hk1 : (k + 1) % 2 = 0 := by clear e1 e2 e3 e4 h1 h2; omega
      simp only [if_pos hk1, if_neg hk]; exact ⟨by omega, by trivial⟩
theorem sum_all : ∀ l : List Int, evenS l = sumE l l.length ∧ oddS l = sumO l l.length
  | [] => by simp [evenS, oddS, sumE, sumO]
  | c :: cs => by
    obtain ⟨h1, h2⟩ := sum_all cs
    obtain ⟨h3, h4⟩ := sum_cons c cs cs.length
    rw [List.length_cons, h3, h4]
    exact ⟨by show c + oddS cs = _; rw [h2], by show evenS cs = _; rw [h1]⟩
/-- the loop's three numbers before the round k -/
def evN (l : List Int) : Nat → Int
  | 0 => 0
  | k + 1 => evN l k + if 2 ≤ k ∧ k % 2 = 0 then l.getD k 0 else 0
def odN (l : List Int) : Nat → Int
  | 0 => 0
  | k + 1 => odN l k + if 2 ≤ k ∧ k % 2 = 1 then l.getD k 0 else 0
def onN (l : List Int) (k : Nat) : Int := if 2 ≤ k then l.getD 1 0 else 0
theorem evN_sum (l : List Int) : ∀ k, sumE l k = (if 1 ≤ k then l.getD 0 0 else 0) + evN l k
  | 0 => by simp [sumE, evN]
  | k + 1 => by
    have ih := evN_sum l k
    have e1 : sumE l (k + 1) = sumE l k + if k % 2 = 0 then l.getD k 0 else 0 := rfl
    have e2 : evN l (k + 1) = evN l k + if 2 ≤ k ∧ k % 2 = 0 then l.getD k 0 else 0 := rfl
    rw [e1, e2, ih, if_pos (show 1 ≤ k + 1 by omega)]
    by_cases h0 : k = 0
    · subst h0; simp [evN]
    · rw [if_pos (show 1 ≤ k by omega)]
      by_cases hk : k % 2 = 0
      · rw [if_pos hk, if_pos ⟨by omega, hk⟩]; omega
      · rw [if_neg hk, if_neg (fun h => hk h.2)]; omega
theorem odN_sum (l : List Int) : ∀ k, sumO l k = onN l k + odN l k
  | 0 => by simp [sumO, odN, onN]
  | k + 1 => by
    have ih := odN_sum l k
    have e1 : sumO l (k + 1) = sumO l k + if k % 2 = 0 then 0 else l.getD k 0 := rfl
    have e2 : odN l (k + 1) = odN l k + if 2 ≤ k ∧ k % 2 = 1 then l.getD k 0 else 0 := rfl
    rw [e1, e2, ih]
    unfold onN
    by_cases h0 : k = 0
    · subst h0; simp [odN]
    · by_cases h1 : k = 1
      · subst h1; simp [odN]
      · rw [if_pos (show 2 ≤ k by omega), if_pos (show 2 ≤ k + 1 by omega)]
        by_cases hk : k % 2 = 0
        · rw [if_pos hk, if_neg (fun h => by omega)]; omega
        · rw [if_neg hk, if_pos ⟨by omega, by omega⟩]; omega
theorem rivP_nums {l : List Int} {n : Nat} (hn : l.length = n) : rivP l ↔ onN l n % 2 = 1 ∧ evN l n % 2 = 0 ∧ odN l n % 2 = 0 := by
  obtain ⟨h1, h2⟩ := sum_all l
  rw [hn] at h1 h2
  rw [evN_sum] at h1
  rw [odN_sum] at h2
  have h3 : l.getD 1 0 = onN l n := by
    unfold onN
    by_cases h : 2 ≤ n
    · rw [if_pos h]
    · rw [if_neg h, List.getD_eq_getElem?_getD, List.getElem?_eq_none (by omega)]; rfl
  have h4 : (if 1 ≤ n then l.getD 0 0 else 0) = l.getD 0 0 := by
    by_cases h : 1 ≤ n
    · rw [if_pos h]
    · rw [if_neg h, List.getD_eq_getElem?_getD, List.getElem?_eq_none (by omega)]; rfl
  rw [h4] at h1
  unfold rivP
  rw [h1, h2, h3]
  constructor
  · rintro ⟨k1, k2, k3⟩; exact ⟨k1, by omega, by omega⟩
  · rintro ⟨k1, k2, k3⟩; exact ⟨k1, by omega, by omega⟩
end Go.Proofs.Ythmdlkaanjjbkaa
