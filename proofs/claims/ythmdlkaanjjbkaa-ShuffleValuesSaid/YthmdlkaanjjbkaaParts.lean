/- Prime powers: mathematics, and pairs as cells. -/
import Derived.Test.YthmdlkaanjjbkaaQp
namespace Go.Proofs.Ythmdlkaanjjbkaa
set_option linter.unusedVariables false
open Go.RowKit

/-- how often p divides m, and what is left -/
def stripN (p : Nat) : Nat → Nat → Nat × Nat
  | 0, m => (0, m)
  | f + 1, m => if m % p = 0 then ((stripN p f (m / p)).1 + 1, (stripN p f (m / p)).2) else (0, m)
theorem strip_yes {p g m : Nat} (hp : 2 ≤ p) (h1 : 1 ≤ m) (h2 : m < 2 ^ (g + 1)) (h : m % p = 0) : stripN p (g + 1) m = ((stripN p g (m / p)).1 + 1, (stripN p g (m / p)).2) ∧ 1 ≤ m / p ∧ m / p < 2 ^ g ∧ m / p < m := by
  refine ⟨if_pos h, ?_, ?_, Nat.div_lt_self (by omega) (by omega)⟩
  · exact Nat.div_pos (Nat.le_of_dvd (by omega) (Nat.dvd_of_mod_eq_zero h)) (by omega)
  · have h3 : m / p ≤ m / 2 := Nat.div_le_div_left hp (by omega)
    have h4 : 2 ^ (g + 1) = 2 ^ g * 2 := Nat.pow_succ 2 g
    omega
theorem strip_no {p g m : Nat} (h1 : 1 ≤ m) (h2 : m < 2 ^ g) (h : ¬ m % p = 0) : stripN p g m = (0, m) := by
  cases g with
  | zero => rfl
  | succ g => exact if_neg h
theorem strip_facts {p : Nat} (hp : 2 ≤ p) : ∀ (g m : Nat), 1 ≤ m → m < 2 ^ g → 1 ≤ (stripN p g m).2 ∧ ¬ p ∣ (stripN p g m).2 ∧ (stripN p g m).2 ∣ m ∧ (stripN p g m).1 ≤ g
  | 0, m, h1, h2 => by simp at h2; omega
  | g + 1, m, h1, h2 => by
    by_cases h : m % p = 0
    · obtain ⟨e, k1, k2, _⟩ := strip_yes hp h1 h2 h
      obtain ⟨i1, i2, i3, i4⟩ := strip_facts hp g (m / p) k1 k2
      rw [e]
      refine ⟨i1, i2, Nat.dvd_trans i3 ?_, by show _ + 1 ≤ g + 1; omega⟩
      exact Nat.div_dvd_of_dvd (Nat.dvd_of_mod_eq_zero h)
    · rw [strip_no h1 h2 h]
      exact ⟨h1, fun hd => h (Nat.mod_eq_zero_of_dvd hd), Nat.dvd_refl _, Nat.zero_le _⟩
def partsN : Nat → Nat → Nat → List (Nat × Nat)
  | 0, _, _ => []
  | f + 1, p, m => if 1 < m then (if 0 < (stripN p 7 m).1 then [(p, (stripN p 7 m).1)] else []) ++ partsN f (p + 1) (stripN p 7 m).2 else []
/-- the prime powers whose product a number is -/
def partsL (m : Nat) : List (Nat × Nat) := partsN 64 2 m
theorem partsL_start (m : Nat) : [] ++ partsN (66 - 2) 2 m = partsL m := by
  unfold partsL
  rw [List.nil_append]
theorem partsN_one (f p : Nat) : partsN f p 1 = [] := by cases f <;> rfl
/-- the outer loop's state: no number below p divides what is left -/
def PStP (p m : Nat) : Prop := 2 ≤ p ∧ 1 ≤ m ∧ m ≤ 64 ∧ ∀ d, 2 ≤ d → d < p → ¬ d ∣ m
theorem PStP.le {p m : Nat} (h : PStP p m) (h1 : 1 < m) : p ≤ m := by
  rcases Nat.lt_or_ge m p with h2 | h2
  · exact absurd (Nat.dvd_refl m) (h.2.2.2 m (by omega) h2)
  · exact h2
theorem PStP.next {p m : Nat} (h : PStP p m) : PStP (p + 1) (stripN p 7 m).2 := by
  obtain ⟨h1, h2, h3, h4⟩ := h
  obtain ⟨i1, i2, i3, _⟩ := strip_facts h1 7 m h2 (by show m < 128; omega)
  refine ⟨by omega, i1, Nat.le_trans (Nat.le_of_dvd h2 i3) h3, fun d hd hd2 hdm => ?_⟩
  by_cases e : d = p
  · subst e; exact i2 hdm
  · exact h4 d hd (by omega) (Nat.dvd_trans hdm i3)
theorem partsN_step {p m : Nat} (h : PStP p m) (h1 : 1 < m) : partsN (66 - p) p m = (if 0 < (stripN p 7 m).1 then [(p, (stripN p 7 m).1)] else []) ++ partsN (66 - (p + 1)) (p + 1) (stripN p 7 m).2 := by
  have := h.le h1
  have := h.2.2.1
  rw [show 66 - p = (66 - (p + 1)) + 1 by omega]
  exact if_pos h1
/-- pairs, one after the other, as cells -/
def flatF : List (Nat × Nat) → List Value
  | [] => []
  | p :: l => .int .i64 (p.1 : Int) :: .int .i64 (p.2 : Int) :: flatF l
theorem flatF_length : ∀ l, (flatF l).length = l.length * 2
  | [] => rfl
  | p :: l => by simp [flatF, flatF_length l]; omega
theorem flatF_append : ∀ l m, flatF (l ++ m) = flatF l ++ flatF m
  | [], m => rfl
  | p :: l, m => by simp [flatF, flatF_append l m]
theorem flatF_get : ∀ {l : List (Nat × Nat)} {j : Nat} {p : Nat × Nat}, l[j]? = some p → (flatF l)[j * 2]? = some (.int .i64 (p.1 : Int)) ∧ (flatF l)[j * 2 + 1]? = some (.int .i64 (p.2 : Int))
  | [], j, p, h => by simp at h
  | q :: l, 0, p, h => by simp at h; subst h; exact ⟨rfl, rfl⟩
  | q :: l, j + 1, p, h => by
    have := flatF_get (l := l) (j := j) (by simpa using h)
    rw [show (j + 1) * 2 = j * 2 + 1 + 1 from by omega]
    exact this
theorem info_pair : (Try.prog.info? 42).map (fun i => (i.zero, i.size, i.bytes)) = some (some (.agg #[.int .i64 0, .int .i64 0]), 2, 16) := by kernel_rfl
theorem cells_two_new (w : World) (x y : Value) (t : TypeId) (n : Nat) (hn : n = w.heap.size) : ∀ j u, [x, y][j]? = some u → (w.alloc (.cells #[x, y] t)).cell? ((⟨n, 0, none⟩ : Addr).add j) = some u := by
  subst hn
  intro j u hj
  match j, hj with
  | 0, hj => simp at hj; subst hj; simp [Addr.add]
  | 1, hj => simp at hj; subst hj; simp [Addr.add]
  | j + 2, hj => simp at hj
end Go.Proofs.Ythmdlkaanjjbkaa
