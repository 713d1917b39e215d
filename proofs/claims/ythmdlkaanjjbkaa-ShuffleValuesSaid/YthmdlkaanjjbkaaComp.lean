/- The polynomial of one polynomial applied after another: mathematics. -/
import Derived.Test.YthmdlkaanjjbkaaFormm
namespace Go.Proofs.Ythmdlkaanjjbkaa
set_option linter.unusedVariables false

/-- the value of a list of coefficients -/
def evalL (x : Int) : List Int → Int
  | [] => 0
  | c :: cs => c + x * evalL x cs
theorem evalL_sumP (x : Int) : ∀ (l : List Int) (i : Nat), sumP (fun _ => x) i l = evalL x l
  | [], _ => rfl
  | c :: cs, i => by
    show c + x * sumP (fun _ => x) (i + 1) cs = c + x * evalL x cs
    rw [evalL_sumP x cs (i + 1)]
theorem polyV_eval (m : Int) (p : List Int) (x : Int) : polyV m p x = evalL x p % m := by
  unfold polyV
  rw [nestV_sum, evalL_sumP]
def addL : List Int → List Int → List Int
  | [], b => b
  | a, [] => a
  | x :: a, y :: b => (x + y) :: addL a b
theorem addL_eval (x : Int) : ∀ a b : List Int, evalL x (addL a b) = evalL x a + evalL x b
  | [], b => by simp [addL, evalL]
  | u :: a, [] => by simp [addL, evalL]
  | u :: a, v :: b => by
    show (u + v) + x * evalL x (addL a b) = (u + x * evalL x a) + (v + x * evalL x b)
    rw [addL_eval x a b, Int.mul_add]; omega
def scaleL (c : Int) (a : List Int) : List Int := a.map (c * ·)
theorem scaleL_eval (x c : Int) : ∀ a : List Int, evalL x (scaleL c a) = c * evalL x a
  | [] => by simp [scaleL, evalL]
  | u :: a => by
    show c * u + x * evalL x (scaleL c a) = c * (u + x * evalL x a)
    rw [scaleL_eval x c a, Int.mul_add, Int.mul_left_comm]
def mulL : List Int → List Int → List Int
  | [], _ => []
  | u :: a, b => addL (scaleL u b) (0 :: mulL a b)
theorem mulL_eval (x : Int) : ∀ a b : List Int, evalL x (mulL a b) = evalL x a * evalL x b
  | [], b => by simp [mulL, evalL]
  | u :: a, b => by
    show evalL x (addL (scaleL u b) (0 :: mulL a b)) = (u + x * evalL x a) * evalL x b
    rw [addL_eval, scaleL_eval]
    show u * evalL x b + (0 + x * evalL x (mulL a b)) = _
    rw [mulL_eval x a b, Int.add_mul, Int.zero_add, Int.mul_assoc]
/-- q applied after p -/
def compL (p : List Int) : List Int → List Int
  | [] => []
  | c :: cs => addL [c] (mulL p (compL p cs))
theorem compL_eval (x : Int) (p : List Int) : ∀ q : List Int, evalL x (compL p q) = evalL (evalL x p) q
  | [] => rfl
  | c :: cs => by
    show evalL x (addL [c] (mulL p (compL p cs))) = c + evalL x p * evalL (evalL x p) cs
    rw [addL_eval, mulL_eval, compL_eval x p cs]
    show c + x * 0 + _ = _
    rw [Int.mul_zero, Int.add_zero]
theorem evalL_mod (m x : Int) : ∀ q : List Int, evalL (x % m) q % m = evalL x q % m
  | [] => rfl
  | c :: cs => by
    show (c + x % m * evalL (x % m) cs) % m = (c + x * evalL x cs) % m
    rw [Int.add_emod, Int.mul_emod, Int.emod_emod, evalL_mod m x cs, ← Int.mul_emod, ← Int.add_emod]
/-- the function of the one after the other -/
theorem polyV_comp (m : Int) (p q : List Int) (x : Int) : polyV m (compL p q) x = polyV m q (polyV m p x) := by
  rw [polyV_eval, polyV_eval, polyV_eval, evalL_mod, compL_eval]
theorem formS_congr {m : Nat} {f g : Nat → Int} : ∀ i, (∀ x, x < i → f x = g x) → formS m f i = formS m g i
  | 0, _ => rfl
  | i + 1, h => by
    unfold formS
    rw [formS_congr i (fun x hx => h x (by omega)), h i (by omega)]
theorem formR_congr {m : Nat} (hd : degN m ≤ m) {f g : Nat → Int} (h : ∀ x, x < m → f x = g x) : formR m f = formR m g := by
  unfold formR
  rw [formS_congr (degN m) (fun x hx => h x (by omega))]
  congr 1
  funext l
  have e : makesB m f l = makesB m g l := by
    unfold makesB
    rw [Bool.eq_iff_iff, List.all_eq_true, List.all_eq_true]
    constructor
    · intro H x hx
      rw [← h x (List.mem_range.1 hx)]; exact H x hx
    · intro H x hx
      rw [h x (List.mem_range.1 hx)]; exact H x hx
  rw [e]
theorem trimZ_le (l : List Int) : (trimZ l).length ≤ l.length := by
  unfold trimZ
  rw [List.length_reverse]
  have := (List.dropWhile_suffix (fun x : Int => decide (x = 0)) (l := l.reverse)).length_le
  simpa using this
/-- the function of a polynomial has a form, that is no longer than the degree -/
theorem form_of_poly {m : Nat} (hm : 2 ≤ m) (h64 : m ≤ 64) (p : List Int) {f : Nat → Int} (h : ∀ x, x < m → f x = polyV m p x) : ∃ l, formR m f = some l ∧ l.length ≤ degN m := by
  obtain ⟨_, d2, _⟩ := deg_facts ⟨m, by omega⟩ hm
  simp only at d2
  refine ⟨_, (formR_congr d2 h).trans (formR_poly hm h64 p), ?_⟩
  have := trimZ_le (formP m p)
  rwa [formP_length] at this
end Go.Proofs.Ythmdlkaanjjbkaa
