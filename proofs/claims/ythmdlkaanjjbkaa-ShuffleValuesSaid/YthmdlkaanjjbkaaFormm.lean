/- How a form is found: mathematics. -/
import Derived.Test.YthmdlkaanjjbkaaNewt
namespace Go.Proofs.Ythmdlkaanjjbkaa
set_option linter.unusedVariables false

/-- the first number from c on, below c + k, that serves -/
def pickF (P : Nat → Bool) : Nat → Nat → Option Nat
  | 0, _ => none
  | k + 1, c => if P c then some c else pickF P k (c + 1)
theorem pickF_some {P : Nat → Bool} {c0 : Nat} : ∀ (k c : Nat), P c0 = true → c ≤ c0 → c0 < c + k → (∀ c', P c' = true → c' < c + k → c' = c0) → pickF P k c = some c0
  | 0, c, _, h1, h2, _ => by omega
  | k + 1, c, h0, h1, h2, h3 => by
    unfold pickF
    by_cases h : P c = true
    · rw [if_pos h, h3 c h (by omega)]
    · rw [if_neg h]
      refine pickF_some k (c + 1) h0 ?_ (by omega) (fun c' h4 h5 => h3 c' h4 (by omega))
      by_cases e : c = c0
      · subst e; exact absurd h0 h
      · omega
theorem pickF_is {P : Nat → Bool} {c0 : Nat} : ∀ (k c : Nat), pickF P k c = some c0 → P c0 = true ∧ c ≤ c0 ∧ c0 < c + k
  | 0, c, h => by simp [pickF] at h
  | k + 1, c, h => by
    unfold pickF at h
    by_cases hp : P c = true
    · rw [if_pos hp, Option.some.injEq] at h
      subst h
      exact ⟨hp, Nat.le_refl _, by omega⟩
    · rw [if_neg hp] at h
      obtain ⟨h1, h2, h3⟩ := pickF_is k (c + 1) h
      exact ⟨h1, by omega, by omega⟩
/-- whether c at i makes the value at i right -/
def fitB (m : Nat) (pre : List Int) (i : Nat) (fi : Int) (c : Nat) : Bool := decide ((valV m pre i i + (c : Int) * (prodP m i : Int)) % (m : Int) = fi)
def pickN (m : Nat) (pre : List Int) (i : Nat) (fi : Int) : Option Nat := pickF (fitB m pre i fi) (roomN m i) 0
/-- the first i numbers of the form -/
def formS (m : Nat) (f : Nat → Int) : Nat → Option (List Int)
  | 0 => some []
  | i + 1 => (formS m f i).bind fun pre => (pickN m pre i (f i)).map fun c : Nat => pre ++ [(c : Int)]
theorem formS_length {m : Nat} {f : Nat → Int} : ∀ {i : Nat} {l : List Int}, formS m f i = some l → l.length = i
  | 0, l, h => by simp [formS] at h; simp [h]
  | i + 1, l, h => by
    unfold formS at h
    cases hp : formS m f i with
    | none => rw [hp] at h; simp at h
    | some pre =>
      rw [hp, Option.bind_some] at h
      cases hc : pickN m pre i (f i) with
      | none => rw [hc] at h; simp at h
      | some c =>
        rw [hc, Option.map_some, Option.some.injEq] at h
        subst h
        rw [List.length_append, formS_length hp]; rfl
theorem valV_take (m : Nat) (a b : List Int) (x : Nat) : ∀ k, (∀ j, j < k → a.getD j 0 = b.getD j 0) → valV m a x k = valV m b x k
  | 0, _ => rfl
  | k + 1, h => by
    show (valV m a x k + a.getD k 0 * _) % _ = (valV m b x k + b.getD k 0 * _) % _
    rw [valV_take m a b x k (fun j hj => h j (by omega)), h k (by omega)]
theorem valV_range {m : Nat} (hm : 0 < m) (a : List Int) (x : Nat) : ∀ k, 0 ≤ valV m a x k ∧ valV m a x k < m
  | 0 => ⟨Int.le_refl _, by show (0 : Int) < m; omega⟩
  | k + 1 => ⟨Int.emod_nonneg _ (by omega), Int.emod_lt_of_pos _ (by omega)⟩
theorem gcd_prod_dvd {m : Nat} (hm : 2 ≤ m) (i : Nat) {c d : Nat} {v : Int} (h : (v + (c : Int) * (prodP m i : Int)) % (m : Int) = (v + (d : Int) * (prodP m i : Int)) % (m : Int)) (hle : c ≤ d) : roomN m i ∣ d - c := by
  have h1 : (m : Int) ∣ ((d - c : Nat) : Int) * (prodP m i : Int) := by
    have h2 := Int.emod_emod_of_dvd (v + (d : Int) * (prodP m i : Int)) (Int.dvd_refl (m : Int))
    have h3 : (m : Int) ∣ (v + (d : Int) * (prodP m i : Int)) - (v + (c : Int) * (prodP m i : Int)) := Int.dvd_of_emod_eq_zero (by rw [Int.sub_emod, h, Int.sub_self]; rfl)
    have h4 : (v + (d : Int) * (prodP m i : Int)) - (v + (c : Int) * (prodP m i : Int)) = ((d - c : Nat) : Int) * (prodP m i : Int) := by
      rw [Int.ofNat_sub hle, Int.sub_mul]; omega
    rwa [h4] at h3
  have h2 : m ∣ (d - c) * prodP m i := by
    rw [← Int.natCast_mul] at h1
    exact Int.natCast_dvd_natCast.1 h1
  unfold roomN
  have hg : 0 < m.gcd (prodP m i) := Nat.gcd_pos_of_pos_left _ (by omega)
  have hc := Nat.coprime_div_gcd_div_gcd (m := m) (n := prodP m i) hg
  obtain ⟨k, hk⟩ := h2
  have h3 : m / m.gcd (prodP m i) ∣ (d - c) * (prodP m i / m.gcd (prodP m i)) := by
    refine ⟨k, ?_⟩
    have e1 := Nat.div_mul_cancel (Nat.gcd_dvd_left m (prodP m i))
    have e2 := Nat.div_mul_cancel (Nat.gcd_dvd_right m (prodP m i))
    apply Nat.eq_of_mul_eq_mul_right hg
    rw [Nat.mul_assoc, e2, hk, Nat.mul_right_comm, e1]
  exact hc.dvd_of_dvd_mul_right h3
theorem fit_one {m : Nat} (hm : 2 ≤ m) {pre : List Int} {i : Nat} {fi : Int} {c d : Nat} (h1 : fitB m pre i fi c = true) (h2 : fitB m pre i fi d = true) (hc : c < roomN m i) (hd : d < roomN m i) : c = d := by
  unfold fitB at h1 h2
  rw [decide_eq_true_eq] at h1 h2
  rcases Nat.le_total c d with h | h
  · have h3 := gcd_prod_dvd hm i (h1.trans h2.symm) h
    have h4 := Nat.eq_zero_of_dvd_of_lt h3 (by omega)
    omega
  · have h3 := gcd_prod_dvd hm i (h2.trans h1.symm) h
    have h4 := Nat.eq_zero_of_dvd_of_lt h3 (by omega)
    omega
/-- the search finds a number that serves -/
theorem pick_some {m : Nat} (hm : 2 ≤ m) {pre : List Int} {i : Nat} {fi : Int} {c : Nat} (h : fitB m pre i fi c = true) (hc : c < roomN m i) : pickN m pre i fi = some c :=
  pickF_some _ _ h (Nat.zero_le _) (by omega) fun c' h1 h2 => fit_one hm h1 h (by omega) hc
theorem getD_snoc (l : List Int) (x : Int) (j : Nat) : (l ++ [x]).getD j 0 = if j < l.length then l.getD j 0 else if j = l.length then x else 0 := by
  rw [List.getD_eq_getElem?_getD, List.getD_eq_getElem?_getD]
  by_cases h : j < l.length
  · rw [if_pos h, List.getElem?_append_left h]
  · rw [if_neg h, List.getElem?_append_right (by omega)]
    by_cases e : j = l.length
    · subst e; simp
    · rw [if_neg e, List.getElem?_eq_none (by simp; omega)]; rfl
theorem getD_take (l : List Int) (i j : Nat) (h : j < i) : (l.take i).getD j 0 = l.getD j 0 := by
  rw [List.getD_eq_getElem?_getD, List.getD_eq_getElem?_getD, List.getElem?_take_of_lt h]
/-- what lies behind x changes no value at x -/
theorem valV_more {m : Nat} (hm : 2 ≤ m) (a : List Int) (x : Nat) : ∀ d, valV m a x (x + 1 + d) = valV m a x (x + 1)
  | 0 => rfl
  | d + 1 => by
    show (valV m a x (x + 1 + d) + _ * (fallN m x (x + 1 + d) : Int)) % (m : Int) = _
    rw [valV_more hm a x d, fallN_desc hm, desc_zero x _ (by omega)]
    simp only [Nat.zero_mod, Int.natCast_zero, Int.mul_zero, Int.add_zero]
    have := valV_range (by omega : 0 < m) a x (x + 1)
    exact Int.emod_eq_of_lt this.1 this.2
theorem valV_at {m : Nat} (hm : 2 ≤ m) (a : List Int) (i : Nat) : valV m a i (i + 1) = (valV m a i i + a.getD i 0 * (prodP m i : Int)) % (m : Int) := by
  show (valV m a i i + a.getD i 0 * (fallN m i i : Int)) % (m : Int) = _
  rw [fallN_prodP hm]
/-- the form of a function that a form makes -/
theorem formS_form {m : Nat} (hm : 2 ≤ m) {f : Nat → Int} {l : List Int} {d : Nat} (hl : l.length = d) (hr : ∀ i, i < d → 0 ≤ l.getD i 0 ∧ l.getD i 0 < roomN m i) (hf : ∀ i, i < d → f i = valV m l i d) :
    ∀ i, i ≤ d → formS m f i = some (l.take i)
  | 0, _ => by simp [formS]
  | i + 1, h => by
    unfold formS
    rw [formS_form hm hl hr hf i (by omega), Option.bind_some]
    obtain ⟨h1, h2⟩ := hr i (by omega)
    obtain ⟨c, hc⟩ : ∃ c : Nat, l.getD i 0 = c := ⟨(l.getD i 0).toNat, by omega⟩
    have hfit : fitB m (l.take i) i (f i) c = true := by
      unfold fitB
      rw [decide_eq_true_eq, hf i (by omega)]
      obtain ⟨e, he⟩ : ∃ e, d = i + 1 + e := ⟨d - (i + 1), by omega⟩
      rw [he, valV_more hm, valV_at hm, hc, valV_take m (l.take i) l i i (fun j hj => getD_take l i j hj)]
    rw [pick_some hm hfit (by omega), Option.map_some, List.take_add_one]
    congr 2
    rw [List.getElem?_eq_getElem (by omega)]
    have : l.getD i 0 = l[i] := by rw [List.getD_eq_getElem?_getD, List.getElem?_eq_getElem (by omega)]; rfl
    rw [← this, hc]; rfl
theorem roomN_pos {m : Nat} (hm : 2 ≤ m) (i : Nat) : 1 ≤ roomN m i := by
  unfold roomN
  exact Nat.div_pos (Nat.le_of_dvd (by omega) (Nat.gcd_dvd_left _ _)) (Nat.gcd_pos_of_pos_left _ (by omega))
theorem formS_poly {m : Nat} (hm : 2 ≤ m) (h64 : m ≤ 64) (p : List Int) : formS m (fun x => polyV m p x) (degN m) = some (formP m p) := by
  have h := formS_form hm (f := fun x => polyV m p x) (formP_length m p) (fun i hi => by
    rw [formP_get p hi]
    have := roomN_pos hm i
    exact ⟨Int.emod_nonneg _ (by omega), Int.emod_lt_of_pos _ (by omega)⟩) (fun i _ => poly_form hm h64 p i) (degN m) (Nat.le_refl _)
  rwa [List.take_of_length_le (by rw [formP_length]; exact Nat.le_refl _)] at h
/-- whether a form makes a function -/
def makesB (m : Nat) (f : Nat → Int) (l : List Int) : Bool := (List.range m).all fun x => decide (valV m l x l.length = f x)
def trimZ (l : List Int) : List Int := (l.reverse.dropWhile fun x => decide (x = 0)).reverse
/-- Form's answer -/
def formR (m : Nat) (f : Nat → Int) : Option (List Int) := (formS m f (degN m)).bind fun l => if makesB m f l then some (trimZ l) else none
theorem formR_poly {m : Nat} (hm : 2 ≤ m) (h64 : m ≤ 64) (p : List Int) : formR m (fun x => polyV m p x) = some (trimZ (formP m p)) := by
  unfold formR
  rw [formS_poly hm h64, Option.bind_some, if_pos]
  unfold makesB
  rw [List.all_eq_true]
  intro x _
  rw [decide_eq_true_eq, formP_length]
  exact (poly_form hm h64 p x).symm
end Go.Proofs.Ythmdlkaanjjbkaa
