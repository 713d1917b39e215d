/- Texts, joined: Qp, Parts, Thm, Wcn, Rpt, Rfm, Lst, Aft, Wcl. -/
import Derived.Test.YtndbjojjaapeaaaQa
import Derived.Test.YtndbjojjaapeaaaQc
/- Quiet calls that add up. -/
namespace Go.Proofs.Ytndbjojjaapeaaa
set_option linter.unusedVariables false
open Go.RowKit

theorem quiet_plus {P : Program} {f : FuncId} {args : Array Value} {w : World} {q n : Nat} {v : Value} (h : Calls P f args (w.drewN (q + n)) fun e w' => e = .returned v ∧ ∃ m, w' = (w.drewN (q + n)).drewN m) :
    Calls P f args (w.drewN (q + n)) fun e w'' => e = .returned v ∧ ∃ m, w'' = w.drewN (q + m) :=
  h.mono fun _ _ ⟨he, m, hm⟩ => ⟨he, n + m, by rw [hm, World.drewN_drewN, Nat.add_assoc]⟩
theorem quiet_still {P : Program} {f : FuncId} {args : Array Value} {w : World} {q n : Nat} {v : Value} (h : Calls P f args (w.drewN (q + n)) fun e w' => e = .returned v ∧ w' = w.drewN (q + n)) :
    Calls P f args (w.drewN (q + n)) fun e w'' => e = .returned v ∧ ∃ m, w'' = w.drewN (q + m) :=
  h.mono fun _ _ ⟨he, hm⟩ => ⟨he, n, hm⟩
theorem drew_below {w w' : World} (h : ∃ q, w' = w.drewN q) : Below w.heap.size w w' := by
  obtain ⟨q, rfl⟩ := h
  exact below_drewN (Below.refl _ _) q
theorem own_slice {w : World} {base n : Nat} {e : TypeId} {v : Value} {xs : List Value} (h : w.ownsRow base e 1 v n xs) : ∃ a cap, v = .slice a n cap ∧ n ≤ cap ∧ Row w a n xs := by
  obtain ⟨a, cap, hv, hr⟩ := Row.of_own h
  rcases h.2 with ⟨h1, h2⟩ | ⟨g, cap', cur, h1, _, _, hc, _⟩
  · exact ⟨a, cap, hv, by omega, hr⟩
  · rw [h1] at hv
    cases hv
    exact ⟨_, _, h1, hc, hr⟩
end Go.Proofs.Ytndbjojjaapeaaa

/- Prime powers: mathematics, and pairs as cells. -/
namespace Go.Proofs.Ytndbjojjaapeaaa
set_option linter.unusedVariables false
open Go.RowKit

/-- how often p divides m, and what is left -/
def stripN (p : Nat) : Nat → Nat → Nat × Nat
  | 0, m => (0, m)
  | f + 1, m => if m % p = 0 then ((stripN p f (m / p)).1 + 1, (stripN p f (m / p)).2) else (0, m)
theorem strip_yes {p g m : Nat} (hp : 2 ≤ p) (h1 : 1 ≤ m) (h2 : m < 2 ^ (g + 1)) (h : m % p = 0) : stripN p (g + 1) m = ((stripN p g (m / p)).1 + 1, (stripN p g (m / p)).2) ∧ 1 ≤ m / p ∧ m / p < 2 ^ g ∧ m / p < m := by
  refine ⟨if_pos h, ?_, ?_, Nat.div_lt_self (by omega) (by omega)⟩
  · exact Nat.div_pos (Nat.le_of_dvd (by omega) (Nat.dvd_of_mod_eq_zero h)) (by omega)
  · have h3 : m / p ≤ m / 2 := Nat.div_le_div_left hp (by omega)
    have h4 : 2 ^ (g + 1) = 2 ^ g * 2 := Nat.pow_succ 2 g
    omega
theorem strip_no {p g m : Nat} (h1 : 1 ≤ m) (h2 : m < 2 ^ g) (h : ¬ m % p = 0) : stripN p g m = (0, m) := by
  cases g with
  | zero => rfl
  | succ g => exact if_neg h
theorem strip_facts {p : Nat} (hp : 2 ≤ p) : ∀ (g m : Nat), 1 ≤ m → m < 2 ^ g → 1 ≤ (stripN p g m).2 ∧ ¬ p ∣ (stripN p g m).2 ∧ (stripN p g m).2 ∣ m ∧ (stripN p g m).1 ≤ g
  | 0, m, h1, h2 => by simp at h2; omega
  | g + 1, m, h1, h2 => by
    by_cases h : m % p = 0
    · obtain ⟨e, k1, k2, _⟩ := strip_yes hp h1 h2 h
      obtain ⟨i1, i2, i3, i4⟩ := strip_facts hp g (m / p) k1 k2
      rw [e]
      refine ⟨i1, i2, Nat.dvd_trans i3 ?_, by show _ + 1 ≤ g + 1; omega⟩
      exact Nat.div_dvd_of_dvd (Nat.dvd_of_mod_eq_zero h)
    · rw [strip_no h1 h2 h]
      exact ⟨h1, fun hd => h (Nat.mod_eq_zero_of_dvd hd), Nat.dvd_refl _, Nat.zero_le _⟩
def partsN : Nat → Nat → Nat → List (Nat × Nat)
  | 0, _, _ => []
  | f + 1, p, m => if 1 < m then (if 0 < (stripN p 7 m).1 then [(p, (stripN p 7 m).1)] else []) ++ partsN f (p + 1) (stripN p 7 m).2 else []
/-- the prime powers whose product a number is -/
def partsL (m : Nat) : List (Nat × Nat) := partsN 64 2 m
theorem partsL_start (m : Nat) : [] ++ partsN (66 - 2) 2 m = partsL m := by
  unfold partsL
  rw [List.nil_append]
theorem partsN_one (f p : Nat) : partsN f p 1 = [] := by cases f <;> rfl
/-- the outer loop's state: no number below p divides what is left -/
def PStP (p m : Nat) : Prop := 2 ≤ p ∧ 1 ≤ m ∧ m ≤ 64 ∧ ∀ d, 2 ≤ d → d < p → ¬ d ∣ m
theorem PStP.le {p m : Nat} (h : PStP p m) (h1 : 1 < m) : p ≤ m := by
  rcases Nat.lt_or_ge m p with h2 | h2
  · exact absurd (Nat.dvd_refl m) (h.2.2.2 m (by omega) h2)
  · exact h2
theorem PStP.next {p m : Nat} (h : PStP p m) : PStP (p + 1) (stripN p 7 m).2 := by
  obtain ⟨h1, h2, h3, h4⟩ := h
  obtain ⟨i1, i2, i3, _⟩ := strip_facts h1 7 m h2 (by show m < 128; omega)
  refine ⟨by omega, i1, Nat.le_trans (Nat.le_of_dvd h2 i3) h3, fun d hd hd2 hdm => ?_⟩
  by_cases e : d = p
  · subst e; exact i2 hdm
  · exact h4 d hd (by omega) (Nat.dvd_trans hdm i3)
theorem partsN_step {p m : Nat} (h : PStP p m) (h1 : 1 < m) : partsN (66 - p) p m = (if 0 < (stripN p 7 m).1 then [(p, (stripN p 7 m).1)] else []) ++ partsN (66 - (p + 1)) (p + 1) (stripN p 7 m).2 := by
  have := h.le h1
  have := h.2.2.1
  rw [show 66 - p = (66 - (p + 1)) + 1 by omega]
  exact if_pos h1
/-- pairs, one after the other, as cells -/
def flatF : List (Nat × Nat) → List Value
  | [] => []
  | p :: l => .int .i64 (p.1 : Int) :: .int .i64 (p.2 : Int) :: flatF l
theorem flatF_length : ∀ l, (flatF l).length = l.length * 2
  | [] => rfl
  | p :: l => by simp [flatF, flatF_length l]; omega
theorem flatF_append : ∀ l m, flatF (l ++ m) = flatF l ++ flatF m
  | [], m => rfl
  | p :: l, m => by simp [flatF, flatF_append l m]
theorem flatF_get : ∀ {l : List (Nat × Nat)} {j : Nat} {p : Nat × Nat}, l[j]? = some p → (flatF l)[j * 2]? = some (.int .i64 (p.1 : Int)) ∧ (flatF l)[j * 2 + 1]? = some (.int .i64 (p.2 : Int))
  | [], j, p, h => by simp at h
  | q :: l, 0, p, h => by simp at h; subst h; exact ⟨rfl, rfl⟩
  | q :: l, j + 1, p, h => by
    have := flatF_get (l := l) (j := j) (by simpa using h)
    rw [show (j + 1) * 2 = j * 2 + 1 + 1 from by omega]
    exact this
theorem info_pair : (Try.prog.info? 42).map (fun i => (i.zero, i.size, i.bytes)) = some (some (.agg #[.int .i64 0, .int .i64 0]), 2, 16) := by kernel_rfl
theorem cells_two_new (w : World) (x y : Value) (t : TypeId) (n : Nat) (hn : n = w.heap.size) : ∀ j u, [x, y][j]? = some u → (w.alloc (.cells #[x, y] t)).cell? ((⟨n, 0, none⟩ : Addr).add j) = some u := by
  subst hn
  intro j u hj
  match j, hj with
  | 0, hj => simp at hj; subst hj; simp [Addr.add]
  | 1, hj => simp at hj; subst hj; simp [Addr.add]
  | j + 2, hj => simp at hj
end Go.Proofs.Ytndbjojjaapeaaa

/- Mathematics of There: forms without last zeros; every function for a prime is polynomial. -/
namespace Go.Proofs.Ytndbjojjaapeaaa
set_option linter.unusedVariables false
open Go.RowKit

theorem trimZ_take : ∀ (n : Nat) (l : List Int), l.length = n → ∃ k, k ≤ n ∧ trimZ l = l.take k ∧ (∀ j, k ≤ j → l.getD j 0 = 0) ∧ (k = 0 ∨ l.getD (k - 1) 0 ≠ 0)
  | 0, l, h => by
    obtain rfl : l = [] := List.eq_nil_of_length_eq_zero h
    exact ⟨0, Nat.le_refl _, rfl, fun j _ => by simp, .inl rfl⟩
  | n + 1, l, h => by
    rcases List.eq_nil_or_concat l with rfl | ⟨i, x, rfl⟩
    · simp at h
    · rw [List.concat_eq_append] at h ⊢
      have hi : i.length = n := by simpa using h
      by_cases h0 : x = 0
      · subst h0
        obtain ⟨k, h1, h2, h3, h4⟩ := trimZ_take n i hi
        refine ⟨k, by omega, ?_, fun j hj => ?_, ?_⟩
        · rw [trimZ_snoc, if_pos rfl, h2, List.take_append_of_le_length (by omega)]
        · rw [getD_snoc]
          split
          · exact h3 j hj
          · split <;> rfl
        · rcases h4 with h4 | h4
          · exact .inl h4
          · by_cases hk : k = 0
            · exact .inl hk
            · right
              rw [getD_snoc, if_pos (by omega)]; exact h4
      · refine ⟨n + 1, Nat.le_refl _, ?_, fun j hj => ?_, .inr ?_⟩
        · rw [trimZ_snoc, if_neg h0, List.take_of_length_le (by simp; omega)]
        · rw [getD_snoc, if_neg (by omega), if_neg (by omega)]
        · rw [getD_snoc, Nat.add_sub_cancel, if_neg (by omega), if_pos hi.symm]; exact h0
theorem trimZ_twice (l : List Int) : trimZ (trimZ l) = trimZ l := by
  obtain ⟨k, h1, h2, h3, h4⟩ := trimZ_take l.length l rfl
  rw [h2]
  by_cases hk : k = 0
  · subst hk; rfl
  · have h5 : l.getD (k - 1) 0 ≠ 0 := h4.resolve_left hk
    obtain ⟨j, rfl⟩ : ∃ j, k = j + 1 := ⟨k - 1, by omega⟩
    rw [Nat.add_sub_cancel] at h5
    rw [List.take_add_one, List.getElem?_eq_getElem (by omega), Option.toList_some, trimZ_snoc, if_neg]
    rwa [List.getD_eq_getElem?_getD, List.getElem?_eq_getElem (by omega)] at h5
/-- numbers behind the last ones that are not 0 add nothing -/
theorem valV_zeros {m : Nat} (hm : 2 ≤ m) {a : List Int} {k : Nat} (x : Nat) (h : ∀ j, k ≤ j → a.getD j 0 = 0) : ∀ d, valV m a x (k + d) = valV m a x k
  | 0 => rfl
  | d + 1 => by
    show (valV m a x (k + d) + a.getD (k + d) 0 * _) % (m : Int) = _
    rw [h (k + d) (by omega), Int.zero_mul, Int.add_zero, valV_zeros hm x h d]
    have := valV_range (by omega : 0 < m) a x k
    exact Int.emod_eq_of_lt this.1 this.2
/-- what Form returns for a polynomial: a form, with the same function -/
theorem trim_form {m : Nat} (hm : 2 ≤ m) (h64 : m ≤ 64) (p : List Int) : formB m (trimZ (formP m p)) = true ∧ (trimZ (formP m p)).length ≤ degN m ∧ ∀ x : Nat, formV m (trimZ (formP m p)) x = polyV m p x := by
  obtain ⟨k, h1, h2, h3, h4⟩ := trimZ_take (degN m) (formP m p) (formP_length m p)
  have hlen : ((formP m p).take k).length = k := by rw [List.length_take, formP_length]; omega
  refine ⟨?_, ?_, fun x => ?_⟩
  · unfold formB
    rw [trimZ_twice, Bool.and_eq_true, Bool.and_eq_true]
    refine ⟨⟨?_, ?_⟩, decide_eq_true rfl⟩
    · rw [h2, hlen]; exact decide_eq_true h1
    · rw [h2, hlen]
      unfold roomsB
      rw [List.all_eq_true]
      intro j hj
      have hj := List.mem_range.1 hj
      unfold okN
      rw [getD_take _ _ _ hj, formP_get p (by omega), decide_eq_true_eq]
      have := roomN_pos hm j
      exact ⟨Int.emod_nonneg _ (by omega), Int.emod_lt_of_pos _ (by omega)⟩
  · rw [h2, hlen]; exact h1
  · rw [formV_val hm, h2, hlen, poly_form hm h64 p x]
    obtain ⟨d, hd⟩ : ∃ d, degN m = k + d := ⟨degN m - k, by omega⟩
    rw [hd, valV_zeros hm x h3 d]
    exact valV_take m _ _ x k fun j hj => getD_take _ _ _ hj
theorem formR_trim {m : Nat} (hm : 2 ≤ m) (h64 : m ≤ 64) (p : List Int) {f : Nat → Int} (h : ∀ x, x < m → f x = polyV m p x) : formR m f = some (trimZ (formP m p)) := by
  obtain ⟨_, d2, _⟩ := deg_facts ⟨m, by omega⟩ hm
  rw [formR_congr (m := m) d2 h, formR_poly hm h64 p]
/-- a prime's marks -/
def primeB (m : Nat) : Bool := decide ((partsL m).length = 1) && decide (((partsL m).getD 0 (0, 0)).2 = 1)
set_option maxRecDepth 100000 in
theorem prime_marks : ∀ m : Fin 65, 2 ≤ m.1 → primeB m.1 = true → degN m.1 = m.1 ∧ ∀ i : Fin 65, i.1 < m.1 → roomN m.1 i.1 = m.1 ∧ ∃ u : Fin 65, prodP m.1 i.1 * u.1 % m.1 = 1 := by decide +kernel
theorem parts_some : ∀ m : Fin 65, 2 ≤ m.1 → 1 ≤ (partsL m.1).length ∧ (partsL m.1).length ≤ 3 := by decide +kernel
theorem pick_prime {m : Nat} (hm : 2 ≤ m) {pre : List Int} {i u : Nat} {fi : Int} (hf : 0 ≤ fi ∧ fi < m) (hr : roomN m i = m) (hu : prodP m i * u % m = 1) : ∃ c : Nat, c < m ∧ pickN m pre i fi = some c ∧ (valV m pre i i + (c : Int) * (prodP m i : Int)) % (m : Int) = fi := by
  obtain ⟨c, hc⟩ : ∃ c : Nat, ((fi - valV m pre i i) * (u : Int)) % (m : Int) = (c : Int) :=
    ⟨(((fi - valV m pre i i) * (u : Int)) % (m : Int)).toNat, by have := Int.emod_nonneg ((fi - valV m pre i i) * (u : Int)) (show (m : Int) ≠ 0 by omega); omega⟩
  have hcm : c < m := by have := Int.emod_lt_of_pos ((fi - valV m pre i i) * (u : Int)) (show (0 : Int) < m by omega); omega
  have hu2 : ((prodP m i : Int) * (u : Int)) % (m : Int) = 1 := by rw [← Int.natCast_mul, ← Int.natCast_emod, hu]; rfl
  have hv : (valV m pre i i + (c : Int) * (prodP m i : Int)) % (m : Int) = fi := by
    rw [← hc, Int.add_emod, Int.mul_emod, Int.emod_emod, ← Int.mul_emod, ← Int.add_emod]
    rw [show (fi - valV m pre i i) * (u : Int) * (prodP m i : Int) = (fi - valV m pre i i) * ((prodP m i : Int) * (u : Int)) by rw [Int.mul_assoc, Int.mul_comm (u : Int)]]
    rw [Int.add_emod, Int.mul_emod, hu2, Int.mul_one, Int.emod_emod, ← Int.add_emod]
    rw [show valV m pre i i + (fi - valV m pre i i) = fi by omega]
    exact Int.emod_eq_of_lt hf.1 hf.2
  refine ⟨c, hcm, pick_some hm (by unfold fitB; exact decide_eq_true hv) (by omega), hv⟩
theorem form_prime {m : Nat} (hm : 2 ≤ m) (h64 : m ≤ 64) (hp : primeB m = true) {f : Nat → Int} (hf : ∀ x, x < m → 0 ≤ f x ∧ f x < m) : ∃ l, formR m f = some l := by
  obtain ⟨hd, hi⟩ := prime_marks ⟨m, by omega⟩ hm hp
  simp only at hd
  have hS : ∀ i, i ≤ m → ∃ l, formS m f i = some l ∧ l.length = i ∧ ∀ j, j < i → valV m l j (j + 1) = f j := by
    intro i
    induction i with
    | zero => exact fun _ => ⟨[], rfl, rfl, fun j hj => by omega⟩
    | succ i ih =>
      intro h
      obtain ⟨l, h1, h2, h3⟩ := ih (by omega)
      obtain ⟨hr, ⟨u, hu64⟩, hu⟩ := hi ⟨i, by omega⟩ (by show i < m; omega)
      obtain ⟨c, _, hc2, hc3⟩ := pick_prime (pre := l) hm (hf i (by omega)) hr hu
      have hget : ∀ j, j < i → (l ++ [(c : Int)]).getD j 0 = l.getD j 0 := fun j hj => by rw [getD_snoc, if_pos (by omega)]
      refine ⟨l ++ [(c : Int)], by unfold formS; rw [h1, Option.bind_some, hc2]; rfl, by rw [List.length_append, h2]; rfl, fun j hj => ?_⟩
      by_cases e : j = i
      · subst e
        rw [valV_at hm, valV_take m _ l j j hget, getD_snoc, if_neg (by omega), if_pos h2.symm]
        exact hc3
      · rw [valV_take m _ l j (j + 1) (fun j' h' => hget j' (by omega))]
        exact h3 j (by omega)
  obtain ⟨l, h1, h2, h3⟩ := hS m (Nat.le_refl _)
  refine ⟨trimZ l, ?_⟩
  unfold formR
  rw [hd, h1, Option.bind_some, if_pos]
  unfold makesB
  rw [List.all_eq_true]
  intro x hx
  have hx := List.mem_range.1 hx
  rw [decide_eq_true_eq, h2]
  obtain ⟨d, hd2⟩ : ∃ d, m = x + 1 + d := ⟨m - (x + 1), by omega⟩
  rw [show valV m l x m = valV m l x (x + 1) by
    have := valV_more hm l x d
    rw [← hd2] at this
    exact this]
  exact h3 x hx
end Go.Proofs.Ytndbjojjaapeaaa

/- The walk of Counts. -/
namespace Go.Proofs.Ytndbjojjaapeaaa
set_option linter.unusedVariables false
open Go.RowKit

theorem limL_drop {m k : Nat} (h : k < degN m) : (limL m).drop k = (roomN m k : Int) :: (limL m).drop (k + 1) := by
  rw [List.drop_eq_getElem_cons (by rw [limL_length]; exact h)]
  congr 1
  have e := List.getElem?_eq_getElem (l := limL m) (show k < (limL m).length by rw [limL_length]; exact h)
  unfold limL at e ⊢
  rw [List.getElem?_map, List.getElem?_range h] at e
  exact (Option.some.inj e).symm
theorem prodP_next (m k : Nat) : prodP m (k + 1) = prodP m k * (k + 1) % m := rfl
theorem prodP_back (m : Nat) {k : Nat} (h : 1 ≤ k) : prodP m k = prodP m (k - 1) * k % m := by
  obtain ⟨j, rfl⟩ : ∃ j, k = j + 1 := ⟨k - 1, by omega⟩
  rfl
theorem prodP_lt {m : Nat} (hm : 2 ≤ m) : ∀ i, prodP m i < m
  | 0 => by show 1 < m; omega
  | i + 1 => Nat.mod_lt _ (by omega)
theorem prod_num {m p k p2 : Nat} (hm : 2 ≤ m) (hm2 : m ≤ 64) (hp : p < m) (hk : k ≤ 65) (h : p * k % m = p2) : p2 < m ∧ ∃ q : Nat, IntKind.i64.wrap ((p : Int) * (k : Int)) = (q : Int) ∧ wrap64 ((p : Int) * (k : Int)) = (q : Int) ∧ Int.tmod (q : Int) (m : Int) = (p2 : Int) ∧ IntKind.i64.wrap (p2 : Int) = (p2 : Int) ∧ wrap64 (p2 : Int) = (p2 : Int) := by
  have h1 : p * k ≤ 64 * 65 := Nat.mul_le_mul (by omega) hk
  have h2 : p * k % m < m := Nat.mod_lt _ (by omega)
  subst h
  refine ⟨h2, p * k, ?_, ?_, (tmod_nat _ _), IntWalk.i64_in _ (by omega), IntWalk.wrap64_in _ (by omega)⟩
  · rw [← Int.natCast_mul]; exact IntWalk.i64_in _ (by omega)
  · rw [← Int.natCast_mul]; exact IntWalk.wrap64_in _ (by omega)
theorem room_num {m g l : Nat} (hm2 : m ≤ 64) (h : m / g = l) : Int.tdiv (m : Int) (g : Int) = (l : Int) ∧ IntKind.i64.wrap (l : Int) = (l : Int) ∧ wrap64 (l : Int) = (l : Int) := by
  have h2 : m / g ≤ m := Nat.div_le_self _ _
  rw [h] at h2
  refine ⟨?_, IntWalk.i64_in _ (by omega), IntWalk.wrap64_in _ (by omega)⟩
  rw [Int.tdiv_eq_ediv_of_nonneg (by omega), ← h]; rfl
theorem gcd_num {m p : Nat} (hm : 2 ≤ m) (hm2 : m ≤ 64) : Nat.gcd m p ≤ 64 ∧ ((Nat.gcd m p : Nat) : Int) ≠ 0 ∧ (((Nat.gcd m p : Nat) : Int) == 0) = false := by
  have h1 := Nat.gcd_pos_of_pos_left p (show 0 < m by omega)
  have h2 := Nat.le_of_dvd (by omega) (Nat.gcd_dvd_left m p)
  refine ⟨by omega, by omega, ?_⟩
  rw [beq_eq_false_iff_ne]; omega
theorem wrap_next {k : Nat} (h : k ≤ 100) : IntKind.i64.wrap ((k : Int) + 1) = ((k + 1 : Nat) : Int) ∧ wrap64 ((k : Int) + 1) = ((k + 1 : Nat) : Int) := ⟨by rw [IntWalk.i64_in _ (by omega)]; rfl, by rw [IntWalk.wrap64_in _ (by omega)]; rfl⟩
theorem mz_up {d k : Nat} (h : k < d) : d - (intOf (.int .i64 ((k + 1 : Nat) : Int))).toNat < d - (intOf (.int .i64 (k : Int))).toNat := by
  show d - ((k + 1 : Nat) : Int).toNat < d - (k : Int).toNat
  omega
theorem ne_cast {a b : Nat} (h : ¬ a = b) : ((a : Int) == (b : Int)) = false := by rw [beq_eq_false_iff_ne]; omega
theorem ne_zero {a : Nat} (h : ¬ a = 0) : ((a : Int) == 0) = false := by rw [beq_eq_false_iff_ne]; omega
theorem ne_zero2 {a : Nat} (h : ¬ a = 0) : ¬ (a : Int) = 0 := by omega
theorem quo_num {l : Int} (h2 : 2 ≤ l) : IntKind.i64.wrap (1152921504606846976 / l) = 1152921504606846976 / l ∧ wrap64 (1152921504606846976 / l) = 1152921504606846976 / l := by
  obtain ⟨_, q2, q3⟩ := cnt_quo h2
  exact ⟨IntWalk.i64_in _ (by omega), IntWalk.wrap64_in _ (by omega)⟩
theorem mul_num {c l : Int} (h1 : 1 ≤ c) (h2 : 2 ≤ l) (h3 : c ≤ 1152921504606846976 / l) : ∃ y, c * l = y ∧ 1 ≤ y ∧ y ≤ 1152921504606846976 ∧ IntKind.i64.wrap (c * l) = y ∧ wrap64 (c * l) = y := by
  obtain ⟨n1, n2⟩ := cnt_num h1 h2 h3
  exact ⟨_, rfl, n1, n2, IntWalk.i64_in _ (by omega), IntWalk.wrap64_in _ (by omega)⟩
theorem quo_all {l : Nat} {y : Int} (hl : 2 ≤ l) (hy : 1 ≤ y) : ∃ q : Int, (1152921504606846976 : Int) / (l : Int) = q ∧ Int.tdiv 1152921504606846976 (l : Int) = q ∧ IntKind.i64.wrap q = q ∧ wrap64 q = q ∧ (¬ q < y → ∃ z, y * (l : Int) = z ∧ 1 ≤ z ∧ z ≤ 1152921504606846976 ∧ IntKind.i64.wrap (y * (l : Int)) = z ∧ wrap64 (y * (l : Int)) = z) := by
  have h2 : (2 : Int) ≤ (l : Int) := by omega
  obtain ⟨q1, _, _⟩ := cnt_quo h2
  obtain ⟨q4, q5⟩ := quo_num h2
  exact ⟨_, rfl, q1, q4, q5, fun h => mul_num hy h2 (Int.not_lt.1 h)⟩
set_option maxRecDepth 100000 in
set_option maxHeartbeats 4000000 in
theorem counts_walk (x : Int) (w : World) : Calls Try.prog 12 #[.int .i64 x] w fun e w' => e = .returned (.bool true) ∧ Below w.heap.size w w' := by
  have hmv := mod_val x 63 w (by omega) (by omega)
  have hr := modV_lt x 63 (by omega)
  generalize modV x 63 = r at hmv hr
  obtain ⟨m, hmr⟩ : ∃ m, r + 2 = m := ⟨_, rfl⟩
  have hm : 2 ≤ m := by omega
  have hm2 : m ≤ 64 := by omega
  have hw1 : IntKind.i64.wrap (2 + (r : Int)) = (m : Int) := by rw [IntWalk.i64_in _ (by omega)]; omega
  have hw2 : wrap64 (2 + (r : Int)) = (m : Int) := by rw [IntWalk.wrap64_in _ (by omega)]; omega
  have hC := fun w => Count_yes m w hm hm2
  have hD := fun w => Degree_any (m : Int) w
  rw [show modB (m : Int) = true from decide_eq_true (by omega), if_pos rfl, Int.toNat_natCast] at hD
  obtain ⟨d1, d2, d3, d4, d5⟩ := deg_facts ⟨m, by omega⟩ hm
  simp only at d1 d2 d3
  have HC := Lib.hid hC
  have HD := Lib.hid hD
  have HM := Lib.hid hmv
  have hd1 : decide (((degN m : Nat) : Int) < 2) = false := decide_eq_false (by omega)
  have hd2 : decide ((m : Int) < ((degN m : Nat) : Int)) = false := decide_eq_false (by omega)
  have hd3 : decide (m < degN m) = false := decide_eq_false (by omega)
  have hroom : ∀ i, i < degN m → 2 ≤ roomN m i := fun i hi => (d4 ⟨i, by omega⟩ hi).2
  have hd4 : ∀ i, i < degN m → ¬ prodP m i = 0 := fun i hi => (d4 ⟨i, by omega⟩ hi).1
  have Hroom := Lib.hid hroom
  have Hd4 := Lib.hid hd4
  have Hd3 := Lib.hid d3
  clear hC hD hmv d3 d4 d5 hmr hr hroom hd4
  generalize hdd : degN m = d at *
  generalize hcc : countR m = R at HC
  have Hcc := Lib.hid hcc
  have Hdd := Lib.hid hdd
  clear hcc hdd
  go_enter Try.func12, Try.ntmps12
  go_wp2_with fail
  refine (HM.out).mono ?_
  rintro e w1 ⟨rfl, rfl⟩
  go_wp2_with fail
  refine (HC.out _).mono ?_
  rintro e w1 ⟨rfl, b1⟩
  have B1 := Lib.hid b1
  clear b1
  go_wp2_with fail
  refine (HD.out _).mono ?_
  rintro e w2 ⟨rfl, b2⟩
  have B2 := Lib.hid (b_next B1.out b2)
  clear b2 HC HD HM B1 hw1 hw2
  go_wp2
  go_loopw [7, 8, 9, 10] (fun c f b i wr => ∃ (k : Nat) (y : Int), k ≤ d ∧ i = .int .i64 k ∧ c = .int .i64 y ∧ f = .int .i64 (prodP m (k - 1) : Nat) ∧ b = .bool false ∧ 1 ≤ y ∧ y ≤ 1152921504606846976 ∧ Hid (cntL 1 (limL m) = cntL y ((limL m).drop k)) ∧ wr = w2) (fun _ _ _ i _ => d - (intOf i).toNat)
  case atStart => exact ⟨0, 1, Nat.zero_le _, rfl, rfl, rfl, rfl, by omega, by omega, by unfold Hid; rw [List.drop_zero], rfl⟩
  case round =>
    obtain ⟨k, y, hk, rfl, rfl, rfl, rfl, hy1, hy2, HY, hw⟩ := hrel
    subst wr
    by_cases hlt : k < d
    · have hc : (k : Int) < (d : Int) := by omega
      have hp := prodP_lt hm (k - 1)
      have hpp : 1 ≤ k → prodP m k = prodP m (k - 1) * k % m := fun h => prodP_back m h
      have hp0 : k = 0 → prodP m k = prodP m (k - 1) := fun h => by subst h; rfl
      generalize prodP m (k - 1) = p at hp hpp hp0
      obtain ⟨p2, hp2⟩ : ∃ p2, prodP m k = p2 := ⟨_, rfl⟩
      obtain ⟨l, hl⟩ : ∃ l, roomN m k = l := ⟨_, rfl⟩
      have hdr := limL_drop (show k < degN m by rw [Hdd.out]; exact hlt)
      rw [hl] at hdr
      have hl2 : 2 ≤ l := by rw [← hl]; exact Hroom.out k hlt
      have hgl : m / Nat.gcd m p2 = l := by rw [← hl, ← hp2]; rfl
      rw [hp2] at hpp hp0
      have hcn := HY.out
      rw [hdr] at hcn
      have hun : cntL y ((l : Int) :: (limL m).drop (k + 1)) = if 1152921504606846976 / (l : Int) < y then none else cntL (y * l) ((limL m).drop (k + 1)) := rfl
      rw [hun] at hcn
      have hk100 : k ≤ 100 := by omega
      have hm0' : ¬ m = 0 := by omega
      have hl0' : ¬ l = 0 := by omega
      have hp64 : p2 ≤ 1000000000000 := by have := prodP_lt hm k; omega
      have hm64 : m ≤ 1000000000000 := by omega
      have hk1' : k = 0 ∨ (1 ≤ k ∧ k ≤ 65 ∧ (k : Int) > 0) := by omega
      have hG := fun w => refGcd_any m p2 hm64 hp64 w
      obtain ⟨q, hq, q1, q4, q5, hmul⟩ := quo_all hl2 hy1
      rw [hq] at hcn
      obtain ⟨n1, n2⟩ := wrap_next hk100
      have hb : ((m : Int) == 0) = false := ne_zero hm0'
      have hm0 : ¬ (m : Int) = 0 := ne_zero2 hm0'
      obtain ⟨g1, g2, g3⟩ := gcd_num (p := p2) hm hm2
      obtain ⟨r1, r2, r3⟩ := room_num hm2 hgl
      generalize Nat.gcd m p2 = g at g1 g2 g3 r1 hG
      have hl0 : ((l : Int) == 0) = false := ne_zero hl0'
      have hl1 : ¬ (l : Int) = 0 := ne_zero2 hl0'
      have HG := Lib.hid hG
      have HCn := Lib.hid hcn
      have Hp2 := Lib.hid hp2
      clear hcn hun hdr hl HY hG hp2 hgl hl2
      have hstep : (p2 = p ∧ k = 0) ∨ (1 ≤ k ∧ k ≤ 65 ∧ (k : Int) > 0) := hk1'.elim (fun h => .inl ⟨hp0 h, h⟩) .inr
      clear hk1' hk100 hm0' hl0' hp64 hm64 hq
      by_cases hqy : q < y
      · have hbig : y > q := hqy
        have hr : cntL 1 (limL m) = none := by rw [HCn.out, if_pos hqy]
        have hR : R = (0, 5) := by rw [← Hcc.out]; unfold countR; rw [hr]
        subst hR
        clear hr hmul
        rcases hstep with ⟨rfl, rfl⟩ | hk1
        · clear hpp hp0 hqy
          go_wp2_with fail
          refine (HG.out _).mono ?_
          rintro e w5 ⟨rfl, hw5⟩
          subst w5
          go_wp2
          clear n1 n2 hb hm0 g1 g2 g3 r1 r2 r3 hl0 hl1 q1 q4 q5 hbig
          go_loopw [8, 12] (fun f i wr => ∃ k : Nat, 1 ≤ k ∧ k ≤ d + 1 ∧ i = .int .i64 k ∧ f = .int .i64 (prodP m (k - 1) : Nat) ∧ wr = w2) (fun _ i _ => d + 1 - (intOf i).toNat)
          case atStart => exact ⟨1, by omega, by omega, rfl, rfl, rfl⟩
          case round =>
            obtain ⟨k, hk1, hk, rfl, rfl, hw⟩ := hrel
            subst wr
            by_cases hlt : k ≤ d
            · have hc : (k : Int) ≤ (d : Int) := by omega
              have hp := prodP_lt hm (k - 1)
              have hpp := prodP_back m hk1
              have hk65 : k ≤ 65 := by omega
              have hk100 : k ≤ 100 := by omega
              have hm0' : ¬ m = 0 := by omega
              have hkd1 : k < d + 1 := by omega
              have hle1 : 1 ≤ k + 1 := by omega
              have hle2 : k + 1 ≤ d + 1 := by omega
              have hkd0 : k = d ∨ k < d := by omega
              generalize prodP m (k - 1) = p at hp hpp
              obtain ⟨p2, hp2⟩ : ∃ p2, prodP m k = p2 := ⟨_, rfl⟩
              rw [hp2] at hpp
              obtain ⟨hp3, q, q1, q2, q3, q4, q5⟩ := prod_num hm hm2 hp hk65 hpp.symm
              obtain ⟨n1, n2⟩ := wrap_next hk100
              have hb : ((m : Int) == 0) = false := ne_zero hm0'
              have hm0 : ¬ (m : Int) = 0 := ne_zero2 hm0'
              rcases hkd0 with hkd | hkd
              · subst hkd
                have hz : p2 = 0 := hp2.symm.trans Hd3.out
                subst hz
                have Hp2 := Lib.hid hp2
                clear hp2 hpp
                go_wp2
                go_roundw
                case rel => exact ⟨k + 1, hle1, hle2, rfl, by rw [Nat.add_sub_cancel, Hp2.out]; rfl, trivial⟩
                case measure => exact mz_up hkd1
              · have hz := Hd4.out k hkd
                rw [hp2] at hz
                have hz1 := ne_zero hz
                have hz2 := ne_cast (Nat.ne_of_lt hkd)
                have Hp2 := Lib.hid hp2
                clear hp2 hpp hz hkd
                go_wp2
                go_roundw
                case rel => exact ⟨k + 1, hle1, hle2, rfl, by rw [Nat.add_sub_cancel, Hp2.out], trivial⟩
                case measure => exact mz_up hkd1
            · have hc : ¬ (k : Int) ≤ (d : Int) := by omega
              go_wp2_with fail
              refine (awake_any _).mono ?_
              rintro e w4 ⟨rfl, b4⟩
              have B4 := Lib.hid (b_next B2.out b4)
              clear b4
              go_wp2
              go_ret
              exact ⟨rfl, B4.out⟩
        · obtain ⟨hk1, hk65, hk0⟩ := hk1
          obtain ⟨hp3, q9, s1, s2, s3, s4, s5⟩ := prod_num hm hm2 hp hk65 (hpp hk1).symm
          clear hpp hp0 hqy
          go_wp2_with fail
          refine (HG.out _).mono ?_
          rintro e w5 ⟨rfl, hw5⟩
          subst w5
          clear s1 s2 s3 s4 s5 hk0 hk65 hp3 hk1
          have HZ := Lib.hid (And.intro hm (And.intro hm2 (And.intro d1 (And.intro d2 (And.intro hlt n2)))))
          clear hk hlt hc n1 n2 hm hm2 d1 d2 hd1 hd2 hd3 hy1 hy2
          go_wp2
          obtain ⟨hm, hm2, d1, d2, hlt, n2⟩ := HZ.out
          clear n2
          clear hb hm0 g1 g2 g3 r1 r2 r3 hl0 hl1 q1 q4 q5 hbig
          go_loopw [8, 12] (fun f i wr => ∃ k : Nat, 1 ≤ k ∧ k ≤ d + 1 ∧ i = .int .i64 k ∧ f = .int .i64 (prodP m (k - 1) : Nat) ∧ wr = w2) (fun _ i _ => d + 1 - (intOf i).toNat)
          case atStart => exact ⟨1, by omega, by omega, rfl, rfl, rfl⟩
          case round =>
            obtain ⟨k, hk1, hk, rfl, rfl, hw⟩ := hrel
            subst wr
            by_cases hlt : k ≤ d
            · have hc : (k : Int) ≤ (d : Int) := by omega
              have hp := prodP_lt hm (k - 1)
              have hpp := prodP_back m hk1
              have hk65 : k ≤ 65 := by omega
              have hk100 : k ≤ 100 := by omega
              have hm0' : ¬ m = 0 := by omega
              have hkd1 : k < d + 1 := by omega
              have hle1 : 1 ≤ k + 1 := by omega
              have hle2 : k + 1 ≤ d + 1 := by omega
              have hkd0 : k = d ∨ k < d := by omega
              generalize prodP m (k - 1) = p at hp hpp
              obtain ⟨p2, hp2⟩ : ∃ p2, prodP m k = p2 := ⟨_, rfl⟩
              rw [hp2] at hpp
              obtain ⟨hp3, q, q1, q2, q3, q4, q5⟩ := prod_num hm hm2 hp hk65 hpp.symm
              obtain ⟨n1, n2⟩ := wrap_next hk100
              have hb : ((m : Int) == 0) = false := ne_zero hm0'
              have hm0 : ¬ (m : Int) = 0 := ne_zero2 hm0'
              rcases hkd0 with hkd | hkd
              · subst hkd
                have hz : p2 = 0 := hp2.symm.trans Hd3.out
                subst hz
                have Hp2 := Lib.hid hp2
                clear hp2 hpp
                go_wp2
                go_roundw
                case rel => exact ⟨k + 1, hle1, hle2, rfl, by rw [Nat.add_sub_cancel, Hp2.out]; rfl, trivial⟩
                case measure => exact mz_up hkd1
              · have hz := Hd4.out k hkd
                rw [hp2] at hz
                have hz1 := ne_zero hz
                have hz2 := ne_cast (Nat.ne_of_lt hkd)
                have Hp2 := Lib.hid hp2
                clear hp2 hpp hz hkd
                go_wp2
                go_roundw
                case rel => exact ⟨k + 1, hle1, hle2, rfl, by rw [Nat.add_sub_cancel, Hp2.out], trivial⟩
                case measure => exact mz_up hkd1
            · have hc : ¬ (k : Int) ≤ (d : Int) := by omega
              go_wp2_with fail
              refine (awake_any _).mono ?_
              rintro e w4 ⟨rfl, b4⟩
              have B4 := Lib.hid (b_next B2.out b4)
              clear b4
              go_wp2
              go_ret
              exact ⟨rfl, B4.out⟩
      · have hbig : ¬ y > q := hqy
        have hr : cntL 1 (limL m) = cntL (y * (l : Int)) ((limL m).drop (k + 1)) := by rw [HCn.out, if_neg hqy]
        obtain ⟨z, hz, z1, z2, z3, z4⟩ := hmul hqy
        rw [hz] at hr
        clear hz hmul hqy
        rcases hstep with ⟨rfl, rfl⟩ | hk1
        · have HR3 := Lib.hid hr
          clear hpp hp0 hr
          go_wp2_with fail
          refine (HG.out _).mono ?_
          rintro e w5 ⟨rfl, hw5⟩
          subst w5
          go_wp2
          go_roundw
          case rel => exact ⟨0 + 1, z, hlt, rfl, rfl, by rw [Nat.add_sub_cancel, Hp2.out], rfl, z1, z2, HR3, trivial⟩
          case measure => exact mz_up hlt
        · obtain ⟨hk1, hk65, hk0⟩ := hk1
          obtain ⟨hp3, q9, s1, s2, s3, s4, s5⟩ := prod_num hm hm2 hp hk65 (hpp hk1).symm
          have HR3 := Lib.hid hr
          clear hpp hp0 hr
          go_wp2_with fail
          refine (HG.out _).mono ?_
          rintro e w5 ⟨rfl, hw5⟩
          subst w5
          clear s1 s2 s3 s4 s5 hk0 hk65 hp3 hk1
          have HZ := Lib.hid (And.intro hm (And.intro hm2 (And.intro d1 (And.intro d2 (And.intro hlt n2)))))
          clear hk hlt hc n1 n2 hm hm2 d1 d2 hd1 hd2 hd3 hy1 hy2
          go_wp2
          obtain ⟨hm, hm2, d1, d2, hlt, n2⟩ := HZ.out
          rw [n2]
          clear n2
          go_roundw
          case rel => exact ⟨k + 1, z, hlt, rfl, rfl, by rw [Nat.add_sub_cancel, Hp2.out], rfl, z1, z2, HR3, trivial⟩
          case measure => exact mz_up hlt
    · have hkd : k = d := by omega
      subst k
      have hc : ¬ (d : Int) < (d : Int) := by omega
      have hcn := HY.out
      rw [List.drop_of_length_le (by rw [limL_length, Hdd.out]; omega)] at hcn
      have hR : R = (y, 0) := by rw [← Hcc.out]; unfold countR; rw [hcn]; rfl
      subst hR
      clear hcn HY
      go_wp2
      go_loopw [8, 12] (fun f i wr => ∃ k : Nat, 1 ≤ k ∧ k ≤ d + 1 ∧ i = .int .i64 k ∧ f = .int .i64 (prodP m (k - 1) : Nat) ∧ wr = w2) (fun _ i _ => d + 1 - (intOf i).toNat)
      case atStart => exact ⟨1, by omega, by omega, rfl, rfl, rfl⟩
      case round =>
        obtain ⟨k, hk1, hk, rfl, rfl, hw⟩ := hrel
        subst wr
        by_cases hlt : k ≤ d
        · have hc : (k : Int) ≤ (d : Int) := by omega
          have hp := prodP_lt hm (k - 1)
          have hpp := prodP_back m hk1
          have hk65 : k ≤ 65 := by omega
          have hk100 : k ≤ 100 := by omega
          have hm0' : ¬ m = 0 := by omega
          have hkd1 : k < d + 1 := by omega
          have hle1 : 1 ≤ k + 1 := by omega
          have hle2 : k + 1 ≤ d + 1 := by omega
          have hkd0 : k = d ∨ k < d := by omega
          generalize prodP m (k - 1) = p at hp hpp
          obtain ⟨p2, hp2⟩ : ∃ p2, prodP m k = p2 := ⟨_, rfl⟩
          rw [hp2] at hpp
          obtain ⟨hp3, q, q1, q2, q3, q4, q5⟩ := prod_num hm hm2 hp hk65 hpp.symm
          obtain ⟨n1, n2⟩ := wrap_next hk100
          have hb : ((m : Int) == 0) = false := ne_zero hm0'
          have hm0 : ¬ (m : Int) = 0 := ne_zero2 hm0'
          rcases hkd0 with hkd | hkd
          · subst hkd
            have hz : p2 = 0 := hp2.symm.trans Hd3.out
            subst hz
            have Hp2 := Lib.hid hp2
            clear hp2 hpp
            go_wp2
            go_roundw
            case rel => exact ⟨k + 1, hle1, hle2, rfl, by rw [Nat.add_sub_cancel, Hp2.out]; rfl, trivial⟩
            case measure => exact mz_up hkd1
          · have hz := Hd4.out k hkd
            rw [hp2] at hz
            have hz1 := ne_zero hz
            have hz2 := ne_cast (Nat.ne_of_lt hkd)
            have Hp2 := Lib.hid hp2
            clear hp2 hpp hz hkd
            go_wp2
            go_roundw
            case rel => exact ⟨k + 1, hle1, hle2, rfl, by rw [Nat.add_sub_cancel, Hp2.out], trivial⟩
            case measure => exact mz_up hkd1
        · have hc : ¬ (k : Int) ≤ (d : Int) := by omega
          go_wp2_with fail
          refine (awake_any _).mono ?_
          rintro e w4 ⟨rfl, b4⟩
          have B4 := Lib.hid (b_next B2.out b4)
          clear b4
          go_wp2
          go_ret
          exact ⟨rfl, B4.out⟩
theorem walk_ShuffleCounts (x : Int) (_ : (Lit.int .i64 x).wf = true) (w : World) : Calls Try.prog 12 #[.int .i64 x] w fun e w' => e = .returned (.bool true) ∧ Below w.heap.size w w' := counts_walk x w
end Go.Proofs.Ytndbjojjaapeaaa

/- Prime powers: the program's partsOf and the reference's Parts; powers. -/
namespace Go.Proofs.Ytndbjojjaapeaaa
set_option linter.unusedVariables false
open Go.RowKit

theorem rem_all {m p : Nat} (hm : m ≤ 64) : ∃ t : Nat, m % p = t ∧ Int.tmod (m : Int) (p : Int) = (t : Int) ∧ IntKind.i64.wrap (t : Int) = (t : Int) ∧ wrap64 (t : Int) = (t : Int) := by
  have h : m % p ≤ 64 := Nat.le_trans (Nat.mod_le _ _) hm
  have h2 := tmod_nat m p
  generalize m % p = t at h h2
  exact ⟨t, rfl, h2, IntWalk.i64_in _ (by omega), IntWalk.wrap64_in _ (by omega)⟩
theorem quo_int {m p d : Nat} (h : m / p = d) (hm : d ≤ 64) : Int.tdiv (m : Int) (p : Int) = (d : Int) ∧ IntKind.i64.wrap (d : Int) = (d : Int) ∧ wrap64 (d : Int) = (d : Int) := by
  have h2 := (Int.ofNat_tdiv m p).symm
  rw [h] at h2
  exact ⟨h2, IntWalk.i64_in _ (by omega), IntWalk.wrap64_in _ (by omega)⟩
theorem strip_round {p K M k g m t : Nat} (hp : 2 ≤ p) (hI : k + (stripN p g m).1 = K ∧ (stripN p g m).2 = M ∧ 1 ≤ m ∧ m < 2 ^ g) (hm : m ≤ 64) (ht : m % p = t) (h0 : t = 0) (hK : K ≤ 7) :
    ∃ d g', m / p = d ∧ d < m ∧ d ≤ 64 ∧ k + 1 ≤ 7 ∧ ((k + 1) + (stripN p g' d).1 = K ∧ (stripN p g' d).2 = M ∧ 1 ≤ d ∧ d < 2 ^ g') := by
  obtain ⟨j1, j2, j3, j4⟩ := hI
  obtain ⟨g, rfl⟩ : ∃ g', g = g' + 1 := by
    cases g with
    | zero => simp at j4; omega
    | succ g => exact ⟨g, rfl⟩
  obtain ⟨e, k1, k2, k3⟩ := strip_yes hp j3 j4 (ht.trans h0)
  rw [e] at j1 j2
  exact ⟨m / p, g, rfl, k3, Nat.le_trans (Nat.le_of_lt k3) hm, by simp only at j1; omega, by simp only at j1; omega, j2, k1, k2⟩
theorem strip_end {p K M k g m t : Nat} (hI : k + (stripN p g m).1 = K ∧ (stripN p g m).2 = M ∧ 1 ≤ m ∧ m < 2 ^ g) (ht : m % p = t) (h0 : ¬ t = 0) : k = K ∧ m = M := by
  obtain ⟨j1, j2, j3, j4⟩ := hI
  rw [strip_no j3 j4 (by rw [ht]; exact h0)] at j1 j2
  exact ⟨j1, j2⟩
theorem nat_zero {t : Nat} (h : t = 0) : ((t : Int) == 0) = true := by rw [beq_iff_eq]; omega
theorem mz_down {a b : Nat} (h : b < a) : (intOf (.int .i64 (b : Int))).toNat < (intOf (.int .i64 (a : Int))).toNat := by
  show (b : Int).toNat < (a : Int).toNat
  omega
theorem mz_up65 {p : Nat} (h : p ≤ 64) : 66 - (intOf (.int .i64 ((p + 1 : Nat) : Int))).toNat < 66 - (intOf (.int .i64 (p : Int))).toNat := by
  show 66 - ((p + 1 : Nat) : Int).toNat < 66 - (p : Int).toNat
  omega
theorem own_drop {w : World} {base n : Nat} {e : TypeId} {size : Nat} {v : Value} {xs : List Value} (h : w.ownsRow base e size v n xs) : ∃ a cap, v = .slice a n cap := by
  rcases h.2 with ⟨rfl, rfl⟩ | ⟨g, cap, cur, rfl, _⟩
  · exact ⟨_, _, rfl⟩
  · exact ⟨_, _, rfl⟩
set_option maxRecDepth 100000 in
set_option maxHeartbeats 4000000 in
theorem refParts_any (m0 : Nat) (w : World) (hm : 1 ≤ m0) (hm2 : m0 ≤ 64) :
    Calls Try.prog 27 #[.int .i64 m0] w fun e w' => ∃ v, e = .returned v ∧ w'.ownsRow w.heap.size 42 2 v (partsL m0).length (flatF (partsL m0)) ∧ Below w.heap.size w w' := by
  obtain ⟨i0, hi, hz0, hz1, hz2⟩ := info_parts info_pair
  have hst0 : PStP 2 m0 := ⟨Nat.le_refl _, hm, hm2, fun d h1 h2 => by omega⟩
  have hp0 : [] ++ partsN (66 - 2) 2 m0 = partsL m0 := partsL_start m0
  generalize partsL m0 = L at *
  have Hst0 := Lib.hid hst0
  have Hp0 := Lib.hid hp0
  clear hst0 hp0
  go_enter Try.func27, Try.ntmps27
  go_wp2
  go_loopw [0, 3, 4] (fun mm v pp wr => ∃ (m p : Nat) (D : List (Nat × Nat)), D.length ≤ p ∧ mm = .int .i64 m ∧ pp = .int .i64 p ∧ Hid (PStP p m) ∧ Hid (D ++ partsN (66 - p) p m = L) ∧ wr.ownsRow w.heap.size 42 2 v D.length (flatF D) ∧ Below w.heap.size w wr) (fun _ _ pp _ => 66 - (intOf pp).toNat)
  case atStart => exact ⟨m0, 2, [], by simp, rfl, rfl, Hst0, Hp0, World.ownsRow_nil _ _ _ _, Below.refl _ _⟩
  case round =>
    clear Hst0 Hp0
    obtain ⟨m, p, D, hDp, rfl, rfl, HS, HL, ho, hB⟩ := hrel
    obtain ⟨a5, c5, hv5⟩ := own_drop ho
    subst hv5
    have HO := Lib.hid ho
    have HB := Lib.hid hB
    clear ho hB
    generalize wr = W1 at *
    by_cases h1 : 1 < m
    · have hg : (m : Int) > 1 := by omega
      have hp2 := HS.out.1
      have hpm := HS.out.le h1
      have hm64 := HS.out.2.2.1
      have hp64 : p ≤ 64 := by omega
      have hnx := HS.out.next
      have hlx := partsN_step HS.out h1
      obtain ⟨g7, hg7, hg8⟩ : ∃ g, g = 7 ∧ m < 2 ^ g := ⟨7, rfl, by show m < 128; omega⟩
      rw [← hg7] at hnx hlx
      obtain ⟨f1, f2, f3, f4⟩ := strip_facts hp2 g7 m (by omega) hg8
      obtain ⟨K, hK⟩ : ∃ K, (stripN p g7 m).1 = K := ⟨_, rfl⟩
      obtain ⟨M, hM⟩ : ∃ M, (stripN p g7 m).2 = M := ⟨_, rfl⟩
      rw [hK, hM] at hlx
      rw [hM] at hnx
      rw [hK] at f4
      have hin : 0 + (stripN p g7 m).1 = K ∧ (stripN p g7 m).2 = M ∧ 1 ≤ m ∧ m < 2 ^ g7 := ⟨by rw [hK, Nat.zero_add], hM, by omega, hg8⟩
      have Hin := Lib.hid hin
      have HK7 : Hid (K ≤ 7) := by rw [← hg7]; exact f4
      have Hnx := Lib.hid hnx
      have Hlx := Lib.hid hlx
      have HpF := Lib.hid (And.intro hp64 hDp)
      have hpz : ((p : Int) == 0) = false := by rw [beq_eq_false_iff_ne]; omega
      have hpz2 : ¬ (p : Int) = 0 := by omega
      have Hp2 := Lib.hid hp2
      clear hnx hlx hK hM hin f1 f2 f3 f4 hg7 hg8 hpm h1 hDp hp64 hp2
      go_wp2
      go_loopw [0, 5] (fun mm kk wr => ∃ (m k g : Nat), mm = .int .i64 m ∧ kk = .int .i64 k ∧ m ≤ 64 ∧ k ≤ 7 ∧ Hid (k + (stripN p g m).1 = K ∧ (stripN p g m).2 = M ∧ 1 ≤ m ∧ m < 2 ^ g) ∧ wr = W1) (fun mm _ _ => (intOf mm).toNat)
      case atStart => exact ⟨m, 0, g7, rfl, rfl, hm64, by omega, Hin, rfl⟩
      case round =>
        clear Hin
        obtain ⟨m, k, g, rfl, rfl, hm64, hk7, HI, hw⟩ := hrel
        subst wr
        obtain ⟨t, ht, t1, t2, t3⟩ := rem_all (p := p) hm64
        by_cases h0 : t = 0
        · have hz := nat_zero h0
          obtain ⟨d, g', hd, hdm, hd64, hk8, hi5⟩ := strip_round Hp2.out HI.out hm64 ht h0 HK7.out
          obtain ⟨d1, d2, d3⟩ := quo_int hd hd64
          have HI2 := Lib.hid hi5
          have Hk3 := Lib.hid hdm
          have Hkm := Lib.hid (And.intro hd64 hk8)
          clear hd ht h0 HI hi5 hdm hd64 hk8
          go_wp2
          go_roundw
          case rel => exact ⟨d, k + 1, g', rfl, by go_num, Hkm.out.1, Hkm.out.2, HI2, trivial⟩
          case measure => exact mz_down Hk3.out
        · have hz := ne_zero h0
          obtain ⟨hk, hmM⟩ := strip_end HI.out ht h0
          subst k m
          clear ht h0 HI
          have hp64 := HpF.out.1
          by_cases hk0 : 0 < K
          · have hkg : (K : Int) > 0 := by omega
            have hlx := Hlx.out
            rw [if_pos hk0] at hlx
            have hl := HL.out
            rw [hlx, ← List.append_assoc] at hl
            have HL2 := Lib.hid hl
            have hfl : flatF (D ++ [(p, K)]) = flatF D ++ [.int .i64 (p : Int), .int .i64 (K : Int)] := by rw [flatF_append]; rfl
            have Hfl := Lib.hid hfl
            have hDl : D.length ≤ 64 := by have := HpF.out; omega
            clear hlx hl HL Hlx hfl hk0
            go_wp2_with (at_builtin; refine wpList_append_own _ rfl _ _ 29 rfl w.heap.size 42 i0 (.agg #[.int .i64 0, .int .i64 0]) 2 16 Try.underlying29 hi hz0 hz1 hz2 rfl (by decide) _ _ _ rfl (HO.out.alloc (.cells #[.int .i64 (p : Int), .int .i64 (K : Int)] 42)) ⟨_, 0, none⟩ 1 1 [.int .i64 (p : Int), .int .i64 (K : Int)] rfl rfl (cells_two_new _ _ _ _ _ (by simp)) (by simp [Value.oneCell']) (by clear t1 t2 t3; unfold maxLen; omega) (by clear t1 t2 t3; omega) (by clear t1 t2 t3; have := HB.out.size; simp; omega) ?_; intro v2 w6 hown2 hgrow2 _
                         obtain ⟨a6, c6, hv6⟩ := own_drop hown2
                         subst hv6
                         have HB6 : Hid (Below w.heap.size w w6) := rel_push HB.out (by clear t1 t2 t3; have := HB.out.size; simp; omega) ((Below.refl _ _).alloc HB.out.size _) HO.out hgrow2
                         have HO6 := Lib.hid hown2
                         clear hown2 hgrow2)
            go_roundw
            case rel => exact ⟨M, p + 1, D ++ [(p, K)], by rw [List.length_append, List.length_singleton]; have := HpF.out; omega, rfl, by go_num, Hnx, HL2, by rw [Hfl.out, List.length_append, List.length_singleton]; exact HO6.out, HB6.out⟩
            case measure => exact mz_up65 HpF.out.1
          · obtain rfl : K = 0 := by omega
            have hlx := Hlx.out
            rw [if_neg (by omega), List.nil_append] at hlx
            have hl := HL.out
            rw [hlx] at hl
            have HL2 := Lib.hid hl
            clear hlx hl HL Hlx hk0
            go_wp2
            go_roundw
            case rel => exact ⟨M, p + 1, D, by have := HpF.out; omega, rfl, by go_num, Hnx, HL2, HO.out, HB.out⟩
            case measure => exact mz_up65 HpF.out.1
    · have hm1 : m = 1 := by have := HS.out.2.1; omega
      subst m
      have hl := HL.out
      rw [partsN_one, List.append_nil] at hl
      subst hl
      clear HL HS h1 hDp
      go_wp2
      go_ret
      exact ⟨_, rfl, HO.out, HB.out⟩
set_option maxRecDepth 100000 in
set_option maxHeartbeats 4000000 in
theorem partsOf_any (m0 : Nat) (w : World) (hm : 1 ≤ m0) (hm2 : m0 ≤ 64) :
    Calls Try.prog 70 #[.int .i64 m0] w fun e w' => ∃ v, e = .returned v ∧ w'.ownsRow w.heap.size 42 2 v (partsL m0).length (flatF (partsL m0)) ∧ Below w.heap.size w w' := by
  obtain ⟨i0, hi, hz0, hz1, hz2⟩ := info_parts info_pair
  have hst0 : PStP 2 m0 := ⟨Nat.le_refl _, hm, hm2, fun d h1 h2 => by omega⟩
  have hp0 : [] ++ partsN (66 - 2) 2 m0 = partsL m0 := partsL_start m0
  generalize partsL m0 = L at *
  have Hst0 := Lib.hid hst0
  have Hp0 := Lib.hid hp0
  clear hst0 hp0
  go_enter Try.func70, Try.ntmps70
  go_wp2
  go_loopw [0, 3, 4] (fun mm v pp wr => ∃ (m p : Nat) (D : List (Nat × Nat)), D.length ≤ p ∧ mm = .int .i64 m ∧ pp = .int .i64 p ∧ Hid (PStP p m) ∧ Hid (D ++ partsN (66 - p) p m = L) ∧ wr.ownsRow w.heap.size 42 2 v D.length (flatF D) ∧ Below w.heap.size w wr) (fun _ _ pp _ => 66 - (intOf pp).toNat)
  case atStart => exact ⟨m0, 2, [], by simp, rfl, rfl, Hst0, Hp0, World.ownsRow_nil _ _ _ _, Below.refl _ _⟩
  case round =>
    clear Hst0 Hp0
    obtain ⟨m, p, D, hDp, rfl, rfl, HS, HL, ho, hB⟩ := hrel
    obtain ⟨a5, c5, hv5⟩ := own_drop ho
    subst hv5
    have HO := Lib.hid ho
    have HB := Lib.hid hB
    clear ho hB
    generalize wr = W1 at *
    by_cases h1 : 1 < m
    · have hg : (m : Int) > 1 := by omega
      have hp2 := HS.out.1
      have hpm := HS.out.le h1
      have hm64 := HS.out.2.2.1
      have hp64 : p ≤ 64 := by omega
      have hnx := HS.out.next
      have hlx := partsN_step HS.out h1
      obtain ⟨g7, hg7, hg8⟩ : ∃ g, g = 7 ∧ m < 2 ^ g := ⟨7, rfl, by show m < 128; omega⟩
      rw [← hg7] at hnx hlx
      obtain ⟨f1, f2, f3, f4⟩ := strip_facts hp2 g7 m (by omega) hg8
      obtain ⟨K, hK⟩ : ∃ K, (stripN p g7 m).1 = K := ⟨_, rfl⟩
      obtain ⟨M, hM⟩ : ∃ M, (stripN p g7 m).2 = M := ⟨_, rfl⟩
      rw [hK, hM] at hlx
      rw [hM] at hnx
      rw [hK] at f4
      have hin : 0 + (stripN p g7 m).1 = K ∧ (stripN p g7 m).2 = M ∧ 1 ≤ m ∧ m < 2 ^ g7 := ⟨by rw [hK, Nat.zero_add], hM, by omega, hg8⟩
      have Hin := Lib.hid hin
      have HK7 : Hid (K ≤ 7) := by rw [← hg7]; exact f4
      have Hnx := Lib.hid hnx
      have Hlx := Lib.hid hlx
      have HpF := Lib.hid (And.intro hp64 hDp)
      have hpz : ((p : Int) == 0) = false := by rw [beq_eq_false_iff_ne]; omega
      have hpz2 : ¬ (p : Int) = 0 := by omega
      have Hp2 := Lib.hid hp2
      clear hnx hlx hK hM hin f1 f2 f3 f4 hg7 hg8 hpm h1 hDp hp64 hp2
      go_wp2
      go_loopw [0, 5] (fun mm kk wr => ∃ (m k g : Nat), mm = .int .i64 m ∧ kk = .int .i64 k ∧ m ≤ 64 ∧ k ≤ 7 ∧ Hid (k + (stripN p g m).1 = K ∧ (stripN p g m).2 = M ∧ 1 ≤ m ∧ m < 2 ^ g) ∧ wr = W1) (fun mm _ _ => (intOf mm).toNat)
      case atStart => exact ⟨m, 0, g7, rfl, rfl, hm64, by omega, Hin, rfl⟩
      case round =>
        clear Hin
        obtain ⟨m, k, g, rfl, rfl, hm64, hk7, HI, hw⟩ := hrel
        subst wr
        obtain ⟨t, ht, t1, t2, t3⟩ := rem_all (p := p) hm64
        by_cases h0 : t = 0
        · have hz := nat_zero h0
          obtain ⟨d, g', hd, hdm, hd64, hk8, hi5⟩ := strip_round Hp2.out HI.out hm64 ht h0 HK7.out
          obtain ⟨d1, d2, d3⟩ := quo_int hd hd64
          have HI2 := Lib.hid hi5
          have Hk3 := Lib.hid hdm
          have Hkm := Lib.hid (And.intro hd64 hk8)
          clear hd ht h0 HI hi5 hdm hd64 hk8
          go_wp2
          go_roundw
          case rel => exact ⟨d, k + 1, g', rfl, by go_num, Hkm.out.1, Hkm.out.2, HI2, trivial⟩
          case measure => exact mz_down Hk3.out
        · have hz := ne_zero h0
          obtain ⟨hk, hmM⟩ := strip_end HI.out ht h0
          subst k m
          clear ht h0 HI
          have hp64 := HpF.out.1
          by_cases hk0 : 0 < K
          · have hkg : (K : Int) > 0 := by omega
            have hlx := Hlx.out
            rw [if_pos hk0] at hlx
            have hl := HL.out
            rw [hlx, ← List.append_assoc] at hl
            have HL2 := Lib.hid hl
            have hfl : flatF (D ++ [(p, K)]) = flatF D ++ [.int .i64 (p : Int), .int .i64 (K : Int)] := by rw [flatF_append]; rfl
            have Hfl := Lib.hid hfl
            have hDl : D.length ≤ 64 := by have := HpF.out; omega
            clear hlx hl HL Hlx hfl hk0
            go_wp2_with (at_builtin; refine wpList_append_own _ rfl _ _ 29 rfl w.heap.size 42 i0 (.agg #[.int .i64 0, .int .i64 0]) 2 16 Try.underlying29 hi hz0 hz1 hz2 rfl (by decide) _ _ _ rfl (HO.out.alloc (.cells #[.int .i64 (p : Int), .int .i64 (K : Int)] 42)) ⟨_, 0, none⟩ 1 1 [.int .i64 (p : Int), .int .i64 (K : Int)] rfl rfl (cells_two_new _ _ _ _ _ (by simp)) (by simp [Value.oneCell']) (by clear t1 t2 t3; unfold maxLen; omega) (by clear t1 t2 t3; omega) (by clear t1 t2 t3; have := HB.out.size; simp; omega) ?_; intro v2 w6 hown2 hgrow2 _
                         obtain ⟨a6, c6, hv6⟩ := own_drop hown2
                         subst hv6
                         have HB6 : Hid (Below w.heap.size w w6) := rel_push HB.out (by clear t1 t2 t3; have := HB.out.size; simp; omega) ((Below.refl _ _).alloc HB.out.size _) HO.out hgrow2
                         have HO6 := Lib.hid hown2
                         clear hown2 hgrow2)
            go_roundw
            case rel => exact ⟨M, p + 1, D ++ [(p, K)], by rw [List.length_append, List.length_singleton]; have := HpF.out; omega, rfl, by go_num, Hnx, HL2, by rw [Hfl.out, List.length_append, List.length_singleton]; exact HO6.out, HB6.out⟩
            case measure => exact mz_up65 HpF.out.1
          · obtain rfl : K = 0 := by omega
            have hlx := Hlx.out
            rw [if_neg (by omega), List.nil_append] at hlx
            have hl := HL.out
            rw [hlx] at hl
            have HL2 := Lib.hid hl
            clear hlx hl HL Hlx hk0
            go_wp2
            go_roundw
            case rel => exact ⟨M, p + 1, D, by have := HpF.out; omega, rfl, by go_num, Hnx, HL2, HO.out, HB.out⟩
            case measure => exact mz_up65 HpF.out.1
    · have hm1 : m = 1 := by have := HS.out.2.1; omega
      subst m
      have hl := HL.out
      rw [partsN_one, List.append_nil] at hl
      subst hl
      clear HL HS h1 hDp
      go_wp2
      go_ret
      exact ⟨_, rfl, HO.out, HB.out⟩
end Go.Proofs.Ytndbjojjaapeaaa

/- The reference's Formed. -/
namespace Go.Proofs.Ytndbjojjaapeaaa
set_option linter.unusedVariables false
open Go.RowKit

theorem last_num {n : Nat} (h : 0 < n) (h2 : n ≤ 1000) : ∃ p : Nat, n - 1 = p ∧ p < n ∧ IntKind.i64.wrap ((n : Int) - 1) = (p : Int) ∧ wrap64 ((n : Int) - 1) = (p : Int) :=
  ⟨n - 1, rfl, by omega, by rw [IntWalk.i64_in _ (by omega)]; omega, by rw [IntWalk.wrap64_in _ (by omega)]; omega⟩
set_option maxRecDepth 100000 in
set_option maxHeartbeats 4000000 in
theorem refFormed_any (m : Nat) (a : Option Addr) (n cap : Nat) (xs : List Int) (w : World) (hr : Row w a n (intL xs)) (hn : n ≤ 100) (hm : 2 ≤ m) (hm2 : m ≤ 64) :
    Calls Try.prog 47 #[.int .i64 m, .slice a n cap] w fun e w' => e = .returned (.bool (formedB m xs)) ∧ ∃ q, w' = w.drewN q := by
  have hx : xs.length = n := by have := hr.1; simpa [intL] using this
  have hR := fun (i : Nat) (hi : i ≤ 100) w => Room_any m i w hm hm2 hi
  have hstep := roomsB_step m xs
  have hno := fun k (hk : k < n) => roomsB_no (m := m) (xs := xs) (n := n) hk
  have hok : ∀ k, okN m k (xs.getD k 0) = decide (0 ≤ xs.getD k 0 ∧ xs.getD k 0 < roomN m k) := fun _ => rfl
  have hfb : ∀ b, roomsB m xs n = b → formedB m xs = (b && (decide (n = 0) || decide (0 < xs.getD (n - 1) 0))) := fun b h => by
    unfold formedB
    rw [hx, h]
  have HR := Lib.hid hR
  have Hr := Lib.hid hr
  have Hstep := Lib.hid hstep
  have Hno := Lib.hid hno
  have Hok := Lib.hid hok
  have Hfb := Lib.hid hfb
  clear hR hr hstep hno hok hfb hx
  go_enter Try.func47, Try.ntmps47
  go_wp2
  go_loopw [5] (fun i wr => ∃ k q : Nat, k ≤ n ∧ i = .int .i64 k ∧ Hid (roomsB m xs k = true) ∧ wr = w.drewN q) (fun i _ => n - (intOf i).toNat)
  case atStart => exact ⟨0, 0, Nat.zero_le _, rfl, rfl, rfl⟩
  case round =>
    obtain ⟨k, q, hk, rfl, HB, hw⟩ := hrel
    subst wr
    by_cases hlt : k < n
    · have hc : (k : Int) < (n : Int) := by omega
      obtain ⟨g, rfl, cx⟩ := Hr.out.int hlt
      have hok := Hok.out k
      have hst := Hstep.out k
      rw [HB.out, Bool.true_and] at hst
      have hno := Hno.out k hlt
      have hC := fun w => HR.out k (by omega) w
      generalize xs.getD k 0 = y at cx hok hst hno
      generalize roomN m k = l at hok hC
      have hgo : k + 1 ≤ n ∧ k < n := by omega
      have Hgo := Lib.hid hgo
      have HC := Lib.hid hC
      clear hC
      by_cases hy : 0 ≤ y ∧ y < l
      · have hb := hok.trans (decide_eq_true hy)
        rw [hb] at hst
        have HS := Lib.hid hst
        have h1 : decide (y < 0) = false := decide_eq_false (by omega)
        have h2 : decide (y ≥ (l : Int)) = false := decide_eq_false (by omega)
        have h3 : decide ((l : Int) ≤ y) = false := decide_eq_false (by omega)
        clear hok hst hno hb hgo hy HB
        go_wp2
        go_quiet ((go_at_call 60; with_reducible exact quiet_still (HC.out _)))
        go_wp2
        go_roundw
        case rel => exact ⟨k + 1, _, Hgo.out.1, by go_num, HS, by first | rfl | exact World.drewN_drewN _ _ _ | trivial⟩
        case measure => exact mz_upn Hgo.out.2
      · have hb := hok.trans (decide_eq_false hy)
        have hf := Hfb.out _ (hno hb)
        have HF := Lib.hid hf
        clear hok hst hno hb hgo hf HB
        by_cases h1 : y < 0
        · have h2 : decide (y < 0) = true := decide_eq_true h1
          clear hy h1
          go_wp2
          go_quiet (fail)
          go_wp2
          go_ret
          exact ⟨ret_bool HF.out.symm, _, by first | rfl | exact World.drewN_drewN _ _ _ | trivial⟩
        · have h2 : decide (y < 0) = false := decide_eq_false h1
          have h3 : decide (y ≥ (l : Int)) = true := decide_eq_true (by omega)
          have h4 : decide ((l : Int) ≤ y) = true := decide_eq_true (by omega)
          clear hy h1
          go_wp2
          go_quiet ((go_at_call 60; with_reducible exact quiet_still (HC.out _)))
          go_wp2
          go_ret
          exact ⟨ret_bool HF.out.symm, _, by first | rfl | exact World.drewN_drewN _ _ _ | trivial⟩
    · have hkn : k = n := by omega
      subst k
      have hc : ¬ (n : Int) < (n : Int) := by omega
      have hf := Hfb.out _ HB.out
      rw [Bool.true_and] at hf
      by_cases h0 : n = 0
      · subst h0
        rw [decide_eq_true rfl, Bool.true_or] at hf
        have HF := Lib.hid hf
        clear hf HB
        go_wp2
        go_ret
        exact ⟨ret_bool HF.out.symm, _, rfl⟩
      · rw [decide_eq_false h0, Bool.false_or] at hf
        obtain ⟨p, hp, hpn, hw1, hw2⟩ := last_num (n := n) (by omega) (by omega)
        rw [hp] at hf
        obtain ⟨g, rfl, cx⟩ := Hr.out.int hpn
        generalize xs.getD p 0 = y at hf cx
        have hpi : (p : Int) < (n : Int) := by omega
        have hz : ((n : Int) == 0) = false := by rw [beq_eq_false_iff_ne]; omega
        have HF := Lib.hid hf
        clear hf HB hp h0 hlt
        by_cases hy : 0 < y
        · have hy1 : y > 0 := hy
          have HY := Lib.hid hy
          go_wp2
          go_ret
          exact ⟨ret_bool (by rw [HF.out]; simp [HY.out]), _, rfl⟩
        · have hy1 : ¬ y > 0 := hy
          have HY := Lib.hid hy
          go_wp2
          go_ret
          exact ⟨ret_bool (by rw [HF.out]; simp [HY.out]), _, rfl⟩
end Go.Proofs.Ytndbjojjaapeaaa

/- The law's list. -/
namespace Go.Proofs.Ytndbjojjaapeaaa
set_option linter.unusedVariables false
open Go.RowKit

set_option maxRecDepth 100000 in
set_option maxHeartbeats 4000000 in
theorem list_ptr (ad : Addr) (n cap k : Nat) (xs : List Int) (w : World) (hn : n ≤ cap) (hk : k = min n 65) (hl : n ≤ xs.length) (hc : ∀ j, j < n → w.cell? (ad.add j) = some (.int .i64 (xs.getD j 0))) :
    Calls Try.prog 17 #[.slice (some ad) n cap] w fun e w' => ∃ v, e = .returned v ∧ w'.ownsRow w.heap.size 3 1 v k (intL (xs.take k)) ∧ Below w.heap.size w w' := by
  have hm : min (n : Int) 65 = (k : Int) := by omega
  have hk1 : k ≤ n := by omega
  have hk2 : (k : Int) ≤ cap := by omega
  have hk8 : k ≤ 65 := by omega
  have hnews : ∀ j u, (intL (xs.take k))[j]? = some u → w.cell? (ad.add j) = some u := by
    intro j u hj
    have hj2 : j < k := by
      have := (List.getElem?_eq_some_iff.1 hj).1
      rw [intL_length, List.length_take] at this; omega
    rw [hc j (by omega)]
    unfold intL at hj
    rw [List.getElem?_map, List.getElem?_take_of_lt hj2, List.getElem?_eq_getElem (by omega)] at hj
    simp only [Option.map_some, Option.some.injEq] at hj
    rw [← hj, List.getD_eq_getElem?_getD, List.getElem?_eq_getElem (by omega)]; rfl
  have hlen : (intL (xs.take k)).length = k * 1 := by rw [intL_length, List.length_take]; omega
  have hone : ∀ u ∈ intL (xs.take k), u.oneCell' = true := by
    intro u hu
    obtain ⟨x, _, rfl⟩ := List.mem_map.1 hu
    simp [Value.oneCell']
  obtain ⟨i0, hi, hz0, hz1, hz2⟩ := info_parts info_int
  have HN := Lib.hid hnews
  have HL := Lib.hid hlen
  have HO := Lib.hid hone
  clear hc hl hk hnews hlen hone hn
  go_enter Try.func17, Try.ntmps17
  go_wp2_with (at_builtin; refine wpList_append_own _ rfl _ _ 22 rfl w.heap.size 3 i0 (.int .i64 0) 1 8 Try.underlying22 hi hz0 hz1 hz2 rfl (by decide) _ _ _ rfl (World.ownsRow_nil _ _ _ _) ad k cap (intL (xs.take k)) rfl HL.out HN.out HO.out (by unfold maxLen; omega) (by omega) (Nat.le_refl _) ?_; intro v1 w1 hown hgrow _)
  simp only [Nat.zero_add, List.nil_append] at hown
  have hg2 : w.grownBy w1 none := hgrow
  have hB : Below w.heap.size w w1 := ⟨hg2.os, hg2.tape, hg2.output, hg2.size, fun k hk => hg2.block k hk (by simp)⟩
  clear hgrow
  go_wp2_with fail
  go_ret
  exact ⟨v1, rfl, hown, hB⟩
set_option maxRecDepth 100000 in
theorem list_nil (n cap : Nat) (hn : n = 0) (w : World) :
    Calls Try.prog 17 #[.slice none n cap] w fun e w' => ∃ v, e = .returned v ∧ w'.ownsRow w.heap.size 3 1 v 0 (intL []) ∧ Below w.heap.size w w' := by
  subst hn
  go_enter Try.func17, Try.ntmps17
  go_wp2_with fail
  go_ret
  exact ⟨.slice none 0 0, rfl, World.ownsRow_nil _ _ _ _, Below.refl _ _⟩
/-- what list makes of a row -/
def cutL (row : List Int) : List Int := row.take 65
theorem cutL_le (row : List Int) : (cutL row).length ≤ 65 := by unfold cutL; rw [List.length_take]; omega
theorem list_in (v : Value) (row : List Int) (w : World) (h : RowIn w v row) :
    Calls Try.prog 17 #[v] w fun e w' => ∃ r, e = .returned r ∧ w'.ownsRow w.heap.size 3 1 r (cutL row).length (intL (cutL row)) ∧ Below w.heap.size w w' := by
  rcases h with ⟨c, rfl, rfl⟩ | ⟨ad, c, rfl, hc, hd⟩
  · exact list_nil 0 c rfl w
  · have h := list_ptr ad row.length c (min row.length 65) row w hc rfl (Nat.le_refl _) hd
    have e : row.take (min row.length 65) = cutL row := by
      unfold cutL
      rcases Nat.le_total row.length 65 with h | h
      · rw [Nat.min_eq_left h, List.take_length, List.take_of_length_le h]
      · rw [Nat.min_eq_right h]
    have e2 : (cutL row).length = min row.length 65 := by unfold cutL; rw [List.length_take, Nat.min_comm]
    rw [e, ← e2] at h
    exact h
/-- a row of the program's as one that came in -/
theorem RowIn.of_row {w : World} {a : Option Addr} {n cap : Nat} {xs : List Int} (h : Row w a n (intL xs)) (hc : n ≤ cap) : RowIn w (.slice a n cap) xs := by
  have hx : xs.length = n := by have := h.1; simpa [intL] using this
  subst hx
  match a, h with
  | none, h =>
    left
    have h0 : xs.length = 0 := by
      rcases Nat.eq_zero_or_pos xs.length with e | e
      · exact e
      · obtain ⟨g, h1, _⟩ := h.2 e; simp at h1
    exact ⟨cap, by rw [h0], List.eq_nil_of_length_eq_zero h0⟩
  | some ad, h =>
    right
    refine ⟨ad, cap, rfl, hc, fun j hj => ?_⟩
    obtain ⟨g, h1, h2⟩ := h.int hj
    simp only [Option.some.injEq] at h1
    subst h1
    rw [addr_add, Nat.zero_add]
    exact h2
end Go.Proofs.Ytndbjojjaapeaaa

/- After. -/
namespace Go.Proofs.Ytndbjojjaapeaaa
set_option linter.unusedVariables false
open Go.RowKit

theorem funcB_in {m : Nat} {xs : List Int} (hl : xs.length = m) (hm : 2 ≤ m) (hm2 : m ≤ 64) (h : ∀ x ∈ xs, 0 ≤ x ∧ x < m) : funcB m xs = true := by
  unfold funcB remB
  rw [Bool.and_eq_true, Bool.and_eq_true, List.all_eq_true]
  exact ⟨⟨decide_eq_true (by omega), decide_eq_true (by omega)⟩, fun x hx => decide_eq_true (h x hx)⟩
theorem aft_any (x j m : Nat) (B1 B2 gb fb gc fc : Nat) (y : Int) (w : World) (h1 : w.cell? ⟨B1, 0, none⟩ = some (.slice (some ⟨gb, 0, none⟩) m gc)) (h2 : w.cell? ⟨B2, 0, none⟩ = some (.slice (some ⟨fb, 0, none⟩) m fc)) (hf : w.cell? ⟨fb, x, none⟩ = some (.int .i64 j)) (hg : w.cell? ⟨gb, j, none⟩ = some (.int .i64 y)) (hx : x < m) (hj : j < m) :
    Calls Try.prog 87 #[.int .i64 x, .pointer (some ⟨B1, 0, none⟩), .pointer (some ⟨B2, 0, none⟩)] w fun e w' => e = .returned (.int .i64 y) ∧ Below w.heap.size w w' := by
  have hxi : (x : Int) < (m : Int) := by omega
  have hji : (j : Int) < (m : Int) := by omega
  go_enter Try.func87, Try.ntmps87
  go_wp2
  go_quiet (fail)
  go_wp2
  go_ret
  exact ⟨rfl, below_drewN (Below.refl _ _) _⟩
theorem start_pair (w : World) (u v : Value) :
    Below w.heap.size w ((w.alloc (.cells #[u] 22)).alloc (.cells #[v] 22)) ∧
      Box1 ((w.alloc (.cells #[u] 22)).alloc (.cells #[v] 22)) w.heap.size 22 u ∧
      Box1 ((w.alloc (.cells #[u] 22)).alloc (.cells #[v] 22)) (w.heap.size + 1) 22 v := by
  have c0 := Box1.new w 22 u
  have b0 := below_alloc w (.cells #[u] 22)
  have s0 : (w.alloc (.cells #[u] 22)).heap.size = w.heap.size + 1 := by simp
  generalize w.alloc (.cells #[u] 22) = w1 at c0 b0 s0 ⊢
  have c1 := Box1.new w1 22 v
  have b1 := below_alloc w1 (.cells #[v] 22)
  rw [s0] at c1
  exact ⟨b_next b0 b1, c0.below b1, c1⟩
set_option maxRecDepth 100000 in
set_option maxHeartbeats 4000000 in
theorem After_yes (m : Nat) (fa ga : Option Addr) (fc gc : Nat) (fs gs : List Int) (w : World) (hf : Row w fa m (intL fs)) (hg : Row w ga m (intL gs)) (hm : 2 ≤ m) (hm2 : m ≤ 64) (hfi : ∀ x ∈ fs, 0 ≤ x ∧ x < m) (hgi : ∀ x ∈ gs, 0 ≤ x ∧ x < m) :
    Calls Try.prog 49 #[.int .i64 m, .slice fa m fc, .slice ga m gc] w fun e w' => ∃ v, e = .returned (.tuple #[v, .int .i64 0]) ∧ w'.ownsRow w.heap.size 3 1 v m (intL ((List.range m).map fun x : Nat => gs.getD (fs.getD x 0).toNat 0)) ∧ Below w.heap.size w w' := by
  have hxf : fs.length = m := by have := hf.1; simpa [intL] using this
  have hxg : gs.length = m := by have := hg.1; simpa [intL] using this
  have hmf : ∀ (fn : Fn) (first cap : Array Value) (w : World), (Instr.makeFunc fn first cap).run Try.prog w = .ok (.func fn first cap) w := fun _ _ _ _ => rfl
  obtain ⟨b3, k1, k2⟩ := start_pair w (.slice fa m fc) (.slice ga m gc)
  have hI1 := fun W hW => isFunc_any m fa m fc fs W hW (by omega)
  have hI2 := fun W hW => isFunc_any m ga m gc gs W hW (by omega)
  rw [funcB_in hxf hm hm2 hfi] at hI1
  rw [funcB_in hxg hm hm2 hgi] at hI2
  have hT : ∀ W : World, Below w.heap.size w W → Box1 W w.heap.size 22 (.slice fa m fc) → Box1 W (w.heap.size + 1) 22 (.slice ga m gc) →
      Calls Try.prog 67 #[.int .i64 m, .func (.func 87) #[] #[.pointer (some ⟨w.heap.size + 1, 0, none⟩), .pointer (some ⟨w.heap.size, 0, none⟩)]] W fun e w' => e = .returned (.agg (tabA (fun x : Nat => gs.getD (fs.getD x 0).toNat 0) m)) ∧ Below W.heap.size W w' := fun W hW j1 j2 => by
    refine tabulated_any m _ _ (fun x : Nat => gs.getD (fs.getD x 0).toNat 0) W hm2 (enters_of Try.func87 (by kernel_rfl) rfl) fun i X hi hX => ?_
    have rf := (hf.below hW).below hX
    have rg := (hg.below hW).below hX
    obtain ⟨fb, rfl, cf⟩ := rf.int hi
    have hin := hfi (fs.getD i 0) (by rw [List.getD_eq_getElem?_getD, List.getElem?_eq_getElem (by omega)]; exact List.getElem_mem _)
    obtain ⟨j, hj⟩ : ∃ j : Nat, fs.getD i 0 = (j : Int) := ⟨(fs.getD i 0).toNat, by omega⟩
    rw [hj] at cf hin
    obtain ⟨gb, rfl, cg⟩ := rg.int (show j < m by omega)
    refine (aft_any i j m (w.heap.size + 1) w.heap.size gb fb gc fc _ X (j2.below hX).cell (j1.below hX).cell cf cg hi (by omega)).mono ?_
    rintro e w' ⟨rfl, b⟩
    exact ⟨by rw [hj]; rfl, b⟩
  have hl := fun W => list_any m (fun x : Nat => gs.getD (fs.getD x 0).toNat 0) W hm2
  have HT := Lib.hid hT
  have HL := Lib.hid hl
  have HI1 := Lib.hid hI1
  have HI2 := Lib.hid hI2
  have B3 := Lib.hid b3
  have K1 := Lib.hid k1
  have K2 := Lib.hid k2
  have RF := Lib.hid (hf.below b3)
  have RG := Lib.hid (hg.below b3)
  clear hT hl hI1 hI2 b3 k1 k2 hf hg hfi hgi hxf hxg
  go_enter Try.func49, Try.ntmps49
  go_wp2_with fail
  generalize hW : (w.alloc (.cells #[.slice fa m fc] 22)).alloc (.cells #[.slice ga m gc] 22) = W at B3 K1 K2 RF RG ⊢
  have c1 := K1.out.cell
  have c2 := K2.out.cell
  refine (HI1.out _ RF.out).mono ?_
  rintro e w1 ⟨rfl, hw1⟩
  subst w1
  go_wp2_with fail
  refine (HI2.out _ RG.out).mono ?_
  rintro e w1 ⟨rfl, hw1⟩
  subst w1
  go_wp2_with fail
  refine (HT.out _ B3.out K1.out K2.out).mono ?_
  rintro e w2 ⟨rfl, b2⟩
  have B2 := Lib.hid (b_next B3.out b2)
  clear b2
  go_wp2_with fail
  refine (HL.out _).mono ?_
  rintro e w3 ⟨v, rfl, ho, b3⟩
  have hO := own_base2 ho B2.out.size
  have HO := Lib.hid hO
  have B4 := Lib.hid (b_next B2.out b3)
  obtain ⟨a', cap', hv, _⟩ := ownsRow_open HO.out
  subst hv
  clear ho hO b3
  go_wp2
  go_ret2
  exact ⟨.slice a' m cap', rfl, HO.out, B4.out⟩
end Go.Proofs.Ytndbjojjaapeaaa

/- The walk of Closed. -/
namespace Go.Proofs.Ytndbjojjaapeaaa
set_option linter.unusedVariables false
open Go.RowKit

theorem valuesL_len (m : Nat) (P : List Int) : (valuesL m P).length = m := by simp [valuesL]
theorem valuesL_get (m : Nat) (P : List Int) {x : Nat} (hx : x < m) : (valuesL m P).getD x 0 = polyV m P x := by
  unfold valuesL
  rw [List.getD_eq_getElem?_getD, List.getElem?_map, List.getElem?_range hx]; rfl
theorem polyV_in {m : Nat} (hm : 1 ≤ m) (P : List Int) (x : Int) : 0 ≤ polyV m P x ∧ polyV m P x < m := nestV_range (by omega) _ _ _
theorem valuesL_in {m : Nat} (hm : 1 ≤ m) (P : List Int) : ∀ x ∈ valuesL m P, 0 ≤ x ∧ x < m := fun x hx => by
  unfold valuesL at hx
  obtain ⟨i, _, rfl⟩ := List.mem_map.1 hx
  exact polyV_in hm P _
theorem afterL_get (m : Nat) (F G : List Int) {x : Nat} (hx : x < m) : ((List.range m).map fun x : Nat => G.getD (F.getD x 0).toNat 0).getD x 0 = G.getD (F.getD x 0).toNat 0 := by
  rw [List.getD_eq_getElem?_getD, List.getElem?_map, List.getElem?_range hx]; rfl
theorem after_poly {m : Nat} (hm : 1 ≤ m) (P Q : List Int) {x : Nat} (hx : x < m) : (valuesL m Q).getD ((valuesL m P).getD x 0).toNat 0 = polyV m (compL P Q) x := by
  rw [valuesL_get m P hx, polyV_comp]
  have h := polyV_in hm P x
  rw [valuesL_get m Q (by omega)]
  congr 1
  omega
set_option maxRecDepth 100000 in
set_option maxHeartbeats 4000000 in
theorem closed_walk (x : Int) (pv qv : Value) (rp rq : List Int) (w : World) (hP : RowIn w pv rp) (hQ : RowIn w qv rq) : Calls Try.prog 8 #[.int .i64 x, pv, qv] w fun e w' => e = .returned (.bool true) ∧ Below w.heap.size w w' := by
  have hmv := mod_val x 63 w (by omega) (by omega)
  have hr := modV_lt x 63 (by omega)
  generalize modV x 63 = r at hmv hr
  obtain ⟨m, hmr⟩ : ∃ m, r + 2 = m := ⟨_, rfl⟩
  have hm : 2 ≤ m := by omega
  have hm2 : m ≤ 64 := by omega
  have hm1 : 1 ≤ m := by omega
  have hw1 : IntKind.i64.wrap (2 + (r : Int)) = (m : Int) := by rw [IntWalk.i64_in _ (by omega)]; omega
  have hw2 : wrap64 (2 + (r : Int)) = (m : Int) := by rw [IntWalk.wrap64_in _ (by omega)]; omega
  have hTP := fun W hW => tame_in m pv rp W hm1 hm2 (hP.below hW)
  have hTQ := fun W hW => tame_in m qv rq W hm1 hm2 (hQ.below hW)
  have hpP := tamL_poly hm hm2 rp
  have hpQ := tamL_poly hm hm2 rq
  generalize tamL m rp = P at hTP hpP
  generalize tamL m rq = Q at hTQ hpQ
  have hVP := fun a n cap W hW => Values_yes m a n cap P W hW hpP
  have hVQ := fun a n cap W hW => Values_yes m a n cap Q W hW hpQ
  have hFin := valuesL_in hm1 P
  have hFlen := valuesL_len m P
  have hGin := valuesL_in hm1 Q
  have hap := fun x (hx : x < m) => after_poly hm1 P Q hx
  obtain ⟨lf, hlf, _⟩ := form_of_poly hm hm2 P (f := fun x => (valuesL m P).getD x 0) fun x hx => valuesL_get m P hx
  generalize valuesL m P = F at *
  generalize valuesL m Q = G at *
  obtain ⟨la, hla, hlad⟩ := form_of_poly hm hm2 (compL P Q) (f := fun x => ((List.range m).map fun x : Nat => G.getD (F.getD x 0).toNat 0).getD x 0) fun x hx => (afterL_get m F G hx).trans (hap x hx)
  have hAget := fun x (hx : x < m) => afterL_get m F G hx
  have hAin : ∀ x ∈ ((List.range m).map fun x : Nat => G.getD (F.getD x 0).toNat 0), 0 ≤ x ∧ x < m := fun x hx => by
    obtain ⟨i, hi, rfl⟩ := List.mem_map.1 hx
    rw [hap i (List.mem_range.1 hi)]
    exact polyV_in hm1 _ _
  have hAft := fun fa ga fc gc W hf hg => After_yes m fa ga fc gc F G W hf hg hm hm2 hFin hGin
  generalize ((List.range m).map fun x : Nat => G.getD (F.getD x 0).toNat 0) = A at *
  have hFo := fun a cap W hW => Form_yes m a cap F W hW hm hm2 hFin
  have hAo := fun a cap W hW => Form_yes m a cap A W hW hm hm2 hAin
  have hD := fun w => Degree_any (m : Int) w
  rw [show modB (m : Int) = true from decide_eq_true (by omega), if_pos rfl, Int.toNat_natCast] at hD
  have hFl : F.length = m := hFlen
  have hfx : ∀ i, i < m → ∃ j : Nat, F.getD i 0 = (j : Int) ∧ j < m := fun i hi => by
    have h := hFin (F.getD i 0) (by rw [List.getD_eq_getElem?_getD, List.getElem?_eq_getElem (by omega)]; exact List.getElem_mem _)
    exact ⟨(F.getD i 0).toNat, by omega, by omega⟩
  have HM := Lib.hid hmv
  have HTP := Lib.hid hTP
  have HTQ := Lib.hid hTQ
  have HVP := Lib.hid hVP
  have HVQ := Lib.hid hVQ
  have Hlf := Lib.hid hlf
  have Hla := Lib.hid hla
  have HAget := Lib.hid hAget
  have HAft := Lib.hid hAft
  have HFo := Lib.hid hFo
  have HAo := Lib.hid hAo
  have HD := Lib.hid hD
  have Hfx := Lib.hid hfx
  generalize hdd : degN m = d at *
  have hlad1 : decide ((d : Int) < (la.length : Int)) = false := decide_eq_false (by omega)
  have hlad2 : decide (d < la.length) = false := decide_eq_false (by omega)
  clear hmv hTP hTQ hpP hpQ hVP hVQ hFin hGin hap hlf hla hAget hAin hAft hFo hAo hD hfx hlad hr hmr hdd hP hQ hFl hFlen
  go_enter Try.func8, Try.ntmps8
  go_wp2_with fail
  refine (HM.out).mono ?_
  rintro e w1 ⟨rfl, rfl⟩
  go_wp2_with fail
  refine (HTP.out _ (Below.refl _ _)).mono ?_
  rintro e w2 ⟨tp, rfl, otp, b2⟩
  obtain ⟨a2, c2, hv2, r2⟩ := Row.of_own otp
  subst tp
  have R2 := Lib.hid r2
  have B2 := Lib.hid b2
  clear otp r2 b2
  go_wp2_with fail
  refine (HVP.out _ _ _ _ R2.out).mono ?_
  rintro e w3 ⟨fv, rfl, of, b3⟩
  obtain ⟨a3, c3, hv3, r3⟩ := Row.of_own of
  subst fv
  have R3 := Lib.hid r3
  have B3 := Lib.hid (b_next B2.out b3)
  clear of r3 b3
  go_wp2_with fail
  refine (HTQ.out _ B3.out).mono ?_
  rintro e w4 ⟨tq, rfl, otq, b4⟩
  obtain ⟨a4, c4, hv4, r4⟩ := Row.of_own otq
  subst tq
  have R3b := Lib.hid (R3.out.below b4)
  have R4 := Lib.hid r4
  have B4 := Lib.hid (b_next B3.out b4)
  clear otq r4 b4
  go_wp2_with fail
  refine (HVQ.out _ _ _ _ R4.out).mono ?_
  rintro e w5 ⟨gv, rfl, og, b5⟩
  obtain ⟨a5, c5, hv5, r5⟩ := Row.of_own og
  subst gv
  have R3c := Lib.hid (R3b.out.below b5)
  have R5 := Lib.hid r5
  have B5 := Lib.hid (b_next B4.out b5)
  clear og r5 b5
  go_wp2_with fail
  refine (HAft.out _ _ _ _ _ R3c.out R5.out).mono ?_
  rintro e w6 ⟨av, rfl, oa, b6⟩
  obtain ⟨a6, c6, hv6, r6⟩ := Row.of_own oa
  subst av
  have R6 := Lib.hid r6
  have RF := Lib.hid (R3c.out.below b6)
  have RG := Lib.hid (R5.out.below b6)
  have B6 := Lib.hid (b_next B5.out b6)
  clear oa r6 b6
  go_wp2_with fail
  refine (HFo.out _ _ _ RF.out).mono ?_
  rintro e w7 ⟨⟨hs7, _⟩, b7⟩
  obtain ⟨v7, rfl, o7⟩ := hs7 _ Hlf.out
  obtain ⟨a7, c7, hv7, r7⟩ := Row.of_own o7
  subst v7
  have RA := Lib.hid (R6.out.below b7)
  have RF7 := Lib.hid (RF.out.below b7)
  have RG7 := Lib.hid (RG.out.below b7)
  have B7 := Lib.hid (b_next B6.out b7)
  clear o7 r7 b7 hs7
  go_wp2_with fail
  refine (HAo.out _ _ _ RA.out).mono ?_
  rintro e w8 ⟨⟨hs8, _⟩, b8⟩
  obtain ⟨v8, rfl, o8⟩ := hs8 _ Hla.out
  obtain ⟨a8, c8, hv8, r8⟩ := Row.of_own o8
  subst v8
  have RA8 := Lib.hid (RA.out.below b8)
  have RF8 := Lib.hid (RF7.out.below b8)
  have RG8 := Lib.hid (RG7.out.below b8)
  have B8 := Lib.hid (b_next B7.out b8)
  clear o8 r8 b8 hs8
  go_wp2_with fail
  refine (HD.out _).mono ?_
  rintro e w9 ⟨rfl, b9⟩
  have RA9 := Lib.hid (RA8.out.below b9)
  have RF9 := Lib.hid (RF8.out.below b9)
  have RG9 := Lib.hid (RG8.out.below b9)
  have B9 := Lib.hid (b_next B8.out b9)
  clear b9 HD HAo HFo HAft HVP HVQ HTP HTQ HM
  go_wp2
  go_loopw [19] (fun i wr => ∃ k q : Nat, k ≤ m ∧ i = .int .i64 k ∧ wr = w9.drewN q) (fun i _ => m - (intOf i).toNat)
  case atStart => exact ⟨0, 0, Nat.zero_le _, rfl, rfl⟩
  case round =>
    obtain ⟨k, q, hk, rfl, hw⟩ := hrel
    subst wr
    by_cases hlt : k < m
    · have hc : (k : Int) < (m : Int) := by omega
      obtain ⟨j, hj, hjm⟩ := Hfx.out k hlt
      have hga := HAget.out k hlt
      obtain ⟨g1, rfl, cf⟩ := RF9.out.int hlt
      obtain ⟨g2, rfl, ca⟩ := RA9.out.int hlt
      obtain ⟨g3, rfl, cg⟩ := RG9.out.int hjm
      rw [hj] at hga cf
      rw [hga, Int.toNat_natCast] at ca
      generalize G.getD j 0 = z at ca cg
      have hji : (j : Int) < (m : Int) := by omega
      have hj0 : decide ((j : Int) < 0) = false := decide_eq_false (by omega)
      have hjg : decide ((j : Int) ≥ (m : Int)) = false := decide_eq_false (by omega)
      have hjg2 : decide ((m : Int) ≤ (j : Int)) = false := decide_eq_false (by omega)
      have hjg3 : decide (m ≤ j) = false := decide_eq_false (by omega)
      have hzz : (z != z) = false := by simp
      have hgo : k + 1 ≤ m := by omega
      clear hj hga
      go_wp2
      go_quiet (fail)
      go_wp2
      go_roundw
      case rel => exact ⟨k + 1, _, hgo, by go_num, by first | rfl | exact World.drewN_drewN _ _ _ | trivial⟩
      case measure => exact mz_upn hlt
    · have hc : ¬ (k : Int) < (m : Int) := by omega
      go_wp2_with fail
      refine (awake_any _).mono ?_
      rintro e w10 ⟨rfl, b10⟩
      have B10 := Lib.hid (b_next (below_drewN B9.out q) b10)
      clear b10
      go_wp2
      go_ret
      exact ⟨rfl, B10.out⟩
theorem walk_ShuffleClosed (x : Int) (_ : (Lit.int .i64 x).wf = true) (pv : Value) (rp : List Int) (w : World) (hP : RowIn w pv rp) (qv : Value) (rq : List Int) (hQ : RowIn w qv rq) : Calls Try.prog 8 #[.int .i64 x, pv, qv] w fun e w' => e = .returned (.bool true) ∧ Below w.heap.size w w' := closed_walk x pv qv rp rq w hP hQ
end Go.Proofs.Ytndbjojjaapeaaa
