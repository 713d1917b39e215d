/- Mathematics of Shifted: the numbers by which a function moves. -/
import Derived.Test.YthmdlkaanjjbkaaShf
import Derived.Test.YthmdlkaanjjbkaaWcl
namespace Go.Proofs.Ythmdlkaanjjbkaa
set_option linter.unusedVariables false
open Go.RowKit

theorem okS_iff {m : Nat} {f : Nat → Int} {a : Nat} (hm2 : m ≤ 64) : okS m f a = true ↔ ∀ x, x < m → f ((x + a) % m) = (f x + (a : Int)) % (m : Int) := by
  unfold okS
  rw [decide_eq_true_eq]
  constructor
  · intro h x hx
    have h1 : (tabL (fun x => f ((x + a) % m)) m).getD x 0 = (tabL (fun x => (f x + (a : Int)) % (m : Int)) m).getD x 0 := by rw [h]
    rw [tabL_get _ _ (by omega), tabL_get _ _ (by omega), if_pos hx, if_pos hx] at h1
    exact h1
  · intro h
    unfold tabL
    exact List.map_congr_left fun x hx => by
      by_cases hxm : x < m
      · rw [if_pos hxm, if_pos hxm]; exact h x hxm
      · rw [if_neg hxm, if_neg hxm]
theorem okS_zero {m : Nat} {f : Nat → Int} (hm2 : m ≤ 64) (hf : ∀ x, 0 ≤ f x ∧ f x < m) : okS m f 0 = true := by
  rw [okS_iff hm2]
  intro x hx
  rw [Nat.add_zero, Nat.mod_eq_of_lt hx]
  have := hf x
  show f x = (f x + 0) % (m : Int)
  rw [Int.add_zero, Int.emod_eq_of_lt this.1 this.2]
theorem okS_add {m : Nat} {f : Nat → Int} {a b : Nat} (hm : 1 ≤ m) (hm2 : m ≤ 64) (ha : okS m f a = true) (hb : okS m f b = true) : okS m f ((a + b) % m) = true := by
  rw [okS_iff hm2] at ha hb ⊢
  intro x hx
  have h1 : (x + (a + b) % m) % m = ((x + a) % m + b) % m := by rw [Nat.add_mod_mod, Nat.mod_add_mod, Nat.add_assoc]
  rw [h1, hb _ (Nat.mod_lt _ (by omega)), ha x hx, Int.emod_add_emod, Int.natCast_emod, Int.add_emod_emod, Int.natCast_add, Int.add_assoc]
theorem okS_mul {m : Nat} {f : Nat → Int} {a : Nat} (hm : 1 ≤ m) (hm2 : m ≤ 64) (hf : ∀ x, 0 ≤ f x ∧ f x < m) (ha : okS m f a = true) : ∀ k, okS m f (k * a % m) = true
  | 0 => by rw [Nat.zero_mul, Nat.zero_mod]; exact okS_zero hm2 hf
  | k + 1 => by
    have h := okS_add hm hm2 (okS_mul hm hm2 hf ha k) ha
    rwa [Nat.mod_add_mod, ← Nat.succ_mul] at h
/-- with a and b, what is left of a without b's multiples -/
theorem okS_sub {m : Nat} {f : Nat → Int} {a b q r : Nat} (hm : 1 ≤ m) (hm2 : m ≤ 64) (hf : ∀ x, 0 ≤ f x ∧ f x < m) (ha : okS m f (a % m) = true) (hb : okS m f b = true) (h : a = q * b + r) (hr : r < m) : okS m f r = true := by
  have h1 := okS_add hm hm2 ha (okS_mul hm hm2 hf hb (q * (m - 1)))
  have h2 : (a % m + q * (m - 1) * b % m) % m = r := by
    rw [← Nat.add_mod, h]
    obtain ⟨n, rfl⟩ : ∃ n, m = n + 1 := ⟨m - 1, by omega⟩
    rw [Nat.add_sub_cancel, show q * b + r + q * n * b = r + (n + 1) * (q * b) by grind, Nat.add_mul_mod_self_left, Nat.mod_eq_of_lt hr]
  rwa [h2] at h1
/-- the smallest one that is not 0, or m -/
theorem okS_step {m : Nat} {f : Nat → Int} (hm : 1 ≤ m) (hm2 : m ≤ 64) (hf : ∀ x, 0 ≤ f x ∧ f x < m) : ∃ d q, 1 ≤ d ∧ m = q * d ∧ ∀ a, a < m → (okS m f a = true ↔ a % d = 0) := by
  have hex : ∃ d, 1 ≤ d ∧ d ≤ m ∧ okS m f (d % m) = true ∧ ∀ e, 1 ≤ e → e < d → okS m f e = false := by
    have hstep : ∀ n, n ≤ m → (∃ d, 1 ≤ d ∧ d ≤ m ∧ okS m f (d % m) = true ∧ ∀ e, 1 ≤ e → e < d → okS m f e = false) ∨ ∀ e, 1 ≤ e → e < n → okS m f e = false := by
      intro n
      induction n with
      | zero => exact fun _ => .inr fun e h1 h2 => by omega
      | succ n ih =>
        intro hn
        rcases ih (by omega) with h | h
        · exact .inl h
        · cases hc : okS m f n with
          | true =>
            by_cases h0 : n = 0
            · exact .inr fun e h1 h2 => by omega
            · exact .inl ⟨n, by omega, by omega, by rw [Nat.mod_eq_of_lt (by omega)]; exact hc, h⟩
          | false =>
            refine .inr fun e h1 h2 => ?_
            by_cases e1 : e = n
            · subst e1; exact hc
            · exact h e h1 (by omega)
    rcases hstep m (Nat.le_refl _) with h | h
    · exact h
    · exact ⟨m, hm, Nat.le_refl _, by rw [Nat.mod_self]; exact okS_zero hm2 hf, h⟩
  obtain ⟨d, hd1, hdm, hd, hmin⟩ := hex
  have hdd : okS m f (d % m) = true := hd
  -- d divides m
  have hdiv : m % d = 0 := by
    rcases Nat.eq_zero_or_pos (m % d) with h | h
    · exact h
    · exfalso
      have hlt := Nat.mod_lt m hd1
      have hdl : d < m := by
        rcases Nat.lt_or_ge d m with h2 | h2
        · exact h2
        · obtain rfl : d = m := by omega
          rw [Nat.mod_self] at h; omega
      rw [Nat.mod_eq_of_lt hdl] at hd
      have h3 := okS_sub (a := m) (q := m / d) (r := m % d) hm hm2 hf (by rw [Nat.mod_self]; exact okS_zero hm2 hf) hd (by have := Nat.div_add_mod m d; rw [Nat.mul_comm] at this; omega) (by omega)
      rw [hmin _ h hlt] at h3
      cases h3
  refine ⟨d, m / d, hd1, (Nat.div_mul_cancel (Nat.dvd_of_mod_eq_zero hdiv)).symm, fun a ha => ?_⟩
  constructor
  · intro h
    rcases Nat.eq_zero_or_pos (a % d) with h0 | h0
    · exact h0
    · exfalso
      have hlt := Nat.mod_lt a hd1
      have hdl : d < m := by
        rcases Nat.lt_or_ge d m with h2 | h2
        · exact h2
        · obtain rfl : d = m := by omega
          rw [Nat.mod_eq_of_lt ha] at h0 hlt
          rw [hmin a h0 ha] at h
          cases h
      rw [Nat.mod_eq_of_lt hdl] at hd
      have h3 := okS_sub (a := a) (q := a / d) (r := a % d) hm hm2 hf (by rw [Nat.mod_eq_of_lt ha]; exact h) hd (by have := Nat.div_add_mod a d; rw [Nat.mul_comm] at this; omega) (by omega)
      rw [hmin _ h0 hlt] at h3
      cases h3
  · intro h
    have h4 := okS_mul hm hm2 hf hdd (a / d)
    have h5 : a / d * (d % m) % m = a := by
      rw [Nat.mul_mod_mod, Nat.div_mul_cancel (Nat.dvd_of_mod_eq_zero h), Nat.mod_eq_of_lt ha]
    rwa [h5] at h4
theorem count_mul {d : Nat} (hd : 1 ≤ d) : ∀ n, n ≤ d * ((List.range n).filter fun a => decide (a % d = 0)).length ∧ d * ((List.range n).filter fun a => decide (a % d = 0)).length < n + d
  | 0 => by simp; omega
  | n + 1 => by
    obtain ⟨h1, h2⟩ := count_mul hd n
    rw [List.range_succ, List.filter_append, List.length_append]
    generalize ((List.range n).filter fun a => decide (a % d = 0)).length = L at h1 h2 ⊢
    by_cases h : n % d = 0
    · have e : ([n].filter fun a => decide (a % d = 0)).length = 1 := by simp [h]
      rw [e, Nat.mul_add, Nat.mul_one]
      have hn := Nat.div_mul_cancel (Nat.dvd_of_mod_eq_zero h)
      have h3 : n / d ≤ L := by
        rcases Nat.lt_or_ge L (n / d) with h4 | h4
        · have := Nat.mul_le_mul_left d (Nat.succ_le_of_lt h4)
          rw [Nat.mul_comm d (n / d), hn, Nat.mul_succ] at this
          omega
        · exact h4
      have h5 : L ≤ n / d := by
        rcases Nat.lt_or_ge (n / d) L with h4 | h4
        · have := Nat.mul_le_mul_left d (Nat.succ_le_of_lt h4)
          rw [Nat.mul_succ, Nat.mul_comm d (n / d), hn] at this
          omega
        · exact h4
      have h6 : d * L = n := by rw [show L = n / d by omega, Nat.mul_comm, hn]
      omega
    · have e : ([n].filter fun a => decide (a % d = 0)).length = 0 := by simp [h]
      rw [e, show L + 0 = L from rfl]
      refine ⟨?_, by omega⟩
      rcases Nat.lt_or_ge n (d * L) with h3 | h3
      · exact h3
      · exfalso
        have h4 : n = d * L := by omega
        rw [h4, Nat.mul_mod_right] at h
        exact h rfl
theorem shL_divides {m : Nat} {f : Nat → Int} (hm : 1 ≤ m) (hm2 : m ≤ 64) (hf : ∀ x, 0 ≤ f x ∧ f x < m) : m % (shL m f m).length = 0 := by
  obtain ⟨d, q, hd, hq, h⟩ := okS_step hm hm2 hf
  have hl : (shL m f m).length = q := by
    unfold shL
    rw [List.length_map]
    have e : (List.range m).filter (okS m f) = (List.range m).filter fun a => decide (a % d = 0) := List.filter_congr fun a ha => by
      have := h a (List.mem_range.1 ha)
      cases hc : okS m f a with
      | true => exact (decide_eq_true (this.1 hc)).symm
      | false =>
        refine (decide_eq_false fun h0 => ?_).symm
        rw [this.2 h0] at hc
        cases hc
    rw [e]
    obtain ⟨h1, h2⟩ := count_mul hd m
    generalize ((List.range m).filter fun a => decide (a % d = 0)).length = L at h1 h2 ⊢
    rw [hq, Nat.mul_comm q d] at h1 h2
    have h3 : q ≤ L := Nat.le_of_mul_le_mul_left h1 (by omega)
    have h4 : L < q + 1 := Nat.lt_of_mul_lt_mul_left (a := d) (by rw [Nat.mul_add, Nat.mul_one]; exact h2)
    omega
  rw [hl, hq, Nat.mul_mod_right]
/-- what the walk wants to know of the list -/
structure ShW (m : Nat) (S : List Int) : Prop where
  pos : 1 ≤ S.length
  le : S.length ≤ 64
  zero : S.getD 0 0 = 0
  div : m % S.length = 0
  elem : ∀ i, i < S.length → 0 ≤ S.getD i 0 ∧ S.getD i 0 < m
  asc : ∀ i, i + 1 < S.length → S.getD i 0 < S.getD (i + 1) 0
  sum : ∀ i j, i < S.length → j < S.length → ∃ k, k < S.length ∧ S.getD k 0 = (S.getD i 0 + S.getD j 0) % (m : Int)
theorem shL_W {m : Nat} {f : Nat → Int} (hm : 2 ≤ m) (hm2 : m ≤ 64) (hf : ∀ x, 0 ≤ f x ∧ f x < m) : ShW m (shL m f m) := by
  have hdv := shL_divides (by omega) hm2 hf
  have hle := shL_le m f m
  unfold shL at *
  have hlt : ((List.range m).filter (okS m f)).Pairwise (· < ·) := List.Pairwise.filter _ List.pairwise_lt_range
  have hmem : ∀ a, a ∈ (List.range m).filter (okS m f) ↔ a < m ∧ okS m f a = true := fun a => by rw [List.mem_filter, List.mem_range]
  have h0 : ∃ t, (List.range m).filter (okS m f) = 0 :: t := by
    obtain ⟨n, rfl⟩ : ∃ n, m = n + 1 := ⟨m - 1, by omega⟩
    rw [List.range_succ_eq_map, List.filter_cons_of_pos (okS_zero hm2 hf)]
    exact ⟨_, rfl⟩
  generalize (List.range m).filter (okS m f) = A at *
  have hget : ∀ i, (h : i < A.length) → (A.map fun a : Nat => (a : Int)).getD i 0 = (A[i] : Int) := fun i h => by
    rw [List.getD_eq_getElem?_getD, List.getElem?_map, List.getElem?_eq_getElem h]; rfl
  obtain ⟨t, ht⟩ := h0
  refine ⟨?_, ?_, ?_, hdv, ?_, ?_, ?_⟩
  · rw [List.length_map, ht]; simp
  · omega
  · rw [ht]; rfl
  · intro i hi
    rw [List.length_map] at hi
    rw [hget i hi]
    have := ((hmem _).1 (List.getElem_mem hi)).1
    omega
  · intro i hi
    rw [List.length_map] at hi
    rw [hget i (by omega), hget (i + 1) hi]
    have := List.pairwise_iff_getElem.1 hlt i (i + 1) (by omega) hi (by omega)
    omega
  · intro i j hi hj
    rw [List.length_map] at hi hj
    rw [hget i hi, hget j hj]
    have h1 := (hmem _).1 (List.getElem_mem hi)
    have h2 := (hmem _).1 (List.getElem_mem hj)
    have h3 := (hmem ((A[i] + A[j]) % m)).2 ⟨Nat.mod_lt _ (by omega), okS_add (by omega) hm2 h1.2 h2.2⟩
    obtain ⟨k, hk, hk2⟩ := List.mem_iff_getElem.1 h3
    refine ⟨k, by rw [List.length_map]; exact hk, ?_⟩
    rw [hget k hk, hk2, Int.natCast_emod, Int.natCast_add]
/-- x plus a number moves by every number -/
theorem shL_line {m c : Nat} (hm : 2 ≤ m) (hm2 : m ≤ 64) : (shL m (fun x : Nat => polyV m [(c : Int), 1] x) m).length = m := by
  unfold shL
  rw [List.length_map]
  have h : (List.range m).filter (okS m fun x : Nat => polyV m [(c : Int), 1] x) = List.range m := by
    rw [List.filter_eq_self]
    intro a _
    rw [okS_iff hm2]
    intro x _
    have e : ∀ y : Nat, polyV m [(c : Int), 1] y = ((c : Int) + y) % (m : Int) := fun y => by
      rw [polyV_eval]
      show ((c : Int) + (y : Int) * (1 + (y : Int) * 0)) % (m : Int) = _
      rw [Int.mul_zero, Int.add_zero, Int.mul_one]
    rw [e, e, Int.natCast_emod, Int.add_emod_emod, Int.natCast_add, Int.emod_add_emod, Int.add_assoc]
  rw [h, List.length_range]
end Go.Proofs.Ythmdlkaanjjbkaa
