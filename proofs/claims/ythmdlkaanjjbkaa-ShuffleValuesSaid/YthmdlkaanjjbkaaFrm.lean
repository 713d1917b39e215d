/- What a form is: the program's word and the reference's. -/
import Derived.Test.YthmdlkaanjjbkaaUnno
import Derived.Test.YthmdlkaanjjbkaaComp
namespace Go.Proofs.Ythmdlkaanjjbkaa
set_option linter.unusedVariables false
open Go.RowKit

theorem prodP_far {m k : Nat} (h : prodP m k = 0) : ∀ e, prodP m (k + e) = 0
  | 0 => h
  | e + 1 => by
    show prodP m (k + e) * (k + e + 1) % m = 0
    rw [prodP_far h e, Nat.zero_mul, Nat.zero_mod]
theorem room_far {m i : Nat} (hm : 2 ≤ m) (hm2 : m ≤ 64) (h : degN m ≤ i) : roomN m i = 1 := by
  obtain ⟨_, _, d3, _⟩ := deg_facts ⟨m, by omega⟩ hm
  simp only at d3
  obtain ⟨e, rfl⟩ : ∃ e, i = degN m + e := ⟨i - degN m, by omega⟩
  unfold roomN
  rw [prodP_far d3 e, Nat.gcd_zero_right, Nat.div_self (by omega)]
/-- the reference's word for a form -/
def formedB (m : Nat) (xs : List Int) : Bool := roomsB m xs xs.length && (decide (xs.length = 0) || decide (0 < xs.getD (xs.length - 1) 0))
theorem roomsB_get {m : Nat} {xs : List Int} {n k : Nat} (h : roomsB m xs n = true) (hk : k < n) : 0 ≤ xs.getD k 0 ∧ xs.getD k 0 < roomN m k := by
  unfold roomsB at h
  rw [List.all_eq_true] at h
  have := h k (List.mem_range.2 hk)
  unfold okN at this
  exact of_decide_eq_true this
theorem formB_pos {m : Nat} {xs : List Int} (hm2 : m ≤ 64) (h : formB m xs = true) : ∀ x ∈ xs, 0 ≤ x ∧ x ≤ 64 := fun x hx => by
  obtain ⟨i, hi, rfl⟩ := List.mem_iff_getElem.1 hx
  unfold formB at h
  rw [Bool.and_eq_true, Bool.and_eq_true] at h
  have h3 := roomsB_get h.1.2 hi
  rw [List.getD_eq_getElem?_getD, List.getElem?_eq_getElem hi] at h3
  simp only [Option.getD_some] at h3
  have h4 : roomN m i ≤ m := Nat.div_le_self _ _
  omega
theorem formed_eq {m : Nat} (hm : 2 ≤ m) (hm2 : m ≤ 64) (xs : List Int) : formedB m xs = formB m xs := by
  unfold formedB formB
  cases hR : roomsB m xs xs.length with
  | false => simp
  | true =>
    rcases List.eq_nil_or_concat xs with rfl | ⟨l, x, rfl⟩
    · simp [trimZ_nil]
    · rw [List.concat_eq_append] at hR ⊢
      have hx := roomsB_get hR (k := l.length) (by simp)
      rw [getD_snoc, if_neg (by omega), if_pos rfl] at hx
      rw [trimZ_snoc, List.length_append, List.length_singleton, Nat.add_sub_cancel, getD_snoc, if_neg (by omega), if_pos rfl]
      by_cases h0 : x = 0
      · subst h0
        rw [if_pos rfl]
        have := trimZ_le l
        rw [decide_eq_false (show ¬ (l.length + 1 = (trimZ l).length) by omega)]
        simp
      · rw [if_neg h0]
        have hd : l.length + 1 ≤ degN m := by
          rcases Nat.lt_or_ge l.length (degN m) with h | h
          · omega
          · rw [room_far hm hm2 h] at hx; omega
        rw [decide_eq_true hd, decide_eq_true (show 0 < x by omega)]
        simp
end Go.Proofs.Ythmdlkaanjjbkaa
