/- Nearest, Next and Before: what YardClose asks. -/
import Derived.Test.YtelipknnfagnjaaNear
import Derived.Test.YtelipknnfagnjaaBelow
import Derived.Test.YtelipknnfagnjaaTame
namespace Go.Proofs.Ytelipknnfagnjaa
set_option linter.unusedVariables false
open Go.RowKit Go.Shelf

theorem distF_self (x : Nat × Nat) : distF x x = 0 := by unfold distF; omega
theorem distF_zero {x y : Nat × Nat} (hx : Nat.gcd x.1 x.2 = 1) (hy : Nat.gcd y.1 y.2 = 1) (hb : 1 ≤ x.2) (h : distF x y = 0) : x = y := by
  unfold distF at h
  have e : x.1 * y.2 = y.1 * x.2 := by omega
  have e1 : x.2 ∣ y.2 := Nat.Coprime.dvd_of_dvd_mul_left ((Nat.gcd_comm _ _).trans hx) ⟨y.1, by rw [e, Nat.mul_comm]⟩
  have e2 : y.2 ∣ x.2 := Nat.Coprime.dvd_of_dvd_mul_left ((Nat.gcd_comm _ _).trans hy) ⟨x.1, by rw [← e, Nat.mul_comm]⟩
  have e3 := Nat.dvd_antisymm e1 e2
  rw [← e3] at e
  exact Prod.ext (Nat.eq_of_mul_eq_mul_right hb e) e3
/-- the nearest fraction of a fraction of the row is itself -/
theorem near_self {N K : Nat} {c : Nat × Nat} (h1 : 1 ≤ N) (hK : K < len N) (h : NearSpec N (fr N K) c) : c = fr N K := by
  obtain ⟨⟨k, hk, rfl⟩, h2⟩ := h
  have h3 := h2 K hK
  unfold Nearer at h3
  rw [distF_self, Nat.zero_mul] at h3
  rcases Nat.eq_zero_or_pos (distF (fr N K) (fr N k)) with e | e
  · exact (distF_zero (fr_gcd h1 K) (fr_gcd h1 k) (fr_pos h1 K).1 e).symm
  · have := Nat.mul_pos e (fr_pos h1 K).1
    omega
theorem near_not {N K : Nat} {f c : Nat × Nat} (hK : K < len N) (h : NearSpec N f c) : ¬ distF f (fr N K) * c.2 < distF f c * (fr N K).2 := fun h2 => h.2 K hK (.inl h2)

/-- what Next says of a fraction x of the row -/
theorem next_close {N p q K : Nat} {r : (Nat × Nat) × Int} (h1 : 1 ≤ N) (h3 : N ≤ 300) (hK : K < len N) (hpq : p ≤ q) (h : NextSpec N (p, q) r) :
    (r = ((0, 0), 6) ∧ p = q) ∨ (∃ y z : Nat, r = ((y, z), 0) ∧ validB y z = true ∧ lessF (p, q) (y, z) = true ∧ (lessF (p, q) (fr N K) = false ∨ lessF (fr N K) (y, z) = false)) := by
  rcases h with ⟨j, hj, h4, h5, rfl⟩ | ⟨h4, rfl⟩
  · refine .inr ⟨(fr N j).1, (fr N j).2, rfl, fr_valid h1 h3 hj, h4, ?_⟩
    rcases Nat.lt_or_ge K j with e | e
    · exact .inl (h5 K e)
    · refine .inr ?_
      rw [show ((fr N j).1, (fr N j).2) = fr N j from rfl, lessF_fr h1, decide_eq_false_iff_not]; omega
  · refine .inl ⟨rfl, ?_⟩
    have := h4 (len N - 1) (by omega)
    rw [fr_last h1] at this
    unfold lessF at this
    rw [decide_eq_false_iff_not] at this
    simp only at this
    omega
theorem before_close {N p q K k : Nat} (h1 : 1 ≤ N) (h3 : N ≤ 300) (hK : K < len N) (hq : 1 ≤ q) (h : BelowSpec N (p, q) k) :
    (beforeR N k = ((0, 0), 6) ∧ p = 0) ∨ (∃ y z : Nat, beforeR N k = ((y, z), 0) ∧ validB y z = true ∧ lessF (y, z) (p, q) = true ∧ (lessF (y, z) (fr N K) = false ∨ lessF (fr N K) (p, q) = false)) := by
  obtain ⟨h4, h5, h6⟩ := h
  rcases Nat.eq_zero_or_pos k with e | e
  · subst e
    refine .inl ⟨rfl, ?_⟩
    have := h6 (by have := len_two h1; omega)
    unfold lessF at this
    rw [decide_eq_false_iff_not] at this
    simp [fr, st] at this
    omega
  · refine .inr ⟨(fr N (k - 1)).1, (fr N (k - 1)).2, by unfold beforeR; rw [if_neg (by omega)], fr_valid h1 h3 (by omega), h5 _ (by omega), ?_⟩
    rcases Nat.lt_or_ge K k with f | f
    · refine .inl ?_
      rw [show ((fr N (k - 1)).1, (fr N (k - 1)).2) = fr N (k - 1) from rfl, lessF_fr h1, decide_eq_false_iff_not]; omega
    · refine .inr ?_
      have hk := h6 (by omega)
      rcases Nat.lt_or_eq_of_le f with g | g
      · unfold lessF at *
        rw [decide_eq_false_iff_not] at *
        intro hlt
        have hlt2 := fr_lt h1 (i := k) K g
        refine hk ?_
        refine Nat.lt_of_mul_lt_mul_right (a := (fr N K).2) ?_
        have e1 : (fr N k).1 * q * (fr N K).2 = (fr N k).1 * (fr N K).2 * q := by rw [Nat.mul_assoc, Nat.mul_comm q, Nat.mul_assoc]
        have e2 : p * (fr N k).2 * (fr N K).2 = p * (fr N K).2 * (fr N k).2 := by rw [Nat.mul_assoc, Nat.mul_comm (fr N k).2, Nat.mul_assoc]
        have e3 : (fr N K).1 * (fr N k).2 * q = (fr N K).1 * q * (fr N k).2 := by rw [Nat.mul_assoc, Nat.mul_comm (fr N k).2, Nat.mul_assoc]
        simp only at hlt ⊢
        rw [e1, e2]
        exact Nat.lt_trans (Nat.mul_lt_mul_of_pos_right hlt2 hq) (by rw [e3]; exact Nat.mul_lt_mul_of_pos_right hlt (fr_pos h1 k).1)
      · rw [← g]; exact hk

/-- the numbers of the comparison of distances -/
theorem close_num {p q r s t u : Nat} (hp : p ≤ 1000000) (hq : q ≤ 1000000) (hr : r ≤ 300) (hs : s ≤ 300) (ht : t ≤ 300) (hu : u ≤ 300) (h : ¬ distF (p, q) (r, s) * u < distF (p, q) (t, u) * s) :
    ∃ (a b : Int) (x1 x2 x3 x4 d1 d2 m1 m2 : Nat), IntKind.i64.wrap ((p : Int) * s) = x1 ∧ IntKind.i64.wrap ((r : Int) * q) = x2 ∧ IntKind.i64.wrap ((p : Int) * u) = x3 ∧ IntKind.i64.wrap ((t : Int) * q) = x4 ∧ IntKind.i64.wrap ((x1 : Int) - x2) = a ∧ IntKind.i64.wrap ((x3 : Int) - x4) = b ∧
      wrap64 (-a) = -a ∧ wrap64 (-b) = -b ∧ max a (-a) = d1 ∧ max b (-b) = d2 ∧ wrap64 ((d1 : Int) * u) = m1 ∧ wrap64 ((d2 : Int) * s) = m2 ∧ ¬ (m1 : Int) < m2 := by
  have e1 : p * s ≤ 1000000 * 300 := Nat.mul_le_mul hp hs
  have e2 : r * q ≤ 300 * 1000000 := Nat.mul_le_mul hr hq
  have e3 : p * u ≤ 1000000 * 300 := Nat.mul_le_mul hp hu
  have e4 : t * q ≤ 300 * 1000000 := Nat.mul_le_mul ht hq
  unfold distF at h
  simp only at h
  refine ⟨((p * s : Nat) : Int) - (r * q : Nat), ((p * u : Nat) : Int) - (t * q : Nat), p * s, r * q, p * u, t * q, (((p * s : Nat) : Int) - (r * q : Nat)).natAbs, (((p * u : Nat) : Int) - (t * q : Nat)).natAbs, (((p * s : Nat) : Int) - (r * q : Nat)).natAbs * u, (((p * u : Nat) : Int) - (t * q : Nat)).natAbs * s, imul rfl (by omega), imul rfl (by omega), imul rfl (by omega), imul rfl (by omega), iI ⟨by omega, by omega⟩, iI ⟨by omega, by omega⟩, wI ⟨by omega, by omega⟩, wI ⟨by omega, by omega⟩, by omega, by omega, wmul rfl ?_, wmul rfl ?_, by omega⟩
  · exact Nat.le_trans (Nat.mul_le_mul (show _ ≤ 1000000000 by omega) hu) (by omega)
  · exact Nat.le_trans (Nat.mul_le_mul (show _ ≤ 1000000000 by omega) hs) (by omega)
end Go.Proofs.Ytelipknnfagnjaa
