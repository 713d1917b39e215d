/- Gaps: how a fraction lies in one, and what halving does. -/
import Derived.Test.YtfelmjanffhahaaDoorFar
import Derived.Test.YtfelmjanffhahaaDoorPth
namespace Go.Proofs.YtfelmjanffhahaaDoor
set_option linter.unusedVariables false

/-- p/q is u times the lower end and v times the upper end of s, whose ends are neighbors -/
structure InGap (p q : Nat) (s : G) (u v : Nat) : Prop where
  hp : p = u * s.a + v * s.c
  hq : q = u * s.b + v * s.d
  det : s.c * s.b = s.a * s.d + 1
  u1 : 1 ≤ u
  v1 : 1 ≤ v

theorem InGap.first {p q : Nat} (hp : 1 ≤ p) (hpq : p < q) : InGap p q ⟨0, 1, 1, 1⟩ (q - p) p := ⟨by simp, by simp; omega, by simp, by omega, hp⟩

theorem InGap.less {p q : Nat} {s : G} {u v : Nat} (h : InGap p q s u v) : (p * (s.b + s.d) < (s.a + s.c) * q ↔ v < u) ∧ (p = s.a + s.c → q = s.b + s.d → u = v) := by
  obtain ⟨rfl, rfl, det, u1, v1⟩ := h
  obtain ⟨a, b, c, d⟩ := s
  simp only at *
  have e1 : (u * a + v * c) * (b + d) = u * (a * b) + u * (a * d) + v * (c * b) + v * (c * d) := by
    simp only [Nat.add_mul, Nat.mul_add, Nat.mul_assoc]; omega
  have e2 : (a + c) * (u * b + v * d) = u * (a * b) + v * (a * d) + u * (c * b) + v * (c * d) := by
    simp only [Nat.add_mul, Nat.mul_add]
    rw [show a * (u * b) = u * (a * b) from Nat.mul_left_comm _ _ _, show a * (v * d) = v * (a * d) from Nat.mul_left_comm _ _ _, show c * (u * b) = u * (c * b) from Nat.mul_left_comm _ _ _, show c * (v * d) = v * (c * d) from Nat.mul_left_comm _ _ _]
    omega
  have h1 : u * (c * b) = u * (a * d) + u := by rw [det, Nat.mul_add, Nat.mul_one]
  have h2 : v * (c * b) = v * (a * d) + v := by rw [det, Nat.mul_add, Nat.mul_one]
  refine ⟨by rw [e1, e2]; omega, fun k1 k2 => ?_⟩
  have : (u * a + v * c) * (b + d) = (a + c) * (u * b + v * d) := by rw [k1, k2]
  rw [e1, e2] at this; omega

theorem InGap.one {p q : Nat} {s : G} {u v : Nat} (h : InGap p q s u v) (hg : Nat.gcd p q = 1) (e : u = v) : p = s.a + s.c ∧ q = s.b + s.d := by
  obtain ⟨rfl, rfl, det, u1, v1⟩ := h
  subst e
  have h1 : u * s.a + u * s.c = u * (s.a + s.c) := (Nat.mul_add _ _ _).symm
  have h2 : u * s.b + u * s.d = u * (s.b + s.d) := (Nat.mul_add _ _ _).symm
  rw [h1, h2, Nat.gcd_mul_left] at hg
  have : u = 1 := Nat.eq_one_of_mul_eq_one_right hg
  subst this
  omega

theorem InGap.left {p q : Nat} {s : G} {u v : Nat} (h : InGap p q s u v) (hv : v < u) : InGap p q ⟨s.a, s.b, s.a + s.c, s.b + s.d⟩ (u - v) v := by
  obtain ⟨rfl, rfl, det, u1, v1⟩ := h
  obtain ⟨x, rfl⟩ := Nat.exists_eq_add_of_lt hv
  refine ⟨?_, ?_, ?_, by omega, v1⟩
  · simp only
    rw [show v + x + 1 - v = x + 1 from by omega, Nat.mul_add, show (v + x + 1) * s.a = v * s.a + (x + 1) * s.a from by rw [Nat.add_assoc, Nat.add_mul]]; omega
  · simp only
    rw [show v + x + 1 - v = x + 1 from by omega, Nat.mul_add, show (v + x + 1) * s.b = v * s.b + (x + 1) * s.b from by rw [Nat.add_assoc, Nat.add_mul]]; omega
  · simp only
    rw [Nat.add_mul, Nat.mul_add, det]; omega
theorem InGap.right {p q : Nat} {s : G} {u v : Nat} (h : InGap p q s u v) (hv : u < v) : InGap p q ⟨s.a + s.c, s.b + s.d, s.c, s.d⟩ u (v - u) := by
  obtain ⟨rfl, rfl, det, u1, v1⟩ := h
  obtain ⟨x, rfl⟩ := Nat.exists_eq_add_of_lt hv
  refine ⟨?_, ?_, ?_, u1, by omega⟩
  · simp only
    rw [show u + x + 1 - u = x + 1 from by omega, Nat.mul_add, show (u + x + 1) * s.c = u * s.c + (x + 1) * s.c from by rw [Nat.add_assoc, Nat.add_mul]]; omega
  · simp only
    rw [show u + x + 1 - u = x + 1 from by omega, Nat.mul_add, show (u + x + 1) * s.d = u * s.d + (x + 1) * s.d from by rw [Nat.add_assoc, Nat.add_mul]]; omega
  · simp only
    rw [Nat.mul_add, Nat.add_mul, det]; omega

/-- its numbers are at most p and q -/
theorem InGap.small {p q : Nat} {s : G} {u v : Nat} (h : InGap p q s u v) : s.a + s.c ≤ p ∧ s.b + s.d ≤ q := by
  have e1 : 1 * s.a ≤ u * s.a := Nat.mul_le_mul_right _ h.u1
  have e2 : 1 * s.c ≤ v * s.c := Nat.mul_le_mul_right _ h.v1
  have e3 : 1 * s.b ≤ u * s.b := Nat.mul_le_mul_right _ h.u1
  have e4 : 1 * s.d ≤ v * s.d := Nat.mul_le_mul_right _ h.v1
  have := h.hp
  have := h.hq
  omega
end Go.Proofs.YtfelmjanffhahaaDoor
