/- The neighbors of 1 minus a fraction are 1 minus its neighbors. -/
import Derived.Test.YtelipknnfagnjaaFrac
namespace Go.Proofs.Ytelipknnfagnjaa
set_option linter.unusedVariables false
open Go.RowKit Go.Shelf

theorem nb_rest {p q a b : Nat} (hp : p ≤ q) (ha : a ≤ b) (h : NB (p, q) (a, b)) : NB (q - p, q) (b - a, b) := by
  unfold NB at h ⊢
  simp only at h ⊢
  have e1 : (q - p) * b = q * b - p * b := Nat.sub_mul _ _ _
  have e2 : (b - a) * q = b * q - a * q := Nat.sub_mul _ _ _
  have e3 : p * b ≤ q * b := Nat.mul_le_mul_right _ hp
  have e4 : a * q ≤ b * q := Nat.mul_le_mul_right _ ha
  have e5 : q * b = b * q := Nat.mul_comm _ _
  omega
theorem low_rest {N : Nat} {x : Nat × Nat} (h : Low N x) : Low N (x.2 - x.1, x.2) := by
  obtain ⟨h1, h2, h3, h4⟩ := h
  exact ⟨h1, h2, by simp only; omega, by simp only; rw [Nat.gcd_comm, Nat.gcd_self_sub_right h3, Nat.gcd_comm]; exact h4⟩
theorem mem_touch {N p q : Nat} (h1 : 1 ≤ N) (x : Nat × Nat) : x ∈ touchL N (p, q) (len N) ↔ Low N x ∧ NB (p, q) x := by
  unfold touchL
  rw [List.mem_filter, mem_row h1, nbE_iff]
theorem touch_rest {N p q : Nat} (h1 : 1 ≤ N) (hp : p ≤ q) : touchL N (q - p, q) (len N) = (touchL N (p, q) (len N)).reverse.map fun x => (x.2 - x.1, x.2) := by
  refine sorted_ext LtF_irr LtF_asym (touch_sorted h1 _) ?_ fun x => ?_
  · rw [List.pairwise_map, List.pairwise_reverse]
    refine List.Pairwise.imp_of_mem (fun {a b} ha hb h => ?_) (touch_sorted (f := (p, q)) h1)
    have la := ((mem_touch h1 a).1 ha).1
    have lb := ((mem_touch h1 b).1 hb).1
    obtain ⟨a1, a2⟩ := a
    obtain ⟨b1, b2⟩ := b
    obtain ⟨_, _, l1, _⟩ := la
    obtain ⟨_, _, l2, _⟩ := lb
    unfold LtF at *
    simp only at *
    have e1 : (b2 - b1) * a2 = b2 * a2 - b1 * a2 := Nat.sub_mul _ _ _
    have e2 : (a2 - a1) * b2 = a2 * b2 - a1 * b2 := Nat.sub_mul _ _ _
    have e3 : b1 * a2 ≤ b2 * a2 := Nat.mul_le_mul_right _ l2
    have e4 : a1 * b2 ≤ a2 * b2 := Nat.mul_le_mul_right _ l1
    have e5 : a2 * b2 = b2 * a2 := Nat.mul_comm _ _
    omega
  · rw [mem_touch h1, List.mem_map]
    constructor
    · rintro ⟨h2, h3⟩
      have hl := h2.2.2.1
      refine ⟨(x.2 - x.1, x.2), ?_, ?_⟩
      · rw [List.mem_reverse, mem_touch h1]
        refine ⟨low_rest h2, ?_⟩
        have := nb_rest (p := q - p) (q := q) (by omega) hl h3
        rwa [show q - (q - p) = p by omega] at this
      · obtain ⟨x1, x2⟩ := x
        simp only at hl ⊢
        rw [show x2 - (x2 - x1) = x1 by omega]
    · rintro ⟨y, hy, rfl⟩
      rw [List.mem_reverse, mem_touch h1] at hy
      exact ⟨low_rest hy.1, nb_rest hp hy.1.2.2.1 hy.2⟩
theorem touch_len {N p q : Nat} (h1 : 1 ≤ N) (hp : p ≤ q) : (touchL N (q - p, q) (len N)).length = (touchL N (p, q) (len N)).length := by
  rw [touch_rest h1 hp]; simp
theorem touch_back {N p q j t : Nat} (h1 : 1 ≤ N) (hp : p ≤ q) (hn : (touchL N (p, q) (len N)).length = j + 1 + t) {x : Nat × Nat} (hx : (touchL N (p, q) (len N))[j]? = some x) : (touchL N (q - p, q) (len N))[t]? = some (x.2 - x.1, x.2) := by
  rw [touch_rest h1 hp, List.getElem?_map, List.getElem?_reverse (by omega), hn, show j + 1 + t - 1 - t = j by omega, hx]
  rfl
theorem touch_less {N p q j : Nat} (h1 : 1 ≤ N) {x y : Nat × Nat} (hx : (touchL N (p, q) (len N))[j]? = some x) (hy : (touchL N (p, q) (len N))[j + 1]? = some y) : lessF x y = true := by
  obtain ⟨k1, e1⟩ := List.getElem?_eq_some_iff.1 hx
  obtain ⟨k2, e2⟩ := List.getElem?_eq_some_iff.1 hy
  have := (List.pairwise_iff_getElem.1 (touch_sorted (f := (p, q)) h1)) j (j + 1) k1 k2 (by omega)
  rw [e1, e2] at this
  exact decide_eq_true this
theorem touch_low {N p q j : Nat} (h1 : 1 ≤ N) {x : Nat × Nat} (hx : (touchL N (p, q) (len N))[j]? = some x) : Low N x ∧ nbE (p, q) x = true := by
  have h := (mem_touch h1 x).1 (List.mem_of_getElem? hx)
  exact ⟨h.1, (nbE_iff _ _).2 h.2⟩
theorem touch_has {N p q : Nat} (h1 : 1 ≤ N) {x : Nat × Nat} (hl : Low N x) : decide (x ∈ touchL N (p, q) (len N)) = nbE (p, q) x := by
  by_cases h : x ∈ touchL N (p, q) (len N)
  · rw [decide_eq_true h, (nbE_iff _ _).2 ((mem_touch h1 x).1 h).2]
  · rw [decide_eq_false h]
    cases hn : nbE (p, q) x with
    | false => rfl
    | true => exact absurd ((mem_touch h1 x).2 ⟨hl, (nbE_iff _ _).1 hn⟩) h
theorem FRow.cells {w : World} {g n : Nat} {L : List (Nat × Nat)} (h : FRow w (some ⟨g, 0, none⟩) n L) {k : Nat} {x : Nat × Nat} (hx : L[k]? = some x) :
    w.cell? ⟨g, k * 2, none⟩ = some (.int .i64 x.1) ∧ w.cell? ⟨g, k * 2 + 1, none⟩ = some (.int .i64 x.2) := by
  have hk := (List.getElem?_eq_some_iff.1 hx).1
  obtain ⟨g', e, hg, hc⟩ := h.2 (by have := h.1; omega)
  cases e
  exact hc k x hx
theorem FRow.drewN {w : World} {a : Option Addr} {n : Nat} {L : List (Nat × Nat)} (h : FRow w a n L) (k : Nat) : FRow (w.drewN k) a n L := h.below (below_drewN (Below.refl _ _) k)
theorem take_has {L : List (Nat × Nat)} {j : Nat} {x z : Nat × Nat} (hx : L[j]? = some x) : decide (z ∈ L.take (j + 1)) = (decide (z ∈ L.take j) || decide (x = z)) := by
  rw [List.take_add_one, hx]
  rw [Bool.eq_iff_iff]
  simp only [Option.toList_some, List.mem_append, List.mem_singleton, decide_eq_true_eq, Bool.or_eq_true]
  constructor
  · rintro (h | h)
    · exact .inl h
    · exact .inr h.symm
  · rintro (h | h)
    · exact .inl h
    · exact .inr h.symm
theorem frow_at {w : World} {base n : Nat} {v : Value} {L : List (Nat × Nat)} (h : w.ownsRow base 26 2 v n (flatF L)) (hn : L.length = n) :
    ∃ a cap, v = .slice a n cap ∧ FRow w a n L := by
  subst hn
  exact frow_of h
end Go.Proofs.Ytelipknnfagnjaa
