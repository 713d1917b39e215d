/- What the search for the neighbors of a fraction finds, gap by gap. -/
import Derived.Test.YtelipknnfagnjaaSizem
import Derived.Test.YtelipknnfagnjaaRtou
namespace Go.Proofs.Ytelipknnfagnjaa
set_option linter.unusedVariables false
open Go.RowKit

/-- a gap of the row of N -/
structure Gap (N : Nat) (s : G) : Prop where
  det : s.c * s.b = s.a * s.d + 1
  b1 : 1 ≤ s.b
  d1 : 1 ≤ s.d
  bN : s.b ≤ N
  dN : s.d ≤ N
  ab : s.a ≤ s.b
  cd : s.c ≤ s.d
theorem Gap.left {N : Nat} {s : G} (h : Gap N s) (hm : s.b + s.d ≤ N) : Gap N (leftG s) := by
  obtain ⟨h1, h2, h3, h4, h5, h6, h7⟩ := h
  refine ⟨?_, h2, by simp only [leftG]; omega, h4, hm, h6, by simp only [leftG]; omega⟩
  simp only [leftG]
  rw [Nat.add_mul, Nat.mul_add, h1]; omega
theorem Gap.right {N : Nat} {s : G} (h : Gap N s) (hm : s.b + s.d ≤ N) : Gap N (rightG s) := by
  obtain ⟨h1, h2, h3, h4, h5, h6, h7⟩ := h
  refine ⟨?_, by simp only [rightG]; omega, h3, hm, h5, by simp only [rightG]; omega, h7⟩
  simp only [rightG]
  rw [Nat.mul_add, Nat.add_mul, h1]; omega

/-- a fraction strictly between two neighbors has at least the sum of their denominators -/
theorem inner {a b c d x y : Nat} (hd : c * b = a * d + 1) (h1 : a * y < x * b) (h2 : x * d < c * y) : b + d ≤ y := by
  obtain ⟨u, hu⟩ := Nat.exists_eq_add_of_lt h1
  obtain ⟨v, hv⟩ := Nat.exists_eq_add_of_lt h2
  have key : y = (u + 1) * d + (v + 1) * b := by
    have e1 : c * b * y = (a * d + 1) * y := by rw [hd]
    have e2 : c * y * b = (x * d + v + 1) * b := by rw [hv]
    have e3 : x * b * d = (a * y + u + 1) * d := by rw [hu]
    grind
  have p1 : 1 * d ≤ (u + 1) * d := Nat.mul_le_mul_right _ (by omega)
  have p2 : 1 * b ≤ (v + 1) * b := Nat.mul_le_mul_right _ (by omega)
  omega
theorem cross_lt {f1 f2 x1 x2 m1 m2 : Nat} (k1 : f1 * m2 < m1 * f2) (k2 : m1 * x2 < x1 * m2) (hx : 1 ≤ x2) (hf : 1 ≤ f2) : f1 * x2 < x1 * f2 := by
  refine Nat.lt_of_mul_lt_mul_right (a := m2) ?_
  have e1 : f1 * m2 * x2 < m1 * f2 * x2 := Nat.mul_lt_mul_of_pos_right k1 hx
  have e2 : m1 * x2 * f2 < x1 * m2 * f2 := Nat.mul_lt_mul_of_pos_right k2 hf
  have q1 : f1 * x2 * m2 = f1 * m2 * x2 := by rw [Nat.mul_assoc, Nat.mul_comm x2, Nat.mul_assoc]
  have q2 : m1 * f2 * x2 = m1 * x2 * f2 := by rw [Nat.mul_assoc, Nat.mul_comm f2, Nat.mul_assoc]
  have q3 : x1 * m2 * f2 = x1 * f2 * m2 := by rw [Nat.mul_assoc, Nat.mul_comm m2, Nat.mul_assoc]
  omega
theorem gcd_det {a b c d : Nat} (h : c * b = a * d + 1) : Nat.gcd a b = 1 ∧ Nat.gcd c d = 1 := by
  constructor
  · have h1 : Nat.gcd a b ∣ c * b := Nat.dvd_trans (Nat.gcd_dvd_right a b) (Nat.dvd_mul_left b c)
    have h2 : Nat.gcd a b ∣ a * d := Nat.dvd_trans (Nat.gcd_dvd_left a b) (Nat.dvd_mul_right a d)
    rw [h] at h1
    exact Nat.dvd_one.1 ((Nat.dvd_add_right h2).1 h1)
  · have h1 : Nat.gcd c d ∣ c * b := Nat.dvd_trans (Nat.gcd_dvd_left c d) (Nat.dvd_mul_right c b)
    have h2 : Nat.gcd c d ∣ a * d := Nat.dvd_trans (Nat.gcd_dvd_right c d) (Nat.dvd_mul_left d a)
    rw [h] at h1
    exact Nat.dvd_one.1 ((Nat.dvd_add_right h2).1 h1)

def NB (f x : Nat × Nat) : Prop := f.1 * x.2 = x.1 * f.2 + 1 ∨ x.1 * f.2 = f.1 * x.2 + 1
theorem nbE_iff (f x : Nat × Nat) : nbE f x = true ↔ NB f x := by
  unfold nbE nbrB NB
  rw [Bool.or_eq_true, decide_eq_true_eq, decide_eq_true_eq]
theorem NB.gcd {f x : Nat × Nat} (h : NB f x) : Nat.gcd x.1 x.2 = 1 := by
  rcases h with h | h
  · exact (gcd_det (a := x.1) (b := x.2) (c := f.1) (d := f.2) h).1
  · exact (gcd_det (a := f.1) (b := f.2) (c := x.1) (d := x.2) h).2
def InG (f : Nat × Nat) (s : G) : Prop := s.a * f.2 ≤ f.1 * s.b ∧ f.1 * s.d ≤ s.c * f.2

/-- what the search adds, and in which order -/
def visK : Nat → Nat → Nat × Nat → G → List (Nat × Nat)
  | 0, _, _, _ => []
  | n + 1, N, f, s => (if (s.a, s.b) = f then [(s.c, s.d)] else []) ++ ((if (s.c, s.d) = f then [(s.a, s.b)] else []) ++
      if N < s.b + s.d then [] else (if lessF (midG s) f then [] else visK n N f (leftG s)) ++ (if lessF f (midG s) then [] else visK n N f (rightG s)))

theorem edge {a b c d : Nat} {f : Nat × Nat} {N : Nat} (h1 : c * b = a * d + 1) (hb : 1 ≤ b) (hd : 1 ≤ d) (hg : Nat.gcd f.1 f.2 = 1) (hf : f.2 ≤ N) (hN : N < b + d) (hi : a * f.2 ≤ f.1 * b ∧ f.1 * d ≤ c * f.2) : f = (a, b) ∨ f = (c, d) := by
  obtain ⟨ga, gc⟩ := gcd_det h1
  rcases Nat.lt_or_eq_of_le hi.1 with h2 | h2
  · rcases Nat.lt_or_eq_of_le hi.2 with h3 | h3
    · have := inner h1 h2 h3; omega
    · right
      have := low_eq gc hg hd h3.symm
      exact Prod.ext this.1.symm this.2.symm
  · left
    have := low_eq ga hg hb h2
    exact Prod.ext this.1.symm this.2.symm

theorem lo_hi {N : Nat} {s : G} (h : Gap N s) : (s.a, s.b) ≠ (s.c, s.d) := fun e => by
  have e1 := (Prod.mk.inj e).1
  have e2 := (Prod.mk.inj e).2
  have := h.det
  rw [← e1, ← e2] at this
  omega

set_option maxHeartbeats 1000000 in
theorem vis_mem : ∀ (n N : Nat) (s : G) (f : Nat × Nat), Gap N s → 1 ≤ n → N + 1 < n + (s.b + s.d) → 1 ≤ f.2 → f.2 ≤ N → Nat.gcd f.1 f.2 = 1 → InG f s → ∀ x : Nat × Nat,
    x ∈ visK n N f s ↔ (NB f x ∧ 1 ≤ x.2 ∧ x.2 ≤ N ∧ InG x s)
  | 0, N, s, f, hG, h0, hn, _, _, _, _, _ => absurd h0 (by omega)
  | n + 1, N, s, f, hG, _, hn, hf1, hfN, hfg, hfi, x => by
    obtain ⟨a, b, c, d⟩ := s
    have hdet := hG.det
    have hb1 := hG.b1
    have hd1 := hG.d1
    have hbN := hG.bN
    have hdN := hG.dN
    simp only at hdet hb1 hd1 hbN hdN hn
    have hcross : a * d ≤ c * b := by omega
    -- the ends
    have hends : ∀ y : Nat × Nat, (y ∈ (if ((a, b) : Nat × Nat) = f then [((c, d) : Nat × Nat)] else []) ∨ y ∈ (if ((c, d) : Nat × Nat) = f then [((a, b) : Nat × Nat)] else [])) ↔ (f = (a, b) ∧ y = (c, d)) ∨ (f = (c, d) ∧ y = (a, b)) := by
      intro y
      by_cases e1 : ((a, b) : Nat × Nat) = f <;> by_cases e2 : ((c, d) : Nat × Nat) = f
      · exact absurd (e1.trans e2.symm) (lo_hi hG)
      · simp [e1, e2, eq_comm (a := f)]
      · simp [e1, e2, eq_comm (a := f)]
      · simp [e1, e2, eq_comm (a := f)]
    have hendok : ∀ y : Nat × Nat, (f = (a, b) ∧ y = (c, d)) ∨ (f = (c, d) ∧ y = (a, b)) → NB f y ∧ 1 ≤ y.2 ∧ y.2 ≤ N ∧ InG y ⟨a, b, c, d⟩ := by
      rintro y (⟨rfl, rfl⟩ | ⟨rfl, rfl⟩)
      · exact ⟨.inr hdet, hd1, hdN, hcross, Nat.le_refl _⟩
      · exact ⟨.inl hdet, hb1, hbN, Nat.le_refl _, hcross⟩
    unfold visK
    rw [List.mem_append, List.mem_append, ← or_assoc, hends]
    by_cases hm : N < b + d
    · rw [if_pos hm]
      simp only [List.not_mem_nil, or_false]
      refine ⟨hendok x, fun ⟨hnb, hx1, hxN, hxi⟩ => ?_⟩
      have e1 := edge hdet hb1 hd1 hfg hfN hm hfi
      have e2 := edge hdet hb1 hd1 hnb.gcd hxN hm hxi
      have hff : ¬ NB f f := by unfold NB; omega
      rcases e1 with rfl | rfl <;> rcases e2 with rfl | rfl
      · exact absurd hnb hff
      · exact .inl ⟨rfl, rfl⟩
      · exact .inr ⟨rfl, rfl⟩
      · exact absurd hnb hff
    · rw [if_neg hm]
      have hmN : b + d ≤ N := by omega
      have gL : Gap N (leftG ⟨a, b, c, d⟩) := hG.left hmN
      have gR : Gap N (rightG ⟨a, b, c, d⟩) := hG.right hmN
      have mL : a * (b + d) < (a + c) * b := by rw [Nat.mul_add, Nat.add_mul]; omega
      have mR : (a + c) * d < c * (b + d) := by rw [Nat.mul_add, Nat.add_mul]; omega
      have ihL := vis_mem n N (leftG ⟨a, b, c, d⟩) f gL (by omega) (by simp only [leftG]; omega) hf1 hfN hfg
      have ihR := vis_mem n N (rightG ⟨a, b, c, d⟩) f gR (by omega) (by simp only [rightG]; omega) hf1 hfN hfg
      have upL : ∀ y : Nat × Nat, InG y (leftG ⟨a, b, c, d⟩) → InG y ⟨a, b, c, d⟩ := by
        rintro ⟨y1, y2⟩ ⟨h1, h2⟩
        simp only [leftG] at h1 h2
        refine ⟨h1, ?_⟩
        simp only
        refine Nat.le_of_mul_le_mul_right (c := b + d) ?_ (by omega)
        have k1 : y1 * (b + d) * d ≤ (a + c) * y2 * d := Nat.mul_le_mul_right _ h2
        have k2 : (a + c) * d * y2 ≤ c * (b + d) * y2 := Nat.mul_le_mul_right _ (Nat.le_of_lt mR)
        calc y1 * d * (b + d) = y1 * (b + d) * d := by rw [Nat.mul_assoc, Nat.mul_comm d, Nat.mul_assoc]
          _ ≤ (a + c) * y2 * d := k1
          _ = (a + c) * d * y2 := by rw [Nat.mul_assoc, Nat.mul_comm y2, Nat.mul_assoc]
          _ ≤ c * (b + d) * y2 := k2
          _ = c * y2 * (b + d) := by rw [Nat.mul_assoc, Nat.mul_comm (b + d), Nat.mul_assoc]
      have upR : ∀ y : Nat × Nat, InG y (rightG ⟨a, b, c, d⟩) → InG y ⟨a, b, c, d⟩ := by
        rintro ⟨y1, y2⟩ ⟨h1, h2⟩
        simp only [rightG] at h1 h2
        refine ⟨?_, h2⟩
        simp only
        refine Nat.le_of_mul_le_mul_right (c := b + d) ?_ (by omega)
        have k1 : (a + c) * y2 * b ≤ y1 * (b + d) * b := Nat.mul_le_mul_right _ h1
        have k2 : a * (b + d) * y2 ≤ (a + c) * b * y2 := Nat.mul_le_mul_right _ (Nat.le_of_lt mL)
        calc a * y2 * (b + d) = a * (b + d) * y2 := by rw [Nat.mul_assoc, Nat.mul_comm y2, Nat.mul_assoc]
          _ ≤ (a + c) * b * y2 := k2
          _ = (a + c) * y2 * b := by rw [Nat.mul_assoc, Nat.mul_comm b, Nat.mul_assoc]
          _ ≤ y1 * (b + d) * b := k1
          _ = y1 * b * (b + d) := by rw [Nat.mul_assoc, Nat.mul_comm (b + d), Nat.mul_assoc]
      have low : ∀ y : Nat × Nat, InG y ⟨a, b, c, d⟩ → y.1 * (b + d) ≤ (a + c) * y.2 → InG y (leftG ⟨a, b, c, d⟩) := fun y h h2 => ⟨h.1, h2⟩
      have high : ∀ y : Nat × Nat, InG y ⟨a, b, c, d⟩ → (a + c) * y.2 ≤ y.1 * (b + d) → InG y (rightG ⟨a, b, c, d⟩) := fun y h h2 => ⟨h2, h.2⟩
      have lm : lessF (midG ⟨a, b, c, d⟩) f = decide ((a + c) * f.2 < f.1 * (b + d)) := rfl
      have lf : lessF f (midG ⟨a, b, c, d⟩) = decide (f.1 * (b + d) < (a + c) * f.2) := rfl
      rw [lm, lf, List.mem_append]
      rcases Nat.lt_trichotomy (f.1 * (b + d)) ((a + c) * f.2) with h | h | h
      · -- below the middle
        rw [decide_eq_true h, decide_eq_false (by omega)]
        simp only [if_true, if_false, Bool.false_eq_true, List.not_mem_nil, or_false]
        rw [ihL (low f hfi (by omega)) x]
        constructor
        · rintro (h1 | ⟨h1, h2, h3, h4⟩)
          · exact hendok x h1
          · exact ⟨h1, h2, h3, upL x h4⟩
        · rintro ⟨hnb, hx1, hxN, hxi⟩
          rcases Nat.lt_or_ge ((a + c) * x.2) (x.1 * (b + d)) with hx | hx
          · -- f < middle < x: f is the low end, x the high one
            have hfx : x.1 * f.2 = f.1 * x.2 + 1 := by
              rcases hnb with h1 | h1
              · exfalso
                have := cross_lt h hx hx1 hf1
                omega
              · exact h1
            have hin := inner (a := f.1) (b := f.2) (c := x.1) (d := x.2) (x := a + c) (y := b + d) hfx (by omega) (by omega)
            have hfe : f = (a, b) := by
              rcases Nat.lt_or_eq_of_le hfi.1 with h2 | h2
              · exfalso
                have h3 : f.1 * d < c * f.2 := by
                  refine Nat.lt_of_mul_lt_mul_right (a := b + d) ?_
                  have k1 : f.1 * (b + d) * d < (a + c) * f.2 * d := Nat.mul_lt_mul_of_pos_right h hd1
                  have k2 : (a + c) * d * f.2 ≤ c * (b + d) * f.2 := Nat.mul_le_mul_right _ (Nat.le_of_lt mR)
                  grind
                have := inner hdet h2 h3
                omega
              · have := low_eq (gcd_det hdet).1 hfg hb1 h2
                exact Prod.ext this.1.symm this.2.symm
            have hxe : x = (c, d) := by
              rcases Nat.lt_or_eq_of_le hxi.2 with h2 | h2
              · exfalso
                have h3 : a * x.2 < x.1 * b := by
                  refine Nat.lt_of_mul_lt_mul_right (a := b + d) ?_
                  have k1 : (a + c) * x.2 * b < x.1 * (b + d) * b := Nat.mul_lt_mul_of_pos_right hx hb1
                  have k2 : a * (b + d) * x.2 ≤ (a + c) * b * x.2 := Nat.mul_le_mul_right _ (Nat.le_of_lt mL)
                  grind
                have := inner hdet h3 h2
                omega
              · have := low_eq (gcd_det hdet).2 hnb.gcd hd1 h2.symm
                exact Prod.ext this.1.symm this.2.symm
            exact .inl (.inl ⟨hfe, hxe⟩)
          · exact .inr ⟨hnb, hx1, hxN, low x hxi hx⟩
      · -- the middle
        rw [decide_eq_false (by omega), decide_eq_false (by omega)]
        simp only [if_false, Bool.false_eq_true]
        rw [ihL (low f hfi (by omega)) x, ihR (high f hfi (by omega)) x]
        constructor
        · rintro (h1 | ⟨h1, h2, h3, h4⟩ | ⟨h1, h2, h3, h4⟩)
          · exact hendok x h1
          · exact ⟨h1, h2, h3, upL x h4⟩
          · exact ⟨h1, h2, h3, upR x h4⟩
        · rintro ⟨hnb, hx1, hxN, hxi⟩
          rcases Nat.lt_or_ge ((a + c) * x.2) (x.1 * (b + d)) with hx | hx
          · exact .inr (.inr ⟨hnb, hx1, hxN, high x hxi (by omega)⟩)
          · exact .inr (.inl ⟨hnb, hx1, hxN, low x hxi hx⟩)
      · -- above the middle
        rw [decide_eq_true h, decide_eq_false (by omega)]
        simp only [if_true, if_false, Bool.false_eq_true, List.not_mem_nil, false_or]
        rw [ihR (high f hfi (by omega)) x]
        constructor
        · rintro (h1 | ⟨h1, h2, h3, h4⟩)
          · exact hendok x h1
          · exact ⟨h1, h2, h3, upR x h4⟩
        · rintro ⟨hnb, hx1, hxN, hxi⟩
          rcases Nat.lt_or_ge (x.1 * (b + d)) ((a + c) * x.2) with hx | hx
          · have hfx : f.1 * x.2 = x.1 * f.2 + 1 := by
              rcases hnb with h1 | h1
              · exact h1
              · exfalso
                have := cross_lt hx h hf1 hx1
                omega
            have hin := inner (a := x.1) (b := x.2) (c := f.1) (d := f.2) (x := a + c) (y := b + d) hfx (by omega) (by omega)
            have hfe : f = (c, d) := by
              rcases Nat.lt_or_eq_of_le hfi.2 with h2 | h2
              · exfalso
                have h3 : a * f.2 < f.1 * b := by
                  refine Nat.lt_of_mul_lt_mul_right (a := b + d) ?_
                  have k1 : (a + c) * f.2 * b < f.1 * (b + d) * b := Nat.mul_lt_mul_of_pos_right h hb1
                  have k2 : a * (b + d) * f.2 ≤ (a + c) * b * f.2 := Nat.mul_le_mul_right _ (Nat.le_of_lt mL)
                  grind
                have := inner hdet h3 h2
                omega
              · have := low_eq (gcd_det hdet).2 hfg hd1 h2.symm
                exact Prod.ext this.1.symm this.2.symm
            have hxe : x = (a, b) := by
              rcases Nat.lt_or_eq_of_le hxi.1 with h2 | h2
              · exfalso
                have h3 : x.1 * d < c * x.2 := by
                  refine Nat.lt_of_mul_lt_mul_right (a := b + d) ?_
                  have k1 : x.1 * (b + d) * d < (a + c) * x.2 * d := Nat.mul_lt_mul_of_pos_right hx hd1
                  have k2 : (a + c) * d * x.2 ≤ c * (b + d) * x.2 := Nat.mul_le_mul_right _ (Nat.le_of_lt mR)
                  grind
                have := inner hdet h2 h3
                omega
              · have := low_eq (gcd_det hdet).1 hnb.gcd hb1 h2
                exact Prod.ext this.1.symm this.2.symm
            exact .inl (.inr ⟨hfe, hxe⟩)
          · exact .inr ⟨hnb, hx1, hxN, high x hxi hx⟩

/-- how much the search adds -/
theorem vis_end : ∀ (n N : Nat) (s : G) (f : Nat × Nat), Gap N s → (f = (s.a, s.b) ∨ f = (s.c, s.d)) → (visK n N f s).length ≤ n
  | 0, _, _, _, _, _ => Nat.le_refl _
  | n + 1, N, s, f, hG, hf => by
    have hne := lo_hi hG
    have hdet := hG.det
    unfold visK
    by_cases hm : N < s.b + s.d
    · rw [if_pos hm]
      rcases hf with rfl | rfl
      · rw [if_pos rfl, if_neg hne.symm]; simp
      · rw [if_neg hne, if_pos rfl]; simp
    · rw [if_neg hm]
      have hmN : s.b + s.d ≤ N := by omega
      rcases hf with rfl | rfl
      · have h1 : lessF (s.a, s.b) (midG s) = true := by unfold lessF midG; rw [decide_eq_true_eq]; simp only; rw [Nat.mul_add, Nat.add_mul]; omega
        have h2 : lessF (midG s) (s.a, s.b) = false := by unfold lessF midG; rw [decide_eq_false_iff_not]; simp only; rw [Nat.mul_add, Nat.add_mul]; omega
        rw [if_pos rfl, if_neg hne.symm, h1, h2]
        have := vis_end n N (leftG s) (s.a, s.b) (hG.left hmN) (.inl rfl)
        simp
        omega
      · have h1 : lessF (midG s) (s.c, s.d) = true := by unfold lessF midG; rw [decide_eq_true_eq]; simp only; rw [Nat.mul_add, Nat.add_mul]; omega
        have h2 : lessF (s.c, s.d) (midG s) = false := by unfold lessF midG; rw [decide_eq_false_iff_not]; simp only; rw [Nat.mul_add, Nat.add_mul]; omega
        rw [if_neg hne, if_pos rfl, h1, h2]
        have := vis_end n N (rightG s) (s.c, s.d) (hG.right hmN) (.inr rfl)
        simp
        omega
theorem vis_len : ∀ (n N : Nat) (s : G) (f : Nat × Nat), Gap N s → Nat.gcd f.1 f.2 = 1 → (visK n N f s).length ≤ 2 * n
  | 0, _, _, _, _, _ => Nat.le_refl _
  | n + 1, N, s, f, hG, hg => by
    by_cases h1 : f = (s.a, s.b)
    · have := vis_end (n + 1) N s f hG (.inl h1); omega
    · by_cases h2 : f = (s.c, s.d)
      · have := vis_end (n + 1) N s f hG (.inr h2); omega
      · unfold visK
        rw [if_neg (fun e => h1 e.symm), if_neg (fun e => h2 e.symm)]
        by_cases hm : N < s.b + s.d
        · rw [if_pos hm]; simp
        · rw [if_neg hm]
          have hmN : s.b + s.d ≤ N := by omega
          have iL := vis_len n N (leftG s) f (hG.left hmN) hg
          have iR := vis_len n N (rightG s) f (hG.right hmN) hg
          cases c1 : lessF (midG s) f with
          | true => cases c2 : lessF f (midG s) <;> simp <;> omega
          | false =>
            cases c2 : lessF f (midG s) with
            | true => simp; omega
            | false =>
              have hd := (gcd_det (hG.left hmN).det).2
              unfold lessF at c1 c2
              rw [decide_eq_false_iff_not] at c1 c2
              have he := low_eq hg hd (a := f.1) (b := f.2) (c := (midG s).1) (d := (midG s).2) (by
                rcases Nat.eq_zero_or_pos f.2 with e | e
                · exfalso
                  rw [e] at c1 c2 hg
                  rw [Nat.gcd_zero_right] at hg
                  rw [hg] at c1 c2
                  have := hG.b1
                  simp [midG] at c1 c2
                  omega
                · exact e) (by omega)
              have hf : f = midG s := Prod.ext he.1 he.2
              have eL := vis_end n N (leftG s) f (hG.left hmN) (.inr (by rw [hf]; rfl))
              have eR := vis_end n N (rightG s) f (hG.right hmN) (.inl (by rw [hf]; rfl))
              simp
              omega
end Go.Proofs.Ytelipknnfagnjaa
