/- Following a path: mathematics. -/
import Derived.Test.YtfelmjanffhahaaDoorGap
import Derived.Lib.SlTrimSet
namespace Go.Proofs.YtfelmjanffhahaaDoor
set_option linter.unusedVariables false

/-- a step to the left or to the right -/
def goG (g : G) (c : UInt8) : G := if c = 76 then ⟨g.a, g.b, g.a + g.c, g.b + g.d⟩ else ⟨g.a + g.c, g.b + g.d, g.c, g.d⟩
def flw (g : G) : List UInt8 → Option G
  | [] => some g
  | c :: l => if 1000000 < (goG g c).b + (goG g c).d then none else flw (goG g c) l
def wayB (l : List UInt8) : Bool := decide (l.length ≤ 200) && l.all (fun c => c == 76 || c == 82)
def g01 : G := ⟨0, 1, 1, 1⟩
def flwR (l : List UInt8) : (Nat × Nat) × Int :=
  if wayB l then (match flw g01 l with | some g => ((g.a + g.c, g.b + g.d), 0) | none => ((0, 0), 5)) else ((0, 0), 2)

theorem step_small {g : G} {c : UInt8} : g.b ≤ (goG g c).b ∧ g.d ≤ (goG g c).d ∧ (goG g c).a ≤ g.a + g.c ∧ (goG g c).c ≤ g.a + g.c ∧ (goG g c).b ≤ g.b + g.d ∧ (goG g c).d ≤ g.b + g.d := by
  unfold goG; split <;> simp only <;> omega

theorem flw_pth : ∀ (n p q u v : Nat) (s : G), u + v ≤ n → InGap p q s u v → Nat.gcd p q = 1 → q ≤ 1000000 → ∃ g, flw s (pth u v) = some g ∧ g.a + g.c = p ∧ g.b + g.d = q
  | 0, p, q, u, v, s, h, hI, _, _ => absurd hI.u1 (by omega)
  | n + 1, p, q, u, v, s, h, hI, hg, hq => by
    have hu := hI.u1
    have hv := hI.v1
    rcases Nat.lt_trichotomy v u with e | e | e
    · have hJ := hI.left e
      have hs := hJ.small
      rw [pth_lt hv e]
      have hst : goG s 76 = ⟨s.a, s.b, s.a + s.c, s.b + s.d⟩ := by unfold goG; rw [if_pos rfl]
      unfold flw
      rw [hst, if_neg (by simp only at hs ⊢; omega)]
      exact flw_pth n p q (u - v) v _ (by omega) hJ hg hq
    · subst e
      obtain ⟨h1, h2⟩ := hI.one hg rfl
      rw [pth_eq]
      exact ⟨s, rfl, h1.symm, h2.symm⟩
    · have hJ := hI.right e
      have hs := hJ.small
      rw [pth_gt hu e]
      have hst : goG s 82 = ⟨s.a + s.c, s.b + s.d, s.c, s.d⟩ := by unfold goG; rw [if_neg (by decide)]
      unfold flw
      rw [hst, if_neg (by simp only at hs ⊢; omega)]
      exact flw_pth n p q u (v - u) _ (by omega) hJ hg hq

theorem flwR_pth {p q : Nat} (hp : 1 ≤ p) (hpq : p < q) (hg : Nat.gcd p q = 1) (hq : q ≤ 1000000) (hl : (pth (q - p) p).length ≤ 200) : flwR (pth (q - p) p) = ((p, q), 0) := by
  obtain ⟨g, h1, h2, h3⟩ := flw_pth _ p q (q - p) p g01 (Nat.le_refl _) (InGap.first hp hpq) hg hq
  have hw : wayB (pth (q - p) p) = true := by
    unfold wayB
    rw [Bool.and_eq_true, decide_eq_true_eq, List.all_eq_true]
    refine ⟨hl, fun c hc => ?_⟩
    rcases pth_letters _ (q - p) p (Nat.le_refl _) c hc with rfl | rfl <;> rfl
  unfold flwR
  rw [hw, h1]
  simp only [if_true, h2, h3]

/-- one letter more -/
theorem flw_snoc : ∀ (l : List UInt8) (g : G) (c : UInt8), flw g (l ++ [c]) = (flw g l).bind fun h => if 1000000 < (goG h c).b + (goG h c).d then none else some (goG h c)
  | [], g, c => by simp only [List.nil_append, flw, Option.bind_some]
  | x :: l, g, c => by
    simp only [List.cons_append, flw]
    split
    · rfl
    · exact flw_snoc l _ c
theorem flw_none_append : ∀ (l r : List UInt8) (g : G), flw g l = none → flw g (l ++ r) = none
  | [], r, g, h => by simp [flw] at h
  | x :: l, r, g, h => by
    simp only [List.cons_append, flw] at h ⊢
    split
    · rfl
    · rw [if_neg (by assumption)] at h; exact flw_none_append l r _ h
theorem flw_take {l : List UInt8} {g h : G} {k : Nat} {c : UInt8} (hc : l[k]? = some c) (hh : flw g (l.take k) = some h) : flw g (l.take (k + 1)) = if 1000000 < (goG h c).b + (goG h c).d then none else some (goG h c) := by
  obtain ⟨hk, rfl⟩ := List.getElem?_eq_some_iff.1 hc
  rw [List.take_succ_eq_append_getElem hk, flw_snoc, hh]; rfl
theorem flw_take_none {l : List UInt8} {g : G} {k : Nat} (h : flw g (l.take k) = none) : flw g l = none := by
  have := flw_none_append (l.take k) (l.drop k) g h
  rwa [List.take_append_drop] at this

/-- what is reached is small -/
theorem flw_small : ∀ (l : List UInt8) (g h : G), g.a + g.c ≤ g.b + g.d → g.b + g.d ≤ 1000000 → g.a ≤ g.b → g.c ≤ g.d → flw g l = some h → h.b + h.d ≤ 1000000 ∧ h.a ≤ h.b ∧ h.c ≤ h.d
  | [], g, h, _, hq, h3, h4, e => by simp [flw] at e; subst e; exact ⟨hq, h3, h4⟩
  | c :: l, g, h, hp, hq, h3, h4, e => by
    unfold flw at e
    split at e
    · cases e
    · rename_i hn
      refine flw_small l (goG g c) h ?_ (by omega) ?_ ?_ e
      all_goals (unfold goG; split <;> simp only <;> omega)

/-- the letters that Trim leaves -/
theorem trim_lr (l : List UInt8) : Go.Lib.trimS l [76, 82] = [] ↔ l.all (fun c => c == 76 || c == 82) = true := by
  have hf : (fun x : UInt8 => [76, 82].contains x) = fun c => c == 76 || c == 82 := by
    funext c
    simp only [List.contains, List.elem]
    cases (c == 76) <;> cases (c == 82) <;> rfl
  have hd : ∀ (p : UInt8 → Bool) (l : List UInt8), l.dropWhile p = [] ↔ l.all p = true := by
    intro p l
    induction l with
    | nil => simp
    | cons x l ih =>
      rw [List.dropWhile_cons, List.all_cons]
      cases p x <;> simp [ih]
  have hr : ∀ (p : UInt8 → Bool) (l : List UInt8), (l.dropWhile p).all p = true → l.all p = true := by
    intro p l
    induction l with
    | nil => simp
    | cons x l ih =>
      rw [List.dropWhile_cons, List.all_cons]
      cases h : p x
      · simp [h]
      · simpa using ih
  unfold Go.Lib.trimS Go.Lib.trimLeftS Go.Lib.trimRightS
  rw [hf]
  rw [hd, List.all_reverse]
  constructor
  · intro h
    have := hr _ _ h
    rwa [List.all_reverse] at this
  · intro h
    have h2 : l.reverse.all (fun c => c == 76 || c == 82) = true := by rw [List.all_reverse]; exact h
    rw [(hd _ _).2 h2]; rfl
end Go.Proofs.YtfelmjanffhahaaDoor
