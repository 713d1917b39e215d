/- Towers are palindromes and rich; the base of a tower. -/
import Derived.Test.YteejjcipdpojnaaOutmath
import Derived.Test.YteejjcipdpojnaaRev
namespace Go.Proofs.Yteejjcipdpojnaa
set_option linter.unusedVariables false

theorem getD_app (a b : List UInt8) (j : Nat) (h : j < a.length) : (a ++ b).getD j 0 = a.getD j 0 := by
  rw [List.getD_eq_getElem?_getD, List.getD_eq_getElem?_getD, List.getElem?_append_left h]
theorem getD_end (T : List UInt8) (c : UInt8) : (T ++ [c]).getD T.length 0 = c := by
  rw [List.getD_eq_getElem?_getD, List.getElem?_append_right (Nat.le_refl _)]; simp
theorem PalAt.mirror {l : List UInt8} {L x y : Nat} (hP : PalAt l 0 L) (h : PalAt l x y) (hy : y ≤ L) : PalAt l (L - y) (L - x) := by
  intro j h1 h2
  rw [hP j (Nat.zero_le _) (by omega), h (0 + L - 1 - j) (by omega) (by omega), hP (x + y - 1 - (0 + L - 1 - j)) (Nat.zero_le _) (by omega)]
  congr 1; omega
theorem PalAt.congr {a b : List UInt8} {x y : Nat} (h : PalAt a x y) (hab : ∀ j, j < y → a.getD j 0 = b.getD j 0) : PalAt b x y := by
  intro j h1 h2
  rw [← hab j h2, ← hab (x + y - 1 - j) (by omega)]; exact h j h1 h2
theorem PalAt.up {a b : List UInt8} {s n x y : Nat} (hab : ∀ i, i < n → a.getD (s + i) 0 = b.getD i 0) (hy : y ≤ n) (h : PalAt b x y) : PalAt a (s + x) (s + y) := by
  intro j h1 h2
  have e1 := hab (j - s) (by omega)
  have e2 := hab (x + y - 1 - (j - s)) (by omega)
  rw [show s + (j - s) = j from by omega] at e1
  rw [show s + (x + y - 1 - (j - s)) = s + x + (s + y) - 1 - j from by omega] at e2
  rw [e1, e2]; exact h (j - s) (by omega) (by omega)
theorem PalAt.dn {a b : List UInt8} {s n x y : Nat} (hab : ∀ i, i < n → a.getD (s + i) 0 = b.getD i 0) (hy : y ≤ n) (h : PalAt a (s + x) (s + y)) : PalAt b x y := by
  intro j h1 h2
  have e1 := hab j (by omega)
  have e2 := hab (x + y - 1 - j) (by omega)
  rw [← e1, ← e2, h (s + j) (by omega) (by omega)]
  congr 1; omega
theorem pal_all (l : List UInt8) (h : pal l = true) : PalAt l 0 l.length := by
  have := (palAt_iff l 0 l.length (Nat.zero_le _) (Nat.le_refl _)).1 (by rw [List.take_length]; exact h)
  exact this

theorem le_pal (T : List UInt8) (c : UInt8) : PalAt (T ++ [c]) (T.length + 1 - longEnd (T ++ [c])) (T.length + 1) ∧ 1 ≤ longEnd (T ++ [c]) ∧ longEnd (T ++ [c]) ≤ T.length + 1 := by
  have h := longEnd_palAt (T ++ [c]) T.length (by simp)
  rw [List.take_of_length_le (by simp)] at h
  exact h
theorem le_ge (T : List UInt8) (c : UInt8) (x : Nat) (hx : x ≤ T.length + 1) (hp : PalAt (T ++ [c]) x (T.length + 1)) : T.length + 1 - x ≤ longEnd (T ++ [c]) := by
  have h := longEnd_ge (T ++ [c]) x T.length (by simp) hx hp
  rwa [List.take_of_length_le (by simp)] at h

/-- whatever the next letter, the longest palindrome at the end is new -/
def New (T : List UInt8) : Prop := ∀ (c : UInt8) (x : Nat), x + longEnd (T ++ [c]) ≤ T.length → ¬ ∀ j, j < longEnd (T ++ [c]) → T.getD (x + j) 0 = (T ++ [c]).getD (T.length + 1 - longEnd (T ++ [c]) + j) 0
/-- at each position the longest palindrome that ends there is new -/
def Fresh (l : List UInt8) : Prop := ∀ k x, k < l.length → x + longEnd (l.take (k + 1)) ≤ k → ¬ ∀ j, j < longEnd (l.take (k + 1)) → l.getD (x + j) 0 = l.getD (k + 1 - longEnd (l.take (k + 1)) + j) 0

theorem clos_facts (T : List UInt8) (d : UInt8) (hp : pal T = true) :
    (closL (T ++ [d])).length + longEnd (T ++ [d]) = 2 * (T.length + 1) ∧ (∀ j, j < T.length + 1 → (closL (T ++ [d])).getD j 0 = (T ++ [d]).getD j 0) ∧
    PalAt (closL (T ++ [d])) 0 (closL (T ++ [d])).length ∧ (∀ i, i < T.length → (closL (T ++ [d])).getD ((closL (T ++ [d])).length - T.length + i) 0 = T.getD i 0) := by
  obtain ⟨_, d1, d2⟩ := le_pal T d
  have hs := closL_size (T ++ [d])
  rw [List.length_append, List.length_singleton] at hs
  have hP := pal_all _ (closL_pal (T ++ [d]))
  have h1 : ∀ j, j < T.length + 1 → (closL (T ++ [d])).getD j 0 = (T ++ [d]).getD j 0 := by
    intro j hj; unfold closL; exact getD_app _ _ _ (by simpa using hj)
  refine ⟨by omega, h1, hP, ?_⟩
  intro i hi
  have hT := pal_all _ hp
  rw [hP _ (Nat.zero_le _) (by omega), h1 _ (by omega), getD_app _ _ _ (by omega), hT i (Nat.zero_le _) hi]
  congr 1; omega

/-- where the next letter's longest palindrome lies in the closure -/
theorem occ_span {T T' : List UInt8} {L : Nat} (hn : New T) (h1 : ∀ j, j < T.length → T'.getD j 0 = T.getD j 0) (h2 : ∀ i, i < T.length → T'.getD (L - T.length + i) 0 = T.getD i 0) (hL : T.length ≤ L) (c : UInt8) (z : Nat)
    (hz : z + longEnd (T ++ [c]) ≤ L) (h : ∀ j, j < longEnd (T ++ [c]) → T'.getD (z + j) 0 = (T ++ [c]).getD (T.length + 1 - longEnd (T ++ [c]) + j) 0) : T.length < z + longEnd (T ++ [c]) ∧ z < L - T.length := by
  refine ⟨?_, ?_⟩
  · refine Nat.lt_of_not_le fun hb => hn c z hb fun j hj => ?_
    rw [← h1 _ (by omega)]; exact h j hj
  · refine Nat.lt_of_not_le fun hb => hn c (z - (L - T.length)) (by omega) fun j hj => ?_
    rw [← h2 _ (by omega), show L - T.length + (z - (L - T.length) + j) = z + j from by omega]; exact h j hj

theorem new_step (T : List UInt8) (d : UInt8) (hp : pal T = true) (hn : New T) : New (closL (T ++ [d])) := by
  obtain ⟨hL, h1, hP, h2⟩ := clos_facts T d hp
  obtain ⟨pd, d1, d2⟩ := le_pal T d
  generalize closL (T ++ [d]) = T' at hL h1 hP h2 ⊢
  have h1' : ∀ j, j < T.length → T'.getD j 0 = T.getD j 0 := fun j hj => by rw [h1 j (by omega), getD_app _ _ _ hj]
  have hd : T'.getD T.length 0 = d := by rw [h1 _ (Nat.lt_succ_self _), getD_end]
  have hd2 : T'.getD (T'.length - T.length - 1) 0 = d := by
    rw [hP _ (Nat.zero_le _) (by omega), ← hd]; congr 1; omega
  intro c x hx hocc
  obtain ⟨pc, c1, c2⟩ := le_pal T c
  obtain ⟨pq, q1, q2⟩ := le_pal T' c
  have tail : ∀ i, i < T.length + 1 → (T' ++ [c]).getD (T'.length - T.length + i) 0 = (T ++ [c]).getD i 0 := by
    intro i hi
    by_cases e : i = T.length
    · subst e; rw [getD_end, show T'.length - T.length + T.length = T'.length from by omega, getD_end]
    · rw [getD_app _ _ _ (by omega), h2 i (by omega), getD_app _ _ _ (by omega)]
  have hT := pal_all _ hp
  by_cases hcd : c = d
  · subst hcd
    have hb := le_ge T' c (T'.length - T.length - 1) (by omega) (by
      intro j hj1 hj2
      by_cases e1 : j = T'.length - T.length - 1
      · rw [e1, getD_app _ _ _ (by omega), hd2, show T'.length - T.length - 1 + (T'.length + 1) - 1 - (T'.length - T.length - 1) = T'.length from by omega, getD_end]
      · by_cases e2 : j = T'.length
        · rw [e2, getD_end, show T'.length - T.length - 1 + (T'.length + 1) - 1 - T'.length = T'.length - T.length - 1 from by omega, getD_app _ _ _ (by omega), hd2]
        · have a1 := h2 (j - (T'.length - T.length)) (by omega)
          have a2 := h2 (T'.length - 1 - j) (by omega)
          have a3 := hT (j - (T'.length - T.length)) (Nat.zero_le _) (by omega)
          rw [show T'.length - T.length + (j - (T'.length - T.length)) = j from by omega] at a1
          rw [getD_app _ _ _ (by omega), getD_app _ _ _ (by omega), a1, a3, show T'.length - T.length - 1 + (T'.length + 1) - 1 - j = T'.length - T.length + (T'.length - 1 - j) from by omega, a2]
          congr 1; omega)
    obtain ⟨_, s2⟩ := occ_span hn h1' h2 (by omega) c (x + longEnd (T' ++ [c]) - longEnd (T ++ [c])) (by omega) (by
      intro j hj
      have a := hocc (longEnd (T' ++ [c]) - longEnd (T ++ [c]) + j) (by omega)
      rw [show x + longEnd (T' ++ [c]) - longEnd (T ++ [c]) + j = x + (longEnd (T' ++ [c]) - longEnd (T ++ [c]) + j) from by omega, a, ← tail _ (by omega)]
      congr 1; omega)
    omega
  · have hle : longEnd (T' ++ [c]) ≤ T.length + 1 := by
      refine Nat.le_of_not_lt fun hb => ?_
      have e0 := pq (T'.length + 1 - longEnd (T' ++ [c])) (Nat.le_refl _) (by omega)
      rw [show T'.length + 1 - longEnd (T' ++ [c]) + (T'.length + 1) - 1 - (T'.length + 1 - longEnd (T' ++ [c])) = T'.length from by omega, getD_end, getD_app _ _ _ (by omega)] at e0
      by_cases e : longEnd (T' ++ [c]) = T.length + 2
      · rw [e, show T'.length + 1 - (T.length + 2) = T'.length - T.length - 1 from by omega, hd2] at e0
        exact hcd e0.symm
      · have s1 : PalAt T' (T'.length + 1 - longEnd (T' ++ [c]) + 1) T'.length := by
          have := pq.shrink 1 (by omega)
          exact this.congr fun j hj => getD_app _ _ _ (by omega)
        have s2 := hP.mirror s1 (Nat.le_refl _)
        rw [Nat.sub_self] at s2
        have s3 := s2.shrink (longEnd (T' ++ [c]) - 2 - T.length - 1) (by omega)
        rw [show T'.length - (T'.length + 1 - longEnd (T' ++ [c]) + 1) - (longEnd (T' ++ [c]) - 2 - T.length - 1) = T.length + 1 from by omega] at s3
        have := le_ge T d _ (by omega) (s3.congr h1)
        omega
    have hge : longEnd (T ++ [c]) ≤ longEnd (T' ++ [c]) := by
      have u := PalAt.up tail (Nat.le_refl _) pc
      have := le_ge T' c (T'.length - T.length + (T.length + 1 - longEnd (T ++ [c]))) (by omega) (by
        rwa [show T'.length - T.length + (T.length + 1) = T'.length + 1 from by omega] at u)
      omega
    have hge2 : longEnd (T' ++ [c]) ≤ longEnd (T ++ [c]) := by
      have := le_ge T c (T.length + 1 - longEnd (T' ++ [c])) (by omega) (PalAt.dn (s := T'.length - T.length) tail (Nat.le_refl _) (by
        rw [show T'.length - T.length + (T.length + 1 - longEnd (T' ++ [c])) = T'.length + 1 - longEnd (T' ++ [c]) from by omega, show T'.length - T.length + (T.length + 1) = T'.length + 1 from by omega]; exact pq))
      omega
    have hm : longEnd (T' ++ [c]) = longEnd (T ++ [c]) := Nat.le_antisymm hge2 hge
    rw [hm] at hx hocc
    have hocc2 : ∀ j, j < longEnd (T ++ [c]) → T'.getD (x + j) 0 = (T ++ [c]).getD (T.length + 1 - longEnd (T ++ [c]) + j) 0 := by
      intro j hj
      rw [hocc j hj, ← tail _ (by omega)]; congr 1; omega
    obtain ⟨s1, s2⟩ := occ_span hn h1' h2 (by omega) c x hx hocc2
    by_cases e : T.length + 1 - x = longEnd (T ++ [c])
    · have a := hocc2 (T.length - x) (by omega)
      rw [show x + (T.length - x) = T.length from by omega, hd, show T.length + 1 - longEnd (T ++ [c]) + (T.length - x) = T.length from by omega, getD_end] at a
      exact hcd a.symm
    · refine hn d (T.length + 1 - longEnd (T ++ [c]) + (T.length + 1 - longEnd (T ++ [d]) - x)) (by omega) fun j hj => ?_
      have a := hocc2 (T.length + 1 - longEnd (T ++ [d]) - x + j) (by omega)
      rw [show x + (T.length + 1 - longEnd (T ++ [d]) - x + j) = T.length + 1 - longEnd (T ++ [d]) + j from by omega, h1 _ (by omega), getD_app (T) [c] _ (by omega)] at a
      rw [a]; congr 1; omega

theorem new_nil : New [] := by
  intro c x hx
  have := (le_pal [] c).2.1
  rw [List.length_nil] at hx; omega

theorem fresh_step (T : List UInt8) (d : UInt8) (hp : pal T = true) (hn : New T) (hf : Fresh T) : Fresh (closL (T ++ [d])) := by
  obtain ⟨hL, h1, hP, h2⟩ := clos_facts T d hp
  obtain ⟨pd, d1, d2⟩ := le_pal T d
  have ht : ∀ k, k ≤ T.length + 1 → (closL (T ++ [d])).take k = (T ++ [d]).take k := by
    intro k hk; unfold closL; rw [List.take_append_of_le_length (by simpa using hk)]
  generalize closL (T ++ [d]) = T' at hL h1 hP h2 ht ⊢
  have h1' : ∀ j, j < T.length → T'.getD j 0 = T.getD j 0 := fun j hj => by rw [h1 j (by omega), getD_app _ _ _ hj]
  intro k x hk hx hocc
  obtain ⟨pk, k1, k2⟩ := longEnd_palAt T' k hk
  by_cases e1 : k < T.length
  · have e : T'.take (k + 1) = T.take (k + 1) := by rw [ht _ (by omega), List.take_append_of_le_length (by omega)]
    rw [e] at hx hocc k2
    refine hf k x e1 hx fun j hj => ?_
    have := hocc j hj
    rwa [h1' _ (by omega), h1' _ (by omega)] at this
  · by_cases e2 : k = T.length
    · subst e2
      have e : T'.take (T.length + 1) = T ++ [d] := by rw [ht _ (Nat.le_refl _), List.take_of_length_le (by simp)]
      rw [e] at hx hocc
      refine hn d x hx fun j hj => ?_
      have := hocc j hj
      rwa [h1' _ (by omega), h1 _ (by omega)] at this
    · have g1 := longEnd_ge T' (T.length + 1 - longEnd (T ++ [d]) - (k - T.length)) k hk (by omega) (by
        have := hP.shrink (T.length + 1 - longEnd (T ++ [d]) - (k - T.length)) (by omega)
        rwa [Nat.zero_add, show T'.length - (T.length + 1 - longEnd (T ++ [d]) - (k - T.length)) = k + 1 from by omega] at this)
      refine hn d (x + (k - T.length)) (by omega) fun j hj => ?_
      have s3 := pk.shrink (k - T.length) (by omega)
      rw [show k + 1 - (k - T.length) = T.length + 1 from by omega] at s3
      have g2 := le_ge T d _ (by omega) (s3.congr h1)
      have a := hocc (k - T.length + j) (by omega)
      rw [show x + (k - T.length + j) = x + (k - T.length) + j from by omega, h1' _ (by omega), h1 _ (by omega)] at a
      rw [a]; congr 1; omega
theorem fresh_nil : Fresh [] := by intro k x hk; simp at hk

theorem rich_fresh (l : List UInt8) (h : Fresh l) : richL l = -1 := by
  have key : ∀ f k, k + f = l.length → richGo l f k = -1 := by
    intro f
    induction f with
    | zero => intro k _; rfl
    | succ f ih =>
      intro k hk
      unfold richGo
      rw [if_neg, ih (k + 1) (by omega)]
      intro hc
      obtain ⟨i, hi, he⟩ := List.mem_map.1 (List.contains_iff_mem.1 hc)
      rw [List.mem_range] at hi
      obtain ⟨_, a1, a2⟩ := longEnd_palAt l k (by omega)
      obtain ⟨_, b1, b2⟩ := longEnd_palAt l i (by omega)
      have hl : longEnd (l.take (i + 1)) = longEnd (l.take (k + 1)) := by
        have := congrArg List.length he
        unfold palEnd at this
        rw [List.length_drop, List.length_drop, List.length_take, List.length_take] at this
        omega
      refine h k (i + 1 - longEnd (l.take (k + 1))) (by omega) (by omega) fun j hj => ?_
      have := congrArg (fun z => z.getD j 0) he
      unfold palEnd at this
      rw [getD_sub _ _ _ _ (by omega), getD_sub _ _ _ _ (by omega), hl] at this
      exact this
  exact key l.length 0 (by omega)

theorem closL_ext (l : List UInt8) : ∃ r, closL l = l ++ r := ⟨_, rfl⟩
theorem tower_facts : ∀ (l T t : List UInt8), pal T = true → New T → Fresh T → T.length ≤ 100 → T.all letterB = true → l.all letterB = true → towerGo T l = some t →
    pal t = true ∧ Fresh t ∧ t.length ≤ 100 ∧ t.all letterB = true ∧ ∃ r, t = T ++ r
  | [], T, t, hp, _, hf, hl, ha, _, h => by
    rw [towerGo, Option.some.injEq] at h; subst h
    exact ⟨hp, hf, hl, ha, [], by simp⟩
  | c :: l, T, t, hp, hn, hf, hl, ha, hb, h => by
    rw [towerGo] at h
    by_cases hc : 100 < (closL (T ++ [c])).length
    · rw [if_pos hc] at h; cases h
    · rw [if_neg hc] at h
      rw [List.all_cons, Bool.and_eq_true] at hb
      have hall : (T ++ [c]).all letterB = true := by rw [List.all_append, ha]; simp [hb.1]
      obtain ⟨a1, a2, a3, a4, r, hr⟩ := tower_facts l (closL (T ++ [c])) t (closL_pal _) (new_step T c hp hn) (fresh_step T c hp hn hf) (by omega) (by
        unfold closL
        rw [List.all_append, hall, Bool.true_and, List.all_eq_true]
        intro x hx
        rw [List.mem_reverse] at hx
        exact List.all_eq_true.1 hall x (List.mem_of_mem_take hx)) hb.2 h
      obtain ⟨q, hq⟩ := closL_ext (T ++ [c])
      exact ⟨a1, a2, a3, a4, [c] ++ q ++ r, by rw [hr, hq]; simp⟩
theorem tower_split : ∀ (a b T : List UInt8), towerGo T (a ++ b) = (towerGo T a).bind fun u => towerGo u b
  | [], _, _ => rfl
  | c :: a, b, T => by
    rw [List.cons_append, towerGo, towerGo]
    split
    · rfl
    · exact tower_split a b _
theorem tower_ext : ∀ (l T t : List UInt8), towerGo T l = some t → ∃ r, t = T ++ r
  | [], T, t, h => by rw [towerGo, Option.some.injEq] at h; exact ⟨[], by simp [h]⟩
  | c :: l, T, t, h => by
    rw [towerGo] at h
    by_cases hc : 100 < (closL (T ++ [c])).length
    · rw [if_pos hc] at h; cases h
    · rw [if_neg hc] at h
      obtain ⟨r, hr⟩ := tower_ext l _ t h
      obtain ⟨q, hq⟩ := closL_ext (T ++ [c])
      exact ⟨[c] ++ q ++ r, by rw [hr, hq]; simp⟩
theorem base_tower : ∀ (l b T t : List UInt8) (f : Nat), towerGo T l = some t → t.length ≤ f + T.length → baseGo t f b T = some (b ++ l)
  | [], b, T, t, f, h, _ => by
    rw [towerGo, Option.some.injEq] at h; subst h
    rw [baseGo_end (Nat.lt_irrefl _)]; simp
  | c :: l, b, T, t, f, h, hf => by
    rw [towerGo] at h
    by_cases hc : 100 < (closL (T ++ [c])).length
    · rw [if_pos hc] at h; cases h
    · rw [if_neg hc] at h
      obtain ⟨r, hr⟩ := tower_ext l _ t h
      obtain ⟨q, hq⟩ := closL_ext (T ++ [c])
      have hlen : (closL (T ++ [c])).length = T.length + 1 + q.length := by rw [hq]; simp; omega
      have hlt : T.length < t.length := by rw [hr, List.length_append]; omega
      have hg : t.getD T.length 0 = c := by
        rw [hr, getD_app _ _ _ (by omega), hq, getD_app _ _ _ (by simp), getD_end]
      have hpre : Lib.hasPrefix t (closL (T ++ [c])) = true := by
        unfold Lib.hasPrefix; exact List.isPrefixOf_iff_prefix.2 ⟨r, hr.symm⟩
      cases f with
      | zero => omega
      | succ f =>
        rw [baseGo_step hlt, hg, if_pos hpre, base_tower l (b ++ [c]) _ t f h (by omega)]
        simp
end Go.Proofs.Yteejjcipdpojnaa
