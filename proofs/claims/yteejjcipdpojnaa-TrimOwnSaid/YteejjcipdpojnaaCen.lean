/- Plain facts: palindromes by their centers. -/
import Derived.Test.YteejjcipdpojnaaOccs
import Derived.Test.YteejjcipdpojnaaOcc
namespace Go.Proofs.Yteejjcipdpojnaa
set_option linter.unusedVariables false

/-- the letters from x to y - 1 are a palindrome -/
def PalAt (l : List UInt8) (x y : Nat) : Prop := ∀ j, x ≤ j → j < y → l.getD j 0 = l.getD (x + y - 1 - j) 0

theorem getD_sub (l : List UInt8) (x y j : Nat) (hj : x + j < y) : ((l.take y).drop x).getD j 0 = l.getD (x + j) 0 := by
  rw [List.getD_eq_getElem?_getD, List.getD_eq_getElem?_getD, List.getElem?_drop, List.getElem?_take_of_lt hj]

theorem palAt_iff (l : List UInt8) (x y : Nat) (hx : x ≤ y) (hy : y ≤ l.length) : pal ((l.take y).drop x) = true ↔ PalAt l x y := by
  have hlen : ((l.take y).drop x).length = y - x := by rw [List.length_drop, List.length_take]; omega
  rw [pal_iff, hlen]
  constructor
  · intro h j h1 h2
    have := h (j - x) (by omega)
    rw [getD_sub l x y _ (by omega), getD_sub l x y _ (by omega), show x + (j - x) = j from by omega, show x + (y - x - 1 - (j - x)) = x + y - 1 - j from by omega] at this
    exact this
  · intro h j hj
    have := h (x + j) (by omega) (by omega)
    rw [getD_sub l x y _ (by omega), getD_sub l x y _ (by omega), show x + (y - x - 1 - j) = x + y - 1 - (x + j) from by omega]
    exact this

theorem PalAt.shrink {l : List UInt8} {x y : Nat} (h : PalAt l x y) (i : Nat) (hi : i ≤ y) : PalAt l (x + i) (y - i) := by
  intro j h1 h2
  have := h j (by omega) (by omega)
  rw [show x + i + (y - i) - 1 - j = x + y - 1 - j from by omega]
  exact this

theorem grow_spec (l : List UInt8) : ∀ (b e : Nat), b ≤ e → e ≤ l.length → PalAt l b e → ∃ i, i ≤ b ∧ e + i ≤ l.length ∧ growAt l b e = (e + i) - (b - i) ∧ PalAt l (b - i) (e + i)
  | 0, e, _, he, h => ⟨0, Nat.le_refl _, he, by simp [growAt], h⟩
  | b + 1, e, hbe, he, h => by
    unfold growAt
    split
    · rename_i hc
      obtain ⟨i, h1, h2, h3, h4⟩ := grow_spec l b (e + 1) (by omega) (by omega) (by
        intro j j1 j2
        rcases Nat.lt_or_ge j (b + 1) with k | k
        · rw [show j = b from by omega, show b + (e + 1) - 1 - b = e from by omega]; exact hc.2
        · rcases Nat.lt_or_ge j e with k2 | k2
          · rw [show b + (e + 1) - 1 - j = b + 1 + e - 1 - j from by omega]; exact h j k k2
          · rw [show j = e from by omega, show b + (e + 1) - 1 - e = b from by omega]; exact hc.2.symm)
      exact ⟨i + 1, by omega, by omega, by rw [h3]; omega, by rw [show b + 1 - (i + 1) = b - i from by omega, show e + (i + 1) = e + 1 + i from by omega]; exact h4⟩
    · exact ⟨0, Nat.zero_le _, he, by simp, h⟩

theorem grow_ge (l : List UInt8) : ∀ (b e : Nat), e - b ≤ growAt l b e
  | 0, e => by simp [growAt]
  | b + 1, e => by
    unfold growAt
    split
    · have := grow_ge l b (e + 1); omega
    · exact Nat.le_refl _

theorem grow_max (l : List UInt8) : ∀ (b e i : Nat), b ≤ e → e + i ≤ l.length → i ≤ b → PalAt l (b - i) (e + i) → (e + i) - (b - i) ≤ growAt l b e
  | b, e, 0, _, _, _, _ => by have := grow_ge l b e; omega
  | 0, _, i + 1, _, _, h, _ => absurd h (by omega)
  | b + 1, e, i + 1, hbe, he, hi, h => by
    have hc := h b (by omega) (by omega)
    rw [show b + 1 - (i + 1) + (e + (i + 1)) - 1 - b = e from by omega] at hc
    rw [growAt_yes (by omega) hc]
    have := grow_max l b (e + 1) i (by omega) (by omega) (by omega) (by
      rw [show b - i = b + 1 - (i + 1) from by omega, show e + 1 + i = e + (i + 1) from by omega]; exact h)
    omega

/-- A palindrome lies at a center just if it is no longer than the longest one there. -/
theorem center_iff (l : List UInt8) (x y c : Nat) (hxy : x < y) (hy : y ≤ l.length) (hc : x + y = c + 1) : PalAt l x y ↔ y - x ≤ centerAt l c := by
  unfold centerAt
  constructor
  · intro h
    have := grow_max l ((c + 1) / 2) (c / 2 + 1) ((c + 1) / 2 - x) (by omega) (by omega) (by omega) (by
      rw [show (c + 1) / 2 - ((c + 1) / 2 - x) = x from by omega, show c / 2 + 1 + ((c + 1) / 2 - x) = y from by omega]; exact h)
    omega
  · intro h
    obtain ⟨i, h1, h2, h3, h4⟩ := grow_spec l ((c + 1) / 2) (c / 2 + 1) (by omega) (by omega) (by
      intro j j1 j2
      rw [show (c + 1) / 2 + (c / 2 + 1) - 1 - j = j from by omega])
    rw [h3] at h
    have := h4.shrink (x - ((c + 1) / 2 - i)) (by omega)
    rw [show (c + 1) / 2 - i + (x - ((c + 1) / 2 - i)) = x from by omega, show c / 2 + 1 + i - (x - ((c + 1) / 2 - i)) = y from by omega] at this
    exact this

/-- the longest one at a center, where it lies -/
theorem center_at (l : List UInt8) (c : Nat) (hc : c + 1 < 2 * l.length) : ∃ x, 2 * x + centerAt l c = c + 1 ∧ x + centerAt l c ≤ l.length ∧ PalAt l x (x + centerAt l c) := by
  obtain ⟨i, h1, h2, h3, h4⟩ := grow_spec l ((c + 1) / 2) (c / 2 + 1) (by omega) (by omega) (by
    intro j j1 j2
    rw [show (c + 1) / 2 + (c / 2 + 1) - 1 - j = j from by omega])
  refine ⟨(c + 1) / 2 - i, by unfold centerAt; omega, by unfold centerAt; omega, ?_⟩
  unfold centerAt
  rw [h3, show (c + 1) / 2 - i + (c / 2 + 1 + i - ((c + 1) / 2 - i)) = c / 2 + 1 + i from by omega]
  exact h4

/-! ### the longest of all -/
theorem longTo_ge (l : List UInt8) : ∀ (k c : Nat), c < k → centerAt l c ≤ (longTo l k).2
  | 0, _, h => absurd h (by omega)
  | k + 1, c, h => by
    unfold longTo
    split
    · rcases Nat.lt_or_eq_of_le (Nat.le_of_lt_succ h) with h1 | h1
      · have := longTo_ge l k c h1; simp only; omega
      · subst h1; exact Nat.le_refl _
    · rcases Nat.lt_or_eq_of_le (Nat.le_of_lt_succ h) with h1 | h1
      · exact longTo_ge l k c h1
      · subst h1; omega
theorem longTo_mem (l : List UInt8) : ∀ (k : Nat), longTo l k = (0, 0) ∨ ∃ c, c < k ∧ 0 < (longTo l k).2 ∧ centerAt l c = (longTo l k).2 ∧ (longTo l k).1 = (c + 1 - (longTo l k).2) / 2 ∧ ∀ c', c' < c → centerAt l c' < (longTo l k).2
  | 0 => .inl rfl
  | k + 1 => by
    unfold longTo
    split
    · rename_i h
      refine .inr ⟨k, by omega, by simp only; omega, rfl, rfl, fun c' h' => ?_⟩
      have := longTo_ge l k c' h'; simp only; omega
    · rcases longTo_mem l k with h | ⟨c, h1, h2, h3, h4, h5⟩
      · exact .inl h
      · exact .inr ⟨c, by omega, h2, h3, h4, h5⟩

/-- No palindrome is longer than the longest one. -/
theorem longL_max (l : List UInt8) (x y : Nat) (hxy : x < y) (hy : y ≤ l.length) (h : PalAt l x y) : y - x ≤ (longL l).2 := by
  have h1 := (center_iff l x y (x + y - 1) hxy hy (by omega)).1 h
  have h2 := longTo_ge l (2 * l.length - 1) (x + y - 1) (by omega)
  unfold longL; omega
/-- It lies where the program says. -/
theorem longL_at (l : List UInt8) : (longL l).1 + (longL l).2 ≤ l.length ∧ PalAt l (longL l).1 ((longL l).1 + (longL l).2) ∧ (l ≠ [] → 0 < (longL l).2) := by
  have hpos : l ≠ [] → 0 < (longL l).2 := by
    intro hne
    have hl : 0 < l.length := List.length_pos_iff.2 hne
    have := longL_max l 0 1 (by omega) (by omega) (by intro j h1 h2; rw [show 0 + 1 - 1 - j = j from by omega])
    omega
  rcases longTo_mem l (2 * l.length - 1) with h | ⟨c, h1, h2, h3, h4, _⟩
  · refine ⟨by unfold longL; rw [h]; simp, ?_, hpos⟩
    unfold longL; rw [h]; intro j j1 j2; simp at j2
  · obtain ⟨x, e1, e2, e3⟩ := center_at l c (by omega)
    rw [h3] at e1 e2 e3
    have hx : (longL l).1 = x := by unfold longL; rw [h4]; omega
    refine ⟨by rw [hx]; unfold longL; exact e2, by rw [hx]; unfold longL; exact e3, hpos⟩

theorem longEnd_palAt (l : List UInt8) (k : Nat) (hk : k < l.length) : PalAt l (k + 1 - longEnd (l.take (k + 1))) (k + 1) ∧ 1 ≤ longEnd (l.take (k + 1)) ∧ longEnd (l.take (k + 1)) ≤ k + 1 := by
  have hlt : (l.take (k + 1)).length = k + 1 := by rw [List.length_take]; omega
  have h1 := longEnd_pal (l.take (k + 1))
  have h2 := longEnd_le (l.take (k + 1))
  rw [hlt] at h1 h2
  have h3 := longEnd_pos (l := l.take (k + 1)) (fun e => by rw [e] at hlt; simp at hlt)
  exact ⟨(palAt_iff l _ _ (by omega) (by omega)).1 h1, h3, h2⟩
theorem longEnd_ge (l : List UInt8) (x k : Nat) (hk : k < l.length) (hx : x ≤ k + 1) (h : PalAt l x (k + 1)) : k + 1 - x ≤ longEnd (l.take (k + 1)) := by
  have hlt : (l.take (k + 1)).length = k + 1 := by rw [List.length_take]; omega
  have := longEnd_max (l.take (k + 1)) x ((palAt_iff l x (k + 1) hx (by omega)).2 h)
  rwa [hlt] at this

/-- the greatest of the lengths at the ends -/
def emaxTo (l : List UInt8) : Nat → Nat
  | 0 => 0
  | k + 1 => max (emaxTo l k) (longEnd (l.take (k + 1)))
theorem emaxTo_ge (l : List UInt8) : ∀ (k j : Nat), j < k → longEnd (l.take (j + 1)) ≤ emaxTo l k
  | 0, _, h => absurd h (by omega)
  | k + 1, j, h => by
    unfold emaxTo
    rcases Nat.lt_or_eq_of_le (Nat.le_of_lt_succ h) with h1 | h1
    · have := emaxTo_ge l k j h1; omega
    · subst h1; omega
theorem emaxTo_le (l : List UInt8) : ∀ (k : Nat), k ≤ l.length → emaxTo l k ≤ (longL l).2
  | 0, _ => Nat.zero_le _
  | k + 1, h => by
    have h1 := emaxTo_le l k (by omega)
    obtain ⟨h2, h3, h4⟩ := longEnd_palAt l k (by omega)
    have h5 := longL_max l _ _ (by omega) (by omega) h2
    unfold emaxTo; omega
theorem emax_eq (l : List UInt8) : emaxTo l l.length = (longL l).2 := by
  refine Nat.le_antisymm (emaxTo_le l _ (Nat.le_refl _)) ?_
  obtain ⟨h1, h2, h3⟩ := longL_at l
  rcases Nat.eq_zero_or_pos (longL l).2 with h | h
  · omega
  · obtain ⟨j, hj⟩ : ∃ j, j + 1 = (longL l).1 + (longL l).2 := ⟨(longL l).1 + (longL l).2 - 1, by omega⟩
    rw [← hj] at h2
    have h4 := longEnd_ge l (longL l).1 j (by omega) (by omega) h2
    have h5 := emaxTo_ge l l.length j (by omega)
    omega

/-! ### rich words -/
theorem insertS_len (x : List UInt8) : ∀ l, (insertS x l).length ≤ l.length + 1
  | [] => by simp [insertS]
  | y :: r => by
    unfold insertS
    split
    · have := insertS_len x r; simp; omega
    · split <;> simp
theorem insertS_new (x : List UInt8) : ∀ l, Strict l → x ∉ l → (insertS x l).length = l.length + 1
  | [], _, _ => by simp [insertS]
  | y :: r, hs, h => by
    unfold insertS
    split
    · have := insertS_new x r (List.pairwise_cons.1 hs).2 (fun e => h (List.mem_cons_of_mem _ e)); simp [this]
    · split
      · rename_i e; exact absurd (by rw [e]; exact List.mem_cons_self ..) h
      · simp
theorem insertS_old (x : List UInt8) (l : List (List UInt8)) (hs : Strict l) (h : x ∈ l) : insertS x l = l :=
  strict_unique (strict_insertS x l hs) hs (fun y => by rw [mem_insertS]; exact ⟨fun k => k.elim (fun e => e ▸ h) id, .inr⟩)

/-- how many of the first k are new -/
theorem sortS_len_le (l : List UInt8) : ∀ k, (sortS (palEnds l k)).length ≤ k
  | 0 => by simp [palEnds, sortS]
  | k + 1 => by
    rw [palEnds_succ, sortS_snoc]
    have := sortS_len_le l k
    have := insertS_len (palEnd l k) (sortS (palEnds l k))
    omega
theorem sortS_full (l : List UInt8) : ∀ (f k : Nat), (sortS (palEnds l k)).length = k → ((sortS (palEnds l (k + f))).length = k + f ↔ richGo l f k = -1)
  | 0, k, h => by simp [richGo, h]
  | f + 1, k, h => by
    unfold richGo
    cases hc : (palEnds l k).contains (palEnd l k) with
    | true =>
      rw [if_pos rfl]
      have hk : (sortS (palEnds l (k + 1))).length = k := by
        rw [palEnds_succ, sortS_snoc, insertS_old _ _ (strict_sortS _) ((mem_sortS _ _).2 (List.contains_iff_mem.1 hc)), h]
      have hmono : ∀ g, (sortS (palEnds l (k + 1 + g))).length ≤ k + g := by
        intro g
        induction g with
        | zero => exact Nat.le_of_eq hk
        | succ g ih =>
          rw [show k + 1 + (g + 1) = (k + 1 + g) + 1 from by omega, palEnds_succ, sortS_snoc]
          have := insertS_len (palEnd l (k + 1 + g)) (sortS (palEnds l (k + 1 + g)))
          omega
      have := hmono f
      rw [show k + (f + 1) = k + 1 + f from by omega]
      constructor
      · intro e; omega
      · intro e; omega
    | false =>
      rw [if_neg (by simp), show k + (f + 1) = (k + 1) + f from by omega]
      refine sortS_full l f (k + 1) ?_
      rw [palEnds_succ, sortS_snoc, insertS_new _ _ (strict_sortS _) ?_, h]
      intro e
      rw [mem_sortS] at e
      rw [List.contains_iff_mem.2 e] at hc; cases hc
theorem rich_iff (l : List UInt8) : (palsL l).length = l.length ↔ richL l = -1 := by
  have := sortS_full l l.length 0 (by simp [palEnds, sortS])
  rw [Nat.zero_add] at this
  exact this
theorem richGo_range (l : List UInt8) : ∀ (f k : Nat), -1 ≤ richGo l f k ∧ richGo l f k < k + f ∨ richGo l f k = -1
  | 0, _ => .inr rfl
  | f + 1, k => by
    unfold richGo
    split
    · left; omega
    · rcases richGo_range l f (k + 1) with h | h
      · left; omega
      · exact .inr h
end Go.Proofs.Yteejjcipdpojnaa
