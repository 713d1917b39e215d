/- Plain facts: a word and its reversal. -/
import Derived.Test.YteejjcipdpojnaaFmath
import Derived.Test.YteejjcipdpojnaaRpals
import Derived.Test.YteejjcipdpojnaaBest
namespace Go.Proofs.Yteejjcipdpojnaa
set_option linter.unusedVariables false

theorem seg_rev (l : List UInt8) (x y : Nat) (hx : x ≤ y) (hy : y ≤ l.length) : (l.reverse.take (l.length - x)).drop (l.length - y) = ((l.take y).drop x).reverse := by
  rw [List.take_reverse, show l.length - (l.length - x) = x from by omega, List.drop_reverse, List.length_drop, show l.length - x - (l.length - y) = y - x from by omega, List.drop_take]
theorem pal_reverse (z : List UInt8) : pal z.reverse = pal z := by
  unfold pal
  rw [List.reverse_reverse, Bool.eq_iff_iff, beq_iff_eq, beq_iff_eq]
  exact ⟨fun h => h.symm, fun h => h.symm⟩

theorem pals_half (l z : List UInt8) (h : z ∈ palsL l) : z ∈ palsL l.reverse := by
  obtain ⟨x, y, h1, h2, h3, rfl⟩ := (palsL_mem l z).1 h
  refine (palsL_mem _ _).2 ⟨l.length - y, l.length - x, by omega, by rw [List.length_reverse]; omega, ?_, ?_⟩
  · rw [seg_rev l x y (by omega) h2, pal_reverse]; exact h3
  · rw [seg_rev l x y (by omega) h2, pal_rev h3]
theorem pals_rev (l : List UInt8) : palsL l.reverse = palsL l := by
  refine strict_unique (strict_sortS _) (strict_sortS _) fun z => ⟨fun h => ?_, pals_half l z⟩
  have := pals_half l.reverse z h
  rwa [List.reverse_reverse] at this

theorem center_half (l : List UInt8) (c d : Nat) (h : c + d + 2 = 2 * l.length) : centerAt l c ≤ centerAt l.reverse d := by
  obtain ⟨x, h1, h2, h3⟩ := center_at l c (by omega)
  rcases Nat.eq_zero_or_pos (centerAt l c) with h0 | h0
  · omega
  · have hp := (palAt_iff l x (x + centerAt l c) (by omega) h2).2 h3
    have hs := seg_rev l x (x + centerAt l c) (by omega) h2
    have hp2 : pal ((l.reverse.take (l.length - x)).drop (l.length - (x + centerAt l c))) = true := by rw [hs, pal_reverse]; exact hp
    have h4 := (palAt_iff l.reverse (l.length - (x + centerAt l c)) (l.length - x) (by omega) (by rw [List.length_reverse]; omega)).1 hp2
    have h5 := (center_iff l.reverse (l.length - (x + centerAt l c)) (l.length - x) d (by omega) (by rw [List.length_reverse]; omega) (by omega)).1 h4
    omega
theorem center_rev (l : List UInt8) (c d : Nat) (h : c + d + 2 = 2 * l.length) : centerAt l.reverse d = centerAt l c := by
  refine Nat.le_antisymm ?_ (center_half l c d h)
  have := center_half l.reverse d c (by rw [List.length_reverse]; omega)
  rwa [List.reverse_reverse] at this

theorem few_parts : ∀ (ps : List (List UInt8)) (u : List UInt8), partsB u ps = true → (fewAt u u.length).1 ≤ ps.length
  | [], u, h => by
    have hu : u = [] := by simpa [partsB] using h
    subst hu; exact Nat.le_refl _
  | p :: ps, u, h => by
    simp only [partsB, Bool.and_eq_true] at h
    obtain ⟨⟨⟨h1, h2⟩, h3⟩, h4⟩ := h
    obtain ⟨t, rfl⟩ : ∃ t, u = p ++ t := by
      obtain ⟨t, ht⟩ := List.isPrefixOf_iff_prefix.1 (show p.isPrefixOf u = true from h2)
      exact ⟨t, ht.symm⟩
    have h5 := few_parts ps t (by simpa using h4)
    have h6 := few_sum p t
    have h7 := (few_one p).2 ⟨by intro e; rw [e] at h1; simp at h1, h3⟩
    rw [List.length_cons]
    omega
theorem parts_reverse : ∀ (ps : List (List UInt8)) (u : List UInt8), partsB u ps = true → partsB u.reverse ps.reverse = true
  | [], u, h => by
    have hu : u = [] := by simpa [partsB] using h
    subst hu; rfl
  | p :: ps, u, h => by
    simp only [partsB, Bool.and_eq_true] at h
    obtain ⟨⟨⟨h1, h2⟩, h3⟩, h4⟩ := h
    obtain ⟨t, rfl⟩ : ∃ t, u = p ++ t := by
      obtain ⟨t, ht⟩ := List.isPrefixOf_iff_prefix.1 (show p.isPrefixOf u = true from h2)
      exact ⟨t, ht.symm⟩
    have h5 := parts_reverse ps t (by simpa using h4)
    rw [List.reverse_append, List.reverse_cons]
    have h6 := partsB_append _ _ p h5 h3 (by intro e; rw [e] at h1; simp at h1)
    rwa [pal_rev h3]
theorem few_half (l : List UInt8) : (fewAt l.reverse l.reverse.length).1 ≤ (fewAt l l.length).1 := by
  have := few_parts _ _ (parts_reverse _ _ (partsL_ok l))
  have h2 := partsL_length l
  have h3 : (partsL l).reverse.length = (partsL l).length := List.length_reverse
  omega
theorem few_rev (l : List UInt8) : (fewAt l.reverse l.reverse.length).1 = (fewAt l l.length).1 := by
  refine Nat.le_antisymm (few_half l) ?_
  have := few_half l.reverse
  rwa [List.reverse_reverse] at this

theorem inner_rev (l : List UInt8) : innerL l.reverse = innerL l := by
  have best : ∀ (a P : List UInt8), pal P = true → List.Sublist P a → Good (innerL a) P := fun a P hp hs =>
    inner_best a a.length 0 P (by omega) hp (by rw [seg_all]; exact hs)
  have p1 : pal (innerL l) = true := innerAt_pal l l.length 0
  have p2 : pal (innerL l.reverse) = true := innerAt_pal l.reverse _ 0
  have s1 : List.Sublist (innerL l) l := by have := innerAt_sub l l.length 0 (by omega); rw [seg_all] at this; exact this
  have s2 : List.Sublist (innerL l.reverse) l.reverse := by have := innerAt_sub l.reverse l.reverse.length 0 (by omega); rw [seg_all] at this; exact this
  have s3 : List.Sublist (innerL l) l.reverse := by have := s1.reverse; rwa [pal_rev p1] at this
  have s4 : List.Sublist (innerL l.reverse) l := by have := s2.reverse; rwa [pal_rev p2, List.reverse_reverse] at this
  exact (best l.reverse _ p1 s3).eq (best l _ p2 s4)

/-! ### ways -/
theorem filter_sum (p : Nat → Bool) (f : Nat → Nat) : ∀ k, (((List.range k).filter p).map f).sum = sumN (fun x => if p x = true then f x else 0) k
  | 0 => rfl
  | k + 1 => by
    rw [List.range_succ, List.filter_append, List.map_append, List.sum_append, filter_sum p f k, sumN]
    cases h : p k <;> simp [h]
/-- the ways of a list -/
def wayW (u : List UInt8) : Nat := wayAt u u.length
theorem way_last (u : List UInt8) (h : 0 < u.length) : wayW u = sumN (fun x => if pal (u.drop x) = true then wayW (u.take x) else 0) u.length := by
  obtain ⟨k, hk⟩ : ∃ k, u.length = k + 1 := ⟨u.length - 1, by omega⟩
  unfold wayW
  rw [hk, way_eq]
  unfold begV
  rw [filter_sum]
  refine sumN_congr _ fun x hx => ?_
  rw [show u.take (k + 1) = u from List.take_of_length_le (by omega), List.length_take, Nat.min_eq_left (by omega), way_same x u (u.take x) (by rw [List.take_take, Nat.min_self])]
theorem sumN_tri (f : Nat → Nat → Nat) (m : Nat) : sumN (fun x => sumN (fun j => if j < x then f j x else 0) m) m = sumN (fun j => sumN (fun x => if j < x then f j x else 0) m) m := sumN_comm _ m m
theorem sumN_cut (f : Nat → Nat) (k : Nat) : ∀ n, k ≤ n → sumN (fun i => if i < k then f i else 0) n = sumN f k
  | 0, h => by rw [show k = 0 from by omega]; rfl
  | n + 1, h => by
    by_cases e : k = n + 1
    · subst e; exact sumN_congr _ fun i hi => by rw [if_pos hi]
    · rw [sumN, sumN_cut f k n (by omega), if_neg (by omega)]; rfl
theorem sumN_shift (f : Nat → Nat) : ∀ n, sumN f (n + 1) = f 0 + sumN (fun i => f (i + 1)) n
  | 0 => by simp [sumN]
  | n + 1 => by rw [sumN, sumN_shift f n, sumN]; omega
theorem sumN_from (f : Nat → Nat) (k : Nat) : ∀ n, sumN (fun i => if k ≤ i then f i else 0) (k + n) = sumN (fun i => f (k + i)) n
  | 0 => by
    rw [Nat.add_zero, show sumN (fun i => if k ≤ i then f i else 0) k = sumN (fun _ => 0) k from sumN_congr _ fun i hi => by rw [if_neg (by omega)], sumN_zero]; rfl
  | n + 1 => by rw [← Nat.add_assoc, sumN, sumN_from f k n, if_pos (by omega), sumN]
theorem sumN_flip (f : Nat → Nat) : ∀ n, sumN f n = sumN (fun i => f (n - 1 - i)) n
  | 0 => rfl
  | n + 1 => by
    rw [sumN_shift (fun i => f (n + 1 - 1 - i)) n, sumN, sumN_flip f n, Nat.add_comm]
    congr 1
    exact sumN_congr _ fun i hi => by congr 1; omega

/-- by the first part: j + 1 letters of it -/
theorem way_first : ∀ (m : Nat) (u : List UInt8), u.length = m → 0 < m → wayW u = sumN (fun j => if pal (u.take (j + 1)) = true then wayW (u.drop (j + 1)) else 0) m := by
  intro m
  induction m using Nat.strongRecOn with
  | _ m ih =>
    intro u hu hm
    obtain ⟨k, rfl⟩ : ∃ k, m = k + 1 := ⟨m - 1, by omega⟩
    rw [way_last u (by omega), hu, sumN_shift]
    -- the last beginning, and the last end
    have hR : sumN (fun j => if pal (u.take (j + 1)) = true then wayW (u.drop (j + 1)) else 0) (k + 1) = sumN (fun j => if pal (u.take (j + 1)) = true then wayW (u.drop (j + 1)) else 0) k + (if pal u = true then 1 else 0) := by
      rw [sumN, show u.take (k + 1) = u from List.take_of_length_le (by omega), show u.drop (k + 1) = [] from List.drop_of_length_le (by omega)]; rfl
    rw [hR, List.drop_zero, List.take_zero, Nat.add_comm]
    congr 1
    -- both sums are over the pairs j < x + 1
    have h1 : sumN (fun x => if pal (u.drop (x + 1)) = true then wayW (u.take (x + 1)) else 0) k = sumN (fun x => sumN (fun j => if j < x + 1 then (if pal (u.drop (x + 1)) = true then (if pal (u.take (j + 1)) = true then wayW ((u.take (x + 1)).drop (j + 1)) else 0) else 0) else 0) k) k := by
      refine sumN_congr _ fun x hx => ?_
      rw [sumN_cut (fun j => if pal (u.drop (x + 1)) = true then (if pal (u.take (j + 1)) = true then wayW ((u.take (x + 1)).drop (j + 1)) else 0) else 0) (x + 1) k (by omega)]
      by_cases hp : pal (u.drop (x + 1)) = true
      · rw [if_pos hp, ih (x + 1) (by omega) (u.take (x + 1)) (by rw [List.length_take]; omega) (by omega)]
        refine sumN_congr _ fun j hj => ?_
        rw [if_pos hp, List.take_take, Nat.min_eq_left (by omega)]
      · rw [if_neg hp, show sumN (fun j => if pal (u.drop (x + 1)) = true then (if pal (u.take (j + 1)) = true then wayW ((u.take (x + 1)).drop (j + 1)) else 0) else 0) (x + 1) = sumN (fun _ => 0) (x + 1) from sumN_congr _ fun j _ => by rw [if_neg hp], sumN_zero]
    have h2 : sumN (fun j => if pal (u.take (j + 1)) = true then wayW (u.drop (j + 1)) else 0) k = sumN (fun j => sumN (fun x => if j < x + 1 then (if pal (u.drop (x + 1)) = true then (if pal (u.take (j + 1)) = true then wayW ((u.take (x + 1)).drop (j + 1)) else 0) else 0) else 0) k) k := by
      refine sumN_congr _ fun j hj => ?_
      obtain ⟨q, hq⟩ : ∃ q, k = j + q := ⟨k - j, by omega⟩
      have h3 : sumN (fun x => if j < x + 1 then (if pal (u.drop (x + 1)) = true then (if pal (u.take (j + 1)) = true then wayW ((u.take (x + 1)).drop (j + 1)) else 0) else 0) else 0) k = sumN (fun i => if pal (u.drop (j + i + 1)) = true then (if pal (u.take (j + 1)) = true then wayW ((u.take (j + i + 1)).drop (j + 1)) else 0) else 0) q := by
        rw [hq, ← sumN_from (fun x => if pal (u.drop (x + 1)) = true then (if pal (u.take (j + 1)) = true then wayW ((u.take (x + 1)).drop (j + 1)) else 0) else 0) j q]
        refine sumN_congr _ fun x _ => ?_
        by_cases e : j ≤ x
        · rw [if_pos e, if_pos (by omega)]
        · rw [if_neg e, if_neg (by omega)]
      rw [h3]
      by_cases hp : pal (u.take (j + 1)) = true
      · rw [if_pos hp, way_last (u.drop (j + 1)) (by rw [List.length_drop]; omega), List.length_drop, hu, show k + 1 - (j + 1) = q from by omega]
        refine sumN_congr _ fun i hi => ?_
        rw [List.drop_drop, show j + 1 + i = j + i + 1 from by omega, if_pos hp, List.drop_take, show j + i + 1 - (j + 1) = i from by omega]
      · rw [if_neg hp, show sumN (fun i => if pal (u.drop (j + i + 1)) = true then (if pal (u.take (j + 1)) = true then wayW ((u.take (j + i + 1)).drop (j + 1)) else 0) else 0) q = sumN (fun _ => 0) q from sumN_congr _ fun i _ => by rw [if_neg hp]; split <;> rfl, sumN_zero]
    rw [h1, h2]
    exact sumN_comm _ k k
theorem way_rev : ∀ (m : Nat) (u : List UInt8), u.length = m → wayW u.reverse = wayW u := by
  intro m
  induction m using Nat.strongRecOn with
  | _ m ih =>
    intro u hu
    rcases Nat.eq_zero_or_pos m with h0 | h0
    · rw [List.eq_nil_of_length_eq_zero (by omega : u.length = 0)]; rfl
    · rw [way_last u.reverse (by rw [List.length_reverse]; omega), List.length_reverse, hu, way_first m u hu h0, sumN_flip]
      refine sumN_congr _ fun j hj => ?_
      rw [List.drop_reverse, List.take_reverse, hu, show m - (m - 1 - j) = j + 1 from by omega, pal_reverse]
      by_cases hp : pal (u.take (j + 1)) = true
      · rw [if_pos hp, if_pos hp, ih (m - (j + 1)) (by omega) _ (by rw [List.length_drop]; omega)]
      · rw [if_neg hp, if_neg hp]
theorem ways_rev (l : List UInt8) : wayAt l.reverse l.reverse.length = wayAt l l.length := way_rev l.length l rfl
theorem word_rev (l : List UInt8) : wordB l.reverse = wordB l := by
  unfold wordB
  rw [List.length_reverse, List.all_reverse]
end Go.Proofs.Yteejjcipdpojnaa
