/- Plain facts: palindromes at the ends of beginnings, and where they occur. -/
import Derived.Test.YteejjcipdpojnaaPals
namespace Go.Proofs.Yteejjcipdpojnaa
set_option linter.unusedVariables false

theorem longEnd_pal : ∀ l : List UInt8, pal (l.drop (l.length - longEnd l)) = true
  | [] => rfl
  | c :: l => by
    unfold longEnd
    split
    · rename_i h; simpa using h
    · have h1 := longEnd_le l
      have h2 := longEnd_pal l
      rw [List.length_cons, show l.length + 1 - longEnd l = (l.length - longEnd l) + 1 from by omega, List.drop_succ_cons]
      exact h2

theorem longEnd_max : ∀ (l : List UInt8) (i : Nat), pal (l.drop i) = true → l.length - i ≤ longEnd l
  | [], _, _ => by simp
  | c :: l, 0, h => by
    unfold longEnd
    rw [List.drop_zero] at h
    rw [if_pos h]; simp
  | c :: l, i + 1, h => by
    unfold longEnd
    split
    · rw [List.length_cons]; omega
    · rw [List.drop_succ_cons] at h
      have := longEnd_max l i h
      rw [List.length_cons]; omega

theorem pal_one (c : UInt8) : pal [c] = true := by simp [pal]
theorem pal_rev {l : List UInt8} (h : pal l = true) : l.reverse = l := by unfold pal at h; exact (beq_iff_eq.1 h).symm

theorem longEnd_pos {l : List UInt8} (h : l ≠ []) : 1 ≤ longEnd l := by
  have hl : 0 < l.length := List.length_pos_iff.2 h
  have := longEnd_max l (l.length - 1) (by
    rw [List.drop_eq_getElem_cons (by omega), show l.length - 1 + 1 = l.length from by omega, List.drop_length]
    exact pal_one _)
  omega

theorem palEnd_len (l : List UInt8) (k : Nat) (hk : k < l.length) : (palEnd l k).length = longEnd (l.take (k + 1)) := by
  have h := longEnd_le (l.take (k + 1))
  rw [List.length_take] at h
  unfold palEnd
  rw [List.length_drop, List.length_take]
  omega
theorem palEnd_pal (l : List UInt8) (k : Nat) (hk : k < l.length) : pal (palEnd l k) = true := by
  have h := longEnd_pal (l.take (k + 1))
  rw [List.length_take, show min (k + 1) l.length = k + 1 from by omega] at h
  exact h
theorem palEnd_ne (l : List UInt8) (k : Nat) (hk : k < l.length) : palEnd l k ≠ [] := by
  intro e
  have h1 := palEnd_len l k hk
  have h3 : (l.take (k + 1)).length = k + 1 := by rw [List.length_take]; omega
  have h2 := longEnd_pos (l := l.take (k + 1)) (fun e' => by rw [e'] at h3; simp at h3)
  rw [e] at h1
  simp at h1
  omega
/-- it lies where it ends -/
theorem palEnd_at (l : List UInt8) (k : Nat) (hk : k < l.length) : k + 1 - (palEnd l k).length + (palEnd l k).length = k + 1 ∧ (l.drop (k + 1 - (palEnd l k).length)).take (palEnd l k).length = palEnd l k := by
  have h0 := palEnd_len l k hk
  have h := longEnd_le (l.take (k + 1))
  rw [List.length_take] at h
  have hle : (palEnd l k).length ≤ k + 1 := by omega
  refine ⟨by omega, ?_⟩
  have e : palEnd l k = (l.take (k + 1)).drop (k + 1 - (palEnd l k).length) := by rw [h0]; rfl
  conv => rhs; rw [e]
  rw [List.drop_take]
  congr 1; omega

/-- Wherever a palindrome occurs, it is the longest one at the end of some beginning, at that place or before it. -/
theorem pal_occ (l p : List UInt8) (hp : pal p = true) (hne : p ≠ []) : ∀ (i : Nat), i + p.length ≤ l.length → (l.drop i).take p.length = p → ∃ j, j + 1 ≤ i + p.length ∧ j < l.length ∧ palEnd l j = p := by
  intro i
  induction i using Nat.strongRecOn with
  | _ i ih =>
    intro hi h
    have hpos : 0 < p.length := List.length_pos_iff.2 hne
    obtain ⟨j, hj⟩ : ∃ j, j + 1 = i + p.length := ⟨i + p.length - 1, by omega⟩
    have hjl : j < l.length := by omega
    have e1 : (l.take (j + 1)).drop i = p := by
      rw [List.drop_take, show j + 1 - i = p.length from by omega]; exact h
    have hlt : (l.take (j + 1)).length = j + 1 := by rw [List.length_take]; omega
    have hmax := longEnd_max (l.take (j + 1)) i (by rw [e1]; exact hp)
    rw [hlt] at hmax
    have hle := longEnd_le (l.take (j + 1))
    rw [hlt] at hle
    by_cases hM : longEnd (l.take (j + 1)) = p.length
    · refine ⟨j, by omega, hjl, ?_⟩
      unfold palEnd
      rw [hM, show j + 1 - p.length = i from by omega, e1]
    · -- the longer palindrome at this end begins with p, too: an occurrence further to the left
      obtain ⟨i', hi'⟩ : ∃ i', i' + longEnd (l.take (j + 1)) = j + 1 := ⟨j + 1 - longEnd (l.take (j + 1)), by omega⟩
      have hlt' : i' < i := by omega
      have hq := longEnd_pal (l.take (j + 1))
      rw [hlt, show j + 1 - longEnd (l.take (j + 1)) = i' from by omega] at hq
      have hqp : ((l.take (j + 1)).drop i').drop (i - i') = p := by rw [List.drop_drop, show i' + (i - i') = i from by omega, e1]
      have hql : ((l.take (j + 1)).drop i').length = longEnd (l.take (j + 1)) := by rw [List.length_drop, hlt]; omega
      have hpre : ((l.take (j + 1)).drop i').take p.length = p := by
        have h1 := pal_rev hq
        have h2 : (((l.take (j + 1)).drop i').reverse).take p.length = p.reverse := by
          rw [List.take_reverse, hql, show longEnd (l.take (j + 1)) - p.length = i - i' from by omega, hqp]
        rw [h1, pal_rev hp] at h2
        exact h2
      have hocc : (l.drop i').take p.length = p := by
        rw [List.drop_take, List.take_take, show min p.length (j + 1 - i') = p.length from by omega] at hpre
        exact hpre
      obtain ⟨j', h1, h2, h3⟩ := ih i' hlt' (by omega) hocc
      exact ⟨j', by omega, h2, h3⟩

/-- whether a list occurs in another one -/
def occB (l x : List UInt8) : Bool := (List.range (l.length + 1 - x.length)).any fun i => (l.drop i).take x.length == x
theorem occB_iff (l x : List UInt8) : occB l x = true ↔ ∃ i, i + x.length ≤ l.length ∧ (l.drop i).take x.length = x := by
  unfold occB
  rw [List.any_eq_true]
  constructor
  · rintro ⟨i, hi, h⟩
    rw [List.mem_range] at hi
    exact ⟨i, by omega, beq_iff_eq.1 h⟩
  · rintro ⟨i, hi, h⟩
    exact ⟨i, List.mem_range.2 (by omega), beq_iff_eq.2 h⟩

theorem occ_palEnds (l : List UInt8) (k : Nat) (hk : k < l.length) : occB (l.take k) (palEnd l k) = (palEnds l k).contains (palEnd l k) := by
  rw [Bool.eq_iff_iff, occB_iff, List.contains_iff_mem]
  have hlt : (l.take k).length = k := by rw [List.length_take]; omega
  constructor
  · rintro ⟨i, hi, h⟩
    rw [hlt] at hi
    rw [List.drop_take, List.take_take, show min (palEnd l k).length (k - i) = (palEnd l k).length from by omega] at h
    obtain ⟨j, h1, h2, h3⟩ := pal_occ l (palEnd l k) (palEnd_pal l k hk) (palEnd_ne l k hk) i (by omega) h
    exact List.mem_map.2 ⟨j, List.mem_range.2 (by omega), h3⟩
  · intro h
    obtain ⟨j, hj, e⟩ := List.mem_map.1 h
    rw [List.mem_range] at hj
    obtain ⟨h1, h2⟩ := palEnd_at l j (by omega)
    rw [e] at h1 h2
    refine ⟨j + 1 - (palEnd l k).length, by rw [hlt]; omega, ?_⟩
    rw [List.drop_take, List.take_take, show min (palEnd l k).length (k - (j + 1 - (palEnd l k).length)) = (palEnd l k).length from by omega]
    exact h2

/-- the reference's Rich -/
def richRef (l : List UInt8) : Nat → Nat → Int
  | 0, _ => -1
  | f + 1, k => if occB (l.take k) (palEnd l k) then (k : Int) else richRef l f (k + 1)
theorem richRef_eq (l : List UInt8) : ∀ (f k : Nat), k + f ≤ l.length → richRef l f k = richGo l f k
  | 0, _, _ => rfl
  | f + 1, k, h => by
    unfold richRef richGo
    rw [occ_palEnds l k (by omega), richRef_eq l f (k + 1) (by omega)]
end Go.Proofs.Yteejjcipdpojnaa
