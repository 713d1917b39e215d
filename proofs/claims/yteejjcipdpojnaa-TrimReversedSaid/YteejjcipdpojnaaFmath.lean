/- Plain facts on the fewest parts and the ways of two words one after the other. -/
import Derived.Test.YteejjcipdpojnaaParts
namespace Go.Proofs.Yteejjcipdpojnaa
set_option linter.unusedVariables false

/-- the beginnings, as numbers -/
def begV (l : List UInt8) (e k : Nat) : List Nat := (List.range k).filter fun x => pal ((l.take e).drop x)
theorem begTo_val (l : List UInt8) (e : Nat) : ∀ k, k ≤ e → (begTo l e k).map (·.1) = begV l e k
  | 0, _ => rfl
  | k + 1, h => by
    unfold begV
    rw [List.range_succ, List.filter_append]
    cases hp : pal ((l.take e).drop k) with
    | true =>
      rw [begTo_yes (by omega) hp, List.map_append, begTo_val l e k (by omega)]
      simp [begV, hp]
    | false =>
      rw [begTo_no hp, begTo_val l e k (by omega)]
      simp [begV, hp]
theorem begs_val (l : List UInt8) (e : Nat) : (begs l e).map (·.1) = begV l e e := begTo_val l e e (Nat.le_refl _)
theorem few_eq (l : List UInt8) (k : Nat) : fewAt l (k + 1) = (begV l (k + 1) (k + 1)).foldl (fewStep fun x => (fewAt l x).1) ((fewAt l k).1 + 1, k) := by
  rw [fewAt_succ]; unfold fewAcc; rw [begs_val]
theorem way_eq (l : List UInt8) (k : Nat) : wayAt l (k + 1) = ((begV l (k + 1) (k + 1)).map (wayAt l)).sum := by
  rw [wayAt_succ]; unfold sumWays; rw [← begs_val, List.map_map]; rfl

theorem take_same {a b : List UInt8} {k e : Nat} (h : a.take k = b.take k) (he : e ≤ k) : a.take e = b.take e := by
  have := congrArg (List.take e) h
  rwa [List.take_take, List.take_take, Nat.min_eq_left he] at this
theorem begV_same {a b : List UInt8} {k : Nat} (h : a.take k = b.take k) : begV a k k = begV b k k := by unfold begV; rw [h]
/-- the numbers speak of what lies before alone -/
theorem few_same : ∀ (k : Nat) (a b : List UInt8), a.take k = b.take k → fewAt a k = fewAt b k := by
  intro k
  induction k using Nat.strongRecOn with
  | _ k ih =>
    intro a b h
    cases k with
    | zero => rfl
    | succ k =>
      rw [few_eq, few_eq, begV_same h, ih k (by omega) a b (take_same h (by omega))]
      refine foldl_same _ _ fun c x hx => ?_
      have hxk : x < k + 1 := List.mem_range.1 (List.mem_filter.1 hx).1
      unfold fewStep
      simp only [ih x hxk a b (take_same h (by omega))]
theorem way_same : ∀ (k : Nat) (a b : List UInt8), a.take k = b.take k → wayAt a k = wayAt b k := by
  intro k
  induction k using Nat.strongRecOn with
  | _ k ih =>
    intro a b h
    cases k with
    | zero => rfl
    | succ k =>
      rw [way_eq, way_eq, begV_same h]
      congr 1
      refine List.map_congr_left fun x hx => ?_
      have hxk : x < k + 1 := List.mem_range.1 (List.mem_filter.1 hx).1
      exact ih x hxk a b (take_same h (by omega))
theorem few_le (l : List UInt8) (x e : Nat) (h : x < e) (hp : pal ((l.take e).drop x) = true) : (fewAt l e).1 ≤ (fewAt l x).1 + 1 := by
  obtain ⟨k, rfl⟩ : ∃ k, e = k + 1 := ⟨e - 1, by omega⟩
  rw [few_eq, fewFold_mins]
  exact mins_le _ _ _ x (List.mem_filter.2 ⟨List.mem_range.2 h, hp⟩)
theorem few_pos (l : List UInt8) (e : Nat) (h0 : 0 < e) (he : e ≤ l.length) : 1 ≤ (fewAt l e).1 := by have := (fewAt_last l e h0 he).2; omega
theorem few_one (l : List UInt8) : (fewAt l l.length).1 = 1 ↔ l ≠ [] ∧ pal l = true := by
  cases l with
  | nil => simp [fewAt, fewTo]
  | cons c t =>
    have h0 : 0 < (c :: t).length := by simp
    constructor
    · intro h
      refine ⟨by simp, ?_⟩
      obtain ⟨h1, h2⟩ := fewAt_last (c :: t) _ h0 (Nat.le_refl _)
      have hlt := fewAt_lt (c :: t) h0
      have hz : (fewAt (c :: t) (c :: t).length).2 = 0 := by
        rcases Nat.eq_zero_or_pos (fewAt (c :: t) (c :: t).length).2 with h3 | h3
        · exact h3
        · have := few_pos (c :: t) _ h3 (by omega); omega
      rw [hz, List.drop_zero, List.take_length] at h1
      exact h1
    · rintro ⟨_, hp⟩
      have h1 := few_le (c :: t) 0 _ h0 (by rw [List.take_length, List.drop_zero]; exact hp)
      have h2 := few_pos (c :: t) _ h0 (Nat.le_refl _)
      have h3 : (fewAt (c :: t) 0).1 = 0 := rfl
      omega
theorem app_part (a b : List UInt8) (j x : Nat) : (((a ++ b).take (a.length + j)).drop (a.length + x)) = (b.take j).drop x := by
  rw [List.take_length_add_append, List.drop_length_add_append]
theorem few_app (a b : List UInt8) : ∀ j, j ≤ b.length → (fewAt (a ++ b) (a.length + j)).1 ≤ (fewAt a a.length).1 + (fewAt b j).1 := by
  intro j
  induction j using Nat.strongRecOn with
  | _ j ih =>
    intro hj
    cases j with
    | zero =>
      have := few_same a.length (a ++ b) a (by simp)
      rw [Nat.add_zero, this]; exact Nat.le_add_right _ _
    | succ j =>
      obtain ⟨h1, h2⟩ := fewAt_last b (j + 1) (by omega) hj
      have hlt := fewAt_lt b (e := j + 1) (by omega)
      have h3 := few_le (a ++ b) (a.length + (fewAt b (j + 1)).2) (a.length + (j + 1)) (by omega) (by rw [app_part]; exact h1)
      have h4 := ih _ hlt (by omega)
      omega
theorem few_sum (a b : List UInt8) : (fewAt (a ++ b) (a ++ b).length).1 ≤ (fewAt a a.length).1 + (fewAt b b.length).1 := by
  have := few_app a b b.length (Nat.le_refl _)
  rwa [List.length_append]
theorem begV_app (a b : List UInt8) (j : Nat) : begV (a ++ b) (a.length + j) (a.length + j) = begV (a ++ b) (a.length + j) a.length ++ (begV b j j).map (a.length + ·) := by
  unfold begV
  rw [List.range_add, List.filter_append, List.filter_map]
  congr 2
  refine List.filter_congr fun x _ => ?_
  simp only [Function.comp_apply]
  rw [app_part]
theorem sum_scale (m : Nat) (f g : Nat → Nat) : ∀ (xs : List Nat), (∀ x, x ∈ xs → m * f x ≤ g x) → m * (xs.map f).sum ≤ (xs.map g).sum
  | [], _ => by simp
  | x :: xs, h => by
    have h1 := h x (by simp)
    have h2 := sum_scale m f g xs fun y hy => h y (by simp [hy])
    simp only [List.map_cons, List.sum_cons, Nat.mul_add]
    omega
theorem way_app (a b : List UInt8) : ∀ j, j ≤ b.length → wayAt a a.length * wayAt b j ≤ wayAt (a ++ b) (a.length + j) := by
  intro j
  induction j using Nat.strongRecOn with
  | _ j ih =>
    intro hj
    cases j with
    | zero =>
      have := way_same a.length (a ++ b) a (by simp)
      rw [Nat.add_zero, this]
      have h1 : wayAt b 0 = 1 := rfl
      rw [h1]; omega
    | succ j =>
      rw [way_eq b j, ← Nat.add_assoc, way_eq (a ++ b), show a.length + j + 1 = a.length + (j + 1) from by omega, begV_app, List.map_append, List.sum_append, List.map_map]
      have := sum_scale (wayAt a a.length) (wayAt b) (wayAt (a ++ b) ∘ (a.length + ·)) (begV b (j + 1) (j + 1)) fun x hx => by
        have hxk : x < j + 1 := List.mem_range.1 (List.mem_filter.1 hx).1
        exact ih x hxk (by omega)
      omega
theorem way_prod (a b : List UInt8) : wayAt a a.length * wayAt b b.length ≤ wayAt (a ++ b) (a ++ b).length := by
  have := way_app a b b.length (Nat.le_refl _)
  rwa [List.length_append]
theorem way_pos (l : List UInt8) : 1 ≤ wayAt l l.length := by
  have := wayAt_mono' l 0 l.length (by omega)
  rw [Nat.zero_add] at this
  exact this
end Go.Proofs.Yteejjcipdpojnaa
