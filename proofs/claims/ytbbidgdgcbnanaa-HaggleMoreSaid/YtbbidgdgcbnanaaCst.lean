/- What leaves cost: mathematics. How many leaves there are, costs with and without an end, what costs nothing. -/
import Derived.Test.YtbbidgdgcbnanaaTrm
namespace Go.Proofs.Ytbbidgdgcbnanaa
set_option linter.unusedVariables false

def addI (a b : Int) : Int := a + b
def minI (a b : Int) : Int := min a b
def maxI (a b : Int) : Int := max a b
/-- sums that are cut at a million -/
def cutI (a b : Int) : Int := min 1000000 (b + a)
def sumN (f : Nat → Int) : Nat → Int
  | 0 => 0
  | k + 1 => sumN f k + f k
theorem sumN_add (f g : Nat → Int) : ∀ k, sumN (fun i => f i + g i) k = sumN f k + sumN g k
  | 0 => rfl
  | k + 1 => by have := sumN_add f g k; show sumN (fun i => f i + g i) k + (f k + g k) = sumN f k + f k + (sumN g k + g k); omega
theorem sumN_congr {f g : Nat → Int} : ∀ k, (∀ i, i < k → f i = g i) → sumN f k = sumN g k
  | 0, _ => rfl
  | k + 1, h => by show sumN f k + f k = sumN g k + g k; rw [sumN_congr k fun i hi => h i (by omega), h k (by omega)]
theorem sumN_zero : ∀ k, sumN (fun _ => 0) k = 0
  | 0 => rfl
  | k + 1 => by show sumN (fun _ => 0) k + 0 = 0; rw [sumN_zero k]; rfl
theorem sumN_one (f : Nat → Int) (x : Nat) : ∀ k, sumN (fun j => if j = x then f j else 0) k = if x < k then f x else 0
  | 0 => by rw [if_neg (by omega)]; rfl
  | k + 1 => by
    show sumN (fun j => if j = x then f j else 0) k + (if k = x then f k else 0) = _
    rw [sumN_one f x k]
    by_cases e : k = x
    · subst e; rw [if_neg (by omega), if_pos rfl, if_pos (by omega)]; omega
    · rw [if_neg e]
      by_cases h : x < k
      · rw [if_pos h, if_pos (by omega)]; omega
      · rw [if_neg h, if_neg (by omega)]; rfl
theorem sumN_mem (f : Nat → Int) (n : Nat) : ∀ l : List Nat, l.Nodup → (∀ j ∈ l, j < n) → sumN (fun j => if j ∈ l then f j else 0) n = (l.map f).sum
  | [], _, _ => by
    rw [sumN_congr n fun j _ => by rw [if_neg (by simp)], sumN_zero]; rfl
  | x :: l, hn, hl => by
    rw [List.nodup_cons] at hn
    have ih := sumN_mem f n l hn.2 fun j hj => hl j (List.mem_cons_of_mem _ hj)
    have h1 := sumN_one f x n
    rw [if_pos (hl x List.mem_cons_self)] at h1
    rw [List.map_cons, List.sum_cons, ← ih, ← h1, ← sumN_add]
    refine sumN_congr n fun j _ => ?_
    by_cases e : j = x
    · subst e
      rw [if_pos List.mem_cons_self, if_pos rfl, if_neg hn.1]; omega
    · by_cases h : j ∈ l
      · rw [if_pos (List.mem_cons_of_mem _ h), if_neg e, if_pos h]; omega
      · rw [if_neg (fun h2 => (List.mem_cons.1 h2).elim e h), if_neg e, if_neg h]; rfl
theorem foldl_add (l : List Int) : ∀ a : Int, l.foldl addI a = a + l.sum := by
  induction l with
  | nil => intro a; simp
  | cons x l ih => intro a; rw [List.foldl_cons, ih, List.sum_cons]; unfold addI; omega
theorem join1_add : ∀ l : List Int, join1 addI l = l.sum
  | [] => rfl
  | x :: l => by show l.foldl addI x = _; rw [foldl_add, List.sum_cons]
/-- the number of leaves from a node on -/
def leavesN (T : Tree) (i : Nat) : Int := num T (fun _ => 1) addI addI i
theorem leavesN_eq {T : Tree} (h : IsTree T) {i : Nat} (hi : i < T.length) : leavesN T i = if kids T i = [] then 1 else ((kids T i).map (leavesN T)).sum := by
  unfold leavesN
  rw [num_eq h _ _ _ hi]
  by_cases e : kids T i = []
  · rw [if_pos e, if_pos e]
  · rw [if_neg e, if_neg e, ← join1_add, ite_self]
theorem leavesN_pos {T : Tree} (h : IsTree T) : ∀ i, i < T.length → 1 ≤ leavesN T i := by
  refine h.up fun i hi ih => ?_
  rw [leavesN_eq h hi]
  by_cases e : kids T i = []
  · rw [if_pos e]; exact Int.le_refl _
  · rw [if_neg e]
    obtain ⟨c, cs, hc⟩ := List.exists_cons_of_ne_nil e
    rw [hc] at ih ⊢
    have : ∀ l : List Nat, (∀ c ∈ l, 1 ≤ leavesN T c) → 0 ≤ (l.map (leavesN T)).sum := by
      intro l
      induction l with
      | nil => intro _; simp
      | cons x l ih2 =>
        intro hl
        rw [List.map_cons, List.sum_cons]
        have := hl x List.mem_cons_self
        have := ih2 fun c hc => hl c (List.mem_cons_of_mem _ hc)
        omega
    rw [List.map_cons, List.sum_cons]
    have h1 := ih c List.mem_cons_self
    have h2 := this cs fun c hc => ih c (List.mem_cons_of_mem _ hc)
    omega
def underB (T : Tree) (i j : Nat) : Bool := decide (j = 0) || (List.range i).any fun k => decide (j ∈ kids T k)
theorem underB_iff {T : Tree} {i j : Nat} : underB T i j = true ↔ j = 0 ∨ ∃ k, k < i ∧ j ∈ kids T k := by
  unfold underB
  rw [Bool.or_eq_true, decide_eq_true_eq, List.any_eq_true]
  constructor
  · rintro (h | ⟨k, hk, h⟩)
    · exact .inl h
    · exact .inr ⟨k, List.mem_range.1 hk, of_decide_eq_true h⟩
  · rintro (h | ⟨k, hk, h⟩)
    · exact .inl h
    · exact .inr ⟨k, List.mem_range.2 hk, decide_eq_true h⟩
/-- the leaves of what is open at node i -/
def openN (T : Tree) (i : Nat) : Int := sumN (fun j => if i ≤ j ∧ underB T i j = true then leavesN T j else 0) T.length
theorem openN_step {T : Tree} (h : IsTree T) {i : Nat} (hi : i < T.length) : openN T i + ((kids T i).map (leavesN T)).sum = openN T (i + 1) + leavesN T i := by
  have h1 := sumN_mem (leavesN T) T.length (kids T i) (h.kids_nodup i) fun j hj => (h.kid hj).2.1
  have h2 := sumN_one (leavesN T) i T.length
  rw [if_pos hi] at h2
  rw [← h1, ← h2]
  unfold openN
  rw [← sumN_add, ← sumN_add]
  refine sumN_congr _ fun j hj => ?_
  have hu : underB T (i + 1) j = true ↔ underB T i j = true ∨ j ∈ kids T i := by
    rw [underB_iff, underB_iff]
    constructor
    · rintro (h | ⟨k, hk, h⟩)
      · exact .inl (.inl h)
      · by_cases e : k = i
        · subst e; exact .inr h
        · exact .inl (.inr ⟨k, by omega, h⟩)
    · rintro ((h | ⟨k, hk, h⟩) | h)
      · exact .inl h
      · exact .inr ⟨k, by omega, h⟩
      · exact .inr ⟨i, by omega, h⟩
  by_cases e : j = i
  · subst e
    have hself : underB T j j = true := by
      rw [underB_iff]
      by_cases e : j = 0
      · exact .inl e
      · obtain ⟨k, _, hk⟩ := h.has j (by omega) hj
        have := h.mem hk
        exact .inr ⟨k, (h.kid this).1, this⟩
    have hnk : j ∉ kids T j := fun hk => by have := (h.kid hk).1; omega
    rw [if_pos ⟨Nat.le_refl _, hself⟩, if_neg hnk, if_neg (fun hc => by omega), if_pos rfl]; omega
  · rw [if_neg e]
    by_cases hk : j ∈ kids T i
    · have hlt := (h.kid hk).1
      have hnu : ¬ underB T i j = true := fun hu2 => by
        rw [underB_iff] at hu2
        rcases hu2 with h0 | ⟨k, hk1, hk2⟩
        · omega
        · have := h.apart k i j (h.kid hk2).2.2.2 (h.kid hk).2.2.2
          omega
      rw [if_neg (fun hc => hnu hc.2), if_pos hk, if_pos ⟨by omega, hu.2 (.inr hk)⟩]; omega
    · rw [if_neg hk]
      by_cases hb : i ≤ j ∧ underB T i j = true
      · rw [if_pos hb, if_pos ⟨by omega, hu.2 (.inl hb.2)⟩]
      · rw [if_neg hb, if_neg (fun hc => hb ⟨by omega, (hu.1 hc.2).elim id fun h => (hk h).elim⟩)]
theorem openN_le {T : Tree} (h : IsTree T) : ∀ k i, i + k = T.length → openN T i ≤ k
  | 0, i, e => by
    unfold openN
    rw [sumN_congr (g := fun _ => 0) _ fun j hj => by rw [if_neg (fun hc => by omega)], sumN_zero]; exact Int.le_refl _
  | k + 1, i, e => by
    have hs := openN_step h (i := i) (by omega)
    have ih := openN_le h k (i + 1) (by omega)
    have hl := leavesN_eq h (i := i) (by omega)
    by_cases e2 : kids T i = []
    · rw [if_pos e2] at hl
      rw [e2] at hs
      simp only [List.map_nil, List.sum_nil] at hs
      omega
    · rw [if_neg e2] at hl
      omega
theorem sumN_nonneg {f : Nat → Int} : ∀ n, (∀ j, j < n → 0 ≤ f j) → 0 ≤ sumN f n
  | 0, _ => Int.le_refl _
  | n + 1, hf => by
    have h1 := sumN_nonneg n fun j hj => hf j (by omega)
    have h2 := hf n (by omega)
    show 0 ≤ sumN f n + f n
    omega
theorem sumN_ge {f : Nat → Int} {k : Nat} : ∀ n, (∀ j, j < n → 0 ≤ f j) → k < n → f k ≤ sumN f n
  | 0, _, h => by omega
  | n + 1, hf, h => by
    show f k ≤ sumN f n + f n
    by_cases e : k = n
    · subst e
      have := sumN_nonneg k fun j hj => hf j (by omega)
      omega
    · have := sumN_ge n (fun j hj => hf j (by omega)) (show k < n by omega)
      have := hf n (by omega)
      omega
theorem leavesN_le {T : Tree} (h : IsTree T) {i : Nat} (hi : i < T.length) : leavesN T i ≤ 60 := by
  have h1 := openN_le h (T.length - i) i (by omega)
  have h2 : leavesN T i ≤ openN T i := by
    unfold openN
    have hself : underB T i i = true := by
      rw [underB_iff]
      by_cases e : i = 0
      · exact .inl e
      · obtain ⟨k, _, hk⟩ := h.has i (by omega) hi
        have := h.mem hk
        exact .inr ⟨k, (h.kid this).1, this⟩
    have := sumN_ge (f := fun j => if i ≤ j ∧ underB T i j = true then leavesN T j else 0) (k := i) T.length (fun j hj => by
      by_cases hc : i ≤ j ∧ underB T i j = true
      · rw [if_pos hc]; have := leavesN_pos h j hj; omega
      · rw [if_neg hc]; exact Int.le_refl _) hi
    simp only [if_pos (show i ≤ i ∧ underB T i i = true from ⟨Nat.le_refl _, hself⟩)] at this
    exact this
  have := h.len
  omega

/-- a cost, as the program counts it and as the reference does: both find it, or both find that there is none -/
def Cost (S p r : Int) : Prop := 0 ≤ p ∧ p ≤ 61 * S ∧ ((p ≤ S ∧ r = p) ∨ (61 ≤ p ∧ r = 1000000))
theorem cost_sum {ι : Type} (S p r : ι → Int) : ∀ (l : List ι) (SA a b : Int), Cost SA a b → (∀ c ∈ l, Cost (S c) (p c) (r c) ∧ 1 ≤ S c) → SA + (l.map S).sum ≤ 60 → Cost (SA + (l.map S).sum) ((l.map p).foldl addI a) ((l.map r).foldl cutI b)
  | [], SA, a, b, h, _, _ => by simpa using h
  | c :: l, SA, a, b, h, hl, hs => by
    rw [List.map_cons, List.map_cons, List.map_cons, List.sum_cons] at *
    obtain ⟨⟨c1, c2, c3⟩, c4⟩ := hl c List.mem_cons_self
    have hrest : ∀ l : List ι, (∀ c ∈ l, Cost (S c) (p c) (r c) ∧ 1 ≤ S c) → 0 ≤ (l.map S).sum := by
      intro l
      induction l with
      | nil => intro _; simp
      | cons x l ih => intro hl; rw [List.map_cons, List.sum_cons]; have := (hl x List.mem_cons_self).2; have := ih fun c hc => hl c (List.mem_cons_of_mem _ hc); omega
    have hr := hrest l fun c hc => hl c (List.mem_cons_of_mem _ hc)
    have ih := cost_sum S p r l (SA + S c) (addI a (p c)) (cutI b (r c)) (by
      obtain ⟨a1, a2, a3⟩ := h
      unfold addI cutI
      refine ⟨by omega, by omega, ?_⟩
      rcases a3 with ⟨a3, rfl⟩ | ⟨a3, rfl⟩ <;> rcases c3 with ⟨c3, c5⟩ | ⟨c3, c5⟩ <;> rw [c5]
      · exact .inl ⟨by omega, by omega⟩
      · exact .inr ⟨by omega, by omega⟩
      · exact .inr ⟨by omega, by omega⟩
      · exact .inr ⟨by omega, by omega⟩) (fun c hc => hl c (List.mem_cons_of_mem _ hc)) (by omega)
    rw [List.foldl_cons, List.foldl_cons, show SA + (S c + (l.map S).sum) = SA + S c + (l.map S).sum by omega]
    exact ih
theorem cost_min {ι : Type} (S p r : ι → Int) : ∀ (l : List ι) (SA a b : Int), 1 ≤ SA → Cost SA a b → (∀ c ∈ l, Cost (S c) (p c) (r c) ∧ 1 ≤ S c) → SA + (l.map S).sum ≤ 60 → Cost (SA + (l.map S).sum) ((l.map p).foldl minI a) ((l.map r).foldl minI b)
  | [], SA, a, b, _, h, _, _ => by simpa using h
  | c :: l, SA, a, b, h1, h, hl, hs => by
    rw [List.map_cons, List.map_cons, List.map_cons, List.sum_cons] at *
    obtain ⟨⟨c1, c2, c3⟩, c4⟩ := hl c List.mem_cons_self
    have hrest : ∀ l : List ι, (∀ c ∈ l, Cost (S c) (p c) (r c) ∧ 1 ≤ S c) → 0 ≤ (l.map S).sum := by
      intro l
      induction l with
      | nil => intro _; simp
      | cons x l ih => intro hl; rw [List.map_cons, List.sum_cons]; have := (hl x List.mem_cons_self).2; have := ih fun c hc => hl c (List.mem_cons_of_mem _ hc); omega
    have hr := hrest l fun c hc => hl c (List.mem_cons_of_mem _ hc)
    have ih := cost_min S p r l (SA + S c) (minI a (p c)) (minI b (r c)) (by omega) (by
      obtain ⟨a1, a2, a3⟩ := h
      unfold minI
      refine ⟨by omega, by omega, ?_⟩
      rcases a3 with ⟨a3, rfl⟩ | ⟨a3, rfl⟩ <;> rcases c3 with ⟨c3, c5⟩ | ⟨c3, c5⟩ <;> rw [c5]
      · exact .inl ⟨by omega, by omega⟩
      · exact .inl ⟨by omega, by omega⟩
      · exact .inl ⟨by omega, by omega⟩
      · exact .inr ⟨by omega, by omega⟩) (fun c hc => hl c (List.mem_cons_of_mem _ hc)) (by omega)
    rw [List.foldl_cons, List.foldl_cons, show SA + (S c + (l.map S).sum) = SA + S c + (l.map S).sum by omega]
    exact ih
/-- the numbers of the one who wants it: one child for him, all for the other one -/
def costN (T : Tree) (leaf : Nat → Int) (wanted : Bool) (i : Nat) : Int := num T leaf (if wanted then minI else addI) (if wanted then addI else minI) i
def needN (T : Tree) (leaf : Nat → Int) (wanted : Bool) (i : Nat) : Int := num T leaf (if wanted then minI else cutI) (if wanted then cutI else minI) i
theorem costN_eq {T : Tree} (h : IsTree T) (leaf : Nat → Int) (wanted : Bool) {i : Nat} (hi : i < T.length) :
    costN T leaf wanted i = if kids T i = [] then leaf i else join1 (if even T i = wanted then minI else addI) ((kids T i).map (costN T leaf wanted)) := by
  unfold costN
  rw [num_eq h _ _ _ hi]
  cases wanted <;> cases even T i <;> rfl
theorem needN_eq {T : Tree} (h : IsTree T) (leaf : Nat → Int) (wanted : Bool) {i : Nat} (hi : i < T.length) :
    needN T leaf wanted i = if kids T i = [] then leaf i else join1 (if even T i = wanted then minI else cutI) ((kids T i).map (needN T leaf wanted)) := by
  unfold needN
  rw [num_eq h _ _ _ hi]
  cases wanted <;> cases even T i <;> rfl
theorem cost_need {T : Tree} (h : IsTree T) {p r : Nat → Int} (hl : ∀ i, i < T.length → kids T i = [] → Cost 1 (p i) (r i)) (wanted : Bool) : ∀ i, i < T.length → Cost (leavesN T i) (costN T p wanted i) (needN T r wanted i) := by
  refine h.up fun i hi ih => ?_
  have hs := leavesN_le h hi
  rw [costN_eq h _ _ hi, needN_eq h _ _ hi]
  rw [leavesN_eq h hi] at hs ⊢
  by_cases e : kids T i = []
  · rw [if_pos e, if_pos e, if_pos e]; exact hl i hi e
  · rw [if_neg e] at hs
    rw [if_neg e, if_neg e, if_neg e]
    have ih2 : ∀ c ∈ kids T i, Cost (leavesN T c) (costN T p wanted c) (needN T r wanted c) ∧ 1 ≤ leavesN T c := fun c hc => ⟨ih c hc, leavesN_pos h c (h.kid hc).2.1⟩
    obtain ⟨c, cs, hc⟩ := List.exists_cons_of_ne_nil e
    rw [hc] at hs ih2 ⊢
    rw [List.map_cons, List.sum_cons] at hs
    obtain ⟨k1, k2⟩ := ih2 c List.mem_cons_self
    have k3 := fun d hd => ih2 d (List.mem_cons_of_mem _ hd)
    rw [List.map_cons, List.map_cons, List.map_cons, List.sum_cons]
    by_cases e2 : even T i = wanted
    · rw [if_pos e2, if_pos e2]
      exact cost_min _ _ _ cs _ _ _ k2 k1 k3 hs
    · rw [if_neg e2, if_neg e2]
      exact cost_sum _ _ _ cs _ _ _ k1 k3 hs

/-! folds of children -/
theorem foldl_min_zero {ι : Type} (p : ι → Int) : ∀ (l : List ι) (a : Int), 0 ≤ a → (∀ c ∈ l, 0 ≤ p c) → (0 ≤ (l.map p).foldl minI a ∧ ((l.map p).foldl minI a = 0 ↔ a = 0 ∨ ∃ c ∈ l, p c = 0))
  | [], a, ha, _ => by simpa using ha
  | c :: l, a, ha, hl => by
    have hc := hl c List.mem_cons_self
    have ih := foldl_min_zero p l (minI a (p c)) (by unfold minI; omega) fun d hd => hl d (List.mem_cons_of_mem _ hd)
    rw [List.map_cons, List.foldl_cons]
    refine ⟨ih.1, ih.2.trans ?_⟩
    have e : minI a (p c) = 0 ↔ a = 0 ∨ p c = 0 := by unfold minI; omega
    rw [e]
    simp only [List.mem_cons, exists_eq_or_imp, or_assoc]
theorem foldl_add_zero {ι : Type} (p : ι → Int) : ∀ (l : List ι) (a : Int), 0 ≤ a → (∀ c ∈ l, 0 ≤ p c) → (0 ≤ (l.map p).foldl addI a ∧ ((l.map p).foldl addI a = 0 ↔ a = 0 ∧ ∀ c ∈ l, p c = 0))
  | [], a, ha, _ => by simpa using ha
  | c :: l, a, ha, hl => by
    have hc := hl c List.mem_cons_self
    have ih := foldl_add_zero p l (addI a (p c)) (by unfold addI; omega) fun d hd => hl d (List.mem_cons_of_mem _ hd)
    rw [List.map_cons, List.foldl_cons]
    refine ⟨ih.1, ih.2.trans ?_⟩
    have e : addI a (p c) = 0 ↔ a = 0 ∧ p c = 0 := by unfold addI; omega
    rw [e]
    simp only [List.mem_cons, forall_eq_or_imp, and_assoc]
theorem foldl_max_ge {ι : Type} (p : ι → Int) (b : Int) : ∀ (l : List ι) (a : Int), (b ≤ (l.map p).foldl maxI a ↔ b ≤ a ∨ ∃ c ∈ l, b ≤ p c)
  | [], a => by simp
  | c :: l, a => by
    rw [List.map_cons, List.foldl_cons, foldl_max_ge p b l]
    have e : b ≤ maxI a (p c) ↔ b ≤ a ∨ b ≤ p c := by unfold maxI; omega
    rw [e]
    simp only [List.mem_cons, exists_eq_or_imp, or_assoc]
theorem foldl_min_ge {ι : Type} (p : ι → Int) (b : Int) : ∀ (l : List ι) (a : Int), (b ≤ (l.map p).foldl minI a ↔ b ≤ a ∧ ∀ c ∈ l, b ≤ p c)
  | [], a => by simp
  | c :: l, a => by
    rw [List.map_cons, List.foldl_cons, foldl_min_ge p b l]
    have e : b ≤ minI a (p c) ↔ b ≤ a ∧ b ≤ p c := by unfold minI; omega
    rw [e]
    simp only [List.mem_cons, forall_eq_or_imp, and_assoc]
theorem join_min_zero {ι : Type} (p : ι → Int) {l : List ι} (hn : l ≠ []) (hl : ∀ c ∈ l, 0 ≤ p c) : 0 ≤ join1 minI (l.map p) ∧ (join1 minI (l.map p) = 0 ↔ ∃ c ∈ l, p c = 0) := by
  obtain ⟨c, cs, rfl⟩ := List.exists_cons_of_ne_nil hn
  have := foldl_min_zero p cs (p c) (hl c List.mem_cons_self) fun d hd => hl d (List.mem_cons_of_mem _ hd)
  refine ⟨this.1, this.2.trans ?_⟩
  simp only [List.mem_cons, exists_eq_or_imp]
theorem join_add_zero {ι : Type} (p : ι → Int) {l : List ι} (hn : l ≠ []) (hl : ∀ c ∈ l, 0 ≤ p c) : 0 ≤ join1 addI (l.map p) ∧ (join1 addI (l.map p) = 0 ↔ ∀ c ∈ l, p c = 0) := by
  obtain ⟨c, cs, rfl⟩ := List.exists_cons_of_ne_nil hn
  have := foldl_add_zero p cs (p c) (hl c List.mem_cons_self) fun d hd => hl d (List.mem_cons_of_mem _ hd)
  refine ⟨this.1, this.2.trans ?_⟩
  simp only [List.mem_cons, forall_eq_or_imp]
theorem join_max_ge {ι : Type} (p : ι → Int) (b : Int) {l : List ι} (hn : l ≠ []) : b ≤ join1 maxI (l.map p) ↔ ∃ c ∈ l, b ≤ p c := by
  obtain ⟨c, cs, rfl⟩ := List.exists_cons_of_ne_nil hn
  refine (foldl_max_ge p b cs (p c)).trans ?_
  simp only [List.mem_cons, exists_eq_or_imp]
theorem join_min_ge {ι : Type} (p : ι → Int) (b : Int) {l : List ι} (hn : l ≠ []) : b ≤ join1 minI (l.map p) ↔ ∀ c ∈ l, b ≤ p c := by
  obtain ⟨c, cs, rfl⟩ := List.exists_cons_of_ne_nil hn
  refine (foldl_min_ge p b cs (p c)).trans ?_
  simp only [List.mem_cons, forall_eq_or_imp]
/-- values from the leaves up -/
def valN (T : Tree) (leaf : Nat → Int) (i : Nat) : Int := num T leaf maxI minI i
theorem valN_eq {T : Tree} (h : IsTree T) (leaf : Nat → Int) {i : Nat} (hi : i < T.length) : valN T leaf i = if kids T i = [] then leaf i else join1 (if even T i then maxI else minI) ((kids T i).map (valN T leaf)) := num_eq h _ _ _ hi
/-- what costs Max nothing is what is at least the bound -/
theorem costs_max {T : Tree} (h : IsTree T) {p v : Nat → Int} {b : Int} (hl : ∀ i, i < T.length → kids T i = [] → 0 ≤ p i ∧ (p i = 0 ↔ b ≤ v i)) : ∀ i, i < T.length → 0 ≤ costN T p true i ∧ (costN T p true i = 0 ↔ b ≤ valN T v i) := by
  refine h.up fun i hi ih => ?_
  rw [costN_eq h _ _ hi, valN_eq h _ hi]
  by_cases e : kids T i = []
  · rw [if_pos e, if_pos e]; exact hl i hi e
  · rw [if_neg e, if_neg e]
    have hn := fun c hc => (ih c hc).1
    cases hev : even T i
    · rw [if_neg (by simp), if_neg (by simp)]
      obtain ⟨a1, a2⟩ := join_add_zero (costN T p true) e hn
      refine ⟨a1, a2.trans ((forall_congr' fun c => ?_).trans (join_min_ge _ b e).symm)⟩
      exact ⟨fun h hc => (ih c hc).2.1 (h hc), fun h hc => (ih c hc).2.2 (h hc)⟩
    · rw [if_pos rfl, if_pos rfl]
      obtain ⟨a1, a2⟩ := join_min_zero (costN T p true) e hn
      refine ⟨a1, a2.trans ((exists_congr fun c => ?_).trans (join_max_ge _ b e).symm)⟩
      exact ⟨fun h => ⟨h.1, (ih c h.1).2.1 h.2⟩, fun h => ⟨h.1, (ih c h.1).2.2 h.2⟩⟩
/-- what costs nothing stays so -/
theorem costs_mono {T : Tree} (h : IsTree T) {p q : Nat → Int} (wanted : Bool) (hl : ∀ i, i < T.length → kids T i = [] → 0 ≤ p i ∧ 0 ≤ q i ∧ (p i = 0 → q i = 0)) :
    ∀ i, i < T.length → 0 ≤ costN T p wanted i ∧ 0 ≤ costN T q wanted i ∧ (costN T p wanted i = 0 → costN T q wanted i = 0) := by
  refine h.up fun i hi ih => ?_
  rw [costN_eq h _ _ hi, costN_eq h _ _ hi]
  by_cases e : kids T i = []
  · rw [if_pos e, if_pos e]; exact hl i hi e
  · rw [if_neg e, if_neg e]
    have hn := fun c hc => (ih c hc).1
    have hm := fun c hc => (ih c hc).2.1
    by_cases hev : even T i = wanted
    · rw [if_pos hev]
      obtain ⟨a1, a2⟩ := join_min_zero (costN T p wanted) e hn
      obtain ⟨b1, b2⟩ := join_min_zero (costN T q wanted) e hm
      refine ⟨a1, b1, fun h0 => b2.2 ?_⟩
      obtain ⟨c, hc, h⟩ := a2.1 h0
      exact ⟨c, hc, (ih c hc).2.2 h⟩
    · rw [if_neg hev]
      obtain ⟨a1, a2⟩ := join_add_zero (costN T p wanted) e hn
      obtain ⟨b1, b2⟩ := join_add_zero (costN T q wanted) e hm
      exact ⟨a1, b1, fun h0 => b2.2 fun c hc => (ih c hc).2.2 (a2.1 h0 c hc)⟩
end Go.Proofs.Ytbbidgdgcbnanaa
