/- Trees out of any parents and worths: mathematics. Any such list is a tree. -/
import Derived.Test.YtbbidgdgcbnanaaCst
namespace Go.Proofs.Ytbbidgdgcbnanaa
set_option linter.unusedVariables false

/-- what makes a list a tree, besides its size -/
structure Grown (T : Tree) : Prop where
  worth : ∀ i, i < T.length → worthB (nodeAt T i) = true
  kidZ : ∀ i c, c ∈ kidsZ T i → (i : Int) < c ∧ c < (T.length : Int)
  nodup : ∀ i, (kidsZ T i).Nodup
  has : ∀ j, 0 < j → j < T.length → ∃ i, (j : Int) ∈ kidsZ T i
  apart : ∀ i i' c, c ∈ kidsZ T i → c ∈ kidsZ T i' → i = i'
theorem adoptN_ok {n i : Nat} : ∀ (cs : List Int) (D : Nat → Nat), (∀ c ∈ cs, (i : Int) < c ∧ c < (n : Int) ∧ D c.toNat = 0) → cs.Nodup → ∃ D', adoptN n i D cs = some D'
  | [], D, _, _ => ⟨D, rfl⟩
  | x :: cs, D, h, hn => by
    rw [List.nodup_cons] at hn
    have hx := h x List.mem_cons_self
    have hs : adoptStep n i D x = some (setD D x.toNat (D i + 1)) := by unfold adoptStep; rw [if_pos hx]
    obtain ⟨D', hD⟩ := adoptN_ok cs (setD D x.toNat (D i + 1)) (fun c hc => by
      obtain ⟨a, b, d⟩ := h c (List.mem_cons_of_mem _ hc)
      refine ⟨a, b, ?_⟩
      unfold setD
      have : c ≠ x := fun e => hn.1 (e ▸ hc)
      rw [if_neg (by omega)]
      exact d) hn.2
    exact ⟨D', by simp only [adoptN]; rw [hs]; exact hD⟩
theorem Grown.mark {T : Tree} (h : Grown T) : ∀ k, k ≤ T.length → ∃ D, markN T k = some D
  | 0, _ => ⟨_, rfl⟩
  | k + 1, hk => by
    obtain ⟨D, hD⟩ := h.mark k (by omega)
    have hi := markN_inv hD
    obtain ⟨D', hD'⟩ := adoptN_ok (n := T.length) (i := k) (kidsZ T k) D (fun c hc => by
      obtain ⟨a, b⟩ := h.kidZ k c hc
      refine ⟨a, b, ?_⟩
      rcases Nat.eq_zero_or_pos (D c.toNat) with e | e
      · exact e
      · obtain ⟨i, hi2, hm⟩ := hi.has _ e
        rw [Int.toNat_of_nonneg (by omega)] at hm
        have := h.apart i k c hm hc
        omega) (h.nodup k)
    exact ⟨D', by simp only [markN]; rw [hD]; simp only [Option.bind_some]; rw [if_pos (h.worth k (by omega))]; exact hD'⟩
theorem Grown.tree {T : Tree} (h : Grown T) (h1 : 1 ≤ T.length) (h2 : T.length ≤ 60) : treeB T = true := by
  rw [← seenB_eq]
  obtain ⟨D, hD⟩ := h.mark T.length (Nat.le_refl _)
  have hi := markN_inv hD
  unfold seenB sizeB
  rw [hD, decide_eq_true ⟨h1, h2⟩, Bool.true_and]
  simp only
  rw [List.all_eq_true]
  intro j hj
  rw [List.mem_range] at hj
  rw [decide_eq_true_eq]
  by_cases e : j = 0
  · exact .inl e
  · obtain ⟨i, hm⟩ := h.has j (by omega) hj
    have := hi.kid i j (kidsZ_lt hm) hm
    simp only [Int.toNat_natCast] at this
    exact .inr (by omega)

/-- the children of k among the first i nodes -/
def kidsP (par : Nat → Nat) (i k : Nat) : List Nat := (List.range i).filter fun j => decide (1 ≤ j) && decide (par j = k)
theorem kidsP_mem {par : Nat → Nat} {i k j : Nat} : j ∈ kidsP par i k ↔ 1 ≤ j ∧ j < i ∧ par j = k := by
  unfold kidsP
  rw [List.mem_filter, List.mem_range, Bool.and_eq_true, decide_eq_true_eq, decide_eq_true_eq]
  omega
theorem kidsP_step (par : Nat → Nat) (i k : Nat) (hi : 1 ≤ i) : kidsP par (i + 1) k = kidsP par i k ++ if par i = k then [i] else [] := by
  unfold kidsP
  rw [List.range_succ, List.filter_append]
  congr 1
  by_cases e : par i = k
  · rw [if_pos e, List.filter_cons, if_pos (by simp [hi, e])]; rfl
  · rw [if_neg e, List.filter_cons, if_neg (by simp [e])]; rfl
theorem kidsP_none (par : Nat → Nat) (hp : ∀ j, 1 ≤ j → par j < j) {i k : Nat} (h : i ≤ k + 1) : kidsP par i k = [] := by
  rw [List.eq_nil_iff_forall_not_mem]
  intro j hj
  obtain ⟨a, b, c⟩ := kidsP_mem.1 hj
  have := hp j a
  omega
/-- a tree of n nodes out of parents and worths -/
def tamT (par : Nat → Nat) (wor : Nat → Int) (n : Nat) : Tree := (List.range n).map fun i => ((kidsP par n i).map fun j : Nat => (j : Int), if kidsP par n i = [] then wor i else 0)
theorem tamT_len (par : Nat → Nat) (wor : Nat → Int) (n : Nat) : (tamT par wor n).length = n := by simp [tamT]
theorem tamT_at (par : Nat → Nat) (wor : Nat → Int) {n i : Nat} (hi : i < n) : nodeAt (tamT par wor n) i = ((kidsP par n i).map fun j : Nat => (j : Int), if kidsP par n i = [] then wor i else 0) := by
  unfold nodeAt tamT
  rw [List.getD_eq_getElem?_getD, List.getElem?_map, List.getElem?_range hi]; rfl
theorem tamT_kids (par : Nat → Nat) (wor : Nat → Int) (n i : Nat) : kidsZ (tamT par wor n) i = if i < n then (kidsP par n i).map fun j : Nat => (j : Int) else [] := by
  unfold kidsZ
  by_cases hi : i < n
  · rw [if_pos hi, tamT_at par wor hi]
  · rw [if_neg hi]
    unfold nodeAt
    rw [List.getD_eq_getElem?_getD, List.getElem?_eq_none (by rw [tamT_len]; omega)]; rfl
theorem kidsP_nodup (par : Nat → Nat) (i k : Nat) : (kidsP par i k).Nodup := List.Pairwise.filter _ List.nodup_range
theorem map_nodup {α β : Type} {f : α → β} (hf : ∀ x y, f x = f y → x = y) : ∀ {l : List α}, l.Nodup → (l.map f).Nodup
  | [], _ => List.nodup_nil
  | x :: l, h => by
    rw [List.nodup_cons] at h
    rw [List.map_cons, List.nodup_cons]
    refine ⟨fun hm => ?_, map_nodup hf h.2⟩
    obtain ⟨y, hy, e⟩ := List.mem_map.1 hm
    exact h.1 (hf _ _ e ▸ hy)
theorem tamT_grown {par : Nat → Nat} (hp : ∀ j, 1 ≤ j → par j < j) {wor : Nat → Int} (hw : ∀ i, -100 ≤ wor i ∧ wor i ≤ 100) (n : Nat) : Grown (tamT par wor n) := by
  have hmem : ∀ i c, c ∈ kidsZ (tamT par wor n) i → ∃ j : Nat, c = (j : Int) ∧ 1 ≤ j ∧ j < n ∧ par j = i := by
    intro i c hc
    rw [tamT_kids] at hc
    by_cases hi : i < n
    · rw [if_pos hi] at hc
      obtain ⟨j, hj, rfl⟩ := List.mem_map.1 hc
      exact ⟨j, rfl, kidsP_mem.1 hj⟩
    · rw [if_neg hi] at hc; cases hc
  refine ⟨fun i hi => ?_, fun i c hc => ?_, fun i => ?_, fun j h0 hj => ?_, fun i i' c hc hc' => ?_⟩
  · rw [tamT_len] at hi
    rw [tamT_at par wor hi]
    unfold worthB
    simp only
    by_cases e : kidsP par n i = []
    · rw [if_pos e, e]
      have := hw i
      simp only [List.map_nil, List.isEmpty_nil, if_true]
      exact decide_eq_true this
    · rw [if_neg e, if_neg (by rw [List.isEmpty_iff]; intro h; exact e (List.map_eq_nil_iff.1 h))]
      rfl
  · obtain ⟨j, rfl, h1, h2, h3⟩ := hmem i c hc
    rw [tamT_len]
    have := hp j h1
    omega
  · rw [tamT_kids]
    by_cases hi : i < n
    · rw [if_pos hi]; exact map_nodup (fun x y h => by omega) (kidsP_nodup par n i)
    · rw [if_neg hi]; exact List.nodup_nil
  · rw [tamT_len] at hj
    have := hp j h0
    exact ⟨par j, by rw [tamT_kids, if_pos (by omega)]; exact List.mem_map.2 ⟨j, kidsP_mem.2 ⟨h0, hj, rfl⟩, rfl⟩⟩
  · obtain ⟨j, rfl, h1, h2, h3⟩ := hmem i c hc
    obtain ⟨j', e, h1', h2', h3'⟩ := hmem i' _ hc'
    have : j = j' := by omega
    subst this
    rw [← h3, h3']
theorem tamT_tree {par : Nat → Nat} (hp : ∀ j, 1 ≤ j → par j < j) {wor : Nat → Int} (hw : ∀ i, -100 ≤ wor i ∧ wor i ≤ 100) {n : Nat} (h1 : 1 ≤ n) (h2 : n ≤ 60) : treeB (tamT par wor n) = true :=
  (tamT_grown hp hw n).tree (by rw [tamT_len]; exact h1) (by rw [tamT_len]; exact h2)
end Go.Proofs.Ytbbidgdgcbnanaa
