/- Trees of moves: mathematics. When a list is a tree, the depths, numbers that are folded from the leaves up. -/
import Derived.Handy
namespace Go.Proofs.Ytbbidgdgcbnanaa
set_option linter.unusedVariables false

/-- a node: its children and its worth -/
abbrev Node := List Int × Int
abbrev Tree := List Node
def nodeAt (T : Tree) (i : Nat) : Node := T.getD i ([], 0)
def kidsZ (T : Tree) (i : Nat) : List Int := (nodeAt T i).1
def kids (T : Tree) (i : Nat) : List Nat := (kidsZ T i).map Int.toNat
def worthOf (T : Tree) (i : Nat) : Int := (nodeAt T i).2
def setD (D : Nat → Nat) (c v : Nat) : Nat → Nat := fun j => if j = c then v else D j
/-- a child is marked with its depth -/
def adoptStep (n i : Nat) (D : Nat → Nat) (c : Int) : Option (Nat → Nat) := if (i : Int) < c ∧ c < (n : Int) ∧ D c.toNat = 0 then some (setD D c.toNat (D i + 1)) else none
def adoptN (n i : Nat) : (Nat → Nat) → List Int → Option (Nat → Nat)
  | D, [] => some D
  | D, c :: cs => (adoptStep n i D c).bind fun D' => adoptN n i D' cs
def worthB (m : Node) : Bool := if m.1.isEmpty then decide (-100 ≤ m.2 ∧ m.2 ≤ 100) else decide (m.2 = 0)
/-- the depths behind the first k nodes; without the check that each node is a child -/
def markN (T : Tree) : Nat → Option (Nat → Nat)
  | 0 => some fun _ => 0
  | k + 1 => (markN T k).bind fun D => if worthB (nodeAt T k) then adoptN T.length k D (kidsZ T k) else none
/-- the depths behind the first k nodes, as the program finds them -/
def gameN (T : Tree) : Nat → Option (Nat → Nat)
  | 0 => some fun _ => 0
  | k + 1 => (gameN T k).bind fun D => if 0 < k ∧ D k = 0 then none else if worthB (nodeAt T k) then adoptN T.length k D (kidsZ T k) else none
def sizeB (T : Tree) : Bool := decide (1 ≤ T.length ∧ T.length ≤ 60)
def treeB (T : Tree) : Bool := sizeB T && (gameN T T.length).isSome
def dep (T : Tree) : Nat → Nat := (gameN T T.length).getD fun _ => 0
/-- as the reference finds it -/
def seenB (T : Tree) : Bool := match markN T T.length with
  | none => false
  | some D => (List.range T.length).all fun j => decide (j = 0 ∨ 0 < D j)

theorem adoptN_snoc (n i : Nat) : ∀ (cs : List Int) (D : Nat → Nat) (c : Int), adoptN n i D (cs ++ [c]) = (adoptN n i D cs).bind fun D' => adoptStep n i D' c
  | [], D, c => by simp only [List.nil_append, adoptN, Option.bind_some]; cases adoptStep n i D c <;> rfl
  | x :: cs, D, c => by
    show (adoptStep n i D x).bind _ = ((adoptStep n i D x).bind _).bind _
    cases adoptStep n i D x with
    | none => rfl
    | some D' => exact adoptN_snoc n i cs D' c
theorem adoptStep_some {n i : Nat} {D D' : Nat → Nat} {c : Int} (h : adoptStep n i D c = some D') : (i : Int) < c ∧ c < (n : Int) ∧ D c.toNat = 0 ∧ D' = setD D c.toNat (D i + 1) := by
  unfold adoptStep at h
  by_cases h1 : (i : Int) < c ∧ c < (n : Int) ∧ D c.toNat = 0
  · rw [if_pos h1] at h
    exact ⟨h1.1, h1.2.1, h1.2.2, (Option.some.inj h).symm⟩
  · rw [if_neg h1] at h; cases h
/-- what the children of one node have been marked with -/
theorem adoptN_some {n i : Nat} : ∀ {cs : List Int} {D D' : Nat → Nat}, adoptN n i D cs = some D' → (∀ c ∈ cs, (i : Int) < c ∧ c < (n : Int) ∧ D c.toNat = 0 ∧ D' c.toNat = D i + 1) ∧ (∀ j : Nat, (j : Int) ∉ cs → D' j = D j) ∧ cs.Nodup
  | [], D, D', h => by
    cases h
    exact ⟨fun c hc => (by cases hc), fun j _ => rfl, List.nodup_nil⟩
  | x :: cs, D, D', h => by
    simp only [adoptN] at h
    cases h1 : adoptStep n i D x with
    | none => rw [h1] at h; cases h
    | some D1 =>
      rw [h1] at h
      obtain ⟨a1, a2, a3, a4⟩ := adoptStep_some h1
      obtain ⟨b1, b2, b3⟩ := adoptN_some (cs := cs) h
      have hDi : D1 i = D i := by rw [a4]; unfold setD; rw [if_neg (by omega)]
      have hDx : D1 x.toNat = D i + 1 := by rw [a4]; unfold setD; rw [if_pos rfl]
      have hx : x ∉ cs := fun hm => by have := (b1 x hm).2.2.1; omega
      refine ⟨fun c hc => ?_, fun j hj => ?_, List.nodup_cons.2 ⟨hx, b3⟩⟩
      · rcases List.mem_cons.1 hc with rfl | hc
        · exact ⟨a1, a2, a3, by rw [b2 c.toNat (by rwa [Int.toNat_of_nonneg (by omega)]), hDx]⟩
        · obtain ⟨c1, c2, c3, c4⟩ := b1 c hc
          refine ⟨c1, c2, ?_, by rw [c4, hDi]⟩
          rw [a4] at c3
          unfold setD at c3
          by_cases e : c.toNat = x.toNat
          · rw [if_pos e] at c3; omega
          · rwa [if_neg e] at c3
      · rw [b2 j (fun hm => hj (List.mem_cons_of_mem _ hm)), a4]
        unfold setD
        rw [if_neg (fun e => hj (by rw [e, Int.toNat_of_nonneg (by omega)]; exact List.mem_cons_self))]
/-- what holds behind the first k nodes -/
structure MarkI (T : Tree) (k : Nat) (D : Nat → Nat) : Prop where
  zero : D 0 = 0
  worth : ∀ i, i < k → worthB (nodeAt T i) = true
  kid : ∀ i c, i < k → c ∈ kidsZ T i → (i : Int) < c ∧ c < (T.length : Int) ∧ D c.toNat = D i + 1
  nodup : ∀ i, i < k → (kidsZ T i).Nodup
  has : ∀ j, 0 < D j → ∃ i, i < k ∧ (j : Int) ∈ kidsZ T i
  apart : ∀ i i' c, i < k → i' < k → c ∈ kidsZ T i → c ∈ kidsZ T i' → i = i'
theorem MarkI.step {T : Tree} {k : Nat} {D D' : Nat → Nat} (h : MarkI T k D) (hw : worthB (nodeAt T k) = true) (ha : adoptN T.length k D (kidsZ T k) = some D') : MarkI T (k + 1) D' := by
  obtain ⟨b1, b2, b3⟩ := adoptN_some ha
  have hkeep : ∀ j, 0 < D j → D' j = D j := fun j hj => b2 j fun hm => by
    have := (b1 _ hm).2.2.1
    simp only [Int.toNat_natCast] at this
    omega
  have hlow : ∀ j, j ≤ k → D' j = D j := fun j hj => b2 j fun hm => by have := (b1 _ hm).1; omega
  refine ⟨by rw [hlow 0 (by omega)]; exact h.zero, fun i hi => ?_, fun i c hi hc => ?_, fun i hi => ?_, fun j hj => ?_, fun i i' c hi hi' hc hc' => ?_⟩
  · by_cases e : i = k
    · rw [e]; exact hw
    · exact h.worth i (by omega)
  · by_cases e : i = k
    · subst e
      obtain ⟨c1, c2, c3, c4⟩ := b1 c hc
      exact ⟨c1, c2, by rw [c4, hlow i (Nat.le_refl _)]⟩
    · obtain ⟨c1, c2, c3⟩ := h.kid i c (by omega) hc
      refine ⟨c1, c2, ?_⟩
      rw [hkeep _ (by omega), hlow i (by omega)]
      exact c3
  · by_cases e : i = k
    · rw [e]; exact b3
    · exact h.nodup i (by omega)
  · by_cases hm : (j : Int) ∈ kidsZ T k
    · exact ⟨k, by omega, hm⟩
    · rw [b2 j hm] at hj
      obtain ⟨i, hi, hj⟩ := h.has j hj
      exact ⟨i, by omega, hj⟩
  · have far : ∀ i, i < k → c ∈ kidsZ T i → c ∈ kidsZ T k → False := fun i hi h1 h2 => by
      have e1 := (h.kid i c hi h1).2.2
      have e2 := (b1 c h2).2.2.1
      omega
    by_cases e : i = k
    · subst e
      by_cases e2 : i' = i
      · exact e2.symm
      · exact (far i' (by omega) hc' hc).elim
    · by_cases e2 : i' = k
      · subst e2; exact (far i (by omega) hc hc').elim
      · exact h.apart i i' c (by omega) (by omega) hc hc'
theorem markI_zero (T : Tree) : MarkI T 0 fun _ => 0 := ⟨rfl, fun i hi => by omega, fun i c hi => by omega, fun i hi => by omega, fun j hj => by omega, fun i i' c hi => by omega⟩
theorem markN_inv {T : Tree} : ∀ {k : Nat} {D : Nat → Nat}, markN T k = some D → MarkI T k D
  | 0, D, h => by cases h; exact markI_zero T
  | k + 1, D, h => by
    simp only [markN] at h
    cases h1 : markN T k with
    | none => rw [h1] at h; cases h
    | some D1 =>
      rw [h1] at h
      simp only [Option.bind_some] at h
      by_cases hw : worthB (nodeAt T k) = true
      · rw [if_pos hw] at h
        exact (markN_inv h1).step hw h
      · rw [if_neg hw] at h; cases h
/-- both ways find the same as long as each node has been marked before it comes -/
theorem gameN_mark {T : Tree} : ∀ {k : Nat} {D : Nat → Nat}, gameN T k = some D → markN T k = some D ∧ ∀ j, 0 < j → j < k → 0 < D j
  | 0, D, h => by cases h; exact ⟨rfl, fun j _ hj => by omega⟩
  | k + 1, D, h => by
    simp only [gameN] at h
    cases h1 : gameN T k with
    | none => rw [h1] at h; cases h
    | some D1 =>
      rw [h1] at h
      simp only [Option.bind_some] at h
      obtain ⟨m1, m2⟩ := gameN_mark h1
      by_cases h0 : 0 < k ∧ D1 k = 0
      · rw [if_pos h0] at h; cases h
      · rw [if_neg h0] at h
        by_cases hw : worthB (nodeAt T k) = true
        · rw [if_pos hw] at h
          refine ⟨by simp only [markN]; rw [m1]; simp only [Option.bind_some]; rw [if_pos hw]; exact h, fun j hj0 hj => ?_⟩
          have hlow : D j = D1 j := (adoptN_some h).2.1 j fun hm => by have := ((adoptN_some h).1 _ hm).1; omega
          rw [hlow]
          by_cases e : j = k
          · subst e; omega
          · exact m2 j hj0 (by omega)
        · rw [if_neg hw] at h; cases h
theorem markN_game {T : Tree} : ∀ {k : Nat} {D : Nat → Nat}, markN T k = some D → (∀ j, 0 < j → j < k → 0 < D j) → gameN T k = some D
  | 0, D, h, _ => by cases h; rfl
  | k + 1, D, h, hp => by
    simp only [markN] at h
    cases h1 : markN T k with
    | none => rw [h1] at h; cases h
    | some D1 =>
      rw [h1] at h
      simp only [Option.bind_some] at h
      by_cases hw : worthB (nodeAt T k) = true
      · rw [if_pos hw] at h
        have hlow : ∀ j, j ≤ k → D j = D1 j := fun j hj => (adoptN_some h).2.1 j fun hm => by have := ((adoptN_some h).1 _ hm).1; omega
        have hg := markN_game h1 fun j h0 hj => by rw [← hlow j (by omega)]; exact hp j h0 (by omega)
        simp only [gameN]
        rw [hg]
        simp only [Option.bind_some]
        rw [if_neg (fun hc => by have := hp k hc.1 (by omega); rw [hlow k (Nat.le_refl _)] at this; omega), if_pos hw]
        exact h
      · rw [if_neg hw] at h; cases h
theorem seenB_eq (T : Tree) : (sizeB T && seenB T) = treeB T := by
  unfold treeB seenB
  cases hm : markN T T.length with
  | none =>
    cases hg : gameN T T.length with
    | none => simp
    | some D => rw [(gameN_mark hg).1] at hm; cases hm
  | some D =>
    simp only
    congr 1
    cases hg : gameN T T.length with
    | some D' =>
      obtain ⟨g1, g2⟩ := gameN_mark hg
      rw [hm] at g1
      cases g1
      simp only [Option.isSome_some]
      rw [List.all_eq_true]
      intro j hj
      rw [List.mem_range] at hj
      rw [decide_eq_true_eq]
      by_cases e : j = 0
      · exact .inl e
      · exact .inr (g2 j (by omega) hj)
    | none =>
      simp only [Option.isSome_none]
      rw [Bool.eq_false_iff]
      intro hall
      rw [List.all_eq_true] at hall
      have := markN_game hm fun j h0 hj => by
        have := hall j (List.mem_range.2 hj)
        rw [decide_eq_true_eq] at this
        omega
      rw [hg] at this
      cases this

/-- a tree, in the words that its proofs use -/
structure IsTree (T : Tree) : Prop where
  pos : 1 ≤ T.length
  len : T.length ≤ 60
  zero : dep T 0 = 0
  worth : ∀ i, i < T.length → worthB (nodeAt T i) = true
  kidZ : ∀ i c, c ∈ kidsZ T i → (i : Int) < c ∧ c < (T.length : Int) ∧ dep T c.toNat = dep T i + 1
  nodup : ∀ i, (kidsZ T i).Nodup
  has : ∀ j, 0 < j → j < T.length → ∃ i, i < T.length ∧ (j : Int) ∈ kidsZ T i
  apart : ∀ i i' c, c ∈ kidsZ T i → c ∈ kidsZ T i' → i = i'
theorem kidsZ_lt {T : Tree} {i : Nat} {c : Int} (h : c ∈ kidsZ T i) : i < T.length := by
  by_cases hi : i < T.length
  · exact hi
  · unfold kidsZ nodeAt at h
    rw [List.getD_eq_getElem?_getD, List.getElem?_eq_none (by omega)] at h
    cases h
theorem isTree_of {T : Tree} (h : treeB T = true) : IsTree T := by
  unfold treeB at h
  rw [Bool.and_eq_true] at h
  have hs := of_decide_eq_true h.1
  obtain ⟨D, hD⟩ := Option.isSome_iff_exists.1 h.2
  have hd : dep T = D := by unfold dep; rw [hD]; rfl
  obtain ⟨m1, m2⟩ := gameN_mark hD
  have hi := markN_inv m1
  rw [← hd] at hi m2
  refine ⟨hs.1, hs.2, hi.zero, hi.worth, fun i c hc => hi.kid i c (kidsZ_lt hc) hc, fun i => ?_, fun j h0 hj => hi.has j (m2 j h0 hj), fun i i' c hc hc' => hi.apart i i' c (kidsZ_lt hc) (kidsZ_lt hc') hc hc'⟩
  by_cases hil : i < T.length
  · exact hi.nodup i hil
  · unfold kidsZ nodeAt
    rw [List.getD_eq_getElem?_getD, List.getElem?_eq_none (by omega)]
    exact List.nodup_nil
theorem IsTree.kid {T : Tree} (h : IsTree T) {i c : Nat} (hc : c ∈ kids T i) : i < c ∧ c < T.length ∧ dep T c = dep T i + 1 ∧ (c : Int) ∈ kidsZ T i := by
  unfold kids at hc
  obtain ⟨z, hz, rfl⟩ := List.mem_map.1 hc
  obtain ⟨h1, h2, h3⟩ := h.kidZ i z hz
  exact ⟨by omega, by omega, h3, by rw [Int.toNat_of_nonneg (by omega)]; exact hz⟩
theorem IsTree.mem {T : Tree} (h : IsTree T) {i c : Nat} (hc : (c : Int) ∈ kidsZ T i) : c ∈ kids T i := by
  unfold kids
  exact List.mem_map.2 ⟨c, hc, by simp⟩
theorem IsTree.kids_cast {T : Tree} (h : IsTree T) (i : Nat) : (kids T i).map (fun c : Nat => (c : Int)) = kidsZ T i := by
  unfold kids
  rw [List.map_map]
  conv => rhs; rw [← List.map_id (kidsZ T i)]
  refine List.map_congr_left fun c hc => ?_
  have := (h.kidZ i c hc).1
  simp only [Function.comp, id_eq]
  omega
theorem nodup_of_map {α β : Type} (f : α → β) : ∀ {l : List α}, (l.map f).Nodup → l.Nodup
  | [], _ => List.nodup_nil
  | x :: l, h => by
    rw [List.map_cons, List.nodup_cons] at h
    exact List.nodup_cons.2 ⟨fun hx => h.1 (List.mem_map_of_mem hx), nodup_of_map f h.2⟩
theorem IsTree.kids_nodup {T : Tree} (h : IsTree T) (i : Nat) : (kids T i).Nodup := by
  have := h.nodup i
  rw [← h.kids_cast i] at this
  exact nodup_of_map _ this

/-- numbers, folded from the leaves up -/
def join1 (op : Int → Int → Int) : List Int → Int
  | [] => 0
  | x :: xs => xs.foldl op x
def even (T : Tree) (i : Nat) : Bool := decide (dep T i % 2 = 0)
def numF (T : Tree) (leaf : Nat → Int) (mx mn : Int → Int → Int) : Nat → Nat → Int
  | 0, _ => 0
  | f + 1, i => if kids T i = [] then leaf i else join1 (if even T i then mx else mn) ((kids T i).map (numF T leaf mx mn f))
def num (T : Tree) (leaf : Nat → Int) (mx mn : Int → Int → Int) (i : Nat) : Int := numF T leaf mx mn (T.length - i) i
theorem numF_fuel {T : Tree} (h : IsTree T) (leaf : Nat → Int) (mx mn : Int → Int → Int) : ∀ (f g i : Nat), T.length - i ≤ f → T.length - i ≤ g → i < T.length → numF T leaf mx mn f i = numF T leaf mx mn g i
  | 0, g, i, h1, h2, h3 => by omega
  | f + 1, 0, i, h1, h2, h3 => by omega
  | f + 1, g + 1, i, h1, h2, h3 => by
    simp only [numF]
    congr 2
    refine List.map_congr_left fun c hc => ?_
    have hk := h.kid hc
    exact numF_fuel h leaf mx mn f g c (by omega) (by omega) hk.2.1
theorem num_eq {T : Tree} (h : IsTree T) (leaf : Nat → Int) (mx mn : Int → Int → Int) {i : Nat} (hi : i < T.length) :
    num T leaf mx mn i = if kids T i = [] then leaf i else join1 (if even T i then mx else mn) ((kids T i).map (num T leaf mx mn)) := by
  unfold num
  obtain ⟨f, hf⟩ : ∃ f, T.length - i = f + 1 := ⟨T.length - i - 1, by omega⟩
  rw [hf]
  simp only [numF]
  congr 2
  refine List.map_congr_left fun c hc => ?_
  have hk := h.kid hc
  exact numF_fuel h leaf mx mn _ _ c (by omega) (Nat.le_refl _) hk.2.1
/-- an induction from the leaves up -/
theorem IsTree.up {T : Tree} (h : IsTree T) {P : Nat → Prop} (hP : ∀ i, i < T.length → (∀ c ∈ kids T i, P c) → P i) : ∀ i, i < T.length → P i := by
  have key : ∀ k i, T.length - i ≤ k → i < T.length → P i := by
    intro k
    induction k with
    | zero => intro i h1 h2; omega
    | succ k ih =>
      intro i h1 h2
      refine hP i h2 fun c hc => ?_
      have hk := h.kid hc
      exact ih c (by omega) hk.2.1
  exact fun i hi => key _ i (Nat.le_refl _) hi
theorem even_kid {T : Tree} (h : IsTree T) {i c : Nat} (hc : c ∈ kids T i) : even T c = !even T i := by
  have hd := (h.kid hc).2.2.1
  unfold even
  rw [hd]
  by_cases e : dep T i % 2 = 0
  · rw [decide_eq_true e, decide_eq_false (by omega)]; rfl
  · rw [decide_eq_false e, decide_eq_true (by omega)]; rfl
end Go.Proofs.Ytbbidgdgcbnanaa
