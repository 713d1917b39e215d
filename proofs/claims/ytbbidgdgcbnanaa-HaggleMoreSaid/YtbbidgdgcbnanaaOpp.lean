/- Both claims at once: mathematics. One costs nothing exactly if the other one cannot be had. -/
import Derived.Test.YtbbidgdgcbnanaaCst
namespace Go.Proofs.Ytbbidgdgcbnanaa
set_option linter.unusedVariables false

/-- the costs of a claim and of its opposite; M: there may be something left to learn -/
def Opp (M : Prop) (S x y : Int) : Prop := (x = 0 ∧ 61 ≤ y) ∨ (61 ≤ x ∧ y = 0) ∨ (M ∧ 1 ≤ x ∧ x ≤ S ∧ 1 ≤ y ∧ y ≤ S)
theorem Opp.swap {M : Prop} {S x y : Int} (h : Opp M S x y) : Opp M S y x := by
  rcases h with ⟨a, b⟩ | ⟨a, b⟩ | ⟨m, a, b, c, d⟩
  · exact .inr (.inl ⟨b, a⟩)
  · exact .inl ⟨b, a⟩
  · exact .inr (.inr ⟨m, c, d, a, b⟩)
theorem Opp.mono {M N : Prop} {S x y : Int} (h : Opp M S x y) (k : M → N) : Opp N S x y := by
  rcases h with h | h | ⟨m, h⟩
  · exact .inl h
  · exact .inr (.inl h)
  · exact .inr (.inr ⟨k m, h⟩)
theorem opp_fold {ι : Type} {M : Prop} (S x y : ι → Int) : ∀ (l : List ι) (SA a b : Int), 1 ≤ SA → Opp M SA a b → (∀ c ∈ l, Opp M (S c) (x c) (y c) ∧ 1 ≤ S c) → SA + (l.map S).sum ≤ 60 → Opp M (SA + (l.map S).sum) ((l.map x).foldl minI a) ((l.map y).foldl addI b)
  | [], SA, a, b, _, h, _, _ => by simpa using h
  | c :: l, SA, a, b, h1, h, hl, hs => by
    rw [List.map_cons, List.map_cons, List.map_cons, List.sum_cons] at *
    obtain ⟨c3, c4⟩ := hl c List.mem_cons_self
    have hrest : ∀ l : List ι, (∀ c ∈ l, Opp M (S c) (x c) (y c) ∧ 1 ≤ S c) → 0 ≤ (l.map S).sum := by
      intro l
      induction l with
      | nil => intro _; simp
      | cons x l ih => intro hl; rw [List.map_cons, List.sum_cons]; have := (hl x List.mem_cons_self).2; have := ih fun c hc => hl c (List.mem_cons_of_mem _ hc); omega
    have hr := hrest l fun c hc => hl c (List.mem_cons_of_mem _ hc)
    have ih := opp_fold S x y l (SA + S c) (minI a (x c)) (addI b (y c)) (by omega) (by
      unfold minI addI
      rcases h with ⟨a1, a2⟩ | ⟨a1, a2⟩ | ⟨m, a1, a2, a3, a4⟩ <;> rcases c3 with ⟨b1, b2⟩ | ⟨b1, b2⟩ | ⟨m2, b1, b2, b3, b4⟩
      · exact .inl ⟨by omega, by omega⟩
      · exact .inl ⟨by omega, by omega⟩
      · exact .inl ⟨by omega, by omega⟩
      · exact .inl ⟨by omega, by omega⟩
      · exact .inr (.inl ⟨by omega, by omega⟩)
      · exact .inr (.inr ⟨m2, by omega, by omega, by omega, by omega⟩)
      · exact .inl ⟨by omega, by omega⟩
      · exact .inr (.inr ⟨m, by omega, by omega, by omega, by omega⟩)
      · exact .inr (.inr ⟨m, by omega, by omega, by omega, by omega⟩)) (fun c hc => hl c (List.mem_cons_of_mem _ hc)) (by omega)
    rw [List.foldl_cons, List.foldl_cons, show SA + (S c + (l.map S).sum) = SA + S c + (l.map S).sum by omega]
    exact ih
theorem opp_costs {T : Tree} (h : IsTree T) {M : Prop} {p q : Nat → Int} (hl : ∀ i, i < T.length → kids T i = [] → Opp M 1 (p i) (q i)) : ∀ i, i < T.length → Opp M (leavesN T i) (costN T p true i) (costN T q false i) := by
  refine h.up fun i hi ih => ?_
  have hs := leavesN_le h hi
  rw [costN_eq h _ _ hi, costN_eq h _ _ hi]
  rw [leavesN_eq h hi] at hs ⊢
  by_cases e : kids T i = []
  · rw [if_pos e, if_pos e, if_pos e]; exact hl i hi e
  · rw [if_neg e] at hs
    rw [if_neg e, if_neg e, if_neg e]
    have ih2 : ∀ c ∈ kids T i, Opp M (leavesN T c) (costN T p true c) (costN T q false c) ∧ 1 ≤ leavesN T c := fun c hc => ⟨ih c hc, leavesN_pos h c (h.kid hc).2.1⟩
    obtain ⟨c, cs, hc⟩ := List.exists_cons_of_ne_nil e
    rw [hc] at hs ih2 ⊢
    rw [List.map_cons, List.sum_cons] at hs
    obtain ⟨k1, k2⟩ := ih2 c List.mem_cons_self
    have k3 := fun d hd => ih2 d (List.mem_cons_of_mem _ hd)
    rw [List.map_cons, List.map_cons, List.map_cons, List.sum_cons]
    cases even T i
    · rw [if_neg (by simp), if_pos rfl]
      exact (opp_fold _ _ _ cs _ _ _ k2 k1.swap (fun d hd => ⟨(k3 d hd).1.swap, (k3 d hd).2⟩) hs).swap
    · rw [if_pos rfl, if_neg (by simp)]
      exact opp_fold _ _ _ cs _ _ _ k2 k1 k3 hs
/-- a sum of 64 bits -/
def wrapS (x : Int) : Int := (x + 9223372036854775808) % 18446744073709551616 - 9223372036854775808
theorem wrapS_in {x : Int} (h : -9223372036854775808 ≤ x ∧ x ≤ 9223372036854775807) : wrapS x = x := by unfold wrapS; omega
/-- what is said of a number of leaves -/
def missV (x : Int) : Int := if 61 ≤ x then -1 else x
/-- what a leaf costs the one who wants it: nothing if it is known and meets the claim, no end if it does not, one otherwise -/
def learnP (T : Tree) (known : List Int) (met : Int → Bool) (i : Nat) : Int := if (i : Int) ∈ known then (if met (worthOf T i) then 0 else 61) else 1
def atLeast (b v : Int) : Bool := decide (b ≤ v)
def atMost (b v : Int) : Bool := decide (v ≤ b)
theorem learn_opp (T : Tree) (known : List Int) (b : Int) (i : Nat) : Opp ((i : Int) ∉ known) 1 (learnP T known (atLeast b) i) (learnP T known (atMost (b - 1)) i) := by
  unfold learnP atLeast atMost
  by_cases h : (i : Int) ∈ known
  · rw [if_pos h, if_pos h]
    by_cases hb : b ≤ worthOf T i
    · rw [if_pos (decide_eq_true hb), if_neg (by rw [decide_eq_true_eq]; omega)]; exact .inl ⟨rfl, by omega⟩
    · rw [if_neg (by rw [decide_eq_true_eq]; omega), if_pos (decide_eq_true (by omega))]; exact .inr (.inl ⟨by omega, rfl⟩)
  · rw [if_neg h, if_neg h]; exact .inr (.inr ⟨h, by omega, by omega, by omega, by omega⟩)
/-- what a claim asks of a worth: at least the bound for Max, at most for Min -/
def metB (wanted : Bool) (b v : Int) : Bool := if wanted then atLeast b v else atMost b v
theorem learn_range (T : Tree) (known : List Int) (met : Int → Bool) (i : Nat) : 0 ≤ learnP T known met i ∧ learnP T known met i ≤ 61 ∧ (learnP T known met i ≤ 1 ∨ learnP T known met i = 61) := by
  unfold learnP
  by_cases h : (i : Int) ∈ known
  · rw [if_pos h]
    cases met (worthOf T i)
    · rw [if_neg (by simp)]; omega
    · rw [if_pos rfl]; omega
  · rw [if_neg h]; omega
/-- what a leaf costs if it is to be shown -/
def showP (T : Tree) (met : Int → Bool) (i : Nat) : Int := if met (worthOf T i) then 1 else 61
def sumW (a b : Int) : Int := wrapS (a + b)
/-- the same with sums of 64 bits -/
def costW (T : Tree) (leaf : Nat → Int) (wanted : Bool) (i : Nat) : Int := num T leaf (if wanted then minI else sumW) (if wanted then sumW else minI) i
theorem costW_step {T : Tree} (h : IsTree T) (leaf : Nat → Int) (wanted : Bool) {i : Nat} (hi : i < T.length) :
    costW T leaf wanted i = if kids T i = [] then leaf i else join1 (if even T i = wanted then minI else sumW) ((kids T i).map (costW T leaf wanted)) := by
  unfold costW
  rw [num_eq h _ _ _ hi]
  cases wanted <;> cases even T i <;> rfl
theorem foldl_sumW {ι : Type} (p : ι → Int) : ∀ (l : List ι) (a : Int), 0 ≤ a → (∀ c ∈ l, 0 ≤ p c) → a + (l.map p).sum ≤ 1000000 → (l.map p).foldl sumW a = (l.map p).foldl addI a
  | [], a, _, _, _ => rfl
  | c :: l, a, ha, hl, hs => by
    rw [List.map_cons, List.sum_cons] at hs
    have hc := hl c List.mem_cons_self
    have hrest : ∀ l : List ι, (∀ c ∈ l, 0 ≤ p c) → 0 ≤ (l.map p).sum := by
      intro l
      induction l with
      | nil => intro _; simp
      | cons x l ih => intro hl; rw [List.map_cons, List.sum_cons]; have := hl x List.mem_cons_self; have := ih fun c hc => hl c (List.mem_cons_of_mem _ hc); omega
    have hr := hrest l fun c hc => hl c (List.mem_cons_of_mem _ hc)
    rw [List.map_cons, List.foldl_cons, List.foldl_cons]
    have e : sumW a (p c) = addI a (p c) := by unfold sumW addI; exact wrapS_in (by omega)
    rw [e]
    exact foldl_sumW p l _ (by unfold addI; omega) (fun d hd => hl d (List.mem_cons_of_mem _ hd)) (by unfold addI; omega)
theorem sum_le {ι : Type} (p S : ι → Int) (k : Int) : ∀ l : List ι, (∀ c ∈ l, p c ≤ k * S c) → (l.map p).sum ≤ k * (l.map S).sum
  | [], _ => by simp
  | c :: l, h => by
    have h1 := h c List.mem_cons_self
    have h2 := sum_le p S k l fun d hd => h d (List.mem_cons_of_mem _ hd)
    rw [List.map_cons, List.map_cons, List.sum_cons, List.sum_cons, Int.mul_add]
    omega
/-- the costs, with sums of 64 bits or without: the same; and within bounds -/
theorem costW_eq {T : Tree} (h : IsTree T) {p : Nat → Int} (hl : ∀ i, 0 ≤ p i ∧ p i ≤ 61 ∧ (p i ≤ 1 ∨ p i = 61)) (wanted : Bool) : ∀ i, i < T.length → costW T p wanted i = costN T p wanted i := by
  have hcn := cost_need h (p := p) (r := fun i => if p i ≤ 1 then p i else 1000000) (fun i _ _ => by
    have := hl i
    refine ⟨by omega, by omega, ?_⟩
    by_cases e : p i ≤ 1
    · rw [if_pos e]; exact .inl ⟨by omega, rfl⟩
    · rw [if_neg e]; exact .inr ⟨by omega, rfl⟩) wanted
  refine h.up fun i hi ih => ?_
  have hs := leavesN_le h hi
  rw [costW_step h _ _ hi, costN_eq h _ _ hi]
  rw [leavesN_eq h hi] at hs
  by_cases e : kids T i = []
  · rw [if_pos e, if_pos e]
  · rw [if_neg e] at hs
    rw [if_neg e, if_neg e, List.map_congr_left ih]
    by_cases e2 : even T i = wanted
    · rw [if_pos e2, if_pos e2]
    · rw [if_neg e2, if_neg e2]
      have hsl := sum_le (costN T p wanted) (leavesN T) 61 (kids T i) fun c hc => (hcn c (h.kid hc).2.1).2.1
      have hnn : ∀ c ∈ kids T i, 0 ≤ costN T p wanted c := fun c hc => (hcn c (h.kid hc).2.1).1
      obtain ⟨c, cs, hc⟩ := List.exists_cons_of_ne_nil e
      rw [hc] at hsl hnn hs ⊢
      rw [List.map_cons]
      show ((cs.map (costN T p wanted)).foldl sumW _) = ((cs.map (costN T p wanted)).foldl addI _)
      rw [List.map_cons, List.sum_cons] at hsl
      exact foldl_sumW _ cs _ (hnn c List.mem_cons_self) (fun d hd => hnn d (List.mem_cons_of_mem _ hd)) (by omega)
theorem costW_range {T : Tree} (h : IsTree T) {p : Nat → Int} (hl : ∀ i, 0 ≤ p i ∧ p i ≤ 61 ∧ (p i ≤ 1 ∨ p i = 61)) (wanted : Bool) {i : Nat} (hi : i < T.length) :
    Cost (leavesN T i) (costW T p wanted i) (needN T (fun i => if p i ≤ 1 then p i else 1000000) wanted i) := by
  rw [costW_eq h hl wanted i hi]
  exact cost_need h (fun i _ _ => by
    have := hl i
    refine ⟨by omega, by omega, ?_⟩
    by_cases e : p i ≤ 1
    · rw [if_pos e]; exact .inl ⟨by omega, rfl⟩
    · rw [if_neg e]; exact .inr ⟨by omega, rfl⟩) wanted i hi
end Go.Proofs.Ytbbidgdgcbnanaa
