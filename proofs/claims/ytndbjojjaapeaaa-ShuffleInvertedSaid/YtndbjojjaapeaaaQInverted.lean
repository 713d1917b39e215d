/- ShuffleInverted: the inverse of a permutation that is polynomial is polynomial, undoes it, has the same order and cycles, and the order is the least common multiple of the lengths of the cycles. Conditions: none. -/
import Derived.Test.YtndbjojjaapeaaaQa
import Derived.Test.YtndbjojjaapeaaaQe
import Derived.Maps.OwnOps
import Derived.Maps.Keyed
import Derived.Maps.Views
import Derived.Deep.OwnRows
import Derived.Maps.RangeWalk
import Derived.Test.YtndbjojjaapeaaaShelfb
import Derived.Shelf.SlIterI.Nil
import Derived.Shelf.SortM.Plain
import Derived.Shelf.SortM.SortNone
import Derived.Shelf.AbstractIn
import Derived.Lib.SlKeysI
import Derived.Test.YtndbjojjaapeaaaQd
import Derived.Test.YtndbjojjaapeaaaQg
import Derived.ShutString
import Derived.Lib.SmallJoins
/- Cycles of a permutation: mathematics. -/
namespace Go.Proofs.Ytndbjojjaapeaaa
set_option linter.unusedVariables false
open Go.RowKit

/-- a function applied again and again -/
def itN (f : Nat → Nat) : Nat → Nat → Nat
  | 0, x => x
  | j + 1, x => f (itN f j x)
structure PermF (f : Nat → Nat) (m : Nat) : Prop where
  lt : ∀ x, x < m → f x < m
  inj : ∀ x y, x < m → y < m → f x = f y → x = y
theorem itN_lt {f : Nat → Nat} {m : Nat} (h : PermF f m) {x : Nat} (hx : x < m) : ∀ j, itN f j x < m
  | 0 => hx
  | j + 1 => h.lt _ (itN_lt h hx j)
theorem itN_add (f : Nat → Nat) (x : Nat) : ∀ a b, itN f (a + b) x = itN f a (itN f b x)
  | 0, b => by rw [Nat.zero_add]; rfl
  | a + 1, b => by
    rw [show a + 1 + b = (a + b) + 1 by omega]
    show f (itN f (a + b) x) = f (itN f a (itN f b x))
    rw [itN_add f x a b]
theorem itN_inj {f : Nat → Nat} {m : Nat} (h : PermF f m) {x y : Nat} (hx : x < m) (hy : y < m) : ∀ j, itN f j x = itN f j y → x = y
  | 0, e => e
  | j + 1, e => itN_inj h hx hy j (h.inj _ _ (itN_lt h hx j) (itN_lt h hy j) e)
theorem nodup_le : ∀ (n : Nat) (l : List Nat), l.Nodup → (∀ x ∈ l, x < n) → l.length ≤ n
  | 0, [], _, _ => Nat.le_refl _
  | 0, x :: l, _, h => absurd (h x (by simp)) (by omega)
  | n + 1, l, hn, h => by
    have h1 := nodup_le n (l.erase n) (hn.erase n) fun x hx => by
      have := h x (List.mem_of_mem_erase hx)
      have hne : x ≠ n := fun e => by
        subst e
        exact (List.Nodup.mem_erase_iff hn).1 hx |>.1 rfl
      omega
    have h2 := List.length_erase_le (a := n) (l := l)
    by_cases hm : n ∈ l
    · rw [List.length_erase_of_mem hm] at h1
      omega
    · rw [List.erase_of_not_mem hm] at h1
      omega
theorem repeat_of {f : Nat → Nat} {m : Nat} (h : PermF f m) {x : Nat} (hx : x < m) : ∃ n, 1 ≤ n ∧ n ≤ m ∧ itN f n x = x := by
  refine Classical.byContradiction fun hno => ?_
  have hne : ∀ n, 1 ≤ n → n ≤ m → itN f n x ≠ x := fun n h1 h2 e => hno ⟨n, h1, h2, e⟩
  have hd : ((List.range (m + 1)).map fun j => itN f j x).Nodup := by
    rw [List.Nodup, List.pairwise_map]
    refine List.Pairwise.imp_of_mem ?_ List.pairwise_lt_range
    intro i j hi hj hij e
    have hj2 := List.mem_range.1 hj
    have e2 : itN f i x = itN f i (itN f (j - i) x) := by
      rw [← itN_add, show i + (j - i) = j by omega]; exact e
    exact hne (j - i) (by omega) (by omega) (itN_inj h hx (itN_lt h hx _) i e2).symm
  have := nodup_le m _ hd fun y hy => by
    obtain ⟨j, _, rfl⟩ := List.mem_map.1 hy
    exact itN_lt h hx j
  rw [List.length_map, List.length_range] at this
  omega
/-- the first one from j on of the numbers after which x is given back -/
def perF (f : Nat → Nat) (x : Nat) : Nat → Nat → Nat
  | 0, j => j
  | r + 1, j => if itN f j x = x then j else perF f x r (j + 1)
def perN (f : Nat → Nat) (m x : Nat) : Nat := perF f x m 1
theorem perF_is (f : Nat → Nat) (x n : Nat) : ∀ (r j : Nat), j ≤ n → n ≤ j + r → itN f n x = x → j ≤ perF f x r j ∧ perF f x r j ≤ n ∧ itN f (perF f x r j) x = x ∧ ∀ i, j ≤ i → i < perF f x r j → itN f i x ≠ x
  | 0, j, h1, h2, h3 => by
    obtain rfl : n = j := by omega
    exact ⟨Nat.le_refl _, Nat.le_refl _, h3, fun i a b => by unfold perF at b; omega⟩
  | r + 1, j, h1, h2, h3 => by
    unfold perF
    by_cases h : itN f j x = x
    · rw [if_pos h]
      exact ⟨Nat.le_refl _, h1, h, fun i a b => by omega⟩
    · rw [if_neg h]
      have hjn : j ≠ n := fun e => h (e ▸ h3)
      obtain ⟨k1, k2, k3, k4⟩ := perF_is f x n r (j + 1) (by omega) (by omega) h3
      refine ⟨by omega, k2, k3, fun i a b => ?_⟩
      by_cases e : i = j
      · subst e; exact h
      · exact k4 i (by omega) b
theorem per_facts {f : Nat → Nat} {m : Nat} (h : PermF f m) {x : Nat} (hx : x < m) : 1 ≤ perN f m x ∧ perN f m x ≤ m ∧ itN f (perN f m x) x = x ∧ ∀ i, 1 ≤ i → i < perN f m x → itN f i x ≠ x := by
  obtain ⟨n, h1, h2, h3⟩ := repeat_of h hx
  obtain ⟨k1, k2, k3, k4⟩ := perF_is f x n m 1 h1 (by omega) h3
  exact ⟨k1, Nat.le_trans k2 h2, k3, k4⟩
theorem per_uniq {f : Nat → Nat} {m : Nat} (h : PermF f m) {x n : Nat} (hx : x < m) (h1 : 1 ≤ n) (h3 : itN f n x = x) (h4 : ∀ i, 1 ≤ i → i < n → itN f i x ≠ x) : perN f m x = n := by
  obtain ⟨k1, k2, k3, k4⟩ := per_facts h hx
  rcases Nat.lt_trichotomy (perN f m x) n with e | e | e
  · exact absurd k3 (h4 _ k1 e)
  · exact e
  · exact absurd h3 (k4 n h1 e)
theorem per_distinct {f : Nat → Nat} {m : Nat} (h : PermF f m) {x i j : Nat} (hx : x < m) (hij : i < j) (hj : j < perN f m x) : itN f i x ≠ itN f j x := fun e => by
  have e2 : itN f i x = itN f i (itN f (j - i) x) := by
    rw [← itN_add, show i + (j - i) = j by omega]; exact e
  exact (per_facts h hx).2.2.2 (j - i) (by omega) (by omega) (itN_inj h hx (itN_lt h hx _) i e2).symm
theorem per_orbit {f : Nat → Nat} {m : Nat} (h : PermF f m) {x : Nat} (hx : x < m) (j : Nat) : perN f m (itN f j x) = perN f m x := by
  obtain ⟨k1, k2, k3, k4⟩ := per_facts h hx
  refine per_uniq h (itN_lt h hx j) k1 ?_ fun i a b e => k4 i a b ?_
  · rw [← itN_add, Nat.add_comm, itN_add, k3]
  · rw [← itN_add, Nat.add_comm, itN_add] at e
    exact itN_inj h (itN_lt h hx i) hx j e
/-- how many numbers below m have a property -/
def cntN (p : Nat → Bool) : Nat → Nat
  | 0 => 0
  | k + 1 => cntN p k + if p k then 1 else 0
theorem cntN_congr {p q : Nat → Bool} : ∀ m, (∀ x, x < m → p x = q x) → cntN p m = cntN q m
  | 0, _ => rfl
  | k + 1, h => by
    show cntN p k + _ = cntN q k + _
    rw [cntN_congr k (fun x hx => h x (by omega)), h k (by omega)]
theorem cntN_none {p : Nat → Bool} : ∀ m, (∀ x, x < m → p x = false) → cntN p m = 0
  | 0, _ => rfl
  | k + 1, h => by
    show cntN p k + _ = 0
    rw [cntN_none k (fun x hx => h x (by omega)), h k (by omega)]; rfl
theorem cntN_le (p : Nat → Bool) : ∀ m, cntN p m ≤ m
  | 0 => Nat.le_refl _
  | k + 1 => by
    show cntN p k + _ ≤ _
    have := cntN_le p k
    split <;> omega
theorem cntN_one {p q : Nat → Bool} {y : Nat} (hy : p y = false) (hq : ∀ x, x ≠ y → q x = p x) : ∀ m, cntN q m = cntN p m + if y < m ∧ q y = true then 1 else 0
  | 0 => by simp [cntN]
  | k + 1 => by
    have ih := cntN_one hy hq k
    show cntN q k + _ = cntN p k + _ + _
    rw [ih]
    by_cases e : k = y
    · subst e
      rw [hy]
      by_cases hk : q k = true
      · simp [hk]
      · simp [hk]
    · rw [hq k e]
      have hiff : (y < k ∧ q y = true) ↔ (y < k + 1 ∧ q y = true) := by
        constructor
        · rintro ⟨a, b⟩; exact ⟨by omega, b⟩
        · rintro ⟨a, b⟩; exact ⟨by omega, b⟩
      simp only [hiff]
      omega
/-- what has been seen, and how many cycles of each length: all cycles counted so far are whole -/
structure CInv (f : Nat → Nat) (m : Nat) (s : Nat → Bool) (c : Nat → Nat) : Prop where
  closed : ∀ y, y < m → s y = true → s (f y) = true
  count : ∀ n, cntN (fun z => s z && decide (perN f m z = n)) m = n * c n
/-- with the first j elements of the cycle of b -/
def addO (f : Nat → Nat) (s : Nat → Bool) (b j : Nat) (z : Nat) : Bool := s z || (List.range j).any fun i => decide (z = itN f i b)
theorem addO_zero (f : Nat → Nat) (s : Nat → Bool) (b : Nat) : addO f s b 0 = s := by funext z; simp [addO]
theorem addO_step (f : Nat → Nat) (s : Nat → Bool) (b j z : Nat) : addO f s b (j + 1) z = (addO f s b j z || decide (z = itN f j b)) := by
  unfold addO
  rw [List.range_succ, List.any_append, Bool.or_assoc]; simp
theorem not_seen {f : Nat → Nat} {m : Nat} {s : Nat → Bool} {c : Nat → Nat} (h : PermF f m) (hI : CInv f m s c) {b j : Nat} (hb : b < m) (hs : s b = false) (hj : j < perN f m b) : addO f s b j (itN f j b) = false := by
  obtain ⟨k1, k2, k3, k4⟩ := per_facts h hb
  have hcl : ∀ d, s (itN f j b) = true → s (itN f (d + j) b) = true := fun d => by
    induction d with
    | zero => intro e; rw [Nat.zero_add]; exact e
    | succ d ih =>
      intro e
      rw [show d + 1 + j = (d + j) + 1 by omega]
      exact hI.closed _ (itN_lt h hb _) (ih e)
  unfold addO
  rw [Bool.or_eq_false_iff]
  constructor
  · cases e : s (itN f j b) with
    | false => rfl
    | true =>
      have := hcl (perN f m b - j) e
      rw [show perN f m b - j + j = perN f m b by omega, k3, hs] at this
      cases this
  · rw [List.any_eq_false]
    intro i hi
    rw [List.mem_range] at hi
    simp only [decide_eq_true_eq]
    exact (per_distinct h hb hi hj).symm
theorem count_step {f : Nat → Nat} {m : Nat} {s : Nat → Bool} {c : Nat → Nat} (h : PermF f m) (hI : CInv f m s c) {b : Nat} (hb : b < m) (hs : s b = false) (n : Nat) : ∀ j, j ≤ perN f m b → cntN (fun z => addO f s b j z && decide (perN f m z = n)) m = n * c n + if n = perN f m b then j else 0
  | 0, _ => by
    rw [addO_zero, hI.count n]; simp
  | j + 1, hj => by
    have ih := count_step h hI hb hs n j (by omega)
    have hns := not_seen h hI hb hs (show j < perN f m b by omega)
    have hp := per_orbit h hb j
    rw [cntN_one (p := fun z => addO f s b j z && decide (perN f m z = n)) (y := itN f j b) (by simp only [hns, Bool.false_and]) (fun x hx => by
      simp only [addO_step]
      rw [decide_eq_false hx, Bool.or_false]) m, ih]
    have hlt := itN_lt h hb j
    have hq : (addO f s b (j + 1) (itN f j b) && decide (perN f m (itN f j b) = n)) = decide (perN f m b = n) := by
      rw [addO_step, decide_eq_true rfl, Bool.or_true, Bool.true_and, hp]
    simp only [hq, decide_eq_true_eq]
    by_cases e : n = perN f m b
    · rw [if_pos e, if_pos e, if_pos ⟨hlt, e.symm⟩]; omega
    · rw [if_neg e, if_neg e, if_neg (fun h => e h.2.symm)]
theorem orbit_end {f : Nat → Nat} {m : Nat} {s : Nat → Bool} {c : Nat → Nat} (h : PermF f m) {b : Nat} (hb : b < m) : addO f s b (perN f m b) (itN f (perN f m b) b) = true := by
  obtain ⟨k1, k2, k3, k4⟩ := per_facts h hb
  unfold addO
  rw [Bool.or_eq_true, List.any_eq_true]
  exact .inr ⟨0, List.mem_range.2 (by omega), decide_eq_true k3⟩
def bump (c : Nat → Nat) (n : Nat) : Nat → Nat := fun k => if k = n then c k + 1 else c k
theorem CInv.next {f : Nat → Nat} {m : Nat} {s : Nat → Bool} {c : Nat → Nat} (h : PermF f m) (hI : CInv f m s c) {b : Nat} (hb : b < m) (hs : s b = false) : CInv f m (addO f s b (perN f m b)) (bump c (perN f m b)) := by
  obtain ⟨k1, k2, k3, k4⟩ := per_facts h hb
  refine ⟨fun y hy hs2 => ?_, fun n => ?_⟩
  · unfold addO at hs2 ⊢
    rw [Bool.or_eq_true, List.any_eq_true] at hs2 ⊢
    rcases hs2 with h1 | ⟨i, hi, h1⟩
    · exact .inl (hI.closed y hy h1)
    · have h1 := of_decide_eq_true h1
      subst h1
      rw [List.mem_range] at hi
      by_cases e : i + 1 = perN f m b
      · refine .inr ⟨0, List.mem_range.2 (by omega), decide_eq_true ?_⟩
        show itN f (i + 1) b = b
        rw [e]; exact k3
      · exact .inr ⟨i + 1, List.mem_range.2 (by omega), decide_eq_true rfl⟩
  · rw [count_step h hI hb hs n _ (Nat.le_refl _)]
    unfold bump
    by_cases e : n = perN f m b
    · rw [if_pos e, if_pos e, Nat.mul_add, Nat.mul_one, e]
    · rw [if_neg e, if_neg e, Nat.add_zero]
theorem addO_keeps {f : Nat → Nat} {s : Nat → Bool} {b z : Nat} (j : Nat) (h : s z = true) : addO f s b j z = true := by unfold addO; rw [h]; rfl
theorem addO_self {f : Nat → Nat} {s : Nat → Bool} {b j : Nat} (hj : 1 ≤ j) : addO f s b j b = true := by
  unfold addO
  rw [Bool.or_eq_true, List.any_eq_true]
  exact .inr ⟨0, List.mem_range.2 (by omega), decide_eq_true rfl⟩
theorem CInv.zero (f : Nat → Nat) (m : Nat) : CInv f m (fun _ => false) (fun _ => 0) :=
  ⟨fun y hy h => by simp at h, fun n => by rw [cntN_none m (fun x _ => by simp)]; simp⟩
/-- how many elements lie in cycles of the length n -/
def manyN (f : Nat → Nat) (m n : Nat) : Nat := cntN (fun z => decide (perN f m z = n)) m
theorem CInv.all {f : Nat → Nat} {m : Nat} {s : Nat → Bool} {c : Nat → Nat} (hI : CInv f m s c) (hs : ∀ z, z < m → s z = true) (n : Nat) : manyN f m n = n * c n := by
  rw [← hI.count n]
  exact cntN_congr m fun z hz => by rw [hs z hz, Bool.true_and]
/-- how many cycles have the length n -/
def cycN (f : Nat → Nat) (m n : Nat) : Nat := manyN f m n / n
theorem CInv.cyc {f : Nat → Nat} {m : Nat} {s : Nat → Bool} {c : Nat → Nat} (hI : CInv f m s c) (hs : ∀ z, z < m → s z = true) {n : Nat} (hn : 1 ≤ n) : cycN f m n = c n := by
  unfold cycN
  rw [hI.all hs n, Nat.mul_div_cancel_left _ (by omega)]
end Go.Proofs.Ytndbjojjaapeaaa

/- Inverse. -/
namespace Go.Proofs.Ytndbjojjaapeaaa
set_option linter.unusedVariables false
open Go.RowKit

/-- the list as a function -/
def fnL (F : List Int) (x : Nat) : Nat := (F.getD x 0).toNat
theorem fnL_perm {F : List Int} {m : Nat} (hl : F.length = m) (hin : ∀ v ∈ F, 0 ≤ v ∧ v < m) (h : (equalR F).1 = -1) : PermF (fnL F) m ∧ ∀ x, x < m → F.getD x 0 = (fnL F x : Int) := by
  have hg : ∀ x, x < m → 0 ≤ F.getD x 0 ∧ F.getD x 0 < m := fun x hx => hin _ (by rw [List.getD_eq_getElem?_getD, List.getElem?_eq_getElem (by omega)]; exact List.getElem_mem _)
  have he : ∀ x, x < m → F.getD x 0 = (fnL F x : Int) := fun x hx => by
    have := hg x hx
    unfold fnL; omega
  rw [equal_none F hl] at h
  refine ⟨⟨fun x hx => by have := hg x hx; unfold fnL; omega, fun x y hx hy e => ?_⟩, he⟩
  have e2 : F.getD x 0 = F.getD y 0 := by rw [he x hx, he y hy, e]
  rcases Nat.lt_trichotomy x y with h1 | h1 | h1
  · exact absurd e2 (h x y h1 hy)
  · exact h1
  · exact absurd e2.symm (h y x h1 hx)
/-- the last x below k whose value is v -/
def invT (f : Nat → Nat) (v : Nat) : Nat → Nat
  | 0 => 0
  | k + 1 => if f k = v then k else invT f v k
theorem invT_succ (f : Nat → Nat) (v k : Nat) : invT f v (k + 1) = if f k = v then k else invT f v k := rfl
theorem invT_at {f : Nat → Nat} {m : Nat} (h : PermF f m) {x : Nat} (hx : x < m) : ∀ k, k ≤ m → x < k → invT f (f x) k = x
  | 0, _, h1 => by omega
  | k + 1, hk, h1 => by
    unfold invT
    by_cases e : f k = f x
    · rw [if_pos e]; exact h.inj _ _ (by omega) hx e
    · rw [if_neg e]
      exact invT_at h hx k (by omega) (by
        have : k ≠ x := fun e2 => e (by rw [e2])
        omega)
theorem invT_none {f : Nat → Nat} {v : Nat} : ∀ k, (∀ x, x < k → f x ≠ v) → invT f v k = 0
  | 0, _ => rfl
  | k + 1, h => by
    unfold invT
    rw [if_neg (h k (by omega))]
    exact invT_none k fun x hx => h x (by omega)
def invL (F : List Int) (m : Nat) : List Int := (List.range m).map fun v => ((invT (fnL F) v m : Nat) : Int)
def InvT (X : World) (B : Nat) (f : Nat → Nat) (k : Nat) : Prop := X.rowIs B 69 64 fun v => .int .i64 ((invT f v k : Nat) : Int)
theorem InvT.zero {X : World} {B : Nat} (f : Nat → Nat) (h : X.rowIs B 69 64 fun _ => .int .i64 0) : InvT X B f 0 := h
theorem InvT.next {X : World} {B k v : Nat} {f : Nat → Nat} (h : InvT X B f k) (hv : f k = v) : InvT (X.setCell ⟨B, v, none⟩ (.int .i64 (k : Int))) B f (k + 1) :=
  (h.set v (.int .i64 (k : Int))).congr fun j _ => by
    by_cases e : j = v
    · subst e; rw [if_pos rfl, invT_succ, if_pos hv]
    · rw [if_neg e, invT_succ, if_neg (fun e2 => e (by rw [← e2, hv]))]
theorem InvT.tb {X : World} {B m : Nat} {f : Nat → Nat} (h : InvT X B f m) (hf : ∀ x, x < m → f x < m) : Tb X B (fun v => ((invT f v m : Nat) : Int)) m :=
  World.rowIs.congr h fun j _ => by
    by_cases hj : j < m
    · rw [if_pos hj]
    · rw [if_neg hj, invT_none m fun x hx e => by have := hf x hx; omega]; rfl
theorem zero_start (w : World) (X : Array Value) (h : X = zeroA) : (w.alloc (.cells X 69)).rowIs w.heap.size 69 64 fun _ => .int .i64 0 := by
  subst h; exact zeros64 w
set_option maxRecDepth 100000 in
theorem isPerm_no (m : Int) (a : Option Addr) (n cap : Nat) (xs : List Int) (w : World) (hr : Row w a n (intL xs)) (hn : n ≤ 1000) (hp : funcB m xs = false) :
    Calls Try.prog 78 #[.int .i64 m, .slice a n cap] w fun e w' => e = .returned (.bool false) ∧ w' = w := by
  have h := isFunc_any m a n cap xs w hr hn
  rw [hp] at h
  have H := Lib.hid h
  clear h hr hp
  go_enter Try.func78, Try.ntmps78
  go_wp2_with fail
  refine H.out.mono ?_
  rintro e w1 ⟨rfl, hw⟩
  subst w1
  go_wp2
  go_ret
  exact ⟨rfl, rfl⟩
set_option maxRecDepth 100000 in
theorem isPerm_any (m : Nat) (g cap : Nat) (F : List Int) (w : World) (hr : Row w (some ⟨g, 0, none⟩) m (intL F)) (hcap : m ≤ cap) (hcm : cap ≤ 9223372036854775807) (hm : 2 ≤ m) (hm2 : m ≤ 64) (hin : ∀ v ∈ F, 0 ≤ v ∧ v < m) :
    Calls Try.prog 78 #[.int .i64 m, .slice (some ⟨g, 0, none⟩) m cap] w fun e w' => e = .returned (.bool (decide ((equalR F).1 < 0))) ∧ w' = w := by
  have hl : F.length = m := by have := hr.1; simpa [intL] using this
  have h := isFunc_any m (some ⟨g, 0, none⟩) m cap F w hr (by omega)
  rw [funcB_in hl hm hm2 hin] at h
  have hE := firstEqual_any g m cap F w hr (by omega) hcap hcm
  generalize (equalR F).1 = X1 at *
  generalize (equalR F).2 = X2 at *
  have H := Lib.hid h
  have HE := Lib.hid hE
  clear h hE hr hcap hcm hin hl
  go_enter Try.func78, Try.ntmps78
  go_wp2_with fail
  refine H.out.mono ?_
  rintro e w1 ⟨rfl, hw⟩
  subst w1
  go_wp2_with fail
  refine HE.out.mono ?_
  rintro e w1 ⟨rfl, hw⟩
  subst w1
  go_wp2
  go_ret
  exact ⟨rfl, rfl⟩
set_option maxRecDepth 100000 in
theorem Inverse_no (m : Int) (a : Option Addr) (n cap : Nat) (w : World) (h : Calls Try.prog 78 #[.int .i64 m, .slice a n cap] w fun e w' => e = .returned (.bool false) ∧ w' = w) :
    Calls Try.prog 33 #[.int .i64 m, .slice a n cap] w fun e w' => e = .returned (.tuple #[.slice none 0 0, .int .i64 2]) ∧ w' = w := by
  have H := Lib.hid h
  clear h
  go_enter Try.func33, Try.ntmps33
  go_wp2_with fail
  refine H.out.mono ?_
  rintro e w1 ⟨rfl, hw⟩
  subst w1
  go_wp2
  go_ret2
  exact ⟨rfl, rfl⟩
set_option maxRecDepth 100000 in
set_option maxHeartbeats 4000000 in
theorem Inverse_yes (m : Nat) (g cap : Nat) (F : List Int) (w : World) (hr : Row w (some ⟨g, 0, none⟩) m (intL F)) (hcap : m ≤ cap) (hcm : cap ≤ 9223372036854775807) (hm : 2 ≤ m) (hm2 : m ≤ 64) (hin : ∀ v ∈ F, 0 ≤ v ∧ v < m) (hp : (equalR F).1 = -1) :
    Calls Try.prog 33 #[.int .i64 m, .slice (some ⟨g, 0, none⟩) m cap] w fun e w' => ∃ v, e = .returned (.tuple #[v, .int .i64 0]) ∧ w'.ownsRow w.heap.size 3 1 v m (intL (invL F m)) ∧ Below w.heap.size w w' := by
  have hl : F.length = m := by have := hr.1; simpa [intL] using this
  obtain ⟨hP, hFx⟩ := fnL_perm hl hin hp
  have hI := isPerm_any m g cap F w hr hcap hcm hm hm2 hin
  rw [hp, show decide ((-1 : Int) < 0) = true from rfl] at hI
  have hLi := fun W => list_any m (fun v => ((invT (fnL F) v m : Nat) : Int)) W hm2
  have hTb := fun (X : World) (B : Nat) (h : InvT X B (fnL F) m) => h.tb hP.lt
  have hil : (List.range m).map (fun v => ((invT (fnL F) v m : Nat) : Int)) = invL F m := rfl
  rw [hil] at hLi
  obtain ⟨T, hT⟩ : ∃ T, tabA (fun v => ((invT (fnL F) v m : Nat) : Int)) m = T := ⟨_, rfl⟩
  have hTs : T.size = 64 := by rw [← hT]; exact tabA_size _ m
  have htc := fun (X : World) (B : Nat) (h : InvT X B (fnL F) m) => tb_cells (hTb X B h)
  rw [hT] at hLi htc
  have hlt := hP.lt
  generalize fnL F = f at *
  generalize invL F m = L at *
  have HI := Lib.hid hI
  have HLi := Lib.hid hLi
  have Htc := Lib.hid htc
  have HFx := Lib.hid hFx
  have Hlt := Lib.hid hlt
  have Hr := Lib.hid hr
  clear hI hLi htc hTb hFx hlt hr hP hin hp hil hT hl hcap hcm
  go_enter Try.func33, Try.ntmps33
  go_wp2_with fail
  refine HI.out.mono ?_
  rintro e w1 ⟨rfl, hw⟩
  subst w1
  go_wp2
  go_loopw [15] (fun i wr => ∃ k : Nat, k ≤ m ∧ i = .int .i64 k ∧ Hid (InvT wr w.heap.size f k) ∧ Hid (Below w.heap.size w wr)) (fun i _ => m - (intOf i).toNat)
  case atStart =>
    obtain ⟨z1, z2⟩ := zero_one w _ X64_zero
    exact ⟨0, Nat.zero_le _, rfl, InvT.zero f (zero_start w _ X64_zero), z1⟩
  case round =>
    obtain ⟨k, hk, rfl, HT, HB⟩ := hrel
    by_cases hlt : k < m
    · have hc : (k : Int) < (m : Int) := by omega
      obtain ⟨g', e1, x1⟩ := (Hr.out.below HB.out).int hlt
      simp only [Option.some.injEq, Addr.mk.injEq, and_true] at e1
      subst e1
      rw [HFx.out k hlt] at x1
      obtain ⟨v, hv⟩ : ∃ v, f k = v := ⟨_, rfl⟩
      have hvm : v < m := by rw [← hv]; exact Hlt.out k hlt
      rw [hv] at x1
      have hv64 : (v : Int) < 64 := by omega
      have hv64n : v < 64 := by omega
      have ck := HT.out.cell (i := v) hv64n
      have fk := World.rowIs.frozen HT.out v
      have HT2 := Lib.hid (HT.out.next hv)
      have HB2 := Lib.hid (HB.out.setCell (p := ⟨w.heap.size, v, none⟩) (Nat.le_refl _) (.int .i64 (k : Int)))
      have Hgo := Lib.hid (show k + 1 ≤ m ∧ k < m by omega)
      clear HT HB hv
      go_wp2
      go_roundw
      case rel => exact ⟨k + 1, Hgo.out.1, by go_num, HT2.out, HB2.out⟩
      case measure => simp [intOf]; have := Hgo.out; omega
    · obtain rfl : k = m := by omega
      have hc : ¬ (k : Int) < (k : Int) := by omega
      have hcs := Htc.out _ _ HT.out
      have Hcs := Lib.hid hcs
      clear HT hcs
      go_wp2_with (refine wpList_load_row (o := ⟨some 24, .load 69 (.tmp 6), _, _, _, _⟩) rfl 69 (.tmp 6) rfl w.heap.size rfl 69 T (0, 0) _ Hcs.out Try.underlying69 rfl (info_table T hTs) ?_)
      refine (HLi.out _).mono ?_
      rintro e w5 ⟨v5, rfl, o5, b5⟩
      have HO5 := Lib.hid (o5.mono HB.out.size)
      have HB5 := Lib.hid (b_next HB.out b5)
      clear o5 b5
      go_wp2
      go_ret2
      exact ⟨_, rfl, HO5.out, HB5.out⟩
end Go.Proofs.Ytndbjojjaapeaaa

/- countCycles: how many cycles of each length. -/
namespace Go.Proofs.Ytndbjojjaapeaaa
set_option linter.unusedVariables false
open Go.RowKit Go.Maps

/-- a map reads as the counts c -/
structure MapC (D : DataW Unit) (c : Nat → Nat) : Prop where
  map : IsMap D
  at' : ∀ n : Nat, D.atKey (.int .i64 (n : Int)) (.lit (.int .i64 0)) = .lit (.int .i64 (c n : Int))
  has : ∀ x : Int, Maps.has D (.int .i64 x) = true ↔ ∃ n : Nat, x = n ∧ 0 < c n
theorem MapC.zero : MapC (.map []) (fun _ => 0) :=
  ⟨⟨[], rfl⟩, fun n => rfl, fun x => ⟨fun h => by simp [Maps.has] at h, fun ⟨n, _, h⟩ => by omega⟩⟩
theorem MapC.put {D : DataW Unit} {c : Nat → Nat} (h : MapC D c) (n : Nat) : MapC (D.put (.int .i64 (n : Int)) (.lit (.int .i64 ((c n + 1 : Nat) : Int)))) (bump c n) := by
  have hk : WideAt.IsKeyLit (.int .i64 (n : Int)) := trivial
  refine ⟨h.map.put _ _, fun k => ?_, fun x => ?_⟩
  · unfold bump
    by_cases e : k = n
    · subst e; rw [if_pos rfl]; exact atKey_put_same h.map hk _ _
    · rw [if_neg e, atKey_put_other (fun e2 => e (Int.ofNat.inj (by simpa using e2)))]; exact h.at' k
  · by_cases e : x = (n : Int)
    · subst e
      rw [has_put_same h.map hk]
      exact ⟨fun _ => ⟨n, rfl, by unfold bump; rw [if_pos rfl]; omega⟩, fun _ => rfl⟩
    · rw [has_put_other (fun e2 => e (by simpa using e2)), h.has x]
      constructor
      · rintro ⟨k, rfl, hk⟩
        exact ⟨k, rfl, by unfold bump; rw [if_neg (fun e2 => e (by rw [e2]))]; exact hk⟩
      · rintro ⟨k, rfl, hk⟩
        unfold bump at hk
        rw [if_neg (fun e2 => e (by rw [e2]))] at hk
        exact ⟨k, rfl, hk⟩
abbrev XB64 : Array Value := #[.bool false, .bool false, .bool false, .bool false, .bool false, .bool false, .bool false, .bool false, .bool false, .bool false, .bool false, .bool false, .bool false, .bool false, .bool false, .bool false, .bool false, .bool false, .bool false, .bool false, .bool false, .bool false, .bool false, .bool false, .bool false, .bool false, .bool false, .bool false, .bool false, .bool false, .bool false, .bool false, .bool false, .bool false, .bool false, .bool false, .bool false, .bool false, .bool false, .bool false, .bool false, .bool false, .bool false, .bool false, .bool false, .bool false, .bool false, .bool false, .bool false, .bool false, .bool false, .bool false, .bool false, .bool false, .bool false, .bool false, .bool false, .bool false, .bool false, .bool false, .bool false, .bool false, .bool false, .bool false]
def falsB : Array Value := (List.replicate 64 (Value.bool false)).toArray
theorem XB64_eq : XB64 = falsB := rfl
theorem falsB_size : falsB.size = 64 := by unfold falsB; rw [List.size_toArray, List.length_replicate]
theorem falsB_get {i : Nat} (hi : i < 64) : falsB[i]? = some (.bool false) := by unfold falsB; rw [List.getElem?_toArray, List.getElem?_replicate, if_pos hi]
theorem bools64 (w : World) (X : Array Value) (h : X = falsB) (n : Nat) (hn : n = w.heap.size) : (w.alloc (.cells X 89)).rowIs n 89 64 fun _ => .bool false := by
  subst h hn
  have := World.rowIs_alloc w falsB 89 (fun _ => .bool false) (fun i hi => falsB_get (by rw [falsB_size] at hi; exact hi))
  rwa [falsB_size] at this
theorem zeroInt (w : World) : (zeroValue 3).run Try.prog w = .ok (.int .i64 0) w := by kernel_rfl
/-- where countCycles stands -/
structure CSt (w : World) (s : Nat → Bool) (nn : Nat) (D : DataW Unit) (W : World) : Prop where
  below : Below w.heap.size w W
  seen : W.rowIs (w.heap.size + 1) 89 64 fun z => .bool (s z)
  map : W.ownsMap Try.prog 3 (plainElem Try.prog 3) w.heap.size nn D
theorem CSt.mark {w W : World} {s s' : Nat → Bool} {nn x : Nat} {D : DataW Unit} (h : CSt w s nn D W) (hs : ∀ z, s' z = if z = x then true else s z) : CSt w s' nn D (W.setCell ⟨w.heap.size + 1, x, none⟩ (.bool true)) :=
  ⟨h.below.setCell (p := ⟨w.heap.size + 1, x, none⟩) (by show w.heap.size ≤ w.heap.size + 1; omega) _, (h.seen.set x (.bool true)).congr fun j _ => by
    rw [hs j]
    by_cases e : j = x
    · rw [if_pos e, if_pos e]
    · rw [if_neg e, if_neg e], h.map.setCell (a := ⟨w.heap.size + 1, x, none⟩) (by show w.heap.size ≠ w.heap.size + 1; omega) _⟩
theorem CSt.put {w W W2 : World} {s : Nat → Bool} {nn : Nat} {D D2 : DataW Unit} (h : CSt w s nn D W) (hm : W2.ownsMap Try.prog 3 (plainElem Try.prog 3) w.heap.size (nn + 1) D2) (hg : W.grownBy W2 (some w.heap.size)) : CSt w s (nn + 1) D2 W2 :=
  ⟨h.below.grown hg h.below.size (fun k e => by cases e; exact Nat.le_refl _), h.seen.of_block (hg.block _ h.seen.lt (by simp)), hm⟩
theorem CInv.le {f : Nat → Nat} {m : Nat} {s : Nat → Bool} {c : Nat → Nat} (h : CInv f m s c) {n : Nat} (hn : 1 ≤ n) : c n ≤ m := by
  have h1 := h.count n
  have h2 := cntN_le (fun z => s z && decide (perN f m z = n)) m
  rw [h1] at h2
  have := Nat.le_mul_of_pos_left (c n) hn
  omega
/-- the counts of all cycles lie in the map at b -/
def CcP (f : Nat → Nat) (m b : Nat) (w' : World) : Prop := ∃ (D : DataW Unit) (c : Nat → Nat) (nn : Nat), nn ≤ 64 ∧ w'.ownsMap Try.prog 3 (plainElem Try.prog 3) b nn D ∧ MapC D c ∧ c 0 = 0 ∧ ∀ n, manyN f m n = n * c n
set_option maxRecDepth 100000 in
set_option maxHeartbeats 8000000 in
theorem countCycles_any (m : Nat) (g cap : Nat) (F : List Int) (f : Nat → Nat) (w : World) (hr : Row w (some ⟨g, 0, none⟩) m (intL F)) (hm : 2 ≤ m) (hm2 : m ≤ 64) (hf : PermF f m) (hF : ∀ x, x < m → F.getD x 0 = (f x : Int)) :
    Calls Try.prog 79 #[.slice (some ⟨g, 0, none⟩) m cap] w fun e w' => e = .returned (.map (some w.heap.size)) ∧ CcP f m w.heap.size w' ∧ Below w.heap.size w w' := by
  have hmm := @run_makeMap Try.prog
  have hM := World.ownsMap_made (H := Unit) w Try.prog 3 (plainElem Try.prog 3)
  have Hr := Lib.hid hr
  have HF := Lib.hid hF
  have HM := Lib.hid hM
  have Hf := Lib.hid hf
  clear hr hF hM hf
  go_enter Try.func79, Try.ntmps79
  go_wp2
  go_loopw [11] (fun i wr => ∃ (k : Nat) (s : Nat → Bool) (c : Nat → Nat) (nn : Nat) (D : DataW Unit), k ≤ m ∧ i = .int .i64 k ∧ nn ≤ k ∧ Hid (CSt w s nn D wr) ∧ Hid (MapC D c) ∧ Hid (CInv f m s c) ∧ Hid (c 0 = 0) ∧ Hid (∀ z, z < k → s z = true)) (fun i _ => m - (intOf i).toNat)
  case atStart =>
    refine ⟨0, fun _ => false, fun _ => 0, 0, .map [], Nat.zero_le _, rfl, Nat.le_refl _, ⟨?_, ?_, ?_⟩, MapC.zero, CInv.zero f m, rfl, fun z hz => by omega⟩
    · exact ((Below.refl w.heap.size w).alloc (Nat.le_refl _) _).alloc (by simp) _
    · exact bools64 (w.alloc (.map #[] 0)) _ XB64_eq _ (by simp)
    · exact HM.out.alloc _
  case round =>
    obtain ⟨k, s, c, nn, D, hk, rfl, hnn, HS, HC, HI, H0, HZ⟩ := hrel
    by_cases hlt : k < m
    · have hc : (k : Int) < (m : Int) := by omega
      have Hgo := Lib.hid (show k + 1 ≤ m ∧ k < m ∧ k < 64 ∧ nn ≤ 64 ∧ nn ≤ k by omega)
      cases hsk : s k with
      | true =>
        have Hsk := Lib.hid hsk
        clear hsk hk hlt hnn
        go_wp2
        go_loopw [6, 7] (fun l x wr => l = .int .i64 0 ∧ x = .int .i64 k ∧ Hid (CSt w s nn D wr)) (fun _ _ _ => 0)
        case atStart => exact ⟨rfl, rfl, HS⟩
        case round =>
          clear HS
          obtain ⟨rfl, rfl, HS⟩ := hrel
          have hk64 : k < 64 := Hgo.out.2.2.1
          have hk64i : (k : Int) < 64 := by omega
          have ck := HS.out.seen.cell (i := k) hk64
          rw [Hsk.out] at ck
          go_wp2
          go_roundw
          case rel => exact ⟨k + 1, s, c, nn, D, Hgo.out.1, by go_num, by have := Hgo.out; omega, HS, HC, HI, H0, fun z hz => by
            by_cases e : z = k
            · subst e; exact Hsk.out
            · exact HZ.out z (by omega)⟩
          case measure => simp [intOf]; have := Hgo.out; omega
      | false =>
        have hkm : k < m := hlt
        obtain ⟨n, hn⟩ : ∃ n, perN f m k = n := ⟨_, rfl⟩
        have hpf := per_facts Hf.out hkm
        have hns := fun j (hj : j < perN f m k) => not_seen Hf.out HI.out hkm hsk hj
        have hend := orbit_end (s := s) (c := c) Hf.out hkm
        have hnext := HI.out.next Hf.out hkm hsk
        have hcn := hnext.le (n := perN f m k) hpf.1
        have hlo := fun j => itN_lt Hf.out hkm j
        rw [hn] at hpf hns hend hnext hcn
        have hbc : bump c n n = c n + 1 := by unfold bump; rw [if_pos rfl]
        rw [hbc] at hcn
        have hcn2 : c n ≤ 63 := by omega
        have hn64 : n ≤ 64 := by omega
        have hn1 : 1 ≤ n := hpf.1
        have Hns := Lib.hid hns
        have Hend := Lib.hid hend
        have Hnext := Lib.hid hnext
        have Hlo := Lib.hid hlo
        have Hbc := Lib.hid hbc
        have hm64 : m ≤ 64 := hm2
        clear hns hend hnext hcn hlo hbc hsk hk hlt hnn hpf hn
        have HS0 : Hid (CSt w (addO f s k 0) nn D wr) := by unfold Hid; rw [addO_zero]; exact HS.out
        clear HS
        go_wp2
        go_loopw [6, 7] (fun l x wr => ∃ j : Nat, j ≤ n ∧ l = .int .i64 j ∧ x = .int .i64 (itN f j k : Nat) ∧ Hid (CSt w (addO f s k j) nn D wr)) (fun l _ _ => n - (intOf l).toNat)
        case atStart => exact ⟨0, Nat.zero_le _, rfl, rfl, HS0⟩
        case round =>
          clear HS0
          obtain ⟨j, hj, rfl, rfl, HS⟩ := hrel
          have hx := Hlo.out j
          obtain ⟨x, hxe⟩ : ∃ x, itN f j k = x := ⟨_, rfl⟩
          rw [hxe] at hx ⊢
          have hx64 : x < 64 := by omega
          have hx64i : (x : Int) < 64 := by omega
          have hxm : (x : Int) < (m : Int) := by omega
          have cx := HS.out.seen.cell (i := x) hx64
          have fx := World.rowIs.frozen HS.out.seen x
          by_cases hlj : j < n
          · have hsx := Hns.out j hlj
            rw [hxe] at hsx
            rw [hsx] at cx
            have HS2 : Hid (CSt w (addO f s k (j + 1)) nn D (wr.setCell ⟨w.heap.size + 1, x, none⟩ (.bool true))) := HS.out.mark fun z => by
              rw [addO_step, hxe]
              by_cases e : z = x
              · rw [if_pos e, decide_eq_true e, Bool.or_true]
              · rw [if_neg e, decide_eq_false e, Bool.or_false]
            obtain ⟨g', e1, x1⟩ := (Hr.out.below HS2.out.below).int hx
            simp only [Option.some.injEq, Addr.mk.injEq, and_true] at e1
            subst e1
            rw [HF.out x hx] at x1
            have Hxe := Lib.hid (show f x = itN f (j + 1) k by show f x = f (itN f j k); rw [hxe])
            have Hg2 := Lib.hid (show j + 1 ≤ n ∧ j < n ∧ j ≤ 64 by omega)
            have hj64 : j ≤ 64 := Hg2.out.2.2
            clear hsx HS hxe
            go_wp2
            go_roundw
            case rel => exact ⟨j + 1, Hg2.out.1, by go_num, by rw [← Hxe.out], HS2⟩
            case measure => simp [intOf]; have := Hg2.out; omega
          · obtain rfl : j = n := by omega
            rw [← hxe, Hend.out] at cx
            rw [hxe] at cx
            have hgt : (0 : Int) < (j : Int) := by omega
            have hgt2 : decide (0 < j) = true := decide_eq_true (by omega)
            have hgt3 : 0 < j := by omega
            have Hwc : Hid ((Lit.int .i64 (((c j + 1 : Nat) : Int))).wf = true) := WalkArith.wf_i64 (by omega)
            have Hwj : Hid ((Lit.int .i64 (j : Int)).wf = true) := WalkArith.wf_i64 (by omega)
            have Hadd : Hid (IntKind.i64.wrap ((c j : Int) + 1) = ((c j + 1 : Nat) : Int)) := by unfold Hid; rw [IntWalk.i64_in _ (by omega)]; rfl
            have Hj1 := Lib.hid hn1
            have Hb0 : Hid (bump c j 0 = 0) := by unfold Hid bump; rw [if_neg (by omega)]; exact H0.out
            have HS2 := Lib.hid HS.out
            have hown := HS.out.map
            have hnn64 : nn ≤ 64 := Hgo.out.2.2.2.1
            clear HS hxe fx hlj hj hn64 hn1 hcn2 hx hxm hkm
            go_wp2_with (first
              | (at_lookup; refine wpList_lookup_own_int _ rfl _ _ 77 rfl 3 3 .i64 (int_keyed Try.underlying3) Try.underlying77 Try.underlying3 (zeroInt _) w.heap.size nn D rfl hown _ _ rfl (keyOf_int_mk Try.underlying3 Hwj.out) ?_; intro c0 hat hwc0; rw [HC.out.at' j] at hat; simp only [DataW.lit.injEq, Lit.int.injEq, true_and] at hat; subst hat; have hadd := Hadd.out)
              | (at_mapUpdate; refine wpList_mapUpdate_own _ rfl _ _ _ 77 rfl 3 3 (int_keyed Try.underlying3) Try.underlying77 _ w.heap.size nn D rfl hown (by unfold maxLen; omega) _ _ _ rfl rfl (keyOf_int_mk Try.underlying3 Hwj.out) (.lit (.int .i64 ((c j + 1 : Nat) : Int))) [] (plainElem_int Try.underlying3 Hwc.out) ?_; intro w2 hM2 hg2))
            have HS3 := Lib.hid (HS2.out.put hM2 hg2)
            have HC3 := Lib.hid (HC.out.put j)
            clear hM2 hg2 hown
            go_wp2
            go_roundw
            case rel => exact ⟨k + 1, addO f s k j, bump c j, nn + 1, _, Hgo.out.1, by go_num, by have := Hgo.out; omega, HS3, HC3, Hnext, Hb0, fun z hz => by
              by_cases e : z = k
              · subst e; exact addO_self Hj1.out
              · exact addO_keeps j (HZ.out z (by omega))⟩
            case measure => simp [intOf]; have := Hgo.out; omega
    · obtain rfl : k = m := by omega
      have hc : ¬ (k : Int) < (k : Int) := by omega
      have hres := HI.out.all HZ.out
      have Hres := Lib.hid hres
      have hnn64 : nn ≤ 64 := by omega
      clear hres HI HZ
      go_wp2
      go_ret
      exact ⟨rfl, ⟨D, c, nn, hnn64, HS.out.map, HC.out, H0.out, Hres.out⟩, HS.out.below⟩
end Go.Proofs.Ytndbjojjaapeaaa

/- The order of a permutation: mathematics. -/
namespace Go.Proofs.Ytndbjojjaapeaaa
set_option linter.unusedVariables false
open Go.RowKit

def sumT (g : Nat → Nat) : Nat → Nat
  | 0 => 0
  | k + 1 => sumT g k + g k
theorem sumT_congr {g h : Nat → Nat} : ∀ K, (∀ n, n < K → g n = h n) → sumT g K = sumT h K
  | 0, _ => rfl
  | k + 1, e => by
    show sumT g k + g k = sumT h k + h k
    rw [sumT_congr k (fun n hn => e n (by omega)), e k (by omega)]
theorem sumT_le {g h : Nat → Nat} : ∀ K, (∀ n, n < K → g n ≤ h n) → sumT g K ≤ sumT h K
  | 0, _ => Nat.le_refl _
  | k + 1, e => Nat.add_le_add (sumT_le k (fun n hn => e n (by omega))) (e k (by omega))
theorem sumT_one {g : Nat → Nat} (x a : Nat) : ∀ K, sumT (fun n => g n + if n = x then a else 0) K = sumT g K + if x < K then a else 0
  | 0 => by simp [sumT]
  | k + 1 => by
    show sumT _ k + (g k + if k = x then a else 0) = sumT g k + g k + _
    rw [sumT_one x a k]
    by_cases e : k = x
    · subst e
      rw [if_pos rfl, if_neg (by omega), if_pos (by omega)]; omega
    · rw [if_neg e]
      by_cases h : x < k
      · rw [if_pos h, if_pos (by omega)]; omega
      · rw [if_neg h, if_neg (by omega)]; omega
theorem sumT_zero : ∀ K, sumT (fun _ => 0) K = 0
  | 0 => rfl
  | k + 1 => by show sumT _ k + 0 = 0; rw [sumT_zero k]
/-- each element lies in one cycle -/
theorem many_sum (p : Nat → Nat) (K : Nat) : ∀ m, (∀ z, z < m → p z < K) → sumT (fun n => cntN (fun z => decide (p z = n)) m) K = m
  | 0, _ => sumT_zero K
  | m + 1, h => by
    have ih := many_sum p K m fun z hz => h z (by omega)
    have e : (fun n => cntN (fun z => decide (p z = n)) (m + 1)) = fun n => cntN (fun z => decide (p z = n)) m + if n = p m then 1 else 0 := by
      funext n
      show cntN (fun z => decide (p z = n)) m + (if decide (p m = n) = true then 1 else 0) = _
      by_cases e : p m = n
      · rw [decide_eq_true e, if_pos rfl, if_pos e.symm]
      · rw [decide_eq_false e, if_neg (by decide), if_neg (fun h => e h.symm)]
    rw [e, sumT_one, ih, if_pos (h m (by omega))]
theorem count_sum {f : Nat → Nat} {m : Nat} {c : Nat → Nat} (hf : PermF f m) (hm : m ≤ 64) (hc : ∀ n, manyN f m n = n * c n) : sumT (fun n => n * c n) 65 = m := by
  rw [← many_sum (perN f m) 65 m fun z hz => by have := (per_facts hf hz).2.1; omega]
  exact sumT_congr 65 fun n _ => (hc n).symm
/-- the least common multiple of what has been handled -/
structure LcmOf (o : Nat) (h : Nat → Bool) : Prop where
  pos : 1 ≤ o
  div : ∀ n, h n = true → n ∣ o
  least : ∀ d, (∀ n, h n = true → n ∣ d) → o ∣ d
theorem LcmOf.none : LcmOf 1 (fun _ => false) := ⟨Nat.le_refl _, fun n h => by simp at h, fun d _ => Nat.one_dvd d⟩
theorem LcmOf.step {o x : Nat} {h : Nat → Bool} (H : LcmOf o h) (hx : 1 ≤ x) : LcmOf (Nat.lcm o x) (fun n => h n || decide (n = x)) := by
  refine ⟨Nat.lcm_pos H.pos hx, fun n hn => ?_, fun d hd => ?_⟩
  · simp only [Bool.or_eq_true, decide_eq_true_eq] at hn
    rcases hn with h1 | rfl
    · exact Nat.dvd_trans (H.div n h1) (Nat.dvd_lcm_left o x)
    · exact Nat.dvd_lcm_right o n
  · exact Nat.lcm_dvd (H.least d fun n hn => hd n (by simp [hn])) (hd x (by simp))
theorem LcmOf.uniq {o o' : Nat} {h : Nat → Bool} (H : LcmOf o h) (H' : LcmOf o' h) : o = o' := Nat.dvd_antisymm (H.least _ H'.div) (H'.least _ H.div)
theorem LcmOf.congr {o : Nat} {h h' : Nat → Bool} (H : LcmOf o h) (e : ∀ n, h n = h' n) : LcmOf o h' := by
  rw [show h' = h from funext fun n => (e n).symm]; exact H
/-- the least common multiple of the lengths below K that are there -/
def ordF (c : Nat → Nat) : Nat → Nat
  | 0 => 1
  | k + 1 => if 0 < k ∧ 0 < c k then Nat.lcm (ordF c k) k else ordF c k
theorem ordF_is (c : Nat → Nat) : ∀ K, LcmOf (ordF c K) (fun n => decide (n < K ∧ 0 < n ∧ 0 < c n))
  | 0 => LcmOf.none.congr fun n => by simp
  | k + 1 => by
    have ih := ordF_is c k
    unfold ordF
    by_cases h : 0 < k ∧ 0 < c k
    · rw [if_pos h]
      refine (ih.step h.1).congr fun n => ?_
      rw [Bool.eq_iff_iff]
      simp only [Bool.or_eq_true, decide_eq_true_eq]
      constructor
      · rintro (⟨h1, h2⟩ | rfl)
        · exact ⟨by omega, h2⟩
        · exact ⟨by omega, h⟩
      · rintro ⟨h1, h2⟩
        by_cases e : n = k
        · exact .inr e
        · exact .inl ⟨by omega, h2⟩
    · rw [if_neg h]
      refine ih.congr fun n => ?_
      rw [Bool.eq_iff_iff]
      simp only [decide_eq_true_eq]
      constructor
      · rintro ⟨h1, h2⟩; exact ⟨by omega, h2⟩
      · rintro ⟨h1, h2⟩
        by_cases e : n = k
        · subst e; exact absurd h2 h
        · exact ⟨by omega, h2⟩
def ordC (c : Nat → Nat) : Nat := ordF c 65
theorem cube_le : ∀ x : Fin 65, x.1 ^ 3 ≤ 3 ^ x.1 ∨ x.1 = 0 := by decide +kernel
theorem big_bound {o S : Nat} (h : o ^ 3 ≤ 3 ^ S) (hS : S ≤ 64) : o ≤ 17179869184 := by
  refine Nat.le_of_not_lt fun hlt => ?_
  have h1 : 17179869185 ^ 3 ≤ o ^ 3 := Nat.pow_le_pow_left hlt 3
  have h2 : 3 ^ S ≤ 3 ^ 64 := Nat.pow_le_pow_right (by decide) hS
  have h3 : ¬ (17179869185 : Nat) ^ 3 ≤ 3 ^ 64 := by decide
  exact h3 (Nat.le_trans h1 (Nat.le_trans h h2))
theorem lcm_quo (o x : Nat) : o * (x / Nat.gcd o x) = Nat.lcm o x := by
  unfold Nat.lcm
  rw [Nat.mul_div_assoc _ (Nat.gcd_dvd_right o x)]
theorem cube_step {o x S : Nat} (h : o ^ 3 ≤ 3 ^ S) (hx : 1 ≤ x) (hx2 : x ≤ 64) : (Nat.lcm o x) ^ 3 ≤ 3 ^ (S + x) := by
  have h1 : Nat.lcm o x ≤ o * x := by
    rw [← lcm_quo]
    exact Nat.mul_le_mul_left o (Nat.div_le_self _ _)
  have h2 : (Nat.lcm o x) ^ 3 ≤ (o * x) ^ 3 := Nat.pow_le_pow_left h1 3
  rw [Nat.mul_pow] at h2
  rcases cube_le ⟨x, by omega⟩ with h3 | h3
  · simp only at h3
    rw [Nat.pow_add]
    exact Nat.le_trans h2 (Nat.mul_le_mul h h3)
  · simp only at h3; omega
def hSum (h : Nat → Bool) : Nat := sumT (fun n => if h n = true then n else 0) 65
theorem hSum_step {h : Nat → Bool} {x : Nat} (hx : h x = false) (hx2 : x ≤ 64) : hSum (fun n => h n || decide (n = x)) = hSum h + x := by
  unfold hSum
  rw [show (fun n => if (h n || decide (n = x)) = true then n else 0) = fun n => (if h n = true then n else 0) + if n = x then x else 0 from by
    funext n
    by_cases e : n = x
    · subst e; simp [hx]
    · simp [e]]
  rw [sumT_one, if_pos (by omega)]
theorem hSum_le {h : Nat → Bool} {c : Nat → Nat} (hc : ∀ n, h n = true → 0 < c n) : hSum h ≤ sumT (fun n => n * c n) 65 :=
  sumT_le 65 fun n _ => by
    by_cases e : h n = true
    · rw [if_pos e]; exact Nat.le_mul_of_pos_right n (hc n e)
    · rw [if_neg e]; exact Nat.zero_le _
theorem many_le {f : Nat → Nat} {m : Nat} {c : Nat → Nat} (hc : ∀ n, manyN f m n = n * c n) {n : Nat} (h : 0 < c n) : n ≤ m := by
  have h1 := hc n
  have h2 : manyN f m n ≤ m := cntN_le _ m
  have := Nat.le_mul_of_pos_right n h
  omega
end Go.Proofs.Ytndbjojjaapeaaa

/- Order. -/
namespace Go.Proofs.Ytndbjojjaapeaaa
set_option linter.unusedVariables false
open Go.RowKit Go.Maps

theorem same_lit (a b : Int) : (Lit.int .i64 a).sameKey (.int .i64 b) = decide (a = b) := by
  by_cases h : a = b
  · subst h
    rw [decide_eq_true rfl]
    exact WideAt.sameKey_self trivial
  · rw [decide_eq_false h]
    cases e : (Lit.int .i64 a).sameKey (.int .i64 b) with
    | false => rfl
    | true => exact absurd (by simpa using WideAt.sameKey_eq e) h
/-- where the loop over the map stands: o is the least common multiple of what has been handled -/
structure OSt (D : DataW Unit) (c : Nat → Nat) (left : Lit → Bool) (h : Nat → Bool) (o : Nat) : Prop where
  lcm : LcmOf o h
  cube : o ^ 3 ≤ 3 ^ hSum h
  sub : ∀ x : Int, left (.int .i64 x) = true → ∃ n : Nat, x = n ∧ 0 < c n
  iff : ∀ n : Nat, h n = true ↔ (0 < c n ∧ left (.int .i64 (n : Int)) = false)
theorem OSt.start {D : DataW Unit} {c : Nat → Nat} (hc : MapC D c) : OSt D c (Maps.has D) (fun _ => false) 1 :=
  ⟨LcmOf.none, by
    have : hSum (fun _ => false) = 0 := by unfold hSum; simp only [Bool.false_eq_true, if_false]; exact sumT_zero 65
    rw [this]; decide, fun x hx => (hc.has x).1 hx, fun n => ⟨fun h => by simp at h, fun ⟨h1, h2⟩ => by
    have := (hc.has (n : Int)).2 ⟨n, rfl, h1⟩
    rw [h2] at this; cases this⟩⟩
theorem OSt.next {D : DataW Unit} {c : Nat → Nat} {left : Lit → Bool} {h : Nat → Bool} {o x : Nat} (H : OSt D c left h o) (hx : left (.int .i64 (x : Int)) = true) (h0 : c 0 = 0) (h64 : x ≤ 64) : OSt D c (fun z => left z && !z.sameKey (.int .i64 (x : Int))) (fun n => h n || decide (n = x)) (Nat.lcm o x) := by
  obtain ⟨x', e, hcx⟩ := H.sub _ hx
  obtain rfl : x' = x := by omega
  have hx1 : 1 ≤ x' := Nat.pos_of_ne_zero fun e => by subst e; omega
  have hhx : h x' = false := by
    cases e : h x' with
    | false => rfl
    | true => have := ((H.iff x').1 e).2; rw [hx] at this; cases this
  refine ⟨H.lcm.step hx1, by rw [hSum_step hhx h64]; exact cube_step H.cube hx1 h64, fun y hy => H.sub y (by simp only [Bool.and_eq_true] at hy; exact hy.1), fun n => ?_⟩
  rw [Bool.or_eq_true, H.iff n, decide_eq_true_eq, Bool.and_eq_false_iff, same_lit]
  simp only [Bool.not_eq_false', decide_eq_true_eq]
  constructor
  · rintro (⟨h1, h2⟩ | rfl)
    · exact ⟨h1, .inl h2⟩
    · exact ⟨hcx, .inr rfl⟩
  · rintro ⟨h1, h2 | h2⟩
    · exact .inl ⟨h1, h2⟩
    · exact .inr (by omega)
theorem OSt.done {D : DataW Unit} {c : Nat → Nat} {left : Lit → Bool} {h : Nat → Bool} {o : Nat} (H : OSt D c left h o) (hl : ∀ kl, left kl = false) (h0 : c 0 = 0) (h64 : ∀ n, 0 < c n → n ≤ 64) : o = ordC c :=
  H.lcm.uniq ((ordF_is c 65).congr fun n => by
    rw [Bool.eq_iff_iff, H.iff n, decide_eq_true_eq]
    constructor
    · rintro ⟨_, _, h1⟩; exact ⟨h1, hl _⟩
    · rintro ⟨h1, _⟩
      have := h64 n h1
      exact ⟨by omega, Nat.pos_of_ne_zero fun e => by subst e; omega, h1⟩)
theorem ord_nums {o x : Nat} (ho : o ≤ 17179869184) (h1 : 1 ≤ o) (hx : 1 ≤ x) (hx2 : x ≤ 64) : ∃ g q r : Nat, Nat.gcd o x = g ∧ Nat.lcm o x = r ∧ Int.tdiv (x : Int) (g : Int) = (q : Int) ∧ IntKind.i64.wrap (q : Int) = (q : Int) ∧ wrap64 (q : Int) = (q : Int) ∧ ¬ (g : Int) = 0 ∧ ((g : Int) == 0) = false ∧ IntKind.i64.wrap ((o : Int) * (q : Int)) = (r : Int) ∧ wrap64 ((o : Int) * (q : Int)) = (r : Int) := by
  have hg : 1 ≤ Nat.gcd o x := Nat.gcd_pos_of_pos_left x h1
  obtain ⟨h2, h3, h4⟩ := quo_int (m := x) (p := Nat.gcd o x) (d := x / Nat.gcd o x) rfl (Nat.le_trans (Nat.div_le_self _ _) hx2)
  have hl := lcm_quo o x
  have hq : x / Nat.gcd o x ≤ 64 := Nat.le_trans (Nat.div_le_self _ _) hx2
  have hr : Nat.lcm o x ≤ 17179869184 * 64 := by rw [← hl]; exact Nat.mul_le_mul ho hq
  have e : (o : Int) * ((x / Nat.gcd o x : Nat) : Int) = ((Nat.lcm o x : Nat) : Int) := by rw [← hl]; simp
  refine ⟨_, _, _, rfl, rfl, h2, h3, h4, by omega, by rw [beq_eq_false_iff_ne]; omega, ?_, ?_⟩
  · rw [e]; exact IntWalk.i64_in _ (by omega)
  · rw [e]; exact IntWalk.wrap64_in _ (by omega)
set_option maxRecDepth 100000 in
theorem Order_no (m : Int) (a : Option Addr) (n cap : Nat) (w : World) (h : Calls Try.prog 78 #[.int .i64 m, .slice a n cap] w fun e w' => e = .returned (.bool false) ∧ w' = w) :
    Calls Try.prog 34 #[.int .i64 m, .slice a n cap] w fun e w' => e = .returned (.tuple #[.int .i64 0, .int .i64 2]) ∧ w' = w := by
  have H := Lib.hid h
  clear h
  go_enter Try.func34, Try.ntmps34
  go_wp2_with fail
  refine H.out.mono ?_
  rintro e w1 ⟨rfl, hw⟩
  subst w1
  go_wp2
  go_ret2
  exact ⟨rfl, rfl⟩
set_option maxRecDepth 100000 in
set_option maxHeartbeats 4000000 in
theorem Order_yes (m : Nat) (g cap : Nat) (F : List Int) (w : World) (hr : Row w (some ⟨g, 0, none⟩) m (intL F)) (hcap : m ≤ cap) (hcm : cap ≤ 9223372036854775807) (hm : 2 ≤ m) (hm2 : m ≤ 64) (hin : ∀ v ∈ F, 0 ≤ v ∧ v < m) (hp : (equalR F).1 = -1) :
    Calls Try.prog 34 #[.int .i64 m, .slice (some ⟨g, 0, none⟩) m cap] w fun e w' => ∃ c : Nat → Nat, e = .returned (.tuple #[.int .i64 (ordC c : Nat), .int .i64 0]) ∧ c 0 = 0 ∧ (∀ n, manyN (fnL F) m n = n * c n) ∧ Below w.heap.size w w' := by
  have hl : F.length = m := by have := hr.1; simpa [intL] using this
  obtain ⟨hP, hFx⟩ := fnL_perm hl hin hp
  have hI := isPerm_any m g cap F w hr hcap hcm hm hm2 hin
  rw [hp, show decide ((-1 : Int) < 0) = true from rfl] at hI
  have hC := countCycles_any m g cap F (fnL F) w hr hm hm2 hP hFx
  generalize fnL F = f at *
  have HI := Lib.hid hI
  have HC := Lib.hid hC
  have HP := Lib.hid hP
  clear hI hC hFx hP hin hp hl hcap hcm hr
  go_enter Try.func34, Try.ntmps34
  go_wp2_with fail
  refine HI.out.mono ?_
  rintro e w1 ⟨rfl, hw⟩
  subst w1
  go_wp2_with fail
  refine HC.out.mono ?_
  rintro e w1 ⟨rfl, ⟨D, c, nn, hnn, hown, hmc, h0, hmany⟩, b1⟩
  have hsum : sumT (fun n => n * c n) 65 ≤ 64 := by rw [count_sum HP.out hm2 hmany]; exact hm2
  have h64 : ∀ n, 0 < c n → n ≤ 64 := fun n hn => Nat.le_trans (many_le hmany hn) hm2
  have HS0 := Lib.hid (OSt.start hmc)
  have H0 := Lib.hid h0
  have Hmany := Lib.hid hmany
  have Hsum := Lib.hid hsum
  have H64 := Lib.hid h64
  have B1 := Lib.hid b1
  have hbl := hown.lt
  clear hmc h0 hmany hsum h64 b1 HI HC
  go_wp2_with (at_range; refine wpList_range_own _ rfl _ 77 rfl 3 3 (int_keyed Try.underlying3) Try.underlying77 _ w.heap.size nn D rfl hown ?_; intro w2 hrg0 hg0 hs0)
  go_frame
  obtain ⟨r, hr⟩ : ∃ r, w1.heap.size = r := ⟨_, rfl⟩
  rw [hr] at hrg0 hs0 ⊢
  have Hr1 : Hid (w.heap.size < r) := by unfold Hid; rw [← hr]; exact hbl
  have HB2 : Hid (Below w.heap.size w w2) := B1.out.grown hg0 B1.out.size (fun j hj => by cases hj)
  have HR0 := Lib.hid hrg0
  clear hrg0 hg0 hs0 hr hown hbl B1
  go_loopw [6] (fun ov wr => ∃ (o : Nat) (left : Lit → Bool) (cnt : Nat) (h : Nat → Bool), ov = .int .i64 o ∧ Hid (wr.ranges Try.prog 3 (plainElem Try.prog 3) w.heap.size r nn D left cnt) ∧ Hid (OSt D c left h o) ∧ Hid (Below w.heap.size w wr)) (fun _ wr => wr.rangeLeft w.heap.size r)
  case atStart => exact ⟨1, _, _, _, rfl, HR0, HS0, HB2⟩
  case round =>
    clear HS0 HB2 HR0
    obtain ⟨o, left, cnt, h, rfl, HR, HS, HB⟩ := hrel
    go_wp2_with (at_next; refine wpList_next_ranges_ii _ rfl _ rfl 3 3 .i64 .i64 (int_keyed Try.underlying3) Try.underlying3 Try.underlying3 w.heap.size r nn _ _ _ rfl HR.out ?_ ?_)
    · intro hc0 hl0
      have hres := HS.out.done hl0 H0.out H64.out
      have Hres := Lib.hid hres
      clear hres hl0 hc0
      go_wp2
      go_ret2
      exact ⟨c, by rw [← Hres.out]; rfl, H0.out, Hmany.out, HB.out⟩
    · intro x cc w3 cnt3 hwx hwc hlx hat hrg3 hlt3 hg3 hs3 hen3
      obtain ⟨x, rfl, hcx⟩ := HS.out.sub _ hlx
      have hx64 := H64.out x hcx
      have hx1 : 1 ≤ x := Nat.pos_of_ne_zero fun e => by subst e; have := H0.out; omega
      have hSle : hSum h ≤ 64 := Nat.le_trans (hSum_le fun n hn => ((HS.out.iff n).1 hn).1) Hsum.out
      have hob := big_bound HS.out.cube hSle
      have hdv := fun W => divisor_any o x (by omega) (by omega) W
      have hnums := ord_nums hob HS.out.lcm.pos hx1 hx64
      have HN := Lib.hid (HS.out.next hlx H0.out hx64)
      have HB3 : Hid (Below w.heap.size w w3) := HB.out.grown hg3 HB.out.size (fun j hj => by cases hj; exact Nat.le_of_lt Hr1.out)
      have HR3 := Lib.hid hrg3
      have Hms : Hid (cnt3 < cnt) := hlt3
      have Hen3 := hen3
      obtain ⟨gg, q, rr, e1, e2, n1, n2, n3, n4, n5, n6, n7⟩ := hnums
      rw [e1] at hdv
      rw [e2] at HN
      have HD := Lib.hid hdv
      clear hdv e1 e2 hwx hwc hlx hat hrg3 hlt3 hg3 hs3 hcx hSle hob HB hx64 hx1
      go_wp2_with fail
      refine (HD.out _).mono ?_
      rintro e' w4 ⟨rfl, q4, rfl⟩
      have HR4 : Hid ((w3.drewN q4).ranges Try.prog 3 (plainElem Try.prog 3) w.heap.size r nn D (fun z => left z && !z.sameKey (.int .i64 (x : Int))) cnt3) := HR3.out
      have HB4 : Hid (Below w.heap.size w (w3.drewN q4)) := below_drewN HB3.out q4
      have Hl : Hid ((w3.drewN q4).rangeLeft w.heap.size r < wr.rangeLeft w.heap.size r) := by unfold Hid; rw [HR4.out.left_eq, HR.out.left_eq]; exact Hms.out
      clear HR3 HB3 Hen3 hen3
      go_wp2
      go_roundw
      case rel => exact ⟨rr, _, _, _, rfl, HR4, HN, HB4⟩
      case measure => exact Hl.out
end Go.Proofs.Ytndbjojjaapeaaa

/- Cycles. -/
namespace Go.Proofs.Ytndbjojjaapeaaa
set_option linter.unusedVariables false
open Go.RowKit Go.Maps Go.Sort Go.Shelf

theorem sortsA (m : Nat) : AnyZI.SortsIn Try.prog Try.sortedA_ren Fence.wide m :=
  ⟨fun blk off cap ss W hH hblk hsz => callsIn_wide.2 (AnyM.slices_Sort_int Try.sortA blk off cap ss W hH hblk hsz),
   fun p cap W => callsIn_wide.2 (AnyM.slices_Sort_int_none Try.sortA p cap W)⟩
theorem keys_call (mb : Option Nat) (W : World) : Calls Try.prog 82 #[.map mb] W fun e w' => e = .returned (.func (.func 102) #[] #[.pointer (some ⟨W.heap.size, 0, none⟩)]) ∧ w' = W.alloc (.cells #[.map mb] 77) := by
  refine (callsIn_wide (n := 5)).1 ?_
  exact AnyZI.keys_in Try.keysA Fence.wide 5 trivial rfl mb W
set_option maxHeartbeats 1000000 in
theorem sorted_call {H : Type} (b nn : Nat) (D0 : DataW H) (R : Value → Option (DataW H × List MemPlace)) (w : World) (hown : w.ownsMap Try.prog 3 R b nn D0) (hmax : Maps.size D0 ≤ maxLen) (hbytes : Maps.size D0 * 8 ≤ 140737488355328) :
    Calls Try.prog 81 #[.func (.func 102) #[] #[.pointer (some ⟨w.heap.size, 0, none⟩)]] (w.alloc (.cells #[.map (some b)] 77)) fun e w' => ∃ (v : Value) (ss : List Int), e = .returned v ∧ ss.Perm (intKeys D0) ∧
      w'.ownsRow (w.alloc (.cells #[.map (some b)] 77)).heap.size 3 1 v ss.length ((ss.mergeSort (fun x y => decide (x ≤ y))).map encZ) ∧ Below (w.alloc (.cells #[.map (some b)] 77)).heap.size (w.alloc (.cells #[.map (some b)] 77)) w' := by
  refine (callsIn_wide (n := 5)).1 ?_
  have hbl := hown.lt
  have hseq : SeqGives Fence.wide 2 Try.prog 102 #[.pointer (some ⟨w.heap.size, 0, none⟩)] encZ (fun ss => ss.Perm (intKeys D0)) (Maps.size D0) (w.alloc (.cells #[.map (some b)] 77)) :=
    AnyZI.keys_gives (ρ := Try.keysA_ren) { Try.keysA with } Fence.wide _ trivial rfl (by omega) w.heap.size b nn D0 _ (by simp) (by simp) (by
      obtain ⟨es, clock, hb, Ft, hs, hD⟩ := hown
      exact ⟨es, clock, (Below.heap_alloc _ _ b hbl).trans hb, Ft, hs, hD⟩)
  have cS := AnyZI.sorted_in Try.sortedA Fence.wide 5 trivial trivial trivial trivial rfl (by omega) (sortsA _) (enters_of Try.func101 (by kernel_rfl) rfl) 102 #[.pointer (some ⟨w.heap.size, 0, none⟩)] trivial (enters_of Try.func102 (by kernel_rfl) rfl) _ _ hmax hbytes _ hseq
  change CallsIn _ _ Try.prog 81 _ _ _ at cS
  exact cS.mono fun e w' ⟨v, ss, h1, h2, h3, _, h5⟩ => ⟨v, ss, h1, h2, h3, h5⟩
/-- the lengths that are there, ascending -/
def keysN (c : Nat → Nat) : List Nat := (List.range 65).filter fun n => decide (0 < n ∧ 0 < c n)
def keysI (c : Nat → Nat) : List Int := (keysN c).map fun n : Nat => (n : Int)
/-- the lengths of all cycles, ascending -/
def cycL (c : Nat → Nat) : List Int := (keysN c).flatMap fun n => List.replicate (c n) (n : Int)
def cycP (c : Nat → Nat) (k : Nat) : List Int := ((keysN c).take k).flatMap fun n => List.replicate (c n) (n : Int)
theorem cycP_step {c : Nat → Nat} {k n : Nat} (h : (keysN c)[k]? = some n) : cycP c (k + 1) = cycP c k ++ List.replicate (c n) (n : Int) := by
  unfold cycP
  rw [List.take_add_one, h, List.flatMap_append]
  simp
theorem cycP_all (c : Nat → Nat) {L : Nat} (h : (keysN c).length = L) : cycP c L = cycL c := by
  unfold cycP cycL
  rw [List.take_of_length_le (by omega)]
theorem cyc_len (c : Nat → Nat) : ∀ K, (((List.range K).filter fun n => decide (0 < n ∧ 0 < c n)).flatMap fun n => List.replicate (c n) (n : Int)).length ≤ sumT (fun n => n * c n) K
  | 0 => Nat.le_refl _
  | k + 1 => by
    have ih := cyc_len c k
    rw [List.range_succ, List.filter_append, List.flatMap_append, List.length_append]
    show _ ≤ sumT (fun n => n * c n) k + k * c k
    refine Nat.add_le_add ih ?_
    by_cases h : 0 < k ∧ 0 < c k
    · rw [List.filter_cons_of_pos (by simpa using h)]
      simp only [List.filter_nil, List.flatMap_cons, List.flatMap_nil, List.append_nil, List.length_replicate]
      exact Nat.le_mul_of_pos_left _ h.1
    · rw [List.filter_cons_of_neg (by simpa using h)]
      simp
theorem cycP_len (c : Nat → Nat) (k : Nat) : (cycP c k).length ≤ (cycL c).length := by
  have h : cycL c = cycP c k ++ ((keysN c).drop k).flatMap fun n => List.replicate (c n) (n : Int) := by
    unfold cycL cycP
    rw [← List.flatMap_append, List.take_append_drop]
  rw [h, List.length_append]; omega
theorem keysI_sorted (c : Nat → Nat) : (keysI c).mergeSort (fun x y => decide (x ≤ y)) = keysI c := by
  refine List.mergeSort_of_pairwise ?_
  unfold keysI
  rw [List.pairwise_map]
  refine (List.pairwise_lt_range.filter _).imp fun {a b} h => ?_
  exact decide_eq_true (by omega)
theorem keysI_nodup (c : Nat → Nat) : (keysI c).Nodup := by
  unfold keysI
  rw [List.Nodup, List.pairwise_map]
  refine (List.pairwise_lt_range.filter _).imp fun {a b} h => ?_
  omega
theorem keysI_perm {D : DataW Unit} {c : Nat → Nat} {w : World} {b nn : Nat} (hown : w.ownsMap Try.prog 3 (plainElem Try.prog 3) b nn D) (hc : MapC D c) (h0 : c 0 = 0) (h64 : ∀ n, 0 < c n → n ≤ 64) : (keysI c).Perm (intKeys D) :=
  CollectedI.perm (left := fun _ => false) ⟨keysI_nodup c, fun x => by
    rw [hc.has x]
    unfold keysI keysN
    simp only [List.mem_map, List.mem_filter, List.mem_range, decide_eq_true_eq, and_true]
    constructor
    · rintro ⟨n, ⟨h1, h2, h3⟩, rfl⟩; exact ⟨n, rfl, h3⟩
    · rintro ⟨n, rfl, h3⟩
      have := h64 n h3
      exact ⟨n, ⟨by omega, Nat.pos_of_ne_zero fun e => by subst e; omega, h3⟩, rfl⟩⟩ hown (int_keyed Try.underlying3) Try.underlying3 (fun _ => rfl)
set_option maxRecDepth 100000 in
theorem Cycles_no (m : Int) (a : Option Addr) (n cap : Nat) (w : World) (h : Calls Try.prog 78 #[.int .i64 m, .slice a n cap] w fun e w' => e = .returned (.bool false) ∧ w' = w) :
    Calls Try.prog 35 #[.int .i64 m, .slice a n cap] w fun e w' => e = .returned (.tuple #[.slice none 0 0, .int .i64 2]) ∧ w' = w := by
  have H := Lib.hid h
  clear h
  go_enter Try.func35, Try.ntmps35
  go_wp2_with fail
  refine H.out.mono ?_
  rintro e w1 ⟨rfl, hw⟩
  subst w1
  go_wp2
  go_ret2
  exact ⟨rfl, rfl⟩
set_option maxRecDepth 100000 in
set_option maxHeartbeats 4000000 in
theorem Cycles_yes (m : Nat) (g cap : Nat) (F : List Int) (w : World) (hr : Row w (some ⟨g, 0, none⟩) m (intL F)) (hcap : m ≤ cap) (hcm : cap ≤ 9223372036854775807) (hm : 2 ≤ m) (hm2 : m ≤ 64) (hin : ∀ v ∈ F, 0 ≤ v ∧ v < m) (hp : (equalR F).1 = -1) :
    Calls Try.prog 35 #[.int .i64 m, .slice (some ⟨g, 0, none⟩) m cap] w fun e w' => ∃ (c : Nat → Nat) (v : Value), e = .returned (.tuple #[v, .int .i64 0]) ∧ c 0 = 0 ∧ (∀ n, manyN (fnL F) m n = n * c n) ∧ w'.ownsRow w.heap.size 3 1 v (cycL c).length (intL (cycL c)) ∧ Below w.heap.size w w' := by
  have hl : F.length = m := by have := hr.1; simpa [intL] using this
  obtain ⟨i0, hi, hz0, hz1, hz2⟩ := info_parts info_int
  obtain ⟨hP, hFx⟩ := fnL_perm hl hin hp
  have hI := isPerm_any m g cap F w hr hcap hcm hm hm2 hin
  rw [hp, show decide ((-1 : Int) < 0) = true from rfl] at hI
  have hC := countCycles_any m g cap F (fnL F) w hr hm hm2 hP hFx
  generalize fnL F = f at *
  have HI := Lib.hid hI
  have HC := Lib.hid hC
  have HP := Lib.hid hP
  clear hI hC hFx hP hin hp hl hcap hcm hr
  go_enter Try.func35, Try.ntmps35
  go_wp2_with fail
  refine HI.out.mono ?_
  rintro e w1 ⟨rfl, hw⟩
  subst w1
  go_wp2_with fail
  refine HC.out.mono ?_
  rintro e w1 ⟨rfl, ⟨D, c, nn, hnn, hown, hmc, h0, hmany⟩, b1⟩
  have hsum : sumT (fun n => n * c n) 65 ≤ 64 := by rw [count_sum HP.out hm2 hmany]; exact hm2
  have h64 : ∀ n, 0 < c n → n ≤ 64 := fun n hn => Nat.le_trans (many_le hmany hn) hm2
  have hlen : (cycL c).length ≤ 64 := Nat.le_trans (cyc_len c 65) hsum
  have hc64 : ∀ (k n : Nat), (keysN c)[k]? = some n → n ≤ 64 ∧ c n ≤ 64 := fun k n hk => by
    have hm := List.mem_of_getElem? hk
    unfold keysN at hm
    simp only [List.mem_filter, List.mem_range, decide_eq_true_eq] at hm
    refine ⟨by omega, ?_⟩
    have h1 := hmany n
    have h2 : manyN f m n ≤ m := cntN_le _ m
    have := Nat.le_mul_of_pos_left (c n) hm.2.1
    omega
  have hsz := hown.size_le
  have hperm := keysI_perm hown hmc h0 h64
  have hkc := fun W => keys_call (some w.heap.size) W
  have hsc := sorted_call w.heap.size nn D _ w1 hown (by unfold maxLen; omega) (by omega)
  have hbl := hown.lt
  have Hown := Lib.hid hown
  have Hmc := Lib.hid hmc
  have H0 := Lib.hid h0
  have Hmany := Lib.hid hmany
  have Hlen := Lib.hid hlen
  have Hc64 := Lib.hid hc64
  have Hperm := Lib.hid hperm
  have Hkc := Lib.hid hkc
  have Hsc := Lib.hid hsc
  have B1 := Lib.hid b1
  have Hbl := Lib.hid hbl
  clear hown hmc h0 hmany hsum h64 hlen hc64 hsz hperm hkc hsc b1 hbl HI HC HP
  go_wp2_with fail
  refine (Hkc.out _).mono ?_
  rintro e w2 ⟨rfl, hw⟩
  subst w2
  go_wp2_with fail
  refine Hsc.out.mono ?_
  rintro e w3 ⟨v3, ss, rfl, hss, hrow, b3⟩
  have hs1 : ss.mergeSort (fun x y => decide (x ≤ y)) = keysI c := by
    rw [← keysI_sorted c]
    exact mergeSort_of_perm_i (hss.trans Hperm.out.symm)
  have hs2 : ss.length = (keysI c).length := (hss.trans Hperm.out.symm).length_eq
  rw [hs1, hs2, show (keysI c).map encZ = intL (keysI c) from rfl] at hrow
  have hkl : (keysI c).length = (keysN c).length := by unfold keysI; rw [List.length_map]
  rw [hkl] at hrow
  obtain ⟨L, hL⟩ : ∃ L, (keysN c).length = L := ⟨_, rfl⟩
  rw [hL] at hrow
  obtain ⟨aK, cK, rfl, -, hrK⟩ := own_slice hrow
  have hLn : L ≤ 65 := by rw [← hL]; unfold keysN; exact Nat.le_trans (List.length_filter_le _ _) (by rw [List.length_range]; exact Nat.le_refl _)
  have RK := Lib.hid hrK
  have HL := Lib.hid hL
  have ba := below_alloc w1 (.cells #[.map (some w.heap.size)] 77)
  have B3 : Hid (Below w1.heap.size w1 w3) := b_next ba b3
  have HB3 := Lib.hid (b_next B1.out B3.out)
  have Hown3 := Lib.hid (Hown.out.kept (grown_of_below (row := none) B3.out) (by simp))
  have Hw3 : Hid (w.heap.size ≤ w3.heap.size) := HB3.out.size
  have Hbl3 : Hid (w.heap.size < w3.heap.size) := Nat.lt_of_lt_of_le Hbl.out B3.out.size
  clear hs1 hs2 hkl hL hrow hrK ba b3 hss B3 Hkc Hsc Hown
  go_wp2
  go_loopw [7, 20] (fun v i wr => ∃ k : Nat, k ≤ L ∧ i = .int .i64 k ∧ Hid (wr.ownsRow w3.heap.size 3 1 v (cycP c k).length (intL (cycP c k))) ∧ Hid (Below w3.heap.size w3 wr)) (fun _ i _ => L - (intOf i).toNat)
  case atStart => exact ⟨0, Nat.zero_le _, rfl, World.ownsRow_nil _ _ _ _, Below.refl _ _⟩
  case round =>
    obtain ⟨k, hk, rfl, HO, HB⟩ := hrel
    by_cases hlt : k < L
    · have hc : (k : Int) < (L : Int) := by omega
      have Hgo := Lib.hid (show k + 1 ≤ L ∧ k < L ∧ k ≤ 65 by omega)
      obtain ⟨n, hn⟩ : ∃ n, (keysN c)[k]? = some n := ⟨_, List.getElem?_eq_getElem (by have := HL.out; omega)⟩
      have hki : (keysI c)[k]? = some (n : Int) := by unfold keysI; rw [List.getElem?_map, hn]; rfl
      obtain ⟨gK, rfl, _, hcK⟩ := (RK.out.below HB.out).2 (by omega)
      have ck := hcK k (.int .i64 (n : Int)) (intL_get hki)
      obtain ⟨hn64, hcn⟩ := Hc64.out k n hn
      have hst := cycP_step hn
      have hl1 := cycP_len c (k + 1)
      rw [hst, List.length_append, List.length_replicate] at hl1
      have hown := Hown3.out.kept (grown_of_below (row := none) HB.out) (by simp)
      have Hst := Lib.hid hst
      have Hl1 := Lib.hid (show (cycP c k).length + c n ≤ 64 by have := Hlen.out; omega)
      have Hwn : Hid ((Lit.int .i64 (n : Int)).wf = true) := WalkArith.wf_i64 (by omega)
      have HO0 : Hid (wr.ownsRow w3.heap.size 3 1 u7 ((cycP c k).length + 0) (intL (cycP c k ++ List.replicate 0 (n : Int)))) := by unfold Hid; rw [Nat.add_zero, List.replicate_zero, List.append_nil]; exact HO.out
      clear hn hki hcK hst hl1 hk hlt HO
      go_wp2_with (at_lookup; refine wpList_lookup_own_int _ rfl _ _ 77 rfl 3 3 .i64 (int_keyed Try.underlying3) Try.underlying77 Try.underlying3 (zeroInt _) w.heap.size nn D rfl hown _ _ rfl (keyOf_int_mk Try.underlying3 Hwn.out) ?_; intro c0 hat hwc0; rw [Hmc.out.at' n] at hat; simp only [DataW.lit.injEq, Lit.int.injEq, true_and] at hat; subst hat)
      clear hown ck
      generalize cycP c k = Q at *
      generalize c n = cn at *
      generalize wr = W4 at *
      go_loopw [7, 27] (fun v i wr => ∃ j : Nat, j ≤ cn ∧ i = .int .i64 j ∧ Hid (wr.ownsRow w3.heap.size 3 1 v (Q.length + j) (intL (Q ++ List.replicate j (n : Int)))) ∧ Hid (Below w3.heap.size w3 wr)) (fun _ i _ => cn - (intOf i).toNat)
      case atStart => exact ⟨0, Nat.zero_le _, rfl, HO0, HB⟩
      case round =>
        clear HO0 HB
        obtain ⟨j, hj, rfl, HO, HB⟩ := hrel
        obtain ⟨a5, c5, hv5, -⟩ := Row.of_own HO.out
        subst hv5
        by_cases hlj : j < cn
        · have hc2 : (j : Int) < (cn : Int) := by omega
          have hql : Q.length + j ≤ 64 := by have := Hl1.out; omega
          have Hg2 := Lib.hid (show j + 1 ≤ cn ∧ j < cn ∧ j ≤ 64 by omega)
          have hj64 : j ≤ 64 := Hg2.out.2.2
          clear hlj hj
          go_wp2_with (at_builtin; refine wpList_append_own _ rfl _ _ 22 rfl w3.heap.size 3 i0 (.int .i64 0) 1 8 Try.underlying22 hi hz0 hz1 hz2 rfl (by decide) _ _ _ rfl (HO.out.alloc (.cells #[.int .i64 (n : Int)] 3)) ⟨_, 0, none⟩ 1 1 [.int .i64 (n : Int)] rfl rfl (one_new _ _ _ _ (by simp)) (by simp [Value.oneCell']) (by unfold maxLen; omega) (by omega) (by have := HB.out.size; simp; omega) ?_; intro v2 w6 hown2 hgrow2 _
                       obtain ⟨a6, c6, hv6, -⟩ := Row.of_own hown2
                       subst hv6
                       have HB6 : Hid (Below w3.heap.size w3 w6) := rel_push HB.out (by have := HB.out.size; simp; omega) ((Below.refl _ _).alloc HB.out.size _) HO.out hgrow2
                       have HO6 := Lib.hid hown2
                       clear hown2 hgrow2)
          go_roundw
          case rel =>
            refine ⟨j + 1, Hg2.out.1, by go_num, ?_, HB6⟩
            unfold Hid
            rw [← Nat.add_assoc, List.replicate_succ', ← List.append_assoc]
            unfold intL at HO6 ⊢
            rw [List.map_append]
            exact HO6.out
          case measure => exact mz_upn Hg2.out.2.1
        · obtain rfl : j = cn := by omega
          have hc2 : ¬ (j : Int) < (j : Int) := by omega
          have ho := HO.out
          rw [← Hst.out] at ho
          have hll : Q.length + j = (cycP c (k + 1)).length := by rw [Hst.out, List.length_append, List.length_replicate]
          rw [hll] at ho
          have HO9 := Lib.hid ho
          have hk65 : k ≤ 65 := Hgo.out.2.2
          clear ho
          rw [hll]
          go_wp2
          go_roundw
          case rel => exact ⟨k + 1, Hgo.out.1, by go_num, HO9, HB⟩
          case measure => exact mz_upn Hgo.out.2.1
    · obtain rfl : k = L := by omega
      have hc : ¬ (k : Int) < (k : Int) := by omega
      have ho := HO.out
      rw [cycP_all c HL.out] at ho
      obtain ⟨a5, c5, hv5, -⟩ := Row.of_own ho
      subst hv5
      have HO9 := Lib.hid (ho.mono Hw3.out)
      have HB9 := Lib.hid (b_next HB3.out HB.out)
      clear ho HO
      go_wp2
      go_ret2
      exact ⟨c, _, rfl, H0.out, Hmany.out, HO9.out, HB9.out⟩
end Go.Proofs.Ytndbjojjaapeaaa

/- The inverse of a permutation: mathematics. -/
namespace Go.Proofs.Ytndbjojjaapeaaa
set_option linter.unusedVariables false
open Go.RowKit

theorem equalR_cases (F : List Int) {n : Nat} (hl : F.length = n) : equalR F = (-1, -1) ∨ ∃ x y : Nat, x < y ∧ y < n ∧ equalR F = ((x : Int), (y : Int)) ∧ F.getD x 0 = F.getD y 0 := by
  unfold equalR
  rw [hl]
  have h : ∀ r k, k + r = n → eqF F n r k = (-1, -1) ∨ ∃ x y : Nat, x < y ∧ y < n ∧ eqF F n r k = ((x : Int), (y : Int)) ∧ F.getD x 0 = F.getD y 0 := by
    intro r
    induction r with
    | zero => exact fun k _ => .inl rfl
    | succ r ih =>
      intro k hk
      unfold eqF
      rcases later_is F hl (show k < n by omega) with ⟨d, h1, h2, h3, _⟩ | ⟨h1, _⟩
      · rw [h1, if_pos (Int.natCast_nonneg _)]
        exact .inr ⟨k, k + 1 + d, by omega, h2, rfl, h3⟩
      · rw [h1, if_neg (by decide)]
        exact ih (k + 1) (by omega)
  exact h n 0 (by omega)
theorem cinv_ex {f : Nat → Nat} {m : Nat} (h : PermF f m) : ∀ k, k ≤ m → ∃ s c, CInv f m s c ∧ ∀ z, z < k → s z = true
  | 0, _ => ⟨_, _, CInv.zero f m, fun z hz => by omega⟩
  | k + 1, hk => by
    obtain ⟨s, c, hI, hz⟩ := cinv_ex h k (by omega)
    cases hs : s k with
    | true => exact ⟨s, c, hI, fun z hz2 => by
        by_cases e : z = k
        · subst e; exact hs
        · exact hz z (by omega)⟩
    | false =>
      have hp := per_facts h (show k < m by omega)
      exact ⟨_, _, hI.next h (by omega) hs, fun z hz2 => by
        by_cases e : z = k
        · subst e; exact addO_self hp.1
        · exact addO_keeps _ (hz z (by omega))⟩
theorem many_cyc {f : Nat → Nat} {m : Nat} (h : PermF f m) (n : Nat) : manyN f m n = n * cycN f m n := by
  obtain ⟨s, c, hI, hz⟩ := cinv_ex h m (Nat.le_refl _)
  rw [hI.all hz n]
  by_cases e : n = 0
  · subst e; simp
  · rw [hI.cyc hz (show 1 ≤ n by omega)]
theorem cyc_uniq {f : Nat → Nat} {m : Nat} {c : Nat → Nat} (h0 : c 0 = 0) (hc : ∀ n, manyN f m n = n * c n) : c = cycN f m := by
  funext n
  unfold cycN
  by_cases e : n = 0
  · subst e; rw [Nat.div_zero, h0]
  · rw [hc n, Nat.mul_div_cancel_left _ (by omega)]
theorem invL_get {F : List Int} {m v : Nat} (hv : v < m) : (invL F m).getD v 0 = ((invT (fnL F) v m : Nat) : Int) := by
  unfold invL
  rw [List.getD_eq_getElem?_getD, List.getElem?_map, List.getElem?_range hv]; rfl
theorem invL_len (F : List Int) (m : Nat) : (invL F m).length = m := by simp [invL]
theorem inv_right {f : Nat → Nat} {m v : Nat} (h : PermF f m) (hv : v < m) : invT f v m < m ∧ f (invT f v m) = v := by
  obtain ⟨k1, k2, k3, _⟩ := per_facts h hv
  obtain ⟨j, hj⟩ : ∃ j, perN f m v = j + 1 := ⟨perN f m v - 1, by omega⟩
  rw [hj] at k3
  have hx := itN_lt h hv j
  have e : f (itN f j v) = v := k3
  have h2 := invT_at h hx m (Nat.le_refl _) hx
  rw [e] at h2
  rw [h2]
  exact ⟨hx, e⟩
structure InvW (F G : List Int) (m : Nat) : Prop where
  len : G.length = m
  inn : ∀ v ∈ G, 0 ≤ v ∧ v < m
  one : (equalR G).1 = -1
  cyc : cycN (fnL G) m = cycN (fnL F) m
  left : ∀ x, x < m → G.getD (F.getD x 0).toNat 0 = (x : Int)
theorem invW {F : List Int} {m : Nat} (hP : PermF (fnL F) m) : InvW F (invL F m) m := by
  have hfn : ∀ v, v < m → fnL (invL F m) v = invT (fnL F) v m := fun v hv => by
    show ((invL F m).getD v 0).toNat = _
    rw [invL_get hv]; rfl
  have hg : PermF (fnL (invL F m)) m := ⟨fun v hv => by rw [hfn v hv]; exact (inv_right hP hv).1, fun u v hu hv e => by
    rw [hfn u hu, hfn v hv] at e
    rw [← (inv_right hP hu).2, ← (inv_right hP hv).2, e]⟩
  have hfg : ∀ v, v < m → fnL F (fnL (invL F m) v) = v := fun v hv => by rw [hfn v hv]; exact (inv_right hP hv).2
  have hgf : ∀ x, x < m → fnL (invL F m) (fnL F x) = x := fun x hx => by rw [hfn _ (hP.lt x hx)]; exact invT_at hP hx m (Nat.le_refl _) hx
  have hcan : ∀ (f g : Nat → Nat), PermF g m → (∀ v, v < m → f (g v) = v) → ∀ n x, x < m → itN f n (itN g n x) = x := by
    intro f g hg h n
    induction n with
    | zero => exact fun x _ => rfl
    | succ n ih =>
      intro x hx
      rw [itN_add f _ n 1]
      show itN f n (f (g (itN g n x))) = x
      rw [h _ (itN_lt hg hx n)]
      exact ih x hx
  have hper : ∀ x, x < m → perN (fnL (invL F m)) m x = perN (fnL F) m x := fun x hx => by
    obtain ⟨k1, k2, k3, k4⟩ := per_facts hP hx
    refine per_uniq hg hx k1 ?_ fun i a b e => k4 i a b ?_
    · have := hcan (fnL (invL F m)) (fnL F) hP hgf (perN (fnL F) m x) x hx
      rwa [k3] at this
    · have := hcan (fnL F) (fnL (invL F m)) hg hfg i x hx
      rwa [e] at this
  refine ⟨invL_len F m, fun v hv => ?_, ?_, ?_, fun x hx => ?_⟩
  · unfold invL at hv
    obtain ⟨u, hu, rfl⟩ := List.mem_map.1 hv
    have := (inv_right hP (List.mem_range.1 hu)).1
    omega
  · rw [equal_none _ (invL_len F m)]
    intro x y hx hy e
    rw [invL_get (by omega), invL_get hy] at e
    have e2 := Int.ofNat.inj e
    have := (inv_right hP (show x < m by omega)).2
    rw [e2, (inv_right hP hy).2] at this
    omega
  · funext n
    unfold cycN manyN
    rw [cntN_congr m fun z hz => by rw [hper z hz]]
  · show (invL F m).getD (fnL F x) 0 = _
    rw [invL_get (hP.lt x hx), invT_at hP hx m (Nat.le_refl _) hx]
/-- a polynomial applied again and again -/
def itP (P : List Int) : Nat → List Int
  | 0 => [0, 1]
  | n + 1 => compL (itP P n) P
theorem itP_val {P : List Int} {m : Nat} {f : Nat → Nat} (hm : 2 ≤ m) (hf : ∀ x, x < m → polyV m P (x : Int) = (f x : Int)) (hP : PermF f m) : ∀ n x, x < m → polyV m (itP P n) (x : Int) = (itN f n x : Int)
  | 0, x, hx => by
    rw [polyV_eval]
    show (0 + (x : Int) * (1 + (x : Int) * 0)) % (m : Int) = (x : Int)
    rw [Int.mul_zero, Int.add_zero, Int.mul_one, Int.zero_add]
    exact Int.emod_eq_of_lt (by omega) (by omega)
  | n + 1, x, hx => by
    show polyV m (compL (itP P n) P) (x : Int) = ((f (itN f n x) : Nat) : Int)
    rw [polyV_comp, itP_val hm hf hP n x hx, hf _ (itN_lt hP hx n)]
theorem it_mul {f : Nat → Nat} {x p : Nat} (h : itN f p x = x) : ∀ j, itN f (p * j) x = x
  | 0 => rfl
  | j + 1 => by rw [Nat.mul_succ, itN_add, h]; exact it_mul h j
theorem inv_form {F P : List Int} {m : Nat} (hm : 2 ≤ m) (hm2 : m ≤ 64) (hF : valuesL m P = F) (hP : PermF (fnL F) m) (he : ∀ x, x < m → F.getD x 0 = (fnL F x : Int)) : ∃ l, formR m (fun x => (invL F m).getD x 0) = some l ∧ l.length ≤ degN m := by
  obtain ⟨K, hK, hKx⟩ : ∃ K, 1 ≤ K ∧ ∀ x, x < m → itN (fnL F) K x = x := by
    refine ⟨ordC (cycN (fnL F) m), (ordF_is _ 65).pos, fun x hx => ?_⟩
    obtain ⟨k1, k2, k3, _⟩ := per_facts hP hx
    have hpos : 0 < cycN (fnL F) m (perN (fnL F) m x) := by
      refine Nat.pos_of_ne_zero fun e => ?_
      have h1 := many_cyc hP (perN (fnL F) m x)
      rw [e, Nat.mul_zero] at h1
      have h2 := cntN_one (p := fun z => decide (perN (fnL F) m z = perN (fnL F) m x) && !decide (z = x)) (q := fun z => decide (perN (fnL F) m z = perN (fnL F) m x)) (y := x) (by simp) (fun z hz => by simp [hz]) m
      rw [if_pos ⟨hx, by simp⟩] at h2
      unfold manyN at h1
      omega
    obtain ⟨q, hq⟩ := (ordF_is (cycN (fnL F) m) 65).div (perN (fnL F) m x) (by simp; omega)
    show itN (fnL F) (ordF _ 65) x = x
    rw [hq]
    exact it_mul k3 q
  obtain ⟨K', rfl⟩ : ∃ K', K = K' + 1 := ⟨K - 1, by omega⟩
  refine form_of_poly hm hm2 (itP P K') fun x hx => ?_
  rw [itP_val hm (fun x hx => by rw [← he x hx, ← hF, valuesL_get m P hx]) hP K' x hx, invL_get hx]
  congr 1
  have h1 := hKx x hx
  have h2 := (inv_right hP hx).2
  exact hP.inj _ _ (inv_right hP hx).1 (itN_lt hP hx K') (by rw [h2]; exact h1.symm)
/-- the lengths as numbers -/
def cycNL (c : Nat → Nat) : List Nat := (keysN c).flatMap fun n => List.replicate (c n) n
theorem cycL_cast (c : Nat → Nat) : cycL c = (cycNL c).map fun n : Nat => (n : Int) := by
  unfold cycL cycNL
  rw [List.map_flatMap]
  congr 1
  funext n
  rw [List.map_replicate]
theorem cycNL_mem (c : Nat → Nat) (n : Nat) : n ∈ cycNL c ↔ n < 65 ∧ 0 < n ∧ 0 < c n := by
  unfold cycNL keysN
  simp only [List.mem_flatMap, List.mem_filter, List.mem_range, decide_eq_true_eq, List.mem_replicate]
  constructor
  · rintro ⟨k, ⟨h1, h2, h3⟩, h4, rfl⟩; exact ⟨h1, h2, h3⟩
  · rintro ⟨h1, h2, h3⟩; exact ⟨n, ⟨h1, h2, h3⟩, by omega, rfl⟩
theorem cycNL_sum (c : Nat → Nat) : ∀ K, (((List.range K).filter fun n => decide (0 < n ∧ 0 < c n)).flatMap fun n => List.replicate (c n) n).sum = sumT (fun n => n * c n) K
  | 0 => rfl
  | k + 1 => by
    have ih := cycNL_sum c k
    rw [List.range_succ, List.filter_append, List.flatMap_append, List.sum_append, ih]
    show _ = sumT (fun n => n * c n) k + k * c k
    congr 1
    by_cases h : 0 < k ∧ 0 < c k
    · rw [List.filter_cons_of_pos (by simpa using h)]
      simp [List.sum_replicate_nat, Nat.mul_comm]
    · rw [List.filter_cons_of_neg (by simpa using h)]
      have : k * c k = 0 := by
        by_cases h1 : k = 0
        · subst h1; simp
        · have : c k = 0 := by omega
          rw [this, Nat.mul_zero]
      simp [this]
theorem cycNL_sorted (c : Nat → Nat) : (cycNL c).Pairwise (fun a b => a ≤ b) := by
  unfold cycNL
  rw [List.pairwise_flatMap]
  refine ⟨fun n _ => List.pairwise_replicate.2 (.inr (Nat.le_refl n)), ?_⟩
  refine (List.pairwise_lt_range.filter _).imp fun {a b} h x hx y hy => ?_
  rw [List.mem_replicate] at hx hy
  omega
/-- where the law's loop stands -/
structure LSt (C : List Nat) (k o : Nat) : Prop where
  lcm : LcmOf o (fun n => decide (n ∈ C.take k))
  cube : o ^ 3 ≤ 3 ^ hSum (fun n => decide (n ∈ C.take k))
theorem LSt.start (C : List Nat) : LSt C 0 1 :=
  ⟨LcmOf.none.congr fun n => by simp, by
    have : hSum (fun n => decide (n ∈ C.take 0)) = 0 := by unfold hSum; simp only [List.take_zero, List.not_mem_nil, decide_false, Bool.false_eq_true, if_false]; exact sumT_zero 65
    rw [this]; decide⟩
theorem LSt.next {C : List Nat} {k o x : Nat} (h : LSt C k o) (hx : C[k]? = some x) (h1 : 1 ≤ x) (h64 : x ≤ 64) : LSt C (k + 1) (Nat.lcm o x) := by
  have he : ∀ n, (decide (n ∈ C.take k) || decide (n = x)) = decide (n ∈ C.take (k + 1)) := fun n => by
    rw [List.take_add_one, hx, Bool.eq_iff_iff]
    simp
  refine ⟨(h.lcm.step h1).congr he, ?_⟩
  rw [← show (fun n => decide (n ∈ C.take k) || decide (n = x)) = fun n => decide (n ∈ C.take (k + 1)) from funext he]
  by_cases hm : x ∈ C.take k
  · have h2 : (fun n => decide (n ∈ C.take k) || decide (n = x)) = fun n => decide (n ∈ C.take k) := by
      funext n
      by_cases e : n = x
      · subst e; simp [hm]
      · simp [e]
    rw [h2, Nat.lcm_eq_left (h.lcm.div x (decide_eq_true hm))]
    exact h.cube
  · rw [hSum_step (decide_eq_false hm) h64]
    exact cube_step h.cube h1 h64
end Go.Proofs.Ytndbjojjaapeaaa

/- The walk of Inverted. -/
namespace Go.Proofs.Ytndbjojjaapeaaa
set_option linter.unusedVariables false
open Go.RowKit

theorem Order_full (m : Nat) (g cap : Nat) (F : List Int) (w : World) (hr : Row w (some ⟨g, 0, none⟩) m (intL F)) (hcap : m ≤ cap) (hcm : cap ≤ 9223372036854775807) (hm : 2 ≤ m) (hm2 : m ≤ 64) (hin : ∀ v ∈ F, 0 ≤ v ∧ v < m) (hp : (equalR F).1 = -1) :
    Calls Try.prog 34 #[.int .i64 m, .slice (some ⟨g, 0, none⟩) m cap] w fun e w' => e = .returned (.tuple #[.int .i64 (ordC (cycN (fnL F) m) : Nat), .int .i64 0]) ∧ Below w.heap.size w w' :=
  (Order_yes m g cap F w hr hcap hcm hm hm2 hin hp).mono fun e w' ⟨c, h1, h2, h3, h4⟩ => by
    rw [cyc_uniq h2 h3] at h1
    exact ⟨h1, h4⟩
theorem Cycles_full (m : Nat) (g cap : Nat) (F : List Int) (w : World) (hr : Row w (some ⟨g, 0, none⟩) m (intL F)) (hcap : m ≤ cap) (hcm : cap ≤ 9223372036854775807) (hm : 2 ≤ m) (hm2 : m ≤ 64) (hin : ∀ v ∈ F, 0 ≤ v ∧ v < m) (hp : (equalR F).1 = -1) :
    Calls Try.prog 35 #[.int .i64 m, .slice (some ⟨g, 0, none⟩) m cap] w fun e w' => ∃ v, e = .returned (.tuple #[v, .int .i64 0]) ∧ w'.ownsRow w.heap.size 3 1 v (cycL (cycN (fnL F) m)).length (intL (cycL (cycN (fnL F) m))) ∧ Below w.heap.size w w' :=
  (Cycles_yes m g cap F w hr hcap hcm hm hm2 hin hp).mono fun e w' ⟨c, v, h1, h2, h3, h4, h5⟩ => by
    rw [cyc_uniq h2 h3] at h4
    exact ⟨v, h1, h4, h5⟩
theorem LSt.done {c : Nat → Nat} {o L : Nat} (hL : (cycNL c).length = L) (h : LSt (cycNL c) L o) : o = ordC c :=
  h.lcm.uniq ((ordF_is c 65).congr fun n => by
    rw [List.take_of_length_le (by omega), Bool.eq_iff_iff, decide_eq_true_eq, decide_eq_true_eq, cycNL_mem])
theorem LSt.bound {c : Nat → Nat} {o k : Nat} (hs : sumT (fun n => n * c n) 65 ≤ 64) (h : LSt (cycNL c) k o) : o ≤ 17179869184 :=
  big_bound h.cube (Nat.le_trans (hSum_le fun n hn => ((cycNL_mem c n).1 (List.mem_of_mem_take (of_decide_eq_true hn))).2.2) hs)
theorem take_sum (C : List Nat) {k x : Nat} (h : C[k]? = some x) : (C.take (k + 1)).sum = (C.take k).sum + x := by
  rw [List.take_add_one, h, List.sum_append]; simp
theorem take_sum_le : ∀ (C : List Nat) (k : Nat), (C.take k).sum ≤ C.sum
  | [], k => by simp
  | a :: C, 0 => by simp
  | a :: C, k + 1 => by
    have := take_sum_le C k
    simp only [List.take_succ_cons, List.sum_cons]; omega
theorem lcm_nums {o x : Nat} (ho : o ≤ 17179869184) (h1 : 1 ≤ o) (hx : 1 ≤ x) (hx2 : x ≤ 64) : ∃ g q r : Nat, Nat.gcd o x = g ∧ Nat.lcm o x = r ∧ Int.tdiv (o : Int) (g : Int) = (q : Int) ∧ IntKind.i64.wrap (q : Int) = (q : Int) ∧ wrap64 (q : Int) = (q : Int) ∧ ¬ g = 0 ∧ ¬ (g : Int) = 0 ∧ ((g : Int) == 0) = false ∧ IntKind.i64.wrap ((q : Int) * (x : Int)) = (r : Int) ∧ wrap64 ((q : Int) * (x : Int)) = (r : Int) := by
  have hg : 1 ≤ Nat.gcd o x := Nat.gcd_pos_of_pos_left x h1
  have hl : o / Nat.gcd o x * x = Nat.lcm o x := by
    rw [Nat.lcm_comm, ← lcm_quo, Nat.gcd_comm, Nat.mul_comm]
  have hq : o / Nat.gcd o x ≤ 17179869184 := Nat.le_trans (Nat.div_le_self _ _) ho
  have ht : Int.tdiv (o : Int) (Nat.gcd o x : Int) = ((o / Nat.gcd o x : Nat) : Int) := by
    rw [Int.tdiv_eq_ediv_of_nonneg (Int.natCast_nonneg _)]; simp
  generalize o / Nat.gcd o x = q at hl hq ht
  have hr : Nat.lcm o x ≤ 17179869184 * 64 := by rw [← hl]; exact Nat.mul_le_mul hq hx2
  have e : (q : Int) * (x : Int) = ((Nat.lcm o x : Nat) : Int) := by rw [← hl]; simp
  generalize Nat.lcm o x = r at *
  generalize Nat.gcd o x = g at *
  have k1 : IntKind.i64.wrap (q : Int) = (q : Int) := IntWalk.i64_in _ (by clear ht e; omega)
  have k2 : wrap64 (q : Int) = (q : Int) := IntWalk.wrap64_in _ (by clear ht e k1; omega)
  have k3 : IntKind.i64.wrap ((q : Int) * (x : Int)) = (r : Int) := by rw [e]; exact IntWalk.i64_in _ (by clear ht e k1 k2; omega)
  have k4 : wrap64 ((q : Int) * (x : Int)) = (r : Int) := by rw [e]; exact IntWalk.wrap64_in _ (by clear ht e k1 k2 k3; omega)
  exact ⟨g, q, r, rfl, rfl, ht, k1, k2, by clear ht e k1 k2 k3 k4; omega, by clear ht e k1 k2 k3 k4; omega, by clear ht e k1 k2 k3 k4; rw [beq_eq_false_iff_ne]; omega, k3, k4⟩
set_option maxRecDepth 100000 in
set_option maxHeartbeats 8000000 in
theorem inv_no (x : Int) (pv : Value) (row F : List Int) (m : Nat) (w : World) (hP : RowIn w pv row) (hm : 2 ≤ m) (hm2 : m ≤ 64) (w2 : IntKind.i64.wrap (2 + (modV x 63 : Int)) = (m : Int)) (hval : valuesL m (tamL m row) = F) (hfl : F.length = m) (hin : ∀ v ∈ F, 0 ≤ v ∧ v < m) (y z : Nat) (hyz : y < z) (hz : z < m) (hE : equalR F = ((y : Int), (z : Int))) (hyzF : F.getD y 0 = F.getD z 0) : Calls Try.prog 9 #[.int .i64 x, pv] w fun e w' => e = .returned (.bool true) ∧ Below w.heap.size w w' := by
  have HM := Lib.hid (mod_val x 63 w (by omega) (by omega))
  have HTP := Lib.hid (tame_in m pv row w (by omega) hm2 hP)
  have hpol := tamL_poly hm hm2 row
  obtain ⟨hp12, hpin⟩ := tamL_in (m := m) (by omega) row
  generalize modV x 63 = r at *
  generalize tamL m row = P at *
  obtain ⟨n, hn⟩ : ∃ n, P.length = n := ⟨_, rfl⟩
  rw [hn] at HTP hp12
  have HV := Lib.hid fun a cap W hW => Values_yes m a n cap P W hW hpol
  have HPm := Lib.hid fun a cap W hW => Permutes_yes m a n cap P W hW hpol
  rw [hval] at HV HPm
  have hFn := fun a cap W hW => refFunc_any (m : Int) a m cap F W hW (by omega)
  rw [show (decide ((m : Int) = (m : Int)) && remB m F) = true from by
    rw [decide_eq_true rfl, Bool.true_and]
    unfold remB
    rw [List.all_eq_true]
    exact fun v hv => decide_eq_true (hin v hv)] at hFn
  have HFn := Lib.hid hFn
  have HA := Lib.hid fun w => awake_any w
  have Hm := Lib.hid (show 0 < m by omega)
  rw [hE] at HPm
  have hI := fun g cap W hW h1 h2 => isPerm_any m g cap F W hW h1 h2 hm hm2 hin
  rw [hE, show decide (((y : Int), (z : Int)).1 < 0) = false from decide_eq_false (by simp only; omega)] at hI
  have HIn := Lib.hid fun g cap W hW h1 h2 => Inverse_no (m : Int) (some ⟨g, 0, none⟩) m cap W (hI g cap W hW h1 h2)
  have HOr := Lib.hid fun g cap W hW h1 h2 => Order_no (m : Int) (some ⟨g, 0, none⟩) m cap W (hI g cap W hW h1 h2)
  have HCy := Lib.hid fun g cap W hW h1 h2 => Cycles_no (m : Int) (some ⟨g, 0, none⟩) m cap W (hI g cap W hW h1 h2)
  obtain ⟨u, hu⟩ : ∃ u, F.getD y 0 = u := ⟨_, rfl⟩
  have Hcl : Hid (∀ (a : Option Addr) W, Row W a m (intL F) → ∃ g, a = some ⟨g, 0, none⟩ ∧ W.cell? ⟨g, y, none⟩ = some (.int .i64 u) ∧ W.cell? ⟨g, z, none⟩ = some (.int .i64 u)) := fun a W h => by
    obtain ⟨g, h1, h2⟩ := h.int (show y < m by omega)
    obtain ⟨g', h3, h4⟩ := h.int hz
    rw [h1] at h3
    simp only [Option.some.injEq, Addr.mk.injEq, and_true] at h3
    subst h3
    rw [← hyzF, hu] at h4
    rw [hu] at h2
    exact ⟨g, h1, h2, h4⟩
  have hy1 : ((y : Int) == -1) = false := by rw [beq_eq_false_iff_ne]; omega
  have hz1 : ((z : Int) == -1) = false := by rw [beq_eq_false_iff_ne]; omega
  have hy0 : (0 : Int) ≤ (y : Int) := by omega
  have hd1 : decide ((y : Int) < (z : Int)) = true := decide_eq_true (by omega)
  have hd2 : decide ((z : Int) < (m : Int)) = true := decide_eq_true (by omega)
  have hd3 : decide (y < z) = true := decide_eq_true hyz
  have hd4 : decide (z < m) = true := decide_eq_true hz
  have Hd := Lib.hid (And.intro hd1 (And.intro hd2 (And.intro hd3 hd4)))
  have huu : (u == u) = true := by simp
  have hym : (y : Int) < (m : Int) := by omega
  have hzm : (z : Int) < (m : Int) := by omega
  clear hval hfl hin hpol hpin hn hFn hP hI hE hyzF hu hd1 hd2 hd3 hd4 hp12
  go_enter Try.func9, Try.ntmps9
  go_wp2_with fail
  refine (HM.out).mono ?_
  rintro e w1 ⟨rfl, hw⟩
  subst w1
  go_wp2_with fail
  refine (HTP.out).mono ?_
  rintro e w2 ⟨v2, rfl, ho, b2⟩
  have B2 := Lib.hid b2
  clear b2
  obtain ⟨a1, c1, hv, hc1, r2⟩ := own_slice ho
  subst v2
  have RP := Lib.hid r2
  clear ho r2
  go_wp2_with fail
  refine (HV.out _ _ _ RP.out).mono ?_
  rintro e w3 ⟨v3, rfl, ho, b3⟩
  have B3 := Lib.hid (b_next B2.out b3)
  clear B2
  replace RP := Lib.hid (RP.out.below b3)
  clear b3
  obtain ⟨gf, cf, rfl, hcf, hcfm, -, hrf⟩ := own_full ho Hm.out
  have RF := Lib.hid hrf
  have Hcf := Lib.hid (And.intro hcf hcfm)
  clear ho hrf hcf hcfm
  go_wp2_with fail
  refine (HPm.out _ _ _ RP.out).mono ?_
  rintro e w4 ⟨rfl, b4⟩
  have B4 := Lib.hid (b_next B3.out b4)
  clear B3
  replace RP := Lib.hid (RP.out.below b4)
  replace RF := Lib.hid (RF.out.below b4)
  clear b4
  clear RP
  go_wp2_with fail
  refine (HIn.out _ _ _ RF.out Hcf.out.1 Hcf.out.2).mono ?_
  rintro e w5 ⟨rfl, hw⟩
  subst w5
  go_wp2_with fail
  refine (HOr.out _ _ _ RF.out Hcf.out.1 Hcf.out.2).mono ?_
  rintro e w6 ⟨rfl, hw⟩
  subst w6
  go_wp2_with fail
  refine (HCy.out _ _ _ RF.out Hcf.out.1 Hcf.out.2).mono ?_
  rintro e w7 ⟨rfl, hw⟩
  subst w7
  go_wp2_with fail
  refine (HFn.out _ _ _ RF.out).mono ?_
  rintro e w8 ⟨rfl, hw⟩
  subst w8
  obtain ⟨gf', ef, cy, cz⟩ := Hcl.out _ _ RF.out
  cases ef
  obtain ⟨hd1, hd2, hd3, hd4⟩ := Hd.out
  clear hd1 hd2 hyz hz HM HTP HV HPm HFn HIn HOr HCy
  go_wp2_with fail
  go_still_tail 32, (by kernel_rfl)
  change wpList _ _ _ _ _ w4.drew
  have hBd : Hid (Below w.heap.size w w4.drew) := B4.out.drew
  generalize w4.drew = w80 at *
  clear cy cz hd3 hd4 huu hym hzm hy0 hy1 hz1
  go_wp2_with (go_at_call 24; refine (HA.out _).mono ?_; rintro e w81 ⟨rfl, b81⟩)
  go_ret
  exact ⟨rfl, b_next hBd.out b81⟩

set_option maxRecDepth 100000 in
set_option maxHeartbeats 8000000 in
theorem inv_yes (x : Int) (pv : Value) (row F : List Int) (m : Nat) (w : World) (hP : RowIn w pv row) (hm : 2 ≤ m) (hm2 : m ≤ 64) (w2 : IntKind.i64.wrap (2 + (modV x 63 : Int)) = (m : Int)) (hval : valuesL m (tamL m row) = F) (hfl : F.length = m) (hin : ∀ v ∈ F, 0 ≤ v ∧ v < m) (hp : (equalR F).1 = -1) (hp2 : (equalR F).2 = -1) : Calls Try.prog 9 #[.int .i64 x, pv] w fun e w' => e = .returned (.bool true) ∧ Below w.heap.size w w' := by
  have HM := Lib.hid (mod_val x 63 w (by omega) (by omega))
  have HTP := Lib.hid (tame_in m pv row w (by omega) hm2 hP)
  have hpol := tamL_poly hm hm2 row
  obtain ⟨hp12, hpin⟩ := tamL_in (m := m) (by omega) row
  generalize modV x 63 = r at *
  generalize tamL m row = P at *
  obtain ⟨n, hn⟩ : ∃ n, P.length = n := ⟨_, rfl⟩
  rw [hn] at HTP hp12
  have HV := Lib.hid fun a cap W hW => Values_yes m a n cap P W hW hpol
  have HPm := Lib.hid fun a cap W hW => Permutes_yes m a n cap P W hW hpol
  rw [hval] at HV HPm
  have hFn := fun a cap W hW => refFunc_any (m : Int) a m cap F W hW (by omega)
  rw [show (decide ((m : Int) = (m : Int)) && remB m F) = true from by
    rw [decide_eq_true rfl, Bool.true_and]
    unfold remB
    rw [List.all_eq_true]
    exact fun v hv => decide_eq_true (hin v hv)] at hFn
  have HFn := Lib.hid hFn
  have HA := Lib.hid fun w => awake_any w
  have Hm := Lib.hid (show 0 < m by omega)
  obtain ⟨i0, hi, hz0, hz1, hz2⟩ := info_parts info_int
  rw [hp, hp2] at HPm
  obtain ⟨hPF, hFx⟩ := fnL_perm hfl hin hp
  have hW := invW hPF
  obtain ⟨l, hlf, hll⟩ := inv_form hm hm2 hval hPF hFx
  have hmany := fun n => many_cyc hPF n
  have hsum := count_sum hPF hm2 hmany
  have hle : ∀ n, 0 < cycN (fnL F) m n → n ≤ m := fun n h => many_le hmany h
  have HIn := Lib.hid fun g cap W hW h1 h2 => Inverse_yes m g cap F W hW h1 h2 hm hm2 hin hp
  have hOr := fun g cap W hW h1 h2 => Order_full m g cap F W hW h1 h2 hm hm2 hin hp
  have hCy := fun g cap W hW h1 h2 => Cycles_full m g cap F W hW h1 h2 hm hm2 hin hp
  have hOr2 := fun g cap W hW2 h1 h2 => Order_full m g cap (invL F m) W hW2 h1 h2 hm hm2 hW.inn hW.one
  have hCy2 := fun g cap W hW2 h1 h2 => Cycles_full m g cap (invL F m) W hW2 h1 h2 hm hm2 hW.inn hW.one
  rw [hW.cyc] at hOr2 hCy2
  have HFo := Lib.hid fun a cap W hW2 => Form_some m a cap (invL F m) l W hW2 hm hm2 hW.inn hlf
  have hAf := fun fa ga fc gc W hf hg => After_yes m fa ga fc gc F (invL F m) W hf hg hm hm2 hin hW.inn
  rw [show ((List.range m).map fun x : Nat => (invL F m).getD (F.getD x 0).toNat 0) = (List.range m).map fun x : Nat => (x : Int) from List.map_congr_left fun x hx => hW.left x (List.mem_range.1 hx)] at hAf
  have hrg : ∀ x, x < m → ((List.range m).map fun x : Nat => (x : Int)).getD x 0 = (x : Int) := fun x hx => by
    rw [List.getD_eq_getElem?_getD, List.getElem?_map, List.getElem?_range hx]; rfl
  generalize ((List.range m).map fun x : Nat => (x : Int)) = A at *
  generalize cycN (fnL F) m = c at *
  rw [cycL_cast c] at hCy hCy2
  simp only [List.length_map] at hCy hCy2
  obtain ⟨L, hL⟩ : ∃ L, (cycNL c).length = L := ⟨_, rfl⟩
  rw [hL] at hCy hCy2
  have hcs : (cycNL c).sum = m := by rw [← hsum]; exact cycNL_sum c 65
  have hcm : ∀ (k y : Nat), (cycNL c)[k]? = some y → 1 ≤ y ∧ y ≤ m := fun k y h => by
    obtain ⟨h1, h2, h3⟩ := (cycNL_mem c y).1 (List.mem_of_getElem? h)
    exact ⟨h2, hle y h3⟩
  have hco : ∀ (k y z : Nat), (cycNL c)[k]? = some y → (cycNL c)[k + 1]? = some z → y ≤ z := fun k y z h1 h2 => by
    have hp := List.pairwise_iff_getElem.1 (cycNL_sorted c) k (k + 1) (List.getElem?_eq_some_iff.1 h1).1 (List.getElem?_eq_some_iff.1 h2).1 (Nat.lt_succ_self k)
    rw [(List.getElem?_eq_some_iff.1 h1).2, (List.getElem?_eq_some_iff.1 h2).2] at hp
    exact hp
  have hL64 : L ≤ 64 := by
    have h1 := cyc_len c 65
    have h2 : (cycL c).length = L := by rw [cycL_cast, List.length_map, hL]
    have h3 : (cycL c).length ≤ sumT (fun n => n * c n) 65 := h1
    omega
  have hI := fun a b ca cb W h1 h2 => ints_true a b L ca cb ((cycNL c).map fun n : Nat => (n : Int)) W h1 h2 (by omega)
  have hts : ∀ k y, (cycNL c)[k]? = some y → ((cycNL c).take (k + 1)).sum = ((cycNL c).take k).sum + y := fun k y h => take_sum _ h
  have htl : ∀ k, ((cycNL c).take k).sum ≤ m := fun k => by rw [← hcs]; exact take_sum_le _ k
  have hta : ((cycNL c).take L).sum = m := by rw [List.take_of_length_le (by omega)]; exact hcs
  have hbd := fun (k o : Nat) (h : LSt (cycNL c) k o) => h.bound (by rw [hsum]; exact hm2)
  have hdn := fun (o : Nat) (h : LSt (cycNL c) L o) => LSt.done hL h
  have hst := LSt.start (cycNL c)
  generalize ordC c = O at *
  generalize cycNL c = C at *
  have hap : ∀ (a : Option Addr) W, Row W a L (intL (C.map fun n : Nat => (n : Int))) → ∀ (k y : Nat), C[k]? = some y → ∃ g, a = some ⟨g, 0, none⟩ ∧ W.cell? ⟨g, k, none⟩ = some (.int .i64 (y : Int)) := fun a W h k y hk => by
    have hkl := (List.getElem?_eq_some_iff.1 hk).1
    obtain ⟨g, h1, _, h3⟩ := h.2 (by omega)
    exact ⟨g, h1, h3 k _ (intL_get (by rw [List.getElem?_map, hk]; rfl))⟩
  have HOr := Lib.hid hOr
  have HCy := Lib.hid hCy
  have HOr2 := Lib.hid hOr2
  have HCy2 := Lib.hid hCy2
  have HAf := Lib.hid hAf
  have HI := Lib.hid hI
  have HL := Lib.hid hL
  have Hcm := Lib.hid hcm
  have Hco := Lib.hid hco
  have Hts := Lib.hid hts
  have Htl := Lib.hid htl
  have Hta := Lib.hid hta
  have Hbd := Lib.hid hbd
  have Hdn := Lib.hid hdn
  have Hst := Lib.hid hst
  have Hap := Lib.hid hap
  have Hrg := Lib.hid hrg
  have hOO : ((O : Int) == (O : Int)) = true := by simp
  have hmm : ((m : Int) == (m : Int)) = true := by simp
  generalize l.length = ll at *
  clear hval hfl hin hpol hpin hn hFn hP hp hp2 hPF hFx hW hlf hll hmany hsum hle hOr hCy hOr2 hCy2 hAf hrg hL hcs hcm hco hI hts htl hta hbd hdn hst hap hp12
  go_enter Try.func9, Try.ntmps9
  go_wp2_with fail
  refine (HM.out).mono ?_
  rintro e w1 ⟨rfl, hw⟩
  subst w1
  go_wp2_with fail
  refine (HTP.out).mono ?_
  rintro e w2 ⟨v2, rfl, ho, b2⟩
  have B2 := Lib.hid b2
  clear b2
  obtain ⟨a1, c1, hv, hc1, r2⟩ := own_slice ho
  subst v2
  have RP := Lib.hid r2
  clear ho r2
  go_wp2_with fail
  refine (HV.out _ _ _ RP.out).mono ?_
  rintro e w3 ⟨v3, rfl, ho, b3⟩
  have B3 := Lib.hid (b_next B2.out b3)
  clear B2
  replace RP := Lib.hid (RP.out.below b3)
  clear b3
  obtain ⟨gf, cf, rfl, hcf, hcfm, -, hrf⟩ := own_full ho Hm.out
  have RF := Lib.hid hrf
  have Hcf := Lib.hid (And.intro hcf hcfm)
  clear ho hrf hcf hcfm
  go_wp2_with fail
  refine (HPm.out _ _ _ RP.out).mono ?_
  rintro e w4 ⟨rfl, b4⟩
  have B4 := Lib.hid (b_next B3.out b4)
  clear B3
  replace RP := Lib.hid (RP.out.below b4)
  replace RF := Lib.hid (RF.out.below b4)
  clear b4
  clear RP
  go_wp2_with fail
  refine (HIn.out _ _ _ RF.out Hcf.out.1 Hcf.out.2).mono ?_
  rintro e w5 ⟨v5, rfl, ho, b5⟩
  have B5 := Lib.hid (b_next B4.out b5)
  clear B4
  replace RF := Lib.hid (RF.out.below b5)
  clear b5
  obtain ⟨gi, ci, rfl, hci, hcim, -, hri⟩ := own_full ho Hm.out
  have RI := Lib.hid hri
  have Hci := Lib.hid (And.intro hci hcim)
  clear ho hri hci hcim
  go_wp2_with fail
  refine (HOr.out _ _ _ RF.out Hcf.out.1 Hcf.out.2).mono ?_
  rintro e w6 ⟨rfl, b6⟩
  have B6 := Lib.hid (b_next B5.out b6)
  clear B5
  replace RF := Lib.hid (RF.out.below b6)
  replace RI := Lib.hid (RI.out.below b6)
  clear b6
  go_wp2_with fail
  refine (HCy.out _ _ _ RF.out Hcf.out.1 Hcf.out.2).mono ?_
  rintro e w7 ⟨v7, rfl, ho, b7⟩
  have B7 := Lib.hid (b_next B6.out b7)
  clear B6
  replace RF := Lib.hid (RF.out.below b7)
  replace RI := Lib.hid (RI.out.below b7)
  clear b7
  obtain ⟨ac, cc, hv, hcc, r7⟩ := own_slice ho
  subst v7
  have RC := Lib.hid r7
  clear ho r7
  go_wp2_with fail
  refine (HFn.out _ _ _ RF.out).mono ?_
  rintro e w8 ⟨rfl, hw⟩
  subst w8
  go_wp2_with fail
  refine (HOr2.out _ _ _ RI.out Hci.out.1 Hci.out.2).mono ?_
  rintro e w9 ⟨rfl, b9⟩
  have B9 := Lib.hid (b_next B7.out b9)
  clear B7
  replace RF := Lib.hid (RF.out.below b9)
  replace RI := Lib.hid (RI.out.below b9)
  replace RC := Lib.hid (RC.out.below b9)
  clear b9
  go_wp2_with fail
  refine (HCy2.out _ _ _ RI.out Hci.out.1 Hci.out.2).mono ?_
  rintro e w10 ⟨v10, rfl, ho, b10⟩
  have B10 := Lib.hid (b_next B9.out b10)
  clear B9
  replace RF := Lib.hid (RF.out.below b10)
  replace RI := Lib.hid (RI.out.below b10)
  replace RC := Lib.hid (RC.out.below b10)
  clear b10
  obtain ⟨ad, cd, hv, hcd, r10⟩ := own_slice ho
  subst v10
  have RD := Lib.hid r10
  clear ho r10
  go_wp2_with fail
  refine (HFo.out _ _ _ RI.out).mono ?_
  rintro e w11 ⟨v11, rfl, ho, b11⟩
  have B11 := Lib.hid (b_next B10.out b11)
  clear B10
  replace RF := Lib.hid (RF.out.below b11)
  replace RI := Lib.hid (RI.out.below b11)
  replace RC := Lib.hid (RC.out.below b11)
  replace RD := Lib.hid (RD.out.below b11)
  clear b11
  obtain ⟨al, cl, hv, hcl, r11⟩ := own_slice ho
  subst v11
  have RL := Lib.hid r11
  clear ho r11
  clear RL
  go_wp2_with fail
  refine (HAf.out _ _ _ _ _ RF.out RI.out).mono ?_
  rintro e w12 ⟨v12, rfl, ho, b12⟩
  have B12 := Lib.hid (b_next B11.out b12)
  clear B11
  replace RF := Lib.hid (RF.out.below b12)
  replace RI := Lib.hid (RI.out.below b12)
  replace RC := Lib.hid (RC.out.below b12)
  replace RD := Lib.hid (RD.out.below b12)
  clear b12
  obtain ⟨aa, ca, hv, hca, r12⟩ := own_slice ho
  subst v12
  have RA := Lib.hid r12
  clear ho r12
  go_wp2_with fail
  refine (HI.out _ _ _ _ _ RC.out RD.out).mono ?_
  rintro e w13 ⟨rfl, hq⟩
  have b13 := drew_below hq
  clear hq
  have B13 := Lib.hid (b_next B12.out b13)
  clear B12
  replace RF := Lib.hid (RF.out.below b13)
  replace RI := Lib.hid (RI.out.below b13)
  replace RC := Lib.hid (RC.out.below b13)
  replace RD := Lib.hid (RD.out.below b13)
  replace RA := Lib.hid (RA.out.below b13)
  clear b13
  go_wp2
  generalize w13 = WQ at *
  clear HM HTP HV HPm HFn HIn HOr HCy HOr2 HCy2 HFo HAf HI RD RI RF Hcf Hci
  go_loopw [25, 26, 27] (fun sv ov i wr => ∃ (k o q : Nat), k ≤ L ∧ i = .int .i64 k ∧ sv = .int .i64 ((C.take k).sum : Nat) ∧ ov = .int .i64 o ∧ Hid (LSt C k o) ∧ wr = WQ.drewN q) (fun _ _ i _ => L - (intOf i).toNat)
  case atStart => exact ⟨0, 1, 0, Nat.zero_le _, rfl, by simp, rfl, Hst.out, rfl⟩
  case round =>
    obtain ⟨k, o, q, hk, rfl, rfl, rfl, HS, hw⟩ := hrel
    subst wr
    by_cases hlt : k < L
    · have hc : (k : Int) < (L : Int) := by omega
      have Hgo := Lib.hid (show k + 1 ≤ L ∧ k < L ∧ k ≤ 64 by omega)
      obtain ⟨y, hy⟩ : ∃ y, C[k]? = some y := ⟨_, List.getElem?_eq_getElem (by have := HL.out; omega)⟩
      obtain ⟨gc, rfl, cy⟩ := Hap.out _ _ RC.out k y hy
      obtain ⟨y1, ym⟩ := Hcm.out k y hy
      have hts := Hts.out k y hy
      have htl := Htl.out (k + 1)
      have HN := Lib.hid (HS.out.next hy y1 (by omega))
      have hy64 : y ≤ 64 := by omega
      have Hnums := Lib.hid (lcm_nums (Hbd.out k o HS.out) HS.out.lcm.pos y1 hy64)
      have hob := Hbd.out k o HS.out
      have hgc := fun W => refGcd_any o y (by omega) (by omega) W
      obtain ⟨s, hs⟩ : ∃ s, (C.take k).sum = s := ⟨_, rfl⟩
      rw [hs] at hts ⊢
      rw [hts] at htl
      have Hyl : Hid (decide (m < y) = false ∧ decide ((y : Int) < 1) = false) := ⟨decide_eq_false (by omega), decide_eq_false (by omega)⟩
      have Hts2 : Hid ((((C.take (k + 1)).sum : Nat) : Int) = ((s + y : Nat) : Int)) := by unfold Hid; rw [hts]
      have hprev : k = 0 ∨ ∃ k1 z : Nat, 0 < k ∧ k = k1 + 1 ∧ z ≤ y ∧ WQ.cell? ⟨gc, k1, none⟩ = some (.int .i64 (z : Int)) := by
        by_cases h0 : k = 0
        · exact .inl h0
        · obtain ⟨k1, rfl⟩ : ∃ k1, k = k1 + 1 := ⟨k - 1, by omega⟩
          obtain ⟨z, hz⟩ : ∃ z, C[k1]? = some z := ⟨_, List.getElem?_eq_getElem (by have := HL.out; omega)⟩
          obtain ⟨g', e, cz⟩ := Hap.out _ _ RC.out k1 z hz
          simp only [Option.some.injEq, Addr.mk.injEq, and_true] at e
          subst e
          exact .inr ⟨k1, z, by omega, rfl, Hco.out k1 z y hz hy, cz⟩
      have Hsw : Hid (IntKind.i64.wrap ((s : Int) + (y : Int)) = ((s + y : Nat) : Int) ∧ wrap64 ((s : Int) + (y : Int)) = ((s + y : Nat) : Int)) := by
        refine ⟨?_, ?_⟩
        · rw [IntWalk.i64_in _ (by omega)]; rfl
        · rw [IntWalk.wrap64_in _ (by omega)]; rfl
      obtain ⟨g9, q9, r9, e1, e2, n1, n2, n3, n4, n5, n6, n7, n8⟩ := Hnums.out
      rw [e1] at hgc
      rw [e2] at HN
      have HG := Lib.hid hgc
      have Hn := Lib.hid (And.intro n1 (And.intro n2 (And.intro n3 (And.intro n4 (And.intro n5 (And.intro n6 (And.intro n7 n8)))))))
      have hkL : k ≤ 64 := Hgo.out.2.2
      clear Hnums hy64 hs hts htl hob hgc e1 e2 n1 n2 n3 n4 n5 n6 n7 n8 hy y1 ym hk hlt HS
      rcases hprev with h0 | ⟨k1, z, hk0, hk1, hzy, cz⟩
      · have Zz : Hid (decide (0 < k) = false) := decide_eq_false (by rw [h0]; exact Nat.lt_irrefl 0)
        clear h0
        go_wp2_with fail
        have zz := Zz.out
        obtain ⟨a1', a2'⟩ := Hyl.out
        go_quiet (fail)
        clear zz a1' a2'
        go_wp2
        obtain ⟨hsw, hsw2⟩ := Hsw.out
        obtain ⟨n1, n2, n3, n4, n5, n6, n7, n8'⟩ := Hn.out
        go_wp2
        go_quiet ((go_at_call 59; first | exact quiet_still (HG.out _) | exact Calls.quiet_of_same (HG.out _)))
        clear hsw hsw2 n1 n2 n3 n4 n5 n6 n7 n8'
        go_wp2
        go_roundw
        case rel => exact ⟨k + 1, r9, _, Hgo.out.1, by go_num, by rw [Hts2.out, Hsw.out.2], rfl, HN.out, by first | rfl | exact World.drewN_drewN _ _ _ | trivial⟩
        case measure => simp [intOf]; have := Hgo.out; omega
      · have hk1L : k1 < L := by have := Hgo.out; omega
        have hk1i : (k1 : Int) < (L : Int) := by omega
        have hnzy : ¬ y < z := by omega
        have N9 : Hid (IntKind.i64.wrap ((k : Int) - 1) = (k1 : Int) ∧ wrap64 ((k : Int) - 1) = (k1 : Int)) := by
          refine ⟨?_, ?_⟩
          · rw [IntWalk.i64_in _ (by omega)]; omega
          · rw [IntWalk.wrap64_in _ (by omega)]; omega
        have hgt : decide (y < z) = false := decide_eq_false hnzy
        have Hgt := Lib.hid hgt
        have Zz : Hid (decide (0 < k) = true) := decide_eq_true hk0
        clear hnzy hgt
        clear hk0 hk1 hzy
        go_wp2_with fail
        have zz := Zz.out
        have hgt := Hgt.out
        obtain ⟨n9, n8⟩ := N9.out
        obtain ⟨a1', a2'⟩ := Hyl.out
        go_quiet (fail)
        clear zz a1' a2' n9 n8 hgt cz hk1L hk1i
        go_wp2
        obtain ⟨hsw, hsw2⟩ := Hsw.out
        obtain ⟨n1, n2, n3, n4, n5, n6, n7, n8'⟩ := Hn.out
        go_wp2
        go_quiet ((go_at_call 59; first | exact quiet_still (HG.out _) | exact Calls.quiet_of_same (HG.out _)))
        clear hsw hsw2 n1 n2 n3 n4 n5 n6 n7 n8'
        go_wp2
        go_roundw
        case rel => exact ⟨k + 1, r9, _, Hgo.out.1, by go_num, by rw [Hts2.out, Hsw.out.2], rfl, HN.out, by first | rfl | exact World.drewN_drewN _ _ _ | trivial⟩
        case measure => simp [intOf]; have := Hgo.out; omega
    · obtain rfl : k = L := by omega
      have hc : ¬ (k : Int) < (k : Int) := by omega
      obtain rfl := Hdn.out o HS.out
      rw [Hta.out]
      clear HS RC hk hlt
      go_wp2
      go_loopw [28] (fun i wr => ∃ (z q : Nat), z ≤ m ∧ i = .int .i64 z ∧ wr = WQ.drewN q) (fun i _ => m - (intOf i).toNat)
      case atStart => exact ⟨0, q, Nat.zero_le _, rfl, rfl⟩
      case round =>
        obtain ⟨z, q2, hz, rfl, hw⟩ := hrel
        subst wr
        by_cases hlz : z < m
        · have hcz : (z : Int) < (m : Int) := by omega
          obtain ⟨ga, rfl, caz⟩ := RA.out.int hlz
          rw [Hrg.out z hlz] at caz
          have hzz : ((z : Int) == (z : Int)) = true := by simp
          have Hgz := Lib.hid (show z + 1 ≤ m ∧ z < m by omega)
          go_wp2
          go_roundw
          case rel => exact ⟨z + 1, _, Hgz.out.1, by go_num, rfl⟩
          case measure => simp [intOf]; have := Hgz.out; omega
        · obtain rfl : z = m := by omega
          have hcz : ¬ (z : Int) < (z : Int) := by omega
          have BZ := Lib.hid (below_drewN B13.out q2)
          go_wp2_with fail
          refine (HA.out _).mono ?_
          rintro e' w80 ⟨rfl, b80⟩
          have B80 := Lib.hid (b_next BZ.out b80)
          clear b80
          go_wp2
          go_ret
          exact ⟨rfl, B80.out⟩
theorem walk_ShuffleInverted (x : Int) (_ : (Lit.int .i64 x).wf = true) (pv : Value) (rp : List Int) (w : World) (hP : RowIn w pv rp) : Calls Try.prog 9 #[.int .i64 x, pv] w fun e w' => e = .returned (.bool true) ∧ Below w.heap.size w w' := by
  have hr := modV_lt x 63 (by omega)
  obtain ⟨m, hm⟩ : ∃ m, modV x 63 + 2 = m := ⟨_, rfl⟩
  have w2 : IntKind.i64.wrap (2 + (modV x 63 : Int)) = (m : Int) := by rw [IntWalk.i64_in _ (by omega)]; omega
  have hl := valuesL_len m (tamL m rp)
  have hin : ∀ v ∈ valuesL m (tamL m rp), 0 ≤ v ∧ v < m := valuesL_in (by omega) _
  rcases equalR_cases (valuesL m (tamL m rp)) hl with h | ⟨y, z, h1, h2, h3, h4⟩
  · exact inv_yes x pv rp _ m w hP (by omega) (by omega) w2 rfl hl hin (by rw [h]) (by rw [h])
  · exact inv_no x pv rp _ m w hP (by omega) (by omega) w2 rfl hl hin y z h1 h2 h3 h4
end Go.Proofs.Ytndbjojjaapeaaa

/- ShuffleInverted: the inverse of a permutation that is polynomial is polynomial, undoes it, has the same order and cycles, and the order is the least common multiple of the lengths of the cycles. Conditions: none. -/
namespace Go.Proofs.Ytndbjojjaapeaaa
set_option linter.unusedVariables false

namespace lawShuffleInverted
open Go.ChangeShapes Go.WideShapes Go.ChangeAt Go.RowKit
open Go.ChangeMaps (open_string shut_string)

theorem own : ownKnob Try.prog.godebug = none := by kernel_rfl
theorem lay : laidOutB Try.prog = true := by kernel_rfl

set_option maxRecDepth 100000 in
theorem lifted (os : Os) (started : os.Started) (H : Type) (enc : TypeId × Value → H) :
    ReturnsInHanded {} Try.checked os 9 .any (Rows.shuffleInvertedSpec.pre6 enc Try.prog Try.f9 Rows.shuffleInvertedRow.domain false) (Rows.shuffleInvertedSpec.post enc Try.prog Try.f9 false true false false) := by
  refine returnsInHanded_of_change (C := Try.checked) own started (by kernel_rfl) Try.func9
    (ChangeSpec.witness6 (enc := enc) (C := Try.checked) false ⟨#[], #[.int .i64 0, .slice none 0 0], []⟩ 8 (by kernel_rfl) (by kernel_rfl) (by kernel_rfl) (by kernel_rfl)) ?_
  intro W base args ds gs before hval0 hW hcnd _
  have hval : ∀ (j : Nat) t v, Try.f9.params[j]? = some t → args[j]? = some v → Value.okWide Try.prog W .any base t v := hval0
  have hW' := hW
  obtain ⟨p, q, hA0, hV, rfl, hfz, hnd⟩ := hW
  have hA : DataW.TrodAll enc Try.prog W 0 (fun _ => true) true Try.f9.params.toList args.toList ds p := hA0
  rw [Try.params9] at hA hval
  obtain ⟨v0, vs0, d0, ds0, p0, q0, hargs, rfl, rfl, h0, r0⟩ := trodAll_cons hA
  obtain ⟨v1, vs1, d1, ds1, p1, q1, rfl, rfl, rfl, h1, r1⟩ := trodAll_cons r0
  obtain ⟨rfl, rfl, rfl⟩ := trodAll_nil r1
  obtain rfl : args = #[v0, v1] := by cases args; simp_all
  obtain ⟨rfl, rfl⟩ := trodVars_none hV
  obtain ⟨a0, rfl, rfl, rfl, w0⟩ := open_int Try.underlying3 (hval 0 3 v0 rfl rfl) h0
  obtain ⟨a1, len1, cap1, rfl⟩ := okWide_slice Try.underlying22 (hval 1 22 v1 rfl rfl)
  have k1 := h1
  have lt1 : ∀ x ∈ p1, x.block < W.heap.size := by obtain ⟨m, hm⟩ := k1; exact DataW.trod_lt m _ _ _ hm
  obtain ⟨z1, w1⟩ : ∃ C, RowIn W (.slice a1 len1 cap1) C := by
    obtain ⟨fuel, hf⟩ := h1
    exact rowIn_of Try.underlying22 Try.underlying3 (by kernel_rfl) hf
  clear hA0 hval0
  refine (walk_ShuffleInverted a0 w0 _ z1 W w1).mono fun e W' ⟨he, bel⟩ => ?_
  subst he
  exact ⟨_, rfl, _, _, _, [], _, [], hW', trodAll_mk1 (shut_bool Try.underlying4 _), (trodAll_cons_mk (shut_int Try.underlying3 w0) (trodAll_cons_mk (Below.trod lay (by kernel_rfl) (of_decide_eq_true (by kernel_rfl)) k1 bel lt1) trodAll_mk0)), rfl, bel.frame _, fun h => by cases h⟩

theorem over : Rows.shuffleInvertedRow.holds Try.pinned (OpenSpec.ofChange Rows.shuffleInvertedSpec) :=
  OpenClaim.holds_of_wide 9 Try.f9 rfl rfl rfl rfl rfl rfl rfl ⟨rfl, rfl, rfl, rfl, rfl⟩ rfl rfl rfl rfl rfl (by kernel_rfl) Try.func9 (by kernel_rfl)
    (of_decide_eq_true (by kernel_rfl)) (by unfold Func.isWrapper; first | (rw [if_pos (by decide +kernel)]; kernel_rfl) | (rw [if_neg (by decide +kernel)]; exact ⟨rfl, rfl⟩))
    (fun os started H enc _ => lifted os started H enc)

theorem proved : Rows.ShuffleInvertedSaid := over
end lawShuffleInverted
end Go.Proofs.Ytndbjojjaapeaaa
