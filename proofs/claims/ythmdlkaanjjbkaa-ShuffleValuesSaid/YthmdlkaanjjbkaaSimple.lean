/- Moduli, remainders, divisors: the program's and the reference's. -/
import Derived.Test.YthmdlkaanjjbkaaOwnr
import Derived.Test.YthmdlkaanjjbkaaPoly
namespace Go.Proofs.Ythmdlkaanjjbkaa
set_option linter.unusedVariables false
open Go.RowKit

def modB (m : Int) : Bool := decide (2 ≤ m ∧ m ≤ 64)
def remB (m : Int) (xs : List Int) : Bool := xs.all fun x => decide (0 ≤ x ∧ x < m)
def polyB (m : Int) (xs : List Int) : Bool := modB m && decide (xs.length ≤ 12) && remB m xs
def funcB (m : Int) (xs : List Int) : Bool := modB m && decide ((xs.length : Int) = m) && remB m xs

theorem isModulus_any (m : Int) (w : World) : Calls Try.prog 84 #[.int .i64 m] w fun e w' => e = .returned (.bool (modB m)) ∧ w' = w := by
  by_cases h1 : 2 ≤ m
  · by_cases h2 : m ≤ 64
    · have hb : modB m = true := decide_eq_true ⟨h1, h2⟩
      rw [hb]
      clear hb
      go_enter Try.func84, Try.ntmps84
      go_wp2
      go_ret
      exact ⟨rfl, rfl⟩
    · have hb : modB m = false := decide_eq_false (fun h => h2 h.2)
      rw [hb]
      clear hb
      go_enter Try.func84, Try.ntmps84
      go_wp2
      go_ret
      exact ⟨rfl, rfl⟩
  · have hb : modB m = false := decide_eq_false (fun h => h1 h.1)
    rw [hb]
    clear hb
    go_enter Try.func84, Try.ntmps84
    go_wp2
    go_ret
    exact ⟨rfl, rfl⟩
theorem refModulus_any (m : Int) (w : World) : Calls Try.prog 22 #[.int .i64 m] w fun e w' => e = .returned (.bool (modB m)) ∧ w' = w := by
  by_cases h1 : 2 ≤ m
  · by_cases h2 : m ≤ 64
    · have hb : modB m = true := decide_eq_true ⟨h1, h2⟩
      rw [hb]
      clear hb
      go_enter Try.func22, Try.ntmps22
      go_wp2
      go_ret
      exact ⟨rfl, rfl⟩
    · have hb : modB m = false := decide_eq_false (fun h => h2 h.2)
      rw [hb]
      clear hb
      go_enter Try.func22, Try.ntmps22
      go_wp2
      go_ret
      exact ⟨rfl, rfl⟩
  · have hb : modB m = false := decide_eq_false (fun h => h1 h.1)
    rw [hb]
    clear hb
    go_enter Try.func22, Try.ntmps22
    go_wp2
    go_ret
    exact ⟨rfl, rfl⟩
theorem remB_step {m : Int} {xs : List Int} {k : Nat} {x : Int} (h : xs[k]? = some x) : remB m (xs.take (k + 1)) = (remB m (xs.take k) && decide (0 ≤ x ∧ x < m)) := by
  unfold remB
  rw [List.take_add_one, h, List.all_append]
  simp
theorem remB_no {m : Int} {xs : List Int} {k : Nat} {x : Int} (h : xs[k]? = some x) (hx : ¬ (0 ≤ x ∧ x < m)) : remB m xs = false := by
  unfold remB
  rw [Bool.eq_false_iff]
  intro h2
  rw [List.all_eq_true] at h2
  exact hx (of_decide_eq_true (h2 x (List.mem_of_getElem? h)))

set_option maxRecDepth 100000 in
set_option maxHeartbeats 4000000 in
theorem areRem_any (m : Int) (a : Option Addr) (n cap : Nat) (xs : List Int) (w : World) (hr : Row w a n (intL xs)) (hn : n ≤ 1000) :
    Calls Try.prog 91 #[.int .i64 m, .slice a n cap] w fun e w' => e = .returned (.bool (remB m xs)) ∧ w' = w := by
  have hx : xs.length = n := by have := hr.1; simpa [intL] using this
  have Hr := Lib.hid hr
  have Hx := Lib.hid hx
  clear hr hx
  go_enter Try.func91, Try.ntmps91
  go_wp2
  go_loopw [6, 9] (fun _ i wr => ∃ k : Nat, k ≤ n ∧ i = .int .i64 k ∧ Hid (remB m (xs.take k) = true) ∧ wr = w) (fun _ i _ => n - (intOf i).toNat)
  case atStart => exact ⟨0, Nat.zero_le _, rfl, by unfold Hid; rw [List.take_zero]; rfl, rfl⟩
  case round =>
    obtain ⟨k, hk, rfl, HB, rfl⟩ := hrel
    by_cases hlt : k < n
    · have hc : (k : Int) < n := by omega
      obtain ⟨x, hxk⟩ : ∃ x, xs[k]? = some x := ⟨_, List.getElem?_eq_getElem (by have := Hx.out; omega)⟩
      obtain ⟨g, rfl, c1⟩ := Hr.out.int hlt
      rw [List.getD_eq_getElem?_getD, hxk] at c1
      simp only [Option.getD_some] at c1
      have hno := fun h => remB_no (m := m) hxk h
      have hst := remB_step (m := m) hxk
      rw [HB.out] at hst
      have HN := Lib.hid hno
      have HS := Lib.hid hst
      clear hno hst hxk
      by_cases h0 : x < 0
      · go_wp2
        go_ret
        exact ⟨ret_bool (HN.out (by omega)).symm, rfl⟩
      · by_cases h1 : x ≥ m
        · go_wp2
          go_ret
          exact ⟨ret_bool (HN.out (by omega)).symm, rfl⟩
        · have HS2 : Hid (remB m (xs.take (k + 1)) = true) := by unfold Hid; rw [HS.out, Bool.true_and]; exact decide_eq_true (by omega)
          have h2 : x < m := by omega
          go_wp2
          go_roundw
          case rel => exact ⟨k + 1, by omega, by go_num, HS2, trivial⟩
          case measure => simp [intOf]; omega
    · obtain rfl : k = n := by omega
      have hc : ¬ (k : Int) < k := by omega
      have hb := HB.out
      rw [List.take_of_length_le (by have := Hx.out; omega)] at hb
      have HB2 := Lib.hid hb
      clear hb
      go_wp2
      go_ret
      exact ⟨ret_bool HB2.out.symm, rfl⟩
set_option maxRecDepth 100000 in
set_option maxHeartbeats 4000000 in
theorem refListed_any (m : Int) (a : Option Addr) (n cap : Nat) (xs : List Int) (w : World) (hr : Row w a n (intL xs)) (hn : n ≤ 1000) :
    Calls Try.prog 61 #[.int .i64 m, .slice a n cap] w fun e w' => e = .returned (.bool (remB m xs)) ∧ w' = w := by
  have hx : xs.length = n := by have := hr.1; simpa [intL] using this
  have Hr := Lib.hid hr
  have Hx := Lib.hid hx
  clear hr hx
  go_enter Try.func61, Try.ntmps61
  go_wp2
  go_loopw [5] (fun i wr => ∃ k : Nat, k ≤ n ∧ i = .int .i64 k ∧ Hid (remB m (xs.take k) = true) ∧ wr = w) (fun i _ => n - (intOf i).toNat)
  case atStart => exact ⟨0, Nat.zero_le _, rfl, by unfold Hid; rw [List.take_zero]; rfl, rfl⟩
  case round =>
    obtain ⟨k, hk, rfl, HB, rfl⟩ := hrel
    by_cases hlt : k < n
    · have hc : (k : Int) < n := by omega
      obtain ⟨x, hxk⟩ : ∃ x, xs[k]? = some x := ⟨_, List.getElem?_eq_getElem (by have := Hx.out; omega)⟩
      obtain ⟨g, rfl, c1⟩ := Hr.out.int hlt
      rw [List.getD_eq_getElem?_getD, hxk] at c1
      simp only [Option.getD_some] at c1
      have hno := fun h => remB_no (m := m) hxk h
      have hst := remB_step (m := m) hxk
      rw [HB.out] at hst
      have HN := Lib.hid hno
      have HS := Lib.hid hst
      clear hno hst hxk
      by_cases h0 : x < 0
      · go_wp2
        go_ret
        exact ⟨ret_bool (HN.out (by omega)).symm, rfl⟩
      · by_cases h1 : x ≥ m
        · go_wp2
          go_ret
          exact ⟨ret_bool (HN.out (by omega)).symm, rfl⟩
        · have HS2 : Hid (remB m (xs.take (k + 1)) = true) := by unfold Hid; rw [HS.out, Bool.true_and]; exact decide_eq_true (by omega)
          have h2 : x < m := by omega
          go_wp2
          go_roundw
          case rel => exact ⟨k + 1, by omega, by go_num, HS2, trivial⟩
          case measure => simp [intOf]; omega
    · obtain rfl : k = n := by omega
      have hc : ¬ (k : Int) < k := by omega
      have hb := HB.out
      rw [List.take_of_length_le (by have := Hx.out; omega)] at hb
      have HB2 := Lib.hid hb
      clear hb
      go_wp2
      go_ret
      exact ⟨ret_bool HB2.out.symm, rfl⟩

set_option maxRecDepth 100000 in
theorem isPoly_any (m : Int) (a : Option Addr) (n cap : Nat) (xs : List Int) (w : World) (hr : Row w a n (intL xs)) (hn : n ≤ 1000) :
    Calls Try.prog 62 #[.int .i64 m, .slice a n cap] w fun e w' => e = .returned (.bool (polyB m xs)) ∧ w' = w := by
  have hx : xs.length = n := by have := hr.1; simpa [intL] using this
  have H1 := Lib.hid fun w => isModulus_any m w
  have H2 := Lib.hid (areRem_any m a n cap xs w hr hn)
  obtain ⟨b, hb⟩ : ∃ b, modB m = b := ⟨_, rfl⟩
  have hR : polyB m xs = (b && decide (n ≤ 12) && remB m xs) := by unfold polyB; rw [hb, hx]
  have HR := Lib.hid hR
  have Hb := Lib.hid hb
  clear hr hx hb hR
  go_enter Try.func62, Try.ntmps62
  go_wp2_with fail
  refine (H1.out _).mono ?_
  rintro e w1 ⟨rfl, rfl⟩
  rw [Hb.out]
  cases b with
  | false =>
    go_wp2
    go_ret
    exact ⟨ret_bool (by rw [HR.out]; rfl), rfl⟩
  | true =>
    by_cases h12 : n ≤ 12
    · have h2 : (n : Int) ≤ 12 := by omega
      go_wp2_with fail
      refine H2.out.mono ?_
      rintro e w2 ⟨rfl, rfl⟩
      go_wp2
      go_ret
      exact ⟨ret_bool (by rw [HR.out, decide_eq_true h12]; rfl), rfl⟩
    · have h2 : ¬ (n : Int) ≤ 12 := by omega
      go_wp2
      go_ret
      exact ⟨ret_bool (by rw [HR.out, decide_eq_false h12]; rfl), rfl⟩
set_option maxRecDepth 100000 in
theorem isFunc_any (m : Int) (a : Option Addr) (n cap : Nat) (xs : List Int) (w : World) (hr : Row w a n (intL xs)) (hn : n ≤ 1000) :
    Calls Try.prog 72 #[.int .i64 m, .slice a n cap] w fun e w' => e = .returned (.bool (funcB m xs)) ∧ w' = w := by
  have hx : xs.length = n := by have := hr.1; simpa [intL] using this
  have H1 := Lib.hid fun w => isModulus_any m w
  have H2 := Lib.hid (areRem_any m a n cap xs w hr hn)
  obtain ⟨b, hb⟩ : ∃ b, modB m = b := ⟨_, rfl⟩
  have hR : funcB m xs = (b && decide ((n : Int) = m) && remB m xs) := by unfold funcB; rw [hb, hx]
  have HR := Lib.hid hR
  have Hb := Lib.hid hb
  clear hr hx hb hR
  go_enter Try.func72, Try.ntmps72
  go_wp2_with fail
  refine (H1.out _).mono ?_
  rintro e w1 ⟨rfl, rfl⟩
  rw [Hb.out]
  cases b with
  | false =>
    go_wp2
    go_ret
    exact ⟨ret_bool (by rw [HR.out]; rfl), rfl⟩
  | true =>
    by_cases h12 : (n : Int) = m
    · subst h12
      go_wp2_with fail
      refine H2.out.mono ?_
      rintro e w2 ⟨rfl, rfl⟩
      go_wp2
      go_ret
      exact ⟨ret_bool (by rw [HR.out]; simp), rfl⟩
    · have h2 : ((n : Int) == m) = false := by rw [beq_eq_false_iff_ne]; exact h12
      have HN := Lib.hid h12
      clear h12
      go_wp2
      go_ret
      exact ⟨ret_bool (by rw [HR.out, decide_eq_false HN.out]; rfl), rfl⟩
set_option maxRecDepth 100000 in
theorem refPoly_any (m : Int) (a : Option Addr) (n cap : Nat) (xs : List Int) (w : World) (hr : Row w a n (intL xs)) (hn : n ≤ 1000) :
    Calls Try.prog 23 #[.int .i64 m, .slice a n cap] w fun e w' => e = .returned (.bool (decide (n ≤ 12) && remB m xs)) ∧ w' = w := by
  have H2 := Lib.hid (refListed_any m a n cap xs w hr hn)
  clear hr
  go_enter Try.func23, Try.ntmps23
  by_cases h12 : n ≤ 12
  · have h2 : (n : Int) ≤ 12 := by omega
    go_wp2_with fail
    refine H2.out.mono ?_
    rintro e w2 ⟨rfl, rfl⟩
    go_wp2
    go_ret
    exact ⟨ret_bool (by simp [h12]), rfl⟩
  · have h2 : ¬ (n : Int) ≤ 12 := by omega
    go_wp2
    go_ret
    exact ⟨ret_bool (by simp), rfl⟩
set_option maxRecDepth 100000 in
theorem refFunc_any (m : Int) (a : Option Addr) (n cap : Nat) (xs : List Int) (w : World) (hr : Row w a n (intL xs)) (hn : n ≤ 1000) :
    Calls Try.prog 36 #[.int .i64 m, .slice a n cap] w fun e w' => e = .returned (.bool (decide ((n : Int) = m) && remB m xs)) ∧ w' = w := by
  have H2 := Lib.hid (refListed_any m a n cap xs w hr hn)
  clear hr
  go_enter Try.func36, Try.ntmps36
  by_cases h12 : (n : Int) = m
  · subst h12
    go_wp2_with fail
    refine H2.out.mono ?_
    rintro e w2 ⟨rfl, rfl⟩
    go_wp2
    go_ret
    exact ⟨ret_bool (by simp), rfl⟩
  · have h2 : ((n : Int) == m) = false := by rw [beq_eq_false_iff_ne]; exact h12
    have HN := Lib.hid h12
    clear h12
    go_wp2
    go_ret
    exact ⟨ret_bool (by simp [HN.out]), rfl⟩

theorem gcd_step (a b : Nat) : Nat.gcd b (a % b) = Nat.gcd a b := by rw [Nat.gcd_comm, ← Nat.gcd_rec, Nat.gcd_comm]
theorem tmod_nat (p q : Nat) : Int.tmod (p : Int) q = ((p % q : Nat) : Int) := (Int.ofNat_tmod p q).symm
set_option maxHeartbeats 4000000 in
theorem divisor_any (a b : Nat) (ha : a ≤ 1000000000000) (hb : b ≤ 1000000000000) (w : World) :
    Calls Try.prog 80 #[.int .i64 a, .int .i64 b] w fun e w' => e = .returned (.int .i64 (Nat.gcd a b : Nat)) ∧ ∃ n, w' = w.drewN n := by
  go_enter Try.func80, Try.ntmps80
  go_wp2
  go_loopw [0, 1] (fun x y wr => ∃ (p q : Nat) (n : Nat), x = .int .i64 p ∧ y = .int .i64 q ∧ p ≤ 1000000000000 ∧ q ≤ 1000000000000 ∧ Hid (Nat.gcd p q = Nat.gcd a b) ∧ wr = w.drewN n) (fun _ y _ => (intOf y).toNat)
  case atStart => exact ⟨a, b, 0, rfl, rfl, ha, hb, rfl, rfl⟩
  case round =>
    obtain ⟨p, q, n, rfl, rfl, hp, hq, HG, rfl⟩ := hrel
    by_cases hz : q = 0
    · subst hz
      have hg : Nat.gcd a b = p := by rw [← HG.out, Nat.gcd_zero_right]
      have HG2 := Lib.hid hg
      clear hg
      go_wp2
      go_ret
      exact ⟨ret_int (by rw [HG2.out]), n, rfl⟩
    · have h1 : ((q : Int) != 0) = true := by rw [bne_iff_ne]; omega
      have h0 : ((q : Int) == 0) = false := by rw [beq_eq_false_iff_ne]; omega
      have hn0 : ¬ (q : Int) = 0 := by omega
      have ht := tmod_nat p q
      have h2 := Nat.mod_lt p (show 0 < q by omega)
      have hg := gcd_step p q
      obtain ⟨t, hm⟩ : ∃ t, p % q = t := ⟨_, rfl⟩
      rw [hm] at ht h2 hg
      have HG2 : Hid (Nat.gcd q t = Nat.gcd a b) := by unfold Hid; rw [hg]; exact HG.out
      clear hg hm
      go_wp2
      go_region
      go_wp2
      exact ⟨⟨q, t, n + 1, rfl, rfl, hq, by omega, HG2, rfl⟩, by simp [intOf]; exact h2⟩
set_option maxHeartbeats 1000000 in
theorem refGcd_any (a b : Nat) (ha : a ≤ 1000000000000) (hb : b ≤ 1000000000000) (w : World) :
    Calls Try.prog 59 #[.int .i64 a, .int .i64 b] w fun e w' => e = .returned (.int .i64 (Nat.gcd a b : Nat)) ∧ w' = w := by
  go_enter Try.func59, Try.ntmps59
  go_wp2
  go_loop [0, 1] (fun x y => ∃ (p q : Nat), x = .int .i64 p ∧ y = .int .i64 q ∧ p ≤ 1000000000000 ∧ q ≤ 1000000000000 ∧ Hid (Nat.gcd p q = Nat.gcd a b)) (fun _ y => (intOf y).toNat)
  case atStart => exact ⟨a, b, rfl, rfl, ha, hb, rfl⟩
  case round =>
    obtain ⟨p, q, rfl, rfl, hp, hq, HG⟩ := hrel
    by_cases hz : 0 < q
    · have hc : (0 : Int) < q := by omega
      have hbz : ((q : Int) == 0) = false := by simpa using (show (q : Int) ≠ 0 by omega)
      have hn0 : ¬ (q : Int) = 0 := by omega
      have ht := tmod_nat p q
      have h2 := Nat.mod_lt p hz
      have HG2 : Hid (Nat.gcd q (p % q) = Nat.gcd a b) := by unfold Hid; rw [gcd_step]; exact HG.out
      obtain ⟨t, hm⟩ : ∃ t, p % q = t := ⟨_, rfl⟩
      rw [hm] at ht h2 HG2
      go_wp2
      go_round
      case rel => exact ⟨q, t, rfl, rfl, hq, by omega, HG2⟩
      case measure => simp [intOf]; exact h2
    · obtain rfl : q = 0 := by omega
      have hg : Nat.gcd a b = p := by rw [← HG.out, Nat.gcd_zero_right]
      have HG2 := Lib.hid hg
      clear hg
      go_wp2
      go_ret
      exact ⟨ret_int (by rw [HG2.out]), rfl⟩

/-- a function that finds remainders -/
theorem modulo_any (m : Int) (w : World) : Calls Try.prog 66 #[.int .i64 m] w fun e w' =>
    e = .returned (.func (.func 97) #[] #[.pointer (some ⟨w.heap.size, 0, none⟩)]) ∧ w' = w.alloc (.cells #[.int .i64 m] 3) := by
  have hmf : ∀ (fn : Fn) (first cap : Array Value) (w : World), (Instr.makeFunc fn first cap).run Try.prog w = .ok (.func fn first cap) w := fun _ _ _ _ => rfl
  go_enter Try.func66, Try.ntmps66
  go_wp2
  go_ret
  exact ⟨rfl, rfl⟩
theorem tmod_bound (a b : Int) (hb : 0 < b) : -b < Int.tmod a b := by
  have h1 := Int.tmod_lt_of_pos a hb
  rcases Int.le_total 0 a with h | h
  · have := Int.tmod_nonneg b h
    omega
  · have h2 := Int.tmod_lt_of_pos (-a) hb
    rw [Int.neg_tmod] at h2
    omega
theorem rem_num (n m : Int) (hm : 0 < m) : Int.tmod (Int.tmod n m + m) m = n % m := by
  have h1 := Int.tmod_def n m
  have h2 : -m < Int.tmod n m := tmod_bound n m hm
  rw [Int.tmod_eq_emod_of_nonneg (by omega), h1, show n - m * n.tdiv m + m = n + m * (1 - n.tdiv m) by rw [Int.mul_sub, Int.mul_one]; omega, Int.add_mul_emod_self_left]
set_option maxHeartbeats 4000000 in
theorem rem_any (n : Int) (m : Nat) (B : Nat) (w : World) (hB : w.cell? ⟨B, 0, none⟩ = some (.int .i64 m)) (hm : 1 ≤ m) (hm2 : m ≤ 1000) (hn : -1000000000 ≤ n ∧ n ≤ 1000000000) :
    Calls Try.prog 97 #[.int .i64 n, .pointer (some ⟨B, 0, none⟩)] w fun e w' => e = .returned (.int .i64 (n % m)) ∧ ∃ q, w' = w.drewN q := by
  have hb : ((m : Int) == 0) = false := by rw [beq_eq_false_iff_ne]; omega
  have h0 : ¬ (m : Int) = 0 := by omega
  have h00 : ¬ m = 0 := by omega
  have h3 := rem_num n m (by omega)
  have h1 : -(m : Int) < Int.tmod n m := tmod_bound n m (by omega)
  have h2 := Int.tmod_lt_of_pos n (show (0 : Int) < m by omega)
  obtain ⟨t, ht⟩ : ∃ t, Int.tmod n m = t := ⟨_, rfl⟩
  rw [ht] at h1 h2 h3
  have hw0 : wrap64 t = t := IntWalk.wrap64_in _ (by omega)
  have hw1 : IntKind.i64.wrap t = t := IntWalk.i64_in _ (by omega)
  have hw2 : IntKind.i64.wrap (t + m) = t + m := IntWalk.i64_in _ (by omega)
  have hw3 : wrap64 (t + m) = t + m := IntWalk.wrap64_in _ (by omega)
  have h4 := Int.emod_nonneg n h0
  have h5 := Int.emod_lt_of_pos n (show (0 : Int) < m by omega)
  obtain ⟨r, hr⟩ : ∃ r, n % (m : Int) = r := ⟨_, rfl⟩
  rw [hr] at h3 h4 h5
  have hw4 : IntKind.i64.wrap r = r := IntWalk.i64_in _ (by omega)
  have hw5 : wrap64 r = r := IntWalk.wrap64_in _ (by omega)
  rw [hr]
  clear hr h1 h2 h4 h5 hn
  go_enter Try.func97, Try.ntmps97
  go_wp2
  go_quiet (fail)
  go_wp2
  go_ret
  exact ⟨rfl, _, rfl⟩
end Go.Proofs.Ythmdlkaanjjbkaa
