/- The statements' own functions: mod and ints. -/
import Derived.Test.YtbbidgdgcbnanaaLearn
namespace Go.Proofs.Ytbbidgdgcbnanaa
set_option linter.unusedVariables false
open Go.RowKit
def modV (x : Int) (n : Nat) : Nat := ((IntKind.u64.wrap x).tmod n).toNat
theorem modV_lt (x : Int) (n : Nat) (hn : 1 ≤ n) : modV x n < n := by
  have h0 : 0 ≤ IntKind.u64.wrap x := by
    simp only [IntKind.wrap, IntKind.bits, IntKind.signed]
    simp
    omega
  have h2 := Int.tmod_nonneg (n : Int) h0
  have h3 := Int.tmod_lt_of_pos (IntKind.u64.wrap x) (show (0 : Int) < n by omega)
  unfold modV
  omega
set_option maxRecDepth 100000 in
set_option maxHeartbeats 4000000 in
theorem mod_val (x : Int) (n : Nat) (w : World) (hn : 1 ≤ n) (hn2 : n ≤ 1000000) :
    Calls Try.prog 51 #[.int .i64 x, .int .i64 n] w fun e w' => e = .returned (.int .i64 (modV x n)) ∧ w' = w := by
  have h1 : IntKind.u64.wrap (n : Int) = n := by
    simp only [IntKind.wrap, IntKind.bits, IntKind.signed]
    simp
    omega
  have hne : (n : Int) ≠ 0 := by omega
  have hb : ((n : Int) == 0) = false := by simp; omega
  go_enter Try.func51, Try.ntmps51
  go_wp2
  go_ret
  have h0 : 0 ≤ IntKind.u64.wrap x := by
    simp only [IntKind.wrap, IntKind.bits, IntKind.signed]
    simp
    omega
  have h2 := Int.tmod_nonneg (n : Int) h0
  have h3 := Int.tmod_lt_of_pos (IntKind.u64.wrap x) (show (0 : Int) < n by omega)
  refine ⟨ret_int ?_, rfl⟩
  rw [show wrap64 ((IntKind.u64.wrap x).tmod n) = (IntKind.u64.wrap x).tmod n from IntWalk.wrap64_in _ (by omega)]
  unfold modV
  omega
theorem take_ext {α : Type} {xs ys : List α} {k : Nat} {x y : α} (hx : xs[k]? = some x) (hy : ys[k]? = some y) : xs.take (k + 1) = ys.take (k + 1) ↔ xs.take k = ys.take k ∧ x = y := by
  rw [List.take_add_one, List.take_add_one, hx, hy]
  constructor
  · intro h
    have := List.append_inj' h (by simp)
    exact ⟨this.1, by simpa using this.2⟩
  · rintro ⟨h, rfl⟩; rw [h]

set_option maxRecDepth 100000 in
set_option maxHeartbeats 4000000 in
theorem ints_any (a b : Option Addr) (n m ca cb : Nat) (xs ys : List Int) (w : World) (ha : Row w a n (intL xs)) (hb : Row w b m (intL ys)) (hn : n ≤ 1000) (hm : m ≤ 1000) :
    Calls Try.prog 23 #[.slice a n ca, .slice b m cb] w fun e w' => e = .returned (.bool (decide (xs = ys))) ∧ ∃ q, w' = w.drewN q := by
  have hx : xs.length = n := by have := ha.1; simpa [intL] using this
  have hy : ys.length = m := by have := hb.1; simpa [intL] using this
  by_cases hnm : n = m
  · subst hnm
    have Hx := Lib.hid hx
    have Hy := Lib.hid hy
    have Ha := Lib.hid ha
    have Hb := Lib.hid hb
    clear hx hy ha hb
    go_enter Try.func23, Try.ntmps23
    go_wp2
    go_loopw [5] (fun i wr => ∃ k q : Nat, k ≤ n ∧ i = .int .i64 k ∧ Hid (xs.take k = ys.take k) ∧ wr = w.drewN q) (fun i _ => n - (intOf i).toNat)
    case atStart => exact ⟨0, 0, Nat.zero_le _, rfl, rfl, rfl⟩
    case round =>
      obtain ⟨k, q, hk, rfl, HP, rfl⟩ := hrel
      by_cases hlt : k < n
      · have hc : (k : Int) < n := by omega
        obtain ⟨x, hx⟩ : ∃ x, xs[k]? = some x := ⟨_, List.getElem?_eq_getElem (by have := Hx.out; omega)⟩
        obtain ⟨y, hy⟩ : ∃ y, ys[k]? = some y := ⟨_, List.getElem?_eq_getElem (by have := Hy.out; omega)⟩
        obtain ⟨g1, rfl, _, hg1⟩ := Ha.out.2 (by omega)
        obtain ⟨g2, rfl, _, hg2⟩ := Hb.out.2 (by omega)
        have c1 := hg1 k (Value.int .i64 x) (by simp [intL, hx])
        have c2 := hg2 k (Value.int .i64 y) (by simp [intL, hy])
        have hT := take_ext hx hy
        have HT := Lib.hid hT
        clear hx hy hg1 hg2 hT
        by_cases hxy : x = y
        · subst hxy
          go_wp2
          go_quiet (fail)
          go_wp2
          have hz := HT.out.2 ⟨HP.out, by trivial⟩
          go_roundw
          case rel => exact ⟨k + 1, _, by omega, by go_num, hz, rfl⟩
          case measure => simp [intOf]; omega
        · have h1 : (x == y) = false := by simp [hxy]
          have h2 : (x != y) = true := by simp [hxy]
          have Hxy := Lib.hid hxy
          clear hxy
          go_wp2
          go_quiet (fail)
          go_wp2
          go_ret
          exact ⟨ret_bool (by rw [decide_eq_false]; intro e; exact Hxy.out (HT.out.1 (by rw [e])).2), _, World.drewN_drewN _ _ _⟩
      · obtain rfl : k = n := by omega
        go_wp2
        go_ret
        exact ⟨ret_bool (by rw [decide_eq_true]; have h := HP.out; rwa [List.take_of_length_le (by have := Hx.out; omega), List.take_of_length_le (by have := Hy.out; omega)] at h), _, rfl⟩
  · have h1 : ¬ (n : Int) = m := by omega
    have h2 : ((n : Int) == m) = false := by rw [beq_eq_false_iff_ne]; exact h1
    have hne : ¬ xs = ys := fun e => hnm (by rw [← hx, ← hy, e])
    have Hne := Lib.hid hne
    clear hne h1 hx hy ha hb
    have Hnm := Lib.hid hnm
    clear hnm
    go_enter Try.func23, Try.ntmps23
    go_wp2
    go_ret
    exact ⟨ret_bool (by rw [decide_eq_false Hne.out]), 0, rfl⟩


theorem ints_true (a b : Option Addr) (n ca cb : Nat) (xs : List Int) (w : World) (ha : Row w a n (intL xs)) (hb : Row w b n (intL xs)) (hn : n ≤ 1000) :
    Calls Try.prog 23 #[.slice a n ca, .slice b n cb] w fun e w' => e = .returned (.bool true) ∧ ∃ q, w' = w.drewN q := by
  refine (ints_any a b n n ca cb xs xs w ha hb hn hn).mono ?_
  rintro e w' ⟨rfl, q, rfl⟩
  exact ⟨ret_bool (by simp), q, rfl⟩
end Go.Proofs.Ytbbidgdgcbnanaa
