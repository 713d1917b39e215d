/- The statements' own functions: mod, ints, and the sample. -/
import Derived.Test.YthmdlkaanjjbkaaForm
namespace Go.Proofs.Ythmdlkaanjjbkaa
set_option linter.unusedVariables false
open Go.RowKit

def modV (x : Int) (n : Nat) : Nat := ((IntKind.u64.wrap x).tmod n).toNat
theorem modV_lt (x : Int) (n : Nat) (hn : 1 ≤ n) : modV x n < n := by
  have h0 : 0 ≤ IntKind.u64.wrap x := by
    simp only [IntKind.wrap, IntKind.bits, IntKind.signed]
    simp
    omega
  have h2 := Int.tmod_nonneg (n : Int) h0
  have h3 := Int.tmod_lt_of_pos (IntKind.u64.wrap x) (show (0 : Int) < n by omega)
  unfold modV
  omega
set_option maxRecDepth 100000 in
set_option maxHeartbeats 4000000 in
theorem mod_val (x : Int) (n : Nat) (w : World) (hn : 1 ≤ n) (hn2 : n ≤ 1000000) :
    Calls Try.prog 57 #[.int .i64 x, .int .i64 n] w fun e w' => e = .returned (.int .i64 (modV x n)) ∧ w' = w := by
  have h1 : IntKind.u64.wrap (n : Int) = n := by
    simp only [IntKind.wrap, IntKind.bits, IntKind.signed]
    simp
    omega
  have hne : (n : Int) ≠ 0 := by omega
  have hb : ((n : Int) == 0) = false := by simp; omega
  go_enter Try.func57, Try.ntmps57
  go_wp2
  go_ret
  have h0 : 0 ≤ IntKind.u64.wrap x := by
    simp only [IntKind.wrap, IntKind.bits, IntKind.signed]
    simp
    omega
  have h2 := Int.tmod_nonneg (n : Int) h0
  have h3 := Int.tmod_lt_of_pos (IntKind.u64.wrap x) (show (0 : Int) < n by omega)
  refine ⟨ret_int ?_, rfl⟩
  rw [show wrap64 ((IntKind.u64.wrap x).tmod n) = (IntKind.u64.wrap x).tmod n from IntWalk.wrap64_in _ (by omega)]
  unfold modV
  omega
theorem take_ext {α : Type} {xs ys : List α} {k : Nat} {x y : α} (hx : xs[k]? = some x) (hy : ys[k]? = some y) : xs.take (k + 1) = ys.take (k + 1) ↔ xs.take k = ys.take k ∧ x = y := by
  rw [List.take_add_one, List.take_add_one, hx, hy]
  constructor
  · intro h
    have := List.append_inj' h (by simp)
    exact ⟨this.1, by simpa using this.2⟩
  · rintro ⟨h, rfl⟩; rw [h]

set_option maxRecDepth 100000 in
set_option maxHeartbeats 4000000 in
theorem ints_any (a b : Option Addr) (n m ca cb : Nat) (xs ys : List Int) (w : World) (ha : Row w a n (intL xs)) (hb : Row w b m (intL ys)) (hn : n ≤ 1000) (hm : m ≤ 1000) :
    Calls Try.prog 28 #[.slice a n ca, .slice b m cb] w fun e w' => e = .returned (.bool (decide (xs = ys))) ∧ ∃ q, w' = w.drewN q := by
  have hx : xs.length = n := by have := ha.1; simpa [intL] using this
  have hy : ys.length = m := by have := hb.1; simpa [intL] using this
  by_cases hnm : n = m
  · subst hnm
    have Hx := Lib.hid hx
    have Hy := Lib.hid hy
    have Ha := Lib.hid ha
    have Hb := Lib.hid hb
    clear hx hy ha hb
    go_enter Try.func28, Try.ntmps28
    go_wp2
    go_loopw [5] (fun i wr => ∃ k q : Nat, k ≤ n ∧ i = .int .i64 k ∧ Hid (xs.take k = ys.take k) ∧ wr = w.drewN q) (fun i _ => n - (intOf i).toNat)
    case atStart => exact ⟨0, 0, Nat.zero_le _, rfl, rfl, rfl⟩
    case round =>
      obtain ⟨k, q, hk, rfl, HP, rfl⟩ := hrel
      by_cases hlt : k < n
      · have hc : (k : Int) < n := by omega
        obtain ⟨x, hx⟩ : ∃ x, xs[k]? = some x := ⟨_, List.getElem?_eq_getElem (by have := Hx.out; omega)⟩
        obtain ⟨y, hy⟩ : ∃ y, ys[k]? = some y := ⟨_, List.getElem?_eq_getElem (by have := Hy.out; omega)⟩
        obtain ⟨g1, rfl, _, hg1⟩ := Ha.out.2 (by omega)
        obtain ⟨g2, rfl, _, hg2⟩ := Hb.out.2 (by omega)
        have c1 := hg1 k (Value.int .i64 x) (by simp [intL, hx])
        have c2 := hg2 k (Value.int .i64 y) (by simp [intL, hy])
        have hT := take_ext hx hy
        have HT := Lib.hid hT
        clear hx hy hg1 hg2 hT
        by_cases hxy : x = y
        · subst hxy
          go_wp2
          go_quiet (fail)
          go_wp2
          have hz := HT.out.2 ⟨HP.out, by trivial⟩
          go_roundw
          case rel => exact ⟨k + 1, _, by omega, by go_num, hz, rfl⟩
          case measure => simp [intOf]; omega
        · have h1 : (x == y) = false := by simp [hxy]
          have h2 : (x != y) = true := by simp [hxy]
          have Hxy := Lib.hid hxy
          clear hxy
          go_wp2
          go_quiet (fail)
          go_wp2
          go_ret
          exact ⟨ret_bool (by rw [decide_eq_false]; intro e; exact Hxy.out (HT.out.1 (by rw [e])).2), _, World.drewN_drewN _ _ _⟩
      · obtain rfl : k = n := by omega
        go_wp2
        go_ret
        exact ⟨ret_bool (by rw [decide_eq_true]; have h := HP.out; rwa [List.take_of_length_le (by have := Hx.out; omega), List.take_of_length_le (by have := Hy.out; omega)] at h), _, rfl⟩
  · have h1 : ¬ (n : Int) = m := by omega
    have h2 : ((n : Int) == m) = false := by rw [beq_eq_false_iff_ne]; exact h1
    have hne : ¬ xs = ys := fun e => hnm (by rw [← hx, ← hy, e])
    have Hne := Lib.hid hne
    clear hne h1 hx hy ha hb
    have Hnm := Lib.hid hnm
    clear hnm
    go_enter Try.func28, Try.ntmps28
    go_wp2
    go_ret
    exact ⟨ret_bool (by rw [decide_eq_false Hne.out]), 0, rfl⟩


theorem ints_true (a b : Option Addr) (n ca cb : Nat) (xs : List Int) (w : World) (ha : Row w a n (intL xs)) (hb : Row w b n (intL xs)) (hn : n ≤ 1000) :
    Calls Try.prog 28 #[.slice a n ca, .slice b n cb] w fun e w' => e = .returned (.bool true) ∧ ∃ q, w' = w.drewN q := by
  refine (ints_any a b n n ca cb xs xs w ha hb hn hn).mono ?_
  rintro e w' ⟨rfl, q, rfl⟩
  exact ⟨ret_bool (by simp), q, rfl⟩
set_option maxRecDepth 10000
theorem smp_values : valuesL 4 [0, 1, 2] = [0, 3, 2, 1] := by decide
theorem smp_form : formR 4 (fun x => [0, 0, 2, 2].getD x 0) = some [0, 0, 1] := by decide +kernel
theorem smp_none : formR 4 (fun x => [0, 0, 1, 0].getD x 0) = none := by decide +kernel
theorem smp_count : countR 6 = (108, 0) := by decide +kernel
theorem smp_degree : degN 6 = 3 := by decide +kernel
theorem values_smp (a : Option Addr) (w : World) (h : Row w a 3 (intL [0, 1, 2])) :
    Calls Try.prog 18 #[.int .i64 4, .slice a 3 3] w fun e w' => ∃ a1 k1, e = .returned (.tuple #[.slice a1 4 k1, .int .i64 0]) ∧ Row w' a1 4 (intL [0, 3, 2, 1]) ∧ Below w.heap.size w w' := by
  refine (show Calls Try.prog 18 #[.int .i64 4, .slice a 3 3] w _ from Values_yes 4 a 3 3 [0, 1, 2] w h (by decide)).mono ?_
  rintro e w' ⟨v, rfl, ho, b⟩
  rw [smp_values] at ho
  obtain ⟨a1, k1, rfl, hR⟩ := Row.of_own ho
  exact ⟨a1, k1, rfl, hR, b⟩
theorem form_smp (a : Option Addr) (w : World) (h : Row w a 4 (intL [0, 0, 2, 2])) :
    Calls Try.prog 32 #[.int .i64 4, .slice a 4 4] w fun e w' => ∃ a1 k1, e = .returned (.tuple #[.slice a1 3 k1, .int .i64 0]) ∧ Row w' a1 3 (intL [0, 0, 1]) ∧ Below w.heap.size w w' := by
  refine (show Calls Try.prog 32 #[.int .i64 4, .slice a 4 4] w _ from Form_yes 4 a 4 [0, 0, 2, 2] w h (by decide) (by decide) (by decide)).mono ?_
  rintro e w' ⟨⟨h1, _⟩, b⟩
  obtain ⟨v, rfl, ho⟩ := h1 _ smp_form
  obtain ⟨a1, k1, rfl, hR⟩ := Row.of_own ho
  exact ⟨a1, k1, rfl, hR, b⟩
theorem none_smp (a : Option Addr) (w : World) (h : Row w a 4 (intL [0, 0, 1, 0])) :
    Calls Try.prog 32 #[.int .i64 4, .slice a 4 4] w fun e w' => e = .returned (.tuple #[.slice none 0 0, .int .i64 6]) ∧ Below w.heap.size w w' := by
  refine (show Calls Try.prog 32 #[.int .i64 4, .slice a 4 4] w _ from Form_yes 4 a 4 [0, 0, 1, 0] w h (by decide) (by decide) (by decide)).mono ?_
  rintro e w' ⟨⟨_, h1⟩, b⟩
  exact ⟨h1 smp_none, b⟩
theorem count_smp (w : World) : Calls Try.prog 44 #[.int .i64 6] w fun e w' => e = .returned (.tuple #[.int .i64 108, .int .i64 0]) ∧ Below w.heap.size w w' := by
  have h := Count_yes 6 w (by decide) (by decide)
  rw [smp_count] at h
  exact h
theorem degree_smp (w : World) : Calls Try.prog 43 #[.int .i64 6] w fun e w' => e = .returned (.tuple #[.int .i64 3, .int .i64 0]) ∧ Below w.heap.size w w' := by
  have h := Degree_any 6 w
  rw [show modB 6 = true by decide, if_pos rfl, show (6 : Int).toNat = 6 from rfl, smp_degree] at h
  exact h
set_option maxRecDepth 100000 in
set_option maxHeartbeats 4000000 in
theorem awake_any (w : World) : Calls Try.prog 24 #[] w fun e w' => e = .returned (.bool true) ∧ Below w.heap.size w w' := by
  go_enter Try.func24, Try.ntmps24
  have h0 := below_alloc w (.cells #[.int .i64 0, .int .i64 1, .int .i64 2] 3)
  go_wp2_with fail
  refine (values_smp _ _ (Row.built (w := w) 3 [.int .i64 0, .int .i64 1, .int .i64 2])).mono ?_
  rintro e w1 ⟨a1, k1, rfl, r1, b1⟩
  have c1 := b_next h0 b1
  go_wp2_with fail
  have h2 := below_alloc w1 (.cells #[.int .i64 0, .int .i64 0, .int .i64 2, .int .i64 2] 3)
  refine (form_smp _ _ (Row.built (w := w1) 3 [.int .i64 0, .int .i64 0, .int .i64 2, .int .i64 2])).mono ?_
  rintro e w2 ⟨a2, k2, rfl, r2, b2⟩
  have c2 := b_next (b_next c1 h2) b2
  have r1 := (r1.below h2).below b2
  clear b1 b2 h0 h2 c1
  go_wp2_with fail
  refine (count_smp _).mono ?_
  rintro e w3 ⟨rfl, b3⟩
  have c3 := b_next c2 b3
  have r1 := r1.below b3
  have r2 := r2.below b3
  clear b3 c2
  go_wp2_with fail
  refine (degree_smp _).mono ?_
  rintro e w4 ⟨rfl, b4⟩
  have c4 := b_next c3 b4
  have r1 := r1.below b4
  have r2 := r2.below b4
  clear b4 c3
  go_wp2_with fail
  have h5 := below_alloc w4 (.cells #[.int .i64 0, .int .i64 0, .int .i64 1, .int .i64 0] 3)
  refine (none_smp _ _ (Row.built (w := w4) 3 [.int .i64 0, .int .i64 0, .int .i64 1, .int .i64 0])).mono ?_
  rintro e w5 ⟨rfl, b5⟩
  have C5 := Lib.hid (b_next (b_next c4 h5) b5)
  have R1 := Lib.hid ((r1.below h5).below b5)
  have R2 := Lib.hid ((r2.below h5).below b5)
  clear b5 h5 c4 r1 r2
  go_wp2_with fail
  have h6 := below_alloc w5 (.cells #[.int .i64 0, .int .i64 3, .int .i64 2, .int .i64 1] 3)
  refine (ints_true _ _ 4 _ _ [0, 3, 2, 1] _ (R1.out.below h6) (Row.built (w := w5) 3 [.int .i64 0, .int .i64 3, .int .i64 2, .int .i64 1]) (by decide)).mono ?_
  rintro e w6 ⟨rfl, n1, rfl⟩
  have h7 := below_drewN (b_next C5.out h6) n1
  have R2b := Lib.hid ((R2.out.below h6).drewN n1)
  generalize hW8 : World.drewN _ n1 = W8 at h7 R2b
  have H7 := Lib.hid h7
  clear h7 h6 R2 hW8
  go_wp2_with fail
  have h8 := below_alloc W8 (.cells #[.int .i64 0, .int .i64 0, .int .i64 1] 3)
  refine (ints_true _ _ 3 _ _ [0, 0, 1] _ (R2b.out.below h8) (Row.built (w := W8) 3 [.int .i64 0, .int .i64 0, .int .i64 1]) (by decide)).mono ?_
  rintro e w9 ⟨rfl, n2, rfl⟩
  have h9 := below_drewN (b_next H7.out h8) n2
  generalize hW9 : World.drewN _ n2 = W9 at h9
  have H9 := Lib.hid h9
  clear h9 hW9 h8
  go_wp2_with fail
  go_ret
  exact ⟨rfl, H9.out⟩
end Go.Proofs.Ythmdlkaanjjbkaa
