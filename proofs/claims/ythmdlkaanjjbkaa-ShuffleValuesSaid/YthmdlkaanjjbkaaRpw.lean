/- Powers, reduced polynomials, Shifts that refuses. -/
import Derived.Test.YthmdlkaanjjbkaaRpt
import Derived.Test.YthmdlkaanjjbkaaRuf
import Derived.Test.YthmdlkaanjjbkaaShf
namespace Go.Proofs.Ythmdlkaanjjbkaa
set_option linter.unusedVariables false
open Go.RowKit

theorem pow_in {p k : Nat} (hp : p ≤ 64) (hk : k ≤ 6) : p ^ k ≤ 68719476736 := by
  have h1 : p ^ k ≤ 64 ^ k := Nat.pow_le_pow_left hp k
  have h2 : 64 ^ k ≤ 64 ^ 6 := Nat.pow_le_pow_right (by decide) hk
  exact Nat.le_trans h1 h2
def powN (p k : Nat) : Nat := p ^ k
theorem pow_num {p k : Nat} (hp : p ≤ 64) (hk : k < 6) : ∃ q q2 : Nat, powN p k = q ∧ powN p (k + 1) = q2 ∧ IntKind.i64.wrap ((q : Int) * (p : Int)) = (q2 : Int) ∧ wrap64 ((q : Int) * (p : Int)) = (q2 : Int) := by
  have h := pow_in hp (k := k + 1) (by omega)
  have e : ((p ^ k : Nat) : Int) * (p : Int) = ((p ^ (k + 1) : Nat) : Int) := by rw [Nat.pow_succ, Int.natCast_mul]
  refine ⟨p ^ k, p ^ (k + 1), rfl, rfl, ?_, ?_⟩
  · rw [e]; generalize p ^ (k + 1) = q at h ⊢; exact IntWalk.i64_in _ (by omega)
  · rw [e]; generalize p ^ (k + 1) = q at h ⊢; exact IntWalk.wrap64_in _ (by omega)
set_option maxRecDepth 100000 in
set_option maxHeartbeats 4000000 in
theorem refPower_any (p k : Nat) (w : World) (hp : p ≤ 64) (hk : k ≤ 6) : Calls Try.prog 30 #[.int .i64 p, .int .i64 k] w fun e w' => e = .returned (.int .i64 (powN p k : Nat)) ∧ w' = w := by
  go_enter Try.func30, Try.ntmps30
  go_wp2
  go_loopw [5, 6] (fun o i wr => ∃ j : Nat, j ≤ k ∧ i = .int .i64 j ∧ o = .int .i64 (powN p j : Nat) ∧ wr = w) (fun _ i _ => k - (intOf i).toNat)
  case atStart => exact ⟨0, Nat.zero_le _, rfl, rfl, rfl⟩
  case round =>
    obtain ⟨j, hj, rfl, rfl, hw⟩ := hrel
    subst wr
    by_cases hlt : j < k
    · have hc : (j : Int) < (k : Int) := by omega
      obtain ⟨q, q2, h1, h2, n1, n2⟩ := pow_num hp (show j < 6 by omega)
      rw [h1]
      have H2 := Lib.hid h2
      have Hgo := Lib.hid (And.intro (show j + 1 ≤ k by omega) hlt)
      clear h1 h2
      go_wp2
      go_roundw
      case rel => exact ⟨j + 1, Hgo.out.1, by clear n1 n2; go_num, by rw [H2.out], trivial⟩
      case measure => exact mz_upn Hgo.out.2
    · obtain rfl : j = k := by omega
      have hc : ¬ (j : Int) < (j : Int) := by omega
      go_wp2
      go_ret
      exact ⟨rfl, rfl⟩
theorem box_pair (w : World) (u v : Value) (t : TypeId) : Below w.heap.size w (w.alloc (.cells #[u, v] t)) ∧ (w.alloc (.cells #[u, v] t)).cell? ⟨w.heap.size, 0, none⟩ = some u ∧ (w.alloc (.cells #[u, v] t)).cell? ⟨w.heap.size, 1, none⟩ = some v := by
  have k : ∀ y : World, y.heap[w.heap.size]? = some (.cells #[u, v] t (0, 0)) → y.cell? ⟨w.heap.size, 0, none⟩ = some u ∧ y.cell? ⟨w.heap.size, 1, none⟩ = some v := fun y k => ⟨by simp [World.cell?, k], by simp [World.cell?, k]⟩
  exact ⟨below_alloc _ _, k _ (World.alloc_heap_new w (.cells #[u, v] t))⟩
set_option maxRecDepth 100000 in
set_option maxHeartbeats 4000000 in
theorem powerOf_any (p k : Nat) (w : World) (hp : p ≤ 64) (hk : k ≤ 6) : Calls Try.prog 71 #[.agg #[.int .i64 p, .int .i64 k]] w fun e w' => e = .returned (.int .i64 (powN p k : Nat)) ∧ Below w.heap.size w w' := by
  obtain ⟨hb, k0, k1⟩ := box_pair w (.int .i64 p) (.int .i64 k) 42
  go_enter Try.func71, Try.ntmps71
  go_wp2
  generalize w.alloc (.cells #[.int .i64 p, .int .i64 k] 42) = W1 at *
  have HB := Lib.hid hb
  clear hb
  go_loopw [3, 6] (fun o i wr => ∃ j : Nat, j ≤ k ∧ i = .int .i64 j ∧ o = .int .i64 (powN p j : Nat) ∧ wr = W1) (fun _ i _ => k - (intOf i).toNat)
  case atStart => exact ⟨0, Nat.zero_le _, rfl, rfl, rfl⟩
  case round =>
    obtain ⟨j, hj, rfl, rfl, hw⟩ := hrel
    subst wr
    by_cases hlt : j < k
    · have hc : (j : Int) < (k : Int) := by omega
      obtain ⟨q, q2, h1, h2, n1, n2⟩ := pow_num hp (show j < 6 by omega)
      rw [h1]
      have H2 := Lib.hid h2
      have Hgo := Lib.hid (And.intro (show j + 1 ≤ k by omega) hlt)
      clear h1 h2
      go_wp2
      go_roundw
      case rel => exact ⟨j + 1, Hgo.out.1, by clear n1 n2; go_num, by rw [H2.out], trivial⟩
      case measure => exact mz_upn Hgo.out.2
    · obtain rfl : j = k := by omega
      have hc : ¬ (j : Int) < (j : Int) := by omega
      go_wp2
      go_ret
      exact ⟨rfl, HB.out⟩
set_option maxRecDepth 100000 in
theorem Shifts_no (m : Int) (a : Option Addr) (n cap : Nat) (xs : List Int) (w : World) (hr : Row w a n (intL xs)) (hn : n ≤ 1000) (hp : polyB m xs = false) :
    Calls Try.prog 20 #[.int .i64 m, .slice a n cap] w fun e w' => e = .returned (.tuple #[.slice none 0 0, .int .i64 2]) ∧ w' = w := by
  have h := isPoly_any m a n cap xs w hr hn
  rw [hp] at h
  have H := Lib.hid h
  clear h hr hp
  go_enter Try.func20, Try.ntmps20
  go_wp2_with fail
  refine H.out.mono ?_
  rintro e w1 ⟨rfl, hw⟩
  subst w1
  go_wp2
  go_ret2
  exact ⟨rfl, rfl⟩
set_option maxRecDepth 100000 in
theorem Split_no (m : Int) (a : Option Addr) (n cap : Nat) (xs : List Int) (w : World) (hr : Row w a n (intL xs)) (hn : n ≤ 1000) (hp : polyB m xs = false) :
    Calls Try.prog 21 #[.int .i64 m, .slice a n cap] w fun e w' => e = .returned (.tuple #[.slice none 0 0, .slice none 0 0, .int .i64 2]) ∧ w' = w := by
  have h := isPoly_any m a n cap xs w hr hn
  rw [hp] at h
  have H := Lib.hid h
  clear h hr hp
  go_enter Try.func21, Try.ntmps21
  go_wp2_with fail
  refine H.out.mono ?_
  rintro e w1 ⟨rfl, hw⟩
  subst w1
  go_wp2
  go_ret3
  exact ⟨rfl, rfl⟩
end Go.Proofs.Ythmdlkaanjjbkaa
