/- mod maps any int to the range from 0 to n - 1. -/
import Derived.Test.YteejjcipdpojnaaRev
namespace Go.Proofs.Yteejjcipdpojnaa
set_option linter.unusedVariables false
open Go.RowKit

def modI (x n : Int) : Int := x % 18446744073709551616 % n
theorem modI_range (x n : Int) (h : 1 ≤ n) : 0 ≤ modI x n ∧ modI x n < n := ⟨Int.emod_nonneg _ (by omega), Int.emod_lt_of_pos _ (by omega)⟩

theorem u64_emod (x : Int) : IntKind.u64.wrap x = x % 18446744073709551616 := by simp [IntKind.wrap, IntKind.signed, IntKind.bits]
theorem mod_any (x n : Int) (w : World) (hx : (Lit.int .i64 x).wf = true) (h1 : 1 ≤ n) (h2 : n ≤ 1000000) :
    Calls Try.prog 52 #[.int .i64 x, .int .i64 n] w fun e w' => e = .returned (.int .i64 (modI x n)) ∧ w = w' := by
  go_enter Try.func52, Try.ntmps52
  go_wp2
  go_ret
  exact ⟨ret_int (by rw [modI, u64_emod, Int.tmod_eq_emod_of_nonneg (Int.emod_nonneg _ (by decide))]; exact IntWalk.wrap64_in _ ⟨by have := (modI_range x n h1).1; unfold modI at this; omega, by have := (modI_range x n h1).2; unfold modI at this; omega⟩), rfl⟩
end Go.Proofs.Yteejjcipdpojnaa
