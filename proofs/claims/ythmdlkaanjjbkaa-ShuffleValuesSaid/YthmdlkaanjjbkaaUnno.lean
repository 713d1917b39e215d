/- Unform and Count that refuse. -/
import Derived.Test.YthmdlkaanjjbkaaUnf
namespace Go.Proofs.Ythmdlkaanjjbkaa
set_option linter.unusedVariables false
open Go.RowKit

set_option maxRecDepth 100000 in
theorem Count_no (m : Int) (w : World) (hm : modB m = false) : Calls Try.prog 44 #[.int .i64 m] w fun e w' => e = .returned (.tuple #[.int .i64 0, .int .i64 2]) ∧ Below w.heap.size w w' := by
  have h1 := fun w => isModulus_any m w
  rw [hm] at h1
  have H1 := Lib.hid h1
  clear h1 hm
  go_enter Try.func44, Try.ntmps44
  go_wp2_with fail
  refine (H1.out _).mono ?_
  rintro e w1 ⟨rfl, rfl⟩
  go_wp2
  go_ret2
  exact ⟨rfl, Below.refl _ _⟩
set_option maxRecDepth 100000 in
theorem Unform_mod (m : Int) (v : Value) (w : World) (hm : modB m = false) :
    Calls Try.prog 42 #[.int .i64 m, v] w fun e w' => e = .returned (.tuple #[.slice none 0 0, .int .i64 2]) ∧ Below w.heap.size w w' := by
  have h1 := fun w => isModulus_any m w
  rw [hm] at h1
  have H1 := Lib.hid h1
  clear h1 hm
  go_enter Try.func42, Try.ntmps42
  go_wp2_with fail
  refine (H1.out _).mono ?_
  rintro e w1 ⟨rfl, rfl⟩
  go_wp2
  go_ret2
  exact ⟨rfl, Below.refl _ _⟩
set_option maxRecDepth 100000 in
set_option maxHeartbeats 4000000 in
theorem Unform_form (m : Nat) (a : Option Addr) (n cap : Nat) (xs : List Int) (w : World) (hr : Row w a n (intL xs)) (hn : n ≤ 1000) (hcap : n ≤ cap) (hm : 2 ≤ m) (hm2 : m ≤ 64) (hp : formB m xs = false) :
    Calls Try.prog 42 #[.int .i64 m, .slice a n cap] w fun e w' => e = .returned (.tuple #[.slice none 0 0, .int .i64 2]) ∧ Below w.heap.size w w' := by
  have h1 := fun w => isModulus_any (m : Int) w
  rw [show modB (m : Int) = true from decide_eq_true (by omega)] at h1
  have h := fun W hW => isForm_any m a n cap xs W hW hn hcap hm hm2
  rw [hp] at h
  have H1 := Lib.hid h1
  have H := Lib.hid h
  have Hr := Lib.hid hr
  clear h1 h hr hp
  go_enter Try.func42, Try.ntmps42
  go_wp2_with fail
  refine (H1.out _).mono ?_
  rintro e w1 ⟨rfl, hw⟩
  subst w1
  go_wp2_with fail
  refine (H.out _ Hr.out).mono ?_
  rintro e w1 ⟨rfl, b1⟩
  have B1 := Lib.hid b1
  clear b1
  go_wp2
  go_ret2
  exact ⟨rfl, B1.out⟩
end Go.Proofs.Ythmdlkaanjjbkaa
