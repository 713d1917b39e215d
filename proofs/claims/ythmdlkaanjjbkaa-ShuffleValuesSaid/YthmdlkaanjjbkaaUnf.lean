/- Unform. -/
import Derived.Test.YthmdlkaanjjbkaaIsf
namespace Go.Proofs.Ythmdlkaanjjbkaa
set_option linter.unusedVariables false
open Go.RowKit

theorem formB_in {m : Nat} {xs : List Int} (hm : 2 ≤ m) (hm2 : m ≤ 64) (h : formB m xs = true) : xs.length ≤ 64 ∧ ∀ x ∈ xs, -1000 ≤ x ∧ x ≤ 1000 := by
  obtain ⟨_, d2, _⟩ := deg_facts ⟨m, by omega⟩ hm
  simp only at d2
  unfold formB roomsB at h
  rw [Bool.and_eq_true, Bool.and_eq_true, decide_eq_true_eq, List.all_eq_true] at h
  obtain ⟨⟨h1, h2⟩, _⟩ := h
  refine ⟨by omega, fun x hx => ?_⟩
  obtain ⟨i, hi, rfl⟩ := List.mem_iff_getElem.1 hx
  have h3 := h2 i (List.mem_range.2 hi)
  unfold okN at h3
  rw [List.getD_eq_getElem?_getD, List.getElem?_eq_getElem hi, decide_eq_true_eq] at h3
  simp only [Option.getD_some] at h3
  have h4 : roomN m i ≤ m := Nat.div_le_self _ _
  omega
set_option maxRecDepth 100000 in
set_option maxHeartbeats 4000000 in
theorem Unform_yes (m : Nat) (a : Option Addr) (n cap : Nat) (xs : List Int) (w : World) (hr : Row w a n (intL xs)) (hcap : n ≤ cap) (hm : 2 ≤ m) (hm2 : m ≤ 64) (hp : formB m xs = true) :
    Calls Try.prog 42 #[.int .i64 m, .slice a n cap] w fun e w' => ∃ v, e = .returned (.tuple #[v, .int .i64 0]) ∧ w'.ownsRow w.heap.size 3 1 v m (intL ((List.range m).map fun x => formV m xs x)) ∧ Below w.heap.size w w' := by
  have hx : xs.length = n := by have := hr.1; simpa [intL] using this
  obtain ⟨hn, hin⟩ := formB_in hm hm2 hp
  have h1 := fun w => isModulus_any (m : Int) w
  rw [show modB (m : Int) = true from decide_eq_true (by omega)] at h1
  have h := fun W hW => isForm_any m a n cap xs W hW (by omega) hcap hm hm2
  rw [hp] at h
  have ht := fun W hW => formTable_any m a n cap xs W hW (by omega) (by omega) hm2 hin
  have hl := fun W => list_any m (fun x => formV m xs x) W hm2
  have H1 := Lib.hid h1
  have H := Lib.hid h
  have HT := Lib.hid ht
  have HL := Lib.hid hl
  have Hr := Lib.hid hr
  clear h1 h ht hl hr hp hin hx hn
  go_enter Try.func42, Try.ntmps42
  go_wp2_with fail
  refine (H1.out _).mono ?_
  rintro e w1 ⟨rfl, hw⟩
  subst w1
  go_wp2_with fail
  refine (H.out _ Hr.out).mono ?_
  rintro e w1 ⟨rfl, b1⟩
  have R1 := Lib.hid (Hr.out.below b1)
  have B1 := Lib.hid b1
  clear b1
  go_wp2_with fail
  refine (HT.out _ R1.out).mono ?_
  rintro e w2 ⟨rfl, b2⟩
  have B2 := Lib.hid (b_next B1.out b2)
  clear b2
  go_wp2_with fail
  refine (HL.out _).mono ?_
  rintro e w3 ⟨v, rfl, ho, b3⟩
  have hO := own_base2 ho B2.out.size
  have HO := Lib.hid hO
  have B3 := Lib.hid (b_next B2.out b3)
  obtain ⟨a', cap', hv, _⟩ := ownsRow_open HO.out
  subst hv
  clear ho hO b3
  go_wp2
  go_ret2
  exact ⟨.slice a' m cap', rfl, HO.out, B3.out⟩
end Go.Proofs.Ythmdlkaanjjbkaa
