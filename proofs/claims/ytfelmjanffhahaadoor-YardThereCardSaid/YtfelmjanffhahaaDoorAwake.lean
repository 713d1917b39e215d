/- The program is awake. -/
import Derived.Test.YtfelmjanffhahaaDoorSize
import Derived.Test.YtfelmjanffhahaaDoorBet
import Derived.Test.YtfelmjanffhahaaDoorPath
import Derived.Test.YtfelmjanffhahaaDoorSaw
import Derived.Test.YtfelmjanffhahaaDoorQuo
import Derived.Test.YtfelmjanffhahaaDoorInts
namespace Go.Proofs.YtfelmjanffhahaaDoor
set_option linter.unusedVariables false
open Go.RowKit Go.Shelf

set_option maxRecDepth 100000 in
theorem len5 : len 5 = 11 := by decide +kernel
theorem bet1312 : betN 1 3 1 2 = ((2, 5), 0) := by
  unfold betN
  rw [if_pos (by decide), between_det (by decide) (by decide) (by decide), if_pos (by decide)]
theorem pth32 : pth 3 2 = [76, 82] := by
  rw [pth_lt (by decide) (by decide), pth_gt (by decide) (by decide), pth_eq]
theorem path25 : pthR 2 5 = (⟨#[76, 82]⟩, 0) := by
  unfold pthR
  rw [show 5 - 2 = 3 from rfl, pth32]
  rfl
theorem saw13 : sawV 1 3 = (1, 18) := by decide +kernel
theorem quo52 : quo 5 2 = [2, 2] := by
  rw [quo_pos (by decide), show 5 % 2 = 1 from rfl, quo_pos (by decide), show 2 % 1 = 0 from rfl, quo_zero]
theorem quoI52 : quoI 5 2 = [2, 2] := by unfold quoI; rw [quo52]; rfl

set_option maxRecDepth 100000 in
set_option maxHeartbeats 4000000 in
theorem awake_any (w : World) : Calls Tryd.prog 8 #[] w fun e w' => e = .returned (.bool true) ∧ Below w.heap.size w w' := by
  have h1 := fun w => Size_yes 5 (by decide) (by decide) w
  have h2 := fun w => Between_yes 1 3 1 2 w (by decide +kernel) (by decide +kernel)
  have h3 := fun w => Path_yes 2 5 (by decide +kernel) (by decide) w
  have h4 := fun w => Saw_yes 1 3 (by decide +kernel) (by decide) w
  have h5 := fun w => Quotients_yes 2 5 (by decide +kernel) w
  rw [len5] at h1
  rw [bet1312] at h2
  rw [path25] at h3
  rw [saw13] at h4
  rw [quo52, quoI52] at h5
  unfold frV at h2 h3 h4 h5
  have H1 := Lib.hid h1
  have H2 := Lib.hid h2
  have H3 := Lib.hid h3
  have H4 := Lib.hid h4
  have H5 := Lib.hid h5
  clear h1 h2 h3 h4 h5
  go_enter Tryd.func8, Tryd.ntmps8
  go_wp2_with fail
  refine (H1.out _).mono ?_
  rintro e w1 ⟨rfl, b1⟩
  have HB1 := Lib.hid b1
  clear b1
  go_wp2_with fail
  refine (H2.out _).mono ?_
  rintro e w2 ⟨rfl, b2⟩
  have HB2 := Lib.hid (b_next HB1.out b2)
  clear b2
  go_wp2_with fail
  refine (H3.out _).mono ?_
  rintro e w3 ⟨rfl, b3⟩
  have T3 := Lib.hid ((Two.new w2 23 2 5).below b3)
  have HB3 := Lib.hid (b_next (b_next HB2.out (below_alloc w2 _)) b3)
  clear b3
  go_wp2_with fail
  refine (H4.out _).mono ?_
  rintro e w4 ⟨rfl, b4⟩
  have T4 := Lib.hid (T3.out.below b4)
  have HB4 := Lib.hid (b_next HB3.out b4)
  clear b4
  go_wp2_with fail
  refine (H5.out _).mono ?_
  rintro e w5 ⟨v, rfl, hown, b5⟩
  have T5 := Lib.hid (T4.out.below b5)
  have HB5 := Lib.hid (b_next HB4.out b5)
  obtain ⟨ad, cap, rfl, hR⟩ := Row.of_own hown
  have HR := Lib.hid hR
  obtain ⟨c0, c1, _, _⟩ := T5.out.cells
  clear b5 hown hR
  have hI := fun W a b (h1 : Row W a 2 (intL [2, 2])) (h2 : Row W b 2 (intL [2, 2])) => ints_any a b 2 2 cap 2 [2, 2] [2, 2] W h1 h2 (by decide) (by decide)
  rw [show decide (([2, 2] : List Int) = [2, 2]) = true from rfl] at hI
  have HI := Lib.hid hI
  clear hI
  go_wp2_with fail
  refine (HI.out _ _ _ (HR.out.below (below_alloc _ _)) (Row.built (w := w5) 3 (intL [2, 2]))).mono ?_
  rintro e w6 ⟨rfl, n6, rfl⟩
  go_wp2
  go_ret
  exact ⟨rfl, below_drewN (b_next HB5.out (below_alloc _ _)) _⟩
end Go.Proofs.YtfelmjanffhahaaDoor
