/- YardBetweens. -/
import Derived.Test.YthpnlhigcijicaaAwake
import Derived.Test.YthpnlhigcijicaaNbr
import Derived.Test.YthpnlhigcijicaaRbt
import Derived.ProofKit
import Derived.OpenShut
import Derived.ShutString
import Derived.ChangeOld
import Derived.Lib.SmallJoins
namespace Go.Proofs.Ythpnlhigcijicaa
set_option linter.unusedVariables false
open Go.RowKit Go.Shelf

set_option maxRecDepth 100000 in
set_option maxHeartbeats 4000000 in
theorem yb_no (a b c d : Int) (W : World) (h : (validB a b && validB c d) = false) :
    Calls Try.prog 5 #[.agg #[.int .i64 a, .int .i64 b], .agg #[.int .i64 c, .int .i64 d]] W fun e W' => e = .returned (.bool true) ∧ Below W.heap.size W W' := by
  have hB := fun w => Between_any a b c d w
  rw [show betR a b c d = ((0, 0), 2) from by unfold betR; rw [h]; rfl] at hB
  unfold frV at hB
  simp only at hB
  have hN := fun w => Neighbors_no a b c d w h
  have hV1 := fun w => refValid_any a b w
  have hV2 := fun w => refValid_any c d w
  have HB := Lib.hid hB
  have HN := Lib.hid hN
  have HW := Lib.hid awake_any
  clear hB hN
  cases h1 : validB a b with
  | false =>
    rw [h1] at hV1
    have HV1 := Lib.hid hV1
    clear hV1 hV2 h h1
    go_enter Try.func5, Try.ntmps5
    go_wp2_with fail
    generalize hX : ((W.alloc (.cells #[.int .i64 a, .int .i64 b] 26)).alloc (.cells #[.int .i64 c, .int .i64 d] 26)) = X
    have A0 : Argp W X a b c d := by rw [← hX]; exact Argp.new W _ _ _ _
    have HA0 := Lib.hid A0
    clear A0 hX
    refine (HB.out _).mono ?_
    rintro e w1 ⟨rfl, b1⟩
    have HA1 := Lib.hid (HA0.out.below b1)
    clear b1
    obtain ⟨x0, x1, _, _⟩ := HA1.out.x.cells
    obtain ⟨y0, y1, _, _⟩ := HA1.out.y.cells
    have hl1 := HA1.out.y.lt
    have hk1 := HA1.out.x.lt
    go_wp2_with fail
    refine (HN.out _).mono ?_
    rintro e w2 ⟨rfl, b2⟩
    have HA2 := Lib.hid ((HA1.out.below (below_alloc _ (.cells #[.int .i64 0, .int .i64 0] 26))).below b2)
    have HT2 := Lib.hid ((Two.new w1 26 0 0).below b2)
    clear b2
    obtain ⟨x0, x1, _, _⟩ := HA2.out.x.cells
    obtain ⟨y0, y1, _, _⟩ := HA2.out.y.cells
    have hl2 := HA2.out.y.lt
    have hk2 := HA2.out.x.lt
    obtain ⟨z0, z1, _, _⟩ := HT2.out.cells
    go_wp2_with fail
    refine (HV1.out _).mono ?_
    rintro e w3 ⟨rfl, b3⟩
    have HA3 := Lib.hid (HA2.out.below b3)
    have HT3 := Lib.hid (HT2.out.below b3)
    clear b3
    obtain ⟨x0, x1, _, _⟩ := HA3.out.x.cells
    obtain ⟨y0, y1, _, _⟩ := HA3.out.y.cells
    have hl3 := HA3.out.y.lt
    have hk3 := HA3.out.x.lt
    obtain ⟨z0, z1, _, _⟩ := HT3.out.cells
    go_wp2_with fail
    refine (HW.out _).mono ?_
    rintro e w4 ⟨rfl, b4⟩
    have HA4 := Lib.hid (HA3.out.below b4)
    have HT4 := Lib.hid (HT3.out.below b4)
    clear b4
    obtain ⟨x0, x1, _, _⟩ := HA4.out.x.cells
    obtain ⟨y0, y1, _, _⟩ := HA4.out.y.cells
    have hl4 := HA4.out.y.lt
    have hk4 := HA4.out.x.lt
    obtain ⟨z0, z1, _, _⟩ := HT4.out.cells
    go_wp2_with fail
    go_ret
    exact ⟨rfl, HA4.out.b⟩
  | true =>
    have h2 : validB c d = false := by rw [h1, Bool.true_and] at h; exact h
    rw [h1] at hV1
    rw [h2] at hV2
    have HV1 := Lib.hid hV1
    have HV2 := Lib.hid hV2
    clear hV1 hV2 h h1 h2
    go_enter Try.func5, Try.ntmps5
    go_wp2_with fail
    generalize hX : ((W.alloc (.cells #[.int .i64 a, .int .i64 b] 26)).alloc (.cells #[.int .i64 c, .int .i64 d] 26)) = X
    have A0 : Argp W X a b c d := by rw [← hX]; exact Argp.new W _ _ _ _
    have HA0 := Lib.hid A0
    clear A0 hX
    refine (HB.out _).mono ?_
    rintro e w1 ⟨rfl, b1⟩
    have HA1 := Lib.hid (HA0.out.below b1)
    clear b1
    obtain ⟨x0, x1, _, _⟩ := HA1.out.x.cells
    obtain ⟨y0, y1, _, _⟩ := HA1.out.y.cells
    have hl1 := HA1.out.y.lt
    have hk1 := HA1.out.x.lt
    go_wp2_with fail
    refine (HN.out _).mono ?_
    rintro e w2 ⟨rfl, b2⟩
    have HA2 := Lib.hid ((HA1.out.below (below_alloc _ (.cells #[.int .i64 0, .int .i64 0] 26))).below b2)
    have HT2 := Lib.hid ((Two.new w1 26 0 0).below b2)
    clear b2
    obtain ⟨x0, x1, _, _⟩ := HA2.out.x.cells
    obtain ⟨y0, y1, _, _⟩ := HA2.out.y.cells
    have hl2 := HA2.out.y.lt
    have hk2 := HA2.out.x.lt
    obtain ⟨z0, z1, _, _⟩ := HT2.out.cells
    go_wp2_with fail
    refine (HV1.out _).mono ?_
    rintro e w3 ⟨rfl, b3⟩
    have HA3 := Lib.hid (HA2.out.below b3)
    have HT3 := Lib.hid (HT2.out.below b3)
    clear b3
    obtain ⟨x0, x1, _, _⟩ := HA3.out.x.cells
    obtain ⟨y0, y1, _, _⟩ := HA3.out.y.cells
    have hl3 := HA3.out.y.lt
    have hk3 := HA3.out.x.lt
    obtain ⟨z0, z1, _, _⟩ := HT3.out.cells
    go_wp2_with fail
    refine (HV2.out _).mono ?_
    rintro e w4 ⟨rfl, b4⟩
    have HA4 := Lib.hid (HA3.out.below b4)
    have HT4 := Lib.hid (HT3.out.below b4)
    clear b4
    obtain ⟨x0, x1, _, _⟩ := HA4.out.x.cells
    obtain ⟨y0, y1, _, _⟩ := HA4.out.y.cells
    have hl4 := HA4.out.y.lt
    have hk4 := HA4.out.x.lt
    obtain ⟨z0, z1, _, _⟩ := HT4.out.cells
    go_wp2_with fail
    refine (HW.out _).mono ?_
    rintro e w5 ⟨rfl, b5⟩
    have HA5 := Lib.hid (HA4.out.below b5)
    have HT5 := Lib.hid (HT4.out.below b5)
    clear b5
    obtain ⟨x0, x1, _, _⟩ := HA5.out.x.cells
    obtain ⟨y0, y1, _, _⟩ := HA5.out.y.cells
    have hl5 := HA5.out.y.lt
    have hk5 := HA5.out.x.lt
    obtain ⟨z0, z1, _, _⟩ := HT5.out.cells
    go_wp2_with fail
    go_ret
    exact ⟨rfl, HA5.out.b⟩

set_option maxRecDepth 100000 in
set_option maxHeartbeats 4000000 in
theorem yb_yes (a b c d : Nat) (W : World) (h1 : validB a b = true) (h2 : validB c d = true) :
    Calls Try.prog 5 #[.agg #[.int .i64 a, .int .i64 b], .agg #[.int .i64 c, .int .i64 d]] W fun e W' => e = .returned (.bool true) ∧ Below W.heap.size W W' := by
  have hB := fun w => Between_yes a b c d w h1 h2
  have hN := fun w => Neighbors_yes a b c d w h1 h2
  have hV1 := fun w => refValid_any a b w
  have hV2 := fun w => refValid_any c d w
  rw [h1] at hV1
  rw [h2] at hV2
  obtain ⟨a', b', e1, e2, k1, k2, k3, _⟩ := valid_nat h1
  obtain ⟨c', d', e3, e4, k4, k5, k6, _⟩ := valid_nat h2
  have m1 : a ≤ 1000000 := by omega
  have m2 : b ≤ 1000000 := by omega
  have m3 : c ≤ 1000000 := by omega
  have m4 : d ≤ 1000000 := by omega
  have m5 : 1 ≤ b := by omega
  clear h1 h2 e1 e2 e3 e4 k1 k2 k3 k4 k5 k6
  have hR := fun w => refNeighbors_any a b c d w (by omega) (by omega) (by omega) (by omega)
  have hL := fun w => refLess_any (a, b) (c, d) ⟨by simp only; omega, by simp only; omega⟩ ⟨by simp only; omega, by simp only; omega⟩ w
  have hF := fun w (h : a * d < c * b) => refBetween_any (b + d) a b c d w (Nat.le_refl _) m5 h ⟨by omega, by omega, by omega, by omega⟩
  have hL2 : lessF (a, b) (c, d) = decide (a * d < c * b) := rfl
  rw [hL2] at hL
  obtain ⟨nb, hnb⟩ : ∃ t, nbrB a b c d = t := ⟨_, rfl⟩
  rw [hnb] at hN hR
  clear hnb hL2
  have HW := Lib.hid awake_any
  have HV1 := Lib.hid hV1
  have HV2 := Lib.hid hV2
  unfold frV at hN hR
  have HN := Lib.hid hN
  have HR := Lib.hid hR
  clear hV1 hV2 hN hR
  by_cases hlt : a * d < c * b
  · rw [decide_eq_true hlt] at hL
    have hF2 := fun w => hF w hlt
    obtain ⟨x, y, hxy⟩ : ∃ x y, between a b c d = (x, y) := ⟨_, _, rfl⟩
    rw [hxy] at hF2
    by_cases hy : y ≤ 1000000
    · rw [show betN a b c d = ((x, y), 0) from by unfold betN; rw [if_pos hlt, hxy, if_pos hy]] at hB
      unfold frV at hB hL
      have HB := Lib.hid hB
      have HL := Lib.hid hL
      have HF := Lib.hid hF2
      clear hB hL hF hF2 hxy hlt
      go_enter Try.func5, Try.ntmps5
      go_wp2_with fail
      generalize hX : ((W.alloc (.cells #[.int .i64 a, .int .i64 b] 26)).alloc (.cells #[.int .i64 c, .int .i64 d] 26)) = X
      have A0 : Argp W X a b c d := by rw [← hX]; exact Argp.new W _ _ _ _
      have HA0 := Lib.hid A0
      clear A0 hX
      refine (HB.out _).mono ?_
      rintro e w1 ⟨rfl, b1⟩
      have HA1 := Lib.hid (HA0.out.below b1)
      clear b1
      obtain ⟨x0, x1, _, _⟩ := HA1.out.x.cells
      obtain ⟨y0, y1, _, _⟩ := HA1.out.y.cells
      have hl1 := HA1.out.y.lt
      have hk1 := HA1.out.x.lt
      go_wp2_with fail
      refine (HN.out _).mono ?_
      rintro e w2 ⟨rfl, b2⟩
      have HA2 := Lib.hid ((HA1.out.below (below_alloc _ (.cells #[.int .i64 x, .int .i64 y] 26))).below b2)
      have HT2 := Lib.hid ((Two.new w1 26 x y).below b2)
      clear b2
      obtain ⟨x0, x1, _, _⟩ := HA2.out.x.cells
      obtain ⟨y0, y1, _, _⟩ := HA2.out.y.cells
      have hl2 := HA2.out.y.lt
      have hk2 := HA2.out.x.lt
      obtain ⟨z0, z1, _, _⟩ := HT2.out.cells
      go_wp2_with fail
      refine (HV1.out _).mono ?_
      rintro e w3 ⟨rfl, b3⟩
      have HA3 := Lib.hid (HA2.out.below b3)
      have HT3 := Lib.hid (HT2.out.below b3)
      clear b3
      obtain ⟨x0, x1, _, _⟩ := HA3.out.x.cells
      obtain ⟨y0, y1, _, _⟩ := HA3.out.y.cells
      have hl3 := HA3.out.y.lt
      have hk3 := HA3.out.x.lt
      obtain ⟨z0, z1, _, _⟩ := HT3.out.cells
      go_wp2_with fail
      refine (HV2.out _).mono ?_
      rintro e w4 ⟨rfl, b4⟩
      have HA4 := Lib.hid (HA3.out.below b4)
      have HT4 := Lib.hid (HT3.out.below b4)
      clear b4
      obtain ⟨x0, x1, _, _⟩ := HA4.out.x.cells
      obtain ⟨y0, y1, _, _⟩ := HA4.out.y.cells
      have hl4 := HA4.out.y.lt
      have hk4 := HA4.out.x.lt
      obtain ⟨z0, z1, _, _⟩ := HT4.out.cells
      go_wp2_with fail
      refine (HR.out _).mono ?_
      rintro e w5 ⟨rfl, b5⟩
      have HA5 := Lib.hid (HA4.out.below b5)
      have HT5 := Lib.hid (HT4.out.below b5)
      clear b5
      obtain ⟨x0, x1, _, _⟩ := HA5.out.x.cells
      obtain ⟨y0, y1, _, _⟩ := HA5.out.y.cells
      have hl5 := HA5.out.y.lt
      have hk5 := HA5.out.x.lt
      obtain ⟨z0, z1, _, _⟩ := HT5.out.cells
      go_wp2_with fail
      refine (HL.out _).mono ?_
      rintro e w6 ⟨rfl, b6⟩
      have HA6 := Lib.hid (HA5.out.below b6)
      have HT6 := Lib.hid (HT5.out.below b6)
      clear b6
      obtain ⟨x0, x1, _, _⟩ := HA6.out.x.cells
      obtain ⟨y0, y1, _, _⟩ := HA6.out.y.cells
      have hl6 := HA6.out.y.lt
      have hk6 := HA6.out.x.lt
      obtain ⟨z0, z1, _, _⟩ := HT6.out.cells
      go_wp2_with fail
      refine (HF.out _).mono ?_
      rintro e w7 ⟨rfl, rfl⟩
      go_wp2_with fail
      refine (HW.out _).mono ?_
      rintro e w8 ⟨rfl, b8⟩
      have hE := b_next HA6.out.b b8
      go_wp2_with fail
      go_ret
      exact ⟨rfl, hE⟩
    · rw [show betN a b c d = ((0, 0), 6) from by unfold betN; rw [if_pos hlt, hxy, if_neg hy]] at hB
      unfold frV at hB hL
      have HB := Lib.hid hB
      have HL := Lib.hid hL
      have HF := Lib.hid hF2
      clear hB hL hF hF2 hxy hlt
      go_enter Try.func5, Try.ntmps5
      go_wp2_with fail
      generalize hX : ((W.alloc (.cells #[.int .i64 a, .int .i64 b] 26)).alloc (.cells #[.int .i64 c, .int .i64 d] 26)) = X
      have A0 : Argp W X a b c d := by rw [← hX]; exact Argp.new W _ _ _ _
      have HA0 := Lib.hid A0
      clear A0 hX
      refine (HB.out _).mono ?_
      rintro e w1 ⟨rfl, b1⟩
      have HA1 := Lib.hid (HA0.out.below b1)
      clear b1
      obtain ⟨x0, x1, _, _⟩ := HA1.out.x.cells
      obtain ⟨y0, y1, _, _⟩ := HA1.out.y.cells
      have hl1 := HA1.out.y.lt
      have hk1 := HA1.out.x.lt
      go_wp2_with fail
      refine (HN.out _).mono ?_
      rintro e w2 ⟨rfl, b2⟩
      have HA2 := Lib.hid ((HA1.out.below (below_alloc _ (.cells #[.int .i64 0, .int .i64 0] 26))).below b2)
      have HT2 := Lib.hid ((Two.new w1 26 0 0).below b2)
      clear b2
      obtain ⟨x0, x1, _, _⟩ := HA2.out.x.cells
      obtain ⟨y0, y1, _, _⟩ := HA2.out.y.cells
      have hl2 := HA2.out.y.lt
      have hk2 := HA2.out.x.lt
      obtain ⟨z0, z1, _, _⟩ := HT2.out.cells
      go_wp2_with fail
      refine (HV1.out _).mono ?_
      rintro e w3 ⟨rfl, b3⟩
      have HA3 := Lib.hid (HA2.out.below b3)
      have HT3 := Lib.hid (HT2.out.below b3)
      clear b3
      obtain ⟨x0, x1, _, _⟩ := HA3.out.x.cells
      obtain ⟨y0, y1, _, _⟩ := HA3.out.y.cells
      have hl3 := HA3.out.y.lt
      have hk3 := HA3.out.x.lt
      obtain ⟨z0, z1, _, _⟩ := HT3.out.cells
      go_wp2_with fail
      refine (HV2.out _).mono ?_
      rintro e w4 ⟨rfl, b4⟩
      have HA4 := Lib.hid (HA3.out.below b4)
      have HT4 := Lib.hid (HT3.out.below b4)
      clear b4
      obtain ⟨x0, x1, _, _⟩ := HA4.out.x.cells
      obtain ⟨y0, y1, _, _⟩ := HA4.out.y.cells
      have hl4 := HA4.out.y.lt
      have hk4 := HA4.out.x.lt
      obtain ⟨z0, z1, _, _⟩ := HT4.out.cells
      go_wp2_with fail
      refine (HR.out _).mono ?_
      rintro e w5 ⟨rfl, b5⟩
      have HA5 := Lib.hid (HA4.out.below b5)
      have HT5 := Lib.hid (HT4.out.below b5)
      clear b5
      obtain ⟨x0, x1, _, _⟩ := HA5.out.x.cells
      obtain ⟨y0, y1, _, _⟩ := HA5.out.y.cells
      have hl5 := HA5.out.y.lt
      have hk5 := HA5.out.x.lt
      obtain ⟨z0, z1, _, _⟩ := HT5.out.cells
      go_wp2_with fail
      refine (HL.out _).mono ?_
      rintro e w6 ⟨rfl, b6⟩
      have HA6 := Lib.hid (HA5.out.below b6)
      have HT6 := Lib.hid (HT5.out.below b6)
      clear b6
      obtain ⟨x0, x1, _, _⟩ := HA6.out.x.cells
      obtain ⟨y0, y1, _, _⟩ := HA6.out.y.cells
      have hl6 := HA6.out.y.lt
      have hk6 := HA6.out.x.lt
      obtain ⟨z0, z1, _, _⟩ := HT6.out.cells
      go_wp2_with fail
      refine (HF.out _).mono ?_
      rintro e w7 ⟨rfl, rfl⟩
      go_wp2_with fail
      refine (HW.out _).mono ?_
      rintro e w8 ⟨rfl, b8⟩
      have hE := b_next HA6.out.b b8
      go_wp2_with fail
      go_ret
      exact ⟨rfl, hE⟩
  · rw [decide_eq_false hlt] at hL
    rw [show betN a b c d = ((0, 0), 2) from by unfold betN; rw [if_neg hlt]] at hB
    unfold frV at hB hL
    have HB := Lib.hid hB
    have HL := Lib.hid hL
    clear hB hL hF hlt
    go_enter Try.func5, Try.ntmps5
    go_wp2_with fail
    generalize hX : ((W.alloc (.cells #[.int .i64 a, .int .i64 b] 26)).alloc (.cells #[.int .i64 c, .int .i64 d] 26)) = X
    have A0 : Argp W X a b c d := by rw [← hX]; exact Argp.new W _ _ _ _
    have HA0 := Lib.hid A0
    clear A0 hX
    refine (HB.out _).mono ?_
    rintro e w1 ⟨rfl, b1⟩
    have HA1 := Lib.hid (HA0.out.below b1)
    clear b1
    obtain ⟨x0, x1, _, _⟩ := HA1.out.x.cells
    obtain ⟨y0, y1, _, _⟩ := HA1.out.y.cells
    have hl1 := HA1.out.y.lt
    have hk1 := HA1.out.x.lt
    go_wp2_with fail
    refine (HN.out _).mono ?_
    rintro e w2 ⟨rfl, b2⟩
    have HA2 := Lib.hid ((HA1.out.below (below_alloc _ (.cells #[.int .i64 0, .int .i64 0] 26))).below b2)
    have HT2 := Lib.hid ((Two.new w1 26 0 0).below b2)
    clear b2
    obtain ⟨x0, x1, _, _⟩ := HA2.out.x.cells
    obtain ⟨y0, y1, _, _⟩ := HA2.out.y.cells
    have hl2 := HA2.out.y.lt
    have hk2 := HA2.out.x.lt
    obtain ⟨z0, z1, _, _⟩ := HT2.out.cells
    go_wp2_with fail
    refine (HV1.out _).mono ?_
    rintro e w3 ⟨rfl, b3⟩
    have HA3 := Lib.hid (HA2.out.below b3)
    have HT3 := Lib.hid (HT2.out.below b3)
    clear b3
    obtain ⟨x0, x1, _, _⟩ := HA3.out.x.cells
    obtain ⟨y0, y1, _, _⟩ := HA3.out.y.cells
    have hl3 := HA3.out.y.lt
    have hk3 := HA3.out.x.lt
    obtain ⟨z0, z1, _, _⟩ := HT3.out.cells
    go_wp2_with fail
    refine (HV2.out _).mono ?_
    rintro e w4 ⟨rfl, b4⟩
    have HA4 := Lib.hid (HA3.out.below b4)
    have HT4 := Lib.hid (HT3.out.below b4)
    clear b4
    obtain ⟨x0, x1, _, _⟩ := HA4.out.x.cells
    obtain ⟨y0, y1, _, _⟩ := HA4.out.y.cells
    have hl4 := HA4.out.y.lt
    have hk4 := HA4.out.x.lt
    obtain ⟨z0, z1, _, _⟩ := HT4.out.cells
    go_wp2_with fail
    refine (HR.out _).mono ?_
    rintro e w5 ⟨rfl, b5⟩
    have HA5 := Lib.hid (HA4.out.below b5)
    have HT5 := Lib.hid (HT4.out.below b5)
    clear b5
    obtain ⟨x0, x1, _, _⟩ := HA5.out.x.cells
    obtain ⟨y0, y1, _, _⟩ := HA5.out.y.cells
    have hl5 := HA5.out.y.lt
    have hk5 := HA5.out.x.lt
    obtain ⟨z0, z1, _, _⟩ := HT5.out.cells
    go_wp2_with fail
    refine (HL.out _).mono ?_
    rintro e w6 ⟨rfl, b6⟩
    have HA6 := Lib.hid (HA5.out.below b6)
    have HT6 := Lib.hid (HT5.out.below b6)
    clear b6
    obtain ⟨x0, x1, _, _⟩ := HA6.out.x.cells
    obtain ⟨y0, y1, _, _⟩ := HA6.out.y.cells
    have hl6 := HA6.out.y.lt
    have hk6 := HA6.out.x.lt
    obtain ⟨z0, z1, _, _⟩ := HT6.out.cells
    go_wp2_with fail
    refine (HW.out _).mono ?_
    rintro e w7 ⟨rfl, b7⟩
    have HA7 := Lib.hid (HA6.out.below b7)
    have HT7 := Lib.hid (HT6.out.below b7)
    clear b7
    obtain ⟨x0, x1, _, _⟩ := HA7.out.x.cells
    obtain ⟨y0, y1, _, _⟩ := HA7.out.y.cells
    have hl7 := HA7.out.y.lt
    have hk7 := HA7.out.x.lt
    obtain ⟨z0, z1, _, _⟩ := HT7.out.cells
    go_wp2_with fail
    go_ret
    exact ⟨rfl, HA7.out.b⟩

theorem walk_YardBetweens (a b : Int) (_ : (Lit.int .i64 a).wf = true) (_ : (Lit.int .i64 b).wf = true) (c d : Int) (_ : (Lit.int .i64 c).wf = true) (_ : (Lit.int .i64 d).wf = true) (W : World) :
    Calls Try.prog 5 #[.agg #[.int .i64 a, .int .i64 b], .agg #[.int .i64 c, .int .i64 d]] W fun e W' => e = .returned (.bool true) ∧ Below W.heap.size W W' := by
  cases h : (validB a b && validB c d) with
  | false => exact yb_no a b c d W h
  | true =>
    rw [Bool.and_eq_true] at h
    obtain ⟨p, q, rfl, rfl, _⟩ := valid_nat h.1
    obtain ⟨r, s, rfl, rfl, _⟩ := valid_nat h.2
    exact yb_yes p q r s W h.1 h.2


namespace lawYardBetweens
open Go.ChangeShapes Go.WideShapes Go.ChangeAt Go.RowKit
open Go.ChangeMaps (open_string shut_string)

theorem own : ownKnob Try.prog.godebug = none := by kernel_rfl
theorem lay : laidOutB Try.prog = true := by kernel_rfl

set_option maxRecDepth 100000 in
theorem lifted (os : Os) (started : os.Started) (H : Type) (enc : TypeId × Value → H) :
    ReturnsInHanded {} Try.checked os 5 .any (Rows.yardBetweensSpec.pre6 enc Try.prog Try.f5 Rows.yardBetweensRow.domain false) (Rows.yardBetweensSpec.post enc Try.prog Try.f5 false true false false) := by
  refine returnsInHanded_of_change (C := Try.checked) own started (by kernel_rfl) Try.func5
    (ChangeSpec.witness6 (enc := enc) (C := Try.checked) false ⟨#[], #[.agg #[.int .i64 0, .int .i64 0], .agg #[.int .i64 0, .int .i64 0]], []⟩ 8 (by kernel_rfl) (by kernel_rfl) (by kernel_rfl) (by kernel_rfl)) ?_
  intro W base args ds gs before hval0 hW hcnd _
  have hval : ∀ (j : Nat) t v, Try.f5.params[j]? = some t → args[j]? = some v → Value.okWide Try.prog W .any base t v := hval0
  have hW' := hW
  obtain ⟨p, q, hA0, hV, rfl, hfz, hnd⟩ := hW
  have hA : DataW.TrodAll enc Try.prog W 0 (fun _ => true) true Try.f5.params.toList args.toList ds p := hA0
  rw [Try.params5] at hA hval
  obtain ⟨v0, vs0, d0, ds0, p0, q0, hargs, rfl, rfl, h0, r0⟩ := trodAll_cons hA
  obtain ⟨v1, vs1, d1, ds1, p1, q1, rfl, rfl, rfl, h1, r1⟩ := trodAll_cons r0
  obtain ⟨rfl, rfl, rfl⟩ := trodAll_nil r1
  obtain rfl : args = #[v0, v1] := by cases args; simp_all
  obtain ⟨rfl, rfl⟩ := trodVars_none hV
  obtain ⟨c0, k0, y0, z0, m0, rfl, rfl, rfl, g0, l0⟩ := Joins.open_agg2 Try.underlying26 (by kernel_rfl) (by kernel_rfl) (hval 0 26 v0 rfl rfl) h0
  obtain ⟨a0, e0, rfl, w0⟩ := DataW.trod_int Try.underlying3 g0
  obtain ⟨b0, f0, rfl, x0⟩ := DataW.trod_int Try.underlying3 l0
  simp at e0 f0
  subst e0 f0
  obtain ⟨c1, k1, y1, z1, m1, rfl, rfl, rfl, g1, l1⟩ := Joins.open_agg2 Try.underlying26 (by kernel_rfl) (by kernel_rfl) (hval 1 26 v1 rfl rfl) h1
  obtain ⟨a1, e1, rfl, w1⟩ := DataW.trod_int Try.underlying3 g1
  obtain ⟨b1, f1, rfl, x1⟩ := DataW.trod_int Try.underlying3 l1
  simp at e1 f1
  subst e1 f1
  simp only [List.append_nil] at hW'
  clear hA0 hval0
  refine (walk_YardBetweens a0 b0 w0 x0 a1 b1 w1 x1 W).mono fun e W' ⟨he, bel⟩ => ?_
  subst he
  exact ⟨_, rfl, _, _, _, [], _, [], hW', trodAll_mk1 (shut_bool Try.underlying4 _), (trodAll_cons_mk (Joins.shut_agg2 (y0 := (.lit (.int .i64 a0), [])) (y1 := (.lit (.int .i64 b0), [])) Try.underlying26 (by kernel_rfl) (by kernel_rfl) (shut_int Try.underlying3 w0) (shut_int Try.underlying3 x0)) (trodAll_cons_mk (Joins.shut_agg2 (y0 := (.lit (.int .i64 a1), [])) (y1 := (.lit (.int .i64 b1), [])) Try.underlying26 (by kernel_rfl) (by kernel_rfl) (shut_int Try.underlying3 w1) (shut_int Try.underlying3 x1)) trodAll_mk0)), rfl, bel.frame _, fun h => by cases h⟩

theorem over : Rows.yardBetweensRow.holds Try.pinned (OpenSpec.ofChange Rows.yardBetweensSpec) :=
  OpenClaim.holds_of_wide 5 Try.f5 rfl rfl rfl rfl rfl rfl rfl ⟨rfl, rfl, rfl, rfl, rfl⟩ rfl rfl rfl rfl rfl (by kernel_rfl) Try.func5 (by kernel_rfl)
    (of_decide_eq_true (by kernel_rfl)) (by unfold Func.isWrapper; first | (rw [if_pos (by decide +kernel)]; kernel_rfl) | (rw [if_neg (by decide +kernel)]; exact ⟨rfl, rfl⟩))
    (fun os started H enc _ => lifted os started H enc)

theorem proved : Rows.YardBetweensSaid := over
end lawYardBetweens
end Go.Proofs.Ythpnlhigcijicaa
