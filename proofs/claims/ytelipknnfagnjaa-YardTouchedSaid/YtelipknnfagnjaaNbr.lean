/- Neighbors of the program and of the reference. -/
import Derived.Test.YtelipknnfagnjaaWrp
namespace Go.Proofs.Ytelipknnfagnjaa
set_option linter.unusedVariables false
open Go.RowKit Go.Shelf

def nbrB (a b c d : Nat) : Bool := decide (c * b = a * d + 1)

/-- the boxes of two arguments -/
structure Argp (w X : World) (a b c d : Int) : Prop where
  x : Two X w.heap.size 26 a b
  y : Two X (w.heap.size + 1) 26 c d
  b : Below w.heap.size w X
theorem Argp.below {w X Y : World} {a b c d : Int} (h : Argp w X a b c d) (hb : Below X.heap.size X Y) : Argp w Y a b c d := ⟨h.x.below hb, h.y.below hb, b_next h.b hb⟩
theorem Argp.new (w : World) (a b c d : Int) : Argp w ((w.alloc (.cells #[.int .i64 a, .int .i64 b] 26)).alloc (.cells #[.int .i64 c, .int .i64 d] 26)) a b c d := by
  have h1 := (Two.new w 26 a b).alloc (.cells #[.int .i64 c, .int .i64 d] 26)
  have h2 := Two.new (w.alloc (.cells #[.int .i64 a, .int .i64 b] 26)) 26 c d
  simp only [World.size_alloc] at h2
  exact ⟨h1, h2, b_next (below_alloc w _) (below_alloc _ _)⟩

set_option maxRecDepth 100000 in
set_option maxHeartbeats 4000000 in
theorem refNeighbors_any (a b c d : Nat) (w : World) (ha : a ≤ 10000000) (hb : b ≤ 10000000) (hc : c ≤ 10000000) (hd : d ≤ 10000000) :
    Calls Try.prog 33 #[frV (a, b), frV (c, d)] w fun e w' => e = .returned (.bool (nbrB a b c d)) ∧ Below w.heap.size w w' := by
  have hN : nbrB a b c d = decide (c * b = a * d + 1) := rfl
  have l1 := mul14 hc hb
  have l2 := mul14 ha hd
  have w1 := wrap_mul hc hb
  have w2 := wrap_mul ha hd
  obtain ⟨m1, hm1⟩ : ∃ m, c * b = m := ⟨_, rfl⟩
  obtain ⟨m2, hm2⟩ : ∃ m, a * d = m := ⟨_, rfl⟩
  rw [hm1] at hN l1 w1
  rw [hm2] at hN l2 w2
  have HN := Lib.hid hN
  have w3 : wrap64 ((m1 : Int) - m2) = (m1 : Int) - m2 := wI ⟨by omega, by omega⟩
  clear hN hm1 hm2
  unfold frV
  simp only
  go_enter Try.func33, Try.ntmps33
  go_wp2
  go_ret
  exact ⟨ret_bool (by rw [HN.out, Bool.eq_iff_iff]; simp; omega), (Argp.new w _ _ _ _).b⟩

set_option maxRecDepth 100000 in
set_option maxHeartbeats 4000000 in
theorem Neighbors_yes (a b c d : Nat) (w : World) (h1 : validB a b = true) (h2 : validB c d = true) :
    Calls Try.prog 32 #[frV (a, b), frV (c, d)] w fun e w' => e = .returned (.tuple #[.bool (nbrB a b c d), .int .i64 0]) ∧ Below w.heap.size w w' := by
  have V1 := fun w => isValid_any a b w
  have V2 := fun w => isValid_any c d w
  rw [h1] at V1
  rw [h2] at V2
  have HV1 := Lib.hid V1
  have HV2 := Lib.hid V2
  obtain ⟨a', b', e1, e2, k1, k2, k3, _⟩ := valid_nat h1
  obtain ⟨c', d', e3, e4, k4, k5, k6, _⟩ := valid_nat h2
  have ha : a ≤ 10000000 := by omega
  have hb : b ≤ 10000000 := by omega
  have hc : c ≤ 10000000 := by omega
  have hd : d ≤ 10000000 := by omega
  clear V1 V2 h1 h2 e1 e2 e3 e4 k1 k2 k3 k4 k5 k6
  have hN : nbrB a b c d = decide (c * b = d * a + 1) := by unfold nbrB; rw [Nat.mul_comm d]
  have l1 := mul14 hc hb
  have l2 := mul14 hd ha
  have w1 := wrap_mul hc hb
  have w2 := wrap_mul hd ha
  obtain ⟨m1, hm1⟩ : ∃ m, c * b = m := ⟨_, rfl⟩
  obtain ⟨m2, hm2⟩ : ∃ m, d * a = m := ⟨_, rfl⟩
  rw [hm1] at hN l1 w1
  rw [hm2] at hN l2 w2
  have HN := Lib.hid hN
  have w3 : wrap64 ((m1 : Int) - m2) = (m1 : Int) - m2 := wI ⟨by omega, by omega⟩
  clear hN hm1 hm2
  unfold frV
  simp only
  go_enter Try.func32, Try.ntmps32
  go_wp2_with fail
  generalize hX : ((w.alloc (.cells #[.int .i64 a, .int .i64 b] 26)).alloc (.cells #[.int .i64 c, .int .i64 d] 26)) = X
  have A0 : Argp w X a b c d := by rw [← hX]; exact Argp.new w _ _ _ _
  have HA0 := Lib.hid A0
  clear A0 hX
  refine (HV1.out _).mono ?_
  rintro e x1 ⟨rfl, b1⟩
  have A1 := HA0.out.below b1
  obtain ⟨x0, x1, _, _⟩ := A1.x.cells
  obtain ⟨y0, y1, _, _⟩ := A1.y.cells
  have HA1 := Lib.hid A1
  clear A1 b1
  go_wp2_with fail
  refine (HV2.out _).mono ?_
  rintro e x2 ⟨rfl, b2⟩
  have A2 := HA1.out.below b2
  obtain ⟨x0, x1, _, _⟩ := A2.x.cells
  obtain ⟨y0, y1, _, _⟩ := A2.y.cells
  have HA2 := Lib.hid A2
  clear A2 b2
  go_wp2_with fail
  go_ret2
  exact ⟨by show Ending.returned (.tuple #[.bool ((m1 : Int) - m2 == 1), .int .i64 0]) = _; rw [HN.out, show ((m1 : Int) - m2 == 1) = decide (m1 = m2 + 1) from by rw [Bool.eq_iff_iff, beq_iff_eq, decide_eq_true_eq]; clear w3 w1 w2; omega], HA2.out.b⟩

set_option maxRecDepth 100000 in
set_option maxHeartbeats 4000000 in
theorem Neighbors_no (a b c d : Int) (w : World) (h : (validB a b && validB c d) = false) :
    Calls Try.prog 32 #[.agg #[.int .i64 a, .int .i64 b], .agg #[.int .i64 c, .int .i64 d]] w fun e w' => e = .returned (.tuple #[.bool false, .int .i64 2]) ∧ Below w.heap.size w w' := by
  have V1 := fun w => isValid_any a b w
  have V2 := fun w => isValid_any c d w
  cases h1 : validB a b with
  | false =>
    rw [h1] at V1
    have HV1 := Lib.hid V1
    clear V1 V2 h h1
    go_enter Try.func32, Try.ntmps32
    go_wp2_with fail
    generalize hX : ((w.alloc (.cells #[.int .i64 a, .int .i64 b] 26)).alloc (.cells #[.int .i64 c, .int .i64 d] 26)) = X
    have A0 : Argp w X a b c d := by rw [← hX]; exact Argp.new w _ _ _ _
    have HA0 := Lib.hid A0
    clear A0 hX
    refine (HV1.out _).mono ?_
    rintro e x1 ⟨rfl, b1⟩
    have HA1 := Lib.hid (HA0.out.below b1)
    clear b1
    go_wp2_with fail
    go_ret2
    exact ⟨rfl, HA1.out.b⟩
  | true =>
    have h2 : validB c d = false := by rw [h1, Bool.true_and] at h; exact h
    rw [h1] at V1
    rw [h2] at V2
    have HV1 := Lib.hid V1
    have HV2 := Lib.hid V2
    clear V1 V2 h h1 h2
    go_enter Try.func32, Try.ntmps32
    go_wp2_with fail
    generalize hX : ((w.alloc (.cells #[.int .i64 a, .int .i64 b] 26)).alloc (.cells #[.int .i64 c, .int .i64 d] 26)) = X
    have A0 : Argp w X a b c d := by rw [← hX]; exact Argp.new w _ _ _ _
    have HA0 := Lib.hid A0
    clear A0 hX
    refine (HV1.out _).mono ?_
    rintro e x1 ⟨rfl, b1⟩
    have A1 := HA0.out.below b1
    obtain ⟨x0, x1, _, _⟩ := A1.x.cells
    obtain ⟨y0, y1, _, _⟩ := A1.y.cells
    have HA1 := Lib.hid A1
    clear A1 b1
    go_wp2_with fail
    refine (HV2.out _).mono ?_
    rintro e x2 ⟨rfl, b2⟩
    have HA2 := Lib.hid (HA1.out.below b2)
    clear b2
    go_wp2_with fail
    go_ret2
    exact ⟨rfl, HA2.out.b⟩
end Go.Proofs.Ytelipknnfagnjaa
