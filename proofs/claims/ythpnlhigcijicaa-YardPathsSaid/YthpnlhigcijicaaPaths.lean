/- YardPaths. -/
import Derived.Test.YthpnlhigcijicaaAwake
import Derived.Test.YthpnlhigcijicaaRpath
import Derived.ProofKit
import Derived.OpenShut
import Derived.ShutString
import Derived.ChangeOld
import Derived.Lib.SmallJoins
namespace Go.Proofs.Ythpnlhigcijicaa
set_option linter.unusedVariables false
open Go.RowKit Go.Shelf

set_option maxRecDepth 100000 in
set_option maxHeartbeats 4000000 in
theorem Quotients_no (p q : Int) (hv : validB p q = false) (w : World) :
    Calls Try.prog 37 #[.agg #[.int .i64 p, .int .i64 q]] w fun e w' => e = .returned (.tuple #[.slice none 0 0, .int .i64 2]) ∧ Below w.heap.size w w' := by
  have hV := fun w => isValid_any p q w
  rw [hv] at hV
  have HV := Lib.hid hV
  clear hV hv
  go_enter Try.func37, Try.ntmps37
  go_wp2_with fail
  refine (HV.out _).mono ?_
  rintro e w1 ⟨rfl, b1⟩
  have HB1 := Lib.hid (b_next (below_alloc w _) b1)
  clear b1
  go_wp2_with fail
  go_ret2
  exact ⟨rfl, HB1.out⟩

set_option maxRecDepth 100000 in
set_option maxHeartbeats 4000000 in
theorem Saw_no (p q : Int) (hv : (validB p q && decide (q ≤ 1000)) = false) (w : World) :
    Calls Try.prog 38 #[.agg #[.int .i64 p, .int .i64 q]] w fun e w' => e = .returned (.tuple #[.int .i64 0, .int .i64 0, .int .i64 2]) ∧ Below w.heap.size w w' := by
  have hV := fun w => isValid_any p q w
  cases h : validB p q with
  | false =>
    rw [h] at hV
    have HV := Lib.hid hV
    clear hV hv h
    go_enter Try.func38, Try.ntmps38
    go_wp2_with fail
    refine (HV.out _).mono ?_
    rintro e w1 ⟨rfl, b1⟩
    have HB1 := Lib.hid (b_next (below_alloc w _) b1)
    clear b1
    go_wp2_with fail
    go_ret3
    exact ⟨rfl, HB1.out⟩
  | true =>
    have hq : 1000 < q := by rw [h, Bool.true_and, decide_eq_false_iff_not] at hv; omega
    have hq2 : ¬ q ≤ 1000 := by omega
    rw [h] at hV
    have HV := Lib.hid hV
    clear hV hv h
    go_enter Try.func38, Try.ntmps38
    go_wp2_with fail
    refine (HV.out _).mono ?_
    rintro e w1 ⟨rfl, b1⟩
    obtain ⟨c0, c1⟩ := arg_below b1
    have HB1 := Lib.hid (b_next (below_alloc w _) b1)
    clear b1
    go_wp2_with fail
    go_ret3
    exact ⟨rfl, HB1.out⟩

set_option maxRecDepth 100000 in
set_option maxHeartbeats 4000000 in
theorem yp_no (a b : Int) (W : World) (h : validB a b = false) :
    Calls Try.prog 6 #[.agg #[.int .i64 a, .int .i64 b]] W fun e W' => e = .returned (.bool true) ∧ Below W.heap.size W W' := by
  have hP := fun w => Path_no a b (by rw [h]; rfl) w
  have hQ := fun w => Quotients_no a b h w
  have hS := fun w => Saw_no a b (by rw [h]; rfl) w
  have hV := fun w => refValid_any a b w
  rw [h] at hV
  have HP := Lib.hid hP
  have HQ := Lib.hid hQ
  have HS := Lib.hid hS
  have HV := Lib.hid hV
  have HW := Lib.hid awake_any
  clear hP hQ hS hV h
  go_enter Try.func6, Try.ntmps6
  go_wp2_with fail
  generalize hX : (W.alloc (.cells #[.int .i64 a, .int .i64 b] 26)) = X
  have A0 : Two X W.heap.size 26 a b ∧ Below W.heap.size W X := by rw [← hX]; exact ⟨Two.new W _ _ _, below_alloc W _⟩
  have HA0 := Lib.hid A0
  clear A0 hX
  refine (HP.out _).mono ?_
  rintro e w1 ⟨rfl, b1⟩
  have HA1 : Hid (Two w1 W.heap.size 26 a b ∧ Below W.heap.size W w1) := ⟨HA0.out.1.below b1, b_next HA0.out.2 b1⟩
  clear b1
  obtain ⟨x0, x1, _, _⟩ := HA1.out.1.cells
  have hk1 := HA1.out.1.lt
  go_wp2_with fail
  refine (HQ.out _).mono ?_
  rintro e w2 ⟨rfl, b2⟩
  have HA2 : Hid (Two w2 W.heap.size 26 a b ∧ Below W.heap.size W w2) := ⟨HA1.out.1.below b2, b_next HA1.out.2 b2⟩
  clear b2
  obtain ⟨x0, x1, _, _⟩ := HA2.out.1.cells
  have hk2 := HA2.out.1.lt
  go_wp2_with fail
  refine (HS.out _).mono ?_
  rintro e w3 ⟨rfl, b3⟩
  have HA3 : Hid (Two w3 W.heap.size 26 a b ∧ Below W.heap.size W w3) := ⟨HA2.out.1.below b3, b_next HA2.out.2 b3⟩
  clear b3
  obtain ⟨x0, x1, _, _⟩ := HA3.out.1.cells
  have hk3 := HA3.out.1.lt
  go_wp2_with fail
  refine (HV.out _).mono ?_
  rintro e w4 ⟨rfl, b4⟩
  have HA4 : Hid (Two w4 W.heap.size 26 a b ∧ Below W.heap.size W w4) := ⟨HA3.out.1.below b4, b_next HA3.out.2 b4⟩
  clear b4
  obtain ⟨x0, x1, _, _⟩ := HA4.out.1.cells
  have hk4 := HA4.out.1.lt
  go_wp2_with fail
  refine (HW.out _).mono ?_
  rintro e w5 ⟨rfl, b5⟩
  have HA5 : Hid (Two w5 W.heap.size 26 a b ∧ Below W.heap.size W w5) := ⟨HA4.out.1.below b5, b_next HA4.out.2 b5⟩
  clear b5
  obtain ⟨x0, x1, _, _⟩ := HA5.out.1.cells
  have hk5 := HA5.out.1.lt
  go_wp2_with fail
  go_ret
  exact ⟨rfl, HA5.out.2⟩

set_option maxRecDepth 100000 in
set_option maxHeartbeats 4000000 in
theorem yp_a (a b : Nat) (W : World) (hv : validB a b = true) (hk : b ≤ 1000) (hb : b = 1) :
    Calls Try.prog 6 #[.agg #[.int .i64 a, .int .i64 b]] W fun e W' => e = .returned (.bool true) ∧ Below W.heap.size W W' := by
  have hQ := fun w => Quotients_yes a b hv w
  have hV := fun w => refValid_any a b w
  rw [hv] at hV
  obtain ⟨a', b', e1, e2, k1, k2, k3, k4⟩ := valid_nat hv
  have m1 : b ≤ 1000000 := by omega
  have m2 : a ≤ b := by omega
  have m3 : 1 ≤ b := by omega
  have hg : Nat.gcd a b = 1 := by
    obtain rfl : a = a' := by omega
    obtain rfl : b = b' := by omega
    exact k4
  clear e1 e2 k1 k2 k3 k4
  have hl := quo_len40 m2 m1
  have hR := fun w => refQuotients_any a b m1 m2 w
  obtain ⟨L, hL⟩ : ∃ L, quoI b a = L := ⟨_, rfl⟩
  have hll : (quo b a).length = L.length := by rw [← hL]; unfold quoI; rw [natI_length]
  rw [hL, hll] at hQ hR
  rw [hll] at hl
  have hI := fun W x y c d (h1 : Row W x L.length (intL L)) (h2 : Row W y L.length (intL L)) => ints_any x y L.length L.length c d L L W h1 h2 (by omega) (by omega)
  rw [decide_eq_true rfl] at hI
  unfold frV at hQ hR
  have HQ := Lib.hid hQ
  have HR := Lib.hid hR
  have HI := Lib.hid hI
  have HV := Lib.hid hV
  have HW := Lib.hid awake_any
  have HG := Lib.hid hg
  clear hQ hR hI hV hg hL hll
  have hS := fun w => Saw_yes a b hv hk w
  have hT := fun w => refSaw_any a b m3 hk m2 w
  obtain ⟨sx, sy, hsv⟩ : ∃ x y, sawV a b = (x, y) := ⟨_, _, rfl⟩
  rw [hsv] at hS hT
  unfold frV at hS hT
  have HS := Lib.hid hS
  have HT := Lib.hid hT
  have hkc : ¬ (1000 : Int) < b := by omega
  clear hS hT hsv
  have hP := fun w => Path_no a b (by rw [hv, show ((b : Int) == 1) = true from by rw [beq_iff_eq]; omega]; rfl) w
  have HP := Lib.hid hP
  have hbc : ((b : Int) == 1) = true := by rw [beq_iff_eq]; omega
  clear hP hb
  clear hv
  go_enter Try.func6, Try.ntmps6
  go_wp2_with fail
  generalize hX : (W.alloc (.cells #[.int .i64 a, .int .i64 b] 26)) = X
  have A0 : Two X W.heap.size 26 a b ∧ Below W.heap.size W X := by rw [← hX]; exact ⟨Two.new W _ _ _, below_alloc W _⟩
  have HA0 := Lib.hid A0
  clear A0 hX
  refine (HP.out _).mono ?_
  rintro e w1 ⟨rfl, b1⟩
  have HA1 : Hid (Two w1 W.heap.size 26 a b ∧ Below W.heap.size W w1) := ⟨HA0.out.1.below b1, b_next HA0.out.2 b1⟩
  clear b1
  obtain ⟨x0, x1, _, _⟩ := HA1.out.1.cells
  have hk1 := HA1.out.1.lt
  go_wp2_with fail
  refine (HQ.out _).mono ?_
  rintro e w2 ⟨v, rfl, hown, b2⟩
  have HA2 : Hid (Two w2 W.heap.size 26 a b ∧ Below W.heap.size W w2) := ⟨HA1.out.1.below b2, b_next HA1.out.2 b2⟩
  obtain ⟨ad, cap, rfl, hR2⟩ := Row.of_own hown
  have HO2 := Lib.hid hR2
  clear hown hR2
  clear b2
  obtain ⟨x0, x1, _, _⟩ := HA2.out.1.cells
  have hk2 := HA2.out.1.lt
  go_wp2_with fail
  refine (HS.out _).mono ?_
  rintro e w3 ⟨rfl, b3⟩
  have HA3 : Hid (Two w3 W.heap.size 26 a b ∧ Below W.heap.size W w3) := ⟨HA2.out.1.below b3, b_next HA2.out.2 b3⟩
  have HO3 := Lib.hid (HO2.out.below b3)
  clear b3
  obtain ⟨x0, x1, _, _⟩ := HA3.out.1.cells
  have hk3 := HA3.out.1.lt
  go_wp2_with fail
  refine (HV.out _).mono ?_
  rintro e w4 ⟨rfl, b4⟩
  have HA4 : Hid (Two w4 W.heap.size 26 a b ∧ Below W.heap.size W w4) := ⟨HA3.out.1.below b4, b_next HA3.out.2 b4⟩
  have HO4 := Lib.hid (HO3.out.below b4)
  clear b4
  obtain ⟨x0, x1, _, _⟩ := HA4.out.1.cells
  have hk4 := HA4.out.1.lt
  go_wp2_with fail
  refine (HR.out _).mono ?_
  rintro e w5 ⟨v5, rfl, hown, b5⟩
  have HA5 : Hid (Two w5 W.heap.size 26 a b ∧ Below W.heap.size W w5) := ⟨HA4.out.1.below b5, b_next HA4.out.2 b5⟩
  have HO5 := Lib.hid (HO4.out.below b5)
  obtain ⟨ad5, cap5, rfl, hR5⟩ := Row.of_own hown
  have HN5 := Lib.hid hR5
  clear hown hR5
  clear b5
  obtain ⟨x0, x1, _, _⟩ := HA5.out.1.cells
  have hk5 := HA5.out.1.lt
  go_wp2_with fail
  refine (HI.out _ _ _ cap cap5 HO5.out HN5.out).mono ?_
  rintro e w6 ⟨rfl, n6, rfl⟩
  have HA6 : Hid (Two (w5.drewN n6) W.heap.size 26 a b ∧ Below W.heap.size W (w5.drewN n6)) := ⟨HA5.out.1, below_drewN HA5.out.2 _⟩
  obtain ⟨x0, x1, _, _⟩ := HA6.out.1.cells
  generalize w5.drewN n6 = w6 at *
  go_wp2_with fail
  refine (HT.out _).mono ?_
  rintro e w7 ⟨rfl, b7⟩
  have HA7 : Hid (Two w7 W.heap.size 26 a b ∧ Below W.heap.size W w7) := ⟨HA6.out.1.below b7, b_next HA6.out.2 b7⟩
  clear b7
  obtain ⟨x0, x1, _, _⟩ := HA7.out.1.cells
  have hk7 := HA7.out.1.lt
  go_wp2_with fail
  refine (HW.out _).mono ?_
  rintro e w8 ⟨rfl, b8⟩
  have HA8 : Hid (Two w8 W.heap.size 26 a b ∧ Below W.heap.size W w8) := ⟨HA7.out.1.below b8, b_next HA7.out.2 b8⟩
  clear b8
  obtain ⟨x0, x1, _, _⟩ := HA8.out.1.cells
  have hk8 := HA8.out.1.lt
  go_wp2_with fail
  go_ret
  exact ⟨rfl, HA8.out.2⟩

set_option maxRecDepth 100000 in
set_option maxHeartbeats 4000000 in
theorem yp_c (a b : Nat) (W : World) (hv : validB a b = true) (hk : b ≤ 1000) (hb : 2 ≤ b) :
    Calls Try.prog 6 #[.agg #[.int .i64 a, .int .i64 b]] W fun e W' => e = .returned (.bool true) ∧ Below W.heap.size W W' := by
  have hQ := fun w => Quotients_yes a b hv w
  have hV := fun w => refValid_any a b w
  rw [hv] at hV
  obtain ⟨a', b', e1, e2, k1, k2, k3, k4⟩ := valid_nat hv
  have m1 : b ≤ 1000000 := by omega
  have m2 : a ≤ b := by omega
  have m3 : 1 ≤ b := by omega
  have hg : Nat.gcd a b = 1 := by
    obtain rfl : a = a' := by omega
    obtain rfl : b = b' := by omega
    exact k4
  clear e1 e2 k1 k2 k3 k4
  have hl := quo_len40 m2 m1
  have hR := fun w => refQuotients_any a b m1 m2 w
  obtain ⟨L, hL⟩ : ∃ L, quoI b a = L := ⟨_, rfl⟩
  have hll : (quo b a).length = L.length := by rw [← hL]; unfold quoI; rw [natI_length]
  rw [hL, hll] at hQ hR
  rw [hll] at hl
  have hI := fun W x y c d (h1 : Row W x L.length (intL L)) (h2 : Row W y L.length (intL L)) => ints_any x y L.length L.length c d L L W h1 h2 (by omega) (by omega)
  rw [decide_eq_true rfl] at hI
  unfold frV at hQ hR
  have HQ := Lib.hid hQ
  have HR := Lib.hid hR
  have HI := Lib.hid hI
  have HV := Lib.hid hV
  have HW := Lib.hid awake_any
  have HG := Lib.hid hg
  clear hQ hR hI hV hg hL hll
  have hS := fun w => Saw_yes a b hv hk w
  have hT := fun w => refSaw_any a b m3 hk m2 w
  obtain ⟨sx, sy, hsv⟩ : ∃ x y, sawV a b = (x, y) := ⟨_, _, rfl⟩
  rw [hsv] at hS hT
  unfold frV at hS hT
  have HS := Lib.hid hS
  have HT := Lib.hid hT
  have hkc : ¬ (1000 : Int) < b := by omega
  clear hS hT hsv
  have hp1 : 1 ≤ a := by
    rcases Nat.eq_zero_or_pos a with e | e
    · have := HG.out; rw [e, Nat.gcd_zero_left] at this; omega
    · exact e
  have hpq : a < b := by
    rcases Nat.lt_or_eq_of_le m2 with e | e
    · exact e
    · have := HG.out; rw [e, Nat.gcd_self] at this; omega
  have hP := fun w => Path_yes a b hv hb w
  have hF := fun w => refPath_any a b hp1 hpq m1 HG.out w
  have hbc : ((b : Int) == 1) = false := by rw [beq_eq_false_iff_ne]; omega
  by_cases hlen : (pth (b - a) a).length ≤ 200
  · rw [show pthR a b = (⟨(pth (b - a) a).toArray⟩, 0) from by unfold pthR; rw [if_pos hlen]] at hP
    rw [show pthB a b = (⟨(pth (b - a) a).toArray⟩, true) from by unfold pthB; rw [if_pos hlen]] at hF
    generalize (⟨(pth (b - a) a).toArray⟩ : ByteArray) = s at hP hF
    unfold frV at hP hF
    have HP := Lib.hid hP
    have HF := Lib.hid hF
    clear hP hF hlen
    go_enter Try.func6, Try.ntmps6
    go_wp2_with fail
    generalize hX : (W.alloc (.cells #[.int .i64 a, .int .i64 b] 26)) = X
    have A0 : Two X W.heap.size 26 a b ∧ Below W.heap.size W X := by rw [← hX]; exact ⟨Two.new W _ _ _, below_alloc W _⟩
    have HA0 := Lib.hid A0
    clear A0 hX
    refine (HP.out _).mono ?_
    rintro e w1 ⟨rfl, b1⟩
    have HA1 : Hid (Two w1 W.heap.size 26 a b ∧ Below W.heap.size W w1) := ⟨HA0.out.1.below b1, b_next HA0.out.2 b1⟩
    clear b1
    obtain ⟨x0, x1, _, _⟩ := HA1.out.1.cells
    have hk1 := HA1.out.1.lt
    go_wp2_with fail
    refine (HQ.out _).mono ?_
    rintro e w2 ⟨v, rfl, hown, b2⟩
    have HA2 : Hid (Two w2 W.heap.size 26 a b ∧ Below W.heap.size W w2) := ⟨HA1.out.1.below b2, b_next HA1.out.2 b2⟩
    obtain ⟨ad, cap, rfl, hR2⟩ := Row.of_own hown
    have HO2 := Lib.hid hR2
    clear hown hR2
    clear b2
    obtain ⟨x0, x1, _, _⟩ := HA2.out.1.cells
    have hk2 := HA2.out.1.lt
    go_wp2_with fail
    refine (HS.out _).mono ?_
    rintro e w3 ⟨rfl, b3⟩
    have HA3 : Hid (Two w3 W.heap.size 26 a b ∧ Below W.heap.size W w3) := ⟨HA2.out.1.below b3, b_next HA2.out.2 b3⟩
    have HO3 := Lib.hid (HO2.out.below b3)
    clear b3
    obtain ⟨x0, x1, _, _⟩ := HA3.out.1.cells
    have hk3 := HA3.out.1.lt
    go_wp2_with fail
    refine (HV.out _).mono ?_
    rintro e w4 ⟨rfl, b4⟩
    have HA4 : Hid (Two w4 W.heap.size 26 a b ∧ Below W.heap.size W w4) := ⟨HA3.out.1.below b4, b_next HA3.out.2 b4⟩
    have HO4 := Lib.hid (HO3.out.below b4)
    clear b4
    obtain ⟨x0, x1, _, _⟩ := HA4.out.1.cells
    have hk4 := HA4.out.1.lt
    go_wp2_with fail
    refine (HR.out _).mono ?_
    rintro e w5 ⟨v5, rfl, hown, b5⟩
    have HA5 : Hid (Two w5 W.heap.size 26 a b ∧ Below W.heap.size W w5) := ⟨HA4.out.1.below b5, b_next HA4.out.2 b5⟩
    have HO5 := Lib.hid (HO4.out.below b5)
    obtain ⟨ad5, cap5, rfl, hR5⟩ := Row.of_own hown
    have HN5 := Lib.hid hR5
    clear hown hR5
    clear b5
    obtain ⟨x0, x1, _, _⟩ := HA5.out.1.cells
    have hk5 := HA5.out.1.lt
    go_wp2_with fail
    refine (HI.out _ _ _ cap cap5 HO5.out HN5.out).mono ?_
    rintro e w6 ⟨rfl, n6, rfl⟩
    have HA6 : Hid (Two (w5.drewN n6) W.heap.size 26 a b ∧ Below W.heap.size W (w5.drewN n6)) := ⟨HA5.out.1, below_drewN HA5.out.2 _⟩
    obtain ⟨x0, x1, _, _⟩ := HA6.out.1.cells
    generalize w5.drewN n6 = w6 at *
    go_wp2_with fail
    refine (HT.out _).mono ?_
    rintro e w7 ⟨rfl, b7⟩
    have HA7 : Hid (Two w7 W.heap.size 26 a b ∧ Below W.heap.size W w7) := ⟨HA6.out.1.below b7, b_next HA6.out.2 b7⟩
    clear b7
    obtain ⟨x0, x1, _, _⟩ := HA7.out.1.cells
    have hk7 := HA7.out.1.lt
    go_wp2_with fail
    refine (HF.out _).mono ?_
    rintro e w8 ⟨rfl, b8⟩
    have HA8 : Hid (Two w8 W.heap.size 26 a b ∧ Below W.heap.size W w8) := ⟨HA7.out.1.below b8, b_next HA7.out.2 b8⟩
    clear b8
    obtain ⟨x0, x1, _, _⟩ := HA8.out.1.cells
    have hk8 := HA8.out.1.lt
    go_wp2_with fail
    refine (HW.out _).mono ?_
    rintro e w9 ⟨rfl, b9⟩
    have HA9 : Hid (Two w9 W.heap.size 26 a b ∧ Below W.heap.size W w9) := ⟨HA8.out.1.below b9, b_next HA8.out.2 b9⟩
    clear b9
    obtain ⟨x0, x1, _, _⟩ := HA9.out.1.cells
    have hk9 := HA9.out.1.lt
    go_wp2_with fail
    go_ret
    exact ⟨rfl, HA9.out.2⟩
  · rw [show pthR a b = (ByteArray.empty, 5) from by unfold pthR; rw [if_neg hlen]] at hP
    rw [show pthB a b = (ByteArray.empty, false) from by unfold pthB; rw [if_neg hlen]] at hF
    unfold frV at hP hF
    have HP := Lib.hid hP
    have HF := Lib.hid hF
    clear hP hF hlen
    go_enter Try.func6, Try.ntmps6
    go_wp2_with fail
    generalize hX : (W.alloc (.cells #[.int .i64 a, .int .i64 b] 26)) = X
    have A0 : Two X W.heap.size 26 a b ∧ Below W.heap.size W X := by rw [← hX]; exact ⟨Two.new W _ _ _, below_alloc W _⟩
    have HA0 := Lib.hid A0
    clear A0 hX
    refine (HP.out _).mono ?_
    rintro e w1 ⟨rfl, b1⟩
    have HA1 : Hid (Two w1 W.heap.size 26 a b ∧ Below W.heap.size W w1) := ⟨HA0.out.1.below b1, b_next HA0.out.2 b1⟩
    clear b1
    obtain ⟨x0, x1, _, _⟩ := HA1.out.1.cells
    have hk1 := HA1.out.1.lt
    go_wp2_with fail
    refine (HQ.out _).mono ?_
    rintro e w2 ⟨v, rfl, hown, b2⟩
    have HA2 : Hid (Two w2 W.heap.size 26 a b ∧ Below W.heap.size W w2) := ⟨HA1.out.1.below b2, b_next HA1.out.2 b2⟩
    obtain ⟨ad, cap, rfl, hR2⟩ := Row.of_own hown
    have HO2 := Lib.hid hR2
    clear hown hR2
    clear b2
    obtain ⟨x0, x1, _, _⟩ := HA2.out.1.cells
    have hk2 := HA2.out.1.lt
    go_wp2_with fail
    refine (HS.out _).mono ?_
    rintro e w3 ⟨rfl, b3⟩
    have HA3 : Hid (Two w3 W.heap.size 26 a b ∧ Below W.heap.size W w3) := ⟨HA2.out.1.below b3, b_next HA2.out.2 b3⟩
    have HO3 := Lib.hid (HO2.out.below b3)
    clear b3
    obtain ⟨x0, x1, _, _⟩ := HA3.out.1.cells
    have hk3 := HA3.out.1.lt
    go_wp2_with fail
    refine (HV.out _).mono ?_
    rintro e w4 ⟨rfl, b4⟩
    have HA4 : Hid (Two w4 W.heap.size 26 a b ∧ Below W.heap.size W w4) := ⟨HA3.out.1.below b4, b_next HA3.out.2 b4⟩
    have HO4 := Lib.hid (HO3.out.below b4)
    clear b4
    obtain ⟨x0, x1, _, _⟩ := HA4.out.1.cells
    have hk4 := HA4.out.1.lt
    go_wp2_with fail
    refine (HR.out _).mono ?_
    rintro e w5 ⟨v5, rfl, hown, b5⟩
    have HA5 : Hid (Two w5 W.heap.size 26 a b ∧ Below W.heap.size W w5) := ⟨HA4.out.1.below b5, b_next HA4.out.2 b5⟩
    have HO5 := Lib.hid (HO4.out.below b5)
    obtain ⟨ad5, cap5, rfl, hR5⟩ := Row.of_own hown
    have HN5 := Lib.hid hR5
    clear hown hR5
    clear b5
    obtain ⟨x0, x1, _, _⟩ := HA5.out.1.cells
    have hk5 := HA5.out.1.lt
    go_wp2_with fail
    refine (HI.out _ _ _ cap cap5 HO5.out HN5.out).mono ?_
    rintro e w6 ⟨rfl, n6, rfl⟩
    have HA6 : Hid (Two (w5.drewN n6) W.heap.size 26 a b ∧ Below W.heap.size W (w5.drewN n6)) := ⟨HA5.out.1, below_drewN HA5.out.2 _⟩
    obtain ⟨x0, x1, _, _⟩ := HA6.out.1.cells
    generalize w5.drewN n6 = w6 at *
    go_wp2_with fail
    refine (HT.out _).mono ?_
    rintro e w7 ⟨rfl, b7⟩
    have HA7 : Hid (Two w7 W.heap.size 26 a b ∧ Below W.heap.size W w7) := ⟨HA6.out.1.below b7, b_next HA6.out.2 b7⟩
    clear b7
    obtain ⟨x0, x1, _, _⟩ := HA7.out.1.cells
    have hk7 := HA7.out.1.lt
    go_wp2_with fail
    refine (HF.out _).mono ?_
    rintro e w8 ⟨rfl, b8⟩
    have HA8 : Hid (Two w8 W.heap.size 26 a b ∧ Below W.heap.size W w8) := ⟨HA7.out.1.below b8, b_next HA7.out.2 b8⟩
    clear b8
    obtain ⟨x0, x1, _, _⟩ := HA8.out.1.cells
    have hk8 := HA8.out.1.lt
    go_wp2_with fail
    refine (HW.out _).mono ?_
    rintro e w9 ⟨rfl, b9⟩
    have HA9 : Hid (Two w9 W.heap.size 26 a b ∧ Below W.heap.size W w9) := ⟨HA8.out.1.below b9, b_next HA8.out.2 b9⟩
    clear b9
    obtain ⟨x0, x1, _, _⟩ := HA9.out.1.cells
    have hk9 := HA9.out.1.lt
    go_wp2_with fail
    go_ret
    exact ⟨rfl, HA9.out.2⟩

set_option maxRecDepth 100000 in
set_option maxHeartbeats 4000000 in
theorem yp_d (a b : Nat) (W : World) (hv : validB a b = true) (hk : 1000 < b) (hb : 2 ≤ b) :
    Calls Try.prog 6 #[.agg #[.int .i64 a, .int .i64 b]] W fun e W' => e = .returned (.bool true) ∧ Below W.heap.size W W' := by
  have hQ := fun w => Quotients_yes a b hv w
  have hV := fun w => refValid_any a b w
  rw [hv] at hV
  obtain ⟨a', b', e1, e2, k1, k2, k3, k4⟩ := valid_nat hv
  have m1 : b ≤ 1000000 := by omega
  have m2 : a ≤ b := by omega
  have m3 : 1 ≤ b := by omega
  have hg : Nat.gcd a b = 1 := by
    obtain rfl : a = a' := by omega
    obtain rfl : b = b' := by omega
    exact k4
  clear e1 e2 k1 k2 k3 k4
  have hl := quo_len40 m2 m1
  have hR := fun w => refQuotients_any a b m1 m2 w
  obtain ⟨L, hL⟩ : ∃ L, quoI b a = L := ⟨_, rfl⟩
  have hll : (quo b a).length = L.length := by rw [← hL]; unfold quoI; rw [natI_length]
  rw [hL, hll] at hQ hR
  rw [hll] at hl
  have hI := fun W x y c d (h1 : Row W x L.length (intL L)) (h2 : Row W y L.length (intL L)) => ints_any x y L.length L.length c d L L W h1 h2 (by omega) (by omega)
  rw [decide_eq_true rfl] at hI
  unfold frV at hQ hR
  have HQ := Lib.hid hQ
  have HR := Lib.hid hR
  have HI := Lib.hid hI
  have HV := Lib.hid hV
  have HW := Lib.hid awake_any
  have HG := Lib.hid hg
  clear hQ hR hI hV hg hL hll
  have hS := fun w => Saw_no a b (by rw [hv, Bool.true_and]; exact decide_eq_false (by omega)) w
  have HS := Lib.hid hS
  have hkc : (1000 : Int) < b := by omega
  clear hS
  have hp1 : 1 ≤ a := by
    rcases Nat.eq_zero_or_pos a with e | e
    · have := HG.out; rw [e, Nat.gcd_zero_left] at this; omega
    · exact e
  have hpq : a < b := by
    rcases Nat.lt_or_eq_of_le m2 with e | e
    · exact e
    · have := HG.out; rw [e, Nat.gcd_self] at this; omega
  have hP := fun w => Path_yes a b hv hb w
  have hF := fun w => refPath_any a b hp1 hpq m1 HG.out w
  have hbc : ((b : Int) == 1) = false := by rw [beq_eq_false_iff_ne]; omega
  by_cases hlen : (pth (b - a) a).length ≤ 200
  · rw [show pthR a b = (⟨(pth (b - a) a).toArray⟩, 0) from by unfold pthR; rw [if_pos hlen]] at hP
    rw [show pthB a b = (⟨(pth (b - a) a).toArray⟩, true) from by unfold pthB; rw [if_pos hlen]] at hF
    generalize (⟨(pth (b - a) a).toArray⟩ : ByteArray) = s at hP hF
    unfold frV at hP hF
    have HP := Lib.hid hP
    have HF := Lib.hid hF
    clear hP hF hlen
    go_enter Try.func6, Try.ntmps6
    go_wp2_with fail
    generalize hX : (W.alloc (.cells #[.int .i64 a, .int .i64 b] 26)) = X
    have A0 : Two X W.heap.size 26 a b ∧ Below W.heap.size W X := by rw [← hX]; exact ⟨Two.new W _ _ _, below_alloc W _⟩
    have HA0 := Lib.hid A0
    clear A0 hX
    refine (HP.out _).mono ?_
    rintro e w1 ⟨rfl, b1⟩
    have HA1 : Hid (Two w1 W.heap.size 26 a b ∧ Below W.heap.size W w1) := ⟨HA0.out.1.below b1, b_next HA0.out.2 b1⟩
    clear b1
    obtain ⟨x0, x1, _, _⟩ := HA1.out.1.cells
    have hk1 := HA1.out.1.lt
    go_wp2_with fail
    refine (HQ.out _).mono ?_
    rintro e w2 ⟨v, rfl, hown, b2⟩
    have HA2 : Hid (Two w2 W.heap.size 26 a b ∧ Below W.heap.size W w2) := ⟨HA1.out.1.below b2, b_next HA1.out.2 b2⟩
    obtain ⟨ad, cap, rfl, hR2⟩ := Row.of_own hown
    have HO2 := Lib.hid hR2
    clear hown hR2
    clear b2
    obtain ⟨x0, x1, _, _⟩ := HA2.out.1.cells
    have hk2 := HA2.out.1.lt
    go_wp2_with fail
    refine (HS.out _).mono ?_
    rintro e w3 ⟨rfl, b3⟩
    have HA3 : Hid (Two w3 W.heap.size 26 a b ∧ Below W.heap.size W w3) := ⟨HA2.out.1.below b3, b_next HA2.out.2 b3⟩
    have HO3 := Lib.hid (HO2.out.below b3)
    clear b3
    obtain ⟨x0, x1, _, _⟩ := HA3.out.1.cells
    have hk3 := HA3.out.1.lt
    go_wp2_with fail
    refine (HV.out _).mono ?_
    rintro e w4 ⟨rfl, b4⟩
    have HA4 : Hid (Two w4 W.heap.size 26 a b ∧ Below W.heap.size W w4) := ⟨HA3.out.1.below b4, b_next HA3.out.2 b4⟩
    have HO4 := Lib.hid (HO3.out.below b4)
    clear b4
    obtain ⟨x0, x1, _, _⟩ := HA4.out.1.cells
    have hk4 := HA4.out.1.lt
    go_wp2_with fail
    refine (HR.out _).mono ?_
    rintro e w5 ⟨v5, rfl, hown, b5⟩
    have HA5 : Hid (Two w5 W.heap.size 26 a b ∧ Below W.heap.size W w5) := ⟨HA4.out.1.below b5, b_next HA4.out.2 b5⟩
    have HO5 := Lib.hid (HO4.out.below b5)
    obtain ⟨ad5, cap5, rfl, hR5⟩ := Row.of_own hown
    have HN5 := Lib.hid hR5
    clear hown hR5
    clear b5
    obtain ⟨x0, x1, _, _⟩ := HA5.out.1.cells
    have hk5 := HA5.out.1.lt
    go_wp2_with fail
    refine (HI.out _ _ _ cap cap5 HO5.out HN5.out).mono ?_
    rintro e w6 ⟨rfl, n6, rfl⟩
    have HA6 : Hid (Two (w5.drewN n6) W.heap.size 26 a b ∧ Below W.heap.size W (w5.drewN n6)) := ⟨HA5.out.1, below_drewN HA5.out.2 _⟩
    obtain ⟨x0, x1, _, _⟩ := HA6.out.1.cells
    generalize w5.drewN n6 = w6 at *
    go_wp2_with fail
    refine (HF.out _).mono ?_
    rintro e w7 ⟨rfl, b7⟩
    have HA7 : Hid (Two w7 W.heap.size 26 a b ∧ Below W.heap.size W w7) := ⟨HA6.out.1.below b7, b_next HA6.out.2 b7⟩
    clear b7
    obtain ⟨x0, x1, _, _⟩ := HA7.out.1.cells
    have hk7 := HA7.out.1.lt
    go_wp2_with fail
    refine (HW.out _).mono ?_
    rintro e w8 ⟨rfl, b8⟩
    have HA8 : Hid (Two w8 W.heap.size 26 a b ∧ Below W.heap.size W w8) := ⟨HA7.out.1.below b8, b_next HA7.out.2 b8⟩
    clear b8
    obtain ⟨x0, x1, _, _⟩ := HA8.out.1.cells
    have hk8 := HA8.out.1.lt
    go_wp2_with fail
    go_ret
    exact ⟨rfl, HA8.out.2⟩
  · rw [show pthR a b = (ByteArray.empty, 5) from by unfold pthR; rw [if_neg hlen]] at hP
    rw [show pthB a b = (ByteArray.empty, false) from by unfold pthB; rw [if_neg hlen]] at hF
    unfold frV at hP hF
    have HP := Lib.hid hP
    have HF := Lib.hid hF
    clear hP hF hlen
    go_enter Try.func6, Try.ntmps6
    go_wp2_with fail
    generalize hX : (W.alloc (.cells #[.int .i64 a, .int .i64 b] 26)) = X
    have A0 : Two X W.heap.size 26 a b ∧ Below W.heap.size W X := by rw [← hX]; exact ⟨Two.new W _ _ _, below_alloc W _⟩
    have HA0 := Lib.hid A0
    clear A0 hX
    refine (HP.out _).mono ?_
    rintro e w1 ⟨rfl, b1⟩
    have HA1 : Hid (Two w1 W.heap.size 26 a b ∧ Below W.heap.size W w1) := ⟨HA0.out.1.below b1, b_next HA0.out.2 b1⟩
    clear b1
    obtain ⟨x0, x1, _, _⟩ := HA1.out.1.cells
    have hk1 := HA1.out.1.lt
    go_wp2_with fail
    refine (HQ.out _).mono ?_
    rintro e w2 ⟨v, rfl, hown, b2⟩
    have HA2 : Hid (Two w2 W.heap.size 26 a b ∧ Below W.heap.size W w2) := ⟨HA1.out.1.below b2, b_next HA1.out.2 b2⟩
    obtain ⟨ad, cap, rfl, hR2⟩ := Row.of_own hown
    have HO2 := Lib.hid hR2
    clear hown hR2
    clear b2
    obtain ⟨x0, x1, _, _⟩ := HA2.out.1.cells
    have hk2 := HA2.out.1.lt
    go_wp2_with fail
    refine (HS.out _).mono ?_
    rintro e w3 ⟨rfl, b3⟩
    have HA3 : Hid (Two w3 W.heap.size 26 a b ∧ Below W.heap.size W w3) := ⟨HA2.out.1.below b3, b_next HA2.out.2 b3⟩
    have HO3 := Lib.hid (HO2.out.below b3)
    clear b3
    obtain ⟨x0, x1, _, _⟩ := HA3.out.1.cells
    have hk3 := HA3.out.1.lt
    go_wp2_with fail
    refine (HV.out _).mono ?_
    rintro e w4 ⟨rfl, b4⟩
    have HA4 : Hid (Two w4 W.heap.size 26 a b ∧ Below W.heap.size W w4) := ⟨HA3.out.1.below b4, b_next HA3.out.2 b4⟩
    have HO4 := Lib.hid (HO3.out.below b4)
    clear b4
    obtain ⟨x0, x1, _, _⟩ := HA4.out.1.cells
    have hk4 := HA4.out.1.lt
    go_wp2_with fail
    refine (HR.out _).mono ?_
    rintro e w5 ⟨v5, rfl, hown, b5⟩
    have HA5 : Hid (Two w5 W.heap.size 26 a b ∧ Below W.heap.size W w5) := ⟨HA4.out.1.below b5, b_next HA4.out.2 b5⟩
    have HO5 := Lib.hid (HO4.out.below b5)
    obtain ⟨ad5, cap5, rfl, hR5⟩ := Row.of_own hown
    have HN5 := Lib.hid hR5
    clear hown hR5
    clear b5
    obtain ⟨x0, x1, _, _⟩ := HA5.out.1.cells
    have hk5 := HA5.out.1.lt
    go_wp2_with fail
    refine (HI.out _ _ _ cap cap5 HO5.out HN5.out).mono ?_
    rintro e w6 ⟨rfl, n6, rfl⟩
    have HA6 : Hid (Two (w5.drewN n6) W.heap.size 26 a b ∧ Below W.heap.size W (w5.drewN n6)) := ⟨HA5.out.1, below_drewN HA5.out.2 _⟩
    obtain ⟨x0, x1, _, _⟩ := HA6.out.1.cells
    generalize w5.drewN n6 = w6 at *
    go_wp2_with fail
    refine (HF.out _).mono ?_
    rintro e w7 ⟨rfl, b7⟩
    have HA7 : Hid (Two w7 W.heap.size 26 a b ∧ Below W.heap.size W w7) := ⟨HA6.out.1.below b7, b_next HA6.out.2 b7⟩
    clear b7
    obtain ⟨x0, x1, _, _⟩ := HA7.out.1.cells
    have hk7 := HA7.out.1.lt
    go_wp2_with fail
    refine (HW.out _).mono ?_
    rintro e w8 ⟨rfl, b8⟩
    have HA8 : Hid (Two w8 W.heap.size 26 a b ∧ Below W.heap.size W w8) := ⟨HA7.out.1.below b8, b_next HA7.out.2 b8⟩
    clear b8
    obtain ⟨x0, x1, _, _⟩ := HA8.out.1.cells
    have hk8 := HA8.out.1.lt
    go_wp2_with fail
    go_ret
    exact ⟨rfl, HA8.out.2⟩

theorem walk_YardPaths (a b : Int) (_ : (Lit.int .i64 a).wf = true) (_ : (Lit.int .i64 b).wf = true) (W : World) :
    Calls Try.prog 6 #[.agg #[.int .i64 a, .int .i64 b]] W fun e W' => e = .returned (.bool true) ∧ Below W.heap.size W W' := by
  cases h : validB a b with
  | false => exact yp_no a b W h
  | true =>
    obtain ⟨p, q, rfl, rfl, h1, _⟩ := valid_nat h
    rcases Nat.lt_or_ge 1000 q with hk | hk
    · exact yp_d p q W h hk (by omega)
    · rcases Nat.lt_or_ge q 2 with hb | hb
      · exact yp_a p q W h hk (by omega)
      · exact yp_c p q W h hk hb


namespace lawYardPaths
open Go.ChangeShapes Go.WideShapes Go.ChangeAt Go.RowKit
open Go.ChangeMaps (open_string shut_string)

theorem own : ownKnob Try.prog.godebug = none := by kernel_rfl
theorem lay : laidOutB Try.prog = true := by kernel_rfl

set_option maxRecDepth 100000 in
theorem lifted (os : Os) (started : os.Started) (H : Type) (enc : TypeId × Value → H) :
    ReturnsInHanded {} Try.checked os 6 .any (Rows.yardPathsSpec.pre6 enc Try.prog Try.f6 Rows.yardPathsRow.domain false) (Rows.yardPathsSpec.post enc Try.prog Try.f6 false true false false) := by
  refine returnsInHanded_of_change (C := Try.checked) own started (by kernel_rfl) Try.func6
    (ChangeSpec.witness6 (enc := enc) (C := Try.checked) false ⟨#[], #[.agg #[.int .i64 0, .int .i64 0]], []⟩ 8 (by kernel_rfl) (by kernel_rfl) (by kernel_rfl) (by kernel_rfl)) ?_
  intro W base args ds gs before hval0 hW hcnd _
  have hval : ∀ (j : Nat) t v, Try.f6.params[j]? = some t → args[j]? = some v → Value.okWide Try.prog W .any base t v := hval0
  have hW' := hW
  obtain ⟨p, q, hA0, hV, rfl, hfz, hnd⟩ := hW
  have hA : DataW.TrodAll enc Try.prog W 0 (fun _ => true) true Try.f6.params.toList args.toList ds p := hA0
  rw [Try.params6] at hA hval
  obtain ⟨v0, vs0, d0, ds0, p0, q0, hargs, rfl, rfl, h0, r0⟩ := trodAll_cons hA
  obtain ⟨rfl, rfl, rfl⟩ := trodAll_nil r0
  obtain rfl : args = #[v0] := by cases args; simp_all
  obtain ⟨rfl, rfl⟩ := trodVars_none hV
  obtain ⟨c0, k0, y0, z0, m0, rfl, rfl, rfl, g0, l0⟩ := Joins.open_agg2 Try.underlying26 (by kernel_rfl) (by kernel_rfl) (hval 0 26 v0 rfl rfl) h0
  obtain ⟨a0, e0, rfl, w0⟩ := DataW.trod_int Try.underlying3 g0
  obtain ⟨b0, f0, rfl, x0⟩ := DataW.trod_int Try.underlying3 l0
  simp at e0 f0
  subst e0 f0
  simp only [List.append_nil] at hW'
  clear hA0 hval0
  refine (walk_YardPaths a0 b0 w0 x0 W).mono fun e W' ⟨he, bel⟩ => ?_
  subst he
  exact ⟨_, rfl, _, _, _, [], _, [], hW', trodAll_mk1 (shut_bool Try.underlying4 _), (trodAll_cons_mk (Joins.shut_agg2 (y0 := (.lit (.int .i64 a0), [])) (y1 := (.lit (.int .i64 b0), [])) Try.underlying26 (by kernel_rfl) (by kernel_rfl) (shut_int Try.underlying3 w0) (shut_int Try.underlying3 x0)) trodAll_mk0), rfl, bel.frame _, fun h => by cases h⟩

theorem over : Rows.yardPathsRow.holds Try.pinned (OpenSpec.ofChange Rows.yardPathsSpec) :=
  OpenClaim.holds_of_wide 6 Try.f6 rfl rfl rfl rfl rfl rfl rfl ⟨rfl, rfl, rfl, rfl, rfl⟩ rfl rfl rfl rfl rfl (by kernel_rfl) Try.func6 (by kernel_rfl)
    (of_decide_eq_true (by kernel_rfl)) (by unfold Func.isWrapper; first | (rw [if_pos (by decide +kernel)]; kernel_rfl) | (rw [if_neg (by decide +kernel)]; exact ⟨rfl, rfl⟩))
    (fun os started H enc _ => lifted os started H enc)

theorem proved : Rows.YardPathsSaid := over
end lawYardPaths
end Go.Proofs.Ythpnlhigcijicaa
