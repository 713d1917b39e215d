/- The walk of Afters. -/
import Derived.Test.YthmdlkaanjjbkaaRdv
import Derived.Test.YthmdlkaanjjbkaaOpa
namespace Go.Proofs.Ythmdlkaanjjbkaa
set_option linter.unusedVariables false
open Go.RowKit

theorem func_ref {m : Int} {n : Nat} {xs : List Int} (hm : modB m = true) (hx : xs.length = n) : (decide ((n : Int) = m) && remB m xs) = funcB m xs := by
  unfold funcB
  rw [hm, hx, Bool.true_and]
theorem poly_ref {m : Int} {n : Nat} {xs : List Int} (hm : modB m = true) (hx : xs.length = n) : (decide (n ≤ 12) && remB m xs) = polyB m xs := by
  unfold polyB
  rw [hm, hx, Bool.true_and]
theorem func_no {m : Int} (hm : modB m = false) (xs : List Int) : funcB m xs = false := by unfold funcB; rw [hm, Bool.false_and, Bool.false_and]
theorem poly_no {m : Int} (hm : modB m = false) (xs : List Int) : polyB m xs = false := by unfold polyB; rw [hm, Bool.false_and, Bool.false_and]
theorem funcB_parts {m : Int} {xs : List Int} (h : funcB m xs = true) : (xs.length : Int) = m ∧ ∀ x ∈ xs, 0 ≤ x ∧ x < m := by
  unfold funcB at h
  rw [Bool.and_eq_true, Bool.and_eq_true, decide_eq_true_eq] at h
  exact ⟨h.1.2, remB_in h.2⟩
theorem polyB_parts {m : Int} {xs : List Int} (h : polyB m xs = true) : xs.length ≤ 12 ∧ ∀ x ∈ xs, 0 ≤ x ∧ x < m := by
  unfold polyB at h
  rw [Bool.and_eq_true, Bool.and_eq_true, decide_eq_true_eq] at h
  exact ⟨h.1.2, remB_in h.2⟩
theorem box_four (w : World) (v0 v1 v2 v3 : Value) (t : TypeId) : Below w.heap.size w (w.alloc (.cells #[v0, v1, v2, v3] t)) ∧
    ∀ y, Below (w.alloc (.cells #[v0, v1, v2, v3] t)).heap.size (w.alloc (.cells #[v0, v1, v2, v3] t)) y → y.cell? ⟨w.heap.size, 0, none⟩ = some v0 ∧ y.cell? ⟨w.heap.size, 1, none⟩ = some v1 ∧ y.cell? ⟨w.heap.size, 2, none⟩ = some v2 ∧ y.cell? ⟨w.heap.size, 3, none⟩ = some v3 := by
  refine ⟨below_alloc _ _, fun y hy => ?_⟩
  have k := (hy.block w.heap.size (by simp)).trans (World.alloc_heap_new w (.cells #[v0, v1, v2, v3] t))
  exact ⟨by simp [World.cell?, k], by simp [World.cell?, k], by simp [World.cell?, k], by simp [World.cell?, k]⟩
def LstC (v : Value) (xs : List Int) (n : Nat) (W : World) : Prop := Calls Try.prog 17 #[v] W fun e w' => ∃ r, e = .returned r ∧ w'.ownsRow W.heap.size 3 1 r n (intL xs) ∧ Below W.heap.size W w'
set_option maxRecDepth 100000 in
set_option maxHeartbeats 8000000 in
theorem afters_x (m : Int) (v0 v1 v2 v3 : Value) (A B P Q : List Int) (n0 n1 n2 n3 : Nat) (w : World) (hL0 : ∀ W, Below w.heap.size w W → LstC v0 A n0 W) (hL1 : ∀ W, Below w.heap.size w W → LstC v1 B n1 W) (hL2 : ∀ W, Below w.heap.size w W → LstC v2 P n2 W) (hL3 : ∀ W, Below w.heap.size w W → LstC v3 Q n3 W)
    (h0 : A.length = n0 ∧ n0 ≤ 65) (h1 : B.length = n1 ∧ n1 ≤ 65) (h2 : P.length = n2 ∧ n2 ≤ 65) (h3 : Q.length = n3 ∧ n3 ≤ 65) (hm : modB m = false) : Calls Try.prog 6 #[.int .i64 m, .agg #[v0, v1, v2, v3]] w fun e w' => e = .returned (.bool true) ∧ Below w.heap.size w w' := by
  have HAf := Lib.hid fun a b cap c2 w hr => After_no1 m a b n0 cap n1 c2 A w hr (by omega) (func_no hm A)
  have HSm := Lib.hid fun a b cap c2 w hr => Same_no1 m a b n2 cap n3 c2 P w hr (by omega) (poly_no hm P)
  have hM := fun w => refModulus_any m w
  rw [hm] at hM
  have HM := Lib.hid hM
  clear hM hm h0 h1 h2 h3
  have HL0 : Hid (∀ W, Below w.heap.size w W → Calls Try.prog 17 #[v0] W fun e w' => ∃ r, e = .returned r ∧ w'.ownsRow W.heap.size 3 1 r n0 (intL A) ∧ Below W.heap.size W w') := hL0
  have HL1 : Hid (∀ W, Below w.heap.size w W → Calls Try.prog 17 #[v1] W fun e w' => ∃ r, e = .returned r ∧ w'.ownsRow W.heap.size 3 1 r n1 (intL B) ∧ Below W.heap.size W w') := hL1
  have HL2 : Hid (∀ W, Below w.heap.size w W → Calls Try.prog 17 #[v2] W fun e w' => ∃ r, e = .returned r ∧ w'.ownsRow W.heap.size 3 1 r n2 (intL P) ∧ Below W.heap.size W w') := hL2
  have HL3 : Hid (∀ W, Below w.heap.size w W → Calls Try.prog 17 #[v3] W fun e w' => ∃ r, e = .returned r ∧ w'.ownsRow W.heap.size 3 1 r n3 (intL Q) ∧ Below W.heap.size W w') := hL3
  have HA := Lib.hid fun w => awake_any w
  obtain ⟨hb, hk⟩ := box_four w v0 v1 v2 v3 53
  clear hL0 hL1 hL2 hL3
  go_enter Try.func6, Try.ntmps6
  go_wp2_with fail
  generalize w.alloc (.cells #[v0, v1, v2, v3] 53) = w1 at *
  obtain ⟨s0, s1, s2, s3⟩ := hk w1 (Below.refl _ _)
  have HK := Lib.hid hk
  have C1 := Lib.hid hb
  clear hk hb
  go_region_held3 (fun w' => w'.cell? ⟨w.heap.size, 0, none⟩ = some v0 ∧ w'.cell? ⟨w.heap.size, 1, none⟩ = some v1 ∧ w'.cell? ⟨w.heap.size, 2, none⟩ = some v2 ∧ w'.cell? ⟨w.heap.size, 3, none⟩ = some v3)
    (first | exact ⟨s0, s1, s2, s3⟩ | exact HC1.out | exact HC2.out | exact HC3.out | exact HC4.out)
    (first
      | (go_at_call 17; with_reducible refine (HL0.out _ C1.out.drew).mono ?_; rintro e y1 ⟨l0, rfl, o1, z1⟩; have zz := undrew1 z1; have HZ1 := Lib.hid zz; have HO1 := Lib.hid o1; have HC1 := Lib.hid (HK.out y1 zz))
      | (go_at_call 17; with_reducible refine (HL1.out _ (b_next C1.out HZ1.out)).mono ?_; rintro e y2 ⟨l1, rfl, o2, z2⟩; have zz2 := b_next HZ1.out z2; have HZ2 := Lib.hid zz2; have Hz2 := Lib.hid z2; have HO2 := Lib.hid o2; have HC2 := Lib.hid (HK.out y2 zz2))
      | (go_at_call 17; with_reducible refine (HL2.out _ (b_next C1.out HZ2.out)).mono ?_; rintro e y3 ⟨l2, rfl, o3, z3⟩; have zz3 := b_next HZ2.out z3; have HZ3 := Lib.hid zz3; have Hz3 := Lib.hid z3; have HO3 := Lib.hid o3; have HC3 := Lib.hid (HK.out y3 zz3))
      | (go_at_call 17; with_reducible refine (HL3.out _ (b_next C1.out HZ3.out)).mono ?_; rintro e y4 ⟨l3, rfl, o4, z4⟩; have zz4 := b_next HZ3.out z4; have HO4 := Lib.hid o4; have Hz4 := Lib.hid z4; have HZ4 := Lib.hid zz4; have HC4 := Lib.hid (HK.out y4 zz4)))
  obtain ⟨a0, c0, rfl, -, hR0⟩ := own_slice HO1.out
  obtain ⟨a1, c1, rfl, -, hR1⟩ := own_slice HO2.out
  obtain ⟨a2, c2, rfl, -, hR2⟩ := own_slice HO3.out
  obtain ⟨a3, c3, rfl, -, hR3⟩ := own_slice HO4.out
  have R0 := Lib.hid (((hR0.below Hz2.out).below Hz3.out).below Hz4.out)
  have R1 := Lib.hid ((hR1.below Hz3.out).below Hz4.out)
  have R2 := Lib.hid (hR2.below Hz4.out)
  have R3 := Lib.hid hR3
  have B0 := Lib.hid (b_next C1.out HZ4.out)
  clear hR0 hR1 hR2 hR3 HO1 HO2 HO3 HO4 HC1 HC2 HC3 HC4 HZ1 HZ2 HZ3 HZ4 Hz2 Hz3 Hz4 HK C1 HL0 HL1 HL2 HL3 s0 s1 s2 s3 o1 o2 o3 o4 z1 z2 z3 z4 zz zz2 zz3 zz4
  generalize y4 = wz at *
  go_wp2_with fail
  refine (HAf.out _ _ _ _ _ R0.out).mono ?_
  rintro e w1 ⟨rfl, b1⟩
  have B1 := Lib.hid (b_next B0.out b1)
  clear B0
  replace R0 := Lib.hid (R0.out.below b1)
  replace R1 := Lib.hid (R1.out.below b1)
  replace R2 := Lib.hid (R2.out.below b1)
  replace R3 := Lib.hid (R3.out.below b1)
  clear b1
  go_wp2_with fail
  refine (HSm.out _ _ _ _ _ R2.out).mono ?_
  rintro e w2 ⟨rfl, b2⟩
  have B2 := Lib.hid (b_next B1.out b2)
  clear B1
  replace R0 := Lib.hid (R0.out.below b2)
  replace R1 := Lib.hid (R1.out.below b2)
  replace R2 := Lib.hid (R2.out.below b2)
  replace R3 := Lib.hid (R3.out.below b2)
  clear b2
  go_wp2_with fail
  refine (HM.out _).mono ?_
  rintro e w3 ⟨rfl, hw⟩
  subst w3
  go_wp2_with fail
  refine (HM.out _).mono ?_
  rintro e w4 ⟨rfl, hw⟩
  subst w4
  go_wp2_with fail
  refine (HA.out _).mono ?_
  rintro e w5 ⟨rfl, b5⟩
  have B5 := Lib.hid (b_next B2.out b5)
  clear B2
  replace R0 := Lib.hid (R0.out.below b5)
  replace R1 := Lib.hid (R1.out.below b5)
  replace R2 := Lib.hid (R2.out.below b5)
  replace R3 := Lib.hid (R3.out.below b5)
  clear b5
  go_wp2
  go_ret
  exact ⟨rfl, B5.out⟩
set_option maxRecDepth 100000 in
set_option maxHeartbeats 8000000 in
theorem afters_00 (m : Nat) (v0 v1 v2 v3 : Value) (A B P Q : List Int) (n0 n1 n2 n3 : Nat) (w : World) (hL0 : ∀ W, Below w.heap.size w W → LstC v0 A n0 W) (hL1 : ∀ W, Below w.heap.size w W → LstC v1 B n1 W) (hL2 : ∀ W, Below w.heap.size w W → LstC v2 P n2 W) (hL3 : ∀ W, Below w.heap.size w W → LstC v3 Q n3 W)
    (h0 : A.length = n0 ∧ n0 ≤ 65) (h1 : B.length = n1 ∧ n1 ≤ 65) (h2 : P.length = n2 ∧ n2 ≤ 65) (h3 : Q.length = n3 ∧ n3 ≤ 65) (hm : 2 ≤ m) (hm2 : m ≤ 64) (hf : funcB m A = false) (hp : polyB m P = false) : Calls Try.prog 6 #[.int .i64 m, .agg #[v0, v1, v2, v3]] w fun e w' => e = .returned (.bool true) ∧ Below w.heap.size w w' := by
  have hmb : modB (m : Int) = true := decide_eq_true (by omega)
  have HAf := Lib.hid fun a b cap c2 w hr => After_no1 m a b n0 cap n1 c2 A w hr (by omega) hf
  have hFA := fun a cap w hr => refFunc_any m a n0 cap A w hr (by omega)
  rw [func_ref hmb h0.1, hf] at hFA
  have HFA := Lib.hid hFA
  clear hf hFA
  have hM := fun w => refModulus_any (m : Int) w
  rw [hmb] at hM
  have HM := Lib.hid hM
  have HSm := Lib.hid fun a b cap c2 w hr => Same_no1 m a b n2 cap n3 c2 P w hr (by omega) hp
  have hPA := fun a cap w hr => refPoly_any m a n2 cap P w hr (by omega)
  rw [poly_ref hmb h2.1, hp] at hPA
  have HPA := Lib.hid hPA
  clear hp hPA
  clear hM hmb h0 h1 h2 h3
  have HL0 : Hid (∀ W, Below w.heap.size w W → Calls Try.prog 17 #[v0] W fun e w' => ∃ r, e = .returned r ∧ w'.ownsRow W.heap.size 3 1 r n0 (intL A) ∧ Below W.heap.size W w') := hL0
  have HL1 : Hid (∀ W, Below w.heap.size w W → Calls Try.prog 17 #[v1] W fun e w' => ∃ r, e = .returned r ∧ w'.ownsRow W.heap.size 3 1 r n1 (intL B) ∧ Below W.heap.size W w') := hL1
  have HL2 : Hid (∀ W, Below w.heap.size w W → Calls Try.prog 17 #[v2] W fun e w' => ∃ r, e = .returned r ∧ w'.ownsRow W.heap.size 3 1 r n2 (intL P) ∧ Below W.heap.size W w') := hL2
  have HL3 : Hid (∀ W, Below w.heap.size w W → Calls Try.prog 17 #[v3] W fun e w' => ∃ r, e = .returned r ∧ w'.ownsRow W.heap.size 3 1 r n3 (intL Q) ∧ Below W.heap.size W w') := hL3
  have HA := Lib.hid fun w => awake_any w
  obtain ⟨hb, hk⟩ := box_four w v0 v1 v2 v3 53
  clear hL0 hL1 hL2 hL3
  go_enter Try.func6, Try.ntmps6
  go_wp2_with fail
  generalize w.alloc (.cells #[v0, v1, v2, v3] 53) = w1 at *
  obtain ⟨s0, s1, s2, s3⟩ := hk w1 (Below.refl _ _)
  have HK := Lib.hid hk
  have C1 := Lib.hid hb
  clear hk hb
  go_region_held3 (fun w' => w'.cell? ⟨w.heap.size, 0, none⟩ = some v0 ∧ w'.cell? ⟨w.heap.size, 1, none⟩ = some v1 ∧ w'.cell? ⟨w.heap.size, 2, none⟩ = some v2 ∧ w'.cell? ⟨w.heap.size, 3, none⟩ = some v3)
    (first | exact ⟨s0, s1, s2, s3⟩ | exact HC1.out | exact HC2.out | exact HC3.out | exact HC4.out)
    (first
      | (go_at_call 17; with_reducible refine (HL0.out _ C1.out.drew).mono ?_; rintro e y1 ⟨l0, rfl, o1, z1⟩; have zz := undrew1 z1; have HZ1 := Lib.hid zz; have HO1 := Lib.hid o1; have HC1 := Lib.hid (HK.out y1 zz))
      | (go_at_call 17; with_reducible refine (HL1.out _ (b_next C1.out HZ1.out)).mono ?_; rintro e y2 ⟨l1, rfl, o2, z2⟩; have zz2 := b_next HZ1.out z2; have HZ2 := Lib.hid zz2; have Hz2 := Lib.hid z2; have HO2 := Lib.hid o2; have HC2 := Lib.hid (HK.out y2 zz2))
      | (go_at_call 17; with_reducible refine (HL2.out _ (b_next C1.out HZ2.out)).mono ?_; rintro e y3 ⟨l2, rfl, o3, z3⟩; have zz3 := b_next HZ2.out z3; have HZ3 := Lib.hid zz3; have Hz3 := Lib.hid z3; have HO3 := Lib.hid o3; have HC3 := Lib.hid (HK.out y3 zz3))
      | (go_at_call 17; with_reducible refine (HL3.out _ (b_next C1.out HZ3.out)).mono ?_; rintro e y4 ⟨l3, rfl, o4, z4⟩; have zz4 := b_next HZ3.out z4; have HO4 := Lib.hid o4; have Hz4 := Lib.hid z4; have HZ4 := Lib.hid zz4; have HC4 := Lib.hid (HK.out y4 zz4)))
  obtain ⟨a0, c0, rfl, -, hR0⟩ := own_slice HO1.out
  obtain ⟨a1, c1, rfl, -, hR1⟩ := own_slice HO2.out
  obtain ⟨a2, c2, rfl, -, hR2⟩ := own_slice HO3.out
  obtain ⟨a3, c3, rfl, -, hR3⟩ := own_slice HO4.out
  have R0 := Lib.hid (((hR0.below Hz2.out).below Hz3.out).below Hz4.out)
  have R1 := Lib.hid ((hR1.below Hz3.out).below Hz4.out)
  have R2 := Lib.hid (hR2.below Hz4.out)
  have R3 := Lib.hid hR3
  have B0 := Lib.hid (b_next C1.out HZ4.out)
  clear hR0 hR1 hR2 hR3 HO1 HO2 HO3 HO4 HC1 HC2 HC3 HC4 HZ1 HZ2 HZ3 HZ4 Hz2 Hz3 Hz4 HK C1 HL0 HL1 HL2 HL3 s0 s1 s2 s3 o1 o2 o3 o4 z1 z2 z3 z4 zz zz2 zz3 zz4
  generalize y4 = wz at *
  go_wp2_with fail
  refine (HAf.out _ _ _ _ _ R0.out).mono ?_
  rintro e w1 ⟨rfl, b1⟩
  have B1 := Lib.hid (b_next B0.out b1)
  clear B0
  replace R0 := Lib.hid (R0.out.below b1)
  replace R1 := Lib.hid (R1.out.below b1)
  replace R2 := Lib.hid (R2.out.below b1)
  replace R3 := Lib.hid (R3.out.below b1)
  clear b1
  go_wp2_with fail
  refine (HSm.out _ _ _ _ _ R2.out).mono ?_
  rintro e w2 ⟨rfl, b2⟩
  have B2 := Lib.hid (b_next B1.out b2)
  clear B1
  replace R0 := Lib.hid (R0.out.below b2)
  replace R1 := Lib.hid (R1.out.below b2)
  replace R2 := Lib.hid (R2.out.below b2)
  replace R3 := Lib.hid (R3.out.below b2)
  clear b2
  go_wp2_with fail
  refine (HM.out _).mono ?_
  rintro e w3 ⟨rfl, hw⟩
  subst w3
  go_wp2_with fail
  refine (HFA.out _ _ _ R0.out).mono ?_
  rintro e w4 ⟨rfl, hw⟩
  subst w4
  go_wp2_with fail
  refine (HM.out _).mono ?_
  rintro e w5 ⟨rfl, hw⟩
  subst w5
  go_wp2_with fail
  refine (HPA.out _ _ _ R2.out).mono ?_
  rintro e w6 ⟨rfl, hw⟩
  subst w6
  go_wp2_with fail
  refine (HA.out _).mono ?_
  rintro e w7 ⟨rfl, b7⟩
  have B7 := Lib.hid (b_next B2.out b7)
  clear B2
  replace R0 := Lib.hid (R0.out.below b7)
  replace R1 := Lib.hid (R1.out.below b7)
  replace R2 := Lib.hid (R2.out.below b7)
  replace R3 := Lib.hid (R3.out.below b7)
  clear b7
  go_wp2
  go_ret
  exact ⟨rfl, B7.out⟩
set_option maxRecDepth 100000 in
set_option maxHeartbeats 8000000 in
theorem afters_01 (m : Nat) (v0 v1 v2 v3 : Value) (A B P Q : List Int) (n0 n1 n2 n3 : Nat) (w : World) (hL0 : ∀ W, Below w.heap.size w W → LstC v0 A n0 W) (hL1 : ∀ W, Below w.heap.size w W → LstC v1 B n1 W) (hL2 : ∀ W, Below w.heap.size w W → LstC v2 P n2 W) (hL3 : ∀ W, Below w.heap.size w W → LstC v3 Q n3 W)
    (h0 : A.length = n0 ∧ n0 ≤ 65) (h1 : B.length = n1 ∧ n1 ≤ 65) (h2 : P.length = n2 ∧ n2 ≤ 65) (h3 : Q.length = n3 ∧ n3 ≤ 65) (hm : 2 ≤ m) (hm2 : m ≤ 64) (hf : funcB m A = false) (hp : polyB m P = true) (hq : polyB m Q = false) : Calls Try.prog 6 #[.int .i64 m, .agg #[v0, v1, v2, v3]] w fun e w' => e = .returned (.bool true) ∧ Below w.heap.size w w' := by
  have hmb : modB (m : Int) = true := decide_eq_true (by omega)
  have HAf := Lib.hid fun a b cap c2 w hr => After_no1 m a b n0 cap n1 c2 A w hr (by omega) hf
  have hFA := fun a cap w hr => refFunc_any m a n0 cap A w hr (by omega)
  rw [func_ref hmb h0.1, hf] at hFA
  have HFA := Lib.hid hFA
  clear hf hFA
  have hM := fun w => refModulus_any (m : Int) w
  rw [hmb] at hM
  have HM := Lib.hid hM
  have HSm := Lib.hid fun a b cap c2 w hr hr2 => Same_no2 m a b n2 cap n3 c2 P Q w hr (by omega) hp hr2 (by omega) hq
  have hPA := fun a cap w hr => refPoly_any m a n2 cap P w hr (by omega)
  rw [poly_ref hmb h2.1, hp] at hPA
  have HPA := Lib.hid hPA
  have hPB := fun a cap w hr => refPoly_any m a n3 cap Q w hr (by omega)
  rw [poly_ref hmb h3.1, hq] at hPB
  have HPB := Lib.hid hPB
  clear hp hPA hq hPB
  clear hM hmb h0 h1 h2 h3
  have HL0 : Hid (∀ W, Below w.heap.size w W → Calls Try.prog 17 #[v0] W fun e w' => ∃ r, e = .returned r ∧ w'.ownsRow W.heap.size 3 1 r n0 (intL A) ∧ Below W.heap.size W w') := hL0
  have HL1 : Hid (∀ W, Below w.heap.size w W → Calls Try.prog 17 #[v1] W fun e w' => ∃ r, e = .returned r ∧ w'.ownsRow W.heap.size 3 1 r n1 (intL B) ∧ Below W.heap.size W w') := hL1
  have HL2 : Hid (∀ W, Below w.heap.size w W → Calls Try.prog 17 #[v2] W fun e w' => ∃ r, e = .returned r ∧ w'.ownsRow W.heap.size 3 1 r n2 (intL P) ∧ Below W.heap.size W w') := hL2
  have HL3 : Hid (∀ W, Below w.heap.size w W → Calls Try.prog 17 #[v3] W fun e w' => ∃ r, e = .returned r ∧ w'.ownsRow W.heap.size 3 1 r n3 (intL Q) ∧ Below W.heap.size W w') := hL3
  have HA := Lib.hid fun w => awake_any w
  obtain ⟨hb, hk⟩ := box_four w v0 v1 v2 v3 53
  clear hL0 hL1 hL2 hL3
  go_enter Try.func6, Try.ntmps6
  go_wp2_with fail
  generalize w.alloc (.cells #[v0, v1, v2, v3] 53) = w1 at *
  obtain ⟨s0, s1, s2, s3⟩ := hk w1 (Below.refl _ _)
  have HK := Lib.hid hk
  have C1 := Lib.hid hb
  clear hk hb
  go_region_held3 (fun w' => w'.cell? ⟨w.heap.size, 0, none⟩ = some v0 ∧ w'.cell? ⟨w.heap.size, 1, none⟩ = some v1 ∧ w'.cell? ⟨w.heap.size, 2, none⟩ = some v2 ∧ w'.cell? ⟨w.heap.size, 3, none⟩ = some v3)
    (first | exact ⟨s0, s1, s2, s3⟩ | exact HC1.out | exact HC2.out | exact HC3.out | exact HC4.out)
    (first
      | (go_at_call 17; with_reducible refine (HL0.out _ C1.out.drew).mono ?_; rintro e y1 ⟨l0, rfl, o1, z1⟩; have zz := undrew1 z1; have HZ1 := Lib.hid zz; have HO1 := Lib.hid o1; have HC1 := Lib.hid (HK.out y1 zz))
      | (go_at_call 17; with_reducible refine (HL1.out _ (b_next C1.out HZ1.out)).mono ?_; rintro e y2 ⟨l1, rfl, o2, z2⟩; have zz2 := b_next HZ1.out z2; have HZ2 := Lib.hid zz2; have Hz2 := Lib.hid z2; have HO2 := Lib.hid o2; have HC2 := Lib.hid (HK.out y2 zz2))
      | (go_at_call 17; with_reducible refine (HL2.out _ (b_next C1.out HZ2.out)).mono ?_; rintro e y3 ⟨l2, rfl, o3, z3⟩; have zz3 := b_next HZ2.out z3; have HZ3 := Lib.hid zz3; have Hz3 := Lib.hid z3; have HO3 := Lib.hid o3; have HC3 := Lib.hid (HK.out y3 zz3))
      | (go_at_call 17; with_reducible refine (HL3.out _ (b_next C1.out HZ3.out)).mono ?_; rintro e y4 ⟨l3, rfl, o4, z4⟩; have zz4 := b_next HZ3.out z4; have HO4 := Lib.hid o4; have Hz4 := Lib.hid z4; have HZ4 := Lib.hid zz4; have HC4 := Lib.hid (HK.out y4 zz4)))
  obtain ⟨a0, c0, rfl, -, hR0⟩ := own_slice HO1.out
  obtain ⟨a1, c1, rfl, -, hR1⟩ := own_slice HO2.out
  obtain ⟨a2, c2, rfl, -, hR2⟩ := own_slice HO3.out
  obtain ⟨a3, c3, rfl, -, hR3⟩ := own_slice HO4.out
  have R0 := Lib.hid (((hR0.below Hz2.out).below Hz3.out).below Hz4.out)
  have R1 := Lib.hid ((hR1.below Hz3.out).below Hz4.out)
  have R2 := Lib.hid (hR2.below Hz4.out)
  have R3 := Lib.hid hR3
  have B0 := Lib.hid (b_next C1.out HZ4.out)
  clear hR0 hR1 hR2 hR3 HO1 HO2 HO3 HO4 HC1 HC2 HC3 HC4 HZ1 HZ2 HZ3 HZ4 Hz2 Hz3 Hz4 HK C1 HL0 HL1 HL2 HL3 s0 s1 s2 s3 o1 o2 o3 o4 z1 z2 z3 z4 zz zz2 zz3 zz4
  generalize y4 = wz at *
  go_wp2_with fail
  refine (HAf.out _ _ _ _ _ R0.out).mono ?_
  rintro e w1 ⟨rfl, b1⟩
  have B1 := Lib.hid (b_next B0.out b1)
  clear B0
  replace R0 := Lib.hid (R0.out.below b1)
  replace R1 := Lib.hid (R1.out.below b1)
  replace R2 := Lib.hid (R2.out.below b1)
  replace R3 := Lib.hid (R3.out.below b1)
  clear b1
  go_wp2_with fail
  refine (HSm.out _ _ _ _ _ R2.out R3.out).mono ?_
  rintro e w2 ⟨rfl, b2⟩
  have B2 := Lib.hid (b_next B1.out b2)
  clear B1
  replace R0 := Lib.hid (R0.out.below b2)
  replace R1 := Lib.hid (R1.out.below b2)
  replace R2 := Lib.hid (R2.out.below b2)
  replace R3 := Lib.hid (R3.out.below b2)
  clear b2
  go_wp2_with fail
  refine (HM.out _).mono ?_
  rintro e w3 ⟨rfl, hw⟩
  subst w3
  go_wp2_with fail
  refine (HFA.out _ _ _ R0.out).mono ?_
  rintro e w4 ⟨rfl, hw⟩
  subst w4
  go_wp2_with fail
  refine (HM.out _).mono ?_
  rintro e w5 ⟨rfl, hw⟩
  subst w5
  go_wp2_with fail
  refine (HPA.out _ _ _ R2.out).mono ?_
  rintro e w6 ⟨rfl, hw⟩
  subst w6
  go_wp2_with fail
  refine (HPB.out _ _ _ R3.out).mono ?_
  rintro e w7 ⟨rfl, hw⟩
  subst w7
  go_wp2_with fail
  refine (HA.out _).mono ?_
  rintro e w8 ⟨rfl, b8⟩
  have B8 := Lib.hid (b_next B2.out b8)
  clear B2
  replace R0 := Lib.hid (R0.out.below b8)
  replace R1 := Lib.hid (R1.out.below b8)
  replace R2 := Lib.hid (R2.out.below b8)
  replace R3 := Lib.hid (R3.out.below b8)
  clear b8
  go_wp2
  go_ret
  exact ⟨rfl, B8.out⟩
set_option maxRecDepth 100000 in
set_option maxHeartbeats 8000000 in
theorem afters_02 (m : Nat) (v0 v1 v2 v3 : Value) (A B P Q : List Int) (n0 n1 n2 n3 : Nat) (w : World) (hL0 : ∀ W, Below w.heap.size w W → LstC v0 A n0 W) (hL1 : ∀ W, Below w.heap.size w W → LstC v1 B n1 W) (hL2 : ∀ W, Below w.heap.size w W → LstC v2 P n2 W) (hL3 : ∀ W, Below w.heap.size w W → LstC v3 Q n3 W)
    (h0 : A.length = n0 ∧ n0 ≤ 65) (h1 : B.length = n1 ∧ n1 ≤ 65) (h2 : P.length = n2 ∧ n2 ≤ 65) (h3 : Q.length = n3 ∧ n3 ≤ 65) (hm : 2 ≤ m) (hm2 : m ≤ 64) (hf : funcB m A = false) (hp : polyB m P = true) (hq : polyB m Q = true) : Calls Try.prog 6 #[.int .i64 m, .agg #[v0, v1, v2, v3]] w fun e w' => e = .returned (.bool true) ∧ Below w.heap.size w w' := by
  have hmb : modB (m : Int) = true := decide_eq_true (by omega)
  have HAf := Lib.hid fun a b cap c2 w hr => After_no1 m a b n0 cap n1 c2 A w hr (by omega) hf
  have hFA := fun a cap w hr => refFunc_any m a n0 cap A w hr (by omega)
  rw [func_ref hmb h0.1, hf] at hFA
  have HFA := Lib.hid hFA
  clear hf hFA
  have hM := fun w => refModulus_any (m : Int) w
  rw [hmb] at hM
  have HM := Lib.hid hM
  obtain ⟨_, j0⟩ := polyB_parts hp
  obtain ⟨_, j1⟩ := polyB_parts hq
  have hSm := fun a b cap c2 w hr hr2 => Same_yes m a b n2 cap n3 c2 P Q w hr hp hr2 hq
  rw [same_differ] at hSm
  have HVP := Lib.hid fun a cap w hr => refValues_any m a n2 cap P w hr (by omega) hm hm2 j0
  have HVQ := Lib.hid fun a cap w hr => refValues_any m a n3 cap Q w hr (by omega) hm hm2 j1
  have hDf := fun a b ca cb w hr hr2 => refDiffer_any m a b ca cb (valuesL m P) (valuesL m Q) w hr hr2 hm2
  generalize differR m (valuesL m P) (valuesL m Q) = D at hSm hDf
  have HSm := Lib.hid hSm
  have HDf := Lib.hid hDf
  have hPA := fun a cap w hr => refPoly_any m a n2 cap P w hr (by omega)
  rw [poly_ref hmb h2.1, hp] at hPA
  have HPA := Lib.hid hPA
  have hPB := fun a cap w hr => refPoly_any m a n3 cap Q w hr (by omega)
  rw [poly_ref hmb h3.1, hq] at hPB
  have HPB := Lib.hid hPB
  generalize valuesL m P = VP at HVP HDf
  generalize valuesL m Q = VQ at HVQ HDf
  clear hp hPA hq hPB j0 j1 hSm hDf
  clear hM hmb h0 h1 h2 h3
  have HL0 : Hid (∀ W, Below w.heap.size w W → Calls Try.prog 17 #[v0] W fun e w' => ∃ r, e = .returned r ∧ w'.ownsRow W.heap.size 3 1 r n0 (intL A) ∧ Below W.heap.size W w') := hL0
  have HL1 : Hid (∀ W, Below w.heap.size w W → Calls Try.prog 17 #[v1] W fun e w' => ∃ r, e = .returned r ∧ w'.ownsRow W.heap.size 3 1 r n1 (intL B) ∧ Below W.heap.size W w') := hL1
  have HL2 : Hid (∀ W, Below w.heap.size w W → Calls Try.prog 17 #[v2] W fun e w' => ∃ r, e = .returned r ∧ w'.ownsRow W.heap.size 3 1 r n2 (intL P) ∧ Below W.heap.size W w') := hL2
  have HL3 : Hid (∀ W, Below w.heap.size w W → Calls Try.prog 17 #[v3] W fun e w' => ∃ r, e = .returned r ∧ w'.ownsRow W.heap.size 3 1 r n3 (intL Q) ∧ Below W.heap.size W w') := hL3
  have HA := Lib.hid fun w => awake_any w
  obtain ⟨hb, hk⟩ := box_four w v0 v1 v2 v3 53
  clear hL0 hL1 hL2 hL3
  go_enter Try.func6, Try.ntmps6
  go_wp2_with fail
  generalize w.alloc (.cells #[v0, v1, v2, v3] 53) = w1 at *
  obtain ⟨s0, s1, s2, s3⟩ := hk w1 (Below.refl _ _)
  have HK := Lib.hid hk
  have C1 := Lib.hid hb
  clear hk hb
  go_region_held3 (fun w' => w'.cell? ⟨w.heap.size, 0, none⟩ = some v0 ∧ w'.cell? ⟨w.heap.size, 1, none⟩ = some v1 ∧ w'.cell? ⟨w.heap.size, 2, none⟩ = some v2 ∧ w'.cell? ⟨w.heap.size, 3, none⟩ = some v3)
    (first | exact ⟨s0, s1, s2, s3⟩ | exact HC1.out | exact HC2.out | exact HC3.out | exact HC4.out)
    (first
      | (go_at_call 17; with_reducible refine (HL0.out _ C1.out.drew).mono ?_; rintro e y1 ⟨l0, rfl, o1, z1⟩; have zz := undrew1 z1; have HZ1 := Lib.hid zz; have HO1 := Lib.hid o1; have HC1 := Lib.hid (HK.out y1 zz))
      | (go_at_call 17; with_reducible refine (HL1.out _ (b_next C1.out HZ1.out)).mono ?_; rintro e y2 ⟨l1, rfl, o2, z2⟩; have zz2 := b_next HZ1.out z2; have HZ2 := Lib.hid zz2; have Hz2 := Lib.hid z2; have HO2 := Lib.hid o2; have HC2 := Lib.hid (HK.out y2 zz2))
      | (go_at_call 17; with_reducible refine (HL2.out _ (b_next C1.out HZ2.out)).mono ?_; rintro e y3 ⟨l2, rfl, o3, z3⟩; have zz3 := b_next HZ2.out z3; have HZ3 := Lib.hid zz3; have Hz3 := Lib.hid z3; have HO3 := Lib.hid o3; have HC3 := Lib.hid (HK.out y3 zz3))
      | (go_at_call 17; with_reducible refine (HL3.out _ (b_next C1.out HZ3.out)).mono ?_; rintro e y4 ⟨l3, rfl, o4, z4⟩; have zz4 := b_next HZ3.out z4; have HO4 := Lib.hid o4; have Hz4 := Lib.hid z4; have HZ4 := Lib.hid zz4; have HC4 := Lib.hid (HK.out y4 zz4)))
  obtain ⟨a0, c0, rfl, -, hR0⟩ := own_slice HO1.out
  obtain ⟨a1, c1, rfl, -, hR1⟩ := own_slice HO2.out
  obtain ⟨a2, c2, rfl, -, hR2⟩ := own_slice HO3.out
  obtain ⟨a3, c3, rfl, -, hR3⟩ := own_slice HO4.out
  have R0 := Lib.hid (((hR0.below Hz2.out).below Hz3.out).below Hz4.out)
  have R1 := Lib.hid ((hR1.below Hz3.out).below Hz4.out)
  have R2 := Lib.hid (hR2.below Hz4.out)
  have R3 := Lib.hid hR3
  have B0 := Lib.hid (b_next C1.out HZ4.out)
  clear hR0 hR1 hR2 hR3 HO1 HO2 HO3 HO4 HC1 HC2 HC3 HC4 HZ1 HZ2 HZ3 HZ4 Hz2 Hz3 Hz4 HK C1 HL0 HL1 HL2 HL3 s0 s1 s2 s3 o1 o2 o3 o4 z1 z2 z3 z4 zz zz2 zz3 zz4
  generalize y4 = wz at *
  go_wp2_with fail
  refine (HAf.out _ _ _ _ _ R0.out).mono ?_
  rintro e w1 ⟨rfl, b1⟩
  have B1 := Lib.hid (b_next B0.out b1)
  clear B0
  replace R0 := Lib.hid (R0.out.below b1)
  replace R1 := Lib.hid (R1.out.below b1)
  replace R2 := Lib.hid (R2.out.below b1)
  replace R3 := Lib.hid (R3.out.below b1)
  clear b1
  go_wp2_with fail
  refine (HSm.out _ _ _ _ _ R2.out R3.out).mono ?_
  rintro e w2 ⟨rfl, b2⟩
  have B2 := Lib.hid (b_next B1.out b2)
  clear B1
  replace R0 := Lib.hid (R0.out.below b2)
  replace R1 := Lib.hid (R1.out.below b2)
  replace R2 := Lib.hid (R2.out.below b2)
  replace R3 := Lib.hid (R3.out.below b2)
  clear b2
  go_wp2_with fail
  refine (HM.out _).mono ?_
  rintro e w3 ⟨rfl, hw⟩
  subst w3
  go_wp2_with fail
  refine (HFA.out _ _ _ R0.out).mono ?_
  rintro e w4 ⟨rfl, hw⟩
  subst w4
  go_wp2_with fail
  refine (HM.out _).mono ?_
  rintro e w5 ⟨rfl, hw⟩
  subst w5
  go_wp2_with fail
  refine (HPA.out _ _ _ R2.out).mono ?_
  rintro e w6 ⟨rfl, hw⟩
  subst w6
  go_wp2_with fail
  refine (HPB.out _ _ _ R3.out).mono ?_
  rintro e w7 ⟨rfl, hw⟩
  subst w7
  go_wp2_with fail
  refine (HVP.out _ _ _ R2.out).mono ?_
  rintro e w8 ⟨v8, rfl, ho, b8⟩
  have B8 := Lib.hid (b_next B2.out b8)
  clear B2
  replace R0 := Lib.hid (R0.out.below b8)
  replace R1 := Lib.hid (R1.out.below b8)
  replace R2 := Lib.hid (R2.out.below b8)
  replace R3 := Lib.hid (R3.out.below b8)
  clear b8
  obtain ⟨a6, c6, hv, hc6, r8⟩ := own_slice ho
  subst v8
  have R6 := Lib.hid r8
  clear ho r8
  go_wp2_with fail
  refine (HVQ.out _ _ _ R3.out).mono ?_
  rintro e w9 ⟨v9, rfl, ho, b9⟩
  have B9 := Lib.hid (b_next B8.out b9)
  clear B8
  replace R0 := Lib.hid (R0.out.below b9)
  replace R1 := Lib.hid (R1.out.below b9)
  replace R2 := Lib.hid (R2.out.below b9)
  replace R3 := Lib.hid (R3.out.below b9)
  replace R6 := Lib.hid (R6.out.below b9)
  clear b9
  obtain ⟨a7, c7, hv, hc7, r9⟩ := own_slice ho
  subst v9
  have R7 := Lib.hid r9
  clear ho r9
  go_wp2_with fail
  refine (HDf.out _ _ _ _ _ R6.out R7.out).mono ?_
  rintro e w10 ⟨rfl, hq⟩
  have b10 := drew_below hq
  clear hq
  have B10 := Lib.hid (b_next B9.out b10)
  clear B9
  replace R0 := Lib.hid (R0.out.below b10)
  replace R1 := Lib.hid (R1.out.below b10)
  replace R2 := Lib.hid (R2.out.below b10)
  replace R3 := Lib.hid (R3.out.below b10)
  replace R6 := Lib.hid (R6.out.below b10)
  replace R7 := Lib.hid (R7.out.below b10)
  clear b10
  go_wp2_with fail
  refine (HA.out _).mono ?_
  rintro e w11 ⟨rfl, b11⟩
  have B11 := Lib.hid (b_next B10.out b11)
  clear B10
  replace R0 := Lib.hid (R0.out.below b11)
  replace R1 := Lib.hid (R1.out.below b11)
  replace R2 := Lib.hid (R2.out.below b11)
  replace R3 := Lib.hid (R3.out.below b11)
  replace R6 := Lib.hid (R6.out.below b11)
  replace R7 := Lib.hid (R7.out.below b11)
  clear b11
  go_wp2
  go_ret
  exact ⟨rfl, B11.out⟩
set_option maxRecDepth 100000 in
set_option maxHeartbeats 8000000 in
theorem afters_10 (m : Nat) (v0 v1 v2 v3 : Value) (A B P Q : List Int) (n0 n1 n2 n3 : Nat) (w : World) (hL0 : ∀ W, Below w.heap.size w W → LstC v0 A n0 W) (hL1 : ∀ W, Below w.heap.size w W → LstC v1 B n1 W) (hL2 : ∀ W, Below w.heap.size w W → LstC v2 P n2 W) (hL3 : ∀ W, Below w.heap.size w W → LstC v3 Q n3 W)
    (h0 : A.length = n0 ∧ n0 ≤ 65) (h1 : B.length = n1 ∧ n1 ≤ 65) (h2 : P.length = n2 ∧ n2 ≤ 65) (h3 : Q.length = n3 ∧ n3 ≤ 65) (hm : 2 ≤ m) (hm2 : m ≤ 64) (hf : funcB m A = true) (hg : funcB m B = false) (hp : polyB m P = false) : Calls Try.prog 6 #[.int .i64 m, .agg #[v0, v1, v2, v3]] w fun e w' => e = .returned (.bool true) ∧ Below w.heap.size w w' := by
  have hmb : modB (m : Int) = true := decide_eq_true (by omega)
  have HAf := Lib.hid fun a b cap c2 w hr hr2 => After_no2 m a b n0 cap n1 c2 A B w hr (by omega) hf hr2 (by omega) hg
  have hFA := fun a cap w hr => refFunc_any m a n0 cap A w hr (by omega)
  rw [func_ref hmb h0.1, hf] at hFA
  have HFA := Lib.hid hFA
  have hFB := fun a cap w hr => refFunc_any m a n1 cap B w hr (by omega)
  rw [func_ref hmb h1.1, hg] at hFB
  have HFB := Lib.hid hFB
  clear hf hFA hg hFB
  have hM := fun w => refModulus_any (m : Int) w
  rw [hmb] at hM
  have HM := Lib.hid hM
  have HSm := Lib.hid fun a b cap c2 w hr => Same_no1 m a b n2 cap n3 c2 P w hr (by omega) hp
  have hPA := fun a cap w hr => refPoly_any m a n2 cap P w hr (by omega)
  rw [poly_ref hmb h2.1, hp] at hPA
  have HPA := Lib.hid hPA
  clear hp hPA
  clear hM hmb h0 h1 h2 h3
  have HL0 : Hid (∀ W, Below w.heap.size w W → Calls Try.prog 17 #[v0] W fun e w' => ∃ r, e = .returned r ∧ w'.ownsRow W.heap.size 3 1 r n0 (intL A) ∧ Below W.heap.size W w') := hL0
  have HL1 : Hid (∀ W, Below w.heap.size w W → Calls Try.prog 17 #[v1] W fun e w' => ∃ r, e = .returned r ∧ w'.ownsRow W.heap.size 3 1 r n1 (intL B) ∧ Below W.heap.size W w') := hL1
  have HL2 : Hid (∀ W, Below w.heap.size w W → Calls Try.prog 17 #[v2] W fun e w' => ∃ r, e = .returned r ∧ w'.ownsRow W.heap.size 3 1 r n2 (intL P) ∧ Below W.heap.size W w') := hL2
  have HL3 : Hid (∀ W, Below w.heap.size w W → Calls Try.prog 17 #[v3] W fun e w' => ∃ r, e = .returned r ∧ w'.ownsRow W.heap.size 3 1 r n3 (intL Q) ∧ Below W.heap.size W w') := hL3
  have HA := Lib.hid fun w => awake_any w
  obtain ⟨hb, hk⟩ := box_four w v0 v1 v2 v3 53
  clear hL0 hL1 hL2 hL3
  go_enter Try.func6, Try.ntmps6
  go_wp2_with fail
  generalize w.alloc (.cells #[v0, v1, v2, v3] 53) = w1 at *
  obtain ⟨s0, s1, s2, s3⟩ := hk w1 (Below.refl _ _)
  have HK := Lib.hid hk
  have C1 := Lib.hid hb
  clear hk hb
  go_region_held3 (fun w' => w'.cell? ⟨w.heap.size, 0, none⟩ = some v0 ∧ w'.cell? ⟨w.heap.size, 1, none⟩ = some v1 ∧ w'.cell? ⟨w.heap.size, 2, none⟩ = some v2 ∧ w'.cell? ⟨w.heap.size, 3, none⟩ = some v3)
    (first | exact ⟨s0, s1, s2, s3⟩ | exact HC1.out | exact HC2.out | exact HC3.out | exact HC4.out)
    (first
      | (go_at_call 17; with_reducible refine (HL0.out _ C1.out.drew).mono ?_; rintro e y1 ⟨l0, rfl, o1, z1⟩; have zz := undrew1 z1; have HZ1 := Lib.hid zz; have HO1 := Lib.hid o1; have HC1 := Lib.hid (HK.out y1 zz))
      | (go_at_call 17; with_reducible refine (HL1.out _ (b_next C1.out HZ1.out)).mono ?_; rintro e y2 ⟨l1, rfl, o2, z2⟩; have zz2 := b_next HZ1.out z2; have HZ2 := Lib.hid zz2; have Hz2 := Lib.hid z2; have HO2 := Lib.hid o2; have HC2 := Lib.hid (HK.out y2 zz2))
      | (go_at_call 17; with_reducible refine (HL2.out _ (b_next C1.out HZ2.out)).mono ?_; rintro e y3 ⟨l2, rfl, o3, z3⟩; have zz3 := b_next HZ2.out z3; have HZ3 := Lib.hid zz3; have Hz3 := Lib.hid z3; have HO3 := Lib.hid o3; have HC3 := Lib.hid (HK.out y3 zz3))
      | (go_at_call 17; with_reducible refine (HL3.out _ (b_next C1.out HZ3.out)).mono ?_; rintro e y4 ⟨l3, rfl, o4, z4⟩; have zz4 := b_next HZ3.out z4; have HO4 := Lib.hid o4; have Hz4 := Lib.hid z4; have HZ4 := Lib.hid zz4; have HC4 := Lib.hid (HK.out y4 zz4)))
  obtain ⟨a0, c0, rfl, -, hR0⟩ := own_slice HO1.out
  obtain ⟨a1, c1, rfl, -, hR1⟩ := own_slice HO2.out
  obtain ⟨a2, c2, rfl, -, hR2⟩ := own_slice HO3.out
  obtain ⟨a3, c3, rfl, -, hR3⟩ := own_slice HO4.out
  have R0 := Lib.hid (((hR0.below Hz2.out).below Hz3.out).below Hz4.out)
  have R1 := Lib.hid ((hR1.below Hz3.out).below Hz4.out)
  have R2 := Lib.hid (hR2.below Hz4.out)
  have R3 := Lib.hid hR3
  have B0 := Lib.hid (b_next C1.out HZ4.out)
  clear hR0 hR1 hR2 hR3 HO1 HO2 HO3 HO4 HC1 HC2 HC3 HC4 HZ1 HZ2 HZ3 HZ4 Hz2 Hz3 Hz4 HK C1 HL0 HL1 HL2 HL3 s0 s1 s2 s3 o1 o2 o3 o4 z1 z2 z3 z4 zz zz2 zz3 zz4
  generalize y4 = wz at *
  go_wp2_with fail
  refine (HAf.out _ _ _ _ _ R0.out R1.out).mono ?_
  rintro e w1 ⟨rfl, b1⟩
  have B1 := Lib.hid (b_next B0.out b1)
  clear B0
  replace R0 := Lib.hid (R0.out.below b1)
  replace R1 := Lib.hid (R1.out.below b1)
  replace R2 := Lib.hid (R2.out.below b1)
  replace R3 := Lib.hid (R3.out.below b1)
  clear b1
  go_wp2_with fail
  refine (HSm.out _ _ _ _ _ R2.out).mono ?_
  rintro e w2 ⟨rfl, b2⟩
  have B2 := Lib.hid (b_next B1.out b2)
  clear B1
  replace R0 := Lib.hid (R0.out.below b2)
  replace R1 := Lib.hid (R1.out.below b2)
  replace R2 := Lib.hid (R2.out.below b2)
  replace R3 := Lib.hid (R3.out.below b2)
  clear b2
  go_wp2_with fail
  refine (HM.out _).mono ?_
  rintro e w3 ⟨rfl, hw⟩
  subst w3
  go_wp2_with fail
  refine (HFA.out _ _ _ R0.out).mono ?_
  rintro e w4 ⟨rfl, hw⟩
  subst w4
  go_wp2_with fail
  refine (HFB.out _ _ _ R1.out).mono ?_
  rintro e w5 ⟨rfl, hw⟩
  subst w5
  go_wp2_with fail
  refine (HM.out _).mono ?_
  rintro e w6 ⟨rfl, hw⟩
  subst w6
  go_wp2_with fail
  refine (HPA.out _ _ _ R2.out).mono ?_
  rintro e w7 ⟨rfl, hw⟩
  subst w7
  go_wp2_with fail
  refine (HA.out _).mono ?_
  rintro e w8 ⟨rfl, b8⟩
  have B8 := Lib.hid (b_next B2.out b8)
  clear B2
  replace R0 := Lib.hid (R0.out.below b8)
  replace R1 := Lib.hid (R1.out.below b8)
  replace R2 := Lib.hid (R2.out.below b8)
  replace R3 := Lib.hid (R3.out.below b8)
  clear b8
  go_wp2
  go_ret
  exact ⟨rfl, B8.out⟩
set_option maxRecDepth 100000 in
set_option maxHeartbeats 8000000 in
theorem afters_11 (m : Nat) (v0 v1 v2 v3 : Value) (A B P Q : List Int) (n0 n1 n2 n3 : Nat) (w : World) (hL0 : ∀ W, Below w.heap.size w W → LstC v0 A n0 W) (hL1 : ∀ W, Below w.heap.size w W → LstC v1 B n1 W) (hL2 : ∀ W, Below w.heap.size w W → LstC v2 P n2 W) (hL3 : ∀ W, Below w.heap.size w W → LstC v3 Q n3 W)
    (h0 : A.length = n0 ∧ n0 ≤ 65) (h1 : B.length = n1 ∧ n1 ≤ 65) (h2 : P.length = n2 ∧ n2 ≤ 65) (h3 : Q.length = n3 ∧ n3 ≤ 65) (hm : 2 ≤ m) (hm2 : m ≤ 64) (hf : funcB m A = true) (hg : funcB m B = false) (hp : polyB m P = true) (hq : polyB m Q = false) : Calls Try.prog 6 #[.int .i64 m, .agg #[v0, v1, v2, v3]] w fun e w' => e = .returned (.bool true) ∧ Below w.heap.size w w' := by
  have hmb : modB (m : Int) = true := decide_eq_true (by omega)
  have HAf := Lib.hid fun a b cap c2 w hr hr2 => After_no2 m a b n0 cap n1 c2 A B w hr (by omega) hf hr2 (by omega) hg
  have hFA := fun a cap w hr => refFunc_any m a n0 cap A w hr (by omega)
  rw [func_ref hmb h0.1, hf] at hFA
  have HFA := Lib.hid hFA
  have hFB := fun a cap w hr => refFunc_any m a n1 cap B w hr (by omega)
  rw [func_ref hmb h1.1, hg] at hFB
  have HFB := Lib.hid hFB
  clear hf hFA hg hFB
  have hM := fun w => refModulus_any (m : Int) w
  rw [hmb] at hM
  have HM := Lib.hid hM
  have HSm := Lib.hid fun a b cap c2 w hr hr2 => Same_no2 m a b n2 cap n3 c2 P Q w hr (by omega) hp hr2 (by omega) hq
  have hPA := fun a cap w hr => refPoly_any m a n2 cap P w hr (by omega)
  rw [poly_ref hmb h2.1, hp] at hPA
  have HPA := Lib.hid hPA
  have hPB := fun a cap w hr => refPoly_any m a n3 cap Q w hr (by omega)
  rw [poly_ref hmb h3.1, hq] at hPB
  have HPB := Lib.hid hPB
  clear hp hPA hq hPB
  clear hM hmb h0 h1 h2 h3
  have HL0 : Hid (∀ W, Below w.heap.size w W → Calls Try.prog 17 #[v0] W fun e w' => ∃ r, e = .returned r ∧ w'.ownsRow W.heap.size 3 1 r n0 (intL A) ∧ Below W.heap.size W w') := hL0
  have HL1 : Hid (∀ W, Below w.heap.size w W → Calls Try.prog 17 #[v1] W fun e w' => ∃ r, e = .returned r ∧ w'.ownsRow W.heap.size 3 1 r n1 (intL B) ∧ Below W.heap.size W w') := hL1
  have HL2 : Hid (∀ W, Below w.heap.size w W → Calls Try.prog 17 #[v2] W fun e w' => ∃ r, e = .returned r ∧ w'.ownsRow W.heap.size 3 1 r n2 (intL P) ∧ Below W.heap.size W w') := hL2
  have HL3 : Hid (∀ W, Below w.heap.size w W → Calls Try.prog 17 #[v3] W fun e w' => ∃ r, e = .returned r ∧ w'.ownsRow W.heap.size 3 1 r n3 (intL Q) ∧ Below W.heap.size W w') := hL3
  have HA := Lib.hid fun w => awake_any w
  obtain ⟨hb, hk⟩ := box_four w v0 v1 v2 v3 53
  clear hL0 hL1 hL2 hL3
  go_enter Try.func6, Try.ntmps6
  go_wp2_with fail
  generalize w.alloc (.cells #[v0, v1, v2, v3] 53) = w1 at *
  obtain ⟨s0, s1, s2, s3⟩ := hk w1 (Below.refl _ _)
  have HK := Lib.hid hk
  have C1 := Lib.hid hb
  clear hk hb
  go_region_held3 (fun w' => w'.cell? ⟨w.heap.size, 0, none⟩ = some v0 ∧ w'.cell? ⟨w.heap.size, 1, none⟩ = some v1 ∧ w'.cell? ⟨w.heap.size, 2, none⟩ = some v2 ∧ w'.cell? ⟨w.heap.size, 3, none⟩ = some v3)
    (first | exact ⟨s0, s1, s2, s3⟩ | exact HC1.out | exact HC2.out | exact HC3.out | exact HC4.out)
    (first
      | (go_at_call 17; with_reducible refine (HL0.out _ C1.out.drew).mono ?_; rintro e y1 ⟨l0, rfl, o1, z1⟩; have zz := undrew1 z1; have HZ1 := Lib.hid zz; have HO1 := Lib.hid o1; have HC1 := Lib.hid (HK.out y1 zz))
      | (go_at_call 17; with_reducible refine (HL1.out _ (b_next C1.out HZ1.out)).mono ?_; rintro e y2 ⟨l1, rfl, o2, z2⟩; have zz2 := b_next HZ1.out z2; have HZ2 := Lib.hid zz2; have Hz2 := Lib.hid z2; have HO2 := Lib.hid o2; have HC2 := Lib.hid (HK.out y2 zz2))
      | (go_at_call 17; with_reducible refine (HL2.out _ (b_next C1.out HZ2.out)).mono ?_; rintro e y3 ⟨l2, rfl, o3, z3⟩; have zz3 := b_next HZ2.out z3; have HZ3 := Lib.hid zz3; have Hz3 := Lib.hid z3; have HO3 := Lib.hid o3; have HC3 := Lib.hid (HK.out y3 zz3))
      | (go_at_call 17; with_reducible refine (HL3.out _ (b_next C1.out HZ3.out)).mono ?_; rintro e y4 ⟨l3, rfl, o4, z4⟩; have zz4 := b_next HZ3.out z4; have HO4 := Lib.hid o4; have Hz4 := Lib.hid z4; have HZ4 := Lib.hid zz4; have HC4 := Lib.hid (HK.out y4 zz4)))
  obtain ⟨a0, c0, rfl, -, hR0⟩ := own_slice HO1.out
  obtain ⟨a1, c1, rfl, -, hR1⟩ := own_slice HO2.out
  obtain ⟨a2, c2, rfl, -, hR2⟩ := own_slice HO3.out
  obtain ⟨a3, c3, rfl, -, hR3⟩ := own_slice HO4.out
  have R0 := Lib.hid (((hR0.below Hz2.out).below Hz3.out).below Hz4.out)
  have R1 := Lib.hid ((hR1.below Hz3.out).below Hz4.out)
  have R2 := Lib.hid (hR2.below Hz4.out)
  have R3 := Lib.hid hR3
  have B0 := Lib.hid (b_next C1.out HZ4.out)
  clear hR0 hR1 hR2 hR3 HO1 HO2 HO3 HO4 HC1 HC2 HC3 HC4 HZ1 HZ2 HZ3 HZ4 Hz2 Hz3 Hz4 HK C1 HL0 HL1 HL2 HL3 s0 s1 s2 s3 o1 o2 o3 o4 z1 z2 z3 z4 zz zz2 zz3 zz4
  generalize y4 = wz at *
  go_wp2_with fail
  refine (HAf.out _ _ _ _ _ R0.out R1.out).mono ?_
  rintro e w1 ⟨rfl, b1⟩
  have B1 := Lib.hid (b_next B0.out b1)
  clear B0
  replace R0 := Lib.hid (R0.out.below b1)
  replace R1 := Lib.hid (R1.out.below b1)
  replace R2 := Lib.hid (R2.out.below b1)
  replace R3 := Lib.hid (R3.out.below b1)
  clear b1
  go_wp2_with fail
  refine (HSm.out _ _ _ _ _ R2.out R3.out).mono ?_
  rintro e w2 ⟨rfl, b2⟩
  have B2 := Lib.hid (b_next B1.out b2)
  clear B1
  replace R0 := Lib.hid (R0.out.below b2)
  replace R1 := Lib.hid (R1.out.below b2)
  replace R2 := Lib.hid (R2.out.below b2)
  replace R3 := Lib.hid (R3.out.below b2)
  clear b2
  go_wp2_with fail
  refine (HM.out _).mono ?_
  rintro e w3 ⟨rfl, hw⟩
  subst w3
  go_wp2_with fail
  refine (HFA.out _ _ _ R0.out).mono ?_
  rintro e w4 ⟨rfl, hw⟩
  subst w4
  go_wp2_with fail
  refine (HFB.out _ _ _ R1.out).mono ?_
  rintro e w5 ⟨rfl, hw⟩
  subst w5
  go_wp2_with fail
  refine (HM.out _).mono ?_
  rintro e w6 ⟨rfl, hw⟩
  subst w6
  go_wp2_with fail
  refine (HPA.out _ _ _ R2.out).mono ?_
  rintro e w7 ⟨rfl, hw⟩
  subst w7
  go_wp2_with fail
  refine (HPB.out _ _ _ R3.out).mono ?_
  rintro e w8 ⟨rfl, hw⟩
  subst w8
  go_wp2_with fail
  refine (HA.out _).mono ?_
  rintro e w9 ⟨rfl, b9⟩
  have B9 := Lib.hid (b_next B2.out b9)
  clear B2
  replace R0 := Lib.hid (R0.out.below b9)
  replace R1 := Lib.hid (R1.out.below b9)
  replace R2 := Lib.hid (R2.out.below b9)
  replace R3 := Lib.hid (R3.out.below b9)
  clear b9
  go_wp2
  go_ret
  exact ⟨rfl, B9.out⟩
set_option maxRecDepth 100000 in
set_option maxHeartbeats 8000000 in
theorem afters_12 (m : Nat) (v0 v1 v2 v3 : Value) (A B P Q : List Int) (n0 n1 n2 n3 : Nat) (w : World) (hL0 : ∀ W, Below w.heap.size w W → LstC v0 A n0 W) (hL1 : ∀ W, Below w.heap.size w W → LstC v1 B n1 W) (hL2 : ∀ W, Below w.heap.size w W → LstC v2 P n2 W) (hL3 : ∀ W, Below w.heap.size w W → LstC v3 Q n3 W)
    (h0 : A.length = n0 ∧ n0 ≤ 65) (h1 : B.length = n1 ∧ n1 ≤ 65) (h2 : P.length = n2 ∧ n2 ≤ 65) (h3 : Q.length = n3 ∧ n3 ≤ 65) (hm : 2 ≤ m) (hm2 : m ≤ 64) (hf : funcB m A = true) (hg : funcB m B = false) (hp : polyB m P = true) (hq : polyB m Q = true) : Calls Try.prog 6 #[.int .i64 m, .agg #[v0, v1, v2, v3]] w fun e w' => e = .returned (.bool true) ∧ Below w.heap.size w w' := by
  have hmb : modB (m : Int) = true := decide_eq_true (by omega)
  have HAf := Lib.hid fun a b cap c2 w hr hr2 => After_no2 m a b n0 cap n1 c2 A B w hr (by omega) hf hr2 (by omega) hg
  have hFA := fun a cap w hr => refFunc_any m a n0 cap A w hr (by omega)
  rw [func_ref hmb h0.1, hf] at hFA
  have HFA := Lib.hid hFA
  have hFB := fun a cap w hr => refFunc_any m a n1 cap B w hr (by omega)
  rw [func_ref hmb h1.1, hg] at hFB
  have HFB := Lib.hid hFB
  clear hf hFA hg hFB
  have hM := fun w => refModulus_any (m : Int) w
  rw [hmb] at hM
  have HM := Lib.hid hM
  obtain ⟨_, j0⟩ := polyB_parts hp
  obtain ⟨_, j1⟩ := polyB_parts hq
  have hSm := fun a b cap c2 w hr hr2 => Same_yes m a b n2 cap n3 c2 P Q w hr hp hr2 hq
  rw [same_differ] at hSm
  have HVP := Lib.hid fun a cap w hr => refValues_any m a n2 cap P w hr (by omega) hm hm2 j0
  have HVQ := Lib.hid fun a cap w hr => refValues_any m a n3 cap Q w hr (by omega) hm hm2 j1
  have hDf := fun a b ca cb w hr hr2 => refDiffer_any m a b ca cb (valuesL m P) (valuesL m Q) w hr hr2 hm2
  generalize differR m (valuesL m P) (valuesL m Q) = D at hSm hDf
  have HSm := Lib.hid hSm
  have HDf := Lib.hid hDf
  have hPA := fun a cap w hr => refPoly_any m a n2 cap P w hr (by omega)
  rw [poly_ref hmb h2.1, hp] at hPA
  have HPA := Lib.hid hPA
  have hPB := fun a cap w hr => refPoly_any m a n3 cap Q w hr (by omega)
  rw [poly_ref hmb h3.1, hq] at hPB
  have HPB := Lib.hid hPB
  generalize valuesL m P = VP at HVP HDf
  generalize valuesL m Q = VQ at HVQ HDf
  clear hp hPA hq hPB j0 j1 hSm hDf
  clear hM hmb h0 h1 h2 h3
  have HL0 : Hid (∀ W, Below w.heap.size w W → Calls Try.prog 17 #[v0] W fun e w' => ∃ r, e = .returned r ∧ w'.ownsRow W.heap.size 3 1 r n0 (intL A) ∧ Below W.heap.size W w') := hL0
  have HL1 : Hid (∀ W, Below w.heap.size w W → Calls Try.prog 17 #[v1] W fun e w' => ∃ r, e = .returned r ∧ w'.ownsRow W.heap.size 3 1 r n1 (intL B) ∧ Below W.heap.size W w') := hL1
  have HL2 : Hid (∀ W, Below w.heap.size w W → Calls Try.prog 17 #[v2] W fun e w' => ∃ r, e = .returned r ∧ w'.ownsRow W.heap.size 3 1 r n2 (intL P) ∧ Below W.heap.size W w') := hL2
  have HL3 : Hid (∀ W, Below w.heap.size w W → Calls Try.prog 17 #[v3] W fun e w' => ∃ r, e = .returned r ∧ w'.ownsRow W.heap.size 3 1 r n3 (intL Q) ∧ Below W.heap.size W w') := hL3
  have HA := Lib.hid fun w => awake_any w
  obtain ⟨hb, hk⟩ := box_four w v0 v1 v2 v3 53
  clear hL0 hL1 hL2 hL3
  go_enter Try.func6, Try.ntmps6
  go_wp2_with fail
  generalize w.alloc (.cells #[v0, v1, v2, v3] 53) = w1 at *
  obtain ⟨s0, s1, s2, s3⟩ := hk w1 (Below.refl _ _)
  have HK := Lib.hid hk
  have C1 := Lib.hid hb
  clear hk hb
  go_region_held3 (fun w' => w'.cell? ⟨w.heap.size, 0, none⟩ = some v0 ∧ w'.cell? ⟨w.heap.size, 1, none⟩ = some v1 ∧ w'.cell? ⟨w.heap.size, 2, none⟩ = some v2 ∧ w'.cell? ⟨w.heap.size, 3, none⟩ = some v3)
    (first | exact ⟨s0, s1, s2, s3⟩ | exact HC1.out | exact HC2.out | exact HC3.out | exact HC4.out)
    (first
      | (go_at_call 17; with_reducible refine (HL0.out _ C1.out.drew).mono ?_; rintro e y1 ⟨l0, rfl, o1, z1⟩; have zz := undrew1 z1; have HZ1 := Lib.hid zz; have HO1 := Lib.hid o1; have HC1 := Lib.hid (HK.out y1 zz))
      | (go_at_call 17; with_reducible refine (HL1.out _ (b_next C1.out HZ1.out)).mono ?_; rintro e y2 ⟨l1, rfl, o2, z2⟩; have zz2 := b_next HZ1.out z2; have HZ2 := Lib.hid zz2; have Hz2 := Lib.hid z2; have HO2 := Lib.hid o2; have HC2 := Lib.hid (HK.out y2 zz2))
      | (go_at_call 17; with_reducible refine (HL2.out _ (b_next C1.out HZ2.out)).mono ?_; rintro e y3 ⟨l2, rfl, o3, z3⟩; have zz3 := b_next HZ2.out z3; have HZ3 := Lib.hid zz3; have Hz3 := Lib.hid z3; have HO3 := Lib.hid o3; have HC3 := Lib.hid (HK.out y3 zz3))
      | (go_at_call 17; with_reducible refine (HL3.out _ (b_next C1.out HZ3.out)).mono ?_; rintro e y4 ⟨l3, rfl, o4, z4⟩; have zz4 := b_next HZ3.out z4; have HO4 := Lib.hid o4; have Hz4 := Lib.hid z4; have HZ4 := Lib.hid zz4; have HC4 := Lib.hid (HK.out y4 zz4)))
  obtain ⟨a0, c0, rfl, -, hR0⟩ := own_slice HO1.out
  obtain ⟨a1, c1, rfl, -, hR1⟩ := own_slice HO2.out
  obtain ⟨a2, c2, rfl, -, hR2⟩ := own_slice HO3.out
  obtain ⟨a3, c3, rfl, -, hR3⟩ := own_slice HO4.out
  have R0 := Lib.hid (((hR0.below Hz2.out).below Hz3.out).below Hz4.out)
  have R1 := Lib.hid ((hR1.below Hz3.out).below Hz4.out)
  have R2 := Lib.hid (hR2.below Hz4.out)
  have R3 := Lib.hid hR3
  have B0 := Lib.hid (b_next C1.out HZ4.out)
  clear hR0 hR1 hR2 hR3 HO1 HO2 HO3 HO4 HC1 HC2 HC3 HC4 HZ1 HZ2 HZ3 HZ4 Hz2 Hz3 Hz4 HK C1 HL0 HL1 HL2 HL3 s0 s1 s2 s3 o1 o2 o3 o4 z1 z2 z3 z4 zz zz2 zz3 zz4
  generalize y4 = wz at *
  go_wp2_with fail
  refine (HAf.out _ _ _ _ _ R0.out R1.out).mono ?_
  rintro e w1 ⟨rfl, b1⟩
  have B1 := Lib.hid (b_next B0.out b1)
  clear B0
  replace R0 := Lib.hid (R0.out.below b1)
  replace R1 := Lib.hid (R1.out.below b1)
  replace R2 := Lib.hid (R2.out.below b1)
  replace R3 := Lib.hid (R3.out.below b1)
  clear b1
  go_wp2_with fail
  refine (HSm.out _ _ _ _ _ R2.out R3.out).mono ?_
  rintro e w2 ⟨rfl, b2⟩
  have B2 := Lib.hid (b_next B1.out b2)
  clear B1
  replace R0 := Lib.hid (R0.out.below b2)
  replace R1 := Lib.hid (R1.out.below b2)
  replace R2 := Lib.hid (R2.out.below b2)
  replace R3 := Lib.hid (R3.out.below b2)
  clear b2
  go_wp2_with fail
  refine (HM.out _).mono ?_
  rintro e w3 ⟨rfl, hw⟩
  subst w3
  go_wp2_with fail
  refine (HFA.out _ _ _ R0.out).mono ?_
  rintro e w4 ⟨rfl, hw⟩
  subst w4
  go_wp2_with fail
  refine (HFB.out _ _ _ R1.out).mono ?_
  rintro e w5 ⟨rfl, hw⟩
  subst w5
  go_wp2_with fail
  refine (HM.out _).mono ?_
  rintro e w6 ⟨rfl, hw⟩
  subst w6
  go_wp2_with fail
  refine (HPA.out _ _ _ R2.out).mono ?_
  rintro e w7 ⟨rfl, hw⟩
  subst w7
  go_wp2_with fail
  refine (HPB.out _ _ _ R3.out).mono ?_
  rintro e w8 ⟨rfl, hw⟩
  subst w8
  go_wp2_with fail
  refine (HVP.out _ _ _ R2.out).mono ?_
  rintro e w9 ⟨v9, rfl, ho, b9⟩
  have B9 := Lib.hid (b_next B2.out b9)
  clear B2
  replace R0 := Lib.hid (R0.out.below b9)
  replace R1 := Lib.hid (R1.out.below b9)
  replace R2 := Lib.hid (R2.out.below b9)
  replace R3 := Lib.hid (R3.out.below b9)
  clear b9
  obtain ⟨a6, c6, hv, hc6, r9⟩ := own_slice ho
  subst v9
  have R6 := Lib.hid r9
  clear ho r9
  go_wp2_with fail
  refine (HVQ.out _ _ _ R3.out).mono ?_
  rintro e w10 ⟨v10, rfl, ho, b10⟩
  have B10 := Lib.hid (b_next B9.out b10)
  clear B9
  replace R0 := Lib.hid (R0.out.below b10)
  replace R1 := Lib.hid (R1.out.below b10)
  replace R2 := Lib.hid (R2.out.below b10)
  replace R3 := Lib.hid (R3.out.below b10)
  replace R6 := Lib.hid (R6.out.below b10)
  clear b10
  obtain ⟨a7, c7, hv, hc7, r10⟩ := own_slice ho
  subst v10
  have R7 := Lib.hid r10
  clear ho r10
  go_wp2_with fail
  refine (HDf.out _ _ _ _ _ R6.out R7.out).mono ?_
  rintro e w11 ⟨rfl, hq⟩
  have b11 := drew_below hq
  clear hq
  have B11 := Lib.hid (b_next B10.out b11)
  clear B10
  replace R0 := Lib.hid (R0.out.below b11)
  replace R1 := Lib.hid (R1.out.below b11)
  replace R2 := Lib.hid (R2.out.below b11)
  replace R3 := Lib.hid (R3.out.below b11)
  replace R6 := Lib.hid (R6.out.below b11)
  replace R7 := Lib.hid (R7.out.below b11)
  clear b11
  go_wp2_with fail
  refine (HA.out _).mono ?_
  rintro e w12 ⟨rfl, b12⟩
  have B12 := Lib.hid (b_next B11.out b12)
  clear B11
  replace R0 := Lib.hid (R0.out.below b12)
  replace R1 := Lib.hid (R1.out.below b12)
  replace R2 := Lib.hid (R2.out.below b12)
  replace R3 := Lib.hid (R3.out.below b12)
  replace R6 := Lib.hid (R6.out.below b12)
  replace R7 := Lib.hid (R7.out.below b12)
  clear b12
  go_wp2
  go_ret
  exact ⟨rfl, B12.out⟩
set_option maxRecDepth 100000 in
set_option maxHeartbeats 8000000 in
theorem afters_20 (m : Nat) (v0 v1 v2 v3 : Value) (A B P Q : List Int) (n0 n1 n2 n3 : Nat) (w : World) (hL0 : ∀ W, Below w.heap.size w W → LstC v0 A n0 W) (hL1 : ∀ W, Below w.heap.size w W → LstC v1 B n1 W) (hL2 : ∀ W, Below w.heap.size w W → LstC v2 P n2 W) (hL3 : ∀ W, Below w.heap.size w W → LstC v3 Q n3 W)
    (h0 : A.length = n0 ∧ n0 ≤ 65) (h1 : B.length = n1 ∧ n1 ≤ 65) (h2 : P.length = n2 ∧ n2 ≤ 65) (h3 : Q.length = n3 ∧ n3 ≤ 65) (hm : 2 ≤ m) (hm2 : m ≤ 64) (hf : funcB m A = true) (hg : funcB m B = true) (hp : polyB m P = false) : Calls Try.prog 6 #[.int .i64 m, .agg #[v0, v1, v2, v3]] w fun e w' => e = .returned (.bool true) ∧ Below w.heap.size w w' := by
  have hmb : modB (m : Int) = true := decide_eq_true (by omega)
  obtain ⟨e0, i0⟩ := funcB_parts hf
  obtain ⟨e1, i1⟩ := funcB_parts hg
  have q0 : n0 = m := by omega
  have q1 : n1 = m := by omega
  rw [q0] at hL0 h0
  rw [q1] at hL1 h1
  have HAf : Hid (∀ a b cap c2 W, Row W a m (intL A) → Row W b m (intL B) → Calls Try.prog 49 #[.int .i64 m, .slice a m cap, .slice b m c2] W fun e w' => ∃ v, e = .returned (.tuple #[v, .int .i64 0]) ∧ w'.ownsRow W.heap.size 3 1 v m (intL (afterL m A B)) ∧ Below W.heap.size W w') := fun a b cap c2 w hr hr2 => After_yes m a b cap c2 A B w hr hr2 hm hm2 i0 i1
  have HRa := Lib.hid fun a b cap c2 w hr hr2 => refAfter_any m a b cap c2 A B w hr hr2 hm2 i0
  have HI := Lib.hid fun a b ca cb W h1 h2 => ints_true a b m ca cb (afterL m A B) W h1 h2 (by omega)
  have hFA := fun a cap w hr => refFunc_any m a m cap A w hr (by omega)
  rw [func_ref hmb h0.1, hf] at hFA
  have HFA := Lib.hid hFA
  have hFB := fun a cap w hr => refFunc_any m a m cap B w hr (by omega)
  rw [func_ref hmb h1.1, hg] at hFB
  have HFB := Lib.hid hFB
  generalize afterL m A B = L at HAf HRa HI
  clear hf hFA hg hFB e0 e1 i0 i1 q0 q1
  have hM := fun w => refModulus_any (m : Int) w
  rw [hmb] at hM
  have HM := Lib.hid hM
  have HSm := Lib.hid fun a b cap c2 w hr => Same_no1 m a b n2 cap n3 c2 P w hr (by omega) hp
  have hPA := fun a cap w hr => refPoly_any m a n2 cap P w hr (by omega)
  rw [poly_ref hmb h2.1, hp] at hPA
  have HPA := Lib.hid hPA
  clear hp hPA
  clear hM hmb h0 h1 h2 h3
  have HL0 : Hid (∀ W, Below w.heap.size w W → Calls Try.prog 17 #[v0] W fun e w' => ∃ r, e = .returned r ∧ w'.ownsRow W.heap.size 3 1 r m (intL A) ∧ Below W.heap.size W w') := hL0
  have HL1 : Hid (∀ W, Below w.heap.size w W → Calls Try.prog 17 #[v1] W fun e w' => ∃ r, e = .returned r ∧ w'.ownsRow W.heap.size 3 1 r m (intL B) ∧ Below W.heap.size W w') := hL1
  have HL2 : Hid (∀ W, Below w.heap.size w W → Calls Try.prog 17 #[v2] W fun e w' => ∃ r, e = .returned r ∧ w'.ownsRow W.heap.size 3 1 r n2 (intL P) ∧ Below W.heap.size W w') := hL2
  have HL3 : Hid (∀ W, Below w.heap.size w W → Calls Try.prog 17 #[v3] W fun e w' => ∃ r, e = .returned r ∧ w'.ownsRow W.heap.size 3 1 r n3 (intL Q) ∧ Below W.heap.size W w') := hL3
  have HA := Lib.hid fun w => awake_any w
  obtain ⟨hb, hk⟩ := box_four w v0 v1 v2 v3 53
  clear hL0 hL1 hL2 hL3
  go_enter Try.func6, Try.ntmps6
  go_wp2_with fail
  generalize w.alloc (.cells #[v0, v1, v2, v3] 53) = w1 at *
  obtain ⟨s0, s1, s2, s3⟩ := hk w1 (Below.refl _ _)
  have HK := Lib.hid hk
  have C1 := Lib.hid hb
  clear hk hb
  go_region_held3 (fun w' => w'.cell? ⟨w.heap.size, 0, none⟩ = some v0 ∧ w'.cell? ⟨w.heap.size, 1, none⟩ = some v1 ∧ w'.cell? ⟨w.heap.size, 2, none⟩ = some v2 ∧ w'.cell? ⟨w.heap.size, 3, none⟩ = some v3)
    (first | exact ⟨s0, s1, s2, s3⟩ | exact HC1.out | exact HC2.out | exact HC3.out | exact HC4.out)
    (first
      | (go_at_call 17; with_reducible refine (HL0.out _ C1.out.drew).mono ?_; rintro e y1 ⟨l0, rfl, o1, z1⟩; have zz := undrew1 z1; have HZ1 := Lib.hid zz; have HO1 := Lib.hid o1; have HC1 := Lib.hid (HK.out y1 zz))
      | (go_at_call 17; with_reducible refine (HL1.out _ (b_next C1.out HZ1.out)).mono ?_; rintro e y2 ⟨l1, rfl, o2, z2⟩; have zz2 := b_next HZ1.out z2; have HZ2 := Lib.hid zz2; have Hz2 := Lib.hid z2; have HO2 := Lib.hid o2; have HC2 := Lib.hid (HK.out y2 zz2))
      | (go_at_call 17; with_reducible refine (HL2.out _ (b_next C1.out HZ2.out)).mono ?_; rintro e y3 ⟨l2, rfl, o3, z3⟩; have zz3 := b_next HZ2.out z3; have HZ3 := Lib.hid zz3; have Hz3 := Lib.hid z3; have HO3 := Lib.hid o3; have HC3 := Lib.hid (HK.out y3 zz3))
      | (go_at_call 17; with_reducible refine (HL3.out _ (b_next C1.out HZ3.out)).mono ?_; rintro e y4 ⟨l3, rfl, o4, z4⟩; have zz4 := b_next HZ3.out z4; have HO4 := Lib.hid o4; have Hz4 := Lib.hid z4; have HZ4 := Lib.hid zz4; have HC4 := Lib.hid (HK.out y4 zz4)))
  obtain ⟨a0, c0, rfl, -, hR0⟩ := own_slice HO1.out
  obtain ⟨a1, c1, rfl, -, hR1⟩ := own_slice HO2.out
  obtain ⟨a2, c2, rfl, -, hR2⟩ := own_slice HO3.out
  obtain ⟨a3, c3, rfl, -, hR3⟩ := own_slice HO4.out
  have R0 := Lib.hid (((hR0.below Hz2.out).below Hz3.out).below Hz4.out)
  have R1 := Lib.hid ((hR1.below Hz3.out).below Hz4.out)
  have R2 := Lib.hid (hR2.below Hz4.out)
  have R3 := Lib.hid hR3
  have B0 := Lib.hid (b_next C1.out HZ4.out)
  clear hR0 hR1 hR2 hR3 HO1 HO2 HO3 HO4 HC1 HC2 HC3 HC4 HZ1 HZ2 HZ3 HZ4 Hz2 Hz3 Hz4 HK C1 HL0 HL1 HL2 HL3 s0 s1 s2 s3 o1 o2 o3 o4 z1 z2 z3 z4 zz zz2 zz3 zz4
  generalize y4 = wz at *
  go_wp2_with fail
  refine (HAf.out _ _ _ _ _ R0.out R1.out).mono ?_
  rintro e w1 ⟨v1, rfl, ho, b1⟩
  have B1 := Lib.hid (b_next B0.out b1)
  clear B0
  replace R0 := Lib.hid (R0.out.below b1)
  replace R1 := Lib.hid (R1.out.below b1)
  replace R2 := Lib.hid (R2.out.below b1)
  replace R3 := Lib.hid (R3.out.below b1)
  clear b1
  obtain ⟨a4, c4, hv, hc4, r1⟩ := own_slice ho
  subst v1
  have R4 := Lib.hid r1
  clear ho r1
  go_wp2_with fail
  refine (HSm.out _ _ _ _ _ R2.out).mono ?_
  rintro e w2 ⟨rfl, b2⟩
  have B2 := Lib.hid (b_next B1.out b2)
  clear B1
  replace R0 := Lib.hid (R0.out.below b2)
  replace R1 := Lib.hid (R1.out.below b2)
  replace R2 := Lib.hid (R2.out.below b2)
  replace R3 := Lib.hid (R3.out.below b2)
  replace R4 := Lib.hid (R4.out.below b2)
  clear b2
  go_wp2_with fail
  refine (HM.out _).mono ?_
  rintro e w3 ⟨rfl, hw⟩
  subst w3
  go_wp2_with fail
  refine (HFA.out _ _ _ R0.out).mono ?_
  rintro e w4 ⟨rfl, hw⟩
  subst w4
  go_wp2_with fail
  refine (HFB.out _ _ _ R1.out).mono ?_
  rintro e w5 ⟨rfl, hw⟩
  subst w5
  go_wp2_with fail
  refine (HRa.out _ _ _ _ _ R0.out R1.out).mono ?_
  rintro e w6 ⟨v6, rfl, ho, b6⟩
  have B6 := Lib.hid (b_next B2.out b6)
  clear B2
  replace R0 := Lib.hid (R0.out.below b6)
  replace R1 := Lib.hid (R1.out.below b6)
  replace R2 := Lib.hid (R2.out.below b6)
  replace R3 := Lib.hid (R3.out.below b6)
  replace R4 := Lib.hid (R4.out.below b6)
  clear b6
  obtain ⟨a5, c5, hv, hc5, r6⟩ := own_slice ho
  subst v6
  have R5 := Lib.hid r6
  clear ho r6
  go_wp2_with fail
  refine (HI.out _ _ _ _ _ R4.out R5.out).mono ?_
  rintro e w7 ⟨rfl, hq⟩
  have b7 := drew_below hq
  clear hq
  have B7 := Lib.hid (b_next B6.out b7)
  clear B6
  replace R0 := Lib.hid (R0.out.below b7)
  replace R1 := Lib.hid (R1.out.below b7)
  replace R2 := Lib.hid (R2.out.below b7)
  replace R3 := Lib.hid (R3.out.below b7)
  replace R4 := Lib.hid (R4.out.below b7)
  replace R5 := Lib.hid (R5.out.below b7)
  clear b7
  go_wp2_with fail
  refine (HM.out _).mono ?_
  rintro e w8 ⟨rfl, hw⟩
  subst w8
  go_wp2_with fail
  refine (HPA.out _ _ _ R2.out).mono ?_
  rintro e w9 ⟨rfl, hw⟩
  subst w9
  go_wp2_with fail
  refine (HA.out _).mono ?_
  rintro e w10 ⟨rfl, b10⟩
  have B10 := Lib.hid (b_next B7.out b10)
  clear B7
  replace R0 := Lib.hid (R0.out.below b10)
  replace R1 := Lib.hid (R1.out.below b10)
  replace R2 := Lib.hid (R2.out.below b10)
  replace R3 := Lib.hid (R3.out.below b10)
  replace R4 := Lib.hid (R4.out.below b10)
  replace R5 := Lib.hid (R5.out.below b10)
  clear b10
  go_wp2
  go_ret
  exact ⟨rfl, B10.out⟩
set_option maxRecDepth 100000 in
set_option maxHeartbeats 8000000 in
theorem afters_21 (m : Nat) (v0 v1 v2 v3 : Value) (A B P Q : List Int) (n0 n1 n2 n3 : Nat) (w : World) (hL0 : ∀ W, Below w.heap.size w W → LstC v0 A n0 W) (hL1 : ∀ W, Below w.heap.size w W → LstC v1 B n1 W) (hL2 : ∀ W, Below w.heap.size w W → LstC v2 P n2 W) (hL3 : ∀ W, Below w.heap.size w W → LstC v3 Q n3 W)
    (h0 : A.length = n0 ∧ n0 ≤ 65) (h1 : B.length = n1 ∧ n1 ≤ 65) (h2 : P.length = n2 ∧ n2 ≤ 65) (h3 : Q.length = n3 ∧ n3 ≤ 65) (hm : 2 ≤ m) (hm2 : m ≤ 64) (hf : funcB m A = true) (hg : funcB m B = true) (hp : polyB m P = true) (hq : polyB m Q = false) : Calls Try.prog 6 #[.int .i64 m, .agg #[v0, v1, v2, v3]] w fun e w' => e = .returned (.bool true) ∧ Below w.heap.size w w' := by
  have hmb : modB (m : Int) = true := decide_eq_true (by omega)
  obtain ⟨e0, i0⟩ := funcB_parts hf
  obtain ⟨e1, i1⟩ := funcB_parts hg
  have q0 : n0 = m := by omega
  have q1 : n1 = m := by omega
  rw [q0] at hL0 h0
  rw [q1] at hL1 h1
  have HAf : Hid (∀ a b cap c2 W, Row W a m (intL A) → Row W b m (intL B) → Calls Try.prog 49 #[.int .i64 m, .slice a m cap, .slice b m c2] W fun e w' => ∃ v, e = .returned (.tuple #[v, .int .i64 0]) ∧ w'.ownsRow W.heap.size 3 1 v m (intL (afterL m A B)) ∧ Below W.heap.size W w') := fun a b cap c2 w hr hr2 => After_yes m a b cap c2 A B w hr hr2 hm hm2 i0 i1
  have HRa := Lib.hid fun a b cap c2 w hr hr2 => refAfter_any m a b cap c2 A B w hr hr2 hm2 i0
  have HI := Lib.hid fun a b ca cb W h1 h2 => ints_true a b m ca cb (afterL m A B) W h1 h2 (by omega)
  have hFA := fun a cap w hr => refFunc_any m a m cap A w hr (by omega)
  rw [func_ref hmb h0.1, hf] at hFA
  have HFA := Lib.hid hFA
  have hFB := fun a cap w hr => refFunc_any m a m cap B w hr (by omega)
  rw [func_ref hmb h1.1, hg] at hFB
  have HFB := Lib.hid hFB
  generalize afterL m A B = L at HAf HRa HI
  clear hf hFA hg hFB e0 e1 i0 i1 q0 q1
  have hM := fun w => refModulus_any (m : Int) w
  rw [hmb] at hM
  have HM := Lib.hid hM
  have HSm := Lib.hid fun a b cap c2 w hr hr2 => Same_no2 m a b n2 cap n3 c2 P Q w hr (by omega) hp hr2 (by omega) hq
  have hPA := fun a cap w hr => refPoly_any m a n2 cap P w hr (by omega)
  rw [poly_ref hmb h2.1, hp] at hPA
  have HPA := Lib.hid hPA
  have hPB := fun a cap w hr => refPoly_any m a n3 cap Q w hr (by omega)
  rw [poly_ref hmb h3.1, hq] at hPB
  have HPB := Lib.hid hPB
  clear hp hPA hq hPB
  clear hM hmb h0 h1 h2 h3
  have HL0 : Hid (∀ W, Below w.heap.size w W → Calls Try.prog 17 #[v0] W fun e w' => ∃ r, e = .returned r ∧ w'.ownsRow W.heap.size 3 1 r m (intL A) ∧ Below W.heap.size W w') := hL0
  have HL1 : Hid (∀ W, Below w.heap.size w W → Calls Try.prog 17 #[v1] W fun e w' => ∃ r, e = .returned r ∧ w'.ownsRow W.heap.size 3 1 r m (intL B) ∧ Below W.heap.size W w') := hL1
  have HL2 : Hid (∀ W, Below w.heap.size w W → Calls Try.prog 17 #[v2] W fun e w' => ∃ r, e = .returned r ∧ w'.ownsRow W.heap.size 3 1 r n2 (intL P) ∧ Below W.heap.size W w') := hL2
  have HL3 : Hid (∀ W, Below w.heap.size w W → Calls Try.prog 17 #[v3] W fun e w' => ∃ r, e = .returned r ∧ w'.ownsRow W.heap.size 3 1 r n3 (intL Q) ∧ Below W.heap.size W w') := hL3
  have HA := Lib.hid fun w => awake_any w
  obtain ⟨hb, hk⟩ := box_four w v0 v1 v2 v3 53
  clear hL0 hL1 hL2 hL3
  go_enter Try.func6, Try.ntmps6
  go_wp2_with fail
  generalize w.alloc (.cells #[v0, v1, v2, v3] 53) = w1 at *
  obtain ⟨s0, s1, s2, s3⟩ := hk w1 (Below.refl _ _)
  have HK := Lib.hid hk
  have C1 := Lib.hid hb
  clear hk hb
  go_region_held3 (fun w' => w'.cell? ⟨w.heap.size, 0, none⟩ = some v0 ∧ w'.cell? ⟨w.heap.size, 1, none⟩ = some v1 ∧ w'.cell? ⟨w.heap.size, 2, none⟩ = some v2 ∧ w'.cell? ⟨w.heap.size, 3, none⟩ = some v3)
    (first | exact ⟨s0, s1, s2, s3⟩ | exact HC1.out | exact HC2.out | exact HC3.out | exact HC4.out)
    (first
      | (go_at_call 17; with_reducible refine (HL0.out _ C1.out.drew).mono ?_; rintro e y1 ⟨l0, rfl, o1, z1⟩; have zz := undrew1 z1; have HZ1 := Lib.hid zz; have HO1 := Lib.hid o1; have HC1 := Lib.hid (HK.out y1 zz))
      | (go_at_call 17; with_reducible refine (HL1.out _ (b_next C1.out HZ1.out)).mono ?_; rintro e y2 ⟨l1, rfl, o2, z2⟩; have zz2 := b_next HZ1.out z2; have HZ2 := Lib.hid zz2; have Hz2 := Lib.hid z2; have HO2 := Lib.hid o2; have HC2 := Lib.hid (HK.out y2 zz2))
      | (go_at_call 17; with_reducible refine (HL2.out _ (b_next C1.out HZ2.out)).mono ?_; rintro e y3 ⟨l2, rfl, o3, z3⟩; have zz3 := b_next HZ2.out z3; have HZ3 := Lib.hid zz3; have Hz3 := Lib.hid z3; have HO3 := Lib.hid o3; have HC3 := Lib.hid (HK.out y3 zz3))
      | (go_at_call 17; with_reducible refine (HL3.out _ (b_next C1.out HZ3.out)).mono ?_; rintro e y4 ⟨l3, rfl, o4, z4⟩; have zz4 := b_next HZ3.out z4; have HO4 := Lib.hid o4; have Hz4 := Lib.hid z4; have HZ4 := Lib.hid zz4; have HC4 := Lib.hid (HK.out y4 zz4)))
  obtain ⟨a0, c0, rfl, -, hR0⟩ := own_slice HO1.out
  obtain ⟨a1, c1, rfl, -, hR1⟩ := own_slice HO2.out
  obtain ⟨a2, c2, rfl, -, hR2⟩ := own_slice HO3.out
  obtain ⟨a3, c3, rfl, -, hR3⟩ := own_slice HO4.out
  have R0 := Lib.hid (((hR0.below Hz2.out).below Hz3.out).below Hz4.out)
  have R1 := Lib.hid ((hR1.below Hz3.out).below Hz4.out)
  have R2 := Lib.hid (hR2.below Hz4.out)
  have R3 := Lib.hid hR3
  have B0 := Lib.hid (b_next C1.out HZ4.out)
  clear hR0 hR1 hR2 hR3 HO1 HO2 HO3 HO4 HC1 HC2 HC3 HC4 HZ1 HZ2 HZ3 HZ4 Hz2 Hz3 Hz4 HK C1 HL0 HL1 HL2 HL3 s0 s1 s2 s3 o1 o2 o3 o4 z1 z2 z3 z4 zz zz2 zz3 zz4
  generalize y4 = wz at *
  go_wp2_with fail
  refine (HAf.out _ _ _ _ _ R0.out R1.out).mono ?_
  rintro e w1 ⟨v1, rfl, ho, b1⟩
  have B1 := Lib.hid (b_next B0.out b1)
  clear B0
  replace R0 := Lib.hid (R0.out.below b1)
  replace R1 := Lib.hid (R1.out.below b1)
  replace R2 := Lib.hid (R2.out.below b1)
  replace R3 := Lib.hid (R3.out.below b1)
  clear b1
  obtain ⟨a4, c4, hv, hc4, r1⟩ := own_slice ho
  subst v1
  have R4 := Lib.hid r1
  clear ho r1
  go_wp2_with fail
  refine (HSm.out _ _ _ _ _ R2.out R3.out).mono ?_
  rintro e w2 ⟨rfl, b2⟩
  have B2 := Lib.hid (b_next B1.out b2)
  clear B1
  replace R0 := Lib.hid (R0.out.below b2)
  replace R1 := Lib.hid (R1.out.below b2)
  replace R2 := Lib.hid (R2.out.below b2)
  replace R3 := Lib.hid (R3.out.below b2)
  replace R4 := Lib.hid (R4.out.below b2)
  clear b2
  go_wp2_with fail
  refine (HM.out _).mono ?_
  rintro e w3 ⟨rfl, hw⟩
  subst w3
  go_wp2_with fail
  refine (HFA.out _ _ _ R0.out).mono ?_
  rintro e w4 ⟨rfl, hw⟩
  subst w4
  go_wp2_with fail
  refine (HFB.out _ _ _ R1.out).mono ?_
  rintro e w5 ⟨rfl, hw⟩
  subst w5
  go_wp2_with fail
  refine (HRa.out _ _ _ _ _ R0.out R1.out).mono ?_
  rintro e w6 ⟨v6, rfl, ho, b6⟩
  have B6 := Lib.hid (b_next B2.out b6)
  clear B2
  replace R0 := Lib.hid (R0.out.below b6)
  replace R1 := Lib.hid (R1.out.below b6)
  replace R2 := Lib.hid (R2.out.below b6)
  replace R3 := Lib.hid (R3.out.below b6)
  replace R4 := Lib.hid (R4.out.below b6)
  clear b6
  obtain ⟨a5, c5, hv, hc5, r6⟩ := own_slice ho
  subst v6
  have R5 := Lib.hid r6
  clear ho r6
  go_wp2_with fail
  refine (HI.out _ _ _ _ _ R4.out R5.out).mono ?_
  rintro e w7 ⟨rfl, hq⟩
  have b7 := drew_below hq
  clear hq
  have B7 := Lib.hid (b_next B6.out b7)
  clear B6
  replace R0 := Lib.hid (R0.out.below b7)
  replace R1 := Lib.hid (R1.out.below b7)
  replace R2 := Lib.hid (R2.out.below b7)
  replace R3 := Lib.hid (R3.out.below b7)
  replace R4 := Lib.hid (R4.out.below b7)
  replace R5 := Lib.hid (R5.out.below b7)
  clear b7
  go_wp2_with fail
  refine (HM.out _).mono ?_
  rintro e w8 ⟨rfl, hw⟩
  subst w8
  go_wp2_with fail
  refine (HPA.out _ _ _ R2.out).mono ?_
  rintro e w9 ⟨rfl, hw⟩
  subst w9
  go_wp2_with fail
  refine (HPB.out _ _ _ R3.out).mono ?_
  rintro e w10 ⟨rfl, hw⟩
  subst w10
  go_wp2_with fail
  refine (HA.out _).mono ?_
  rintro e w11 ⟨rfl, b11⟩
  have B11 := Lib.hid (b_next B7.out b11)
  clear B7
  replace R0 := Lib.hid (R0.out.below b11)
  replace R1 := Lib.hid (R1.out.below b11)
  replace R2 := Lib.hid (R2.out.below b11)
  replace R3 := Lib.hid (R3.out.below b11)
  replace R4 := Lib.hid (R4.out.below b11)
  replace R5 := Lib.hid (R5.out.below b11)
  clear b11
  go_wp2
  go_ret
  exact ⟨rfl, B11.out⟩
set_option maxRecDepth 100000 in
set_option maxHeartbeats 8000000 in
theorem afters_22 (m : Nat) (v0 v1 v2 v3 : Value) (A B P Q : List Int) (n0 n1 n2 n3 : Nat) (w : World) (hL0 : ∀ W, Below w.heap.size w W → LstC v0 A n0 W) (hL1 : ∀ W, Below w.heap.size w W → LstC v1 B n1 W) (hL2 : ∀ W, Below w.heap.size w W → LstC v2 P n2 W) (hL3 : ∀ W, Below w.heap.size w W → LstC v3 Q n3 W)
    (h0 : A.length = n0 ∧ n0 ≤ 65) (h1 : B.length = n1 ∧ n1 ≤ 65) (h2 : P.length = n2 ∧ n2 ≤ 65) (h3 : Q.length = n3 ∧ n3 ≤ 65) (hm : 2 ≤ m) (hm2 : m ≤ 64) (hf : funcB m A = true) (hg : funcB m B = true) (hp : polyB m P = true) (hq : polyB m Q = true) : Calls Try.prog 6 #[.int .i64 m, .agg #[v0, v1, v2, v3]] w fun e w' => e = .returned (.bool true) ∧ Below w.heap.size w w' := by
  have hmb : modB (m : Int) = true := decide_eq_true (by omega)
  obtain ⟨e0, i0⟩ := funcB_parts hf
  obtain ⟨e1, i1⟩ := funcB_parts hg
  have q0 : n0 = m := by omega
  have q1 : n1 = m := by omega
  rw [q0] at hL0 h0
  rw [q1] at hL1 h1
  have HAf : Hid (∀ a b cap c2 W, Row W a m (intL A) → Row W b m (intL B) → Calls Try.prog 49 #[.int .i64 m, .slice a m cap, .slice b m c2] W fun e w' => ∃ v, e = .returned (.tuple #[v, .int .i64 0]) ∧ w'.ownsRow W.heap.size 3 1 v m (intL (afterL m A B)) ∧ Below W.heap.size W w') := fun a b cap c2 w hr hr2 => After_yes m a b cap c2 A B w hr hr2 hm hm2 i0 i1
  have HRa := Lib.hid fun a b cap c2 w hr hr2 => refAfter_any m a b cap c2 A B w hr hr2 hm2 i0
  have HI := Lib.hid fun a b ca cb W h1 h2 => ints_true a b m ca cb (afterL m A B) W h1 h2 (by omega)
  have hFA := fun a cap w hr => refFunc_any m a m cap A w hr (by omega)
  rw [func_ref hmb h0.1, hf] at hFA
  have HFA := Lib.hid hFA
  have hFB := fun a cap w hr => refFunc_any m a m cap B w hr (by omega)
  rw [func_ref hmb h1.1, hg] at hFB
  have HFB := Lib.hid hFB
  generalize afterL m A B = L at HAf HRa HI
  clear hf hFA hg hFB e0 e1 i0 i1 q0 q1
  have hM := fun w => refModulus_any (m : Int) w
  rw [hmb] at hM
  have HM := Lib.hid hM
  obtain ⟨_, j0⟩ := polyB_parts hp
  obtain ⟨_, j1⟩ := polyB_parts hq
  have hSm := fun a b cap c2 w hr hr2 => Same_yes m a b n2 cap n3 c2 P Q w hr hp hr2 hq
  rw [same_differ] at hSm
  have HVP := Lib.hid fun a cap w hr => refValues_any m a n2 cap P w hr (by omega) hm hm2 j0
  have HVQ := Lib.hid fun a cap w hr => refValues_any m a n3 cap Q w hr (by omega) hm hm2 j1
  have hDf := fun a b ca cb w hr hr2 => refDiffer_any m a b ca cb (valuesL m P) (valuesL m Q) w hr hr2 hm2
  generalize differR m (valuesL m P) (valuesL m Q) = D at hSm hDf
  have HSm := Lib.hid hSm
  have HDf := Lib.hid hDf
  have hPA := fun a cap w hr => refPoly_any m a n2 cap P w hr (by omega)
  rw [poly_ref hmb h2.1, hp] at hPA
  have HPA := Lib.hid hPA
  have hPB := fun a cap w hr => refPoly_any m a n3 cap Q w hr (by omega)
  rw [poly_ref hmb h3.1, hq] at hPB
  have HPB := Lib.hid hPB
  generalize valuesL m P = VP at HVP HDf
  generalize valuesL m Q = VQ at HVQ HDf
  clear hp hPA hq hPB j0 j1 hSm hDf
  clear hM hmb h0 h1 h2 h3
  have HL0 : Hid (∀ W, Below w.heap.size w W → Calls Try.prog 17 #[v0] W fun e w' => ∃ r, e = .returned r ∧ w'.ownsRow W.heap.size 3 1 r m (intL A) ∧ Below W.heap.size W w') := hL0
  have HL1 : Hid (∀ W, Below w.heap.size w W → Calls Try.prog 17 #[v1] W fun e w' => ∃ r, e = .returned r ∧ w'.ownsRow W.heap.size 3 1 r m (intL B) ∧ Below W.heap.size W w') := hL1
  have HL2 : Hid (∀ W, Below w.heap.size w W → Calls Try.prog 17 #[v2] W fun e w' => ∃ r, e = .returned r ∧ w'.ownsRow W.heap.size 3 1 r n2 (intL P) ∧ Below W.heap.size W w') := hL2
  have HL3 : Hid (∀ W, Below w.heap.size w W → Calls Try.prog 17 #[v3] W fun e w' => ∃ r, e = .returned r ∧ w'.ownsRow W.heap.size 3 1 r n3 (intL Q) ∧ Below W.heap.size W w') := hL3
  have HA := Lib.hid fun w => awake_any w
  obtain ⟨hb, hk⟩ := box_four w v0 v1 v2 v3 53
  clear hL0 hL1 hL2 hL3
  go_enter Try.func6, Try.ntmps6
  go_wp2_with fail
  generalize w.alloc (.cells #[v0, v1, v2, v3] 53) = w1 at *
  obtain ⟨s0, s1, s2, s3⟩ := hk w1 (Below.refl _ _)
  have HK := Lib.hid hk
  have C1 := Lib.hid hb
  clear hk hb
  go_region_held3 (fun w' => w'.cell? ⟨w.heap.size, 0, none⟩ = some v0 ∧ w'.cell? ⟨w.heap.size, 1, none⟩ = some v1 ∧ w'.cell? ⟨w.heap.size, 2, none⟩ = some v2 ∧ w'.cell? ⟨w.heap.size, 3, none⟩ = some v3)
    (first | exact ⟨s0, s1, s2, s3⟩ | exact HC1.out | exact HC2.out | exact HC3.out | exact HC4.out)
    (first
      | (go_at_call 17; with_reducible refine (HL0.out _ C1.out.drew).mono ?_; rintro e y1 ⟨l0, rfl, o1, z1⟩; have zz := undrew1 z1; have HZ1 := Lib.hid zz; have HO1 := Lib.hid o1; have HC1 := Lib.hid (HK.out y1 zz))
      | (go_at_call 17; with_reducible refine (HL1.out _ (b_next C1.out HZ1.out)).mono ?_; rintro e y2 ⟨l1, rfl, o2, z2⟩; have zz2 := b_next HZ1.out z2; have HZ2 := Lib.hid zz2; have Hz2 := Lib.hid z2; have HO2 := Lib.hid o2; have HC2 := Lib.hid (HK.out y2 zz2))
      | (go_at_call 17; with_reducible refine (HL2.out _ (b_next C1.out HZ2.out)).mono ?_; rintro e y3 ⟨l2, rfl, o3, z3⟩; have zz3 := b_next HZ2.out z3; have HZ3 := Lib.hid zz3; have Hz3 := Lib.hid z3; have HO3 := Lib.hid o3; have HC3 := Lib.hid (HK.out y3 zz3))
      | (go_at_call 17; with_reducible refine (HL3.out _ (b_next C1.out HZ3.out)).mono ?_; rintro e y4 ⟨l3, rfl, o4, z4⟩; have zz4 := b_next HZ3.out z4; have HO4 := Lib.hid o4; have Hz4 := Lib.hid z4; have HZ4 := Lib.hid zz4; have HC4 := Lib.hid (HK.out y4 zz4)))
  obtain ⟨a0, c0, rfl, -, hR0⟩ := own_slice HO1.out
  obtain ⟨a1, c1, rfl, -, hR1⟩ := own_slice HO2.out
  obtain ⟨a2, c2, rfl, -, hR2⟩ := own_slice HO3.out
  obtain ⟨a3, c3, rfl, -, hR3⟩ := own_slice HO4.out
  have R0 := Lib.hid (((hR0.below Hz2.out).below Hz3.out).below Hz4.out)
  have R1 := Lib.hid ((hR1.below Hz3.out).below Hz4.out)
  have R2 := Lib.hid (hR2.below Hz4.out)
  have R3 := Lib.hid hR3
  have B0 := Lib.hid (b_next C1.out HZ4.out)
  clear hR0 hR1 hR2 hR3 HO1 HO2 HO3 HO4 HC1 HC2 HC3 HC4 HZ1 HZ2 HZ3 HZ4 Hz2 Hz3 Hz4 HK C1 HL0 HL1 HL2 HL3 s0 s1 s2 s3 o1 o2 o3 o4 z1 z2 z3 z4 zz zz2 zz3 zz4
  generalize y4 = wz at *
  go_wp2_with fail
  refine (HAf.out _ _ _ _ _ R0.out R1.out).mono ?_
  rintro e w1 ⟨v1, rfl, ho, b1⟩
  have B1 := Lib.hid (b_next B0.out b1)
  clear B0
  replace R0 := Lib.hid (R0.out.below b1)
  replace R1 := Lib.hid (R1.out.below b1)
  replace R2 := Lib.hid (R2.out.below b1)
  replace R3 := Lib.hid (R3.out.below b1)
  clear b1
  obtain ⟨a4, c4, hv, hc4, r1⟩ := own_slice ho
  subst v1
  have R4 := Lib.hid r1
  clear ho r1
  go_wp2_with fail
  refine (HSm.out _ _ _ _ _ R2.out R3.out).mono ?_
  rintro e w2 ⟨rfl, b2⟩
  have B2 := Lib.hid (b_next B1.out b2)
  clear B1
  replace R0 := Lib.hid (R0.out.below b2)
  replace R1 := Lib.hid (R1.out.below b2)
  replace R2 := Lib.hid (R2.out.below b2)
  replace R3 := Lib.hid (R3.out.below b2)
  replace R4 := Lib.hid (R4.out.below b2)
  clear b2
  go_wp2_with fail
  refine (HM.out _).mono ?_
  rintro e w3 ⟨rfl, hw⟩
  subst w3
  go_wp2_with fail
  refine (HFA.out _ _ _ R0.out).mono ?_
  rintro e w4 ⟨rfl, hw⟩
  subst w4
  go_wp2_with fail
  refine (HFB.out _ _ _ R1.out).mono ?_
  rintro e w5 ⟨rfl, hw⟩
  subst w5
  go_wp2_with fail
  refine (HRa.out _ _ _ _ _ R0.out R1.out).mono ?_
  rintro e w6 ⟨v6, rfl, ho, b6⟩
  have B6 := Lib.hid (b_next B2.out b6)
  clear B2
  replace R0 := Lib.hid (R0.out.below b6)
  replace R1 := Lib.hid (R1.out.below b6)
  replace R2 := Lib.hid (R2.out.below b6)
  replace R3 := Lib.hid (R3.out.below b6)
  replace R4 := Lib.hid (R4.out.below b6)
  clear b6
  obtain ⟨a5, c5, hv, hc5, r6⟩ := own_slice ho
  subst v6
  have R5 := Lib.hid r6
  clear ho r6
  go_wp2_with fail
  refine (HI.out _ _ _ _ _ R4.out R5.out).mono ?_
  rintro e w7 ⟨rfl, hq⟩
  have b7 := drew_below hq
  clear hq
  have B7 := Lib.hid (b_next B6.out b7)
  clear B6
  replace R0 := Lib.hid (R0.out.below b7)
  replace R1 := Lib.hid (R1.out.below b7)
  replace R2 := Lib.hid (R2.out.below b7)
  replace R3 := Lib.hid (R3.out.below b7)
  replace R4 := Lib.hid (R4.out.below b7)
  replace R5 := Lib.hid (R5.out.below b7)
  clear b7
  go_wp2_with fail
  refine (HM.out _).mono ?_
  rintro e w8 ⟨rfl, hw⟩
  subst w8
  go_wp2_with fail
  refine (HPA.out _ _ _ R2.out).mono ?_
  rintro e w9 ⟨rfl, hw⟩
  subst w9
  go_wp2_with fail
  refine (HPB.out _ _ _ R3.out).mono ?_
  rintro e w10 ⟨rfl, hw⟩
  subst w10
  go_wp2_with fail
  refine (HVP.out _ _ _ R2.out).mono ?_
  rintro e w11 ⟨v11, rfl, ho, b11⟩
  have B11 := Lib.hid (b_next B7.out b11)
  clear B7
  replace R0 := Lib.hid (R0.out.below b11)
  replace R1 := Lib.hid (R1.out.below b11)
  replace R2 := Lib.hid (R2.out.below b11)
  replace R3 := Lib.hid (R3.out.below b11)
  replace R4 := Lib.hid (R4.out.below b11)
  replace R5 := Lib.hid (R5.out.below b11)
  clear b11
  obtain ⟨a6, c6, hv, hc6, r11⟩ := own_slice ho
  subst v11
  have R6 := Lib.hid r11
  clear ho r11
  go_wp2_with fail
  refine (HVQ.out _ _ _ R3.out).mono ?_
  rintro e w12 ⟨v12, rfl, ho, b12⟩
  have B12 := Lib.hid (b_next B11.out b12)
  clear B11
  replace R0 := Lib.hid (R0.out.below b12)
  replace R1 := Lib.hid (R1.out.below b12)
  replace R2 := Lib.hid (R2.out.below b12)
  replace R3 := Lib.hid (R3.out.below b12)
  replace R4 := Lib.hid (R4.out.below b12)
  replace R5 := Lib.hid (R5.out.below b12)
  replace R6 := Lib.hid (R6.out.below b12)
  clear b12
  obtain ⟨a7, c7, hv, hc7, r12⟩ := own_slice ho
  subst v12
  have R7 := Lib.hid r12
  clear ho r12
  go_wp2_with fail
  refine (HDf.out _ _ _ _ _ R6.out R7.out).mono ?_
  rintro e w13 ⟨rfl, hq⟩
  have b13 := drew_below hq
  clear hq
  have B13 := Lib.hid (b_next B12.out b13)
  clear B12
  replace R0 := Lib.hid (R0.out.below b13)
  replace R1 := Lib.hid (R1.out.below b13)
  replace R2 := Lib.hid (R2.out.below b13)
  replace R3 := Lib.hid (R3.out.below b13)
  replace R4 := Lib.hid (R4.out.below b13)
  replace R5 := Lib.hid (R5.out.below b13)
  replace R6 := Lib.hid (R6.out.below b13)
  replace R7 := Lib.hid (R7.out.below b13)
  clear b13
  go_wp2_with fail
  refine (HA.out _).mono ?_
  rintro e w14 ⟨rfl, b14⟩
  have B14 := Lib.hid (b_next B13.out b14)
  clear B13
  replace R0 := Lib.hid (R0.out.below b14)
  replace R1 := Lib.hid (R1.out.below b14)
  replace R2 := Lib.hid (R2.out.below b14)
  replace R3 := Lib.hid (R3.out.below b14)
  replace R4 := Lib.hid (R4.out.below b14)
  replace R5 := Lib.hid (R5.out.below b14)
  replace R6 := Lib.hid (R6.out.below b14)
  replace R7 := Lib.hid (R7.out.below b14)
  clear b14
  go_wp2
  go_ret
  exact ⟨rfl, B14.out⟩
theorem afters_all (m : Int) (v0 v1 v2 v3 : Value) (r0 r1 r2 r3 : List Int) (w : World) (h0 : RowIn w v0 r0) (h1 : RowIn w v1 r1) (h2 : RowIn w v2 r2) (h3 : RowIn w v3 r3) : Calls Try.prog 6 #[.int .i64 m, .agg #[v0, v1, v2, v3]] w fun e w' => e = .returned (.bool true) ∧ Below w.heap.size w w' := by
  have hL0 := fun W (hW : Below w.heap.size w W) => list_in v0 r0 W (h0.below hW)
  have hL1 := fun W (hW : Below w.heap.size w W) => list_in v1 r1 W (h1.below hW)
  have hL2 := fun W (hW : Below w.heap.size w W) => list_in v2 r2 W (h2.below hW)
  have hL3 := fun W (hW : Below w.heap.size w W) => list_in v3 r3 W (h3.below hW)
  have n0 := cutL_le r0
  have n1 := cutL_le r1
  have n2 := cutL_le r2
  have n3 := cutL_le r3
  generalize cutL r0 = A at *
  generalize cutL r1 = B at *
  generalize cutL r2 = P at *
  generalize cutL r3 = Q at *
  cases hm : modB m with
  | false => exact afters_x m v0 v1 v2 v3 A B P Q _ _ _ _ w hL0 hL1 hL2 hL3 ⟨rfl, n0⟩ ⟨rfl, n1⟩ ⟨rfl, n2⟩ ⟨rfl, n3⟩ hm
  | true =>
    obtain ⟨k, rfl, hk, hk2⟩ := modB_nat hm
    cases hf : funcB k A with
    | false =>
      cases hp : polyB k P with
      | false => exact afters_00 k v0 v1 v2 v3 A B P Q _ _ _ _ w hL0 hL1 hL2 hL3 ⟨rfl, n0⟩ ⟨rfl, n1⟩ ⟨rfl, n2⟩ ⟨rfl, n3⟩ hk hk2 hf hp
      | true =>
        cases hq : polyB k Q with
        | false => exact afters_01 k v0 v1 v2 v3 A B P Q _ _ _ _ w hL0 hL1 hL2 hL3 ⟨rfl, n0⟩ ⟨rfl, n1⟩ ⟨rfl, n2⟩ ⟨rfl, n3⟩ hk hk2 hf hp hq
        | true => exact afters_02 k v0 v1 v2 v3 A B P Q _ _ _ _ w hL0 hL1 hL2 hL3 ⟨rfl, n0⟩ ⟨rfl, n1⟩ ⟨rfl, n2⟩ ⟨rfl, n3⟩ hk hk2 hf hp hq
    | true =>
      cases hg : funcB k B with
      | false =>
        cases hp : polyB k P with
        | false => exact afters_10 k v0 v1 v2 v3 A B P Q _ _ _ _ w hL0 hL1 hL2 hL3 ⟨rfl, n0⟩ ⟨rfl, n1⟩ ⟨rfl, n2⟩ ⟨rfl, n3⟩ hk hk2 hf hg hp
        | true =>
          cases hq : polyB k Q with
          | false => exact afters_11 k v0 v1 v2 v3 A B P Q _ _ _ _ w hL0 hL1 hL2 hL3 ⟨rfl, n0⟩ ⟨rfl, n1⟩ ⟨rfl, n2⟩ ⟨rfl, n3⟩ hk hk2 hf hg hp hq
          | true => exact afters_12 k v0 v1 v2 v3 A B P Q _ _ _ _ w hL0 hL1 hL2 hL3 ⟨rfl, n0⟩ ⟨rfl, n1⟩ ⟨rfl, n2⟩ ⟨rfl, n3⟩ hk hk2 hf hg hp hq
      | true =>
        cases hp : polyB k P with
        | false => exact afters_20 k v0 v1 v2 v3 A B P Q _ _ _ _ w hL0 hL1 hL2 hL3 ⟨rfl, n0⟩ ⟨rfl, n1⟩ ⟨rfl, n2⟩ ⟨rfl, n3⟩ hk hk2 hf hg hp
        | true =>
          cases hq : polyB k Q with
          | false => exact afters_21 k v0 v1 v2 v3 A B P Q _ _ _ _ w hL0 hL1 hL2 hL3 ⟨rfl, n0⟩ ⟨rfl, n1⟩ ⟨rfl, n2⟩ ⟨rfl, n3⟩ hk hk2 hf hg hp hq
          | true => exact afters_22 k v0 v1 v2 v3 A B P Q _ _ _ _ w hL0 hL1 hL2 hL3 ⟨rfl, n0⟩ ⟨rfl, n1⟩ ⟨rfl, n2⟩ ⟨rfl, n3⟩ hk hk2 hf hg hp hq
theorem walk_ShuffleAfters (x : Int) (_ : (Lit.int .i64 x).wf = true) (v0 v1 v2 v3 : Value) (r0 r1 r2 r3 : List Int) (w : World) (h0 : RowIn w v0 r0) (h1 : RowIn w v1 r1) (h2 : RowIn w v2 r2) (h3 : RowIn w v3 r3) : Calls Try.prog 6 #[.int .i64 x, .agg #[v0, v1, v2, v3]] w fun e w' => e = .returned (.bool true) ∧ Below w.heap.size w w' := afters_all x v0 v1 v2 v3 r0 r1 r2 r3 w h0 h1 h2 h3
end Go.Proofs.Ythmdlkaanjjbkaa
