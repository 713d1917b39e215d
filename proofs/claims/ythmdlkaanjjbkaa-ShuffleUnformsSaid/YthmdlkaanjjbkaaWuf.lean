/- The walk of Unforms. -/
import Derived.Test.YthmdlkaanjjbkaaRuf
import Derived.Test.YthmdlkaanjjbkaaRcnt
import Derived.Test.YthmdlkaanjjbkaaLst
namespace Go.Proofs.Ythmdlkaanjjbkaa
set_option linter.unusedVariables false
open Go.RowKit

theorem count_both (m : Nat) : ∃ o, cntL 1 (limL m) = o ∧ countR m = (match o with | some c => (c, 0) | none => (0, 5)) ∧ countB m = (match o with | some c => (c, true) | none => (0, false)) := ⟨_, rfl, rfl, rfl⟩
set_option maxRecDepth 100000 in
set_option maxHeartbeats 4000000 in
theorem unforms_no (m : Int) (v : Value) (row : List Int) (w : World) (hR : RowIn w v row) (hm : modB m = false) : Calls Try.prog 5 #[.int .i64 m, v] w fun e w' => e = .returned (.bool true) ∧ Below w.heap.size w w' := by
  have HL := Lib.hid (list_in v row w hR)
  have HU := Lib.hid fun v w => Unform_mod m v w hm
  have hD := fun w => Degree_any m w
  rw [hm, if_neg (by decide)] at hD
  have HD := Lib.hid hD
  have HC := Lib.hid fun w => Count_no m w hm
  have hM := fun w => refModulus_any m w
  rw [hm] at hM
  have HM := Lib.hid hM
  have HA := Lib.hid fun w => awake_any w
  clear hD hM hm hR
  go_enter Try.func5, Try.ntmps5
  go_wp2_with fail
  refine (HL.out).mono ?_
  rintro e w1 ⟨v1, rfl, ho, b1⟩
  have B1 := Lib.hid b1
  clear b1
  obtain ⟨a1, c1, hv, hc1, r1⟩ := own_slice ho
  subst v1
  have R1 := Lib.hid r1
  clear ho r1
  go_wp2_with fail
  refine (HU.out _ _).mono ?_
  rintro e w2 ⟨rfl, b2⟩
  have B2 := Lib.hid (b_next B1.out b2)
  clear B1
  replace R1 := Lib.hid (R1.out.below b2)
  clear b2
  go_wp2_with fail
  refine (HD.out _).mono ?_
  rintro e w3 ⟨rfl, b3⟩
  have B3 := Lib.hid (b_next B2.out b3)
  clear B2
  replace R1 := Lib.hid (R1.out.below b3)
  clear b3
  go_wp2_with fail
  refine (HC.out _).mono ?_
  rintro e w4 ⟨rfl, b4⟩
  have B4 := Lib.hid (b_next B3.out b4)
  clear B3
  replace R1 := Lib.hid (R1.out.below b4)
  clear b4
  go_wp2_with fail
  refine (HM.out _).mono ?_
  rintro e w5 ⟨rfl, hw⟩
  subst w5
  go_wp2_with fail
  refine (HA.out _).mono ?_
  rintro e w6 ⟨rfl, b6⟩
  have B6 := Lib.hid (b_next B4.out b6)
  clear B4
  replace R1 := Lib.hid (R1.out.below b6)
  clear b6
  go_wp2
  go_ret
  exact ⟨rfl, B6.out⟩
set_option maxRecDepth 100000 in
set_option maxHeartbeats 4000000 in
theorem unforms_yes (m : Nat) (v : Value) (row : List Int) (w : World) (hR : RowIn w v row) (hm : 2 ≤ m) (hm2 : m ≤ 64) : Calls Try.prog 5 #[.int .i64 m, v] w fun e w' => e = .returned (.bool true) ∧ Below w.heap.size w w' := by
  have hmb : modB (m : Int) = true := decide_eq_true (by omega)
  have hL := list_in v row w hR
  have hcl := cutL_le row
  generalize cutL row = xs at hL hcl
  have hD := fun w => Degree_any (m : Int) w
  rw [hmb, if_pos rfl, Int.toNat_natCast] at hD
  have hCc := fun w => Count_yes m w hm hm2
  have hCb := fun w => refCount_any m w hm hm2
  have hDr := fun w => refDegree_any m w hm hm2
  obtain ⟨o, _, ho1, ho2⟩ := count_both m
  rw [ho1] at hCc
  rw [ho2] at hCb
  have hM := fun w => refModulus_any (m : Int) w
  rw [hmb] at hM
  have hfe := formed_eq hm hm2 xs
  have hyes := fun h a n cap w hr hc => Unform_yes m a n cap xs w hr hc hm hm2 h
  have hno := fun h a n cap w hr hc hn => Unform_form m a n cap xs w hr hn hc hm hm2 h
  have hF := fun a n cap W hW hn => refFormed_any m a n cap xs W hW hn hm hm2
  have hin := fun (h2 : m ≤ 64) h => formB_pos (xs := xs) h2 h
  have hRu := fun a n cap W hW hn hi => refUnform_any m a n cap xs W hW hn hm hm2 hi
  rw [hfe] at hF
  obtain ⟨n, hxn⟩ : ∃ n, xs.length = n := ⟨_, rfl⟩
  rw [hxn] at hcl hL
  have hI := fun a b ca cb W h1 h2 => ints_true a b m ca cb ((List.range m).map fun x : Nat => formV m xs x) W h1 h2 (by omega)
  generalize degN m = d at hD hDr
  generalize ((List.range m).map fun x : Nat => formV m xs x) = L at *
  have HL := Lib.hid hL
  have HD := Lib.hid hD
  have HDr := Lib.hid hDr
  have HM := Lib.hid hM
  have HCc := Lib.hid hCc
  have HCb := Lib.hid hCb
  have HA := Lib.hid fun w => awake_any w
  have Hcl := Lib.hid hcl
  cases hfb : formB m xs with
  | true =>
    rw [hfb] at hF
    have HF := Lib.hid hF
    have HU := Lib.hid (hyes hfb)
    have HRu := Lib.hid hRu
    have Hin := Lib.hid (hin hm2 hfb)
    have HI := Lib.hid hI
    clear hyes hno hin hRu hI hfb hF hfe hL hD hDr hM hCc hCb ho1 ho2 hxn hcl hmb hR
    cases o with
    | none =>
      simp only at HCc HCb
      go_enter Try.func5, Try.ntmps5
      go_wp2_with fail
      refine (HL.out).mono ?_
      rintro e w1 ⟨v1, rfl, ho, b1⟩
      have B1 := Lib.hid b1
      clear b1
      obtain ⟨a1, c1, hv, hc1, r1⟩ := own_slice ho
      subst v1
      have R1 := Lib.hid r1
      clear ho r1
      go_wp2_with fail
      refine (HU.out _ _ _ _ R1.out hc1).mono ?_
      rintro e w2 ⟨v2, rfl, ho, b2⟩
      have B2 := Lib.hid (b_next B1.out b2)
      clear B1
      replace R1 := Lib.hid (R1.out.below b2)
      clear b2
      obtain ⟨a2, c2, hv, hc2, r2⟩ := own_slice ho
      subst v2
      have R2 := Lib.hid r2
      clear ho r2
      go_wp2_with fail
      refine (HD.out _).mono ?_
      rintro e w3 ⟨rfl, b3⟩
      have B3 := Lib.hid (b_next B2.out b3)
      clear B2
      replace R1 := Lib.hid (R1.out.below b3)
      replace R2 := Lib.hid (R2.out.below b3)
      clear b3
      go_wp2_with fail
      refine (HCc.out _).mono ?_
      rintro e w4 ⟨rfl, b4⟩
      have B4 := Lib.hid (b_next B3.out b4)
      clear B3
      replace R1 := Lib.hid (R1.out.below b4)
      replace R2 := Lib.hid (R2.out.below b4)
      clear b4
      go_wp2_with fail
      refine (HM.out _).mono ?_
      rintro e w5 ⟨rfl, hw⟩
      subst w5
      go_wp2_with fail
      refine (HCb.out _).mono ?_
      rintro e w6 ⟨rfl, hw⟩
      subst w6
      go_wp2_with fail
      refine (HDr.out _).mono ?_
      rintro e w7 ⟨rfl, hw⟩
      subst w7
      go_wp2_with fail
      refine (HF.out _ _ _ _ R1.out (by have := Hcl.out; omega)).mono ?_
      rintro e w8 ⟨rfl, hq⟩
      have b8 := drew_below hq
      clear hq
      have B8 := Lib.hid (b_next B4.out b8)
      clear B4
      replace R1 := Lib.hid (R1.out.below b8)
      replace R2 := Lib.hid (R2.out.below b8)
      clear b8
      go_wp2_with fail
      refine (HRu.out _ _ _ _ R1.out (by have := Hcl.out; omega) Hin.out).mono ?_
      rintro e w9 ⟨v9, rfl, ho, b9⟩
      have B9 := Lib.hid (b_next B8.out b9)
      clear B8
      replace R1 := Lib.hid (R1.out.below b9)
      replace R2 := Lib.hid (R2.out.below b9)
      clear b9
      obtain ⟨a3, c3, hv, hc3, r9⟩ := own_slice ho
      subst v9
      have R3 := Lib.hid r9
      clear ho r9
      go_wp2_with fail
      refine (HI.out _ _ _ _ _ R2.out R3.out).mono ?_
      rintro e w10 ⟨rfl, hq⟩
      have b10 := drew_below hq
      clear hq
      have B10 := Lib.hid (b_next B9.out b10)
      clear B9
      replace R1 := Lib.hid (R1.out.below b10)
      replace R2 := Lib.hid (R2.out.below b10)
      replace R3 := Lib.hid (R3.out.below b10)
      clear b10
      go_wp2_with fail
      refine (HA.out _).mono ?_
      rintro e w11 ⟨rfl, b11⟩
      have B11 := Lib.hid (b_next B10.out b11)
      clear B10
      replace R1 := Lib.hid (R1.out.below b11)
      replace R2 := Lib.hid (R2.out.below b11)
      replace R3 := Lib.hid (R3.out.below b11)
      clear b11
      go_wp2
      go_ret
      exact ⟨rfl, B11.out⟩
    | some c =>
      simp only at HCc HCb
      go_enter Try.func5, Try.ntmps5
      go_wp2_with fail
      refine (HL.out).mono ?_
      rintro e w1 ⟨v1, rfl, ho, b1⟩
      have B1 := Lib.hid b1
      clear b1
      obtain ⟨a1, c1, hv, hc1, r1⟩ := own_slice ho
      subst v1
      have R1 := Lib.hid r1
      clear ho r1
      go_wp2_with fail
      refine (HU.out _ _ _ _ R1.out hc1).mono ?_
      rintro e w2 ⟨v2, rfl, ho, b2⟩
      have B2 := Lib.hid (b_next B1.out b2)
      clear B1
      replace R1 := Lib.hid (R1.out.below b2)
      clear b2
      obtain ⟨a2, c2, hv, hc2, r2⟩ := own_slice ho
      subst v2
      have R2 := Lib.hid r2
      clear ho r2
      go_wp2_with fail
      refine (HD.out _).mono ?_
      rintro e w3 ⟨rfl, b3⟩
      have B3 := Lib.hid (b_next B2.out b3)
      clear B2
      replace R1 := Lib.hid (R1.out.below b3)
      replace R2 := Lib.hid (R2.out.below b3)
      clear b3
      go_wp2_with fail
      refine (HCc.out _).mono ?_
      rintro e w4 ⟨rfl, b4⟩
      have B4 := Lib.hid (b_next B3.out b4)
      clear B3
      replace R1 := Lib.hid (R1.out.below b4)
      replace R2 := Lib.hid (R2.out.below b4)
      clear b4
      go_wp2_with fail
      refine (HM.out _).mono ?_
      rintro e w5 ⟨rfl, hw⟩
      subst w5
      go_wp2_with fail
      refine (HCb.out _).mono ?_
      rintro e w6 ⟨rfl, hw⟩
      subst w6
      go_wp2_with fail
      refine (HDr.out _).mono ?_
      rintro e w7 ⟨rfl, hw⟩
      subst w7
      go_wp2_with fail
      refine (HF.out _ _ _ _ R1.out (by have := Hcl.out; omega)).mono ?_
      rintro e w8 ⟨rfl, hq⟩
      have b8 := drew_below hq
      clear hq
      have B8 := Lib.hid (b_next B4.out b8)
      clear B4
      replace R1 := Lib.hid (R1.out.below b8)
      replace R2 := Lib.hid (R2.out.below b8)
      clear b8
      go_wp2_with fail
      refine (HRu.out _ _ _ _ R1.out (by have := Hcl.out; omega) Hin.out).mono ?_
      rintro e w9 ⟨v9, rfl, ho, b9⟩
      have B9 := Lib.hid (b_next B8.out b9)
      clear B8
      replace R1 := Lib.hid (R1.out.below b9)
      replace R2 := Lib.hid (R2.out.below b9)
      clear b9
      obtain ⟨a3, c3, hv, hc3, r9⟩ := own_slice ho
      subst v9
      have R3 := Lib.hid r9
      clear ho r9
      go_wp2_with fail
      refine (HI.out _ _ _ _ _ R2.out R3.out).mono ?_
      rintro e w10 ⟨rfl, hq⟩
      have b10 := drew_below hq
      clear hq
      have B10 := Lib.hid (b_next B9.out b10)
      clear B9
      replace R1 := Lib.hid (R1.out.below b10)
      replace R2 := Lib.hid (R2.out.below b10)
      replace R3 := Lib.hid (R3.out.below b10)
      clear b10
      go_wp2_with fail
      refine (HA.out _).mono ?_
      rintro e w11 ⟨rfl, b11⟩
      have B11 := Lib.hid (b_next B10.out b11)
      clear B10
      replace R1 := Lib.hid (R1.out.below b11)
      replace R2 := Lib.hid (R2.out.below b11)
      replace R3 := Lib.hid (R3.out.below b11)
      clear b11
      go_wp2
      go_ret
      exact ⟨rfl, B11.out⟩
  | false =>
    rw [hfb] at hF
    have HF := Lib.hid hF
    have HU := Lib.hid (hno hfb)
    clear hyes hno hin hRu hI hfb hF hfe hL hD hDr hM hCc hCb ho1 ho2 hxn hcl hmb hR
    cases o with
    | none =>
      simp only at HCc HCb
      go_enter Try.func5, Try.ntmps5
      go_wp2_with fail
      refine (HL.out).mono ?_
      rintro e w1 ⟨v1, rfl, ho, b1⟩
      have B1 := Lib.hid b1
      clear b1
      obtain ⟨a1, c1, hv, hc1, r1⟩ := own_slice ho
      subst v1
      have R1 := Lib.hid r1
      clear ho r1
      go_wp2_with fail
      refine (HU.out _ _ _ _ R1.out hc1 (by have := Hcl.out; omega)).mono ?_
      rintro e w2 ⟨rfl, b2⟩
      have B2 := Lib.hid (b_next B1.out b2)
      clear B1
      replace R1 := Lib.hid (R1.out.below b2)
      clear b2
      go_wp2_with fail
      refine (HD.out _).mono ?_
      rintro e w3 ⟨rfl, b3⟩
      have B3 := Lib.hid (b_next B2.out b3)
      clear B2
      replace R1 := Lib.hid (R1.out.below b3)
      clear b3
      go_wp2_with fail
      refine (HCc.out _).mono ?_
      rintro e w4 ⟨rfl, b4⟩
      have B4 := Lib.hid (b_next B3.out b4)
      clear B3
      replace R1 := Lib.hid (R1.out.below b4)
      clear b4
      go_wp2_with fail
      refine (HM.out _).mono ?_
      rintro e w5 ⟨rfl, hw⟩
      subst w5
      go_wp2_with fail
      refine (HCb.out _).mono ?_
      rintro e w6 ⟨rfl, hw⟩
      subst w6
      go_wp2_with fail
      refine (HDr.out _).mono ?_
      rintro e w7 ⟨rfl, hw⟩
      subst w7
      go_wp2_with fail
      refine (HF.out _ _ _ _ R1.out (by have := Hcl.out; omega)).mono ?_
      rintro e w8 ⟨rfl, hq⟩
      have b8 := drew_below hq
      clear hq
      have B8 := Lib.hid (b_next B4.out b8)
      clear B4
      replace R1 := Lib.hid (R1.out.below b8)
      clear b8
      go_wp2_with fail
      refine (HA.out _).mono ?_
      rintro e w9 ⟨rfl, b9⟩
      have B9 := Lib.hid (b_next B8.out b9)
      clear B8
      replace R1 := Lib.hid (R1.out.below b9)
      clear b9
      go_wp2
      go_ret
      exact ⟨rfl, B9.out⟩
    | some c =>
      simp only at HCc HCb
      go_enter Try.func5, Try.ntmps5
      go_wp2_with fail
      refine (HL.out).mono ?_
      rintro e w1 ⟨v1, rfl, ho, b1⟩
      have B1 := Lib.hid b1
      clear b1
      obtain ⟨a1, c1, hv, hc1, r1⟩ := own_slice ho
      subst v1
      have R1 := Lib.hid r1
      clear ho r1
      go_wp2_with fail
      refine (HU.out _ _ _ _ R1.out hc1 (by have := Hcl.out; omega)).mono ?_
      rintro e w2 ⟨rfl, b2⟩
      have B2 := Lib.hid (b_next B1.out b2)
      clear B1
      replace R1 := Lib.hid (R1.out.below b2)
      clear b2
      go_wp2_with fail
      refine (HD.out _).mono ?_
      rintro e w3 ⟨rfl, b3⟩
      have B3 := Lib.hid (b_next B2.out b3)
      clear B2
      replace R1 := Lib.hid (R1.out.below b3)
      clear b3
      go_wp2_with fail
      refine (HCc.out _).mono ?_
      rintro e w4 ⟨rfl, b4⟩
      have B4 := Lib.hid (b_next B3.out b4)
      clear B3
      replace R1 := Lib.hid (R1.out.below b4)
      clear b4
      go_wp2_with fail
      refine (HM.out _).mono ?_
      rintro e w5 ⟨rfl, hw⟩
      subst w5
      go_wp2_with fail
      refine (HCb.out _).mono ?_
      rintro e w6 ⟨rfl, hw⟩
      subst w6
      go_wp2_with fail
      refine (HDr.out _).mono ?_
      rintro e w7 ⟨rfl, hw⟩
      subst w7
      go_wp2_with fail
      refine (HF.out _ _ _ _ R1.out (by have := Hcl.out; omega)).mono ?_
      rintro e w8 ⟨rfl, hq⟩
      have b8 := drew_below hq
      clear hq
      have B8 := Lib.hid (b_next B4.out b8)
      clear B4
      replace R1 := Lib.hid (R1.out.below b8)
      clear b8
      go_wp2_with fail
      refine (HA.out _).mono ?_
      rintro e w9 ⟨rfl, b9⟩
      have B9 := Lib.hid (b_next B8.out b9)
      clear B8
      replace R1 := Lib.hid (R1.out.below b9)
      clear b9
      go_wp2
      go_ret
      exact ⟨rfl, B9.out⟩
theorem walk_ShuffleUnforms (x : Int) (_ : (Lit.int .i64 x).wf = true) (pv : Value) (rp : List Int) (w : World) (hP : RowIn w pv rp) : Calls Try.prog 5 #[.int .i64 x, pv] w fun e w' => e = .returned (.bool true) ∧ Below w.heap.size w w' := by
  cases hm : modB x with
  | false => exact unforms_no x pv rp w hP hm
  | true =>
    obtain ⟨k, rfl, hk, hk2⟩ := modB_nat hm
    exact unforms_yes k pv rp w hP hk hk2
end Go.Proofs.Ythmdlkaanjjbkaa
