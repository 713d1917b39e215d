/- YardBelows, a part: for any row and fraction, Below, Next, Before, Nearest and Touching are the specified ones, or the errors. -/
import Derived.Test.YtelipknnfagnjaaAwake
import Derived.Test.YtelipknnfagnjaaFrac
import Derived.Test.YtelipknnfagnjaaRnear
import Derived.Deep.DeepCutAuto
import Derived.ProofKit
import Derived.OpenShut
import Derived.ShutString
import Derived.ChangeOld
import Derived.Lib.SmallJoins
namespace Go.Proofs.Ytelipknnfagnjaa
set_option linter.unusedVariables false
open Go.RowKit Go.Shelf

set_option maxRecDepth 100000 in
set_option maxHeartbeats 16000000 in
theorem ybl_no (n p q : Int) (W : World) (h : (rowB n && validB p q) = false) (ht : rowB n = false ∨ validB p q = false ∨ n < q) :
    Calls Try.prog 4 #[.int .i64 n, .agg #[.int .i64 p, .int .i64 q]] W fun e W' => e = .returned (.bool true) ∧ Below W.heap.size W W' := by
  have HBl := Lib.hid (fun w => Below_no n p q h w)
  have h1 := fun w => Next_no n p q h w
  have h2 := fun w => Before_no n p q h w
  have h3 := fun w => Nearest_no n p q h w
  unfold frV at h1 h2 h3
  simp only [Int.natCast_zero] at h1 h2 h3
  have HNe := Lib.hid h1
  have HBf := Lib.hid h2
  have HNr := Lib.hid h3
  have HTo := Lib.hid (fun w => Touching_no n p q w ht)
  have HR := Lib.hid (fun w => row_16_any n w)
  have HV := Lib.hid (fun w => refValid_any p q w)
  have HH := Lib.hid h
  clear h1 h2 h3 h ht
  have HW := Lib.hid awake_any
  have HF0 := Two.new W 26 p q
  have Hf := Lib.hid HF0
  have HB := Lib.hid (below_alloc W (.cells #[.int .i64 p, .int .i64 q] 26))
  obtain ⟨f0, f1, _, _⟩ := HF0.cells
  have lf := HF0.lt
  clear HF0
  go_enter Try.func4, Try.ntmps4
  go_wp2_with fail
  refine (HBl.out _).mono ?_
  rintro e w11 ⟨rfl, b11⟩
  have Hf' := Lib.hid (Hf.out.below b11)
  have HB' := Lib.hid (b_next HB.out b11)
  clear b11 HB Hf f0 f1 lf
  have Hf := Hf'
  clear Hf'
  have HB := HB'
  clear HB'
  obtain ⟨f0, f1, _, _⟩ := Hf.out.cells
  have lf := Hf.out.lt
  go_wp2_with fail
  refine (HNe.out _).mono ?_
  rintro e w12 ⟨rfl, b12⟩
  have Hf' := Lib.hid (Hf.out.below b12)
  have HB' := Lib.hid (b_next HB.out b12)
  clear b12 HB Hf f0 f1 lf
  have Hf := Hf'
  clear Hf'
  have HB := HB'
  clear HB'
  obtain ⟨f0, f1, _, _⟩ := Hf.out.cells
  have lf := Hf.out.lt
  have Hf' := Lib.hid (Hf.out.below (below_alloc w12 (.cells #[.int .i64 0, .int .i64 0] 26)))
  have HB' := Lib.hid (b_next HB.out (below_alloc w12 (.cells #[.int .i64 0, .int .i64 0] 26)))
  clear HB Hf f0 f1 lf
  have Hf := Hf'
  clear Hf'
  have HB := HB'
  clear HB'
  have Ha := Lib.hid (Two.new w12 26 0 0)
  obtain ⟨f0, f1, _, _⟩ := Hf.out.cells
  have lf := Hf.out.lt
  obtain ⟨a0, a1, _, _⟩ := Ha.out.cells
  have la := Ha.out.lt
  go_wp2_with fail
  refine (HBf.out _).mono ?_
  rintro e w13 ⟨rfl, b13⟩
  have Hf' := Lib.hid (Hf.out.below b13)
  have Ha' := Lib.hid (Ha.out.below b13)
  have HB' := Lib.hid (b_next HB.out b13)
  clear b13 HB Hf Ha f0 f1 lf a0 a1 la
  have Hf := Hf'
  clear Hf'
  have Ha := Ha'
  clear Ha'
  have HB := HB'
  clear HB'
  obtain ⟨f0, f1, _, _⟩ := Hf.out.cells
  have lf := Hf.out.lt
  obtain ⟨a0, a1, _, _⟩ := Ha.out.cells
  have la := Ha.out.lt
  have Hf' := Lib.hid (Hf.out.below (below_alloc w13 (.cells #[.int .i64 0, .int .i64 0] 26)))
  have Ha' := Lib.hid (Ha.out.below (below_alloc w13 (.cells #[.int .i64 0, .int .i64 0] 26)))
  have HB' := Lib.hid (b_next HB.out (below_alloc w13 (.cells #[.int .i64 0, .int .i64 0] 26)))
  clear HB Hf Ha f0 f1 lf a0 a1 la
  have Hf := Hf'
  clear Hf'
  have Ha := Ha'
  clear Ha'
  have HB := HB'
  clear HB'
  have Hb := Lib.hid (Two.new w13 26 0 0)
  obtain ⟨f0, f1, _, _⟩ := Hf.out.cells
  have lf := Hf.out.lt
  obtain ⟨a0, a1, _, _⟩ := Ha.out.cells
  have la := Ha.out.lt
  obtain ⟨b0, b1, _, _⟩ := Hb.out.cells
  have lb := Hb.out.lt
  go_wp2_with fail
  refine (HNr.out _).mono ?_
  rintro e w14 ⟨rfl, b14⟩
  have Hf' := Lib.hid (Hf.out.below b14)
  have Ha' := Lib.hid (Ha.out.below b14)
  have Hb' := Lib.hid (Hb.out.below b14)
  have HB' := Lib.hid (b_next HB.out b14)
  clear b14 HB Hf Ha Hb f0 f1 lf a0 a1 la b0 b1 lb
  have Hf := Hf'
  clear Hf'
  have Ha := Ha'
  clear Ha'
  have Hb := Hb'
  clear Hb'
  have HB := HB'
  clear HB'
  obtain ⟨f0, f1, _, _⟩ := Hf.out.cells
  have lf := Hf.out.lt
  obtain ⟨a0, a1, _, _⟩ := Ha.out.cells
  have la := Ha.out.lt
  obtain ⟨b0, b1, _, _⟩ := Hb.out.cells
  have lb := Hb.out.lt
  have Hf' := Lib.hid (Hf.out.below (below_alloc w14 (.cells #[.int .i64 0, .int .i64 0] 26)))
  have Ha' := Lib.hid (Ha.out.below (below_alloc w14 (.cells #[.int .i64 0, .int .i64 0] 26)))
  have Hb' := Lib.hid (Hb.out.below (below_alloc w14 (.cells #[.int .i64 0, .int .i64 0] 26)))
  have HB' := Lib.hid (b_next HB.out (below_alloc w14 (.cells #[.int .i64 0, .int .i64 0] 26)))
  clear HB Hf Ha Hb f0 f1 lf a0 a1 la b0 b1 lb
  have Hf := Hf'
  clear Hf'
  have Ha := Ha'
  clear Ha'
  have Hb := Hb'
  clear Hb'
  have HB := HB'
  clear HB'
  have Hc := Lib.hid (Two.new w14 26 0 0)
  obtain ⟨f0, f1, _, _⟩ := Hf.out.cells
  have lf := Hf.out.lt
  obtain ⟨a0, a1, _, _⟩ := Ha.out.cells
  have la := Ha.out.lt
  obtain ⟨b0, b1, _, _⟩ := Hb.out.cells
  have lb := Hb.out.lt
  obtain ⟨c0, c1, _, _⟩ := Hc.out.cells
  have lc := Hc.out.lt
  go_wp2_with fail
  refine (HTo.out _).mono ?_
  rintro e w15 ⟨rfl, b15⟩
  have Hf' := Lib.hid (Hf.out.below b15)
  have Ha' := Lib.hid (Ha.out.below b15)
  have Hb' := Lib.hid (Hb.out.below b15)
  have Hc' := Lib.hid (Hc.out.below b15)
  have HB' := Lib.hid (b_next HB.out b15)
  clear b15 HB Hf Ha Hb Hc f0 f1 lf a0 a1 la b0 b1 lb c0 c1 lc
  have Hf := Hf'
  clear Hf'
  have Ha := Ha'
  clear Ha'
  have Hb := Hb'
  clear Hb'
  have Hc := Hc'
  clear Hc'
  have HB := HB'
  clear HB'
  obtain ⟨f0, f1, _, _⟩ := Hf.out.cells
  have lf := Hf.out.lt
  obtain ⟨a0, a1, _, _⟩ := Ha.out.cells
  have la := Ha.out.lt
  obtain ⟨b0, b1, _, _⟩ := Hb.out.cells
  have lb := Hb.out.lt
  obtain ⟨c0, c1, _, _⟩ := Hc.out.cells
  have lc := Hc.out.lt
  go_wp2_with fail
  refine (HR.out _).mono ?_
  rintro e w20 ⟨rfl, rfl⟩
  have hh := HH.out
  cases hr : rowB n with
  | false =>
    go_wp2_with fail
    refine (HW.out _).mono ?_
    rintro e w36 ⟨rfl, b36⟩
    have Hf' := Lib.hid (Hf.out.below b36)
    have Ha' := Lib.hid (Ha.out.below b36)
    have Hb' := Lib.hid (Hb.out.below b36)
    have Hc' := Lib.hid (Hc.out.below b36)
    have HB' := Lib.hid (b_next HB.out b36)
    clear b36 HB Hf Ha Hb Hc f0 f1 lf a0 a1 la b0 b1 lb c0 c1 lc
    have Hf := Hf'
    clear Hf'
    have Ha := Ha'
    clear Ha'
    have Hb := Hb'
    clear Hb'
    have Hc := Hc'
    clear Hc'
    have HB := HB'
    clear HB'
    obtain ⟨f0, f1, _, _⟩ := Hf.out.cells
    have lf := Hf.out.lt
    obtain ⟨a0, a1, _, _⟩ := Ha.out.cells
    have la := Ha.out.lt
    obtain ⟨b0, b1, _, _⟩ := Hb.out.cells
    have lb := Hb.out.lt
    obtain ⟨c0, c1, _, _⟩ := Hc.out.cells
    have lc := Hc.out.lt
    go_wp2_with fail
    go_ret
    exact ⟨rfl, HB.out⟩
  | true =>
    rw [hr, Bool.true_and] at hh
    have h0 := HV.out
    rw [hh] at h0
    have HV2 := Lib.hid h0
    clear h0 hh hr
    go_wp2_with fail
    refine (HV2.out _).mono ?_
    rintro e w56 ⟨rfl, b56⟩
    have Hf' := Lib.hid (Hf.out.below b56)
    have Ha' := Lib.hid (Ha.out.below b56)
    have Hb' := Lib.hid (Hb.out.below b56)
    have Hc' := Lib.hid (Hc.out.below b56)
    have HB' := Lib.hid (b_next HB.out b56)
    clear b56 HB Hf Ha Hb Hc f0 f1 lf a0 a1 la b0 b1 lb c0 c1 lc
    have Hf := Hf'
    clear Hf'
    have Ha := Ha'
    clear Ha'
    have Hb := Hb'
    clear Hb'
    have Hc := Hc'
    clear Hc'
    have HB := HB'
    clear HB'
    obtain ⟨f0, f1, _, _⟩ := Hf.out.cells
    have lf := Hf.out.lt
    obtain ⟨a0, a1, _, _⟩ := Ha.out.cells
    have la := Ha.out.lt
    obtain ⟨b0, b1, _, _⟩ := Hb.out.cells
    have lb := Hb.out.lt
    obtain ⟨c0, c1, _, _⟩ := Hc.out.cells
    have lc := Hc.out.lt
    go_wp2_with fail
    refine (HW.out _).mono ?_
    rintro e w57 ⟨rfl, b57⟩
    have Hf' := Lib.hid (Hf.out.below b57)
    have Ha' := Lib.hid (Ha.out.below b57)
    have Hb' := Lib.hid (Hb.out.below b57)
    have Hc' := Lib.hid (Hc.out.below b57)
    have HB' := Lib.hid (b_next HB.out b57)
    clear b57 HB Hf Ha Hb Hc f0 f1 lf a0 a1 la b0 b1 lb c0 c1 lc
    have Hf := Hf'
    clear Hf'
    have Ha := Ha'
    clear Ha'
    have Hb := Hb'
    clear Hb'
    have Hc := Hc'
    clear Hc'
    have HB := HB'
    clear HB'
    obtain ⟨f0, f1, _, _⟩ := Hf.out.cells
    have lf := Hf.out.lt
    obtain ⟨a0, a1, _, _⟩ := Ha.out.cells
    have la := Ha.out.lt
    obtain ⟨b0, b1, _, _⟩ := Hb.out.cells
    have lb := Hb.out.lt
    obtain ⟨c0, c1, _, _⟩ := Hc.out.cells
    have lc := Hc.out.lt
    go_wp2_with fail
    go_ret
    exact ⟨rfl, HB.out⟩
end Go.Proofs.Ytelipknnfagnjaa
