/- YardBelows, a part: for any row and fraction, Below, Next, Before, Nearest and Touching are the specified ones, or the errors. -/
import Derived.Test.YtelipknnfagnjaaAwake
import Derived.Test.YtelipknnfagnjaaFrac
import Derived.Test.YtelipknnfagnjaaRnear
import Derived.Deep.DeepCutAuto
import Derived.ProofKit
import Derived.OpenShut
import Derived.ShutString
import Derived.ChangeOld
import Derived.Lib.SmallJoins
namespace Go.Proofs.Ytelipknnfagnjaa
set_option linter.unusedVariables false
open Go.RowKit Go.Shelf

set_option maxRecDepth 100000 in
set_option maxHeartbeats 16000000 in
theorem ybl_far (N p q kk K : Nat) (W : World) (h1 : 1 ≤ N) (h3 : N ≤ 300) (hv : validB p q = true) (hqN : N < q) (hk : BelowSpec N (p, q) kk) (hK : GreatSpec N (p, q) K) (y z u v : Nat) (e1 e2 : Int) (more less : Bool)
    (hN : nextK N K = ((y, z), e1)) (hB : beforeR N kk = ((u, v), e2)) (hmo : decide (K < len N) = more) (hle : decide (0 < kk) = less) (hm : more = true ∧ e1 = 0 ∨ more = false ∧ e1 = 6) (hl : less = true ∧ e2 = 0 ∨ less = false ∧ e2 = 6) :
    Calls Try.prog 4 #[.int .i64 N, .agg #[.int .i64 p, .int .i64 q]] W fun e W' => e = .returned (.bool true) ∧ Below W.heap.size W W' := by
  obtain ⟨p', q', g1, g2, v1, v2, v3, v4⟩ := valid_nat hv
  obtain rfl : p = p' := by omega
  obtain rfl : q = q' := by omega
  have hp : p ≤ 1000000 := by omega
  have h4 := fun w => Below_det h1 h3 hv hk w
  have h5 := fun w => Next_det h1 h3 hv (great_next hK) w
  have h6 := fun w => Before_det h1 h3 hv hk w
  have h7 := fun w => refBelow_any N p q kk h1 h3 hp v2 hk w
  have h8 := fun w => refNext_any N p q K h1 h3 hp v2 hK w
  have h9 := fun w => refBefore_any N p q kk h1 h3 hp v2 hk w
  rw [hN] at h5 h8
  rw [hB] at h6 h9
  rw [hmo] at h8
  rw [hle] at h9
  simp only at h5 h6 h8 h9
  have h10 : ∀ w, Calls Try.prog 22 #[.int .i64 N, .agg #[.int .i64 p, .int .i64 q]] w fun e w' => (∃ c d : Nat, NearSpec N (p, q) (c, d) ∧ e = .returned (.tuple #[.agg #[.int .i64 c, .int .i64 d], .int .i64 0])) ∧ Below w.heap.size w w' := fun w =>
    (Nearest_yes N p q h1 h3 hv w).mono fun e w' ⟨⟨⟨c, d⟩, hc, he⟩, hb⟩ => ⟨⟨c, d, hc, he⟩, hb⟩
  have h11 := fun (c d : Nat) (hC : NearSpec N (p, q) (c, d)) w => refNearest_any N p q c d h1 h3 hp v2 hC w
  have hrow : rowB N = true := by unfold rowB; simp; omega
  have h12 := fun w => row_16_any N w
  rw [hrow] at h12
  have h13 := fun w => refValid_any p q w
  rw [hv] at h13
  have h14 := fun w => Touching_no N p q w (.inr (.inr (by omega)))
  have hqi : (N : Int) < q := by omega
  have HBl := Lib.hid h4
  have HNe := Lib.hid h5
  have HBf := Lib.hid h6
  have HRB := Lib.hid h7
  have HRN := Lib.hid h8
  have HRf := Lib.hid h9
  have HNr := Lib.hid h10
  have HRr := Lib.hid h11
  have HR := Lib.hid h12
  have HV := Lib.hid h13
  have HTo := Lib.hid h14
  clear h4 h5 h6 h7 h8 h9 h10 h11 h12 h13 h14 hrow hN hB hmo hle hk hK hv v1 v2 v3 v4 g1 g2 hp h1 h3 hqN
  have HW := Lib.hid awake_any
  have HF0 := Two.new W 26 p q
  have Hf := Lib.hid HF0
  have HB := Lib.hid (below_alloc W (.cells #[.int .i64 p, .int .i64 q] 26))
  obtain ⟨f0, f1, _, _⟩ := HF0.cells
  have lf := HF0.lt
  clear HF0
  go_enter Try.func4, Try.ntmps4
  go_wp2_with fail
  refine (HBl.out _).mono ?_
  rintro e w11 ⟨rfl, b11⟩
  have Hf' := Lib.hid (Hf.out.below b11)
  have HB' := Lib.hid (b_next HB.out b11)
  clear b11 HB Hf f0 f1 lf
  have Hf := Hf'
  clear Hf'
  have HB := HB'
  clear HB'
  obtain ⟨f0, f1, _, _⟩ := Hf.out.cells
  have lf := Hf.out.lt
  go_wp2_with fail
  refine (HNe.out _).mono ?_
  rintro e w12 ⟨rfl, b12⟩
  have Hf' := Lib.hid (Hf.out.below b12)
  have HB' := Lib.hid (b_next HB.out b12)
  clear b12 HB Hf f0 f1 lf
  have Hf := Hf'
  clear Hf'
  have HB := HB'
  clear HB'
  obtain ⟨f0, f1, _, _⟩ := Hf.out.cells
  have lf := Hf.out.lt
  have Hf' := Lib.hid (Hf.out.below (below_alloc w12 (.cells #[.int .i64 y, .int .i64 z] 26)))
  have HB' := Lib.hid (b_next HB.out (below_alloc w12 (.cells #[.int .i64 y, .int .i64 z] 26)))
  clear HB Hf f0 f1 lf
  have Hf := Hf'
  clear Hf'
  have HB := HB'
  clear HB'
  have Ha := Lib.hid (Two.new w12 26 y z)
  obtain ⟨f0, f1, _, _⟩ := Hf.out.cells
  have lf := Hf.out.lt
  obtain ⟨a0, a1, _, _⟩ := Ha.out.cells
  have la := Ha.out.lt
  go_wp2_with fail
  refine (HBf.out _).mono ?_
  rintro e w13 ⟨rfl, b13⟩
  have Hf' := Lib.hid (Hf.out.below b13)
  have Ha' := Lib.hid (Ha.out.below b13)
  have HB' := Lib.hid (b_next HB.out b13)
  clear b13 HB Hf Ha f0 f1 lf a0 a1 la
  have Hf := Hf'
  clear Hf'
  have Ha := Ha'
  clear Ha'
  have HB := HB'
  clear HB'
  obtain ⟨f0, f1, _, _⟩ := Hf.out.cells
  have lf := Hf.out.lt
  obtain ⟨a0, a1, _, _⟩ := Ha.out.cells
  have la := Ha.out.lt
  have Hf' := Lib.hid (Hf.out.below (below_alloc w13 (.cells #[.int .i64 u, .int .i64 v] 26)))
  have Ha' := Lib.hid (Ha.out.below (below_alloc w13 (.cells #[.int .i64 u, .int .i64 v] 26)))
  have HB' := Lib.hid (b_next HB.out (below_alloc w13 (.cells #[.int .i64 u, .int .i64 v] 26)))
  clear HB Hf Ha f0 f1 lf a0 a1 la
  have Hf := Hf'
  clear Hf'
  have Ha := Ha'
  clear Ha'
  have HB := HB'
  clear HB'
  have Hb := Lib.hid (Two.new w13 26 u v)
  obtain ⟨f0, f1, _, _⟩ := Hf.out.cells
  have lf := Hf.out.lt
  obtain ⟨a0, a1, _, _⟩ := Ha.out.cells
  have la := Ha.out.lt
  obtain ⟨b0, b1, _, _⟩ := Hb.out.cells
  have lb := Hb.out.lt
  go_wp2_with fail
  refine (HNr.out _).mono ?_
  rintro e w14 ⟨⟨c, d, hC, rfl⟩, b14⟩
  have HC := Lib.hid (HRr.out c d hC)
  clear hC
  have Hf' := Lib.hid (Hf.out.below b14)
  have Ha' := Lib.hid (Ha.out.below b14)
  have Hb' := Lib.hid (Hb.out.below b14)
  have HB' := Lib.hid (b_next HB.out b14)
  clear b14 HB Hf Ha Hb f0 f1 lf a0 a1 la b0 b1 lb
  have Hf := Hf'
  clear Hf'
  have Ha := Ha'
  clear Ha'
  have Hb := Hb'
  clear Hb'
  have HB := HB'
  clear HB'
  obtain ⟨f0, f1, _, _⟩ := Hf.out.cells
  have lf := Hf.out.lt
  obtain ⟨a0, a1, _, _⟩ := Ha.out.cells
  have la := Ha.out.lt
  obtain ⟨b0, b1, _, _⟩ := Hb.out.cells
  have lb := Hb.out.lt
  have Hf' := Lib.hid (Hf.out.below (below_alloc w14 (.cells #[.int .i64 c, .int .i64 d] 26)))
  have Ha' := Lib.hid (Ha.out.below (below_alloc w14 (.cells #[.int .i64 c, .int .i64 d] 26)))
  have Hb' := Lib.hid (Hb.out.below (below_alloc w14 (.cells #[.int .i64 c, .int .i64 d] 26)))
  have HB' := Lib.hid (b_next HB.out (below_alloc w14 (.cells #[.int .i64 c, .int .i64 d] 26)))
  clear HB Hf Ha Hb f0 f1 lf a0 a1 la b0 b1 lb
  have Hf := Hf'
  clear Hf'
  have Ha := Ha'
  clear Ha'
  have Hb := Hb'
  clear Hb'
  have HB := HB'
  clear HB'
  have Hc := Lib.hid (Two.new w14 26 c d)
  obtain ⟨f0, f1, _, _⟩ := Hf.out.cells
  have lf := Hf.out.lt
  obtain ⟨a0, a1, _, _⟩ := Ha.out.cells
  have la := Ha.out.lt
  obtain ⟨b0, b1, _, _⟩ := Hb.out.cells
  have lb := Hb.out.lt
  obtain ⟨c0, c1, _, _⟩ := Hc.out.cells
  have lc := Hc.out.lt
  go_wp2_with fail
  refine (HTo.out _).mono ?_
  rintro e w15 ⟨rfl, b15⟩
  have Hf' := Lib.hid (Hf.out.below b15)
  have Ha' := Lib.hid (Ha.out.below b15)
  have Hb' := Lib.hid (Hb.out.below b15)
  have Hc' := Lib.hid (Hc.out.below b15)
  have HB' := Lib.hid (b_next HB.out b15)
  clear b15 HB Hf Ha Hb Hc f0 f1 lf a0 a1 la b0 b1 lb c0 c1 lc
  have Hf := Hf'
  clear Hf'
  have Ha := Ha'
  clear Ha'
  have Hb := Hb'
  clear Hb'
  have Hc := Hc'
  clear Hc'
  have HB := HB'
  clear HB'
  obtain ⟨f0, f1, _, _⟩ := Hf.out.cells
  have lf := Hf.out.lt
  obtain ⟨a0, a1, _, _⟩ := Ha.out.cells
  have la := Ha.out.lt
  obtain ⟨b0, b1, _, _⟩ := Hb.out.cells
  have lb := Hb.out.lt
  obtain ⟨c0, c1, _, _⟩ := Hc.out.cells
  have lc := Hc.out.lt
  go_wp2_with fail
  refine (HR.out _).mono ?_
  rintro e w16 ⟨rfl, rfl⟩
  go_wp2_with fail
  refine (HV.out _).mono ?_
  rintro e w17 ⟨rfl, b17⟩
  have Hf' := Lib.hid (Hf.out.below b17)
  have Ha' := Lib.hid (Ha.out.below b17)
  have Hb' := Lib.hid (Hb.out.below b17)
  have Hc' := Lib.hid (Hc.out.below b17)
  have HB' := Lib.hid (b_next HB.out b17)
  clear b17 HB Hf Ha Hb Hc f0 f1 lf a0 a1 la b0 b1 lb c0 c1 lc
  have Hf := Hf'
  clear Hf'
  have Ha := Ha'
  clear Ha'
  have Hb := Hb'
  clear Hb'
  have Hc := Hc'
  clear Hc'
  have HB := HB'
  clear HB'
  obtain ⟨f0, f1, _, _⟩ := Hf.out.cells
  have lf := Hf.out.lt
  obtain ⟨a0, a1, _, _⟩ := Ha.out.cells
  have la := Ha.out.lt
  obtain ⟨b0, b1, _, _⟩ := Hb.out.cells
  have lb := Hb.out.lt
  obtain ⟨c0, c1, _, _⟩ := Hc.out.cells
  have lc := Hc.out.lt
  go_wp2_with fail
  refine (HRN.out _).mono ?_
  rintro e w18 ⟨rfl, b18⟩
  have Hf' := Lib.hid (Hf.out.below b18)
  have Ha' := Lib.hid (Ha.out.below b18)
  have Hb' := Lib.hid (Hb.out.below b18)
  have Hc' := Lib.hid (Hc.out.below b18)
  have HB' := Lib.hid (b_next HB.out b18)
  clear b18 HB Hf Ha Hb Hc f0 f1 lf a0 a1 la b0 b1 lb c0 c1 lc
  have Hf := Hf'
  clear Hf'
  have Ha := Ha'
  clear Ha'
  have Hb := Hb'
  clear Hb'
  have Hc := Hc'
  clear Hc'
  have HB := HB'
  clear HB'
  obtain ⟨f0, f1, _, _⟩ := Hf.out.cells
  have lf := Hf.out.lt
  obtain ⟨a0, a1, _, _⟩ := Ha.out.cells
  have la := Ha.out.lt
  obtain ⟨b0, b1, _, _⟩ := Hb.out.cells
  have lb := Hb.out.lt
  obtain ⟨c0, c1, _, _⟩ := Hc.out.cells
  have lc := Hc.out.lt
  have Hf' := Lib.hid (Hf.out.below (below_alloc w18 (.cells #[.int .i64 y, .int .i64 z] 26)))
  have Ha' := Lib.hid (Ha.out.below (below_alloc w18 (.cells #[.int .i64 y, .int .i64 z] 26)))
  have Hb' := Lib.hid (Hb.out.below (below_alloc w18 (.cells #[.int .i64 y, .int .i64 z] 26)))
  have Hc' := Lib.hid (Hc.out.below (below_alloc w18 (.cells #[.int .i64 y, .int .i64 z] 26)))
  have HB' := Lib.hid (b_next HB.out (below_alloc w18 (.cells #[.int .i64 y, .int .i64 z] 26)))
  clear HB Hf Ha Hb Hc f0 f1 lf a0 a1 la b0 b1 lb c0 c1 lc
  have Hf := Hf'
  clear Hf'
  have Ha := Ha'
  clear Ha'
  have Hb := Hb'
  clear Hb'
  have Hc := Hc'
  clear Hc'
  have HB := HB'
  clear HB'
  have Hx := Lib.hid (Two.new w18 26 y z)
  obtain ⟨f0, f1, _, _⟩ := Hf.out.cells
  have lf := Hf.out.lt
  obtain ⟨a0, a1, _, _⟩ := Ha.out.cells
  have la := Ha.out.lt
  obtain ⟨b0, b1, _, _⟩ := Hb.out.cells
  have lb := Hb.out.lt
  obtain ⟨c0, c1, _, _⟩ := Hc.out.cells
  have lc := Hc.out.lt
  obtain ⟨x0, x1, _, _⟩ := Hx.out.cells
  have lx := Hx.out.lt
  go_wp2_with fail
  refine (HRf.out _).mono ?_
  rintro e w19 ⟨rfl, b19⟩
  have Hf' := Lib.hid (Hf.out.below b19)
  have Ha' := Lib.hid (Ha.out.below b19)
  have Hb' := Lib.hid (Hb.out.below b19)
  have Hc' := Lib.hid (Hc.out.below b19)
  have Hx' := Lib.hid (Hx.out.below b19)
  have HB' := Lib.hid (b_next HB.out b19)
  clear b19 HB Hf Ha Hb Hc Hx f0 f1 lf a0 a1 la b0 b1 lb c0 c1 lc x0 x1 lx
  have Hf := Hf'
  clear Hf'
  have Ha := Ha'
  clear Ha'
  have Hb := Hb'
  clear Hb'
  have Hc := Hc'
  clear Hc'
  have Hx := Hx'
  clear Hx'
  have HB := HB'
  clear HB'
  obtain ⟨f0, f1, _, _⟩ := Hf.out.cells
  have lf := Hf.out.lt
  obtain ⟨a0, a1, _, _⟩ := Ha.out.cells
  have la := Ha.out.lt
  obtain ⟨b0, b1, _, _⟩ := Hb.out.cells
  have lb := Hb.out.lt
  obtain ⟨c0, c1, _, _⟩ := Hc.out.cells
  have lc := Hc.out.lt
  obtain ⟨x0, x1, _, _⟩ := Hx.out.cells
  have lx := Hx.out.lt
  have Hf' := Lib.hid (Hf.out.below (below_alloc w19 (.cells #[.int .i64 u, .int .i64 v] 26)))
  have Ha' := Lib.hid (Ha.out.below (below_alloc w19 (.cells #[.int .i64 u, .int .i64 v] 26)))
  have Hb' := Lib.hid (Hb.out.below (below_alloc w19 (.cells #[.int .i64 u, .int .i64 v] 26)))
  have Hc' := Lib.hid (Hc.out.below (below_alloc w19 (.cells #[.int .i64 u, .int .i64 v] 26)))
  have Hx' := Lib.hid (Hx.out.below (below_alloc w19 (.cells #[.int .i64 u, .int .i64 v] 26)))
  have HB' := Lib.hid (b_next HB.out (below_alloc w19 (.cells #[.int .i64 u, .int .i64 v] 26)))
  clear HB Hf Ha Hb Hc Hx f0 f1 lf a0 a1 la b0 b1 lb c0 c1 lc x0 x1 lx
  have Hf := Hf'
  clear Hf'
  have Ha := Ha'
  clear Ha'
  have Hb := Hb'
  clear Hb'
  have Hc := Hc'
  clear Hc'
  have Hx := Hx'
  clear Hx'
  have HB := HB'
  clear HB'
  have Hy := Lib.hid (Two.new w19 26 u v)
  obtain ⟨f0, f1, _, _⟩ := Hf.out.cells
  have lf := Hf.out.lt
  obtain ⟨a0, a1, _, _⟩ := Ha.out.cells
  have la := Ha.out.lt
  obtain ⟨b0, b1, _, _⟩ := Hb.out.cells
  have lb := Hb.out.lt
  obtain ⟨c0, c1, _, _⟩ := Hc.out.cells
  have lc := Hc.out.lt
  obtain ⟨x0, x1, _, _⟩ := Hx.out.cells
  have lx := Hx.out.lt
  obtain ⟨y0, y1, _, _⟩ := Hy.out.cells
  have ly := Hy.out.lt
  go_wp2_with fail
  refine (HRB.out _).mono ?_
  rintro e w20 ⟨rfl, b20⟩
  have Hf' := Lib.hid (Hf.out.below b20)
  have Ha' := Lib.hid (Ha.out.below b20)
  have Hb' := Lib.hid (Hb.out.below b20)
  have Hc' := Lib.hid (Hc.out.below b20)
  have Hx' := Lib.hid (Hx.out.below b20)
  have Hy' := Lib.hid (Hy.out.below b20)
  have HB' := Lib.hid (b_next HB.out b20)
  clear b20 HB Hf Ha Hb Hc Hx Hy f0 f1 lf a0 a1 la b0 b1 lb c0 c1 lc x0 x1 lx y0 y1 ly
  have Hf := Hf'
  clear Hf'
  have Ha := Ha'
  clear Ha'
  have Hb := Hb'
  clear Hb'
  have Hc := Hc'
  clear Hc'
  have Hx := Hx'
  clear Hx'
  have Hy := Hy'
  clear Hy'
  have HB := HB'
  clear HB'
  obtain ⟨f0, f1, _, _⟩ := Hf.out.cells
  have lf := Hf.out.lt
  obtain ⟨a0, a1, _, _⟩ := Ha.out.cells
  have la := Ha.out.lt
  obtain ⟨b0, b1, _, _⟩ := Hb.out.cells
  have lb := Hb.out.lt
  obtain ⟨c0, c1, _, _⟩ := Hc.out.cells
  have lc := Hc.out.lt
  obtain ⟨x0, x1, _, _⟩ := Hx.out.cells
  have lx := Hx.out.lt
  obtain ⟨y0, y1, _, _⟩ := Hy.out.cells
  have ly := Hy.out.lt
  clear HBl HNe HBf HNr HRN HRf HRB HR HV HTo
  rcases hm with ⟨rfl, rfl⟩ | ⟨rfl, rfl⟩ <;> rcases hl with ⟨rfl, rfl⟩ | ⟨rfl, rfl⟩
  all_goals go_wp2_with fail
  all_goals go_region_held3 (fun w' => w'.cell? ⟨W.heap.size, 0, none⟩ = some (.int .i64 p) ∧ w'.cell? ⟨W.heap.size, 1, none⟩ = some (.int .i64 q) ∧ w'.cell? ⟨w14.heap.size, 0, none⟩ = some (.int .i64 c) ∧ w'.cell? ⟨w14.heap.size, 1, none⟩ = some (.int .i64 d))
    (first | exact ⟨f0, f1, c0, c1⟩ | exact ⟨ff0, ff1, cc0, cc1⟩)
    (first | (go_at_call 28; refine (HC.out _).mono ?_; rintro e w30 ⟨rfl, z30⟩; have b30 := undrew1 z30; have Hf2 := Lib.hid (Hf.out.below b30); have Hc2 := Lib.hid (Hc.out.below b30); have HB2 := Lib.hid (b_next HB.out b30); obtain ⟨ff0, ff1, _, _⟩ := Hf2.out.cells; obtain ⟨cc0, cc1, _, _⟩ := Hc2.out.cells; have lff := Hf2.out.lt))
  all_goals go_wp2_with fail
  all_goals refine (HW.out _).mono ?_
  all_goals rintro e w33 ⟨rfl, b33⟩
  all_goals have HB4 := Lib.hid (b_next HB2.out b33)
  all_goals clear b33
  all_goals go_wp2_with fail
  all_goals go_ret
  all_goals exact ⟨rfl, HB4.out⟩
end Go.Proofs.Ytelipknnfagnjaa
