/- YardAdjacent. -/
import Derived.Test.YthpnlhigcijicaaAwake
import Derived.Test.YthpnlhigcijicaaAdj
import Derived.Test.YthpnlhigcijicaaTame
import Derived.ProofKit
import Derived.OpenShut
import Derived.ShutString
import Derived.ChangeOld
import Derived.Lib.SmallJoins
namespace Go.Proofs.Ythpnlhigcijicaa
set_option linter.unusedVariables false
open Go.RowKit Go.Shelf

theorem adj_num {N a b c d p q t mx my : Nat} (hmx : c + p = mx) (hmy : d + q = my) (s1 : a + p = t * c) (s2 : b + q = t * d) (hf : N < d + q) (z : 1 ≤ c ∧ 1 ≤ d ∧ a ≤ 300 ∧ b ≤ 300 ∧ c ≤ 300 ∧ d ≤ 300 ∧ p ≤ 300 ∧ q ≤ 300) :
    ∃ s1 s2 : Nat, IntKind.i64.wrap ((c : Int) + p) = mx ∧ IntKind.i64.wrap ((d : Int) + q) = my ∧ (N : Int) < my ∧ IntKind.i64.wrap ((a : Int) + p) = s1 ∧ IntKind.i64.wrap ((b : Int) + q) = s2 ∧
      Int.tmod (s1 : Int) c = 0 ∧ Int.tmod (s2 : Int) d = 0 ∧ Int.tdiv (s1 : Int) c = t ∧ Int.tdiv (s2 : Int) d = t ∧ IntKind.i64.wrap (t : Int) = t ∧ ¬ c = 0 ∧ ¬ d = 0 ∧ True := by
  obtain ⟨z1, z2, z3, z4, z5, z6, z7, z8⟩ := z
  have ht : t ≤ 600 := by have := Nat.le_mul_of_pos_right t z1; omega
  refine ⟨a + p, b + q, iadd hmx (by omega), iadd hmy (by omega), by omega, iadd rfl (by omega), iadd rfl (by omega), tmodN (by rw [s1, Nat.mul_mod_left]), tmodN (by rw [s2, Nat.mul_mod_left]), tdivN (by rw [s1, Nat.mul_div_cancel _ z1]), tdivN (by rw [s2, Nat.mul_div_cancel _ z2]), iN (by omega), by omega, by omega, trivial⟩

set_option maxRecDepth 100000 in
set_option maxHeartbeats 4000000 in
theorem yad (x y : Int) (W : World) (hx : (Lit.int .i64 x).wf = true) (hy : (Lit.int .i64 y).wf = true) :
    Calls Try.prog 8 #[.int .i64 x, .int .i64 y] W fun e W' => e = .returned (.bool true) ∧ Below W.heap.size W W' := by
  have HM := Lib.hid (fun w => mod_any x 299 w hx (by omega) (by omega))
  have HW := Lib.hid awake_any
  clear hx
  go_enter Try.func8, Try.ntmps8
  go_wp2_with fail
  refine (HM.out _).mono ?_
  rintro e w1 ⟨⟨m, rfl, hm⟩, rfl⟩
  obtain ⟨N, hN⟩ : ∃ N : Nat, 2 + m = N := ⟨_, rfl⟩
  have hN1 : 2 ≤ N := by omega
  have hN2 : N ≤ 300 := by omega
  have hNm : 2 + (m : Int) = N := by omega
  obtain ⟨L, hL⟩ : ∃ L, len N = L := ⟨_, rfl⟩
  have hS := fun w => Size_yes N (by omega) hN2 w
  have hL3 := len_three hN1
  have hL4 : L ≤ 1000000 := by have := (len_spec (show 1 ≤ N by omega)).2.2; have := Nat.mul_le_mul hN2 hN2; omega
  rw [hL] at hS hL3
  have HS := Lib.hid hS
  have HL := Lib.hid hL
  clear hN hS hL
  go_wp2_with fail
  clear hNm
  refine (HS.out _).mono ?_
  rintro e w2 ⟨rfl, b2⟩
  have HB := Lib.hid b2
  clear b2
  have HM2 := Lib.hid (fun w => mod_any y ((L : Int) - 2) w hy (by omega) (by omega))
  go_wp2_with fail
  refine (HM2.out _).mono ?_
  rintro e w3 ⟨⟨j, rfl, hj⟩, rfl⟩
  obtain ⟨K, hK⟩ : ∃ K : Nat, 1 + j = K := ⟨_, rfl⟩
  have hK1 : 1 ≤ K := by omega
  have hK2 : K + 1 < L := by omega
  have hKj : 1 + (j : Int) = K := by omega
  go_wp2_with fail
  clear hKj
  obtain ⟨a, b, c, d, p, q, t, e1, e2, e3, va, vc, ve, n1, n2, hb, hf, s1, s2, z⟩ := adj_facts hN1 hN2 hK1 (by rw [HL.out]; exact hK2)
  obtain ⟨mx, hmx⟩ : ∃ z, c + p = z := ⟨_, rfl⟩
  obtain ⟨my, hmy⟩ : ∃ z, d + q = z := ⟨_, rfl⟩
  have HF := Lib.hid (adj_num hmx hmy s1 s2 hf z)
  rw [hmx, hmy] at hb
  have hI := fun w => Item_yes N K (by omega) hN2 w
  have hR : itemR N K = ((c, d), 0) := by unfold itemR; rw [HL.out, if_pos (by omega)]; simp [e2]
  rw [hR] at hI
  have hB : ∀ w, Calls Try.prog 21 #[.int .i64 N, .agg #[.int .i64 c, .int .i64 d]] w fun e w' => e = .returned (.tuple #[.agg #[.int .i64 a, .int .i64 b], .int .i64 0]) ∧ Below w.heap.size w w' := fun w =>
    (Before_yes N c d (by omega) hN2 vc w).mono fun e w' ⟨⟨k, hk, he⟩, hbw⟩ => ⟨by rw [← e2] at hk; rw [he, below_fr (by omega) (by rw [HL.out]; omega) hk, before_fr hK1, e1]; rfl, hbw⟩
  have hX : ∀ w, Calls Try.prog 20 #[.int .i64 N, .agg #[.int .i64 c, .int .i64 d]] w fun e w' => e = .returned (.tuple #[.agg #[.int .i64 p, .int .i64 q], .int .i64 0]) ∧ Below w.heap.size w w' := fun w =>
    (Next_yes N c d (by omega) hN2 vc w).mono fun e w' ⟨⟨r, hr, he⟩, hbw⟩ => ⟨by rw [← e2] at hr; rw [he, next_fr (by omega) (by rw [HL.out]; exact hK2) hr, e3]; rfl, hbw⟩
  have hn1 := fun w => Neighbors_yes a b c d w va vc
  have hn2 := fun w => Neighbors_yes c d p q w vc ve
  have hbt := fun w => Between_yes c d p q w vc ve
  have hv1 := fun w => refValid_any c d w
  have hv2 := fun w => refValid_any a b w
  have hv3 := fun w => refValid_any p q w
  rw [n1] at hn1
  rw [n2] at hn2
  rw [hb] at hbt
  rw [vc] at hv1
  rw [va] at hv2
  rw [ve] at hv3
  unfold frV at hI hn1 hn2 hbt
  simp only at hI hn1 hn2 hbt
  have HI := Lib.hid hI
  have HBe := Lib.hid hB
  have HX := Lib.hid hX
  have HN1 := Lib.hid hn1
  have HN2 := Lib.hid hn2
  have HBt := Lib.hid hbt
  have HV1 := Lib.hid hv1
  have HV2 := Lib.hid hv2
  have HV3 := Lib.hid hv3
  clear hI hB hX hn1 hn2 hbt hv1 hv2 hv3 hR hb n1 n2 va vc ve e1 e2 e3 s1 s2 hf z hmx hmy hK hj hK1 hK2 hL3 hL4 hy hN1 hN2 hm
  refine (HI.out _).mono ?_
  rintro e w4 ⟨rfl, b4⟩
  have HB' := Lib.hid (b_next HB.out b4)
  clear b4 HB  
  have HB := HB'
  clear HB'
  have HB' := Lib.hid (b_next HB.out (below_alloc w4 (.cells #[.int .i64 c, .int .i64 d] 26)))
  clear HB  
  have HB := HB'
  clear HB'
  have Hf := Lib.hid (Two.new w4 26 c d)
  obtain ⟨f0, f1, _, _⟩ := Hf.out.cells
  have lf := Hf.out.lt
  go_wp2_with fail
  refine (HBe.out _).mono ?_
  rintro e w5 ⟨rfl, b5⟩
  have Hf' := Lib.hid (Hf.out.below b5)
  have HB' := Lib.hid (b_next HB.out b5)
  clear b5 HB Hf f0 f1 lf
  have Hf := Hf'
  clear Hf'
  have HB := HB'
  clear HB'
  obtain ⟨f0, f1, _, _⟩ := Hf.out.cells
  have lf := Hf.out.lt
  have Hf' := Lib.hid (Hf.out.below (below_alloc w5 (.cells #[.int .i64 a, .int .i64 b] 26)))
  have HB' := Lib.hid (b_next HB.out (below_alloc w5 (.cells #[.int .i64 a, .int .i64 b] 26)))
  clear HB Hf f0 f1 lf
  have Hf := Hf'
  clear Hf'
  have HB := HB'
  clear HB'
  have Ha := Lib.hid (Two.new w5 26 a b)
  obtain ⟨f0, f1, _, _⟩ := Hf.out.cells
  have lf := Hf.out.lt
  obtain ⟨a0, a1, _, _⟩ := Ha.out.cells
  have la := Ha.out.lt
  go_wp2_with fail
  refine (HX.out _).mono ?_
  rintro e w6 ⟨rfl, b6⟩
  have Hf' := Lib.hid (Hf.out.below b6)
  have Ha' := Lib.hid (Ha.out.below b6)
  have HB' := Lib.hid (b_next HB.out b6)
  clear b6 HB Hf Ha f0 f1 lf a0 a1 la
  have Hf := Hf'
  clear Hf'
  have Ha := Ha'
  clear Ha'
  have HB := HB'
  clear HB'
  obtain ⟨f0, f1, _, _⟩ := Hf.out.cells
  have lf := Hf.out.lt
  obtain ⟨a0, a1, _, _⟩ := Ha.out.cells
  have la := Ha.out.lt
  have Hf' := Lib.hid (Hf.out.below (below_alloc w6 (.cells #[.int .i64 p, .int .i64 q] 26)))
  have Ha' := Lib.hid (Ha.out.below (below_alloc w6 (.cells #[.int .i64 p, .int .i64 q] 26)))
  have HB' := Lib.hid (b_next HB.out (below_alloc w6 (.cells #[.int .i64 p, .int .i64 q] 26)))
  clear HB Hf Ha f0 f1 lf a0 a1 la
  have Hf := Hf'
  clear Hf'
  have Ha := Ha'
  clear Ha'
  have HB := HB'
  clear HB'
  have Hx := Lib.hid (Two.new w6 26 p q)
  obtain ⟨f0, f1, _, _⟩ := Hf.out.cells
  have lf := Hf.out.lt
  obtain ⟨a0, a1, _, _⟩ := Ha.out.cells
  have la := Ha.out.lt
  obtain ⟨x0, x1, _, _⟩ := Hx.out.cells
  have lx := Hx.out.lt
  go_wp2_with fail
  refine (HN1.out _).mono ?_
  rintro e w7 ⟨rfl, b7⟩
  have Hf' := Lib.hid (Hf.out.below b7)
  have Ha' := Lib.hid (Ha.out.below b7)
  have Hx' := Lib.hid (Hx.out.below b7)
  have HB' := Lib.hid (b_next HB.out b7)
  clear b7 HB Hf Ha Hx f0 f1 lf a0 a1 la x0 x1 lx
  have Hf := Hf'
  clear Hf'
  have Ha := Ha'
  clear Ha'
  have Hx := Hx'
  clear Hx'
  have HB := HB'
  clear HB'
  obtain ⟨f0, f1, _, _⟩ := Hf.out.cells
  have lf := Hf.out.lt
  obtain ⟨a0, a1, _, _⟩ := Ha.out.cells
  have la := Ha.out.lt
  obtain ⟨x0, x1, _, _⟩ := Hx.out.cells
  have lx := Hx.out.lt
  go_wp2_with fail
  refine (HN2.out _).mono ?_
  rintro e w8 ⟨rfl, b8⟩
  have Hf' := Lib.hid (Hf.out.below b8)
  have Ha' := Lib.hid (Ha.out.below b8)
  have Hx' := Lib.hid (Hx.out.below b8)
  have HB' := Lib.hid (b_next HB.out b8)
  clear b8 HB Hf Ha Hx f0 f1 lf a0 a1 la x0 x1 lx
  have Hf := Hf'
  clear Hf'
  have Ha := Ha'
  clear Ha'
  have Hx := Hx'
  clear Hx'
  have HB := HB'
  clear HB'
  obtain ⟨f0, f1, _, _⟩ := Hf.out.cells
  have lf := Hf.out.lt
  obtain ⟨a0, a1, _, _⟩ := Ha.out.cells
  have la := Ha.out.lt
  obtain ⟨x0, x1, _, _⟩ := Hx.out.cells
  have lx := Hx.out.lt
  go_wp2_with fail
  refine (HBt.out _).mono ?_
  rintro e w9 ⟨rfl, b9⟩
  have Hf' := Lib.hid (Hf.out.below b9)
  have Ha' := Lib.hid (Ha.out.below b9)
  have Hx' := Lib.hid (Hx.out.below b9)
  have HB' := Lib.hid (b_next HB.out b9)
  clear b9 HB Hf Ha Hx f0 f1 lf a0 a1 la x0 x1 lx
  have Hf := Hf'
  clear Hf'
  have Ha := Ha'
  clear Ha'
  have Hx := Hx'
  clear Hx'
  have HB := HB'
  clear HB'
  obtain ⟨f0, f1, _, _⟩ := Hf.out.cells
  have lf := Hf.out.lt
  obtain ⟨a0, a1, _, _⟩ := Ha.out.cells
  have la := Ha.out.lt
  obtain ⟨x0, x1, _, _⟩ := Hx.out.cells
  have lx := Hx.out.lt
  have Hf' := Lib.hid (Hf.out.below (below_alloc w9 (.cells #[.int .i64 mx, .int .i64 my] 26)))
  have Ha' := Lib.hid (Ha.out.below (below_alloc w9 (.cells #[.int .i64 mx, .int .i64 my] 26)))
  have Hx' := Lib.hid (Hx.out.below (below_alloc w9 (.cells #[.int .i64 mx, .int .i64 my] 26)))
  have HB' := Lib.hid (b_next HB.out (below_alloc w9 (.cells #[.int .i64 mx, .int .i64 my] 26)))
  clear HB Hf Ha Hx f0 f1 lf a0 a1 la x0 x1 lx
  have Hf := Hf'
  clear Hf'
  have Ha := Ha'
  clear Ha'
  have Hx := Hx'
  clear Hx'
  have HB := HB'
  clear HB'
  have Hm := Lib.hid (Two.new w9 26 mx my)
  obtain ⟨f0, f1, _, _⟩ := Hf.out.cells
  have lf := Hf.out.lt
  obtain ⟨a0, a1, _, _⟩ := Ha.out.cells
  have la := Ha.out.lt
  obtain ⟨x0, x1, _, _⟩ := Hx.out.cells
  have lx := Hx.out.lt
  obtain ⟨m0, m1, _, _⟩ := Hm.out.cells
  have lm := Hm.out.lt
  go_wp2_with fail
  refine (HV1.out _).mono ?_
  rintro e w10 ⟨rfl, b10⟩
  have Hf' := Lib.hid (Hf.out.below b10)
  have Ha' := Lib.hid (Ha.out.below b10)
  have Hx' := Lib.hid (Hx.out.below b10)
  have Hm' := Lib.hid (Hm.out.below b10)
  have HB' := Lib.hid (b_next HB.out b10)
  clear b10 HB Hf Ha Hx Hm f0 f1 lf a0 a1 la x0 x1 lx m0 m1 lm
  have Hf := Hf'
  clear Hf'
  have Ha := Ha'
  clear Ha'
  have Hx := Hx'
  clear Hx'
  have Hm := Hm'
  clear Hm'
  have HB := HB'
  clear HB'
  obtain ⟨f0, f1, _, _⟩ := Hf.out.cells
  have lf := Hf.out.lt
  obtain ⟨a0, a1, _, _⟩ := Ha.out.cells
  have la := Ha.out.lt
  obtain ⟨x0, x1, _, _⟩ := Hx.out.cells
  have lx := Hx.out.lt
  obtain ⟨m0, m1, _, _⟩ := Hm.out.cells
  have lm := Hm.out.lt
  go_wp2_with fail
  refine (HV2.out _).mono ?_
  rintro e w11 ⟨rfl, b11⟩
  have Hf' := Lib.hid (Hf.out.below b11)
  have Ha' := Lib.hid (Ha.out.below b11)
  have Hx' := Lib.hid (Hx.out.below b11)
  have Hm' := Lib.hid (Hm.out.below b11)
  have HB' := Lib.hid (b_next HB.out b11)
  clear b11 HB Hf Ha Hx Hm f0 f1 lf a0 a1 la x0 x1 lx m0 m1 lm
  have Hf := Hf'
  clear Hf'
  have Ha := Ha'
  clear Ha'
  have Hx := Hx'
  clear Hx'
  have Hm := Hm'
  clear Hm'
  have HB := HB'
  clear HB'
  obtain ⟨f0, f1, _, _⟩ := Hf.out.cells
  have lf := Hf.out.lt
  obtain ⟨a0, a1, _, _⟩ := Ha.out.cells
  have la := Ha.out.lt
  obtain ⟨x0, x1, _, _⟩ := Hx.out.cells
  have lx := Hx.out.lt
  obtain ⟨m0, m1, _, _⟩ := Hm.out.cells
  have lm := Hm.out.lt
  go_wp2_with fail
  refine (HV3.out _).mono ?_
  rintro e w12 ⟨rfl, b12⟩
  have Hf' := Lib.hid (Hf.out.below b12)
  have Ha' := Lib.hid (Ha.out.below b12)
  have Hx' := Lib.hid (Hx.out.below b12)
  have Hm' := Lib.hid (Hm.out.below b12)
  have HB' := Lib.hid (b_next HB.out b12)
  clear b12 HB Hf Ha Hx Hm f0 f1 lf a0 a1 la x0 x1 lx m0 m1 lm
  have Hf := Hf'
  clear Hf'
  have Ha := Ha'
  clear Ha'
  have Hx := Hx'
  clear Hx'
  have Hm := Hm'
  clear Hm'
  have HB := HB'
  clear HB'
  obtain ⟨f0, f1, _, _⟩ := Hf.out.cells
  have lf := Hf.out.lt
  obtain ⟨a0, a1, _, _⟩ := Ha.out.cells
  have la := Ha.out.lt
  obtain ⟨x0, x1, _, _⟩ := Hx.out.cells
  have lx := Hx.out.lt
  obtain ⟨m0, m1, _, _⟩ := Hm.out.cells
  have lm := Hm.out.lt
  clear HI HBe HX HN1 HN2 HBt HV1 HV2 HV3 HM HM2 HS
  obtain ⟨s1, s2, q1, q2, q3, q4, q5, q6, q7, q8, q9, q10, q11, q12, q13⟩ := HF.out
  go_wp2_with fail
  go_still_tail 61, (by kernel_rfl)
  change wpList _ _ _ _ _ w12.drew
  have HB2 : Hid (Below W.heap.size W w12.drew) := HB.out.drew
  generalize w12.drew = w20 at *
  clear q1 q2 q3 q4 q5 q6 q7 q8 q9 q10 q11 q12 q13
  go_wp2_with (go_at_call 17; refine (HW.out _).mono ?_; rintro e w21 ⟨rfl, b21⟩)
  go_ret
  exact ⟨rfl, b_next HB2.out b21⟩

theorem walk_YardAdjacent (a : Int) (h1 : (Lit.int .i64 a).wf = true) (b : Int) (h2 : (Lit.int .i64 b).wf = true) (W : World) :
    Calls Try.prog 8 #[.int .i64 a, .int .i64 b] W fun e W' => e = .returned (.bool true) ∧ Below W.heap.size W W' := yad a b W h1 h2


namespace lawYardAdjacent
open Go.ChangeShapes Go.WideShapes Go.ChangeAt Go.RowKit
open Go.ChangeMaps (open_string shut_string)

theorem own : ownKnob Try.prog.godebug = none := by kernel_rfl
theorem lay : laidOutB Try.prog = true := by kernel_rfl

set_option maxRecDepth 100000 in
theorem lifted (os : Os) (started : os.Started) (H : Type) (enc : TypeId × Value → H) :
    ReturnsInHanded {} Try.checked os 8 .any (Rows.yardAdjacentSpec.pre6 enc Try.prog Try.f8 Rows.yardAdjacentRow.domain false) (Rows.yardAdjacentSpec.post enc Try.prog Try.f8 false true false false) := by
  refine returnsInHanded_of_change (C := Try.checked) own started (by kernel_rfl) Try.func8
    (ChangeSpec.witness6 (enc := enc) (C := Try.checked) false ⟨#[], #[.int .i64 0, .int .i64 0], []⟩ 8 (by kernel_rfl) (by kernel_rfl) (by kernel_rfl) (by kernel_rfl)) ?_
  intro W base args ds gs before hval0 hW hcnd _
  have hval : ∀ (j : Nat) t v, Try.f8.params[j]? = some t → args[j]? = some v → Value.okWide Try.prog W .any base t v := hval0
  have hW' := hW
  obtain ⟨p, q, hA0, hV, rfl, hfz, hnd⟩ := hW
  have hA : DataW.TrodAll enc Try.prog W 0 (fun _ => true) true Try.f8.params.toList args.toList ds p := hA0
  rw [Try.params8] at hA hval
  obtain ⟨v0, vs0, d0, ds0, p0, q0, hargs, rfl, rfl, h0, r0⟩ := trodAll_cons hA
  obtain ⟨v1, vs1, d1, ds1, p1, q1, rfl, rfl, rfl, h1, r1⟩ := trodAll_cons r0
  obtain ⟨rfl, rfl, rfl⟩ := trodAll_nil r1
  obtain rfl : args = #[v0, v1] := by cases args; simp_all
  obtain ⟨rfl, rfl⟩ := trodVars_none hV
  obtain ⟨a0, rfl, rfl, rfl, w0⟩ := open_int Try.underlying3 (hval 0 3 v0 rfl rfl) h0
  obtain ⟨a1, rfl, rfl, rfl, w1⟩ := open_int Try.underlying3 (hval 1 3 v1 rfl rfl) h1
  simp only [List.append_nil] at hW'
  clear hA0 hval0
  refine (walk_YardAdjacent a0 w0 a1 w1 W).mono fun e W' ⟨he, bel⟩ => ?_
  subst he
  exact ⟨_, rfl, _, _, _, [], _, [], hW', trodAll_mk1 (shut_bool Try.underlying4 _), (trodAll_cons_mk (shut_int Try.underlying3 w0) (trodAll_cons_mk (shut_int Try.underlying3 w1) trodAll_mk0)), rfl, bel.frame _, fun h => by cases h⟩

theorem over : Rows.yardAdjacentRow.holds Try.pinned (OpenSpec.ofChange Rows.yardAdjacentSpec) :=
  OpenClaim.holds_of_wide 8 Try.f8 rfl rfl rfl rfl rfl rfl rfl ⟨rfl, rfl, rfl, rfl, rfl⟩ rfl rfl rfl rfl rfl (by kernel_rfl) Try.func8 (by kernel_rfl)
    (of_decide_eq_true (by kernel_rfl)) (by unfold Func.isWrapper; first | (rw [if_pos (by decide +kernel)]; kernel_rfl) | (rw [if_neg (by decide +kernel)]; exact ⟨rfl, rfl⟩))
    (fun os started H enc _ => lifted os started H enc)

theorem proved : Rows.YardAdjacentSaid := over
end lawYardAdjacent
end Go.Proofs.Ythpnlhigcijicaa
