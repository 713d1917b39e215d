/- YardSizes. -/
import Derived.Test.YthpnlhigcijicaaAwake
import Derived.Test.YthpnlhigcijicaaSizem
import Derived.Test.YthpnlhigcijicaaBelow
import Derived.ProofKit
import Derived.OpenShut
import Derived.ShutString
import Derived.ChangeOld
import Derived.Lib.SmallJoins
namespace Go.Proofs.Ythpnlhigcijicaa
set_option linter.unusedVariables false
open Go.RowKit Go.Shelf

theorem phi_le (N : Nat) : ∀ i, phi N i ≤ i
  | 0 => Nat.le_refl _
  | i + 1 => by unfold phi; have := phi_le N i; split <;> omega

set_option maxRecDepth 100000 in
set_option maxHeartbeats 4000000 in
theorem ysz (x y : Int) (W : World) (hx : (Lit.int .i64 x).wf = true) (hy : (Lit.int .i64 y).wf = true) :
    Calls Try.prog 9 #[.int .i64 x, .int .i64 y] W fun e W' => e = .returned (.bool true) ∧ Below W.heap.size W W' := by
  have HM := Lib.hid (fun w => mod_any x 299 w hx (by omega) (by omega))
  have HW := Lib.hid awake_any
  clear hx
  go_enter Try.func9, Try.ntmps9
  go_wp2_with fail
  refine (HM.out _).mono ?_
  rintro e w1 ⟨⟨m, rfl, hm⟩, rfl⟩
  obtain ⟨N, hN⟩ : ∃ N : Nat, 2 + m = N := ⟨_, rfl⟩
  have hN1 : 2 ≤ N := by omega
  have hN2 : N ≤ 300 := by omega
  have hNm : 2 + (m : Int) = N := by omega
  obtain ⟨L, hL⟩ : ∃ L, len N = L := ⟨_, rfl⟩
  obtain ⟨M, hMl⟩ : ∃ M, len (N - 1) = M := ⟨_, rfl⟩
  have hS := fun w => Size_yes N (by omega) hN2 w
  have hS2 := fun w => Size_yes (N - 1) (by omega) (by omega) w
  rw [show ((N - 1 : Nat) : Int) = (N : Int) - 1 by omega] at hS2
  have hphi := len_phi hN1
  have hL3 := len_three hN1
  have hL4 : L ≤ 1000000 := by have := (len_spec (show 1 ≤ N by omega)).2.2; have := Nat.mul_le_mul hN2 hN2; omega
  rw [hL] at hS hL3 hphi
  rw [hMl] at hS2 hphi
  have hpl := phi_le N N
  have HS := Lib.hid hS
  have HS2 := Lib.hid hS2
  have HL := Lib.hid hL
  have HPhi := Lib.hid hphi
  clear hN hS hL hS2 hMl hphi
  go_wp2_with fail
  clear hNm
  refine (HS.out _).mono ?_
  rintro e w2 ⟨rfl, b2⟩
  have HB := Lib.hid b2
  clear b2
  go_wp2_with fail
  refine (HS2.out _).mono ?_
  rintro e w3 ⟨rfl, b3⟩
  have HB' := Lib.hid (b_next HB.out b3)
  clear b3 HB
  have HB := HB'
  clear HB'
  go_wp2_with fail
  go_loop [9, 10] (fun c i => ∃ m : Nat, 1 ≤ m ∧ m ≤ N + 1 ∧ c = .int .i64 (phi N (m - 1)) ∧ i = .int .i64 m) (fun _ i => N + 1 - (intOf i).toNat)
  case atStart => exact ⟨1, by omega, by omega, rfl, rfl⟩
  case round =>
    obtain ⟨i, hi1, hi2, rfl, rfl⟩ := hrel
    obtain ⟨j, rfl⟩ : ∃ j, i = j + 1 := ⟨i - 1, by omega⟩
    rw [Nat.add_sub_cancel]
    have hpj := phi_le N j
    obtain ⟨c, hc⟩ : ∃ c, phi N j = c := ⟨_, rfl⟩
    rw [hc] at hpj
    rw [hc]
    have Hc := Lib.hid hc
    clear hc
    by_cases hlt : j + 1 ≤ N
    · have hG := fun w => refGcd_any (j + 1) N (by omega) (by omega) w
      have hcl : ((j + 1 : Nat) : Int) ≤ N := by omega
      have hcl' : (j : Int) + 1 ≤ N := by omega
      by_cases hg : Nat.gcd (j + 1) N = 1
      · have hp : phi N (j + 1) = c + 1 := by unfold phi; rw [if_pos hg, Hc.out]
        rw [hg] at hG
        have HG := Lib.hid hG
        have HP := Lib.hid hp
        clear hG hg hp
        go_wp2_with fail
        refine (HG.out _).mono ?_
        rintro e w9 ⟨rfl, rfl⟩
        go_wp2_with fail
        go_round
        case rel => exact ⟨j + 1 + 1, by omega, by omega, by rw [Nat.add_sub_cancel, HP.out]; go_num, by go_num⟩
        case measure => simp [intOf]; omega
      · have hp : phi N (j + 1) = c := by unfold phi; rw [if_neg hg, Hc.out]
        have hgb : (((Nat.gcd (j + 1) N : Nat) : Int) == 1) = false := by rw [beq_eq_false_iff_ne]; omega
        obtain ⟨d, hd⟩ : ∃ d, Nat.gcd (j + 1) N = d := ⟨_, rfl⟩
        rw [hd] at hG hgb hg
        have hd2 : ¬ (d : Int) = 1 := by omega
        have HG := Lib.hid hG
        have HP := Lib.hid hp
        clear hG hp hd
        go_wp2_with fail
        refine (HG.out _).mono ?_
        rintro e w9 ⟨rfl, rfl⟩
        go_wp2_with fail
        go_round
        case rel => exact ⟨j + 1 + 1, by omega, by omega, by rw [Nat.add_sub_cancel, HP.out], by go_num⟩
        case measure => simp [intOf]; omega
    · obtain rfl : j = N := by omega
      have hcl : ¬ ((j + 1 : Nat) : Int) ≤ j := by omega
      have hcl' : ¬ (j : Int) + 1 ≤ j := by omega
      have HLM := Lib.hid (show L = M + c by rw [← Hc.out]; exact HPhi.out)
      have HM2 := Lib.hid (fun w => mod_any y (L : Int) w hy (by omega) (by omega))
      clear hpj hpl hm hi1 hi2 HPhi Hc
      go_wp2_with fail
      refine (HM2.out _).mono ?_
      rintro e w4 ⟨⟨K, rfl, hK⟩, rfl⟩
      obtain ⟨⟨a, b⟩, hab⟩ : ∃ z, fr j K = z := ⟨_, rfl⟩
      have hKl : K < len j := by rw [HL.out]; omega
      have hvl := fr_valid (show 1 ≤ j by omega) hN2 hKl
      have hrs := fr_rest (show 1 ≤ j by omega) hKl
      rw [hab] at hvl hrs
      rw [HL.out] at hrs
      simp only at hvl hrs
      have hle : a ≤ b := by have := fr_le (show 1 ≤ j by omega) hKl; rw [hab] at this; exact this
      have hI := fun w => Item_yes j K (by omega) hN2 w
      rw [show itemR j K = ((a, b), 0) from by unfold itemR; rw [if_pos (by omega)]; simp [hab]] at hI
      have hI2 := fun w => Item_yes j ((L : Int) - 1 - K) (by omega) hN2 w
      rw [show itemR j ((L : Int) - 1 - K) = ((b - a, b), 0) from by unfold itemR; rw [if_pos (by rw [HL.out]; omega), show ((L : Int) - 1 - K).toNat = L - 1 - K from by omega, hrs]] at hI2
      have hBe : ∀ w, Calls Try.prog 19 #[.int .i64 j, .agg #[.int .i64 a, .int .i64 b]] w fun e w' => e = .returned (.tuple #[.int .i64 K, .int .i64 0]) ∧ Below w.heap.size w w' := fun w =>
        (Below_yes j a b (by omega) hN2 hvl w).mono fun e w' ⟨⟨k, hk, he⟩, hbw⟩ => ⟨by rw [← hab] at hk; rw [he, below_fr (by omega) hKl hk], hbw⟩
      have hRe := fun w => rest_any a b hvl w
      unfold frV at hI hI2 hRe
      simp only at hI hI2 hRe
      have HI := Lib.hid hI
      have HI2 := Lib.hid hI2
      have HBe := Lib.hid hBe
      have HRe := Lib.hid hRe
      obtain ⟨d, hd⟩ : ∃ d, b - a = d := ⟨_, rfl⟩
      rw [hd] at HI2 HRe
      have hK2 : (K : Int) < L := by omega
      clear hI hI2 hBe hRe hab hvl hrs hle hKl hd hK
      go_wp2_with fail
      refine (HI.out _).mono ?_
      rintro e w6 ⟨rfl, b6⟩
      have HB' := Lib.hid (b_next HB.out b6)
      clear b6 HB  
      have HB := HB'
      clear HB'
      have HB' := Lib.hid (b_next HB.out (below_alloc w6 (.cells #[.int .i64 a, .int .i64 b] 26)))
      clear HB  
      have HB := HB'
      clear HB'
      have Ha := Lib.hid (Two.new w6 26 a b)
      obtain ⟨a0, a1, _, _⟩ := Ha.out.cells
      have la := Ha.out.lt
      go_wp2_with fail
      refine (HI2.out _).mono ?_
      rintro e w7 ⟨rfl, b7⟩
      have Ha' := Lib.hid (Ha.out.below b7)
      have HB' := Lib.hid (b_next HB.out b7)
      clear b7 HB Ha a0 a1 la
      have Ha := Ha'
      clear Ha'
      have HB := HB'
      clear HB'
      obtain ⟨a0, a1, _, _⟩ := Ha.out.cells
      have la := Ha.out.lt
      have Ha' := Lib.hid (Ha.out.below (below_alloc w7 (.cells #[.int .i64 d, .int .i64 b] 26)))
      have HB' := Lib.hid (b_next HB.out (below_alloc w7 (.cells #[.int .i64 d, .int .i64 b] 26)))
      clear HB Ha a0 a1 la
      have Ha := Ha'
      clear Ha'
      have HB := HB'
      clear HB'
      have Hb := Lib.hid (Two.new w7 26 d b)
      obtain ⟨a0, a1, _, _⟩ := Ha.out.cells
      have la := Ha.out.lt
      obtain ⟨b0, b1, _, _⟩ := Hb.out.cells
      have lb := Hb.out.lt
      go_wp2_with fail
      refine (HBe.out _).mono ?_
      rintro e w8 ⟨rfl, b8⟩
      have Ha' := Lib.hid (Ha.out.below b8)
      have Hb' := Lib.hid (Hb.out.below b8)
      have HB' := Lib.hid (b_next HB.out b8)
      clear b8 HB Ha Hb a0 a1 la b0 b1 lb
      have Ha := Ha'
      clear Ha'
      have Hb := Hb'
      clear Hb'
      have HB := HB'
      clear HB'
      obtain ⟨a0, a1, _, _⟩ := Ha.out.cells
      have la := Ha.out.lt
      obtain ⟨b0, b1, _, _⟩ := Hb.out.cells
      have lb := Hb.out.lt
      clear HI HI2 HBe HS HS2 HM HM2
      have hLM : IntKind.i64.wrap ((L : Int) - M) = c := by rw [show (L : Int) - M = c from by have := HLM.out; omega]; exact iN (by have := HLM.out; omega)
      go_wp2_with fail
      go_region_held3 (fun w' => w'.cell? ⟨w6.heap.size, 0, none⟩ = some (.int .i64 a) ∧ w'.cell? ⟨w6.heap.size, 1, none⟩ = some (.int .i64 b) ∧ w'.cell? ⟨w7.heap.size, 0, none⟩ = some (.int .i64 d) ∧ w'.cell? ⟨w7.heap.size, 1, none⟩ = some (.int .i64 b))
        (first | exact ⟨a0, a1, b0, b1⟩ | exact ⟨c0, c1, d0, d1⟩ | exact ⟨e0, e1, f0, f1⟩)
        (first
          | (go_at_call 48; refine (HRe.out _).mono ?_; rintro e w21 ⟨rfl, k21⟩; have b21 := undrew1 k21; have Hc := Lib.hid (Ha.out.below b21); have Hd := Lib.hid (Hb.out.below b21); have HBc := Lib.hid (b_next HB.out b21); obtain ⟨c0, c1, _, _⟩ := Hc.out.cells; obtain ⟨d0, d1, _, _⟩ := Hd.out.cells)
          | (go_at_call 17; refine (HW.out _).mono ?_; rintro e w22 ⟨rfl, b22⟩; have He := Lib.hid (Hc.out.below b22); have Hf := Lib.hid (Hd.out.below b22); have HBe2 := Lib.hid (b_next HBc.out b22); obtain ⟨e0, e1, _, _⟩ := He.out.cells; obtain ⟨f0, f1, _, _⟩ := Hf.out.cells))
      all_goals go_wp2_with fail
      all_goals go_ret
      all_goals exact ⟨rfl, HBe2.out⟩

theorem walk_YardSizes (a : Int) (h1 : (Lit.int .i64 a).wf = true) (b : Int) (h2 : (Lit.int .i64 b).wf = true) (W : World) :
    Calls Try.prog 9 #[.int .i64 a, .int .i64 b] W fun e W' => e = .returned (.bool true) ∧ Below W.heap.size W W' := ysz a b W h1 h2


namespace lawYardSizes
open Go.ChangeShapes Go.WideShapes Go.ChangeAt Go.RowKit
open Go.ChangeMaps (open_string shut_string)

theorem own : ownKnob Try.prog.godebug = none := by kernel_rfl
theorem lay : laidOutB Try.prog = true := by kernel_rfl

set_option maxRecDepth 100000 in
theorem lifted (os : Os) (started : os.Started) (H : Type) (enc : TypeId × Value → H) :
    ReturnsInHanded {} Try.checked os 9 .any (Rows.yardSizesSpec.pre6 enc Try.prog Try.f9 Rows.yardSizesRow.domain false) (Rows.yardSizesSpec.post enc Try.prog Try.f9 false true false false) := by
  refine returnsInHanded_of_change (C := Try.checked) own started (by kernel_rfl) Try.func9
    (ChangeSpec.witness6 (enc := enc) (C := Try.checked) false ⟨#[], #[.int .i64 0, .int .i64 0], []⟩ 8 (by kernel_rfl) (by kernel_rfl) (by kernel_rfl) (by kernel_rfl)) ?_
  intro W base args ds gs before hval0 hW hcnd _
  have hval : ∀ (j : Nat) t v, Try.f9.params[j]? = some t → args[j]? = some v → Value.okWide Try.prog W .any base t v := hval0
  have hW' := hW
  obtain ⟨p, q, hA0, hV, rfl, hfz, hnd⟩ := hW
  have hA : DataW.TrodAll enc Try.prog W 0 (fun _ => true) true Try.f9.params.toList args.toList ds p := hA0
  rw [Try.params9] at hA hval
  obtain ⟨v0, vs0, d0, ds0, p0, q0, hargs, rfl, rfl, h0, r0⟩ := trodAll_cons hA
  obtain ⟨v1, vs1, d1, ds1, p1, q1, rfl, rfl, rfl, h1, r1⟩ := trodAll_cons r0
  obtain ⟨rfl, rfl, rfl⟩ := trodAll_nil r1
  obtain rfl : args = #[v0, v1] := by cases args; simp_all
  obtain ⟨rfl, rfl⟩ := trodVars_none hV
  obtain ⟨a0, rfl, rfl, rfl, w0⟩ := open_int Try.underlying3 (hval 0 3 v0 rfl rfl) h0
  obtain ⟨a1, rfl, rfl, rfl, w1⟩ := open_int Try.underlying3 (hval 1 3 v1 rfl rfl) h1
  simp only [List.append_nil] at hW'
  clear hA0 hval0
  refine (walk_YardSizes a0 w0 a1 w1 W).mono fun e W' ⟨he, bel⟩ => ?_
  subst he
  exact ⟨_, rfl, _, _, _, [], _, [], hW', trodAll_mk1 (shut_bool Try.underlying4 _), (trodAll_cons_mk (shut_int Try.underlying3 w0) (trodAll_cons_mk (shut_int Try.underlying3 w1) trodAll_mk0)), rfl, bel.frame _, fun h => by cases h⟩

theorem over : Rows.yardSizesRow.holds Try.pinned (OpenSpec.ofChange Rows.yardSizesSpec) :=
  OpenClaim.holds_of_wide 9 Try.f9 rfl rfl rfl rfl rfl rfl rfl ⟨rfl, rfl, rfl, rfl, rfl⟩ rfl rfl rfl rfl rfl (by kernel_rfl) Try.func9 (by kernel_rfl)
    (of_decide_eq_true (by kernel_rfl)) (by unfold Func.isWrapper; first | (rw [if_pos (by decide +kernel)]; kernel_rfl) | (rw [if_neg (by decide +kernel)]; exact ⟨rfl, rfl⟩))
    (fun os started H enc _ => lifted os started H enc)

theorem proved : Rows.YardSizesSaid := over
end lawYardSizes
end Go.Proofs.Ythpnlhigcijicaa
