/- YardRows. -/
import Derived.Test.YthpnlhigcijicaaAwake
import Derived.Test.YthpnlhigcijicaaRow
import Derived.ProofKit
import Derived.OpenShut
import Derived.ShutString
import Derived.ChangeOld
import Derived.Lib.SmallJoins
namespace Go.Proofs.Ythpnlhigcijicaa
set_option linter.unusedVariables false
open Go.RowKit Go.Shelf

set_option maxRecDepth 100000 in
set_option maxHeartbeats 4000000 in
theorem yro_no (n k : Int) (W : World) (hn : rowB n = false) :
    Calls Try.prog 3 #[.int .i64 n, .int .i64 k] W fun e W' => e = .returned (.bool true) ∧ Below W.heap.size W W' := by
  have hI := fun w => Item_no n k hn w
  unfold frV at hI
  simp only at hI
  have hR := fun w => row_16_any n w
  rw [hn] at hR
  have HS := Lib.hid (fun w => Size_no n hn w)
  have HI := Lib.hid hI
  have HR := Lib.hid hR
  have HW := Lib.hid awake_any
  have HB := Lib.hid (Below.refl W.heap.size W)
  clear hn hI hR
  go_enter Try.func3, Try.ntmps3
  go_wp2_with fail
  refine (HS.out _).mono ?_
  rintro e w11 ⟨rfl, rfl⟩
  go_wp2_with fail
  refine (HI.out _).mono ?_
  rintro e w12 ⟨rfl, b12⟩
  have HB' := Lib.hid (b_next HB.out b12)
  clear b12 HB  
  have HB := HB'
  clear HB'
  have HB' := Lib.hid (b_next HB.out (below_alloc w12 (.cells #[.int .i64 0, .int .i64 0] 26)))
  clear HB  
  have HB := HB'
  clear HB'
  have Hf := Lib.hid (Two.new w12 26 0 0)
  obtain ⟨f0, f1, _, _⟩ := Hf.out.cells
  have lf := Hf.out.lt
  go_wp2_with fail
  refine (HR.out _).mono ?_
  rintro e w13 ⟨rfl, rfl⟩
  go_wp2_with fail
  refine (HW.out _).mono ?_
  rintro e w14 ⟨rfl, b14⟩
  have Hf' := Lib.hid (Hf.out.below b14)
  have HB' := Lib.hid (b_next HB.out b14)
  clear b14 HB Hf f0 f1 lf
  have Hf := Hf'
  clear Hf'
  have HB := HB'
  clear HB'
  obtain ⟨f0, f1, _, _⟩ := Hf.out.cells
  have lf := Hf.out.lt
  go_wp2_with fail
  go_ret
  exact ⟨rfl, HB.out⟩

set_option maxRecDepth 100000 in
set_option maxHeartbeats 4000000 in
theorem yro_yes (N : Nat) (k : Int) (W : World) (h1 : 1 ≤ N) (h3 : N ≤ 300) :
    Calls Try.prog 3 #[.int .i64 N, .int .i64 k] W fun e W' => e = .returned (.bool true) ∧ Below W.heap.size W W' := by
  have hI := fun w => Item_yes N k h1 h3 w
  have hS := fun w => Size_yes N h1 h3 w
  have hL := fun w => refRow_any N h1 h3 w
  have hR := fun w => row_16_any N w
  rw [show rowB N = true from by unfold rowB; simp; omega] at hR
  have hlen : len N ≤ 1000000 := by have := (len_spec h1).2.2; have := Nat.mul_le_mul h3 h3; omega
  have HR := Lib.hid hR
  have HW := Lib.hid awake_any
  have HB := Lib.hid (Below.refl W.heap.size W)
  clear hR
  by_cases hk : 0 ≤ k ∧ k < len N
  · obtain ⟨j, rfl⟩ := Int.eq_ofNat_of_zero_le hk.1
    have hj : j < len N := by omega
    obtain ⟨⟨a, b⟩, hab⟩ : ∃ z, fr N j = z := ⟨_, rfl⟩
    have hR : itemR N (j : Nat) = ((a, b), 0) := by unfold itemR; rw [if_pos hk]; simp [hab]
    obtain ⟨g0, g1⟩ := flatF_get (frs_get (N := N) hj)
    rw [hab] at g0 g1
    rw [hR] at hI
    unfold frV at hI
    simp only at hI g0 g1
    obtain ⟨L, hLe⟩ : ∃ L, len N = L := ⟨_, rfl⟩
    rw [hLe] at hS hL hj hlen g0 g1
    have HI := Lib.hid hI
    have HS := Lib.hid hS
    have HL := Lib.hid hL
    have Hg := Lib.hid (And.intro g0 g1)
    have hj2 : ¬ (j : Int) < 0 := by omega
    have hj3 : ¬ (L : Int) ≤ j := by omega
    have hj4 : (j : Int) < L := by omega
    clear hI hS hL g0 g1 hk hab hR hLe h1 h3
    go_enter Try.func3, Try.ntmps3
    go_wp2_with fail
    refine (HS.out _).mono ?_
    rintro e w11 ⟨rfl, b11⟩
    have HB' := Lib.hid (b_next HB.out b11)
    clear b11 HB  
    have HB := HB'
    clear HB'
    go_wp2_with fail
    refine (HI.out _).mono ?_
    rintro e w12 ⟨rfl, b12⟩
    have HB' := Lib.hid (b_next HB.out b12)
    clear b12 HB  
    have HB := HB'
    clear HB'
    have HB' := Lib.hid (b_next HB.out (below_alloc w12 (.cells #[.int .i64 a, .int .i64 b] 26)))
    clear HB  
    have HB := HB'
    clear HB'
    have Hf := Lib.hid (Two.new w12 26 a b)
    obtain ⟨f0, f1, _, _⟩ := Hf.out.cells
    have lf := Hf.out.lt
    go_wp2_with fail
    refine (HR.out _).mono ?_
    rintro e w13 ⟨rfl, rfl⟩
    go_wp2_with fail
    refine (HL.out _).mono ?_
    rintro e w14 ⟨v, rfl, hown, b14⟩
    have Hf' := Lib.hid (Hf.out.below b14)
    have HB' := Lib.hid (b_next HB.out b14)
    clear b14 HB Hf f0 f1 lf
    have Hf := Hf'
    clear Hf'
    have HB := HB'
    clear HB'
    obtain ⟨f0, f1, _, _⟩ := Hf.out.cells
    have lf := Hf.out.lt
    obtain ⟨g, cap, hv⟩ : ∃ g cap, v = .slice (some ⟨g, 0, none⟩) L cap := by
      rcases hown.2 with ⟨_, h⟩ | ⟨g, cap, cur, h, _⟩
      · omega
      · exact ⟨g, cap, h⟩
    subst hv
    have cA := fun j (hj : j < L * 2) => hown.cellAt j hj
    have k0 := (cA (j * 2) (by omega)).trans Hg.out.1
    have k1 := (cA (j * 2 + 1) (by omega)).trans Hg.out.2
    clear hown cA
    go_wp2_with fail
    go_still_tail 11, (by kernel_rfl)
    change wpList _ _ _ _ _ w14.drew
    have HB2 : Hid (Below W.heap.size W w14.drew) := HB.out.drew
    generalize w14.drew = w20 at *
    go_wp2_with (go_at_call 17; refine (HW.out _).mono ?_; rintro e w21 ⟨rfl, b21⟩)
    go_ret
    exact ⟨rfl, b_next HB2.out b21⟩
  · have hR : itemR N k = ((0, 0), 2) := by unfold itemR; rw [if_neg hk]
    rw [hR] at hI
    unfold frV at hI
    simp only at hI
    obtain ⟨L, hLe⟩ : ∃ L, len N = L := ⟨_, rfl⟩
    rw [hLe] at hS hL hk hlen
    have HI := Lib.hid hI
    have HS := Lib.hid hS
    have HL := Lib.hid hL
    have hk2 : k < 0 ∨ 0 ≤ k ∧ (L : Int) ≤ k := by omega
    clear hI hS hL hk hR hLe h1 h3
    rcases hk2 with hk2 | ⟨hk2, hk3⟩
    · go_enter Try.func3, Try.ntmps3
      go_wp2_with fail
      refine (HS.out _).mono ?_
      rintro e w11 ⟨rfl, b11⟩
      have HB' := Lib.hid (b_next HB.out b11)
      clear b11 HB  
      have HB := HB'
      clear HB'
      go_wp2_with fail
      refine (HI.out _).mono ?_
      rintro e w12 ⟨rfl, b12⟩
      have HB' := Lib.hid (b_next HB.out b12)
      clear b12 HB  
      have HB := HB'
      clear HB'
      have HB' := Lib.hid (b_next HB.out (below_alloc w12 (.cells #[.int .i64 0, .int .i64 0] 26)))
      clear HB  
      have HB := HB'
      clear HB'
      have Hf := Lib.hid (Two.new w12 26 0 0)
      obtain ⟨f0, f1, _, _⟩ := Hf.out.cells
      have lf := Hf.out.lt
      go_wp2_with fail
      refine (HR.out _).mono ?_
      rintro e w13 ⟨rfl, rfl⟩
      go_wp2_with fail
      refine (HL.out _).mono ?_
      rintro e w14 ⟨v, rfl, hown, b14⟩
      have Hf' := Lib.hid (Hf.out.below b14)
      have HB' := Lib.hid (b_next HB.out b14)
      clear b14 HB Hf f0 f1 lf
      have Hf := Hf'
      clear Hf'
      have HB := HB'
      clear HB'
      obtain ⟨f0, f1, _, _⟩ := Hf.out.cells
      have lf := Hf.out.lt
      obtain ⟨ad, cap, hv⟩ : ∃ ad cap, v = .slice ad L cap := by
        rcases hown.2 with ⟨h, h'⟩ | ⟨g, cap, cur, h, _⟩
        · subst h'; exact ⟨_, _, h⟩
        · exact ⟨_, cap, h⟩
      subst hv
      clear hown
      go_wp2_with fail
      refine (HW.out _).mono ?_
      rintro e w15 ⟨rfl, b15⟩
      have Hf' := Lib.hid (Hf.out.below b15)
      have HB' := Lib.hid (b_next HB.out b15)
      clear b15 HB Hf f0 f1 lf
      have Hf := Hf'
      clear Hf'
      have HB := HB'
      clear HB'
      obtain ⟨f0, f1, _, _⟩ := Hf.out.cells
      have lf := Hf.out.lt
      go_wp2_with fail
      go_ret
      exact ⟨rfl, HB.out⟩
    · go_enter Try.func3, Try.ntmps3
      go_wp2_with fail
      refine (HS.out _).mono ?_
      rintro e w11 ⟨rfl, b11⟩
      have HB' := Lib.hid (b_next HB.out b11)
      clear b11 HB  
      have HB := HB'
      clear HB'
      go_wp2_with fail
      refine (HI.out _).mono ?_
      rintro e w12 ⟨rfl, b12⟩
      have HB' := Lib.hid (b_next HB.out b12)
      clear b12 HB  
      have HB := HB'
      clear HB'
      have HB' := Lib.hid (b_next HB.out (below_alloc w12 (.cells #[.int .i64 0, .int .i64 0] 26)))
      clear HB  
      have HB := HB'
      clear HB'
      have Hf := Lib.hid (Two.new w12 26 0 0)
      obtain ⟨f0, f1, _, _⟩ := Hf.out.cells
      have lf := Hf.out.lt
      go_wp2_with fail
      refine (HR.out _).mono ?_
      rintro e w13 ⟨rfl, rfl⟩
      go_wp2_with fail
      refine (HL.out _).mono ?_
      rintro e w14 ⟨v, rfl, hown, b14⟩
      have Hf' := Lib.hid (Hf.out.below b14)
      have HB' := Lib.hid (b_next HB.out b14)
      clear b14 HB Hf f0 f1 lf
      have Hf := Hf'
      clear Hf'
      have HB := HB'
      clear HB'
      obtain ⟨f0, f1, _, _⟩ := Hf.out.cells
      have lf := Hf.out.lt
      obtain ⟨ad, cap, hv⟩ : ∃ ad cap, v = .slice ad L cap := by
        rcases hown.2 with ⟨h, h'⟩ | ⟨g, cap, cur, h, _⟩
        · subst h'; exact ⟨_, _, h⟩
        · exact ⟨_, cap, h⟩
      subst hv
      clear hown
      go_wp2_with fail
      refine (HW.out _).mono ?_
      rintro e w15 ⟨rfl, b15⟩
      have Hf' := Lib.hid (Hf.out.below b15)
      have HB' := Lib.hid (b_next HB.out b15)
      clear b15 HB Hf f0 f1 lf
      have Hf := Hf'
      clear Hf'
      have HB := HB'
      clear HB'
      obtain ⟨f0, f1, _, _⟩ := Hf.out.cells
      have lf := Hf.out.lt
      go_wp2_with fail
      go_ret
      exact ⟨rfl, HB.out⟩

theorem walk_YardRows (a : Int) (_ : (Lit.int .i64 a).wf = true) (b : Int) (_ : (Lit.int .i64 b).wf = true) (W : World) :
    Calls Try.prog 3 #[.int .i64 a, .int .i64 b] W fun e W' => e = .returned (.bool true) ∧ Below W.heap.size W W' := by
  cases h : rowB a with
  | false => exact yro_no a b W h
  | true =>
    unfold rowB at h
    rw [Bool.and_eq_true, decide_eq_true_eq, decide_eq_true_eq] at h
    obtain ⟨n, rfl⟩ := Int.eq_ofNat_of_zero_le (show 0 ≤ a by omega)
    exact yro_yes n b W (by omega) (by omega)


namespace lawYardRows
open Go.ChangeShapes Go.WideShapes Go.ChangeAt Go.RowKit
open Go.ChangeMaps (open_string shut_string)

theorem own : ownKnob Try.prog.godebug = none := by kernel_rfl
theorem lay : laidOutB Try.prog = true := by kernel_rfl

set_option maxRecDepth 100000 in
theorem lifted (os : Os) (started : os.Started) (H : Type) (enc : TypeId × Value → H) :
    ReturnsInHanded {} Try.checked os 3 .any (Rows.yardRowsSpec.pre6 enc Try.prog Try.f3 Rows.yardRowsRow.domain false) (Rows.yardRowsSpec.post enc Try.prog Try.f3 false true false false) := by
  refine returnsInHanded_of_change (C := Try.checked) own started (by kernel_rfl) Try.func3
    (ChangeSpec.witness6 (enc := enc) (C := Try.checked) false ⟨#[], #[.int .i64 0, .int .i64 0], []⟩ 8 (by kernel_rfl) (by kernel_rfl) (by kernel_rfl) (by kernel_rfl)) ?_
  intro W base args ds gs before hval0 hW hcnd _
  have hval : ∀ (j : Nat) t v, Try.f3.params[j]? = some t → args[j]? = some v → Value.okWide Try.prog W .any base t v := hval0
  have hW' := hW
  obtain ⟨p, q, hA0, hV, rfl, hfz, hnd⟩ := hW
  have hA : DataW.TrodAll enc Try.prog W 0 (fun _ => true) true Try.f3.params.toList args.toList ds p := hA0
  rw [Try.params3] at hA hval
  obtain ⟨v0, vs0, d0, ds0, p0, q0, hargs, rfl, rfl, h0, r0⟩ := trodAll_cons hA
  obtain ⟨v1, vs1, d1, ds1, p1, q1, rfl, rfl, rfl, h1, r1⟩ := trodAll_cons r0
  obtain ⟨rfl, rfl, rfl⟩ := trodAll_nil r1
  obtain rfl : args = #[v0, v1] := by cases args; simp_all
  obtain ⟨rfl, rfl⟩ := trodVars_none hV
  obtain ⟨a0, rfl, rfl, rfl, w0⟩ := open_int Try.underlying3 (hval 0 3 v0 rfl rfl) h0
  obtain ⟨a1, rfl, rfl, rfl, w1⟩ := open_int Try.underlying3 (hval 1 3 v1 rfl rfl) h1
  simp only [List.append_nil] at hW'
  clear hA0 hval0
  refine (walk_YardRows a0 w0 a1 w1 W).mono fun e W' ⟨he, bel⟩ => ?_
  subst he
  exact ⟨_, rfl, _, _, _, [], _, [], hW', trodAll_mk1 (shut_bool Try.underlying4 _), (trodAll_cons_mk (shut_int Try.underlying3 w0) (trodAll_cons_mk (shut_int Try.underlying3 w1) trodAll_mk0)), rfl, bel.frame _, fun h => by cases h⟩

theorem over : Rows.yardRowsRow.holds Try.pinned (OpenSpec.ofChange Rows.yardRowsSpec) :=
  OpenClaim.holds_of_wide 3 Try.f3 rfl rfl rfl rfl rfl rfl rfl ⟨rfl, rfl, rfl, rfl, rfl⟩ rfl rfl rfl rfl rfl (by kernel_rfl) Try.func3 (by kernel_rfl)
    (of_decide_eq_true (by kernel_rfl)) (by unfold Func.isWrapper; first | (rw [if_pos (by decide +kernel)]; kernel_rfl) | (rw [if_neg (by decide +kernel)]; exact ⟨rfl, rfl⟩))
    (fun os started H enc _ => lifted os started H enc)

theorem proved : Rows.YardRowsSaid := over
end lawYardRows
end Go.Proofs.Ythpnlhigcijicaa
