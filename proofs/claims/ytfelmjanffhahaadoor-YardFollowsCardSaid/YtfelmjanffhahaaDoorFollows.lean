/- YardFollows: for any string, Follow returns the fraction with this path, or the specified error. Conditions: the row's own (the listed tables of Go's library read as the program's text lays them; the card ties them). -/
import Derived.Test.YtfelmjanffhahaaDoorAwake
import Derived.Test.YtfelmjanffhahaaDoorRflw
import Derived.Test.YtfelmjanffhahaaDoorRows
import Derived.Test.YtfelmjanffhahaaDoorCards
import Derived.Test.YtfelmjanffhahaaDoorTie
import Derived.ProofKit
import Derived.OpenShut
import Derived.ShutString
import Derived.ChangeOld
import Derived.LaidMore
import Derived.Lay
import Derived.SevenTiedAt
import Derived.Stop.Joined
namespace Go.Proofs.YtfelmjanffhahaaDoor
set_option linter.unusedVariables false
open Go.RowKit Go.Shelf

theorem cut_size (a : ByteArray) : (a.extract 0 (min a.size 210)).size ≤ 210 := by rw [ByteArray.size_extract]; omega

set_option maxRecDepth 100000 in
set_option maxHeartbeats 4000000 in
theorem walk_YardFollows (a : ByteArray) (ha : a.size ≤ maxLen) (w : World) :
    Calls Tryd.prog 3 #[.string a] w fun e w' => e = .returned (.bool true) ∧ Below w.heap.size w w' := by
  unfold maxLen at ha
  have e1 : (min (a.size : Int) 210).toNat = min a.size 210 := by omega
  obtain ⟨s, hs⟩ : ∃ s, a.extract 0 (min a.size 210) = s := ⟨_, rfl⟩
  have hsz := cut_size a
  rw [hs] at hsz
  have hF := fun w => Follow_any s w (by unfold maxLen; omega)
  have hWy := fun w => refWay_any s w (by omega)
  have hRf := fun w => refFollow_any s w (by omega)
  have HA := Lib.hid awake_any
  have HS := Lib.hid hs
  generalize hl : s.data.toList = l at hF hWy hRf
  cases hw : wayB l with
  | false =>
    have hR : flwV l = .tuple #[.agg #[.int .i64 0, .int .i64 0], .int .i64 2] := by unfold flwV flwR; rw [hw]; rfl
    rw [hR] at hF
    rw [hw] at hWy
    have HF := Lib.hid hF
    have HWy := Lib.hid hWy
    clear hF hWy hRf hR hw hl hs
    go_enter Tryd.func3, Tryd.ntmps3
    go_wp2_with fail
    rw [HS.out]
    refine (HF.out _).mono ?_
    rintro e w1 ⟨rfl, b1⟩
    have HB1 := Lib.hid (b_next b1 (below_alloc w1 (.cells #[.int .i64 0, .int .i64 0] 23)))
    have T1 := Lib.hid (Two.new w1 23 0 0)
    clear b1
    obtain ⟨c0, c1, _, _⟩ := T1.out.cells
    go_wp2_with fail
    refine (HWy.out _).mono ?_
    rintro e w2 ⟨rfl, rfl⟩
    go_wp2_with fail
    refine (HA.out _).mono ?_
    rintro e w3 ⟨rfl, b3⟩
    have HB3 := b_next HB1.out b3
    go_wp2_with fail
    go_ret
    exact ⟨rfl, HB3⟩
  | true =>
    rw [hw] at hWy
    have hG : flwV l = (match flw g01 l with | some g => .tuple #[.agg #[.int .i64 ((g.a + g.c : Nat) : Int), .int .i64 ((g.b + g.d : Nat) : Int)], .int .i64 0] | none => .tuple #[.agg #[.int .i64 0, .int .i64 0], .int .i64 5]) := by
      unfold flwV flwR; rw [hw]; cases flw g01 l <;> rfl
    have hG2 : refFlwV l = (match flw g01 l with | some g => .tuple #[.agg #[.int .i64 ((g.a + g.c : Nat) : Int), .int .i64 ((g.b + g.d : Nat) : Int)], .bool true] | none => .tuple #[.agg #[.int .i64 0, .int .i64 0], .bool false]) := by
      unfold refFlwV refFlwR; cases flw g01 l <;> rfl
    cases hf : flw g01 l with
    | none =>
      rw [hf] at hG hG2
      simp only at hG hG2
      rw [hG] at hF
      rw [hG2] at hRf
      have HF := Lib.hid hF
      have HWy := Lib.hid hWy
      have HRf := Lib.hid hRf
      clear hF hWy hRf hG hG2 hf hw hl hs
      go_enter Tryd.func3, Tryd.ntmps3
      go_wp2_with fail
      rw [HS.out]
      refine (HF.out _).mono ?_
      rintro e w1 ⟨rfl, b1⟩
      have HB1 := Lib.hid (b_next b1 (below_alloc w1 (.cells #[.int .i64 0, .int .i64 0] 23)))
      have T1 := Lib.hid (Two.new w1 23 0 0)
      clear b1
      obtain ⟨c0, c1, _, _⟩ := T1.out.cells
      go_wp2_with fail
      refine (HWy.out _).mono ?_
      rintro e w2 ⟨rfl, rfl⟩
      go_wp2_with fail
      refine (HRf.out _).mono ?_
      rintro e w3 ⟨rfl, b3⟩
      have T3 := Lib.hid ((T1.out.below b3).alloc (.cells #[.int .i64 0, .int .i64 0] 23))
      have HB3 := Lib.hid (b_next (b_next HB1.out b3) (below_alloc w3 (.cells #[.int .i64 0, .int .i64 0] 23)))
      clear b3 c0 c1
      obtain ⟨c0, c1, _, _⟩ := T3.out.cells
      go_wp2_with fail
      refine (HA.out _).mono ?_
      rintro e w4 ⟨rfl, b4⟩
      have HB4 := b_next HB3.out b4
      go_wp2_with fail
      go_ret
      exact ⟨rfl, HB4⟩
    | some g =>
      rw [hf] at hG hG2
      simp only at hG hG2
      obtain ⟨m1, hm1⟩ : ∃ m, g.a + g.c = m := ⟨_, rfl⟩
      obtain ⟨m2, hm2⟩ : ∃ m, g.b + g.d = m := ⟨_, rfl⟩
      rw [hm1, hm2] at hG hG2
      rw [hG] at hF
      rw [hG2] at hRf
      have HF := Lib.hid hF
      have HWy := Lib.hid hWy
      have HRf := Lib.hid hRf
      clear hF hWy hRf hG hG2 hf hw hl hs hm1 hm2
      go_enter Tryd.func3, Tryd.ntmps3
      go_wp2_with fail
      rw [HS.out]
      refine (HF.out _).mono ?_
      rintro e w1 ⟨rfl, b1⟩
      have HB1 := Lib.hid (b_next b1 (below_alloc w1 (.cells #[.int .i64 m1, .int .i64 m2] 23)))
      have T1 := Lib.hid (Two.new w1 23 (m1 : Int) (m2 : Int))
      clear b1
      obtain ⟨c0, c1, _, _⟩ := T1.out.cells
      go_wp2_with fail
      refine (HWy.out _).mono ?_
      rintro e w2 ⟨rfl, rfl⟩
      go_wp2_with fail
      refine (HRf.out _).mono ?_
      rintro e w3 ⟨rfl, b3⟩
      have T3 := Lib.hid ((T1.out.below b3).alloc (.cells #[.int .i64 m1, .int .i64 m2] 23))
      have T4 := Lib.hid (Two.new w3 23 (m1 : Int) (m2 : Int))
      have HB3 := Lib.hid (b_next (b_next HB1.out b3) (below_alloc w3 (.cells #[.int .i64 m1, .int .i64 m2] 23)))
      clear b3 c0 c1
      obtain ⟨c0, c1, _, _⟩ := T3.out.cells
      obtain ⟨d0, d1, _, _⟩ := T4.out.cells
      go_wp2_with fail
      refine (HA.out _).mono ?_
      rintro e w4 ⟨rfl, b4⟩
      have HB4 := b_next HB3.out b4
      go_wp2_with fail
      go_ret
      exact ⟨rfl, HB4⟩

namespace lawYardFollows
open Go.ChangeShapes Go.WideShapes Go.ChangeAt Go.RowKit
open Go.ChangeMaps (open_string shut_string)

theorem own : ownKnob Tryd.prog.godebug = none := by kernel_rfl
theorem lay : laidOutB Tryd.prog = true := by kernel_rfl

theorem met (os : Os) (args : Array Value) : laidMetH Tryd.prog Rows.yardFollowsRow.laid ((World.laidAll Tryd.prog os Rows.yardFollowsRow.laid).forCall (fun _ _ => 0) ⟨#[], args, []⟩).memory := by
  rw [MakeChecks.laidMetH_plain _ _ _ (by kernel_rfl)]; exact laidMet_laidAll _ (by kernel_rfl) (by kernel_rfl)

set_option maxRecDepth 100000 in
theorem lifted (os : Os) (started : os.Started) (H : Type) (enc : TypeId × Value → H) :
    ReturnsInHanded {} Tryd.checked os 3 .any (fun w args => (Rows.yardFollowsSpec.pre enc Tryd.prog Tryd.f3 Rows.yardFollowsRow.domain false w args ∧ laidMetH Tryd.prog Rows.yardFollowsRow.laid w) ∧ sizedMet enc Tryd.prog Tryd.f3 (OpenSpec.ofChange Rows.yardFollowsSpec) false w args)
      (Rows.yardFollowsSpec.post enc Tryd.prog Tryd.f3 false true false false) := by
  refine returnsInHanded_of_change_and (C := Tryd.checked) (X := fun w _ => laidMetH Tryd.prog Rows.yardFollowsRow.laid w) (fun _ _ _ hh h => h.of_heap hh) own started (by kernel_rfl) Tryd.func3
    (ChangeSpec.witness_shaped (enc := enc) (C := Tryd.checked) (os := os) (X := fun w _ => laidMetH Tryd.prog Rows.yardFollowsRow.laid w) false (World.laidAll Tryd.prog os Rows.yardFollowsRow.laid) #[.string ByteArray.empty] 8 (World.laidAll_os _ _ _)
      (World.shaped_of_ZipB (by kernel_rfl) (by kernel_rfl)) (by kernel_rfl) (by kernel_rfl) (by kernel_rfl)
      (met os _)) ?_
  intro W base args ds gs before hval0 hW hcnd _ hL _
  have hval : ∀ (j : Nat) t v, Tryd.f3.params[j]? = some t → args[j]? = some v → Value.okWide Tryd.prog W .any base t v := hval0
  have hW' := hW
  obtain ⟨p, q, hA0, hV, rfl, hfz, hnd⟩ := hW
  have hA : DataW.TrodAll enc Tryd.prog W 0 (fun _ => true) true Tryd.f3.params.toList args.toList ds p := hA0
  rw [Tryd.params3] at hA hval
  obtain ⟨v0, vs0, d0, ds0, p0, q0, hargs, rfl, rfl, h0, r0⟩ := trodAll_cons hA
  obtain ⟨rfl, rfl, rfl⟩ := trodAll_nil r0
  obtain rfl : args = #[v0] := by cases args; simp_all
  obtain ⟨rfl, rfl⟩ := trodVars_none hV
  obtain ⟨a0, rfl, rfl, rfl, w0⟩ := open_string Tryd.underlying9 (hval 0 9 v0 rfl rfl) h0
  simp only [List.append_nil] at hW'
  clear hA0 hval0
  refine (walk_YardFollows a0 w0 W).mono fun e W' ⟨he, bel⟩ => ?_
  subst he
  exact ⟨_, rfl, _, _, _, [], _, [], hW', trodAll_mk1 (shut_bool Tryd.underlying4 _), (trodAll_cons_mk (shut_string Tryd.underlying9 w0) trodAll_mk0), rfl, bel.frame _, fun h => by cases h⟩

theorem over : Rows.yardFollowsRow.holds Tryd.pinned (OpenSpec.ofChange Rows.yardFollowsSpec) :=
  OpenClaim.holds_of_wide 3 Tryd.f3 rfl rfl rfl rfl rfl rfl rfl ⟨rfl, rfl, rfl, rfl, rfl⟩ rfl rfl rfl rfl rfl (by kernel_rfl) Tryd.func3 (by kernel_rfl)
    (of_decide_eq_true (by kernel_rfl)) (by unfold Func.isWrapper; first | (rw [if_pos (by decide +kernel)]; kernel_rfl) | (rw [if_neg (by decide +kernel)]; exact ⟨rfl, rfl⟩))
    (fun os started H enc _ => lifted os started H enc)

theorem proved : Rows.YardFollowsCardSaid :=
  Claim7.holds_tied_plain_at .later [] [.data, .pinned] true (true, "c082d0eb591b72ebbf6abfb91f4b2d7b982960650fbf65d5be28a7a1f6187b41") false over (fun _ h => by cases h) (by kernel_rfl) (fun _ h => by cases h) yardFollows_row_tie rfl ⟨rfl, rfl⟩ (by kernel_rfl) rfl
    (fun f fn hf hfn => by
      obtain rfl : f = 3 := Option.some.inj ((show Tryd.prog.funcNamed "galloon/galloonlaw03.YardFollows" = some 3 by kernel_rfl).symm.trans hf) |>.symm
      obtain rfl : fn = Tryd.f3 := (Option.some.inj (Tryd.func3.symm.trans hfn)).symm
      exact ⟨by kernel_rfl, fun j t ht => by
        rw [Tryd.params3] at ht
        have hm : t ∈ [9] := by simpa using Array.mem_of_getElem? ht
        have hall : ([9].all fun u => !Tryd.prog.wantsStandIn u) = true := by kernel_rfl
        exact (show Tryd.prog.wantsStandIn t = false by simpa using List.all_eq_true.1 hall t hm)⟩)
    (by kernel_rfl)
end lawYardFollows
end Go.Proofs.YtfelmjanffhahaaDoor
