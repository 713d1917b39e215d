/- Closure, Tower and Base of trim are what the reference says, for every string: TrimClosures. -/
import Derived.Test.YtkiooaninckgdaaAwake
import Derived.Test.YtkiooaninckgdaaRefb
import Derived.ProofKit
import Derived.OpenShut
import Derived.ShutString
import Derived.ChangeOld
namespace Go.Proofs.Ytkiooaninckgdaa
set_option linter.unusedVariables false
open Go.RowKit

theorem short_size (a : ByteArray) : (a.extract 0 (min a.size 101)).size ≤ 101 := by rw [ByteArray.size_extract]; omega

theorem b_next {w a b : World} (h : Below w.heap.size w a) (k : Below a.heap.size a b) : Below w.heap.size w b := h.trans (k.mono h.size)

set_option maxRecDepth 100000 in
set_option maxHeartbeats 4000000 in
theorem TrimClosures_word (a : ByteArray) (ha : a.size ≤ maxLen) (s : ByteArray) (hs : a.extract 0 (min a.size 101) = s) (hw : wordB s.data.toList = false) (w : World) :
    Calls Try.prog 7 #[.string a] w fun e w' => e = .returned (.bool true) ∧ Below w.heap.size w w' := by
  have hsz := short_size a
  rw [hs] at hsz
  have r1 : closureR s = (⟨#[]⟩, 2) := by unfold closureR; rw [hw]; rfl
  have r2 : towerR s = (⟨#[]⟩, 2) := by unfold towerR; rw [hw]; rfl
  have r3 : baseR s = (⟨#[]⟩, 2) := by unfold baseR; rw [hw]; rfl
  have H := Lib.hid hs
  have R1 := Lib.hid r1
  have R2 := Lib.hid r2
  have R3 := Lib.hid r3
  have Hw := Lib.hid hw
  clear hs r1 r2 r3 hw
  go_enter Try.func7, Try.ntmps7
  go_wp2_with (first
    | (go_at_call 16; refine (short_any _ _ ha).mono ?_; rintro e w' ⟨rfl, rfl⟩; rw [H.out])
    | (go_at_call 40; refine (Closure_any _ _ (by omega)).mono ?_; rintro e w1 ⟨rfl, b1⟩; rw [R1.out])
    | (go_at_call 41; refine (Tower_any _ _ (by omega)).mono ?_; rintro e w2 ⟨rfl, b2⟩; rw [R2.out])
    | (go_at_call 42; refine (Base_any _ _ (by omega)).mono ?_; rintro e w3 ⟨rfl, b3⟩; rw [R3.out])
    | (go_at_call 21; refine (refWord_any _ _ (by omega)).mono ?_; rintro e w' ⟨rfl, rfl⟩; rw [Hw.out])
    | (go_at_call 22; refine (awake_any _).mono ?_; rintro e w4 ⟨rfl, b4⟩))
  go_ret
  exact ⟨rfl, b_next (b_next (b_next b1 b2) b3) b4⟩

set_option maxRecDepth 100000 in
set_option maxHeartbeats 8000000 in
theorem TrimClosures_yes (a : ByteArray) (ha : a.size ≤ maxLen) (s : ByteArray) (hs : a.extract 0 (min a.size 101) = s) (hw : wordB s.data.toList = true) (w : World) :
    Calls Try.prog 7 #[.string a] w fun e w' => e = .returned (.bool true) ∧ Below w.heap.size w w' := by
  have hsz := word_size hw
  obtain ⟨cv, ce, r1, hcb⟩ : ∃ cv ce, closureR s = (cv, ce) ∧ ((((100 : Int) < (closB s).size) ∧ cv = ⟨#[]⟩ ∧ ce = 5) ∨ ((¬ (100 : Int) < (closB s).size) ∧ cv = closB s ∧ ce = 0)) := by
    by_cases h : 100 < (closB s).size
    · exact ⟨⟨#[]⟩, 5, by unfold closureR; rw [hw, if_pos rfl, if_pos h], .inl ⟨by omega, rfl, rfl⟩⟩
    · exact ⟨closB s, 0, by unfold closureR; rw [hw, if_pos rfl, if_neg h], .inr ⟨by omega, rfl, rfl⟩⟩
  obtain ⟨tv, te, tb, r2, r4, htb⟩ : ∃ tv te tb, towerR s = (tv, te) ∧ towerT s = (tv, tb) ∧ ((te = 5 ∧ tb = false) ∨ (te = 0 ∧ tb = true)) := by
    cases h : towerL s.data.toList with
    | none => exact ⟨⟨#[]⟩, 5, false, by unfold towerR; rw [hw, if_pos rfl, h], by unfold towerT; rw [h], .inl ⟨rfl, rfl⟩⟩
    | some t => exact ⟨mk t, 0, true, by unfold towerR; rw [hw, if_pos rfl, h], by unfold towerT; rw [h], .inr ⟨rfl, rfl⟩⟩
  obtain ⟨bv, be, bb, r3, r5, hbb⟩ : ∃ bv be bb, baseR s = (bv, be) ∧ baseT s = (bv, bb) ∧ ((be = 6 ∧ bb = false) ∨ (be = 0 ∧ bb = true)) := by
    cases h : baseL s.data.toList with
    | none => exact ⟨⟨#[]⟩, 6, false, by unfold baseR; rw [hw, if_pos rfl, h], by unfold baseT; rw [h], .inl ⟨rfl, rfl⟩⟩
    | some t => exact ⟨mk t, 0, true, by unfold baseR; rw [hw, if_pos rfl, h], by unfold baseT; rw [h], .inr ⟨rfl, rfl⟩⟩
  have H := Lib.hid hs
  have R1 := Lib.hid r1
  have R2 := Lib.hid r2
  have R3 := Lib.hid r3
  have R4 := Lib.hid r4
  have R5 := Lib.hid r5
  have Hw := Lib.hid hw
  clear hs r1 r2 r3 r4 r5 hw
  rcases hcb with ⟨hcb, rfl, rfl⟩ | ⟨hcb, rfl, rfl⟩ <;> rcases htb with ⟨rfl, rfl⟩ | ⟨rfl, rfl⟩ <;> rcases hbb with ⟨rfl, rfl⟩ | ⟨rfl, rfl⟩
  all_goals
    go_enter Try.func7, Try.ntmps7
    go_wp2_with (first
      | (go_at_call 16; refine (short_any _ _ ha).mono ?_; rintro e w' ⟨rfl, rfl⟩; rw [H.out])
      | (go_at_call 40; refine (Closure_any _ _ (by omega)).mono ?_; rintro e w1 ⟨rfl, b1⟩; rw [R1.out])
      | (go_at_call 41; refine (Tower_any _ _ (by omega)).mono ?_; rintro e w2 ⟨rfl, b2⟩; rw [R2.out])
      | (go_at_call 42; refine (Base_any _ _ (by omega)).mono ?_; rintro e w3 ⟨rfl, b3⟩; rw [R3.out])
      | (go_at_call 21; refine (refWord_any _ _ (by omega)).mono ?_; rintro e w' ⟨rfl, rfl⟩; rw [Hw.out])
      | (go_at_call 43; refine (refClosure_any _ _ (by omega)).mono ?_; rintro e w4 ⟨rfl, b4⟩)
      | (go_at_call 44; refine (refTower_any _ _ (by omega)).mono ?_; rintro e w5 ⟨rfl, b5⟩; rw [R4.out])
      | (go_at_call 45; refine (refBase_any _ _ hsz).mono ?_; rintro e w6 ⟨rfl, b6⟩; rw [R5.out])
      | (go_at_call 22; refine (awake_any _).mono ?_; rintro e w7 ⟨rfl, b7⟩))
    go_ret
    exact ⟨rfl, b_next (b_next (b_next (b_next (b_next (b_next b1 b2) b3) b4) b5) b6) b7⟩

theorem walk_TrimClosures (a : ByteArray) (ha : a.size ≤ maxLen) (w : World) :
    Calls Try.prog 7 #[.string a] w fun e w' => e = .returned (.bool true) ∧ Below w.heap.size w w' := by
  cases hw : wordB (a.extract 0 (min a.size 101)).data.toList with
  | false => exact TrimClosures_word a ha _ rfl hw w
  | true => exact TrimClosures_yes a ha _ rfl hw w

namespace lawTrimClosures
open Go.ChangeShapes Go.WideShapes Go.ChangeAt Go.RowKit
open Go.ChangeMaps (open_string shut_string)

theorem own : ownKnob Try.prog.godebug = none := by kernel_rfl
theorem lay : laidOutB Try.prog = true := by kernel_rfl

set_option maxRecDepth 100000 in
theorem lifted (os : Os) (started : os.Started) (H : Type) (enc : TypeId × Value → H) :
    ReturnsInHanded {} Try.checked os 7 .any (Rows.trimClosuresSpec.pre6 enc Try.prog Try.f7 Rows.trimClosuresRow.domain false) (Rows.trimClosuresSpec.post enc Try.prog Try.f7 false true false false) := by
  refine returnsInHanded_of_change (C := Try.checked) own started (by kernel_rfl) Try.func7
    (ChangeSpec.witness6 (enc := enc) (C := Try.checked) false ⟨#[], #[.string ByteArray.empty], []⟩ 8 (by kernel_rfl) (by kernel_rfl) (by kernel_rfl) (by kernel_rfl)) ?_
  intro W base args ds gs before hval0 hW hcnd _
  have hval : ∀ (j : Nat) t v, Try.f7.params[j]? = some t → args[j]? = some v → Value.okWide Try.prog W .any base t v := hval0
  have hW' := hW
  obtain ⟨p, q, hA0, hV, rfl, hfz, hnd⟩ := hW
  have hA : DataW.TrodAll enc Try.prog W 0 (fun _ => true) true Try.f7.params.toList args.toList ds p := hA0
  rw [Try.params7] at hA hval
  obtain ⟨v0, vs0, d0, ds0, p0, q0, hargs, rfl, rfl, h0, r0⟩ := trodAll_cons hA
  obtain ⟨rfl, rfl, rfl⟩ := trodAll_nil r0
  obtain rfl : args = #[v0] := by cases args; simp_all
  obtain ⟨rfl, rfl⟩ := trodVars_none hV
  obtain ⟨a0, rfl, rfl, rfl, w0⟩ := open_string Try.underlying9 (hval 0 9 v0 rfl rfl) h0
  simp only [List.append_nil] at hW'
  clear hA0 hval0
  refine (walk_TrimClosures a0 w0 W).mono fun e W' ⟨he, bel⟩ => ?_
  subst he
  exact ⟨_, rfl, _, _, _, [], _, [], hW', trodAll_mk1 (shut_bool Try.underlying4 _), (trodAll_cons_mk (shut_string Try.underlying9 w0) trodAll_mk0), rfl, bel.frame _, fun h => by cases h⟩

theorem over : Rows.trimClosuresRow.holds Try.pinned (OpenSpec.ofChange Rows.trimClosuresSpec) :=
  OpenClaim.holds_of_wide 7 Try.f7 rfl rfl rfl rfl rfl rfl rfl ⟨rfl, rfl, rfl, rfl, rfl⟩ rfl rfl rfl rfl rfl (by kernel_rfl) Try.func7 (by kernel_rfl)
    (of_decide_eq_true (by kernel_rfl)) (by unfold Func.isWrapper; first | (rw [if_pos (by decide +kernel)]; kernel_rfl) | (rw [if_neg (by decide +kernel)]; exact ⟨rfl, rfl⟩))
    (fun os started H enc _ => lifted os started H enc)

theorem proved : Rows.TrimClosuresSaid := over
end lawTrimClosures
end Go.Proofs.Ytkiooaninckgdaa
