/- Inner and Outer of any string are those of the reference: TrimInner. -/
import Derived.Test.YteejjcipdpojnaaRin
namespace Go.Proofs.Yteejjcipdpojnaa
set_option linter.unusedVariables false
open Go.RowKit

set_option maxRecDepth 100000 in
set_option maxHeartbeats 8000000 in
theorem walk_TrimInner (a : ByteArray) (ha : a.size ≤ maxLen) (w : World) :
    Calls Try.prog 8 #[.string a] w fun e w' => e = .returned (.bool true) ∧ Below w.heap.size w w' := by
  obtain ⟨s, hs⟩ : ∃ s, a.extract 0 (min a.size 101) = s := ⟨_, rfl⟩
  have hsz := short_size a
  rw [hs] at hsz
  have H := Lib.hid hs
  cases hw : wordB s.data.toList with
  | false =>
    have r1 : innerR s = (⟨#[]⟩, 2) := by unfold innerR; rw [hw]; rfl
    have r2 : outR s = (⟨#[]⟩, 2) := by unfold outR; rw [hw]; rfl
    have R1 := Lib.hid r1
    have R2 := Lib.hid r2
    have Hw := Lib.hid hw
    clear hs r1 r2 hw
    go_enter Try.func8, Try.ntmps8
    go_wp2_with (first
      | (go_at_call 16; refine (short_any _ _ ha).mono ?_; rintro e w' ⟨rfl, rfl⟩; rw [H.out])
      | (go_at_call 46; refine (Inner_any _ _ (by omega)).mono ?_; rintro e w1 ⟨rfl, b1⟩; rw [R1.out])
      | (go_at_call 47; refine (Outer_any _ _ (by omega)).mono ?_; rintro e w2 ⟨rfl, b2⟩; rw [R2.out])
      | (go_at_call 21; refine (refWord_any _ _ (by omega)).mono ?_; rintro e w' ⟨rfl, rfl⟩; rw [Hw.out])
      | (go_at_call 22; refine (awake_any _).mono ?_; rintro e w4 ⟨rfl, b4⟩))
    go_ret
    exact ⟨rfl, b_next (b_next b1 b2) b4⟩
  | true =>
    have h100 := word_size hw
    obtain ⟨l, hl⟩ : ∃ l, s.data.toList = l := ⟨_, rfl⟩
    have hll : l.length = s.size := by rw [← hl, data_length]
    have r1 : innerR s = (mk (innerL l), 0) := by unfold innerR; rw [hw, ← hl]; rfl
    have r2 : outR s = (mk (outL l), 0) := by unfold outR; rw [hw, ← hl]; rfl
    have hsum := out_inner_len l l.length 0
    have p2 : pal (outL l) = true := outAt_pal l l.length 0
    have u2 : List.Sublist l (outL l) := by have := outAt_sub l l.length 0 (by omega); rw [seg_all] at this; exact this
    obtain ⟨x, hx⟩ : ∃ x, mk (innerL l) = x := ⟨_, rfl⟩
    obtain ⟨y, hy⟩ : ∃ y, mk (outL l) = y := ⟨_, rfl⟩
    have hyd : y.data.toList = outL l := by rw [← hy, data_mk]
    have hxs : x.size = (innerL l).length := by rw [← hx, mk_size]
    have hys : y.size = (outL l).length := by rw [← hy, mk_size]
    have hxl := innerAt_len l l.length 0
    rw [hx] at r1
    rw [hy] at r2
    have r3 : mk (innerL s.data.toList) = x := by rw [hl]; exact hx
    have q2 : pal y.data.toList = true := by rw [hyd]; exact p2
    have v2 : subB s.data.toList y.data.toList = true := by rw [hyd, hl]; exact subB_of u2
    have hxy : x.size + y.size = 2 * s.size := by rw [hxs, hys, ← hll]; unfold innerL outL; omega
    have hx100 : x.size ≤ 100 := by have : (innerL l).length ≤ l.length := hxl; omega
    have hy200 : y.size ≤ 200 := by omega
    have hb1 : (y.size : Int) = 2 * (s.size : Int) - x.size := by omega
    have hb2 : ((y.size : Int) == 2 * (s.size : Int) - x.size) = true := by rw [beq_iff_eq]; exact hb1
    have R1 := Lib.hid r1
    have R2 := Lib.hid r2
    have R3 := Lib.hid r3
    have Q2 := Lib.hid q2
    have V2 := Lib.hid v2
    have Hw := Lib.hid hw
    clear hs r1 r2 r3 q2 v2 p2 u2 hx hy hyd hxs hys hxl hxy hsum hl hll hw hb1
    go_enter Try.func8, Try.ntmps8
    go_wp2_with (first
      | (go_at_call 16; refine (short_any _ _ ha).mono ?_; rintro e w' ⟨rfl, rfl⟩; rw [H.out])
      | (go_at_call 46; refine (Inner_any _ _ (by omega)).mono ?_; rintro e w1 ⟨rfl, b1⟩; rw [R1.out])
      | (go_at_call 47; refine (Outer_any _ _ (by omega)).mono ?_; rintro e w2 ⟨rfl, b2⟩; rw [R2.out])
      | (go_at_call 21; refine (refWord_any _ _ (by omega)).mono ?_; rintro e w' ⟨rfl, rfl⟩; rw [Hw.out])
      | (go_at_call 48; refine (refInner_any _ _ h100).mono ?_; rintro e w3 ⟨rfl, b3⟩; rw [R3.out])
      | (go_at_call 49; refine (refPal_any _ _ (by unfold maxLen; omega)).mono ?_; rintro e w' ⟨rfl, n1, rfl⟩; rw [Q2.out])
      | (go_at_call 50; refine (refWithin_any _ _ _ (by unfold maxLen; omega) (by unfold maxLen; omega)).mono ?_; rintro e w' ⟨rfl, n2, rfl⟩; rw [V2.out])
      | (go_at_call 22; refine (awake_any _).mono ?_; rintro e w4 ⟨rfl, b4⟩))
    go_ret
    exact ⟨rfl, b_next (below_drewN (b_next (b_next b1 b2) b3) (n1 + n2)) b4⟩


namespace lawTrimInner
open Go.ChangeShapes Go.WideShapes Go.ChangeAt Go.RowKit
open Go.ChangeMaps (open_string shut_string)

theorem own : ownKnob Try.prog.godebug = none := by kernel_rfl
theorem lay : laidOutB Try.prog = true := by kernel_rfl

set_option maxRecDepth 100000 in
theorem lifted (os : Os) (started : os.Started) (H : Type) (enc : TypeId × Value → H) :
    ReturnsInHanded {} Try.checked os 8 .any (Rows.trimInnerSpec.pre6 enc Try.prog Try.f8 Rows.trimInnerRow.domain false) (Rows.trimInnerSpec.post enc Try.prog Try.f8 false true false false) := by
  refine returnsInHanded_of_change (C := Try.checked) own started (by kernel_rfl) Try.func8
    (ChangeSpec.witness6 (enc := enc) (C := Try.checked) false ⟨#[], #[.string ByteArray.empty], []⟩ 8 (by kernel_rfl) (by kernel_rfl) (by kernel_rfl) (by kernel_rfl)) ?_
  intro W base args ds gs before hval0 hW hcnd _
  have hval : ∀ (j : Nat) t v, Try.f8.params[j]? = some t → args[j]? = some v → Value.okWide Try.prog W .any base t v := hval0
  have hW' := hW
  obtain ⟨p, q, hA0, hV, rfl, hfz, hnd⟩ := hW
  have hA : DataW.TrodAll enc Try.prog W 0 (fun _ => true) true Try.f8.params.toList args.toList ds p := hA0
  rw [Try.params8] at hA hval
  obtain ⟨v0, vs0, d0, ds0, p0, q0, hargs, rfl, rfl, h0, r0⟩ := trodAll_cons hA
  obtain ⟨rfl, rfl, rfl⟩ := trodAll_nil r0
  obtain rfl : args = #[v0] := by cases args; simp_all
  obtain ⟨rfl, rfl⟩ := trodVars_none hV
  obtain ⟨a0, rfl, rfl, rfl, w0⟩ := open_string Try.underlying9 (hval 0 9 v0 rfl rfl) h0
  simp only [List.append_nil] at hW'
  clear hA0 hval0
  refine (walk_TrimInner a0 w0 W).mono fun e W' ⟨he, bel⟩ => ?_
  subst he
  exact ⟨_, rfl, _, _, _, [], _, [], hW', trodAll_mk1 (shut_bool Try.underlying4 _), (trodAll_cons_mk (shut_string Try.underlying9 w0) trodAll_mk0), rfl, bel.frame _, fun h => by cases h⟩

theorem over : Rows.trimInnerRow.holds Try.pinned (OpenSpec.ofChange Rows.trimInnerSpec) :=
  OpenClaim.holds_of_wide 8 Try.f8 rfl rfl rfl rfl rfl rfl rfl ⟨rfl, rfl, rfl, rfl, rfl⟩ rfl rfl rfl rfl rfl (by kernel_rfl) Try.func8 (by kernel_rfl)
    (of_decide_eq_true (by kernel_rfl)) (by unfold Func.isWrapper; first | (rw [if_pos (by decide +kernel)]; kernel_rfl) | (rw [if_neg (by decide +kernel)]; exact ⟨rfl, rfl⟩))
    (fun os started H enc _ => lifted os started H enc)

theorem proved : Rows.TrimInnerSaid := over
end lawTrimInner
end Go.Proofs.Yteejjcipdpojnaa
