/- The lengths of Inner and Outer, and palindromes: TrimLengths. -/
import Derived.Test.YtkiooaninckgdaaSubs
namespace Go.Proofs.Ytkiooaninckgdaa
set_option linter.unusedVariables false
open Go.RowKit

set_option maxRecDepth 100000 in
set_option maxHeartbeats 8000000 in
theorem walk_TrimLengths (a : ByteArray) (ha : a.size ≤ maxLen) (w : World) :
    Calls Try.prog 13 #[.string a] w fun e w' => e = .returned (.bool true) ∧ Below w.heap.size w w' := by
  obtain ⟨s, hs⟩ : ∃ s, mk (tameL a.data.toList 80) = s := ⟨_, rfl⟩
  have hw : wordB s.data.toList = true := by rw [← hs, data_mk]; exact tame_word2 _ _ (by omega)
  have hsz : s.size ≤ 80 := by rw [← hs, mk_size]; unfold tameL; rw [List.length_map, List.length_take]; omega
  obtain ⟨l, hl⟩ : ∃ l, s.data.toList = l := ⟨_, rfl⟩
  have hll : l.length = s.size := by rw [← hl, data_length]
  have r1 : innerR s = (mk (innerL l), 0) := by unfold innerR; rw [hw, ← hl]; rfl
  have r2 : outR s = (mk (outL l), 0) := by unfold outR; rw [hw, ← hl]; rfl
  have r3 : longR s = ((((longL l).1 : Nat) : Int), (((longL l).2 : Nat) : Int), 0) := by unfold longR; rw [hw, ← hl]; rfl
  rw [hl] at hw
  have hsum := out_inner_len l l.length 0
  have p1 : pal (innerL l) = true := innerAt_pal l l.length 0
  have p2 : pal (outL l) = true := outAt_pal l l.length 0
  have u1 : List.Sublist (innerL l) l := by have := innerAt_sub l l.length 0 (by omega); rw [seg_all] at this; exact this
  have u2 : List.Sublist l (outL l) := by have := outAt_sub l l.length 0 (by omega); rw [seg_all] at this; exact this
  have hwx := word_sub u1 hw
  obtain ⟨e1, e2, _⟩ := longL_at l
  have hge := inner_ge l l.length 0 _ _ (Nat.zero_le _) (by omega) e2
  have hlen := u1.length_le
  obtain ⟨x, hx⟩ : ∃ x, mk (innerL l) = x := ⟨_, rfl⟩
  obtain ⟨y, hy⟩ : ∃ y, mk (outL l) = y := ⟨_, rfl⟩
  have hxd : x.data.toList = innerL l := by rw [← hx, data_mk]
  have hyd : y.data.toList = outL l := by rw [← hy, data_mk]
  have hxs : x.size = (innerL l).length := by rw [← hx, mk_size]
  have hys : y.size = (outL l).length := by rw [← hy, mk_size]
  rw [hx] at r1
  rw [hy] at r2
  have r4 : innerR x = (x, 0) := by unfold innerR; rw [hxd, hwx, innerL_self p1, if_pos rfl, hx]
  have hcx : closB x = x := by rw [← mk_data (closB x), closB_data, hxd, closL_self p1, hx]
  have r5 : closureR x = (x, 0) := by unfold closureR; rw [hxd, hwx, if_pos rfl, hcx, if_neg (by omega)]
  have v1 : subB x.data.toList s.data.toList = true := by rw [hxd, hl]; exact subB_of u1
  have v2 : subB s.data.toList y.data.toList = true := by rw [hyd, hl]; exact subB_of u2
  obtain ⟨k, hk⟩ : ∃ k, (longL l).2 = k := ⟨_, rfl⟩
  obtain ⟨at', hat⟩ : ∃ k, (longL l).1 = k := ⟨_, rfl⟩
  rw [hk, hat] at r3
  have hxy : x.size + y.size = 2 * s.size := by rw [hxs, hys, ← hll]; unfold innerL outL; omega
  have hkx : ¬ (x.size : Int) < k := by
    have : (longL l).2 ≤ (innerL l).length := by unfold innerL; omega
    omega
  have hx80 : x.size ≤ 80 := by omega
  have hy160 : y.size ≤ 160 := by omega
  have hb1 : ((x.size : Int) + y.size == 2 * (s.size : Int)) = true := by rw [beq_iff_eq]; omega
  have hb2 : (x.size : Int) + y.size = 2 * (s.size : Int) := by omega
  have q1 : pal x.data.toList = true := by rw [hxd]; exact p1
  have q2 : pal y.data.toList = true := by rw [hyd]; exact p2
  have H := Lib.hid hs
  have R1 := Lib.hid r1
  have R2 := Lib.hid r2
  have R3 := Lib.hid r3
  have R4 := Lib.hid r4
  have R5 := Lib.hid r5
  have V1 := Lib.hid v1
  have V2 := Lib.hid v2
  have Q1 := Lib.hid q1
  have Q2 := Lib.hid q2
  clear hs r1 r2 r3 r4 r5 v1 v2 q1 q2 p1 p2 u1 u2 hwx e1 e2 hge hlen hx hy hxd hyd hxs hys hcx hk hat hxy hsum hl hll hw
  go_enter Try.func13, Try.ntmps13
  go_wp2_with (first
    | (go_at_call 51; refine (tame_any a 80 _ ha (by omega)).mono ?_; rintro e w0 ⟨rfl, b0⟩; rw [H.out])
    | (go_at_call 46; refine (Inner_any _ _ (by omega)).mono ?_; rintro e w1 ⟨rfl, c1⟩; rw [R1.out])
    | (go_at_call 47; refine (Outer_any _ _ (by omega)).mono ?_; rintro e w2 ⟨rfl, c2⟩; rw [R2.out])
    | (go_at_call 20; refine (Longest_any _ _ (by omega)).mono ?_; rintro e w3 ⟨rfl, c3⟩; rw [R3.out]))
  refine (refPal_any _ _ (by unfold maxLen; omega)).mono ?_
  rintro e w' ⟨rfl, n1, rfl⟩
  rw [Q1.out]
  go_wp2_with fail
  refine (refWithin_any _ _ _ (by unfold maxLen; omega) (by unfold maxLen; omega)).mono ?_
  rintro e w' ⟨rfl, n3, rfl⟩
  rw [V1.out]
  go_wp2_with fail
  refine (refPal_any _ _ (by unfold maxLen; omega)).mono ?_
  rintro e w' ⟨rfl, n2, rfl⟩
  rw [Q2.out]
  go_wp2_with fail
  refine (refWithin_any _ _ _ (by unfold maxLen; omega) (by unfold maxLen; omega)).mono ?_
  rintro e w' ⟨rfl, n4, rfl⟩
  rw [V2.out]
  go_wp2_with fail
  refine (Inner_any _ _ (by omega)).mono ?_
  rintro e w4 ⟨rfl, c4⟩
  rw [R4.out]
  go_wp2_with (first
    | (go_at_call 40; refine (Closure_any _ _ (by omega)).mono ?_; rintro e w5 ⟨rfl, c5⟩; rw [R5.out])
    | (go_at_call 22; refine (awake_any _).mono ?_; rintro e w9 ⟨rfl, b9⟩))
  go_ret
  exact ⟨rfl, b_next (b_next (b_next (below_drewN (b_next (b_next (b_next b0 c1) c2) c3) (n1 + n3 + n2 + n4)) c4) c5) b9⟩


namespace lawTrimLengths
open Go.ChangeShapes Go.WideShapes Go.ChangeAt Go.RowKit
open Go.ChangeMaps (open_string shut_string)

theorem own : ownKnob Try.prog.godebug = none := by kernel_rfl
theorem lay : laidOutB Try.prog = true := by kernel_rfl

set_option maxRecDepth 100000 in
theorem lifted (os : Os) (started : os.Started) (H : Type) (enc : TypeId × Value → H) :
    ReturnsInHanded {} Try.checked os 13 .any (Rows.trimLengthsSpec.pre6 enc Try.prog Try.f13 Rows.trimLengthsRow.domain false) (Rows.trimLengthsSpec.post enc Try.prog Try.f13 false true false false) := by
  refine returnsInHanded_of_change (C := Try.checked) own started (by kernel_rfl) Try.func13
    (ChangeSpec.witness6 (enc := enc) (C := Try.checked) false ⟨#[], #[.string ByteArray.empty], []⟩ 8 (by kernel_rfl) (by kernel_rfl) (by kernel_rfl) (by kernel_rfl)) ?_
  intro W base args ds gs before hval0 hW hcnd _
  have hval : ∀ (j : Nat) t v, Try.f13.params[j]? = some t → args[j]? = some v → Value.okWide Try.prog W .any base t v := hval0
  have hW' := hW
  obtain ⟨p, q, hA0, hV, rfl, hfz, hnd⟩ := hW
  have hA : DataW.TrodAll enc Try.prog W 0 (fun _ => true) true Try.f13.params.toList args.toList ds p := hA0
  rw [Try.params13] at hA hval
  obtain ⟨v0, vs0, d0, ds0, p0, q0, hargs, rfl, rfl, h0, r0⟩ := trodAll_cons hA
  obtain ⟨rfl, rfl, rfl⟩ := trodAll_nil r0
  obtain rfl : args = #[v0] := by cases args; simp_all
  obtain ⟨rfl, rfl⟩ := trodVars_none hV
  obtain ⟨a0, rfl, rfl, rfl, w0⟩ := open_string Try.underlying9 (hval 0 9 v0 rfl rfl) h0
  simp only [List.append_nil] at hW'
  clear hA0 hval0
  refine (walk_TrimLengths a0 w0 W).mono fun e W' ⟨he, bel⟩ => ?_
  subst he
  exact ⟨_, rfl, _, _, _, [], _, [], hW', trodAll_mk1 (shut_bool Try.underlying4 _), (trodAll_cons_mk (shut_string Try.underlying9 w0) trodAll_mk0), rfl, bel.frame _, fun h => by cases h⟩

theorem over : Rows.trimLengthsRow.holds Try.pinned (OpenSpec.ofChange Rows.trimLengthsSpec) :=
  OpenClaim.holds_of_wide 13 Try.f13 rfl rfl rfl rfl rfl rfl rfl ⟨rfl, rfl, rfl, rfl, rfl⟩ rfl rfl rfl rfl rfl (by kernel_rfl) Try.func13 (by kernel_rfl)
    (of_decide_eq_true (by kernel_rfl)) (by unfold Func.isWrapper; first | (rw [if_pos (by decide +kernel)]; kernel_rfl) | (rw [if_neg (by decide +kernel)]; exact ⟨rfl, rfl⟩))
    (fun os started H enc _ => lifted os started H enc)

theorem proved : Rows.TrimLengthsSaid := over
end lawTrimLengths
end Go.Proofs.Ytkiooaninckgdaa
