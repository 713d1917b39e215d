/- The closure of a word begins with it and is no shorter than Outer: TrimClosed. -/
import Derived.Test.YtkiooaninckgdaaOut
import Derived.Test.YtkiooaninckgdaaCen
import Derived.Test.YtkiooaninckgdaaOutmath
namespace Go.Proofs.Ytkiooaninckgdaa
set_option linter.unusedVariables false
open Go.RowKit

theorem ends_last (l : List UInt8) (k : Nat) (hk : k < l.length) : (ends l)[k]? = some (longEnd (l.take (k + 1))) := by simp [ends, endsTo, hk]

theorem closure_empty : closureR ⟨#[]⟩ = (⟨#[]⟩, 0) := by decide +kernel
theorem outer_empty : outR ⟨#[]⟩ = (⟨#[]⟩, 0) := by decide +kernel
theorem ends_empty : endsR ⟨#[]⟩ = ([], 0) := by decide +kernel

set_option maxRecDepth 100000 in
set_option maxHeartbeats 8000000 in
theorem closed_zero (a : ByteArray) (ha : a.size ≤ maxLen) (hs : mk (tameL a.data.toList 50) = ⟨#[]⟩) (w : World) :
    Calls Try.prog 14 #[.string a] w fun e w' => e = .returned (.bool true) ∧ Below w.heap.size w w' := by
  have hp : pal (⟨#[]⟩ : ByteArray).data.toList = true := rfl
  have R1 := Lib.hid closure_empty
  have R2 := Lib.hid outer_empty
  have R3 := Lib.hid ends_empty
  have H := Lib.hid hs
  have HP := Lib.hid hp
  clear hs hp
  go_enter Try.func14, Try.ntmps14
  go_wp2_with (first
    | (go_at_call 51; refine (tame_any a 50 _ ha (by omega)).mono ?_; rintro e w0 ⟨rfl, b0⟩; rw [H.out])
    | (go_at_call 40; refine (Closure_any _ _ (by decide)).mono ?_; rintro e w1 ⟨rfl, c1⟩; rw [R1.out])
    | (go_at_call 47; refine (Outer_any _ _ (by decide)).mono ?_; rintro e w2 ⟨rfl, c2⟩; rw [R2.out])
    | (go_at_call 29; refine (Ends_any _ _ (by decide)).mono ?_; rintro e w3 ⟨v3, rfl, o3, c3⟩; rw [R3.out] at o3; rw [R3.out]; obtain ⟨a3, cc3, rfl, q3⟩ := Row.of_own o3; clear o3)
    | (go_at_call 49; refine (refPal_any _ _ (by decide)).mono ?_; rintro e w' ⟨rfl, n2, rfl⟩; rw [HP.out])
    | (go_at_call 22; refine (awake_any _).mono ?_; rintro e w9 ⟨rfl, b9⟩))
  go_ret
  exact ⟨rfl, b_next (below_drewN (b_next (b_next (b_next b0 c1) c2) c3) n2) b9⟩

set_option maxRecDepth 100000 in
set_option maxHeartbeats 8000000 in
theorem closed_more (a : ByteArray) (ha : a.size ≤ maxLen) (s : ByteArray) (hs : mk (tameL a.data.toList 50) = s) (h0 : 0 < s.size) (w : World) :
    Calls Try.prog 14 #[.string a] w fun e w' => e = .returned (.bool true) ∧ Below w.heap.size w w' := by
  have hw : wordB s.data.toList = true := by rw [← hs, data_mk]; exact tame_word2 _ _ (by omega)
  have hsz : s.size ≤ 50 := by rw [← hs, mk_size]; unfold tameL; rw [List.length_map, List.length_take]; omega
  obtain ⟨l, hl⟩ : ∃ l, s.data.toList = l := ⟨_, rfl⟩
  have hll : l.length = s.size := by rw [← hl, data_length]
  have hk : s.size - 1 + 1 = s.size := by omega
  have hle : longEnd (l.take (s.size - 1 + 1)) = longEnd l := by rw [hk, ← hll, List.take_length]
  have hle2 := longEnd_le l
  have hle3 := longEnd_pos (l := l) (fun e => by rw [e] at hll; simp at hll; omega)
  have hcd := closB_data s
  rw [hl] at hcd
  have hpal : pal (closB s).data.toList = true := by rw [hcd]; exact closL_pal l
  have hcz : (closB s).size = 2 * s.size - longEnd l := by rw [← data_length, hcd, closL_size, hll]
  have hcx : (closB s).extract 0 s.size = s := closB_begin s
  have hyz : (mk (outL l)).size ≤ (closB s).size := by rw [mk_size, hcz, ← hll]; exact outL_le l
  have r1 : closureR s = (closB s, 0) := by unfold closureR; rw [hw, if_pos rfl, if_neg (by omega)]
  have r2 : outR s = (mk (outL l), 0) := by unfold outR; rw [hw, ← hl]; rfl
  have r3 : endsR s = (ends l, 0) := by unfold endsR; rw [hw, ← hl]; rfl
  have hel : (ends l).length = s.size := by rw [ends, endsTo_length, hll]
  have hlast := ends_last l (s.size - 1) (by omega)
  rw [hle] at hlast
  obtain ⟨m, hm⟩ : ∃ m, longEnd l = m := ⟨_, rfl⟩
  obtain ⟨c, hc⟩ : ∃ c, closB s = c := ⟨_, rfl⟩
  obtain ⟨y, hy⟩ : ∃ y, mk (outL l) = y := ⟨_, rfl⟩
  rw [hm] at hle2 hle3 hcz hlast
  rw [hc] at r1 hpal hcz hcx hyz
  rw [hy] at r2 hyz
  have hb1 : ¬ (c.size : Int) < s.size := by omega
  have hb2 : (s.size : Int) ≤ c.size := by omega
  have hb3 : ¬ (c.size : Int) < y.size := by omega
  have hc100 : c.size ≤ 100 := by omega
  have hb4 : ((c.size : Int) == 2 * (s.size : Int) - m) = true := by rw [beq_iff_eq]; omega
  have hwr : IntKind.i64.wrap (2 * (s.size : Int) - m) = (c.size : Int) := by rw [IntWalk.i64_in _ (by omega)]; omega
  have hwr2 : wrap64 (2 * (s.size : Int) - m) = (c.size : Int) := by unfold wrap64; omega
  have hne : ¬ s.toList = [] := by
    intro e
    rw [ByteArray.toList_eq] at e
    have := data_length s
    rw [e] at this; simp at this; omega
  have hb5 : (0 : Int) ≤ (s.size : Int) - 1 := by omega
  have H := Lib.hid hs
  have R1 := Lib.hid r1
  have R2 := Lib.hid r2
  have R3 := Lib.hid r3
  have Hel := Lib.hid hel
  have Hlast := Lib.hid hlast
  have HP := Lib.hid hpal
  clear hcz hyz hs r1 r2 r3 hel hlast hpal hcd hc hy hm hle hl hll hw
  go_enter Try.func14, Try.ntmps14
  go_wp2_with (first
    | (go_at_call 51; refine (tame_any a 50 _ ha (by omega)).mono ?_; rintro e w0 ⟨rfl, b0⟩; rw [H.out])
    | (go_at_call 40; refine (Closure_any _ _ (by omega)).mono ?_; rintro e w1 ⟨rfl, c1⟩; rw [R1.out])
    | (go_at_call 47; refine (Outer_any _ _ (by omega)).mono ?_; rintro e w2 ⟨rfl, c2⟩; rw [R2.out])
    | (go_at_call 29; refine (Ends_any _ _ (by omega)).mono ?_; rintro e w3 ⟨v3, rfl, o3, c3⟩; rw [R3.out] at o3; rw [R3.out]; simp only [Hel.out] at o3; obtain ⟨a3, cc3, rfl, q3⟩ := Row.of_own o3; clear o3; obtain ⟨g, rfl, hcell⟩ := row_int q3 (show s.size - 1 < s.size by omega) Hlast.out)
    | (go_at_call 49; refine (refPal_any _ _ (by unfold maxLen; omega)).mono ?_; rintro e w' ⟨rfl, n2, rfl⟩; rw [HP.out])
    | (go_at_call 22; refine (awake_any _).mono ?_; rintro e w9 ⟨rfl, b9⟩))
  all_goals go_ret
  exact ⟨ret_bool (by simp [hne]), b_next (below_drewN (b_next (b_next (b_next b0 c1) c2) c3) n2) b9⟩

theorem walk_TrimClosed (a : ByteArray) (ha : a.size ≤ maxLen) (w : World) :
    Calls Try.prog 14 #[.string a] w fun e w' => e = .returned (.bool true) ∧ Below w.heap.size w w' := by
  rcases Nat.eq_zero_or_pos (mk (tameL a.data.toList 50)).size with h | h
  · refine closed_zero a ha ?_ w
    rw [mk_size] at h
    rw [List.length_eq_zero_iff.1 h]; rfl
  · exact closed_more a ha _ rfl h w


namespace lawTrimClosed
open Go.ChangeShapes Go.WideShapes Go.ChangeAt Go.RowKit
open Go.ChangeMaps (open_string shut_string)

theorem own : ownKnob Try.prog.godebug = none := by kernel_rfl
theorem lay : laidOutB Try.prog = true := by kernel_rfl

set_option maxRecDepth 100000 in
theorem lifted (os : Os) (started : os.Started) (H : Type) (enc : TypeId × Value → H) :
    ReturnsInHanded {} Try.checked os 14 .any (Rows.trimClosedSpec.pre6 enc Try.prog Try.f14 Rows.trimClosedRow.domain false) (Rows.trimClosedSpec.post enc Try.prog Try.f14 false true false false) := by
  refine returnsInHanded_of_change (C := Try.checked) own started (by kernel_rfl) Try.func14
    (ChangeSpec.witness6 (enc := enc) (C := Try.checked) false ⟨#[], #[.string ByteArray.empty], []⟩ 8 (by kernel_rfl) (by kernel_rfl) (by kernel_rfl) (by kernel_rfl)) ?_
  intro W base args ds gs before hval0 hW hcnd _
  have hval : ∀ (j : Nat) t v, Try.f14.params[j]? = some t → args[j]? = some v → Value.okWide Try.prog W .any base t v := hval0
  have hW' := hW
  obtain ⟨p, q, hA0, hV, rfl, hfz, hnd⟩ := hW
  have hA : DataW.TrodAll enc Try.prog W 0 (fun _ => true) true Try.f14.params.toList args.toList ds p := hA0
  rw [Try.params14] at hA hval
  obtain ⟨v0, vs0, d0, ds0, p0, q0, hargs, rfl, rfl, h0, r0⟩ := trodAll_cons hA
  obtain ⟨rfl, rfl, rfl⟩ := trodAll_nil r0
  obtain rfl : args = #[v0] := by cases args; simp_all
  obtain ⟨rfl, rfl⟩ := trodVars_none hV
  obtain ⟨a0, rfl, rfl, rfl, w0⟩ := open_string Try.underlying9 (hval 0 9 v0 rfl rfl) h0
  simp only [List.append_nil] at hW'
  clear hA0 hval0
  refine (walk_TrimClosed a0 w0 W).mono fun e W' ⟨he, bel⟩ => ?_
  subst he
  exact ⟨_, rfl, _, _, _, [], _, [], hW', trodAll_mk1 (shut_bool Try.underlying4 _), (trodAll_cons_mk (shut_string Try.underlying9 w0) trodAll_mk0), rfl, bel.frame _, fun h => by cases h⟩

theorem over : Rows.trimClosedRow.holds Try.pinned (OpenSpec.ofChange Rows.trimClosedSpec) :=
  OpenClaim.holds_of_wide 14 Try.f14 rfl rfl rfl rfl rfl rfl rfl ⟨rfl, rfl, rfl, rfl, rfl⟩ rfl rfl rfl rfl rfl (by kernel_rfl) Try.func14 (by kernel_rfl)
    (of_decide_eq_true (by kernel_rfl)) (by unfold Func.isWrapper; first | (rw [if_pos (by decide +kernel)]; kernel_rfl) | (rw [if_neg (by decide +kernel)]; exact ⟨rfl, rfl⟩))
    (fun os started H enc _ => lifted os started H enc)

theorem proved : Rows.TrimClosedSaid := over
end lawTrimClosed
end Go.Proofs.Ytkiooaninckgdaa
