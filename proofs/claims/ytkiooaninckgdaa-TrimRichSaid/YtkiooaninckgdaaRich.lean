/- A word has at most as many different palindromes as letters, and its lengths agree: TrimRich. -/
import Derived.Test.YtkiooaninckgdaaCen
namespace Go.Proofs.Ytkiooaninckgdaa
set_option linter.unusedVariables false
open Go.RowKit

theorem ends_at' (l : List UInt8) (k : Nat) (hk : k < l.length) : (ends l)[k]? = some (longEnd (l.take (k + 1))) := by simp [ends, endsTo, hk]

theorem tame_word (l : List UInt8) (m : Nat) (hm : m ≤ 100) : wordB (tameL l m) = true := by
  unfold wordB
  rw [Bool.and_eq_true, decide_eq_true_eq]
  refine ⟨by unfold tameL; rw [List.length_map, List.length_take]; omega, ?_⟩
  rw [List.all_eq_true]
  intro x hx
  obtain ⟨c, _, rfl⟩ := List.mem_map.1 hx
  have h := tame_byte c
  have h1 := Int.emod_nonneg (c.toNat : Int) (b := 4) (by decide)
  have h2 := Int.emod_lt_of_pos (c.toNat : Int) (b := 4) (by decide)
  exact letter_yes (by omega) (by omega)

set_option maxRecDepth 100000 in
set_option maxHeartbeats 8000000 in
theorem walk_TrimRich (a : ByteArray) (ha : a.size ≤ maxLen) (w : World) :
    Calls Try.prog 9 #[.string a] w fun e w' => e = .returned (.bool true) ∧ Below w.heap.size w w' := by
  obtain ⟨s, hs⟩ : ∃ s, mk (tameL a.data.toList 100) = s := ⟨_, rfl⟩
  have hw : wordB s.data.toList = true := by rw [← hs, data_mk]; exact tame_word _ _ (by omega)
  have hsz := word_size hw
  obtain ⟨l, hl⟩ : ∃ l, s.data.toList = l := ⟨_, rfl⟩
  have hll : l.length = s.size := by rw [← hl, data_length]
  have r1 : palsR s = (palsL l, 0) := by unfold palsR; rw [hw, ← hl]; rfl
  have r2 : richR s = (richL l, 0) := by unfold richR; rw [hw, ← hl]; rfl
  have r3 : endsR s = (ends l, 0) := by unfold endsR; rw [hw, ← hl]; rfl
  have r4 : centersR s = (centers l, 0) := by unfold centersR; rw [hw, ← hl]; rfl
  have r5 : occR s = (((occL l : Nat) : Int), 0) := by unfold occR; rw [hw, ← hl]; rfl
  have r6 : longR s = ((((longL l).1 : Nat) : Int), (((longL l).2 : Nat) : Int), 0) := by unfold longR; rw [hw, ← hl]; rfl
  have hp1 : (palsL l).length ≤ s.size := by rw [← hll]; exact sortS_len_le l l.length
  have hp2 : (palsL l).length = s.size ↔ richL l = -1 := by rw [← hll]; exact rich_iff l
  have hk1 : -1 ≤ richL l ∧ richL l < s.size := by
    rcases richGo_range l l.length 0 with h | h
    · exact ⟨h.1, by have := h.2; unfold richL; omega⟩
    · unfold richL; rw [h]; omega
  obtain ⟨np, hnp⟩ : ∃ np, (palsL l).length = np := ⟨_, rfl⟩
  obtain ⟨k, hk⟩ : ∃ k, richL l = k := ⟨_, rfl⟩
  rw [hnp] at hp1 hp2
  rw [hk] at r2 hp2 hk1
  obtain ⟨hk1, hk2⟩ := hk1
  have hel : (ends l).length = s.size := by rw [ends, endsTo_length, hll]
  obtain ⟨nc, hnc⟩ : ∃ nc, (centers l).length = nc := ⟨_, rfl⟩
  have hnc2 : nc = 2 * s.size - 1 := by rw [← hnc, centers, centersTo_length, hll]
  have hnc3 : nc ≤ 199 := by omega
  obtain ⟨oc, hoc⟩ : ∃ oc, occL l = oc := ⟨_, rfl⟩
  obtain ⟨x, hx⟩ : ∃ x, (longL l).1 = x := ⟨_, rfl⟩
  obtain ⟨m, hm⟩ : ∃ m, (longL l).2 = m := ⟨_, rfl⟩
  rw [hoc] at r5
  rw [hx, hm] at r6
  obtain ⟨b1, hb1⟩ : ∃ b : Bool, (np == s.size) = b := ⟨_, rfl⟩
  have hb2 : ((np : Int) == s.size) = b1 := by rw [← hb1, Bool.eq_iff_iff, beq_iff_eq, beq_iff_eq]; omega
  have hb3 : (k == -1) = b1 := by rw [← hb1, Bool.eq_iff_iff, beq_iff_eq, beq_iff_eq]; exact hp2.symm
  have H := Lib.hid hs
  have R1 := Lib.hid r1
  have R2 := Lib.hid r2
  have R3 := Lib.hid r3
  have R4 := Lib.hid r4
  have R5 := Lib.hid r5
  have R6 := Lib.hid r6
  have Hl := Lib.hid hl
  have Hnp := Lib.hid hnp
  have Hel := Lib.hid hel
  have Hnc := Lib.hid hnc
  have Hnc2 := Lib.hid hnc2
  have Hoc := Lib.hid hoc
  have Hx := Lib.hid hx
  have Hm := Lib.hid hm
  have Hll := Lib.hid hll
  clear hs r1 r2 r3 r4 r5 r6 hl hnp hel hnc hnc2 hoc hx hm hll hw hp2 hk
  have hnp2 : ¬ (s.size : Int) < np := by omega
  go_enter Try.func9, Try.ntmps9
  go_wp2_with (first
    | (go_at_call 51; refine (tame_any a 100 _ ha (by omega)).mono ?_; rintro e w0 ⟨rfl, b0⟩; rw [H.out])
    | (go_at_call 17; refine (Palindromes_any _ _ (by omega)).mono ?_; rintro e w1 ⟨v1, rfl, o1, c1⟩; rw [R1.out] at o1; rw [R1.out]; simp only [Hnp.out] at o1; obtain ⟨a1, cc1, rfl, q1⟩ := Row.of_own o1; clear o1 q1)
    | (go_at_call 30; refine (Rich_any _ _ (by omega)).mono ?_; rintro e w2 ⟨rfl, c2⟩; rw [R2.out])
    | (go_at_call 29; refine (Ends_any _ _ (by omega)).mono ?_; rintro e w3 ⟨v3, rfl, o3, c3⟩; rw [R3.out] at o3; rw [R3.out]; simp only [Hel.out] at o3; obtain ⟨a3, cc3, rfl, q3⟩ := Row.of_own o3; clear o3)
    | (go_at_call 18; refine (Centers_any _ _ (by omega)).mono ?_; rintro e w4 ⟨v4, rfl, o4, c4⟩; rw [R4.out] at o4; rw [R4.out]; simp only [Hnc.out] at o4; obtain ⟨a4, cc4, rfl, q4⟩ := Row.of_own o4; clear o4)
    | (go_at_call 19; refine (Occurrences_any _ _ (by omega)).mono ?_; rintro e w5 ⟨rfl, c5⟩; rw [R5.out])
    | (go_at_call 20; refine (Longest_any _ _ (by omega)).mono ?_; rintro e w6 ⟨rfl, c6⟩; rw [R6.out]))
  all_goals go_ways
  have Q4 := Lib.hid ((q4.below c5).below c6)
  have Q3 := Lib.hid (((q3.below c4).below c5).below c6)
  have HB := Lib.hid (b_next (b_next (b_next (b_next (b_next (b_next b0 c1) c2) c3) c4) c5) c6)
  clear q3 q4 b0 c1 c2 c3 c4 c5 c6
  go_loop [17, 18, 19] (fun t g i => ∃ j y z : Nat, j ≤ nc ∧ i = .int .i64 j ∧ t = .int .i64 y ∧ g = .int .i64 z ∧ Hid (occTo l j = y ∧ (longTo l j).2 = z)) (fun _ _ i => nc - (intOf i).toNat)
  case atStart => exact ⟨0, 0, 0, Nat.zero_le _, rfl, rfl, rfl, rfl, rfl⟩
  case round =>
    obtain ⟨j, y, z, hj, rfl, rfl, rfl, HP⟩ := hrel
    by_cases hlt : j < nc
    · have hc : (j : Int) < nc := by omega
      obtain ⟨g, rfl, hcell⟩ := row_int Q4.out hlt (centers_get _ j (by have := Hll.out; have := Hnc2.out; omega))
      have hoc := occTo_le l j
      have hoc2 : j * (j + 1) ≤ 200 * 200 := Nat.mul_le_mul (by omega) (by omega)
      have hy : y ≤ 40000 := by have := HP.out.1; omega
      have hce := centerAt_le l j
      obtain ⟨c, hcc⟩ : ∃ c, centerAt l j = c := ⟨_, rfl⟩
      rw [hcc] at hcell hce
      have h1 : occTo l (j + 1) = y + (c + 1) / 2 := by rw [occTo, HP.out.1, hcc]
      have h2 : (longTo l (j + 1)).2 = max z c := by
        rw [longTo, hcc]
        split
        · have := HP.out.2; omega
        · have := HP.out.2; omega
      have Hn := Lib.hid (And.intro h1 h2)
      clear hcc h1 h2 hoc hoc2
      go_wp2
      go_round
      case rel => exact ⟨j + 1, y + (c + 1) / 2, max z c, by omega, by go_num, congrArg (Value.int .i64) (by omega), congrArg (Value.int .i64) (by omega), Hn.out⟩
      case measure => simp [intOf]; omega
    · obtain rfl : j = nc := by omega
      have hfin : y = oc ∧ z = m := by
        have h1 := HP.out
        have h2 := Hoc.out
        have h3 := Hm.out
        unfold occL at h2
        unfold longL at h3
        rw [show 2 * l.length - 1 = j from by have := Hll.out; have := Hnc2.out; omega] at h2 h3
        exact ⟨by rw [← h1.1, h2], by rw [← h1.2, h3]⟩
      obtain ⟨rfl, rfl⟩ := hfin
      clear HP
      go_wp2
      go_loop [20, 21] (fun t i => ∃ q v : Nat, q ≤ s.size ∧ i = .int .i64 q ∧ t = .int .i64 v ∧ Hid (emaxTo l q = v)) (fun _ i => s.size - (intOf i).toNat)
      case atStart => exact ⟨0, 0, Nat.zero_le _, rfl, rfl, rfl⟩
      case round =>
        obtain ⟨q, v, hq, rfl, rfl, HP⟩ := hrel
        by_cases hlq : q < s.size
        · have hcq : (q : Int) < s.size := by omega
          obtain ⟨g, rfl, hcell⟩ := row_int Q3.out hlq (ends_at' l q (by have := Hll.out; omega))
          obtain ⟨_, hp1, hp2⟩ := longEnd_palAt l q (by have := Hll.out; omega)
          obtain ⟨c, hcc⟩ : ∃ c, longEnd (l.take (q + 1)) = c := ⟨_, rfl⟩
          rw [hcc] at hcell hp1 hp2
          have h1 : emaxTo l (q + 1) = max v c := by rw [emaxTo, hcc, HP.out]
          have Hn := Lib.hid h1
          have hd1 : ¬ (c : Int) < 1 := by omega
          have hd2 : ¬ (q : Int) + 1 < c := by omega
          clear hcc h1
          go_wp2
          go_round
          case rel => exact ⟨q + 1, max v c, by omega, by go_num, congrArg (Value.int .i64) (by omega), Hn.out⟩
          case measure => simp [intOf]; omega
        · obtain rfl : q = s.size := by omega
          obtain rfl : v = z := by
            have h1 := HP.out
            rw [← Hll.out, emax_eq, Hm.out] at h1
            exact h1.symm
          obtain ⟨e1, e2, _⟩ := longL_at l
          rw [Hx.out, Hm.out] at e1 e2
          rw [Hll.out] at e1
          have hpal : pal (s.extract x (x + v)).data.toList = true := by
            rw [part_data, Hl.out]
            exact (palAt_iff l x (x + v) (by omega) (by have := Hll.out; omega)).2 e2
          have Hpal := Lib.hid hpal
          clear hpal e2 HP
          have hd1 : (x : Int) + v ≤ s.size := by omega
          have hxs := extract_size s x (x + v)
          go_wp2_with (first
            | (go_at_call 49; refine (refPal_any _ _ (by unfold maxLen; omega)).mono ?_; rintro e w' ⟨rfl, n2, rfl⟩; rw [Hpal.out])
            | (go_at_call 22; refine (awake_any _).mono ?_; rintro e w9 ⟨rfl, b9⟩))
          go_ret
          exact ⟨rfl, b_next (below_drewN HB.out n2) b9⟩


namespace lawTrimRich
open Go.ChangeShapes Go.WideShapes Go.ChangeAt Go.RowKit
open Go.ChangeMaps (open_string shut_string)

theorem own : ownKnob Try.prog.godebug = none := by kernel_rfl
theorem lay : laidOutB Try.prog = true := by kernel_rfl

set_option maxRecDepth 100000 in
theorem lifted (os : Os) (started : os.Started) (H : Type) (enc : TypeId × Value → H) :
    ReturnsInHanded {} Try.checked os 9 .any (Rows.trimRichSpec.pre6 enc Try.prog Try.f9 Rows.trimRichRow.domain false) (Rows.trimRichSpec.post enc Try.prog Try.f9 false true false false) := by
  refine returnsInHanded_of_change (C := Try.checked) own started (by kernel_rfl) Try.func9
    (ChangeSpec.witness6 (enc := enc) (C := Try.checked) false ⟨#[], #[.string ByteArray.empty], []⟩ 8 (by kernel_rfl) (by kernel_rfl) (by kernel_rfl) (by kernel_rfl)) ?_
  intro W base args ds gs before hval0 hW hcnd _
  have hval : ∀ (j : Nat) t v, Try.f9.params[j]? = some t → args[j]? = some v → Value.okWide Try.prog W .any base t v := hval0
  have hW' := hW
  obtain ⟨p, q, hA0, hV, rfl, hfz, hnd⟩ := hW
  have hA : DataW.TrodAll enc Try.prog W 0 (fun _ => true) true Try.f9.params.toList args.toList ds p := hA0
  rw [Try.params9] at hA hval
  obtain ⟨v0, vs0, d0, ds0, p0, q0, hargs, rfl, rfl, h0, r0⟩ := trodAll_cons hA
  obtain ⟨rfl, rfl, rfl⟩ := trodAll_nil r0
  obtain rfl : args = #[v0] := by cases args; simp_all
  obtain ⟨rfl, rfl⟩ := trodVars_none hV
  obtain ⟨a0, rfl, rfl, rfl, w0⟩ := open_string Try.underlying9 (hval 0 9 v0 rfl rfl) h0
  simp only [List.append_nil] at hW'
  clear hA0 hval0
  refine (walk_TrimRich a0 w0 W).mono fun e W' ⟨he, bel⟩ => ?_
  subst he
  exact ⟨_, rfl, _, _, _, [], _, [], hW', trodAll_mk1 (shut_bool Try.underlying4 _), (trodAll_cons_mk (shut_string Try.underlying9 w0) trodAll_mk0), rfl, bel.frame _, fun h => by cases h⟩

theorem over : Rows.trimRichRow.holds Try.pinned (OpenSpec.ofChange Rows.trimRichSpec) :=
  OpenClaim.holds_of_wide 9 Try.f9 rfl rfl rfl rfl rfl rfl rfl ⟨rfl, rfl, rfl, rfl, rfl⟩ rfl rfl rfl rfl rfl (by kernel_rfl) Try.func9 (by kernel_rfl)
    (of_decide_eq_true (by kernel_rfl)) (by unfold Func.isWrapper; first | (rw [if_pos (by decide +kernel)]; kernel_rfl) | (rw [if_neg (by decide +kernel)]; exact ⟨rfl, rfl⟩))
    (fun os started H enc _ => lifted os started H enc)

theorem proved : Rows.TrimRichSaid := over
end lawTrimRich
end Go.Proofs.Ytkiooaninckgdaa
