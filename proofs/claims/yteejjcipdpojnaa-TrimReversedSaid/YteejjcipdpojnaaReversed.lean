/- A word and its reversal: TrimReversed. -/
import Derived.Test.YteejjcipdpojnaaRevm
import Derived.Test.YteejjcipdpojnaaOccs
namespace Go.Proofs.Yteejjcipdpojnaa
set_option linter.unusedVariables false
open Go.RowKit

set_option maxRecDepth 100000 in
set_option maxHeartbeats 16000000 in
theorem walk_TrimReversed (a : ByteArray) (ha : a.size ≤ maxLen) (w : World) :
    Calls Try.prog 11 #[.string a] w fun e w' => e = .returned (.bool true) ∧ Below w.heap.size w w' := by
  obtain ⟨s, hs⟩ : ∃ s, mk (tameL a.data.toList 60) = s := ⟨_, rfl⟩
  have hw : wordB s.data.toList = true := by rw [← hs, data_mk]; exact tame_word2 _ _ (by omega)
  have hsz : s.size ≤ 60 := by rw [← hs, mk_size]; unfold tameL; rw [List.length_map, List.length_take]; omega
  obtain ⟨r, hr⟩ : ∃ r, revB s = r := ⟨_, rfl⟩
  obtain ⟨l, hl⟩ : ∃ l, s.data.toList = l := ⟨_, rfl⟩
  have hrl : r.data.toList = l.reverse := by rw [← hr, revB_data, hl]
  have hll : l.length = s.size := by rw [← hl, data_length]
  have hrs : r.size = s.size := by rw [← data_length, hrl, List.length_reverse, hll]
  have hwr : wordB r.data.toList = true := by rw [hrl, word_rev, ← hl]; exact hw
  obtain ⟨p, hp⟩ : ∃ p, palsL l = p := ⟨_, rfl⟩
  obtain ⟨np, hnp⟩ : ∃ n, p.length = n := ⟨_, rfl⟩
  have hnl : np ≤ l.length := by rw [← hnp, ← hp]; exact sortS_len_le l l.length
  have RPs : Hid (palsR s = (p, 0)) := by unfold palsR; rw [hw, hl, hp]; rfl
  have RPr : Hid (palsR r = (p, 0)) := by unfold palsR; rw [hwr, hrl, pals_rev, hp]; rfl
  obtain ⟨m, hm⟩ : ∃ m, 2 * s.size - 1 = m := ⟨_, rfl⟩
  obtain ⟨cs, hcs⟩ : ∃ c, centers l = c := ⟨_, rfl⟩
  obtain ⟨cr, hcr⟩ : ∃ c, centers l.reverse = c := ⟨_, rfl⟩
  have hcsl : cs.length = m := by rw [← hcs, ← hm, ← hll]; exact centersTo_length _ _
  have hcrl : cr.length = m := by rw [← hcr, ← hm, ← hll]; unfold centers; rw [centersTo_length, List.length_reverse]
  have RCs : Hid (centersR s = (cs, 0)) := by unfold centersR; rw [hw, hl, hcs]; rfl
  have RCr : Hid (centersR r = (cr, 0)) := by unfold centersR; rw [hwr, hrl, hcr]; rfl
  have hcc : ∀ z v, z + v + 1 = m → ∃ t : Nat, cs[z]? = some t ∧ cr[v]? = some t := fun z v hzv => by
    refine ⟨centerAt l z, ?_, ?_⟩
    · rw [← hcs]; exact centers_get l z (by omega)
    · rw [← hcr, centers_get l.reverse v (by rw [List.length_reverse]; omega), center_rev l z v (by omega)]
  obtain ⟨f1, hf1⟩ : ∃ f, partsL l = f := ⟨_, rfl⟩
  obtain ⟨f2, hf2⟩ : ∃ f, partsL l.reverse = f := ⟨_, rfl⟩
  obtain ⟨nf, hnf⟩ : ∃ n, (fewAt l l.length).1 = n := ⟨_, rfl⟩
  have hf1l : f1.length = nf := by rw [← hf1, partsL_length]; exact hnf
  have hf2l : f2.length = nf := by rw [← hf2, partsL_length, few_rev]; exact hnf
  have RFs : Hid (fewR s = (f1, 0)) := by unfold fewR; rw [hw, hl, hf1]; rfl
  have RFr : Hid (fewR r = (f2, 0)) := by unfold fewR; rw [hwr, hrl, hf2]; rfl
  obtain ⟨u, k, huk⟩ : ∃ (u : Nat) (k : Int), waysR s = (u, k) := ⟨_, _, rfl⟩
  have RWs := Lib.hid huk
  have RWr : Hid (waysR r = (u, k)) := by
    have e : waysR r = waysR s := by
      unfold waysR
      have := ways_rev l
      rw [List.length_reverse, hll] at this
      rw [hw, hwr, hrl, hl, hrs, this]
    show waysR r = (u, k)
    rw [e]; exact huk
  obtain ⟨x, hx⟩ : ∃ x, mk (innerL l) = x := ⟨_, rfl⟩
  have RIs : Hid (innerR s = (x, 0)) := by unfold innerR; rw [hw, hl, hx]; rfl
  have RIr : Hid (innerR r = (x, 0)) := by unfold innerR; rw [hwr, hrl, inner_rev, hx]; rfl
  have H := Lib.hid hs
  have HR := Lib.hid hr
  have LP := Lib.hid hnp
  have LCs := Lib.hid hcsl
  have LCr := Lib.hid hcrl
  have LFs := Lib.hid hf1l
  have LFr := Lib.hid hf2l
  have HCC := Lib.hid hcc
  have hnp1 : np ≤ 1000 := by omega
  have hm1 : m ≤ 1000 := by omega
  have hrs60 : r.size ≤ 60 := by omega
  clear hs hr hl hrl hll hrs hw hwr hp hnp hnl hm hcs hcr hcsl hcrl hcc hf1 hf2 hnf hf1l hf2l huk hx
  go_enter Try.func11, Try.ntmps11
  go_wp2_with fail
  refine (tame_any a 60 _ ha (by omega)).mono ?_
  rintro e w1 ⟨rfl, b1⟩
  rw [H.out]
  go_wp2_with fail
  refine (refRev_any s _ (by omega)).mono ?_
  rintro e w2 ⟨rfl, b2⟩
  rw [HR.out]
  go_wp2_with fail
  refine (Palindromes_any s _ (by omega)).mono ?_
  rintro e w3 ⟨v3, rfl, o3, b3⟩
  rw [RPs.out] at o3
  rw [RPs.out]
  simp only [LP.out] at o3
  obtain ⟨a3, c3, rfl, q3⟩ := Row.of_own o3
  clear o3
  go_wp2_with fail
  refine (Palindromes_any r _ (by omega)).mono ?_
  rintro e w4 ⟨v4, rfl, o4, b4⟩
  rw [RPr.out] at o4
  rw [RPr.out]
  simp only [LP.out] at o4
  obtain ⟨a4, c4, rfl, q4⟩ := Row.of_own o4
  clear o4
  go_wp2_with fail
  refine (Centers_any s _ (by omega)).mono ?_
  rintro e w5 ⟨v5, rfl, o5, b5⟩
  rw [RCs.out] at o5
  rw [RCs.out]
  simp only [LCs.out] at o5
  obtain ⟨a5, c5, rfl, q5⟩ := Row.of_own o5
  clear o5
  go_wp2_with fail
  refine (Centers_any r _ (by omega)).mono ?_
  rintro e w6 ⟨v6, rfl, o6, b6⟩
  rw [RCr.out] at o6
  rw [RCr.out]
  simp only [LCr.out] at o6
  obtain ⟨a6, c6, rfl, q6⟩ := Row.of_own o6
  clear o6
  go_wp2_with fail
  refine (Fewest_any s _ (by omega)).mono ?_
  rintro e w7 ⟨v7, rfl, o7, b7⟩
  rw [RFs.out] at o7
  rw [RFs.out]
  simp only [LFs.out] at o7
  obtain ⟨a7, c7, rfl, q7⟩ := Row.of_own o7
  clear o7
  go_wp2_with fail
  refine (Fewest_any r _ (by omega)).mono ?_
  rintro e w8 ⟨v8, rfl, o8, b8⟩
  rw [RFr.out] at o8
  rw [RFr.out]
  simp only [LFr.out] at o8
  obtain ⟨a8, c8, rfl, q8⟩ := Row.of_own o8
  clear o8
  go_wp2_with fail
  refine (Ways_any s _ (by omega)).mono ?_
  rintro e w9 ⟨rfl, b9⟩
  rw [RWs.out]
  go_wp2_with fail
  refine (Ways_any r _ (by omega)).mono ?_
  rintro e w10 ⟨rfl, b10⟩
  rw [RWr.out]
  go_wp2_with fail
  refine (Inner_any s _ (by omega)).mono ?_
  rintro e w11 ⟨rfl, b11⟩
  rw [RIs.out]
  go_wp2_with fail
  refine (Inner_any r _ (by omega)).mono ?_
  rintro e w12 ⟨rfl, b12⟩
  rw [RIr.out]
  have qa := q3.below (b_next (b_next (b_next (b_next (b_next (b_next (b_next (b_next b4 b5) b6) b7) b8) b9) b10) b11) b12)
  have qb := q4.below (b_next (b_next (b_next (b_next (b_next (b_next (b_next b5 b6) b7) b8) b9) b10) b11) b12)
  have qc := q5.below (b_next (b_next (b_next (b_next (b_next (b_next b6 b7) b8) b9) b10) b11) b12)
  have qd := q6.below (b_next (b_next (b_next (b_next (b_next b7 b8) b9) b10) b11) b12)
  have hB := (b_next (b_next (b_next (b_next (b_next (b_next (b_next (b_next (b_next (b_next (b_next b1 b2) b3) b4) b5) b6) b7) b8) b9) b10) b11) b12)
  have HB := Lib.hid hB
  clear b1 b2 b3 b4 b5 b6 b7 b8 b9 b10 b11 b12 hB q3 q4 q5 q6 q7 q8
  go_wp2_with (go_at_call 24; refine (texts_any _ _ _ _ _ _ _ _ _ qa qb hnp1 hnp1).mono ?_; rintro e w' ⟨rfl, n13, rfl⟩; rw [decide_eq_true rfl])
  clear qa qb
  have QC := Lib.hid qc
  have QD := Lib.hid qd
  clear qc qd
  go_loopw [25] (fun i wr => ∃ z n : Nat, z ≤ m ∧ i = .int .i64 z ∧ wr = w12.drewN n) (fun i _ => m - (intOf i).toNat)
  case atStart => exact ⟨0, n13, Nat.zero_le _, rfl, rfl⟩
  case round =>
    obtain ⟨z, n, hz, rfl, rfl⟩ := hrel
    by_cases hlt : z < m
    · have hc : (z : Int) < m := by omega
      obtain ⟨v, hv⟩ : ∃ v : Nat, z + v + 1 = m := ⟨m - 1 - z, by omega⟩
      obtain ⟨t, ht1, ht2⟩ := HCC.out z v hv
      obtain ⟨g1, rfl, hg1⟩ := row_int QC.out hlt ht1
      obtain ⟨g2, rfl, hg2⟩ := row_int QD.out (show v < m by omega) ht2
      have e1 : IntKind.i64.wrap ((m : Int) - 1) = (m : Int) - 1 := IntWalk.i64_in _ (by omega)
      have e2 : IntKind.i64.wrap ((m : Int) - 1 - z) = v := by rw [IntWalk.i64_in _ (by omega)]; omega
      have h1 : (v : Int) < m := by omega
      have Hv := Lib.hid hv
      clear hv ht1 ht2
      go_wp2
      go_quiet (fail)
      clear e1 e2
      go_wp2
      go_roundw
      case rel => exact ⟨z + 1, n + nq, by omega, by go_num, by first | rfl | exact World.drewN_drewN _ _ _⟩
      case measure => simp [intOf]; omega
    · obtain rfl : z = m := by omega
      have hc : ¬ (z : Int) < z := by omega
      go_wp2_with (go_at_call 22; refine (awake_any _).mono ?_; rintro e w14 ⟨rfl, b14⟩)
      go_ret
      exact ⟨rfl, b_next (below_drewN HB.out n) b14⟩


namespace lawTrimReversed
open Go.ChangeShapes Go.WideShapes Go.ChangeAt Go.RowKit
open Go.ChangeMaps (open_string shut_string)

theorem own : ownKnob Try.prog.godebug = none := by kernel_rfl
theorem lay : laidOutB Try.prog = true := by kernel_rfl

set_option maxRecDepth 100000 in
theorem lifted (os : Os) (started : os.Started) (H : Type) (enc : TypeId × Value → H) :
    ReturnsInHanded {} Try.checked os 11 .any (Rows.trimReversedSpec.pre6 enc Try.prog Try.f11 Rows.trimReversedRow.domain false) (Rows.trimReversedSpec.post enc Try.prog Try.f11 false true false false) := by
  refine returnsInHanded_of_change (C := Try.checked) own started (by kernel_rfl) Try.func11
    (ChangeSpec.witness6 (enc := enc) (C := Try.checked) false ⟨#[], #[.string ByteArray.empty], []⟩ 8 (by kernel_rfl) (by kernel_rfl) (by kernel_rfl) (by kernel_rfl)) ?_
  intro W base args ds gs before hval0 hW hcnd _
  have hval : ∀ (j : Nat) t v, Try.f11.params[j]? = some t → args[j]? = some v → Value.okWide Try.prog W .any base t v := hval0
  have hW' := hW
  obtain ⟨p, q, hA0, hV, rfl, hfz, hnd⟩ := hW
  have hA : DataW.TrodAll enc Try.prog W 0 (fun _ => true) true Try.f11.params.toList args.toList ds p := hA0
  rw [Try.params11] at hA hval
  obtain ⟨v0, vs0, d0, ds0, p0, q0, hargs, rfl, rfl, h0, r0⟩ := trodAll_cons hA
  obtain ⟨rfl, rfl, rfl⟩ := trodAll_nil r0
  obtain rfl : args = #[v0] := by cases args; simp_all
  obtain ⟨rfl, rfl⟩ := trodVars_none hV
  obtain ⟨a0, rfl, rfl, rfl, w0⟩ := open_string Try.underlying9 (hval 0 9 v0 rfl rfl) h0
  simp only [List.append_nil] at hW'
  clear hA0 hval0
  refine (walk_TrimReversed a0 w0 W).mono fun e W' ⟨he, bel⟩ => ?_
  subst he
  exact ⟨_, rfl, _, _, _, [], _, [], hW', trodAll_mk1 (shut_bool Try.underlying4 _), (trodAll_cons_mk (shut_string Try.underlying9 w0) trodAll_mk0), rfl, bel.frame _, fun h => by cases h⟩

theorem over : Rows.trimReversedRow.holds Try.pinned (OpenSpec.ofChange Rows.trimReversedSpec) :=
  OpenClaim.holds_of_wide 11 Try.f11 rfl rfl rfl rfl rfl rfl rfl ⟨rfl, rfl, rfl, rfl, rfl⟩ rfl rfl rfl rfl rfl (by kernel_rfl) Try.func11 (by kernel_rfl)
    (of_decide_eq_true (by kernel_rfl)) (by unfold Func.isWrapper; first | (rw [if_pos (by decide +kernel)]; kernel_rfl) | (rw [if_neg (by decide +kernel)]; exact ⟨rfl, rfl⟩))
    (fun os started H enc _ => lifted os started H enc)

theorem proved : Rows.TrimReversedSaid := over
end lawTrimReversed
end Go.Proofs.Yteejjcipdpojnaa
