/- Ends and Rich of trim are what the reference says, for every string: TrimEnds. -/
import Derived.Test.YtkiooaninckgdaaLawkit
import Derived.Test.YtkiooaninckgdaaOcc
import Derived.ProofKit
import Derived.OpenShut
import Derived.ShutString
import Derived.ChangeOld
namespace Go.Proofs.Ytkiooaninckgdaa
set_option linter.unusedVariables false
open Go.RowKit


set_option maxHeartbeats 2000000 in
theorem refEnds_any (s : ByteArray) (w : World) (hs : s.size ≤ 1000) :
    Calls Try.prog 31 #[.string s] w fun e w' => ∃ v, e = .returned v ∧ w'.ownsRow w.heap.size 3 1 v s.size (nats (ends s.data.toList)) ∧ Below w.heap.size w w' := by
  obtain ⟨i0, hi, hz0, hz1, hz2⟩ := info_parts info_int
  go_enter Try.func31, Try.ntmps31
  go_wp2
  go_loopw [3, 4] (fun v i wr => ∃ k : Nat, k ≤ s.size ∧ i = .int .i64 ((k : Int) + 1) ∧ wr.ownsRow w.heap.size 3 1 v k (nats (endsTo s.data.toList k)) ∧ Below w.heap.size w wr) (fun _ i _ => s.size + 1 - (intOf i).toNat)
  case atStart => exact ⟨0, Nat.zero_le _, rfl, World.ownsRow_nil _ _ _ _, Below.refl _ _⟩
  case round =>
    obtain ⟨k, hk, rfl, hown, hB⟩ := hrel
    by_cases hlt : k < s.size
    · have hc : (k : Int) + 1 ≤ s.size := by omega
      have e3 : ((k : Int) + 1).toNat = k + 1 := by omega
      obtain ⟨wo, hwo⟩ : ∃ wo : World, wo = wr := ⟨_, rfl⟩
      subst hwo
      have HO := Lib.hid hown
      have HBo := Lib.hid hB
      clear hown hB
      go_wp2
      go_loopw [5] (fun i wi => ∃ m n : Nat, m ≤ k + 1 ∧ i = .int .i64 m ∧ Hid (longEnd (s.data.toList.take (k + 1)) = longEnd ((s.data.toList.take (k + 1)).drop m)) ∧ wi = wo.drewN n) (fun i _ => k + 1 - (intOf i).toNat)
      case atStart => exact ⟨0, 0, Nat.zero_le _, rfl, rfl, rfl⟩
      case round =>
        obtain ⟨m, n, hm, rfl, HP, rfl⟩ := hrel
        have hm0 : (m : Int) ≤ (k : Int) + 1 := by omega
        have hlen : (s.data.toList.take (k + 1)).length = k + 1 := by rw [List.length_take, data_length]; omega
        have hx := extract_size s m (k + 1)
        cases hp : pal (s.extract m (k + 1)).data.toList with
        | true =>
          have hle : longEnd (s.data.toList.take (k + 1)) = k + 1 - m := by
            by_cases hmk : m < k + 1
            · rw [HP.out, longEnd_drop _ m (by rw [hlen]; exact hmk), ← part_data, hp, if_pos rfl, hlen]
            · rw [HP.out, List.drop_of_length_le (by rw [hlen]; omega)]; simp [longEnd]; omega
          have hv : (k : Int) + 1 - m = ((longEnd (s.data.toList.take (k + 1)) : Nat) : Int) := by rw [hle]; omega
          have Hv := Lib.hid hv
          have Hp := Lib.hid hp
          have hown := HO.out
          have hB := HBo.out
          clear hp hle hv hlen
          go_wp2_with (first
            | (go_at_call 49; refine (refPal_any _ _ (by unfold maxLen; omega)).mono ?_; rintro e w' ⟨rfl, n2, rfl⟩; rw [Hp.out])
            | (at_builtin; refine wpList_append_own _ rfl _ _ 27 rfl w.heap.size 3 i0 (.int .i64 0) 1 8 Try.underlying27 hi hz0 hz1 hz2 rfl (by decide) _ _ _ rfl (World.ownsRow.alloc (w := wo.drewN (n + n2)) hown _) ⟨wo.heap.size, 0, none⟩ 1 1 [_] rfl rfl (cell_one_new _ _ _) (by simp [Value.oneCell']) ?c3 ?c4 ?c5 ?_))
          case c3 => unfold maxLen; omega
          case c4 => omega
          case c5 => have := hB.size; simp; omega
          intro v' w1 hown' hgrow _
          have hb1 := rel_push hB (by have := hB.size; simp; omega) ((below_drewN (Below.refl _ wo) (n + n2)).alloc hB.size _) hown hgrow
          have h1 : w1.ownsRow w.heap.size 3 1 v' (k + 1) (nats (endsTo s.data.toList (k + 1))) := by
            rw [endsTo_succ, nats_snoc, ← Hv.out]; exact hown'
          clear hown' hgrow hown hB
          go_wp2
          go_roundw
          case rel => exact ⟨k + 1, by omega, by go_num, h1, hb1⟩
          case measure => simp [intOf]; omega
        | false =>
          have hmk : m < k + 1 := by
            rcases Nat.lt_or_ge m (k + 1) with h | h
            · exact h
            · rw [part_data, List.drop_of_length_le (by rw [hlen]; omega)] at hp; cases hp
          have hz : longEnd (s.data.toList.take (k + 1)) = longEnd ((s.data.toList.take (k + 1)).drop (m + 1)) := by
            rw [HP.out, longEnd_drop _ m (by rw [hlen]; exact hmk), ← part_data, hp]; rfl
          have Hp := Lib.hid hp
          have Hz := Lib.hid hz
          clear hp hz hlen
          go_wp2_with (go_at_call 49; refine (refPal_any _ _ (by unfold maxLen; omega)).mono ?_; rintro e w' ⟨rfl, n2, rfl⟩; rw [Hp.out])
          go_roundw
          case rel => exact ⟨m + 1, n + n2, by omega, by go_num, Hz.out, rfl⟩
          case measure => simp [intOf]; omega
    · have hc : ¬ (k : Int) + 1 ≤ s.size := by omega
      go_wp2
      go_ret
      exact ⟨_, rfl, by unfold ends; rw [data_length, show s.size = k from by omega]; exact hown, hB⟩

set_option maxHeartbeats 1000000 in
theorem occurs_any (s x : ByteArray) (w : World) (hs : s.size ≤ 1000) (hx : x.size ≤ 1000) :
    Calls Try.prog 61 #[.string s, .string x] w fun e w' => e = .returned (.bool (occB s.data.toList x.data.toList)) ∧ w = w' := by
  go_enter Try.func61, Try.ntmps61
  go_wp2
  go_loop [5] (fun i => ∃ k : Nat, k ≤ s.size + 1 ∧ i = .int .i64 k ∧ Hid (∀ i, i < k → ¬ (i + x.size ≤ s.size ∧ (s.data.toList.drop i).take x.size = x.data.toList))) (fun i => s.size + 1 - (intOf i).toNat)
  case atStart => exact ⟨0, Nat.zero_le _, rfl, fun i hi => by omega⟩
  case round =>
    obtain ⟨k, hk, rfl, HP⟩ := hrel
    by_cases hlt : k + x.size ≤ s.size
    · have hc : (k : Int) + x.size ≤ s.size := by omega
      have e1 : ((k : Int) + x.size).toNat = k + x.size := by omega
      have hd : (s.extract k (k + x.size)).data.toList = (s.data.toList.drop k).take x.size := by rw [Lib.extract_data, show k + x.size - k = x.size from by omega]
      cases hq : ((s.extract k (k + x.size)).toList == x.toList) with
      | true =>
        have hT : occB s.data.toList x.data.toList = true := (occB_iff _ _).2 ⟨k, by rw [data_length, data_length]; exact hlt, by
          rw [data_length, ← hd]; rw [toList_beq, decide_eq_true_eq] at hq; rw [hq]⟩
        have HT := Lib.hid hT
        clear hT hd
        go_wp2
        go_ret
        exact ⟨ret_bool HT.out.symm, rfl⟩
      | false =>
        have hz : ∀ i, i < k + 1 → ¬ (i + x.size ≤ s.size ∧ (s.data.toList.drop i).take x.size = x.data.toList) := by
          intro i hi
          rcases Nat.lt_or_eq_of_le (Nat.le_of_lt_succ hi) with h | h
          · exact HP.out i h
          · subst h
            rintro ⟨_, e⟩
            rw [toList_beq, decide_eq_false_iff_not] at hq
            exact hq (by rw [← mk_data (s.extract i (i + x.size)), hd, e, mk_data])
        have HZ := Lib.hid hz
        clear hz hd
        go_wp2
        go_round
        case rel => exact ⟨k + 1, by omega, by go_num, HZ.out⟩
        case measure => simp [intOf]; omega
    · have hc : ¬ (k : Int) + x.size ≤ s.size := by omega
      have hF : occB s.data.toList x.data.toList = false := by
        cases h : occB s.data.toList x.data.toList with
        | false => rfl
        | true =>
          obtain ⟨i, h1, h2⟩ := (occB_iff _ _).1 h
          rw [data_length] at h1 h2
          rw [data_length] at h1
          exact absurd ⟨h1, h2⟩ (HP.out i (by omega))
      have HF := Lib.hid hF
      clear hF
      go_wp2
      go_ret
      exact ⟨ret_bool HF.out.symm, rfl⟩

theorem ends_get (l : List UInt8) (k : Nat) (hk : k < l.length) : (ends l)[k]? = some (longEnd (l.take (k + 1))) := by simp [ends, endsTo, hk]

set_option maxRecDepth 100000 in
set_option maxHeartbeats 2000000 in
theorem refRich_any (s : ByteArray) (w : World) (hs : s.size ≤ 1000) :
    Calls Try.prog 32 #[.string s] w fun e w' => e = .returned (.int .i64 (richL s.data.toList)) ∧ Below w.heap.size w w' := by
  have hrl : richL s.data.toList = richRef s.data.toList s.size 0 := by unfold richL; rw [richRef_eq _ _ _ (by rw [data_length]; omega), data_length]
  have HRL := Lib.hid hrl
  clear hrl
  go_enter Try.func32, Try.ntmps32
  go_wp2_with (go_at_call 31; refine (refEnds_any _ _ hs).mono ?_; rintro e w1 ⟨v, rfl, hown, hB1⟩; obtain ⟨a, cap, rfl, hrow⟩ := Row.of_own hown)
  clear hown
  go_loopw [4] (fun i wr => ∃ k : Nat, k ≤ s.size ∧ i = .int .i64 k ∧ Hid (richL s.data.toList = richRef s.data.toList (s.size - k) k) ∧ Row wr a s.size (nats (ends s.data.toList)) ∧ Below w.heap.size w wr) (fun i _ => s.size - (intOf i).toNat)
  case atStart => exact ⟨0, Nat.zero_le _, rfl, HRL.out, hrow, hB1⟩
  case round =>
    clear hrow hB1
    obtain ⟨k, hk, rfl, HP, hrow, hB⟩ := hrel
    by_cases hlt : k < s.size
    · have hc : (k : Int) < s.size := by omega
      have hc1 : (k : Int) ≤ s.size := by omega
      have hc2 : (k : Int) + 1 ≤ s.size := by omega
      have hle := longEnd_le (s.data.toList.take (k + 1))
      rw [List.length_take] at hle
      obtain ⟨m, hm⟩ : ∃ m, longEnd (s.data.toList.take (k + 1)) = m := ⟨_, rfl⟩
      obtain ⟨g, rfl, hcell⟩ := row_int hrow hlt (ends_get _ k (by rw [data_length]; exact hlt))
      rw [hm] at hcell hle
      obtain ⟨a, ha⟩ : ∃ a : Nat, a + m = k + 1 := ⟨k + 1 - m, by omega⟩
      have h0 : (a : Int) ≤ (k : Int) + 1 := by omega
      have e1 : IntKind.i64.wrap ((k : Int) + 1) = (k : Int) + 1 := IntWalk.i64_in _ (by omega)
      have e2 : IntKind.i64.wrap ((k : Int) + 1 - m) = a := by rw [IntWalk.i64_in _ (by omega)]; omega
      have e3 : ((k : Int) + 1).toNat = k + 1 := by omega
      have hpd := palEnd_data s k m hm
      rw [show k + 1 - m = a from by omega] at hpd
      have hstep : richL s.data.toList = if occB (s.extract 0 k).data.toList (s.extract a (k + 1)).data.toList then (k : Int) else richRef s.data.toList (s.size - (k + 1)) (k + 1) := by
        rw [HP.out, show s.size - k = (s.size - (k + 1)) + 1 from by omega, richRef, take_data, hpd]
      have hx1 := extract_size s 0 k
      have hx2 := extract_size s a (k + 1)
      have Hs := Lib.hid hstep
      have Hrow := Lib.hid hrow
      clear hstep hpd hm ha hrow
      cases hb : occB (s.extract 0 k).data.toList (s.extract a (k + 1)).data.toList with
      | true =>
        have hO : ∀ w, Calls Try.prog 61 #[.string (s.extract 0 k), .string (s.extract a (k + 1))] w fun e w' => e = .returned (.bool true) ∧ w' = w := fun w =>
          (occurs_any _ _ _ (by omega) (by omega)).mono fun _ _ h => ⟨by rw [← hb]; exact h.1, h.2.symm⟩
        have HO := Lib.hid hO
        have Hb := Lib.hid hb
        clear hb hO
        go_wp2
        go_quiet ((go_at_call 61; exact Calls.quiet_of_same (HO.out _)))
        go_wp2
        go_ret
        exact ⟨ret_int (by rw [Hs.out, Hb.out, if_pos rfl]), below_drewN hB _⟩
      | false =>
        have hO : ∀ w, Calls Try.prog 61 #[.string (s.extract 0 k), .string (s.extract a (k + 1))] w fun e w' => e = .returned (.bool false) ∧ w' = w := fun w =>
          (occurs_any _ _ _ (by omega) (by omega)).mono fun _ _ h => ⟨by rw [← hb]; exact h.1, h.2.symm⟩
        have HO := Lib.hid hO
        have Hb := Lib.hid hb
        clear hb hO
        go_wp2
        go_quiet ((go_at_call 61; exact Calls.quiet_of_same (HO.out _)))
        clear e1 e2 e3
        go_wp2
        have hz : richL s.data.toList = richRef s.data.toList (s.size - (k + 1)) (k + 1) := by rw [Hs.out, Hb.out]; rfl
        go_roundw
        case rel => exact ⟨k + 1, by omega, by go_num, hz, Hrow.out, below_drewN hB _⟩
        case measure => simp [intOf]; omega
    · obtain rfl : k = s.size := by omega
      go_wp2
      go_ret
      exact ⟨ret_int (by rw [HP.out, Nat.sub_self]; rfl), hB⟩


set_option maxRecDepth 100000 in
set_option maxHeartbeats 4000000 in
theorem walk_TrimEnds (a : ByteArray) (ha : a.size ≤ maxLen) (w : World) :
    Calls Try.prog 4 #[.string a] w fun e w' => e = .returned (.bool true) ∧ Below w.heap.size w w' := by
  obtain ⟨s, hs⟩ : ∃ s, a.extract 0 (min a.size 101) = s := ⟨_, rfl⟩
  have hsz := short_size a
  rw [hs] at hsz
  have H := Lib.hid hs
  cases hw : wordB s.data.toList with
  | false =>
    have r1 : endsR s = ([], 2) := by unfold endsR; rw [hw]; rfl
    have r2 : richR s = (0, 2) := by unfold richR; rw [hw]; rfl
    have R1 := Lib.hid r1
    have R2 := Lib.hid r2
    have Hw := Lib.hid hw
    clear hs r1 r2 hw
    go_enter Try.func4, Try.ntmps4
    go_wp2_with (first
      | (go_at_call 16; refine (short_any _ _ ha).mono ?_; rintro e w' ⟨rfl, rfl⟩; rw [H.out])
      | (go_at_call 29; refine (Ends_any _ _ (by omega)).mono ?_; rintro e w1 ⟨v, rfl, o1, b1⟩; rw [R1.out] at o1; rw [R1.out]; obtain ⟨a1, c1, rfl, q1⟩ := Row.of_own o1; clear o1 q1)
      | (go_at_call 30; refine (Rich_any _ _ (by omega)).mono ?_; rintro e w2 ⟨rfl, b2⟩; rw [R2.out])
      | (go_at_call 21; refine (refWord_any _ _ (by omega)).mono ?_; rintro e w' ⟨rfl, rfl⟩; rw [Hw.out])
      | (go_at_call 22; refine (awake_any _).mono ?_; rintro e w3 ⟨rfl, b3⟩))
    go_ret
    exact ⟨rfl, b_next (b_next b1 b2) b3⟩
  | true =>
    have h100 := word_size hw
    have r1 : endsR s = (ends s.data.toList, 0) := by unfold endsR; rw [hw]; rfl
    have r2 : richR s = (richL s.data.toList, 0) := by unfold richR; rw [hw]; rfl
    have hel : (ends s.data.toList).length = s.size := by rw [ends, endsTo_length, data_length]
    have R1 := Lib.hid r1
    have R2 := Lib.hid r2
    have Hw := Lib.hid hw
    have Hel := Lib.hid hel
    clear hs r1 r2 hw hel
    go_enter Try.func4, Try.ntmps4
    go_wp2_with (first
      | (go_at_call 16; refine (short_any _ _ ha).mono ?_; rintro e w' ⟨rfl, rfl⟩; rw [H.out])
      | (go_at_call 29; refine (Ends_any _ _ (by omega)).mono ?_; rintro e w1 ⟨v, rfl, o1, b1⟩; rw [R1.out] at o1; rw [R1.out]; simp only [Hel.out] at o1; obtain ⟨a1, c1, rfl, q1⟩ := Row.of_own o1; clear o1)
      | (go_at_call 30; refine (Rich_any _ _ (by omega)).mono ?_; rintro e w2 ⟨rfl, b2⟩; rw [R2.out])
      | (go_at_call 21; refine (refWord_any _ _ (by omega)).mono ?_; rintro e w' ⟨rfl, rfl⟩; rw [Hw.out])
      | (go_at_call 31; refine (refEnds_any _ _ (by omega)).mono ?_; rintro e w3 ⟨v, rfl, o3, b3⟩; obtain ⟨a3, c3, rfl, q3⟩ := Row.of_own o3; clear o3; have q1' := (q1.below b2).below b3; rw [nats_intL] at q1' q3)
      | (go_at_call 26; refine (ints_any _ _ _ _ _ _ _ _ _ q1' q3 (by omega) (by omega)).mono ?_; rintro e w4 ⟨rfl, n4, rfl⟩; rw [decide_eq_true rfl])
      | (go_at_call 32; refine (refRich_any _ _ (by omega)).mono ?_; rintro e w5 ⟨rfl, b5⟩)
      | (go_at_call 22; refine (awake_any _).mono ?_; rintro e w6 ⟨rfl, b6⟩))
    go_ret
    exact ⟨rfl, b_next (b_next (below_drewN (b_next (b_next b1 b2) b3) n4) b5) b6⟩

namespace lawTrimEnds
open Go.ChangeShapes Go.WideShapes Go.ChangeAt Go.RowKit
open Go.ChangeMaps (open_string shut_string)

theorem own : ownKnob Try.prog.godebug = none := by kernel_rfl
theorem lay : laidOutB Try.prog = true := by kernel_rfl

set_option maxRecDepth 100000 in
theorem lifted (os : Os) (started : os.Started) (H : Type) (enc : TypeId × Value → H) :
    ReturnsInHanded {} Try.checked os 4 .any (Rows.trimEndsSpec.pre6 enc Try.prog Try.f4 Rows.trimEndsRow.domain false) (Rows.trimEndsSpec.post enc Try.prog Try.f4 false true false false) := by
  refine returnsInHanded_of_change (C := Try.checked) own started (by kernel_rfl) Try.func4
    (ChangeSpec.witness6 (enc := enc) (C := Try.checked) false ⟨#[], #[.string ByteArray.empty], []⟩ 8 (by kernel_rfl) (by kernel_rfl) (by kernel_rfl) (by kernel_rfl)) ?_
  intro W base args ds gs before hval0 hW hcnd _
  have hval : ∀ (j : Nat) t v, Try.f4.params[j]? = some t → args[j]? = some v → Value.okWide Try.prog W .any base t v := hval0
  have hW' := hW
  obtain ⟨p, q, hA0, hV, rfl, hfz, hnd⟩ := hW
  have hA : DataW.TrodAll enc Try.prog W 0 (fun _ => true) true Try.f4.params.toList args.toList ds p := hA0
  rw [Try.params4] at hA hval
  obtain ⟨v0, vs0, d0, ds0, p0, q0, hargs, rfl, rfl, h0, r0⟩ := trodAll_cons hA
  obtain ⟨rfl, rfl, rfl⟩ := trodAll_nil r0
  obtain rfl : args = #[v0] := by cases args; simp_all
  obtain ⟨rfl, rfl⟩ := trodVars_none hV
  obtain ⟨a0, rfl, rfl, rfl, w0⟩ := open_string Try.underlying9 (hval 0 9 v0 rfl rfl) h0
  simp only [List.append_nil] at hW'
  clear hA0 hval0
  refine (walk_TrimEnds a0 w0 W).mono fun e W' ⟨he, bel⟩ => ?_
  subst he
  exact ⟨_, rfl, _, _, _, [], _, [], hW', trodAll_mk1 (shut_bool Try.underlying4 _), (trodAll_cons_mk (shut_string Try.underlying9 w0) trodAll_mk0), rfl, bel.frame _, fun h => by cases h⟩

theorem over : Rows.trimEndsRow.holds Try.pinned (OpenSpec.ofChange Rows.trimEndsSpec) :=
  OpenClaim.holds_of_wide 4 Try.f4 rfl rfl rfl rfl rfl rfl rfl ⟨rfl, rfl, rfl, rfl, rfl⟩ rfl rfl rfl rfl rfl (by kernel_rfl) Try.func4 (by kernel_rfl)
    (of_decide_eq_true (by kernel_rfl)) (by unfold Func.isWrapper; first | (rw [if_pos (by decide +kernel)]; kernel_rfl) | (rw [if_neg (by decide +kernel)]; exact ⟨rfl, rfl⟩))
    (fun os started H enc _ => lifted os started H enc)

theorem proved : Rows.TrimEndsSaid := over
end lawTrimEnds
end Go.Proofs.Ytkiooaninckgdaa
