/- Palindromes, Centers, Occurrences and Longest of any string are those of the reference: TrimPalindromes. -/
import Derived.Test.YteejjcipdpojnaaRpals
namespace Go.Proofs.Yteejjcipdpojnaa
set_option linter.unusedVariables false
open Go.RowKit

set_option maxRecDepth 100000 in
set_option maxHeartbeats 8000000 in
theorem walk_TrimPalindromes (a : ByteArray) (ha : a.size ≤ maxLen) (w : World) :
    Calls Try.prog 3 #[.string a] w fun e w' => e = .returned (.bool true) ∧ Below w.heap.size w w' := by
  obtain ⟨s, hs⟩ : ∃ s, a.extract 0 (min a.size 101) = s := ⟨_, rfl⟩
  have hsz := short_size a
  rw [hs] at hsz
  have H := Lib.hid hs
  cases hw : wordB s.data.toList with
  | false =>
    have r1 : palsR s = ([], 2) := by unfold palsR; rw [hw]; rfl
    have r2 : centersR s = ([], 2) := by unfold centersR; rw [hw]; rfl
    have r3 : occR s = (0, 2) := by unfold occR; rw [hw]; rfl
    have r4 : longR s = (0, 0, 2) := by unfold longR; rw [hw]; rfl
    have R1 := Lib.hid r1
    have R2 := Lib.hid r2
    have R3 := Lib.hid r3
    have R4 := Lib.hid r4
    have Hw := Lib.hid hw
    clear hs r1 r2 r3 r4 hw
    go_enter Try.func3, Try.ntmps3
    go_wp2_with (first
      | (go_at_call 16; refine (short_any _ _ ha).mono ?_; rintro e w' ⟨rfl, rfl⟩; rw [H.out])
      | (go_at_call 17; refine (Palindromes_any _ _ (by omega)).mono ?_; rintro e w1 ⟨v, rfl, o1, b1⟩; rw [R1.out] at o1; rw [R1.out]; obtain ⟨a1, c1, rfl, q1⟩ := Row.of_own o1; clear o1 q1)
      | (go_at_call 18; refine (Centers_any _ _ (by omega)).mono ?_; rintro e w2 ⟨v, rfl, o2, b2⟩; rw [R2.out] at o2; rw [R2.out]; obtain ⟨a2, c2, rfl, q2⟩ := Row.of_own o2; clear o2 q2)
      | (go_at_call 19; refine (Occurrences_any _ _ (by omega)).mono ?_; rintro e w3 ⟨rfl, b3⟩; rw [R3.out])
      | (go_at_call 20; refine (Longest_any _ _ (by omega)).mono ?_; rintro e w4 ⟨rfl, b4⟩; rw [R4.out])
      | (go_at_call 21; refine (refWord_any _ _ (by omega)).mono ?_; rintro e w' ⟨rfl, rfl⟩; rw [Hw.out])
      | (go_at_call 22; refine (awake_any _).mono ?_; rintro e w5 ⟨rfl, b5⟩))
    go_ret
    exact ⟨rfl, b_next (b_next (b_next (b_next b1 b2) b3) b4) b5⟩
  | true =>
    have h100 := word_size hw
    obtain ⟨l, hl⟩ : ∃ l, s.data.toList = l := ⟨_, rfl⟩
    have hll : l.length = s.size := by rw [← hl, data_length]
    have r1 : palsR s = (palsL l, 0) := by unfold palsR; rw [hw, ← hl]; rfl
    have r2 : centersR s = (centers l, 0) := by unfold centersR; rw [hw, ← hl]; rfl
    have r3 : occR s = (((occL l : Nat) : Int), 0) := by unfold occR; rw [hw, ← hl]; rfl
    have r4 : longR s = ((((longL l).1 : Nat) : Int), (((longL l).2 : Nat) : Int), 0) := by unfold longR; rw [hw, ← hl]; rfl
    have r5 : occN s.data.toList s.size = occL l := by rw [hl, ← hll]; exact occ_eq l
    obtain ⟨x, hx⟩ : ∃ x, (longL l).1 = x := ⟨_, rfl⟩
    obtain ⟨y, hy⟩ : ∃ y, (longL l).2 = y := ⟨_, rfl⟩
    obtain ⟨t, ht⟩ : ∃ t, occL l = t := ⟨_, rfl⟩
    obtain ⟨n, hn⟩ : ∃ n, (palsL l).length = n := ⟨_, rfl⟩
    obtain ⟨m, hm⟩ : ∃ m, 2 * s.size - 1 = m := ⟨_, rfl⟩
    have hnl : n ≤ l.length := by rw [← hn]; exact sortS_len_le l l.length
    have hcl : (centers l).length = m := by rw [← hm, ← hll]; unfold centers; exact centersTo_length _ _
    have hn1 : n ≤ 1000 := by omega
    have hm1 : m ≤ 1000 := by omega
    rw [hx, hy] at r4
    rw [ht] at r3 r5
    have HL := Lib.hid hl
    have R1 := Lib.hid r1
    have R2 := Lib.hid r2
    have R3 := Lib.hid r3
    have R4 := Lib.hid r4
    have R5 := Lib.hid r5
    have HX := Lib.hid hx
    have HY := Lib.hid hy
    have Hn := Lib.hid hn
    have Hm := Lib.hid hm
    have Hcl := Lib.hid hcl
    have Hw := Lib.hid hw
    clear hs r1 r2 r3 r4 r5 hw hl hll hx hy ht hn hm hcl hnl
    go_enter Try.func3, Try.ntmps3
    go_wp2_with (first
      | (go_at_call 16; refine (short_any _ _ ha).mono ?_; rintro e w' ⟨rfl, rfl⟩; rw [H.out])
      | (go_at_call 17; refine (Palindromes_any _ _ (by omega)).mono ?_; rintro e w1 ⟨v, rfl, o1, b1⟩; rw [R1.out] at o1; rw [R1.out]; simp only [Hn.out] at o1; obtain ⟨a1, c1, rfl, q1⟩ := Row.of_own o1; clear o1)
      | (go_at_call 18; refine (Centers_any _ _ (by omega)).mono ?_; rintro e w2 ⟨v, rfl, o2, b2⟩; rw [R2.out] at o2; rw [R2.out]; simp only [Hcl.out] at o2; obtain ⟨a2, c2, rfl, q2⟩ := Row.of_own o2; clear o2; have q12 := q1.below b2)
      | (go_at_call 19; refine (Occurrences_any _ _ (by omega)).mono ?_; rintro e w3 ⟨rfl, b3⟩; rw [R3.out]; have q13 := q12.below b3; have q23 := q2.below b3)
      | (go_at_call 20; refine (Longest_any _ _ (by omega)).mono ?_; rintro e w4 ⟨rfl, b4⟩; rw [R4.out]; have q14 := q13.below b4; have q24 := q23.below b4)
      | (go_at_call 21; refine (refWord_any _ _ (by omega)).mono ?_; rintro e w' ⟨rfl, rfl⟩; rw [Hw.out])
      | (go_at_call 23; refine (refLongest_any _ _ (by omega)).mono ?_; rintro e w' ⟨rfl, n5, rfl⟩; rw [HL.out, HX.out, HY.out])
      | (go_at_call 25; refine (refPals_any s (w4.drewN n5) h100).mono ?_; rintro e w6 ⟨a6, c6, rfl, q6, b6⟩; rw [HL.out] at q6; rw [HL.out]; simp only [Hn.out] at q6 ⊢; have q16 := Row.below (w := w4.drewN n5) q14 b6; have q26 := Row.below (w := w4.drewN n5) q24 b6)
      | (go_at_call 24; refine (texts_any _ _ _ _ _ _ _ _ _ q16 q6 hn1 hn1).mono ?_; rintro e w' ⟨rfl, n7, rfl⟩; rw [decide_eq_true rfl])
      | (go_at_call 27; refine (refCenters_any s (w6.drewN n7) (by omega)).mono ?_; rintro e w8 ⟨v, rfl, o8, b8⟩; rw [HL.out, Hm.out] at o8; obtain ⟨a8, c8, rfl, q8⟩ := Row.of_own o8; clear o8; have q28 := Row.below (w := w6.drewN n7) q26 b8; rw [nats_intL] at q28 q8)
      | (go_at_call 26; refine (ints_any _ _ _ _ _ _ _ _ _ q28 q8 hm1 hm1).mono ?_; rintro e w' ⟨rfl, n9, rfl⟩; rw [decide_eq_true rfl])
      | (go_at_call 28; refine (refOcc_any _ _ (by omega)).mono ?_; rintro e w' ⟨rfl, n10, rfl⟩; rw [R5.out])
      | (go_at_call 22; refine (awake_any _).mono ?_; rintro e w11 ⟨rfl, b11⟩))
    go_ret
    have hB4 := b_next (b_next (b_next b1 b2) b3) b4
    have hB6 := b_next (below_drewN hB4 n5) b6
    have hB8 := b_next (below_drewN hB6 n7) b8
    exact ⟨rfl, by first | exact b_next (below_drewN (below_drewN hB8 n9) n10) b11 | exact b_next (below_drewN hB8 (n9 + n10)) b11⟩


namespace lawTrimPalindromes
open Go.ChangeShapes Go.WideShapes Go.ChangeAt Go.RowKit
open Go.ChangeMaps (open_string shut_string)

theorem own : ownKnob Try.prog.godebug = none := by kernel_rfl
theorem lay : laidOutB Try.prog = true := by kernel_rfl

set_option maxRecDepth 100000 in
theorem lifted (os : Os) (started : os.Started) (H : Type) (enc : TypeId × Value → H) :
    ReturnsInHanded {} Try.checked os 3 .any (Rows.trimPalindromesSpec.pre6 enc Try.prog Try.f3 Rows.trimPalindromesRow.domain false) (Rows.trimPalindromesSpec.post enc Try.prog Try.f3 false true false false) := by
  refine returnsInHanded_of_change (C := Try.checked) own started (by kernel_rfl) Try.func3
    (ChangeSpec.witness6 (enc := enc) (C := Try.checked) false ⟨#[], #[.string ByteArray.empty], []⟩ 8 (by kernel_rfl) (by kernel_rfl) (by kernel_rfl) (by kernel_rfl)) ?_
  intro W base args ds gs before hval0 hW hcnd _
  have hval : ∀ (j : Nat) t v, Try.f3.params[j]? = some t → args[j]? = some v → Value.okWide Try.prog W .any base t v := hval0
  have hW' := hW
  obtain ⟨p, q, hA0, hV, rfl, hfz, hnd⟩ := hW
  have hA : DataW.TrodAll enc Try.prog W 0 (fun _ => true) true Try.f3.params.toList args.toList ds p := hA0
  rw [Try.params3] at hA hval
  obtain ⟨v0, vs0, d0, ds0, p0, q0, hargs, rfl, rfl, h0, r0⟩ := trodAll_cons hA
  obtain ⟨rfl, rfl, rfl⟩ := trodAll_nil r0
  obtain rfl : args = #[v0] := by cases args; simp_all
  obtain ⟨rfl, rfl⟩ := trodVars_none hV
  obtain ⟨a0, rfl, rfl, rfl, w0⟩ := open_string Try.underlying9 (hval 0 9 v0 rfl rfl) h0
  simp only [List.append_nil] at hW'
  clear hA0 hval0
  refine (walk_TrimPalindromes a0 w0 W).mono fun e W' ⟨he, bel⟩ => ?_
  subst he
  exact ⟨_, rfl, _, _, _, [], _, [], hW', trodAll_mk1 (shut_bool Try.underlying4 _), (trodAll_cons_mk (shut_string Try.underlying9 w0) trodAll_mk0), rfl, bel.frame _, fun h => by cases h⟩

theorem over : Rows.trimPalindromesRow.holds Try.pinned (OpenSpec.ofChange Rows.trimPalindromesSpec) :=
  OpenClaim.holds_of_wide 3 Try.f3 rfl rfl rfl rfl rfl rfl rfl ⟨rfl, rfl, rfl, rfl, rfl⟩ rfl rfl rfl rfl rfl (by kernel_rfl) Try.func3 (by kernel_rfl)
    (of_decide_eq_true (by kernel_rfl)) (by unfold Func.isWrapper; first | (rw [if_pos (by decide +kernel)]; kernel_rfl) | (rw [if_neg (by decide +kernel)]; exact ⟨rfl, rfl⟩))
    (fun os started H enc _ => lifted os started H enc)

theorem proved : Rows.TrimPalindromesSaid := over
end lawTrimPalindromes
end Go.Proofs.Yteejjcipdpojnaa
