/- ButtonsOrdered: Index of Item is the number, assignments that come later have no smaller total, and with the same total they are lexicographically greater; Within of a total counts the assignment. Conditions: none. -/
import Derived.Test.YtdlbfiofpgicaaaQh
import Derived.Test.YtdlbfiofpgicaaaQe
import Derived.ShutString
/- The law's ButtonsOrdered: its walk. -/
namespace Go.Proofs.Ytdlbfiofpgicaaa
set_option linter.unusedVariables false
open Go.RowKit

theorem tot_item {C : List (List Int)} (hw : costsB C = true) {k : Nat} (hk : k < (asgW C).length) : totR C (rowW C (itemW C k)) = (totK C k, 0) := by
  obtain ⟨hR, _⟩ := Rect.of_costs hw
  obtain ⟨h1, h2⟩ := itemW_in hk
  obtain ⟨_, h4, h5⟩ := rowW_good hR.n7 h1
  unfold totR
  rw [hw, h4, h5, h2]; rfl
theorem idx_item {C : List (List Int)} (hw : costsB C = true) {k : Nat} (hk : k < (asgW C).length) : idxR C (rowW C (itemW C k)) = ((k : Int), 0) := by
  obtain ⟨hR, _⟩ := Rect.of_costs hw
  obtain ⟨h1, h2⟩ := itemW_in hk
  obtain ⟨_, h4, h5⟩ := rowW_good hR.n7 h1
  unfold idxR
  rw [hw, h4, h5, item_index hR.n7 hk]; rfl
theorem asgW_le (C : List (List Int)) (p : Way → Bool) : ((asgW C).filter p).length ≤ (asgW C).length := List.length_filter_le _ _

set_option maxRecDepth 100000 in
set_option maxHeartbeats 4000000 in
theorem ord_walk (n0 k0 : Int) (tv : Value) (D : List (List Int)) (w : World) (hT : TabIn w tv D) :
    Calls Try.prog 10 #[.int .i64 n0, tv, .int .i64 k0] w fun e w' => e = .returned (.bool true) ∧ Below w.heap.size w w' := by
  have HTm := Lib.hid fun n hn => tame_any tv D n 1000 w hT hn (Nat.le_refl _)
  have HW := Lib.hid awake_any
  clear hT
  go_enter Try.func10, Try.ntmps10
  go_wp2_with fail
  refine (mod_any n0 6 _ (by decide) (by decide)).mono ?_
  rintro e w1 ⟨⟨r, hr, rfl⟩, rfl⟩
  have hw1 : IntKind.i64.wrap (1 + (r : Int)) = ((1 + r : Nat) : Int) := by rw [IntWalk.i64_in _ (by omega)]; omega
  obtain ⟨n, hn⟩ : ∃ n, 1 + r = n := ⟨_, rfl⟩
  have hn1 : 1 ≤ n := by omega
  have hn7 : n ≤ 7 := by omega
  rw [hn] at hw1
  clear hn
  go_wp2_with fail
  refine (HTm.out n hn7).mono ?_
  rintro e w2 ⟨v, C, rfl, hl, hCl, hCt, b2⟩
  have hcb := costs_of_tamed hCl hCt hn1 hn7 (by decide)
  obtain ⟨a, cap, rfl, hcap, hcm, ht⟩ := hl.tbl
  rw [hCl] at hcap ⊢
  obtain ⟨hRe, _⟩ := Rect.of_costs hcb
  have hN := asgW_fac hRe.n7
  have hN7 := asgW_len hRe.n7
  have hN1 := asgW_pos hRe.n7
  obtain ⟨N, hNN⟩ : ∃ N, (asgW C).length = N := ⟨_, rfl⟩
  have hfac : facN n = N := by rw [← hNN, hN, hCl]
  rw [hNN] at hN7 hN1
  have T2 := Lib.hid ht
  have B2 := Lib.hid b2
  have Hcb := Lib.hid hcb
  have HCl := Lib.hid hCl
  have HNN := Lib.hid hNN
  have Hfac := Lib.hid hfac
  have HRe := Lib.hid hRe
  clear hl hCl hCt b2 hcb ht hRe hN hNN hfac
  go_wp2_with fail
  refine (fac_any n _ hn7).mono ?_
  rintro e w3 ⟨rfl, rfl⟩
  rw [Hfac.out]
  go_wp2_with fail
  refine (mod_any k0 N _ hN1 (by omega)).mono ?_
  rintro e w3 ⟨⟨k, hk, rfl⟩, rfl⟩
  obtain ⟨xs, hxs⟩ : ∃ r, rowW C (itemW C k) = r := ⟨_, rfl⟩
  have hkA : k < (asgW C).length := by rw [HNN.out]; exact hk
  have hI := fun a cap w h => Item_yes C a cap k w h Hcb.out hkA
  have hX := fun a a2 cap m ca w h ha => Index_any C xs a a2 cap m ca w h (by rw [HCl.out]; omega) (fun row hrow => by have := HRe.out.len row hrow; rw [HCl.out] at this; omega) ha
  have hTo := fun xs a a2 cap m ca w h ha => Total_any C xs a a2 cap m ca w h (by rw [HCl.out]; omega) (fun row hrow => by have := HRe.out.len row hrow; rw [HCl.out] at this; omega) ha
  have hWi := fun a cap t w h => Within_any C a cap t w h (by rw [HCl.out]; omega) (fun row hrow => by have := HRe.out.len row hrow; rw [HCl.out] at this; omega)
  have hidx := idx_item Hcb.out hkA
  have htot := tot_item Hcb.out hkA
  rw [hxs] at hidx htot
  rw [hidx] at hX
  simp only at hX
  rw [show (itemW C k).holes.take C.length = xs from hxs] at hI
  rw [HCl.out] at hI hX hTo hWi
  obtain ⟨t, htk⟩ : ∃ t, totK C k = t := ⟨_, rfl⟩
  have hmany := within_gt hkA
  have hmle := asgW_le C fun x => decide (x.t ≤ totK C k)
  obtain ⟨many, hmm⟩ : ∃ m, ((asgW C).filter fun x => decide (x.t ≤ totK C k)).length = m := ⟨_, rfl⟩
  have hwr : witR C t = ((many : Int), 0) := by unfold witR; rw [Hcb.out, ← htk, hmm]; rfl
  rw [hmm] at hmany hmle
  rw [HNN.out] at hmle
  rw [htk] at htot
  have hWt := fun a cap w h => hWi a cap t w h
  rw [hwr] at hWt
  simp only at hWt
  have hTx := fun a a2 cap m ca w h ha => hTo xs a a2 cap m ca w h ha
  rw [htot] at hTx
  simp only at hTx
  have HI := Lib.hid hI
  have HX := Lib.hid hX
  have HTx := Lib.hid hTx
  have HTo := Lib.hid hTo
  have HWt := Lib.hid hWt
  have Hxs := Lib.hid hxs
  have Htk := Lib.hid htk
  have Hmm := Lib.hid hmm
  clear hI hX hTo hWi hidx htot hTx hWt hxs htk hmm hwr
  go_wp2_with fail
  refine (HI.out _ _ _ T2.out).mono ?_
  rintro e w4 ⟨v4, rfl, ho4, b4⟩
  obtain ⟨a4, c4, rfl, hR4⟩ := Row.of_own ho4
  have T4 := Lib.hid (T2.out.below b4)
  have R4 := Lib.hid hR4
  have B4 := Lib.hid (b_next B2.out b4)
  clear ho4 hR4 b4 T2 B2
  go_wp2_with fail
  refine (HX.out _ _ _ _ _ _ T4.out R4.out (by omega)).mono ?_
  rintro e w5 ⟨rfl, b5⟩
  have T5 := Lib.hid (T4.out.below b5)
  have R5 := Lib.hid (R4.out.below b5)
  have B5 := Lib.hid (b_next B4.out b5)
  clear b5 T4 R4 B4
  go_wp2_with fail
  refine (HTx.out _ _ _ _ _ _ T5.out R5.out (by omega)).mono ?_
  rintro e w6 ⟨rfl, b6⟩
  have T6 := Lib.hid (T5.out.below b6)
  have R6 := Lib.hid (R5.out.below b6)
  have B6 := Lib.hid (b_next B5.out b6)
  clear b6 T5 R5 B5
  go_wp2_with fail
  refine (HWt.out _ _ _ T6.out).mono ?_
  rintro e w7 ⟨rfl, b7⟩
  have T7 := Lib.hid (T6.out.below b7)
  have R7 := Lib.hid (R6.out.below b7)
  have B7 := Lib.hid (b_next B6.out b7)
  clear b7 T6 R6 B6
  have g1 : ¬ (many : Int) ≤ k := by omega
  have g2 : ¬ (many : Int) > N := by omega
  have hw2 : IntKind.i64.wrap ((k : Int) + 1) = ((k + 1 : Nat) : Int) := by rw [IntWalk.i64_in _ (by omega)]; omega
  obtain ⟨k1, hk1⟩ : ∃ k1, k + 1 = k1 := ⟨_, rfl⟩
  rw [hk1] at hw2
  have Hk1 := Lib.hid hk1
  clear hk1
  by_cases hlast : k1 = N
  · have g3 : ((k1 : Int) == N) = true := by simp [hlast]
    have hno := fun a cap w h => Item_no C a cap k1 w h (by rw [HCl.out]; omega) (fun row hrow => by have := HRe.out.len row hrow; rw [HCl.out] at this; omega) (.inr ⟨Hcb.out, .inr (by rw [HNN.out]; omega)⟩)
    rw [HCl.out] at hno
    have Hno := Lib.hid hno
    have g4 : many = N := by have := Hk1.out; omega
    clear hlast hno
    subst g4
    go_wp2_with fail
    refine (Hno.out _ _ _ T7.out).mono ?_
    rintro e w8 ⟨rfl, b8⟩
    go_wp2_with fail
    refine (HW.out _).mono ?_
    rintro e w9 ⟨rfl, b9⟩
    go_wp2
    go_ret
    exact ⟨rfl, b_next (b_next B7.out b8) b9⟩
  · have g3 : ((k1 : Int) == N) = false := by simp; omega
    have hk1A : k1 < (asgW C).length := by have := Hk1.out; rw [HNN.out]; omega
    obtain ⟨ys, hys⟩ : ∃ r, rowW C (itemW C k1) = r := ⟨_, rfl⟩
    have hI := fun a cap w h => Item_yes C a cap k1 w h Hcb.out hk1A
    rw [show (itemW C k1).holes.take C.length = ys from hys, HCl.out] at hI
    have htot := tot_item Hcb.out hk1A
    rw [hys] at htot
    obtain ⟨t1, ht1⟩ : ∃ t, totK C k1 = t := ⟨_, rfl⟩
    rw [ht1] at htot
    have hTy := fun a a2 cap m ca w h ha => HTo.out ys a a2 cap m ca w h ha
    rw [htot] at hTy
    simp only at hTy
    have hle := totK_le (C := C) (k := k) (by rw [Hk1.out]; exact hk1A)
    rw [Hk1.out, ht1, Htk.out] at hle
    have HI2 := Lib.hid hI
    have HTy := Lib.hid hTy
    have Hys := Lib.hid hys
    have Ht1 := Lib.hid ht1
    clear hI htot hTy hys ht1 hlast
    go_wp2_with fail
    refine (HI2.out _ _ _ T7.out).mono ?_
    rintro e w8 ⟨v8, rfl, ho8, b8⟩
    obtain ⟨a8, c8, rfl, hR8⟩ := Row.of_own ho8
    have T8 := Lib.hid (T7.out.below b8)
    have R8 := Lib.hid hR8
    have Q8 := Lib.hid (R7.out.below b8)
    have B8 := Lib.hid (b_next B7.out b8)
    clear ho8 hR8 b8 T7 B7 R7
    go_wp2_with fail
    refine (HTy.out _ _ _ _ _ _ T8.out R8.out (by omega)).mono ?_
    rintro e w9 ⟨rfl, b9⟩
    have R9 := Lib.hid (R8.out.below b9)
    have Q9 := Lib.hid (Q8.out.below b9)
    have B9 := Lib.hid (b_next B8.out b9)
    clear b9 T8 B8 R8 Q8
    by_cases hlt : t < t1
    · have hm2 : many = k1 := by
        have := within_eq (C := C) (k := k) (by rw [Hk1.out]; exact hk1A) (by rw [Hk1.out, Ht1.out, Htk.out]; exact hlt)
        rw [Hmm.out, Hk1.out] at this
        exact this
      clear hle
      subst hm2
      go_wp2_with fail
      refine (HW.out _).mono ?_
      rintro e w10 ⟨rfl, b10⟩
      go_wp2
      go_ret
      exact ⟨rfl, b_next B9.out b10⟩
    · have he : t = t1 := by omega
      have hb := item_next (by rw [HCl.out]; exact hn7) (C := C) (k := k) (by rw [Hk1.out]; exact hk1A) (by rw [Hk1.out, Ht1.out, Htk.out]; exact he)
      rw [Hk1.out, Hxs.out, Hys.out] at hb
      have hm2 : k1 < many := by
        have h1 := within_gt hk1A
        rw [Ht1.out, ← he, ← Htk.out, Hmm.out] at h1
        exact h1
      have hm3 : (many : Int) > k1 := by omega
      have hLb := fun a a2 c1 c2 w h1 h2 => lbefore_any a a2 n c1 c2 xs ys w h1 h2 (by omega)
      rw [hb] at hLb
      have HLb := Lib.hid hLb
      clear hle hb hLb hm2
      subst he
      go_wp2_with fail
      refine (HLb.out _ _ _ _ _ Q9.out R9.out).mono ?_
      rintro e w10 ⟨rfl, q10, rfl⟩
      go_wp2_with fail
      refine (HW.out _).mono ?_
      rintro e w11 ⟨rfl, b11⟩
      go_wp2
      go_ret
      exact ⟨rfl, b_next (below_drewN B9.out _) b11⟩
theorem walk_ButtonsOrdered (n0 : Int) (_ : (Lit.int .i64 n0).wf = true) (tv : Value) (D : List (List Int)) (w : World) (hT : TabIn w tv D) (k0 : Int) (_ : (Lit.int .i64 k0).wf = true) :
    Calls Try.prog 10 #[.int .i64 n0, tv, .int .i64 k0] w fun e w' => e = .returned (.bool true) ∧ Below w.heap.size w w' :=
  ord_walk n0 k0 tv D w hT
end Go.Proofs.Ytdlbfiofpgicaaa

/- ButtonsOrdered: Index of Item is the number, assignments that come later have no smaller total, and with the same total they are lexicographically greater; Within of a total counts the assignment. Conditions: none. -/
namespace Go.Proofs.Ytdlbfiofpgicaaa
set_option linter.unusedVariables false

namespace lawButtonsOrdered
open Go.ChangeShapes Go.WideShapes Go.ChangeAt Go.RowKit
open Go.ChangeMaps (open_string shut_string)

theorem own : ownKnob Try.prog.godebug = none := by kernel_rfl
theorem lay : laidOutB Try.prog = true := by kernel_rfl

set_option maxRecDepth 100000 in
theorem lifted (os : Os) (started : os.Started) (H : Type) (enc : TypeId × Value → H) :
    ReturnsInHanded {} Try.checked os 10 .any (Rows.buttonsOrderedSpec.pre6 enc Try.prog Try.f10 Rows.buttonsOrderedRow.domain false) (Rows.buttonsOrderedSpec.post enc Try.prog Try.f10 false true false false) := by
  refine returnsInHanded_of_change (C := Try.checked) own started (by kernel_rfl) Try.func10
    (ChangeSpec.witness6 (enc := enc) (C := Try.checked) false ⟨#[], #[.int .i64 0, .slice none 0 0, .int .i64 0], []⟩ 8 (by kernel_rfl) (by kernel_rfl) (by kernel_rfl) (by kernel_rfl)) ?_
  intro W base args ds gs before hval0 hW hcnd _
  have hval : ∀ (j : Nat) t v, Try.f10.params[j]? = some t → args[j]? = some v → Value.okWide Try.prog W .any base t v := hval0
  have hW' := hW
  obtain ⟨p, q, hA0, hV, rfl, hfz, hnd⟩ := hW
  have hA : DataW.TrodAll enc Try.prog W 0 (fun _ => true) true Try.f10.params.toList args.toList ds p := hA0
  rw [Try.params10] at hA hval
  obtain ⟨v0, vs0, d0, ds0, p0, q0, hargs, rfl, rfl, h0, r0⟩ := trodAll_cons hA
  obtain ⟨v1, vs1, d1, ds1, p1, q1, rfl, rfl, rfl, h1, r1⟩ := trodAll_cons r0
  obtain ⟨v2, vs2, d2, ds2, p2, q2, rfl, rfl, rfl, h2, r2⟩ := trodAll_cons r1
  obtain ⟨rfl, rfl, rfl⟩ := trodAll_nil r2
  obtain rfl : args = #[v0, v1, v2] := by cases args; simp_all
  obtain ⟨rfl, rfl⟩ := trodVars_none hV
  obtain ⟨a0, rfl, rfl, rfl, w0⟩ := open_int Try.underlying3 (hval 0 3 v0 rfl rfl) h0
  obtain ⟨a1, len1, cap1, rfl⟩ := okWide_slice Try.underlying22 (hval 1 22 v1 rfl rfl)
  have k1 := h1
  have lt1 : ∀ x ∈ p1, x.block < W.heap.size := by obtain ⟨m, hm⟩ := k1; exact DataW.trod_lt m _ _ _ hm
  obtain ⟨z1, w1⟩ : ∃ C, TabIn W (.slice a1 len1 cap1) C := by
    obtain ⟨fuel, hf⟩ := h1
    rcases Go.Deep.open_int_rows Try.underlying22 Try.underlying24 Try.underlying3 (by kernel_rfl) (by kernel_rfl) hf with ⟨hcs, _⟩ | ⟨x, l, c, A, L, C, Z, hcs, _, hl, hm, _, hr⟩
    · simp [Value.cells] at hcs
      obtain ⟨rfl, rfl, rfl⟩ := hcs
      exact ⟨[], .inl ⟨_, rfl, rfl⟩⟩
    · simp [Value.cells] at hcs
      obtain ⟨rfl, rfl, rfl⟩ := hcs
      exact tabIn_of hl (fun r h => ⟨(hr r h).1, (hr r h).2.1, (hr r h).2.2.2.1, (hr r h).2.2.2.2.2.1, fun a' ha => ((hr r h).2.2.2.2.2.2 a' ha).2⟩)
  obtain ⟨a2, rfl, rfl, rfl, w2⟩ := open_int Try.underlying3 (hval 2 3 v2 rfl rfl) h2
  clear hA0 hval0
  refine (walk_ButtonsOrdered a0 w0 _ z1 W w1 a2 w2).mono fun e W' ⟨he, bel⟩ => ?_
  subst he
  exact ⟨_, rfl, _, _, _, [], _, [], hW', trodAll_mk1 (shut_bool Try.underlying4 _), (trodAll_cons_mk (shut_int Try.underlying3 w0) (trodAll_cons_mk (Below.trod lay (by kernel_rfl) (of_decide_eq_true (by kernel_rfl)) k1 bel lt1) (trodAll_cons_mk (shut_int Try.underlying3 w2) trodAll_mk0))), rfl, bel.frame _, fun h => by cases h⟩

theorem over : Rows.buttonsOrderedRow.holds Try.pinned (OpenSpec.ofChange Rows.buttonsOrderedSpec) :=
  OpenClaim.holds_of_wide 10 Try.f10 rfl rfl rfl rfl rfl rfl rfl ⟨rfl, rfl, rfl, rfl, rfl⟩ rfl rfl rfl rfl rfl (by kernel_rfl) Try.func10 (by kernel_rfl)
    (of_decide_eq_true (by kernel_rfl)) (by unfold Func.isWrapper; first | (rw [if_pos (by decide +kernel)]; kernel_rfl) | (rw [if_neg (by decide +kernel)]; exact ⟨rfl, rfl⟩))
    (fun os started H enc _ => lifted os started H enc)

theorem proved : Rows.ButtonsOrderedSaid := over
end lawButtonsOrdered
end Go.Proofs.Ytdlbfiofpgicaaa
