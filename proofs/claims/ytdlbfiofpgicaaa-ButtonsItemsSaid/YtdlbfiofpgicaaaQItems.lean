/- ButtonsItems: for any costs and int, Item returns the assignment that has as many assignments before it, and Within the number of those whose total is at most the int, or ErrArg. Conditions: none. -/
import Derived.Test.YtdlbfiofpgicaaaQg
import Derived.Test.YtdlbfiofpgicaaaQe
import Derived.ShutString
/- The law's ButtonsItems: its walk. -/
namespace Go.Proofs.Ytdlbfiofpgicaaa
set_option linter.unusedVariables false
open Go.RowKit

theorem rows_filter {C : List (List Int)} (hn : C.length ≤ 7) (p : Int → Bool) : (allL C.length C.length).filter (fun r => p (totL C C.length r)) = ((asgW C).filter fun x => p x.t).map fun y => y.holes.take C.length := by
  rw [← asgW_rows hn, List.filter_map]
  congr 1
  exact List.filter_congr fun y hy => by
    show p (totL C C.length (y.holes.take C.length)) = _
    unfold totL
    rw [asgW_way hn y hy]
theorem item_same {C : List (List Int)} (hn : C.length ≤ 7) {k : Nat} (hk : k < (asgW C).length) :
    (allL C.length C.length).countP (fun r => decide (totL C C.length r < totK C k)) + (k - cheap C (totK C k)) = k ∧
      ((allL C.length C.length).filter fun r => decide (totL C C.length r = totK C k))[k - cheap C (totK C k)]? = some ((itemW C k).holes.take C.length) := by
  have h1 := cheap_le hk
  have h2 := same_lt hk
  refine ⟨?_, ?_⟩
  · rw [List.countP_eq_length_filter, rows_filter hn (fun t => decide (t < totK C k)), List.length_map, ← List.countP_eq_length_filter]
    show cheap C (totK C k) + _ = k
    omega
  · rw [rows_filter hn (fun t => decide (t = totK C k)), List.getElem?_map, List.getElem?_eq_getElem (by omega)]
    unfold itemW
    rw [List.getD_eq_getElem?_getD, List.getElem?_eq_getElem (by omega)]; rfl
theorem all_len {C : List (List Int)} (hn : C.length ≤ 7) : (allL C.length C.length).length = (asgW C).length := by
  have h := congrArg List.length (asgW_rows hn)
  rw [List.length_map] at h
  exact h.symm

set_option maxRecDepth 100000 in
set_option maxHeartbeats 4000000 in
theorem itm_walk (tv : Value) (C : List (List Int)) (k : Int) (w : World) (hT : TableC w tv C) (hn : C.length ≤ 8) (hr : ∀ row ∈ C, row.length ≤ 8) :
    Calls Try.prog 5 #[tv, .int .i64 k] w fun e w' => e = .returned (.bool true) ∧ Below w.heap.size w w' := by
  have HT : Hid (∀ W, Below w.heap.size w W → Calls Try.prog 16 #[tv] W fun e w' => ∃ v, e = .returned v ∧ Lines w' W.heap.size v C ∧ Below W.heap.size W w') := hT
  have HW := Lib.hid awake_any
  obtain ⟨n, hCn⟩ : ∃ n, C.length = n := ⟨_, rfl⟩
  have hWi := fun a cap w h => Within_any C a cap k w h (by omega) (fun row hrow => by have := hr row hrow; omega)
  have hRc := fun a cap w h => refCosts_any C a cap n w hCn h (by omega) (fun row hrow => by have := hr row hrow; omega)
  clear hT
  cases hcb : costsB C with
  | false =>
    have hI := fun a cap w h => Item_no C a cap k w h (by omega) (fun row hrow => by have := hr row hrow; omega) (.inl hcb)
    have hwr : witR C k = (0, 2) := by unfold witR; rw [hcb]; rfl
    rw [hwr] at hWi
    rw [hcb] at hRc
    simp only at hWi
    rw [hCn] at hI hWi
    have HI := Lib.hid hI
    have HWi := Lib.hid hWi
    have HRc := Lib.hid hRc
    have Hcn := Lib.hid hCn
    clear hI hWi hRc hcb hwr hr hCn
    go_enter Try.func5, Try.ntmps5
    go_wp2_with fail
    refine (HT.out _ (Below.refl _ _)).mono ?_
    rintro e w1 ⟨v, rfl, hl, b1⟩
    obtain ⟨a, cap, rfl, hcap, hcm, ht⟩ := hl.tbl
    rw [Hcn.out] at hcap ⊢
    have T1 := Lib.hid ht
    have B1 := Lib.hid b1
    clear hl ht b1
    go_wp2_with fail
    refine (HI.out _ _ _ T1.out).mono ?_
    rintro e w2 ⟨rfl, b2⟩
    have T2 := Lib.hid (T1.out.below b2)
    have B2 := Lib.hid (b_next B1.out b2)
    clear b2 B1 T1
    go_wp2_with fail
    refine (HWi.out _ _ _ T2.out).mono ?_
    rintro e w3 ⟨rfl, b3⟩
    have T3 := Lib.hid (T2.out.below b3)
    have B3 := Lib.hid (b_next B2.out b3)
    clear b3 B2 T2
    go_wp2_with fail
    refine (HRc.out _ _ _ T3.out).mono ?_
    rintro e w4 ⟨rfl, rfl⟩
    go_wp2_with fail
    refine (HW.out _).mono ?_
    rintro e w5 ⟨rfl, b5⟩
    go_wp2
    go_ret
    exact ⟨rfl, b_next B3.out b5⟩
  | true =>
    obtain ⟨hRe, hp⟩ := Rect.of_costs hcb
    have hn7 := hRe.n7
    have hws := wit_same hn7 k
    have hal := all_len hn7
    obtain ⟨N, hN⟩ : ∃ N, (asgW C).length = N := ⟨_, rfl⟩
    have hN7 := asgW_len hn7
    obtain ⟨wi, hwi⟩ : ∃ m, (allL C.length C.length).countP (witP C C.length k) = m := ⟨_, rfl⟩
    have hwr : witR C k = ((wi : Int), 0) := by unfold witR; rw [hcb, hws, hwi]; rfl
    have hRw := fun a cap w h => refWithin_any C a cap n k w (hCn ▸ hRe) hCn h
    have hAl := fun w => All_any n (by omega) w
    rw [hwr] at hWi
    rw [hcb] at hRc
    rw [hCn] at hwi hal
    rw [hwi] at hRw
    rw [hN] at hal hN7
    simp only at hWi
    rw [hCn] at hWi hn hn7
    by_cases hk : k < 0 ∨ (N : Int) ≤ k
    · have hI := fun a cap w h => Item_no C a cap k w h (by omega) (fun row hrow => by have := hr row hrow; omega) (.inr ⟨hcb, by rw [hN]; exact hk⟩)
      rw [hCn] at hI
      have HI := Lib.hid hI
      have HWi := Lib.hid hWi
      have HRc := Lib.hid hRc
      have HRw := Lib.hid hRw
      have HAl := Lib.hid hAl
      have Hcn := Lib.hid hCn
      have Hal := Lib.hid hal
      clear hI hWi hRc hcb hwr hr hRw hAl hCn hal hN hws hwi hRe hp
      go_enter Try.func5, Try.ntmps5
      go_wp2_with fail
      refine (HT.out _ (Below.refl _ _)).mono ?_
      rintro e w1 ⟨v, rfl, hl, b1⟩
      obtain ⟨a, cap, rfl, hcap, hcm, ht⟩ := hl.tbl
      rw [Hcn.out] at hcap ⊢
      have T1 := Lib.hid ht
      have B1 := Lib.hid b1
      clear hl ht b1
      go_wp2_with fail
      refine (HI.out _ _ _ T1.out).mono ?_
      rintro e w2 ⟨rfl, b2⟩
      have T2 := Lib.hid (T1.out.below b2)
      have B2 := Lib.hid (b_next B1.out b2)
      clear b2 B1 T1
      go_wp2_with fail
      refine (HWi.out _ _ _ T2.out).mono ?_
      rintro e w3 ⟨rfl, b3⟩
      have T3 := Lib.hid (T2.out.below b3)
      have B3 := Lib.hid (b_next B2.out b3)
      clear b3 B2 T2
      go_wp2_with fail
      refine (HRc.out _ _ _ T3.out).mono ?_
      rintro e w4 ⟨rfl, rfl⟩
      go_wp2_with fail
      refine (HRw.out _ _ _ T3.out).mono ?_
      rintro e w5 ⟨rfl, b5⟩
      have B5 := Lib.hid (b_next B3.out b5)
      clear b5 B3
      by_cases hk0 : k < 0
      · go_wp2_with fail
        refine (HW.out _).mono ?_
        rintro e w6 ⟨rfl, b6⟩
        go_wp2
        go_ret
        exact ⟨rfl, b_next B5.out b6⟩
      · have hkN : k ≥ (N : Int) := by omega
        clear hk
        go_wp2_with fail
        refine (HAl.out _).mono ?_
        rintro e w6 ⟨v6, rfl, hl6, b6⟩
        obtain ⟨a6, cap6, rfl, hcap6, hcm6, _⟩ := hl6.tbl
        rw [Hal.out] at hcap6 ⊢
        clear hl6
        go_wp2_with fail
        refine (HW.out _).mono ?_
        rintro e w7 ⟨rfl, b7⟩
        go_wp2
        go_ret
        exact ⟨rfl, b_next (b_next B5.out b6) b7⟩
    · obtain ⟨j, rfl⟩ : ∃ j : Nat, k = j := ⟨k.toNat, by omega⟩
      have hjN : j < N := by omega
      have hI := fun a cap w h => Item_yes C a cap j w h hcb (by rw [hN]; exact hjN)
      obtain ⟨hs1, hs2⟩ := item_same (C := C) (by omega) (k := j) (by rw [hN]; exact hjN)
      obtain ⟨r, hrr⟩ : ∃ r, (itemW C j).holes.take C.length = r := ⟨_, rfl⟩
      rw [hrr] at hI hs2
      rw [hCn] at hs1 hs2 hI
      have hRi := fun a cap w h => refItem_any C a cap n j _ _ r w (hCn ▸ hRe) hCn h hs1 hs2
      have hIn := fun a1 c1 a2 c2 w h1 h2 => ints_true a1 a2 n c1 c2 r w h1 h2
      have HI := Lib.hid hI
      have HWi := Lib.hid hWi
      have HRc := Lib.hid hRc
      have HRw := Lib.hid hRw
      have HRi := Lib.hid hRi
      have HIn := Lib.hid hIn
      have HAl := Lib.hid hAl
      have Hcn := Lib.hid hCn
      have Hal := Lib.hid hal
      have hj0 : ¬ (j : Int) < 0 := by omega
      have hjn : ¬ (j : Int) ≥ (N : Int) := by omega
      clear hI hWi hRc hcb hwr hr hRw hRi hIn hAl hCn hal hN hws hwi hRe hp hs1 hs2 hrr hk
      go_enter Try.func5, Try.ntmps5
      go_wp2_with fail
      refine (HT.out _ (Below.refl _ _)).mono ?_
      rintro e w1 ⟨v, rfl, hl, b1⟩
      obtain ⟨a, cap, rfl, hcap, hcm, ht⟩ := hl.tbl
      rw [Hcn.out] at hcap ⊢
      have T1 := Lib.hid ht
      have B1 := Lib.hid b1
      clear hl ht b1
      go_wp2_with fail
      refine (HI.out _ _ _ T1.out).mono ?_
      rintro e w2 ⟨v2, rfl, ho2, b2⟩
      obtain ⟨a2, c2, rfl, hR2⟩ := Row.of_own ho2
      have T2 := Lib.hid (T1.out.below b2)
      have R2 := Lib.hid hR2
      have B2 := Lib.hid (b_next B1.out b2)
      clear b2 B1 T1 ho2 hR2
      go_wp2_with fail
      refine (HWi.out _ _ _ T2.out).mono ?_
      rintro e w3 ⟨rfl, b3⟩
      have T3 := Lib.hid (T2.out.below b3)
      have R3 := Lib.hid (R2.out.below b3)
      have B3 := Lib.hid (b_next B2.out b3)
      clear b3 B2 T2 R2
      go_wp2_with fail
      refine (HRc.out _ _ _ T3.out).mono ?_
      rintro e w4 ⟨rfl, rfl⟩
      go_wp2_with fail
      refine (HRw.out _ _ _ T3.out).mono ?_
      rintro e w5 ⟨rfl, b5⟩
      have T5 := Lib.hid (T3.out.below b5)
      have R5 := Lib.hid (R3.out.below b5)
      have B5 := Lib.hid (b_next B3.out b5)
      clear b5 B3 T3 R3
      go_wp2_with fail
      refine (HAl.out _).mono ?_
      rintro e w6 ⟨v6, rfl, hl6, b6⟩
      obtain ⟨a6, cap6, rfl, hcap6, hcm6, _⟩ := hl6.tbl
      rw [Hal.out] at hcap6 ⊢
      have T6 := Lib.hid (T5.out.below b6)
      have R6 := Lib.hid (R5.out.below b6)
      have B6 := Lib.hid (b_next B5.out b6)
      clear b6 B5 T5 R5 hl6
      go_wp2_with fail
      refine (HRi.out _ _ _ T6.out).mono ?_
      rintro e w7 ⟨a7, c7, rfl, hR7, b7⟩
      have R7 := Lib.hid hR7
      have R8 := Lib.hid (R6.out.below b7)
      have B7 := Lib.hid (b_next B6.out b7)
      clear b7 B6 T6 R6 hR7
      go_wp2_with fail
      refine (HIn.out _ _ _ _ _ R8.out R7.out (by omega)).mono ?_
      rintro e w8 ⟨rfl, q8, rfl⟩
      go_wp2_with fail
      refine (HW.out _).mono ?_
      rintro e w9 ⟨rfl, b9⟩
      go_wp2
      go_ret
      exact ⟨rfl, b_next (below_drewN B7.out _) b9⟩
theorem walk_ButtonsItems (tv : Value) (C : List (List Int)) (w : World) (hT : TabIn w tv C) (k : Int) (_ : (Lit.int .i64 k).wf = true) :
    Calls Try.prog 5 #[tv, .int .i64 k] w fun e w' => e = .returned (.bool true) ∧ Below w.heap.size w w' :=
  itm_walk tv _ k w hT.tableC (cutT_rows C).1 (cutT_rows C).2
end Go.Proofs.Ytdlbfiofpgicaaa

/- ButtonsItems: for any costs and int, Item returns the assignment that has as many assignments before it, and Within the number of those whose total is at most the int, or ErrArg. Conditions: none. -/
namespace Go.Proofs.Ytdlbfiofpgicaaa
set_option linter.unusedVariables false

namespace lawButtonsItems
open Go.ChangeShapes Go.WideShapes Go.ChangeAt Go.RowKit
open Go.ChangeMaps (open_string shut_string)

theorem own : ownKnob Try.prog.godebug = none := by kernel_rfl
theorem lay : laidOutB Try.prog = true := by kernel_rfl

set_option maxRecDepth 100000 in
theorem lifted (os : Os) (started : os.Started) (H : Type) (enc : TypeId × Value → H) :
    ReturnsInHanded {} Try.checked os 5 .any (Rows.buttonsItemsSpec.pre6 enc Try.prog Try.f5 Rows.buttonsItemsRow.domain false) (Rows.buttonsItemsSpec.post enc Try.prog Try.f5 false true false false) := by
  refine returnsInHanded_of_change (C := Try.checked) own started (by kernel_rfl) Try.func5
    (ChangeSpec.witness6 (enc := enc) (C := Try.checked) false ⟨#[], #[.slice none 0 0, .int .i64 0], []⟩ 8 (by kernel_rfl) (by kernel_rfl) (by kernel_rfl) (by kernel_rfl)) ?_
  intro W base args ds gs before hval0 hW hcnd _
  have hval : ∀ (j : Nat) t v, Try.f5.params[j]? = some t → args[j]? = some v → Value.okWide Try.prog W .any base t v := hval0
  have hW' := hW
  obtain ⟨p, q, hA0, hV, rfl, hfz, hnd⟩ := hW
  have hA : DataW.TrodAll enc Try.prog W 0 (fun _ => true) true Try.f5.params.toList args.toList ds p := hA0
  rw [Try.params5] at hA hval
  obtain ⟨v0, vs0, d0, ds0, p0, q0, hargs, rfl, rfl, h0, r0⟩ := trodAll_cons hA
  obtain ⟨v1, vs1, d1, ds1, p1, q1, rfl, rfl, rfl, h1, r1⟩ := trodAll_cons r0
  obtain ⟨rfl, rfl, rfl⟩ := trodAll_nil r1
  obtain rfl : args = #[v0, v1] := by cases args; simp_all
  obtain ⟨rfl, rfl⟩ := trodVars_none hV
  obtain ⟨a0, len0, cap0, rfl⟩ := okWide_slice Try.underlying22 (hval 0 22 v0 rfl rfl)
  have k0 := h0
  have lt0 : ∀ x ∈ p0, x.block < W.heap.size := by obtain ⟨m, hm⟩ := k0; exact DataW.trod_lt m _ _ _ hm
  obtain ⟨z0, w0⟩ : ∃ C, TabIn W (.slice a0 len0 cap0) C := by
    obtain ⟨fuel, hf⟩ := h0
    rcases Go.Deep.open_int_rows Try.underlying22 Try.underlying24 Try.underlying3 (by kernel_rfl) (by kernel_rfl) hf with ⟨hcs, _⟩ | ⟨x, l, c, A, L, C, Z, hcs, _, hl, hm, _, hr⟩
    · simp [Value.cells] at hcs
      obtain ⟨rfl, rfl, rfl⟩ := hcs
      exact ⟨[], .inl ⟨_, rfl, rfl⟩⟩
    · simp [Value.cells] at hcs
      obtain ⟨rfl, rfl, rfl⟩ := hcs
      exact tabIn_of hl (fun r h => ⟨(hr r h).1, (hr r h).2.1, (hr r h).2.2.2.1, (hr r h).2.2.2.2.2.1, fun a' ha => ((hr r h).2.2.2.2.2.2 a' ha).2⟩)
  obtain ⟨a1, rfl, rfl, rfl, w1⟩ := open_int Try.underlying3 (hval 1 3 v1 rfl rfl) h1
  clear hA0 hval0
  refine (walk_ButtonsItems _ z0 W w0 a1 w1).mono fun e W' ⟨he, bel⟩ => ?_
  subst he
  exact ⟨_, rfl, _, _, _, [], _, [], hW', trodAll_mk1 (shut_bool Try.underlying4 _), (trodAll_cons_mk (Below.trod lay (by kernel_rfl) (of_decide_eq_true (by kernel_rfl)) k0 bel lt0) (trodAll_cons_mk (shut_int Try.underlying3 w1) trodAll_mk0)), rfl, bel.frame _, fun h => by cases h⟩

theorem over : Rows.buttonsItemsRow.holds Try.pinned (OpenSpec.ofChange Rows.buttonsItemsSpec) :=
  OpenClaim.holds_of_wide 5 Try.f5 rfl rfl rfl rfl rfl rfl rfl ⟨rfl, rfl, rfl, rfl, rfl⟩ rfl rfl rfl rfl rfl (by kernel_rfl) Try.func5 (by kernel_rfl)
    (of_decide_eq_true (by kernel_rfl)) (by unfold Func.isWrapper; first | (rw [if_pos (by decide +kernel)]; kernel_rfl) | (rw [if_neg (by decide +kernel)]; exact ⟨rfl, rfl⟩))
    (fun os started H enc _ => lifted os started H enc)

theorem proved : Rows.ButtonsItemsSaid := over
end lawButtonsItems
end Go.Proofs.Ytdlbfiofpgicaaa
