/- Texts of buttons, joined: Wit, Orm, Tame, Modv, Lbef, Wor. -/
import Derived.Test.YtambhhjbafefgaaQg
import Derived.Test.YtambhhjbafefgaaQe
import Derived.Test.YtambhhjbafefgaaQf
import Derived.Deep.OwnRows
/- The law's ButtonsItems: its walk. -/
namespace Go.Proofs.Ytambhhjbafefgaa
set_option linter.unusedVariables false
open Go.RowKit

theorem rows_filter {C : List (List Int)} (hn : C.length ≤ 7) (p : Int → Bool) : (allL C.length C.length).filter (fun r => p (totL C C.length r)) = ((asgW C).filter fun x => p x.t).map fun y => y.holes.take C.length := by
  rw [← asgW_rows hn, List.filter_map]
  congr 1
  exact List.filter_congr fun y hy => by
    show p (totL C C.length (y.holes.take C.length)) = _
    unfold totL
    rw [asgW_way hn y hy]
theorem item_same {C : List (List Int)} (hn : C.length ≤ 7) {k : Nat} (hk : k < (asgW C).length) :
    (allL C.length C.length).countP (fun r => decide (totL C C.length r < totK C k)) + (k - cheap C (totK C k)) = k ∧
      ((allL C.length C.length).filter fun r => decide (totL C C.length r = totK C k))[k - cheap C (totK C k)]? = some ((itemW C k).holes.take C.length) := by
  have h1 := cheap_le hk
  have h2 := same_lt hk
  refine ⟨?_, ?_⟩
  · rw [List.countP_eq_length_filter, rows_filter hn (fun t => decide (t < totK C k)), List.length_map, ← List.countP_eq_length_filter]
    show cheap C (totK C k) + _ = k
    omega
  · rw [rows_filter hn (fun t => decide (t = totK C k)), List.getElem?_map, List.getElem?_eq_getElem (by omega)]
    unfold itemW
    rw [List.getD_eq_getElem?_getD, List.getElem?_eq_getElem (by omega)]; rfl
theorem all_len {C : List (List Int)} (hn : C.length ≤ 7) : (allL C.length C.length).length = (asgW C).length := by
  have h := congrArg List.length (asgW_rows hn)
  rw [List.length_map] at h
  exact h.symm

set_option maxRecDepth 100000 in
set_option maxHeartbeats 4000000 in
theorem itm_walk (tv : Value) (C : List (List Int)) (k : Int) (w : World) (hT : TableC w tv C) (hn : C.length ≤ 8) (hr : ∀ row ∈ C, row.length ≤ 8) :
    Calls Try.prog 5 #[tv, .int .i64 k] w fun e w' => e = .returned (.bool true) ∧ Below w.heap.size w w' := by
  have HT : Hid (∀ W, Below w.heap.size w W → Calls Try.prog 16 #[tv] W fun e w' => ∃ v, e = .returned v ∧ Lines w' W.heap.size v C ∧ Below W.heap.size W w') := hT
  have HW := Lib.hid awake_any
  obtain ⟨n, hCn⟩ : ∃ n, C.length = n := ⟨_, rfl⟩
  have hWi := fun a cap w h => Within_any C a cap k w h (by omega) (fun row hrow => by have := hr row hrow; omega)
  have hRc := fun a cap w h => refCosts_any C a cap n w hCn h (by omega) (fun row hrow => by have := hr row hrow; omega)
  clear hT
  cases hcb : costsB C with
  | false =>
    have hI := fun a cap w h => Item_no C a cap k w h (by omega) (fun row hrow => by have := hr row hrow; omega) (.inl hcb)
    have hwr : witR C k = (0, 2) := by unfold witR; rw [hcb]; rfl
    rw [hwr] at hWi
    rw [hcb] at hRc
    simp only at hWi
    rw [hCn] at hI hWi
    have HI := Lib.hid hI
    have HWi := Lib.hid hWi
    have HRc := Lib.hid hRc
    have Hcn := Lib.hid hCn
    clear hI hWi hRc hcb hwr hr hCn
    go_enter Try.func5, Try.ntmps5
    go_wp2_with fail
    refine (HT.out _ (Below.refl _ _)).mono ?_
    rintro e w1 ⟨v, rfl, hl, b1⟩
    obtain ⟨a, cap, rfl, hcap, hcm, ht⟩ := hl.tbl
    rw [Hcn.out] at hcap ⊢
    have T1 := Lib.hid ht
    have B1 := Lib.hid b1
    clear hl ht b1
    go_wp2_with fail
    refine (HI.out _ _ _ T1.out).mono ?_
    rintro e w2 ⟨rfl, b2⟩
    have T2 := Lib.hid (T1.out.below b2)
    have B2 := Lib.hid (b_next B1.out b2)
    clear b2 B1 T1
    go_wp2_with fail
    refine (HWi.out _ _ _ T2.out).mono ?_
    rintro e w3 ⟨rfl, b3⟩
    have T3 := Lib.hid (T2.out.below b3)
    have B3 := Lib.hid (b_next B2.out b3)
    clear b3 B2 T2
    go_wp2_with fail
    refine (HRc.out _ _ _ T3.out).mono ?_
    rintro e w4 ⟨rfl, rfl⟩
    go_wp2_with fail
    refine (HW.out _).mono ?_
    rintro e w5 ⟨rfl, b5⟩
    go_wp2
    go_ret
    exact ⟨rfl, b_next B3.out b5⟩
  | true =>
    obtain ⟨hRe, hp⟩ := Rect.of_costs hcb
    have hn7 := hRe.n7
    have hws := wit_same hn7 k
    have hal := all_len hn7
    obtain ⟨N, hN⟩ : ∃ N, (asgW C).length = N := ⟨_, rfl⟩
    have hN7 := asgW_len hn7
    obtain ⟨wi, hwi⟩ : ∃ m, (allL C.length C.length).countP (witP C C.length k) = m := ⟨_, rfl⟩
    have hwr : witR C k = ((wi : Int), 0) := by unfold witR; rw [hcb, hws, hwi]; rfl
    have hRw := fun a cap w h => refWithin_any C a cap n k w (hCn ▸ hRe) hCn h
    have hAl := fun w => All_any n (by omega) w
    rw [hwr] at hWi
    rw [hcb] at hRc
    rw [hCn] at hwi hal
    rw [hwi] at hRw
    rw [hN] at hal hN7
    simp only at hWi
    rw [hCn] at hWi hn hn7
    by_cases hk : k < 0 ∨ (N : Int) ≤ k
    · have hI := fun a cap w h => Item_no C a cap k w h (by omega) (fun row hrow => by have := hr row hrow; omega) (.inr ⟨hcb, by rw [hN]; exact hk⟩)
      rw [hCn] at hI
      have HI := Lib.hid hI
      have HWi := Lib.hid hWi
      have HRc := Lib.hid hRc
      have HRw := Lib.hid hRw
      have HAl := Lib.hid hAl
      have Hcn := Lib.hid hCn
      have Hal := Lib.hid hal
      clear hI hWi hRc hcb hwr hr hRw hAl hCn hal hN hws hwi hRe hp
      go_enter Try.func5, Try.ntmps5
      go_wp2_with fail
      refine (HT.out _ (Below.refl _ _)).mono ?_
      rintro e w1 ⟨v, rfl, hl, b1⟩
      obtain ⟨a, cap, rfl, hcap, hcm, ht⟩ := hl.tbl
      rw [Hcn.out] at hcap ⊢
      have T1 := Lib.hid ht
      have B1 := Lib.hid b1
      clear hl ht b1
      go_wp2_with fail
      refine (HI.out _ _ _ T1.out).mono ?_
      rintro e w2 ⟨rfl, b2⟩
      have T2 := Lib.hid (T1.out.below b2)
      have B2 := Lib.hid (b_next B1.out b2)
      clear b2 B1 T1
      go_wp2_with fail
      refine (HWi.out _ _ _ T2.out).mono ?_
      rintro e w3 ⟨rfl, b3⟩
      have T3 := Lib.hid (T2.out.below b3)
      have B3 := Lib.hid (b_next B2.out b3)
      clear b3 B2 T2
      go_wp2_with fail
      refine (HRc.out _ _ _ T3.out).mono ?_
      rintro e w4 ⟨rfl, rfl⟩
      go_wp2_with fail
      refine (HRw.out _ _ _ T3.out).mono ?_
      rintro e w5 ⟨rfl, b5⟩
      have B5 := Lib.hid (b_next B3.out b5)
      clear b5 B3
      by_cases hk0 : k < 0
      · go_wp2_with fail
        refine (HW.out _).mono ?_
        rintro e w6 ⟨rfl, b6⟩
        go_wp2
        go_ret
        exact ⟨rfl, b_next B5.out b6⟩
      · have hkN : k ≥ (N : Int) := by omega
        clear hk
        go_wp2_with fail
        refine (HAl.out _).mono ?_
        rintro e w6 ⟨v6, rfl, hl6, b6⟩
        obtain ⟨a6, cap6, rfl, hcap6, hcm6, _⟩ := hl6.tbl
        rw [Hal.out] at hcap6 ⊢
        clear hl6
        go_wp2_with fail
        refine (HW.out _).mono ?_
        rintro e w7 ⟨rfl, b7⟩
        go_wp2
        go_ret
        exact ⟨rfl, b_next (b_next B5.out b6) b7⟩
    · obtain ⟨j, rfl⟩ : ∃ j : Nat, k = j := ⟨k.toNat, by omega⟩
      have hjN : j < N := by omega
      have hI := fun a cap w h => Item_yes C a cap j w h hcb (by rw [hN]; exact hjN)
      obtain ⟨hs1, hs2⟩ := item_same (C := C) (by omega) (k := j) (by rw [hN]; exact hjN)
      obtain ⟨r, hrr⟩ : ∃ r, (itemW C j).holes.take C.length = r := ⟨_, rfl⟩
      rw [hrr] at hI hs2
      rw [hCn] at hs1 hs2 hI
      have hRi := fun a cap w h => refItem_any C a cap n j _ _ r w (hCn ▸ hRe) hCn h hs1 hs2
      have hIn := fun a1 c1 a2 c2 w h1 h2 => ints_true a1 a2 n c1 c2 r w h1 h2
      have HI := Lib.hid hI
      have HWi := Lib.hid hWi
      have HRc := Lib.hid hRc
      have HRw := Lib.hid hRw
      have HRi := Lib.hid hRi
      have HIn := Lib.hid hIn
      have HAl := Lib.hid hAl
      have Hcn := Lib.hid hCn
      have Hal := Lib.hid hal
      have hj0 : ¬ (j : Int) < 0 := by omega
      have hjn : ¬ (j : Int) ≥ (N : Int) := by omega
      clear hI hWi hRc hcb hwr hr hRw hRi hIn hAl hCn hal hN hws hwi hRe hp hs1 hs2 hrr hk
      go_enter Try.func5, Try.ntmps5
      go_wp2_with fail
      refine (HT.out _ (Below.refl _ _)).mono ?_
      rintro e w1 ⟨v, rfl, hl, b1⟩
      obtain ⟨a, cap, rfl, hcap, hcm, ht⟩ := hl.tbl
      rw [Hcn.out] at hcap ⊢
      have T1 := Lib.hid ht
      have B1 := Lib.hid b1
      clear hl ht b1
      go_wp2_with fail
      refine (HI.out _ _ _ T1.out).mono ?_
      rintro e w2 ⟨v2, rfl, ho2, b2⟩
      obtain ⟨a2, c2, rfl, hR2⟩ := Row.of_own ho2
      have T2 := Lib.hid (T1.out.below b2)
      have R2 := Lib.hid hR2
      have B2 := Lib.hid (b_next B1.out b2)
      clear b2 B1 T1 ho2 hR2
      go_wp2_with fail
      refine (HWi.out _ _ _ T2.out).mono ?_
      rintro e w3 ⟨rfl, b3⟩
      have T3 := Lib.hid (T2.out.below b3)
      have R3 := Lib.hid (R2.out.below b3)
      have B3 := Lib.hid (b_next B2.out b3)
      clear b3 B2 T2 R2
      go_wp2_with fail
      refine (HRc.out _ _ _ T3.out).mono ?_
      rintro e w4 ⟨rfl, rfl⟩
      go_wp2_with fail
      refine (HRw.out _ _ _ T3.out).mono ?_
      rintro e w5 ⟨rfl, b5⟩
      have T5 := Lib.hid (T3.out.below b5)
      have R5 := Lib.hid (R3.out.below b5)
      have B5 := Lib.hid (b_next B3.out b5)
      clear b5 B3 T3 R3
      go_wp2_with fail
      refine (HAl.out _).mono ?_
      rintro e w6 ⟨v6, rfl, hl6, b6⟩
      obtain ⟨a6, cap6, rfl, hcap6, hcm6, _⟩ := hl6.tbl
      rw [Hal.out] at hcap6 ⊢
      have T6 := Lib.hid (T5.out.below b6)
      have R6 := Lib.hid (R5.out.below b6)
      have B6 := Lib.hid (b_next B5.out b6)
      clear b6 B5 T5 R5 hl6
      go_wp2_with fail
      refine (HRi.out _ _ _ T6.out).mono ?_
      rintro e w7 ⟨a7, c7, rfl, hR7, b7⟩
      have R7 := Lib.hid hR7
      have R8 := Lib.hid (R6.out.below b7)
      have B7 := Lib.hid (b_next B6.out b7)
      clear b7 B6 T6 R6 hR7
      go_wp2_with fail
      refine (HIn.out _ _ _ _ _ R8.out R7.out (by omega)).mono ?_
      rintro e w8 ⟨rfl, q8, rfl⟩
      go_wp2_with fail
      refine (HW.out _).mono ?_
      rintro e w9 ⟨rfl, b9⟩
      go_wp2
      go_ret
      exact ⟨rfl, b_next (below_drewN B7.out _) b9⟩
theorem walk_ButtonsItems (tv : Value) (C : List (List Int)) (w : World) (hT : TabIn w tv C) (k : Int) (_ : (Lit.int .i64 k).wf = true) :
    Calls Try.prog 5 #[tv, .int .i64 k] w fun e w' => e = .returned (.bool true) ∧ Below w.heap.size w w' :=
  itm_walk tv _ k w hT.tableC (cutT_rows C).1 (cutT_rows C).2
end Go.Proofs.Ytambhhjbafefgaa

/- The order of assignments: mathematics. -/
namespace Go.Proofs.Ytambhhjbafefgaa
set_option linter.unusedVariables false

theorem cmpL_pre (a x y : List Int) : cmpL (a ++ x) (a ++ y) = cmpL x y := by
  induction a with
  | nil => rfl
  | cons h a ih =>
    show (if h = h then cmpL (a ++ x) (a ++ y) else _) = _
    rw [if_pos rfl, ih]
theorem cmpInt_lt {x y : Int} : Lib.compareInt x y < 0 ↔ x < y := by
  by_cases h : x = y
  · subst h
    unfold Lib.compareInt
    repeat' split
    all_goals omega
  · have := cmpInt_neg x y h
    rw [decide_eq_decide] at this
    exact this
theorem cmpL_app : ∀ (a b x y : List Int), a.length = b.length → cmpL a b < 0 → cmpL (a ++ x) (b ++ y) < 0 := by
  intro a
  induction a with
  | nil =>
    intro b x y hl h
    cases b with
    | nil => simp [cmpL] at h
    | cons _ _ => cases hl
  | cons p a ih =>
    intro b x y hl h
    cases b with
    | nil => cases hl
    | cons q b =>
      have h' : (if p = q then cmpL a b else Lib.compareInt p q) < 0 := h
      show (if p = q then cmpL (a ++ x) (b ++ y) else Lib.compareInt p q) < 0
      by_cases e : p = q
      · rw [if_pos e] at h' ⊢
        exact ih b x y (by simpa using hl) h'
      · rw [if_neg e] at h' ⊢
        exact h'
theorem cmpL_asymm : ∀ (a b : List Int), cmpL a b < 0 → ¬ cmpL b a < 0 := by
  intro a
  induction a with
  | nil =>
    intro b h
    cases b with
    | nil => simp [cmpL] at h
    | cons _ _ => simp [cmpL]
  | cons p a ih =>
    intro b h
    cases b with
    | nil => simp [cmpL] at h
    | cons q b =>
      have h' : (if p = q then cmpL a b else Lib.compareInt p q) < 0 := h
      show ¬ (if q = p then cmpL b a else Lib.compareInt q p) < 0
      by_cases e : p = q
      · rw [if_pos e] at h'
        rw [if_pos e.symm]
        exact ih b h'
      · rw [if_neg e] at h'
        rw [if_neg (fun h => e h.symm), cmpInt_lt]
        rw [cmpInt_lt] at h'
        omega
theorem extL_sorted (n : Nat) (a : List Int) : (extL n a).Pairwise (fun x y => cmpL x y < 0) := by
  unfold extL
  refine List.Pairwise.map _ (R := (· < ·)) (fun x y h => ?_) ?_
  · rw [cmpL_pre]
    show (if (x : Int) = y then cmpL [] [] else Lib.compareInt x y) < 0
    rw [if_neg (by omega), cmpInt_lt]
    omega
  · exact List.Pairwise.filter _ List.pairwise_lt_range
theorem allL_sorted (n : Nat) : ∀ i, (allL n i).Pairwise (fun x y => cmpL x y < 0) := by
  intro i
  induction i with
  | zero => exact List.pairwise_singleton _ _
  | succ i ih =>
    show ((allL n i).flatMap (extL n)).Pairwise _
    rw [List.pairwise_flatMap]
    refine ⟨fun a _ => extL_sorted n a, ?_⟩
    refine ih.imp_of_mem fun {a b} ha hb h x hx y hy => ?_
    unfold extL at hx hy
    obtain ⟨j, _, rfl⟩ := List.mem_map.1 hx
    obtain ⟨j', _, rfl⟩ := List.mem_map.1 hy
    exact cmpL_app a b _ _ (by rw [(allL_row n i a ha).1, (allL_row n i b hb).1]) h
theorem asgW_sorted {C : List (List Int)} (hn : C.length ≤ 7) : (asgW C).Pairwise fun x y => cmpL (x.holes.take C.length) (y.holes.take C.length) < 0 := by
  have h := allL_sorted C.length C.length
  rw [← asgW_rows hn, List.pairwise_map] at h
  exact h
theorem count_place {α : Type} (R : α → α → Prop) [DecidableRel R] (has : ∀ a b, R a b → ¬ R b a) : ∀ (l : List α), l.Pairwise R → ∀ (m : Nat) (x : α), l[m]? = some x → l.countP (fun y => decide (R y x)) = m := by
  intro l
  induction l with
  | nil => intro _ m x h; cases h
  | cons a l ih =>
    intro hp m x hx
    rw [List.countP_cons]
    have ⟨h1, h2⟩ := List.pairwise_cons.1 hp
    cases m with
    | zero =>
      simp at hx
      subst hx
      have h3 : l.countP (fun y => decide (R y a)) = 0 := List.countP_eq_zero.2 fun y hy => by simpa using has a y (h1 y hy)
      rw [h3, if_neg (by simpa using fun h => has a a h h)]
    | succ m =>
      have hx' : l[m]? = some x := by simpa using hx
      rw [ih h2 m x hx', if_pos (by simpa using h1 x (List.mem_of_getElem? hx'))]
theorem count_split {α : Type} (t : α → Int) (τ : Int) (q : α → Bool) (l : List α) :
    l.countP (fun y => decide (t y < τ) || (decide (t y = τ) && q y)) = l.countP (fun y => decide (t y < τ)) + (l.filter fun y => decide (t y = τ)).countP q := by
  induction l with
  | nil => rfl
  | cons a l ih =>
    rw [List.countP_cons, List.countP_cons, ih, List.filter_cons]
    by_cases h1 : t a < τ
    · have h2 : t a ≠ τ := by omega
      rw [decide_eq_true h1, decide_eq_false h2]
      simp; omega
    · by_cases h2 : t a = τ
      · rw [decide_eq_false h1, decide_eq_true h2]
        simp only [if_true, List.countP_cons, Bool.false_or, Bool.true_and, Bool.false_eq_true, if_false]
        omega
      · rw [decide_eq_false h1, decide_eq_false h2]
        simp
theorem itemW_mem {C : List (List Int)} {k : Nat} (hk : k < (asgW C).length) : ((asgW C).filter fun x => decide (x.t = totK C k))[k - cheap C (totK C k)]? = some (itemW C k) := by
  have h2 := same_lt hk
  have h1 := cheap_le hk
  unfold itemW
  rw [List.getD_eq_getElem?_getD, List.getElem?_eq_getElem (by omega)]; rfl
theorem itemW_in {C : List (List Int)} {k : Nat} (hk : k < (asgW C).length) : itemW C k ∈ asgW C ∧ (itemW C k).t = totK C k := by
  have h := List.mem_of_getElem? (itemW_mem hk)
  obtain ⟨h1, h2⟩ := List.mem_filter.1 h
  exact ⟨h1, by simpa using h2⟩
/-- the row of an assignment -/
def rowW (C : List (List Int)) (x : Way) : List Int := x.holes.take C.length
theorem rowW_good {C : List (List Int)} (hn : C.length ≤ 7) {x : Way} (hx : x ∈ asgW C) : (rowW C x).length = C.length ∧ asgB (rowW C x) C.length = true ∧ wayP C (rowW C x) C.length = x := by
  have h : rowW C x ∈ allL C.length C.length := by rw [← asgW_rows hn]; exact List.mem_map.2 ⟨x, hx, rfl⟩
  obtain ⟨h1, h2, h3⟩ := allL_good C.length C.length _ h
  refine ⟨h1, ?_, asgW_way hn x hx⟩
  unfold asgB
  exact decide_eq_true ⟨h1, h3, h2⟩
theorem item_index {C : List (List Int)} (hn : C.length ≤ 7) {k : Nat} (hk : k < (asgW C).length) : ((asgW C).filter fun x => decide (ordW x (itemW C k) < 0)).length = k := by
  obtain ⟨hin, ht⟩ := itemW_in hk
  obtain ⟨h1, h2, h3⟩ := rowW_good hn hin
  have h4 := idx_same hn h1
  rw [h3] at h4
  rw [h4, ← asgW_rows hn, List.countP_map]
  have h5 : (asgW C).countP (befR C C.length (itemW C k).t (rowW C (itemW C k)) ∘ fun y => y.holes.take C.length) = (asgW C).countP (fun y => decide (y.t < totK C k) || (decide (y.t = totK C k) && decide (cmpL (rowW C y) (rowW C (itemW C k)) < 0))) :=
    List.countP_congr fun y hy => by
      show befR C C.length (itemW C k).t (rowW C (itemW C k)) (rowW C y) = true ↔ _
      unfold befR befB
      rw [(rowW_good hn hy).2.2, ht]
  rw [h5, count_split (fun y : Way => y.t)]
  have h6 := count_place (fun x y : Way => cmpL (rowW C x) (rowW C y) < 0) (fun a b h => cmpL_asymm _ _ h) _ ((asgW_sorted hn).filter _) _ _ (itemW_mem hk)
  rw [h6]
  have := cheap_le hk
  show cheap C (totK C k) + _ = k
  omega
theorem within_gt {C : List (List Int)} {k : Nat} (hk : k < (asgW C).length) : k < ((asgW C).filter fun x => decide (x.t ≤ totK C k)).length := by
  have h := sorted_le (sortT_sorted C) (totK_get hk)
  rw [sortT_count, List.countP_eq_length_filter] at h
  exact h
theorem totK_le {C : List (List Int)} {k : Nat} (hk : k + 1 < (asgW C).length) : totK C k ≤ totK C (k + 1) := by
  have h := sortT_sorted C
  obtain ⟨h1, e1⟩ := List.getElem?_eq_some_iff.1 (totK_get (C := C) (k := k) (by omega))
  obtain ⟨h2, e2⟩ := List.getElem?_eq_some_iff.1 (totK_get hk)
  rw [← e1, ← e2]
  exact List.pairwise_iff_getElem.1 h k (k + 1) h1 h2 (by omega)
theorem within_eq {C : List (List Int)} {k : Nat} (hk : k + 1 < (asgW C).length) (h : totK C k < totK C (k + 1)) : ((asgW C).filter fun x => decide (x.t ≤ totK C k)).length = k + 1 := by
  have h1 := within_gt (C := C) (k := k) (by omega)
  have h2 := cheap_le hk
  unfold cheap at h2
  have h3 : (asgW C).countP (fun x => decide (x.t ≤ totK C k)) ≤ (asgW C).countP (fun x => decide (x.t < totK C (k + 1))) := List.countP_mono_left fun x _ hx => by simp at hx ⊢; omega
  rw [← List.countP_eq_length_filter] at h1 ⊢
  omega
theorem item_next {C : List (List Int)} (hn : C.length ≤ 7) {k : Nat} (hk : k + 1 < (asgW C).length) (h : totK C k = totK C (k + 1)) : befB (rowW C (itemW C k)) (rowW C (itemW C (k + 1))) = true := by
  have h1 := itemW_mem (C := C) (k := k) (by omega)
  have h2 := itemW_mem hk
  rw [← h] at h2
  have hc := cheap_le (C := C) (k := k) (by omega)
  rw [show k + 1 - cheap C (totK C k) = (k - cheap C (totK C k)) + 1 by omega] at h2
  obtain ⟨l1, e1⟩ := List.getElem?_eq_some_iff.1 h1
  obtain ⟨l2, e2⟩ := List.getElem?_eq_some_iff.1 h2
  have hp := List.pairwise_iff_getElem.1 ((asgW_sorted hn).filter fun x => decide (x.t = totK C k)) _ _ l1 l2 (by omega)
  rw [e1, e2] at hp
  unfold befB
  exact decide_eq_true hp
end Go.Proofs.Ytambhhjbafefgaa

/- The law's mod, factorial, tame. -/
namespace Go.Proofs.Ytambhhjbafefgaa
set_option linter.unusedVariables false
open Go.RowKit

set_option maxRecDepth 100000 in
set_option maxHeartbeats 4000000 in
theorem mod_any (x : Int) (n : Nat) (w : World) (hn : 1 ≤ n) (hn2 : n ≤ 1000000) :
    Calls Try.prog 48 #[.int .i64 x, .int .i64 n] w fun e w' => (∃ r : Nat, r < n ∧ e = .returned (.int .i64 r)) ∧ w' = w := by
  have h1 : IntKind.u64.wrap (n : Int) = n := by
    simp only [IntKind.wrap, IntKind.bits, IntKind.signed]
    simp
    omega
  have hne : (n : Int) ≠ 0 := by omega
  have hb : ((n : Int) == 0) = false := by simp; omega
  go_enter Try.func48, Try.ntmps48
  go_wp2
  go_ret
  have h0 : 0 ≤ IntKind.u64.wrap x := by
    simp only [IntKind.wrap, IntKind.bits, IntKind.signed]
    simp
    omega
  have h2 := Int.tmod_nonneg (n : Int) h0
  have h3 := Int.tmod_lt_of_pos (IntKind.u64.wrap x) (show (0 : Int) < n by omega)
  refine ⟨⟨((IntKind.u64.wrap x).tmod n).toNat, by omega, ret_int ?_⟩, rfl⟩
  rw [show wrap64 ((IntKind.u64.wrap x).tmod n) = (IntKind.u64.wrap x).tmod n from IntWalk.wrap64_in _ (by omega)]
  omega

set_option maxRecDepth 100000 in
set_option maxHeartbeats 4000000 in
theorem fac_any (n : Nat) (w : World) (hn : n ≤ 7) :
    Calls Try.prog 50 #[.int .i64 n] w fun e w' => e = .returned (.int .i64 (facN n)) ∧ w' = w := by
  go_enter Try.func50, Try.ntmps50
  go_wp2
  go_loopw [3, 4] (fun o i wr => ∃ k : Nat, 1 ≤ k ∧ (k ≤ n ∨ k = 1) ∧ o = .int .i64 (facN k) ∧ i = .int .i64 ((k + 1 : Nat) : Int) ∧ wr = w) (fun _ i _ => n + 1 - (intOf i).toNat)
  case atStart => exact ⟨1, Nat.le_refl _, .inr rfl, rfl, rfl, rfl⟩
  case round =>
    obtain ⟨k, hk1, hk2, rfl, rfl, rfl⟩ := hrel
    have hk7 : k < 8 := by omega
    have hf : facN k ≤ 5040 := (show ∀ k : Fin 8, facN k.1 ≤ 5040 by decide) ⟨k, hk7⟩
    obtain ⟨f, hff⟩ : ∃ f, facN k = f := ⟨_, rfl⟩
    obtain ⟨j, hj⟩ : ∃ j, k + 1 = j := ⟨_, rfl⟩
    have hnx : facN j = j * f := by rw [← hj, ← hff]; rfl
    rw [hff] at hf ⊢
    rw [hj]
    have Hff := Lib.hid hff
    have Hnx := Lib.hid hnx
    have Hj := Lib.hid hj
    clear hff hnx hj
    by_cases hlt : j ≤ n
    · have hc : (j : Int) ≤ n := by omega
      have hmul : f * j ≤ 5040 * 8 := Nat.mul_le_mul hf (by have := Hj.out; omega)
      have hw1 : IntKind.i64.wrap ((f : Int) * j) = ((f * j : Nat) : Int) := by rw [IntWalk.i64_in _ (by rw [← Int.natCast_mul]; omega), ← Int.natCast_mul]
      go_wp2
      go_roundw
      case rel => exact ⟨j, by have := Hj.out; omega, .inl hlt, by rw [Hnx.out, Nat.mul_comm]; simp, by go_num, trivial⟩
      case measure => have := Hj.out; simp [intOf]; omega
    · have hc : ¬ (j : Int) ≤ n := by omega
      go_wp2
      go_ret
      refine ⟨ret_int ?_, rfl⟩
      rcases hk2 with h | h
      · rw [← Hff.out, show k = n by have := Hj.out; omega]
      · subst h
        have := Hj.out
        rcases (show n = 0 ∨ n = 1 by omega) with rfl | rfl <;> rw [← Hff.out] <;> rfl
/-- what a row that came in is -/
theorem RowIn.form {w : World} {v : Value} {row : List Int} (h : RowIn w v row) : ∃ p c, v = .slice p row.length c ∧ ∀ j, j < row.length → ∃ ad, p = some ad ∧ w.cell? (ad.add j) = some (.int .i64 (row.getD j 0)) := by
  rcases h with ⟨c, rfl, rfl⟩ | ⟨ad, c, rfl, hc, hd⟩
  · exact ⟨none, c, rfl, fun j hj => absurd hj (by simp)⟩
  · exact ⟨some ad, c, rfl, fun j hj => ⟨ad, rfl, hd j hj⟩⟩
theorem TabIn.form {w : World} {v : Value} {C : List (List Int)} (h : TabIn w v C) : ∃ p c, v = .slice p C.length c ∧ ∀ i row, C[i]? = some row → ∃ ad u, p = some ad ∧ w.cell? (ad.add i) = some u ∧ RowIn w u row := by
  rcases h with ⟨c, rfl, rfl⟩ | ⟨ad, n, c, rfl, hl, hd⟩
  · exact ⟨none, c, rfl, fun i row hi => by simp at hi⟩
  · subst hl
    exact ⟨some ad, c, rfl, fun i row hi => by obtain ⟨u, h1, h2⟩ := hd i row hi; exact ⟨ad, u, rfl, h1, h2⟩⟩
/-- rows of n numbers within bounds -/
def Tamed (n : Nat) (most : Int) (C : List (List Int)) : Prop := ∀ row ∈ C, row.length = n ∧ ∀ x ∈ row, -most ≤ x ∧ x ≤ most

set_option maxRecDepth 100000 in
set_option maxHeartbeats 4000000 in
theorem tame_sep (tv : Value) (D : List (List Int)) (n : Nat) (most : Nat) (w : World) (hT : TabIn w tv D) (hn : n ≤ 7) (hm : most ≤ 1000) :
    Calls Try.prog 49 #[tv, .int .i64 n, .int .i64 most] w fun e w' => ∃ v C, e = .returned v ∧ Sep w' w.heap.size v C ∧ C.length = n ∧ Tamed n most C ∧ Below w.heap.size w w' := by
  obtain ⟨i1, hj, hy0, hy1, hy2⟩ := info_parts info_ints
  obtain ⟨p, c, rfl, hform⟩ := hT.form
  have hmk := run_make_row' (P := Try.prog) 24 3 (.int .i64 0) 8 Try.underlying24 info_int rfl .i64 .i64 n (by omega) (by omega)
  obtain ⟨nd, hnd⟩ : ∃ m, D.length = m := ⟨_, rfl⟩
  have HF := Lib.hid hform
  have HND := Lib.hid hnd
  rw [hnd]
  clear hT hform hnd
  go_enter Try.func49, Try.ntmps49
  go_wp2
  go_loopw [7, 8] (fun v i wr => ∃ k : Nat, k ≤ n ∧ i = .int .i64 k ∧ Hid (∃ C, Sep wr w.heap.size v C ∧ C.length = k ∧ Tamed n most C) ∧ Below w.heap.size w wr) (fun _ i _ => n - (intOf i).toNat)
  case atStart => exact ⟨0, Nat.zero_le _, rfl, ⟨[], Sep.nil _ _, rfl, fun row h => by cases h⟩, Below.refl _ _⟩
  case round =>
    obtain ⟨k, hk, rfl, HC, hB⟩ := hrel
    have HB := Lib.hid hB
    clear hB
    by_cases hlt : k < n
    · have hc1 : (k : Int) < n := by omega
      go_wp2
      have hrow0 := World.rowIs_made wr (.int .i64 0) n 3
      have hB0 := below_alloc wr (.cells (madeCells #[.int .i64 0] n) 3)
      generalize wr = W1 at *
      clear hmk
      go_loopw [10] (fun j w2 => ∃ (m : Nat) (f : Nat → Int), m ≤ n ∧ j = .int .i64 m ∧ w2.rowIs W1.heap.size 3 n (fun x => .int .i64 (f x)) ∧ Hid (∀ x, x < n → -(most : Int) ≤ f x ∧ f x ≤ most) ∧ Below W1.heap.size W1 w2) (fun j _ => n - (intOf j).toNat)
      case atStart => exact ⟨0, fun _ => 0, Nat.zero_le _, rfl, hrow0, fun x _ => (by show -(most : Int) ≤ 0 ∧ (0 : Int) ≤ most; omega), hB0⟩
      case round =>
        clear hrow0 hB0
        obtain ⟨m, f, hm2, rfl, hrow, HBd, hB⟩ := hrel
        have hBw := b_next HB.out hB
        have Hrow := Lib.hid hrow
        have HB2 := Lib.hid hB
        have HBw := Lib.hid hBw
        clear hrow hB hBw
        by_cases hall : m < n ∧ ∃ row, D[k]? = some row ∧ m < row.length
        · obtain ⟨hmn, row, hr, hmr⟩ := hall
          have hkd : k < nd := by rw [← HND.out]; exact (List.getElem?_eq_some_iff.1 hr).1
          obtain ⟨ad, u, rfl, hc, hri⟩ := HF.out k row hr
          obtain ⟨p2, c2, rfl, hel⟩ := hri.form
          obtain ⟨ad2, rfl, hc2⟩ := hel m hmr
          obtain ⟨x, hx⟩ : ∃ x, row.getD m 0 = x := ⟨_, rfl⟩
          obtain ⟨rl, hrl⟩ : ∃ l, row.length = l := ⟨_, rfl⟩
          rw [hx] at hc2
          rw [hrl] at hc hmr
          have d1 := (HBw.out.cell (p := ad.add k) (World.block_lt_of_cell? w _ hc)).trans hc
          have d2 := (HBw.out.cell (p := ad2.add m) (World.block_lt_of_cell? w _ hc2)).trans hc2
          have g1 : (m : Int) < n := by omega
          have g2 : (k : Int) < nd := by omega
          have g3 : (m : Int) < rl := by omega
          have hmost : IntKind.i64.wrap (-(most : Int)) = -(most : Int) := IntWalk.i64_in _ (by omega)
          have hst := fun z : Int => Hrow.out.set m (.int .i64 z)
          have hbst := fun z : Int => HB2.out.setCell (p := ⟨W1.heap.size, m, none⟩) (Nat.le_refl _) (.int .i64 z)
          have ck := Hrow.out.cell (i := m) hmn
          have fk := Hrow.out.frozen m
          have HSt := Lib.hid hst
          have HBst := Lib.hid hbst
          have hbd : ∀ z : Int, -(most : Int) ≤ z ∧ z ≤ most → ∀ y, y < n → -(most : Int) ≤ (if y = m then z else f y) ∧ (if y = m then z else f y) ≤ most := fun z hz y hy => by
            by_cases e : y = m
            · rw [if_pos e]; exact hz
            · rw [if_neg e]; exact HBd.out y hy
          have hcg : ∀ z : Int, ∀ y, y < n → (if y = m then Value.int .i64 z else .int .i64 (f y)) = .int .i64 (if y = m then z else f y) := fun z y _ => by
            by_cases e : y = m
            · rw [if_pos e, if_pos e]
            · rw [if_neg e, if_neg e]
          have Hbd := Lib.hid hbd
          have Hcg := Lib.hid hcg
          clear hr hel hri hc hc2 hx hrl hst hbst hbd hcg
          by_cases h1 : x < -(most : Int) ∨ x > most
          · have hmd := fun w => mod_any x (2 * most + 1) w (by omega) (by omega)
            have Hmd := Lib.hid hmd
            have hw2 : IntKind.i64.wrap (2 * (most : Int)) = 2 * (most : Int) := IntWalk.i64_in _ (by omega)
            have hw3 : IntKind.i64.wrap (2 * (most : Int) + 1) = ((2 * most + 1 : Nat) : Int) := by rw [IntWalk.i64_in _ (by omega)]; omega
            clear hmd
            by_cases h2 : x < -(most : Int)
            · clear h1
              go_wp2_with fail
              refine (Hmd.out _).mono ?_
              rintro e w5 ⟨⟨r, hr, rfl⟩, rfl⟩
              have hw4 : IntKind.i64.wrap ((r : Int) - most) = (r : Int) - most := IntWalk.i64_in _ (by omega)
              go_wp2
              go_roundw
              case rel => exact ⟨m + 1, _, by omega, by go_num, (HSt.out _).congr (Hcg.out _), Hbd.out _ (by omega), HBst.out _⟩
              case measure => simp [intOf]; omega
            · have h3 : x > most := by omega
              clear h1
              go_wp2_with fail
              refine (Hmd.out _).mono ?_
              rintro e w5 ⟨⟨r, hr, rfl⟩, rfl⟩
              have hw4 : IntKind.i64.wrap ((r : Int) - most) = (r : Int) - most := IntWalk.i64_in _ (by omega)
              go_wp2
              go_roundw
              case rel => exact ⟨m + 1, _, by omega, by go_num, (HSt.out _).congr (Hcg.out _), Hbd.out _ (by omega), HBst.out _⟩
              case measure => simp [intOf]; omega
          · have h2 : ¬ x < -(most : Int) := by omega
            have h3 : ¬ x > most := by omega
            clear h1
            go_wp2
            go_roundw
            case rel => exact ⟨m + 1, _, by omega, by go_num, (HSt.out _).congr (Hcg.out _), Hbd.out _ (by omega), HBst.out _⟩
            case measure => simp [intOf]; omega
        · have hR : Row wr (some ⟨W1.heap.size, 0, none⟩) n (intL ((List.range n).map f)) := by
            refine ⟨by rw [intL_length, List.length_map, List.length_range], fun _ => ⟨W1.heap.size, rfl, Hrow.out.lt, fun y u hy => ?_⟩⟩
            have hyl := (List.getElem?_eq_some_iff.1 hy).1
            rw [intL_length, List.length_map, List.length_range] at hyl
            rw [Hrow.out.cell hyl]
            unfold intL at hy
            rw [List.getElem?_map, List.getElem?_map, List.getElem?_range hyl] at hy
            simpa using hy
          obtain ⟨C, hLn, hCl, hCt⟩ := HC.out
          obtain ⟨hs, ho, hl2, hd2, hold⟩ := hLn.step HB2.out
          have hor := own_of_rowIs (base := W1.heap.size) Hrow.out (Nat.le_refl _) (show n ≤ maxLen by unfold maxLen; omega)
          have Hor := Lib.hid hor
          have ho' := (ho.alloc (.cells #[.slice (some ⟨W1.heap.size, 0, none⟩) n n] 24))
          rw [hCl] at ho'
          have hrl2 : ((List.range n).map f).length = n := by rw [List.length_map, List.length_range]
          have HR := Lib.hid hR
          have Hho := Lib.hid ho
          have Hhl := Lib.hid hl2
          have Hhd := Lib.hid hd2
          have Hold := Lib.hid hold
          have HO' := Lib.hid ho'
          have Hrl2 := Lib.hid hrl2
          have HCl := Lib.hid hCl
          have HCt := Lib.hid hCt
          clear hR hLn ho hl2 hd2 hold hor ho' hrl2 hCl hCt HC
          have hcase : (¬ (m : Int) < n) ∨ ((m : Int) < n ∧ ¬ (k : Int) < nd) ∨ ((m : Int) < n ∧ (k : Int) < nd ∧ ∃ ad p2 c2 rl, p = some ad ∧ wr.cell? (ad.add k) = some (Value.slice p2 rl c2) ∧ ¬ (m : Int) < (rl : Nat)) := by
            by_cases g1 : m < n
            · by_cases g2 : k < nd
              · obtain ⟨row, hr⟩ : ∃ row, D[k]? = some row := ⟨_, List.getElem?_eq_getElem (by have := HND.out; omega)⟩
                obtain ⟨ad, u, hp, hc, hri⟩ := HF.out k row hr
                obtain ⟨p2, c2, rfl, _⟩ := hri.form
                refine .inr (.inr ⟨by omega, by omega, ad, p2, c2, row.length, hp, (HBw.out.cell (p := ad.add k) (World.block_lt_of_cell? w _ hc)).trans hc, fun h => hall ⟨g1, row, hr, by omega⟩⟩)
              · exact .inr (.inl ⟨by omega, by omega⟩)
            · exact .inl (by omega)
          clear hall
          rcases hcase with g1 | ⟨g1, g2⟩ | ⟨g1, g2, ad, p2, c2, rl, rfl, hc, g3⟩
          all_goals
            go_wp2_with (at_builtin; refine wpList_append_own _ rfl _ _ 22 rfl w.heap.size 24 i1 (.slice none 0 0) 1 24 Try.underlying22 hj hy0 hy1 hy2 rfl (by decide) _ _ _ rfl HO'.out ⟨_, 0, none⟩ 1 1 [.slice (some ⟨W1.heap.size, 0, none⟩) n n] rfl rfl (one_new _ _ _ _ (by simp)) (by simp [Value.oneCell']) (by unfold maxLen; omega) (by omega) (by have := HBw.out.size; simp; omega) ?_; intro v' w6 hown' hgrow _)
            have hLn6 : Sep w6 w.heap.size v' (C ++ [(List.range n).map f]) :=
              Sep.push (wr := W1) (r := .slice (some ⟨W1.heap.size, 0, none⟩) n n) Hho.out Hhl.out Hhd.out Hold.out (by rw [Hrl2.out]; unfold intL; rw [List.map_map]; exact Hor.out) HB.out.size hgrow (by rw [HCl.out]; exact hown')
            have hB6 : Below w.heap.size w w6 := rel_push HBw.out (by have := HBw.out.size; simp; omega) ((Below.refl _ _).alloc HBw.out.size _) Hho.out hgrow
            have HLn6 := Lib.hid hLn6
            have HB6 := Lib.hid hB6
            clear hown' hgrow hLn6 hB6
            go_wp2
            go_roundw
            case rel =>
              refine ⟨k + 1, by omega, by go_num, ⟨_, HLn6.out, by rw [List.length_append, HCl.out]; rfl, fun row hrow => ?_⟩, HB6.out⟩
              rcases List.mem_append.1 hrow with h | h
              · exact HCt.out row h
              · simp only [List.mem_singleton] at h
                subst h
                refine ⟨Hrl2.out, fun x hx => ?_⟩
                obtain ⟨y, hy, rfl⟩ := List.mem_map.1 hx
                exact HBd.out y (List.mem_range.1 hy)
            case measure => simp [intOf]; omega
    · have hc1 : ¬ (k : Int) < n := by omega
      obtain ⟨C, h1, h2, h3⟩ := HC.out
      have h4 : C.length = n := by omega
      clear HC
      go_wp2
      go_ret
      exact ⟨_, rfl, C, h1, h4, h3, HB.out⟩
theorem tame_any (tv : Value) (D : List (List Int)) (n : Nat) (most : Nat) (w : World) (hT : TabIn w tv D) (hn : n ≤ 7) (hm : most ≤ 1000) :
    Calls Try.prog 49 #[tv, .int .i64 n, .int .i64 most] w fun e w' => ∃ v C, e = .returned v ∧ Lines w' w.heap.size v C ∧ C.length = n ∧ Tamed n most C ∧ Below w.heap.size w w' :=
  (tame_sep tv D n most w hT hn hm).mono fun _ _ ⟨v, C, he, hs, h1, h2, hb⟩ => ⟨v, C, he, hs.lines, h1, h2, hb⟩
end Go.Proofs.Ytambhhjbafefgaa

/- The law's mod, with its answer. -/
namespace Go.Proofs.Ytambhhjbafefgaa
set_option linter.unusedVariables false
open Go.RowKit

def modV (x : Int) (n : Nat) : Nat := ((IntKind.u64.wrap x).tmod n).toNat
theorem modV_lt (x : Int) (n : Nat) (hn : 1 ≤ n) : modV x n < n := by
  have h0 : 0 ≤ IntKind.u64.wrap x := by
    simp only [IntKind.wrap, IntKind.bits, IntKind.signed]
    simp
    omega
  have h2 := Int.tmod_nonneg (n : Int) h0
  have h3 := Int.tmod_lt_of_pos (IntKind.u64.wrap x) (show (0 : Int) < n by omega)
  unfold modV
  omega
set_option maxRecDepth 100000 in
set_option maxHeartbeats 4000000 in
theorem mod_val (x : Int) (n : Nat) (w : World) (hn : 1 ≤ n) (hn2 : n ≤ 1000000) :
    Calls Try.prog 48 #[.int .i64 x, .int .i64 n] w fun e w' => e = .returned (.int .i64 (modV x n)) ∧ w' = w := by
  have h1 : IntKind.u64.wrap (n : Int) = n := by
    simp only [IntKind.wrap, IntKind.bits, IntKind.signed]
    simp
    omega
  have hne : (n : Int) ≠ 0 := by omega
  have hb : ((n : Int) == 0) = false := by simp; omega
  go_enter Try.func48, Try.ntmps48
  go_wp2
  go_ret
  have h0 : 0 ≤ IntKind.u64.wrap x := by
    simp only [IntKind.wrap, IntKind.bits, IntKind.signed]
    simp
    omega
  have h2 := Int.tmod_nonneg (n : Int) h0
  have h3 := Int.tmod_lt_of_pos (IntKind.u64.wrap x) (show (0 : Int) < n by omega)
  refine ⟨ret_int ?_, rfl⟩
  rw [show wrap64 ((IntKind.u64.wrap x).tmod n) = (IntKind.u64.wrap x).tmod n from IntWalk.wrap64_in _ (by omega)]
  unfold modV
  omega
end Go.Proofs.Ytambhhjbafefgaa

/- The law's before; tame's tables are costs. -/
namespace Go.Proofs.Ytambhhjbafefgaa
set_option linter.unusedVariables false
open Go.RowKit

theorem costs_of_tamed {C : List (List Int)} {n : Nat} {most : Int} (hl : C.length = n) (h : Tamed n most C) (h1 : 1 ≤ n) (h7 : n ≤ 7) (hm : most ≤ 1000) : costsB C = true := by
  unfold costsB
  rw [Bool.and_eq_true, decide_eq_true_eq, List.all_eq_true]
  refine ⟨by omega, fun row hrow => ?_⟩
  obtain ⟨h2, h3⟩ := h row hrow
  unfold rowB
  exact decide_eq_true ⟨by omega, fun x hx => by have := h3 x hx; omega⟩

set_option maxRecDepth 100000 in
set_option maxHeartbeats 4000000 in
theorem lbefore_any (a a2 : Option Addr) (n c1 c2 : Nat) (xs ys : List Int) (w : World) (h1 : Row w a n (intL xs)) (h2 : Row w a2 n (intL ys)) (hn : n ≤ 1000) :
    Calls Try.prog 51 #[.slice a n c1, .slice a2 n c2] w fun e w' => e = .returned (.bool (befB xs ys)) ∧ ∃ q, w' = w.drewN q := by
  have hl : xs.length = n := by have := h1.1; simpa [intL] using this
  have hl2 : ys.length = n := by have := h2.1; simpa [intL] using this
  have H1 := Lib.hid h1
  have H2 := Lib.hid h2
  have Hl := Lib.hid hl
  have Hl2 := Lib.hid hl2
  clear h1 h2 hl hl2
  go_enter Try.func51, Try.ntmps51
  go_wp2
  go_loopw [5] (fun i wr => ∃ k q : Nat, k ≤ n ∧ i = .int .i64 k ∧ Hid (xs.take k = ys.take k) ∧ wr = w.drewN q) (fun i _ => n - (intOf i).toNat)
  case atStart => exact ⟨0, 0, Nat.zero_le _, rfl, (by unfold Hid; simp), rfl⟩
  case round =>
    obtain ⟨k, q, hk, rfl, HE, rfl⟩ := hrel
    by_cases hlt : k < n
    · have hc : (k : Int) < n := by omega
      obtain ⟨x, hx⟩ : ∃ x, xs[k]? = some x := ⟨_, List.getElem?_eq_getElem (by have := Hl.out; omega)⟩
      obtain ⟨y, hy⟩ : ∃ y, ys[k]? = some y := ⟨_, List.getElem?_eq_getElem (by have := Hl2.out; omega)⟩
      obtain ⟨g1, rfl, hg1⟩ := H1.out.int hlt
      obtain ⟨g2, rfl, hg2⟩ := H2.out.int hlt
      rw [List.getD_eq_getElem?_getD, hx] at hg1
      rw [List.getD_eq_getElem?_getD, hy] at hg2
      simp only [Option.getD_some] at hg1 hg2
      have Hx := Lib.hid hx
      have Hy := Lib.hid hy
      clear hx hy
      by_cases hxy : x = y
      · have hb : (x != y) = false := by simp [hxy]
        have Hxy := Lib.hid hxy
        clear hxy
        go_wp2
        go_quiet (fail)
        go_wp2
        go_roundw
        case rel =>
          refine ⟨k + 1, _, by omega, by go_num, ?_, rfl⟩
          show xs.take (k + 1) = ys.take (k + 1)
          rw [List.take_add_one, List.take_add_one, HE.out, Hx.out, Hy.out, Hxy.out]
        case measure => simp [intOf]; omega
      · have hb : (x != y) = true := by simp [hxy]
        have hr : befB xs ys = decide (x < y) := by
          unfold befB
          rw [cmpL_diff k xs ys x y HE.out Hx.out Hy.out hxy]
          exact cmpInt_neg x y hxy
        have Hr := Lib.hid hr
        clear hxy hr
        go_wp2
        go_quiet (fail)
        go_wp2
        go_quiet (fail)
        go_wp2
        go_ret
        exact ⟨ret_bool Hr.out.symm, _, (congrArg (World.drewN · _) (World.drewN_drewN _ _ _)).trans (World.drewN_drewN _ _ _)⟩
    · obtain rfl : k = n := by omega
      have hc : ¬ (k : Int) < k := by omega
      have hr : befB xs ys = false := by
        have h := HE.out
        rw [List.take_of_length_le (by rw [Hl.out]; exact Nat.le_refl _), List.take_of_length_le (by rw [Hl2.out]; exact Nat.le_refl _)] at h
        unfold befB
        rw [h, cmpL_self]; rfl
      go_wp2
      go_ret
      exact ⟨rfl, _, rfl⟩
end Go.Proofs.Ytambhhjbafefgaa

/- The law's ButtonsOrdered: its walk. -/
namespace Go.Proofs.Ytambhhjbafefgaa
set_option linter.unusedVariables false
open Go.RowKit

theorem tot_item {C : List (List Int)} (hw : costsB C = true) {k : Nat} (hk : k < (asgW C).length) : totR C (rowW C (itemW C k)) = (totK C k, 0) := by
  obtain ⟨hR, _⟩ := Rect.of_costs hw
  obtain ⟨h1, h2⟩ := itemW_in hk
  obtain ⟨_, h4, h5⟩ := rowW_good hR.n7 h1
  unfold totR
  rw [hw, h4, h5, h2]; rfl
theorem idx_item {C : List (List Int)} (hw : costsB C = true) {k : Nat} (hk : k < (asgW C).length) : idxR C (rowW C (itemW C k)) = ((k : Int), 0) := by
  obtain ⟨hR, _⟩ := Rect.of_costs hw
  obtain ⟨h1, h2⟩ := itemW_in hk
  obtain ⟨_, h4, h5⟩ := rowW_good hR.n7 h1
  unfold idxR
  rw [hw, h4, h5, item_index hR.n7 hk]; rfl
theorem asgW_le (C : List (List Int)) (p : Way → Bool) : ((asgW C).filter p).length ≤ (asgW C).length := List.length_filter_le _ _

set_option maxRecDepth 100000 in
set_option maxHeartbeats 4000000 in
theorem ord_walk (n0 k0 : Int) (tv : Value) (D : List (List Int)) (w : World) (hT : TabIn w tv D) :
    Calls Try.prog 10 #[.int .i64 n0, tv, .int .i64 k0] w fun e w' => e = .returned (.bool true) ∧ Below w.heap.size w w' := by
  have HTm := Lib.hid fun n hn => tame_any tv D n 1000 w hT hn (Nat.le_refl _)
  have HW := Lib.hid awake_any
  clear hT
  go_enter Try.func10, Try.ntmps10
  go_wp2_with fail
  refine (mod_any n0 6 _ (by decide) (by decide)).mono ?_
  rintro e w1 ⟨⟨r, hr, rfl⟩, rfl⟩
  have hw1 : IntKind.i64.wrap (1 + (r : Int)) = ((1 + r : Nat) : Int) := by rw [IntWalk.i64_in _ (by omega)]; omega
  obtain ⟨n, hn⟩ : ∃ n, 1 + r = n := ⟨_, rfl⟩
  have hn1 : 1 ≤ n := by omega
  have hn7 : n ≤ 7 := by omega
  rw [hn] at hw1
  clear hn
  go_wp2_with fail
  refine (HTm.out n hn7).mono ?_
  rintro e w2 ⟨v, C, rfl, hl, hCl, hCt, b2⟩
  have hcb := costs_of_tamed hCl hCt hn1 hn7 (by decide)
  obtain ⟨a, cap, rfl, hcap, hcm, ht⟩ := hl.tbl
  rw [hCl] at hcap ⊢
  obtain ⟨hRe, _⟩ := Rect.of_costs hcb
  have hN := asgW_fac hRe.n7
  have hN7 := asgW_len hRe.n7
  have hN1 := asgW_pos hRe.n7
  obtain ⟨N, hNN⟩ : ∃ N, (asgW C).length = N := ⟨_, rfl⟩
  have hfac : facN n = N := by rw [← hNN, hN, hCl]
  rw [hNN] at hN7 hN1
  have T2 := Lib.hid ht
  have B2 := Lib.hid b2
  have Hcb := Lib.hid hcb
  have HCl := Lib.hid hCl
  have HNN := Lib.hid hNN
  have Hfac := Lib.hid hfac
  have HRe := Lib.hid hRe
  clear hl hCl hCt b2 hcb ht hRe hN hNN hfac
  go_wp2_with fail
  refine (fac_any n _ hn7).mono ?_
  rintro e w3 ⟨rfl, rfl⟩
  rw [Hfac.out]
  go_wp2_with fail
  refine (mod_any k0 N _ hN1 (by omega)).mono ?_
  rintro e w3 ⟨⟨k, hk, rfl⟩, rfl⟩
  obtain ⟨xs, hxs⟩ : ∃ r, rowW C (itemW C k) = r := ⟨_, rfl⟩
  have hkA : k < (asgW C).length := by rw [HNN.out]; exact hk
  have hI := fun a cap w h => Item_yes C a cap k w h Hcb.out hkA
  have hX := fun a a2 cap m ca w h ha => Index_any C xs a a2 cap m ca w h (by rw [HCl.out]; omega) (fun row hrow => by have := HRe.out.len row hrow; rw [HCl.out] at this; omega) ha
  have hTo := fun xs a a2 cap m ca w h ha => Total_any C xs a a2 cap m ca w h (by rw [HCl.out]; omega) (fun row hrow => by have := HRe.out.len row hrow; rw [HCl.out] at this; omega) ha
  have hWi := fun a cap t w h => Within_any C a cap t w h (by rw [HCl.out]; omega) (fun row hrow => by have := HRe.out.len row hrow; rw [HCl.out] at this; omega)
  have hidx := idx_item Hcb.out hkA
  have htot := tot_item Hcb.out hkA
  rw [hxs] at hidx htot
  rw [hidx] at hX
  simp only at hX
  rw [show (itemW C k).holes.take C.length = xs from hxs] at hI
  rw [HCl.out] at hI hX hTo hWi
  obtain ⟨t, htk⟩ : ∃ t, totK C k = t := ⟨_, rfl⟩
  have hmany := within_gt hkA
  have hmle := asgW_le C fun x => decide (x.t ≤ totK C k)
  obtain ⟨many, hmm⟩ : ∃ m, ((asgW C).filter fun x => decide (x.t ≤ totK C k)).length = m := ⟨_, rfl⟩
  have hwr : witR C t = ((many : Int), 0) := by unfold witR; rw [Hcb.out, ← htk, hmm]; rfl
  rw [hmm] at hmany hmle
  rw [HNN.out] at hmle
  rw [htk] at htot
  have hWt := fun a cap w h => hWi a cap t w h
  rw [hwr] at hWt
  simp only at hWt
  have hTx := fun a a2 cap m ca w h ha => hTo xs a a2 cap m ca w h ha
  rw [htot] at hTx
  simp only at hTx
  have HI := Lib.hid hI
  have HX := Lib.hid hX
  have HTx := Lib.hid hTx
  have HTo := Lib.hid hTo
  have HWt := Lib.hid hWt
  have Hxs := Lib.hid hxs
  have Htk := Lib.hid htk
  have Hmm := Lib.hid hmm
  clear hI hX hTo hWi hidx htot hTx hWt hxs htk hmm hwr
  go_wp2_with fail
  refine (HI.out _ _ _ T2.out).mono ?_
  rintro e w4 ⟨v4, rfl, ho4, b4⟩
  obtain ⟨a4, c4, rfl, hR4⟩ := Row.of_own ho4
  have T4 := Lib.hid (T2.out.below b4)
  have R4 := Lib.hid hR4
  have B4 := Lib.hid (b_next B2.out b4)
  clear ho4 hR4 b4 T2 B2
  go_wp2_with fail
  refine (HX.out _ _ _ _ _ _ T4.out R4.out (by omega)).mono ?_
  rintro e w5 ⟨rfl, b5⟩
  have T5 := Lib.hid (T4.out.below b5)
  have R5 := Lib.hid (R4.out.below b5)
  have B5 := Lib.hid (b_next B4.out b5)
  clear b5 T4 R4 B4
  go_wp2_with fail
  refine (HTx.out _ _ _ _ _ _ T5.out R5.out (by omega)).mono ?_
  rintro e w6 ⟨rfl, b6⟩
  have T6 := Lib.hid (T5.out.below b6)
  have R6 := Lib.hid (R5.out.below b6)
  have B6 := Lib.hid (b_next B5.out b6)
  clear b6 T5 R5 B5
  go_wp2_with fail
  refine (HWt.out _ _ _ T6.out).mono ?_
  rintro e w7 ⟨rfl, b7⟩
  have T7 := Lib.hid (T6.out.below b7)
  have R7 := Lib.hid (R6.out.below b7)
  have B7 := Lib.hid (b_next B6.out b7)
  clear b7 T6 R6 B6
  have g1 : ¬ (many : Int) ≤ k := by omega
  have g2 : ¬ (many : Int) > N := by omega
  have hw2 : IntKind.i64.wrap ((k : Int) + 1) = ((k + 1 : Nat) : Int) := by rw [IntWalk.i64_in _ (by omega)]; omega
  obtain ⟨k1, hk1⟩ : ∃ k1, k + 1 = k1 := ⟨_, rfl⟩
  rw [hk1] at hw2
  have Hk1 := Lib.hid hk1
  clear hk1
  by_cases hlast : k1 = N
  · have g3 : ((k1 : Int) == N) = true := by simp [hlast]
    have hno := fun a cap w h => Item_no C a cap k1 w h (by rw [HCl.out]; omega) (fun row hrow => by have := HRe.out.len row hrow; rw [HCl.out] at this; omega) (.inr ⟨Hcb.out, .inr (by rw [HNN.out]; omega)⟩)
    rw [HCl.out] at hno
    have Hno := Lib.hid hno
    have g4 : many = N := by have := Hk1.out; omega
    clear hlast hno
    subst g4
    go_wp2_with fail
    refine (Hno.out _ _ _ T7.out).mono ?_
    rintro e w8 ⟨rfl, b8⟩
    go_wp2_with fail
    refine (HW.out _).mono ?_
    rintro e w9 ⟨rfl, b9⟩
    go_wp2
    go_ret
    exact ⟨rfl, b_next (b_next B7.out b8) b9⟩
  · have g3 : ((k1 : Int) == N) = false := by simp; omega
    have hk1A : k1 < (asgW C).length := by have := Hk1.out; rw [HNN.out]; omega
    obtain ⟨ys, hys⟩ : ∃ r, rowW C (itemW C k1) = r := ⟨_, rfl⟩
    have hI := fun a cap w h => Item_yes C a cap k1 w h Hcb.out hk1A
    rw [show (itemW C k1).holes.take C.length = ys from hys, HCl.out] at hI
    have htot := tot_item Hcb.out hk1A
    rw [hys] at htot
    obtain ⟨t1, ht1⟩ : ∃ t, totK C k1 = t := ⟨_, rfl⟩
    rw [ht1] at htot
    have hTy := fun a a2 cap m ca w h ha => HTo.out ys a a2 cap m ca w h ha
    rw [htot] at hTy
    simp only at hTy
    have hle := totK_le (C := C) (k := k) (by rw [Hk1.out]; exact hk1A)
    rw [Hk1.out, ht1, Htk.out] at hle
    have HI2 := Lib.hid hI
    have HTy := Lib.hid hTy
    have Hys := Lib.hid hys
    have Ht1 := Lib.hid ht1
    clear hI htot hTy hys ht1 hlast
    go_wp2_with fail
    refine (HI2.out _ _ _ T7.out).mono ?_
    rintro e w8 ⟨v8, rfl, ho8, b8⟩
    obtain ⟨a8, c8, rfl, hR8⟩ := Row.of_own ho8
    have T8 := Lib.hid (T7.out.below b8)
    have R8 := Lib.hid hR8
    have Q8 := Lib.hid (R7.out.below b8)
    have B8 := Lib.hid (b_next B7.out b8)
    clear ho8 hR8 b8 T7 B7 R7
    go_wp2_with fail
    refine (HTy.out _ _ _ _ _ _ T8.out R8.out (by omega)).mono ?_
    rintro e w9 ⟨rfl, b9⟩
    have R9 := Lib.hid (R8.out.below b9)
    have Q9 := Lib.hid (Q8.out.below b9)
    have B9 := Lib.hid (b_next B8.out b9)
    clear b9 T8 B8 R8 Q8
    by_cases hlt : t < t1
    · have hm2 : many = k1 := by
        have := within_eq (C := C) (k := k) (by rw [Hk1.out]; exact hk1A) (by rw [Hk1.out, Ht1.out, Htk.out]; exact hlt)
        rw [Hmm.out, Hk1.out] at this
        exact this
      clear hle
      subst hm2
      go_wp2_with fail
      refine (HW.out _).mono ?_
      rintro e w10 ⟨rfl, b10⟩
      go_wp2
      go_ret
      exact ⟨rfl, b_next B9.out b10⟩
    · have he : t = t1 := by omega
      have hb := item_next (by rw [HCl.out]; exact hn7) (C := C) (k := k) (by rw [Hk1.out]; exact hk1A) (by rw [Hk1.out, Ht1.out, Htk.out]; exact he)
      rw [Hk1.out, Hxs.out, Hys.out] at hb
      have hm2 : k1 < many := by
        have h1 := within_gt hk1A
        rw [Ht1.out, ← he, ← Htk.out, Hmm.out] at h1
        exact h1
      have hm3 : (many : Int) > k1 := by omega
      have hLb := fun a a2 c1 c2 w h1 h2 => lbefore_any a a2 n c1 c2 xs ys w h1 h2 (by omega)
      rw [hb] at hLb
      have HLb := Lib.hid hLb
      clear hle hb hLb hm2
      subst he
      go_wp2_with fail
      refine (HLb.out _ _ _ _ _ Q9.out R9.out).mono ?_
      rintro e w10 ⟨rfl, q10, rfl⟩
      go_wp2_with fail
      refine (HW.out _).mono ?_
      rintro e w11 ⟨rfl, b11⟩
      go_wp2
      go_ret
      exact ⟨rfl, b_next (below_drewN B9.out _) b11⟩
theorem walk_ButtonsOrdered (n0 : Int) (_ : (Lit.int .i64 n0).wf = true) (tv : Value) (D : List (List Int)) (w : World) (hT : TabIn w tv D) (k0 : Int) (_ : (Lit.int .i64 k0).wf = true) :
    Calls Try.prog 10 #[.int .i64 n0, tv, .int .i64 k0] w fun e w' => e = .returned (.bool true) ∧ Below w.heap.size w w' :=
  ord_walk n0 k0 tv D w hT
end Go.Proofs.Ytambhhjbafefgaa
