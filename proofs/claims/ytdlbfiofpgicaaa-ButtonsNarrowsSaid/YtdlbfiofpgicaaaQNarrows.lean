/- ButtonsNarrows: for any costs, int and list, Narrow returns the first assignment with the smallest width, the width and a block for the width minus 1, and IsBlock whether a list is a block for the int, or ErrArg. Conditions: none. -/
import Derived.Test.YtdlbfiofpgicaaaQi
import Derived.Test.YtdlbfiofpgicaaaQg
import Derived.Test.YtdlbfiofpgicaaaQe
import Derived.ShutString
/- The law's ButtonsNarrows: its walk. -/
namespace Go.Proofs.Ytdlbfiofpgicaaa
set_option linter.unusedVariables false
open Go.RowKit

theorem okL_ge (n : Nat) (l : List Int) : ∀ k, okL n l k = true → ∀ i, i < k → (i : Int) ≤ l.getD i 0 := by
  intro k
  induction k with
  | zero => intro _ i hi; omega
  | succ k ih =>
    intro h i hi
    rw [okL_succ, Bool.and_eq_true] at h
    by_cases e : i < k
    · exact ih h.1 i e
    · obtain rfl : i = k := by omega
      have h2 := h.2
      unfold okAt at h2
      rw [decide_eq_true_eq] at h2
      have h3 := h2.1
      unfold lastOf at h3
      by_cases e0 : i = 0
      · rw [if_pos e0] at h3; omega
      · rw [if_neg e0] at h3
        have := ih h.1 (i - 1) (by omega)
        omega
theorem block_len {C : List (List Int)} (hn : C.length ≤ 7) {wd : Int} {l : List Int} (h : blockB C wd l = true) : l.length ≤ 7 := by
  rw [blockB_eq hn, Bool.and_eq_true] at h
  by_cases e : l.length = 0
  · omega
  · have h1 := okL_ge _ _ _ h.1 (l.length - 1) (by omega)
    have h2 := okL_nonneg _ _ _ h.1 (l.length - 1) (by omega)
    omega

set_option maxRecDepth 100000 in
set_option maxHeartbeats 4000000 in
theorem nar_walk (tv rv : Value) (C : List (List Int)) (wd : Int) (xs : List Int) (w : World) (hT : TableC w tv C) (hL : ListC w rv xs) (hn : C.length ≤ 8) (hr : ∀ row ∈ C, row.length ≤ 8) (hm : xs.length ≤ 8) :
    Calls Try.prog 8 #[tv, .int .i64 wd, rv] w fun e w' => e = .returned (.bool true) ∧ Below w.heap.size w w' := by
  have HT : Hid (∀ W, Below w.heap.size w W → Calls Try.prog 16 #[tv] W fun e w' => ∃ v, e = .returned v ∧ Lines w' W.heap.size v C ∧ Below W.heap.size W w') := hT
  have HL : Hid (∀ W, Below w.heap.size w W → Calls Try.prog 26 #[rv] W fun e w' => ∃ v, e = .returned v ∧ w'.ownsRow W.heap.size 3 1 v xs.length (intL xs) ∧ Below W.heap.size W w') := hL
  have HW := Lib.hid awake_any
  obtain ⟨n, hCn⟩ : ∃ n, C.length = n := ⟨_, rfl⟩
  obtain ⟨m, hxm⟩ : ∃ m, xs.length = m := ⟨_, rfl⟩
  have hIb := fun a b cap cb w h hl => IsBlock_any C a b cap cb m wd xs w h (by omega) (fun row hrow => by have := hr row hrow; omega) hl (by omega)
  have hRc := fun a cap w h => refCosts_any C a cap n w hCn h (by omega) (fun row hrow => by have := hr row hrow; omega)
  clear hT hL
  cases hcb : costsB C with
  | false =>
    have hN := fun a cap w h => Narrow_no C a cap w h (by omega) (fun row hrow => by have := hr row hrow; omega) hcb
    rw [hcb] at hIb hRc
    simp only [Bool.false_and, Bool.false_eq_true, if_false] at hIb
    rw [hCn] at hN hIb hn
    rw [hxm] at hm
    have HN := Lib.hid hN
    have HIb := Lib.hid hIb
    have HRc := Lib.hid hRc
    have Hcn := Lib.hid hCn
    have Hxm := Lib.hid hxm
    clear hN hIb hRc hcb hr hCn hxm
    go_enter Try.func8, Try.ntmps8
    go_wp2_with fail
    refine (HT.out _ (Below.refl _ _)).mono ?_
    rintro e w1 ⟨v, rfl, hl, b1⟩
    obtain ⟨a, cap, rfl, hcap, hcm, ht⟩ := hl.tbl
    rw [Hcn.out] at hcap ⊢
    have T1 := Lib.hid ht
    have B1 := Lib.hid b1
    clear hl ht b1
    go_wp2_with fail
    refine (HL.out _ B1.out).mono ?_
    rintro e w2 ⟨v2, rfl, ho, b2⟩
    obtain ⟨a2, ca, rfl, hR2⟩ := Row.of_own ho
    rw [Hxm.out] at hR2 ⊢
    have T2 := Lib.hid (T1.out.below b2)
    have R2 := Lib.hid hR2
    have B2 := Lib.hid (b_next B1.out b2)
    clear ho hR2 b2 B1 T1
    go_wp2_with fail
    refine (HN.out _ _ _ T2.out).mono ?_
    rintro e w3 ⟨rfl, hw3⟩
    have T3 : Hid (Tbl w3 a C) := by first | (subst hw3; exact T2.out) | exact T2.out.below hw3
    have R3 : Hid (Row w3 a2 m (intL xs)) := by first | (subst hw3; exact R2.out) | exact R2.out.below hw3
    have B3 : Hid (Below w.heap.size w w3) := by first | (subst hw3; exact B2.out) | exact b_next B2.out hw3
    clear hw3 T2 R2 B2
    go_wp2_with fail
    refine (HIb.out _ _ _ _ _ T3.out R3.out).mono ?_
    rintro e w4 ⟨rfl, rfl⟩
    go_wp2_with fail
    refine (HRc.out _ _ _ T3.out).mono ?_
    rintro e w5 ⟨rfl, rfl⟩
    go_wp2_with fail
    refine (HW.out _).mono ?_
    rintro e w6 ⟨rfl, b6⟩
    go_wp2
    go_ret
    exact ⟨rfl, b_next B3.out b6⟩
  | true =>
    obtain ⟨hRe, hp⟩ := Rect.of_costs hcb
    have hn7 := hRe.n7
    have hN := fun a cap w h => Narrow_yes C a cap w h hcb
    obtain ⟨r0, hr0, hrow, hwid, hmem, _⟩ := nar_same hcb
    have hblk := fun l (h : BlockRes C ((narW C).2 - 1) l) => nar_block hcb h
    have hlen := fun l (h : BlockRes C ((narW C).2 - 1) l) => block_len hn7 (nar_block hcb h)
    have hin := narL_in hRe (asgW C)
    have hin2 : -1000 ≤ (narW C).2 ∧ (narW C).2 ≤ 1001 := hin
    obtain ⟨zs, hzs⟩ : ∃ z, (narW C).1.holes.take C.length = z := ⟨_, rfl⟩
    have hrow2 : zs = (allL C.length C.length).foldl (nrStep C C.length) r0 := by rw [← hzs]; exact hrow
    rw [widthTo_eq C _ _ (Nat.le_refl _), show rowW C (narW C).1 = zs from hzs] at hwid
    obtain ⟨k, hk⟩ : ∃ k, (narW C).2 = k := ⟨_, rfl⟩
    obtain ⟨hzl, hza, _⟩ := rowW_good hn7 hmem
    rw [show rowW C (narW C).1 = zs from hzs] at hzl hza
    have hg : ∀ x ∈ zs, 0 ≤ x ∧ x < C.length := by
      unfold asgB at hza
      exact (of_decide_eq_true hza).2.1
    rw [hcb] at hIb hRc
    simp only [Bool.true_and, if_true] at hIb
    rw [hzs] at hN
    rw [hk] at hN hblk hlen hin2 hwid
    obtain ⟨b, hb⟩ : ∃ b, blockB C wd xs = b := ⟨_, rfl⟩
    rw [hb] at hIb
    have hRn := fun a cap w h => refNarrow_any C a cap C.length w r0 hRe rfl hp h hr0
    rw [← hrow2] at hRn
    have hIn := fun a1 c1 a2 c2 w h1 h2 => ints_true a1 a2 C.length c1 c2 zs w h1 h2
    have hRw := fun a a2 cap ca w h ha => refWidth_any C a a2 cap C.length ca zs w hRe rfl hp hg h ha
    rw [← hwid] at hRw
    have hRb := fun a a2 cap ca w h ha => refBlock_any C a a2 cap C.length ca m wd xs w hRe rfl h ha (by omega)
    rw [hb] at hRb
    have hRl := fun l (hl : BlockRes C (k - 1) l) a a2 cap ca w h ha => refBlock_any C a a2 cap C.length ca l.length (k - 1) l w hRe rfl h ha (by have := hlen l hl; omega)
    rw [hCn] at hN hIb hn hn7 hRn hIn hRw hRb hRl
    rw [hxm] at hm
    have HN := Lib.hid hN
    have HIb := Lib.hid hIb
    have HRc := Lib.hid hRc
    have HRn := Lib.hid hRn
    have HIn := Lib.hid hIn
    have HRw := Lib.hid hRw
    have HRb := Lib.hid hRb
    have HRl := Lib.hid hRl
    have Hblk := Lib.hid hblk
    have Hlen := Lib.hid hlen
    have Hcn := Lib.hid hCn
    have Hxm := Lib.hid hxm
    clear hN hIb hRc hcb hr hCn hxm hRn hIn hRw hRb hRl hblk hlen hzl hza hg hmem hwid hrow hrow2 hr0 hzs hk hb hin hRe hp
    go_enter Try.func8, Try.ntmps8
    go_wp2_with fail
    refine (HT.out _ (Below.refl _ _)).mono ?_
    rintro e w1 ⟨v, rfl, hl, b1⟩
    obtain ⟨a, cap, rfl, hcap, hcm, ht⟩ := hl.tbl
    rw [Hcn.out] at hcap ⊢
    have T1 := Lib.hid ht
    have B1 := Lib.hid b1
    clear hl ht b1
    go_wp2_with fail
    refine (HL.out _ B1.out).mono ?_
    rintro e w2 ⟨v2, rfl, ho, b2⟩
    obtain ⟨a2, ca, rfl, hR2⟩ := Row.of_own ho
    rw [Hxm.out] at hR2 ⊢
    have T2 := Lib.hid (T1.out.below b2)
    have R2 := Lib.hid hR2
    have B2 := Lib.hid (b_next B1.out b2)
    clear ho hR2 b2 B1 T1
    go_wp2_with fail
    refine (HN.out _ _ _ T2.out).mono ?_
    rintro e w3 ⟨u1, u2, l, rfl, ho1, ho2, hres, b3⟩
    obtain ⟨a3, c3, rfl, hR3⟩ := Row.of_own ho1
    obtain ⟨a4, c4, rfl, hR4⟩ := Row.of_own ho2
    have hbl := Hblk.out l hres
    have hll := Hlen.out l hres
    have hRl := HRl.out l hres
    rw [hbl] at hRl
    obtain ⟨ml, hml⟩ : ∃ q, l.length = q := ⟨_, rfl⟩
    rw [hml] at hR4 hll hRl ⊢
    have HRl2 := Lib.hid hRl
    have T3 := Lib.hid (T2.out.below b3)
    have Q3 := Lib.hid (R2.out.below b3)
    have R3 := Lib.hid hR3
    have R4 := Lib.hid hR4
    have B3 := Lib.hid (b_next B2.out b3)
    clear b3 T2 R2 B2 ho1 ho2 hR3 hR4 hbl hres hRl hml
    go_wp2_with fail
    refine (HIb.out _ _ _ _ _ T3.out Q3.out).mono ?_
    rintro e w4 ⟨rfl, rfl⟩
    go_wp2_with fail
    refine (HRc.out _ _ _ T3.out).mono ?_
    rintro e w5 ⟨rfl, rfl⟩
    go_wp2_with fail
    refine (HRn.out _ _ _ T3.out).mono ?_
    rintro e w6 ⟨a6, c6, rfl, hR6, b6⟩
    have T6 := Lib.hid (T3.out.below b6)
    have S6 := Lib.hid (R3.out.below b6)
    have L6 := Lib.hid (R4.out.below b6)
    have Q6 := Lib.hid (Q3.out.below b6)
    have R6 := Lib.hid hR6
    have B6 := Lib.hid (b_next B3.out b6)
    clear b6 hR6 T3 R3 R4 Q3 B3
    have hw1 : IntKind.i64.wrap (k - 1) = k - 1 := IntWalk.i64_in _ (by omega)
    go_wp2_with fail
    refine (HIn.out _ _ _ _ _ S6.out R6.out (by omega)).mono ?_
    rintro e w7 ⟨rfl, q7, rfl⟩
    go_wp2_with fail
    refine (HRw.out _ _ _ _ _ (T6.out.drewN _) (R6.out.drewN _)).mono ?_
    rintro e w8 ⟨rfl, q8, rfl⟩
    go_wp2_with fail
    refine (HRl2.out _ _ _ _ _ (T6.out.drewN _) (L6.out.drewN _)).mono ?_
    rintro e w9 ⟨rfl, q9, rfl⟩
    go_wp2_with fail
    refine (HRb.out _ _ _ _ _ (T6.out.drewN _) (Q6.out.drewN _)).mono ?_
    rintro e w10 ⟨rfl, q10, rfl⟩
    cases b
    all_goals
      go_wp2_with fail
      refine (HW.out _).mono ?_
      rintro e w11 ⟨rfl, b11⟩
      go_wp2
      go_ret
      exact ⟨rfl, b_next (below_drewN B6.out _) b11⟩
theorem walk_ButtonsNarrows (tv : Value) (C : List (List Int)) (w : World) (hT : TabIn w tv C) (wd : Int) (_ : (Lit.int .i64 wd).wf = true) (rv : Value) (xs : List Int) (hR : RowIn w rv xs) :
    Calls Try.prog 8 #[tv, .int .i64 wd, rv] w fun e w' => e = .returned (.bool true) ∧ Below w.heap.size w w' :=
  nar_walk tv rv _ wd _ w hT.tableC hR.listC (cutT_rows C).1 (cutT_rows C).2 (by rw [List.length_take]; omega)
end Go.Proofs.Ytdlbfiofpgicaaa

/- ButtonsNarrows: for any costs, int and list, Narrow returns the first assignment with the smallest width, the width and a block for the width minus 1, and IsBlock whether a list is a block for the int, or ErrArg. Conditions: none. -/
namespace Go.Proofs.Ytdlbfiofpgicaaa
set_option linter.unusedVariables false

namespace lawButtonsNarrows
open Go.ChangeShapes Go.WideShapes Go.ChangeAt Go.RowKit
open Go.ChangeMaps (open_string shut_string)

theorem own : ownKnob Try.prog.godebug = none := by kernel_rfl
theorem lay : laidOutB Try.prog = true := by kernel_rfl

set_option maxRecDepth 100000 in
theorem lifted (os : Os) (started : os.Started) (H : Type) (enc : TypeId × Value → H) :
    ReturnsInHanded {} Try.checked os 8 .any (Rows.buttonsNarrowsSpec.pre6 enc Try.prog Try.f8 Rows.buttonsNarrowsRow.domain false) (Rows.buttonsNarrowsSpec.post enc Try.prog Try.f8 false true false false) := by
  refine returnsInHanded_of_change (C := Try.checked) own started (by kernel_rfl) Try.func8
    (ChangeSpec.witness6 (enc := enc) (C := Try.checked) false ⟨#[], #[.slice none 0 0, .int .i64 0, .slice none 0 0], []⟩ 8 (by kernel_rfl) (by kernel_rfl) (by kernel_rfl) (by kernel_rfl)) ?_
  intro W base args ds gs before hval0 hW hcnd _
  have hval : ∀ (j : Nat) t v, Try.f8.params[j]? = some t → args[j]? = some v → Value.okWide Try.prog W .any base t v := hval0
  have hW' := hW
  obtain ⟨p, q, hA0, hV, rfl, hfz, hnd⟩ := hW
  have hA : DataW.TrodAll enc Try.prog W 0 (fun _ => true) true Try.f8.params.toList args.toList ds p := hA0
  rw [Try.params8] at hA hval
  obtain ⟨v0, vs0, d0, ds0, p0, q0, hargs, rfl, rfl, h0, r0⟩ := trodAll_cons hA
  obtain ⟨v1, vs1, d1, ds1, p1, q1, rfl, rfl, rfl, h1, r1⟩ := trodAll_cons r0
  obtain ⟨v2, vs2, d2, ds2, p2, q2, rfl, rfl, rfl, h2, r2⟩ := trodAll_cons r1
  obtain ⟨rfl, rfl, rfl⟩ := trodAll_nil r2
  obtain rfl : args = #[v0, v1, v2] := by cases args; simp_all
  obtain ⟨rfl, rfl⟩ := trodVars_none hV
  obtain ⟨a0, len0, cap0, rfl⟩ := okWide_slice Try.underlying22 (hval 0 22 v0 rfl rfl)
  have k0 := h0
  have lt0 : ∀ x ∈ p0, x.block < W.heap.size := by obtain ⟨m, hm⟩ := k0; exact DataW.trod_lt m _ _ _ hm
  obtain ⟨z0, w0⟩ : ∃ C, TabIn W (.slice a0 len0 cap0) C := by
    obtain ⟨fuel, hf⟩ := h0
    rcases Go.Deep.open_int_rows Try.underlying22 Try.underlying24 Try.underlying3 (by kernel_rfl) (by kernel_rfl) hf with ⟨hcs, _⟩ | ⟨x, l, c, A, L, C, Z, hcs, _, hl, hm, _, hr⟩
    · simp [Value.cells] at hcs
      obtain ⟨rfl, rfl, rfl⟩ := hcs
      exact ⟨[], .inl ⟨_, rfl, rfl⟩⟩
    · simp [Value.cells] at hcs
      obtain ⟨rfl, rfl, rfl⟩ := hcs
      exact tabIn_of hl (fun r h => ⟨(hr r h).1, (hr r h).2.1, (hr r h).2.2.2.1, (hr r h).2.2.2.2.2.1, fun a' ha => ((hr r h).2.2.2.2.2.2 a' ha).2⟩)
  obtain ⟨a1, rfl, rfl, rfl, w1⟩ := open_int Try.underlying3 (hval 1 3 v1 rfl rfl) h1
  obtain ⟨a2, len2, cap2, rfl⟩ := okWide_slice Try.underlying24 (hval 2 24 v2 rfl rfl)
  have k2 := h2
  have lt2 : ∀ x ∈ p2, x.block < W.heap.size := by obtain ⟨m, hm⟩ := k2; exact DataW.trod_lt m _ _ _ hm
  obtain ⟨z2, w2⟩ : ∃ C, RowIn W (.slice a2 len2 cap2) C := by
    obtain ⟨fuel, hf⟩ := h2
    exact rowIn_of Try.underlying24 Try.underlying3 (by kernel_rfl) hf
  clear hA0 hval0
  refine (walk_ButtonsNarrows _ z0 W w0 a1 w1 _ z2 w2).mono fun e W' ⟨he, bel⟩ => ?_
  subst he
  exact ⟨_, rfl, _, _, _, [], _, [], hW', trodAll_mk1 (shut_bool Try.underlying4 _), (trodAll_cons_mk (Below.trod lay (by kernel_rfl) (of_decide_eq_true (by kernel_rfl)) k0 bel lt0) (trodAll_cons_mk (shut_int Try.underlying3 w1) (trodAll_cons_mk (Below.trod lay (by kernel_rfl) (of_decide_eq_true (by kernel_rfl)) k2 bel lt2) trodAll_mk0))), rfl, bel.frame _, fun h => by cases h⟩

theorem over : Rows.buttonsNarrowsRow.holds Try.pinned (OpenSpec.ofChange Rows.buttonsNarrowsSpec) :=
  OpenClaim.holds_of_wide 8 Try.f8 rfl rfl rfl rfl rfl rfl rfl ⟨rfl, rfl, rfl, rfl, rfl⟩ rfl rfl rfl rfl rfl (by kernel_rfl) Try.func8 (by kernel_rfl)
    (of_decide_eq_true (by kernel_rfl)) (by unfold Func.isWrapper; first | (rw [if_pos (by decide +kernel)]; kernel_rfl) | (rw [if_neg (by decide +kernel)]; exact ⟨rfl, rfl⟩))
    (fun os started H enc _ => lifted os started H enc)

theorem proved : Rows.ButtonsNarrowsSaid := over
end lawButtonsNarrows
end Go.Proofs.Ytdlbfiofpgicaaa
