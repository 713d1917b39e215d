/- Texts of buttons, joined: Wna, Ordr, Opa. -/
import Derived.Test.YtambhhjbafefgaaQi
import Derived.Test.YtambhhjbafefgaaQg
import Derived.Test.YtambhhjbafefgaaQh
import Derived.Test.YtambhhjbafefgaaQc
import Derived.Test.YtambhhjbafefgaaQe
/- The law's ButtonsNarrows: its walk. -/
namespace Go.Proofs.Ytambhhjbafefgaa
set_option linter.unusedVariables false
open Go.RowKit

theorem okL_ge (n : Nat) (l : List Int) : ∀ k, okL n l k = true → ∀ i, i < k → (i : Int) ≤ l.getD i 0 := by
  intro k
  induction k with
  | zero => intro _ i hi; omega
  | succ k ih =>
    intro h i hi
    rw [okL_succ, Bool.and_eq_true] at h
    by_cases e : i < k
    · exact ih h.1 i e
    · obtain rfl : i = k := by omega
      have h2 := h.2
      unfold okAt at h2
      rw [decide_eq_true_eq] at h2
      have h3 := h2.1
      unfold lastOf at h3
      by_cases e0 : i = 0
      · rw [if_pos e0] at h3; omega
      · rw [if_neg e0] at h3
        have := ih h.1 (i - 1) (by omega)
        omega
theorem block_len {C : List (List Int)} (hn : C.length ≤ 7) {wd : Int} {l : List Int} (h : blockB C wd l = true) : l.length ≤ 7 := by
  rw [blockB_eq hn, Bool.and_eq_true] at h
  by_cases e : l.length = 0
  · omega
  · have h1 := okL_ge _ _ _ h.1 (l.length - 1) (by omega)
    have h2 := okL_nonneg _ _ _ h.1 (l.length - 1) (by omega)
    omega

set_option maxRecDepth 100000 in
set_option maxHeartbeats 4000000 in
theorem nar_walk (tv rv : Value) (C : List (List Int)) (wd : Int) (xs : List Int) (w : World) (hT : TableC w tv C) (hL : ListC w rv xs) (hn : C.length ≤ 8) (hr : ∀ row ∈ C, row.length ≤ 8) (hm : xs.length ≤ 8) :
    Calls Try.prog 8 #[tv, .int .i64 wd, rv] w fun e w' => e = .returned (.bool true) ∧ Below w.heap.size w w' := by
  have HT : Hid (∀ W, Below w.heap.size w W → Calls Try.prog 16 #[tv] W fun e w' => ∃ v, e = .returned v ∧ Lines w' W.heap.size v C ∧ Below W.heap.size W w') := hT
  have HL : Hid (∀ W, Below w.heap.size w W → Calls Try.prog 26 #[rv] W fun e w' => ∃ v, e = .returned v ∧ w'.ownsRow W.heap.size 3 1 v xs.length (intL xs) ∧ Below W.heap.size W w') := hL
  have HW := Lib.hid awake_any
  obtain ⟨n, hCn⟩ : ∃ n, C.length = n := ⟨_, rfl⟩
  obtain ⟨m, hxm⟩ : ∃ m, xs.length = m := ⟨_, rfl⟩
  have hIb := fun a b cap cb w h hl => IsBlock_any C a b cap cb m wd xs w h (by omega) (fun row hrow => by have := hr row hrow; omega) hl (by omega)
  have hRc := fun a cap w h => refCosts_any C a cap n w hCn h (by omega) (fun row hrow => by have := hr row hrow; omega)
  clear hT hL
  cases hcb : costsB C with
  | false =>
    have hN := fun a cap w h => Narrow_no C a cap w h (by omega) (fun row hrow => by have := hr row hrow; omega) hcb
    rw [hcb] at hIb hRc
    simp only [Bool.false_and, Bool.false_eq_true, if_false] at hIb
    rw [hCn] at hN hIb hn
    rw [hxm] at hm
    have HN := Lib.hid hN
    have HIb := Lib.hid hIb
    have HRc := Lib.hid hRc
    have Hcn := Lib.hid hCn
    have Hxm := Lib.hid hxm
    clear hN hIb hRc hcb hr hCn hxm
    go_enter Try.func8, Try.ntmps8
    go_wp2_with fail
    refine (HT.out _ (Below.refl _ _)).mono ?_
    rintro e w1 ⟨v, rfl, hl, b1⟩
    obtain ⟨a, cap, rfl, hcap, hcm, ht⟩ := hl.tbl
    rw [Hcn.out] at hcap ⊢
    have T1 := Lib.hid ht
    have B1 := Lib.hid b1
    clear hl ht b1
    go_wp2_with fail
    refine (HL.out _ B1.out).mono ?_
    rintro e w2 ⟨v2, rfl, ho, b2⟩
    obtain ⟨a2, ca, rfl, hR2⟩ := Row.of_own ho
    rw [Hxm.out] at hR2 ⊢
    have T2 := Lib.hid (T1.out.below b2)
    have R2 := Lib.hid hR2
    have B2 := Lib.hid (b_next B1.out b2)
    clear ho hR2 b2 B1 T1
    go_wp2_with fail
    refine (HN.out _ _ _ T2.out).mono ?_
    rintro e w3 ⟨rfl, hw3⟩
    have T3 : Hid (Tbl w3 a C) := by first | (subst hw3; exact T2.out) | exact T2.out.below hw3
    have R3 : Hid (Row w3 a2 m (intL xs)) := by first | (subst hw3; exact R2.out) | exact R2.out.below hw3
    have B3 : Hid (Below w.heap.size w w3) := by first | (subst hw3; exact B2.out) | exact b_next B2.out hw3
    clear hw3 T2 R2 B2
    go_wp2_with fail
    refine (HIb.out _ _ _ _ _ T3.out R3.out).mono ?_
    rintro e w4 ⟨rfl, rfl⟩
    go_wp2_with fail
    refine (HRc.out _ _ _ T3.out).mono ?_
    rintro e w5 ⟨rfl, rfl⟩
    go_wp2_with fail
    refine (HW.out _).mono ?_
    rintro e w6 ⟨rfl, b6⟩
    go_wp2
    go_ret
    exact ⟨rfl, b_next B3.out b6⟩
  | true =>
    obtain ⟨hRe, hp⟩ := Rect.of_costs hcb
    have hn7 := hRe.n7
    have hN := fun a cap w h => Narrow_yes C a cap w h hcb
    obtain ⟨r0, hr0, hrow, hwid, hmem, _⟩ := nar_same hcb
    have hblk := fun l (h : BlockRes C ((narW C).2 - 1) l) => nar_block hcb h
    have hlen := fun l (h : BlockRes C ((narW C).2 - 1) l) => block_len hn7 (nar_block hcb h)
    have hin := narL_in hRe (asgW C)
    have hin2 : -1000 ≤ (narW C).2 ∧ (narW C).2 ≤ 1001 := hin
    obtain ⟨zs, hzs⟩ : ∃ z, (narW C).1.holes.take C.length = z := ⟨_, rfl⟩
    have hrow2 : zs = (allL C.length C.length).foldl (nrStep C C.length) r0 := by rw [← hzs]; exact hrow
    rw [widthTo_eq C _ _ (Nat.le_refl _), show rowW C (narW C).1 = zs from hzs] at hwid
    obtain ⟨k, hk⟩ : ∃ k, (narW C).2 = k := ⟨_, rfl⟩
    obtain ⟨hzl, hza, _⟩ := rowW_good hn7 hmem
    rw [show rowW C (narW C).1 = zs from hzs] at hzl hza
    have hg : ∀ x ∈ zs, 0 ≤ x ∧ x < C.length := by
      unfold asgB at hza
      exact (of_decide_eq_true hza).2.1
    rw [hcb] at hIb hRc
    simp only [Bool.true_and, if_true] at hIb
    rw [hzs] at hN
    rw [hk] at hN hblk hlen hin2 hwid
    obtain ⟨b, hb⟩ : ∃ b, blockB C wd xs = b := ⟨_, rfl⟩
    rw [hb] at hIb
    have hRn := fun a cap w h => refNarrow_any C a cap C.length w r0 hRe rfl hp h hr0
    rw [← hrow2] at hRn
    have hIn := fun a1 c1 a2 c2 w h1 h2 => ints_true a1 a2 C.length c1 c2 zs w h1 h2
    have hRw := fun a a2 cap ca w h ha => refWidth_any C a a2 cap C.length ca zs w hRe rfl hp hg h ha
    rw [← hwid] at hRw
    have hRb := fun a a2 cap ca w h ha => refBlock_any C a a2 cap C.length ca m wd xs w hRe rfl h ha (by omega)
    rw [hb] at hRb
    have hRl := fun l (hl : BlockRes C (k - 1) l) a a2 cap ca w h ha => refBlock_any C a a2 cap C.length ca l.length (k - 1) l w hRe rfl h ha (by have := hlen l hl; omega)
    rw [hCn] at hN hIb hn hn7 hRn hIn hRw hRb hRl
    rw [hxm] at hm
    have HN := Lib.hid hN
    have HIb := Lib.hid hIb
    have HRc := Lib.hid hRc
    have HRn := Lib.hid hRn
    have HIn := Lib.hid hIn
    have HRw := Lib.hid hRw
    have HRb := Lib.hid hRb
    have HRl := Lib.hid hRl
    have Hblk := Lib.hid hblk
    have Hlen := Lib.hid hlen
    have Hcn := Lib.hid hCn
    have Hxm := Lib.hid hxm
    clear hN hIb hRc hcb hr hCn hxm hRn hIn hRw hRb hRl hblk hlen hzl hza hg hmem hwid hrow hrow2 hr0 hzs hk hb hin hRe hp
    go_enter Try.func8, Try.ntmps8
    go_wp2_with fail
    refine (HT.out _ (Below.refl _ _)).mono ?_
    rintro e w1 ⟨v, rfl, hl, b1⟩
    obtain ⟨a, cap, rfl, hcap, hcm, ht⟩ := hl.tbl
    rw [Hcn.out] at hcap ⊢
    have T1 := Lib.hid ht
    have B1 := Lib.hid b1
    clear hl ht b1
    go_wp2_with fail
    refine (HL.out _ B1.out).mono ?_
    rintro e w2 ⟨v2, rfl, ho, b2⟩
    obtain ⟨a2, ca, rfl, hR2⟩ := Row.of_own ho
    rw [Hxm.out] at hR2 ⊢
    have T2 := Lib.hid (T1.out.below b2)
    have R2 := Lib.hid hR2
    have B2 := Lib.hid (b_next B1.out b2)
    clear ho hR2 b2 B1 T1
    go_wp2_with fail
    refine (HN.out _ _ _ T2.out).mono ?_
    rintro e w3 ⟨u1, u2, l, rfl, ho1, ho2, hres, b3⟩
    obtain ⟨a3, c3, rfl, hR3⟩ := Row.of_own ho1
    obtain ⟨a4, c4, rfl, hR4⟩ := Row.of_own ho2
    have hbl := Hblk.out l hres
    have hll := Hlen.out l hres
    have hRl := HRl.out l hres
    rw [hbl] at hRl
    obtain ⟨ml, hml⟩ : ∃ q, l.length = q := ⟨_, rfl⟩
    rw [hml] at hR4 hll hRl ⊢
    have HRl2 := Lib.hid hRl
    have T3 := Lib.hid (T2.out.below b3)
    have Q3 := Lib.hid (R2.out.below b3)
    have R3 := Lib.hid hR3
    have R4 := Lib.hid hR4
    have B3 := Lib.hid (b_next B2.out b3)
    clear b3 T2 R2 B2 ho1 ho2 hR3 hR4 hbl hres hRl hml
    go_wp2_with fail
    refine (HIb.out _ _ _ _ _ T3.out Q3.out).mono ?_
    rintro e w4 ⟨rfl, rfl⟩
    go_wp2_with fail
    refine (HRc.out _ _ _ T3.out).mono ?_
    rintro e w5 ⟨rfl, rfl⟩
    go_wp2_with fail
    refine (HRn.out _ _ _ T3.out).mono ?_
    rintro e w6 ⟨a6, c6, rfl, hR6, b6⟩
    have T6 := Lib.hid (T3.out.below b6)
    have S6 := Lib.hid (R3.out.below b6)
    have L6 := Lib.hid (R4.out.below b6)
    have Q6 := Lib.hid (Q3.out.below b6)
    have R6 := Lib.hid hR6
    have B6 := Lib.hid (b_next B3.out b6)
    clear b6 hR6 T3 R3 R4 Q3 B3
    have hw1 : IntKind.i64.wrap (k - 1) = k - 1 := IntWalk.i64_in _ (by omega)
    go_wp2_with fail
    refine (HIn.out _ _ _ _ _ S6.out R6.out (by omega)).mono ?_
    rintro e w7 ⟨rfl, q7, rfl⟩
    go_wp2_with fail
    refine (HRw.out _ _ _ _ _ (T6.out.drewN _) (R6.out.drewN _)).mono ?_
    rintro e w8 ⟨rfl, q8, rfl⟩
    go_wp2_with fail
    refine (HRl2.out _ _ _ _ _ (T6.out.drewN _) (L6.out.drewN _)).mono ?_
    rintro e w9 ⟨rfl, q9, rfl⟩
    go_wp2_with fail
    refine (HRb.out _ _ _ _ _ (T6.out.drewN _) (Q6.out.drewN _)).mono ?_
    rintro e w10 ⟨rfl, q10, rfl⟩
    cases b
    all_goals
      go_wp2_with fail
      refine (HW.out _).mono ?_
      rintro e w11 ⟨rfl, b11⟩
      go_wp2
      go_ret
      exact ⟨rfl, b_next (below_drewN B6.out _) b11⟩
theorem walk_ButtonsNarrows (tv : Value) (C : List (List Int)) (w : World) (hT : TabIn w tv C) (wd : Int) (_ : (Lit.int .i64 wd).wf = true) (rv : Value) (xs : List Int) (hR : RowIn w rv xs) :
    Calls Try.prog 8 #[tv, .int .i64 wd, rv] w fun e w' => e = .returned (.bool true) ∧ Below w.heap.size w w' :=
  nar_walk tv rv _ wd _ w hT.tableC hR.listC (cutT_rows C).1 (cutT_rows C).2 (by rw [List.length_take]; omega)
end Go.Proofs.Ytambhhjbafefgaa

/- The law's order: an assignment made of any list. -/
namespace Go.Proofs.Ytambhhjbafefgaa
set_option linter.unusedVariables false
open Go.RowKit

theorem slice_fromI (g n cap k : Nat) (hk : k ≤ n) (hn : n ≤ cap) (hc : cap ≤ 9223372036854775807) : ∃ ad : Addr, (k < n → ad = ⟨g, k, none⟩) ∧
    ∀ w : World, (Instr.sliceAt 24 (.slice (some ⟨g, 0, none⟩) n cap) (some (.int .i64 k)) none none).run Try.prog w = .ok (.slice (some ad) (n - k) (cap - k)) w := by
  by_cases h : k = cap
  · refine ⟨⟨g, 0, none⟩, fun hh => by omega, fun w => ?_⟩
    have h0 : (0 : Int) ≤ (k : Int) := by omega
    have h1 : (k : Int) ≤ (n : Int) := by omega
    simp [Instr.sliceAt, go_sem, h0, h1]
    omega
  · refine ⟨⟨g, k, none⟩, fun _ => rfl, fun w => ?_⟩
    have h0 : (0 : Int) ≤ (k : Int) := by omega
    have h1 : (k : Int) ≤ (n : Int) := by omega
    simp [Instr.sliceAt, go_sem, h0, h1]
    omega
theorem slice_toI (g n cap k : Nat) (hk : k ≤ cap) (w : World) : (Instr.sliceAt 24 (.slice (some ⟨g, 0, none⟩) n cap) none (some (.int .i64 k)) none).run Try.prog w = .ok (.slice (some ⟨g, 0, none⟩) k cap) w := by
  have h0 : (0 : Int) ≤ (k : Int) := by omega
  have h1 : (k : Int) ≤ (cap : Int) := by omega
  simp [Instr.sliceAt, go_sem, h0, h1]
theorem asg_insert {xs : List Int} {k j : Nat} (h : asgB xs k = true) (hj : j ≤ k) : asgB (xs.take j ++ [(k : Int)] ++ xs.drop j) (k + 1) = true := by
  unfold asgB at h ⊢
  obtain ⟨h1, h2, h3⟩ := of_decide_eq_true h
  have hp : (xs.take j ++ [(k : Int)] ++ xs.drop j).Perm ((k : Int) :: xs) := by
    have e : (xs.take j ++ [(k : Int)] ++ xs.drop j).Perm ([(k : Int)] ++ xs.take j ++ xs.drop j) := (List.perm_append_comm).append_right _
    have e2 : [(k : Int)] ++ xs.take j ++ xs.drop j = (k : Int) :: xs := by rw [List.append_assoc, List.take_append_drop]; rfl
    rwa [e2] at e
  refine decide_eq_true ⟨?_, fun x hx => ?_, ?_⟩
  · rw [hp.length_eq, List.length_cons, h1]
  · rcases List.mem_cons.1 (hp.mem_iff.1 hx) with rfl | h
    · omega
    · have := h2 x h; omega
  · rw [hp.nodup_iff]
    exact List.nodup_cons.2 ⟨fun h => by have := h2 _ h; omega, h3⟩

set_option maxRecDepth 100000 in
set_option maxHeartbeats 4000000 in
theorem order_any (rv : Value) (l : List Int) (n : Nat) (w : World) (hR : RowIn w rv l) (hn : n ≤ 7) :
    Calls Try.prog 52 #[rv, .int .i64 n] w fun e w' => ∃ v xs, e = .returned v ∧ w'.ownsRow w.heap.size 3 1 v n (intL xs) ∧ asgB xs n = true ∧ Below w.heap.size w w' := by
  obtain ⟨i0, hi, hz0, hz1, hz2⟩ := info_parts info_int
  obtain ⟨p, c, rfl, hform⟩ := hR.form
  obtain ⟨ml, hml⟩ : ∃ m, l.length = m := ⟨_, rfl⟩
  rw [hml] at hform ⊢
  have HF := Lib.hid hform
  clear hR hform hml
  go_enter Try.func52, Try.ntmps52
  go_wp2
  go_loopw [5, 6] (fun v i wr => ∃ k : Nat, k ≤ n ∧ i = .int .i64 k ∧ Hid (∃ xs, wr.ownsRow w.heap.size 3 1 v k (intL xs) ∧ asgB xs k = true) ∧ Below w.heap.size w wr) (fun _ i _ => n - (intOf i).toNat)
  case atStart => exact ⟨0, Nat.zero_le _, rfl, ⟨[], World.ownsRow_nil _ _ _ _, rfl⟩, Below.refl _ _⟩
  case round =>
    obtain ⟨k, hk, rfl, HX, hB⟩ := hrel
    have HB := Lib.hid hB
    clear hB
    by_cases hlt : k < n
    · have hc1 : (k : Int) < n := by omega
      have hw1 : IntKind.i64.wrap ((k : Int) + 1) = ((k + 1 : Nat) : Int) := by rw [IntWalk.i64_in _ (by omega)]; omega
      obtain ⟨xs, ho, hx⟩ := HX.out
      have hxl : xs.length = k := by unfold asgB at hx; exact (of_decide_eq_true hx).1
      have Hx := Lib.hid hx
      have Hxl := Lib.hid hxl
      clear HX hx hxl
      rcases ho.2 with ⟨rfl, hk0⟩ | ⟨g, cap, cur, rfl, hbg, hcur, hkc, hcm, _, _⟩
      · -- the first one
        have HO0 : Hid (wr.ownsRow wr.heap.size 3 1 (.slice none 0 0) 0 []) := World.ownsRow_nil _ _ _ _
        clear ho
        by_cases hg : k < ml
        · obtain ⟨ad, rfl, hc⟩ := HF.out k hg
          have hc2 := (HB.out.cell (p := ad.add k) (World.block_lt_of_cell? w _ hc)).trans hc
          have hgi : (k : Int) < ml := by omega
          have HK0 := Lib.hid hk0
          clear hk0
          go_wp2_with fail
          refine (mod_any _ (k + 1) _ (by omega) (by omega)).mono ?_
          rintro e w5 ⟨⟨r, hr, rfl⟩, hw5⟩
          have hw6 := hw5.symm
          clear hw5
          subst hw6
          obtain rfl : r = 0 := by have := HK0.out; omega
          clear hc2 hc
          go_wp2_with (first
            | (at_builtin; refine wpList_append_own _ rfl _ _ 24 rfl wr.heap.size 3 i0 (.int .i64 0) 1 8 Try.underlying24 hi hz0 hz1 hz2 rfl (by decide) _ _ _ rfl (HO0.out.alloc (.cells #[.int .i64 k] 3)) ⟨_, 0, none⟩ 1 1 [.int .i64 k] rfl rfl (one_new _ _ _ _ (by simp)) (by simp [Value.oneCell']) (by unfold maxLen; omega) (by omega) (by simp) ?_; intro v2 w6 hown2 hgrow2 _
               have HB6 : Hid (Below wr.heap.size wr w6) := rel_push (Below.refl _ _) (by simp) ((Below.refl _ _).alloc (Nat.le_refl _) _) HO0.out hgrow2
               have HO6 := Lib.hid hown2
               obtain ⟨g8, c8, rfl, hc8⟩ : ∃ g8 c8, v2 = .slice (some ⟨g8, 0, none⟩) 1 c8 ∧ 1 ≤ c8 := by
                 rcases hown2.2 with ⟨_, h0⟩ | ⟨g8, c8, cur8, h8, _, _, hc8, _⟩
                 · omega
                 · exact ⟨g8, c8, h8, hc8⟩
               clear hown2 hgrow2))
          go_roundw
          case rel =>
            have hk0 := HK0.out
            exact ⟨k + 1, by omega, by go_num, ⟨[(k : Int)], by rw [show k + 1 = 1 by omega]; exact own_base HO6.out HB.out.size, by rw [hk0]; rfl⟩, b_next HB.out HB6.out⟩
          case measure => simp [intOf]; omega
        · subst hk0
          have hgi : ¬ (0 : Int) < ml := by omega
          go_wp2_with (first
            | (at_builtin; refine wpList_append_own _ rfl _ _ 24 rfl wr.heap.size 3 i0 (.int .i64 0) 1 8 Try.underlying24 hi hz0 hz1 hz2 rfl (by decide) _ _ _ rfl (HO0.out.alloc (.cells #[.int .i64 0] 3)) ⟨_, 0, none⟩ 1 1 [.int .i64 0] rfl rfl (one_new _ _ _ _ (by simp)) (by simp [Value.oneCell']) (by unfold maxLen; omega) (by omega) (by simp) ?_; intro v2 w6 hown2 hgrow2 _
               have HB6 : Hid (Below wr.heap.size wr w6) := rel_push (Below.refl _ _) (by simp) ((Below.refl _ _).alloc (Nat.le_refl _) _) HO0.out hgrow2
               have HO6 := Lib.hid hown2
               obtain ⟨g8, c8, rfl, hc8⟩ : ∃ g8 c8, v2 = .slice (some ⟨g8, 0, none⟩) 1 c8 ∧ 1 ≤ c8 := by
                 rcases hown2.2 with ⟨_, h0⟩ | ⟨g8, c8, cur8, h8, _, _, hc8, _⟩
                 · omega
                 · exact ⟨g8, c8, h8, hc8⟩
               clear hown2 hgrow2))
          go_roundw
          case rel => exact ⟨1, by omega, by go_num, ⟨[0], own_base HO6.out HB.out.size, rfl⟩, b_next HB.out HB6.out⟩
          case measure => simp [intOf]; omega
      · have hcm9 : cap ≤ 9223372036854775807 := by unfold maxLen at hcm; omega
        by_cases hg : k < ml
        · obtain ⟨ad, rfl, hc⟩ := HF.out k hg
          have hc2 := (HB.out.cell (p := ad.add k) (World.block_lt_of_cell? w _ hc)).trans hc
          have hgi : (k : Int) < ml := by omega
          go_wp2_with fail
          refine (mod_any _ (k + 1) _ (by omega) (by omega)).mono ?_
          rintro e w5 ⟨⟨j, hr, rfl⟩, hw5⟩
          have hw6 := hw5.symm
          clear hw5
          subst hw6
          have hj : j ≤ k := by omega
          clear hc2 hc hgi
          obtain ⟨ad, had, hsl⟩ := slice_fromI g k cap j hj hkc hcm9
          have hst := slice_toI g k cap j (by omega)
          have hcell : ∀ y u, (intL xs)[y]? = some u → wr.cell? ⟨g, y, none⟩ = some u := fun y u hy => by
            have := ho.cells (g := g) rfl y u hy
            rwa [addr_add, Nat.zero_add] at this
          have hn1 : ∀ y u, (intL (xs.take j))[y]? = some u → wr.cell? ((⟨g, 0, none⟩ : Addr).add y) = some u := fun y u hy => by
            rw [addr_add, Nat.zero_add]
            have hyl := (List.getElem?_eq_some_iff.1 hy).1
            rw [intL_length, List.length_take] at hyl
            unfold intL at hy
            rw [List.getElem?_map, List.getElem?_take_of_lt (by omega)] at hy
            exact hcell y u (by unfold intL; rw [List.getElem?_map]; exact hy)
          have hl1 : (intL (xs.take j)).length = j * 1 := by rw [intL_length, List.length_take, Hxl.out]; omega
          have ho1 : ∀ (zs : List Int), ∀ u ∈ intL zs, u.oneCell' = true := fun zs u hu => by
            obtain ⟨x, _, rfl⟩ := List.mem_map.1 hu
            simp [Value.oneCell']
          have hn3 : ∀ W, Below wr.heap.size wr W → ∀ y u, (intL (xs.drop j))[y]? = some u → W.cell? (ad.add y) = some u := fun W hW y u hy => by
            have hyl := (List.getElem?_eq_some_iff.1 hy).1
            rw [intL_length, List.length_drop, Hxl.out] at hyl
            rw [had (by omega), addr_add]
            unfold intL at hy
            rw [List.getElem?_map, List.getElem?_drop] at hy
            exact (hW.cell (p := ⟨g, j + y, none⟩) (Array.getElem?_eq_some_iff.1 hcur).1).trans (hcell (j + y) u (by unfold intL; rw [List.getElem?_map]; exact hy))
          have hl3 : (intL (xs.drop j)).length = (k - j) * 1 := by rw [intL_length, List.length_drop, Hxl.out]; omega
          have HN1 := Lib.hid hn1
          have HL1 := Lib.hid hl1
          have HO1 := Lib.hid ho1
          have HN3 := Lib.hid hn3
          have HL3 := Lib.hid hl3
          clear hn1 hl1 ho1 hn3 hl3 hcell had
          go_wp2_with (first
            | (at_builtin; refine wpList_append_own _ rfl _ _ 24 rfl wr.heap.size 3 i0 (.int .i64 0) 1 8 Try.underlying24 hi hz0 hz1 hz2 rfl (by decide) _ _ _ rfl (World.ownsRow_nil _ _ _ _) ⟨g, 0, none⟩ j cap (intL (xs.take j)) rfl HL1.out HN1.out (HO1.out _) (by unfold maxLen; omega) (by omega) (Nat.le_refl _) ?_; intro v1 w5 hown1 hgrow1 _
               rw [Nat.zero_add, List.nil_append] at hown1
               have hg5 : wr.grownBy w5 none := hgrow1
               have HB5 : Hid (Below wr.heap.size wr w5) := ⟨hg5.os, hg5.tape, hg5.output, hg5.size, fun j hj => hg5.block j hj (by simp)⟩
               have HO5 := Lib.hid hown1
               clear hown1 hgrow1 hg5)
            | (at_builtin; refine wpList_append_own _ rfl _ _ 24 rfl wr.heap.size 3 i0 (.int .i64 0) 1 8 Try.underlying24 hi hz0 hz1 hz2 rfl (by decide) _ _ _ rfl (HO5.out.alloc (.cells #[.int .i64 k] 3)) ⟨_, 0, none⟩ 1 1 [.int .i64 k] rfl rfl (one_new _ _ _ _ (by simp)) (by simp [Value.oneCell']) (by unfold maxLen; omega) (by omega) (by have := HB5.out.size; first | (simp; done) | (simp; omega)) ?_; intro v2 w6 hown2 hgrow2 _
               have HB6 : Hid (Below wr.heap.size wr w6) := rel_push HB5.out (by have := HB5.out.size; first | (simp; done) | (simp; omega)) ((Below.refl _ _).alloc HB5.out.size _) HO5.out hgrow2
               have HO6 := Lib.hid hown2
               clear hown2 hgrow2)
            | (at_builtin; refine wpList_append_own _ rfl _ _ 24 rfl wr.heap.size 3 i0 (.int .i64 0) 1 8 Try.underlying24 hi hz0 hz1 hz2 rfl (by decide) _ _ _ rfl HO6.out ad (k - j) (cap - j) (intL (xs.drop j)) rfl HL3.out (HN3.out _ HB6.out) (HO1.out _) (by unfold maxLen; omega) (by omega) HB6.out.size ?_; intro v3 w7 hown3 hgrow3 _
               have HB7 : Hid (Below wr.heap.size wr w7) := rel_push HB6.out HB6.out.size (Below.refl _ _ |>.mono (by have := HB6.out.size; omega)) HO6.out hgrow3
               have HO7 := Lib.hid hown3
               clear hown3 hgrow3))
          go_roundw
          case rel =>
            refine ⟨k + 1, by omega, by go_num, ⟨xs.take j ++ [(k : Int)] ++ xs.drop j, ?_, asg_insert Hx.out hj⟩, b_next HB.out HB7.out⟩
            have h9 := HO7.out
            rw [show j + 1 + (k - j) = k + 1 by omega] at h9
            have e9 : intL (xs.take j ++ [(k : Int)] ++ xs.drop j) = intL (xs.take j) ++ [.int .i64 k] ++ intL (xs.drop j) := by unfold intL; rw [List.map_append, List.map_append]; rfl
            rw [e9]
            exact own_base h9 HB.out.size
          case measure => simp [intOf]; omega
        · have hgi : ¬ (k : Int) < ml := by omega
          obtain ⟨ad, had, hsl⟩ := slice_fromI g k cap k (Nat.le_refl _) hkc hcm9
          rw [Nat.sub_self] at hsl
          have hst := slice_toI g k cap k (by omega)
          have hcell : ∀ y u, (intL xs)[y]? = some u → wr.cell? ⟨g, y, none⟩ = some u := fun y u hy => by
            have := ho.cells (g := g) rfl y u hy
            rwa [addr_add, Nat.zero_add] at this
          have hn1 : ∀ y u, (intL (xs.take k))[y]? = some u → wr.cell? ((⟨g, 0, none⟩ : Addr).add y) = some u := fun y u hy => by
            rw [addr_add, Nat.zero_add]
            have hyl := (List.getElem?_eq_some_iff.1 hy).1
            rw [intL_length, List.length_take] at hyl
            unfold intL at hy
            rw [List.getElem?_map, List.getElem?_take_of_lt (by omega)] at hy
            exact hcell y u (by unfold intL; rw [List.getElem?_map]; exact hy)
          have hl1 : (intL (xs.take k)).length = k * 1 := by rw [intL_length, List.length_take, Hxl.out]; omega
          have ho1 : ∀ (zs : List Int), ∀ u ∈ intL zs, u.oneCell' = true := fun zs u hu => by
            obtain ⟨x, _, rfl⟩ := List.mem_map.1 hu
            simp [Value.oneCell']
          have HN1 := Lib.hid hn1
          have HL1 := Lib.hid hl1
          have HO1 := Lib.hid ho1
          clear hn1 hl1 ho1 hcell had
          go_wp2_with (first
            | (at_builtin; refine wpList_append_own _ rfl _ _ 24 rfl wr.heap.size 3 i0 (.int .i64 0) 1 8 Try.underlying24 hi hz0 hz1 hz2 rfl (by decide) _ _ _ rfl (World.ownsRow_nil _ _ _ _) ⟨g, 0, none⟩ k cap (intL (xs.take k)) rfl HL1.out HN1.out (HO1.out _) (by unfold maxLen; omega) (by omega) (Nat.le_refl _) ?_; intro v1 w5 hown1 hgrow1 _
               rw [Nat.zero_add, List.nil_append] at hown1
               have hg5 : wr.grownBy w5 none := hgrow1
               have HB5 : Hid (Below wr.heap.size wr w5) := ⟨hg5.os, hg5.tape, hg5.output, hg5.size, fun j hj => hg5.block j hj (by simp)⟩
               have HO5 := Lib.hid hown1
               clear hown1 hgrow1 hg5)
            | (at_builtin; refine wpList_append_own _ rfl _ _ 24 rfl wr.heap.size 3 i0 (.int .i64 0) 1 8 Try.underlying24 hi hz0 hz1 hz2 rfl (by decide) _ _ _ rfl (HO5.out.alloc (.cells #[.int .i64 k] 3)) ⟨_, 0, none⟩ 1 1 [.int .i64 k] rfl rfl (one_new _ _ _ _ (by simp)) (by simp [Value.oneCell']) (by unfold maxLen; omega) (by omega) (by have := HB5.out.size; first | (simp; done) | (simp; omega)) ?_; intro v2 w6 hown2 hgrow2 _
               have HB6 : Hid (Below wr.heap.size wr w6) := rel_push HB5.out (by have := HB5.out.size; first | (simp; done) | (simp; omega)) ((Below.refl _ _).alloc HB5.out.size _) HO5.out hgrow2
               have HO6 := Lib.hid hown2
               clear hown2 hgrow2)
            | (at_builtin; refine wpList_append_own _ rfl _ _ 24 rfl wr.heap.size 3 i0 (.int .i64 0) 1 8 Try.underlying24 hi hz0 hz1 hz2 rfl (by decide) _ _ _ rfl HO6.out ad 0 (cap - k) [] rfl rfl (fun y u hy => by simp at hy) (by simp) (by unfold maxLen; omega) (by omega) HB6.out.size ?_; intro v3 w7 hown3 hgrow3 _
               have HB7 : Hid (Below wr.heap.size wr w7) := rel_push HB6.out HB6.out.size (Below.refl _ _ |>.mono (by have := HB6.out.size; omega)) HO6.out hgrow3
               have HO7 := Lib.hid hown3
               clear hown3 hgrow3))
          go_roundw
          case rel =>
            refine ⟨k + 1, by omega, by go_num, ⟨xs.take k ++ [(k : Int)] ++ xs.drop k, ?_, asg_insert Hx.out (Nat.le_refl _)⟩, b_next HB.out HB7.out⟩
            have h9 := HO7.out
            rw [Nat.add_zero, List.append_nil] at h9
            have e9 : intL (xs.take k ++ [(k : Int)] ++ xs.drop k) = intL (xs.take k) ++ [.int .i64 k] := by
              rw [List.drop_of_length_le (by have := Hxl.out; omega), List.append_nil]
              unfold intL; rw [List.map_append]; rfl
            rw [e9]
            exact own_base h9 HB.out.size
          case measure => simp [intOf]; omega
    · obtain rfl : k = n := by omega
      have hc1 : ¬ (k : Int) < k := by omega
      obtain ⟨xs, ho, hx⟩ := HX.out
      clear HX
      go_wp2
      go_ret
      exact ⟨_, rfl, xs, ho, hx, HB.out⟩
end Go.Proofs.Ytambhhjbafefgaa

/- Arrays that came in. -/
namespace Go.Proofs.Ytambhhjbafefgaa
set_option linter.unusedVariables false
open Go.RowKit Go.ChangeShapes Go.WideShapes

theorem arrayOf2 {α : Type} {cs : Array α} (h : cs.size = 2) : ∃ c0 c1, cs = #[c0, c1] := by
  obtain ⟨l⟩ := cs
  match l, h with
  | [c0, c1], _ => exact ⟨c0, c1, rfl⟩
theorem trod_arrayOf2 {H : Type} {enc : TypeId × Value → H} {P : Program} {w : World} {base : Nat} {spare : Nat → Bool} {held : Bool} {t e : TypeId} {fuel : Nat} {c0 c1 : Value} {x : DataW H × List MemPlace} (ht : P.underlying t = some (.array 2 e)) (hce : P.cellsOf e = 1)
    (h : DataW.trod enc P w base spare held fuel t [c0, c1] = some x) :
    ∃ (y0 y1 : DataW H × List MemPlace) (n : Nat), True ∧ DataW.trod enc P w base spare held n e [c0] = some y0 ∧ DataW.trod enc P w base spare held n e [c1] = some y1 := by
  cases fuel with
  | zero => simp [DataW.trod] at h
  | succ n =>
    unfold DataW.trod at h
    rw [ht] at h
    have r : List.range 2 = [0, 1] := rfl
    simp [r, hce] at h
    obtain ⟨_, h⟩ := h
    cases h0 : DataW.trod enc P w base spare held n e [c0] with
    | none => simp [h0] at h
    | some y0 =>
      cases h1 : DataW.trod enc P w base spare held n e [c1] with
      | none => simp [h0, h1] at h
      | some y1 =>
        exact ⟨y0, y1, n, trivial, h0, h1⟩
theorem arrayOf5 {α : Type} {cs : Array α} (h : cs.size = 5) : ∃ c0 c1 c2 c3 c4, cs = #[c0, c1, c2, c3, c4] := by
  obtain ⟨l⟩ := cs
  match l, h with
  | [c0, c1, c2, c3, c4], _ => exact ⟨c0, c1, c2, c3, c4, rfl⟩
theorem trod_arrayOf5 {H : Type} {enc : TypeId × Value → H} {P : Program} {w : World} {base : Nat} {spare : Nat → Bool} {held : Bool} {t e : TypeId} {fuel : Nat} {c0 c1 c2 c3 c4 : Value} {x : DataW H × List MemPlace} (ht : P.underlying t = some (.array 5 e)) (hce : P.cellsOf e = 1)
    (h : DataW.trod enc P w base spare held fuel t [c0, c1, c2, c3, c4] = some x) :
    ∃ (y0 y1 y2 y3 y4 : DataW H × List MemPlace) (n : Nat), True ∧ DataW.trod enc P w base spare held n e [c0] = some y0 ∧ DataW.trod enc P w base spare held n e [c1] = some y1 ∧ DataW.trod enc P w base spare held n e [c2] = some y2 ∧ DataW.trod enc P w base spare held n e [c3] = some y3 ∧ DataW.trod enc P w base spare held n e [c4] = some y4 := by
  cases fuel with
  | zero => simp [DataW.trod] at h
  | succ n =>
    unfold DataW.trod at h
    rw [ht] at h
    have r : List.range 5 = [0, 1, 2, 3, 4] := rfl
    simp [r, hce] at h
    obtain ⟨_, h⟩ := h
    cases h0 : DataW.trod enc P w base spare held n e [c0] with
    | none => simp [h0] at h
    | some y0 =>
      cases h1 : DataW.trod enc P w base spare held n e [c1] with
      | none => simp [h0, h1] at h
      | some y1 =>
        cases h2 : DataW.trod enc P w base spare held n e [c2] with
        | none => simp [h0, h1, h2] at h
        | some y2 =>
          cases h3 : DataW.trod enc P w base spare held n e [c3] with
          | none => simp [h0, h1, h2, h3] at h
          | some y3 =>
            cases h4 : DataW.trod enc P w base spare held n e [c4] with
            | none => simp [h0, h1, h2, h3, h4] at h
            | some y4 =>
              exact ⟨y0, y1, y2, y3, y4, n, trivial, h0, h1, h2, h3, h4⟩
end Go.Proofs.Ytambhhjbafefgaa
