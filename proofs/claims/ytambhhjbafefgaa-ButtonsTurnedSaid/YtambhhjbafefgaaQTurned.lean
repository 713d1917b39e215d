/- ButtonsTurned: exchanging buttons with holes leaves the totals: of an assignment and what undoes it, of the cheapest ones, and the smallest width. Conditions: none. -/
import Derived.Test.YtambhhjbafefgaaQj
import Derived.Test.YtambhhjbafefgaaQh
import Derived.Test.YtambhhjbafefgaaQl
import Derived.Test.YtambhhjbafefgaaQg
import Derived.Test.YtambhhjbafefgaaQb
import Derived.Test.YtambhhjbafefgaaQe
import Derived.Test.YtambhhjbafefgaaQc
import Derived.ShutString
/- The law's ButtonsWide: its walk. -/
namespace Go.Proofs.Ytambhhjbafefgaa
set_option linter.unusedVariables false
open Go.RowKit

theorem asc_nodup (n : Nat) (l : List Int) (h : okL n l l.length = true) : l.Pairwise (· < ·) := by
  have hlt : ∀ i j, i < j → j < l.length → l.getD i 0 < l.getD j 0 := by
    intro i j
    induction j with
    | zero => intro h; omega
    | succ j ih =>
      intro hij hj
      have h1 : okAt n l (j + 1) = true := by
        unfold okL at h
        rw [List.all_eq_true] at h
        exact h (j + 1) (List.mem_range.2 hj)
      unfold okAt lastOf at h1
      have h2 := (of_decide_eq_true h1).1
      rw [if_neg (by omega), Nat.add_sub_cancel] at h2
      by_cases e : i = j
      · subst e; exact h2
      · have := ih (by omega) (by omega)
        omega
  rw [List.pairwise_iff_getElem]
  intro i j hi hj hij
  have := hlt i j hij hj
  rwa [List.getD_eq_getElem?_getD, List.getD_eq_getElem?_getD, List.getElem?_eq_getElem hi, List.getElem?_eq_getElem hj] at this
theorem wdL_ge (C : List (List Int)) (r : List Int) : ∀ k i, i < k → (C.getD i []).getD (r.getD i 0).toNat 0 ≤ wdL C r k := by
  intro k
  induction k with
  | zero => intro i hi; omega
  | succ k ih =>
    intro i hi
    show _ ≤ max (wdL C r k) _
    by_cases e : i = k
    · subst e; omega
    · have := ih i (by omega)
      omega
theorem block_sound {C : List (List Int)} (hw : costsB C = true) {wd : Int} {l : List Int} (h : blockB C wd l = true) : ∀ x ∈ asgW C, wd < widthTo C x C.length := by
  obtain ⟨hR, hp⟩ := Rect.of_costs hw
  have hn7 := hR.n7
  rw [blockB_eq hn7, Bool.and_eq_true, decide_eq_true_eq] at h
  obtain ⟨hok, hlt⟩ := h
  intro x hx
  refine Int.not_le.1 fun hle => ?_
  obtain ⟨hrl, hra, _⟩ := rowW_good hn7 hx
  rw [widthTo_eq C x _ (Nat.le_refl _)] at hle
  unfold asgB at hra
  obtain ⟨_, hb, hnd⟩ := of_decide_eq_true hra
  have hnn := okL_nonneg C.length l l.length hok
  have hin : ∀ b ∈ l, 0 ≤ b ∧ b < C.length := fun b hb => by
    obtain ⟨i, hi, rfl⟩ := List.getElem_of_mem hb
    have := hnn i hi
    rwa [List.getD_eq_getElem?_getD, List.getElem?_eq_getElem hi] at this
  -- the holes of the block's buttons
  have hgd : ∀ b : Nat, ∀ hb : b < (rowW C x).length, (rowW C x).getD b 0 = (rowW C x)[b] := fun b hb => by rw [List.getD_eq_getElem?_getD, List.getElem?_eq_getElem hb]; rfl
  have hH : (l.map fun b => (rowW C x).getD b.toNat 0).Nodup := by
    refine List.Pairwise.map _ (R := fun a b => a ∈ l ∧ b ∈ l ∧ a < b) (fun a b hab e => ?_) ((asc_nodup _ l hok).imp_of_mem fun ha hb h => ⟨ha, hb, h⟩)
    have h1 := hin a hab.1
    have h2 := hin b hab.2.1
    have h3 := hab.2.2
    rw [hgd _ (by omega), hgd _ (by omega)] at e
    have := List.pairwise_iff_getElem.1 hnd a.toNat b.toNat (by omega) (by omega) (by omega)
    exact this e
  have hHb : ∀ z ∈ l.map (fun b => (rowW C x).getD b.toNat 0), 0 ≤ z ∧ z < C.length := fun z hz => by
    obtain ⟨b, hb', rfl⟩ := List.mem_map.1 hz
    have h1 := hin b hb'
    rw [hgd _ (by omega)]
    exact hb _ (List.getElem_mem _)
  have hc := mem_count C.length _ hH hHb
  rw [List.length_map] at hc
  have hm : (List.range C.length).countP (fun j : Nat => decide ((j : Int) ∈ l.map fun b => (rowW C x).getD b.toNat 0)) ≤ (List.range C.length).countP (nbrB C wd l l.length) :=
    List.countP_mono_left fun j _ hj => by
      rw [decide_eq_true_eq] at hj
      obtain ⟨b, hb', he⟩ := List.mem_map.1 hj
      have h1 := hin b hb'
      unfold nbrB
      rw [any_getD (fun b => decide ((C.getD b.toNat []).getD j 0 ≤ wd)), List.any_eq_true]
      refine ⟨b, hb', decide_eq_true ?_⟩
      have h2 := wdL_ge C (rowW C x) C.length b.toNat (by omega)
      rw [he] at h2
      rw [show ((j : Int)).toNat = j from rfl] at h2
      omega
  omega

set_option maxRecDepth 100000 in
set_option maxHeartbeats 4000000 in
theorem wide_walk (n0 o0 o1 : Int) (tv rv : Value) (D : List (List Int)) (l0 : List Int) (w : World) (hT : TabIn w tv D) (hL : RowIn w rv l0) :
    Calls Try.prog 13 #[.int .i64 n0, tv, .agg #[.int .i64 o0, .int .i64 o1], rv] w fun e w' => e = .returned (.bool true) ∧ Below w.heap.size w w' := by
  obtain ⟨i0, hi, hz0, hz1, hz2⟩ := info_parts info_int
  have bx := below_alloc w (.cells #[.int .i64 o0, .int .i64 o1] 66)
  have hbx := World.alloc_heap_new w (.cells #[.int .i64 o0, .int .i64 o1] 66)
  have hsz : (w.alloc (.cells #[.int .i64 o0, .int .i64 o1] 66)).heap.size = w.heap.size + 1 := by simp
  generalize hWB : w.alloc (.cells #[.int .i64 o0, .int .i64 o1] 66) = WB at bx hbx hsz
  have HTm := Lib.hid fun n hn => tame_any tv D n 1000 WB (hT.below bx) hn (Nat.le_refl _)
  have HOr := Lib.hid fun n W hn hb => order_any rv l0 n W (hL.below (b_next bx hb)) hn
  have HW := Lib.hid awake_any
  have Bx := Lib.hid bx
  have Hbx := Lib.hid hbx
  clear hT hL bx hbx
  go_enter Try.func13, Try.ntmps13
  go_wp2_with fail
  clear hWB
  refine (mod_any n0 7 _ (by decide) (by decide)).mono ?_
  rintro e w1 ⟨⟨r, hr, rfl⟩, rfl⟩
  have hw1 : IntKind.i64.wrap (1 + (r : Int)) = ((1 + r : Nat) : Int) := by rw [IntWalk.i64_in _ (by omega)]; omega
  obtain ⟨n, hn⟩ : ∃ n, 1 + r = n := ⟨_, rfl⟩
  have hn1 : 1 ≤ n := by omega
  have hn7 : n ≤ 7 := by omega
  rw [hn] at hw1
  clear hn
  go_wp2_with fail
  refine (HTm.out n hn7).mono ?_
  rintro e w2 ⟨v, C, rfl, hl, hCl, hCt, b2⟩
  have hcb := costs_of_tamed hCl hCt hn1 hn7 (by decide)
  obtain ⟨a, cap, rfl, hcap, hcm, ht⟩ := hl.tbl
  rw [hCl] at hcap ⊢
  obtain ⟨hRe, hp⟩ := Rect.of_costs hcb
  have hN := fun a cap w h => Narrow_yes C a cap w h hcb
  obtain ⟨r0, _, _, hwid, hmem, hmin⟩ := nar_same hcb
  have hblk := fun l (h : BlockRes C ((narW C).2 - 1) l) => nar_block hcb h
  have hlen := fun l (h : BlockRes C ((narW C).2 - 1) l) => block_len hRe.n7 (nar_block hcb h)
  have hin2 : -1000 ≤ (narW C).2 ∧ (narW C).2 ≤ 1001 := narL_in hRe (asgW C)
  have hsnd := fun (wd : Int) (l : List Int) (h : blockB C wd l = true) => block_sound hcb h _ hmem
  rw [← hwid] at hsnd
  obtain ⟨zs, hzs⟩ : ∃ z, (narW C).1.holes.take C.length = z := ⟨_, rfl⟩
  rw [widthTo_eq C _ _ (Nat.le_refl _), show rowW C (narW C).1 = zs from hzs] at hwid
  obtain ⟨hzl, hza, _⟩ := rowW_good hRe.n7 hmem
  rw [show rowW C (narW C).1 = zs from hzs] at hzl hza
  have hge : ∀ os, asgB os C.length = true → (narW C).2 ≤ wdL C os C.length := fun os h => by
    unfold asgB at h
    obtain ⟨h1, h2, h3⟩ := of_decide_eq_true h
    have h4 := allL_mem h3 h2 C.length (by omega)
    rw [List.take_of_length_le (by omega), ← asgW_rows hRe.n7] at h4
    obtain ⟨x, hx, hxe⟩ := List.mem_map.1 h4
    have h5 := hmin x hx
    rwa [widthTo_eq C x _ (Nat.le_refl _), show rowW C x = os from hxe] at h5
  obtain ⟨k, hk⟩ : ∃ k, (narW C).2 = k := ⟨_, rfl⟩
  rw [hzs] at hN
  rw [hk] at hN hblk hlen hin2 hwid hsnd hge
  have hrg : ∀ os, asgB os C.length = true → ∀ x ∈ os, 0 ≤ x ∧ x < C.length := fun os h => by
    unfold asgB at h
    exact (of_decide_eq_true h).2.1
  have hIb := fun a b cap cb q wd l w h hl hq => IsBlock_any C a b cap cb q wd l w h (by omega) (fun row hrow => by have := hRe.len row hrow; omega) hl hq
  rw [hcb] at hIb
  simp only [Bool.true_and, if_true] at hIb
  have hRa := fun a ca w h => refAssignment_any a C.length C.length ca zs w h hRe.n7 (by omega)
  rw [hza] at hRa
  have hRw := fun os (ho : asgB os C.length = true) a a2 cap ca w h ha => refWidth_any C a a2 cap C.length ca os w hRe rfl hp (hrg os ho) h ha
  rw [hCl] at hN hIb hRa hRw hwid hge hza
  have T2 := Lib.hid ht
  have B2 := Lib.hid (b_next Bx.out b2)
  have HB2 := Lib.hid b2
  have HN := Lib.hid hN
  have HIb := Lib.hid hIb
  have HRa := Lib.hid hRa
  have HRw := Lib.hid hRw
  have Hblk := Lib.hid hblk
  have Hlen := Lib.hid hlen
  have Hsnd := Lib.hid hsnd
  have Hge := Lib.hid hge
  have Hwid := Lib.hid hwid
  have Hza := Lib.hid hza
  clear hl hCl hCt b2 hcb ht hRe hp hN hblk hlen hsnd hwid hmem hmin hzs hzl hza hge hk hrg hIb hRa hRw
  go_wp2_with fail
  refine (HN.out _ _ _ T2.out).mono ?_
  rintro e w3 ⟨u1, u2, l, rfl, ho1, ho2, hres, b3⟩
  obtain ⟨a3, c3, rfl, hR3⟩ := Row.of_own ho1
  obtain ⟨a4, c4, rfl, hR4⟩ := Row.of_own ho2
  have hbl := Hblk.out l hres
  have hll := Hlen.out l hres
  have hbn : blockB C k l = false := by
    cases h : blockB C k l with
    | false => rfl
    | true => have := Hsnd.out k l h; omega
  have hI1 := fun a b cap cb q w h hl hq => HIb.out a b cap cb q (k - 1) l w h hl hq
  have hI2 := fun a b cap cb q w h hl hq => HIb.out a b cap cb q k l w h hl hq
  rw [hbl] at hI1
  rw [hbn] at hI2
  obtain ⟨ml, hml⟩ : ∃ q, l.length = q := ⟨_, rfl⟩
  rw [hml] at hR4 hll ⊢
  have HI1 := Lib.hid hI1
  have HI2 := Lib.hid hI2
  have T3 := Lib.hid (T2.out.below b3)
  have R3 := Lib.hid hR3
  have R4 := Lib.hid hR4
  have B3 := Lib.hid (b_next B2.out b3)
  have X3 := Lib.hid (b_next HB2.out b3)
  clear b3 T2 B2 HB2 ho1 ho2 hR3 hR4 hbl hbn hres hI1 hI2 hml
  go_wp2_with fail
  refine (HOr.out n _ hn7 X3.out).mono ?_
  rintro e w4 ⟨v4, os, rfl, ho4, hasg, b4⟩
  obtain ⟨a5, c5, rfl, hR5⟩ := Row.of_own ho4
  have hov := Hge.out os hasg
  have hRw2 := HRw.out os hasg
  have hRw1 := HRw.out zs Hza.out
  rw [← Hwid.out] at hRw1
  obtain ⟨wo, hwo⟩ : ∃ x, wdL C os n = x := ⟨_, rfl⟩
  rw [hwo] at hov hRw2
  have HRw1 := Lib.hid hRw1
  have HRw2 := Lib.hid hRw2
  have T4 := Lib.hid (T3.out.below b4)
  have S4 := Lib.hid (R3.out.below b4)
  have L4 := Lib.hid (R4.out.below b4)
  have R5 := Lib.hid hR5
  have B4 := Lib.hid (b_next B3.out b4)
  have X4 := Lib.hid (b_next X3.out b4)
  have hnl : ¬ wo < k := by omega
  clear b4 T3 R3 R4 B3 X3 ho4 hR5 hasg hRw1 hRw2 hwo hov
  go_wp2_with fail
  refine (HRa.out _ _ _ S4.out).mono ?_
  rintro e w5 ⟨rfl, q5, rfl⟩
  go_wp2_with fail
  refine (HRw1.out _ _ _ _ _ (T4.out.drewN _) (S4.out.drewN _)).mono ?_
  rintro e w6 ⟨rfl, q6, rfl⟩
  go_wp2_with fail
  refine (HRw2.out _ _ _ _ _ (T4.out.drewN _) (R5.out.drewN _)).mono ?_
  rintro e w7 ⟨rfl, q7, rfl⟩
  have hw2 : IntKind.i64.wrap (k - 1) = k - 1 := IntWalk.i64_in _ (by omega)
  go_wp2_with fail
  refine (HI1.out _ _ _ _ _ _ (T4.out.drewN _) (L4.out.drewN _) (by omega)).mono ?_
  rintro e w8 ⟨rfl, rfl⟩
  go_wp2_with fail
  refine (HI2.out _ _ _ _ _ _ (T4.out.drewN _) (L4.out.drewN _) (by omega)).mono ?_
  rintro e w9 ⟨rfl, rfl⟩
  have hX5 := below_drewN X4.out (q5 + q6 + q7)
  have hB5 := below_drewN B4.out (q5 + q6 + q7)
  have hT5 := T4.out.drewN (q5 + q6 + q7)
  have hbx := (hX5.block _ (by omega)).trans Hbx.out
  generalize w4.drewN (q5 + q6 + q7) = W5 at hX5 hB5 hT5 hbx ⊢
  have T5 := Lib.hid hT5
  have B5 := Lib.hid hB5
  have Hb5 := Lib.hid hbx
  have hls := (Array.getElem?_eq_some_iff.1 hbx).1
  clear hX5 hB5 hT5 hbx T4 S4 L4 R5 B4 X4
  go_wp2
  go_loopw [19, 20] (fun v i wr => ∃ (L : List Int) (ii : Nat), ii ≤ n ∧ L.length ≤ ii ∧ i = .int .i64 ii ∧ wr.ownsRow W5.heap.size 3 1 v L.length (intL L) ∧ Below W5.heap.size W5 wr) (fun _ i _ => n - (intOf i).toNat)
  case atStart => exact ⟨[], 0, Nat.zero_le _, Nat.le_refl _, rfl, World.ownsRow_nil _ _ _ _, Below.refl _ _⟩
  case round =>
    obtain ⟨L, j, hj, hLj, rfl, ho, hB⟩ := hrel
    have hb6 := (hB.block _ hls).trans Hb5.out
    have s0 : wr.cell? ⟨w.heap.size, 0, none⟩ = some (.int .i64 o0) := by simp [World.cell?, hb6]
    have s1 : wr.cell? ⟨w.heap.size, 1, none⟩ = some (.int .i64 o1) := by simp [World.cell?, hb6]
    obtain ⟨m, hm⟩ : ∃ m, L.length = m := ⟨_, rfl⟩
    rw [hm] at hLj ho
    have HB := Lib.hid hB
    have HO := Lib.hid ho
    have Hm := Lib.hid hm
    clear hb6 hB ho hm
    by_cases hlt : j < n
    · have hc : (j : Int) < n := by omega
      go_wp2_with fail
      refine (mod_any o0 128 _ (by decide) (by decide)).mono ?_
      rintro e w5 ⟨⟨r2, hr2, rfl⟩, hw5⟩
      have hw6 := hw5.symm
      clear hw5
      subst hw6
      clear s0 s1
      go_wp2_with (at_builtin; refine wpList_append_own _ rfl _ _ 24 rfl W5.heap.size 3 i0 (.int .i64 0) 1 8 Try.underlying24 hi hz0 hz1 hz2 rfl (by decide) _ _ _ rfl (HO.out.alloc (.cells #[.int .i64 j] 3)) ⟨_, 0, none⟩ 1 1 [.int .i64 j] rfl rfl (one_new _ _ _ _ (by simp)) (by simp [Value.oneCell']) (by unfold maxLen; omega) (by omega) (by have := HB.out.size; simp; omega) ?_; intro v2 w6 hown2 hgrow2 _
                   have HB6 : Hid (Below W5.heap.size W5 w6) := rel_push HB.out (by have := HB.out.size; simp; omega) ((Below.refl _ _).alloc HB.out.size _) HO.out hgrow2
                   have HO6 := Lib.hid hown2
                   clear hown2 hgrow2)
      all_goals
        go_roundw
        case rel =>
          first
            | exact ⟨L ++ [(j : Int)], j + 1, by omega, by rw [List.length_append, Hm.out]; show m + 1 ≤ _; omega, by go_num, by rw [List.length_append, Hm.out]; unfold intL; rw [List.map_append]; exact HO6.out, HB6.out⟩
            | exact ⟨L, j + 1, by omega, by rw [Hm.out]; omega, by go_num, by rw [Hm.out]; exact HO.out, HB.out⟩
        case measure => simp [intOf]; omega
    · obtain rfl : j = n := by omega
      have hc : ¬ (j : Int) < j := by omega
      obtain ⟨a6, c6, hv6, hR6⟩ := Row.of_own HO.out
      subst hv6
      have R6 := Lib.hid hR6
      have T6 := Lib.hid (T5.out.below HB.out)
      have B6 := Lib.hid (b_next B5.out HB.out)
      clear hR6 HO T5 B5 s0
      go_wp2_with fail
      refine (mod_any o1 50 _ (by decide) (by decide)).mono ?_
      rintro e w5 ⟨⟨r3, hr3, rfl⟩, hw5⟩
      have hw6 := hw5.symm
      clear hw5
      subst hw6
      have hw7 : IntKind.i64.wrap (k - (r3 : Int)) = k - (r3 : Int) := IntWalk.i64_in _ (by omega)
      obtain ⟨mo, hmo⟩ : ∃ x, k - (r3 : Int) = x := ⟨_, rfl⟩
      have hI3 := fun a b cap cb w h hl => HIb.out a b cap cb m mo L w h hl (by omega)
      obtain ⟨hb, hhb⟩ : ∃ b, blockB C mo L = b := ⟨_, rfl⟩
      rw [hhb] at hI3
      have HI3 := Lib.hid hI3
      have hw8 : IntKind.i64.wrap (k - (r3 : Int)) = mo := hw7.trans hmo
      clear hI3 hmo s1 hw7
      go_wp2_with fail
      refine (HI3.out _ _ _ _ _ T6.out R6.out).mono ?_
      rintro e w8 ⟨rfl, rfl⟩
      cases hb with
      | false =>
        clear hhb
        go_wp2_with fail
        refine (HW.out _).mono ?_
        rintro e w9 ⟨rfl, b9⟩
        go_wp2
        go_ret
        exact ⟨rfl, b_next B6.out b9⟩
      | true =>
        have hmk : mo < k := Hsnd.out mo L hhb
        clear hhb
        go_wp2_with fail
        refine (HW.out _).mono ?_
        rintro e w9 ⟨rfl, b9⟩
        go_wp2
        go_ret
        exact ⟨rfl, b_next B6.out b9⟩
theorem walk_ButtonsWide (n0 : Int) (_ : (Lit.int .i64 n0).wf = true) (tv : Value) (D : List (List Int)) (w : World) (hT : TabIn w tv D) (o0 o1 : Int) (rv : Value) (l : List Int) (hR : RowIn w rv l) :
    Calls Try.prog 13 #[.int .i64 n0, tv, .agg #[.int .i64 o0, .int .i64 o1], rv] w fun e w' => e = .returned (.bool true) ∧ Below w.heap.size w w' :=
  wide_walk n0 o0 o1 tv rv D l w hT hR
end Go.Proofs.Ytambhhjbafefgaa

/- A table with buttons and holes exchanged: mathematics. -/
namespace Go.Proofs.Ytambhhjbafefgaa
set_option linter.unusedVariables false

/-- s undoes r -/
structure Undo (n : Nat) (r s : List Int) : Prop where
  left : PermR n r
  right : PermR n s
  lr : ∀ k, k < n → s.getD (r.getD k 0).toNat 0 = k
  rl : ∀ k, k < n → r.getD (s.getD k 0).toNat 0 = k
theorem Undo.symm {n : Nat} {r s : List Int} (h : Undo n r s) : Undo n s r := ⟨h.right, h.left, h.rl, h.lr⟩
theorem PermR.at {n : Nat} {r : List Int} (h : PermR n r) {k : Nat} (hk : k < n) : ∃ x : Nat, x < n ∧ r.getD k 0 = x ∧ r[k]? = some (x : Int) := by
  have h1 : r[k]? = some (r.getD k 0) := by rw [List.getD_eq_getElem?_getD, List.getElem?_eq_getElem (by rw [h.1]; exact hk)]; rfl
  have h2 := h.2.2 _ (List.mem_of_getElem? h1)
  have h3 : r.getD k 0 = ((r.getD k 0).toNat : Int) := by omega
  exact ⟨(r.getD k 0).toNat, by omega, h3, by rw [← h3]; exact h1⟩
theorem undo_ex {n : Nat} {r : List Int} (hP : PermR n r) : ∃ s, Undo n r s := by
  obtain ⟨ix, h1, h2⟩ := perm_own hP
  have hg : ∀ k, k < n → ((List.range n).map fun g => (ix g : Int)).getD k 0 = (ix k : Int) := fun k hk => by
    rw [List.getD_eq_getElem?_getD, List.getElem?_map, List.getElem?_range hk]; rfl
  refine ⟨(List.range n).map fun g => (ix g : Int), hP, ⟨by simp, ?_, fun x hx => ?_⟩, fun k hk => ?_, fun k hk => ?_⟩
  · refine List.pairwise_iff_getElem.2 fun p q hp hq hpq he => ?_
    simp only [List.length_map, List.length_range] at hp hq
    simp only [List.getElem_map, List.getElem_range] at he
    have e1 := (h2 p hp).2
    have e2 := (h2 q hq).2
    rw [show ix p = ix q by omega] at e1
    omega
  · obtain ⟨g, hgm, rfl⟩ := List.mem_map.1 hx
    have := (h2 g (List.mem_range.1 hgm)).1
    omega
  · have := h1 k hk
    rw [hg _ this.1, this.2]
  · have := h2 k hk
    obtain ⟨x, hx, e1, _⟩ := hP.at this.1
    rw [hg k hk, Int.toNat_natCast, e1]
    rw [e1] at this
    omega
theorem undo_one {n : Nat} {r r' s : List Int} (h : Undo n r s) (h' : Undo n r' s) : r = r' := by
  refine List.ext_getElem? fun k => ?_
  by_cases hk : k < n
  · obtain ⟨x, hx, e1, e2⟩ := h.left.at hk
    obtain ⟨y, hy, e3, e4⟩ := h'.left.at hk
    have h1 := h.lr k hk
    have h2 := h'.rl x hx
    rw [e1, Int.toNat_natCast] at h1
    rw [h1, Int.toNat_natCast, e3] at h2
    rw [e2, e4, h2]
  · rw [List.getElem?_eq_none (by rw [h.left.1]; omega), List.getElem?_eq_none (by rw [h'.left.1]; omega)]
theorem nodup_sub {α : Type} [DecidableEq α] : ∀ (a b : List α), a.Nodup → (∀ x ∈ a, x ∈ b) → a.length ≤ b.length
  | [], _, _, _ => Nat.zero_le _
  | x :: a, b, h, hs => by
    have hn := List.nodup_cons.1 h
    have hx := hs x (by simp)
    have h1 := nodup_sub a (b.erase x) hn.2 fun y hy => (List.mem_erase_of_ne (fun e => hn.1 (by rw [← e]; exact hy))).2 (hs y (by simp [hy]))
    rw [List.length_erase_of_mem hx] at h1
    have h2 := List.length_pos_of_mem hx
    rw [List.length_cons]; omega
theorem cmpL_nlt (a : List Int) : ¬ cmpL a a < 0 := fun h => cmpL_asymm a a h h
theorem allL_nodup (n : Nat) : (allL n n).Nodup := (allL_sorted n n).imp fun h e => by subst e; exact cmpL_nlt _ h
theorem map_nodup {α β : Type} (f : α → β) : ∀ l : List α, l.Nodup → (∀ x ∈ l, ∀ y ∈ l, f x = f y → x = y) → (l.map f).Nodup
  | [], _, _ => List.nodup_nil
  | x :: l, h, hf => by
    have hn := List.nodup_cons.1 h
    rw [List.map_cons, List.nodup_cons]
    refine ⟨fun hm => ?_, map_nodup f l hn.2 fun a ha b hb => hf a (by simp [ha]) b (by simp [hb])⟩
    obtain ⟨y, hy, e⟩ := List.mem_map.1 hm
    have := hf y (by simp [hy]) x (by simp) e
    exact hn.1 (this ▸ hy)
theorem count_undo_le {n : Nat} {p q : List Int → Bool} (h : ∀ r s, Undo n r s → p r = q s) : (allL n n).countP p ≤ (allL n n).countP q := by
  have hex : ∀ r, ∃ s, r ∈ allL n n → Undo n r s := fun r => by
    by_cases hr : r ∈ allL n n
    · obtain ⟨s, hs⟩ := undo_ex (allL_good n n r hr)
      exact ⟨s, fun _ => hs⟩
    · exact ⟨[], fun h => absurd h hr⟩
  obtain ⟨f, hf⟩ := Classical.axiomOfChoice hex
  rw [List.countP_eq_length_filter, List.countP_eq_length_filter, ← List.length_map (f := f)]
  refine nodup_sub _ _ (map_nodup f _ (List.Nodup.sublist List.filter_sublist (allL_nodup n)) fun x hx y hy e => ?_) fun s hs => ?_
  · have h1 := hf x (List.mem_filter.1 hx).1
    have h2 := hf y (List.mem_filter.1 hy).1
    rw [e] at h1
    exact undo_one h1 h2
  · obtain ⟨r, hr, rfl⟩ := List.mem_map.1 hs
    obtain ⟨h1, h2⟩ := List.mem_filter.1 hr
    have h3 := hf r h1
    exact List.mem_filter.2 ⟨h3.right.mem, by rw [← h r _ h3]; exact h2⟩
theorem count_undo {n : Nat} {p q : List Int → Bool} (h : ∀ r s, Undo n r s → p r = q s) : (allL n n).countP p = (allL n n).countP q :=
  Nat.le_antisymm (count_undo_le h) (count_undo_le fun r s hu => (h s r hu.symm).symm)

structure Turn (C D : List (List Int)) : Prop where
  len : D.length = C.length
  at' : ∀ x y, x < C.length → y < C.length → cost D y x = cost C x y
theorem Turn.symm {C D : List (List Int)} (h : Turn C D) : Turn D C := ⟨h.len.symm, fun x y hx hy => (h.at' y x (by rw [← h.len]; exact hy) (by rw [← h.len]; exact hx)).symm⟩
theorem Turn.tot {C D : List (List Int)} (h : Turn C D) {r s : List Int} (hu : Undo C.length r s) : totL D C.length s = totL C C.length r := by
  have e1 : totL C C.length r = sumTo (fun k => cost C k (r.getD k 0).toNat) C.length := wayP_sum C r C.length
  have e2 : totL D C.length s = sumTo (fun k => cost D k (s.getD k 0).toNat) C.length := wayP_sum D s C.length
  have e3 := sumTo_perm (n := C.length) (fun k => cost D k (s.getD k 0).toNat) (fun b => (r.getD b 0).toNat) (fun g => (s.getD g 0).toNat)
    (fun b hb => by
      obtain ⟨x, hx, e, _⟩ := hu.left.at hb
      have := hu.lr b hb
      rw [e, Int.toNat_natCast] at this
      exact ⟨by omega, by rw [e, Int.toNat_natCast]; omega⟩)
    (fun b hb => by
      obtain ⟨x, hx, e, _⟩ := hu.right.at hb
      have := hu.rl b hb
      rw [e, Int.toNat_natCast] at this
      exact ⟨by omega, by rw [e, Int.toNat_natCast]; omega⟩)
  rw [e1, e2, ← e3]
  refine sumTo_congr _ fun b hb => ?_
  obtain ⟨x, hx, e, _⟩ := hu.left.at hb
  have h1 := hu.lr b hb
  show cost D (r.getD b 0).toNat (s.getD (r.getD b 0).toNat 0).toNat = cost C b (r.getD b 0).toNat
  rw [h1, Int.toNat_natCast, e, Int.toNat_natCast]
  exact h.at' b x hb hx
theorem Turn.best_le {C D : List (List Int)} (h : Turn C D) (hC : costsB C = true) (hD : costsB D = true) : (bestW D).t ≤ (bestW C).t := by
  obtain ⟨⟨r, h1, h2⟩, _⟩ := best_tot hC
  obtain ⟨_, h6⟩ := best_tot hD
  obtain ⟨s, hs⟩ := undo_ex (allL_good _ _ r h1)
  have h3 := h6 s (by rw [h.len]; exact hs.right.mem)
  rw [h.len, h.tot hs] at h3
  omega
theorem Turn.best {C D : List (List Int)} (h : Turn C D) (hC : costsB C = true) (hD : costsB D = true) : (bestW D).t = (bestW C).t :=
  Int.le_antisymm (h.best_le hC hD) (h.symm.best_le hD hC)
theorem wdL_le (C : List (List Int)) (r : List Int) (B : Int) (hB : -1000 ≤ B) : ∀ k, (∀ i, i < k → cost C i (r.getD i 0).toNat ≤ B) → wdL C r k ≤ B
  | 0, _ => hB
  | k + 1, h => by
    have h1 := wdL_le C r B hB k fun i hi => h i (by omega)
    have h2 := h k (by omega)
    show max (wdL C r k) (cost C k (r.getD k 0).toNat) ≤ B
    omega
theorem Turn.width_le {C D : List (List Int)} (h : Turn C D) {r s : List Int} (hu : Undo C.length r s) : wdL D s C.length ≤ wdL C r C.length := by
  refine wdL_le _ _ _ (wdL_mono C r (Nat.zero_le _)) _ fun i hi => ?_
  obtain ⟨x, hx, e, _⟩ := hu.right.at hi
  have h1 := hu.rl i hi
  have h2 := wdL_ge C r C.length x hx
  rw [e, Int.toNat_natCast] at h1 ⊢
  rw [h1, Int.toNat_natCast] at h2
  rw [h.at' x i hx hi]
  exact h2
theorem Turn.nar_le {C D : List (List Int)} (h : Turn C D) (hC : costsB C = true) (hD : costsB D = true) : (narW D).2 ≤ (narW C).2 := by
  obtain ⟨hR, _⟩ := Rect.of_costs hC
  obtain ⟨hRD, _⟩ := Rect.of_costs hD
  obtain ⟨_, _, _, hwid, hmem, _⟩ := nar_same hC
  obtain ⟨_, _, _, _, _, hmin⟩ := nar_same hD
  have hr : rowW C (narW C).1 ∈ allL C.length C.length := by
    rw [← asgW_rows hR.n7]
    exact List.mem_map.2 ⟨_, hmem, rfl⟩
  obtain ⟨s, hs⟩ := undo_ex (allL_good _ _ _ hr)
  have hsm : s ∈ allL D.length D.length := by rw [h.len]; exact hs.right.mem
  rw [← asgW_rows hRD.n7] at hsm
  obtain ⟨y, hy, hye⟩ := List.mem_map.1 hsm
  have h1 := hmin y hy
  rw [widthTo_eq D y _ (Nat.le_refl _), show rowW D y = s from hye, h.len] at h1
  rw [widthTo_eq C _ _ (Nat.le_refl _)] at hwid
  have h2 := h.width_le hs
  omega
theorem Turn.nar {C D : List (List Int)} (h : Turn C D) (hC : costsB C = true) (hD : costsB D = true) : (narW D).2 = (narW C).2 :=
  Int.le_antisymm (h.nar_le hC hD) (h.symm.nar_le hD hC)
theorem Turn.within {C D : List (List Int)} (h : Turn C D) (hC : costsB C = true) (hD : costsB D = true) (m : Int) : witR D m = witR C m := by
  obtain ⟨hR, _⟩ := Rect.of_costs hC
  unfold witR
  rw [hC, hD, wit_same hR.n7, wit_same (C := D) (by rw [h.len]; exact hR.n7), h.len]
  simp only [if_true, Prod.mk.injEq, and_true]
  rw [count_undo (n := C.length) (p := witP C C.length m) (q := witP D C.length m) fun r s hu => ?_]
  unfold witP
  rw [show (wayP D s C.length).t = (wayP C r C.length).t from h.tot hu]
end Go.Proofs.Ytambhhjbafefgaa

/- The law's ButtonsShifted: its walk. -/
namespace Go.Proofs.Ytambhhjbafefgaa
set_option linter.unusedVariables false
open Go.RowKit

/-- the table after x rounds -/
def shf (C : List (List Int)) (i j : Nat) (a b : Int) (x p q : Nat) : Int := cost C p q + (if q = j ∧ p < x then b else 0) + (if p = i ∧ q < x then a else 0)
theorem shf_step (C : List (List Int)) (i j : Nat) (a b : Int) (x p q : Nat) :
    (if p = i ∧ q = x then (if i = x ∧ x = j then shf C i j a b x x j + b else shf C i j a b x i x) + a else if p = x ∧ q = j then shf C i j a b x x j + b else shf C i j a b x p q) = shf C i j a b (x + 1) p q := by
  unfold shf
  by_cases h1 : p = i <;> by_cases h2 : q = x <;> by_cases h3 : p = x <;> by_cases h4 : q = j <;> simp_all <;> split <;> (try split) <;> (try split) <;> omega
theorem shf_bound {C : List (List Int)} {n : Nat} {a b : Int} (hC : ∀ p q, -400 ≤ cost C p q ∧ cost C p q ≤ 400) (ha : -300 ≤ a ∧ a ≤ 300) (hb : -300 ≤ b ∧ b ≤ 300) (i j x p q : Nat) : -1000 ≤ shf C i j a b x p q ∧ shf C i j a b x p q ≤ 1000 := by
  have := hC p q
  unfold shf
  split <;> split <;> omega
theorem tamed_cost {C : List (List Int)} {n : Nat} {m : Int} (h : Tamed n m C) (hm : 0 ≤ m) (i j : Nat) : -m ≤ cost C i j ∧ cost C i j ≤ m := by
  unfold cost
  cases hi : C[i]? with
  | none => rw [List.getD_eq_getElem?_getD (l := C), hi]; simp; omega
  | some row =>
    rw [List.getD_eq_getElem?_getD (l := C), hi, Option.getD_some]
    cases hj : row[j]? with
    | none => rw [List.getD_eq_getElem?_getD, hj]; simp; omega
    | some x => rw [List.getD_eq_getElem?_getD, hj]; exact (h row (List.mem_of_getElem? hi)).2 x (List.mem_of_getElem? hj)
theorem matL_tamed {n : Nat} {m : Int} {f : Nat → Nat → Int} (h : ∀ p q, -m ≤ f p q ∧ f p q ≤ m) : Tamed n m (matL n f) := fun row hrow => by
  obtain ⟨p, _, rfl⟩ := List.mem_map.1 hrow
  exact ⟨by simp, fun x hx => by obtain ⟨q, _, rfl⟩ := List.mem_map.1 hx; exact h p q⟩

set_option maxRecDepth 100000 in
set_option maxHeartbeats 4000000 in
theorem shf_walk (n0 o0 o1 o2 o3 o4 : Int) (tv : Value) (D : List (List Int)) (w : World) (hT : TabIn w tv D) :
    Calls Try.prog 9 #[.int .i64 n0, tv, .agg #[.int .i64 o0, .int .i64 o1, .int .i64 o2, .int .i64 o3, .int .i64 o4]] w fun e w' => e = .returned (.bool true) ∧ Below w.heap.size w w' := by
  have bx := below_alloc w (.cells #[.int .i64 o0, .int .i64 o1, .int .i64 o2, .int .i64 o3, .int .i64 o4] 58)
  have hbx := World.alloc_heap_new w (.cells #[.int .i64 o0, .int .i64 o1, .int .i64 o2, .int .i64 o3, .int .i64 o4] 58)
  have hsz : (w.alloc (.cells #[.int .i64 o0, .int .i64 o1, .int .i64 o2, .int .i64 o3, .int .i64 o4] 58)).heap.size = w.heap.size + 1 := by simp
  generalize hWB : w.alloc (.cells #[.int .i64 o0, .int .i64 o1, .int .i64 o2, .int .i64 o3, .int .i64 o4] 58) = WB at bx hbx hsz
  have HTm := Lib.hid fun n hn => tame_any tv D n 400 WB (hT.below bx) hn (by decide)
  have HW := Lib.hid awake_any
  have Bx := Lib.hid bx
  have Hbx := Lib.hid hbx
  clear hT bx hbx
  go_enter Try.func9, Try.ntmps9
  go_wp2_with fail
  clear hWB
  refine (mod_any n0 6 _ (by decide) (by decide)).mono ?_
  rintro e w1 ⟨⟨r, hr, rfl⟩, rfl⟩
  have hw1 : IntKind.i64.wrap (1 + (r : Int)) = ((1 + r : Nat) : Int) := by rw [IntWalk.i64_in _ (by omega)]; omega
  obtain ⟨n, hn⟩ : ∃ n, 1 + r = n := ⟨_, rfl⟩
  have hn1 : 1 ≤ n := by omega
  have hn7 : n ≤ 7 := by omega
  rw [hn] at hw1
  clear hn
  go_wp2_with fail
  refine (HTm.out n hn7).mono ?_
  rintro e w2 ⟨v, C, rfl, hl, hCl, hCt, b2⟩
  have hcb := costs_of_tamed hCl hCt hn1 hn7 (by decide)
  obtain ⟨a, cap, rfl, hcap, hcm, ht⟩ := hl.tbl
  rw [hCl] at hcap ⊢
  -- the five numbers
  have hb2 := (b2.block _ (by omega)).trans Hbx.out
  have s0 : w2.cell? ⟨w.heap.size, 0, none⟩ = some (.int .i64 o0) := by simp [World.cell?, hb2]
  have s1 : w2.cell? ⟨w.heap.size, 1, none⟩ = some (.int .i64 o1) := by simp [World.cell?, hb2]
  have s2 : w2.cell? ⟨w.heap.size, 2, none⟩ = some (.int .i64 o2) := by simp [World.cell?, hb2]
  have s3 : w2.cell? ⟨w.heap.size, 3, none⟩ = some (.int .i64 o3) := by simp [World.cell?, hb2]
  have hls := (Array.getElem?_eq_some_iff.1 hb2).1
  have hi := modV_lt o0 n hn1
  have hj := modV_lt o1 n hn1
  have ha := modV_lt o2 601 (by decide)
  have hb := modV_lt o3 601 (by decide)
  have h0 := fun W => mod_val o0 n W hn1 (by omega)
  have h1 := fun W => mod_val o1 n W hn1 (by omega)
  have h2 := fun W => mod_val o2 601 W (by decide) (by decide)
  have h3 := fun W => mod_val o3 601 W (by decide) (by decide)
  generalize modV o0 n = i at hi h0
  generalize modV o1 n = j at hj h1
  generalize modV o2 601 = a0 at ha h2
  generalize modV o3 601 = b0 at hb h3
  have wa : IntKind.i64.wrap ((a0 : Int) - 300) = (a0 : Int) - 300 := IntWalk.i64_in _ (by omega)
  have wb : IntKind.i64.wrap ((b0 : Int) - 300) = (b0 : Int) - 300 := IntWalk.i64_in _ (by omega)
  have H0 := Lib.hid h0
  have H1 := Lib.hid h1
  have H2 := Lib.hid h2
  have H3 := Lib.hid h3
  have T2 := Lib.hid ht
  have B2 := Lib.hid (b_next Bx.out b2)
  have X2 := Lib.hid b2
  have Hcb := Lib.hid hcb
  have HCl := Lib.hid hCl
  have HCt := Lib.hid hCt
  have Hb2 := Lib.hid hb2
  clear hl hCl hCt b2 hcb ht h0 h1 h2 h3 hb2
  go_wp2
  go_quiet (first
    | (go_at_call 48; with_reducible exact Calls.quiet_of_same (H0.out _))
    | (go_at_call 48; with_reducible exact Calls.quiet_of_same (H1.out _))
    | (go_at_call 48; with_reducible exact Calls.quiet_of_same (H2.out _))
    | (go_at_call 48; with_reducible exact Calls.quiet_of_same (H3.out _)))
  rename_i nq
  have hT3 := T2.out.drewN nq
  have hB3 := below_drewN B2.out nq
  have hb3 : (w2.drewN nq).heap[w.heap.size]? = _ := Hb2.out
  have hsz3 : w.heap.size < (w2.drewN nq).heap.size := hls
  obtain ⟨av, hav⟩ : ∃ x, (a0 : Int) - 300 = x := ⟨_, rfl⟩
  obtain ⟨bv, hbv⟩ : ∃ x, (b0 : Int) - 300 = x := ⟨_, rfl⟩
  rw [hav, hbv]
  have hav2 : -300 ≤ av ∧ av ≤ 300 := by omega
  have hbv2 : -300 ≤ bv ∧ bv ≤ 300 := by omega
  clear hav hbv wa wb H0 H1 H2 H3 ha hb s0 s1 s2 s3 hls
  generalize w2.drewN nq = w3 at hT3 hB3 hb3 hsz3 ⊢
  have hcst : ∀ p q, -400 ≤ cost C p q ∧ cost C p q ≤ 400 := tamed_cost HCt.out (by decide)
  have hrn : ∀ row ∈ C, row.length = n := fun row h => (HCt.out row h).1
  have hcut : cutT C = matL n (cost C) := (cutT_small (by have := HCl.out; omega) (fun row h => by have := hrn row h; omega)).trans (matL_of HCl.out hrn)
  have Hcut := Lib.hid hcut
  have Hcst := Lib.hid hcst
  have Hrn := Lib.hid hrn
  have T3 := Lib.hid hT3
  have B3 := Lib.hid hB3
  have Hb3 := Lib.hid hb3
  clear T2 B2 X2 Hb2 hT3 hB3 hb3 hcst hrn hcut
  go_wp2_with fail
  refine (table_sep (.slice a n cap) C w3 (tabIn_tbl T3.out HCl.out hn1)).mono ?_
  rintro e w4 ⟨v4, rfl, hs4, b4⟩
  rw [Hcut.out] at hs4
  obtain ⟨g, cg, rb, rc, rfl, hcg, hcgm, hM⟩ := hs4.mat hn1
  have hM0 : MatS w4 w3.heap.size g n rb rc (shf C i j av bv 0) := hM.congr fun p q _ _ => by unfold shf; simp
  have M4 := Lib.hid hM0
  have B4 := Lib.hid b4
  clear hM hM0 b4 hs4
  have hbd := fun x p q => shf_bound (n := n) (a := av) (b := bv) Hcst.out hav2 hbv2 i j x p q
  have Hbd := Lib.hid hbd
  clear hbd
  go_wp2
  go_loopw [13, 14, 15] (fun x _ _ wr => ∃ k, k ≤ n ∧ x = .int .i64 k ∧ MatS wr w3.heap.size g n rb rc (shf C i j av bv k) ∧ Below w3.heap.size w3 wr) (fun x _ _ _ => n - (intOf x).toNat)
  case atStart => exact ⟨0, Nat.zero_le _, rfl, M4.out, B4.out⟩
  case round =>
    obtain ⟨k, hk, rfl, hM, hB⟩ := hrel
    by_cases hlt : k < n
    · have hc : (k : Int) < n := by omega
      have s1 := hM.spine k hlt
      have s2 := hM.spine i hi
      have M5 := Lib.hid hM
      have B5 := Lib.hid hB
      clear hM hB
      go_wp2
      go_quiet (fail)
      have hM := M5.out.drewN nq
      have hB := below_drewN B5.out nq
      clear s1 s2 M5 B5
      generalize wr.drewN nq = W1 at hM hB ⊢
      have c1 := hM.cell hlt hj
      have f1 := hM.frozen hlt j
      have b1 := Hbd.out k k j
      have b2 := Hbd.out k i k
      obtain ⟨y1, hy1⟩ : ∃ x, shf C i j av bv k k j = x := ⟨_, rfl⟩
      rw [hy1] at c1 b1
      have hwz1 : IntKind.i64.wrap (y1 + bv) = y1 + bv := IntWalk.i64_in _ (by omega)
      have hM2 := hM.set hlt j (y1 + bv)
      have hB2 := hB.setCell (p := ⟨rb k, j, none⟩) (hM.base_le hlt).1 (.int .i64 (y1 + bv))
      have c2 := hM2.cell hi hlt
      have f2 := hM2.frozen hi k
      obtain ⟨y2, hy2⟩ : ∃ x, (if i = k ∧ k = j then y1 + bv else shf C i j av bv k i k) = x := ⟨_, rfl⟩
      have b3 : -1300 ≤ y2 ∧ y2 ≤ 1300 := by rw [← hy2]; split <;> omega
      rw [hy2] at c2
      have hwz2 : IntKind.i64.wrap (y2 + av) = y2 + av := IntWalk.i64_in _ (by omega)
      have hM3 := hM2.set hi k (y2 + av)
      have hB3 := hB2.setCell (p := ⟨rb i, k, none⟩) (hM2.base_le hi).1 (.int .i64 (y2 + av))
      have hM4 := hM3.congr (f' := shf C i j av bv (k + 1)) fun p q _ _ => by rw [← hy2, ← hy1]; exact shf_step C i j av bv k p q
      have M6 := Lib.hid hM4
      have B6 := Lib.hid hB3
      clear hM hM2 hM3 hM4 hB hB2 hB3 hy1 hy2 b1 b2 b3
      go_wp2
      go_roundw
      case rel => exact ⟨k + 1, by omega, by go_num, M6.out, B6.out⟩
      case measure => simp [intOf]; omega
    · obtain rfl : k = n := by omega
      have hc : ¬ (k : Int) < k := by omega
      -- the shifted table
      have hcD : ∀ p q, p < k → q < k → cost (matL k (shf C i j av bv k)) p q = cost C p q + (if p = i then av else 0) + (if q = j then bv else 0) := fun p q hp hq => by
        rw [cost_matL _ hp hq]
        unfold shf
        simp only [hp, hq, and_true]
        omega
      have hdb : costsB (matL k (shf C i j av bv k)) = true := costs_of_tamed (matL_length _ _) (matL_tamed (m := 1000) fun p q => Hbd.out k p q) hn1 hn7 (by decide)
      have hsh : Shift C (matL k (shf C i j av bv k)) i j av bv := ⟨by rw [matL_length, HCl.out], fun x y hx hy => hcD x y (by have := HCl.out; omega) (by have := HCl.out; omega)⟩
      have hmv := hsh.moved (by rw [HCl.out]; exact hi) (by rw [HCl.out]; exact hj)
      have hE := hM.tbl
      have hEl := matL_length k (shf C i j av bv k)
      generalize matL k (shf C i j av bv k) = E at hdb hmv hE hEl
      have hb5 := (hB.block _ hsz3).trans Hb3.out
      have s4 : wr.cell? ⟨w.heap.size, 4, none⟩ = some (.int .i64 o4) := by simp [World.cell?, hb5]
      have hT := T3.out.below hB
      have hBB := b_next B3.out hB
      obtain ⟨hRe, _⟩ := Rect.of_costs Hcb.out
      have hfp := facN_pos k
      have hN : facN k = (asgW C).length := by rw [asgW_fac hRe.n7, HCl.out]
      have hN7 := asgW_len hRe.n7
      have hf := fun W => fac_any k W hn7
      have h4 := fun W => mod_val o4 (facN k) W hfp (by omega)
      have hx := modV_lt o4 (facN k) hfp
      generalize modV o4 (facN k) = x at h4 hx
      have hxC : x < (asgW C).length := by omega
      -- what the calls answer
      have hxE : x < (asgW E).length := by rw [← all_len (by omega), hEl, ← HCl.out, all_len hRe.n7]; exact hxC
      have hr1 := item_moved hmv Hcb.out hdb hxC
      have hr2 := bestRow_moved hmv Hcb.out hdb
      have hr3 := slack_moved hmv Hcb.out hdb
      have hr4 := fix_moved hmv Hcb.out hdb
      have hIC := fun a cap w h => Item_yes C a cap x w h Hcb.out hxC
      have hIE := fun a cap w h => Item_yes E a cap x w h hdb hxE
      obtain ⟨hmem, _⟩ := itemW_in hxC
      obtain ⟨hrl, hra, _⟩ := rowW_good hRe.n7 hmem
      rw [show (itemW C x).holes.take C.length = rowW C (itemW C x) from rfl] at hIC
      rw [show (itemW E x).holes.take E.length = rowW E (itemW E x) from rfl, hr1] at hIE
      generalize rowW C (itemW C x) = xs at hrl hra hIC hIE hr1
      have hxm : xs ∈ allL C.length C.length := by
        unfold asgB at hra
        obtain ⟨h1, h2, h3⟩ := of_decide_eq_true hra
        have h4 := allL_mem h3 h2 C.length (by omega)
        rwa [List.take_of_length_le (by omega)] at h4
      have htt := hmv.tot xs hxm
      have htb := wayP_t hRe xs C.length
      have htC : totR C xs = (totL C C.length xs, 0) := by unfold totR; rw [Hcb.out, hra]; rfl
      have htE : totR E xs = (totL E C.length xs, 0) := by unfold totR; rw [hdb, hEl, ← HCl.out, hra]; rfl
      obtain ⟨t, ht⟩ : ∃ t, totL C C.length xs = t := ⟨_, rfl⟩
      have htb2 : -7000 ≤ t ∧ t ≤ 7000 := by rw [← ht]; unfold totL; have := hRe.n7; omega
      rw [ht] at htC htt
      rw [htt] at htE
      have hsrC : slackR C = (slackL C, 0) := by unfold slackR; rw [Hcb.out]; rfl
      have hsrE : slackR E = (slackL C, 0) := by unfold slackR; rw [hdb, hr3]; rfl
      have hfrC : fixR C = (fixL C, 0) := by unfold fixR; rw [Hcb.out]; rfl
      have hfrE : fixR E = (fixL C, 0) := by unfold fixR; rw [hdb, hr4]; rfl
      have hsl : (slackL C).length = k := by simp [slackL, HCl.out]
      have hfl : (fixL C).length = k := by unfold fixL; rw [List.length_map, hsl]
      have hrl1 : ∀ row ∈ slackL C, row.length ≤ 1000 := by
        intro row hrow
        simp only [slackL, List.mem_map, List.mem_range] at hrow
        obtain ⟨i, hi, rfl⟩ := hrow
        rw [slackLine_length, HCl.out]; omega
      have hlC : ∀ row ∈ C, row.length ≤ 1000 := fun row h => by have := Hrn.out row h; omega
      have hlE : ∀ row ∈ E, row.length ≤ 1000 := fun row h => by have := (Rect.of_costs hdb).1.len row h; omega
      have hSC := fun a cap w h h1 h2 => Slack_any C a cap w h (by have := HCl.out; omega) hlC h1 h2
      have hSE := fun a cap w h h1 h2 => Slack_any E a cap w h (by omega) hlE h1 h2
      have hFC := fun a cap w h h1 h2 => Fixed_any C a cap w h (by have := HCl.out; omega) hlC h1 h2
      have hFE := fun a cap w h h1 h2 => Fixed_any E a cap w h (by omega) hlE h1 h2
      have hBC := fun a cap w h => Best_yes C a cap w h Hcb.out
      have hBE := fun a cap w h => Best_yes E a cap w h hdb
      rw [hr2] at hBE
      have hTC := fun a a2 cap m ca w h ha hm => Total_any C xs a a2 cap m ca w h (by have := HCl.out; omega) hlC ha hm
      have hTE := fun a a2 cap m ca w h ha hm => Total_any E xs a a2 cap m ca w h (by omega) hlE ha hm
      have hII := fun zs a1 a2 c1 c2 w h1 h2 => ints_true a1 a2 k c1 c2 zs w h1 h2 (by omega)
      have hTT := fun a b ca cb w hA hB => tables_true a b ca cb (slackL C) k hsl w hA hB (by omega) hrl1
      rw [htC] at hTC
      rw [htE] at hTE
      rw [hsrC] at hSC
      rw [hsrE] at hSE
      rw [hfrC] at hFC
      rw [hfrE] at hFE
      simp only [hfl, HCl.out, hEl] at hSC hSE hFC hFE hBC hBE hTC hTE hIC hIE
      have HIC := Lib.hid hIC
      have HIE := Lib.hid hIE
      have HSC := Lib.hid hSC
      have HSE := Lib.hid hSE
      have HFC := Lib.hid hFC
      have HFE := Lib.hid hFE
      have HBC := Lib.hid hBC
      have HBE := Lib.hid hBE
      have HTC := Lib.hid hTC
      have HTE := Lib.hid hTE
      have HII := Lib.hid hII
      have HTT := Lib.hid hTT
      have Hsl := Lib.hid hsl
      have Hf := Lib.hid hf
      have H4 := Lib.hid h4
      have T := Lib.hid hT
      have E5 := Lib.hid hE
      have B := Lib.hid hBB
      have hw1 : IntKind.i64.wrap (t + av) = t + av := IntWalk.i64_in _ (by omega)
      have hw2 : IntKind.i64.wrap (t + av + bv) = t + (av + bv) := by rw [IntWalk.i64_in _ (by omega)]; omega
      have hw3 : IntKind.i64.wrap (t + (av + bv)) = t + (av + bv) := IntWalk.i64_in _ (by omega)
      clear hM hB hcD hdb hsh hmv hE hEl hb5 hT hBB hRe hfp hN hN7 hf h4 hx hxC hxE hr1 hr2 hr3 hr4 hIC hIE hmem hrl hra hxm htt htb htC htE ht htb2 hsrC hsrE hfrC hfrE hsl hfl hrl1 hlC hlE hSC hSE hFC hFE hBC hBE hTC hTE hII hTT M4 B4 Hbd Hcst Hrn Hcut T3 B3 Hb3 HCt Hcb HCl hav2 hbv2
      go_wp2
      go_quiet (first
        | (go_at_call 50; with_reducible exact Calls.quiet_of_same (Hf.out _))
        | (go_at_call 48; with_reducible exact Calls.quiet_of_same (H4.out _)))
      have hT := T.out.drewN nq
      have hE := E5.out.drewN nq
      have hB := below_drewN B.out nq
      clear T E5 B s4
      generalize wr.drewN nq = w6 at hT hE hB ⊢
      have T := Lib.hid hT
      have E5 := Lib.hid hE
      have B := Lib.hid hB
      clear hT hE hB Hf H4
      go_wp2_with fail
      refine (HIC.out _ _ _ T.out).mono ?_
      rintro e w21 ⟨v20, rfl, ho20, b21⟩
      obtain ⟨aX, cX, rfl, hR20⟩ := Row.of_own ho20
      have T_21 := Lib.hid (T.out.below b21)
      have E5_21 := Lib.hid (E5.out.below b21)
      have X_21 := Lib.hid (hR20)
      have B_21 := Lib.hid (b_next B.out b21)
      clear b21 B T E5 ho20 hR20
      go_wp2_with fail
      refine (HIE.out _ _ _ E5_21.out).mono ?_
      rintro e w22 ⟨v20, rfl, ho20, b22⟩
      obtain ⟨aY, cY, rfl, hR20⟩ := Row.of_own ho20
      have T_22 := Lib.hid (T_21.out.below b22)
      have E5_22 := Lib.hid (E5_21.out.below b22)
      have X_22 := Lib.hid (X_21.out.below b22)
      have Y_22 := Lib.hid (hR20)
      have B_22 := Lib.hid (b_next B_21.out b22)
      clear b22 B_21 T_21 E5_21 X_21 ho20 hR20
      go_wp2_with fail
      refine (HSC.out _ _ _ T_22.out hcap hcm).mono ?_
      rintro e w23 ⟨v20, rfl, hl20, b23⟩
      obtain ⟨aS, cS, rfl, -, -, ht20⟩ := hl20.tbl
      rw [Hsl.out]
      have T_23 := Lib.hid (T_22.out.below b23)
      have E5_23 := Lib.hid (E5_22.out.below b23)
      have X_23 := Lib.hid (X_22.out.below b23)
      have Y_23 := Lib.hid (Y_22.out.below b23)
      have S_23 := Lib.hid (ht20)
      have B_23 := Lib.hid (b_next B_22.out b23)
      clear b23 B_22 T_22 E5_22 X_22 Y_22 hl20 ht20
      go_wp2_with fail
      refine (HSE.out _ _ _ E5_23.out hcg hcgm).mono ?_
      rintro e w24 ⟨v20, rfl, hl20, b24⟩
      obtain ⟨aS2, cS2, rfl, -, -, ht20⟩ := hl20.tbl
      rw [Hsl.out]
      have T_24 := Lib.hid (T_23.out.below b24)
      have E5_24 := Lib.hid (E5_23.out.below b24)
      have X_24 := Lib.hid (X_23.out.below b24)
      have Y_24 := Lib.hid (Y_23.out.below b24)
      have S_24 := Lib.hid (S_23.out.below b24)
      have S2_24 := Lib.hid (ht20)
      have B_24 := Lib.hid (b_next B_23.out b24)
      clear b24 B_23 T_23 E5_23 X_23 Y_23 S_23 hl20 ht20
      go_wp2_with fail
      refine (HFC.out _ _ _ T_24.out hcap hcm).mono ?_
      rintro e w25 ⟨v20, rfl, ho20, b25⟩
      obtain ⟨aU, cU, rfl, hR20⟩ := Row.of_own ho20
      have T_25 := Lib.hid (T_24.out.below b25)
      have E5_25 := Lib.hid (E5_24.out.below b25)
      have X_25 := Lib.hid (X_24.out.below b25)
      have Y_25 := Lib.hid (Y_24.out.below b25)
      have S_25 := Lib.hid (S_24.out.below b25)
      have S2_25 := Lib.hid (S2_24.out.below b25)
      have U_25 := Lib.hid (hR20)
      have B_25 := Lib.hid (b_next B_24.out b25)
      clear b25 B_24 T_24 E5_24 X_24 Y_24 S_24 S2_24 ho20 hR20
      go_wp2_with fail
      refine (HFE.out _ _ _ E5_25.out hcg hcgm).mono ?_
      rintro e w26 ⟨v20, rfl, ho20, b26⟩
      obtain ⟨aV, cV, rfl, hR20⟩ := Row.of_own ho20
      have T_26 := Lib.hid (T_25.out.below b26)
      have E5_26 := Lib.hid (E5_25.out.below b26)
      have X_26 := Lib.hid (X_25.out.below b26)
      have Y_26 := Lib.hid (Y_25.out.below b26)
      have S_26 := Lib.hid (S_25.out.below b26)
      have S2_26 := Lib.hid (S2_25.out.below b26)
      have U_26 := Lib.hid (U_25.out.below b26)
      have V_26 := Lib.hid (hR20)
      have B_26 := Lib.hid (b_next B_25.out b26)
      clear b26 B_25 T_25 E5_25 X_25 Y_25 S_25 S2_25 U_25 ho20 hR20
      go_wp2_with fail
      refine (HBC.out _ _ _ T_26.out).mono ?_
      rintro e w27 ⟨r0, r1, r2, rfl, ho20, ho21, ho22, b27⟩
      obtain ⟨aP, cP, rfl, hR20⟩ := Row.of_own ho20
      have T_27 := Lib.hid (T_26.out.below b27)
      have E5_27 := Lib.hid (E5_26.out.below b27)
      have X_27 := Lib.hid (X_26.out.below b27)
      have Y_27 := Lib.hid (Y_26.out.below b27)
      have S_27 := Lib.hid (S_26.out.below b27)
      have S2_27 := Lib.hid (S2_26.out.below b27)
      have U_27 := Lib.hid (U_26.out.below b27)
      have V_27 := Lib.hid (V_26.out.below b27)
      have P_27 := Lib.hid (hR20)
      have B_27 := Lib.hid (b_next B_26.out b27)
      clear b27 B_26 T_26 E5_26 X_26 Y_26 S_26 S2_26 U_26 V_26 ho20 ho21 ho22 hR20
      go_wp2_with fail
      refine (HBE.out _ _ _ E5_27.out).mono ?_
      rintro e w28 ⟨s0, s1, s2, rfl, ho20, ho21, ho22, b28⟩
      obtain ⟨aR, cR, rfl, hR20⟩ := Row.of_own ho20
      have T_28 := Lib.hid (T_27.out.below b28)
      have E5_28 := Lib.hid (E5_27.out.below b28)
      have X_28 := Lib.hid (X_27.out.below b28)
      have Y_28 := Lib.hid (Y_27.out.below b28)
      have S_28 := Lib.hid (S_27.out.below b28)
      have S2_28 := Lib.hid (S2_27.out.below b28)
      have U_28 := Lib.hid (U_27.out.below b28)
      have V_28 := Lib.hid (V_27.out.below b28)
      have P_28 := Lib.hid (P_27.out.below b28)
      have R_28 := Lib.hid (hR20)
      have B_28 := Lib.hid (b_next B_27.out b28)
      clear b28 B_27 T_27 E5_27 X_27 Y_27 S_27 S2_27 U_27 V_27 P_27 ho20 ho21 ho22 hR20
      go_wp2_with fail
      refine (HII.out _ _ _ _ _ _ X_28.out Y_28.out).mono ?_
      rintro e w29 ⟨rfl, q29, h29⟩
      have T_29x := T_28.out.drewN q29
      rw [← h29] at T_29x
      have T_29 := Lib.hid T_29x
      clear T_29x
      have E5_29x := E5_28.out.drewN q29
      rw [← h29] at E5_29x
      have E5_29 := Lib.hid E5_29x
      clear E5_29x
      have X_29x := X_28.out.drewN q29
      rw [← h29] at X_29x
      have X_29 := Lib.hid X_29x
      clear X_29x
      have S_29x := S_28.out.drewN q29
      rw [← h29] at S_29x
      have S_29 := Lib.hid S_29x
      clear S_29x
      have S2_29x := S2_28.out.drewN q29
      rw [← h29] at S2_29x
      have S2_29 := Lib.hid S2_29x
      clear S2_29x
      have U_29x := U_28.out.drewN q29
      rw [← h29] at U_29x
      have U_29 := Lib.hid U_29x
      clear U_29x
      have V_29x := V_28.out.drewN q29
      rw [← h29] at V_29x
      have V_29 := Lib.hid V_29x
      clear V_29x
      have P_29x := P_28.out.drewN q29
      rw [← h29] at P_29x
      have P_29 := Lib.hid P_29x
      clear P_29x
      have R_29x := R_28.out.drewN q29
      rw [← h29] at R_29x
      have R_29 := Lib.hid R_29x
      clear R_29x
      have B_29x := below_drewN B_28.out q29
      rw [← h29] at B_29x
      have B_29 := Lib.hid B_29x
      clear B_29x h29 B_28 T_28 E5_28 X_28 Y_28 S_28 S2_28 U_28 V_28 P_28 R_28
      go_wp2_with fail
      refine (HTT.out _ _ _ _ _ S_29.out S2_29.out).mono ?_
      rintro e w30 ⟨rfl, q30, h30⟩
      have T_30x := T_29.out.drewN q30
      rw [← h30] at T_30x
      have T_30 := Lib.hid T_30x
      clear T_30x
      have E5_30x := E5_29.out.drewN q30
      rw [← h30] at E5_30x
      have E5_30 := Lib.hid E5_30x
      clear E5_30x
      have X_30x := X_29.out.drewN q30
      rw [← h30] at X_30x
      have X_30 := Lib.hid X_30x
      clear X_30x
      have U_30x := U_29.out.drewN q30
      rw [← h30] at U_30x
      have U_30 := Lib.hid U_30x
      clear U_30x
      have V_30x := V_29.out.drewN q30
      rw [← h30] at V_30x
      have V_30 := Lib.hid V_30x
      clear V_30x
      have P_30x := P_29.out.drewN q30
      rw [← h30] at P_30x
      have P_30 := Lib.hid P_30x
      clear P_30x
      have R_30x := R_29.out.drewN q30
      rw [← h30] at R_30x
      have R_30 := Lib.hid R_30x
      clear R_30x
      have B_30x := below_drewN B_29.out q30
      rw [← h30] at B_30x
      have B_30 := Lib.hid B_30x
      clear B_30x h30 B_29 T_29 E5_29 X_29 S_29 S2_29 U_29 V_29 P_29 R_29
      go_wp2_with fail
      refine (HII.out _ _ _ _ _ _ U_30.out V_30.out).mono ?_
      rintro e w31 ⟨rfl, q31, h31⟩
      have T_31x := T_30.out.drewN q31
      rw [← h31] at T_31x
      have T_31 := Lib.hid T_31x
      clear T_31x
      have E5_31x := E5_30.out.drewN q31
      rw [← h31] at E5_31x
      have E5_31 := Lib.hid E5_31x
      clear E5_31x
      have X_31x := X_30.out.drewN q31
      rw [← h31] at X_31x
      have X_31 := Lib.hid X_31x
      clear X_31x
      have P_31x := P_30.out.drewN q31
      rw [← h31] at P_31x
      have P_31 := Lib.hid P_31x
      clear P_31x
      have R_31x := R_30.out.drewN q31
      rw [← h31] at R_31x
      have R_31 := Lib.hid R_31x
      clear R_31x
      have B_31x := below_drewN B_30.out q31
      rw [← h31] at B_31x
      have B_31 := Lib.hid B_31x
      clear B_31x h31 B_30 T_30 E5_30 X_30 U_30 V_30 P_30 R_30
      go_wp2_with fail
      refine (HII.out _ _ _ _ _ _ P_31.out R_31.out).mono ?_
      rintro e w32 ⟨rfl, q32, h32⟩
      have T_32x := T_31.out.drewN q32
      rw [← h32] at T_32x
      have T_32 := Lib.hid T_32x
      clear T_32x
      have E5_32x := E5_31.out.drewN q32
      rw [← h32] at E5_32x
      have E5_32 := Lib.hid E5_32x
      clear E5_32x
      have X_32x := X_31.out.drewN q32
      rw [← h32] at X_32x
      have X_32 := Lib.hid X_32x
      clear X_32x
      have B_32x := below_drewN B_31.out q32
      rw [← h32] at B_32x
      have B_32 := Lib.hid B_32x
      clear B_32x h32 B_31 T_31 E5_31 X_31 P_31 R_31
      go_wp2_with fail
      refine (HTC.out _ _ _ _ _ _ T_32.out X_32.out (by omega)).mono ?_
      rintro e w33 ⟨rfl, b33⟩
      have T_33 := Lib.hid (T_32.out.below b33)
      have E5_33 := Lib.hid (E5_32.out.below b33)
      have X_33 := Lib.hid (X_32.out.below b33)
      have B_33 := Lib.hid (b_next B_32.out b33)
      clear b33 B_32 T_32 E5_32 X_32 
      go_wp2_with fail
      refine (HTE.out _ _ _ _ _ _ E5_33.out X_33.out (by omega)).mono ?_
      rintro e w34 ⟨rfl, b34⟩
      have T_34 := Lib.hid (T_33.out.below b34)
      have E5_34 := Lib.hid (E5_33.out.below b34)
      have X_34 := Lib.hid (X_33.out.below b34)
      have B_34 := Lib.hid (b_next B_33.out b34)
      clear b34 B_33 T_33 E5_33 X_33 
      go_wp2_with fail
      refine (HW.out _).mono ?_
      rintro e w35 ⟨rfl, b35⟩
      go_wp2
      go_ret
      exact ⟨rfl, b_next B_34.out b35⟩
theorem walk_ButtonsShifted (n0 : Int) (_ : (Lit.int .i64 n0).wf = true) (tv : Value) (D : List (List Int)) (w : World) (hT : TabIn w tv D) (o0 o1 o2 o3 o4 : Int) :
    Calls Try.prog 9 #[.int .i64 n0, tv, .agg #[.int .i64 o0, .int .i64 o1, .int .i64 o2, .int .i64 o3, .int .i64 o4]] w fun e w' => e = .returned (.bool true) ∧ Below w.heap.size w w' :=
  shf_walk n0 o0 o1 o2 o3 o4 tv D w hT
end Go.Proofs.Ytambhhjbafefgaa

/- The law's ButtonsTurned: its walk. -/
namespace Go.Proofs.Ytambhhjbafefgaa
set_option linter.unusedVariables false
open Go.RowKit

/-- the table after i rows and j cells of a further one -/
def trn (C : List (List Int)) (i j p q : Nat) : Int := if q < i ∨ (q = i ∧ p < j) then cost C q p else cost C p q
theorem trn_step (C : List (List Int)) (i j p q : Nat) : (if p = j ∧ q = i then cost C i j else trn C i j p q) = trn C i (j + 1) p q := by
  unfold trn
  by_cases h1 : p = j <;> by_cases h2 : q = i
  · subst h1; subst h2; simp
  · subst h1; simp [h2]
  · subst h2
    simp only [h1, false_and, if_false, Nat.lt_irrefl, true_and, false_or]
    by_cases h3 : p < j
    · rw [if_pos h3, if_pos (by omega)]
    · rw [if_neg h3, if_neg (by omega)]
  · simp [h1, h2]
theorem trn_next (C : List (List Int)) (i n p q : Nat) (hp : p < n) : trn C i n p q = trn C (i + 1) 0 p q := by
  unfold trn
  by_cases h : q < i + 1
  · rw [if_pos (by omega), if_pos (by omega)]
  · rw [if_neg (by omega), if_neg (by omega)]
theorem undo_back {n : Nat} {bs : List Int} {bk : Nat → Int} (hb : asgB bs n = true) (h : ∀ k, k < n → bk (bs.getD k 0).toNat = (k : Int)) : Undo n bs ((List.range n).map bk) := by
  unfold asgB at hb
  obtain ⟨h1, h2, h3⟩ := of_decide_eq_true hb
  obtain ⟨s, hs⟩ := undo_ex (r := bs) (n := n) ⟨h1, h3, h2⟩
  have e : (List.range n).map bk = s := by
    refine List.ext_getElem? fun y => ?_
    by_cases hy : y < n
    · obtain ⟨x, hx, e1, e2⟩ := hs.right.at hy
      have e3 := hs.rl y hy
      have e4 := h x hx
      rw [e1, Int.toNat_natCast] at e3
      rw [e3, Int.toNat_natCast] at e4
      rw [List.getElem?_map, List.getElem?_range hy, e2, Option.map_some, e4]
    · rw [List.getElem?_eq_none (by simp; omega), List.getElem?_eq_none (by rw [hs.right.1]; omega)]
  rw [e]
  exact hs
theorem PermR.asg {n : Nat} {r : List Int} (h : PermR n r) : asgB r n = true := by
  unfold asgB
  exact decide_eq_true ⟨h.1, h.2.2, h.2.1⟩

set_option maxRecDepth 100000 in
set_option maxHeartbeats 4000000 in
theorem trn_walk (n0 : Int) (tv rv : Value) (D : List (List Int)) (l0 : List Int) (w : World) (hT : TabIn w tv D) (hL : RowIn w rv l0) :
    Calls Try.prog 11 #[.int .i64 n0, tv, rv] w fun e w' => e = .returned (.bool true) ∧ Below w.heap.size w w' := by
  have HTm := Lib.hid fun n hn => tame_any tv D n 1000 w hT hn (Nat.le_refl _)
  have HOr := Lib.hid fun n W hn hb => order_any rv l0 n W (hL.below hb) hn
  have HW := Lib.hid awake_any
  clear hT hL
  go_enter Try.func11, Try.ntmps11
  go_wp2_with fail
  refine (mod_any n0 6 _ (by decide) (by decide)).mono ?_
  rintro e w1 ⟨⟨r, hr, rfl⟩, rfl⟩
  have hw1 : IntKind.i64.wrap (1 + (r : Int)) = ((1 + r : Nat) : Int) := by rw [IntWalk.i64_in _ (by omega)]; omega
  obtain ⟨n, hn⟩ : ∃ n, 1 + r = n := ⟨_, rfl⟩
  have hn1 : 1 ≤ n := by omega
  have hn7 : n ≤ 7 := by omega
  rw [hn] at hw1
  clear hn
  go_wp2_with fail
  refine (HTm.out n hn7).mono ?_
  rintro e w2 ⟨v, C, rfl, hl, hCl, hCt, b2⟩
  have hcb := costs_of_tamed hCl hCt hn1 hn7 (by decide)
  obtain ⟨a, cap, rfl, hcap, hcm, ht⟩ := hl.tbl
  rw [hCl] at hcap ⊢
  have T2 := Lib.hid ht
  have B2 := Lib.hid b2
  have Hcb := Lib.hid hcb
  have HCl := Lib.hid hCl
  have HCt := Lib.hid hCt
  clear hl hCl hCt b2 hcb ht
  go_wp2_with fail
  refine (HOr.out n _ hn7 B2.out).mono ?_
  rintro e w3 ⟨v3, bs, rfl, ho3, hasg, b3⟩
  obtain ⟨aB, cB, rfl, hR3⟩ := Row.of_own ho3
  have hcst : ∀ p q, -1000 ≤ cost C p q ∧ cost C p q ≤ 1000 := tamed_cost HCt.out (by decide)
  have hrn : ∀ row ∈ C, row.length = n := fun row h => (HCt.out row h).1
  have hcut : cutT C = matL n (cost C) := (cutT_small (by have := HCl.out; omega) (fun row h => by have := hrn row h; omega)).trans (matL_of HCl.out hrn)
  have Hcut := Lib.hid hcut
  have Hcst := Lib.hid hcst
  have Hrn := Lib.hid hrn
  have Hasg := Lib.hid hasg
  have T3 := Lib.hid (T2.out.below b3)
  have R3 := Lib.hid hR3
  have B3 := Lib.hid (b_next B2.out b3)
  clear T2 B2 b3 ho3 hR3 hcst hrn hcut hasg
  obtain ⟨gT, rfl, hT⟩ := T3.out.all HCl.out Hrn.out hn1
  obtain ⟨gB, rfl, hBc⟩ := R3.out.all hn1
  have HTc := Lib.hid hT
  have HBc := Lib.hid hBc
  clear hT hBc
  go_wp2_with fail
  refine (table_sep (.slice (some ⟨gT, 0, none⟩) n cap) C w3 (tabIn_tbl T3.out HCl.out hn1)).mono ?_
  rintro e w4 ⟨v4, rfl, hs4, b4⟩
  rw [Hcut.out] at hs4
  obtain ⟨g, cg, rb, rc, rfl, hcg, hcgm, hM⟩ := hs4.mat hn1
  have hM0 : MatS w4 w3.heap.size g n rb rc (trn C 0 0) := hM.congr fun p q _ _ => by unfold trn; simp
  have hrbl : ∀ i, i < n → rb i < w4.heap.size := fun i hi => (hM.base_le hi).2
  have hgl := hM.lt
  have M4 := Lib.hid hM0
  have B4 := Lib.hid b4
  have hsz4 := b4.size
  clear hM hM0 b4 hs4
  have hmk := run_make_row' (P := Try.prog) 24 3 (.int .i64 0) 8 Try.underlying24 info_int rfl .i64 .i64 n (by omega) (by omega)
  go_wp2
  have hrow0 := World.rowIs_made w4 (.int .i64 0) n 3
  have hB0 := below_alloc w4 (.cells (madeCells #[.int .i64 0] n) 3)
  have M5 := Lib.hid (M4.out.below hB0)
  have B5 := Lib.hid (b_next B4.out hB0)
  have R5 := Lib.hid hrow0
  clear hmk hrow0 hB0 M4 B4
  generalize hwx : w4.heap.size = hx at R5 hrbl hgl hsz4 ⊢
  generalize w4.alloc (.cells (madeCells #[.int .i64 0] n) 3) = w5 at M5 B5 R5 ⊢
  clear hwx
  have Hrbl := Lib.hid hrbl
  clear hrbl
  go_loopw [11, 12, 13] (fun x _ _ wr => ∃ k, k ≤ n ∧ x = .int .i64 k ∧ Hid (∃ bk : Nat → Int, wr.rowIs hx 3 n (fun y => .int .i64 (bk y)) ∧ ∀ m, m < k → bk (bs.getD m 0).toNat = (m : Int)) ∧ MatS wr w3.heap.size g n rb rc (trn C k 0) ∧ Below w3.heap.size w3 wr) (fun x _ _ _ => n - (intOf x).toNat)
  case atStart => exact ⟨0, Nat.zero_le _, rfl, ⟨fun _ => 0, R5.out, fun m hm => by omega⟩, M5.out, B5.out⟩
  case round =>
    obtain ⟨k, hk, rfl, HK, hM, hB⟩ := hrel
    have HM := Lib.hid hM
    have HB := Lib.hid hB
    clear hM hB
    by_cases hlt : k < n
    · have hc : (k : Int) < n := by omega
      obtain ⟨W0, hW0⟩ : ∃ W0 : World, W0 = wr := ⟨_, rfl⟩
      subst hW0
      go_wp2
      go_loopw [12, 13] (fun y _ wr => ∃ m, m ≤ n ∧ y = .int .i64 m ∧ Hid (∃ bk : Nat → Int, wr.rowIs hx 3 n (fun y => .int .i64 (bk y)) ∧ ∀ m, m < k → bk (bs.getD m 0).toNat = (m : Int)) ∧ MatS wr w3.heap.size g n rb rc (trn C k m) ∧ Below w3.heap.size w3 wr) (fun y _ _ => n - (intOf y).toNat)
      case atStart => exact ⟨0, Nat.zero_le _, rfl, HK, HM.out, HB.out⟩
      case round =>
        clear HK HM HB
        obtain ⟨m, hm, rfl, HK, hM, hB⟩ := hrel
        by_cases hlm : m < n
        · have hc2 : (m : Int) < n := by omega
          have s1 := hM.spine m hlm
          obtain ⟨rT, cT, t1, t2⟩ := HTc.out k hlt
          have t1' := (hB.cell (p := ⟨gT, k, none⟩) (World.block_lt_of_cell? w3 _ t1)).trans t1
          have t3 := t2 m hlm
          have t3' := (hB.cell (p := ⟨rT, m, none⟩) (World.block_lt_of_cell? w3 _ t3)).trans t3
          have c1 := hM.cell hlm hlt
          have f1 := hM.frozen hlm k
          obtain ⟨y, hy⟩ : ∃ y, cost C k m = y := ⟨_, rfl⟩
          rw [hy] at t3'
          have hM2 := (hM.set hlm k y).congr (f' := trn C k (m + 1)) fun p q _ _ => by rw [← hy]; exact trn_step C k m p q
          have hB2 := hB.setCell (p := ⟨rb m, k, none⟩) (hM.base_le hlm).1 (.int .i64 y)
          obtain ⟨bk, hk1, hk2⟩ := HK.out
          have hk3 := hk1.setOther (a := ⟨rb m, k, none⟩) (by have := Hrbl.out m hlm; show hx ≠ rb m; omega) (.int .i64 y)
          have HK2 : Hid (∃ bk : Nat → Int, (wr.setCell ⟨rb m, k, none⟩ (.int .i64 y)).rowIs hx 3 n (fun y => .int .i64 (bk y)) ∧ ∀ m, m < k → bk (bs.getD m 0).toNat = (m : Int)) := ⟨bk, hk3, hk2⟩
          have M6 := Lib.hid hM2
          have B6 := Lib.hid hB2
          clear HK hM hB hM2 hB2 hk1 hk2 hk3 t1 t2 t3 hy
          go_wp2
          go_roundw
          case rel => exact ⟨m + 1, by omega, by go_num, HK2, M6.out, B6.out⟩
          case measure => simp [intOf]; omega
        · obtain rfl : m = n := by omega
          have hc2 : ¬ (m : Int) < m := by omega
          have b1 := HBc.out k hlt
          have b1' := (hB.cell (p := ⟨gB, k, none⟩) (World.block_lt_of_cell? w3 _ b1)).trans b1
          have hP : PermR m bs := by
            have := Hasg.out
            unfold asgB at this
            obtain ⟨h1, h2, h3⟩ := of_decide_eq_true this
            exact ⟨h1, h3, h2⟩
          obtain ⟨bi, hbi, e1, e2⟩ := hP.at hlt
          rw [e1] at b1'
          obtain ⟨bk, hk1, hk2⟩ := HK.out
          have c1 := hk1.cell hbi
          have f1 := hk1.frozen bi
          have hk3 := hk1.set bi (.int .i64 k)
          have hM2 := hM.grown (w' := wr.setCell ⟨hx, bi, none⟩ (.int .i64 k)) (row := some hx) ⟨rfl, rfl, rfl, by simp, fun i _ hi => Below.heap_setCell _ _ _ _ (by show i ≠ hx; exact fun e => hi (by rw [e]))⟩
            (by simp; omega) (fun i hi => by have := Hrbl.out i hi; simp; omega)
          have hM3 := hM2.congr (f' := trn C (k + 1) 0) fun p q hp _ => trn_next C k m p q hp
          have hB2 := hB.setCell (p := ⟨hx, bi, none⟩) hsz4 (.int .i64 k)
          have HK2 : Hid (∃ bk : Nat → Int, (wr.setCell ⟨hx, bi, none⟩ (.int .i64 k)).rowIs hx 3 m (fun y => .int .i64 (bk y)) ∧ ∀ j, j < k + 1 → bk (bs.getD j 0).toNat = (j : Int)) := by
            refine ⟨fun y => if y = bi then (k : Int) else bk y, hk3.congr fun y _ => by by_cases e : y = bi <;> simp [e], fun j hj => ?_⟩
            by_cases e : j = k
            · subst e; rw [e1]; simp
            · have h5 := hk2 j (by omega)
              have hne : (bs.getD j 0).toNat ≠ bi := fun e3 => by
                obtain ⟨z, hz, z1, z2⟩ := hP.at (show j < m by omega)
                rw [z1, Int.toNat_natCast] at e3
                subst e3
                exact e ((List.getElem?_inj (by rw [hP.1]; omega) hP.2.1).1 (z2.trans e2.symm))
              show (if (bs.getD j 0).toNat = bi then (k : Int) else bk (bs.getD j 0).toNat) = j
              rw [if_neg hne]; exact h5
          have M6 := Lib.hid hM3
          have B6 := Lib.hid hB2
          clear HK hM hB hM2 hM3 hB2 hk1 hk2 hk3 b1 hP e1 e2
          go_wp2
          go_roundw
          case rel => exact ⟨k + 1, by omega, by go_num, HK2, M6.out, B6.out⟩
          case measure => simp [intOf]; omega
    · obtain rfl : k = n := by omega
      have hc : ¬ (k : Int) < k := by omega
      obtain ⟨bk, hk1, hk2⟩ := HK.out
      have hM := HM.out
      have hB := HB.out
      have hun := undo_back Hasg.out hk2
      have hcD : ∀ p q, p < k → q < k → cost (matL k (trn C k 0)) p q = cost C q p := fun p q hp hq => by
        rw [cost_matL _ hp hq]
        unfold trn
        rw [if_pos (by omega)]
      have hbk : Row wr (some ⟨hx, 0, none⟩) k (intL ((List.range k).map bk)) := by
        have ho := own_of_rowIs (base := 0) hk1 (Nat.zero_le _) (show k ≤ maxLen by unfold maxLen; omega)
        obtain ⟨a', c', hv, hR⟩ := Row.of_own ho
        obtain ⟨rfl, rfl⟩ : some (⟨hx, 0, none⟩ : Addr) = a' ∧ k = c' := by simpa using hv
        unfold intL
        rw [List.map_map]
        exact hR
      have hdb : costsB (matL k (trn C k 0)) = true := costs_of_tamed (matL_length _ _) (matL_tamed (m := 1000) fun p q => by unfold trn; split <;> exact Hcst.out _ _) hn1 hn7 (by decide)
      have htu : Turn C (matL k (trn C k 0)) := ⟨by rw [matL_length, HCl.out], fun x y hx hy => hcD y x (by have := HCl.out; omega) (by have := HCl.out; omega)⟩
      have hE := hM.tbl
      have hEl := matL_length k (trn C k 0)
      generalize (List.range k).map bk = ss at hun hbk
      generalize matL k (trn C k 0) = E at hdb htu hE hEl
      have hT := T3.out.below hB
      have hR := R3.out.below hB
      have hBB := b_next B3.out hB
      obtain ⟨hRe, _⟩ := Rect.of_costs Hcb.out
      obtain ⟨hReE, _⟩ := Rect.of_costs hdb
      have hCl := HCl.out
      have hun' : Undo C.length bs ss := by rw [hCl]; exact hun
      have ht1 := htu.tot hun'
      have hb1 := htu.best Hcb.out hdb
      have hn2 := htu.nar Hcb.out hdb
      have hwt := fun m => htu.within Hcb.out hdb m
      have hbl := (best_tot Hcb.out).2 bs (by rw [hCl]; exact hun.left.mem)
      have htb := wayP_t hRe bs C.length
      have htC : totR C bs = (totL C C.length bs, 0) := by unfold totR; rw [Hcb.out, hCl, Hasg.out]; rfl
      have htE : totR E ss = (totL E C.length ss, 0) := by unfold totR; rw [hdb, hEl, hun.right.asg, hCl]; rfl
      obtain ⟨hxC, _, _, hwC⟩ := price_facts Hcb.out
      obtain ⟨hxE, _, _, hwE⟩ := price_facts hdb
      have htX : totR C ((bestW C).holes.take C.length) = ((bestW C).t, 0) := by unfold totR; rw [Hcb.out, hxC, hwC]; rfl
      have htY : totR E ((bestW E).holes.take E.length) = ((bestW E).t, 0) := by unfold totR; rw [hdb, hxE, hwE]; rfl
      rw [ht1] at htE
      rw [hb1] at htY
      obtain ⟨t, ht⟩ : ∃ t, totL C C.length bs = t := ⟨_, rfl⟩
      obtain ⟨u, hu⟩ : ∃ u, (bestW C).t = u := ⟨_, rfl⟩
      rw [ht] at htC htE hbl
      rw [hu] at htX htY hbl
      have hlC : ∀ row ∈ C, row.length ≤ 1000 := fun row h => by have := Hrn.out row h; omega
      have hlE : ∀ row ∈ E, row.length ≤ 1000 := fun row h => by have := hReE.len row h; omega
      have hBC := fun a cap w h => Best_yes C a cap w h Hcb.out
      have hBE := fun a cap w h => Best_yes E a cap w h hdb
      have hTC := fun a a2 cap m ca w h ha hm => Total_any C bs a a2 cap m ca w h (by omega) hlC ha hm
      have hTE := fun a a2 cap m ca w h ha hm => Total_any E ss a a2 cap m ca w h (by omega) hlE ha hm
      have hTX := fun a a2 cap m ca w h ha hm => Total_any C ((bestW C).holes.take C.length) a a2 cap m ca w h (by omega) hlC ha hm
      have hTY := fun a a2 cap m ca w h ha hm => Total_any E ((bestW E).holes.take E.length) a a2 cap m ca w h (by omega) hlE ha hm
      have hNC := fun a cap w h => Narrow_yes C a cap w h Hcb.out
      have hNE := fun a cap w h => Narrow_yes E a cap w h hdb
      have hWC := fun a cap w h => Within_any C a cap t w h (by omega) hlC
      have hWE := fun a cap w h => Within_any E a cap t w h (by omega) hlE
      rw [htC] at hTC
      rw [htE] at hTE
      rw [htX] at hTX
      rw [htY] at hTY
      rw [hn2] at hNE
      rw [hwt] at hWE
      have hwr : (witR C t).2 = 0 := by unfold witR; rw [Hcb.out]; rfl
      rw [hwr] at hWC hWE
      obtain ⟨many, hmy⟩ : ∃ m, (witR C t).1 = m := ⟨_, rfl⟩
      rw [hmy] at hWC hWE
      obtain ⟨nw, hnw⟩ : ∃ m, (narW C).2 = m := ⟨_, rfl⟩
      rw [hnw] at hNC hNE
      simp only [hCl, hEl] at hBC hBE hTC hTE hTX hTY hNC hNE hWC hWE
      have HBC := Lib.hid hBC
      have HBE := Lib.hid hBE
      have HTC := Lib.hid hTC
      have HTE := Lib.hid hTE
      have HTX := Lib.hid hTX
      have HTY := Lib.hid hTY
      have HNC := Lib.hid hNC
      have HNE := Lib.hid hNE
      have HWC := Lib.hid hWC
      have HWE := Lib.hid hWE
      have T := Lib.hid hT
      have A := Lib.hid hR
      have E5 := Lib.hid hE
      have K := Lib.hid hbk
      have B := Lib.hid hBB
      have hut : u ≤ t := hbl
      clear HK HM HB hk1 hk2 hM hB hun hcD hbk hdb htu hE hEl hT hR hBB hRe hReE hCl hun' ht1 hb1 hn2 hwt hbl htb htC htE hxC hxE hwC hwE htX htY ht hu hlC hlE hBC hBE hTC hTE hTX hTY hNC hNE hWC hWE hwr hmy hnw HOr HTm HCl HCt Hcut Hcst Hrn Hasg T3 R3 B3 HTc HBc M5 B5 R5 Hrbl
      go_wp2_with fail
      refine (HTC.out _ _ _ _ _ _ T.out A.out (by omega)).mono ?_
      rintro e w21 ⟨rfl, b21⟩
      have T_21 := Lib.hid (T.out.below b21)
      have A_21 := Lib.hid (A.out.below b21)
      have E5_21 := Lib.hid (E5.out.below b21)
      have K_21 := Lib.hid (K.out.below b21)
      have B_21 := Lib.hid (b_next B.out b21)
      clear b21 B T A E5 K 
      go_wp2_with fail
      refine (HTE.out _ _ _ _ _ _ E5_21.out K_21.out (by omega)).mono ?_
      rintro e w22 ⟨rfl, b22⟩
      have T_22 := Lib.hid (T_21.out.below b22)
      have E5_22 := Lib.hid (E5_21.out.below b22)
      have B_22 := Lib.hid (b_next B_21.out b22)
      clear b22 B_21 T_21 A_21 E5_21 K_21 
      go_wp2_with fail
      refine (HBC.out _ _ _ T_22.out).mono ?_
      rintro e w23 ⟨r0, r1, r2, rfl, ho20, ho21, ho22, b23⟩
      obtain ⟨aP, cP, rfl, hR20⟩ := Row.of_own ho20
      obtain ⟨aP1, cP1, rfl, -⟩ := Row.of_own ho21
      obtain ⟨aP2, cP2, rfl, -⟩ := Row.of_own ho22
      have T_23 := Lib.hid (T_22.out.below b23)
      have E5_23 := Lib.hid (E5_22.out.below b23)
      have P_23 := Lib.hid (hR20)
      have B_23 := Lib.hid (b_next B_22.out b23)
      clear b23 B_22 T_22 E5_22 ho20 ho21 ho22 hR20
      go_wp2_with fail
      refine (HBE.out _ _ _ E5_23.out).mono ?_
      rintro e w24 ⟨s0, s1, s2, rfl, ho20, ho21, ho22, b24⟩
      obtain ⟨aR, cR, rfl, hR20⟩ := Row.of_own ho20
      obtain ⟨aR1, cR1, rfl, -⟩ := Row.of_own ho21
      obtain ⟨aR2, cR2, rfl, -⟩ := Row.of_own ho22
      have T_24 := Lib.hid (T_23.out.below b24)
      have E5_24 := Lib.hid (E5_23.out.below b24)
      have P_24 := Lib.hid (P_23.out.below b24)
      have R_24 := Lib.hid (hR20)
      have B_24 := Lib.hid (b_next B_23.out b24)
      clear b24 B_23 T_23 E5_23 P_23 ho20 ho21 ho22 hR20
      go_wp2_with fail
      refine (HTX.out _ _ _ _ _ _ T_24.out P_24.out (by omega)).mono ?_
      rintro e w25 ⟨rfl, b25⟩
      have T_25 := Lib.hid (T_24.out.below b25)
      have E5_25 := Lib.hid (E5_24.out.below b25)
      have R_25 := Lib.hid (R_24.out.below b25)
      have B_25 := Lib.hid (b_next B_24.out b25)
      clear b25 B_24 T_24 E5_24 P_24 R_24 
      go_wp2_with fail
      refine (HTY.out _ _ _ _ _ _ E5_25.out R_25.out (by omega)).mono ?_
      rintro e w26 ⟨rfl, b26⟩
      have T_26 := Lib.hid (T_25.out.below b26)
      have E5_26 := Lib.hid (E5_25.out.below b26)
      have B_26 := Lib.hid (b_next B_25.out b26)
      clear b26 B_25 T_25 E5_25 R_25 
      go_wp2_with fail
      refine (HNC.out _ _ _ T_26.out).mono ?_
      rintro e w27 ⟨x1, x2, l1, rfl, ho20, ho21, hres, b27⟩
      obtain ⟨aN, cN, rfl, -⟩ := Row.of_own ho20
      obtain ⟨aN2, cN2, rfl, -⟩ := Row.of_own ho21
      have T_27 := Lib.hid (T_26.out.below b27)
      have E5_27 := Lib.hid (E5_26.out.below b27)
      have B_27 := Lib.hid (b_next B_26.out b27)
      clear b27 B_26 T_26 E5_26 ho20 ho21 hres
      go_wp2_with fail
      refine (HNE.out _ _ _ E5_27.out).mono ?_
      rintro e w28 ⟨y1, y2, l2, rfl, ho20, ho21, hres, b28⟩
      obtain ⟨aO, cO, rfl, -⟩ := Row.of_own ho20
      obtain ⟨aO2, cO2, rfl, -⟩ := Row.of_own ho21
      have T_28 := Lib.hid (T_27.out.below b28)
      have E5_28 := Lib.hid (E5_27.out.below b28)
      have B_28 := Lib.hid (b_next B_27.out b28)
      clear b28 B_27 T_27 E5_27 ho20 ho21 hres
      go_wp2_with fail
      refine (HWC.out _ _ _ T_28.out).mono ?_
      rintro e w29 ⟨rfl, b29⟩
      have E5_29 := Lib.hid (E5_28.out.below b29)
      have B_29 := Lib.hid (b_next B_28.out b29)
      clear b29 B_28 T_28 E5_28 
      go_wp2_with fail
      refine (HWE.out _ _ _ E5_29.out).mono ?_
      rintro e w30 ⟨rfl, b30⟩
      have B_30 := Lib.hid (b_next B_29.out b30)
      clear b30 B_29 E5_29 
      go_wp2_with fail
      refine (HW.out _).mono ?_
      rintro e w31 ⟨rfl, b31⟩
      go_wp2
      go_ret
      exact ⟨rfl, b_next B_30.out b31⟩
theorem walk_ButtonsTurned (n0 : Int) (_ : (Lit.int .i64 n0).wf = true) (tv : Value) (D : List (List Int)) (w : World) (hT : TabIn w tv D) (rv : Value) (l : List Int) (hR : RowIn w rv l) :
    Calls Try.prog 11 #[.int .i64 n0, tv, rv] w fun e w' => e = .returned (.bool true) ∧ Below w.heap.size w w' :=
  trn_walk n0 tv rv D l w hT hR
end Go.Proofs.Ytambhhjbafefgaa

/- ButtonsTurned: exchanging buttons with holes leaves the totals: of an assignment and what undoes it, of the cheapest ones, and the smallest width. Conditions: none. -/
namespace Go.Proofs.Ytambhhjbafefgaa
set_option linter.unusedVariables false

namespace lawButtonsTurned
open Go.ChangeShapes Go.WideShapes Go.ChangeAt Go.RowKit
open Go.ChangeMaps (open_string shut_string)

theorem own : ownKnob Try.prog.godebug = none := by kernel_rfl
theorem lay : laidOutB Try.prog = true := by kernel_rfl

set_option maxRecDepth 100000 in
theorem lifted (os : Os) (started : os.Started) (H : Type) (enc : TypeId × Value → H) :
    ReturnsInHanded {} Try.checked os 11 .any (Rows.buttonsTurnedSpec.pre6 enc Try.prog Try.f11 Rows.buttonsTurnedRow.domain false) (Rows.buttonsTurnedSpec.post enc Try.prog Try.f11 false true false false) := by
  refine returnsInHanded_of_change (C := Try.checked) own started (by kernel_rfl) Try.func11
    (ChangeSpec.witness6 (enc := enc) (C := Try.checked) false ⟨#[], #[.int .i64 0, .slice none 0 0, .slice none 0 0], []⟩ 8 (by kernel_rfl) (by kernel_rfl) (by kernel_rfl) (by kernel_rfl)) ?_
  intro W base args ds gs before hval0 hW hcnd _
  have hval : ∀ (j : Nat) t v, Try.f11.params[j]? = some t → args[j]? = some v → Value.okWide Try.prog W .any base t v := hval0
  have hW' := hW
  obtain ⟨p, q, hA0, hV, rfl, hfz, hnd⟩ := hW
  have hA : DataW.TrodAll enc Try.prog W 0 (fun _ => true) true Try.f11.params.toList args.toList ds p := hA0
  rw [Try.params11] at hA hval
  obtain ⟨v0, vs0, d0, ds0, p0, q0, hargs, rfl, rfl, h0, r0⟩ := trodAll_cons hA
  obtain ⟨v1, vs1, d1, ds1, p1, q1, rfl, rfl, rfl, h1, r1⟩ := trodAll_cons r0
  obtain ⟨v2, vs2, d2, ds2, p2, q2, rfl, rfl, rfl, h2, r2⟩ := trodAll_cons r1
  obtain ⟨rfl, rfl, rfl⟩ := trodAll_nil r2
  obtain rfl : args = #[v0, v1, v2] := by cases args; simp_all
  obtain ⟨rfl, rfl⟩ := trodVars_none hV
  obtain ⟨a0, rfl, rfl, rfl, w0⟩ := open_int Try.underlying3 (hval 0 3 v0 rfl rfl) h0
  obtain ⟨a1, len1, cap1, rfl⟩ := okWide_slice Try.underlying22 (hval 1 22 v1 rfl rfl)
  have k1 := h1
  have lt1 : ∀ x ∈ p1, x.block < W.heap.size := by obtain ⟨m, hm⟩ := k1; exact DataW.trod_lt m _ _ _ hm
  obtain ⟨z1, w1⟩ : ∃ C, TabIn W (.slice a1 len1 cap1) C := by
    obtain ⟨fuel, hf⟩ := h1
    rcases Go.Deep.open_int_rows Try.underlying22 Try.underlying24 Try.underlying3 (by kernel_rfl) (by kernel_rfl) hf with ⟨hcs, _⟩ | ⟨x, l, c, A, L, C, Z, hcs, _, hl, hm, _, hr⟩
    · simp [Value.cells] at hcs
      obtain ⟨rfl, rfl, rfl⟩ := hcs
      exact ⟨[], .inl ⟨_, rfl, rfl⟩⟩
    · simp [Value.cells] at hcs
      obtain ⟨rfl, rfl, rfl⟩ := hcs
      exact tabIn_of hl (fun r h => ⟨(hr r h).1, (hr r h).2.1, (hr r h).2.2.2.1, (hr r h).2.2.2.2.2.1, fun a' ha => ((hr r h).2.2.2.2.2.2 a' ha).2⟩)
  obtain ⟨a2, len2, cap2, rfl⟩ := okWide_slice Try.underlying24 (hval 2 24 v2 rfl rfl)
  have k2 := h2
  have lt2 : ∀ x ∈ p2, x.block < W.heap.size := by obtain ⟨m, hm⟩ := k2; exact DataW.trod_lt m _ _ _ hm
  obtain ⟨z2, w2⟩ : ∃ C, RowIn W (.slice a2 len2 cap2) C := by
    obtain ⟨fuel, hf⟩ := h2
    exact rowIn_of Try.underlying24 Try.underlying3 (by kernel_rfl) hf
  clear hA0 hval0
  refine (walk_ButtonsTurned a0 w0 _ z1 W w1 _ z2 w2).mono fun e W' ⟨he, bel⟩ => ?_
  subst he
  exact ⟨_, rfl, _, _, _, [], _, [], hW', trodAll_mk1 (shut_bool Try.underlying4 _), (trodAll_cons_mk (shut_int Try.underlying3 w0) (trodAll_cons_mk (Below.trod lay (by kernel_rfl) (of_decide_eq_true (by kernel_rfl)) k1 bel lt1) (trodAll_cons_mk (Below.trod lay (by kernel_rfl) (of_decide_eq_true (by kernel_rfl)) k2 bel lt2) trodAll_mk0))), rfl, bel.frame _, fun h => by cases h⟩

theorem over : Rows.buttonsTurnedRow.holds Try.pinned (OpenSpec.ofChange Rows.buttonsTurnedSpec) :=
  OpenClaim.holds_of_wide 11 Try.f11 rfl rfl rfl rfl rfl rfl rfl ⟨rfl, rfl, rfl, rfl, rfl⟩ rfl rfl rfl rfl rfl (by kernel_rfl) Try.func11 (by kernel_rfl)
    (of_decide_eq_true (by kernel_rfl)) (by unfold Func.isWrapper; first | (rw [if_pos (by decide +kernel)]; kernel_rfl) | (rw [if_neg (by decide +kernel)]; exact ⟨rfl, rfl⟩))
    (fun os started H enc _ => lifted os started H enc)

theorem proved : Rows.ButtonsTurnedSaid := over
end lawButtonsTurned
end Go.Proofs.Ytambhhjbafefgaa
