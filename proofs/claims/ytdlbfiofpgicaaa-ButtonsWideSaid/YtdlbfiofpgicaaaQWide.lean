/- ButtonsWide: no assignment has a smaller width than Narrow, whose block, or any list that IsBlock accepts for a number, shows that every assignment has a greater one. Conditions: none. -/
import Derived.Test.YtdlbfiofpgicaaaQj
import Derived.Test.YtdlbfiofpgicaaaQh
import Derived.ShutString
/- The law's ButtonsWide: its walk. -/
namespace Go.Proofs.Ytdlbfiofpgicaaa
set_option linter.unusedVariables false
open Go.RowKit

theorem asc_nodup (n : Nat) (l : List Int) (h : okL n l l.length = true) : l.Pairwise (· < ·) := by
  have hlt : ∀ i j, i < j → j < l.length → l.getD i 0 < l.getD j 0 := by
    intro i j
    induction j with
    | zero => intro h; omega
    | succ j ih =>
      intro hij hj
      have h1 : okAt n l (j + 1) = true := by
        unfold okL at h
        rw [List.all_eq_true] at h
        exact h (j + 1) (List.mem_range.2 hj)
      unfold okAt lastOf at h1
      have h2 := (of_decide_eq_true h1).1
      rw [if_neg (by omega), Nat.add_sub_cancel] at h2
      by_cases e : i = j
      · subst e; exact h2
      · have := ih (by omega) (by omega)
        omega
  rw [List.pairwise_iff_getElem]
  intro i j hi hj hij
  have := hlt i j hij hj
  rwa [List.getD_eq_getElem?_getD, List.getD_eq_getElem?_getD, List.getElem?_eq_getElem hi, List.getElem?_eq_getElem hj] at this
theorem wdL_ge (C : List (List Int)) (r : List Int) : ∀ k i, i < k → (C.getD i []).getD (r.getD i 0).toNat 0 ≤ wdL C r k := by
  intro k
  induction k with
  | zero => intro i hi; omega
  | succ k ih =>
    intro i hi
    show _ ≤ max (wdL C r k) _
    by_cases e : i = k
    · subst e; omega
    · have := ih i (by omega)
      omega
theorem block_sound {C : List (List Int)} (hw : costsB C = true) {wd : Int} {l : List Int} (h : blockB C wd l = true) : ∀ x ∈ asgW C, wd < widthTo C x C.length := by
  obtain ⟨hR, hp⟩ := Rect.of_costs hw
  have hn7 := hR.n7
  rw [blockB_eq hn7, Bool.and_eq_true, decide_eq_true_eq] at h
  obtain ⟨hok, hlt⟩ := h
  intro x hx
  refine Int.not_le.1 fun hle => ?_
  obtain ⟨hrl, hra, _⟩ := rowW_good hn7 hx
  rw [widthTo_eq C x _ (Nat.le_refl _)] at hle
  unfold asgB at hra
  obtain ⟨_, hb, hnd⟩ := of_decide_eq_true hra
  have hnn := okL_nonneg C.length l l.length hok
  have hin : ∀ b ∈ l, 0 ≤ b ∧ b < C.length := fun b hb => by
    obtain ⟨i, hi, rfl⟩ := List.getElem_of_mem hb
    have := hnn i hi
    rwa [List.getD_eq_getElem?_getD, List.getElem?_eq_getElem hi] at this
  -- the holes of the block's buttons
  have hgd : ∀ b : Nat, ∀ hb : b < (rowW C x).length, (rowW C x).getD b 0 = (rowW C x)[b] := fun b hb => by rw [List.getD_eq_getElem?_getD, List.getElem?_eq_getElem hb]; rfl
  have hH : (l.map fun b => (rowW C x).getD b.toNat 0).Nodup := by
    refine List.Pairwise.map _ (R := fun a b => a ∈ l ∧ b ∈ l ∧ a < b) (fun a b hab e => ?_) ((asc_nodup _ l hok).imp_of_mem fun ha hb h => ⟨ha, hb, h⟩)
    have h1 := hin a hab.1
    have h2 := hin b hab.2.1
    have h3 := hab.2.2
    rw [hgd _ (by omega), hgd _ (by omega)] at e
    have := List.pairwise_iff_getElem.1 hnd a.toNat b.toNat (by omega) (by omega) (by omega)
    exact this e
  have hHb : ∀ z ∈ l.map (fun b => (rowW C x).getD b.toNat 0), 0 ≤ z ∧ z < C.length := fun z hz => by
    obtain ⟨b, hb', rfl⟩ := List.mem_map.1 hz
    have h1 := hin b hb'
    rw [hgd _ (by omega)]
    exact hb _ (List.getElem_mem _)
  have hc := mem_count C.length _ hH hHb
  rw [List.length_map] at hc
  have hm : (List.range C.length).countP (fun j : Nat => decide ((j : Int) ∈ l.map fun b => (rowW C x).getD b.toNat 0)) ≤ (List.range C.length).countP (nbrB C wd l l.length) :=
    List.countP_mono_left fun j _ hj => by
      rw [decide_eq_true_eq] at hj
      obtain ⟨b, hb', he⟩ := List.mem_map.1 hj
      have h1 := hin b hb'
      unfold nbrB
      rw [any_getD (fun b => decide ((C.getD b.toNat []).getD j 0 ≤ wd)), List.any_eq_true]
      refine ⟨b, hb', decide_eq_true ?_⟩
      have h2 := wdL_ge C (rowW C x) C.length b.toNat (by omega)
      rw [he] at h2
      rw [show ((j : Int)).toNat = j from rfl] at h2
      omega
  omega

set_option maxRecDepth 100000 in
set_option maxHeartbeats 4000000 in
theorem wide_walk (n0 o0 o1 : Int) (tv rv : Value) (D : List (List Int)) (l0 : List Int) (w : World) (hT : TabIn w tv D) (hL : RowIn w rv l0) :
    Calls Try.prog 13 #[.int .i64 n0, tv, .agg #[.int .i64 o0, .int .i64 o1], rv] w fun e w' => e = .returned (.bool true) ∧ Below w.heap.size w w' := by
  obtain ⟨i0, hi, hz0, hz1, hz2⟩ := info_parts info_int
  have bx := below_alloc w (.cells #[.int .i64 o0, .int .i64 o1] 66)
  have hbx := World.alloc_heap_new w (.cells #[.int .i64 o0, .int .i64 o1] 66)
  have hsz : (w.alloc (.cells #[.int .i64 o0, .int .i64 o1] 66)).heap.size = w.heap.size + 1 := by simp
  generalize hWB : w.alloc (.cells #[.int .i64 o0, .int .i64 o1] 66) = WB at bx hbx hsz
  have HTm := Lib.hid fun n hn => tame_any tv D n 1000 WB (hT.below bx) hn (Nat.le_refl _)
  have HOr := Lib.hid fun n W hn hb => order_any rv l0 n W (hL.below (b_next bx hb)) hn
  have HW := Lib.hid awake_any
  have Bx := Lib.hid bx
  have Hbx := Lib.hid hbx
  clear hT hL bx hbx
  go_enter Try.func13, Try.ntmps13
  go_wp2_with fail
  clear hWB
  refine (mod_any n0 7 _ (by decide) (by decide)).mono ?_
  rintro e w1 ⟨⟨r, hr, rfl⟩, rfl⟩
  have hw1 : IntKind.i64.wrap (1 + (r : Int)) = ((1 + r : Nat) : Int) := by rw [IntWalk.i64_in _ (by omega)]; omega
  obtain ⟨n, hn⟩ : ∃ n, 1 + r = n := ⟨_, rfl⟩
  have hn1 : 1 ≤ n := by omega
  have hn7 : n ≤ 7 := by omega
  rw [hn] at hw1
  clear hn
  go_wp2_with fail
  refine (HTm.out n hn7).mono ?_
  rintro e w2 ⟨v, C, rfl, hl, hCl, hCt, b2⟩
  have hcb := costs_of_tamed hCl hCt hn1 hn7 (by decide)
  obtain ⟨a, cap, rfl, hcap, hcm, ht⟩ := hl.tbl
  rw [hCl] at hcap ⊢
  obtain ⟨hRe, hp⟩ := Rect.of_costs hcb
  have hN := fun a cap w h => Narrow_yes C a cap w h hcb
  obtain ⟨r0, _, _, hwid, hmem, hmin⟩ := nar_same hcb
  have hblk := fun l (h : BlockRes C ((narW C).2 - 1) l) => nar_block hcb h
  have hlen := fun l (h : BlockRes C ((narW C).2 - 1) l) => block_len hRe.n7 (nar_block hcb h)
  have hin2 : -1000 ≤ (narW C).2 ∧ (narW C).2 ≤ 1001 := narL_in hRe (asgW C)
  have hsnd := fun (wd : Int) (l : List Int) (h : blockB C wd l = true) => block_sound hcb h _ hmem
  rw [← hwid] at hsnd
  obtain ⟨zs, hzs⟩ : ∃ z, (narW C).1.holes.take C.length = z := ⟨_, rfl⟩
  rw [widthTo_eq C _ _ (Nat.le_refl _), show rowW C (narW C).1 = zs from hzs] at hwid
  obtain ⟨hzl, hza, _⟩ := rowW_good hRe.n7 hmem
  rw [show rowW C (narW C).1 = zs from hzs] at hzl hza
  have hge : ∀ os, asgB os C.length = true → (narW C).2 ≤ wdL C os C.length := fun os h => by
    unfold asgB at h
    obtain ⟨h1, h2, h3⟩ := of_decide_eq_true h
    have h4 := allL_mem h3 h2 C.length (by omega)
    rw [List.take_of_length_le (by omega), ← asgW_rows hRe.n7] at h4
    obtain ⟨x, hx, hxe⟩ := List.mem_map.1 h4
    have h5 := hmin x hx
    rwa [widthTo_eq C x _ (Nat.le_refl _), show rowW C x = os from hxe] at h5
  obtain ⟨k, hk⟩ : ∃ k, (narW C).2 = k := ⟨_, rfl⟩
  rw [hzs] at hN
  rw [hk] at hN hblk hlen hin2 hwid hsnd hge
  have hrg : ∀ os, asgB os C.length = true → ∀ x ∈ os, 0 ≤ x ∧ x < C.length := fun os h => by
    unfold asgB at h
    exact (of_decide_eq_true h).2.1
  have hIb := fun a b cap cb q wd l w h hl hq => IsBlock_any C a b cap cb q wd l w h (by omega) (fun row hrow => by have := hRe.len row hrow; omega) hl hq
  rw [hcb] at hIb
  simp only [Bool.true_and, if_true] at hIb
  have hRa := fun a ca w h => refAssignment_any a C.length C.length ca zs w h hRe.n7 (by omega)
  rw [hza] at hRa
  have hRw := fun os (ho : asgB os C.length = true) a a2 cap ca w h ha => refWidth_any C a a2 cap C.length ca os w hRe rfl hp (hrg os ho) h ha
  rw [hCl] at hN hIb hRa hRw hwid hge hza
  have T2 := Lib.hid ht
  have B2 := Lib.hid (b_next Bx.out b2)
  have HB2 := Lib.hid b2
  have HN := Lib.hid hN
  have HIb := Lib.hid hIb
  have HRa := Lib.hid hRa
  have HRw := Lib.hid hRw
  have Hblk := Lib.hid hblk
  have Hlen := Lib.hid hlen
  have Hsnd := Lib.hid hsnd
  have Hge := Lib.hid hge
  have Hwid := Lib.hid hwid
  have Hza := Lib.hid hza
  clear hl hCl hCt b2 hcb ht hRe hp hN hblk hlen hsnd hwid hmem hmin hzs hzl hza hge hk hrg hIb hRa hRw
  go_wp2_with fail
  refine (HN.out _ _ _ T2.out).mono ?_
  rintro e w3 ⟨u1, u2, l, rfl, ho1, ho2, hres, b3⟩
  obtain ⟨a3, c3, rfl, hR3⟩ := Row.of_own ho1
  obtain ⟨a4, c4, rfl, hR4⟩ := Row.of_own ho2
  have hbl := Hblk.out l hres
  have hll := Hlen.out l hres
  have hbn : blockB C k l = false := by
    cases h : blockB C k l with
    | false => rfl
    | true => have := Hsnd.out k l h; omega
  have hI1 := fun a b cap cb q w h hl hq => HIb.out a b cap cb q (k - 1) l w h hl hq
  have hI2 := fun a b cap cb q w h hl hq => HIb.out a b cap cb q k l w h hl hq
  rw [hbl] at hI1
  rw [hbn] at hI2
  obtain ⟨ml, hml⟩ : ∃ q, l.length = q := ⟨_, rfl⟩
  rw [hml] at hR4 hll ⊢
  have HI1 := Lib.hid hI1
  have HI2 := Lib.hid hI2
  have T3 := Lib.hid (T2.out.below b3)
  have R3 := Lib.hid hR3
  have R4 := Lib.hid hR4
  have B3 := Lib.hid (b_next B2.out b3)
  have X3 := Lib.hid (b_next HB2.out b3)
  clear b3 T2 B2 HB2 ho1 ho2 hR3 hR4 hbl hbn hres hI1 hI2 hml
  go_wp2_with fail
  refine (HOr.out n _ hn7 X3.out).mono ?_
  rintro e w4 ⟨v4, os, rfl, ho4, hasg, b4⟩
  obtain ⟨a5, c5, rfl, hR5⟩ := Row.of_own ho4
  have hov := Hge.out os hasg
  have hRw2 := HRw.out os hasg
  have hRw1 := HRw.out zs Hza.out
  rw [← Hwid.out] at hRw1
  obtain ⟨wo, hwo⟩ : ∃ x, wdL C os n = x := ⟨_, rfl⟩
  rw [hwo] at hov hRw2
  have HRw1 := Lib.hid hRw1
  have HRw2 := Lib.hid hRw2
  have T4 := Lib.hid (T3.out.below b4)
  have S4 := Lib.hid (R3.out.below b4)
  have L4 := Lib.hid (R4.out.below b4)
  have R5 := Lib.hid hR5
  have B4 := Lib.hid (b_next B3.out b4)
  have X4 := Lib.hid (b_next X3.out b4)
  have hnl : ¬ wo < k := by omega
  clear b4 T3 R3 R4 B3 X3 ho4 hR5 hasg hRw1 hRw2 hwo hov
  go_wp2_with fail
  refine (HRa.out _ _ _ S4.out).mono ?_
  rintro e w5 ⟨rfl, q5, rfl⟩
  go_wp2_with fail
  refine (HRw1.out _ _ _ _ _ (T4.out.drewN _) (S4.out.drewN _)).mono ?_
  rintro e w6 ⟨rfl, q6, rfl⟩
  go_wp2_with fail
  refine (HRw2.out _ _ _ _ _ (T4.out.drewN _) (R5.out.drewN _)).mono ?_
  rintro e w7 ⟨rfl, q7, rfl⟩
  have hw2 : IntKind.i64.wrap (k - 1) = k - 1 := IntWalk.i64_in _ (by omega)
  go_wp2_with fail
  refine (HI1.out _ _ _ _ _ _ (T4.out.drewN _) (L4.out.drewN _) (by omega)).mono ?_
  rintro e w8 ⟨rfl, rfl⟩
  go_wp2_with fail
  refine (HI2.out _ _ _ _ _ _ (T4.out.drewN _) (L4.out.drewN _) (by omega)).mono ?_
  rintro e w9 ⟨rfl, rfl⟩
  have hX5 := below_drewN X4.out (q5 + q6 + q7)
  have hB5 := below_drewN B4.out (q5 + q6 + q7)
  have hT5 := T4.out.drewN (q5 + q6 + q7)
  have hbx := (hX5.block _ (by omega)).trans Hbx.out
  generalize w4.drewN (q5 + q6 + q7) = W5 at hX5 hB5 hT5 hbx ⊢
  have T5 := Lib.hid hT5
  have B5 := Lib.hid hB5
  have Hb5 := Lib.hid hbx
  have hls := (Array.getElem?_eq_some_iff.1 hbx).1
  clear hX5 hB5 hT5 hbx T4 S4 L4 R5 B4 X4
  go_wp2
  go_loopw [19, 20] (fun v i wr => ∃ (L : List Int) (ii : Nat), ii ≤ n ∧ L.length ≤ ii ∧ i = .int .i64 ii ∧ wr.ownsRow W5.heap.size 3 1 v L.length (intL L) ∧ Below W5.heap.size W5 wr) (fun _ i _ => n - (intOf i).toNat)
  case atStart => exact ⟨[], 0, Nat.zero_le _, Nat.le_refl _, rfl, World.ownsRow_nil _ _ _ _, Below.refl _ _⟩
  case round =>
    obtain ⟨L, j, hj, hLj, rfl, ho, hB⟩ := hrel
    have hb6 := (hB.block _ hls).trans Hb5.out
    have s0 : wr.cell? ⟨w.heap.size, 0, none⟩ = some (.int .i64 o0) := by simp [World.cell?, hb6]
    have s1 : wr.cell? ⟨w.heap.size, 1, none⟩ = some (.int .i64 o1) := by simp [World.cell?, hb6]
    obtain ⟨m, hm⟩ : ∃ m, L.length = m := ⟨_, rfl⟩
    rw [hm] at hLj ho
    have HB := Lib.hid hB
    have HO := Lib.hid ho
    have Hm := Lib.hid hm
    clear hb6 hB ho hm
    by_cases hlt : j < n
    · have hc : (j : Int) < n := by omega
      go_wp2_with fail
      refine (mod_any o0 128 _ (by decide) (by decide)).mono ?_
      rintro e w5 ⟨⟨r2, hr2, rfl⟩, hw5⟩
      have hw6 := hw5.symm
      clear hw5
      subst hw6
      clear s0 s1
      go_wp2_with (at_builtin; refine wpList_append_own _ rfl _ _ 24 rfl W5.heap.size 3 i0 (.int .i64 0) 1 8 Try.underlying24 hi hz0 hz1 hz2 rfl (by decide) _ _ _ rfl (HO.out.alloc (.cells #[.int .i64 j] 3)) ⟨_, 0, none⟩ 1 1 [.int .i64 j] rfl rfl (one_new _ _ _ _ (by simp)) (by simp [Value.oneCell']) (by unfold maxLen; omega) (by omega) (by have := HB.out.size; simp; omega) ?_; intro v2 w6 hown2 hgrow2 _
                   have HB6 : Hid (Below W5.heap.size W5 w6) := rel_push HB.out (by have := HB.out.size; simp; omega) ((Below.refl _ _).alloc HB.out.size _) HO.out hgrow2
                   have HO6 := Lib.hid hown2
                   clear hown2 hgrow2)
      all_goals
        go_roundw
        case rel =>
          first
            | exact ⟨L ++ [(j : Int)], j + 1, by omega, by rw [List.length_append, Hm.out]; show m + 1 ≤ _; omega, by go_num, by rw [List.length_append, Hm.out]; unfold intL; rw [List.map_append]; exact HO6.out, HB6.out⟩
            | exact ⟨L, j + 1, by omega, by rw [Hm.out]; omega, by go_num, by rw [Hm.out]; exact HO.out, HB.out⟩
        case measure => simp [intOf]; omega
    · obtain rfl : j = n := by omega
      have hc : ¬ (j : Int) < j := by omega
      obtain ⟨a6, c6, hv6, hR6⟩ := Row.of_own HO.out
      subst hv6
      have R6 := Lib.hid hR6
      have T6 := Lib.hid (T5.out.below HB.out)
      have B6 := Lib.hid (b_next B5.out HB.out)
      clear hR6 HO T5 B5 s0
      go_wp2_with fail
      refine (mod_any o1 50 _ (by decide) (by decide)).mono ?_
      rintro e w5 ⟨⟨r3, hr3, rfl⟩, hw5⟩
      have hw6 := hw5.symm
      clear hw5
      subst hw6
      have hw7 : IntKind.i64.wrap (k - (r3 : Int)) = k - (r3 : Int) := IntWalk.i64_in _ (by omega)
      obtain ⟨mo, hmo⟩ : ∃ x, k - (r3 : Int) = x := ⟨_, rfl⟩
      have hI3 := fun a b cap cb w h hl => HIb.out a b cap cb m mo L w h hl (by omega)
      obtain ⟨hb, hhb⟩ : ∃ b, blockB C mo L = b := ⟨_, rfl⟩
      rw [hhb] at hI3
      have HI3 := Lib.hid hI3
      have hw8 : IntKind.i64.wrap (k - (r3 : Int)) = mo := hw7.trans hmo
      clear hI3 hmo s1 hw7
      go_wp2_with fail
      refine (HI3.out _ _ _ _ _ T6.out R6.out).mono ?_
      rintro e w8 ⟨rfl, rfl⟩
      cases hb with
      | false =>
        clear hhb
        go_wp2_with fail
        refine (HW.out _).mono ?_
        rintro e w9 ⟨rfl, b9⟩
        go_wp2
        go_ret
        exact ⟨rfl, b_next B6.out b9⟩
      | true =>
        have hmk : mo < k := Hsnd.out mo L hhb
        clear hhb
        go_wp2_with fail
        refine (HW.out _).mono ?_
        rintro e w9 ⟨rfl, b9⟩
        go_wp2
        go_ret
        exact ⟨rfl, b_next B6.out b9⟩
theorem walk_ButtonsWide (n0 : Int) (_ : (Lit.int .i64 n0).wf = true) (tv : Value) (D : List (List Int)) (w : World) (hT : TabIn w tv D) (o0 o1 : Int) (rv : Value) (l : List Int) (hR : RowIn w rv l) :
    Calls Try.prog 13 #[.int .i64 n0, tv, .agg #[.int .i64 o0, .int .i64 o1], rv] w fun e w' => e = .returned (.bool true) ∧ Below w.heap.size w w' :=
  wide_walk n0 o0 o1 tv rv D l w hT hR
end Go.Proofs.Ytdlbfiofpgicaaa

/- ButtonsWide: no assignment has a smaller width than Narrow, whose block, or any list that IsBlock accepts for a number, shows that every assignment has a greater one. Conditions: none. -/
namespace Go.Proofs.Ytdlbfiofpgicaaa
set_option linter.unusedVariables false

namespace lawButtonsWide
open Go.ChangeShapes Go.WideShapes Go.ChangeAt Go.RowKit
open Go.ChangeMaps (open_string shut_string)

theorem own : ownKnob Try.prog.godebug = none := by kernel_rfl
theorem lay : laidOutB Try.prog = true := by kernel_rfl

set_option maxRecDepth 100000 in
set_option maxHeartbeats 3000000 in
theorem lifted (os : Os) (started : os.Started) (H : Type) (enc : TypeId × Value → H) :
    ReturnsInHanded {} Try.checked os 13 .any (Rows.buttonsWideSpec.pre6 enc Try.prog Try.f13 Rows.buttonsWideRow.domain false) (Rows.buttonsWideSpec.post enc Try.prog Try.f13 false true false false) := by
  refine returnsInHanded_of_change (C := Try.checked) own started (by kernel_rfl) Try.func13
    (ChangeSpec.witness6 (enc := enc) (C := Try.checked) false ⟨#[], #[.int .i64 0, .slice none 0 0, .agg #[.int .i64 0, .int .i64 0], .slice none 0 0], []⟩ 8 (by kernel_rfl) (by kernel_rfl) (by kernel_rfl) (by kernel_rfl)) ?_
  intro W base args ds gs before hval0 hW hcnd _
  have hval : ∀ (j : Nat) t v, Try.f13.params[j]? = some t → args[j]? = some v → Value.okWide Try.prog W .any base t v := hval0
  have hW' := hW
  obtain ⟨p, q, hA0, hV, rfl, hfz, hnd⟩ := hW
  have hA : DataW.TrodAll enc Try.prog W 0 (fun _ => true) true Try.f13.params.toList args.toList ds p := hA0
  rw [Try.params13] at hA hval
  obtain ⟨v0, vs0, d0, ds0, p0, q0, hargs, rfl, rfl, h0, r0⟩ := trodAll_cons hA
  obtain ⟨v1, vs1, d1, ds1, p1, q1, rfl, rfl, rfl, h1, r1⟩ := trodAll_cons r0
  obtain ⟨v2, vs2, d2, ds2, p2, q2, rfl, rfl, rfl, h2, r2⟩ := trodAll_cons r1
  obtain ⟨v3, vs3, d3, ds3, p3, q3, rfl, rfl, rfl, h3, r3⟩ := trodAll_cons r2
  obtain ⟨rfl, rfl, rfl⟩ := trodAll_nil r3
  obtain rfl : args = #[v0, v1, v2, v3] := by cases args; simp_all
  obtain ⟨rfl, rfl⟩ := trodVars_none hV
  obtain ⟨a0, rfl, rfl, rfl, w0⟩ := open_int Try.underlying3 (hval 0 3 v0 rfl rfl) h0
  obtain ⟨a1, len1, cap1, rfl⟩ := okWide_slice Try.underlying22 (hval 1 22 v1 rfl rfl)
  have k1 := h1
  have lt1 : ∀ x ∈ p1, x.block < W.heap.size := by obtain ⟨m, hm⟩ := k1; exact DataW.trod_lt m _ _ _ hm
  obtain ⟨z1, w1⟩ : ∃ C, TabIn W (.slice a1 len1 cap1) C := by
    obtain ⟨fuel, hf⟩ := h1
    rcases Go.Deep.open_int_rows Try.underlying22 Try.underlying24 Try.underlying3 (by kernel_rfl) (by kernel_rfl) hf with ⟨hcs, _⟩ | ⟨x, l, c, A, L, C, Z, hcs, _, hl, hm, _, hr⟩
    · simp [Value.cells] at hcs
      obtain ⟨rfl, rfl, rfl⟩ := hcs
      exact ⟨[], .inl ⟨_, rfl, rfl⟩⟩
    · simp [Value.cells] at hcs
      obtain ⟨rfl, rfl, rfl⟩ := hcs
      exact tabIn_of hl (fun r h => ⟨(hr r h).1, (hr r h).2.1, (hr r h).2.2.2.1, (hr r h).2.2.2.2.2.1, fun a' ha => ((hr r h).2.2.2.2.2.2 a' ha).2⟩)
  obtain ⟨cs2, rfl, hsz2, _⟩ : ∃ cs, v2 = .agg cs ∧ cs.size = Try.prog.cellsOf 66 ∧ Row.okWide Try.prog W .any base 66 cs := by
    have := hval 2 66 v2 rfl rfl
    simpa [Value.okWide, Try.underlying66] using this
  rw [show Try.prog.cellsOf 66 = 2 by kernel_rfl] at hsz2
  obtain ⟨c2_0, c2_1, rfl⟩ := arrayOf2 hsz2
  have k2 := h2
  have lt2 : ∀ x ∈ p2, x.block < W.heap.size := by obtain ⟨m, hm⟩ := k2; exact DataW.trod_lt m _ _ _ hm
  obtain ⟨fuel2, hf2⟩ := h2
  obtain ⟨y2_0, y2_1, m2, _, hy2_0, hy2_1⟩ := trod_arrayOf2 Try.underlying66 (by kernel_rfl) hf2
  obtain ⟨x2_0, e2_0, rfl, _⟩ := DataW.trod_int Try.underlying3 hy2_0
  simp at e2_0
  subst e2_0
  obtain ⟨x2_1, e2_1, rfl, _⟩ := DataW.trod_int Try.underlying3 hy2_1
  simp at e2_1
  subst e2_1
  obtain ⟨a3, len3, cap3, rfl⟩ := okWide_slice Try.underlying24 (hval 3 24 v3 rfl rfl)
  have k3 := h3
  have lt3 : ∀ x ∈ p3, x.block < W.heap.size := by obtain ⟨m, hm⟩ := k3; exact DataW.trod_lt m _ _ _ hm
  obtain ⟨z3, w3⟩ : ∃ C, RowIn W (.slice a3 len3 cap3) C := by
    obtain ⟨fuel, hf⟩ := h3
    exact rowIn_of Try.underlying24 Try.underlying3 (by kernel_rfl) hf
  clear hA0 hval0
  refine (walk_ButtonsWide a0 w0 _ z1 W w1 x2_0 x2_1 _ z3 w3).mono fun e W' ⟨he, bel⟩ => ?_
  subst he
  exact ⟨_, rfl, _, _, _, [], _, [], hW', trodAll_mk1 (shut_bool Try.underlying4 _), (trodAll_cons_mk (shut_int Try.underlying3 w0) (trodAll_cons_mk (Below.trod lay (by kernel_rfl) (of_decide_eq_true (by kernel_rfl)) k1 bel lt1) (trodAll_cons_mk (Below.trod lay (by kernel_rfl) (of_decide_eq_true (by kernel_rfl)) k2 bel lt2) (trodAll_cons_mk (Below.trod lay (by kernel_rfl) (of_decide_eq_true (by kernel_rfl)) k3 bel lt3) trodAll_mk0)))), rfl, bel.frame _, fun h => by cases h⟩

theorem over : Rows.buttonsWideRow.holds Try.pinned (OpenSpec.ofChange Rows.buttonsWideSpec) :=
  OpenClaim.holds_of_wide 13 Try.f13 rfl rfl rfl rfl rfl rfl rfl ⟨rfl, rfl, rfl, rfl, rfl⟩ rfl rfl rfl rfl rfl (by kernel_rfl) Try.func13 (by kernel_rfl)
    (of_decide_eq_true (by kernel_rfl)) (by unfold Func.isWrapper; first | (rw [if_pos (by decide +kernel)]; kernel_rfl) | (rw [if_neg (by decide +kernel)]; exact ⟨rfl, rfl⟩))
    (fun os started H enc _ => lifted os started H enc)

theorem proved : Rows.ButtonsWideSaid := over
end lawButtonsWide
end Go.Proofs.Ytdlbfiofpgicaaa
