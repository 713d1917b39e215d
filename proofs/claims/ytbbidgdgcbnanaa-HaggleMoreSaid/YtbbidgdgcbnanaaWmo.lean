/- The walk of More. -/
import Derived.Test.YtbbidgdgcbnanaaMore
import Derived.Test.YtbbidgdgcbnanaaAwk
import Derived.Test.YtbbidgdgcbnanaaOpa
namespace Go.Proofs.Ytbbidgdgcbnanaa
set_option linter.unusedVariables false
open Go.RowKit

theorem tam_kids (par : Nat → Nat) (wor : Nat → Int) {n : Nat} (hn : n ≤ 60) (i : Nat) : (kidsZ (tamT par wor n) i).length ≤ 1000000 := by
  rw [tamT_kids]
  split
  · rw [List.length_map]
    unfold kidsP
    have := List.length_filter_le (fun j => decide (1 ≤ j) && decide (par j = i)) (List.range n)
    rw [List.length_range] at this
    omega
  · simp
set_option maxRecDepth 100000 in
set_option maxHeartbeats 4000000 in
theorem more_walk (pv wv ov : Value) (ps ws of : List Int) (b : Int) (w : World) (hP : RowIn w pv ps) (hW : RowIn w wv ws) (hO : RowIn w ov of) : Calls Try.prog 15 #[pv, wv, ov, .int .i64 b] w fun e w' => e = .returned (.bool true) ∧ Below w.heap.size w w' := by
  obtain ⟨j0, hj, hy0, hy1, hy2⟩ := info_parts info_int
  obtain ⟨pa, pc, rfl, hpr⟩ := hP.form
  obtain ⟨wa, wc, rfl, hwr⟩ := hW.form
  obtain ⟨oa, oc, rfl, hor⟩ := hO.form
  have hr := modV_lt b 201 (by omega)
  have HM := Lib.hid fun W => mod_val b 201 W (by omega) (by omega)
  have HT := Lib.hid (tame_any pa ps.length pc ps wa ws.length wc ws 60 w rfl hpr rfl hwr (by omega) (by omega))
  generalize modV b 201 = z at HM hr
  have hN1 : 1 ≤ min 60 (ps.length + 1) := by omega
  have hN2 : min 60 (ps.length + 1) ≤ 60 := by omega
  generalize min 60 (ps.length + 1) = n at HT hN1 hN2
  have htr := tamT_tree (fun j h => parV_lt ps j h) (worV_in ws) hN1 hN2
  have hkl := tam_kids (parV ps) (worV ws) hN2
  have hlen := tamT_len (parV ps) (worV ws) n
  generalize tamT (parV ps) (worV ws) n = T at HT htr hkl hlen
  have hfa := more_facts (isTree_of htr) of ((z : Int) - 100)
  have Hor := Lib.hid hor
  have HD := Lib.hid fun (xs : List Int) (hL : listB T xs = true) (c : Int) (hc1 : -1000 ≤ c) (hc2 : c ≤ 1000) (a : Option Addr) (cap m lc : Nat) (la : Option Addr) (W : World) (ht : TreeAt W a T) (hr : Row W la m (intL xs)) (hm : m ≤ 1000000) => Decides_yes T htr a cap la m lc xs hL c hc1 hc2 W ht hkl hr hm
  have HS := Lib.hid fun (g cap : Nat) (W : World) (hb : Below w.heap.size w W) (ht : TreeAt W (some ⟨g, 0, none⟩) T) => some_any T g cap oa of.length oc of W ht (by omega) rfl (fun j x hj => by
    obtain ⟨ad, h1, h2⟩ := hor j x hj
    exact ⟨ad, h1, (hb.cell (World.block_lt_of_cell? _ _ h2)).trans h2⟩)
  have HL1 := Lib.hid (someN_list T of (fun x => decide (modV x 2 = 1)))
  have HL2 := Lib.hid (someN_list T of (fun x => decide (0 < modV x 4)))
  have Hq := Lib.hid (someN_len T of (fun x => decide (modV x 2 = 1)) T.length)
  have Hst := Lib.hid (someN_step T of fun x => decide (0 < modV x 4))
  have Hle := Lib.hid (someN_len T of fun x => decide (0 < modV x 4))
  have H0 : Hid (someN T of (fun x => decide (0 < modV x 4)) 0 = []) := rfl
  unfold oddN moreN at hfa
  have Hfa := Lib.hid hfa
  generalize someN T of (fun x => decide (modV x 2 = 1)) T.length = xs at HS HL1 Hq Hfa
  obtain ⟨S, hS⟩ : ∃ S, someN T of (fun x => decide (0 < modV x 4)) = S := ⟨_, rfl⟩
  rw [hS] at HL2 Hst Hle H0 Hfa
  rw [hlen] at HD HS HL2 Hq Hfa
  have Hnn := Lib.hid hlen
  obtain ⟨pn, hpn⟩ : ∃ pn, ps.length = pn := ⟨_, rfl⟩
  rw [hpn] at HT ⊢
  obtain ⟨wn, hwn⟩ : ∃ wn, ws.length = wn := ⟨_, rfl⟩
  rw [hwn] at HT ⊢
  obtain ⟨on, hon⟩ : ∃ on, of.length = on := ⟨_, rfl⟩
  rw [hon] at HS ⊢
  have Hof := Lib.hid hon
  clear hP hW hO hpr hwr hor hfa htr hkl hlen hS hpn hwn hon
  go_enter Try.func15, Try.ntmps15
  go_wp2_with fail
  refine HT.out.mono ?_
  rintro e w1 ⟨g, cap, rfl, ht, b1⟩
  have Ht := Lib.hid ht
  have B1 := Lib.hid b1
  clear ht b1 HT
  go_wp2_with fail
  refine (HM.out _).mono ?_
  rintro e w2 ⟨rfl, hw2⟩
  subst w2
  have HSx := Lib.hid (HS.out g cap _ B1.out Ht.out)
  clear HM HS
  go_wp2_with fail
  refine HSx.out.mono ?_
  rintro e w3 ⟨v3, rfl, ho3, b3⟩
  have Ht3 := Lib.hid (Ht.out.below b3)
  have B3 := Lib.hid (b_next B1.out b3)
  obtain ⟨xa, xc, hv3, hR3⟩ := Row.of_own ho3
  subst hv3
  have HR3 := Lib.hid hR3
  clear ho3 b3 hR3 HSx Ht B1
  obtain ⟨xm, hxm⟩ : ∃ xm, xs.length = xm := ⟨_, rfl⟩
  rw [hxm] at HR3 Hq ⊢
  clear hxm
  go_wp2
  go_loopw [11, 12] (fun v i wr => ∃ (k m : Nat) (va : Option Addr) (vc : Nat), k ≤ n ∧ m ≤ 60 ∧ i = .int .i64 k ∧ v = .slice va m vc ∧ Hid (wr.ownsRow w3.heap.size 3 1 (.slice va m vc) m (intL (S k))) ∧ Hid ((S k).length = m) ∧ Hid (Below w3.heap.size w3 wr)) (fun _ i _ => n - (intOf i).toNat)
  case atStart => exact ⟨0, 0, none, 0, Nat.zero_le _, Nat.zero_le _, rfl, rfl, by unfold Hid; rw [H0.out]; exact World.ownsRow_nil _ _ _ _, by unfold Hid; rw [H0.out]; rfl, Below.refl _ _⟩
  case round =>
    clear H0
    obtain ⟨k, m, va, vc, hk, hm60, rfl, rfl, HV, HM, HB⟩ := hrel
    by_cases hlt : k < n
    · have hc : (k : Int) < (n : Int) := by omega
      have hkT : k < T.length := by rw [Hnn.out]; exact hlt
      obtain ⟨g', ra, rc, e1, cn, -, -, -⟩ := (Ht3.out.below HB.out).node hkT
      simp only [Option.some.injEq, Addr.mk.injEq, and_true] at e1
      subst e1
      rw [← kids_len] at cn
      obtain ⟨l, hl⟩ : ∃ l, (kids T k).length = l := ⟨_, rfl⟩
      have Hl : Hid (l = 0 ↔ kids T k = []) := by unfold Hid; rw [← hl]; exact List.length_eq_zero_iff
      rw [hl] at cn
      have Hs := Lib.hid (Hst.out k)
      have Hb := Lib.hid HB.out.size
      have Hl60 := Lib.hid (Hle.out (k + 1))
      clear hl hkT
      by_cases h1 : l = 0 ∧ k < on
      · obtain ⟨rfl, h2⟩ := h1
        have h3 : (k : Int) < (on : Int) := by omega
        obtain ⟨x, hx⟩ : ∃ x, of[k]? = some x := ⟨_, List.getElem?_eq_getElem (by have := Hof.out; omega)⟩
        obtain ⟨ad, hoa, hcx⟩ := Hor.out k x hx
        have hcx2 := ((b_next B3.out HB.out).cell (World.block_lt_of_cell? _ _ hcx)).trans hcx
        subst hoa
        have HMd := Lib.hid fun W => mod_val x 4 W (by omega) (by omega)
        have Hs2 : Hid (S (k + 1) = S k ++ if 0 < modV x 4 then [(k : Int)] else []) := by
          unfold Hid
          rw [Hs.out, decide_eq_true (Hl.out.1 rfl), decide_eq_true (show k < of.length by rw [Hof.out]; exact h2), List.getD_eq_getElem?_getD, hx]
          simp
        clear Hs hx hcx
        generalize modV x 4 = z at HMd Hs2
        go_wp2_with fail
        refine (HMd.out _).mono ?_
        rintro e w4 ⟨rfl, hw4⟩
        subst w4
        clear hcx2 cn HMd
        by_cases hz : 0 < z
        · rw [if_pos hz] at Hs2
          have hz2 : (0 : Int) < (z : Int) := by omega
          go_wp2_with (at_builtin; refine wpList_append_own _ rfl _ _ 27 rfl w3.heap.size 3 j0 (.int .i64 0) 1 8 Try.underlying27 hj hy0 hy1 hy2 rfl (by decide) _ _ _ rfl (HV.out.alloc (.cells #[.int .i64 (k : Int)] 3)) ⟨_, 0, none⟩ 1 1 [.int .i64 (k : Int)] rfl rfl (one_new _ _ _ _ (by simp)) (by simp [Value.oneCell']) (by unfold maxLen; omega) (by omega) (by have := Hb.out; simp; omega) ?_)
          intro v9 w9 hown9 hgrow9 _
          have hB9 : Below w3.heap.size w3 w9 := (HB.out.alloc Hb.out _).grown hgrow9 (by have := Hb.out; simp; omega) (fun q e => (HV.out.lt _ e).1)
          obtain ⟨a9, c9, hv9, -⟩ := Row.of_own hown9
          subst hv9
          have HV9 : Hid (w9.ownsRow w3.heap.size 3 1 (.slice a9 (m + 1) c9) (m + 1) (intL (S (k + 1)))) := by unfold Hid; rw [Hs2.out, intL_snoc]; exact hown9
          have HM9 : Hid ((S (k + 1)).length = m + 1) := by unfold Hid; rw [Hs2.out, List.length_append, HM.out]; rfl
          have HB9 := Lib.hid hB9
          have hm61 : m + 1 ≤ 60 := by have := Hl60.out; have h9 := HM9.out; omega
          clear hown9 hgrow9 hB9 HV HM HB Hs2
          go_wp2
          go_roundw
          case rel => exact ⟨k + 1, m + 1, a9, c9, by omega, hm61, by first | rfl | (congr 1; omega), rfl, HV9, HM9, HB9⟩
          case measure => simp [intOf]; omega
        · rw [if_neg hz, List.append_nil] at Hs2
          have hz2 : ¬ (0 : Int) < (z : Int) := by omega
          clear hz
          go_wp2
          go_roundw
          case rel => exact ⟨k + 1, m, va, vc, by omega, hm60, by first | rfl | (congr 1; omega), rfl, by unfold Hid; rw [Hs2.out]; exact HV.out, by unfold Hid; rw [Hs2.out]; exact HM.out, HB⟩
          case measure => simp [intOf]; omega
      · have Hs2 : Hid (S (k + 1) = S k) := by
          unfold Hid
          rw [Hs.out, if_neg, List.append_nil]
          rw [Bool.and_eq_true, Bool.and_eq_true, decide_eq_true_eq, decide_eq_true_eq, Hof.out]
          rintro ⟨h2, h3, -⟩
          exact h1 ⟨Hl.out.2 h2, h3⟩
        by_cases h4 : l = 0
        · have h5 : ¬ ((k : Int) < (on : Int)) := by omega
          subst h4
          clear h1
          go_wp2
          go_roundw
          case rel => exact ⟨k + 1, m, va, vc, by omega, hm60, by first | rfl | (congr 1; omega), rfl, by unfold Hid; rw [Hs2.out]; exact HV.out, by unfold Hid; rw [Hs2.out]; exact HM.out, HB⟩
          case measure => simp [intOf]; omega
        · have h5 : ¬ ((l : Int) = 0) := by omega
          clear h1
          go_wp2
          go_roundw
          case rel => exact ⟨k + 1, m, va, vc, by omega, hm60, by first | rfl | (congr 1; omega), rfl, by unfold Hid; rw [Hs2.out]; exact HV.out, by unfold Hid; rw [Hs2.out]; exact HM.out, HB⟩
          case measure => simp [intOf]; omega
    · obtain rfl : k = n := by omega
      have hc : ¬ ((k : Int) < (k : Int)) := by omega
      clear hlt
      have hz1 : wrap64 ((z : Int) - 100 - 1) = (z : Int) - 100 - 1 := IntWalk.wrap64_in _ (by omega)
      have H1 := Lib.hid (HD.out xs HL1.out ((z : Int) - 100) (by omega) (by omega) (some ⟨g, 0, none⟩) cap xm xc xa wr (Ht3.out.below HB.out) (HR3.out.below HB.out) (by have := Hq.out; omega))
      have B4 := Lib.hid (b_next B3.out HB.out)
      obtain ⟨va', vc', e', hR4⟩ := Row.of_own HV.out
      simp only [Value.slice.injEq, true_and] at e'
      obtain ⟨rfl, rfl⟩ := e'
      have Ht4 := Lib.hid (Ht3.out.below HB.out)
      have R3 := Lib.hid (HR3.out.below HB.out)
      have R4 := Lib.hid hR4
      clear hR4 HV HB Ht3 HR3 B3
      go_wp2_with fail
      refine H1.out.mono ?_
      rintro e w5 ⟨rfl, b5⟩
      have B5 := Lib.hid (b_next B4.out b5)
      have H2 := Lib.hid (HD.out xs HL1.out ((z : Int) - 100 - 1) (by omega) (by omega) (some ⟨g, 0, none⟩) cap xm xc xa w5 (Ht4.out.below b5) (R3.out.below b5) (by have := Hq.out; omega))
      have Ht5 := Lib.hid (Ht4.out.below b5)
      have R5 := Lib.hid (R4.out.below b5)
      clear b5 H1 B4 Ht4 R3 R4
      go_wp2_with fail
      refine H2.out.mono ?_
      rintro e w6 ⟨rfl, b6⟩
      have B6 := Lib.hid (b_next B5.out b6)
      have H3 := Lib.hid (HD.out (S k) HL2.out ((z : Int) - 100) (by omega) (by omega) (some ⟨g, 0, none⟩) cap m vc va w6 (Ht5.out.below b6) (R5.out.below b6) (by omega))
      clear b6 H2 B5 Ht5 R5 HD
      go_wp2_with fail
      refine H3.out.mono ?_
      rintro e w7 ⟨rfl, b7⟩
      have B7 := Lib.hid (b_next B6.out b7)
      clear b7 H3 B6
      by_cases hA : missN T xs true ((z : Int) - 100) = 0
      · obtain ⟨hC, hD⟩ := Hfa.out hA
        rw [decide_eq_true hA, decide_eq_true hC, decide_eq_true hD]
        clear hA hC hD Hfa
        go_wp2_with fail
        refine (awake_any _).mono ?_
        rintro e w8 ⟨rfl, b8⟩
        have B8 := Lib.hid (b_next B7.out b8)
        clear b8
        go_wp2
        go_ret
        exact ⟨rfl, B8.out⟩
      · rw [decide_eq_false hA]
        clear hA Hfa
        generalize decide (missN T xs true ((z : Int) - 100 - 1) = 0) = C
        generalize decide (missN T (S k) true ((z : Int) - 100) = 0) = D
        go_wp2_with fail
        refine (awake_any _).mono ?_
        rintro e w8 ⟨rfl, b8⟩
        have B8 := Lib.hid (b_next B7.out b8)
        clear b8
        go_wp2
        go_ret
        exact ⟨rfl, B8.out⟩
end Go.Proofs.Ytbbidgdgcbnanaa
