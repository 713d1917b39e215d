/- ButtonsProved: no assignment has a smaller total than Best, whose prices leave no room at its pairs; a pair has the slack 0 exactly if some cheapest assignment has it, and prices leave no room at such a pair; payments are at least 0. Conditions: none. -/
import Derived.Test.YtambhhjbafefgaaQl
import Derived.Test.YtambhhjbafefgaaQk
import Derived.Test.YtambhhjbafefgaaQe
import Derived.Test.YtambhhjbafefgaaQb
import Derived.Test.YtambhhjbafefgaaQj
import Derived.Test.YtambhhjbafefgaaQh
import Derived.ShutString
/- The law's ButtonsProved: its walk. -/
namespace Go.Proofs.Ytambhhjbafefgaa
set_option linter.unusedVariables false
open Go.RowKit Go.BigFrame

set_option maxRecDepth 100000 in
set_option maxHeartbeats 4000000 in
theorem prv_walk (n0 : Int) (tv rv : Value) (D : List (List Int)) (l0 : List Int) (w : World) (hT : TabIn w tv D) (hL : RowIn w rv l0) :
    Calls Try.prog 12 #[.int .i64 n0, tv, rv] w fun e w' => e = .returned (.bool true) ∧ Below w.heap.size w w' := by
  have HTm := Lib.hid fun n hn => tame_any tv D n 1000 w hT hn (Nat.le_refl _)
  have HOr := Lib.hid fun n W hn hb => order_any rv l0 n W (hL.below hb) hn
  have HW := Lib.hid awake_any
  clear hT hL
  go_enter Try.func12, Try.ntmps12
  go_wp2_with fail
  refine (mod_any n0 7 _ (by decide) (by decide)).mono ?_
  rintro e w1 ⟨⟨r, hr, rfl⟩, rfl⟩
  have hw1 : IntKind.i64.wrap (1 + (r : Int)) = ((1 + r : Nat) : Int) := by rw [IntWalk.i64_in _ (by omega)]; omega
  obtain ⟨n, hn⟩ : ∃ n, 1 + r = n := ⟨_, rfl⟩
  have hn1 : 1 ≤ n := by omega
  have hn7 : n ≤ 7 := by omega
  rw [hn] at hw1
  clear hn
  go_wp2_with fail
  refine (HTm.out n hn7).mono ?_
  rintro e w2 ⟨v, C, rfl, hl, hCl, hCt, b2⟩
  have hcb := costs_of_tamed hCl hCt hn1 hn7 (by decide)
  obtain ⟨a, cap, rfl, hcap, hcm, ht⟩ := hl.tbl
  rw [hCl] at hcap ⊢
  obtain ⟨hRe, hp⟩ := Rect.of_costs hcb
  have hrr : ∀ row ∈ C, row.length ≤ 1000 := fun row hrow => by have := hRe.len row hrow; omega
  have hrn : ∀ row ∈ C, row.length = n := fun row hrow => by have := hRe.len row hrow; omega
  have hsr : slackR C = (slackL C, 0) := by unfold slackR; rw [hcb]; rfl
  have hfr : fixR C = (fixL C, 0) := by unfold fixR; rw [hcb]; rfl
  have hpr : payR C = (payL C, 0) := by unfold payR; rw [hcb]; rfl
  have hsl : (slackL C).length = n := by simp [slackL, hCl]
  have hfl : (fixL C).length = n := by unfold fixL; rw [List.length_map, hsl]
  have hpl : (payL C).length = n := by unfold payL; rw [List.length_map, List.length_range, hCl]
  have hslr : ∀ row ∈ slackL C, row.length = n := by
    intro row hrow
    simp only [slackL, List.mem_map, List.mem_range] at hrow
    obtain ⟨i, hi, rfl⟩ := hrow
    rw [slackLine_length]; exact hCl
  have hBe := fun a cap w h => Best_yes C a cap w h hcb
  have hS := fun a cap w h h1 h2 => Slack_any C a cap w h (by omega) hrr h1 h2
  have hF := fun a cap w h h1 h2 => Fixed_any C a cap w h (by omega) hrr h1 h2
  have hP := fun a cap w h h1 h2 => Payments_any C a cap w h (by omega) hrr h1 h2
  have hTo := fun xs a a2 cap m ca w h ha => Total_any C xs a a2 cap m ca w h (by omega) hrr ha
  obtain ⟨hasA, _, _, hwA⟩ := price_facts hcb
  have htA : totR C ((bestW C).holes.take C.length) = ((bestW C).t, 0) := by unfold totR; rw [hcb, hasA, hwA]; rfl
  have hprv := best_proves hcb
  have hPr := fun a a1 a2 a3 cap m m2 m3 c1 c2 c3 w h ha hu hv h1 h2 h3 => Proves_any C a a1 a2 a3 cap C.length m m2 m3 c1 c2 c3 ((bestW C).holes.take C.length) ((uP C (bestW C)).take C.length) ((vP C (bestW C)).take C.length) w hRe rfl h ha hu hv h1 h2 h3
  rw [hprv] at hPr
  have hTA := fun a a2 cap m ca w h ha => hTo ((bestW C).holes.take C.length) a a2 cap m ca w h ha
  rw [htA] at hTA
  simp only at hTA
  have htB : ∀ bs, asgB bs C.length = true → totR C bs = (totL C C.length bs, 0) := fun bs h => by unfold totR; rw [hcb, h]; rfl
  have hPN := fun bs h => prv_n hcb hCl (bs := bs) h
  have htb : ∀ bs, -7000 ≤ totL C n bs ∧ totL C n bs ≤ 7000 := fun bs => by have := wayP_t hRe bs n; unfold totL; omega
  have htb2 : -7000 ≤ (bestW C).t ∧ (bestW C).t ≤ 7000 := by have := wayP_t hRe ((bestW C).holes.take C.length) C.length; rw [hwA] at this; omega
  have hcst : ∀ i j, -1000 ≤ cost C i j ∧ cost C i j ≤ 1000 := fun i j => by
    unfold cost
    cases hi : C[i]? with
    | none => rw [List.getD_eq_getElem?_getD (l := C), hi]; simp
    | some row => rw [List.getD_eq_getElem?_getD (l := C), hi]; exact getD_bound (hRe.cost row (List.mem_of_getElem? hi)) j
  have hcsl : ∀ k, k < n → ∀ j, cost (slackL C) k j = (slackLine C k).getD j 0 := fun k hk j => cost_slack (by omega) j
  rw [hsr] at hS
  rw [hfr] at hF
  rw [hpr] at hP
  simp only [hfl] at hF
  simp only [hpl] at hP
  rw [hCl] at hS hF hP hTo hTA hBe hPr htB
  have T2 := Lib.hid ht
  have B2 := Lib.hid b2
  have HBe := Lib.hid hBe
  have HS := Lib.hid hS
  have HF := Lib.hid hF
  have HP := Lib.hid hP
  have HTo := Lib.hid hTo
  have HTA := Lib.hid hTA
  have HPr := Lib.hid hPr
  have HtB := Lib.hid htB
  have HPN := Lib.hid hPN
  have Htb := Lib.hid htb
  have Htb2 := Lib.hid htb2
  have Hcst := Lib.hid hcst
  have Hcsl := Lib.hid hcsl
  have Hsl := Lib.hid hsl
  have HCl := Lib.hid hCl
  have Hrn := Lib.hid hrn
  have Hslr := Lib.hid hslr
  clear hl hCl hCt b2 hcb ht hRe hp hrr hsr hfr hpr hsl hfl hpl hBe hS hF hP hTo hTA hPr htB hPN htb htb2 hcst hcsl hasA hwA htA hprv hrn hslr
  go_wp2_with fail
  refine (HBe.out _ _ _ T2.out).mono ?_
  rintro e w3 ⟨r0, r1, r2, rfl, ho0, ho1, ho2, b3⟩
  obtain ⟨aA, cA, rfl, hA⟩ := Row.of_own ho0
  obtain ⟨aU, cU, rfl, hU⟩ := Row.of_own ho1
  obtain ⟨aV, cV, rfl, hV⟩ := Row.of_own ho2
  have T3 := Lib.hid (T2.out.below b3)
  have A3 := Lib.hid hA
  have U3 := Lib.hid hU
  have V3 := Lib.hid hV
  have B3 := Lib.hid (b_next B2.out b3)
  clear b3 T2 B2 ho0 ho1 ho2 hA hU hV
  go_wp2_with fail
  refine (HS.out _ _ _ T3.out hcap hcm).mono ?_
  rintro e w4 ⟨v4, rfl, hl4, b4⟩
  obtain ⟨aS, cS, rfl, -, -, hS4⟩ := hl4.tbl
  rw [Hsl.out]
  have T4 := Lib.hid (T3.out.below b4)
  have A4 := Lib.hid (A3.out.below b4)
  have U4 := Lib.hid (U3.out.below b4)
  have V4 := Lib.hid (V3.out.below b4)
  have S4 := Lib.hid hS4
  have B4 := Lib.hid (b_next B3.out b4)
  clear b4 T3 A3 U3 V3 B3 hl4 hS4
  go_wp2_with fail
  refine (HF.out _ _ _ T4.out hcap hcm).mono ?_
  rintro e w5 ⟨v5, rfl, ho5, b5⟩
  obtain ⟨aX, cX, rfl, hX⟩ := Row.of_own ho5
  have T5 := Lib.hid (T4.out.below b5)
  have A5 := Lib.hid (A4.out.below b5)
  have U5 := Lib.hid (U4.out.below b5)
  have V5 := Lib.hid (V4.out.below b5)
  have S5 := Lib.hid (S4.out.below b5)
  have X5 := Lib.hid hX
  have B5 := Lib.hid (b_next B4.out b5)
  clear b5 T4 A4 U4 V4 S4 B4 ho5 hX
  go_wp2_with fail
  refine (HP.out _ _ _ T5.out hcap hcm).mono ?_
  rintro e w6 ⟨v6, rfl, ho6, b6⟩
  obtain ⟨aP, cP, rfl, hPy⟩ := Row.of_own ho6
  have T6 := Lib.hid (T5.out.below b6)
  have A6 := Lib.hid (A5.out.below b6)
  have U6 := Lib.hid (U5.out.below b6)
  have V6 := Lib.hid (V5.out.below b6)
  have S6 := Lib.hid (S5.out.below b6)
  have X6 := Lib.hid (X5.out.below b6)
  have P6 := Lib.hid hPy
  have B6 := Lib.hid (b_next B5.out b6)
  clear b6 T5 A5 U5 V5 S5 X5 B5 ho6 hPy
  go_wp2_with fail
  refine (HOr.out n _ hn7 B6.out).mono ?_
  rintro e w7 ⟨v7, bs, rfl, ho7, hasg, b7⟩
  obtain ⟨aB, cB, rfl, hB7⟩ := Row.of_own ho7
  have T7 := Lib.hid (T6.out.below b7)
  have A7 := Lib.hid (A6.out.below b7)
  have U7 := Lib.hid (U6.out.below b7)
  have V7 := Lib.hid (V6.out.below b7)
  have S7 := Lib.hid (S6.out.below b7)
  have X7 := Lib.hid (X6.out.below b7)
  have P7 := Lib.hid (P6.out.below b7)
  have Q7 := Lib.hid hB7
  have B7 := Lib.hid (b_next B6.out b7)
  obtain ⟨hpn, hle⟩ := HPN.out bs hasg
  have htb := Htb.out bs
  have htb2 := Htb2.out
  have hTB := fun a a2 cap m ca w h ha => HTo.out bs a a2 cap m ca w h ha
  rw [HtB.out bs hasg] at hTB
  simp only at hTB
  obtain ⟨t, htt⟩ : ∃ t, (bestW C).t = t := ⟨_, rfl⟩
  obtain ⟨wt, hwt⟩ : ∃ t, totL C n bs = t := ⟨_, rfl⟩
  have hTA := HTA.out
  rw [htt] at hpn hle htb2 hTA
  rw [hwt] at hpn hle htb hTB
  have hwd : IntKind.i64.wrap (wt - t) = wt - t := IntWalk.i64_in _ (by omega)
  have hwd6 : wrap64 (wt - t) = wt - t := IntWalk.wrap64_in _ (by omega)
  have hnl : ¬ wt < t := by omega
  have HTB := Lib.hid hTB
  have HTA2 := Lib.hid hTA
  have PN := Lib.hid hpn
  clear b7 T6 A6 U6 V6 S6 X6 P6 B6 ho7 hB7 hasg hTB hTA hpn htt hwt HTA HPN Htb Htb2 HTo HtB hle
  go_wp2_with fail
  refine (HTA2.out _ _ _ _ _ _ T7.out A7.out (by omega)).mono ?_
  rintro e w8 ⟨rfl, b8⟩
  have T8 := Lib.hid (T7.out.below b8)
  have A8 := Lib.hid (A7.out.below b8)
  have U8 := Lib.hid (U7.out.below b8)
  have V8 := Lib.hid (V7.out.below b8)
  have S8 := Lib.hid (S7.out.below b8)
  have X8 := Lib.hid (X7.out.below b8)
  have P8 := Lib.hid (P7.out.below b8)
  have Q8 := Lib.hid (Q7.out.below b8)
  have B8 := Lib.hid (b_next B7.out b8)
  clear b8 T7 A7 U7 V7 S7 X7 P7 Q7 B7
  go_wp2_with fail
  refine (HTB.out _ _ _ _ _ _ T8.out Q8.out (by omega)).mono ?_
  rintro e w9 ⟨rfl, b9⟩
  have T9 := Lib.hid (T8.out.below b9)
  have A9 := Lib.hid (A8.out.below b9)
  have U9 := Lib.hid (U8.out.below b9)
  have V9 := Lib.hid (V8.out.below b9)
  have S9 := Lib.hid (S8.out.below b9)
  have X9 := Lib.hid (X8.out.below b9)
  have P9 := Lib.hid (P8.out.below b9)
  have Q9 := Lib.hid (Q8.out.below b9)
  have B9 := Lib.hid (b_next B8.out b9)
  clear b9 T8 A8 U8 V8 S8 X8 P8 Q8 B8
  go_wp2_with fail
  refine (HPr.out _ _ _ _ _ _ _ _ _ _ _ _ T9.out A9.out U9.out V9.out (by omega) (by omega) (by omega)).mono ?_
  rintro e w10 ⟨rfl, q0, rfl⟩
  obtain ⟨gT, rfl, hT⟩ := T9.out.all HCl.out Hrn.out hn1
  obtain ⟨gS, rfl, hS⟩ := S9.out.all Hsl.out Hslr.out hn1
  obtain ⟨gA, rfl, hA⟩ := A9.out.all hn1
  obtain ⟨gU, rfl, hU⟩ := U9.out.all hn1
  obtain ⟨gV, rfl, hV⟩ := V9.out.all hn1
  obtain ⟨gX, rfl, hX⟩ := X9.out.all hn1
  obtain ⟨gP, rfl, hP⟩ := P9.out.all hn1
  obtain ⟨gB, rfl, hB⟩ := Q9.out.all hn1
  have T := Lib.hid hT
  have S := Lib.hid hS
  have A := Lib.hid hA
  have U := Lib.hid hU
  have V := Lib.hid hV
  have X := Lib.hid hX
  have P := Lib.hid hP
  have Q := Lib.hid hB
  clear hT hS hA hU hV hX hP hB T9 S9 A9 U9 V9 X9 P9 Q9 HTB HTA2 HPr HS HF HP HBe Hrn Hslr
  go_wp2
  go_loopw [23, 24, 25] (fun i _ _ wr => ∃ k q : Nat, k ≤ n ∧ i = .int .i64 k ∧ wr = w9.drewN q) (fun i _ _ _ => n - (intOf i).toNat)
  case atStart => exact ⟨0, _, Nat.zero_le _, rfl, rfl⟩
  case round =>
    obtain ⟨k, q, hk, rfl, rfl⟩ := hrel
    by_cases hlt : k < n
    · have hc : (k : Int) < n := by omega
      obtain ⟨ai, hai, ea, es, ep, ex⟩ := PN.out.own k hlt
      have hpy := PN.out.pay k hlt
      obtain ⟨rT, cT, t1, t2⟩ := T.out k hlt
      obtain ⟨rS, cs, s1, s2⟩ := S.out k hlt
      have t2a := t2 ai hai
      have s2a := s2 ai hai
      rw [Hcsl.out k hlt, es] at s2a
      have a1 := A.out k hlt
      rw [ea] at a1
      have u1 := U.out k hlt
      have v1 := V.out ai hai
      have x1 := X.out k hlt
      have p1 := P.out k hlt
      have b1 := Q.out k hlt
      have hub := PN.out.bound k
      have hvb := PN.out.bound ai
      have T2 := Lib.hid t2
      have S2 := Lib.hid s2
      obtain ⟨pk, hpk⟩ : ∃ x, (payL C).getD k 0 = x := ⟨_, rfl⟩
      rw [hpk] at p1 hpy
      have hpn : decide (pk < 0) = false := decide_eq_false (by omega)
      obtain ⟨ck, hck⟩ : ∃ x, cost C k ai = x := ⟨_, rfl⟩
      obtain ⟨va, hva⟩ : ∃ x, ((vP C (bestW C)).take n).getD ai 0 = x := ⟨_, rfl⟩
      obtain ⟨uk, huk⟩ : ∃ x, ((uP C (bestW C)).take n).getD k 0 = x := ⟨_, rfl⟩
      have Huk := Lib.hid huk
      rw [hck] at t2a ep
      rw [hva] at v1 ep hvb
      rw [huk] at u1 ep hub
      have hwp : IntKind.i64.wrap (uk + va) = ck := by rw [IntWalk.i64_in _ (by omega)]; exact ep
      have hwp6 : wrap64 (uk + va) = ck := by rw [IntWalk.wrap64_in _ (by omega)]; exact ep
      have haj : (ai : Int) < n := by omega
      clear t2 s2 es ea hpk hpy ep hck hva huk
      rcases ex with ⟨ex, hcn⟩ | ⟨ex, hcn⟩
      all_goals
        rw [ex] at x1
        clear ex
        have hm1 : ((ai : Int) != -1) = true := by rw [bne_iff_ne]; omega
        have hm2 : ((ai : Int) == -1) = false := by rw [beq_eq_false_iff_ne]; omega
        have hnn : ((n : Int) != n) = false := by simp
        have haa : ((ai : Int) != ai) = false := by simp
        have hkk : (ck != ck) = false := by simp
        have Hcn := Lib.hid hcn
        clear hcn
        go_wp2
        refine wp_region_quiet_lit (by kernel_rfl) (by kernel_rfl) ?_
        simp only [List.append]
        repeat (go_big_quiet_step (fail))
        refine wpQuiet_nil ?_
        intro _ hw'
        obtain ⟨nq, hw''⟩ := hw'
        subst hw''
        go_wp2
        go_loopw [24, 25] (fun z j wr => ∃ m q : Nat, m ≤ n ∧ j = .int .i64 m ∧ z = .int .i64 (cntZ (slackLine C k) m) ∧ wr = w9.drewN q) (fun _ j _ => n - (intOf j).toNat)
        case atStart => exact ⟨0, _, Nat.zero_le _, rfl, rfl, World.drewN_drewN _ _ _⟩
        case round =>
          obtain ⟨m, q, hm, rfl, rfl, rfl⟩ := hrel
          have hcz := cntZ_le (slackLine C k) m
          have hsc : cntZ (slackLine C k) (m + 1) = if (slackLine C k).getD m 0 = 0 then cntZ (slackLine C k) m + 1 else cntZ (slackLine C k) m := rfl
          by_cases hlm : m < n
          · have hc2 : (m : Int) < n := by omega
            have t3 := T2.out m hlm
            have s3 := S2.out m hlm
            rw [Hcsl.out k hlt] at s3
            have v3 := V.out m hlm
            have hvm := PN.out.bound m
            have hcm2 := Hcst.out k m
            obtain ⟨p1', p2', p3', p4'⟩ := PN.out.pair k m hlt hlm
            obtain ⟨sv, hsv⟩ : ∃ x, (slackLine C k).getD m 0 = x := ⟨_, rfl⟩
            obtain ⟨vm, hvv⟩ : ∃ x, ((vP C (bestW C)).take n).getD m 0 = x := ⟨_, rfl⟩
            obtain ⟨cm, hcmm⟩ : ∃ x, cost C k m = x := ⟨_, rfl⟩
            obtain ⟨bk, hbk⟩ : ∃ x, bs.getD k 0 = x := ⟨_, rfl⟩
            obtain ⟨z, hz⟩ : ∃ x, cntZ (slackLine C k) m = x := ⟨_, rfl⟩
            rw [hsv] at s3 p1' p2' p3' p4' hsc
            rw [hvv] at v3 hvm p2' p3'
            rw [hcmm] at t3 hcm2 p2' p3'
            rw [hbk] at b1 p4'
            rw [hz] at hsc hcz ⊢
            rw [Huk.out] at p2' p3'
            have hg1 : decide (sv < 0) = false := decide_eq_false (by omega)
            have hwa : IntKind.i64.wrap (cm - uk) = cm - uk := IntWalk.i64_in _ (by omega)
            have hwb : IntKind.i64.wrap (cm - uk - vm) = cm - uk - vm := IntWalk.i64_in _ (by omega)
            have hg2 : decide (sv < cm - uk - vm) = false := decide_eq_false (by omega)
            have hg5 : sv = 0 → decide (vm < cm - uk) = false := fun h => decide_eq_false (by omega)
            have Hsc := Lib.hid hsc
            clear hsc hz hsv hvv hcmm hbk p1' p2' hlm
            by_cases hb : bk = m
            · have hg3 : ((bk : Int) == m) = true := by rw [beq_iff_eq]; exact hb
              have hg4 : decide (wt - t < sv) = false := decide_eq_false (by have := p4' hb; omega)
              clear p4'
              subst hb
              by_cases h0 : sv = 0
              · as_aux_lemma =>
                have hwc : IntKind.i64.wrap (uk + vm) = cm := by rw [IntWalk.i64_in _ (by omega)]; exact p3' h0
                have hs := Hsc.out
                rw [if_pos h0] at hs
                have Hs := Lib.hid hs
                have hg6 := hg5 h0
                clear p3' hs Hsc hg5
                subst h0
                go_wp2
                go_quiet (fail)
                go_wp2
                go_quiet (fail)
                go_wp2
                go_roundw
                case rel => exact ⟨m + 1, _, by omega, by go_num, by rw [Hs.out]; go_num, rfl⟩
                case measure => simp [intOf]; omega
              · as_aux_lemma =>
                have h1 : (sv == 0) = false := by rw [beq_eq_false_iff_ne]; exact h0
                have hs := Hsc.out
                rw [if_neg h0] at hs
                have Hs := Lib.hid hs
                clear p3' hs Hsc h0 hg5
                go_wp2
                go_quiet (fail)
                go_wp2
                go_roundw
                case rel => exact ⟨m + 1, _, by omega, by go_num, by rw [Hs.out], rfl⟩
                case measure => simp [intOf]; omega
            · have hg3 : ((bk : Int) == m) = false := by rw [beq_eq_false_iff_ne]; exact hb
              clear p4' hb
              by_cases h0 : sv = 0
              · as_aux_lemma =>
                have hwc : IntKind.i64.wrap (uk + vm) = cm := by rw [IntWalk.i64_in _ (by omega)]; exact p3' h0
                have hs := Hsc.out
                rw [if_pos h0] at hs
                have Hs := Lib.hid hs
                have hg6 := hg5 h0
                clear p3' hs Hsc hg5
                subst h0
                go_wp2
                go_quiet (fail)
                go_wp2
                go_quiet (fail)
                go_wp2
                go_roundw
                case rel => exact ⟨m + 1, _, by omega, by go_num, by rw [Hs.out]; go_num, rfl⟩
                case measure => simp [intOf]; omega
              · as_aux_lemma =>
                have h1 : (sv == 0) = false := by rw [beq_eq_false_iff_ne]; exact h0
                have hs := Hsc.out
                rw [if_neg h0] at hs
                have Hs := Lib.hid hs
                clear p3' hs Hsc h0 hg5
                go_wp2
                go_quiet (fail)
                go_wp2
                go_roundw
                case rel => exact ⟨m + 1, _, by omega, by go_num, by rw [Hs.out], rfl⟩
                case measure => simp [intOf]; omega
          · obtain rfl : m = n := by omega
            have hc2 : ¬ (m : Int) < m := by omega
            have hcn := Hcn.out
            obtain ⟨z, hz⟩ : ∃ x, cntZ (slackLine C k) m = x := ⟨_, rfl⟩
            rw [hz] at hcn ⊢
            clear hsc hz
            first
              | (have hg : 1 < (z : Int) := by omega
                 clear hcn
                 go_wp2
                 go_roundw
                 case rel => exact ⟨k + 1, _, by omega, by go_num, rfl⟩
                 case measure => simp [intOf]; omega)
              | (have hg : ¬ 1 < (z : Int) := by omega
                 clear hcn
                 go_wp2
                 go_roundw
                 case rel => exact ⟨k + 1, _, by omega, by go_num, rfl⟩
                 case measure => simp [intOf]; omega)
    · have hc : ¬ (k : Int) < n := by omega
      go_wp2_with fail
      refine (HW.out _).mono ?_
      rintro e w11 ⟨rfl, b11⟩
      go_wp2
      go_ret
      exact ⟨rfl, b_next (below_drewN B9.out q) b11⟩
theorem walk_ButtonsProved (n0 : Int) (_ : (Lit.int .i64 n0).wf = true) (tv : Value) (D : List (List Int)) (w : World) (hT : TabIn w tv D) (rv : Value) (l : List Int) (hR : RowIn w rv l) :
    Calls Try.prog 12 #[.int .i64 n0, tv, rv] w fun e w' => e = .returned (.bool true) ∧ Below w.heap.size w w' :=
  prv_walk n0 tv rv D l w hT hR
end Go.Proofs.Ytambhhjbafefgaa

/- ButtonsProved: no assignment has a smaller total than Best, whose prices leave no room at its pairs; a pair has the slack 0 exactly if some cheapest assignment has it, and prices leave no room at such a pair; payments are at least 0. Conditions: none. -/
namespace Go.Proofs.Ytambhhjbafefgaa
set_option linter.unusedVariables false

namespace lawButtonsProved
open Go.ChangeShapes Go.WideShapes Go.ChangeAt Go.RowKit
open Go.ChangeMaps (open_string shut_string)

theorem own : ownKnob Try.prog.godebug = none := by kernel_rfl
theorem lay : laidOutB Try.prog = true := by kernel_rfl

set_option maxRecDepth 100000 in
theorem lifted (os : Os) (started : os.Started) (H : Type) (enc : TypeId × Value → H) :
    ReturnsInHanded {} Try.checked os 12 .any (Rows.buttonsProvedSpec.pre6 enc Try.prog Try.f12 Rows.buttonsProvedRow.domain false) (Rows.buttonsProvedSpec.post enc Try.prog Try.f12 false true false false) := by
  refine returnsInHanded_of_change (C := Try.checked) own started (by kernel_rfl) Try.func12
    (ChangeSpec.witness6 (enc := enc) (C := Try.checked) false ⟨#[], #[.int .i64 0, .slice none 0 0, .slice none 0 0], []⟩ 8 (by kernel_rfl) (by kernel_rfl) (by kernel_rfl) (by kernel_rfl)) ?_
  intro W base args ds gs before hval0 hW hcnd _
  have hval : ∀ (j : Nat) t v, Try.f12.params[j]? = some t → args[j]? = some v → Value.okWide Try.prog W .any base t v := hval0
  have hW' := hW
  obtain ⟨p, q, hA0, hV, rfl, hfz, hnd⟩ := hW
  have hA : DataW.TrodAll enc Try.prog W 0 (fun _ => true) true Try.f12.params.toList args.toList ds p := hA0
  rw [Try.params12] at hA hval
  obtain ⟨v0, vs0, d0, ds0, p0, q0, hargs, rfl, rfl, h0, r0⟩ := trodAll_cons hA
  obtain ⟨v1, vs1, d1, ds1, p1, q1, rfl, rfl, rfl, h1, r1⟩ := trodAll_cons r0
  obtain ⟨v2, vs2, d2, ds2, p2, q2, rfl, rfl, rfl, h2, r2⟩ := trodAll_cons r1
  obtain ⟨rfl, rfl, rfl⟩ := trodAll_nil r2
  obtain rfl : args = #[v0, v1, v2] := by cases args; simp_all
  obtain ⟨rfl, rfl⟩ := trodVars_none hV
  obtain ⟨a0, rfl, rfl, rfl, w0⟩ := open_int Try.underlying3 (hval 0 3 v0 rfl rfl) h0
  obtain ⟨a1, len1, cap1, rfl⟩ := okWide_slice Try.underlying22 (hval 1 22 v1 rfl rfl)
  have k1 := h1
  have lt1 : ∀ x ∈ p1, x.block < W.heap.size := by obtain ⟨m, hm⟩ := k1; exact DataW.trod_lt m _ _ _ hm
  obtain ⟨z1, w1⟩ : ∃ C, TabIn W (.slice a1 len1 cap1) C := by
    obtain ⟨fuel, hf⟩ := h1
    rcases Go.Deep.open_int_rows Try.underlying22 Try.underlying24 Try.underlying3 (by kernel_rfl) (by kernel_rfl) hf with ⟨hcs, _⟩ | ⟨x, l, c, A, L, C, Z, hcs, _, hl, hm, _, hr⟩
    · simp [Value.cells] at hcs
      obtain ⟨rfl, rfl, rfl⟩ := hcs
      exact ⟨[], .inl ⟨_, rfl, rfl⟩⟩
    · simp [Value.cells] at hcs
      obtain ⟨rfl, rfl, rfl⟩ := hcs
      exact tabIn_of hl (fun r h => ⟨(hr r h).1, (hr r h).2.1, (hr r h).2.2.2.1, (hr r h).2.2.2.2.2.1, fun a' ha => ((hr r h).2.2.2.2.2.2 a' ha).2⟩)
  obtain ⟨a2, len2, cap2, rfl⟩ := okWide_slice Try.underlying24 (hval 2 24 v2 rfl rfl)
  have k2 := h2
  have lt2 : ∀ x ∈ p2, x.block < W.heap.size := by obtain ⟨m, hm⟩ := k2; exact DataW.trod_lt m _ _ _ hm
  obtain ⟨z2, w2⟩ : ∃ C, RowIn W (.slice a2 len2 cap2) C := by
    obtain ⟨fuel, hf⟩ := h2
    exact rowIn_of Try.underlying24 Try.underlying3 (by kernel_rfl) hf
  clear hA0 hval0
  refine (walk_ButtonsProved a0 w0 _ z1 W w1 _ z2 w2).mono fun e W' ⟨he, bel⟩ => ?_
  subst he
  exact ⟨_, rfl, _, _, _, [], _, [], hW', trodAll_mk1 (shut_bool Try.underlying4 _), (trodAll_cons_mk (shut_int Try.underlying3 w0) (trodAll_cons_mk (Below.trod lay (by kernel_rfl) (of_decide_eq_true (by kernel_rfl)) k1 bel lt1) (trodAll_cons_mk (Below.trod lay (by kernel_rfl) (of_decide_eq_true (by kernel_rfl)) k2 bel lt2) trodAll_mk0))), rfl, bel.frame _, fun h => by cases h⟩

theorem over : Rows.buttonsProvedRow.holds Try.pinned (OpenSpec.ofChange Rows.buttonsProvedSpec) :=
  OpenClaim.holds_of_wide 12 Try.f12 rfl rfl rfl rfl rfl rfl rfl ⟨rfl, rfl, rfl, rfl, rfl⟩ rfl rfl rfl rfl rfl (by kernel_rfl) Try.func12 (by kernel_rfl)
    (of_decide_eq_true (by kernel_rfl)) (by unfold Func.isWrapper; first | (rw [if_pos (by decide +kernel)]; kernel_rfl) | (rw [if_neg (by decide +kernel)]; exact ⟨rfl, rfl⟩))
    (fun os started H enc _ => lifted os started H enc)

theorem proved : Rows.ButtonsProvedSaid := over
end lawButtonsProved
end Go.Proofs.Ytambhhjbafefgaa
