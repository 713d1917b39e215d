/- ShuffleJoins: Joined returns the smallest number with the remainders, or ErrArg. Conditions: none (the statement itself takes at most 8 pairs). -/
import Derived.Test.YtndbjojjaapeaaaQg
import Derived.Test.YtndbjojjaapeaaaQd
import Derived.Deep.Slices
import Derived.Deep.AppendLies
import Derived.ShutString
import Derived.Lib.SmallJoins
/- The reference's Product and Permutation. -/
namespace Go.Proofs.Ytndbjojjaapeaaa
set_option linter.unusedVariables false
open Go.RowKit

theorem refPerm_any (a : Option Addr) (n cap : Nat) (F : List Int) (w : World) (hr : Row w a n (intL F)) (hn : n ≤ 100) :
    Calls Try.prog 38 #[.slice a n cap] w fun e w' => e = .returned (.bool (decide ((equalR F).1 < 0))) ∧ ∃ q, w' = w.drewN q := by
  have hE := refEqual_any a n cap F w hr hn
  obtain ⟨x, hx⟩ : ∃ x, (equalR F).1 = x := ⟨_, rfl⟩
  rw [hx] at hE ⊢
  generalize (equalR F).2 = y at hE
  have HE := Lib.hid hE
  clear hE hr hx
  go_enter Try.func38, Try.ntmps38
  go_wp2_with fail
  refine HE.out.mono ?_
  rintro e w1 ⟨rfl, q, rfl⟩
  go_wp2
  go_ret
  exact ⟨rfl, q, rfl⟩
def prevP (X : List (Int × Int)) (k : Nat) : Int := if k = 0 then 0 else (X.getD (k - 1) (0, 0)).1
theorem prevP_next {X : List (Int × Int)} {k : Nat} {p q : Int} (h : X[k]? = some (p, q)) : prevP X (k + 1) = p := by
  unfold prevP
  rw [if_neg (by omega), Nat.add_sub_cancel, List.getD_eq_getElem?_getD, h]; rfl
theorem prod_bad {X : List (Int × Int)} {k M : Nat} {p q : Int} (h : X[k]? = some (p, q)) (hb : ¬ (okP (prevP X k) (p, q) = true ∧ primB p.toNat = true)) : prodS (prevP X k) M (X.drop k) = 0 := by
  rw [List.drop_eq_getElem_cons (List.getElem?_eq_some_iff.1 h).1, (List.getElem?_eq_some_iff.1 h).2]
  show (if _ then _ else _) = _
  exact if_neg hb
theorem prod_step {X : List (Int × Int)} {k M P K : Nat} (h : X[k]? = some ((P : Int), (K : Int))) (hb : okP (prevP X k) ((P : Int), (K : Int)) = true) (hp : primB P = true) : prodS (prevP X k) M (X.drop k) = if 64 < M * P ^ K then 0 else prodS (prevP X (k + 1)) (M * P ^ K) (X.drop (k + 1)) := by
  rw [prevP_next h, List.drop_eq_getElem_cons (List.getElem?_eq_some_iff.1 h).1, (List.getElem?_eq_some_iff.1 h).2]
  show (if _ then _ else _) = _
  exact if_pos ⟨hb, hp⟩
theorem prod_end {X : List (Int × Int)} {n M : Nat} (h : X.length = n) : prodS (prevP X n) M (X.drop n) = if M < 2 then 0 else M := by
  rw [List.drop_of_length_le (by omega)]; rfl
theorem primB_no {P d : Nat} (h2 : 2 ≤ d) (hd : d < P) (h : P % d = 0) : primB P = false := by
  refine Bool.eq_false_iff.2 fun e => primB_is e d h2 hd (Nat.dvd_of_mod_eq_zero h)
theorem primB_yes {P : Nat} (h : ∀ d, 2 ≤ d → d < P → ¬ P % d = 0) : primB P = true := by
  unfold primB
  rw [List.all_eq_true]
  intro d hd
  rw [List.mem_range] at hd
  by_cases h2 : d < 2
  · simp [h2]
  · have := h d (by omega) hd
    simp [this]
theorem okP_yes {prev : Int} {P K : Nat} (h1 : 2 ≤ P) (h2 : P ≤ 64) (h3 : 1 ≤ K) (h4 : K ≤ 6) (h5 : prev < (P : Int)) : okP prev ((P : Int), (K : Int)) = true := by
  unfold okP
  refine decide_eq_true ⟨?_, ?_, ?_, ?_, h5⟩ <;> simp only <;> omega
theorem pq_nums {p q : Int} (x0 : ¬ p < 2) (x1 : ¬ 64 < p) (x2 : ¬ q < 1) (x3 : ¬ 6 < q) : ∃ P K : Nat, p = P ∧ q = K ∧ (2 ≤ P ∧ P ≤ 64 ∧ 1 ≤ K ∧ K ≤ 6) ∧ decide ((P : Int) < 2) = false ∧ decide ((64 : Int) < (P : Int)) = false ∧ decide ((K : Int) < 1) = false ∧ decide ((6 : Int) < (K : Int)) = false := by
  obtain ⟨P, rfl⟩ := Int.eq_ofNat_of_zero_le (show 0 ≤ p by omega)
  obtain ⟨K, rfl⟩ := Int.eq_ofNat_of_zero_le (show 0 ≤ q by omega)
  exact ⟨P, K, rfl, rfl, by omega, decide_eq_false x0, decide_eq_false x1, decide_eq_false x2, decide_eq_false x3⟩
theorem okP_no4 {prev p q : Int} {b : Bool} (h : p ≤ prev) : ¬ (okP prev (p, q) = true ∧ b = true) := fun h' => by
  have h2 := of_decide_eq_true h'.1
  simp only at h2
  omega
theorem k_zero {k : Nat} (h : k = 0) : decide (0 < k) = false := by subst h; rfl
theorem k_pos {k n : Nat} (h : 0 < k) (hk : k ≤ n) (hn : n ≤ 1000) : ∃ k1 : Nat, k - 1 = k1 ∧ IntKind.i64.wrap ((k : Int) - 1) = (k1 : Int) ∧ wrap64 ((k : Int) - 1) = (k1 : Int) ∧ k1 < n ∧ decide (0 < k) = true :=
  ⟨k - 1, rfl, by rw [IntWalk.i64_in _ (by omega)]; omega, by rw [IntWalk.wrap64_in _ (by omega)]; omega, by omega, decide_eq_true h⟩
theorem mul_numP {a b : Nat} (ha : a ≤ 64) (hb : b ≤ 64) : ∃ r : Nat, a * b = r ∧ IntKind.i64.wrap ((a : Int) * (b : Int)) = (r : Int) ∧ wrap64 ((a : Int) * (b : Int)) = (r : Int) := by
  have h : a * b ≤ 64 * 64 := Nat.mul_le_mul ha hb
  have e : (a : Int) * (b : Int) = ((a * b : Nat) : Int) := by simp
  refine ⟨a * b, rfl, ?_, ?_⟩
  · rw [e]; exact IntWalk.i64_in _ (by omega)
  · rw [e]; exact IntWalk.wrap64_in _ (by omega)
theorem pow_big {M P K j : Nat} (hP : 1 ≤ P) (hj : j + 1 ≤ K) (h : 64 < M * P ^ j * P) : 64 < M * P ^ K := by
  obtain ⟨d, rfl⟩ : ∃ d, K = j + 1 + d := ⟨K - (j + 1), by omega⟩
  rw [Nat.pow_add, Nat.pow_succ, ← Nat.mul_assoc, ← Nat.mul_assoc]
  have := Nat.mul_le_mul_left (M * P ^ j * P) (show 1 ≤ P ^ d from Nat.pos_of_ne_zero fun e => by rw [Nat.pow_eq_zero] at e; omega)
  omega
set_option maxRecDepth 100000 in
set_option maxHeartbeats 4000000 in
theorem refProduct_any (a : Option Addr) (n cap : Nat) (X : List (Int × Int)) (w : World) (hr : Row w a (n * 2) (flatI X)) (hX : X.length = n) (hn : n ≤ 1000) :
    Calls Try.prog 54 #[.slice a n cap] w fun e w' => e = .returned (.int .i64 (prodX X : Nat)) ∧ ∃ q, w' = w.drewN q := by
  have hbad := fun (k M : Nat) (p q : Int) => prod_bad (X := X) (k := k) (M := M) (p := p) (q := q)
  have hstep := fun (k M P K : Nat) => prod_step (X := X) (k := k) (M := M) (P := P) (K := K)
  have hend := fun (M : Nat) => prod_end (X := X) (n := n) (M := M) hX
  have h0 : prodS (prevP X 0) 1 (X.drop 0) = prodX X := rfl
  have hpv : ∀ k : Nat, 0 < k → prevP X k = (X.getD (k - 1) (0, 0)).1 := fun k hk => by unfold prevP; rw [if_neg (by omega)]
  generalize prodX X = R at *
  have Hbad := Lib.hid hbad
  have Hstep := Lib.hid hstep
  have Hend := Lib.hid hend
  have H0 := Lib.hid h0
  have Hpv := Lib.hid hpv
  have Hr := Lib.hid hr
  have HX := Lib.hid hX
  clear hbad hstep hend h0 hpv hr hX
  go_enter Try.func54, Try.ntmps54
  go_wp2
  go_loopw [3, 4] (fun mm i wr => ∃ k M q : Nat, k ≤ n ∧ i = .int .i64 k ∧ mm = .int .i64 M ∧ M ≤ 64 ∧ Hid (prodS (prevP X k) M (X.drop k) = R) ∧ wr = w.drewN q) (fun _ i _ => n - (intOf i).toNat)
  case atStart => exact ⟨0, 1, 0, Nat.zero_le _, rfl, rfl, by omega, H0, rfl⟩
  case round =>
    clear H0
    obtain ⟨k, M, q0, hk, rfl, rfl, hM, HP, rfl⟩ := hrel
    by_cases hlt : k < n
    · have hc : (k : Int) < (n : Int) := by omega
      have Hgo := Lib.hid (show k + 1 ≤ n ∧ k < n by omega)
      obtain ⟨⟨p, q⟩, hpq⟩ : ∃ x, X[k]? = some x := ⟨_, List.getElem?_eq_getElem (by have := HX.out; omega)⟩
      obtain ⟨g, rfl, c0, c1⟩ := Hr.out.two hlt hpq
      have hbd := fun h => (Hbad.out k M p q hpq h).symm.trans HP.out
      have hst := fun (P K : Nat) (hp : p = P) (hq : q = K) h1 h2 => ((Hstep.out k M P K (by rw [hpq, hp, hq]) (by rw [← hp, ← hq]; exact h1) h2).symm.trans HP.out)
      have hprev : k = 0 ∨ ∃ u u' : Int, 0 < k ∧ prevP X k = u ∧ w.cell? ⟨g, (k - 1) * 2, none⟩ = some (.int .i64 u) ∧ w.cell? ⟨g, (k - 1) * 2 + 1, none⟩ = some (.int .i64 u') := by
        by_cases hk0 : k = 0
        · exact .inl hk0
        · obtain ⟨⟨u, u'⟩, hu⟩ : ∃ x, X[k - 1]? = some x := ⟨_, List.getElem?_eq_getElem (by have := HX.out; omega)⟩
          obtain ⟨g', e, d0, d1⟩ := Hr.out.two (show k - 1 < n by omega) hu
          simp only [Option.some.injEq, Addr.mk.injEq, and_true] at e
          subst e
          exact .inr ⟨u, u', by omega, by rw [Hpv.out k (by omega), List.getD_eq_getElem?_getD, hu]; rfl, d0, d1⟩
      have Hbd := Lib.hid hbd
      have Hst := Lib.hid hst
      have Hprev := Lib.hid hprev
      clear hbd hst hprev hpq HP
      by_cases x0 : p < 2
      · have y0 : decide (p < 2) = true := decide_eq_true x0
        have HR := Lib.hid (Hbd.out (fun h => by have := of_decide_eq_true h.1; simp only at this; omega))
        clear Hbd Hst Hprev
        go_wp2
        go_region
        go_wp2
        go_ret
        exact ⟨by rw [← HR.out]; rfl, _, by first | rfl | exact World.drewN_drewN _ _ _ | trivial⟩
      have y0 : decide (p < 2) = false := decide_eq_false x0
      by_cases x1 : 64 < p
      · have y1 : decide (64 < p) = true := decide_eq_true x1
        have HR := Lib.hid (Hbd.out (fun h => by have := of_decide_eq_true h.1; simp only at this; omega))
        clear Hbd Hst Hprev
        go_wp2
        go_region
        go_wp2
        go_ret
        exact ⟨by rw [← HR.out]; rfl, _, by first | rfl | exact World.drewN_drewN _ _ _ | trivial⟩
      have y1 : decide (64 < p) = false := decide_eq_false x1
      by_cases x2 : q < 1
      · have y2 : decide (q < 1) = true := decide_eq_true x2
        have HR := Lib.hid (Hbd.out (fun h => by have := of_decide_eq_true h.1; simp only at this; omega))
        clear Hbd Hst Hprev
        go_wp2
        go_region
        go_wp2
        go_ret
        exact ⟨by rw [← HR.out]; rfl, _, by first | rfl | exact World.drewN_drewN _ _ _ | trivial⟩
      have y2 : decide (q < 1) = false := decide_eq_false x2
      by_cases x3 : 6 < q
      · have y3 : decide (6 < q) = true := decide_eq_true x3
        have HR := Lib.hid (Hbd.out (fun h => by have := of_decide_eq_true h.1; simp only at this; omega))
        clear Hbd Hst Hprev
        go_wp2
        go_region
        go_wp2
        go_ret
        exact ⟨by rw [← HR.out]; rfl, _, by first | rfl | exact World.drewN_drewN _ _ _ | trivial⟩
      have y3 : decide (6 < q) = false := decide_eq_false x3
      clear y0 y1 y2 y3
      obtain ⟨P, K, rfl, rfl, hP, y0, y1, y2, y3⟩ := pq_nums x0 x1 x2 x3
      clear x0 x1 x2 x3
      rcases Hprev.out with hk0 | ⟨u, u', hk0, hpu, d0, d1⟩
      · have zz := k_zero hk0
        have hpv : prevP X k < (P : Int) := by
          have : prevP X k = 0 := by unfold prevP; exact if_pos hk0
          rw [this]; clear y0 y1 y2 y3 zz; omega
        clear hk0
        have Hok := Lib.hid (okP_yes (prev := prevP X k) hP.1 hP.2.1 hP.2.2.1 hP.2.2.2 hpv)
        clear hpv
        clear Hprev
        go_wp2
        go_region
        go_wp2
        clear y0 y1 y2 y3 zz
        go_loopw [7] (fun d wr => ∃ d' q : Nat, 2 ≤ d' ∧ d' ≤ P ∧ d = .int .i64 d' ∧ Hid (∀ e, 2 ≤ e → e < d' → ¬ P % e = 0) ∧ wr = w.drewN q) (fun d _ => P - (intOf d).toNat)
        case atStart => exact ⟨2, q0 + 1, Nat.le_refl _, hP.1, rfl, fun e h1 h2 => absurd h2 (Nat.not_lt.2 h1), rfl⟩
        case round =>
          obtain ⟨d, q2, hd2, hdP, rfl, HD, rfl⟩ := hrel
          by_cases hld : d < P
          · have hc3 : (d : Int) < (P : Int) := by omega
            have hnum := rem_all (m := P) (p := d) hP.2.1
            obtain ⟨z1, z2⟩ := zero_no hd2
            obtain ⟨t, ht⟩ : ∃ t, P % d = t := ⟨_, rfl⟩
            have Hnum : Hid (Int.tmod (P : Int) (d : Int) = (t : Int) ∧ IntKind.i64.wrap (t : Int) = (t : Int) ∧ wrap64 (t : Int) = (t : Int)) := by
              obtain ⟨t', h1, h2⟩ := hnum
              have e : t' = t := h1.symm.trans ht
              subst e
              exact h2
            clear hnum
            by_cases h0 : t = 0
            · have hz : ((t : Int) == 0) = true := nat_zero h0
              have HR := Lib.hid (Hbd.out (fun h => by have h2 := h.2; rw [Int.toNat_natCast, primB_no hd2 hld (ht.trans h0)] at h2; cases h2))
              clear Hbd Hst Hok HD ht h0 hP hd2 hdP hld
              obtain ⟨n1, n2, n3⟩ := Hnum.out
              go_wp2
              go_ret
              exact ⟨by rw [← HR.out]; rfl, _, by first | rfl | exact World.drewN_drewN _ _ _ | trivial⟩
            · have hz : ((t : Int) == 0) = false := by rw [beq_eq_false_iff_ne]; omega
              have Hnx := Lib.hid (show ∀ e, 2 ≤ e → e < d + 1 → ¬ P % e = 0 from fun e h1 h2 => by
                by_cases e1 : e = d
                · subst e1; rw [ht]; exact h0
                · exact HD.out e h1 (by omega))
              have Hg2 := Lib.hid (show 2 ≤ d + 1 ∧ d + 1 ≤ P ∧ d < P ∧ d ≤ 64 by omega)
              have hd64 : d ≤ 64 := Hg2.out.2.2.2
              clear HD ht h0 hdP hld hP hd2
              obtain ⟨n1, n2, n3⟩ := Hnum.out
              clear Hnum
              go_wp2
              go_roundw
              case rel => exact ⟨d + 1, _, Hg2.out.1, Hg2.out.2.1, by clear n1 n2 n3; go_num, Hnx.out, by first | rfl | exact World.drewN_drewN _ _ _ | trivial⟩
              case measure => clear n1 n2 n3; simp [intOf]; have := Hg2.out; omega
          · obtain rfl : d = P := by omega
            have hc3 : ¬ (d : Int) < (d : Int) := by omega
            have hpr : primB d = true := primB_yes HD.out
            have Hst2 := Lib.hid (Hst.out d K rfl rfl Hok.out hpr)
            clear HD hpr Hbd Hst Hok
            go_wp2
            go_loopw [3, 8] (fun mm j wr => ∃ j' M' q : Nat, j' ≤ K ∧ j = .int .i64 j' ∧ mm = .int .i64 M' ∧ Hid (M * d ^ j' = M') ∧ M' ≤ 64 ∧ wr = w.drewN q) (fun _ j _ => K - (intOf j).toNat)
            case atStart => exact ⟨0, M, _, Nat.zero_le _, rfl, rfl, by unfold Hid; rw [Nat.pow_zero, Nat.mul_one], hM, by first | rfl | exact World.drewN_drewN _ _ _ | trivial⟩
            case round =>
              obtain ⟨j, M', q3, hj, rfl, rfl, HM', hM64, rfl⟩ := hrel
              by_cases hlj : j < K
              · have hc4 : (j : Int) < (K : Int) := by omega
                obtain ⟨r, hr', n1, n2⟩ := mul_numP hM64 hP.2.1
                have N1 := Lib.hid n1
                have N2 := Lib.hid n2
                clear n1 n2
                have Hr' := Lib.hid hr'
                clear hr'
                have hd1 : 1 ≤ d := by omega
                have hj1 : j + 1 ≤ K := by omega
                have Hg3 := Lib.hid (show j + 1 ≤ K ∧ j < K by omega)
                by_cases hbig : 64 < r
                · have hb : (64 : Int) < (r : Int) := by omega
                  have h := Hst2.out
                  rw [if_pos (pow_big hd1 hj1 (by rw [HM'.out, Hr'.out]; exact hbig))] at h
                  have HR := Lib.hid h
                  have n1 := N1.out
                  have n2 := N2.out
                  clear h Hst2 HM' Hr' N1 N2
                  go_wp2
                  go_ret
                  exact ⟨by rw [← HR.out]; rfl, _, by first | rfl | exact World.drewN_drewN _ _ _ | trivial⟩
                · have hb : ¬ (64 : Int) < (r : Int) := by omega
                  have Hnx := Lib.hid (show M * d ^ (j + 1) = r by rw [Nat.pow_succ, ← Nat.mul_assoc, HM'.out, Hr'.out])
                  have Hr64 := Lib.hid (show r ≤ 64 by omega)
                  have n1 := N1.out
                  have n2 := N2.out
                  clear HM' Hr' hj hlj hd1 hj1 N1 N2
                  go_wp2
                  go_roundw
                  case rel => exact ⟨j + 1, r, _, Hg3.out.1, by go_num, by go_num, Hnx.out, Hr64.out, by first | rfl | exact World.drewN_drewN _ _ _ | trivial⟩
                  case measure => simp [intOf]; have := Hg3.out; omega
              · obtain rfl : j = K := by omega
                have hc4 : ¬ (j : Int) < (j : Int) := by omega
                have h := Hst2.out
                rw [HM'.out, if_neg (by omega)] at h
                have Hnx := Lib.hid h
                have H64 := Lib.hid hM64
                clear h Hst2 HM'
                go_wp2
                go_roundw
                case rel => exact ⟨k + 1, M', _, Hgo.out.1, by go_num, by go_num, H64.out, Hnx.out, by first | rfl | exact World.drewN_drewN _ _ _ | trivial⟩
                case measure => simp [intOf]; have := Hgo.out; omega
      · obtain ⟨k1, hk1, n9, n8, hk1n, zz⟩ := k_pos hk0 hk hn
        rw [hk1] at d0 d1
        by_cases x4 : (P : Int) ≤ u
        · have y4 : decide ((P : Int) ≤ u) = true := decide_eq_true x4
          have HR := Lib.hid (Hbd.out (okP_no4 (by rw [hpu]; exact x4)))
          clear Hbd Hst Hprev
          go_wp2
          go_region
          go_wp2
          go_ret
          exact ⟨by rw [← HR.out]; rfl, _, by first | rfl | exact World.drewN_drewN _ _ _ | trivial⟩
        · have y4 : decide ((P : Int) ≤ u) = false := decide_eq_false x4
          have hpv : prevP X k < (P : Int) := by rw [hpu]; clear y0 y1 y2 y3 y4 zz n9 n8; omega
          clear hk0 hpu
          have Hok := Lib.hid (okP_yes (prev := prevP X k) hP.1 hP.2.1 hP.2.2.1 hP.2.2.2 hpv)
          clear hpv
          clear Hprev
          go_wp2
          go_region
          go_wp2
          clear y0 y1 y2 y3 zz y4 n9 n8
          go_loopw [7] (fun d wr => ∃ d' q : Nat, 2 ≤ d' ∧ d' ≤ P ∧ d = .int .i64 d' ∧ Hid (∀ e, 2 ≤ e → e < d' → ¬ P % e = 0) ∧ wr = w.drewN q) (fun d _ => P - (intOf d).toNat)
          case atStart => exact ⟨2, q0 + 1, Nat.le_refl _, hP.1, rfl, fun e h1 h2 => absurd h2 (Nat.not_lt.2 h1), rfl⟩
          case round =>
            obtain ⟨d, q2, hd2, hdP, rfl, HD, rfl⟩ := hrel
            by_cases hld : d < P
            · have hc3 : (d : Int) < (P : Int) := by omega
              have hnum := rem_all (m := P) (p := d) hP.2.1
              obtain ⟨z1, z2⟩ := zero_no hd2
              obtain ⟨t, ht⟩ : ∃ t, P % d = t := ⟨_, rfl⟩
              have Hnum : Hid (Int.tmod (P : Int) (d : Int) = (t : Int) ∧ IntKind.i64.wrap (t : Int) = (t : Int) ∧ wrap64 (t : Int) = (t : Int)) := by
                obtain ⟨t', h1, h2⟩ := hnum
                have e : t' = t := h1.symm.trans ht
                subst e
                exact h2
              clear hnum
              by_cases h0 : t = 0
              · have hz : ((t : Int) == 0) = true := nat_zero h0
                have HR := Lib.hid (Hbd.out (fun h => by have h2 := h.2; rw [Int.toNat_natCast, primB_no hd2 hld (ht.trans h0)] at h2; cases h2))
                clear Hbd Hst Hok HD ht h0 hP hd2 hdP hld
                obtain ⟨n1, n2, n3⟩ := Hnum.out
                go_wp2
                go_ret
                exact ⟨by rw [← HR.out]; rfl, _, by first | rfl | exact World.drewN_drewN _ _ _ | trivial⟩
              · have hz : ((t : Int) == 0) = false := by rw [beq_eq_false_iff_ne]; omega
                have Hnx := Lib.hid (show ∀ e, 2 ≤ e → e < d + 1 → ¬ P % e = 0 from fun e h1 h2 => by
                  by_cases e1 : e = d
                  · subst e1; rw [ht]; exact h0
                  · exact HD.out e h1 (by omega))
                have Hg2 := Lib.hid (show 2 ≤ d + 1 ∧ d + 1 ≤ P ∧ d < P ∧ d ≤ 64 by omega)
                have hd64 : d ≤ 64 := Hg2.out.2.2.2
                clear HD ht h0 hdP hld hP hd2
                obtain ⟨n1, n2, n3⟩ := Hnum.out
                clear Hnum
                go_wp2
                go_roundw
                case rel => exact ⟨d + 1, _, Hg2.out.1, Hg2.out.2.1, by clear n1 n2 n3; go_num, Hnx.out, by first | rfl | exact World.drewN_drewN _ _ _ | trivial⟩
                case measure => clear n1 n2 n3; simp [intOf]; have := Hg2.out; omega
            · obtain rfl : d = P := by omega
              have hc3 : ¬ (d : Int) < (d : Int) := by omega
              have hpr : primB d = true := primB_yes HD.out
              have Hst2 := Lib.hid (Hst.out d K rfl rfl Hok.out hpr)
              clear HD hpr Hbd Hst Hok
              go_wp2
              go_loopw [3, 8] (fun mm j wr => ∃ j' M' q : Nat, j' ≤ K ∧ j = .int .i64 j' ∧ mm = .int .i64 M' ∧ Hid (M * d ^ j' = M') ∧ M' ≤ 64 ∧ wr = w.drewN q) (fun _ j _ => K - (intOf j).toNat)
              case atStart => exact ⟨0, M, _, Nat.zero_le _, rfl, rfl, by unfold Hid; rw [Nat.pow_zero, Nat.mul_one], hM, by first | rfl | exact World.drewN_drewN _ _ _ | trivial⟩
              case round =>
                obtain ⟨j, M', q3, hj, rfl, rfl, HM', hM64, rfl⟩ := hrel
                by_cases hlj : j < K
                · have hc4 : (j : Int) < (K : Int) := by omega
                  obtain ⟨r, hr', n1, n2⟩ := mul_numP hM64 hP.2.1
                  have N1 := Lib.hid n1
                  have N2 := Lib.hid n2
                  clear n1 n2
                  have Hr' := Lib.hid hr'
                  clear hr'
                  have hd1 : 1 ≤ d := by omega
                  have hj1 : j + 1 ≤ K := by omega
                  have Hg3 := Lib.hid (show j + 1 ≤ K ∧ j < K by omega)
                  by_cases hbig : 64 < r
                  · have hb : (64 : Int) < (r : Int) := by omega
                    have h := Hst2.out
                    rw [if_pos (pow_big hd1 hj1 (by rw [HM'.out, Hr'.out]; exact hbig))] at h
                    have HR := Lib.hid h
                    have n1 := N1.out
                    have n2 := N2.out
                    clear h Hst2 HM' Hr' N1 N2
                    go_wp2
                    go_ret
                    exact ⟨by rw [← HR.out]; rfl, _, by first | rfl | exact World.drewN_drewN _ _ _ | trivial⟩
                  · have hb : ¬ (64 : Int) < (r : Int) := by omega
                    have Hnx := Lib.hid (show M * d ^ (j + 1) = r by rw [Nat.pow_succ, ← Nat.mul_assoc, HM'.out, Hr'.out])
                    have Hr64 := Lib.hid (show r ≤ 64 by omega)
                    have n1 := N1.out
                    have n2 := N2.out
                    clear HM' Hr' hj hlj hd1 hj1 N1 N2
                    go_wp2
                    go_roundw
                    case rel => exact ⟨j + 1, r, _, Hg3.out.1, by go_num, by go_num, Hnx.out, Hr64.out, by first | rfl | exact World.drewN_drewN _ _ _ | trivial⟩
                    case measure => simp [intOf]; have := Hg3.out; omega
                · obtain rfl : j = K := by omega
                  have hc4 : ¬ (j : Int) < (j : Int) := by omega
                  have h := Hst2.out
                  rw [HM'.out, if_neg (by omega)] at h
                  have Hnx := Lib.hid h
                  have H64 := Lib.hid hM64
                  clear h Hst2 HM'
                  go_wp2
                  go_roundw
                  case rel => exact ⟨k + 1, M', _, Hgo.out.1, by go_num, by go_num, H64.out, Hnx.out, by first | rfl | exact World.drewN_drewN _ _ _ | trivial⟩
                  case measure => simp [intOf]; have := Hgo.out; omega
    · obtain rfl : k = n := by omega
      have hc : ¬ (k : Int) < (k : Int) := by omega
      have h := (Hend.out M).symm.trans HP.out
      clear HP
      by_cases hM2 : M < 2
      · have hb : (M : Int) < 2 := by omega
        rw [if_pos hM2] at h
        have HR := Lib.hid h
        clear h
        go_wp2
        go_ret
        exact ⟨by rw [← HR.out]; rfl, _, rfl⟩
      · have hb : ¬ (M : Int) < 2 := by omega
        rw [if_neg hM2] at h
        have HR := Lib.hid h
        clear h
        go_wp2
        go_ret
        exact ⟨by rw [← HR.out]; rfl, _, rfl⟩
end Go.Proofs.Ytndbjojjaapeaaa

/- Arrays that came in. -/
namespace Go.Proofs.Ytndbjojjaapeaaa
set_option linter.unusedVariables false
open Go.RowKit Go.ChangeShapes Go.WideShapes

theorem arrayOf2 {α : Type} {cs : Array α} (h : cs.size = 2) : ∃ c0 c1, cs = #[c0, c1] := by
  obtain ⟨l⟩ := cs
  match l, h with
  | [c0, c1], _ => exact ⟨c0, c1, rfl⟩
theorem trod_arrayOf2 {H : Type} {enc : TypeId × Value → H} {P : Program} {w : World} {base : Nat} {spare : Nat → Bool} {held : Bool} {t e : TypeId} {fuel : Nat} {c0 c1 : Value} {x : DataW H × List MemPlace} (ht : P.underlying t = some (.array 2 e)) (hce : P.cellsOf e = 1)
    (h : DataW.trod enc P w base spare held fuel t [c0, c1] = some x) :
    ∃ (y0 y1 : DataW H × List MemPlace) (n : Nat), True ∧ DataW.trod enc P w base spare held n e [c0] = some y0 ∧ DataW.trod enc P w base spare held n e [c1] = some y1 := by
  cases fuel with
  | zero => simp [DataW.trod] at h
  | succ n =>
    unfold DataW.trod at h
    rw [ht] at h
    have r : List.range 2 = [0, 1] := rfl
    simp [r, hce] at h
    obtain ⟨_, h⟩ := h
    cases h0 : DataW.trod enc P w base spare held n e [c0] with
    | none => simp [h0] at h
    | some y0 =>
      cases h1 : DataW.trod enc P w base spare held n e [c1] with
      | none => simp [h0, h1] at h
      | some y1 =>
        exact ⟨y0, y1, n, trivial, h0, h1⟩
theorem arrayOf4 {α : Type} {cs : Array α} (h : cs.size = 4) : ∃ c0 c1 c2 c3, cs = #[c0, c1, c2, c3] := by
  obtain ⟨l⟩ := cs
  match l, h with
  | [c0, c1, c2, c3], _ => exact ⟨c0, c1, c2, c3, rfl⟩
theorem trod_arrayOf4 {H : Type} {enc : TypeId × Value → H} {P : Program} {w : World} {base : Nat} {spare : Nat → Bool} {held : Bool} {t e : TypeId} {fuel : Nat} {c0 c1 c2 c3 : Value} {x : DataW H × List MemPlace} (ht : P.underlying t = some (.array 4 e)) (hce : P.cellsOf e = 1)
    (h : DataW.trod enc P w base spare held fuel t [c0, c1, c2, c3] = some x) :
    ∃ (y0 y1 y2 y3 : DataW H × List MemPlace) (n : Nat), True ∧ DataW.trod enc P w base spare held n e [c0] = some y0 ∧ DataW.trod enc P w base spare held n e [c1] = some y1 ∧ DataW.trod enc P w base spare held n e [c2] = some y2 ∧ DataW.trod enc P w base spare held n e [c3] = some y3 := by
  cases fuel with
  | zero => simp [DataW.trod] at h
  | succ n =>
    unfold DataW.trod at h
    rw [ht] at h
    have r : List.range 4 = [0, 1, 2, 3] := rfl
    simp [r, hce] at h
    obtain ⟨_, h⟩ := h
    cases h0 : DataW.trod enc P w base spare held n e [c0] with
    | none => simp [h0] at h
    | some y0 =>
      cases h1 : DataW.trod enc P w base spare held n e [c1] with
      | none => simp [h0, h1] at h
      | some y1 =>
        cases h2 : DataW.trod enc P w base spare held n e [c2] with
        | none => simp [h0, h1, h2] at h
        | some y2 =>
          cases h3 : DataW.trod enc P w base spare held n e [c3] with
          | none => simp [h0, h1, h2, h3] at h
          | some y3 =>
            exact ⟨y0, y1, y2, y3, n, trivial, h0, h1, h2, h3⟩
end Go.Proofs.Ytndbjojjaapeaaa

/- Pairs that come in; which lists are remainders; the reference's Left and Joined. -/
namespace Go.Proofs.Ytndbjojjaapeaaa
set_option linter.unusedVariables false
open Go.RowKit

def PrsIn (w : World) (v : Value) (X : List (Int × Int)) : Prop := WfX X ∧ ((∃ c, v = .slice none 0 c ∧ X = []) ∨ ∃ (ad : Addr) (c : Nat), v = .slice (some ad) X.length c ∧ X.length ≤ c ∧ ∀ j u, (flatI X)[j]? = some u → w.cell? (ad.add j) = some u)
theorem flatI_map (f : Nat → Int × Int) : ∀ (n : Nat) (j : Nat) (u : Value), (flatI ((List.range n).map f))[j]? = some u → ∃ i, i < n ∧ ((j = i * 2 ∧ u = .int .i64 (f i).1) ∨ (j = i * 2 + 1 ∧ u = .int .i64 (f i).2)) := fun n j u h => by
  have hl := (List.getElem?_eq_some_iff.1 h).1
  rw [flatI_length, List.length_map, List.length_range] at hl
  obtain ⟨f0, f1⟩ := flatI_get (l := (List.range n).map f) (j := j / 2) (p := f (j / 2)) (by rw [List.getElem?_map, List.getElem?_range (by omega)]; rfl)
  refine ⟨j / 2, by omega, ?_⟩
  rcases Nat.mod_two_eq_zero_or_one j with e | e
  · left
    have ej : j = j / 2 * 2 := by omega
    refine ⟨ej, ?_⟩
    rw [← ej, h] at f0
    exact Option.some.inj f0
  · right
    have ej : j = j / 2 * 2 + 1 := by omega
    refine ⟨ej, ?_⟩
    rw [← ej, h] at f1
    exact Option.some.inj f1
theorem prsIn_of {H : Type} {enc : TypeId × Value → H} {P : Program} {w : World} {base fuel : Nat} {held : Bool} {t e i : TypeId} {v : Value} {x : DataW H × List MemPlace} (ht : P.underlying t = some (.slice e)) (he : P.underlying e = some (.array 2 i)) (hi : P.underlying i = some (.int .i64)) (ce : P.cellsOf e = 2) (ci : P.cellsOf i = 1)
    (h : DataW.trod enc P w base (fun _ => true) held fuel t [v] = some x) : ∃ X, PrsIn w v X := by
  rcases Deep.open_slice ht h with ⟨h0, _⟩ | ⟨a, len, cap, m, n, D, Pl, h0, hb, hl, hm, hmm, _, hx⟩
  · simp at h0
    exact ⟨[], fun p hp => by simp at hp, .inl ⟨0, h0, rfl⟩⟩
  · simp at h0
    have hlm : len ≤ m := by rw [hmm]; split <;> omega
    have each : ∀ k, k < len → ∃ q : Int × Int, ((Lit.int .i64 q.1).wf = true ∧ (Lit.int .i64 q.2).wf = true) ∧ w.cell? (a.add (k * 2)) = some (.int .i64 q.1) ∧ w.cell? (a.add (k * 2 + 1)) = some (.int .i64 q.2) := fun k hk => by
      obtain ⟨cs', h1, h2⟩ := hx k (by omega)
      rw [ce] at h1
      obtain ⟨_, hlen, hcell⟩ := World.cells?_some h1
      match cs', hlen with
      | [v0, v1], _ =>
        obtain ⟨y0, y1, f, _, g0, g1⟩ := trod_arrayOf2 he ci h2
        obtain ⟨x0, e0, r0, w0⟩ := DataW.trod_int hi g0
        obtain ⟨x1, e1, r1, w1⟩ := DataW.trod_int hi g1
        simp at e0 e1
        subst e0 e1
        have c0 := hcell 0 (by omega)
        have c1 := hcell 1 (by omega)
        rw [Deep.add_add] at c0 c1
        exact ⟨(x0, x1), ⟨w0, w1⟩, by simpa using c0, by simpa using c1⟩
    obtain ⟨q, hq⟩ := Deep.choose_lt each
    refine ⟨(List.range len).map q, fun p hp => ?_, .inr ⟨a, cap, by rw [List.length_map, List.length_range]; exact h0, by rw [List.length_map, List.length_range]; exact hl, fun j u hj => ?_⟩⟩
    · obtain ⟨k, hk, rfl⟩ := List.mem_map.1 hp
      exact (hq k (List.mem_range.1 hk)).1
    · obtain ⟨k, hk, ⟨rfl, rfl⟩ | ⟨rfl, rfl⟩⟩ := flatI_map q len j u hj
      · exact (hq k hk).2.1
      · exact (hq k hk).2.2
theorem PrsIn.below {w w' : World} {v : Value} {X : List (Int × Int)} (h : PrsIn w v X) (hb : Below w.heap.size w w') : PrsIn w' v X := by
  obtain ⟨h1, h2⟩ := h
  refine ⟨h1, ?_⟩
  rcases h2 with h | ⟨ad, c, e, hc, hd⟩
  · exact .inl h
  · exact .inr ⟨ad, c, e, hc, fun j u hj => (hb.cell (p := ad.add j) (World.block_lt_of_cell? _ _ (hd j u hj))).trans (hd j u hj)⟩
theorem own_flat {w : World} {base n : Nat} {e : TypeId} {v : Value} {X : List (Int × Int)} (h : w.ownsRow base e 2 v n (flatI X)) : ∃ a cap, v = .slice a n cap ∧ Row w a (n * 2) (flatI X) := by
  have hl := h.1
  obtain ⟨a, cap, hv, hc⟩ := own_prs h
  refine ⟨a, cap, hv, hl, fun hn => ?_⟩
  obtain ⟨g, hg, hcell⟩ := hc (by omega)
  subst hg
  rw [hv] at h
  exact ⟨g, rfl, (h.lt g rfl).2, hcell⟩

/-- whether the numbers up to k are remainders -/
def leftK (L : List (Nat × Nat)) (xs : List Int) (k : Nat) : Bool := (List.range k).all fun j => decide (0 ≤ xs.getD j 0 ∧ xs.getD j 0 < (powN (L.getD j (0, 0)).1 (L.getD j (0, 0)).2 : Int))
def leftB (L : List (Nat × Nat)) (xs : List Int) : Bool := decide (xs.length = L.length) && leftK L xs L.length
theorem remI_get {y j p e : Nat} {L : List (Nat × Nat)} (h : L[j]? = some (p, e)) : (remI y L)[j]? = some ((y % powN p e : Nat) : Int) := by
  unfold remI; rw [List.getElem?_map, h]; rfl
theorem left_no {L : List (Nat × Nat)} {xs : List Int} (hL : PkOk L) (h : leftB L xs = false) (y : Nat) : ¬ remI y L = xs := fun e => by
  subst e
  have : leftB L (remI y L) = true := by
    unfold leftB leftK
    rw [Bool.and_eq_true, List.all_eq_true]
    refine ⟨decide_eq_true (by simp [remI]), fun j hj => ?_⟩
    rw [List.mem_range] at hj
    obtain ⟨⟨p, e⟩, hpe⟩ : ∃ q, L[j]? = some q := ⟨_, List.getElem?_eq_getElem hj⟩
    have h2 := (hL j (p, e) hpe).2.2.1
    simp only at h2
    rw [List.getD_eq_getElem?_getD, List.getD_eq_getElem?_getD, remI_get hpe, hpe]
    simp only [Option.getD_some]
    have := Nat.mod_lt y (show 0 < powN p e by omega)
    exact decide_eq_true (by omega)
  rw [this] at h; cases h
/-- e i is 1 modulo the i-th prime power and 0 modulo the others -/
def sumR (e : Nat → Nat) (r : Nat → Nat) : Nat → Nat
  | 0 => 0
  | k + 1 => sumR e r k + e k * r k
theorem sumR_mod {e r : Nat → Nat} {q i n : Nat} (hq : 2 ≤ q) (h : ∀ j, j < n → e j % q = if i = j then 1 else 0) (hr : r i < q) : ∀ k, k ≤ n → sumR e r k % q = if i < k then r i else 0
  | 0, _ => by rw [if_neg (by omega)]; exact Nat.zero_mod _
  | k + 1, hk => by
    have ih := sumR_mod hq h hr k (by omega)
    show (sumR e r k + e k * r k) % q = _
    rw [Nat.add_mod, ih, Nat.mul_mod, h k (by omega)]
    by_cases hik : i = k
    · subst hik
      rw [if_neg (by omega), if_pos rfl, if_pos (by omega), Nat.one_mul, Nat.mod_mod, Nat.zero_add, Nat.mod_mod, Nat.mod_eq_of_lt hr]
    · rw [if_neg hik, Nat.zero_mul, Nat.zero_mod, Nat.add_zero]
      by_cases h2 : i < k
      · rw [if_pos h2, if_pos (by omega), Nat.mod_eq_of_lt hr]
      · rw [if_neg h2, if_neg (by omega), Nat.zero_mod]
theorem left_yes {m : Nat} (hm : 2 ≤ m) (hm2 : m ≤ 64) {xs : List Int} (h : leftB (partsL m) xs = true) : ∃ y, y < m ∧ remI y (partsL m) = xs := by
  have hf := powL_facts hm hm2
  have h3 := (pow_dvd ⟨m, by omega⟩ hm).2
  simp only at h3
  have hpl : (powL m).length = (partsL m).length := by unfold powL; rw [List.length_map]
  unfold leftB leftK at h
  rw [Bool.and_eq_true, decide_eq_true_eq, List.all_eq_true] at h
  obtain ⟨hl, h⟩ := h
  have he : ∀ i, i < (partsL m).length → ∃ e : Nat, ∀ j : Nat, j < (partsL m).length → e % ((powL m).getD j 0) = if j = i then 1 else 0 := fun i hi => by
    obtain ⟨e, he⟩ := crt_unit ⟨m, by omega⟩ hm ⟨i, by omega⟩ (by show i < (powL m).length; omega)
    exact ⟨e.1, fun j hj => he ⟨j, by omega⟩ (by show j < (powL m).length; omega)⟩
  obtain ⟨e, he⟩ := Deep.choose_lt he
  refine ⟨sumR e (fun i => (xs.getD i 0).toNat) (partsL m).length % m, Nat.mod_lt _ (by omega), List.ext_getElem? fun j => ?_⟩
  by_cases hj : j < (partsL m).length
  · obtain ⟨⟨p, k⟩, hpk⟩ : ∃ q, (partsL m)[j]? = some q := ⟨_, List.getElem?_eq_getElem hj⟩
    have hq : (powL m)[j]? = some (powN p k) := by unfold powL; rw [List.getElem?_map, hpk]; rfl
    obtain ⟨d1, d2⟩ := hf _ (List.mem_of_getElem? hq)
    have hb := of_decide_eq_true (h j (List.mem_range.2 hj))
    have hgd : (partsL m).getD j (0, 0) = (p, k) := by rw [List.getD_eq_getElem?_getD, hpk]; rfl
    rw [hgd] at hb
    simp only at hb
    rw [remI_get hpk, Nat.mod_mod_of_dvd _ (Nat.dvd_of_mod_eq_zero d1), sumR_mod (i := j) (n := (partsL m).length) d2 (fun i hi => by
      have := he i hi j hj
      rwa [List.getD_eq_getElem?_getD, hq, Option.getD_some] at this) (by omega) _ (Nat.le_refl _), if_pos hj, List.getElem?_eq_getElem (by omega)]
    congr 1
    have e1 : xs.getD j 0 = xs[j] := by rw [List.getD_eq_getElem?_getD, List.getElem?_eq_getElem (by omega)]; rfl
    rw [← e1]
    omega
  · rw [List.getElem?_eq_none (by simp [remI]; omega), List.getElem?_eq_none (by omega)]
theorem join_none {m : Nat} {R : List Int} (h : ∀ y : Nat, ¬ remI y (partsL m) = R) : joinN (partsL m) R m = -1 :=
  firstN_none _ _ fun x _ _ => decide_eq_false (h x)
theorem leftK_step (L : List (Nat × Nat)) (xs : List Int) (k : Nat) : leftK L xs (k + 1) = (leftK L xs k && decide (0 ≤ xs.getD k 0 ∧ xs.getD k 0 < (powN (L.getD k (0, 0)).1 (L.getD k (0, 0)).2 : Int))) := by
  unfold leftK; rw [List.range_succ, List.all_append]; simp
theorem leftK_less {L : List (Nat × Nat)} {xs : List Int} {k : Nat} (h : leftK L xs (k + 1) = false) : ∀ d, leftK L xs (k + 1 + d) = false
  | 0 => h
  | d + 1 => by rw [show k + 1 + (d + 1) = (k + 1 + d) + 1 by omega, leftK_step, leftK_less h d, Bool.false_and]
end Go.Proofs.Ytndbjojjaapeaaa

/- The reference's Left and Joined. -/
namespace Go.Proofs.Ytndbjojjaapeaaa
set_option linter.unusedVariables false
open Go.RowKit

theorem leftB_len {L : List (Nat × Nat)} {xs : List Int} (h : ¬ xs.length = L.length) : leftB L xs = false := by
  unfold leftB; rw [decide_eq_false h, Bool.false_and]
theorem leftB_all {L : List (Nat × Nat)} {xs : List Int} {n : Nat} (hL : L.length = n) (hx : xs.length = n) : leftB L xs = leftK L xs n := by
  unfold leftB; rw [decide_eq_true (by omega), Bool.true_and, hL]
theorem left_bad {L : List (Nat × Nat)} {xs : List Int} {n k p e : Nat} {v : Int} (hL : L.length = n) (hx : xs.length = n) (hk : k < n) (hpe : L[k]? = some (p, e)) (hv : xs[k]? = some v) (hb : ¬ (0 ≤ v ∧ v < (powN p e : Int))) : leftB L xs = false := by
  rw [leftB_all hL hx]
  have h1 : leftK L xs (k + 1) = false := by
    rw [leftK_step, List.getD_eq_getElem?_getD, List.getD_eq_getElem?_getD, hpe, hv]
    simp only [Option.getD_some]
    rw [decide_eq_false hb, Bool.and_false]
  have := leftK_less h1 (n - (k + 1))
  rwa [show k + 1 + (n - (k + 1)) = n by omega] at this
theorem left_good {L : List (Nat × Nat)} {xs : List Int} {k p e : Nat} {v : Int} (hpe : L[k]? = some (p, e)) (hv : xs[k]? = some v) (hb : 0 ≤ v ∧ v < (powN p e : Int)) (h : leftK L xs k = true) : leftK L xs (k + 1) = true := by
  rw [leftK_step, List.getD_eq_getElem?_getD, List.getD_eq_getElem?_getD, hpe, hv, h]
  simp only [Option.getD_some]
  rw [decide_eq_true hb]; rfl
set_option maxRecDepth 100000 in
set_option maxHeartbeats 4000000 in
theorem refLeft_any (a b : Option Addr) (n cap k c2 : Nat) (L : List (Nat × Nat)) (xs : List Int) (w : World) (hr : Row w a (n * 2) (flatF L)) (hL : L.length = n) (hn : n ≤ 3) (hpk : PkOk L) (hR : Row w b k (intL xs)) (hk : k ≤ 1000) :
    Calls Try.prog 55 #[.slice a n cap, .slice b k c2] w fun e w' => e = .returned (.bool (leftB L xs)) ∧ ∃ q, w' = w.drewN q := by
  have hx : xs.length = k := by have := hR.1; simpa [intL] using this
  by_cases hnk : n = k
  · subst hnk
    have hall := leftB_all hL hx
    have hbad := fun (j p e : Nat) (v : Int) (h1 : j < n) (h2 : L[j]? = some (p, e)) (h3 : xs[j]? = some v) h4 => left_bad hL hx h1 h2 h3 h4
    have hgood := fun (j p e : Nat) (v : Int) (h2 : L[j]? = some (p, e)) (h3 : xs[j]? = some v) h4 h5 => left_good (k := j) h2 h3 h4 h5
    have h0 : leftK L xs 0 = true := rfl
    generalize leftB L xs = Bv at *
    generalize leftK L xs = K at *
    rw [← flatI_cast] at hr
    have Hall := Lib.hid hall
    have Hbad := Lib.hid hbad
    have Hgood := Lib.hid hgood
    have H0 := Lib.hid h0
    have Hr := Lib.hid hr
    have HR := Lib.hid hR
    have HL := Lib.hid hL
    have Hx := Lib.hid hx
    have Hpk := Lib.hid hpk
    clear hall hbad hgood h0 hr hR hL hx hpk
    go_enter Try.func55, Try.ntmps55
    go_wp2
    go_loopw [5] (fun i wr => ∃ j q : Nat, j ≤ n ∧ i = .int .i64 j ∧ Hid (K j = true) ∧ wr = w.drewN q) (fun i _ => n - (intOf i).toNat)
    case atStart => exact ⟨0, 0, Nat.zero_le _, rfl, H0, rfl⟩
    case round =>
      clear H0
      obtain ⟨j, q0, hj, rfl, HK, rfl⟩ := hrel
      by_cases hlt : j < n
      · have hc : (j : Int) < (n : Int) := by omega
        have Hgo := Lib.hid (show j + 1 ≤ n ∧ j < n by omega)
        obtain ⟨⟨p, e⟩, hpe⟩ : ∃ x, L[j]? = some x := ⟨_, List.getElem?_eq_getElem (by have := HL.out; omega)⟩
        obtain ⟨v, hv⟩ : ∃ x, xs[j]? = some x := ⟨_, List.getElem?_eq_getElem (by have := Hx.out; omega)⟩
        obtain ⟨g1, rfl, c0, c1⟩ := Hr.out.two (x := (p : Int)) (y := (e : Int)) hlt (by unfold castP; rw [List.getElem?_map, hpe]; rfl)
        obtain ⟨g2, rfl, _, hcx⟩ := HR.out.2 (by omega)
        have c2' := hcx j (.int .i64 v) (intL_get hv)
        obtain ⟨x1, x2, x3, x4⟩ := Hpk.out j (p, e) hpe
        simp only at x1 x2 x3 x4
        have hbd := Hbad.out j p e v hlt hpe hv
        have hgd := Hgood.out j p e v hpe hv
        have HPw := Lib.hid fun W => refPower_any p e W x1 x2
        generalize powN p e = q at *
        clear hcx hpe hv x1 x2 x3 x4 hj hlt
        by_cases hneg : v < 0
        · have y0 : decide (v < 0) = true := decide_eq_true hneg
          have HR0 := Lib.hid (hbd (fun h => by omega))
          clear hbd hgd HK hneg
          go_wp2
          go_quiet ((go_at_call 30; exact quiet_still (HPw.out _)))
          go_wp2
          go_ret
          exact ⟨by rw [← HR0.out]; rfl, _, by first | rfl | exact World.drewN_drewN _ _ _ | trivial⟩
        · have y0 : decide (v < 0) = false := decide_eq_false hneg
          by_cases hbig : (q : Int) ≤ v
          · have y1 : decide ((q : Int) ≤ v) = true := decide_eq_true hbig
            have HR0 := Lib.hid (hbd (fun h => by omega))
            clear hbd hgd HK hneg hbig
            go_wp2
            go_quiet ((go_at_call 30; exact quiet_still (HPw.out _)))
            go_wp2
            go_ret
            exact ⟨by rw [← HR0.out]; rfl, _, by first | rfl | exact World.drewN_drewN _ _ _ | trivial⟩
          · have y1 : decide ((q : Int) ≤ v) = false := decide_eq_false hbig
            have HK2 := Lib.hid (hgd (by omega) HK.out)
            clear hbd hgd HK hneg hbig
            go_wp2
            go_quiet ((go_at_call 30; exact quiet_still (HPw.out _)))
            go_wp2
            go_roundw
            case rel => exact ⟨j + 1, _, Hgo.out.1, by go_num, HK2.out, by first | rfl | exact World.drewN_drewN _ _ _ | trivial⟩
            case measure => simp [intOf]; have := Hgo.out; omega
      · obtain rfl : j = n := by omega
        have hc : ¬ (j : Int) < (j : Int) := by omega
        have HRs := Lib.hid (Hall.out.trans HK.out)
        clear HK Hall
        go_wp2
        go_ret
        exact ⟨by rw [HRs.out]; rfl, _, rfl⟩
  · have h1 : ¬ (k : Int) = n := by omega
    have h2 : ((k : Int) == n) = false := by rw [beq_eq_false_iff_ne]; exact h1
    rw [leftB_len (by rw [hx, hL]; exact fun e => hnk e.symm)]
    clear h1 hr hR hL hx hpk hnk
    go_enter Try.func55, Try.ntmps55
    go_wp2
    go_ret
    exact ⟨rfl, 0, rfl⟩
/-- whether the first k remainders of x are those of R -/
def eqK (L : List (Nat × Nat)) (R : List Int) (x k : Nat) : Bool := decide ((remI x L).take k = R.take k)
theorem eqK_step {L : List (Nat × Nat)} {R : List Int} {x k p e : Nat} {v : Int} (hpe : L[k]? = some (p, e)) (hv : R[k]? = some v) : eqK L R x (k + 1) = (eqK L R x k && decide (((x % powN p e : Nat) : Int) = v)) := by
  unfold eqK
  rw [Bool.eq_iff_iff, Bool.and_eq_true, decide_eq_true_eq, decide_eq_true_eq, decide_eq_true_eq]
  exact take_ext (remI_get hpe) hv
theorem eqK_end {m y x n : Nat} (hm : 2 ≤ m) (hm2 : m ≤ 64) (hy : y < m) (hx : x ≤ y) (hn : (partsL m).length = n) : eqK (partsL m) (remI y (partsL m)) x n = decide (x = y) := by
  unfold eqK
  rw [List.take_of_length_le (by simp [remI]; omega), List.take_of_length_le (by simp [remI]; omega), Bool.eq_iff_iff, decide_eq_true_eq, decide_eq_true_eq]
  constructor
  · intro h
    refine crt_uniq hm hm2 (by omega) hy fun q hq => ?_
    obtain ⟨pk, hpk, rfl⟩ := List.mem_map.1 hq
    obtain ⟨i, hi⟩ := List.mem_iff_getElem?.1 hpk
    have h5 := congrArg (fun l : List Int => l[i]?) h
    simp only [remI_get (p := pk.1) (e := pk.2) hi, Option.some.injEq] at h5
    exact Int.ofNat.inj h5
  · intro h; rw [h]
set_option maxRecDepth 100000 in
set_option maxHeartbeats 4000000 in
theorem refJoined_any (m y : Nat) (a b : Option Addr) (n cap c2 : Nat) (w : World) (hm : 2 ≤ m) (hm2 : m ≤ 64) (hy : y < m) (hL : (partsL m).length = n) (hr : Row w a (n * 2) (flatF (partsL m))) (hR : Row w b n (intL (remI y (partsL m)))) :
    Calls Try.prog 56 #[.slice a n cap, .slice b n c2] w fun e w' => e = .returned (.int .i64 y) ∧ ∃ q, w' = w.drewN q := by
  obtain ⟨hpk, hp1, hp3⟩ := parts_ok hm hm2
  have hst := fun (x k p e : Nat) (v : Int) => eqK_step (L := partsL m) (R := remI y (partsL m)) (x := x) (k := k) (p := p) (e := e) (v := v)
  have hend := fun (x : Nat) (hx : x ≤ y) => eqK_end hm hm2 hy hx hL
  have h0 : ∀ x, eqK (partsL m) (remI y (partsL m)) x 0 = true := fun x => rfl
  have hRl : (remI y (partsL m)).length = n := by unfold remI; rw [List.length_map, hL]
  generalize eqK (partsL m) (remI y (partsL m)) = K at *
  generalize remI y (partsL m) = R at *
  generalize partsL m = L at *
  rw [← flatI_cast] at hr
  have Hst := Lib.hid hst
  have Hend := Lib.hid hend
  have H0 := Lib.hid h0
  have Hr := Lib.hid hr
  have HR := Lib.hid hR
  have HL := Lib.hid hL
  have HRl := Lib.hid hRl
  have Hpk := Lib.hid hpk
  have Hyy := Lib.hid (show y ≤ 64 by omega)
  have hn3 : n ≤ 3 := by omega
  clear hst hend h0 hr hR hL hRl hpk hp1 hp3 hm hm2 hy
  go_enter Try.func56, Try.ntmps56
  go_wp2
  go_loopw [5] (fun i wr => ∃ x q : Nat, Hid (x ≤ y) ∧ i = .int .i64 x ∧ wr = w.drewN q) (fun i _ => y + 1 - (intOf i).toNat)
  case atStart => exact ⟨0, 0, Nat.zero_le _, rfl, rfl⟩
  case round =>
    obtain ⟨x, q0, hx, rfl, rfl⟩ := hrel
    have Hx64 : Hid (x ≤ 64) := Nat.le_trans hx.out Hyy.out
    have h00 := H0.out x
    have H00 := Lib.hid h00
    clear h00
    go_wp2
    go_loopw [6, 7] (fun ab i wr => ∃ (j q : Nat) (b : Bool), j ≤ n ∧ i = .int .i64 j ∧ ab = .bool b ∧ Hid (K x j = b) ∧ wr = w.drewN q) (fun _ i _ => n - (intOf i).toNat)
    case atStart => exact ⟨0, q0, true, Nat.zero_le _, rfl, rfl, H00, rfl⟩
    case round =>
      clear H00
      obtain ⟨j, q1, b, hj, rfl, rfl, HK, rfl⟩ := hrel
      by_cases hlt : j < n
      · have hc : (j : Int) < (n : Int) := by omega
        have Hgo := Lib.hid (show j + 1 ≤ n ∧ j < n by omega)
        obtain ⟨⟨p, e⟩, hpe⟩ : ∃ x, L[j]? = some x := ⟨_, List.getElem?_eq_getElem (by have := HL.out; omega)⟩
        obtain ⟨v, hv⟩ : ∃ x, R[j]? = some x := ⟨_, List.getElem?_eq_getElem (by have := HRl.out; omega)⟩
        obtain ⟨g1, rfl, c0, c1⟩ := Hr.out.two (x := (p : Int)) (y := (e : Int)) hlt (by unfold castP; rw [List.getElem?_map, hpe]; rfl)
        obtain ⟨g2, rfl, _, hcx⟩ := HR.out.2 (by omega)
        have c2' := hcx j (.int .i64 v) (intL_get hv)
        obtain ⟨x1, x2, x3, x4⟩ := Hpk.out j (p, e) hpe
        simp only at x1 x2 x3 x4
        have hs := Hst.out x j p e v hpe hv
        have HPw := Lib.hid fun W => refPower_any p e W x1 x2
        generalize powN p e = q at *
        have hnum := Lib.hid (rem_num2 (n := x) (q := q) Hx64.out x3 x4)
        have hq0 : ¬ q = 0 := by omega
        clear hcx hpe hv x1 x2 x3 x4 hj hlt
        cases b with
        | true =>
          obtain ⟨u, hu, _, n1, n2, n3, n4, n5⟩ := hnum.out
          rw [hu, HK.out, Bool.true_and] at hs
          clear hu hnum
          by_cases huv : (u : Int) = v
          · subst v
            have hee : ((u : Int) == (u : Int)) = true := by simp
            rw [decide_eq_true rfl] at hs
            have HK2 := Lib.hid hs
            clear hs HK
            go_wp2
            go_quiet ((go_at_call 30; exact quiet_still (HPw.out _)))
            go_wp2
            go_roundw
            case rel => exact ⟨j + 1, _, true, Hgo.out.1, by clear n1 n2 n3; go_num, rfl, HK2, by first | rfl | exact World.drewN_drewN _ _ _ | trivial⟩
            case measure => clear n1 n2 n3; simp [intOf]; have := Hgo.out; omega
          · have hee : ((u : Int) == v) = false := by rw [beq_eq_false_iff_ne]; exact huv
            rw [decide_eq_false huv] at hs
            have HK2 := Lib.hid hs
            clear hs HK huv
            go_wp2
            go_quiet ((go_at_call 30; exact quiet_still (HPw.out _)))
            go_wp2
            go_roundw
            case rel => exact ⟨j + 1, _, false, Hgo.out.1, by clear n1 n2 n3; go_num, rfl, HK2, by first | rfl | exact World.drewN_drewN _ _ _ | trivial⟩
            case measure => clear n1 n2 n3; simp [intOf]; have := Hgo.out; omega
        | false =>
          rw [HK.out, Bool.false_and] at hs
          have HK2 := Lib.hid hs
          clear hs HK hnum hq0
          go_wp2
          go_quiet ((go_at_call 30; exact quiet_still (HPw.out _)))
          go_wp2
          go_roundw
          case rel => exact ⟨j + 1, _, false, Hgo.out.1, by go_num, rfl, HK2, by first | rfl | exact World.drewN_drewN _ _ _ | trivial⟩
          case measure => simp [intOf]; have := Hgo.out; omega
      · obtain rfl : j = n := by omega
        have hc : ¬ (j : Int) < (j : Int) := by omega
        have hb := HK.out.symm.trans (Hend.out x hx.out)
        by_cases hxy : x = y
        · subst x
          rw [decide_eq_true rfl] at hb
          subst hb
          go_wp2
          go_ret
          exact ⟨rfl, _, rfl⟩
        · rw [decide_eq_false hxy] at hb
          subst hb
          have Hnx := Lib.hid (show x + 1 ≤ y by have := hx.out; omega)
          have hx64 : x ≤ 64 := Hx64.out
          have hxy1 : x + 1 ≤ y := Hnx.out
          clear hxy
          go_wp2
          go_roundw
          case rel => exact ⟨x + 1, _, Hnx, by go_num, rfl⟩
          case measure => first | (simp [intOf]; omega) | (show y + 1 - ((x + 1 : Nat) : Int).toNat < y + 1 - ((x : Nat) : Int).toNat; omega)
end Go.Proofs.Ytndbjojjaapeaaa

/- The walk of Parted. -/
namespace Go.Proofs.Ytndbjojjaapeaaa
set_option linter.unusedVariables false
open Go.RowKit

def allN (P : List Int) (L : List (Nat × Nat)) (k : Nat) : Bool := (L.take k).all fun pk => decide ((equalR (valuesL (powN pk.1 pk.2) P)).1 < 0)
theorem allN_step {P : List Int} {L : List (Nat × Nat)} {k p e : Nat} (h : L[k]? = some (p, e)) : allN P L (k + 1) = (allN P L k && decide ((equalR (valuesL (powN p e) P)).1 < 0)) := by
  unfold allN
  rw [List.take_add_one, h, List.all_append]
  simp
theorem equalR_neg (F : List Int) : (equalR F).1 < 0 ↔ (equalR F).1 = -1 := by
  unfold equalR
  have h : ∀ n r k, (eqF F n r k).1 = -1 ∨ 0 ≤ (eqF F n r k).1 := by
    intro n r
    induction r with
    | zero => exact fun k => .inl rfl
    | succ r ih =>
      intro k
      unfold eqF
      split
      · exact .inr (Int.natCast_nonneg _)
      · exact ih (k + 1)
  rcases h F.length F.length 0 with h | h <;> omega
theorem allN_end {m : Nat} (hm : 2 ≤ m) (hm2 : m ≤ 64) (P : List Int) {n : Nat} (hn : (partsL m).length = n) : allN P (partsL m) n = decide ((equalR (valuesL m P)).1 = -1) := by
  rw [Bool.eq_iff_iff, decide_eq_true_eq, perm_parts hm hm2]
  unfold allN powL
  rw [List.take_of_length_le (by omega), List.all_eq_true]
  constructor
  · intro h q hq
    obtain ⟨pk, hpk, rfl⟩ := List.mem_map.1 hq
    exact (equalR_neg _).1 (of_decide_eq_true (h pk hpk))
  · intro h pk hpk
    exact decide_eq_true ((equalR_neg _).2 (h _ (List.mem_map.2 ⟨pk, hpk, rfl⟩)))
theorem join_at {m y : Nat} (hm : 2 ≤ m) (hm2 : m ≤ 64) (hy : y < m) : joinN (partsL m) (remI y (partsL m)) m = (y : Int) := by
  unfold joinN
  rcases firstN_is (P := fun n => decide (remI n (partsL m) = remI y (partsL m))) m 0 with ⟨_, h⟩ | ⟨j, h1, _, h2, h3, _⟩
  · have := h y (Nat.zero_le _) (by omega)
    simp at this
  · rw [h1]
    have h4 := of_decide_eq_true h3
    rw [crt_uniq hm hm2 (a := j) (b := y) (by omega) hy fun q hq => ?_]
    obtain ⟨pk, hpk, rfl⟩ := List.mem_map.1 hq
    obtain ⟨i, hi⟩ := List.mem_iff_getElem?.1 hpk
    have h5 := congrArg (fun l : List Int => l[i]?) h4
    unfold remI at h5
    simp only [List.getElem?_map, hi, Option.map_some, Option.some.injEq] at h5
    exact Int.ofNat.inj h5
/-- what the walk wants to know -/
structure PaW (x at' : Int) (P F : List Int) (m z y : Nat) : Prop where
  m2 : 2 ≤ m
  m64 : m ≤ 64
  w2 : IntKind.i64.wrap (2 + (modV x 63 : Int)) = (m : Int)
  pol : polyB m P = true
  val : valuesL m P = F
  zz : z = modV at' m
  zm : z < m
  yy : F.getD z 0 = (y : Int)
  ym : y < m
theorem paW (x at' : Int) (row : List Int) : ∃ F m z y, PaW x at' (tamL m row) F m z y := by
  have hr := modV_lt x 63 (by omega)
  obtain ⟨m, hm⟩ : ∃ m, modV x 63 + 2 = m := ⟨_, rfl⟩
  have hz := modV_lt at' m (by omega)
  have hy := poly_in (show 1 ≤ m by omega) (tamL m row) ((modV at' m : Nat) : Int)
  refine ⟨valuesL m (tamL m row), m, modV at' m, (polyV m (tamL m row) ((modV at' m : Nat) : Int)).toNat, by omega, by omega, by rw [IntWalk.i64_in _ (by omega)]; omega, tamL_poly (by omega) (by omega) row, rfl, rfl, hz, ?_, by omega⟩
  rw [valuesL_get m _ hz]; omega

set_option maxRecDepth 100000 in
set_option maxHeartbeats 8000000 in
theorem parted_walk (x at' : Int) (pv : Value) (row F : List Int) (m z y : Nat) (w : World) (hP : RowIn w pv row) (h : PaW x at' (tamL m row) F m z y) : Calls Try.prog 11 #[.int .i64 x, pv, .int .i64 at'] w fun e w' => e = .returned (.bool true) ∧ Below w.heap.size w w' := by
  obtain ⟨i0, hi, hz0, hz1, hz2⟩ := info_parts info_int
  obtain ⟨hm, hm2, w2, hpol, hval, hzz, hzm, hyy, hym⟩ := h
  have HM := Lib.hid (mod_val x 63 w (by omega) (by omega))
  have HTP := Lib.hid (tame_in m pv row w (by omega) hm2 hP)
  have hZ := fun W => mod_val at' m W (by omega) (by omega)
  rw [← hzz] at hZ
  have HZ := Lib.hid hZ
  obtain ⟨hp12, hpin⟩ := tamL_in (m := m) (by omega) row
  generalize modV x 63 = r at *
  generalize tamL m row = P at *
  obtain ⟨n, hn⟩ : ∃ n, P.length = n := ⟨_, rfl⟩
  rw [hn] at HTP hp12
  have hFz : F.getD z 0 = polyV m P (z : Int) := by rw [← hval, valuesL_get m P hzm]
  have HV := Lib.hid fun a cap W hW => Values_yes m a n cap P W hW hpol
  have HPm := Lib.hid fun a cap W hW => Permutes_yes m a n cap P W hW hpol
  rw [hval] at HV HPm
  have HSp := Lib.hid fun a cap W hW => Split_yes m a n cap P W hW hpol
  have hPr := fun a cap W hW => refProduct_any a (partsL m).length cap (castP (partsL m)) W hW (castP_length _) (by have := (parts_ok hm hm2).2.2; omega)
  simp only [flatI_cast, prod_at hm hm2 rfl] at hPr
  have hJ := fun a b cap c2 W h1 h2 => Joined_yes m a b (partsL m).length cap (partsL m).length c2 (remI y (partsL m)) W h1 rfl hm hm2 h2 (by have := (parts_ok hm hm2).2.2; omega)
  rw [join_at hm hm2 hym] at hJ
  simp only [if_neg (show ¬ (y : Int) = -1 by omega)] at hJ
  have hAll := allN_end hm hm2 P (n := (partsL m).length) rfl
  rw [hval] at hAll
  obtain ⟨hpk, q2, q3⟩ := parts_ok hm hm2
  have hdv : ∀ (k p e : Nat), (partsL m)[k]? = some (p, e) → m % powN p e = 0 := fun k p e h => (powL_facts hm hm2 (powN p e) (List.mem_map.2 ⟨(p, e), List.mem_of_getElem? h, rfl⟩)).1
  have hlk : ∀ (k p e : Nat), (partsL m)[k]? = some (p, e) → (valuesL (powN p e) P).getD (z % powN p e) 0 = ((y % powN p e : Nat) : Int) := fun k p e h => by
    have h2 := (hpk k (p, e) h).2.2.1
    simp only at h2
    rw [valuesL_get _ P (Nat.mod_lt _ (by omega)), ← poly_dvd (hdv k p e h), ← hFz, hyy, Int.natCast_emod]
  have hsp : ∀ (k p e : Nat), (partsL m)[k]? = some (p, e) → (spL m P)[k]? = some (valuesL (powN p e) P) := fun j p e h => by unfold spL; rw [List.getElem?_map, h]; rfl
  have hspl : (spL m P).length = (partsL m).length := by unfold spL; rw [List.length_map]
  have htk : ∀ (k p e : Nat), (partsL m)[k]? = some (p, e) → (remI y (partsL m)).take (k + 1) = (remI y (partsL m)).take k ++ [((y % powN p e : Nat) : Int)] := fun k p e hk => by
    unfold remI
    rw [List.take_add_one, List.getElem?_map, hk]; rfl
  have hml : (remI y (partsL m)).take (partsL m).length = remI y (partsL m) := List.take_of_length_le (by simp [remI])
  have hst := fun (k p e : Nat) => allN_step (P := P) (L := partsL m) (k := k) (p := p) (e := e)
  have hal0 : allN P (partsL m) 0 = true := rfl
  have hPw := fun (p e : Nat) W (h1 : p ≤ 64) (h2 : e ≤ 6) => refPower_any p e W h1 h2
  generalize remI y (partsL m) = R at *
  generalize spL m P = Ls at *
  generalize allN P (partsL m) = AL at *
  generalize partsL m = L at *
  obtain ⟨np, hnp⟩ : ∃ n, L.length = n := ⟨_, rfl⟩
  rw [hnp] at hPr hJ hAll hspl q2 q3 hml HSp
  generalize (equalR F).1 = X1 at *
  generalize (equalR F).2 = X2 at *
  have hFc : ∀ (a : Option Addr) W, Row W a m (intL F) → ∃ g, a = some ⟨g, 0, none⟩ ∧ W.cell? ⟨g, z, none⟩ = some (.int .i64 (y : Int)) := fun a W h => by
    obtain ⟨g, h1, h2⟩ := h.int hzm
    rw [hyy] at h2
    exact ⟨g, h1, h2⟩
  have HPr := Lib.hid hPr
  have HJ := Lib.hid hJ
  have HAll := Lib.hid hAll
  have Hpk := Lib.hid hpk
  have Hlk := Lib.hid hlk
  have Hsp := Lib.hid hsp
  have Htk := Lib.hid htk
  have Hml := Lib.hid hml
  have Hst := Lib.hid hst
  have Hal0 := Lib.hid hal0
  have Hspl := Lib.hid hspl
  have Hnp := Lib.hid hnp
  have Hn1 := Lib.hid (show 0 < np by omega)
  have Hzm := Lib.hid (show z < m ∧ m ≤ 64 by omega)
  have HFc := Lib.hid hFc
  have HA := Lib.hid fun w => awake_any w
  have HPw := Lib.hid hPw
  have hzi : (z : Int) < (m : Int) := by omega
  clear hZ hval hpol hpin hn hPr hJ hAll hpk hdv hlk hsp htk hml hst hal0 hspl hnp hFc hPw hzz hyy hym hFz hP q2
  go_enter Try.func11, Try.ntmps11
  go_wp2_with fail
  refine (HM.out).mono ?_
  rintro e w1 ⟨rfl, hw⟩
  subst w1
  go_wp2_with fail
  refine (HTP.out).mono ?_
  rintro e w2 ⟨v2, rfl, ho, b2⟩
  have B2 := Lib.hid b2
  clear b2
  obtain ⟨a1, c1, hv, hc1, r2⟩ := own_slice ho
  subst v2
  have RL := Lib.hid r2
  clear ho r2
  go_wp2_with fail
  refine (HV.out _ _ _ RL.out).mono ?_
  rintro e w3 ⟨v3, rfl, ho, b3⟩
  have B3 := Lib.hid (b_next B2.out b3)
  clear B2
  replace RL := Lib.hid (RL.out.below b3)
  clear b3
  obtain ⟨a2, c2, hv, hc2, r3⟩ := own_slice ho
  subst v3
  have RF := Lib.hid r3
  clear ho r3
  go_wp2_with fail
  refine (HPm.out _ _ _ RL.out).mono ?_
  rintro e w4 ⟨rfl, b4⟩
  have B4 := Lib.hid (b_next B3.out b4)
  clear B3
  replace RL := Lib.hid (RL.out.below b4)
  replace RF := Lib.hid (RF.out.below b4)
  clear b4
  go_wp2_with fail
  refine (HSp.out _ _ _ RL.out).mono ?_
  rintro e wS ⟨pv', fv, rfl, op, hl, bS⟩
  obtain ⟨pa, pc, rfl, hpc⟩ := own_prs op
  obtain ⟨g1, rfl, _⟩ := hpc Hn1.out
  obtain ⟨la, lc, hfv, _, _, htb⟩ := hl.tbl
  rw [Hspl.out] at hfv
  subst hfv
  have RPa := Lib.hid (row_pairs op Hn1.out)
  have TL := Lib.hid htb
  clear op hl hpc htb
  have B5 := Lib.hid (b_next B4.out bS)
  clear B4
  replace RL := Lib.hid (RL.out.below bS)
  replace RF := Lib.hid (RF.out.below bS)
  clear bS
  go_wp2_with fail
  refine (HPr.out _ _ _ RPa.out).mono ?_
  rintro e w6 ⟨rfl, hq⟩
  have b6 := drew_below hq
  clear hq
  have B6 := Lib.hid (b_next B5.out b6)
  clear B5
  replace RL := Lib.hid (RL.out.below b6)
  replace RF := Lib.hid (RF.out.below b6)
  replace RPa := Lib.hid (RPa.out.below b6)
  replace TL := Lib.hid (TL.out.below b6)
  clear b6
  go_wp2_with fail
  refine (HZ.out _).mono ?_
  rintro e w7 ⟨rfl, hw⟩
  subst w7
  go_wp2
  generalize w6 = WQ at *
  have BQ := Lib.hid B6.out
  have O0 : Hid (WQ.ownsRow WQ.heap.size 3 1 (.slice none 0 0) 0 (intL (R.take 0))) := World.ownsRow_nil _ _ _ _
  clear HM HTP HV HPm HSp HPr HZ RL B6
  go_loopw [17, 18, 19] (fun ab v i wr => ∃ (k : Nat) (b : Bool), k ≤ np ∧ i = .int .i64 k ∧ ab = .bool b ∧ Hid (AL k = b) ∧ Hid (wr.ownsRow WQ.heap.size 3 1 v k (intL (R.take k))) ∧ Hid (Below WQ.heap.size WQ wr)) (fun _ _ i _ => np - (intOf i).toNat)
  case atStart => exact ⟨0, true, Nat.zero_le _, rfl, rfl, Hal0, O0, Below.refl _ _⟩
  case round =>
    clear O0 Hal0
    obtain ⟨k, b, hk, rfl, rfl, HAb, HO, HB⟩ := hrel
    obtain ⟨a5, c5, hv5, -⟩ := Row.of_own HO.out
    subst hv5
    by_cases hlt : k < np
    · have hc : (k : Int) < (np : Int) := by omega
      obtain ⟨⟨p, e⟩, hpe⟩ : ∃ pk, L[k]? = some pk := ⟨_, List.getElem?_eq_getElem (by have := Hnp.out; omega)⟩
      obtain ⟨x1, x2, x3, x4⟩ := Hpk.out k (p, e) hpe
      have hline := Hsp.out k p e hpe
      have hlk := Hlk.out k p e hpe
      have htk := Htk.out k p e hpe
      have hst := Hst.out k p e hpe
      simp only at x1 x2 x3 x4
      have hPw := fun W => HPw.out p e W x1 x2
      have hfr := valuesL_in (m := powN p e) (by omega) P
      generalize powN p e = q at *
      have hlen := valuesL_len q P
      generalize valuesL q P = ln at *
      obtain ⟨gl, ra, rc, e1, hgl, c1', _, hrow⟩ := TL.out.row hline
      subst e1
      rw [hlen] at c1' hrow
      have hFn := fun a cap W hW => refFunc_any (q : Int) a q cap ln W hW (by omega)
      have hfq : (decide ((q : Int) = (q : Int)) && remB q ln) = true := by
        rw [decide_eq_true rfl, Bool.true_and]
        unfold remB
        rw [List.all_eq_true]
        exact fun v hv => decide_eq_true (hfr v hv)
      rw [hfq] at hFn
      have hPe := fun a cap W hW => refPerm_any a q cap ln W hW (by omega)
      obtain ⟨pb, hpb⟩ : ∃ pb, decide ((equalR ln).1 < 0) = pb := ⟨_, rfl⟩
      rw [hpb] at hPe hst
      have Hgo := Lib.hid (show k + 1 ≤ np ∧ k < np ∧ k ≤ 3 by omega)
      have hq0 : ¬ q = 0 := by omega
      have hzq : z % q < q := Nat.mod_lt _ (Nat.pos_of_ne_zero hq0)
      have hz64 : z ≤ 64 := by have := Hzm.out; omega
      have hnum := Lib.hid (rem_num2 (n := z) (q := q) hz64 x3 x4)
      obtain ⟨j, hj⟩ : ∃ j, z % q = j := ⟨_, rfl⟩
      have Hnum : Hid (Int.tmod (z : Int) (q : Int) = (j : Int) ∧ IntKind.i64.wrap (j : Int) = (j : Int) ∧ wrap64 (j : Int) = (j : Int) ∧ ¬ (q : Int) = 0 ∧ ((q : Int) == 0) = false ∧ ¬ q = 0 ∧ (j : Int) < (q : Int)) := by
        obtain ⟨j', h1, _, h2⟩ := hnum.out
        have e : j' = j := h1.symm.trans hj
        subst e
        exact ⟨h2.1, h2.2.1, h2.2.2.1, h2.2.2.2.1, h2.2.2.2.2, hq0, Int.ofNat_lt.2 (hj ▸ hzq)⟩
      have hjq : j < q := hj ▸ hzq
      clear hnum hzq hz64 hq0
      rw [hj] at hlk
      obtain ⟨rb, rfl, hcj⟩ := hrow.int hjq
      rw [hlk] at hcj
      obtain ⟨u, hu⟩ : ∃ u, y % q = u := ⟨_, rfl⟩
      rw [hu] at htk hcj
      have hrbl : rb < WQ.heap.size := World.block_lt_of_cell? _ _ hcj
      have hcells : ∀ W, Below WQ.heap.size WQ W → W.cell? ⟨gl, k, none⟩ = some (.slice (some ⟨rb, 0, none⟩) q rc) ∧ W.cell? ⟨rb, j, none⟩ = some (.int .i64 (u : Int)) ∧ Row W (some ⟨rb, 0, none⟩) q (intL ln) := fun W hW =>
        ⟨(hW.cell (p := ⟨gl, k, none⟩) hgl).trans c1', (hW.cell (p := ⟨rb, j, none⟩) hrbl).trans hcj, hrow.below hW⟩
      obtain ⟨d0, d1⟩ := pair_cells (RPa.out.below HB.out) hlt hpe
      have HCs := Lib.hid hcells
      have HPwk := Lib.hid hPw
      have HFn := Lib.hid hFn
      have HPe := Lib.hid hPe
      have HTk := Lib.hid htk
      have HSt := Lib.hid hst
      have Hgl := Lib.hid (And.intro hgl hrbl)
      clear hcells hPw hFn hPe htk hst hgl hrbl hcj hlk hline hrow c1' x1 x2 x3 x4 hk hlt hpe hfr hfq hpb hj hjq hu hlen
      go_wp2
      go_quiet ((go_at_call 30; with_reducible exact Calls.quiet_of_same (HPwk.out _)))
      have HB5 := Lib.hid (below_drewN HB.out nq)
      have HO5 : Hid ((wr.drewN nq).ownsRow WQ.heap.size 3 1 (.slice a5 k c5) k (intL (R.take k))) := HO.out
      generalize wr.drewN nq = W5 at HB5 HO5 ⊢
      clear d0 d1 HB HPwk HO
      obtain ⟨s0, s1, s2⟩ := HCs.out W5 HB5.out
      have RW := Lib.hid s2
      clear s2
      go_wp2_with fail
      refine (HFn.out _ _ _ RW.out).mono ?_
      rintro e' w9 ⟨rfl, hw⟩
      subst w9
      cases b with
      | true =>
        go_wp2_with fail
        refine (HPe.out _ _ _ RW.out).mono ?_
        rintro e' w9 ⟨rfl, hq⟩
        have hb9 := drew_below hq
        have HB6 := Lib.hid (b_next HB5.out hb9)
        have HO6 := Lib.hid (own_later HO5.out hb9)
        obtain ⟨t0, t1, -⟩ := HCs.out w9 HB6.out
        clear hq hb9 HB5 HO5 s0 s1 RW
        go_wp2
        have hlt4 := HO6.out.lt
        have hfar : ∀ (wy : World) (o : Obj) (p : Addr) (v : Value), (w9.alloc o).drew.grownBy wy (Value.slice a5 k c5).ownBlock → w9.cell? p = some v → p.block < WQ.heap.size → wy.cell? p = some v := fun wy o p v hg hp hne =>
          hg.cell (((below_alloc w9 o).drew.cell (World.block_lt_of_cell? _ _ hp)).trans hp) (fun e => by have := hlt4 _ e.symm; omega)
        have Hfar := Lib.hid hfar
        have HOa := Lib.hid (HO6.out.alloc (.cells #[.int .i64 (u : Int)] 3))
        have HN1 := Lib.hid (cell_one_new w9 (.int .i64 (u : Int)) 3)
        have HBs : Hid (WQ.heap.size ≤ (w9.alloc (.cells #[.int .i64 (u : Int)] 3)).drew.heap.size) := Nat.le_trans HB6.out.size (by show w9.heap.size ≤ (w9.alloc _).heap.size; simp)
        have T0 := Lib.hid t0
        have T1 := Lib.hid t1
        have hk3 : k ≤ 3 := Hgo.out.2.2
        obtain ⟨n1, n2, n3, n4, n5, n6, n7⟩ := Hnum.out
        clear hlt4 hfar
        go_region_held3 (fun w' => w'.cell? ⟨gl, k, none⟩ = some (.slice (some ⟨rb, 0, none⟩) q rc) ∧ w'.cell? ⟨rb, j, none⟩ = some (.int .i64 (u : Int)))
          (first | exact ⟨t0, t1⟩ | exact ⟨Hfar.out _ _ _ _ hgr9 T0.out Hgl.out.1, Hfar.out _ _ _ _ hgr9 T1.out Hgl.out.2⟩ | exact ⟨((below_alloc w9 _).drew.cell (World.block_lt_of_cell? _ _ T0.out)).trans T0.out, ((below_alloc w9 _).drew.cell (World.block_lt_of_cell? _ _ T1.out)).trans T1.out⟩)
          (first | (refine step_append_lies _ rfl _ _ 22 rfl WQ.heap.size 3 i0 (.int .i64 0) 1 8 Try.underlying22 hi hz0 hz1 hz2 rfl (by decide) _ k (intL (R.take k)) rfl HOa.out ⟨w9.heap.size, 0, none⟩ 1 1 [.int .i64 (u : Int)] rfl rfl HN1.out (by simp [Value.oneCell']) (by clear n1 n2 n3; omega) (by clear n1 n2 n3; unfold maxLen; omega) (by clear n1 n2 n3; omega) HBs.out _ rfl ?_; intro g9 c9 wz hown9 hgr9 _ _))
        have hfin : Hid (wz.ownsRow WQ.heap.size 3 1 (.slice (some ⟨g9, 0, none⟩) (k + 1) c9) (k + 1) (intL (R.take (k + 1)))) := by
          unfold Hid
          rw [HTk.out]
          unfold intL at hown9 ⊢
          rw [List.map_append]; exact hown9
        have hB9 : Hid (Below WQ.heap.size WQ wz) := (HB6.out.trans (((below_alloc w9 _).drew).mono HB6.out.size)).grown hgr9 HBs.out (fun q e => (HO6.out.lt q e).1)
        have HAn : Hid (AL (k + 1) = pb) := by unfold Hid; rw [HSt.out, HAb.out]; rfl
        clear hown9 hgr9 t0 t1 T0 T1 n1 n2 n3
        go_wp2
        go_roundw
        case rel => exact ⟨k + 1, pb, Hgo.out.1, by go_num, rfl, HAn, hfin, hB9⟩
        case measure => simp [intOf]; have := Hgo.out; omega
      | false =>
        go_wp2
        have HB6 := Lib.hid HB5.out
        have HO6 := Lib.hid HO5.out
        have t0 := s0
        have t1 := s1
        clear HB5 HO5 s0 s1 RW
        obtain ⟨w9, hw9⟩ : ∃ w9, W5 = w9 := ⟨_, rfl⟩
        subst hw9
        have hlt4 := HO6.out.lt
        have hfar : ∀ (wy : World) (o : Obj) (p : Addr) (v : Value), (W5.alloc o).drew.grownBy wy (Value.slice a5 k c5).ownBlock → W5.cell? p = some v → p.block < WQ.heap.size → wy.cell? p = some v := fun wy o p v hg hp hne =>
          hg.cell (((below_alloc W5 o).drew.cell (World.block_lt_of_cell? _ _ hp)).trans hp) (fun e => by have := hlt4 _ e.symm; omega)
        have Hfar := Lib.hid hfar
        have HOa := Lib.hid (HO6.out.alloc (.cells #[.int .i64 (u : Int)] 3))
        have HN1 := Lib.hid (cell_one_new W5 (.int .i64 (u : Int)) 3)
        have HBs : Hid (WQ.heap.size ≤ (W5.alloc (.cells #[.int .i64 (u : Int)] 3)).drew.heap.size) := Nat.le_trans HB6.out.size (by show W5.heap.size ≤ (W5.alloc _).heap.size; simp)
        have T0 := Lib.hid t0
        have T1 := Lib.hid t1
        have hk3 : k ≤ 3 := Hgo.out.2.2
        obtain ⟨n1, n2, n3, n4, n5, n6, n7⟩ := Hnum.out
        clear hlt4 hfar
        go_region_held3 (fun w' => w'.cell? ⟨gl, k, none⟩ = some (.slice (some ⟨rb, 0, none⟩) q rc) ∧ w'.cell? ⟨rb, j, none⟩ = some (.int .i64 (u : Int)))
          (first | exact ⟨t0, t1⟩ | exact ⟨Hfar.out _ _ _ _ hgr9 T0.out Hgl.out.1, Hfar.out _ _ _ _ hgr9 T1.out Hgl.out.2⟩ | exact ⟨((below_alloc W5 _).drew.cell (World.block_lt_of_cell? _ _ T0.out)).trans T0.out, ((below_alloc W5 _).drew.cell (World.block_lt_of_cell? _ _ T1.out)).trans T1.out⟩)
          (first | (refine step_append_lies _ rfl _ _ 22 rfl WQ.heap.size 3 i0 (.int .i64 0) 1 8 Try.underlying22 hi hz0 hz1 hz2 rfl (by decide) _ k (intL (R.take k)) rfl HOa.out ⟨W5.heap.size, 0, none⟩ 1 1 [.int .i64 (u : Int)] rfl rfl HN1.out (by simp [Value.oneCell']) (by clear n1 n2 n3; omega) (by clear n1 n2 n3; unfold maxLen; omega) (by clear n1 n2 n3; omega) HBs.out _ rfl ?_; intro g9 c9 wz hown9 hgr9 _ _))
        have hfin : Hid (wz.ownsRow WQ.heap.size 3 1 (.slice (some ⟨g9, 0, none⟩) (k + 1) c9) (k + 1) (intL (R.take (k + 1)))) := by
          unfold Hid
          rw [HTk.out]
          unfold intL at hown9 ⊢
          rw [List.map_append]; exact hown9
        have hB9 : Hid (Below WQ.heap.size WQ wz) := (HB6.out.trans (((below_alloc W5 _).drew).mono HB6.out.size)).grown hgr9 HBs.out (fun q e => (HO6.out.lt q e).1)
        have HAn : Hid (AL (k + 1) = false) := by unfold Hid; rw [HSt.out, HAb.out]; rfl
        clear hown9 hgr9 t0 t1 T0 T1 n1 n2 n3
        go_wp2
        go_roundw
        case rel => exact ⟨k + 1, false, Hgo.out.1, by go_num, rfl, HAn, hfin, hB9⟩
        case measure => simp [intOf]; have := Hgo.out; omega
    · obtain rfl : k = np := by omega
      have hc : ¬ (k : Int) < (k : Int) := by omega
      have ho := HO.out
      rw [Hml.out] at ho
      obtain ⟨a6, c6, hv6, -, hR6⟩ := own_slice ho
      obtain ⟨rfl, rfl⟩ : a5 = a6 ∧ c5 = c6 := by simpa using hv6
      have RR := Lib.hid hR6
      have RPb := Lib.hid (RPa.out.below HB.out)
      have RF2 := Lib.hid (RF.out.below HB.out)
      have BZ := Lib.hid (b_next BQ.out HB.out)
      have hb : b = decide (X1 = -1) := HAb.out.symm.trans HAll.out
      clear ho hv6 hR6 HO HB HAb HAll
      go_wp2_with fail
      refine (HJ.out _ _ _ _ _ RPb.out RR.out).mono ?_
      rintro e' w7 ⟨rfl, b7⟩
      obtain ⟨gF, e7, cF⟩ := HFc.out _ _ (RF2.out.below b7)
      subst e7
      have B7 := Lib.hid (b_next BZ.out b7)
      clear b7 BZ RPb RR
      have hyy2 : ((y : Int) == (y : Int)) = true := by simp
      by_cases hX : X1 = -1
      · subst X1
        rw [decide_eq_true rfl] at hb
        subst b
        go_wp2_with fail
        refine (HA.out _).mono ?_
        rintro e' w8 ⟨rfl, b8⟩
        have B8 := Lib.hid (b_next B7.out b8)
        clear b8
        go_wp2
        go_ret
        exact ⟨rfl, B8.out⟩
      · have hX2 : (X1 == -1) = false := by rw [beq_eq_false_iff_ne]; exact hX
        rw [decide_eq_false hX] at hb
        subst b
        go_wp2_with fail
        refine (HA.out _).mono ?_
        rintro e' w8 ⟨rfl, b8⟩
        have B8 := Lib.hid (b_next B7.out b8)
        clear b8
        go_wp2
        go_ret
        exact ⟨rfl, B8.out⟩
theorem walk_ShuffleParted (x : Int) (_ : (Lit.int .i64 x).wf = true) (pv : Value) (rp : List Int) (w : World) (hP : RowIn w pv rp) (at' : Int) (_ : (Lit.int .i64 at').wf = true) : Calls Try.prog 11 #[.int .i64 x, pv, .int .i64 at'] w fun e w' => e = .returned (.bool true) ∧ Below w.heap.size w w' := by
  obtain ⟨F, m, z, y, h⟩ := paW x at' rp
  exact parted_walk x at' pv rp F m z y w hP h
end Go.Proofs.Ytndbjojjaapeaaa

/- The walk of Joins. -/
namespace Go.Proofs.Ytndbjojjaapeaaa
set_option linter.unusedVariables false
open Go.RowKit

set_option maxRecDepth 100000 in
set_option maxHeartbeats 8000000 in
theorem joins_nil (c0 : Nat) (rv : Value) (row : List Int) (w : World) (hR : RowIn w rv row) : Calls Try.prog 7 #[.slice none 0 c0, rv] w fun e w' => e = .returned (.bool true) ∧ Below w.heap.size w w' := by
  have hcl := cutL_le row
  have hL := fun W (hb : Below w.heap.size w W) => list_in rv row W (hR.below hb)
  generalize cutL row = Q at *
  obtain ⟨k, hk⟩ : ∃ k, Q.length = k := ⟨_, rfl⟩
  have hk' := hk
  rw [hk] at hL hcl
  have HL := Lib.hid hL
  have HA := Lib.hid fun w => awake_any w
  clear hR hL
  have HJ := Lib.hid fun b k c2 W => Joined_no none b 0 0 k c2 [] W ⟨rfl, fun h => by omega⟩ rfl (by omega) (fun p hp => by simp at hp) rfl
  have HP := Lib.hid fun W => refProduct_any none 0 0 [] W ⟨rfl, fun h => by omega⟩ rfl (by omega)
  clear hk hk'
  go_enter Try.func7, Try.ntmps7
  go_wp2_with fail
  refine (HL.out _ (Below.refl _ _)).mono ?_
  rintro e w1 ⟨v1, rfl, ho, b1⟩
  obtain ⟨a1, c1, rfl, -, hr1⟩ := own_slice ho
  have B1 := Lib.hid b1
  clear ho hr1 b1
  go_wp2_with fail
  refine (HJ.out _ _ _ _).mono ?_
  rintro e w2 ⟨rfl, b2⟩
  have B2 := Lib.hid (b_next B1.out b2)
  clear B1
  clear b2
  go_wp2_with fail
  refine (HP.out _).mono ?_
  rintro e w3 ⟨rfl, hq⟩
  have b3 := drew_below hq
  clear hq
  have B3 := Lib.hid (b_next B2.out b3)
  clear B2
  clear b3
  go_wp2_with fail
  refine (HA.out _).mono ?_
  rintro e w4 ⟨rfl, b4⟩
  have B4 := Lib.hid (b_next B3.out b4)
  clear B3
  clear b4
  go_wp2
  go_ret
  exact ⟨rfl, B4.out⟩
theorem flat_take : ∀ (X : List (Int × Int)) (k : Nat) {j : Nat} {u : Value}, (flatI (X.take k))[j]? = some u → (flatI X)[j]? = some u
  | [], k, j, u, h => by simpa using h
  | p :: X, 0, j, u, h => by simp [flatI] at h
  | p :: X, k + 1, 0, u, h => h
  | p :: X, k + 1, 1, u, h => h
  | p :: X, k + 1, j + 2, u, h => flat_take X k (j := j) h
theorem flat_one2 : ∀ (X : List (Int × Int)), ∀ u ∈ flatI X, u.oneCell' = true
  | [], u, h => by simp [flatI] at h
  | p :: X, u, h => by
    rcases List.mem_cons.1 h with rfl | h
    · simp [Value.oneCell']
    rcases List.mem_cons.1 h with rfl | h
    · simp [Value.oneCell']
    · exact flat_one2 X u h
set_option maxRecDepth 100000 in
set_option maxHeartbeats 8000000 in
theorem joins_a (ad : Addr) (n0 : Nat) (c0 : Nat) (rv : Value) (row : List Int) (w : World) (hR : RowIn w rv row) (X : List (Int × Int)) (hX : X.length = n0) (hc : n0 ≤ c0) (hd : ∀ j u, (flatI X)[j]? = some u → w.cell? (ad.add j) = some u) (hw : WfX X) (h0 : prodX (X.take 8) = 0) : Calls Try.prog 7 #[.slice (some ad) n0 c0, rv] w fun e w' => e = .returned (.bool true) ∧ Below w.heap.size w w' := by
  have hcl := cutL_le row
  have hL := fun W (hb : Below w.heap.size w W) => list_in rv row W (hR.below hb)
  generalize cutL row = Q at *
  obtain ⟨k, hk⟩ : ∃ k, Q.length = k := ⟨_, rfl⟩
  have hk' := hk
  rw [hk] at hL hcl
  have HL := Lib.hid hL
  have HA := Lib.hid fun w => awake_any w
  clear hR hL
  obtain ⟨i0, hi, hz0, hz1, hz2⟩ := info_parts info_pair
  obtain ⟨n, hn⟩ : ∃ n, min n0 8 = n := ⟨_, rfl⟩
  have hm8 : min (n0 : Int) 8 = (n : Int) := by omega
  have hn1 : n ≤ n0 := by omega
  have hn2 : (n : Int) ≤ c0 := by omega
  have hn8 : n ≤ 8 := by omega
  have hXl : (X.take 8).length = n := by rw [List.length_take, hX]; omega
  have hlen : (flatI (X.take 8)).length = n * 2 := by rw [flatI_length, hXl]
  have hnews : ∀ j u, (flatI (X.take 8))[j]? = some u → w.cell? (ad.add j) = some u := fun j u hj => hd j u (flat_take X 8 hj)
  have hone : ∀ u ∈ flatI (X.take 8), u.oneCell' = true := flat_one2 _
  have hwf : WfX (X.take 8) := fun p hp => hw p (List.mem_of_mem_take hp)
  generalize X.take 8 = Y at *
  have hJ := fun a b cap k c2 W hW => Joined_no a b n cap k c2 Y W hW hXl (by omega) hwf h0
  have hP := fun a cap W hW => refProduct_any a n cap Y W hW hXl (by omega)
  rw [h0] at hP
  have HJ := Lib.hid hJ
  have HP := Lib.hid hP
  clear hJ hP h0
  have HN := Lib.hid hnews
  have HLn := Lib.hid hlen
  have HO := Lib.hid hone
  have HXl := Lib.hid hXl
  clear hnews hlen hone hd hw hX hn hc hwf hk' hk hXl
  go_enter Try.func7, Try.ntmps7
  go_wp2_with (at_builtin; refine wpList_append_own _ rfl _ _ 29 rfl w.heap.size 42 i0 (.agg #[.int .i64 0, .int .i64 0]) 2 16 Try.underlying29 hi hz0 hz1 hz2 rfl (by decide) _ _ _ rfl (World.ownsRow_nil _ _ _ _) ad n c0 (flatI Y) rfl HLn.out HN.out HO.out (by unfold maxLen; omega) (by omega) (Nat.le_refl _) ?_; intro v1 w1 hown hgrow _)
  simp only [Nat.zero_add, List.nil_append] at hown
  have hg2 : w.grownBy w1 none := hgrow
  have B1 : Hid (Below w.heap.size w w1) := ⟨hg2.os, hg2.tape, hg2.output, hg2.size, fun k hk => hg2.block k hk (by simp)⟩
  obtain ⟨a1, c1, rfl, hr1⟩ := own_flat hown
  have RX := Lib.hid hr1
  clear hgrow hg2 hown hr1
  go_wp2_with fail
  refine (HL.out _ B1.out).mono ?_
  rintro e w2 ⟨v2, rfl, ho, b2⟩
  have B2 := Lib.hid (b_next B1.out b2)
  clear B1
  replace RX := Lib.hid (RX.out.below b2)
  clear b2
  obtain ⟨a2, c2, rfl, -, hr2⟩ := own_slice ho
  have RL := Lib.hid hr2
  clear ho hr2
  go_wp2_with fail
  refine (HJ.out _ _ _ _ _ _ RX.out).mono ?_
  rintro e w3 ⟨rfl, b3⟩
  have B3 := Lib.hid (b_next B2.out b3)
  clear B2
  replace RX := Lib.hid (RX.out.below b3)
  replace RL := Lib.hid (RL.out.below b3)
  clear b3
  go_wp2_with fail
  refine (HP.out _ _ _ RX.out).mono ?_
  rintro e w4 ⟨rfl, hq⟩
  have b4 := drew_below hq
  clear hq
  have B4 := Lib.hid (b_next B3.out b4)
  clear B3
  replace RX := Lib.hid (RX.out.below b4)
  replace RL := Lib.hid (RL.out.below b4)
  clear b4
  go_wp2_with fail
  refine (HA.out _).mono ?_
  rintro e w5 ⟨rfl, b5⟩
  have B5 := Lib.hid (b_next B4.out b5)
  clear B4
  replace RX := Lib.hid (RX.out.below b5)
  replace RL := Lib.hid (RL.out.below b5)
  clear b5
  go_wp2
  go_ret
  exact ⟨rfl, B5.out⟩
set_option maxRecDepth 100000 in
set_option maxHeartbeats 8000000 in
theorem joins_b (ad : Addr) (n0 : Nat) (c0 : Nat) (rv : Value) (row : List Int) (w : World) (hR : RowIn w rv row) (X : List (Int × Int)) (hX : X.length = n0) (hc : n0 ≤ c0) (hd : ∀ j u, (flatI X)[j]? = some u → w.cell? (ad.add j) = some u) (hw : WfX X) (m : Nat) (hm : 2 ≤ m) (hm2 : m ≤ 64) (hY : X.take 8 = castP (partsL m)) (hl : leftB (partsL m) (cutL row) = false) : Calls Try.prog 7 #[.slice (some ad) n0 c0, rv] w fun e w' => e = .returned (.bool true) ∧ Below w.heap.size w w' := by
  have hcl := cutL_le row
  have hL := fun W (hb : Below w.heap.size w W) => list_in rv row W (hR.below hb)
  generalize cutL row = Q at *
  obtain ⟨k, hk⟩ : ∃ k, Q.length = k := ⟨_, rfl⟩
  have hk' := hk
  rw [hk] at hL hcl
  have HL := Lib.hid hL
  have HA := Lib.hid fun w => awake_any w
  clear hR hL
  obtain ⟨i0, hi, hz0, hz1, hz2⟩ := info_parts info_pair
  obtain ⟨n, hn⟩ : ∃ n, min n0 8 = n := ⟨_, rfl⟩
  have hm8 : min (n0 : Int) 8 = (n : Int) := by omega
  have hn1 : n ≤ n0 := by omega
  have hn2 : (n : Int) ≤ c0 := by omega
  have hn8 : n ≤ 8 := by omega
  have hXl : (X.take 8).length = n := by rw [List.length_take, hX]; omega
  have hlen : (flatI (X.take 8)).length = n * 2 := by rw [flatI_length, hXl]
  have hnews : ∀ j u, (flatI (X.take 8))[j]? = some u → w.cell? (ad.add j) = some u := fun j u hj => hd j u (flat_take X 8 hj)
  have hone : ∀ u ∈ flatI (X.take 8), u.oneCell' = true := flat_one2 _
  have hwf : WfX (X.take 8) := fun p hp => hw p (List.mem_of_mem_take hp)
  generalize X.take 8 = Y at *
  have hX2 : castP (partsL m) = Y := hY.symm
  have hpl : (partsL m).length = n := by rw [← hXl, hY, castP_length]
  have hRX : ∀ (a : Option Addr) (W : World), Row W a (n * 2) (flatI Y) → Row W a (n * 2) (flatF (partsL m)) := fun a W h => by rw [hY, flatI_cast] at h; exact h
  have hJ := fun a b cap c2 W h1 h2 => Joined_yes m a b n cap k c2 Q W h1 hpl hm hm2 h2 (by omega)
  have hP := fun a cap W hW => refProduct_any a n cap Y W hW hXl (by omega)
  rw [show prodX Y = m from prod_at hm hm2 hX2] at hP
  obtain ⟨hpk, hp1, hp3⟩ := parts_ok hm hm2
  have hLf := fun a b cap c2 W h1 h2 => refLeft_any a b n cap k c2 (partsL m) Q W h1 hpl (by omega) hpk h2 (by omega)
  rw [hl] at hLf
  rw [join_none (left_no hpk hl)] at hJ
  simp only [if_pos] at hJ
  have hmz : ((m : Int) == 0) = false := by rw [beq_eq_false_iff_ne]; omega
  have HJ := Lib.hid hJ
  have HP := Lib.hid hP
  have HLf := Lib.hid hLf
  have HRX := Lib.hid hRX
  clear hJ hP hLf hRX hX2 hpl hpk hp1 hp3 hY hl hm hm2
  have HN := Lib.hid hnews
  have HLn := Lib.hid hlen
  have HO := Lib.hid hone
  have HXl := Lib.hid hXl
  clear hnews hlen hone hd hw hX hn hc hwf hk' hk hXl
  go_enter Try.func7, Try.ntmps7
  go_wp2_with (at_builtin; refine wpList_append_own _ rfl _ _ 29 rfl w.heap.size 42 i0 (.agg #[.int .i64 0, .int .i64 0]) 2 16 Try.underlying29 hi hz0 hz1 hz2 rfl (by decide) _ _ _ rfl (World.ownsRow_nil _ _ _ _) ad n c0 (flatI Y) rfl HLn.out HN.out HO.out (by unfold maxLen; omega) (by omega) (Nat.le_refl _) ?_; intro v1 w1 hown hgrow _)
  simp only [Nat.zero_add, List.nil_append] at hown
  have hg2 : w.grownBy w1 none := hgrow
  have B1 : Hid (Below w.heap.size w w1) := ⟨hg2.os, hg2.tape, hg2.output, hg2.size, fun k hk => hg2.block k hk (by simp)⟩
  obtain ⟨a1, c1, rfl, hr1⟩ := own_flat hown
  have RX := Lib.hid hr1
  clear hgrow hg2 hown hr1
  go_wp2_with fail
  refine (HL.out _ B1.out).mono ?_
  rintro e w2 ⟨v2, rfl, ho, b2⟩
  have B2 := Lib.hid (b_next B1.out b2)
  clear B1
  replace RX := Lib.hid (RX.out.below b2)
  clear b2
  obtain ⟨a2, c2, rfl, -, hr2⟩ := own_slice ho
  have RL := Lib.hid hr2
  clear ho hr2
  go_wp2_with fail
  refine (HJ.out _ _ _ _ _ (HRX.out _ _ RX.out) RL.out).mono ?_
  rintro e w3 ⟨rfl, b3⟩
  have B3 := Lib.hid (b_next B2.out b3)
  clear B2
  replace RX := Lib.hid (RX.out.below b3)
  replace RL := Lib.hid (RL.out.below b3)
  clear b3
  go_wp2_with fail
  refine (HP.out _ _ _ RX.out).mono ?_
  rintro e w4 ⟨rfl, hq⟩
  have b4 := drew_below hq
  clear hq
  have B4 := Lib.hid (b_next B3.out b4)
  clear B3
  replace RX := Lib.hid (RX.out.below b4)
  replace RL := Lib.hid (RL.out.below b4)
  clear b4
  go_wp2_with fail
  refine (HLf.out _ _ _ _ _ (HRX.out _ _ RX.out) RL.out).mono ?_
  rintro e w5 ⟨rfl, hq⟩
  have b5 := drew_below hq
  clear hq
  have B5 := Lib.hid (b_next B4.out b5)
  clear B4
  replace RX := Lib.hid (RX.out.below b5)
  replace RL := Lib.hid (RL.out.below b5)
  clear b5
  go_wp2_with fail
  refine (HA.out _).mono ?_
  rintro e w6 ⟨rfl, b6⟩
  have B6 := Lib.hid (b_next B5.out b6)
  clear B5
  replace RX := Lib.hid (RX.out.below b6)
  replace RL := Lib.hid (RL.out.below b6)
  clear b6
  go_wp2
  go_ret
  exact ⟨rfl, B6.out⟩
set_option maxRecDepth 100000 in
set_option maxHeartbeats 8000000 in
theorem joins_c (ad : Addr) (n0 : Nat) (c0 : Nat) (rv : Value) (row : List Int) (w : World) (hR : RowIn w rv row) (X : List (Int × Int)) (hX : X.length = n0) (hc : n0 ≤ c0) (hd : ∀ j u, (flatI X)[j]? = some u → w.cell? (ad.add j) = some u) (hw : WfX X) (m y : Nat) (hm : 2 ≤ m) (hm2 : m ≤ 64) (hY : X.take 8 = castP (partsL m)) (hl : leftB (partsL m) (cutL row) = true) (hy : y < m) (he : remI y (partsL m) = cutL row) : Calls Try.prog 7 #[.slice (some ad) n0 c0, rv] w fun e w' => e = .returned (.bool true) ∧ Below w.heap.size w w' := by
  have hcl := cutL_le row
  have hL := fun W (hb : Below w.heap.size w W) => list_in rv row W (hR.below hb)
  generalize cutL row = Q at *
  obtain ⟨k, hk⟩ : ∃ k, Q.length = k := ⟨_, rfl⟩
  have hk' := hk
  rw [hk] at hL hcl
  have HL := Lib.hid hL
  have HA := Lib.hid fun w => awake_any w
  clear hR hL
  obtain ⟨i0, hi, hz0, hz1, hz2⟩ := info_parts info_pair
  obtain ⟨n, hn⟩ : ∃ n, min n0 8 = n := ⟨_, rfl⟩
  have hm8 : min (n0 : Int) 8 = (n : Int) := by omega
  have hn1 : n ≤ n0 := by omega
  have hn2 : (n : Int) ≤ c0 := by omega
  have hn8 : n ≤ 8 := by omega
  have hXl : (X.take 8).length = n := by rw [List.length_take, hX]; omega
  have hlen : (flatI (X.take 8)).length = n * 2 := by rw [flatI_length, hXl]
  have hnews : ∀ j u, (flatI (X.take 8))[j]? = some u → w.cell? (ad.add j) = some u := fun j u hj => hd j u (flat_take X 8 hj)
  have hone : ∀ u ∈ flatI (X.take 8), u.oneCell' = true := flat_one2 _
  have hwf : WfX (X.take 8) := fun p hp => hw p (List.mem_of_mem_take hp)
  generalize X.take 8 = Y at *
  have hX2 : castP (partsL m) = Y := hY.symm
  have hpl : (partsL m).length = n := by rw [← hXl, hY, castP_length]
  have hRX : ∀ (a : Option Addr) (W : World), Row W a (n * 2) (flatI Y) → Row W a (n * 2) (flatF (partsL m)) := fun a W h => by rw [hY, flatI_cast] at h; exact h
  have hJ := fun a b cap c2 W h1 h2 => Joined_yes m a b n cap k c2 Q W h1 hpl hm hm2 h2 (by omega)
  have hP := fun a cap W hW => refProduct_any a n cap Y W hW hXl (by omega)
  rw [show prodX Y = m from prod_at hm hm2 hX2] at hP
  obtain ⟨hpk, hp1, hp3⟩ := parts_ok hm hm2
  have hLf := fun a b cap c2 W h1 h2 => refLeft_any a b n cap k c2 (partsL m) Q W h1 hpl (by omega) hpk h2 (by omega)
  rw [hl] at hLf
  rw [← he, join_at hm hm2 hy] at hJ
  simp only [if_neg (show ¬ (y : Int) = -1 by omega)] at hJ
  have hkn : n = k := by rw [← hk', ← he, ← hpl]; unfold remI; rw [List.length_map]
  subst hkn
  have hRj := fun a b cap c2 W h1 h2 => refJoined_any m y a b n cap c2 W hm hm2 hy hpl h1 h2
  rw [he] at hRj hJ
  have hmz : ((m : Int) == 0) = false := by rw [beq_eq_false_iff_ne]; omega
  have hyy : ((y : Int) == (y : Int)) = true := by simp
  have HJ := Lib.hid hJ
  have HP := Lib.hid hP
  have HLf := Lib.hid hLf
  have HRX := Lib.hid hRX
  have HRj := Lib.hid hRj
  clear hJ hP hLf hRX hX2 hpl hpk hp1 hp3 hY hl hm hm2 hRj hy he
  have HN := Lib.hid hnews
  have HLn := Lib.hid hlen
  have HO := Lib.hid hone
  have HXl := Lib.hid hXl
  clear hnews hlen hone hd hw hX hn hc hwf hk' hk hXl
  go_enter Try.func7, Try.ntmps7
  go_wp2_with (at_builtin; refine wpList_append_own _ rfl _ _ 29 rfl w.heap.size 42 i0 (.agg #[.int .i64 0, .int .i64 0]) 2 16 Try.underlying29 hi hz0 hz1 hz2 rfl (by decide) _ _ _ rfl (World.ownsRow_nil _ _ _ _) ad n c0 (flatI Y) rfl HLn.out HN.out HO.out (by unfold maxLen; omega) (by omega) (Nat.le_refl _) ?_; intro v1 w1 hown hgrow _)
  simp only [Nat.zero_add, List.nil_append] at hown
  have hg2 : w.grownBy w1 none := hgrow
  have B1 : Hid (Below w.heap.size w w1) := ⟨hg2.os, hg2.tape, hg2.output, hg2.size, fun k hk => hg2.block k hk (by simp)⟩
  obtain ⟨a1, c1, rfl, hr1⟩ := own_flat hown
  have RX := Lib.hid hr1
  clear hgrow hg2 hown hr1
  go_wp2_with fail
  refine (HL.out _ B1.out).mono ?_
  rintro e w2 ⟨v2, rfl, ho, b2⟩
  have B2 := Lib.hid (b_next B1.out b2)
  clear B1
  replace RX := Lib.hid (RX.out.below b2)
  clear b2
  obtain ⟨a2, c2, rfl, -, hr2⟩ := own_slice ho
  have RL := Lib.hid hr2
  clear ho hr2
  go_wp2_with fail
  refine (HJ.out _ _ _ _ _ (HRX.out _ _ RX.out) RL.out).mono ?_
  rintro e w3 ⟨rfl, b3⟩
  have B3 := Lib.hid (b_next B2.out b3)
  clear B2
  replace RX := Lib.hid (RX.out.below b3)
  replace RL := Lib.hid (RL.out.below b3)
  clear b3
  go_wp2_with fail
  refine (HP.out _ _ _ RX.out).mono ?_
  rintro e w4 ⟨rfl, hq⟩
  have b4 := drew_below hq
  clear hq
  have B4 := Lib.hid (b_next B3.out b4)
  clear B3
  replace RX := Lib.hid (RX.out.below b4)
  replace RL := Lib.hid (RL.out.below b4)
  clear b4
  go_wp2_with fail
  refine (HLf.out _ _ _ _ _ (HRX.out _ _ RX.out) RL.out).mono ?_
  rintro e w5 ⟨rfl, hq⟩
  have b5 := drew_below hq
  clear hq
  have B5 := Lib.hid (b_next B4.out b5)
  clear B4
  replace RX := Lib.hid (RX.out.below b5)
  replace RL := Lib.hid (RL.out.below b5)
  clear b5
  go_wp2_with fail
  refine (HRj.out _ _ _ _ _ (HRX.out _ _ RX.out) RL.out).mono ?_
  rintro e w6 ⟨rfl, hq⟩
  have b6 := drew_below hq
  clear hq
  have B6 := Lib.hid (b_next B5.out b6)
  clear B5
  replace RX := Lib.hid (RX.out.below b6)
  replace RL := Lib.hid (RL.out.below b6)
  clear b6
  go_wp2_with fail
  refine (HA.out _).mono ?_
  rintro e w7 ⟨rfl, b7⟩
  have B7 := Lib.hid (b_next B6.out b7)
  clear B6
  replace RX := Lib.hid (RX.out.below b7)
  replace RL := Lib.hid (RL.out.below b7)
  clear b7
  go_wp2
  go_ret
  exact ⟨rfl, B7.out⟩
theorem walk_ShuffleJoins (pv : Value) (X : List (Int × Int)) (w : World) (hP : PrsIn w pv X) (rv : Value) (row : List Int) (hR : RowIn w rv row) : Calls Try.prog 7 #[pv, rv] w fun e w' => e = .returned (.bool true) ∧ Below w.heap.size w w' := by
  obtain ⟨hw, ⟨c, rfl, rfl⟩ | ⟨ad, c, rfl, hc, hd⟩⟩ := hP
  · exact joins_nil c rv row w hR
  · by_cases h0 : prodX (X.take 8) = 0
    · exact joins_a ad _ c rv row w hR X rfl hc hd hw h0
    · obtain ⟨h1, h2, h3⟩ := prodX_is h0
      cases hl : leftB (partsL (prodX (X.take 8))) (cutL row) with
      | false => exact joins_b ad _ c rv row w hR X rfl hc hd hw _ h1 h2 h3 hl
      | true =>
        obtain ⟨y, hy, he⟩ := left_yes h1 h2 hl
        exact joins_c ad _ c rv row w hR X rfl hc hd hw _ y h1 h2 h3 hl hy he
end Go.Proofs.Ytndbjojjaapeaaa

/- ShuffleJoins: Joined returns the smallest number with the remainders, or ErrArg. Conditions: none (the statement itself takes at most 8 pairs). -/
namespace Go.Proofs.Ytndbjojjaapeaaa
set_option linter.unusedVariables false

namespace lawShuffleJoins
open Go.ChangeShapes Go.WideShapes Go.ChangeAt Go.RowKit
open Go.ChangeMaps (open_string shut_string)

theorem own : ownKnob Try.prog.godebug = none := by kernel_rfl
theorem lay : laidOutB Try.prog = true := by kernel_rfl

set_option maxRecDepth 100000 in
theorem lifted (os : Os) (started : os.Started) (H : Type) (enc : TypeId × Value → H) :
    ReturnsInHanded {} Try.checked os 7 .any (Rows.shuffleJoinsSpec.pre6 enc Try.prog Try.f7 Rows.shuffleJoinsRow.domain false) (Rows.shuffleJoinsSpec.post enc Try.prog Try.f7 false true false false) := by
  refine returnsInHanded_of_change (C := Try.checked) own started (by kernel_rfl) Try.func7
    (ChangeSpec.witness6 (enc := enc) (C := Try.checked) false ⟨#[], #[.slice none 0 0, .slice none 0 0], []⟩ 8 (by kernel_rfl) (by kernel_rfl) (by kernel_rfl) (by kernel_rfl)) ?_
  intro W base args ds gs before hval0 hW hcnd _
  have hval : ∀ (j : Nat) t v, Try.f7.params[j]? = some t → args[j]? = some v → Value.okWide Try.prog W .any base t v := hval0
  have hW' := hW
  obtain ⟨p, q, hA0, hV, rfl, hfz, hnd⟩ := hW
  have hA : DataW.TrodAll enc Try.prog W 0 (fun _ => true) true Try.f7.params.toList args.toList ds p := hA0
  rw [Try.params7] at hA hval
  obtain ⟨v0, vs0, d0, ds0, p0, q0, hargs, rfl, rfl, h0, r0⟩ := trodAll_cons hA
  obtain ⟨v1, vs1, d1, ds1, p1, q1, rfl, rfl, rfl, h1, r1⟩ := trodAll_cons r0
  obtain ⟨rfl, rfl, rfl⟩ := trodAll_nil r1
  obtain rfl : args = #[v0, v1] := by cases args; simp_all
  obtain ⟨rfl, rfl⟩ := trodVars_none hV
  obtain ⟨a0, len0, cap0, rfl⟩ := okWide_slice Try.underlying29 (hval 0 29 v0 rfl rfl)
  have k0 := h0
  have lt0 : ∀ x ∈ p0, x.block < W.heap.size := by obtain ⟨m, hm⟩ := k0; exact DataW.trod_lt m _ _ _ hm
  obtain ⟨z0, w0⟩ : ∃ C, PrsIn W (.slice a0 len0 cap0) C := by
    obtain ⟨fuel, hf⟩ := h0
    exact prsIn_of Try.underlying29 Try.underlying42 Try.underlying3 (by kernel_rfl) (by kernel_rfl) hf
  obtain ⟨a1, len1, cap1, rfl⟩ := okWide_slice Try.underlying22 (hval 1 22 v1 rfl rfl)
  have k1 := h1
  have lt1 : ∀ x ∈ p1, x.block < W.heap.size := by obtain ⟨m, hm⟩ := k1; exact DataW.trod_lt m _ _ _ hm
  obtain ⟨z1, w1⟩ : ∃ C, RowIn W (.slice a1 len1 cap1) C := by
    obtain ⟨fuel, hf⟩ := h1
    exact rowIn_of Try.underlying22 Try.underlying3 (by kernel_rfl) hf
  clear hA0 hval0
  refine (walk_ShuffleJoins _ z0 W w0 _ z1 w1).mono fun e W' ⟨he, bel⟩ => ?_
  subst he
  exact ⟨_, rfl, _, _, _, [], _, [], hW', trodAll_mk1 (shut_bool Try.underlying4 _), (trodAll_cons_mk (Below.trod lay (by kernel_rfl) (of_decide_eq_true (by kernel_rfl)) k0 bel lt0) (trodAll_cons_mk (Below.trod lay (by kernel_rfl) (of_decide_eq_true (by kernel_rfl)) k1 bel lt1) trodAll_mk0)), rfl, bel.frame _, fun h => by cases h⟩

theorem over : Rows.shuffleJoinsRow.holds Try.pinned (OpenSpec.ofChange Rows.shuffleJoinsSpec) :=
  OpenClaim.holds_of_wide 7 Try.f7 rfl rfl rfl rfl rfl rfl rfl ⟨rfl, rfl, rfl, rfl, rfl⟩ rfl rfl rfl rfl rfl (by kernel_rfl) Try.func7 (by kernel_rfl)
    (of_decide_eq_true (by kernel_rfl)) (by unfold Func.isWrapper; first | (rw [if_pos (by decide +kernel)]; kernel_rfl) | (rw [if_neg (by decide +kernel)]; exact ⟨rfl, rfl⟩))
    (fun os started H enc _ => lifted os started H enc)

theorem proved : Rows.ShuffleJoinsSaid := over
end lawShuffleJoins
end Go.Proofs.Ytndbjojjaapeaaa
