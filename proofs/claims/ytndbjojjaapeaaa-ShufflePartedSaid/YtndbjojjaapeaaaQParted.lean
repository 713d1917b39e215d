/- ShuffleParted: a polynomial is a permutation exactly if it is one for each of the prime powers, and the values are joined from those of the prime powers. Conditions: none. -/
import Derived.Test.YtndbjojjaapeaaaQg
import Derived.Test.YtndbjojjaapeaaaQd
import Derived.Deep.AppendLies
import Derived.ShutString
import Derived.Lib.SmallJoins
/- The reference's Product and Permutation. -/
namespace Go.Proofs.Ytndbjojjaapeaaa
set_option linter.unusedVariables false
open Go.RowKit

theorem refPerm_any (a : Option Addr) (n cap : Nat) (F : List Int) (w : World) (hr : Row w a n (intL F)) (hn : n ≤ 100) :
    Calls Try.prog 38 #[.slice a n cap] w fun e w' => e = .returned (.bool (decide ((equalR F).1 < 0))) ∧ ∃ q, w' = w.drewN q := by
  have hE := refEqual_any a n cap F w hr hn
  obtain ⟨x, hx⟩ : ∃ x, (equalR F).1 = x := ⟨_, rfl⟩
  rw [hx] at hE ⊢
  generalize (equalR F).2 = y at hE
  have HE := Lib.hid hE
  clear hE hr hx
  go_enter Try.func38, Try.ntmps38
  go_wp2_with fail
  refine HE.out.mono ?_
  rintro e w1 ⟨rfl, q, rfl⟩
  go_wp2
  go_ret
  exact ⟨rfl, q, rfl⟩
def prevP (X : List (Int × Int)) (k : Nat) : Int := if k = 0 then 0 else (X.getD (k - 1) (0, 0)).1
theorem prevP_next {X : List (Int × Int)} {k : Nat} {p q : Int} (h : X[k]? = some (p, q)) : prevP X (k + 1) = p := by
  unfold prevP
  rw [if_neg (by omega), Nat.add_sub_cancel, List.getD_eq_getElem?_getD, h]; rfl
theorem prod_bad {X : List (Int × Int)} {k M : Nat} {p q : Int} (h : X[k]? = some (p, q)) (hb : ¬ (okP (prevP X k) (p, q) = true ∧ primB p.toNat = true)) : prodS (prevP X k) M (X.drop k) = 0 := by
  rw [List.drop_eq_getElem_cons (List.getElem?_eq_some_iff.1 h).1, (List.getElem?_eq_some_iff.1 h).2]
  show (if _ then _ else _) = _
  exact if_neg hb
theorem prod_step {X : List (Int × Int)} {k M P K : Nat} (h : X[k]? = some ((P : Int), (K : Int))) (hb : okP (prevP X k) ((P : Int), (K : Int)) = true) (hp : primB P = true) : prodS (prevP X k) M (X.drop k) = if 64 < M * P ^ K then 0 else prodS (prevP X (k + 1)) (M * P ^ K) (X.drop (k + 1)) := by
  rw [prevP_next h, List.drop_eq_getElem_cons (List.getElem?_eq_some_iff.1 h).1, (List.getElem?_eq_some_iff.1 h).2]
  show (if _ then _ else _) = _
  exact if_pos ⟨hb, hp⟩
theorem prod_end {X : List (Int × Int)} {n M : Nat} (h : X.length = n) : prodS (prevP X n) M (X.drop n) = if M < 2 then 0 else M := by
  rw [List.drop_of_length_le (by omega)]; rfl
theorem primB_no {P d : Nat} (h2 : 2 ≤ d) (hd : d < P) (h : P % d = 0) : primB P = false := by
  refine Bool.eq_false_iff.2 fun e => primB_is e d h2 hd (Nat.dvd_of_mod_eq_zero h)
theorem primB_yes {P : Nat} (h : ∀ d, 2 ≤ d → d < P → ¬ P % d = 0) : primB P = true := by
  unfold primB
  rw [List.all_eq_true]
  intro d hd
  rw [List.mem_range] at hd
  by_cases h2 : d < 2
  · simp [h2]
  · have := h d (by omega) hd
    simp [this]
theorem okP_yes {prev : Int} {P K : Nat} (h1 : 2 ≤ P) (h2 : P ≤ 64) (h3 : 1 ≤ K) (h4 : K ≤ 6) (h5 : prev < (P : Int)) : okP prev ((P : Int), (K : Int)) = true := by
  unfold okP
  refine decide_eq_true ⟨?_, ?_, ?_, ?_, h5⟩ <;> simp only <;> omega
theorem pq_nums {p q : Int} (x0 : ¬ p < 2) (x1 : ¬ 64 < p) (x2 : ¬ q < 1) (x3 : ¬ 6 < q) : ∃ P K : Nat, p = P ∧ q = K ∧ (2 ≤ P ∧ P ≤ 64 ∧ 1 ≤ K ∧ K ≤ 6) ∧ decide ((P : Int) < 2) = false ∧ decide ((64 : Int) < (P : Int)) = false ∧ decide ((K : Int) < 1) = false ∧ decide ((6 : Int) < (K : Int)) = false := by
  obtain ⟨P, rfl⟩ := Int.eq_ofNat_of_zero_le (show 0 ≤ p by omega)
  obtain ⟨K, rfl⟩ := Int.eq_ofNat_of_zero_le (show 0 ≤ q by omega)
  exact ⟨P, K, rfl, rfl, by omega, decide_eq_false x0, decide_eq_false x1, decide_eq_false x2, decide_eq_false x3⟩
theorem okP_no4 {prev p q : Int} {b : Bool} (h : p ≤ prev) : ¬ (okP prev (p, q) = true ∧ b = true) := fun h' => by
  have h2 := of_decide_eq_true h'.1
  simp only at h2
  omega
theorem k_zero {k : Nat} (h : k = 0) : decide (0 < k) = false := by subst h; rfl
theorem k_pos {k n : Nat} (h : 0 < k) (hk : k ≤ n) (hn : n ≤ 1000) : ∃ k1 : Nat, k - 1 = k1 ∧ IntKind.i64.wrap ((k : Int) - 1) = (k1 : Int) ∧ wrap64 ((k : Int) - 1) = (k1 : Int) ∧ k1 < n ∧ decide (0 < k) = true :=
  ⟨k - 1, rfl, by rw [IntWalk.i64_in _ (by omega)]; omega, by rw [IntWalk.wrap64_in _ (by omega)]; omega, by omega, decide_eq_true h⟩
theorem mul_numP {a b : Nat} (ha : a ≤ 64) (hb : b ≤ 64) : ∃ r : Nat, a * b = r ∧ IntKind.i64.wrap ((a : Int) * (b : Int)) = (r : Int) ∧ wrap64 ((a : Int) * (b : Int)) = (r : Int) := by
  have h : a * b ≤ 64 * 64 := Nat.mul_le_mul ha hb
  have e : (a : Int) * (b : Int) = ((a * b : Nat) : Int) := by simp
  refine ⟨a * b, rfl, ?_, ?_⟩
  · rw [e]; exact IntWalk.i64_in _ (by omega)
  · rw [e]; exact IntWalk.wrap64_in _ (by omega)
theorem pow_big {M P K j : Nat} (hP : 1 ≤ P) (hj : j + 1 ≤ K) (h : 64 < M * P ^ j * P) : 64 < M * P ^ K := by
  obtain ⟨d, rfl⟩ : ∃ d, K = j + 1 + d := ⟨K - (j + 1), by omega⟩
  rw [Nat.pow_add, Nat.pow_succ, ← Nat.mul_assoc, ← Nat.mul_assoc]
  have := Nat.mul_le_mul_left (M * P ^ j * P) (show 1 ≤ P ^ d from Nat.pos_of_ne_zero fun e => by rw [Nat.pow_eq_zero] at e; omega)
  omega
set_option maxRecDepth 100000 in
set_option maxHeartbeats 4000000 in
theorem refProduct_any (a : Option Addr) (n cap : Nat) (X : List (Int × Int)) (w : World) (hr : Row w a (n * 2) (flatI X)) (hX : X.length = n) (hn : n ≤ 1000) :
    Calls Try.prog 54 #[.slice a n cap] w fun e w' => e = .returned (.int .i64 (prodX X : Nat)) ∧ ∃ q, w' = w.drewN q := by
  have hbad := fun (k M : Nat) (p q : Int) => prod_bad (X := X) (k := k) (M := M) (p := p) (q := q)
  have hstep := fun (k M P K : Nat) => prod_step (X := X) (k := k) (M := M) (P := P) (K := K)
  have hend := fun (M : Nat) => prod_end (X := X) (n := n) (M := M) hX
  have h0 : prodS (prevP X 0) 1 (X.drop 0) = prodX X := rfl
  have hpv : ∀ k : Nat, 0 < k → prevP X k = (X.getD (k - 1) (0, 0)).1 := fun k hk => by unfold prevP; rw [if_neg (by omega)]
  generalize prodX X = R at *
  have Hbad := Lib.hid hbad
  have Hstep := Lib.hid hstep
  have Hend := Lib.hid hend
  have H0 := Lib.hid h0
  have Hpv := Lib.hid hpv
  have Hr := Lib.hid hr
  have HX := Lib.hid hX
  clear hbad hstep hend h0 hpv hr hX
  go_enter Try.func54, Try.ntmps54
  go_wp2
  go_loopw [3, 4] (fun mm i wr => ∃ k M q : Nat, k ≤ n ∧ i = .int .i64 k ∧ mm = .int .i64 M ∧ M ≤ 64 ∧ Hid (prodS (prevP X k) M (X.drop k) = R) ∧ wr = w.drewN q) (fun _ i _ => n - (intOf i).toNat)
  case atStart => exact ⟨0, 1, 0, Nat.zero_le _, rfl, rfl, by omega, H0, rfl⟩
  case round =>
    clear H0
    obtain ⟨k, M, q0, hk, rfl, rfl, hM, HP, rfl⟩ := hrel
    by_cases hlt : k < n
    · have hc : (k : Int) < (n : Int) := by omega
      have Hgo := Lib.hid (show k + 1 ≤ n ∧ k < n by omega)
      obtain ⟨⟨p, q⟩, hpq⟩ : ∃ x, X[k]? = some x := ⟨_, List.getElem?_eq_getElem (by have := HX.out; omega)⟩
      obtain ⟨g, rfl, c0, c1⟩ := Hr.out.two hlt hpq
      have hbd := fun h => (Hbad.out k M p q hpq h).symm.trans HP.out
      have hst := fun (P K : Nat) (hp : p = P) (hq : q = K) h1 h2 => ((Hstep.out k M P K (by rw [hpq, hp, hq]) (by rw [← hp, ← hq]; exact h1) h2).symm.trans HP.out)
      have hprev : k = 0 ∨ ∃ u u' : Int, 0 < k ∧ prevP X k = u ∧ w.cell? ⟨g, (k - 1) * 2, none⟩ = some (.int .i64 u) ∧ w.cell? ⟨g, (k - 1) * 2 + 1, none⟩ = some (.int .i64 u') := by
        by_cases hk0 : k = 0
        · exact .inl hk0
        · obtain ⟨⟨u, u'⟩, hu⟩ : ∃ x, X[k - 1]? = some x := ⟨_, List.getElem?_eq_getElem (by have := HX.out; omega)⟩
          obtain ⟨g', e, d0, d1⟩ := Hr.out.two (show k - 1 < n by omega) hu
          simp only [Option.some.injEq, Addr.mk.injEq, and_true] at e
          subst e
          exact .inr ⟨u, u', by omega, by rw [Hpv.out k (by omega), List.getD_eq_getElem?_getD, hu]; rfl, d0, d1⟩
      have Hbd := Lib.hid hbd
      have Hst := Lib.hid hst
      have Hprev := Lib.hid hprev
      clear hbd hst hprev hpq HP
      by_cases x0 : p < 2
      · have y0 : decide (p < 2) = true := decide_eq_true x0
        have HR := Lib.hid (Hbd.out (fun h => by have := of_decide_eq_true h.1; simp only at this; omega))
        clear Hbd Hst Hprev
        go_wp2
        go_region
        go_wp2
        go_ret
        exact ⟨by rw [← HR.out]; rfl, _, by first | rfl | exact World.drewN_drewN _ _ _ | trivial⟩
      have y0 : decide (p < 2) = false := decide_eq_false x0
      by_cases x1 : 64 < p
      · have y1 : decide (64 < p) = true := decide_eq_true x1
        have HR := Lib.hid (Hbd.out (fun h => by have := of_decide_eq_true h.1; simp only at this; omega))
        clear Hbd Hst Hprev
        go_wp2
        go_region
        go_wp2
        go_ret
        exact ⟨by rw [← HR.out]; rfl, _, by first | rfl | exact World.drewN_drewN _ _ _ | trivial⟩
      have y1 : decide (64 < p) = false := decide_eq_false x1
      by_cases x2 : q < 1
      · have y2 : decide (q < 1) = true := decide_eq_true x2
        have HR := Lib.hid (Hbd.out (fun h => by have := of_decide_eq_true h.1; simp only at this; omega))
        clear Hbd Hst Hprev
        go_wp2
        go_region
        go_wp2
        go_ret
        exact ⟨by rw [← HR.out]; rfl, _, by first | rfl | exact World.drewN_drewN _ _ _ | trivial⟩
      have y2 : decide (q < 1) = false := decide_eq_false x2
      by_cases x3 : 6 < q
      · have y3 : decide (6 < q) = true := decide_eq_true x3
        have HR := Lib.hid (Hbd.out (fun h => by have := of_decide_eq_true h.1; simp only at this; omega))
        clear Hbd Hst Hprev
        go_wp2
        go_region
        go_wp2
        go_ret
        exact ⟨by rw [← HR.out]; rfl, _, by first | rfl | exact World.drewN_drewN _ _ _ | trivial⟩
      have y3 : decide (6 < q) = false := decide_eq_false x3
      clear y0 y1 y2 y3
      obtain ⟨P, K, rfl, rfl, hP, y0, y1, y2, y3⟩ := pq_nums x0 x1 x2 x3
      clear x0 x1 x2 x3
      rcases Hprev.out with hk0 | ⟨u, u', hk0, hpu, d0, d1⟩
      · have zz := k_zero hk0
        have hpv : prevP X k < (P : Int) := by
          have : prevP X k = 0 := by unfold prevP; exact if_pos hk0
          rw [this]; clear y0 y1 y2 y3 zz; omega
        clear hk0
        have Hok := Lib.hid (okP_yes (prev := prevP X k) hP.1 hP.2.1 hP.2.2.1 hP.2.2.2 hpv)
        clear hpv
        clear Hprev
        go_wp2
        go_region
        go_wp2
        clear y0 y1 y2 y3 zz
        go_loopw [7] (fun d wr => ∃ d' q : Nat, 2 ≤ d' ∧ d' ≤ P ∧ d = .int .i64 d' ∧ Hid (∀ e, 2 ≤ e → e < d' → ¬ P % e = 0) ∧ wr = w.drewN q) (fun d _ => P - (intOf d).toNat)
        case atStart => exact ⟨2, q0 + 1, Nat.le_refl _, hP.1, rfl, fun e h1 h2 => absurd h2 (Nat.not_lt.2 h1), rfl⟩
        case round =>
          obtain ⟨d, q2, hd2, hdP, rfl, HD, rfl⟩ := hrel
          by_cases hld : d < P
          · have hc3 : (d : Int) < (P : Int) := by omega
            have hnum := rem_all (m := P) (p := d) hP.2.1
            obtain ⟨z1, z2⟩ := zero_no hd2
            obtain ⟨t, ht⟩ : ∃ t, P % d = t := ⟨_, rfl⟩
            have Hnum : Hid (Int.tmod (P : Int) (d : Int) = (t : Int) ∧ IntKind.i64.wrap (t : Int) = (t : Int) ∧ wrap64 (t : Int) = (t : Int)) := by
              obtain ⟨t', h1, h2⟩ := hnum
              have e : t' = t := h1.symm.trans ht
              subst e
              exact h2
            clear hnum
            by_cases h0 : t = 0
            · have hz : ((t : Int) == 0) = true := nat_zero h0
              have HR := Lib.hid (Hbd.out (fun h => by have h2 := h.2; rw [Int.toNat_natCast, primB_no hd2 hld (ht.trans h0)] at h2; cases h2))
              clear Hbd Hst Hok HD ht h0 hP hd2 hdP hld
              obtain ⟨n1, n2, n3⟩ := Hnum.out
              go_wp2
              go_ret
              exact ⟨by rw [← HR.out]; rfl, _, by first | rfl | exact World.drewN_drewN _ _ _ | trivial⟩
            · have hz : ((t : Int) == 0) = false := by rw [beq_eq_false_iff_ne]; omega
              have Hnx := Lib.hid (show ∀ e, 2 ≤ e → e < d + 1 → ¬ P % e = 0 from fun e h1 h2 => by
                by_cases e1 : e = d
                · subst e1; rw [ht]; exact h0
                · exact HD.out e h1 (by omega))
              have Hg2 := Lib.hid (show 2 ≤ d + 1 ∧ d + 1 ≤ P ∧ d < P ∧ d ≤ 64 by omega)
              have hd64 : d ≤ 64 := Hg2.out.2.2.2
              clear HD ht h0 hdP hld hP hd2
              obtain ⟨n1, n2, n3⟩ := Hnum.out
              clear Hnum
              go_wp2
              go_roundw
              case rel => exact ⟨d + 1, _, Hg2.out.1, Hg2.out.2.1, by clear n1 n2 n3; go_num, Hnx.out, by first | rfl | exact World.drewN_drewN _ _ _ | trivial⟩
              case measure => clear n1 n2 n3; simp [intOf]; have := Hg2.out; omega
          · obtain rfl : d = P := by omega
            have hc3 : ¬ (d : Int) < (d : Int) := by omega
            have hpr : primB d = true := primB_yes HD.out
            have Hst2 := Lib.hid (Hst.out d K rfl rfl Hok.out hpr)
            clear HD hpr Hbd Hst Hok
            go_wp2
            go_loopw [3, 8] (fun mm j wr => ∃ j' M' q : Nat, j' ≤ K ∧ j = .int .i64 j' ∧ mm = .int .i64 M' ∧ Hid (M * d ^ j' = M') ∧ M' ≤ 64 ∧ wr = w.drewN q) (fun _ j _ => K - (intOf j).toNat)
            case atStart => exact ⟨0, M, _, Nat.zero_le _, rfl, rfl, by unfold Hid; rw [Nat.pow_zero, Nat.mul_one], hM, by first | rfl | exact World.drewN_drewN _ _ _ | trivial⟩
            case round =>
              obtain ⟨j, M', q3, hj, rfl, rfl, HM', hM64, rfl⟩ := hrel
              by_cases hlj : j < K
              · have hc4 : (j : Int) < (K : Int) := by omega
                obtain ⟨r, hr', n1, n2⟩ := mul_numP hM64 hP.2.1
                have N1 := Lib.hid n1
                have N2 := Lib.hid n2
                clear n1 n2
                have Hr' := Lib.hid hr'
                clear hr'
                have hd1 : 1 ≤ d := by omega
                have hj1 : j + 1 ≤ K := by omega
                have Hg3 := Lib.hid (show j + 1 ≤ K ∧ j < K by omega)
                by_cases hbig : 64 < r
                · have hb : (64 : Int) < (r : Int) := by omega
                  have h := Hst2.out
                  rw [if_pos (pow_big hd1 hj1 (by rw [HM'.out, Hr'.out]; exact hbig))] at h
                  have HR := Lib.hid h
                  have n1 := N1.out
                  have n2 := N2.out
                  clear h Hst2 HM' Hr' N1 N2
                  go_wp2
                  go_ret
                  exact ⟨by rw [← HR.out]; rfl, _, by first | rfl | exact World.drewN_drewN _ _ _ | trivial⟩
                · have hb : ¬ (64 : Int) < (r : Int) := by omega
                  have Hnx := Lib.hid (show M * d ^ (j + 1) = r by rw [Nat.pow_succ, ← Nat.mul_assoc, HM'.out, Hr'.out])
                  have Hr64 := Lib.hid (show r ≤ 64 by omega)
                  have n1 := N1.out
                  have n2 := N2.out
                  clear HM' Hr' hj hlj hd1 hj1 N1 N2
                  go_wp2
                  go_roundw
                  case rel => exact ⟨j + 1, r, _, Hg3.out.1, by go_num, by go_num, Hnx.out, Hr64.out, by first | rfl | exact World.drewN_drewN _ _ _ | trivial⟩
                  case measure => simp [intOf]; have := Hg3.out; omega
              · obtain rfl : j = K := by omega
                have hc4 : ¬ (j : Int) < (j : Int) := by omega
                have h := Hst2.out
                rw [HM'.out, if_neg (by omega)] at h
                have Hnx := Lib.hid h
                have H64 := Lib.hid hM64
                clear h Hst2 HM'
                go_wp2
                go_roundw
                case rel => exact ⟨k + 1, M', _, Hgo.out.1, by go_num, by go_num, H64.out, Hnx.out, by first | rfl | exact World.drewN_drewN _ _ _ | trivial⟩
                case measure => simp [intOf]; have := Hgo.out; omega
      · obtain ⟨k1, hk1, n9, n8, hk1n, zz⟩ := k_pos hk0 hk hn
        rw [hk1] at d0 d1
        by_cases x4 : (P : Int) ≤ u
        · have y4 : decide ((P : Int) ≤ u) = true := decide_eq_true x4
          have HR := Lib.hid (Hbd.out (okP_no4 (by rw [hpu]; exact x4)))
          clear Hbd Hst Hprev
          go_wp2
          go_region
          go_wp2
          go_ret
          exact ⟨by rw [← HR.out]; rfl, _, by first | rfl | exact World.drewN_drewN _ _ _ | trivial⟩
        · have y4 : decide ((P : Int) ≤ u) = false := decide_eq_false x4
          have hpv : prevP X k < (P : Int) := by rw [hpu]; clear y0 y1 y2 y3 y4 zz n9 n8; omega
          clear hk0 hpu
          have Hok := Lib.hid (okP_yes (prev := prevP X k) hP.1 hP.2.1 hP.2.2.1 hP.2.2.2 hpv)
          clear hpv
          clear Hprev
          go_wp2
          go_region
          go_wp2
          clear y0 y1 y2 y3 zz y4 n9 n8
          go_loopw [7] (fun d wr => ∃ d' q : Nat, 2 ≤ d' ∧ d' ≤ P ∧ d = .int .i64 d' ∧ Hid (∀ e, 2 ≤ e → e < d' → ¬ P % e = 0) ∧ wr = w.drewN q) (fun d _ => P - (intOf d).toNat)
          case atStart => exact ⟨2, q0 + 1, Nat.le_refl _, hP.1, rfl, fun e h1 h2 => absurd h2 (Nat.not_lt.2 h1), rfl⟩
          case round =>
            obtain ⟨d, q2, hd2, hdP, rfl, HD, rfl⟩ := hrel
            by_cases hld : d < P
            · have hc3 : (d : Int) < (P : Int) := by omega
              have hnum := rem_all (m := P) (p := d) hP.2.1
              obtain ⟨z1, z2⟩ := zero_no hd2
              obtain ⟨t, ht⟩ : ∃ t, P % d = t := ⟨_, rfl⟩
              have Hnum : Hid (Int.tmod (P : Int) (d : Int) = (t : Int) ∧ IntKind.i64.wrap (t : Int) = (t : Int) ∧ wrap64 (t : Int) = (t : Int)) := by
                obtain ⟨t', h1, h2⟩ := hnum
                have e : t' = t := h1.symm.trans ht
                subst e
                exact h2
              clear hnum
              by_cases h0 : t = 0
              · have hz : ((t : Int) == 0) = true := nat_zero h0
                have HR := Lib.hid (Hbd.out (fun h => by have h2 := h.2; rw [Int.toNat_natCast, primB_no hd2 hld (ht.trans h0)] at h2; cases h2))
                clear Hbd Hst Hok HD ht h0 hP hd2 hdP hld
                obtain ⟨n1, n2, n3⟩ := Hnum.out
                go_wp2
                go_ret
                exact ⟨by rw [← HR.out]; rfl, _, by first | rfl | exact World.drewN_drewN _ _ _ | trivial⟩
              · have hz : ((t : Int) == 0) = false := by rw [beq_eq_false_iff_ne]; omega
                have Hnx := Lib.hid (show ∀ e, 2 ≤ e → e < d + 1 → ¬ P % e = 0 from fun e h1 h2 => by
                  by_cases e1 : e = d
                  · subst e1; rw [ht]; exact h0
                  · exact HD.out e h1 (by omega))
                have Hg2 := Lib.hid (show 2 ≤ d + 1 ∧ d + 1 ≤ P ∧ d < P ∧ d ≤ 64 by omega)
                have hd64 : d ≤ 64 := Hg2.out.2.2.2
                clear HD ht h0 hdP hld hP hd2
                obtain ⟨n1, n2, n3⟩ := Hnum.out
                clear Hnum
                go_wp2
                go_roundw
                case rel => exact ⟨d + 1, _, Hg2.out.1, Hg2.out.2.1, by clear n1 n2 n3; go_num, Hnx.out, by first | rfl | exact World.drewN_drewN _ _ _ | trivial⟩
                case measure => clear n1 n2 n3; simp [intOf]; have := Hg2.out; omega
            · obtain rfl : d = P := by omega
              have hc3 : ¬ (d : Int) < (d : Int) := by omega
              have hpr : primB d = true := primB_yes HD.out
              have Hst2 := Lib.hid (Hst.out d K rfl rfl Hok.out hpr)
              clear HD hpr Hbd Hst Hok
              go_wp2
              go_loopw [3, 8] (fun mm j wr => ∃ j' M' q : Nat, j' ≤ K ∧ j = .int .i64 j' ∧ mm = .int .i64 M' ∧ Hid (M * d ^ j' = M') ∧ M' ≤ 64 ∧ wr = w.drewN q) (fun _ j _ => K - (intOf j).toNat)
              case atStart => exact ⟨0, M, _, Nat.zero_le _, rfl, rfl, by unfold Hid; rw [Nat.pow_zero, Nat.mul_one], hM, by first | rfl | exact World.drewN_drewN _ _ _ | trivial⟩
              case round =>
                obtain ⟨j, M', q3, hj, rfl, rfl, HM', hM64, rfl⟩ := hrel
                by_cases hlj : j < K
                · have hc4 : (j : Int) < (K : Int) := by omega
                  obtain ⟨r, hr', n1, n2⟩ := mul_numP hM64 hP.2.1
                  have N1 := Lib.hid n1
                  have N2 := Lib.hid n2
                  clear n1 n2
                  have Hr' := Lib.hid hr'
                  clear hr'
                  have hd1 : 1 ≤ d := by omega
                  have hj1 : j + 1 ≤ K := by omega
                  have Hg3 := Lib.hid (show j + 1 ≤ K ∧ j < K by omega)
                  by_cases hbig : 64 < r
                  · have hb : (64 : Int) < (r : Int) := by omega
                    have h := Hst2.out
                    rw [if_pos (pow_big hd1 hj1 (by rw [HM'.out, Hr'.out]; exact hbig))] at h
                    have HR := Lib.hid h
                    have n1 := N1.out
                    have n2 := N2.out
                    clear h Hst2 HM' Hr' N1 N2
                    go_wp2
                    go_ret
                    exact ⟨by rw [← HR.out]; rfl, _, by first | rfl | exact World.drewN_drewN _ _ _ | trivial⟩
                  · have hb : ¬ (64 : Int) < (r : Int) := by omega
                    have Hnx := Lib.hid (show M * d ^ (j + 1) = r by rw [Nat.pow_succ, ← Nat.mul_assoc, HM'.out, Hr'.out])
                    have Hr64 := Lib.hid (show r ≤ 64 by omega)
                    have n1 := N1.out
                    have n2 := N2.out
                    clear HM' Hr' hj hlj hd1 hj1 N1 N2
                    go_wp2
                    go_roundw
                    case rel => exact ⟨j + 1, r, _, Hg3.out.1, by go_num, by go_num, Hnx.out, Hr64.out, by first | rfl | exact World.drewN_drewN _ _ _ | trivial⟩
                    case measure => simp [intOf]; have := Hg3.out; omega
                · obtain rfl : j = K := by omega
                  have hc4 : ¬ (j : Int) < (j : Int) := by omega
                  have h := Hst2.out
                  rw [HM'.out, if_neg (by omega)] at h
                  have Hnx := Lib.hid h
                  have H64 := Lib.hid hM64
                  clear h Hst2 HM'
                  go_wp2
                  go_roundw
                  case rel => exact ⟨k + 1, M', _, Hgo.out.1, by go_num, by go_num, H64.out, Hnx.out, by first | rfl | exact World.drewN_drewN _ _ _ | trivial⟩
                  case measure => simp [intOf]; have := Hgo.out; omega
    · obtain rfl : k = n := by omega
      have hc : ¬ (k : Int) < (k : Int) := by omega
      have h := (Hend.out M).symm.trans HP.out
      clear HP
      by_cases hM2 : M < 2
      · have hb : (M : Int) < 2 := by omega
        rw [if_pos hM2] at h
        have HR := Lib.hid h
        clear h
        go_wp2
        go_ret
        exact ⟨by rw [← HR.out]; rfl, _, rfl⟩
      · have hb : ¬ (M : Int) < 2 := by omega
        rw [if_neg hM2] at h
        have HR := Lib.hid h
        clear h
        go_wp2
        go_ret
        exact ⟨by rw [← HR.out]; rfl, _, rfl⟩
end Go.Proofs.Ytndbjojjaapeaaa

/- The walk of Parted. -/
namespace Go.Proofs.Ytndbjojjaapeaaa
set_option linter.unusedVariables false
open Go.RowKit

def allN (P : List Int) (L : List (Nat × Nat)) (k : Nat) : Bool := (L.take k).all fun pk => decide ((equalR (valuesL (powN pk.1 pk.2) P)).1 < 0)
theorem allN_step {P : List Int} {L : List (Nat × Nat)} {k p e : Nat} (h : L[k]? = some (p, e)) : allN P L (k + 1) = (allN P L k && decide ((equalR (valuesL (powN p e) P)).1 < 0)) := by
  unfold allN
  rw [List.take_add_one, h, List.all_append]
  simp
theorem equalR_neg (F : List Int) : (equalR F).1 < 0 ↔ (equalR F).1 = -1 := by
  unfold equalR
  have h : ∀ n r k, (eqF F n r k).1 = -1 ∨ 0 ≤ (eqF F n r k).1 := by
    intro n r
    induction r with
    | zero => exact fun k => .inl rfl
    | succ r ih =>
      intro k
      unfold eqF
      split
      · exact .inr (Int.natCast_nonneg _)
      · exact ih (k + 1)
  rcases h F.length F.length 0 with h | h <;> omega
theorem allN_end {m : Nat} (hm : 2 ≤ m) (hm2 : m ≤ 64) (P : List Int) {n : Nat} (hn : (partsL m).length = n) : allN P (partsL m) n = decide ((equalR (valuesL m P)).1 = -1) := by
  rw [Bool.eq_iff_iff, decide_eq_true_eq, perm_parts hm hm2]
  unfold allN powL
  rw [List.take_of_length_le (by omega), List.all_eq_true]
  constructor
  · intro h q hq
    obtain ⟨pk, hpk, rfl⟩ := List.mem_map.1 hq
    exact (equalR_neg _).1 (of_decide_eq_true (h pk hpk))
  · intro h pk hpk
    exact decide_eq_true ((equalR_neg _).2 (h _ (List.mem_map.2 ⟨pk, hpk, rfl⟩)))
theorem join_at {m y : Nat} (hm : 2 ≤ m) (hm2 : m ≤ 64) (hy : y < m) : joinN (partsL m) (remI y (partsL m)) m = (y : Int) := by
  unfold joinN
  rcases firstN_is (P := fun n => decide (remI n (partsL m) = remI y (partsL m))) m 0 with ⟨_, h⟩ | ⟨j, h1, _, h2, h3, _⟩
  · have := h y (Nat.zero_le _) (by omega)
    simp at this
  · rw [h1]
    have h4 := of_decide_eq_true h3
    rw [crt_uniq hm hm2 (a := j) (b := y) (by omega) hy fun q hq => ?_]
    obtain ⟨pk, hpk, rfl⟩ := List.mem_map.1 hq
    obtain ⟨i, hi⟩ := List.mem_iff_getElem?.1 hpk
    have h5 := congrArg (fun l : List Int => l[i]?) h4
    unfold remI at h5
    simp only [List.getElem?_map, hi, Option.map_some, Option.some.injEq] at h5
    exact Int.ofNat.inj h5
/-- what the walk wants to know -/
structure PaW (x at' : Int) (P F : List Int) (m z y : Nat) : Prop where
  m2 : 2 ≤ m
  m64 : m ≤ 64
  w2 : IntKind.i64.wrap (2 + (modV x 63 : Int)) = (m : Int)
  pol : polyB m P = true
  val : valuesL m P = F
  zz : z = modV at' m
  zm : z < m
  yy : F.getD z 0 = (y : Int)
  ym : y < m
theorem paW (x at' : Int) (row : List Int) : ∃ F m z y, PaW x at' (tamL m row) F m z y := by
  have hr := modV_lt x 63 (by omega)
  obtain ⟨m, hm⟩ : ∃ m, modV x 63 + 2 = m := ⟨_, rfl⟩
  have hz := modV_lt at' m (by omega)
  have hy := poly_in (show 1 ≤ m by omega) (tamL m row) ((modV at' m : Nat) : Int)
  refine ⟨valuesL m (tamL m row), m, modV at' m, (polyV m (tamL m row) ((modV at' m : Nat) : Int)).toNat, by omega, by omega, by rw [IntWalk.i64_in _ (by omega)]; omega, tamL_poly (by omega) (by omega) row, rfl, rfl, hz, ?_, by omega⟩
  rw [valuesL_get m _ hz]; omega

set_option maxRecDepth 100000 in
set_option maxHeartbeats 8000000 in
theorem parted_walk (x at' : Int) (pv : Value) (row F : List Int) (m z y : Nat) (w : World) (hP : RowIn w pv row) (h : PaW x at' (tamL m row) F m z y) : Calls Try.prog 11 #[.int .i64 x, pv, .int .i64 at'] w fun e w' => e = .returned (.bool true) ∧ Below w.heap.size w w' := by
  obtain ⟨i0, hi, hz0, hz1, hz2⟩ := info_parts info_int
  obtain ⟨hm, hm2, w2, hpol, hval, hzz, hzm, hyy, hym⟩ := h
  have HM := Lib.hid (mod_val x 63 w (by omega) (by omega))
  have HTP := Lib.hid (tame_in m pv row w (by omega) hm2 hP)
  have hZ := fun W => mod_val at' m W (by omega) (by omega)
  rw [← hzz] at hZ
  have HZ := Lib.hid hZ
  obtain ⟨hp12, hpin⟩ := tamL_in (m := m) (by omega) row
  generalize modV x 63 = r at *
  generalize tamL m row = P at *
  obtain ⟨n, hn⟩ : ∃ n, P.length = n := ⟨_, rfl⟩
  rw [hn] at HTP hp12
  have hFz : F.getD z 0 = polyV m P (z : Int) := by rw [← hval, valuesL_get m P hzm]
  have HV := Lib.hid fun a cap W hW => Values_yes m a n cap P W hW hpol
  have HPm := Lib.hid fun a cap W hW => Permutes_yes m a n cap P W hW hpol
  rw [hval] at HV HPm
  have HSp := Lib.hid fun a cap W hW => Split_yes m a n cap P W hW hpol
  have hPr := fun a cap W hW => refProduct_any a (partsL m).length cap (castP (partsL m)) W hW (castP_length _) (by have := (parts_ok hm hm2).2.2; omega)
  simp only [flatI_cast, prod_at hm hm2 rfl] at hPr
  have hJ := fun a b cap c2 W h1 h2 => Joined_yes m a b (partsL m).length cap (partsL m).length c2 (remI y (partsL m)) W h1 rfl hm hm2 h2 (by have := (parts_ok hm hm2).2.2; omega)
  rw [join_at hm hm2 hym] at hJ
  simp only [if_neg (show ¬ (y : Int) = -1 by omega)] at hJ
  have hAll := allN_end hm hm2 P (n := (partsL m).length) rfl
  rw [hval] at hAll
  obtain ⟨hpk, q2, q3⟩ := parts_ok hm hm2
  have hdv : ∀ (k p e : Nat), (partsL m)[k]? = some (p, e) → m % powN p e = 0 := fun k p e h => (powL_facts hm hm2 (powN p e) (List.mem_map.2 ⟨(p, e), List.mem_of_getElem? h, rfl⟩)).1
  have hlk : ∀ (k p e : Nat), (partsL m)[k]? = some (p, e) → (valuesL (powN p e) P).getD (z % powN p e) 0 = ((y % powN p e : Nat) : Int) := fun k p e h => by
    have h2 := (hpk k (p, e) h).2.2.1
    simp only at h2
    rw [valuesL_get _ P (Nat.mod_lt _ (by omega)), ← poly_dvd (hdv k p e h), ← hFz, hyy, Int.natCast_emod]
  have hsp : ∀ (k p e : Nat), (partsL m)[k]? = some (p, e) → (spL m P)[k]? = some (valuesL (powN p e) P) := fun j p e h => by unfold spL; rw [List.getElem?_map, h]; rfl
  have hspl : (spL m P).length = (partsL m).length := by unfold spL; rw [List.length_map]
  have htk : ∀ (k p e : Nat), (partsL m)[k]? = some (p, e) → (remI y (partsL m)).take (k + 1) = (remI y (partsL m)).take k ++ [((y % powN p e : Nat) : Int)] := fun k p e hk => by
    unfold remI
    rw [List.take_add_one, List.getElem?_map, hk]; rfl
  have hml : (remI y (partsL m)).take (partsL m).length = remI y (partsL m) := List.take_of_length_le (by simp [remI])
  have hst := fun (k p e : Nat) => allN_step (P := P) (L := partsL m) (k := k) (p := p) (e := e)
  have hal0 : allN P (partsL m) 0 = true := rfl
  have hPw := fun (p e : Nat) W (h1 : p ≤ 64) (h2 : e ≤ 6) => refPower_any p e W h1 h2
  generalize remI y (partsL m) = R at *
  generalize spL m P = Ls at *
  generalize allN P (partsL m) = AL at *
  generalize partsL m = L at *
  obtain ⟨np, hnp⟩ : ∃ n, L.length = n := ⟨_, rfl⟩
  rw [hnp] at hPr hJ hAll hspl q2 q3 hml HSp
  generalize (equalR F).1 = X1 at *
  generalize (equalR F).2 = X2 at *
  have hFc : ∀ (a : Option Addr) W, Row W a m (intL F) → ∃ g, a = some ⟨g, 0, none⟩ ∧ W.cell? ⟨g, z, none⟩ = some (.int .i64 (y : Int)) := fun a W h => by
    obtain ⟨g, h1, h2⟩ := h.int hzm
    rw [hyy] at h2
    exact ⟨g, h1, h2⟩
  have HPr := Lib.hid hPr
  have HJ := Lib.hid hJ
  have HAll := Lib.hid hAll
  have Hpk := Lib.hid hpk
  have Hlk := Lib.hid hlk
  have Hsp := Lib.hid hsp
  have Htk := Lib.hid htk
  have Hml := Lib.hid hml
  have Hst := Lib.hid hst
  have Hal0 := Lib.hid hal0
  have Hspl := Lib.hid hspl
  have Hnp := Lib.hid hnp
  have Hn1 := Lib.hid (show 0 < np by omega)
  have Hzm := Lib.hid (show z < m ∧ m ≤ 64 by omega)
  have HFc := Lib.hid hFc
  have HA := Lib.hid fun w => awake_any w
  have HPw := Lib.hid hPw
  have hzi : (z : Int) < (m : Int) := by omega
  clear hZ hval hpol hpin hn hPr hJ hAll hpk hdv hlk hsp htk hml hst hal0 hspl hnp hFc hPw hzz hyy hym hFz hP q2
  go_enter Try.func11, Try.ntmps11
  go_wp2_with fail
  refine (HM.out).mono ?_
  rintro e w1 ⟨rfl, hw⟩
  subst w1
  go_wp2_with fail
  refine (HTP.out).mono ?_
  rintro e w2 ⟨v2, rfl, ho, b2⟩
  have B2 := Lib.hid b2
  clear b2
  obtain ⟨a1, c1, hv, hc1, r2⟩ := own_slice ho
  subst v2
  have RL := Lib.hid r2
  clear ho r2
  go_wp2_with fail
  refine (HV.out _ _ _ RL.out).mono ?_
  rintro e w3 ⟨v3, rfl, ho, b3⟩
  have B3 := Lib.hid (b_next B2.out b3)
  clear B2
  replace RL := Lib.hid (RL.out.below b3)
  clear b3
  obtain ⟨a2, c2, hv, hc2, r3⟩ := own_slice ho
  subst v3
  have RF := Lib.hid r3
  clear ho r3
  go_wp2_with fail
  refine (HPm.out _ _ _ RL.out).mono ?_
  rintro e w4 ⟨rfl, b4⟩
  have B4 := Lib.hid (b_next B3.out b4)
  clear B3
  replace RL := Lib.hid (RL.out.below b4)
  replace RF := Lib.hid (RF.out.below b4)
  clear b4
  go_wp2_with fail
  refine (HSp.out _ _ _ RL.out).mono ?_
  rintro e wS ⟨pv', fv, rfl, op, hl, bS⟩
  obtain ⟨pa, pc, rfl, hpc⟩ := own_prs op
  obtain ⟨g1, rfl, _⟩ := hpc Hn1.out
  obtain ⟨la, lc, hfv, _, _, htb⟩ := hl.tbl
  rw [Hspl.out] at hfv
  subst hfv
  have RPa := Lib.hid (row_pairs op Hn1.out)
  have TL := Lib.hid htb
  clear op hl hpc htb
  have B5 := Lib.hid (b_next B4.out bS)
  clear B4
  replace RL := Lib.hid (RL.out.below bS)
  replace RF := Lib.hid (RF.out.below bS)
  clear bS
  go_wp2_with fail
  refine (HPr.out _ _ _ RPa.out).mono ?_
  rintro e w6 ⟨rfl, hq⟩
  have b6 := drew_below hq
  clear hq
  have B6 := Lib.hid (b_next B5.out b6)
  clear B5
  replace RL := Lib.hid (RL.out.below b6)
  replace RF := Lib.hid (RF.out.below b6)
  replace RPa := Lib.hid (RPa.out.below b6)
  replace TL := Lib.hid (TL.out.below b6)
  clear b6
  go_wp2_with fail
  refine (HZ.out _).mono ?_
  rintro e w7 ⟨rfl, hw⟩
  subst w7
  go_wp2
  generalize w6 = WQ at *
  have BQ := Lib.hid B6.out
  have O0 : Hid (WQ.ownsRow WQ.heap.size 3 1 (.slice none 0 0) 0 (intL (R.take 0))) := World.ownsRow_nil _ _ _ _
  clear HM HTP HV HPm HSp HPr HZ RL B6
  go_loopw [17, 18, 19] (fun ab v i wr => ∃ (k : Nat) (b : Bool), k ≤ np ∧ i = .int .i64 k ∧ ab = .bool b ∧ Hid (AL k = b) ∧ Hid (wr.ownsRow WQ.heap.size 3 1 v k (intL (R.take k))) ∧ Hid (Below WQ.heap.size WQ wr)) (fun _ _ i _ => np - (intOf i).toNat)
  case atStart => exact ⟨0, true, Nat.zero_le _, rfl, rfl, Hal0, O0, Below.refl _ _⟩
  case round =>
    clear O0 Hal0
    obtain ⟨k, b, hk, rfl, rfl, HAb, HO, HB⟩ := hrel
    obtain ⟨a5, c5, hv5, -⟩ := Row.of_own HO.out
    subst hv5
    by_cases hlt : k < np
    · have hc : (k : Int) < (np : Int) := by omega
      obtain ⟨⟨p, e⟩, hpe⟩ : ∃ pk, L[k]? = some pk := ⟨_, List.getElem?_eq_getElem (by have := Hnp.out; omega)⟩
      obtain ⟨x1, x2, x3, x4⟩ := Hpk.out k (p, e) hpe
      have hline := Hsp.out k p e hpe
      have hlk := Hlk.out k p e hpe
      have htk := Htk.out k p e hpe
      have hst := Hst.out k p e hpe
      simp only at x1 x2 x3 x4
      have hPw := fun W => HPw.out p e W x1 x2
      have hfr := valuesL_in (m := powN p e) (by omega) P
      generalize powN p e = q at *
      have hlen := valuesL_len q P
      generalize valuesL q P = ln at *
      obtain ⟨gl, ra, rc, e1, hgl, c1', _, hrow⟩ := TL.out.row hline
      subst e1
      rw [hlen] at c1' hrow
      have hFn := fun a cap W hW => refFunc_any (q : Int) a q cap ln W hW (by omega)
      have hfq : (decide ((q : Int) = (q : Int)) && remB q ln) = true := by
        rw [decide_eq_true rfl, Bool.true_and]
        unfold remB
        rw [List.all_eq_true]
        exact fun v hv => decide_eq_true (hfr v hv)
      rw [hfq] at hFn
      have hPe := fun a cap W hW => refPerm_any a q cap ln W hW (by omega)
      obtain ⟨pb, hpb⟩ : ∃ pb, decide ((equalR ln).1 < 0) = pb := ⟨_, rfl⟩
      rw [hpb] at hPe hst
      have Hgo := Lib.hid (show k + 1 ≤ np ∧ k < np ∧ k ≤ 3 by omega)
      have hq0 : ¬ q = 0 := by omega
      have hzq : z % q < q := Nat.mod_lt _ (Nat.pos_of_ne_zero hq0)
      have hz64 : z ≤ 64 := by have := Hzm.out; omega
      have hnum := Lib.hid (rem_num2 (n := z) (q := q) hz64 x3 x4)
      obtain ⟨j, hj⟩ : ∃ j, z % q = j := ⟨_, rfl⟩
      have Hnum : Hid (Int.tmod (z : Int) (q : Int) = (j : Int) ∧ IntKind.i64.wrap (j : Int) = (j : Int) ∧ wrap64 (j : Int) = (j : Int) ∧ ¬ (q : Int) = 0 ∧ ((q : Int) == 0) = false ∧ ¬ q = 0 ∧ (j : Int) < (q : Int)) := by
        obtain ⟨j', h1, _, h2⟩ := hnum.out
        have e : j' = j := h1.symm.trans hj
        subst e
        exact ⟨h2.1, h2.2.1, h2.2.2.1, h2.2.2.2.1, h2.2.2.2.2, hq0, Int.ofNat_lt.2 (hj ▸ hzq)⟩
      have hjq : j < q := hj ▸ hzq
      clear hnum hzq hz64 hq0
      rw [hj] at hlk
      obtain ⟨rb, rfl, hcj⟩ := hrow.int hjq
      rw [hlk] at hcj
      obtain ⟨u, hu⟩ : ∃ u, y % q = u := ⟨_, rfl⟩
      rw [hu] at htk hcj
      have hrbl : rb < WQ.heap.size := World.block_lt_of_cell? _ _ hcj
      have hcells : ∀ W, Below WQ.heap.size WQ W → W.cell? ⟨gl, k, none⟩ = some (.slice (some ⟨rb, 0, none⟩) q rc) ∧ W.cell? ⟨rb, j, none⟩ = some (.int .i64 (u : Int)) ∧ Row W (some ⟨rb, 0, none⟩) q (intL ln) := fun W hW =>
        ⟨(hW.cell (p := ⟨gl, k, none⟩) hgl).trans c1', (hW.cell (p := ⟨rb, j, none⟩) hrbl).trans hcj, hrow.below hW⟩
      obtain ⟨d0, d1⟩ := pair_cells (RPa.out.below HB.out) hlt hpe
      have HCs := Lib.hid hcells
      have HPwk := Lib.hid hPw
      have HFn := Lib.hid hFn
      have HPe := Lib.hid hPe
      have HTk := Lib.hid htk
      have HSt := Lib.hid hst
      have Hgl := Lib.hid (And.intro hgl hrbl)
      clear hcells hPw hFn hPe htk hst hgl hrbl hcj hlk hline hrow c1' x1 x2 x3 x4 hk hlt hpe hfr hfq hpb hj hjq hu hlen
      go_wp2
      go_quiet ((go_at_call 30; with_reducible exact Calls.quiet_of_same (HPwk.out _)))
      have HB5 := Lib.hid (below_drewN HB.out nq)
      have HO5 : Hid ((wr.drewN nq).ownsRow WQ.heap.size 3 1 (.slice a5 k c5) k (intL (R.take k))) := HO.out
      generalize wr.drewN nq = W5 at HB5 HO5 ⊢
      clear d0 d1 HB HPwk HO
      obtain ⟨s0, s1, s2⟩ := HCs.out W5 HB5.out
      have RW := Lib.hid s2
      clear s2
      go_wp2_with fail
      refine (HFn.out _ _ _ RW.out).mono ?_
      rintro e' w9 ⟨rfl, hw⟩
      subst w9
      cases b with
      | true =>
        go_wp2_with fail
        refine (HPe.out _ _ _ RW.out).mono ?_
        rintro e' w9 ⟨rfl, hq⟩
        have hb9 := drew_below hq
        have HB6 := Lib.hid (b_next HB5.out hb9)
        have HO6 := Lib.hid (own_later HO5.out hb9)
        obtain ⟨t0, t1, -⟩ := HCs.out w9 HB6.out
        clear hq hb9 HB5 HO5 s0 s1 RW
        go_wp2
        have hlt4 := HO6.out.lt
        have hfar : ∀ (wy : World) (o : Obj) (p : Addr) (v : Value), (w9.alloc o).drew.grownBy wy (Value.slice a5 k c5).ownBlock → w9.cell? p = some v → p.block < WQ.heap.size → wy.cell? p = some v := fun wy o p v hg hp hne =>
          hg.cell (((below_alloc w9 o).drew.cell (World.block_lt_of_cell? _ _ hp)).trans hp) (fun e => by have := hlt4 _ e.symm; omega)
        have Hfar := Lib.hid hfar
        have HOa := Lib.hid (HO6.out.alloc (.cells #[.int .i64 (u : Int)] 3))
        have HN1 := Lib.hid (cell_one_new w9 (.int .i64 (u : Int)) 3)
        have HBs : Hid (WQ.heap.size ≤ (w9.alloc (.cells #[.int .i64 (u : Int)] 3)).drew.heap.size) := Nat.le_trans HB6.out.size (by show w9.heap.size ≤ (w9.alloc _).heap.size; simp)
        have T0 := Lib.hid t0
        have T1 := Lib.hid t1
        have hk3 : k ≤ 3 := Hgo.out.2.2
        obtain ⟨n1, n2, n3, n4, n5, n6, n7⟩ := Hnum.out
        clear hlt4 hfar
        go_region_held3 (fun w' => w'.cell? ⟨gl, k, none⟩ = some (.slice (some ⟨rb, 0, none⟩) q rc) ∧ w'.cell? ⟨rb, j, none⟩ = some (.int .i64 (u : Int)))
          (first | exact ⟨t0, t1⟩ | exact ⟨Hfar.out _ _ _ _ hgr9 T0.out Hgl.out.1, Hfar.out _ _ _ _ hgr9 T1.out Hgl.out.2⟩ | exact ⟨((below_alloc w9 _).drew.cell (World.block_lt_of_cell? _ _ T0.out)).trans T0.out, ((below_alloc w9 _).drew.cell (World.block_lt_of_cell? _ _ T1.out)).trans T1.out⟩)
          (first | (refine step_append_lies _ rfl _ _ 22 rfl WQ.heap.size 3 i0 (.int .i64 0) 1 8 Try.underlying22 hi hz0 hz1 hz2 rfl (by decide) _ k (intL (R.take k)) rfl HOa.out ⟨w9.heap.size, 0, none⟩ 1 1 [.int .i64 (u : Int)] rfl rfl HN1.out (by simp [Value.oneCell']) (by clear n1 n2 n3; omega) (by clear n1 n2 n3; unfold maxLen; omega) (by clear n1 n2 n3; omega) HBs.out _ rfl ?_; intro g9 c9 wz hown9 hgr9 _ _))
        have hfin : Hid (wz.ownsRow WQ.heap.size 3 1 (.slice (some ⟨g9, 0, none⟩) (k + 1) c9) (k + 1) (intL (R.take (k + 1)))) := by
          unfold Hid
          rw [HTk.out]
          unfold intL at hown9 ⊢
          rw [List.map_append]; exact hown9
        have hB9 : Hid (Below WQ.heap.size WQ wz) := (HB6.out.trans (((below_alloc w9 _).drew).mono HB6.out.size)).grown hgr9 HBs.out (fun q e => (HO6.out.lt q e).1)
        have HAn : Hid (AL (k + 1) = pb) := by unfold Hid; rw [HSt.out, HAb.out]; rfl
        clear hown9 hgr9 t0 t1 T0 T1 n1 n2 n3
        go_wp2
        go_roundw
        case rel => exact ⟨k + 1, pb, Hgo.out.1, by go_num, rfl, HAn, hfin, hB9⟩
        case measure => simp [intOf]; have := Hgo.out; omega
      | false =>
        go_wp2
        have HB6 := Lib.hid HB5.out
        have HO6 := Lib.hid HO5.out
        have t0 := s0
        have t1 := s1
        clear HB5 HO5 s0 s1 RW
        obtain ⟨w9, hw9⟩ : ∃ w9, W5 = w9 := ⟨_, rfl⟩
        subst hw9
        have hlt4 := HO6.out.lt
        have hfar : ∀ (wy : World) (o : Obj) (p : Addr) (v : Value), (W5.alloc o).drew.grownBy wy (Value.slice a5 k c5).ownBlock → W5.cell? p = some v → p.block < WQ.heap.size → wy.cell? p = some v := fun wy o p v hg hp hne =>
          hg.cell (((below_alloc W5 o).drew.cell (World.block_lt_of_cell? _ _ hp)).trans hp) (fun e => by have := hlt4 _ e.symm; omega)
        have Hfar := Lib.hid hfar
        have HOa := Lib.hid (HO6.out.alloc (.cells #[.int .i64 (u : Int)] 3))
        have HN1 := Lib.hid (cell_one_new W5 (.int .i64 (u : Int)) 3)
        have HBs : Hid (WQ.heap.size ≤ (W5.alloc (.cells #[.int .i64 (u : Int)] 3)).drew.heap.size) := Nat.le_trans HB6.out.size (by show W5.heap.size ≤ (W5.alloc _).heap.size; simp)
        have T0 := Lib.hid t0
        have T1 := Lib.hid t1
        have hk3 : k ≤ 3 := Hgo.out.2.2
        obtain ⟨n1, n2, n3, n4, n5, n6, n7⟩ := Hnum.out
        clear hlt4 hfar
        go_region_held3 (fun w' => w'.cell? ⟨gl, k, none⟩ = some (.slice (some ⟨rb, 0, none⟩) q rc) ∧ w'.cell? ⟨rb, j, none⟩ = some (.int .i64 (u : Int)))
          (first | exact ⟨t0, t1⟩ | exact ⟨Hfar.out _ _ _ _ hgr9 T0.out Hgl.out.1, Hfar.out _ _ _ _ hgr9 T1.out Hgl.out.2⟩ | exact ⟨((below_alloc W5 _).drew.cell (World.block_lt_of_cell? _ _ T0.out)).trans T0.out, ((below_alloc W5 _).drew.cell (World.block_lt_of_cell? _ _ T1.out)).trans T1.out⟩)
          (first | (refine step_append_lies _ rfl _ _ 22 rfl WQ.heap.size 3 i0 (.int .i64 0) 1 8 Try.underlying22 hi hz0 hz1 hz2 rfl (by decide) _ k (intL (R.take k)) rfl HOa.out ⟨W5.heap.size, 0, none⟩ 1 1 [.int .i64 (u : Int)] rfl rfl HN1.out (by simp [Value.oneCell']) (by clear n1 n2 n3; omega) (by clear n1 n2 n3; unfold maxLen; omega) (by clear n1 n2 n3; omega) HBs.out _ rfl ?_; intro g9 c9 wz hown9 hgr9 _ _))
        have hfin : Hid (wz.ownsRow WQ.heap.size 3 1 (.slice (some ⟨g9, 0, none⟩) (k + 1) c9) (k + 1) (intL (R.take (k + 1)))) := by
          unfold Hid
          rw [HTk.out]
          unfold intL at hown9 ⊢
          rw [List.map_append]; exact hown9
        have hB9 : Hid (Below WQ.heap.size WQ wz) := (HB6.out.trans (((below_alloc W5 _).drew).mono HB6.out.size)).grown hgr9 HBs.out (fun q e => (HO6.out.lt q e).1)
        have HAn : Hid (AL (k + 1) = false) := by unfold Hid; rw [HSt.out, HAb.out]; rfl
        clear hown9 hgr9 t0 t1 T0 T1 n1 n2 n3
        go_wp2
        go_roundw
        case rel => exact ⟨k + 1, false, Hgo.out.1, by go_num, rfl, HAn, hfin, hB9⟩
        case measure => simp [intOf]; have := Hgo.out; omega
    · obtain rfl : k = np := by omega
      have hc : ¬ (k : Int) < (k : Int) := by omega
      have ho := HO.out
      rw [Hml.out] at ho
      obtain ⟨a6, c6, hv6, -, hR6⟩ := own_slice ho
      obtain ⟨rfl, rfl⟩ : a5 = a6 ∧ c5 = c6 := by simpa using hv6
      have RR := Lib.hid hR6
      have RPb := Lib.hid (RPa.out.below HB.out)
      have RF2 := Lib.hid (RF.out.below HB.out)
      have BZ := Lib.hid (b_next BQ.out HB.out)
      have hb : b = decide (X1 = -1) := HAb.out.symm.trans HAll.out
      clear ho hv6 hR6 HO HB HAb HAll
      go_wp2_with fail
      refine (HJ.out _ _ _ _ _ RPb.out RR.out).mono ?_
      rintro e' w7 ⟨rfl, b7⟩
      obtain ⟨gF, e7, cF⟩ := HFc.out _ _ (RF2.out.below b7)
      subst e7
      have B7 := Lib.hid (b_next BZ.out b7)
      clear b7 BZ RPb RR
      have hyy2 : ((y : Int) == (y : Int)) = true := by simp
      by_cases hX : X1 = -1
      · subst X1
        rw [decide_eq_true rfl] at hb
        subst b
        go_wp2_with fail
        refine (HA.out _).mono ?_
        rintro e' w8 ⟨rfl, b8⟩
        have B8 := Lib.hid (b_next B7.out b8)
        clear b8
        go_wp2
        go_ret
        exact ⟨rfl, B8.out⟩
      · have hX2 : (X1 == -1) = false := by rw [beq_eq_false_iff_ne]; exact hX
        rw [decide_eq_false hX] at hb
        subst b
        go_wp2_with fail
        refine (HA.out _).mono ?_
        rintro e' w8 ⟨rfl, b8⟩
        have B8 := Lib.hid (b_next B7.out b8)
        clear b8
        go_wp2
        go_ret
        exact ⟨rfl, B8.out⟩
theorem walk_ShuffleParted (x : Int) (_ : (Lit.int .i64 x).wf = true) (pv : Value) (rp : List Int) (w : World) (hP : RowIn w pv rp) (at' : Int) (_ : (Lit.int .i64 at').wf = true) : Calls Try.prog 11 #[.int .i64 x, pv, .int .i64 at'] w fun e w' => e = .returned (.bool true) ∧ Below w.heap.size w w' := by
  obtain ⟨F, m, z, y, h⟩ := paW x at' rp
  exact parted_walk x at' pv rp F m z y w hP h
end Go.Proofs.Ytndbjojjaapeaaa

/- ShuffleParted: a polynomial is a permutation exactly if it is one for each of the prime powers, and the values are joined from those of the prime powers. Conditions: none. -/
namespace Go.Proofs.Ytndbjojjaapeaaa
set_option linter.unusedVariables false

namespace lawShuffleParted
open Go.ChangeShapes Go.WideShapes Go.ChangeAt Go.RowKit
open Go.ChangeMaps (open_string shut_string)

theorem own : ownKnob Try.prog.godebug = none := by kernel_rfl
theorem lay : laidOutB Try.prog = true := by kernel_rfl

set_option maxRecDepth 100000 in
theorem lifted (os : Os) (started : os.Started) (H : Type) (enc : TypeId × Value → H) :
    ReturnsInHanded {} Try.checked os 11 .any (Rows.shufflePartedSpec.pre6 enc Try.prog Try.f11 Rows.shufflePartedRow.domain false) (Rows.shufflePartedSpec.post enc Try.prog Try.f11 false true false false) := by
  refine returnsInHanded_of_change (C := Try.checked) own started (by kernel_rfl) Try.func11
    (ChangeSpec.witness6 (enc := enc) (C := Try.checked) false ⟨#[], #[.int .i64 0, .slice none 0 0, .int .i64 0], []⟩ 8 (by kernel_rfl) (by kernel_rfl) (by kernel_rfl) (by kernel_rfl)) ?_
  intro W base args ds gs before hval0 hW hcnd _
  have hval : ∀ (j : Nat) t v, Try.f11.params[j]? = some t → args[j]? = some v → Value.okWide Try.prog W .any base t v := hval0
  have hW' := hW
  obtain ⟨p, q, hA0, hV, rfl, hfz, hnd⟩ := hW
  have hA : DataW.TrodAll enc Try.prog W 0 (fun _ => true) true Try.f11.params.toList args.toList ds p := hA0
  rw [Try.params11] at hA hval
  obtain ⟨v0, vs0, d0, ds0, p0, q0, hargs, rfl, rfl, h0, r0⟩ := trodAll_cons hA
  obtain ⟨v1, vs1, d1, ds1, p1, q1, rfl, rfl, rfl, h1, r1⟩ := trodAll_cons r0
  obtain ⟨v2, vs2, d2, ds2, p2, q2, rfl, rfl, rfl, h2, r2⟩ := trodAll_cons r1
  obtain ⟨rfl, rfl, rfl⟩ := trodAll_nil r2
  obtain rfl : args = #[v0, v1, v2] := by cases args; simp_all
  obtain ⟨rfl, rfl⟩ := trodVars_none hV
  obtain ⟨a0, rfl, rfl, rfl, w0⟩ := open_int Try.underlying3 (hval 0 3 v0 rfl rfl) h0
  obtain ⟨a1, len1, cap1, rfl⟩ := okWide_slice Try.underlying22 (hval 1 22 v1 rfl rfl)
  have k1 := h1
  have lt1 : ∀ x ∈ p1, x.block < W.heap.size := by obtain ⟨m, hm⟩ := k1; exact DataW.trod_lt m _ _ _ hm
  obtain ⟨z1, w1⟩ : ∃ C, RowIn W (.slice a1 len1 cap1) C := by
    obtain ⟨fuel, hf⟩ := h1
    exact rowIn_of Try.underlying22 Try.underlying3 (by kernel_rfl) hf
  obtain ⟨a2, rfl, rfl, rfl, w2⟩ := open_int Try.underlying3 (hval 2 3 v2 rfl rfl) h2
  clear hA0 hval0
  refine (walk_ShuffleParted a0 w0 _ z1 W w1 a2 w2).mono fun e W' ⟨he, bel⟩ => ?_
  subst he
  exact ⟨_, rfl, _, _, _, [], _, [], hW', trodAll_mk1 (shut_bool Try.underlying4 _), (trodAll_cons_mk (shut_int Try.underlying3 w0) (trodAll_cons_mk (Below.trod lay (by kernel_rfl) (of_decide_eq_true (by kernel_rfl)) k1 bel lt1) (trodAll_cons_mk (shut_int Try.underlying3 w2) trodAll_mk0))), rfl, bel.frame _, fun h => by cases h⟩

theorem over : Rows.shufflePartedRow.holds Try.pinned (OpenSpec.ofChange Rows.shufflePartedSpec) :=
  OpenClaim.holds_of_wide 11 Try.f11 rfl rfl rfl rfl rfl rfl rfl ⟨rfl, rfl, rfl, rfl, rfl⟩ rfl rfl rfl rfl rfl (by kernel_rfl) Try.func11 (by kernel_rfl)
    (of_decide_eq_true (by kernel_rfl)) (by unfold Func.isWrapper; first | (rw [if_pos (by decide +kernel)]; kernel_rfl) | (rw [if_neg (by decide +kernel)]; exact ⟨rfl, rfl⟩))
    (fun os started H enc _ => lifted os started H enc)

theorem proved : Rows.ShufflePartedSaid := over
end lawShuffleParted
end Go.Proofs.Ytndbjojjaapeaaa
