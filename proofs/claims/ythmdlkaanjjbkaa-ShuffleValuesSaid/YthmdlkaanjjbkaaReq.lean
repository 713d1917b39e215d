/- Permutes, and the reference's Equal. -/
import Derived.Test.YthmdlkaanjjbkaaPerm
namespace Go.Proofs.Ythmdlkaanjjbkaa
set_option linter.unusedVariables false
open Go.RowKit

theorem own_full {w : World} {base n : Nat} {e : TypeId} {v : Value} {xs : List Value} (h : w.ownsRow base e 1 v n xs) (hn : 0 < n) : ∃ g cap, v = .slice (some ⟨g, 0, none⟩) n cap ∧ n ≤ cap ∧ cap ≤ 9223372036854775807 ∧ base ≤ g ∧ Row w (some ⟨g, 0, none⟩) n xs := by
  obtain ⟨a, cap, hv, hr⟩ := Row.of_own h
  rcases h.2 with ⟨h1, h2⟩ | ⟨g, cap', cur, h1, hb, _, hc, hm, _⟩
  · omega
  · rw [h1] at hv
    cases hv
    unfold maxLen at hm
    exact ⟨g, _, h1, hc, by omega, hb, hr⟩
set_option maxRecDepth 100000 in
theorem Permutes_no (m : Int) (a : Option Addr) (n cap : Nat) (xs : List Int) (w : World) (hr : Row w a n (intL xs)) (hn : n ≤ 1000) (hp : polyB m xs = false) :
    Calls Try.prog 19 #[.int .i64 m, .slice a n cap] w fun e w' => e = .returned (.tuple #[.int .i64 0, .int .i64 0, .int .i64 2]) ∧ Below w.heap.size w w' := by
  have h := isPoly_any m a n cap xs w hr hn
  rw [hp] at h
  have H := Lib.hid h
  clear h hr hp
  go_enter Try.func19, Try.ntmps19
  go_wp2_with fail
  refine H.out.mono ?_
  rintro e w1 ⟨rfl, hw⟩
  subst w1
  go_wp2
  go_ret3
  exact ⟨rfl, Below.refl _ _⟩
set_option maxRecDepth 100000 in
set_option maxHeartbeats 4000000 in
theorem Permutes_yes (m : Nat) (a : Option Addr) (n cap : Nat) (xs : List Int) (w : World) (hr : Row w a n (intL xs)) (hp : polyB m xs = true) :
    Calls Try.prog 19 #[.int .i64 m, .slice a n cap] w fun e w' => e = .returned (.tuple #[.int .i64 (equalR (valuesL m xs)).1, .int .i64 (equalR (valuesL m xs)).2, .int .i64 0]) ∧ Below w.heap.size w w' := by
  have hx : xs.length = n := by have := hr.1; simpa [intL] using this
  have hp2 := hp
  unfold polyB at hp2
  rw [Bool.and_eq_true, Bool.and_eq_true, decide_eq_true_eq] at hp2
  obtain ⟨⟨h1, h2⟩, h3⟩ := hp2
  obtain ⟨k, hk, hk2, hk64⟩ := modB_nat h1
  obtain rfl : m = k := by omega
  have hin := remB_in h3
  have h := fun W hW => isPoly_any m a n cap xs W hW (by omega)
  rw [hp] at h
  have ht := fun W hW => polyTable_any m a n cap xs W hW (by omega) (by omega) hk64 (fun x hx => by have := hin x hx; omega)
  have hl : ∀ W, Calls Try.prog 64 #[.agg (tabA (fun x : Nat => polyV m xs x) m), .int .i64 m] W fun e w' => ∃ v, e = .returned v ∧ w'.ownsRow W.heap.size 3 1 v m (intL (valuesL m xs)) ∧ Below W.heap.size W w' := fun W => list_any m (fun x : Nat => polyV m xs x) W hk64
  have hE := fun g cap W hW h1 h2 => firstEqual_any g m cap (valuesL m xs) W hW (by omega) h1 h2
  obtain ⟨T, hT⟩ : ∃ T, tabA (fun x : Nat => polyV m xs x) m = T := ⟨_, rfl⟩
  rw [hT] at hl ht
  generalize valuesL m xs = F at *
  have H := Lib.hid h
  have HT := Lib.hid ht
  have HL := Lib.hid hl
  have HE := Lib.hid hE
  have Hr := Lib.hid hr
  have Hm := Lib.hid (show 0 < m by omega)
  clear h ht hl hE hr hp h1 h2 h3 hin hk hx hT
  go_enter Try.func19, Try.ntmps19
  go_wp2_with fail
  refine (H.out _ Hr.out).mono ?_
  rintro e w1 ⟨rfl, rfl⟩
  go_wp2_with fail
  refine (HT.out _ Hr.out).mono ?_
  rintro e w2 ⟨rfl, b2⟩
  have B2 := Lib.hid b2
  clear b2
  go_wp2_with fail
  refine (HL.out _).mono ?_
  rintro e w3 ⟨v, rfl, ho, b3⟩
  obtain ⟨g, c, rfl, hc1, hc2, _, r3⟩ := own_full ho Hm.out
  have B3 := Lib.hid (b_next B2.out b3)
  clear ho b3
  go_wp2_with fail
  refine (HE.out _ _ _ r3 hc1 hc2).mono ?_
  rintro e w4 ⟨rfl, hw⟩
  subst w4
  clear hc1 hc2 r3
  go_wp2
  go_ret3
  exact ⟨rfl, B3.out⟩
set_option maxRecDepth 100000 in
set_option maxHeartbeats 4000000 in
theorem refEqual_any (a : Option Addr) (n cap : Nat) (F : List Int) (w : World) (hr : Row w a n (intL F)) (hn : n ≤ 100) :
    Calls Try.prog 26 #[.slice a n cap] w fun e w' => e = .returned (.tuple #[.int .i64 (equalR F).1, .int .i64 (equalR F).2]) ∧ ∃ q, w' = w.drewN q := by
  have hl : F.length = n := by have := hr.1; simpa [intL] using this
  obtain ⟨R, hR⟩ : ∃ R, equalR F = R := ⟨_, rfl⟩
  rw [hR]
  unfold equalR at hR
  rw [hl] at hR
  have Hst := Lib.hid fun k (hk : k < n) => eqF_step F hk
  have Hlt := Lib.hid fun k => (show firstN (eqP F k) (n - (k + 1)) (k + 1) = laterN F n k from rfl)
  have Hfs := Lib.hid fun k y (hy : y < n) => firstN_step (P := eqP F k) hy
  have Hep := Lib.hid fun k y => (show eqP F k y = decide (F.getD k 0 = F.getD y 0) from rfl)
  have Hr := Lib.hid hr
  have HR0 : Hid (eqF F n (n - 0) 0 = R) := hR
  clear hR hr hl
  go_enter Try.func26, Try.ntmps26
  go_wp2
  go_loopw [4, 5] (fun i _ wr => ∃ k q : Nat, k ≤ n ∧ i = .int .i64 k ∧ Hid (eqF F n (n - k) k = R) ∧ wr = w.drewN q) (fun i _ _ => n - (intOf i).toNat)
  case atStart => exact ⟨0, 0, Nat.zero_le _, rfl, HR0, rfl⟩
  case round =>
    clear HR0
    obtain ⟨k, q, hk, rfl, HF, hw⟩ := hrel
    subst wr
    by_cases hlt : k < n
    · have hc : (k : Int) < (n : Int) := by omega
      have hs := Hst.out k hlt
      rw [HF.out] at hs
      have HS := Lib.hid hs
      have Hl := Lib.hid (Hlt.out k)
      obtain ⟨g1, rfl, x1⟩ := Hr.out.int hlt
      have Hgo := Lib.hid (And.intro (show k + 1 ≤ n by omega) hlt)
      clear hs HF
      go_wp2
      go_loopw [5] (fun j wr => ∃ y q : Nat, k < y ∧ y ≤ n ∧ j = .int .i64 y ∧ Hid (firstN (eqP F k) (n - y) y = laterN F n k) ∧ wr = w.drewN q) (fun j _ => n - (intOf j).toNat)
      case atStart => exact ⟨k + 1, q, Nat.lt_succ_self _, Hgo.out.1, by go_num, Hl.out, rfl⟩
      case round =>
        obtain ⟨y, q, hky, hy, rfl, HY, hw⟩ := hrel
        subst wr
        by_cases hyn : y < n
        · have hc2 : (y : Int) < (n : Int) := by omega
          obtain ⟨g2, e2, x2⟩ := Hr.out.int hyn
          simp only [Option.some.injEq, Addr.mk.injEq, and_true] at e2
          subst e2
          have hf := Hfs.out k y hyn
          rw [HY.out, Hep.out k y] at hf
          generalize F.getD k 0 = u at x1 hf
          generalize F.getD y 0 = v at x2 hf
          have Hgy := Lib.hid (And.intro (show y + 1 ≤ n by omega) hyn)
          by_cases he : u = v
          · subst v
            rw [decide_eq_true rfl, if_pos rfl] at hf
            have hs := HS.out
            rw [hf, if_pos (Int.natCast_nonneg _)] at hs
            have HT := Lib.hid hs
            have hee : (u == u) = true := by simp
            clear hf hs HY
            go_wp2
            go_quiet (fail)
            go_wp2
            go_ret2
            exact ⟨by rw [HT.out]; rfl, _, by first | rfl | exact World.drewN_drewN _ _ _ | trivial⟩
          · rw [decide_eq_false he, if_neg (by decide)] at hf
            have HT := Lib.hid hf.symm
            have hee : (u == v) = false := by simp [he]
            have hky2 : k < y + 1 := by omega
            clear hf HY he
            go_wp2
            go_quiet (fail)
            go_wp2
            go_roundw
            case rel => exact ⟨y + 1, _, hky2, Hgy.out.1, by go_num, HT, by first | rfl | exact World.drewN_drewN _ _ _ | trivial⟩
            case measure => exact mz_upn Hgy.out.2
        · obtain rfl : y = n := by omega
          have hc2 : ¬ (y : Int) < (y : Int) := by omega
          have hf := HY.out
          rw [Nat.sub_self] at hf
          have hm1 : laterN F y k = -1 := hf.symm
          have hs := HS.out
          rw [hm1, if_neg (by decide)] at hs
          have HT := Lib.hid hs.symm
          clear hf hs HY hm1
          go_wp2
          go_roundw
          case rel => exact ⟨k + 1, _, Hgo.out.1, by go_num, HT, by first | rfl | exact World.drewN_drewN _ _ _ | trivial⟩
          case measure => exact mz_upn Hgo.out.2
    · obtain rfl : k = n := by omega
      have hc : ¬ (k : Int) < (k : Int) := by omega
      have hf := HF.out
      rw [Nat.sub_self] at hf
      have HS := Lib.hid (show ((-1, -1) : Int × Int) = R from hf)
      clear hf HF
      go_wp2
      go_ret2
      exact ⟨by rw [← HS.out]; rfl, _, rfl⟩
/-- whether no two values are equal -/
theorem equal_none (F : List Int) {n : Nat} (hl : F.length = n) : (equalR F).1 = -1 ↔ ∀ x y, x < y → y < n → F.getD x 0 ≠ F.getD y 0 := by
  unfold equalR
  rw [hl]
  have h : ∀ r k, k + r = n → ((eqF F n r k).1 = -1 ↔ ∀ x y, k ≤ x → x < y → y < n → F.getD x 0 ≠ F.getD y 0) := by
    intro r
    induction r with
    | zero => exact fun k h => ⟨fun _ x y h1 h2 h3 => by omega, fun _ => rfl⟩
    | succ r ih =>
      intro k hk
      unfold eqF
      rcases later_is F hl (show k < n by omega) with ⟨d, h1, h2, h3, _⟩ | ⟨h1, h2, _⟩
      · rw [h1, if_pos (Int.natCast_nonneg _)]
        refine ⟨fun h => ?_, fun h => absurd h3 (h k (k + 1 + d) (Nat.le_refl _) (by omega) h2)⟩
        simp only at h
        omega
      · rw [h1, if_neg (by decide), ih (k + 1) (by omega)]
        refine ⟨fun h x y hx hy hn => ?_, fun h x y hx hy hn => h x y (by omega) hy hn⟩
        by_cases e : x = k
        · subst e; exact h2 y hy hn
        · exact h x y (by omega) hy hn
  rw [h n 0 (by omega)]
  exact ⟨fun h x y => h x y (Nat.zero_le _), fun h x y _ => h x y⟩
end Go.Proofs.Ythmdlkaanjjbkaa
