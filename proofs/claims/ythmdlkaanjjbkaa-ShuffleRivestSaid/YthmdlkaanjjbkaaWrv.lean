/- The walk of Rivest. -/
import Derived.Test.YthmdlkaanjjbkaaRiv
import Derived.Test.YthmdlkaanjjbkaaReq
import Derived.Test.YthmdlkaanjjbkaaLst
import Derived.Test.YthmdlkaanjjbkaaRroom
import Derived.Test.YthmdlkaanjjbkaaWcn
namespace Go.Proofs.Ythmdlkaanjjbkaa
set_option linter.unusedVariables false
open Go.RowKit

theorem sums_in {P : List Int} (hP : ∀ i, 0 ≤ P.getD i 0 ∧ P.getD i 0 ≤ 64) : ∀ k, (0 ≤ evN P k ∧ evN P k ≤ 64 * k) ∧ (0 ≤ odN P k ∧ odN P k ≤ 64 * k)
  | 0 => by simp [evN, odN]
  | k + 1 => by
    obtain ⟨h1, h2⟩ := sums_in hP k
    have h3 := hP k
    have e1 : evN P (k + 1) = evN P k + if 2 ≤ k ∧ k % 2 = 0 then P.getD k 0 else 0 := rfl
    have e2 : odN P (k + 1) = odN P k + if 2 ≤ k ∧ k % 2 = 1 then P.getD k 0 else 0 := rfl
    rw [e1, e2]
    generalize P.getD k 0 = y at h3 ⊢
    by_cases a : 2 ≤ k ∧ k % 2 = 0
    · rw [if_pos a, if_neg (fun h => by omega)]; omega
    · rw [if_neg a]
      by_cases b : 2 ≤ k ∧ k % 2 = 1
      · rw [if_pos b]; omega
      · rw [if_neg b]; omega
theorem onN_in {P : List Int} (hP : ∀ i, 0 ≤ P.getD i 0 ∧ P.getD i 0 ≤ 64) (k : Nat) : 0 ≤ onN P k ∧ onN P k ≤ 64 := by
  unfold onN
  by_cases h : 2 ≤ k
  · rw [if_pos h]; exact hP 1
  · rw [if_neg h]; omega
theorem mod_two {x : Int} (h : 0 ≤ x) : ∃ r : Int, x % 2 = r ∧ Int.tmod x 2 = r ∧ IntKind.i64.wrap r = r ∧ wrap64 r = r := by
  have h1 : 0 ≤ x % 2 ∧ x % 2 < 2 := by omega
  refine ⟨x % 2, rfl, Int.tmod_eq_emod_of_nonneg h, ?_, ?_⟩
  · generalize x % 2 = r at h1 ⊢; exact IntWalk.i64_in _ (by omega)
  · generalize x % 2 = r at h1 ⊢; exact IntWalk.wrap64_in _ (by omega)
/-- the sums after one more round -/
theorem sums_one (P : List Int) : evN P (1 + 1) = evN P 1 ∧ odN P (1 + 1) = odN P 1 ∧ onN P (1 + 1) = P.getD 1 0 := by
  refine ⟨?_, ?_, rfl⟩
  · show evN P 1 + 0 = _; omega
  · show odN P 1 + 0 = _; omega
theorem sums_even (P : List Int) {k : Nat} (h : 2 ≤ k) (h2 : k % 2 = 0) : evN P (k + 1) = evN P k + P.getD k 0 ∧ odN P (k + 1) = odN P k ∧ onN P (k + 1) = onN P k := by
  have e1 : evN P (k + 1) = evN P k + if 2 ≤ k ∧ k % 2 = 0 then P.getD k 0 else 0 := rfl
  have e2 : odN P (k + 1) = odN P k + if 2 ≤ k ∧ k % 2 = 1 then P.getD k 0 else 0 := rfl
  rw [e1, e2, if_pos ⟨h, h2⟩, if_neg (fun h => by omega)]
  refine ⟨rfl, by omega, ?_⟩
  unfold onN
  rw [if_pos h, if_pos (by omega)]
theorem sums_odd (P : List Int) {k : Nat} (h : 2 ≤ k) (h2 : ¬ k % 2 = 0) : evN P (k + 1) = evN P k ∧ odN P (k + 1) = odN P k + P.getD k 0 ∧ onN P (k + 1) = onN P k := by
  have e1 : evN P (k + 1) = evN P k + if 2 ≤ k ∧ k % 2 = 0 then P.getD k 0 else 0 := rfl
  have e2 : odN P (k + 1) = odN P k + if 2 ≤ k ∧ k % 2 = 1 then P.getD k 0 else 0 := rfl
  rw [e1, e2, if_neg (fun h => h2 h.2), if_pos ⟨h, by omega⟩]
  refine ⟨by omega, rfl, ?_⟩
  unfold onN
  rw [if_pos h, if_pos (by omega)]
theorem rivest_law {m j : Nat} (hm : m = 2 ^ (j + 2)) (P : List Int) {n : Nat} (hn : P.length = n) : (equalR (valuesL m P)).1 = -1 ↔ onN P n % 2 = 1 ∧ evN P n % 2 = 0 ∧ odN P n % 2 = 0 := by
  rw [← rivP_nums hn, equal_none _ (valuesL_len m P)]
  have h : (∀ x y : Nat, x < y → y < m → (valuesL m P).getD x 0 ≠ (valuesL m P).getD y 0) ↔ injP (j + 2) P := by
    unfold injP
    rw [← hm]
    constructor
    · intro h x y h1 h2
      have := h x y h1 h2
      rwa [valuesL_get m P (by omega), valuesL_get m P h2, polyV_eval, polyV_eval] at this
    · intro h x y h1 h2
      rw [valuesL_get m P (by omega), valuesL_get m P h2, polyV_eval, polyV_eval]
      exact h x y h1 h2
  rw [h]
  exact ⟨inj_riv _ (by omega), fun h => riv_inj h _ (by omega)⟩
theorem rem_two (k : Nat) : ∃ t : Nat, k % 2 = t ∧ Int.tmod (k : Int) 2 = (t : Int) ∧ IntKind.i64.wrap (t : Int) = (t : Int) ∧ wrap64 (t : Int) = (t : Int) := by
  have h : k % 2 ≤ 1 := by omega
  have h2 : Int.tmod (k : Int) 2 = ((k % 2 : Nat) : Int) := tmod_nat k 2
  generalize k % 2 = t at h h2
  exact ⟨t, rfl, h2, IntWalk.i64_in _ (by omega), IntWalk.wrap64_in _ (by omega)⟩
theorem nat_zero {t : Nat} (h : t = 0) : ((t : Int) == 0) = true := by rw [beq_iff_eq]; omega
theorem add_in {a b : Int} (ha : 0 ≤ a ∧ a ≤ 1000) (hb : 0 ≤ b ∧ b ≤ 1000) : IntKind.i64.wrap (a + b) = a + b ∧ wrap64 (a + b) = a + b := ⟨IntWalk.i64_in _ (by omega), IntWalk.wrap64_in _ (by omega)⟩
set_option maxRecDepth 100000 in
set_option maxHeartbeats 4000000 in
theorem rivest_walk (x : Int) (pv : Value) (row : List Int) (w : World) (hP : RowIn w pv row) : Calls Try.prog 10 #[.int .i64 x, pv] w fun e w' => e = .returned (.bool true) ∧ Below w.heap.size w w' := by
  have hmv := mod_val x 5 w (by omega) (by omega)
  have hr := modV_lt x 5 (by omega)
  generalize modV x 5 = r at hmv hr
  obtain ⟨m, hmr⟩ : ∃ m, 2 ^ (r + 2) = m := ⟨_, rfl⟩
  have hm4 : 2 ≤ m ∧ m ≤ 64 := by
    subst hmr
    have : r = 0 ∨ r = 1 ∨ r = 2 ∨ r = 3 ∨ r = 4 := by omega
    rcases this with rfl | rfl | rfl | rfl | rfl <;> decide
  obtain ⟨hm, hm2⟩ := hm4
  have hT := tame_in m pv row w (by omega) hm2 hP
  have hpol := tamL_poly hm hm2 row
  obtain ⟨hl12, hin⟩ := tamL_in (m := m) (by omega) row
  generalize tamL m row = P at hT hpol hl12 hin
  have hP64 : ∀ i, 0 ≤ P.getD i 0 ∧ P.getD i 0 ≤ 64 := fun i => by
    rw [List.getD_eq_getElem?_getD]
    rcases Nat.lt_or_ge i P.length with h | h
    · rw [List.getElem?_eq_getElem h]
      have := hin _ (List.getElem_mem h)
      simp only [Option.getD_some]
      omega
    · rw [List.getElem?_eq_none h]; simp
  have hPe := fun a n cap W hW => Permutes_yes m a n cap P W hW hpol
  obtain ⟨n, hn⟩ : ∃ n, P.length = n := ⟨_, rfl⟩
  have hlaw := rivest_law hmr.symm P hn
  generalize equalR (valuesL m P) = R at hPe hlaw
  rw [hn] at hT hl12
  have HM := Lib.hid hmv
  have HT := Lib.hid hT
  have HPe := Lib.hid hPe
  have HA := Lib.hid fun w => awake_any w
  have HS := Lib.hid (sums_in hP64)
  have HO := Lib.hid (onN_in hP64)
  have HP64 := Lib.hid hP64
  have Hlaw := Lib.hid hlaw
  have hsh : ((m : Int)) = 4 * 2 ^ r := by
    subst hmr
    rw [Nat.pow_add]
    simp [Int.mul_comm]
  clear hmv hT hPe hP64 hlaw hpol hin hP
  go_enter Try.func10, Try.ntmps10
  go_wp2_with fail
  refine HM.out.mono ?_
  rintro e w1 ⟨rfl, hw⟩
  subst w1
  go_wp2_with fail
  rw [← hsh]
  refine HT.out.mono ?_
  rintro e w2 ⟨tv, rfl, ot, b2⟩
  obtain ⟨a2, c2, rfl, -, r2⟩ := own_slice ot
  have R2 := Lib.hid r2
  have B2 := Lib.hid b2
  clear ot r2 b2 hsh hmr
  go_wp2_with fail
  refine (HPe.out _ _ _ _ R2.out).mono ?_
  rintro e w3 ⟨rfl, b3⟩
  have R3 := Lib.hid (R2.out.below b3)
  have B3 := Lib.hid (b_next B2.out b3)
  clear b3 R2 B2 HT HPe HM
  go_wp2
  go_loopw [10, 11, 12, 13, 39, 46] (fun ev od on i _ _ wr => ∃ k : Nat, 1 ≤ k ∧ (k ≤ n ∨ k = 1) ∧ k ≤ 12 ∧ i = .int .i64 k ∧ ev = .int .i64 (evN P k) ∧ od = .int .i64 (odN P k) ∧ on = .int .i64 (onN P k) ∧ wr = w3) (fun _ _ _ i _ _ _ => 12 - (intOf i).toNat)
  case atStart => exact ⟨1, Nat.le_refl _, .inr rfl, by decide, rfl, rfl, rfl, rfl, rfl⟩
  case round =>
    obtain ⟨k, hk1, hkn, hk12, rfl, rfl, rfl, rfl, hw⟩ := hrel
    subst wr
    obtain ⟨⟨s1, s2⟩, s3, s4⟩ := HS.out k
    obtain ⟨s5, s6⟩ := HO.out k
    by_cases hlt : k < n
    · have hc : (k : Int) < (n : Int) := by omega
      obtain ⟨g, rfl, cx⟩ := R3.out.int hlt
      obtain ⟨y1, y2⟩ := HP64.out k
      have Hgo := Lib.hid (show 1 ≤ k + 1 ∧ (k + 1 ≤ n ∨ k + 1 = 1) ∧ k + 1 ≤ 12 ∧ k < 12 by omega)
      by_cases h1 : k = 1
      · subst k
        obtain ⟨e1, e2, e3⟩ := sums_one P
        have HE := Lib.hid (And.intro e1 (And.intro e2 e3))
        generalize P.getD 1 0 = y at cx y1 y2 HE
        clear e1 e2 e3 hkn hlt s1 s2 s3 s4 s5 s6
        go_wp2
        go_roundw
        case rel => exact ⟨1 + 1, Hgo.out.1, Hgo.out.2.1, Hgo.out.2.2.1, by go_num, by rw [HE.out.1], by rw [HE.out.2.1], by rw [HE.out.2.2], trivial⟩
        case measure => exact mz_upn Hgo.out.2.2.2
      · have hk2 : 2 ≤ k := by omega
        have hk1i : ((k : Int) == 1) = false := by rw [beq_eq_false_iff_ne]; omega
        obtain ⟨n1, n2⟩ := add_in (a := evN P k) (b := P.getD k 0) (by omega) (by omega)
        obtain ⟨n3, n4⟩ := add_in (a := odN P k) (b := P.getD k 0) (by omega) (by omega)
        obtain ⟨t, ht, t1, t2, t3⟩ := rem_two k
        by_cases h0 : t = 0
        · have hz := nat_zero h0
          obtain ⟨e1, e2, e3⟩ := sums_even P hk2 (ht.trans h0)
          have HE := Lib.hid (And.intro e1 (And.intro e2 e3))
          clear n3 n4
          generalize P.getD k 0 = y at cx y1 y2 HE n1 n2
          generalize evN P k = u at s1 s2 HE n1 n2 ⊢
          clear e1 e2 e3 hkn hlt s1 s2 s3 s4 s5 s6 y1 y2 ht h0 h1
          go_wp2
          go_roundw
          case rel => exact ⟨k + 1, Hgo.out.1, Hgo.out.2.1, Hgo.out.2.2.1, by clear t1 t2 t3 n1 n2; go_num, by rw [HE.out.1], by rw [HE.out.2.1], by rw [HE.out.2.2], trivial⟩
          case measure => exact mz_upn Hgo.out.2.2.2
        · have hz := ne_zero h0
          obtain ⟨e1, e2, e3⟩ := sums_odd P hk2 (by rw [ht]; exact h0)
          have HE := Lib.hid (And.intro e1 (And.intro e2 e3))
          clear n1 n2
          generalize P.getD k 0 = y at cx y1 y2 HE n3 n4
          generalize odN P k = u at s3 s4 HE n3 n4 ⊢
          clear e1 e2 e3 hkn hlt s1 s2 s3 s4 s5 s6 y1 y2 ht h0 h1
          go_wp2
          go_roundw
          case rel => exact ⟨k + 1, Hgo.out.1, Hgo.out.2.1, Hgo.out.2.2.1, by clear t1 t2 t3 n3 n4; go_num, by rw [HE.out.1], by rw [HE.out.2.1], by rw [HE.out.2.2], trivial⟩
          case measure => exact mz_upn Hgo.out.2.2.2
    · have hc : ¬ (k : Int) < (n : Int) := by omega
      have hen : onN P k = onN P n ∧ evN P k = evN P n ∧ odN P k = odN P n := by
        rcases Nat.lt_or_ge n k with h | h
        · obtain rfl : k = 1 := by omega
          obtain rfl : n = 0 := by omega
          exact ⟨rfl, rfl, rfl⟩
        · obtain rfl : k = n := by omega
          exact ⟨rfl, rfl, rfl⟩
      have hl := Hlaw.out
      rw [← hen.1, ← hen.2.1, ← hen.2.2] at hl
      generalize onN P k = u1 at s5 s6 hl ⊢
      generalize evN P k = u2 at s1 s2 hl ⊢
      generalize odN P k = u3 at s3 s4 hl ⊢
      obtain ⟨r1, q1, q2, q3, q4⟩ := mod_two s5
      obtain ⟨r2, p1, p2, p3, p4⟩ := mod_two s1
      obtain ⟨r3, o1, o2, o3, o4⟩ := mod_two s3
      rw [q1, p1, o1] at hl
      have HL := Lib.hid hl
      clear hl hen s1 s2 s3 s4 s5 s6 q1 p1 o1 hkn hlt hk1 hk12 Hlaw HS HO HP64
      by_cases a1 : r1 = 1
      · have f1 : (r1 == 1) = true := by rw [beq_iff_eq]; exact a1
        by_cases a2 : r2 = 0
        · have f2 : (r2 == 0) = true := by rw [beq_iff_eq]; exact a2
          by_cases a3 : r3 = 0
          · have f3 : (r3 == 0) = true := by rw [beq_iff_eq]; exact a3
            have f0 : (R.1 == -1) = true := by rw [beq_iff_eq]; exact HL.out.2 ⟨a1, a2, a3⟩
            generalize R.1 = z at f0 ⊢
            clear a1 a2 a3 HL
            go_wp2_with fail
            refine (HA.out _).mono ?_
            rintro e w4 ⟨rfl, b4⟩
            have B4 := Lib.hid (b_next B3.out b4)
            clear b4
            go_wp2
            go_ret
            exact ⟨rfl, B4.out⟩
          · have f3 : (r3 == 0) = false := by rw [beq_eq_false_iff_ne]; exact a3
            have f0 : (R.1 == -1) = false := by rw [beq_eq_false_iff_ne]; exact fun h => a3 (HL.out.1 h).2.2
            generalize R.1 = z at f0 ⊢
            clear a1 a2 a3 HL
            go_wp2_with fail
            refine (HA.out _).mono ?_
            rintro e w4 ⟨rfl, b4⟩
            have B4 := Lib.hid (b_next B3.out b4)
            clear b4
            go_wp2
            go_ret
            exact ⟨rfl, B4.out⟩
        · have f2 : (r2 == 0) = false := by rw [beq_eq_false_iff_ne]; exact a2
          have f0 : (R.1 == -1) = false := by rw [beq_eq_false_iff_ne]; exact fun h => a2 (HL.out.1 h).2.1
          generalize R.1 = z at f0 ⊢
          clear a1 a2 HL
          go_wp2_with fail
          refine (HA.out _).mono ?_
          rintro e w4 ⟨rfl, b4⟩
          have B4 := Lib.hid (b_next B3.out b4)
          clear b4
          go_wp2
          go_ret
          exact ⟨rfl, B4.out⟩
      · have f1 : (r1 == 1) = false := by rw [beq_eq_false_iff_ne]; exact a1
        have f0 : (R.1 == -1) = false := by rw [beq_eq_false_iff_ne]; exact fun h => a1 (HL.out.1 h).1
        generalize R.1 = z at f0 ⊢
        clear a1 HL
        go_wp2_with fail
        refine (HA.out _).mono ?_
        rintro e w4 ⟨rfl, b4⟩
        have B4 := Lib.hid (b_next B3.out b4)
        clear b4
        go_wp2
        go_ret
        exact ⟨rfl, B4.out⟩
theorem walk_ShuffleRivest (x : Int) (_ : (Lit.int .i64 x).wf = true) (pv : Value) (row : List Int) (w : World) (hP : RowIn w pv row) : Calls Try.prog 10 #[.int .i64 x, pv] w fun e w' => e = .returned (.bool true) ∧ Below w.heap.size w w' := rivest_walk x pv row w hP
end Go.Proofs.Ythmdlkaanjjbkaa
