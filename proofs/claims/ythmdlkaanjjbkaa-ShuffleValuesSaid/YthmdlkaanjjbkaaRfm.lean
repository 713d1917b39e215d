/- The reference's Formed. -/
import Derived.Test.YthmdlkaanjjbkaaFrm
import Derived.Test.YthmdlkaanjjbkaaQp
namespace Go.Proofs.Ythmdlkaanjjbkaa
set_option linter.unusedVariables false
open Go.RowKit

theorem last_num {n : Nat} (h : 0 < n) (h2 : n ≤ 1000) : ∃ p : Nat, n - 1 = p ∧ p < n ∧ IntKind.i64.wrap ((n : Int) - 1) = (p : Int) ∧ wrap64 ((n : Int) - 1) = (p : Int) :=
  ⟨n - 1, rfl, by omega, by rw [IntWalk.i64_in _ (by omega)]; omega, by rw [IntWalk.wrap64_in _ (by omega)]; omega⟩
set_option maxRecDepth 100000 in
set_option maxHeartbeats 4000000 in
theorem refFormed_any (m : Nat) (a : Option Addr) (n cap : Nat) (xs : List Int) (w : World) (hr : Row w a n (intL xs)) (hn : n ≤ 100) (hm : 2 ≤ m) (hm2 : m ≤ 64) :
    Calls Try.prog 47 #[.int .i64 m, .slice a n cap] w fun e w' => e = .returned (.bool (formedB m xs)) ∧ ∃ q, w' = w.drewN q := by
  have hx : xs.length = n := by have := hr.1; simpa [intL] using this
  have hR := fun (i : Nat) (hi : i ≤ 100) w => Room_any m i w hm hm2 hi
  have hstep := roomsB_step m xs
  have hno := fun k (hk : k < n) => roomsB_no (m := m) (xs := xs) (n := n) hk
  have hok : ∀ k, okN m k (xs.getD k 0) = decide (0 ≤ xs.getD k 0 ∧ xs.getD k 0 < roomN m k) := fun _ => rfl
  have hfb : ∀ b, roomsB m xs n = b → formedB m xs = (b && (decide (n = 0) || decide (0 < xs.getD (n - 1) 0))) := fun b h => by
    unfold formedB
    rw [hx, h]
  have HR := Lib.hid hR
  have Hr := Lib.hid hr
  have Hstep := Lib.hid hstep
  have Hno := Lib.hid hno
  have Hok := Lib.hid hok
  have Hfb := Lib.hid hfb
  clear hR hr hstep hno hok hfb hx
  go_enter Try.func47, Try.ntmps47
  go_wp2
  go_loopw [5] (fun i wr => ∃ k q : Nat, k ≤ n ∧ i = .int .i64 k ∧ Hid (roomsB m xs k = true) ∧ wr = w.drewN q) (fun i _ => n - (intOf i).toNat)
  case atStart => exact ⟨0, 0, Nat.zero_le _, rfl, rfl, rfl⟩
  case round =>
    obtain ⟨k, q, hk, rfl, HB, hw⟩ := hrel
    subst wr
    by_cases hlt : k < n
    · have hc : (k : Int) < (n : Int) := by omega
      obtain ⟨g, rfl, cx⟩ := Hr.out.int hlt
      have hok := Hok.out k
      have hst := Hstep.out k
      rw [HB.out, Bool.true_and] at hst
      have hno := Hno.out k hlt
      have hC := fun w => HR.out k (by omega) w
      generalize xs.getD k 0 = y at cx hok hst hno
      generalize roomN m k = l at hok hC
      have hgo : k + 1 ≤ n ∧ k < n := by omega
      have Hgo := Lib.hid hgo
      have HC := Lib.hid hC
      clear hC
      by_cases hy : 0 ≤ y ∧ y < l
      · have hb := hok.trans (decide_eq_true hy)
        rw [hb] at hst
        have HS := Lib.hid hst
        have h1 : decide (y < 0) = false := decide_eq_false (by omega)
        have h2 : decide (y ≥ (l : Int)) = false := decide_eq_false (by omega)
        have h3 : decide ((l : Int) ≤ y) = false := decide_eq_false (by omega)
        clear hok hst hno hb hgo hy HB
        go_wp2
        go_quiet ((go_at_call 60; with_reducible exact quiet_still (HC.out _)))
        go_wp2
        go_roundw
        case rel => exact ⟨k + 1, _, Hgo.out.1, by go_num, HS, by first | rfl | exact World.drewN_drewN _ _ _ | trivial⟩
        case measure => exact mz_upn Hgo.out.2
      · have hb := hok.trans (decide_eq_false hy)
        have hf := Hfb.out _ (hno hb)
        have HF := Lib.hid hf
        clear hok hst hno hb hgo hf HB
        by_cases h1 : y < 0
        · have h2 : decide (y < 0) = true := decide_eq_true h1
          clear hy h1
          go_wp2
          go_quiet (fail)
          go_wp2
          go_ret
          exact ⟨ret_bool HF.out.symm, _, by first | rfl | exact World.drewN_drewN _ _ _ | trivial⟩
        · have h2 : decide (y < 0) = false := decide_eq_false h1
          have h3 : decide (y ≥ (l : Int)) = true := decide_eq_true (by omega)
          have h4 : decide ((l : Int) ≤ y) = true := decide_eq_true (by omega)
          clear hy h1
          go_wp2
          go_quiet ((go_at_call 60; with_reducible exact quiet_still (HC.out _)))
          go_wp2
          go_ret
          exact ⟨ret_bool HF.out.symm, _, by first | rfl | exact World.drewN_drewN _ _ _ | trivial⟩
    · have hkn : k = n := by omega
      subst k
      have hc : ¬ (n : Int) < (n : Int) := by omega
      have hf := Hfb.out _ HB.out
      rw [Bool.true_and] at hf
      by_cases h0 : n = 0
      · subst h0
        rw [decide_eq_true rfl, Bool.true_or] at hf
        have HF := Lib.hid hf
        clear hf HB
        go_wp2
        go_ret
        exact ⟨ret_bool HF.out.symm, _, rfl⟩
      · rw [decide_eq_false h0, Bool.false_or] at hf
        obtain ⟨p, hp, hpn, hw1, hw2⟩ := last_num (n := n) (by omega) (by omega)
        rw [hp] at hf
        obtain ⟨g, rfl, cx⟩ := Hr.out.int hpn
        generalize xs.getD p 0 = y at hf cx
        have hpi : (p : Int) < (n : Int) := by omega
        have hz : ((n : Int) == 0) = false := by rw [beq_eq_false_iff_ne]; omega
        have HF := Lib.hid hf
        clear hf HB hp h0 hlt
        by_cases hy : 0 < y
        · have hy1 : y > 0 := hy
          have HY := Lib.hid hy
          go_wp2
          go_ret
          exact ⟨ret_bool (by rw [HF.out]; simp [HY.out]), _, rfl⟩
        · have hy1 : ¬ y > 0 := hy
          have HY := Lib.hid hy
          go_wp2
          go_ret
          exact ⟨ret_bool (by rw [HF.out]; simp [HY.out]), _, rfl⟩
end Go.Proofs.Ythmdlkaanjjbkaa
