/- The reference's falling, Room and Degree. -/
import Derived.Test.YthmdlkaanjjbkaaTam
namespace Go.Proofs.Ythmdlkaanjjbkaa
set_option linter.unusedVariables false
open Go.RowKit

theorem fallN_lt {m : Nat} (hm : 2 ≤ m) (x : Nat) : ∀ k, fallN m x k < m
  | 0 => by show 1 < m; omega
  | k + 1 => Nat.mod_lt _ (by omega)
theorem fall_num {m x p k p2 : Nat} (hm : 2 ≤ m) (hm2 : m ≤ 64) (hx : x ≤ 100) (hk : k ≤ 100) (hp : p < m) (h : p * (x - k) % m = p2) : p2 < m ∧ IntKind.i64.wrap ((x : Int) - (k : Int)) = (x : Int) - (k : Int) ∧ wrap64 ((x : Int) - (k : Int)) = (x : Int) - (k : Int) ∧ max ((x : Int) - (k : Int)) 0 = ((x - k : Nat) : Int) ∧ ∃ q : Nat, IntKind.i64.wrap ((p : Int) * ((x - k : Nat) : Int)) = (q : Int) ∧ wrap64 ((p : Int) * ((x - k : Nat) : Int)) = (q : Int) ∧ Int.tmod (q : Int) (m : Int) = (p2 : Int) ∧ IntKind.i64.wrap (p2 : Int) = (p2 : Int) ∧ wrap64 (p2 : Int) = (p2 : Int) := by
  have h1 : p * (x - k) ≤ 64 * 100 := Nat.mul_le_mul (by omega) (by omega)
  have h2 : p * (x - k) % m < m := Nat.mod_lt _ (by omega)
  subst h
  refine ⟨h2, IntWalk.i64_in _ (by omega), IntWalk.wrap64_in _ (by omega), by omega, p * (x - k), ?_, ?_, (tmod_nat _ _), IntWalk.i64_in _ (by omega), IntWalk.wrap64_in _ (by omega)⟩
  · rw [← Int.natCast_mul]; exact IntWalk.i64_in _ (by omega)
  · rw [← Int.natCast_mul]; exact IntWalk.wrap64_in _ (by omega)
theorem zero_no {m : Nat} (hm : 2 ≤ m) : ((m : Int) == 0) = false ∧ ¬ (m : Int) = 0 := ⟨by rw [beq_eq_false_iff_ne]; omega, by omega⟩
set_option maxRecDepth 100000 in
set_option maxHeartbeats 4000000 in
theorem falling_any (m x i : Nat) (w : World) (hm : 2 ≤ m) (hm2 : m ≤ 64) (hx : x ≤ 100) (hi : i ≤ 100) :
    Calls Try.prog 86 #[.int .i64 m, .int .i64 x, .int .i64 i] w fun e w' => e = .returned (.int .i64 (fallN m x i : Nat)) ∧ w' = w := by
  go_enter Try.func86, Try.ntmps86
  go_wp2
  go_loopw [7, 8] (fun o k wr => ∃ k' : Nat, k' ≤ i ∧ k = .int .i64 k' ∧ o = .int .i64 (fallN m x k' : Nat) ∧ wr = w) (fun _ k _ => i - (intOf k).toNat)
  case atStart => exact ⟨0, Nat.zero_le _, rfl, rfl, rfl⟩
  case round =>
    obtain ⟨k, hk, rfl, rfl, hw⟩ := hrel
    subst wr
    by_cases hlt : k < i
    · have hc : (k : Int) < (i : Int) := by omega
      have hp := fallN_lt hm x k
      obtain ⟨p2, hp2⟩ : ∃ p2, fallN m x (k + 1) = p2 := ⟨_, rfl⟩
      have hpp : fallN m x k * (x - k) % m = p2 := hp2
      generalize fallN m x k = p at hp hpp
      have hk1 : k ≤ 100 := by omega
      have hgo : k + 1 ≤ i := by omega
      obtain ⟨z1, z2⟩ := zero_no hm
      obtain ⟨f1, f2, f3, f4, q, f5, f6, f7, f8, f9⟩ := fall_num hm hm2 hx hk1 hp hpp
      have Hp2 := Lib.hid hp2
      have Hlt := Lib.hid hlt
      have Hgo := Lib.hid hgo
      clear hpp hp2 hp f1 hgo hk1 hlt
      go_wp2
      go_roundw
      case rel => exact ⟨k + 1, Hgo.out, by go_num, by rw [Hp2.out], trivial⟩
      case measure => exact mz_upn Hlt.out
    · obtain rfl : k = i := by omega
      have hc : ¬ (k : Int) < (k : Int) := by omega
      go_wp2
      go_ret
      exact ⟨rfl, rfl⟩
theorem gcd_no {m p l : Nat} (hm : 2 ≤ m) (hm2 : m ≤ 64) (h : m / Nat.gcd m p = l) : l ≤ 64 ∧ (((Nat.gcd m p : Nat) : Int) == 0) = false ∧ ¬ ((Nat.gcd m p : Nat) : Int) = 0 ∧ Int.tdiv (m : Int) ((Nat.gcd m p : Nat) : Int) = (l : Int) ∧ IntKind.i64.wrap (l : Int) = (l : Int) ∧ wrap64 (l : Int) = (l : Int) := by
  have h1 := Nat.gcd_pos_of_pos_left p (show 0 < m by omega)
  have h2 : m / Nat.gcd m p ≤ m := Nat.div_le_self _ _
  rw [h] at h2
  refine ⟨by omega, by rw [beq_eq_false_iff_ne]; omega, by omega, ?_, IntWalk.i64_in _ (by omega), IntWalk.wrap64_in _ (by omega)⟩
  rw [Int.tdiv_eq_ediv_of_nonneg (by omega), ← h]; rfl
set_option maxRecDepth 100000 in
set_option maxHeartbeats 4000000 in
theorem Room_any (m i : Nat) (w : World) (hm : 2 ≤ m) (hm2 : m ≤ 64) (hi : i ≤ 100) :
    Calls Try.prog 60 #[.int .i64 m, .int .i64 i] w fun e w' => e = .returned (.int .i64 (roomN m i : Nat)) ∧ w' = w := by
  have hF := fun w => falling_any m i i w hm hm2 hi hi
  rw [fallN_prodP hm] at hF
  have hpl : prodP m i < m := by rw [← fallN_prodP hm]; exact fallN_lt hm i i
  have hG := fun w => refGcd_any m (prodP m i) (by omega) (by omega) w
  have hl : m / Nat.gcd m (prodP m i) = roomN m i := rfl
  generalize roomN m i = l at hl ⊢
  obtain ⟨_, g1, g2, g3, g4, g5⟩ := gcd_no hm hm2 hl
  generalize prodP m i = p at *
  generalize Nat.gcd m p = g at *
  have HF := Lib.hid hF
  have HG := Lib.hid hG
  clear hF hG hl hpl
  go_enter Try.func60, Try.ntmps60
  go_wp2_with fail
  refine (HF.out _).mono ?_
  rintro e w1 ⟨rfl, hw⟩
  subst w1
  go_wp2_with fail
  refine (HG.out _).mono ?_
  rintro e w1 ⟨rfl, hw⟩
  subst w1
  go_wp2
  go_ret
  exact ⟨rfl, rfl⟩
set_option maxRecDepth 100000 in
set_option maxHeartbeats 4000000 in
theorem refDegree_any (m : Nat) (w : World) (hm : 2 ≤ m) (hm2 : m ≤ 64) :
    Calls Try.prog 46 #[.int .i64 m] w fun e w' => e = .returned (.int .i64 (degN m : Nat)) ∧ w' = w := by
  obtain ⟨d1, d2, d3, d4, d5⟩ := deg_facts ⟨m, by omega⟩ hm
  simp only at d1 d2 d5
  have hroom : ∀ i, i < degN m → 2 ≤ roomN m i := fun i hi => (d4 ⟨i, by omega⟩ hi).2
  generalize degN m = d at *
  have HR := Lib.hid fun (i : Nat) (hi : i ≤ 100) w => Room_any m i w hm hm2 hi
  have Hroom := Lib.hid hroom
  have Hd5 := Lib.hid d5
  clear hroom d3 d4 d5
  go_enter Try.func46, Try.ntmps46
  go_wp2
  go_loopw [3] (fun n wr => ∃ k : Nat, 1 ≤ k ∧ k ≤ d ∧ n = .int .i64 k ∧ wr = w) (fun n _ => d - (intOf n).toNat)
  case atStart => exact ⟨1, by omega, by omega, rfl, rfl⟩
  case round =>
    obtain ⟨k, hk1, hk, rfl, hw⟩ := hrel
    subst wr
    have hC := fun w => HR.out k (by omega) w
    have HC := Lib.hid hC
    clear hC
    by_cases hlt : k < d
    · have h2 := Hroom.out k hlt
      obtain ⟨l, hl⟩ : ∃ l, roomN m k = l := ⟨_, rfl⟩
      rw [hl] at h2 HC
      have hgt : (l : Int) > 1 := by omega
      have hgo : 1 ≤ k + 1 ∧ k + 1 ≤ d := by omega
      have hk9 : k ≤ 100 := by omega
      have Hgo := Lib.hid hgo
      have Hlt := Lib.hid hlt
      clear hl hgo hlt h2
      go_wp2_with fail
      refine (HC.out _).mono ?_
      rintro e w1 ⟨rfl, hw⟩
      subst w1
      go_wp2
      go_roundw
      case rel => exact ⟨k + 1, Hgo.out.1, Hgo.out.2, by go_num, trivial⟩
      case measure => exact mz_upn Hlt.out
    · obtain rfl : k = d := by omega
      rw [Hd5.out] at HC
      go_wp2_with fail
      refine (HC.out _).mono ?_
      rintro e w1 ⟨rfl, hw⟩
      subst w1
      go_wp2
      go_ret
      exact ⟨rfl, rfl⟩
end Go.Proofs.Ythmdlkaanjjbkaa
