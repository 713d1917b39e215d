/- The statements' mod, tame and rest, and the reference's Simpler. -/
import Derived.Test.YtfelmjanffhahaaDoorWrp
namespace Go.Proofs.YtfelmjanffhahaaDoor
set_option linter.unusedVariables false
open Go.RowKit

def modI (x n : Int) : Int := x % 18446744073709551616 % n
theorem modI_range (x n : Int) (h : 1 ≤ n) : 0 ≤ modI x n ∧ modI x n < n := ⟨Int.emod_nonneg _ (by omega), Int.emod_lt_of_pos _ (by omega)⟩
theorem u64_emod (x : Int) : IntKind.u64.wrap x = x % 18446744073709551616 := by simp [IntKind.wrap, IntKind.signed, IntKind.bits]
theorem mod_any (x n : Int) (w : World) (hx : (Lit.int .i64 x).wf = true) (h1 : 1 ≤ n) (h2 : n ≤ 10000000) :
    Calls Tryd.prog 29 #[.int .i64 x, .int .i64 n] w fun e w' => (∃ m : Nat, e = .returned (.int .i64 m) ∧ m < n) ∧ w = w' := by
  go_enter Tryd.func29, Tryd.ntmps29
  go_wp2
  go_ret
  have hr := modI_range x n h1
  obtain ⟨m, hm⟩ := Int.eq_ofNat_of_zero_le hr.1
  refine ⟨⟨m, ret_int ?_, by omega⟩, rfl⟩
  rw [← hm, modI, u64_emod, Int.tmod_eq_emod_of_nonneg (Int.emod_nonneg _ (by decide))]
  unfold modI at hr
  exact IntWalk.wrap64_in _ ⟨by omega, by omega⟩


set_option maxHeartbeats 1000000 in
theorem tame_any (p q : Int) (most : Nat) (w : World) (hp : (Lit.int .i64 p).wf = true) (h1 : 1 ≤ most) (h2 : most ≤ 1000000) :
    Calls Tryd.prog 10 #[.agg #[.int .i64 p, .int .i64 q], .int .i64 most] w fun e w' => (∃ a b : Nat, e = .returned (frV (a, b)) ∧ validB a b = true ∧ b ≤ most) ∧ Below w.heap.size w w' := by
  have hM := fun w => mod_any (wrap64 (q - 1)) most w (wrap64_wf _) (by omega) (by omega)
  have HM := Lib.hid hM
  clear hM
  go_enter Tryd.func10, Tryd.ntmps10
  go_wp2_with fail
  refine (HM.out _).mono ?_
  rintro e w1 ⟨⟨d, rfl, hd⟩, rfl⟩
  have hN := fun w => mod_any p (1 + (d : Int) + 1) w hp (by omega) (by omega)
  have HN := Lib.hid hN
  clear hN
  go_wp2_with fail
  refine (HN.out _).mono ?_
  rintro e w1 ⟨⟨n, rfl, hn⟩, rfl⟩
  have hG := fun w => refGcd_any n (1 + d) (by omega) (by omega) w
  rw [show ((1 + d : Nat) : Int) = 1 + (d : Int) by omega] at hG
  have hg1 : 0 < Nat.gcd n (1 + d) := Nat.gcd_pos_of_pos_right _ (by omega)
  have d1 := Nat.gcd_dvd_left n (1 + d)
  have d2 := Nat.gcd_dvd_right n (1 + d)
  have hcop := Nat.gcd_div_gcd_div_gcd_of_pos_right (n := n) (m := 1 + d) (by omega)
  obtain ⟨g, hg⟩ : ∃ g, Nat.gcd n (1 + d) = g := ⟨_, rfl⟩
  rw [hg] at hG hg1 d1 d2 hcop
  have e1 := Nat.div_mul_cancel d1
  have e2 := Nat.div_mul_cancel d2
  obtain ⟨a, ha⟩ : ∃ a, n / g = a := ⟨_, rfl⟩
  obtain ⟨b, hb⟩ : ∃ b, (1 + d) / g = b := ⟨_, rfl⟩
  have la : a ≤ n := by rw [← ha]; exact Nat.div_le_self _ _
  have lb : b ≤ 1 + d := by rw [← hb]; exact Nat.div_le_self _ _
  have t1 : Int.tdiv (n : Int) g = a := tdivN ha
  have t2 : Int.tdiv (1 + (d : Int)) g = b := by rw [show 1 + (d : Int) = ((1 + d : Nat) : Int) by omega]; exact tdivN hb
  have HG := Lib.hid hG
  have hb1 : 1 ≤ b := by rw [← hb]; exact Nat.div_pos (Nat.le_of_dvd (by omega) d2) hg1
  have hab : a ≤ b := by rw [← ha, ← hb]; exact Nat.div_le_div_right (by omega)
  rw [ha, hb] at hcop
  have HV := Lib.hid (valid_of hb1 (by omega) hab hcop)
  have hg0 : ¬ (g : Int) = 0 := by omega
  have hgb : ((g : Int) == 0) = false := by simpa using hg0
  clear hG d1 d2 e1 e2 hg ha hb hcop
  go_wp2_with fail
  refine (HG.out _).mono ?_
  rintro e w1 ⟨rfl, rfl⟩
  go_wp2_with fail
  have i1 : IntKind.i64.wrap (a : Int) = a := iN (by omega)
  have i2 : IntKind.i64.wrap (b : Int) = b := iN (by omega)
  go_region
  go_wp2
  exact bodyPost_ret (v := frV (a, b)) (by simp [results, Tryd.results10, go_sem, frV]) rfl ⟨⟨a, b, rfl, HV.out, by omega⟩, (b_next (below_alloc _ _) (below_alloc _ _)).drew⟩

set_option maxHeartbeats 1000000 in
theorem rest_any (a b : Nat) (hv : validB a b = true) (w : World) :
    Calls Tryd.prog 14 #[frV (a, b)] w fun e w' => e = .returned (frV (b - a, b)) ∧ Below w.heap.size w w' := by
  obtain ⟨a', b', e1, e2, k1, k2, k3, k4⟩ := valid_nat hv
  obtain rfl : a = a' := by omega
  obtain rfl : b = b' := by omega
  have hs : (b : Int) - a = ((b - a : Nat) : Int) := by omega
  have hw : wrap64 ((b : Int) - a) = ((b - a : Nat) : Int) := by rw [hs]; exact wN (by omega)
  unfold frV
  simp only
  clear e1 e2 k4 hv
  go_enter Tryd.func14, Tryd.ntmps14
  go_wp2_with fail
  exact bodyPost_ret (v := frV (b - a, b)) (by simp [results, Tryd.results14, go_sem, frV]) rfl ⟨rfl, b_next (below_alloc _ _) (below_alloc _ _)⟩
theorem rest_valid {a b : Nat} (hv : validB a b = true) : validB (b - a : Nat) b = true := by
  obtain ⟨a', b', e1, e2, k1, k2, k3, k4⟩ := valid_nat hv
  obtain rfl : a = a' := by omega
  obtain rfl : b = b' := by omega
  exact valid_of k1 k2 (by omega) (by rw [Nat.gcd_comm, Nat.gcd_self_sub_right k3, Nat.gcd_comm]; exact k4)

def simplerB (x y : Nat × Nat) : Bool := decide (x.2 < y.2) || decide (x.2 = y.2) && decide (x.1 < y.1)
end Go.Proofs.YtfelmjanffhahaaDoor
