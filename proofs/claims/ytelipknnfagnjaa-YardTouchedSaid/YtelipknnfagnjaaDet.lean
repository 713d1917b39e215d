/- mod and tame, told by what they are given; what is below, next and nearest, is one. -/
import Derived.Test.YtelipknnfagnjaaClosem
import Derived.Test.YtelipknnfagnjaaSizem
namespace Go.Proofs.Ytelipknnfagnjaa
set_option linter.unusedVariables false
open Go.RowKit

def modN (x n : Int) : Nat := (modI x n).toNat
theorem modN_lt (x n : Int) (h : 1 ≤ n) : (modN x n : Int) < n := by have := modI_range x n h; unfold modN; omega
theorem mod_det (x n : Int) (w : World) (hx : (Lit.int .i64 x).wf = true) (h1 : 1 ≤ n) (h2 : n ≤ 10000000) :
    Calls Try.prog 46 #[.int .i64 x, .int .i64 n] w fun e w' => e = .returned (.int .i64 (modN x n)) ∧ w = w' := by
  go_enter Try.func46, Try.ntmps46
  go_wp2
  go_ret
  have hr := modI_range x n h1
  refine ⟨ret_int ?_, rfl⟩
  have hm : (modN x n : Int) = modI x n := by unfold modN; omega
  rw [hm, modI, u64_emod, Int.tmod_eq_emod_of_nonneg (Int.emod_nonneg _ (by decide))]
  unfold modI at hr
  exact IntWalk.wrap64_in _ ⟨by omega, by omega⟩

def tamD (q : Int) (most : Nat) : Nat := modN (wrap64 (q - 1)) most
def tamN (p q : Int) (most : Nat) : Nat := modN p (1 + (tamD q most : Int) + 1)
def tamF (p q : Int) (most : Nat) : Nat × Nat := (tamN p q most / Nat.gcd (tamN p q most) (1 + tamD q most), (1 + tamD q most) / Nat.gcd (tamN p q most) (1 + tamD q most))
set_option maxHeartbeats 1000000 in
theorem tame_det (p q : Int) (most : Nat) (w : World) (hp : (Lit.int .i64 p).wf = true) (h1 : 1 ≤ most) (h2 : most ≤ 1000000) :
    (Calls Try.prog 49 #[.agg #[.int .i64 p, .int .i64 q], .int .i64 most] w fun e w' => e = .returned (frV (tamF p q most)) ∧ Below w.heap.size w w') ∧ validB (tamF p q most).1 (tamF p q most).2 = true ∧ (tamF p q most).2 ≤ most := by
  have hM := fun w => mod_det (wrap64 (q - 1)) most w (wrap64_wf _) (by omega) (by omega)
  have hd := modN_lt (wrap64 (q - 1)) most (by omega)
  unfold tamF tamN tamD
  generalize modN (wrap64 (q - 1)) most = d at *
  have HM := Lib.hid hM
  clear hM
  have hN := fun w => mod_det p (1 + (d : Int) + 1) w hp (by omega) (by omega)
  have hn := modN_lt p (1 + (d : Int) + 1) (by omega)
  generalize modN p (1 + (d : Int) + 1) = n at *
  have HN := Lib.hid hN
  clear hN
  have hG := fun w => refGcd_any n (1 + d) (by omega) (by omega) w
  rw [show ((1 + d : Nat) : Int) = 1 + (d : Int) by omega] at hG
  have hg1 : 0 < Nat.gcd n (1 + d) := Nat.gcd_pos_of_pos_right _ (by omega)
  have d1 := Nat.gcd_dvd_left n (1 + d)
  have d2 := Nat.gcd_dvd_right n (1 + d)
  have hcop := Nat.gcd_div_gcd_div_gcd_of_pos_right (n := n) (m := 1 + d) (by omega)
  generalize Nat.gcd n (1 + d) = g at *
  have e1 := Nat.div_mul_cancel d1
  have e2 := Nat.div_mul_cancel d2
  have la : n / g ≤ n := Nat.div_le_self _ _
  have lb : (1 + d) / g ≤ 1 + d := Nat.div_le_self _ _
  have t1 : Int.tdiv (n : Int) g = (n / g : Nat) := tdivN rfl
  have t2 : Int.tdiv (1 + (d : Int)) g = ((1 + d) / g : Nat) := by rw [show 1 + (d : Int) = ((1 + d : Nat) : Int) by omega]; exact tdivN rfl
  have hb1 : 1 ≤ (1 + d) / g := Nat.div_pos (Nat.le_of_dvd (by omega) d2) hg1
  have hab : n / g ≤ (1 + d) / g := Nat.div_le_div_right (by omega)
  generalize n / g = a at *
  generalize (1 + d) / g = b at *
  have hv := valid_of hb1 (by omega) hab hcop
  refine ⟨?_, hv, by simp only; omega⟩
  have HG := Lib.hid hG
  have hg0 : ¬ (g : Int) = 0 := by omega
  have hgb : ((g : Int) == 0) = false := by simpa using hg0
  clear hG d1 d2 e1 e2 hcop hv
  go_enter Try.func49, Try.ntmps49
  go_wp2_with fail
  refine (HM.out _).mono ?_
  rintro e w1 ⟨rfl, rfl⟩
  go_wp2_with fail
  refine (HN.out _).mono ?_
  rintro e w1 ⟨rfl, rfl⟩
  go_wp2_with fail
  refine (HG.out _).mono ?_
  rintro e w1 ⟨rfl, rfl⟩
  go_wp2_with fail
  have i1 : IntKind.i64.wrap (a : Int) = a := iN (by omega)
  have i2 : IntKind.i64.wrap (b : Int) = b := iN (by omega)
  go_region
  go_wp2
  exact bodyPost_ret (v := frV (a, b)) (by simp [results, Try.results49, go_sem, frV]) rfl ⟨rfl, (b_next (below_alloc _ _) (below_alloc _ _)).drew⟩

theorem below_ex (N : Nat) (x : Nat × Nat) : ∃ k, BelowSpec N x k := by
  obtain ⟨k, h1, h2, h3⟩ := least_idx (P := fun k => k = len N ∨ lessF (fr N k) x = false) (n := len N) (.inl rfl)
  refine ⟨k, h1, fun i hi => ?_, fun h => ?_⟩
  · have := h3 i hi
    cases hc : lessF (fr N i) x with
    | true => rfl
    | false => exact absurd (.inr hc) this
  · rcases h2 with h2 | h2
    · omega
    · exact h2
theorem below_uniq {N : Nat} {x : Nat × Nat} {a b : Nat} (ha : BelowSpec N x a) (hb : BelowSpec N x b) : a = b := by
  obtain ⟨a1, a2, a3⟩ := ha
  obtain ⟨b1, b2, b3⟩ := hb
  rcases Nat.lt_trichotomy a b with h | h | h
  · have := a3 (by omega); rw [b2 a h] at this; cases this
  · exact h
  · have := b3 (by omega); rw [a2 b h] at this; cases this
theorem next_ex (N : Nat) (x : Nat × Nat) : ∃ r, NextSpec N x r := by
  obtain ⟨k, h1, h2, h3⟩ := least_idx (P := fun k => k = len N ∨ lessF x (fr N k) = true) (n := len N) (.inl rfl)
  have h4 : ∀ i, i < k → lessF x (fr N i) = false := fun i hi => by
    have := h3 i hi
    cases hc : lessF x (fr N i) with
    | false => rfl
    | true => exact absurd (.inr hc) this
  rcases Nat.lt_or_eq_of_le h1 with h | h
  · rcases h2 with h2 | h2
    · omega
    · exact ⟨_, .inl ⟨k, h, h2, h4, rfl⟩⟩
  · subst h; exact ⟨_, .inr ⟨h4, rfl⟩⟩
theorem next_uniq {N : Nat} {x : Nat × Nat} {a b : (Nat × Nat) × Int} (ha : NextSpec N x a) (hb : NextSpec N x b) : a = b := by
  rcases ha with ⟨i, h1, h2, h3, rfl⟩ | ⟨h3, rfl⟩ <;> rcases hb with ⟨j, k1, k2, k3, rfl⟩ | ⟨k3, rfl⟩
  · rcases Nat.lt_trichotomy i j with h | h | h
    · have := k3 i h; rw [h2] at this; cases this
    · subst h; rfl
    · have := h3 j h; rw [k2] at this; cases this
  · have := k3 i h1; rw [h2] at this; cases this
  · have := h3 j k1; rw [k2] at this; cases this
  · rfl
theorem Next_det {N p q : Nat} {r : (Nat × Nat) × Int} (h1 : 1 ≤ N) (h3 : N ≤ 300) (hv : validB p q = true) (hr : NextSpec N (p, q) r) (w : World) :
    Calls Try.prog 20 #[.int .i64 N, .agg #[.int .i64 p, .int .i64 q]] w fun e w' => e = .returned (.tuple #[.agg #[.int .i64 r.1.1, .int .i64 r.1.2], .int .i64 r.2]) ∧ Below w.heap.size w w' :=
  (Next_yes N p q h1 h3 hv w).mono fun e w' ⟨⟨r', hr', he⟩, hb⟩ => ⟨by rw [he, next_uniq hr' hr]; rfl, hb⟩
theorem Before_det {N p q k : Nat} (h1 : 1 ≤ N) (h3 : N ≤ 300) (hv : validB p q = true) (hk : BelowSpec N (p, q) k) (w : World) :
    Calls Try.prog 21 #[.int .i64 N, .agg #[.int .i64 p, .int .i64 q]] w fun e w' => e = .returned (.tuple #[.agg #[.int .i64 (beforeR N k).1.1, .int .i64 (beforeR N k).1.2], .int .i64 (beforeR N k).2]) ∧ Below w.heap.size w w' :=
  (Before_yes N p q h1 h3 hv w).mono fun e w' ⟨⟨k', hk', he⟩, hb⟩ => ⟨by rw [he, below_uniq hk' hk]; rfl, hb⟩
theorem Below_det {N p q k : Nat} (h1 : 1 ≤ N) (h3 : N ≤ 300) (hv : validB p q = true) (hk : BelowSpec N (p, q) k) (w : World) :
    Calls Try.prog 19 #[.int .i64 N, .agg #[.int .i64 p, .int .i64 q]] w fun e w' => e = .returned (.tuple #[.int .i64 k, .int .i64 0]) ∧ Below w.heap.size w w' :=
  (Below_yes N p q h1 h3 hv w).mono fun e w' ⟨⟨k', hk', he⟩, hb⟩ => ⟨by rw [he, below_uniq hk' hk], hb⟩
/-- of two nearest fractions none is nearer: they are one -/
theorem near_uniq {N : Nat} {f a b : Nat × Nat} (h1 : 1 ≤ N) (ha : NearSpec N f a) (hb : NearSpec N f b) : a = b := by
  obtain ⟨⟨i, hi, rfl⟩, h2⟩ := ha
  obtain ⟨⟨j, hj, rfl⟩, k2⟩ := hb
  have n1 := h2 j hj
  have n2 := k2 i hi
  unfold Nearer at n1 n2
  have e1 : (fr N i).2 = (fr N j).2 := by omega
  have e2 : (fr N i).1 = (fr N j).1 := by rw [e1] at n1 n2; omega
  exact Prod.ext e2 e1
theorem ref_less {a b c d : Nat} (ha : a ≤ 1000000) (hb : b ≤ 1000000) (hc : c ≤ 1000000) (hd : d ≤ 1000000) (w : World) :
    Calls Try.prog 34 #[.agg #[.int .i64 a, .int .i64 b], .agg #[.int .i64 c, .int .i64 d]] w fun e w' => e = .returned (.bool (lessF (a, b) (c, d))) ∧ Below w.heap.size w w' :=
  refLess_any (a, b) (c, d) ⟨by simp only; omega, by simp only; omega⟩ ⟨by simp only; omega, by simp only; omega⟩ w
end Go.Proofs.Ytelipknnfagnjaa
