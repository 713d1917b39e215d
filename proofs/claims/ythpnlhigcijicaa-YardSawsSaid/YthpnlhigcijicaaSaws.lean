/- YardSaws. -/
import Derived.Test.YthpnlhigcijicaaAwake
import Derived.Test.YthpnlhigcijicaaTame
import Derived.Test.YthpnlhigcijicaaSawr
import Derived.ProofKit
import Derived.OpenShut
import Derived.ShutString
import Derived.ChangeOld
import Derived.Lib.SmallJoins
namespace Go.Proofs.Ythpnlhigcijicaa
set_option linter.unusedVariables false
open Go.RowKit Go.Shelf

theorem saw_call {a b : Nat} {x : Int} {y : Nat} (hv : validB a b = true) (hk : b ≤ 1000) (h : sawV a b = (x, y)) (w : World) :
    Calls Try.prog 38 #[.agg #[.int .i64 a, .int .i64 b]] w fun e w' => e = .returned (.tuple #[.int .i64 x, .int .i64 y, .int .i64 0]) ∧ Below w.heap.size w w' := by
  have := Saw_yes a b hv hk w
  rw [h] at this
  exact this

theorem w4kk {k kk : Nat} (h : k * k = kk) (hk : kk ≤ 1000000) : wrap64 (4 * (k : Int) * k) = ((4 * kk : Nat) : Int) ∧ wrap64 (-(k : Int) * k) = -(kk : Int) := by
  have e : (k : Int) * k = kk := by rw [← Int.natCast_mul, h]
  rw [Int.mul_assoc, Int.neg_mul, e]
  exact ⟨by rw [show (4 : Int) * kk = ((4 * kk : Nat) : Int) by simp]; exact wN (by omega), wI ⟨by omega, by omega⟩⟩

theorem saw_near {h k : Nat} {x : Int} {y : Nat} (hg : Nat.gcd h k = 1) (hk : 1 ≤ k) (hh : h ≤ k) (hs : sawV h k = (x, y)) (hk2 : k ≤ 1000) : 1 ≤ y ∧ y ≤ 4 * k * k ∧ x.natAbs ≤ k * k ∧ Nat.gcd x.natAbs y = 1 ∧ y ≤ 4000000 ∧ -1000000 ≤ x ∧ x ≤ 1000000 ∧ k * k ≤ 1000000 := by
  obtain ⟨g, c, _, _, _, _, h1, h2, h3, h4⟩ := saw_facts hg hk hh
  rw [hs] at h1 h2 h3 h4
  simp only at h1 h2 h3 h4
  have hkk : k * k ≤ 1000 * 1000 := Nat.mul_le_mul hk2 hk2
  rw [Nat.mul_assoc] at h2
  refine ⟨h1, by rw [Nat.mul_assoc]; exact h2, h3, h4, by omega, by omega, by omega, hkk⟩

theorem saw_end {h k : Nat} {x : Int} {y : Nat} (hg : Nat.gcd h k = 1) (hk : 1 ≤ k) (hh : h ≤ k) (hs : sawV h k = (x, y)) (hend : ¬ (1 ≤ h ∧ h < k)) : x = 0 ∧ y = 1 := by
  have e : k = 1 := by
    rcases Nat.eq_zero_or_pos h with e | e
    · subst e; simpa using hg
    · obtain rfl : h = k := by omega
      simpa using hg
  subst e
  have : sawV h 1 = (0, 1) := by
    simp [sawV, sawG, sawS]
  rw [this] at hs
  cases hs
  exact ⟨rfl, rfl⟩

theorem saws_num {h k : Nat} {x : Int} {y : Nat} (hg : Nat.gcd h k = 1) (hk : 1 ≤ k) (hh : h ≤ k) (hs : sawV h k = (x, y)) (hk2 : k ≤ 1000) : ∃ kk : Nat, kk ≤ 1000000 ∧ wrap64 ((k : Int) * k) = kk ∧ wrap64 (4 * (k : Int) * k) = ((4 * kk : Nat) : Int) ∧
    wrap64 (-(k : Int) * k) = -(kk : Int) ∧ max x (-x) = (x.natAbs : Int) ∧ x ≤ kk ∧ -(kk : Int) ≤ x ∧ y ≤ 4 * kk ∧ 1 ≤ y ∧ y ≤ 4000000 ∧ -1000000 ≤ x ∧ x ≤ 1000000 ∧ x.natAbs ≤ 1000000 ∧
    Hid (∀ w : World, Calls Try.prog 47 #[.int .i64 (x.natAbs : Nat), .int .i64 y] w fun e w' => e = .returned (.int .i64 1) ∧ w' = w) := by
  obtain ⟨m1, m2, m3, m4, m5, m6, m7, m8⟩ := saw_near hg hk hh hs hk2
  obtain ⟨kk, hkk⟩ : ∃ n, k * k = n := ⟨_, rfl⟩
  rw [Nat.mul_assoc, hkk] at m2
  rw [hkk] at m3 m8
  obtain ⟨n2, n3⟩ := w4kk hkk m8
  refine ⟨kk, m8, wmul hkk (by omega), n2, n3, by omega, by omega, by omega, m2, m1, m5, m6, m7, by omega, ?_⟩
  have hG := fun w => refGcd_any x.natAbs y (by omega) (by omega) w
  rw [m4] at hG
  exact Lib.hid hG

theorem saws_fin {h k r : Nat} {x u : Int} {y v : Nat} (hg : Nat.gcd h k = 1) (h1 : 1 ≤ h) (hk : h < k) (hk2 : k ≤ 1000) (hr : k % h = r) (hs : sawV h k = (x, y)) (hs2 : sawV r h = (u, v)) :
    ∃ (N c e M hh kk : Nat) (X1 X2 : Int), wrap64 (12 * (h : Int) * k) = N ∧ Int.tmod (N : Int) y = 0 ∧ Int.tmod (N : Int) v = 0 ∧ Int.tdiv (N : Int) y = c ∧ Int.tdiv (N : Int) v = e ∧ wrap64 ((c : Int) * x) = X1 ∧ wrap64 ((e : Int) * u) = X2 ∧
      wrap64 (3 * (h : Int) * k) = M ∧ wrap64 ((h : Int) * h) = hh ∧ wrap64 ((k : Int) * k) = kk ∧ N ≤ 12000000 ∧ M ≤ 3000000 ∧ hh ≤ 1000000 ∧ kk ≤ 1000000 ∧ -20000000000000 ≤ X1 ∧ X1 ≤ 20000000000000 ∧ -20000000000000 ≤ X2 ∧ X2 ≤ 20000000000000 ∧ ((X1 + X2 == (hh : Int) + kk + 1 - M) = true) := by
  have hgr : Nat.gcd r h = 1 := by rw [← hr, ← Nat.gcd_rec]; exact hg
  obtain ⟨a1, _, _, _, _, a6, a7, _⟩ := saw_near hg (by omega) (by omega) hs hk2
  obtain ⟨b1, _, _, _, _, b6, b7, _⟩ := saw_near hgr h1 (by rw [← hr]; exact Nat.le_of_lt (Nat.mod_lt _ h1)) hs2 (by omega)
  obtain ⟨c, e, e1, e2, e3⟩ := saw_rule hg h1 hk
  rw [hs] at e1 e3
  rw [hr, hs2] at e2 e3
  simp only at e1 e2 e3
  have hhk : h * k ≤ 1000 * 1000 := Nat.mul_le_mul (by omega) hk2
  have hhh : h * h ≤ 1000 * 1000 := Nat.mul_le_mul (by omega) (by omega)
  have hkk : k * k ≤ 1000 * 1000 := Nat.mul_le_mul hk2 hk2
  obtain ⟨N, hN⟩ : ∃ N, 12 * h * k = N := ⟨_, rfl⟩
  have hN2 : N ≤ 12000000 := by rw [← hN, Nat.mul_assoc]; omega
  have cN : c ≤ N := by rw [← hN, e1]; exact Nat.le_mul_of_pos_left _ a1
  have eN : e ≤ N := by rw [← hN, e2]; exact Nat.le_mul_of_pos_left _ b1
  have near : ∀ (d : Nat) (z : Int), d ≤ N → -1000000 ≤ z → z ≤ 1000000 → -20000000000000 ≤ (d : Int) * z ∧ (d : Int) * z ≤ 20000000000000 := fun d z hd hz1 hz2 => by
    have : ((d : Int) * z).natAbs ≤ 12000000 * 1000000 := by rw [Int.natAbs_mul]; exact Nat.mul_le_mul (by omega) (by omega)
    omega
  have n1 := near c x cN a6 a7
  have n2 := near e u eN b6 b7
  rw [hN] at e1 e2
  refine ⟨N, c, e, 3 * (h * k), h * h, k * k, c * x, e * u, ?_, ?_, ?_, ?_, ?_, wI ⟨by omega, by omega⟩, wI ⟨by omega, by omega⟩, ?_, wmul rfl (by omega), wmul rfl (by omega), hN2, by omega, hhh, hkk, n1.1, n1.2, n2.1, n2.2, ?_⟩
  · rw [show 12 * (h : Int) * k = ((12 * h * k : Nat) : Int) by simp, hN]; exact wN (by omega)
  · exact tmodN (by rw [e1, Nat.mul_mod_right])
  · exact tmodN (by rw [e2, Nat.mul_mod_right])
  · exact tdivN (by rw [e1, Nat.mul_div_cancel_left _ a1])
  · exact tdivN (by rw [e2, Nat.mul_div_cancel_left _ b1])
  · rw [show 3 * (h : Int) * k = ((3 * (h * k) : Nat) : Int) by simp [Int.mul_assoc]]; exact wN (by omega)
  · rw [beq_iff_eq, e3]
    simp only [Int.natCast_mul, Int.mul_assoc]
    rfl

theorem saws_all {h k r kk : Nat} {x : Int} {y : Nat} (hg : Nat.gcd h k = 1) (h1 : 1 ≤ h) (hk : h < k) (hk2 : k ≤ 1000) (hr : k % h = r) (hs : sawV h k = (x, y)) (hkk : kk ≤ 1000000) (n1 : wrap64 ((k : Int) * k) = kk) :
    ∃ (hh : Nat) (u : Int) (v : Nat), Hid (∀ w : World, Calls Try.prog 38 #[.agg #[.int .i64 r, .int .i64 h]] w fun e w' => e = .returned (.tuple #[.int .i64 u, .int .i64 v, .int .i64 0]) ∧ Below w.heap.size w w') ∧
      Hid (wrap64 ((h : Int) * h) = hh ∧ hh ≤ 1000000 ∧ wrap64 (4 * (h : Int) * h) = ((4 * hh : Nat) : Int) ∧ u ≤ hh ∧ -(hh : Int) ≤ u ∧ v ≤ 4 * hh ∧ 1 ≤ v ∧ v ≤ 4000000 ∧ wrap64 (-(h : Int) * h) = -(hh : Int) ∧ (-1000000 ≤ u ∧ u ≤ 1000000)) ∧
      Hid (∃ (N c d M S1 S2 : Nat) (X1 X2 R : Int), IntKind.i64.wrap (12 * (h : Int)) = 12 * h ∧ IntKind.i64.wrap (12 * (h : Int) * k) = N ∧ Int.tmod (N : Int) y = 0 ∧ Int.tmod (N : Int) v = 0 ∧ Int.tdiv (N : Int) y = c ∧ Int.tdiv (N : Int) v = d ∧
      IntKind.i64.wrap (c : Int) = c ∧ IntKind.i64.wrap (d : Int) = d ∧ IntKind.i64.wrap ((c : Int) * x) = X1 ∧ IntKind.i64.wrap ((d : Int) * u) = X2 ∧ IntKind.i64.wrap (X1 + X2) = R ∧
      IntKind.i64.wrap ((h : Int) * h) = hh ∧ IntKind.i64.wrap ((k : Int) * k) = kk ∧ IntKind.i64.wrap ((hh : Int) + kk) = S1 ∧ IntKind.i64.wrap ((S1 : Int) + 1) = S2 ∧ IntKind.i64.wrap (3 * (h : Int)) = 3 * h ∧ IntKind.i64.wrap (3 * (h : Int) * k) = M ∧ IntKind.i64.wrap ((S2 : Int) - M) = R ∧
       ¬ (v : Int) = 0 ∧ ((v : Int) == 0) = false ∧ ¬ (y : Int) = 0 ∧ ((y : Int) == 0) = false) := by
  have hgr : Nat.gcd r h = 1 := by rw [← hr, ← Nat.gcd_rec]; exact hg
  have hkl : r < h := by rw [← hr]; exact Nat.mod_lt _ h1
  obtain ⟨⟨u, v⟩, hs3⟩ : ∃ z, sawV r h = z := ⟨_, rfl⟩
  obtain ⟨N, c, e, M, hh, k2, X1, X2, q1, q2, q3, q4, q5, q6, q7, q8, q9, q10, q11, q12, q13, q14, q15, q16, q17, q18, q19⟩ := saws_fin hg h1 hk hk2 hr hs hs3
  obtain ⟨h2, r0, r1, r2, r3, rmx, r9, r10, r11, r4, r5, r6, r7, r8, _⟩ := saws_num hgr h1 (Nat.le_of_lt hkl) hs3 (by omega)
  obtain ⟨a1, _, _, _, _, a6, a7, _⟩ := saw_near hg (by omega) (by omega) hs hk2
  obtain rfl : h2 = hh := by rw [q9] at r1; exact (Int.ofNat.inj r1).symm
  obtain rfl : kk = k2 := by rw [q10] at n1; exact (Int.ofNat.inj n1).symm
  have hy0 : ¬ (y : Int) = 0 := by clear q1 q2 q3 q4 q5 q6 q7 q8 q9 q10 r1 r2 r3; omega
  have hv0 : ¬ (v : Int) = 0 := by clear q1 q2 q3 q4 q5 q6 q7 q8 q9 q10 r1 r2 r3; omega
  have hR : X1 + X2 = ((h2 + kk + 1 : Nat) : Int) - M := by rw [beq_iff_eq] at q19; rw [q19]; simp
  have cN : c ≤ N := by have : Int.tdiv (N : Int) y = ((N / y : Nat) : Int) := rfl; rw [q4] at this; have := Int.ofNat.inj this; rw [this]; exact Nat.div_le_self _ _
  have eN : e ≤ N := by have : Int.tdiv (N : Int) v = ((N / v : Nat) : Int) := rfl; rw [q5] at this; have := Int.ofNat.inj this; rw [this]; exact Nat.div_le_self _ _
  have f1 : IntKind.i64.wrap (12 * (h : Int)) = 12 * h := iI (by clear q1 q2 q3 q4 q5 q6 q7 q8 q9 q10 r1 r2 r3; omega)
  have f2 : IntKind.i64.wrap (3 * (h : Int)) = 3 * h := iI (by clear q1 q2 q3 q4 q5 q6 q7 q8 q9 q10 r1 r2 r3; omega)
  have f3 : IntKind.i64.wrap (X1 + X2) = X1 + X2 := iI (by clear q1 q2 q3 q4 q5 q6 q7 q8 q9 q10 r1 r2 r3; omega)
  have f4 : IntKind.i64.wrap ((h2 : Int) + kk) = (h2 + kk : Nat) := iadd rfl (by clear q1 q2 q3 q4 q5 q6 q7 q8 q9 q10 r1 r2 r3; omega)
  have f5 : IntKind.i64.wrap (((h2 + kk : Nat) : Int) + 1) = (h2 + kk + 1 : Nat) := iI (by clear q1 q2 q3 q4 q5 q6 q7 q8 q9 q10 r1 r2 r3; omega)
  have f6 : IntKind.i64.wrap (((h2 + kk + 1 : Nat) : Int) - M) = X1 + X2 := by rw [← hR]; exact f3
  have f7 : IntKind.i64.wrap (c : Int) = c := iN (by clear q1 q2 q3 q4 q5 q6 q7 q8 q9 q10 r1 r2 r3; omega)
  have f8 : IntKind.i64.wrap (e : Int) = e := iN (by clear q1 q2 q3 q4 q5 q6 q7 q8 q9 q10 r1 r2 r3; omega)
  have hw : ∀ z : Int, IntKind.i64.wrap z = wrap64 z := fun z => IntWalk.i64_left z
  exact ⟨h2, u, v, Lib.hid (saw_call (valid_of h1 (by clear q1 q2 q3 q4 q5 q6 q7 q8 q9 q10 r1 r2 r3; omega) (Nat.le_of_lt hkl) hgr) (by clear q1 q2 q3 q4 q5 q6 q7 q8 q9 q10 r1 r2 r3; omega) hs3), Lib.hid ⟨q9, q13, r2, r9, r10, r11, r4, r5, r3, r6, r7⟩,
    Lib.hid ⟨N, c, e, M, h2 + kk, h2 + kk + 1, X1, X2, X1 + X2, f1, by rw [hw]; exact q1, q2, q3, q4, q5, f7, f8, by rw [hw]; exact q6, by rw [hw]; exact q7, f3, by rw [hw]; exact q9, by rw [hw]; exact q10, f4, f5, f2, by rw [hw]; exact q8, f6, hv0, by simpa using hv0, hy0, by simpa using hy0⟩⟩

set_option maxRecDepth 100000 in
set_option maxHeartbeats 4000000 in
theorem yss (p q : Int) (W : World) (hp : (Lit.int .i64 p).wf = true) :
    Calls Try.prog 10 #[.agg #[.int .i64 p, .int .i64 q]] W fun e W' => e = .returned (.bool true) ∧ Below W.heap.size W W' := by
  have g0 := fun w => tame_any p q 1000 w hp (by omega) (by omega)
  unfold frV at g0
  simp only at g0
  have H0 := Lib.hid g0
  have HW := Lib.hid awake_any
  clear hp g0
  go_enter Try.func10, Try.ntmps10
  go_wp2_with fail
  refine (H0.out _).mono ?_
  rintro e w1 ⟨⟨h, k, rfl, hv, hk⟩, b1⟩
  generalize hX : (W.alloc (.cells #[.int .i64 p, .int .i64 q] 26)) = X at b1
  have A0 : Two X W.heap.size 26 p q ∧ Below W.heap.size W X := by rw [← hX]; exact ⟨Two.new W _ _ _, below_alloc W _⟩
  have HA1 : Hid (Two w1 W.heap.size 26 p q ∧ Below W.heap.size W w1) := ⟨A0.1.below b1, b_next A0.2 b1⟩
  clear A0 b1 hX
  obtain ⟨x0, x1, y0, y1⟩ := HA1.out.1.cells
  have hl1 := HA1.out.1.lt
  obtain ⟨h', k', e1, e2, k1, k2, k3, hg⟩ := valid_nat hv
  obtain rfl : h = h' := by omega
  obtain rfl : k = k' := by omega
  clear e1 e2 k2
  obtain ⟨⟨x, y⟩, hs⟩ : ∃ v, sawV h k = v := ⟨_, rfl⟩
  have hs2 : sawV (k - h) k = (-x, y) := by rw [sawV_rest hg k3 k1, hs]
  have HS := Lib.hid (saw_call hv hk hs)
  have HS2 := Lib.hid (saw_call (rest_valid hv) hk hs2)
  have hr := fun w => rest_any h k hv w
  unfold frV at hr
  simp only at hr
  have HR := Lib.hid hr
  obtain ⟨kk, m0, n1, n2, n3, hmx, m9, m10, m11, m1, m5, m6, m7, m8, HG⟩ := saws_num hg k1 k3 hs hk
  have Hg := Lib.hid hg
  have Hs := Lib.hid hs
  clear hr hs2 hv hs hg
  go_wp2_with fail
  generalize hX : ((w1.setCell ⟨W.heap.size, 0, none⟩ (.int .i64 h)).setCell ⟨W.heap.size, 1, none⟩ (.int .i64 k)) = X
  have HA2 : Hid (Two X W.heap.size 26 h k ∧ Below W.heap.size W X) := by
    rw [← hX]; exact ⟨(HA1.out.1.set0 _).set1 _, (HA1.out.2.setCell (by simp) _).setCell (by simp) _⟩
  clear hX x0 x1 y0 y1 hl1
  obtain ⟨x0, x1, _, _⟩ := HA2.out.1.cells
  have hl2 := HA2.out.1.lt
  go_region
  go_wp2_with fail
  refine (HS.out _).mono ?_
  rintro e w2 ⟨rfl, b2⟩
  have HA : Hid (Two w2 W.heap.size 26 h k ∧ Below W.heap.size W w2) := ⟨(HA2.out.1.drewN 1).below b2, b_next HA2.out.2.drew b2⟩
  clear b2
  obtain ⟨x0, x1, _, _⟩ := HA.out.1.cells
  have hl3 := HA.out.1.lt
  go_wp2_with fail
  refine (HR.out _).mono ?_
  rintro e w3 ⟨rfl, b3⟩
  have HA3 : Hid (Two w3 W.heap.size 26 h k ∧ Below W.heap.size W w3) := ⟨HA.out.1.below b3, b_next HA.out.2 b3⟩
  clear b3 HA
  have HA := HA3
  clear HA3 x0 x1
  obtain ⟨x0, x1, _, _⟩ := HA.out.1.cells
  have hl3 := HA.out.1.lt
  go_wp2_with fail
  refine (HS2.out _).mono ?_
  rintro e w4 ⟨rfl, b4⟩
  have HA4 : Hid (Two w4 W.heap.size 26 h k ∧ Below W.heap.size W w4) := ⟨HA.out.1.below b4, b_next HA.out.2 b4⟩
  clear b4 HA
  have HA := HA4
  clear HA4 x0 x1
  obtain ⟨x0, x1, _, _⟩ := HA.out.1.cells
  have hl4 := HA.out.1.lt
  go_wp2_with fail
  refine (HG.out _).mono ?_
  rintro e w5 ⟨rfl, rfl⟩
  by_cases hend : 1 ≤ h ∧ h < k
  · obtain ⟨hh1, hh2⟩ := hend
    clear n2 n3 hmx m11 HG HS HS2 HR
    have hc1 : ¬ (h : Int) < 1 := by omega
    have hc2 : ¬ (k : Int) ≤ h := by omega
    have hh0 : ¬ (h : Int) = 0 := by omega
    have hhb : ((h : Int) == 0) = false := by simpa using hh0
    have hkh : Int.tmod (k : Int) h = ((k % h : Nat) : Int) := tmod_nat _ _
    have hkl := Nat.mod_lt k hh1
    obtain ⟨r, hr⟩ : ∃ r, k % h = r := ⟨_, rfl⟩
    rw [hr] at hkh hkl
    obtain ⟨hh, u, v, HS3, HR1, HR2⟩ := saws_all Hg.out hh1 hh2 hk hr Hs.out m0 n1
    clear hr n1
    go_wp2_with fail
    refine (HS3.out _).mono ?_
    rintro e w6 ⟨rfl, b6⟩
    obtain ⟨r1, r2, r3, r4, r5, r6, r7, r8, r9, r10, r11⟩ := HR1.out
    clear hkh hkl
    have HA6 : Hid (Two w6 W.heap.size 26 h k ∧ Below W.heap.size W w6) := ⟨HA.out.1.below b6, b_next HA.out.2 b6⟩
    clear b6 HA
    have HA := HA6
    clear HA6 x0 x1
    obtain ⟨x0, x1, _, _⟩ := HA.out.1.cells
    have hl6 := HA.out.1.lt
    go_wp2_with fail
    clear r1 r2 r3 r4 r5 r6 r7 r8 r9 r10 r11 hc1 hc2 hh0 hhb m9 m10
    obtain ⟨N, c, d, M, S1, S2, X1, X2, R, q1, q2, q3, q4, q5, q6, q7, q8, q9, q10, q11, q12, q13, q14, q15, q16, q17, q18, q19, q20, q21, q22⟩ := HR2.out
    have hny : ¬ y = 0 := fun e => q21 (by rw [e]; rfl)
    have hnv : ¬ v = 0 := fun e => q19 (by rw [e]; rfl)
    go_still_tail 50, (by kernel_rfl)
    change wpList _ _ _ _ _ w6.drew
    have hBd : Hid (Below W.heap.size W w6.drew) := HA.out.2.drew
    generalize w6.drew = w8 at *
    clear q1 q2 q3 q4 q5 q6 q7 q8 q9 q10 q11 q12 q13 q14 q15 q16 q17 q18 q19 q20 q21 q22 hny hnv
    go_wp2_with (go_at_call 17; refine (HW.out _).mono ?_; rintro e w7 ⟨rfl, b7⟩)
    go_ret
    exact ⟨rfl, b_next hBd.out b7⟩
  · have hxy : x = 0 ∧ y = 1 := saw_end Hg.out k1 k3 Hs.out hend
    clear n1 n2 n3 hmx m11 m0 m1 m5 m6 m7 m8 HG HS HS2 HR Hs
    obtain ⟨rfl, rfl⟩ := hxy
    have hcase : h < 1 ∨ 1 ≤ h ∧ k ≤ h := by omega
    rcases hcase with hc | ⟨hc1, hc2⟩
    · have hc' : (h : Int) < 1 := by omega
      clear hend hc
      go_wp2_with fail
      refine (HW.out _).mono ?_
      rintro e w6 ⟨rfl, b6⟩
      have HA6 : Hid (Two w6 W.heap.size 26 h k ∧ Below W.heap.size W w6) := ⟨HA.out.1.below b6, b_next HA.out.2 b6⟩
      clear b6 HA
      have HA := HA6
      clear HA6 x0 x1
      obtain ⟨x0, x1, _, _⟩ := HA.out.1.cells
      have hl6 := HA.out.1.lt
      go_wp2_with fail
      go_ret
      exact ⟨rfl, HA.out.2⟩
    · have hc' : ¬ (h : Int) < 1 := by omega
      have hc3 : (k : Int) ≤ h := by omega
      clear hend hc1 hc2
      go_wp2_with fail
      refine (HW.out _).mono ?_
      rintro e w6 ⟨rfl, b6⟩
      have HA6 : Hid (Two w6 W.heap.size 26 h k ∧ Below W.heap.size W w6) := ⟨HA.out.1.below b6, b_next HA.out.2 b6⟩
      clear b6 HA
      have HA := HA6
      clear HA6 x0 x1
      obtain ⟨x0, x1, _, _⟩ := HA.out.1.cells
      have hl6 := HA.out.1.lt
      go_wp2_with fail
      go_ret
      exact ⟨rfl, HA.out.2⟩

theorem walk_YardSaws (a b : Int) (h : (Lit.int .i64 a).wf = true) (_ : (Lit.int .i64 b).wf = true) (W : World) :
    Calls Try.prog 10 #[.agg #[.int .i64 a, .int .i64 b]] W fun e W' => e = .returned (.bool true) ∧ Below W.heap.size W W' := yss a b W h


namespace lawYardSaws
open Go.ChangeShapes Go.WideShapes Go.ChangeAt Go.RowKit
open Go.ChangeMaps (open_string shut_string)

theorem own : ownKnob Try.prog.godebug = none := by kernel_rfl
theorem lay : laidOutB Try.prog = true := by kernel_rfl

set_option maxRecDepth 100000 in
theorem lifted (os : Os) (started : os.Started) (H : Type) (enc : TypeId × Value → H) :
    ReturnsInHanded {} Try.checked os 10 .any (Rows.yardSawsSpec.pre6 enc Try.prog Try.f10 Rows.yardSawsRow.domain false) (Rows.yardSawsSpec.post enc Try.prog Try.f10 false true false false) := by
  refine returnsInHanded_of_change (C := Try.checked) own started (by kernel_rfl) Try.func10
    (ChangeSpec.witness6 (enc := enc) (C := Try.checked) false ⟨#[], #[.agg #[.int .i64 0, .int .i64 0]], []⟩ 8 (by kernel_rfl) (by kernel_rfl) (by kernel_rfl) (by kernel_rfl)) ?_
  intro W base args ds gs before hval0 hW hcnd _
  have hval : ∀ (j : Nat) t v, Try.f10.params[j]? = some t → args[j]? = some v → Value.okWide Try.prog W .any base t v := hval0
  have hW' := hW
  obtain ⟨p, q, hA0, hV, rfl, hfz, hnd⟩ := hW
  have hA : DataW.TrodAll enc Try.prog W 0 (fun _ => true) true Try.f10.params.toList args.toList ds p := hA0
  rw [Try.params10] at hA hval
  obtain ⟨v0, vs0, d0, ds0, p0, q0, hargs, rfl, rfl, h0, r0⟩ := trodAll_cons hA
  obtain ⟨rfl, rfl, rfl⟩ := trodAll_nil r0
  obtain rfl : args = #[v0] := by cases args; simp_all
  obtain ⟨rfl, rfl⟩ := trodVars_none hV
  obtain ⟨c0, k0, y0, z0, m0, rfl, rfl, rfl, g0, l0⟩ := Joins.open_agg2 Try.underlying26 (by kernel_rfl) (by kernel_rfl) (hval 0 26 v0 rfl rfl) h0
  obtain ⟨a0, e0, rfl, w0⟩ := DataW.trod_int Try.underlying3 g0
  obtain ⟨b0, f0, rfl, x0⟩ := DataW.trod_int Try.underlying3 l0
  simp at e0 f0
  subst e0 f0
  simp only [List.append_nil] at hW'
  clear hA0 hval0
  refine (walk_YardSaws a0 b0 w0 x0 W).mono fun e W' ⟨he, bel⟩ => ?_
  subst he
  exact ⟨_, rfl, _, _, _, [], _, [], hW', trodAll_mk1 (shut_bool Try.underlying4 _), (trodAll_cons_mk (Joins.shut_agg2 (y0 := (.lit (.int .i64 a0), [])) (y1 := (.lit (.int .i64 b0), [])) Try.underlying26 (by kernel_rfl) (by kernel_rfl) (shut_int Try.underlying3 w0) (shut_int Try.underlying3 x0)) trodAll_mk0), rfl, bel.frame _, fun h => by cases h⟩

theorem over : Rows.yardSawsRow.holds Try.pinned (OpenSpec.ofChange Rows.yardSawsSpec) :=
  OpenClaim.holds_of_wide 10 Try.f10 rfl rfl rfl rfl rfl rfl rfl ⟨rfl, rfl, rfl, rfl, rfl⟩ rfl rfl rfl rfl rfl (by kernel_rfl) Try.func10 (by kernel_rfl)
    (of_decide_eq_true (by kernel_rfl)) (by unfold Func.isWrapper; first | (rw [if_pos (by decide +kernel)]; kernel_rfl) | (rw [if_neg (by decide +kernel)]; exact ⟨rfl, rfl⟩))
    (fun os started H enc _ => lifted os started H enc)

theorem proved : Rows.YardSawsSaid := over
end lawYardSaws
end Go.Proofs.Ythpnlhigcijicaa
