/- The reference's Between. -/
import Derived.Test.YthpnlhigcijicaaSmp
namespace Go.Proofs.Ythpnlhigcijicaa
set_option linter.unusedVariables false
open Go.RowKit Go.Shelf

set_option maxRecDepth 100000 in
set_option maxHeartbeats 4000000 in
theorem rbt_base (a b c d q m1 : Nat) (w : World) (hb : 1 ≤ b) (s1 : a ≤ 1000001) (s2 : b ≤ 1000001) (s3 : c ≤ 1000001) (s4 : d ≤ 1000001) (w1 : Int.tdiv (a : Int) b = (q : Nat)) (hqa : q ≤ 1000001) (w2 : wrap64 (((q : Int) + 1) * d) = m1) (hlt : (m1 : Int) < c) :
    Calls Try.prog 35 #[.int .i64 a, .int .i64 b, .int .i64 c, .int .i64 d] w fun e w' => e = .returned (.tuple #[.int .i64 ((q : Int) + 1), .int .i64 1]) ∧ w' = w := by
  have hd0 : ¬ (b : Int) = 0 := by omega
  have hdb : ((b : Int) == 0) = false := by simpa using hd0
  go_enter Try.func35, Try.ntmps35
  go_wp2
  go_ret2
  exact ⟨rfl, rfl⟩

set_option maxRecDepth 100000 in
set_option maxHeartbeats 4000000 in
theorem rbt_zero (a b c d q s k m1 m2 m3 m4 : Nat) (w : World) (hb : 1 ≤ b) (s1 : a ≤ 1000001) (s2 : b ≤ 1000001) (s3 : c ≤ 1000001) (s4 : d ≤ 1000001) (w1 : Int.tdiv (a : Int) b = (q : Nat)) (hqa : q ≤ 1000001) (w2 : wrap64 (((q : Int) + 1) * d) = m1) (hlt : ¬ (m1 : Int) < c)
    (W2 : Hid (IntKind.i64.wrap ((q : Int) * b) = m2)) (W3 : Hid (IntKind.i64.wrap ((q : Int) * d) = m3)) (V1 : Hid (IntKind.i64.wrap ((a : Int) - m2) = (0 : Nat))) (V2 : Hid (IntKind.i64.wrap ((c : Int) - m3) = s)) (hs : 1 ≤ s) (w3 : Int.tdiv (d : Int) s = (k : Nat)) (hk : k ≤ 1000001)
    (W4 : Hid (IntKind.i64.wrap ((q : Int) * ((k : Int) + 1)) = m4)) (hm4 : m4 ≤ 1000000000000000) :
    Calls Try.prog 35 #[.int .i64 a, .int .i64 b, .int .i64 c, .int .i64 d] w fun e w' => e = .returned (.tuple #[.int .i64 ((m4 : Int) + 1), .int .i64 ((k : Int) + 1)]) ∧ w' = w := by
  have hd0 : ¬ (b : Int) = 0 := by omega
  have hdb : ((b : Int) == 0) = false := by simpa using hd0
  have hs0 : ¬ (s : Int) = 0 := by omega
  have hsb : ((s : Int) == 0) = false := by simpa using hs0
  have w4 := W2.out
  have w5 := W3.out
  have v1 := V1.out
  have v2 := V2.out
  have w6 := W4.out
  go_enter Try.func35, Try.ntmps35
  go_wp2
  go_ret2
  exact ⟨rfl, rfl⟩

set_option maxRecDepth 100000 in
set_option maxHeartbeats 4000000 in
theorem rbt_step (a b c d q r s x y m1 m2 m3 m4 m5 : Nat) (w : World) (hb : 1 ≤ b) (s1 : a ≤ 1000001) (s2 : b ≤ 1000001) (s3 : c ≤ 1000001) (s4 : d ≤ 1000001) (w1 : Int.tdiv (a : Int) b = (q : Nat)) (hqa : q ≤ 1000001) (w2 : wrap64 (((q : Int) + 1) * d) = m1) (hlt : ¬ (m1 : Int) < c)
    (w3 : IntKind.i64.wrap ((q : Int) * b) = m2) (w4 : IntKind.i64.wrap ((q : Int) * d) = m3) (v1 : IntKind.i64.wrap ((a : Int) - m2) = (r : Nat)) (v2 : IntKind.i64.wrap ((c : Int) - m3) = s) (hr : 1 ≤ r)
    (w5 : wrap64 ((q : Int) * x) = m4) (w6 : wrap64 ((m4 : Int) + y) = (m5 : Nat)) (w7 : IntKind.i64.wrap ((q : Int) * x) = m4) (w8 : IntKind.i64.wrap ((m4 : Int) + y) = (m5 : Nat))
    (HC : Hid (∀ w : World, Calls Try.prog 35 #[.int .i64 d, .int .i64 s, .int .i64 b, .int .i64 r] w fun e w' => e = .returned (.tuple #[.int .i64 x, .int .i64 y]) ∧ w' = w)) :
    Calls Try.prog 35 #[.int .i64 a, .int .i64 b, .int .i64 c, .int .i64 d] w fun e w' => e = .returned (.tuple #[.int .i64 (m5 : Nat), .int .i64 x]) ∧ w' = w := by
  have hd0 : ¬ (b : Int) = 0 := by omega
  have hdb : ((b : Int) == 0) = false := by simpa using hd0
  have hr0 : ¬ (r : Int) = 0 := by omega
  have hrb : ((r : Int) == 0) = false := by simpa using hr0
  go_enter Try.func35, Try.ntmps35
  go_wp2_with (go_at_call 35; refine (HC.out _).mono ?_; rintro e w' ⟨rfl, rfl⟩)
  go_ret2
  exact ⟨rfl, rfl⟩

theorem refBetween_any : ∀ (m a b c d : Nat) (w : World), b + d ≤ m → 1 ≤ b → a * d < c * b → (a ≤ 1000001 ∧ b ≤ 1000001 ∧ c ≤ 1000001 ∧ d ≤ 1000001) →
    Calls Try.prog 35 #[.int .i64 a, .int .i64 b, .int .i64 c, .int .i64 d] w fun e w' => e = .returned (.tuple #[.int .i64 (between a b c d).1, .int .i64 (between a b c d).2]) ∧ w' = w
  | 0, a, b, c, d, w, hm, hb, h, hs => absurd hm (by omega)
  | m + 1, a, b, c, d, w, hm, hb, h, hs => by
    obtain ⟨s1, s2, s3, s4⟩ := hs
    have hqa : a / b ≤ a := Nat.div_le_self _ _
    have hqd : (a / b + 1) * d ≤ 1000002 * 1000001 := Nat.mul_le_mul (by omega) s4
    have w2 : wrap64 ((((a / b : Nat) : Int) + 1) * d) = (((a / b + 1) * d : Nat) : Int) := by
      rw [show (((a / b : Nat) : Int) + 1) = ((a / b + 1 : Nat) : Int) from rfl]; exact wmul rfl (by omega)
    by_cases hn : (a / b + 1) * d < c
    · have hu := between_unfold hb h
      rw [if_pos hn] at hu
      rw [hu]
      exact rbt_base a b c d (a / b) ((a / b + 1) * d) w hb s1 s2 s3 s4 (tdivN rfl) (by omega) w2 (by omega)
    · obtain ⟨q, r, s, x, y, hq, ha, hc', hr, hs1, hsr, hd1, hdet, hsd, hbt, hu, hx, hy, hxy, hqd, hqb, hqx⟩ := btw_next hm hb h hn ⟨s1, s2, s3, s4⟩
      have hqx2 : q * x ≤ 2000002 := by omega
      have hz : q * x + y ≤ 1000000000000000 := by omega
      rw [hq] at hn hqa w2
      rw [hu]
      rcases Nat.eq_zero_or_pos r with e | e
      · subst e
        have hu2 := between_unfold (a := d) (b := s) (c := b) (d := 0) hs1 (by simpa using hdet)
        rw [if_pos (by omega), hbt] at hu2
        obtain ⟨rfl, rfl⟩ := Prod.mk.inj hu2
        refine (rbt_zero a b c d q s (d / s) ((q + 1) * d) (q * b) (q * d) (q * (d / s + 1)) w hb s1 s2 s3 s4 (tdivN hq) hqx w2 (by omega) (imul rfl (by omega)) (imul rfl (by omega)) (isub ha (by omega)) (isub hc' (by omega)) hs1 (tdivN rfl) (by have := Nat.div_le_self d s; omega) ?_ (by omega)).mono ?_
        · rw [show (((d / s : Nat) : Int) + 1) = ((d / s + 1 : Nat) : Int) from rfl]; exact imul rfl (by omega)
        · rintro e w' ⟨rfl, rfl⟩; exact ⟨rfl, rfl⟩
      · have hC : ∀ w : World, _ := fun w => refBetween_any m d s b r w (by omega) (by omega) hdet ⟨by omega, by omega, by omega, by omega⟩
        rw [hbt] at hC
        exact rbt_step a b c d q r s x y ((q + 1) * d) (q * b) (q * d) (q * x) (q * x + y) w hb s1 s2 s3 s4 (tdivN hq) hqx w2 (by omega) (imul rfl (by omega)) (imul rfl (by omega)) (isub ha (by omega)) (isub hc' (by omega)) e (wmul rfl (by omega)) (wadd rfl hz) (imul rfl (by omega)) (iadd rfl hz) hC
end Go.Proofs.Ythpnlhigcijicaa
