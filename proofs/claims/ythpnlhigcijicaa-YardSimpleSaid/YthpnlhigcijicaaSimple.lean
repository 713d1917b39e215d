/- YardSimple. -/
import Derived.Test.YthpnlhigcijicaaAwake
import Derived.Test.YthpnlhigcijicaaTame
import Derived.Deep.DeepCutAuto
import Derived.ProofKit
import Derived.OpenShut
import Derived.ShutString
import Derived.ChangeOld
import Derived.Lib.SmallJoins
namespace Go.Proofs.Ythpnlhigcijicaa
set_option linter.unusedVariables false
open Go.RowKit Go.Shelf

theorem Args2.drew {w X : World} {a b c d e f : Int} (h : Args2 w X a b c d e f) : Args2 w X.drew a b c d e f := ⟨h.x, h.y, h.z, h.b.drew⟩

theorem Args2.put {w X : World} {a b c d e f : Int} (h : Args2 w X a b c d e f) (a' b' c' d' e' f' : Int) : Args2 w ((((((X.setCell ⟨w.heap.size, 0, none⟩ (.int .i64 a')).setCell ⟨w.heap.size, 1, none⟩ (.int .i64 b')).setCell ⟨w.heap.size + 1, 0, none⟩ (.int .i64 c')).setCell ⟨w.heap.size + 1, 1, none⟩ (.int .i64 d')).setCell ⟨w.heap.size + 1 + 1, 0, none⟩ (.int .i64 e')).setCell ⟨w.heap.size + 1 + 1, 1, none⟩ (.int .i64 f')) a' b' c' d' e' f' := by
  refine ⟨?_, ?_, ?_, ?_⟩
  · exact ((((((h.x.set0 a').set1 b').far (by omega)).far (by omega)).far (by omega)).far (by omega))
  · exact ((((((h.y.far (by omega)).far (by omega)).set0 c').set1 d').far (by omega)).far (by omega))
  · exact ((((((h.z.far (by omega)).far (by omega)).far (by omega)).far (by omega)).set0 e').set1 f')
  · exact (((((h.b.setCell (by simp) _).setCell (by simp) _).setCell (by simp) _).setCell (by simp) _).setCell (by simp; omega) _).setCell (by simp; omega) _

theorem less_call {a b c d : Nat} (h1 : validB a b = true) (h2 : validB c d = true) (w : World) :
    Calls Try.prog 34 #[.agg #[.int .i64 a, .int .i64 b], .agg #[.int .i64 c, .int .i64 d]] w fun e w' => e = .returned (.bool (decide (a * d < c * b))) ∧ Below w.heap.size w w' := by
  obtain ⟨a', b', e1, e2, _, k2, k3, _⟩ := valid_nat h1
  obtain ⟨c', d', e3, e4, _, k6, k7, _⟩ := valid_nat h2
  have := refLess_any (a, b) (c, d) ⟨by simp only; omega, by simp only; omega⟩ ⟨by simp only; omega, by simp only; omega⟩ w
  exact this

theorem Args2.swap {w X : World} {a b c d e f : Int} {o : Obj} (h : Args2 w X a b c d e f) : Args2 w (((((X.setCell ⟨w.heap.size, 0, none⟩ (.int .i64 c)).setCell ⟨w.heap.size, 1, none⟩ (.int .i64 d)).setCell ⟨w.heap.size + 1, 0, none⟩ (.int .i64 a)).setCell ⟨w.heap.size + 1, 1, none⟩ (.int .i64 b)).alloc o) c d a b e f := by
  refine ⟨?_, ?_, ?_, ?_⟩
  · exact ((((h.x.set0 c).set1 d).far (by omega)).far (by omega)).alloc _
  · exact ((((h.y.far (by omega)).far (by omega)).set0 a).set1 b).alloc _
  · exact ((((h.z.far (by omega)).far (by omega)).far (by omega)).far (by omega)).alloc _
  · exact b_next ((((h.b.setCell (by simp) _).setCell (by simp) _).setCell (by simp) _).setCell (by simp) _) (below_alloc _ _)

theorem eq_split {a b c d : Nat} (h : ¬ (a = c ∧ b = d)) : (((a : Int) == c) = false ∧ ¬ (a : Int) = c) ∨ (((a : Int) == c) = true ∧ ((b : Int) == d) = false) := by
  by_cases e : a = c
  · exact .inr ⟨by rw [beq_iff_eq]; omega, by rw [beq_eq_false_iff_ne]; omega⟩
  · exact .inl ⟨by rw [beq_eq_false_iff_ne]; omega, by omega⟩

theorem coprime_eq {a b c d : Nat} (h1 : Nat.gcd a b = 1) (h2 : Nat.gcd c d = 1) (hb : 1 ≤ b) (h : a * d = c * b) : a = c ∧ b = d := by
  have e1 : b ∣ d := Nat.Coprime.dvd_of_dvd_mul_left ((Nat.gcd_comm b a).trans h1) ⟨c, by rw [h, Nat.mul_comm]⟩
  have e2 : d ∣ b := Nat.Coprime.dvd_of_dvd_mul_left ((Nat.gcd_comm d c).trans h2) ⟨a, by rw [← h, Nat.mul_comm]⟩
  have e3 := Nat.dvd_antisymm e1 e2
  subst e3
  exact ⟨Nat.eq_of_mul_eq_mul_right hb h, rfl⟩

theorem simple_cases {a b c d r s : Nat} (va : validB a b = true) (vc : validB c d = true) (vr : validB r s = true) (hle : a * d ≤ c * b) :
    (a = c ∧ b = d ∧ betN a b c d = ((0, 0), 2) ∧ (decide (a * s < r * b) = false ∨ decide (r * d < c * s) = false)) ∨
    (betN a b c d = ((0, 0), 6) ∧ ¬ (a = c ∧ b = d) ∧ (decide (a * s < r * b) = false ∨ decide (r * d < c * s) = false)) ∨
    (∃ m n : Nat, betN a b c d = ((m, n), 0) ∧ validB m n = true ∧ decide (a * n < m * b) = true ∧ decide (m * d < c * n) = true ∧ (decide (a * s < r * b) = false ∨ decide (r * d < c * s) = false ∨ simplerB (r, s) (m, n) = false)) := by
  obtain ⟨a', b', e1, e2, a1, a2, a3, a4⟩ := valid_nat va
  obtain rfl : a = a' := by omega
  obtain rfl : b = b' := by omega
  obtain ⟨c', d', e3, e4, c1, c2, c3, c4⟩ := valid_nat vc
  obtain rfl : c = c' := by omega
  obtain rfl : d = d' := by omega
  obtain ⟨r', s', e5, e6, r1, r2, r3, r4⟩ := valid_nat vr
  obtain rfl : r = r' := by omega
  obtain rfl : s = s' := by omega
  simp only [decide_eq_false_iff_not, decide_eq_true_eq]
  rcases Nat.lt_or_eq_of_le hle with hlt | heq
  · have hs := between_spec a1 hlt
    have hg := between_gcd a1 hlt
    have hB : betN a b c d = if (between a b c d).2 ≤ 1000000 then (between a b c d, 0) else ((0, 0), 6) := by unfold betN; rw [if_pos hlt]
    generalize between a b c d = z at *
    obtain ⟨m, n⟩ := z
    simp only at hs hg hB
    obtain ⟨s1, s2, s3, s4, s5, s6⟩ := hs
    by_cases hn : n ≤ 1000000
    · rw [if_pos hn] at hB
      have hmn : m ≤ n := by
        have h1 : m * d < n * d := Nat.lt_of_lt_of_le s2 (by rw [Nat.mul_comm n d]; exact Nat.mul_le_mul_right _ c3)
        exact Nat.le_of_lt (Nat.lt_of_mul_lt_mul_right h1)
      refine .inr (.inr ⟨m, n, hB, valid_of s3 hn hmn hg, s1, s2, ?_⟩)
      by_cases k1 : a * s < r * b
      · by_cases k2 : r * d < c * s
        · obtain ⟨h1, h2⟩ := s6 r s k1 k2
          refine .inr (.inr ?_)
          unfold simplerB
          simp only [Bool.or_eq_false_iff, Bool.and_eq_false_iff, decide_eq_false_iff_not]
          omega
        · exact .inr (.inl k2)
      · exact .inl k1
    · rw [if_neg hn] at hB
      refine .inr (.inl ⟨hB, fun ⟨x, y⟩ => by subst x y; omega, ?_⟩)
      by_cases k1 : a * s < r * b
      · refine .inr (fun k2 => ?_)
        have := (s6 r s k1 k2).2
        omega
      · exact .inl k1
  · obtain ⟨x, y⟩ := coprime_eq a4 c4 a1 heq
    subst x y
    refine .inl ⟨rfl, rfl, by unfold betN; rw [if_neg (by omega)], ?_⟩
    by_cases k1 : a * s < r * b
    · exact .inr (by omega)
    · exact .inl k1

set_option maxRecDepth 100000 in
set_option maxHeartbeats 4000000 in
theorem ysi (p0 q0 p1 q1 p2 q2 : Int) (W : World) (h0 : (Lit.int .i64 p0).wf = true) (h1 : (Lit.int .i64 p1).wf = true) (h2 : (Lit.int .i64 p2).wf = true) :
    Calls Try.prog 11 #[.agg #[.int .i64 p0, .int .i64 q0], .agg #[.int .i64 p1, .int .i64 q1], .agg #[.int .i64 p2, .int .i64 q2]] W fun e W' => e = .returned (.bool true) ∧ Below W.heap.size W W' := by
  have g0 := fun w => tame_any p0 q0 1000000 w h0 (by omega) (by omega)
  unfold frV at g0
  simp only at g0
  have H0 := Lib.hid g0
  have g1 := fun w => tame_any p1 q1 1000000 w h1 (by omega) (by omega)
  unfold frV at g1
  simp only at g1
  have H1 := Lib.hid g1
  have g2 := fun w => tame_any p2 q2 1000000 w h2 (by omega) (by omega)
  unfold frV at g2
  simp only at g2
  have H2 := Lib.hid g2
  clear h0 h1 h2 g0 g1 g2
  go_enter Try.func11, Try.ntmps11
  go_upto_region 1 with fail
  generalize hX : (((W.alloc (.cells #[.int .i64 p0, .int .i64 q0] 26)).alloc (.cells #[.int .i64 p1, .int .i64 q1] 26)).alloc (.cells #[.int .i64 p2, .int .i64 q2] 26)) = X
  have A0 : Args2 W X p0 q0 p1 q1 p2 q2 := by rw [← hX]; exact Args2.new W _ _ _ _ _ _
  have HA := Lib.hid A0.drew
  clear hX
  go_cut [] (fun wx => ∃ a b c d r s : Nat, validB a b = true ∧ validB c d = true ∧ validB r s = true ∧ Args2 W wx a b c d r s)
  case first =>
    obtain ⟨x0, x1, fx0, fx1⟩ := A0.x.cells
    obtain ⟨y0, y1, fy0, fy1⟩ := A0.y.cells
    obtain ⟨z0, z1, fz0, fz1⟩ := A0.z.cells
    clear A0
    go_region_with (first
      | (go_at_call_of 49 (Value.agg #[.int .i64 p0, .int .i64 q0]); refine (H0.out _).mono ?_; rintro e w1 ⟨⟨a, b, rfl, va, la⟩, b1⟩; have HB := Lib.hid (HA.out.below b1); obtain ⟨x0, x1, fx0, fx1⟩ := HB.out.x.cells; obtain ⟨y0, y1, fy0, fy1⟩ := HB.out.y.cells; obtain ⟨z0, z1, fz0, fz1⟩ := HB.out.z.cells)
      | (go_at_call_of 49 (Value.agg #[.int .i64 p1, .int .i64 q1]); refine (H1.out _).mono ?_; rintro e w2 ⟨⟨c, d, rfl, vc, lc⟩, b2⟩; have HC := Lib.hid (HB.out.below b2); obtain ⟨x0, x1, fx0, fx1⟩ := HC.out.x.cells; obtain ⟨y0, y1, fy0, fy1⟩ := HC.out.y.cells; obtain ⟨z0, z1, fz0, fz1⟩ := HC.out.z.cells)
      | (go_at_call_of 49 (Value.agg #[.int .i64 p2, .int .i64 q2]); refine (H2.out _).mono ?_; rintro e w3 ⟨⟨r, s, rfl, vr, lr⟩, b3⟩; have HD := Lib.hid (HC.out.below b3); obtain ⟨x0, x1, fx0, fx1⟩ := HD.out.x.cells; obtain ⟨y0, y1, fy0, fy1⟩ := HD.out.y.cells; obtain ⟨z0, z1, fz0, fz1⟩ := HD.out.z.cells))
    all_goals
      have HF := Lib.hid (⟨a, b, c, d, r, s, va, vc, vr, HD.out.put a b c d r s⟩ : ∃ a b c d r s : Nat, validB a b = true ∧ validB c d = true ∧ validB r s = true ∧ Args2 W _ a b c d r s)
      go_wp2_with fail
      go_meet
      exact HF.out
  case rest =>
    obtain ⟨a, b, c, d, r, s, va, vc, vr, A1⟩ := hcut
    clear HA A0 H0 H1 H2
    have HA := Lib.hid A1
    obtain ⟨x0, x1, fx0, fx1⟩ := A1.x.cells
    obtain ⟨y0, y1, fy0, fy1⟩ := A1.y.cells
    obtain ⟨z0, z1, _, _⟩ := A1.z.cells
    have hl := A1.z.lt
    have hlx := A1.x.lt
    have hly := A1.y.lt
    clear A1
    have HL0 := Lib.hid (less_call vc va)
    have HV := Lib.hid (And.intro va (And.intro vc vr))
    have hle0 : decide (c * b < a * d) = false → a * d ≤ c * b := fun h => by rw [decide_eq_false_iff_not] at h; omega
    have hle1 : decide (c * b < a * d) = true → c * b ≤ a * d := fun h => by rw [decide_eq_true_eq] at h; omega
    generalize decide (c * b < a * d) = o at HL0 hle0 hle1
    have HE0 := Lib.hid hle0
    have HE1 := Lib.hid hle1
    clear va vc vr hle0 hle1
    go_wp2_with fail
    refine (HL0.out _).mono ?_
    rintro e w10 ⟨rfl, b10⟩
    have HA' := Lib.hid (HA.out.below b10)
    clear b10 HA x0 x1 y0 y1 z0 z1 hl hlx hly fx0 fx1 fy0 fy1
    have HA := HA'
    clear HA'
    obtain ⟨x0, x1, fx0, fx1⟩ := HA.out.x.cells
    obtain ⟨y0, y1, fy0, fy1⟩ := HA.out.y.cells
    obtain ⟨z0, z1, _, _⟩ := HA.out.z.cells
    have hl := HA.out.z.lt
    have hlx := HA.out.x.lt
    have hly := HA.out.y.lt
    go_upto_if 19 with fail
    go_cut [] (fun wx => ∃ a b c d r s : Nat, validB a b = true ∧ validB c d = true ∧ validB r s = true ∧ a * d ≤ c * b ∧ Args2 W wx a b c d r s)
    case first =>
      cases o with
      | false =>
        have HLE := Lib.hid (HE0.out rfl)
        clear HE0 HE1
        go_wp2_with fail
        go_meet
        exact ⟨a, b, c, d, r, s, HV.out.1, HV.out.2.1, HV.out.2.2, HLE.out, HA.out⟩
      | true =>
        have HLE := Lib.hid (HE1.out rfl)
        clear HE0 HE1
        go_wp2_with fail
        go_meet
        exact ⟨c, d, a, b, r, s, HV.out.2.1, HV.out.1, HV.out.2.2, HLE.out, HA.out.swap⟩
    case rest =>
      clear HA x0 x1 y0 y1 z0 z1 hl hlx hly fx0 fx1 fy0 fy1 HV HL0 HE0 HE1
      obtain ⟨a, b, c, d, r, s, va, vc, vr, hle, A1⟩ := hcut
      have HA := Lib.hid A1
      obtain ⟨x0, x1, _, _⟩ := A1.x.cells
      obtain ⟨y0, y1, _, _⟩ := A1.y.cells
      obtain ⟨z0, z1, _, _⟩ := A1.z.cells
      have hl := A1.z.lt
      have hlx := A1.x.lt
      have hly := A1.y.lt
      have hB := fun w => Between_yes a b c d w va vc
      unfold frV at hB
      have HW := Lib.hid awake_any
      have HL1 := Lib.hid (less_call va vr)
      have HL2 := Lib.hid (less_call vr vc)
      have HN := simple_cases va vc vr hle
      have HVA := Lib.hid va
      have HVC := Lib.hid vc
      clear A1 hle
      rcases HN with ⟨rfl, rfl, hb, hno⟩ | ⟨hb, hne, hno⟩ | ⟨m, n, hb, vm, lm1, lm2, hno⟩
      · rw [hb] at hB
        simp only at hB
        have HB := Lib.hid hB
        clear hB hb va vc vr
        go_wp2_with fail
        refine (HB.out _).mono ?_
        rintro e w21 ⟨rfl, b21⟩
        have HA' := Lib.hid (HA.out.below b21)
        clear b21 HA x0 x1 y0 y1 z0 z1 hl hlx hly
        have HA := HA'
        clear HA'
        obtain ⟨x0, x1, _, _⟩ := HA.out.x.cells
        obtain ⟨y0, y1, _, _⟩ := HA.out.y.cells
        obtain ⟨z0, z1, _, _⟩ := HA.out.z.cells
        have hl := HA.out.z.lt
        have hlx := HA.out.x.lt
        have hly := HA.out.y.lt
        have HA' := Lib.hid (HA.out.below (below_alloc w21 (.cells #[.int .i64 0, .int .i64 0] 26)))
        have HT := Lib.hid (Two.new w21 26 0 0)
        clear HA x0 x1 y0 y1 z0 z1 hl hlx hly
        have HA := HA'
        clear HA'
        obtain ⟨t0, t1, _, _⟩ := HT.out.cells
        have ht := HT.out.lt
        obtain ⟨x0, x1, _, _⟩ := HA.out.x.cells
        obtain ⟨y0, y1, _, _⟩ := HA.out.y.cells
        obtain ⟨z0, z1, _, _⟩ := HA.out.z.cells
        have hl := HA.out.z.lt
        have hlx := HA.out.x.lt
        have hly := HA.out.y.lt
        rcases hno with hno | hno
        · rw [hno] at HL1
          clear hno
          go_wp2_with fail
          refine (HL1.out _).mono ?_
          rintro e w22 ⟨rfl, b22⟩
          have HA' := Lib.hid (HA.out.below b22)
          have HT' := Lib.hid (HT.out.below b22)
          clear b22 HA x0 x1 y0 y1 z0 z1 hl hlx hly HT t0 t1 ht
          have HA := HA'
          clear HA'
          obtain ⟨x0, x1, _, _⟩ := HA.out.x.cells
          obtain ⟨y0, y1, _, _⟩ := HA.out.y.cells
          obtain ⟨z0, z1, _, _⟩ := HA.out.z.cells
          have hl := HA.out.z.lt
          have hlx := HA.out.x.lt
          have hly := HA.out.y.lt
          have HT := HT'
          clear HT'
          obtain ⟨t0, t1, _, _⟩ := HT.out.cells
          have ht := HT.out.lt
          go_wp2_with fail
          refine (HW.out _).mono ?_
          rintro e w23 ⟨rfl, b23⟩
          have HA' := Lib.hid (HA.out.below b23)
          have HT' := Lib.hid (HT.out.below b23)
          clear b23 HA x0 x1 y0 y1 z0 z1 hl hlx hly HT t0 t1 ht
          have HA := HA'
          clear HA'
          obtain ⟨x0, x1, _, _⟩ := HA.out.x.cells
          obtain ⟨y0, y1, _, _⟩ := HA.out.y.cells
          obtain ⟨z0, z1, _, _⟩ := HA.out.z.cells
          have hl := HA.out.z.lt
          have hlx := HA.out.x.lt
          have hly := HA.out.y.lt
          have HT := HT'
          clear HT'
          obtain ⟨t0, t1, _, _⟩ := HT.out.cells
          have ht := HT.out.lt
          go_wp2_with fail
          go_ret
          exact ⟨rfl, HA.out.b⟩
        · rw [hno] at HL2
          clear hno
          generalize decide (a * s < r * b) = l1 at HL1
          cases l1 with
          | false =>
            go_wp2_with fail
            refine (HL1.out _).mono ?_
            rintro e w24 ⟨rfl, b24⟩
            have HA' := Lib.hid (HA.out.below b24)
            have HT' := Lib.hid (HT.out.below b24)
            clear b24 HA x0 x1 y0 y1 z0 z1 hl hlx hly HT t0 t1 ht
            have HA := HA'
            clear HA'
            obtain ⟨x0, x1, _, _⟩ := HA.out.x.cells
            obtain ⟨y0, y1, _, _⟩ := HA.out.y.cells
            obtain ⟨z0, z1, _, _⟩ := HA.out.z.cells
            have hl := HA.out.z.lt
            have hlx := HA.out.x.lt
            have hly := HA.out.y.lt
            have HT := HT'
            clear HT'
            obtain ⟨t0, t1, _, _⟩ := HT.out.cells
            have ht := HT.out.lt
            go_wp2_with fail
            refine (HW.out _).mono ?_
            rintro e w25 ⟨rfl, b25⟩
            have HA' := Lib.hid (HA.out.below b25)
            have HT' := Lib.hid (HT.out.below b25)
            clear b25 HA x0 x1 y0 y1 z0 z1 hl hlx hly HT t0 t1 ht
            have HA := HA'
            clear HA'
            obtain ⟨x0, x1, _, _⟩ := HA.out.x.cells
            obtain ⟨y0, y1, _, _⟩ := HA.out.y.cells
            obtain ⟨z0, z1, _, _⟩ := HA.out.z.cells
            have hl := HA.out.z.lt
            have hlx := HA.out.x.lt
            have hly := HA.out.y.lt
            have HT := HT'
            clear HT'
            obtain ⟨t0, t1, _, _⟩ := HT.out.cells
            have ht := HT.out.lt
            go_wp2_with fail
            go_ret
            exact ⟨rfl, HA.out.b⟩
          | true =>
            go_wp2_with fail
            refine (HL1.out _).mono ?_
            rintro e w26 ⟨rfl, b26⟩
            have HA' := Lib.hid (HA.out.below b26)
            have HT' := Lib.hid (HT.out.below b26)
            clear b26 HA x0 x1 y0 y1 z0 z1 hl hlx hly HT t0 t1 ht
            have HA := HA'
            clear HA'
            obtain ⟨x0, x1, _, _⟩ := HA.out.x.cells
            obtain ⟨y0, y1, _, _⟩ := HA.out.y.cells
            obtain ⟨z0, z1, _, _⟩ := HA.out.z.cells
            have hl := HA.out.z.lt
            have hlx := HA.out.x.lt
            have hly := HA.out.y.lt
            have HT := HT'
            clear HT'
            obtain ⟨t0, t1, _, _⟩ := HT.out.cells
            have ht := HT.out.lt
            go_wp2_with fail
            refine (HL2.out _).mono ?_
            rintro e w27 ⟨rfl, b27⟩
            have HA' := Lib.hid (HA.out.below b27)
            have HT' := Lib.hid (HT.out.below b27)
            clear b27 HA x0 x1 y0 y1 z0 z1 hl hlx hly HT t0 t1 ht
            have HA := HA'
            clear HA'
            obtain ⟨x0, x1, _, _⟩ := HA.out.x.cells
            obtain ⟨y0, y1, _, _⟩ := HA.out.y.cells
            obtain ⟨z0, z1, _, _⟩ := HA.out.z.cells
            have hl := HA.out.z.lt
            have hlx := HA.out.x.lt
            have hly := HA.out.y.lt
            have HT := HT'
            clear HT'
            obtain ⟨t0, t1, _, _⟩ := HT.out.cells
            have ht := HT.out.lt
            go_wp2_with fail
            refine (HW.out _).mono ?_
            rintro e w28 ⟨rfl, b28⟩
            have HA' := Lib.hid (HA.out.below b28)
            have HT' := Lib.hid (HT.out.below b28)
            clear b28 HA x0 x1 y0 y1 z0 z1 hl hlx hly HT t0 t1 ht
            have HA := HA'
            clear HA'
            obtain ⟨x0, x1, _, _⟩ := HA.out.x.cells
            obtain ⟨y0, y1, _, _⟩ := HA.out.y.cells
            obtain ⟨z0, z1, _, _⟩ := HA.out.z.cells
            have hl := HA.out.z.lt
            have hlx := HA.out.x.lt
            have hly := HA.out.y.lt
            have HT := HT'
            clear HT'
            obtain ⟨t0, t1, _, _⟩ := HT.out.cells
            have ht := HT.out.lt
            go_wp2_with fail
            go_ret
            exact ⟨rfl, HA.out.b⟩
      · rw [hb] at hB
        simp only at hB
        have HB := Lib.hid hB
        clear hB hb va vc vr
        go_wp2_with fail
        refine (HB.out _).mono ?_
        rintro e w29 ⟨rfl, b29⟩
        have HA' := Lib.hid (HA.out.below b29)
        clear b29 HA x0 x1 y0 y1 z0 z1 hl hlx hly
        have HA := HA'
        clear HA'
        obtain ⟨x0, x1, _, _⟩ := HA.out.x.cells
        obtain ⟨y0, y1, _, _⟩ := HA.out.y.cells
        obtain ⟨z0, z1, _, _⟩ := HA.out.z.cells
        have hl := HA.out.z.lt
        have hlx := HA.out.x.lt
        have hly := HA.out.y.lt
        have HA' := Lib.hid (HA.out.below (below_alloc w29 (.cells #[.int .i64 0, .int .i64 0] 26)))
        have HT := Lib.hid (Two.new w29 26 0 0)
        clear HA x0 x1 y0 y1 z0 z1 hl hlx hly
        have HA := HA'
        clear HA'
        obtain ⟨t0, t1, _, _⟩ := HT.out.cells
        have ht := HT.out.lt
        obtain ⟨x0, x1, _, _⟩ := HA.out.x.cells
        obtain ⟨y0, y1, _, _⟩ := HA.out.y.cells
        obtain ⟨z0, z1, _, _⟩ := HA.out.z.cells
        have hl := HA.out.z.lt
        have hlx := HA.out.x.lt
        have hly := HA.out.y.lt
        have hsplit : (((a : Int) == c) = false ∧ ¬ (a : Int) = c) ∨ (((a : Int) == c) = true ∧ ((b : Int) == d) = false) := eq_split hne
        clear hne
        rcases hsplit with ⟨k1, k2⟩ | ⟨k1, k2⟩
        · rcases hno with hno | hno
          · rw [hno] at HL1
            clear hno
            go_wp2_with fail
            refine (HL1.out _).mono ?_
            rintro e w30 ⟨rfl, b30⟩
            have HA' := Lib.hid (HA.out.below b30)
            have HT' := Lib.hid (HT.out.below b30)
            clear b30 HA x0 x1 y0 y1 z0 z1 hl hlx hly HT t0 t1 ht
            have HA := HA'
            clear HA'
            obtain ⟨x0, x1, _, _⟩ := HA.out.x.cells
            obtain ⟨y0, y1, _, _⟩ := HA.out.y.cells
            obtain ⟨z0, z1, _, _⟩ := HA.out.z.cells
            have hl := HA.out.z.lt
            have hlx := HA.out.x.lt
            have hly := HA.out.y.lt
            have HT := HT'
            clear HT'
            obtain ⟨t0, t1, _, _⟩ := HT.out.cells
            have ht := HT.out.lt
            go_wp2_with fail
            refine (HW.out _).mono ?_
            rintro e w31 ⟨rfl, b31⟩
            have HA' := Lib.hid (HA.out.below b31)
            have HT' := Lib.hid (HT.out.below b31)
            clear b31 HA x0 x1 y0 y1 z0 z1 hl hlx hly HT t0 t1 ht
            have HA := HA'
            clear HA'
            obtain ⟨x0, x1, _, _⟩ := HA.out.x.cells
            obtain ⟨y0, y1, _, _⟩ := HA.out.y.cells
            obtain ⟨z0, z1, _, _⟩ := HA.out.z.cells
            have hl := HA.out.z.lt
            have hlx := HA.out.x.lt
            have hly := HA.out.y.lt
            have HT := HT'
            clear HT'
            obtain ⟨t0, t1, _, _⟩ := HT.out.cells
            have ht := HT.out.lt
            go_wp2_with fail
            go_ret
            exact ⟨rfl, HA.out.b⟩
          · rw [hno] at HL2
            clear hno
            generalize decide (a * s < r * b) = l1 at HL1
            cases l1 with
            | false =>
              go_wp2_with fail
              refine (HL1.out _).mono ?_
              rintro e w32 ⟨rfl, b32⟩
              have HA' := Lib.hid (HA.out.below b32)
              have HT' := Lib.hid (HT.out.below b32)
              clear b32 HA x0 x1 y0 y1 z0 z1 hl hlx hly HT t0 t1 ht
              have HA := HA'
              clear HA'
              obtain ⟨x0, x1, _, _⟩ := HA.out.x.cells
              obtain ⟨y0, y1, _, _⟩ := HA.out.y.cells
              obtain ⟨z0, z1, _, _⟩ := HA.out.z.cells
              have hl := HA.out.z.lt
              have hlx := HA.out.x.lt
              have hly := HA.out.y.lt
              have HT := HT'
              clear HT'
              obtain ⟨t0, t1, _, _⟩ := HT.out.cells
              have ht := HT.out.lt
              go_wp2_with fail
              refine (HW.out _).mono ?_
              rintro e w33 ⟨rfl, b33⟩
              have HA' := Lib.hid (HA.out.below b33)
              have HT' := Lib.hid (HT.out.below b33)
              clear b33 HA x0 x1 y0 y1 z0 z1 hl hlx hly HT t0 t1 ht
              have HA := HA'
              clear HA'
              obtain ⟨x0, x1, _, _⟩ := HA.out.x.cells
              obtain ⟨y0, y1, _, _⟩ := HA.out.y.cells
              obtain ⟨z0, z1, _, _⟩ := HA.out.z.cells
              have hl := HA.out.z.lt
              have hlx := HA.out.x.lt
              have hly := HA.out.y.lt
              have HT := HT'
              clear HT'
              obtain ⟨t0, t1, _, _⟩ := HT.out.cells
              have ht := HT.out.lt
              go_wp2_with fail
              go_ret
              exact ⟨rfl, HA.out.b⟩
            | true =>
              go_wp2_with fail
              refine (HL1.out _).mono ?_
              rintro e w34 ⟨rfl, b34⟩
              have HA' := Lib.hid (HA.out.below b34)
              have HT' := Lib.hid (HT.out.below b34)
              clear b34 HA x0 x1 y0 y1 z0 z1 hl hlx hly HT t0 t1 ht
              have HA := HA'
              clear HA'
              obtain ⟨x0, x1, _, _⟩ := HA.out.x.cells
              obtain ⟨y0, y1, _, _⟩ := HA.out.y.cells
              obtain ⟨z0, z1, _, _⟩ := HA.out.z.cells
              have hl := HA.out.z.lt
              have hlx := HA.out.x.lt
              have hly := HA.out.y.lt
              have HT := HT'
              clear HT'
              obtain ⟨t0, t1, _, _⟩ := HT.out.cells
              have ht := HT.out.lt
              go_wp2_with fail
              refine (HL2.out _).mono ?_
              rintro e w35 ⟨rfl, b35⟩
              have HA' := Lib.hid (HA.out.below b35)
              have HT' := Lib.hid (HT.out.below b35)
              clear b35 HA x0 x1 y0 y1 z0 z1 hl hlx hly HT t0 t1 ht
              have HA := HA'
              clear HA'
              obtain ⟨x0, x1, _, _⟩ := HA.out.x.cells
              obtain ⟨y0, y1, _, _⟩ := HA.out.y.cells
              obtain ⟨z0, z1, _, _⟩ := HA.out.z.cells
              have hl := HA.out.z.lt
              have hlx := HA.out.x.lt
              have hly := HA.out.y.lt
              have HT := HT'
              clear HT'
              obtain ⟨t0, t1, _, _⟩ := HT.out.cells
              have ht := HT.out.lt
              go_wp2_with fail
              refine (HW.out _).mono ?_
              rintro e w36 ⟨rfl, b36⟩
              have HA' := Lib.hid (HA.out.below b36)
              have HT' := Lib.hid (HT.out.below b36)
              clear b36 HA x0 x1 y0 y1 z0 z1 hl hlx hly HT t0 t1 ht
              have HA := HA'
              clear HA'
              obtain ⟨x0, x1, _, _⟩ := HA.out.x.cells
              obtain ⟨y0, y1, _, _⟩ := HA.out.y.cells
              obtain ⟨z0, z1, _, _⟩ := HA.out.z.cells
              have hl := HA.out.z.lt
              have hlx := HA.out.x.lt
              have hly := HA.out.y.lt
              have HT := HT'
              clear HT'
              obtain ⟨t0, t1, _, _⟩ := HT.out.cells
              have ht := HT.out.lt
              go_wp2_with fail
              go_ret
              exact ⟨rfl, HA.out.b⟩
        · rcases hno with hno | hno
          · rw [hno] at HL1
            clear hno
            go_wp2_with fail
            refine (HL1.out _).mono ?_
            rintro e w37 ⟨rfl, b37⟩
            have HA' := Lib.hid (HA.out.below b37)
            have HT' := Lib.hid (HT.out.below b37)
            clear b37 HA x0 x1 y0 y1 z0 z1 hl hlx hly HT t0 t1 ht
            have HA := HA'
            clear HA'
            obtain ⟨x0, x1, _, _⟩ := HA.out.x.cells
            obtain ⟨y0, y1, _, _⟩ := HA.out.y.cells
            obtain ⟨z0, z1, _, _⟩ := HA.out.z.cells
            have hl := HA.out.z.lt
            have hlx := HA.out.x.lt
            have hly := HA.out.y.lt
            have HT := HT'
            clear HT'
            obtain ⟨t0, t1, _, _⟩ := HT.out.cells
            have ht := HT.out.lt
            go_wp2_with fail
            refine (HW.out _).mono ?_
            rintro e w38 ⟨rfl, b38⟩
            have HA' := Lib.hid (HA.out.below b38)
            have HT' := Lib.hid (HT.out.below b38)
            clear b38 HA x0 x1 y0 y1 z0 z1 hl hlx hly HT t0 t1 ht
            have HA := HA'
            clear HA'
            obtain ⟨x0, x1, _, _⟩ := HA.out.x.cells
            obtain ⟨y0, y1, _, _⟩ := HA.out.y.cells
            obtain ⟨z0, z1, _, _⟩ := HA.out.z.cells
            have hl := HA.out.z.lt
            have hlx := HA.out.x.lt
            have hly := HA.out.y.lt
            have HT := HT'
            clear HT'
            obtain ⟨t0, t1, _, _⟩ := HT.out.cells
            have ht := HT.out.lt
            go_wp2_with fail
            go_ret
            exact ⟨rfl, HA.out.b⟩
          · rw [hno] at HL2
            clear hno
            generalize decide (a * s < r * b) = l1 at HL1
            cases l1 with
            | false =>
              go_wp2_with fail
              refine (HL1.out _).mono ?_
              rintro e w39 ⟨rfl, b39⟩
              have HA' := Lib.hid (HA.out.below b39)
              have HT' := Lib.hid (HT.out.below b39)
              clear b39 HA x0 x1 y0 y1 z0 z1 hl hlx hly HT t0 t1 ht
              have HA := HA'
              clear HA'
              obtain ⟨x0, x1, _, _⟩ := HA.out.x.cells
              obtain ⟨y0, y1, _, _⟩ := HA.out.y.cells
              obtain ⟨z0, z1, _, _⟩ := HA.out.z.cells
              have hl := HA.out.z.lt
              have hlx := HA.out.x.lt
              have hly := HA.out.y.lt
              have HT := HT'
              clear HT'
              obtain ⟨t0, t1, _, _⟩ := HT.out.cells
              have ht := HT.out.lt
              go_wp2_with fail
              refine (HW.out _).mono ?_
              rintro e w40 ⟨rfl, b40⟩
              have HA' := Lib.hid (HA.out.below b40)
              have HT' := Lib.hid (HT.out.below b40)
              clear b40 HA x0 x1 y0 y1 z0 z1 hl hlx hly HT t0 t1 ht
              have HA := HA'
              clear HA'
              obtain ⟨x0, x1, _, _⟩ := HA.out.x.cells
              obtain ⟨y0, y1, _, _⟩ := HA.out.y.cells
              obtain ⟨z0, z1, _, _⟩ := HA.out.z.cells
              have hl := HA.out.z.lt
              have hlx := HA.out.x.lt
              have hly := HA.out.y.lt
              have HT := HT'
              clear HT'
              obtain ⟨t0, t1, _, _⟩ := HT.out.cells
              have ht := HT.out.lt
              go_wp2_with fail
              go_ret
              exact ⟨rfl, HA.out.b⟩
            | true =>
              go_wp2_with fail
              refine (HL1.out _).mono ?_
              rintro e w41 ⟨rfl, b41⟩
              have HA' := Lib.hid (HA.out.below b41)
              have HT' := Lib.hid (HT.out.below b41)
              clear b41 HA x0 x1 y0 y1 z0 z1 hl hlx hly HT t0 t1 ht
              have HA := HA'
              clear HA'
              obtain ⟨x0, x1, _, _⟩ := HA.out.x.cells
              obtain ⟨y0, y1, _, _⟩ := HA.out.y.cells
              obtain ⟨z0, z1, _, _⟩ := HA.out.z.cells
              have hl := HA.out.z.lt
              have hlx := HA.out.x.lt
              have hly := HA.out.y.lt
              have HT := HT'
              clear HT'
              obtain ⟨t0, t1, _, _⟩ := HT.out.cells
              have ht := HT.out.lt
              go_wp2_with fail
              refine (HL2.out _).mono ?_
              rintro e w42 ⟨rfl, b42⟩
              have HA' := Lib.hid (HA.out.below b42)
              have HT' := Lib.hid (HT.out.below b42)
              clear b42 HA x0 x1 y0 y1 z0 z1 hl hlx hly HT t0 t1 ht
              have HA := HA'
              clear HA'
              obtain ⟨x0, x1, _, _⟩ := HA.out.x.cells
              obtain ⟨y0, y1, _, _⟩ := HA.out.y.cells
              obtain ⟨z0, z1, _, _⟩ := HA.out.z.cells
              have hl := HA.out.z.lt
              have hlx := HA.out.x.lt
              have hly := HA.out.y.lt
              have HT := HT'
              clear HT'
              obtain ⟨t0, t1, _, _⟩ := HT.out.cells
              have ht := HT.out.lt
              go_wp2_with fail
              refine (HW.out _).mono ?_
              rintro e w43 ⟨rfl, b43⟩
              have HA' := Lib.hid (HA.out.below b43)
              have HT' := Lib.hid (HT.out.below b43)
              clear b43 HA x0 x1 y0 y1 z0 z1 hl hlx hly HT t0 t1 ht
              have HA := HA'
              clear HA'
              obtain ⟨x0, x1, _, _⟩ := HA.out.x.cells
              obtain ⟨y0, y1, _, _⟩ := HA.out.y.cells
              obtain ⟨z0, z1, _, _⟩ := HA.out.z.cells
              have hl := HA.out.z.lt
              have hlx := HA.out.x.lt
              have hly := HA.out.y.lt
              have HT := HT'
              clear HT'
              obtain ⟨t0, t1, _, _⟩ := HT.out.cells
              have ht := HT.out.lt
              go_wp2_with fail
              go_ret
              exact ⟨rfl, HA.out.b⟩
      · rw [hb] at hB
        simp only at hB
        have HB := Lib.hid hB
        have hVM := fun w => refValid_any m n w
        rw [vm] at hVM
        have HVM := Lib.hid hVM
        have hM1 := less_call va vm
        have hM2 := less_call vm vc
        rw [lm1] at hM1
        rw [lm2] at hM2
        have HM1 := Lib.hid hM1
        have HM2 := Lib.hid hM2
        clear hB hb va vc vr vm lm1 lm2 hVM hM1 hM2
        go_wp2_with fail
        refine (HB.out _).mono ?_
        rintro e w44 ⟨rfl, b44⟩
        have HA' := Lib.hid (HA.out.below b44)
        clear b44 HA x0 x1 y0 y1 z0 z1 hl hlx hly
        have HA := HA'
        clear HA'
        obtain ⟨x0, x1, _, _⟩ := HA.out.x.cells
        obtain ⟨y0, y1, _, _⟩ := HA.out.y.cells
        obtain ⟨z0, z1, _, _⟩ := HA.out.z.cells
        have hl := HA.out.z.lt
        have hlx := HA.out.x.lt
        have hly := HA.out.y.lt
        have HA' := Lib.hid (HA.out.below (below_alloc w44 (.cells #[.int .i64 m, .int .i64 n] 26)))
        have HT := Lib.hid (Two.new w44 26 m n)
        clear HA x0 x1 y0 y1 z0 z1 hl hlx hly
        have HA := HA'
        clear HA'
        obtain ⟨t0, t1, _, _⟩ := HT.out.cells
        have ht := HT.out.lt
        obtain ⟨x0, x1, _, _⟩ := HA.out.x.cells
        obtain ⟨y0, y1, _, _⟩ := HA.out.y.cells
        obtain ⟨z0, z1, _, _⟩ := HA.out.z.cells
        have hl := HA.out.z.lt
        have hlx := HA.out.x.lt
        have hly := HA.out.y.lt
        generalize decide (a * s < r * b) = l1 at HL1 hno
        generalize decide (r * d < c * s) = l2 at HL2 hno
        cases l1 with
        | false =>
          clear hno
          go_wp2_with fail
          refine (HL1.out _).mono ?_
          rintro e w45 ⟨rfl, b45⟩
          have HA' := Lib.hid (HA.out.below b45)
          have HT' := Lib.hid (HT.out.below b45)
          clear b45 HA x0 x1 y0 y1 z0 z1 hl hlx hly HT t0 t1 ht
          have HA := HA'
          clear HA'
          obtain ⟨x0, x1, _, _⟩ := HA.out.x.cells
          obtain ⟨y0, y1, _, _⟩ := HA.out.y.cells
          obtain ⟨z0, z1, _, _⟩ := HA.out.z.cells
          have hl := HA.out.z.lt
          have hlx := HA.out.x.lt
          have hly := HA.out.y.lt
          have HT := HT'
          clear HT'
          obtain ⟨t0, t1, _, _⟩ := HT.out.cells
          have ht := HT.out.lt
          go_wp2_with fail
          refine (HVM.out _).mono ?_
          rintro e w46 ⟨rfl, b46⟩
          have HA' := Lib.hid (HA.out.below b46)
          have HT' := Lib.hid (HT.out.below b46)
          clear b46 HA x0 x1 y0 y1 z0 z1 hl hlx hly HT t0 t1 ht
          have HA := HA'
          clear HA'
          obtain ⟨x0, x1, _, _⟩ := HA.out.x.cells
          obtain ⟨y0, y1, _, _⟩ := HA.out.y.cells
          obtain ⟨z0, z1, _, _⟩ := HA.out.z.cells
          have hl := HA.out.z.lt
          have hlx := HA.out.x.lt
          have hly := HA.out.y.lt
          have HT := HT'
          clear HT'
          obtain ⟨t0, t1, _, _⟩ := HT.out.cells
          have ht := HT.out.lt
          go_wp2_with fail
          refine (HM1.out _).mono ?_
          rintro e w47 ⟨rfl, b47⟩
          have HA' := Lib.hid (HA.out.below b47)
          have HT' := Lib.hid (HT.out.below b47)
          clear b47 HA x0 x1 y0 y1 z0 z1 hl hlx hly HT t0 t1 ht
          have HA := HA'
          clear HA'
          obtain ⟨x0, x1, _, _⟩ := HA.out.x.cells
          obtain ⟨y0, y1, _, _⟩ := HA.out.y.cells
          obtain ⟨z0, z1, _, _⟩ := HA.out.z.cells
          have hl := HA.out.z.lt
          have hlx := HA.out.x.lt
          have hly := HA.out.y.lt
          have HT := HT'
          clear HT'
          obtain ⟨t0, t1, _, _⟩ := HT.out.cells
          have ht := HT.out.lt
          go_wp2_with fail
          refine (HM2.out _).mono ?_
          rintro e w48 ⟨rfl, b48⟩
          have HA' := Lib.hid (HA.out.below b48)
          have HT' := Lib.hid (HT.out.below b48)
          clear b48 HA x0 x1 y0 y1 z0 z1 hl hlx hly HT t0 t1 ht
          have HA := HA'
          clear HA'
          obtain ⟨x0, x1, _, _⟩ := HA.out.x.cells
          obtain ⟨y0, y1, _, _⟩ := HA.out.y.cells
          obtain ⟨z0, z1, _, _⟩ := HA.out.z.cells
          have hl := HA.out.z.lt
          have hlx := HA.out.x.lt
          have hly := HA.out.y.lt
          have HT := HT'
          clear HT'
          obtain ⟨t0, t1, _, _⟩ := HT.out.cells
          have ht := HT.out.lt
          go_wp2_with fail
          refine (HW.out _).mono ?_
          rintro e w49 ⟨rfl, b49⟩
          have HA' := Lib.hid (HA.out.below b49)
          have HT' := Lib.hid (HT.out.below b49)
          clear b49 HA x0 x1 y0 y1 z0 z1 hl hlx hly HT t0 t1 ht
          have HA := HA'
          clear HA'
          obtain ⟨x0, x1, _, _⟩ := HA.out.x.cells
          obtain ⟨y0, y1, _, _⟩ := HA.out.y.cells
          obtain ⟨z0, z1, _, _⟩ := HA.out.z.cells
          have hl := HA.out.z.lt
          have hlx := HA.out.x.lt
          have hly := HA.out.y.lt
          have HT := HT'
          clear HT'
          obtain ⟨t0, t1, _, _⟩ := HT.out.cells
          have ht := HT.out.lt
          go_wp2_with fail
          go_ret
          exact ⟨rfl, HA.out.b⟩
        | true =>
          cases l2 with
          | false =>
            clear hno
            go_wp2_with fail
            refine (HL1.out _).mono ?_
            rintro e w50 ⟨rfl, b50⟩
            have HA' := Lib.hid (HA.out.below b50)
            have HT' := Lib.hid (HT.out.below b50)
            clear b50 HA x0 x1 y0 y1 z0 z1 hl hlx hly HT t0 t1 ht
            have HA := HA'
            clear HA'
            obtain ⟨x0, x1, _, _⟩ := HA.out.x.cells
            obtain ⟨y0, y1, _, _⟩ := HA.out.y.cells
            obtain ⟨z0, z1, _, _⟩ := HA.out.z.cells
            have hl := HA.out.z.lt
            have hlx := HA.out.x.lt
            have hly := HA.out.y.lt
            have HT := HT'
            clear HT'
            obtain ⟨t0, t1, _, _⟩ := HT.out.cells
            have ht := HT.out.lt
            go_wp2_with fail
            refine (HL2.out _).mono ?_
            rintro e w51 ⟨rfl, b51⟩
            have HA' := Lib.hid (HA.out.below b51)
            have HT' := Lib.hid (HT.out.below b51)
            clear b51 HA x0 x1 y0 y1 z0 z1 hl hlx hly HT t0 t1 ht
            have HA := HA'
            clear HA'
            obtain ⟨x0, x1, _, _⟩ := HA.out.x.cells
            obtain ⟨y0, y1, _, _⟩ := HA.out.y.cells
            obtain ⟨z0, z1, _, _⟩ := HA.out.z.cells
            have hl := HA.out.z.lt
            have hlx := HA.out.x.lt
            have hly := HA.out.y.lt
            have HT := HT'
            clear HT'
            obtain ⟨t0, t1, _, _⟩ := HT.out.cells
            have ht := HT.out.lt
            go_wp2_with fail
            refine (HVM.out _).mono ?_
            rintro e w52 ⟨rfl, b52⟩
            have HA' := Lib.hid (HA.out.below b52)
            have HT' := Lib.hid (HT.out.below b52)
            clear b52 HA x0 x1 y0 y1 z0 z1 hl hlx hly HT t0 t1 ht
            have HA := HA'
            clear HA'
            obtain ⟨x0, x1, _, _⟩ := HA.out.x.cells
            obtain ⟨y0, y1, _, _⟩ := HA.out.y.cells
            obtain ⟨z0, z1, _, _⟩ := HA.out.z.cells
            have hl := HA.out.z.lt
            have hlx := HA.out.x.lt
            have hly := HA.out.y.lt
            have HT := HT'
            clear HT'
            obtain ⟨t0, t1, _, _⟩ := HT.out.cells
            have ht := HT.out.lt
            go_wp2_with fail
            refine (HM1.out _).mono ?_
            rintro e w53 ⟨rfl, b53⟩
            have HA' := Lib.hid (HA.out.below b53)
            have HT' := Lib.hid (HT.out.below b53)
            clear b53 HA x0 x1 y0 y1 z0 z1 hl hlx hly HT t0 t1 ht
            have HA := HA'
            clear HA'
            obtain ⟨x0, x1, _, _⟩ := HA.out.x.cells
            obtain ⟨y0, y1, _, _⟩ := HA.out.y.cells
            obtain ⟨z0, z1, _, _⟩ := HA.out.z.cells
            have hl := HA.out.z.lt
            have hlx := HA.out.x.lt
            have hly := HA.out.y.lt
            have HT := HT'
            clear HT'
            obtain ⟨t0, t1, _, _⟩ := HT.out.cells
            have ht := HT.out.lt
            go_wp2_with fail
            refine (HM2.out _).mono ?_
            rintro e w54 ⟨rfl, b54⟩
            have HA' := Lib.hid (HA.out.below b54)
            have HT' := Lib.hid (HT.out.below b54)
            clear b54 HA x0 x1 y0 y1 z0 z1 hl hlx hly HT t0 t1 ht
            have HA := HA'
            clear HA'
            obtain ⟨x0, x1, _, _⟩ := HA.out.x.cells
            obtain ⟨y0, y1, _, _⟩ := HA.out.y.cells
            obtain ⟨z0, z1, _, _⟩ := HA.out.z.cells
            have hl := HA.out.z.lt
            have hlx := HA.out.x.lt
            have hly := HA.out.y.lt
            have HT := HT'
            clear HT'
            obtain ⟨t0, t1, _, _⟩ := HT.out.cells
            have ht := HT.out.lt
            go_wp2_with fail
            refine (HW.out _).mono ?_
            rintro e w55 ⟨rfl, b55⟩
            have HA' := Lib.hid (HA.out.below b55)
            have HT' := Lib.hid (HT.out.below b55)
            clear b55 HA x0 x1 y0 y1 z0 z1 hl hlx hly HT t0 t1 ht
            have HA := HA'
            clear HA'
            obtain ⟨x0, x1, _, _⟩ := HA.out.x.cells
            obtain ⟨y0, y1, _, _⟩ := HA.out.y.cells
            obtain ⟨z0, z1, _, _⟩ := HA.out.z.cells
            have hl := HA.out.z.lt
            have hlx := HA.out.x.lt
            have hly := HA.out.y.lt
            have HT := HT'
            clear HT'
            obtain ⟨t0, t1, _, _⟩ := HT.out.cells
            have ht := HT.out.lt
            go_wp2_with fail
            go_ret
            exact ⟨rfl, HA.out.b⟩
          | true =>
            have hs : simplerB (r, s) (m, n) = false := by rcases hno with h | h | h; (exact absurd h (by decide)); (exact absurd h (by decide)); exact h
            have hS := fun w => refSimpler_any r s m n w
            rw [hs] at hS
            unfold frV at hS
            have HS := Lib.hid hS
            clear hno hs hS
            go_wp2_with fail
            refine (HL1.out _).mono ?_
            rintro e w56 ⟨rfl, b56⟩
            have HA' := Lib.hid (HA.out.below b56)
            have HT' := Lib.hid (HT.out.below b56)
            clear b56 HA x0 x1 y0 y1 z0 z1 hl hlx hly HT t0 t1 ht
            have HA := HA'
            clear HA'
            obtain ⟨x0, x1, _, _⟩ := HA.out.x.cells
            obtain ⟨y0, y1, _, _⟩ := HA.out.y.cells
            obtain ⟨z0, z1, _, _⟩ := HA.out.z.cells
            have hl := HA.out.z.lt
            have hlx := HA.out.x.lt
            have hly := HA.out.y.lt
            have HT := HT'
            clear HT'
            obtain ⟨t0, t1, _, _⟩ := HT.out.cells
            have ht := HT.out.lt
            go_wp2_with fail
            refine (HL2.out _).mono ?_
            rintro e w57 ⟨rfl, b57⟩
            have HA' := Lib.hid (HA.out.below b57)
            have HT' := Lib.hid (HT.out.below b57)
            clear b57 HA x0 x1 y0 y1 z0 z1 hl hlx hly HT t0 t1 ht
            have HA := HA'
            clear HA'
            obtain ⟨x0, x1, _, _⟩ := HA.out.x.cells
            obtain ⟨y0, y1, _, _⟩ := HA.out.y.cells
            obtain ⟨z0, z1, _, _⟩ := HA.out.z.cells
            have hl := HA.out.z.lt
            have hlx := HA.out.x.lt
            have hly := HA.out.y.lt
            have HT := HT'
            clear HT'
            obtain ⟨t0, t1, _, _⟩ := HT.out.cells
            have ht := HT.out.lt
            go_wp2_with fail
            refine (HVM.out _).mono ?_
            rintro e w58 ⟨rfl, b58⟩
            have HA' := Lib.hid (HA.out.below b58)
            have HT' := Lib.hid (HT.out.below b58)
            clear b58 HA x0 x1 y0 y1 z0 z1 hl hlx hly HT t0 t1 ht
            have HA := HA'
            clear HA'
            obtain ⟨x0, x1, _, _⟩ := HA.out.x.cells
            obtain ⟨y0, y1, _, _⟩ := HA.out.y.cells
            obtain ⟨z0, z1, _, _⟩ := HA.out.z.cells
            have hl := HA.out.z.lt
            have hlx := HA.out.x.lt
            have hly := HA.out.y.lt
            have HT := HT'
            clear HT'
            obtain ⟨t0, t1, _, _⟩ := HT.out.cells
            have ht := HT.out.lt
            go_wp2_with fail
            refine (HM1.out _).mono ?_
            rintro e w59 ⟨rfl, b59⟩
            have HA' := Lib.hid (HA.out.below b59)
            have HT' := Lib.hid (HT.out.below b59)
            clear b59 HA x0 x1 y0 y1 z0 z1 hl hlx hly HT t0 t1 ht
            have HA := HA'
            clear HA'
            obtain ⟨x0, x1, _, _⟩ := HA.out.x.cells
            obtain ⟨y0, y1, _, _⟩ := HA.out.y.cells
            obtain ⟨z0, z1, _, _⟩ := HA.out.z.cells
            have hl := HA.out.z.lt
            have hlx := HA.out.x.lt
            have hly := HA.out.y.lt
            have HT := HT'
            clear HT'
            obtain ⟨t0, t1, _, _⟩ := HT.out.cells
            have ht := HT.out.lt
            go_wp2_with fail
            refine (HM2.out _).mono ?_
            rintro e w60 ⟨rfl, b60⟩
            have HA' := Lib.hid (HA.out.below b60)
            have HT' := Lib.hid (HT.out.below b60)
            clear b60 HA x0 x1 y0 y1 z0 z1 hl hlx hly HT t0 t1 ht
            have HA := HA'
            clear HA'
            obtain ⟨x0, x1, _, _⟩ := HA.out.x.cells
            obtain ⟨y0, y1, _, _⟩ := HA.out.y.cells
            obtain ⟨z0, z1, _, _⟩ := HA.out.z.cells
            have hl := HA.out.z.lt
            have hlx := HA.out.x.lt
            have hly := HA.out.y.lt
            have HT := HT'
            clear HT'
            obtain ⟨t0, t1, _, _⟩ := HT.out.cells
            have ht := HT.out.lt
            go_wp2_with fail
            refine (HS.out _).mono ?_
            rintro e w61 ⟨rfl, b61⟩
            have HA' := Lib.hid (HA.out.below b61)
            have HT' := Lib.hid (HT.out.below b61)
            clear b61 HA x0 x1 y0 y1 z0 z1 hl hlx hly HT t0 t1 ht
            have HA := HA'
            clear HA'
            obtain ⟨x0, x1, _, _⟩ := HA.out.x.cells
            obtain ⟨y0, y1, _, _⟩ := HA.out.y.cells
            obtain ⟨z0, z1, _, _⟩ := HA.out.z.cells
            have hl := HA.out.z.lt
            have hlx := HA.out.x.lt
            have hly := HA.out.y.lt
            have HT := HT'
            clear HT'
            obtain ⟨t0, t1, _, _⟩ := HT.out.cells
            have ht := HT.out.lt
            go_wp2_with fail
            refine (HW.out _).mono ?_
            rintro e w62 ⟨rfl, b62⟩
            have HA' := Lib.hid (HA.out.below b62)
            have HT' := Lib.hid (HT.out.below b62)
            clear b62 HA x0 x1 y0 y1 z0 z1 hl hlx hly HT t0 t1 ht
            have HA := HA'
            clear HA'
            obtain ⟨x0, x1, _, _⟩ := HA.out.x.cells
            obtain ⟨y0, y1, _, _⟩ := HA.out.y.cells
            obtain ⟨z0, z1, _, _⟩ := HA.out.z.cells
            have hl := HA.out.z.lt
            have hlx := HA.out.x.lt
            have hly := HA.out.y.lt
            have HT := HT'
            clear HT'
            obtain ⟨t0, t1, _, _⟩ := HT.out.cells
            have ht := HT.out.lt
            go_wp2_with fail
            go_ret
            exact ⟨rfl, HA.out.b⟩

theorem walk_YardSimple (a b : Int) (h1 : (Lit.int .i64 a).wf = true) (_ : (Lit.int .i64 b).wf = true) (c d : Int) (h2 : (Lit.int .i64 c).wf = true) (_ : (Lit.int .i64 d).wf = true) (e f : Int) (h3 : (Lit.int .i64 e).wf = true) (_ : (Lit.int .i64 f).wf = true) (W : World) :
    Calls Try.prog 11 #[.agg #[.int .i64 a, .int .i64 b], .agg #[.int .i64 c, .int .i64 d], .agg #[.int .i64 e, .int .i64 f]] W fun e W' => e = .returned (.bool true) ∧ Below W.heap.size W W' := ysi a b c d e f W h1 h2 h3


namespace lawYardSimple
open Go.ChangeShapes Go.WideShapes Go.ChangeAt Go.RowKit
open Go.ChangeMaps (open_string shut_string)

theorem own : ownKnob Try.prog.godebug = none := by kernel_rfl
theorem lay : laidOutB Try.prog = true := by kernel_rfl

set_option maxRecDepth 100000 in
theorem lifted (os : Os) (started : os.Started) (H : Type) (enc : TypeId × Value → H) :
    ReturnsInHanded {} Try.checked os 11 .any (Rows.yardSimpleSpec.pre6 enc Try.prog Try.f11 Rows.yardSimpleRow.domain false) (Rows.yardSimpleSpec.post enc Try.prog Try.f11 false true false false) := by
  refine returnsInHanded_of_change (C := Try.checked) own started (by kernel_rfl) Try.func11
    (ChangeSpec.witness6 (enc := enc) (C := Try.checked) false ⟨#[], #[.agg #[.int .i64 0, .int .i64 0], .agg #[.int .i64 0, .int .i64 0], .agg #[.int .i64 0, .int .i64 0]], []⟩ 8 (by kernel_rfl) (by kernel_rfl) (by kernel_rfl) (by kernel_rfl)) ?_
  intro W base args ds gs before hval0 hW hcnd _
  have hval : ∀ (j : Nat) t v, Try.f11.params[j]? = some t → args[j]? = some v → Value.okWide Try.prog W .any base t v := hval0
  have hW' := hW
  obtain ⟨p, q, hA0, hV, rfl, hfz, hnd⟩ := hW
  have hA : DataW.TrodAll enc Try.prog W 0 (fun _ => true) true Try.f11.params.toList args.toList ds p := hA0
  rw [Try.params11] at hA hval
  obtain ⟨v0, vs0, d0, ds0, p0, q0, hargs, rfl, rfl, h0, r0⟩ := trodAll_cons hA
  obtain ⟨v1, vs1, d1, ds1, p1, q1, rfl, rfl, rfl, h1, r1⟩ := trodAll_cons r0
  obtain ⟨v2, vs2, d2, ds2, p2, q2, rfl, rfl, rfl, h2, r2⟩ := trodAll_cons r1
  obtain ⟨rfl, rfl, rfl⟩ := trodAll_nil r2
  obtain rfl : args = #[v0, v1, v2] := by cases args; simp_all
  obtain ⟨rfl, rfl⟩ := trodVars_none hV
  obtain ⟨c0, k0, y0, z0, m0, rfl, rfl, rfl, g0, l0⟩ := Joins.open_agg2 Try.underlying26 (by kernel_rfl) (by kernel_rfl) (hval 0 26 v0 rfl rfl) h0
  obtain ⟨a0, e0, rfl, w0⟩ := DataW.trod_int Try.underlying3 g0
  obtain ⟨b0, f0, rfl, x0⟩ := DataW.trod_int Try.underlying3 l0
  simp at e0 f0
  subst e0 f0
  obtain ⟨c1, k1, y1, z1, m1, rfl, rfl, rfl, g1, l1⟩ := Joins.open_agg2 Try.underlying26 (by kernel_rfl) (by kernel_rfl) (hval 1 26 v1 rfl rfl) h1
  obtain ⟨a1, e1, rfl, w1⟩ := DataW.trod_int Try.underlying3 g1
  obtain ⟨b1, f1, rfl, x1⟩ := DataW.trod_int Try.underlying3 l1
  simp at e1 f1
  subst e1 f1
  obtain ⟨c2, k2, y2, z2, m2, rfl, rfl, rfl, g2, l2⟩ := Joins.open_agg2 Try.underlying26 (by kernel_rfl) (by kernel_rfl) (hval 2 26 v2 rfl rfl) h2
  obtain ⟨a2, e2, rfl, w2⟩ := DataW.trod_int Try.underlying3 g2
  obtain ⟨b2, f2, rfl, x2⟩ := DataW.trod_int Try.underlying3 l2
  simp at e2 f2
  subst e2 f2
  simp only [List.append_nil] at hW'
  clear hA0 hval0
  refine (walk_YardSimple a0 b0 w0 x0 a1 b1 w1 x1 a2 b2 w2 x2 W).mono fun e W' ⟨he, bel⟩ => ?_
  subst he
  exact ⟨_, rfl, _, _, _, [], _, [], hW', trodAll_mk1 (shut_bool Try.underlying4 _), (trodAll_cons_mk (Joins.shut_agg2 (y0 := (.lit (.int .i64 a0), [])) (y1 := (.lit (.int .i64 b0), [])) Try.underlying26 (by kernel_rfl) (by kernel_rfl) (shut_int Try.underlying3 w0) (shut_int Try.underlying3 x0)) (trodAll_cons_mk (Joins.shut_agg2 (y0 := (.lit (.int .i64 a1), [])) (y1 := (.lit (.int .i64 b1), [])) Try.underlying26 (by kernel_rfl) (by kernel_rfl) (shut_int Try.underlying3 w1) (shut_int Try.underlying3 x1)) (trodAll_cons_mk (Joins.shut_agg2 (y0 := (.lit (.int .i64 a2), [])) (y1 := (.lit (.int .i64 b2), [])) Try.underlying26 (by kernel_rfl) (by kernel_rfl) (shut_int Try.underlying3 w2) (shut_int Try.underlying3 x2)) trodAll_mk0))), rfl, bel.frame _, fun h => by cases h⟩

theorem over : Rows.yardSimpleRow.holds Try.pinned (OpenSpec.ofChange Rows.yardSimpleSpec) :=
  OpenClaim.holds_of_wide 11 Try.f11 rfl rfl rfl rfl rfl rfl rfl ⟨rfl, rfl, rfl, rfl, rfl⟩ rfl rfl rfl rfl rfl (by kernel_rfl) Try.func11 (by kernel_rfl)
    (of_decide_eq_true (by kernel_rfl)) (by unfold Func.isWrapper; first | (rw [if_pos (by decide +kernel)]; kernel_rfl) | (rw [if_neg (by decide +kernel)]; exact ⟨rfl, rfl⟩))
    (fun os started H enc _ => lifted os started H enc)

theorem proved : Rows.YardSimpleSaid := over
end lawYardSimple
end Go.Proofs.Ythpnlhigcijicaa
