/- The walk of Shifted. -/
import Derived.Test.YthmdlkaanjjbkaaShm
import Derived.Test.YthmdlkaanjjbkaaSmm
import Derived.Test.YthmdlkaanjjbkaaRfm
import Derived.Test.YthmdlkaanjjbkaaOpa
namespace Go.Proofs.Ythmdlkaanjjbkaa
set_option linter.unusedVariables false
open Go.RowKit

theorem modV_small {s : Int} {m : Nat} (hm : 1 ≤ m) (hs : 0 ≤ s ∧ s ≤ 1000) : (modV s m : Int) = s % (m : Int) := by
  have h1 : IntKind.u64.wrap s = s := by
    simp only [IntKind.wrap, IntKind.bits, IntKind.signed]
    simp
    omega
  have h2 := Int.emod_nonneg s (show (m : Int) ≠ 0 by omega)
  unfold modV
  rw [h1, Int.tmod_eq_emod_of_nonneg hs.1]
  omega
/-- whether the number stands among the first k -/
def bF (S : List Int) (t : Int) (k : Nat) : Bool := (List.range k).any fun i => decide (S.getD i 0 = t)
theorem bF_step (S : List Int) (t : Int) (k : Nat) : bF S t (k + 1) = (bF S t k || decide (S.getD k 0 = t)) := by
  unfold bF
  rw [List.range_succ, List.any_append]; simp
theorem bF_end {S : List Int} {t : Int} {k n : Nat} (hk : k < n) (h : S.getD k 0 = t) : bF S t n = true := by
  unfold bF
  rw [List.any_eq_true]
  exact ⟨k, List.mem_range.2 hk, decide_eq_true h⟩
theorem box_two (w : World) (u v : Value) (t : TypeId) : Below w.heap.size w (w.alloc (.cells #[u, v] t)) ∧ (w.alloc (.cells #[u, v] t)).cell? ⟨w.heap.size, 0, none⟩ = some u ∧ (w.alloc (.cells #[u, v] t)).cell? ⟨w.heap.size, 1, none⟩ = some v := by
  have k : ∀ y : World, y.heap[w.heap.size]? = some (.cells #[u, v] t (0, 0)) → y.cell? ⟨w.heap.size, 0, none⟩ = some u ∧ y.cell? ⟨w.heap.size, 1, none⟩ = some v := fun y k => ⟨by simp [World.cell?, k], by simp [World.cell?, k]⟩
  exact ⟨below_alloc _ _, k _ (World.alloc_heap_new w (.cells #[u, v] t))⟩
theorem div_num {m n : Nat} (hn : 1 ≤ n) (h : m % n = 0) : Int.tmod (m : Int) (n : Int) = 0 := by
  rw [tmod_nat, h]; rfl
theorem down_p {k : Nat} (h : 0 < k) (h2 : k ≤ 100) : ∃ p : Nat, p + 1 = k ∧ IntKind.i64.wrap ((k : Int) - 1) = (p : Int) := ⟨k - 1, by omega, by rw [IntWalk.i64_in _ (by omega)]; omega⟩
set_option maxRecDepth 100000 in
set_option maxHeartbeats 8000000 in
theorem shifted_walk (x : Int) (pv : Value) (row : List Int) (o0 o1 : Int) (w : World) (hP : RowIn w pv row) : Calls Try.prog 15 #[.int .i64 x, pv, .agg #[.int .i64 o0, .int .i64 o1]] w fun e w' => e = .returned (.bool true) ∧ Below w.heap.size w w' := by
  have hr := modV_lt x 63 (by omega)
  obtain ⟨m, hmr⟩ : ∃ m, modV x 63 + 2 = m := ⟨_, rfl⟩
  have hm : 2 ≤ m := by omega
  have hm2 : m ≤ 64 := by omega
  have w1 : wrap64 (2 + (modV x 63 : Int)) = (m : Int) := by rw [IntWalk.wrap64_in _ (by omega)]; omega
  have w2 : IntKind.i64.wrap (2 + (modV x 63 : Int)) = (m : Int) := by rw [IntWalk.i64_in _ (by omega)]; omega
  have hTP := fun W hW => tame_in m pv row W (by omega) hm2 (hP.below hW)
  have hpP := tamL_poly hm hm2 row
  generalize tamL m row = P at hTP hpP
  have hSh := fun a cap W hW => Shifts_yes m a P.length cap P W hW hpP
  have hfr : ∀ x, 0 ≤ (fun x : Nat => polyV m P x) x ∧ (fun x : Nat => polyV m P x) x < m := fun x => nestV_range (by omega) _ _ _
  have hW := shL_W hm hm2 hfr
  generalize shL m (fun x : Nat => polyV m P x) m = S at hSh hW
  obtain ⟨g1, g2, g3, g4, g5, g6, g7⟩ := hW
  obtain ⟨sl, hsl⟩ : ∃ n, S.length = n := ⟨_, rfl⟩
  obtain ⟨pl, hpl⟩ : ∃ n, P.length = n := ⟨_, rfl⟩
  rw [hsl] at hSh g1 g2 g4 g5 g6 g7
  rw [hpl] at hTP hSh
  have hi0 := modV_lt o0 sl g1
  have hi1 := modV_lt o1 sl g1
  have hI0 := fun W => mod_val o0 sl W g1 (by omega)
  have hI1 := fun W => mod_val o1 sl W g1 (by omega)
  generalize modV o0 sl = i0 at hi0 hI0
  generalize modV o1 sl = i1 at hi1 hI1
  obtain ⟨kk, hkk, hkk2⟩ := g7 i0 i1 hi0 hi1
  have y0i := g5 i0 hi0
  have y1i := g5 i1 hi1
  have hC := fun W => mod_val o0 m W (by omega) (by omega)
  have hcl := modV_lt o0 m (by omega)
  generalize modV o0 m = c at hC hcl
  have hpl2 : polyB m [(c : Int), 1] = true := by
    unfold polyB remB modB
    rw [Bool.and_eq_true, Bool.and_eq_true]
    exact ⟨⟨decide_eq_true (by omega), rfl⟩, by simp; omega⟩
  have hSh2 := fun a cap W hW => Shifts_yes m a 2 cap [(c : Int), 1] W hW hpl2
  rw [shL_line hm hm2] at hSh2
  generalize shL m (fun x : Nat => polyV m [(c : Int), 1] x) m = S2 at hSh2
  have htg := modV_small (m := m) (by omega) (s := S.getD i0 0 + S.getD i1 0) (by omega)
  have hTG := fun W => mod_val (S.getD i0 0 + S.getD i1 0) m W (by omega) (by omega)
  obtain ⟨tt, htt⟩ : ∃ t, modV (S.getD i0 0 + S.getD i1 0) m = t := ⟨_, rfl⟩
  rw [htt] at htg hTG
  rw [← htg] at hkk2
  have hend := bF_end hkk hkk2
  have hstp := bF_step S (tt : Int)
  have hb0 : bF S (tt : Int) 0 = false := rfl
  obtain ⟨ss, hss⟩ : ∃ s, S.getD i0 0 + S.getD i1 0 = s := ⟨_, rfl⟩
  have n1 : IntKind.i64.wrap (S.getD i0 0 + S.getD i1 0) = ss := by rw [IntWalk.i64_in _ (by omega)]; exact hss
  rw [hss] at hTG
  obtain ⟨hb, k0, k1⟩ := box_two w (.int .i64 o0) (.int .i64 o1) 42
  have HM := Lib.hid fun W => mod_val x 63 W (by omega) (by omega)
  have HTP := Lib.hid hTP
  have HSh := Lib.hid hSh
  have HSh2 := Lib.hid hSh2
  have HI0 := Lib.hid hI0
  have HI1 := Lib.hid hI1
  have HC := Lib.hid hC
  have HTG := Lib.hid hTG
  have Hend := Lib.hid hend
  have Hstp := Lib.hid hstp
  have Hb0 := Lib.hid hb0
  have Hasc := Lib.hid g6
  have Hg3 := Lib.hid g3
  have HA := Lib.hid fun w => awake_any w
  have Hi := Lib.hid (And.intro hi0 hi1)
  have d1 := div_num g1 g4
  have d2 : ((sl : Int) == 0) = false := by rw [beq_eq_false_iff_ne]; omega
  have d3 : ¬ (sl : Int) = 0 := by omega
  have d4 : ¬ (sl : Int) < 1 := by omega
  have hi0i : (i0 : Int) < (sl : Int) := by omega
  have hi1i : (i1 : Int) < (sl : Int) := by omega
  have Hsl := Lib.hid (And.intro g1 g2)
  generalize modV x 63 = r at *
  generalize hB : bF S (tt : Int) = B at *
  clear hTP hSh hSh2 hI0 hI1 hC hTG hend hstp hb0 g3 g5 g6 g7 hP hpP hfr hsl hpl hkk hkk2 y0i y1i htg htt hpl2 hB hi0 hi1 hcl hr hmr
  go_enter Try.func15, Try.ntmps15
  go_wp2_with fail
  generalize w.alloc (.cells #[.int .i64 o0, .int .i64 o1] 42) = W1 at *
  have B1 := Lib.hid hb
  have K0 := Lib.hid k0
  have K1 := Lib.hid k1
  generalize w.heap.size = bx at K0 K1 ⊢
  clear hb k0 k1
  refine (HM.out _).mono ?_
  rintro e w2' ⟨rfl, hw⟩
  subst w2'
  go_wp2_with fail
  refine (HTP.out _ B1.out).mono ?_
  rintro e w3 ⟨tv, rfl, ot, b3⟩
  obtain ⟨a3, c3, rfl, -, r3⟩ := own_slice ot
  have R3 := Lib.hid r3
  have B3 := Lib.hid (b_next B1.out b3)
  have K03 := Lib.hid ((b3.cell (p := ⟨bx, 0, none⟩) (World.block_lt_of_cell? W1 _ K0.out)).trans K0.out)
  have K13 := Lib.hid ((b3.cell (p := ⟨bx, 1, none⟩) (World.block_lt_of_cell? W1 _ K1.out)).trans K1.out)
  clear ot r3 b3 K0 K1 B1
  go_wp2_with fail
  refine (HSh.out _ _ _ R3.out).mono ?_
  rintro e w4 ⟨sv, rfl, os, b4⟩
  obtain ⟨a4, c4, rfl, -, r4⟩ := own_slice os
  obtain ⟨g, rfl, _⟩ := r4.2 (by have := Hsl.out; omega)
  have hcell : ∀ j, j < sl → w4.cell? ⟨g, j, none⟩ = some (.int .i64 (S.getD j 0)) := fun j hj => by
    obtain ⟨g', e1, h2⟩ := r4.int hj
    have e2 := (show (some (⟨g, 0, none⟩ : Addr)) = some ⟨g', 0, none⟩ from e1)
    simp only [Option.some.injEq, Addr.mk.injEq, and_true] at e2
    subst e2
    exact h2
  have Hcell := Lib.hid hcell
  have B4 := Lib.hid (b_next B3.out b4)
  have k0 := (b4.cell (p := ⟨bx, 0, none⟩) (World.block_lt_of_cell? w3 _ K03.out)).trans K03.out
  have k1 := (b4.cell (p := ⟨bx, 1, none⟩) (World.block_lt_of_cell? w3 _ K13.out)).trans K13.out
  have cz := hcell 0 (by have := Hsl.out; omega)
  rw [Hg3.out] at cz
  have cy0 := hcell i0 Hi.out.1
  have cy1 := hcell i1 Hi.out.2
  have hz0 : (0 : Int) < (sl : Int) := by have := Hsl.out; omega
  generalize S.getD i0 0 = y0 at *
  generalize S.getD i1 0 = y1 at *
  clear hss os r4 b4 K03 K13 B3 R3 HTP HM HSh hcell
  go_wp2
  go_quiet ((first | (go_at_call 57; with_reducible exact Calls.quiet_of_same (HI0.out _)) | (go_at_call 57; with_reducible exact Calls.quiet_of_same (HI1.out _))))
  have B5 := Lib.hid (below_drewN B4.out nq)
  have hcell5 : ∀ j, j < sl → (w4.drewN nq).cell? ⟨g, j, none⟩ = some (.int .i64 (S.getD j 0)) := Hcell.out
  have k05 : (w4.drewN nq).cell? ⟨bx, 0, none⟩ = some (.int .i64 o0) := k0
  generalize w4.drewN nq = W5 at *
  have Hcell5 := Lib.hid hcell5
  have K05 := Lib.hid k05
  have Hz0 := Lib.hid hz0
  clear hcell5 k05 Hcell k0 k1 cz cy0 cy1 B4 d1 d2 d3 d4 hi0i hi1i n1 Hi HI0 HI1
  go_wp2
  go_loopw [11, 12] (fun fo i wr => ∃ k q : Nat, k ≤ sl ∧ i = .int .i64 k ∧ fo = .bool (B k) ∧ wr = W5.drewN q) (fun _ i _ => sl - (intOf i).toNat)
  case atStart => exact ⟨0, 0, Nat.zero_le _, rfl, by rw [Hb0.out], rfl⟩
  case round =>
    obtain ⟨k, q, hk, rfl, rfl, hw⟩ := hrel
    subst wr
    by_cases hlt : k < sl
    · have hc : (k : Int) < (sl : Int) := by omega
      have ck := Hcell5.out k hlt
      have hst := Hstp.out k
      have Hgo := Lib.hid (And.intro (show k + 1 ≤ sl by omega) hlt)
      have hk64 : k ≤ 64 := by have := Hsl.out; omega
      have hinto : ∀ (k0 : Prop), k0 → k0 := fun _ h => h
      clear hinto
      have hfirst : (k = 0 ∧ decide ((k : Int) > 0) = false ∧ decide ((0 : Int) < (k : Int)) = false ∧ decide (0 < k) = false) ∨ ∃ (p : Nat) (u : Int), decide ((k : Int) > 0) = true ∧ decide ((0 : Int) < (k : Int)) = true ∧ decide (0 < k) = true ∧ IntKind.i64.wrap ((k : Int) - 1) = (p : Int) ∧ (p : Int) < (sl : Int) ∧ W5.cell? ⟨g, p, none⟩ = some (.int .i64 u) ∧ decide (u ≥ S.getD k 0) = false ∧ decide (S.getD k 0 ≤ u) = false := by
        by_cases h0 : k = 0
        · exact .inl ⟨h0, decide_eq_false (by omega), decide_eq_false (by omega), decide_eq_false (by omega)⟩
        · obtain ⟨p, hp, hp2⟩ := down_p (k := k) (by omega) (by omega)
          have ha := Hasc.out p (by omega)
          rw [hp] at ha
          exact .inr ⟨p, S.getD p 0, decide_eq_true (by omega), decide_eq_true (by omega), decide_eq_true (by omega), hp2, by omega, Hcell5.out p (by omega), decide_eq_false (by omega), decide_eq_false (by omega)⟩
      generalize S.getD k 0 = y at ck hst hfirst
      have hyt : decide (y = (tt : Int)) = (y == (tt : Int)) := by
        by_cases h : y = (tt : Int)
        · rw [decide_eq_true h]; simp [h]
        · rw [decide_eq_false h]; simp [h]
      rw [hyt] at hst
      obtain ⟨e, he⟩ : ∃ e, (y == (tt : Int)) = e := ⟨_, rfl⟩
      rw [he] at hst
      have Hst := Lib.hid hst
      clear hst hyt hk hlt
      generalize B k = b at *
      generalize hB1 : B (k + 1) = b1 at *
      have HB1 := Lib.hid hB1
      clear hB1
      rcases hfirst with ⟨h0, f1, f2, f3⟩ | ⟨p, u, f1, f2, f3, f4, f5, f6, f7, f8⟩
      · clear h0
        cases b with
        | true =>
          have hb1 : b1 = true := Hst.out
          go_wp2
          go_quiet (fail)
          go_wp2
          go_quiet (fail)
          go_wp2
          go_roundw
          case rel => exact ⟨k + 1, _, Hgo.out.1, by go_num, by rw [HB1.out, hb1], by first | rfl | simp only [World.drewN_drewN]; rfl | trivial⟩
          case measure => exact mz_upn Hgo.out.2
        | false =>
          have hb1 : b1 = e := Hst.out
          go_wp2
          go_quiet (fail)
          go_wp2
          go_quiet ((go_at_call 57; with_reducible exact quiet_still (HTG.out _)))
          go_wp2
          go_roundw
          case rel => exact ⟨k + 1, _, Hgo.out.1, by go_num, by rw [HB1.out, hb1], by first | rfl | simp only [World.drewN_drewN]; rfl | trivial⟩
          case measure => exact mz_upn Hgo.out.2
      · cases b with
        | true =>
          have hb1 : b1 = true := Hst.out
          go_wp2
          go_quiet (fail)
          go_wp2
          go_quiet (fail)
          go_wp2
          go_roundw
          case rel => exact ⟨k + 1, _, Hgo.out.1, by go_num, by rw [HB1.out, hb1], by first | rfl | simp only [World.drewN_drewN]; rfl | trivial⟩
          case measure => exact mz_upn Hgo.out.2
        | false =>
          have hb1 : b1 = e := Hst.out
          go_wp2
          go_quiet (fail)
          go_wp2
          go_quiet ((go_at_call 57; with_reducible exact quiet_still (HTG.out _)))
          go_wp2
          go_roundw
          case rel => exact ⟨k + 1, _, Hgo.out.1, by go_num, by rw [HB1.out, hb1], by first | rfl | simp only [World.drewN_drewN]; rfl | trivial⟩
          case measure => exact mz_upn Hgo.out.2
    · obtain rfl : k = sl := by omega
      have hc : ¬ (k : Int) < (k : Int) := by omega
      have hbe := Hend.out
      have B6 := Lib.hid (below_drewN B5.out q)
      have k06 : (W5.drewN q).cell? ⟨bx, 0, none⟩ = some (.int .i64 o0) := K05.out
      generalize W5.drewN q = W6 at B6 k06 ⊢
      rw [hbe]
      clear hbe
      go_wp2_with fail
      refine (HC.out _).mono ?_
      rintro e w7 ⟨rfl, hw⟩
      subst w7
      have hrw := Row.built (w := W6) 3 [.int .i64 (c : Int), .int .i64 1]
      have hbl := below_alloc W6 (.cells #[.int .i64 (c : Int), .int .i64 1] 3)
      go_wp2_with fail
      refine (HSh2.out _ _ _ hrw).mono ?_
      rintro e w8 ⟨v8, rfl, o8, b8⟩
      obtain ⟨a8, c8, rfl, -, -⟩ := own_slice o8
      have B8 := Lib.hid (b_next (b_next B6.out hbl) b8)
      clear hrw hbl o8 b8
      go_wp2_with fail
      refine (HA.out _).mono ?_
      rintro e w9 ⟨rfl, b9⟩
      have B9 := Lib.hid (b_next B8.out b9)
      clear b9
      go_wp2
      go_ret
      exact ⟨rfl, B9.out⟩
theorem walk_ShuffleShifted (x : Int) (_ : (Lit.int .i64 x).wf = true) (pv : Value) (row : List Int) (w : World) (hP : RowIn w pv row) (o0 o1 : Int) : Calls Try.prog 15 #[.int .i64 x, pv, .agg #[.int .i64 o0, .int .i64 o1]] w fun e w' => e = .returned (.bool true) ∧ Below w.heap.size w w' := shifted_walk x pv row o0 o1 w hP
end Go.Proofs.Ythmdlkaanjjbkaa
