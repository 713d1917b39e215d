/- Contracts of the functions of yard and of the reference that only compute: divisors, validity, comparisons, middles. -/
import Derived.Test.YtfelmjanffhahaaDoorBase
import Derived.Test.YtfelmjanffhahaaDoorFar
import Derived.Shelf.Small.Wraps
namespace Go.Proofs.YtfelmjanffhahaaDoor
set_option linter.unusedVariables false
open Go.RowKit Go.Shelf

theorem gcd_step (a b : Int) : Int.gcd b (Int.tmod a b) = Int.gcd a b := by
  unfold Int.gcd
  rw [Int.natAbs_tmod, Nat.gcd_comm, ← Nat.gcd_rec, Nat.gcd_comm]

theorem tmod_bound (a b : Int) (hb : b ≠ 0) : (Int.tmod a b).natAbs < b.natAbs := by
  rw [Int.natAbs_tmod]; exact Nat.mod_lt _ (by omega)

set_option maxHeartbeats 1000000 in
theorem divisor_any (a b : Int) (ha : -1000000000000 ≤ a ∧ a ≤ 1000000000000) (hb : -1000000000000 ≤ b ∧ b ≤ 1000000000000) (w : World) :
    Calls Tryd.prog 47 #[.int .i64 a, .int .i64 b] w fun e w' => e = .returned (.int .i64 (Int.gcd a b)) ∧ ∃ n, w' = w.drewN n := by
  go_enter Tryd.func47, Tryd.ntmps47
  go_wp2
  go_loopw [0, 1] (fun x y wr => ∃ (p q : Int) (n : Nat), x = .int .i64 p ∧ y = .int .i64 q ∧ (-1000000000000 ≤ p ∧ p ≤ 1000000000000) ∧ (-1000000000000 ≤ q ∧ q ≤ 1000000000000) ∧ Hid (Int.gcd p q = Int.gcd a b) ∧ wr = w.drewN n) (fun _ y _ => (intOf y).natAbs)
  case atStart => exact ⟨a, b, 0, rfl, rfl, ha, hb, rfl, rfl⟩
  case round =>
    obtain ⟨p, q, n, rfl, rfl, hp, hq, HG, rfl⟩ := hrel
    by_cases hz : q = 0
    · subst hz
      have hg : Int.gcd a b = p.natAbs := by rw [← HG.out, Int.gcd_zero_right]
      have HG2 := Lib.hid hg
      clear hg
      go_wp2
      go_ret
      exact ⟨ret_int (by rw [HG2.out]; omega), n, rfl⟩
    · have h1 : (q != 0) = true := by simpa using hz
      have h2 := tmod_bound p q hz
      have hg := gcd_step p q
      obtain ⟨t, ht⟩ : ∃ t, Int.tmod p q = t := ⟨_, rfl⟩
      rw [ht] at h2 hg
      have HG2 : Hid (Int.gcd q t = Int.gcd a b) := by unfold Hid; rw [hg]; exact HG.out
      clear hg
      have hbz : (q == 0) = false := by simpa using hz
      go_wp2
      go_region
      go_wp2
      exact ⟨⟨q, t, n + 1, rfl, rfl, hq, by omega, HG2, rfl⟩, by simp [intOf]; exact h2⟩

/-- what makes a fraction valid -/
def validB (p q : Int) : Bool := decide (1 ≤ q ∧ q ≤ 1000000 ∧ 0 ≤ p ∧ p ≤ q) && decide (Int.gcd p q = 1)
theorem valid_nat {p q : Int} (h : validB p q = true) : ∃ a b : Nat, p = a ∧ q = b ∧ 1 ≤ b ∧ b ≤ 1000000 ∧ a ≤ b ∧ Nat.gcd a b = 1 := by
  unfold validB at h
  rw [Bool.and_eq_true, decide_eq_true_eq, decide_eq_true_eq] at h
  obtain ⟨⟨h1, h2, h3, h4⟩, h5⟩ := h
  obtain ⟨a, rfl⟩ := Int.eq_ofNat_of_zero_le h3
  obtain ⟨b, rfl⟩ := Int.eq_ofNat_of_zero_le (show 0 ≤ q by omega)
  exact ⟨a, b, rfl, rfl, by omega, by omega, by omega, by simpa using h5⟩
theorem valid_of {a b : Nat} (h1 : 1 ≤ b) (h2 : b ≤ 1000000) (h3 : a ≤ b) (h4 : Nat.gcd a b = 1) : validB a b = true := by
  unfold validB
  rw [Bool.and_eq_true, decide_eq_true_eq, decide_eq_true_eq]
  exact ⟨by omega, by simpa using h4⟩

set_option maxHeartbeats 1000000 in
theorem isValid_any (p q : Int) (w : World) :
    Calls Tryd.prog 31 #[.agg #[.int .i64 p, .int .i64 q]] w fun e w' => e = .returned (.bool (validB p q)) ∧ Below w.heap.size w w' := by
  by_cases h : 1 ≤ q ∧ q ≤ 1000000 ∧ 0 ≤ p ∧ p ≤ q
  · obtain ⟨h1, h2, h3, h4⟩ := h
    have hv : (((Int.gcd p q : Nat) : Int) == 1) = validB p q := by
      unfold validB; rw [decide_eq_true ⟨h1, h2, h3, h4⟩, Bool.true_and, Bool.eq_iff_iff, decide_eq_true_eq, beq_iff_eq]; omega
    have HV := Lib.hid hv
    clear hv
    go_enter Tryd.func31, Tryd.ntmps31
    go_wp2_with (go_at_call 47; refine (divisor_any _ _ (by omega) (by omega) _).mono ?_; rintro e w' ⟨rfl, n, rfl⟩)
    go_ret
    exact ⟨ret_bool HV.out, below_drewN (below_alloc _ _) _⟩
  · have hv : validB p q = false := by unfold validB; rw [decide_eq_false h, Bool.false_and]
    have HV := Lib.hid hv
    clear hv
    have h5 : q < 1 ∨ 1 ≤ q ∧ 1000000 < q ∨ 1 ≤ q ∧ q ≤ 1000000 ∧ p < 0 ∨ 1 ≤ q ∧ q ≤ 1000000 ∧ 0 ≤ p ∧ q < p := by omega
    clear h
    go_enter Tryd.func31, Tryd.ntmps31
    rcases h5 with h1 | ⟨h1, h2⟩ | ⟨h1, h2, h3⟩ | ⟨h1, h2, h3, h4⟩
    all_goals go_wp2
    all_goals go_ret
    all_goals exact ⟨ret_bool HV.out.symm, below_alloc _ _⟩

theorem tmod_nat (p q : Nat) : Int.tmod (p : Int) q = ((p % q : Nat) : Int) := (Int.ofNat_tmod p q).symm
set_option maxHeartbeats 1000000 in
theorem refGcd_any (a b : Nat) (ha : a ≤ 1000000000000) (hb : b ≤ 1000000000000) (w : World) :
    Calls Tryd.prog 30 #[.int .i64 a, .int .i64 b] w fun e w' => e = .returned (.int .i64 (Nat.gcd a b : Nat)) ∧ w' = w := by
  go_enter Tryd.func30, Tryd.ntmps30
  go_wp2
  go_loop [0, 1] (fun x y => ∃ (p q : Nat), x = .int .i64 p ∧ y = .int .i64 q ∧ p ≤ 1000000000000 ∧ q ≤ 1000000000000 ∧ Hid (Nat.gcd p q = Nat.gcd a b)) (fun _ y => (intOf y).toNat)
  case atStart => exact ⟨a, b, rfl, rfl, ha, hb, rfl⟩
  case round =>
    obtain ⟨p, q, rfl, rfl, hp, hq, HG⟩ := hrel
    by_cases hz : 0 < q
    · have hc : (0 : Int) < q := by omega
      have hbz : ((q : Int) == 0) = false := by simpa using (show (q : Int) ≠ 0 by omega)
      have hn0 : ¬ (q : Int) = 0 := by omega
      have ht := tmod_nat p q
      have h2 := Nat.mod_lt p hz
      have hg : Nat.gcd q (p % q) = Nat.gcd p q := by rw [Nat.gcd_comm, ← Nat.gcd_rec, Nat.gcd_comm]
      have HG2 : Hid (Nat.gcd q (p % q) = Nat.gcd a b) := by unfold Hid; rw [hg]; exact HG.out
      obtain ⟨t, hm⟩ : ∃ t, p % q = t := ⟨_, rfl⟩
      rw [hm] at ht h2 HG2
      clear hg
      go_wp2
      go_round
      case rel => exact ⟨q, t, rfl, rfl, hq, by omega, HG2⟩
      case measure => simp [intOf]; exact h2
    · obtain rfl : q = 0 := by omega
      have hg : Nat.gcd a b = p := by rw [← HG.out, Nat.gcd_zero_right]
      have HG2 := Lib.hid hg
      clear hg
      go_wp2
      go_ret
      exact ⟨ret_int (by rw [HG2.out]), rfl⟩

/-- from 1 to 300 -/
def rowB (n : Int) : Bool := decide (1 ≤ n) && decide (n ≤ 300)
set_option maxHeartbeats 1000000 in
theorem row_37_any (n : Int) (w : World) :
    Calls Tryd.prog 37 #[.int .i64 n] w fun e w' => e = .returned (.bool (rowB n)) ∧ w' = w := by
  by_cases h1 : 1 ≤ n
  · have HD : Hid (rowB n = decide (n ≤ 300)) := by unfold Hid rowB; simp [h1]
    go_enter Tryd.func37, Tryd.ntmps37
    go_wp2
    go_ret
    exact ⟨ret_bool HD.out.symm, rfl⟩
  · have HD : Hid (rowB n = false) := by unfold Hid rowB; simp [h1]
    go_enter Tryd.func37, Tryd.ntmps37
    go_wp2
    go_ret
    exact ⟨ret_bool HD.out.symm, rfl⟩
set_option maxHeartbeats 1000000 in
theorem widest_any (w : World) :
    Calls Tryd.prog 21 #[] w fun e w' => e = .returned (.agg #[.int .i64 0, .int .i64 1, .int .i64 1, .int .i64 1]) ∧ Below w.heap.size w w' := by
  go_enter Tryd.func21, Tryd.ntmps21
  go_wp2
  exact bodyPost_ret (v := .agg #[.int .i64 0, .int .i64 1, .int .i64 1, .int .i64 1]) (by simp [results, Tryd.results21, go_sem]) rfl ⟨rfl, below_alloc _ _⟩

/-- a gap as a value -/
def gapV (s : G) : Value := .agg #[.int .i64 s.a, .int .i64 s.b, .int .i64 s.c, .int .i64 s.d]
structure Small (m : Nat) (s : G) : Prop where
  a : s.a ≤ m
  b : s.b ≤ m
  c : s.c ≤ m
  d : s.d ≤ m
def midG (s : G) : Nat × Nat := (s.a + s.c, s.b + s.d)
def leftG (s : G) : G := ⟨s.a, s.b, s.a + s.c, s.b + s.d⟩
def rightG (s : G) : G := ⟨s.a + s.c, s.b + s.d, s.c, s.d⟩

set_option maxHeartbeats 1000000 in
theorem middle_any (s : G) (hs : Small 10000000 s) (w : World) :
    Calls Tryd.prog 24 #[gapV s] w fun e w' => e = .returned (frV (midG s)) ∧ Below w.heap.size w w' := by
  obtain ⟨a, b, c, d⟩ := s
  obtain ⟨ha, hb, hc, hd⟩ := hs
  simp only at ha hb hc hd
  unfold gapV
  go_enter Tryd.func24, Tryd.ntmps24
  go_wp2
  exact bodyPost_ret (v := frV (a + c, b + d)) (by simp [results, Tryd.results24, go_sem, frV]) rfl ⟨rfl, b_next (below_alloc _ _) (below_alloc _ _)⟩

theorem undrew {W w1 : World} {n : Nat} {B : Nat} (h : Below B (W.drewN n) w1) : Below B W w1 := ⟨h.1, h.2, h.3, h.4, h.5⟩
theorem undrew1 {W w1 : World} (h : Below W.drew.heap.size W.drew w1) : Below W.heap.size W w1 := ⟨h.1, h.2, h.3, h.4, h.5⟩
/-- the cells of a block of four -/
def Four (W : World) (B : Nat) (a b c d : Int) : Prop :=
  (W.cell? ⟨B, 0, none⟩ = some (.int .i64 a) ∧ W.cell? ⟨B, 1, none⟩ = some (.int .i64 b) ∧ W.cell? ⟨B, 2, none⟩ = some (.int .i64 c) ∧ W.cell? ⟨B, 3, none⟩ = some (.int .i64 d))
theorem Four.below {W w1 : World} {B : Nat} {a b c d : Int} (h : Four W B a b c d) (hB : B < W.heap.size) (hb : Below W.heap.size W w1) : Four w1 B a b c d :=
  ⟨(hb.cell (p := ⟨B, 0, none⟩) hB).trans h.1, (hb.cell (p := ⟨B, 1, none⟩) hB).trans h.2.1, (hb.cell (p := ⟨B, 2, none⟩) hB).trans h.2.2.1, (hb.cell (p := ⟨B, 3, none⟩) hB).trans h.2.2.2⟩
theorem set_far {W : World} {B B' j k : Nat} {v : Value} (h : B ≠ B') : (W.setCell ⟨B', k, none⟩ v).cell? ⟨B, j, none⟩ = W.cell? ⟨B, j, none⟩ :=
  World.cell?_of_block (a := ⟨B, j, none⟩) (Below.heap_setCell _ _ _ _ h)
theorem Four.stored {W : World} {B B' : Nat} {a b c d : Int} {v0 v1 v2 v3 : Value} (h : B ≠ B') (k : Four W B a b c d) : Four ((((W.setCell ⟨B', 0, none⟩ v0).setCell ⟨B', 1, none⟩ v1).setCell ⟨B', 2, none⟩ v2).setCell ⟨B', 3, none⟩ v3) B a b c d := by
  unfold Four
  rw [set_far h, set_far h, set_far h, set_far h, set_far h, set_far h, set_far h, set_far h, set_far h, set_far h, set_far h, set_far h, set_far h, set_far h, set_far h, set_far h]
  exact k
def Free (W : World) (B : Nat) : Prop := W.frozen? ⟨B, 0, none⟩ = false ∧ W.frozen? ⟨B, 1, none⟩ = false ∧ W.frozen? ⟨B, 2, none⟩ = false ∧ W.frozen? ⟨B, 3, none⟩ = false
theorem Free.below {W w1 : World} {B : Nat} (h : Free W B) (hB : B < W.heap.size) (hb : Below W.heap.size W w1) : Free w1 B :=
  ⟨(hb.frozen (p := ⟨B, 0, none⟩) hB).trans h.1, (hb.frozen (p := ⟨B, 1, none⟩) hB).trans h.2.1, (hb.frozen (p := ⟨B, 2, none⟩) hB).trans h.2.2.1, (hb.frozen (p := ⟨B, 3, none⟩) hB).trans h.2.2.2⟩

set_option maxHeartbeats 2000000 in
theorem left_any (s : G) (hs : Small 10000000 s) (w : World) :
    Calls Tryd.prog 22 #[gapV s] w fun e w' => e = .returned (gapV (leftG s)) ∧ Below w.heap.size w w' := by
  have hm := middle_any s hs
  unfold frV midG gapV at hm
  obtain ⟨a, b, c, d⟩ := s
  obtain ⟨ha, hb, hc, hd⟩ := hs
  simp only at ha hb hc hd hm
  have HM := Lib.hid hm
  clear hm
  unfold gapV
  go_enter Tryd.func22, Tryd.ntmps22
  go_wp2_with fail
  generalize hW : ((w.alloc (.cells #[.int .i64 a, .int .i64 b, .int .i64 c, .int .i64 d] 45)).alloc (.cells #[.int .i64 0, .int .i64 0, .int .i64 0, .int .i64 0] 45)) = W
  have h4 : Four W w.heap.size a b c d := by subst hW; refine ⟨?_, ?_, ?_, ?_⟩ <;> go_cell
  have h5 : Four W (w.heap.size + 1) 0 0 0 0 := by subst hW; refine ⟨?_, ?_, ?_, ?_⟩ <;> go_cell
  have h6 : Free W (w.heap.size + 1) := by subst hW; refine ⟨?_, ?_, ?_, ?_⟩ <;> go_cell
  have hsz : W.heap.size = w.heap.size + 1 + 1 := by rw [← hW]; simp
  have hBW : Below w.heap.size w W := by rw [← hW]; exact b_next (below_alloc _ _) (below_alloc _ _)
  have H4 := Lib.hid h4
  have H5 := Lib.hid h5
  have H6 := Lib.hid h6
  have HBW := Lib.hid hBW
  clear hW h5 h6 hBW
  obtain ⟨d0, d1, d2, d3⟩ := h4
  go_region_held3 (fun w' => w'.cell? ⟨w.heap.size, 0, none⟩ = some (.int .i64 a) ∧ w'.cell? ⟨w.heap.size, 1, none⟩ = some (.int .i64 b) ∧ w'.cell? ⟨w.heap.size, 2, none⟩ = some (.int .i64 c) ∧ w'.cell? ⟨w.heap.size, 3, none⟩ = some (.int .i64 d))
    (first | exact ⟨d0, d1, d2, d3⟩ | exact ⟨e0, e1, e2, e3⟩ | exact Four.stored (by omega) H7.out)
    (first | (go_at_call 24; refine (HM.out _).mono ?_; rintro e w1 ⟨rfl, b1⟩; have b2 := undrew1 b1; have H7 := Lib.hid (H4.out.below (by omega) b2); obtain ⟨e0, e1, e2, e3⟩ := H7.out; obtain ⟨z0, z1, z2, z3⟩ := H5.out.below (by omega) b2; obtain ⟨y0, y1, y2, y3⟩ := H6.out.below (by omega) b2))
  all_goals go_wp2
  all_goals
    have hB2 := ((((b_next HBW.out b2).setCell (p := ⟨w.heap.size + 1, 0, none⟩) (Nat.le_succ _) (.int .i64 a)).setCell (p := ⟨w.heap.size + 1, 1, none⟩) (Nat.le_succ _) (.int .i64 b)).setCell (p := ⟨w.heap.size + 1, 2, none⟩) (Nat.le_succ _) (.int .i64 (a + c))).setCell (p := ⟨w.heap.size + 1, 3, none⟩) (Nat.le_succ _) (.int .i64 (b + d))
    exact bodyPost_ret (v := gapV (leftG ⟨a, b, c, d⟩)) (by simp [results, Tryd.results22, go_sem, gapV, leftG, z0, z1, z2, z3]) rfl ⟨rfl, hB2⟩
set_option maxHeartbeats 2000000 in
theorem right_any (s : G) (hs : Small 10000000 s) (w : World) :
    Calls Tryd.prog 23 #[gapV s] w fun e w' => e = .returned (gapV (rightG s)) ∧ Below w.heap.size w w' := by
  have hm := middle_any s hs
  unfold frV midG gapV at hm
  obtain ⟨a, b, c, d⟩ := s
  obtain ⟨ha, hb, hc, hd⟩ := hs
  simp only at ha hb hc hd hm
  have HM := Lib.hid hm
  clear hm
  unfold gapV
  go_enter Tryd.func23, Tryd.ntmps23
  go_wp2_with fail
  generalize hW : ((w.alloc (.cells #[.int .i64 a, .int .i64 b, .int .i64 c, .int .i64 d] 45)).alloc (.cells #[.int .i64 0, .int .i64 0, .int .i64 0, .int .i64 0] 45)) = W
  have h4 : Four W w.heap.size a b c d := by subst hW; refine ⟨?_, ?_, ?_, ?_⟩ <;> go_cell
  have h5 : Four W (w.heap.size + 1) 0 0 0 0 := by subst hW; refine ⟨?_, ?_, ?_, ?_⟩ <;> go_cell
  have h6 : Free W (w.heap.size + 1) := by subst hW; refine ⟨?_, ?_, ?_, ?_⟩ <;> go_cell
  have hsz : W.heap.size = w.heap.size + 1 + 1 := by rw [← hW]; simp
  have hBW : Below w.heap.size w W := by rw [← hW]; exact b_next (below_alloc _ _) (below_alloc _ _)
  have H4 := Lib.hid h4
  have H5 := Lib.hid h5
  have H6 := Lib.hid h6
  have HBW := Lib.hid hBW
  clear hW h5 h6 hBW
  obtain ⟨d0, d1, d2, d3⟩ := h4
  go_region_held3 (fun w' => w'.cell? ⟨w.heap.size, 0, none⟩ = some (.int .i64 a) ∧ w'.cell? ⟨w.heap.size, 1, none⟩ = some (.int .i64 b) ∧ w'.cell? ⟨w.heap.size, 2, none⟩ = some (.int .i64 c) ∧ w'.cell? ⟨w.heap.size, 3, none⟩ = some (.int .i64 d))
    (first | exact ⟨d0, d1, d2, d3⟩ | exact ⟨e0, e1, e2, e3⟩ | exact Four.stored (by omega) H7.out)
    (first | (go_at_call 24; refine (HM.out _).mono ?_; rintro e w1 ⟨rfl, b1⟩; have b2 := undrew1 b1; have H7 := Lib.hid (H4.out.below (by omega) b2); obtain ⟨e0, e1, e2, e3⟩ := H7.out; obtain ⟨z0, z1, z2, z3⟩ := H5.out.below (by omega) b2; obtain ⟨y0, y1, y2, y3⟩ := H6.out.below (by omega) b2))
  all_goals go_wp2
  all_goals
    have hB2 := ((((b_next HBW.out b2).setCell (p := ⟨w.heap.size + 1, 0, none⟩) (Nat.le_succ _) (.int .i64 (a + c))).setCell (p := ⟨w.heap.size + 1, 1, none⟩) (Nat.le_succ _) (.int .i64 (b + d))).setCell (p := ⟨w.heap.size + 1, 2, none⟩) (Nat.le_succ _) (.int .i64 c)).setCell (p := ⟨w.heap.size + 1, 3, none⟩) (Nat.le_succ _) (.int .i64 d)
    exact bodyPost_ret (v := gapV (rightG ⟨a, b, c, d⟩)) (by simp [results, Tryd.results23, go_sem, gapV, rightG, z0, z1, z2, z3]) rfl ⟨rfl, hB2⟩

theorem mul14 {a d : Nat} (ha : a ≤ 10000000) (hd : d ≤ 10000000) : a * d ≤ 100000000000000 := Nat.mul_le_mul ha hd
theorem wrap_mul {a d : Nat} (ha : a ≤ 10000000) (hd : d ≤ 10000000) : wrap64 ((a : Int) * d) = ((a * d : Nat) : Int) := by
  have := mul14 ha hd
  rw [← Int.natCast_mul, IntWalk.wrap64_in _ (by omega)]
theorem iwrap_mul {a d : Nat} (ha : a ≤ 10000000) (hd : d ≤ 10000000) : IntKind.i64.wrap ((a : Int) * d) = ((a * d : Nat) : Int) := by
  have := mul14 ha hd
  rw [← Int.natCast_mul, IntWalk.i64_in _ (by omega)]
/-- how two fractions compare -/
def cmpF (x y : Nat × Nat) : Int := Lib.compareInt ((x.1 * y.2 : Nat) : Int) ((y.1 * x.2 : Nat) : Int)
def lessF (x y : Nat × Nat) : Bool := decide (x.1 * y.2 < y.1 * x.2)
theorem cmpF_less (x y : Nat × Nat) : decide (cmpF x y < 0) = lessF x y := by
  unfold cmpF lessF Lib.compareInt
  rw [Bool.eq_iff_iff, decide_eq_true_eq, decide_eq_true_eq]
  split
  · omega
  · split <;> omega
def FrS (m : Nat) (x : Nat × Nat) : Prop := x.1 ≤ m ∧ x.2 ≤ m

set_option maxHeartbeats 1000000 in
theorem compare_any (x y : Nat × Nat) (hx : FrS 10000000 x) (hy : FrS 10000000 y) (w : World) :
    Calls Tryd.prog 49 #[frV x, frV y] w fun e w' => e = .returned (.int .i64 (cmpF x y)) ∧ Below w.heap.size w w' := by
  obtain ⟨a, b⟩ := x
  obtain ⟨c, d⟩ := y
  have e1 := wrap_mul hx.1 hy.2
  have e2 := wrap_mul hy.1 hx.2
  unfold frV cmpF
  simp only at e1 e2 ⊢
  go_enter Tryd.func49, Tryd.ntmps49
  go_wp2_with (go_at_call 58; (refine (Any.cmp_Compare_int Tryd.lays122 _ _ _).mono ?_; rintro e w' ⟨rfl, rfl⟩))
  go_ret
  exact ⟨rfl, b_next (below_alloc _ _) (below_alloc _ _)⟩

set_option maxHeartbeats 1000000 in
theorem isLess_any (x y : Nat × Nat) (hx : FrS 10000000 x) (hy : FrS 10000000 y) (w : World) :
    Calls Tryd.prog 34 #[frV x, frV y] w fun e w' => e = .returned (.bool (lessF x y)) ∧ Below w.heap.size w w' := by
  have hc := compare_any x y hx hy
  unfold frV at hc ⊢
  have HC := Lib.hid hc
  clear hc
  go_enter Tryd.func34, Tryd.ntmps34
  go_wp2_with (go_at_call 49; refine (HC.out _).mono ?_; rintro e w1 ⟨rfl, b1⟩)
  go_ret
  exact ⟨ret_bool (cmpF_less x y), b_next (b_next (below_alloc _ _) (below_alloc _ _)) b1⟩

end Go.Proofs.YtfelmjanffhahaaDoor
