/- Distances and simplicity: what Nearest compares. -/
import Derived.Test.YtelipknnfagnjaaBet
import Derived.Test.YtelipknnfagnjaaNbr
namespace Go.Proofs.Ytelipknnfagnjaa
set_option linter.unusedVariables false
open Go.RowKit Go.Shelf

set_option maxHeartbeats 1000000 in
theorem or_any (c d : Int) (b : Nat) (w : World) (h0 : w.cell? ⟨b, 0, none⟩ = some (.int .i64 c)) (h1 : w.cell? ⟨b, 1, none⟩ = some (.int .i64 d)) :
    Calls Try.prog 55 #[.slice (some ⟨b, 0, none⟩) 2 2] w fun e w' => e = .returned (.int .i64 (if c = 0 then d else c)) ∧ w = w' := by
  by_cases hc : c = 0
  · subst hc
    by_cases hd : d = 0
    · subst hd
      go_enter Try.func55, Try.ntmps55
      go_wp2
      go_rounds 3
      go_ret
      exact ⟨rfl, rfl⟩
    · have hd' : (d == 0) = false := by simp [hd]
      go_enter Try.func55, Try.ntmps55
      go_wp2
      go_rounds 3
      go_ret
      exact ⟨rfl, rfl⟩
  · have hc' : (c == 0) = false := by simp [hc]
    go_enter Try.func55, Try.ntmps55
    go_wp2
    go_rounds 3
    go_ret
    exact ⟨rfl, rfl⟩

/-- the distance, times both denominators -/
def distF (x y : Nat × Nat) : Nat := (((x.1 * y.2 : Nat) : Int) - ((y.1 * x.2 : Nat) : Int)).natAbs
theorem distF_le {x y : Nat × Nat} {m n : Nat} (hx : FrS m x) (hy : FrS n y) : distF x y ≤ m * n := by
  unfold distF
  have h1 := Nat.mul_le_mul hx.1 hy.2
  have h2 := Nat.mul_le_mul hy.1 hx.2
  rw [Nat.mul_comm n m] at h2
  omega

set_option maxHeartbeats 1000000 in
theorem distance_any (a b c d : Nat) (hx : FrS 10000000 (a, b)) (hy : FrS 10000000 (c, d)) (w : World) :
    Calls Try.prog 73 #[.agg #[.int .i64 a, .int .i64 b], .agg #[.int .i64 c, .int .i64 d]] w fun e w' => e = .returned (.int .i64 (distF (a, b) (c, d) : Nat)) ∧ Below w.heap.size w w' := by
  have e1 := wrap_mul hx.1 hy.2
  have e2 := wrap_mul hy.1 hx.2
  have m1 := mul14 hx.1 hy.2
  have m2 := mul14 hy.1 hx.2
  simp only at e1 e2 m1 m2
  obtain ⟨u, hu⟩ : ∃ u, a * d = u := ⟨_, rfl⟩
  obtain ⟨v, hv⟩ : ∃ v, c * b = v := ⟨_, rfl⟩
  rw [hu] at e1 m1
  rw [hv] at e2 m2
  have e3 : wrap64 ((u : Int) - v) = (u : Int) - v := wI ⟨by clear e1 e2; omega, by clear e1 e2; omega⟩
  have e4 : wrap64 (-((u : Int) - v)) = -((u : Int) - v) := wI ⟨by clear e1 e2 e3; omega, by clear e1 e2 e3; omega⟩
  have hD : Hid (max ((u : Int) - v) (-((u : Int) - v)) = (distF (a, b) (c, d) : Nat)) := by unfold Hid distF; simp only; rw [hu, hv]; clear e1 e2 e3 e4; omega
  have hB := b_next (below_alloc w (.cells #[.int .i64 a, .int .i64 b] 26)) (below_alloc _ (.cells #[.int .i64 c, .int .i64 d] 26))
  have HB := Lib.hid hB
  clear hu hv hB m1 m2 hx hy
  go_enter Try.func73, Try.ntmps73
  go_wp2
  go_ret
  exact ⟨ret_int hD.out, HB.out⟩

/-- how the distances of a and b from f compare -/
def cmpD (f a b : Nat × Nat) : Int := Lib.compareInt ((distF f a * b.2 : Nat) : Int) ((distF f b * a.2 : Nat) : Int)
def cmpS (a b : Nat × Nat) : Int := if Lib.compareInt (a.2 : Int) b.2 = 0 then Lib.compareInt (a.1 : Int) b.1 else Lib.compareInt (a.2 : Int) b.2

set_option maxHeartbeats 4000000 in
theorem compareDistances_any (p q r s t u : Nat) (hf : FrS 1000000 (p, q)) (ha : FrS 300 (r, s)) (hb : FrS 300 (t, u)) (w : World) :
    Calls Try.prog 56 #[.agg #[.int .i64 p, .int .i64 q], .agg #[.int .i64 r, .int .i64 s], .agg #[.int .i64 t, .int .i64 u]] w fun e w' => e = .returned (.int .i64 (cmpD (p, q) (r, s) (t, u))) ∧ Below w.heap.size w w' := by
  have l1 := distF_le hf ha
  have l2 := distF_le hf hb
  have hD1 := fun w => distance_any p q r s ⟨Nat.le_trans hf.1 (by omega), Nat.le_trans hf.2 (by omega)⟩ ⟨Nat.le_trans ha.1 (by omega), Nat.le_trans ha.2 (by omega)⟩ w
  have hD2 := fun w => distance_any p q t u ⟨Nat.le_trans hf.1 (by omega), Nat.le_trans hf.2 (by omega)⟩ ⟨Nat.le_trans hb.1 (by omega), Nat.le_trans hb.2 (by omega)⟩ w
  obtain ⟨d1, h1⟩ : ∃ d, distF (p, q) (r, s) = d := ⟨_, rfl⟩
  obtain ⟨d2, h2⟩ : ∃ d, distF (p, q) (t, u) = d := ⟨_, rfl⟩
  have hC : cmpD (p, q) (r, s) (t, u) = Lib.compareInt ((d1 * u : Nat) : Int) ((d2 * s : Nat) : Int) := by unfold cmpD; rw [h1, h2]
  rw [h1] at hD1 l1
  rw [h2] at hD2 l2
  have m1 : d1 * u ≤ 1000000 * 300 * 300 := Nat.mul_le_mul l1 hb.2
  have m2 : d2 * s ≤ 1000000 * 300 * 300 := Nat.mul_le_mul l2 ha.2
  have i1 : IntKind.i64.wrap ((d1 : Int) * u) = ((d1 * u : Nat) : Int) := imul rfl (by omega)
  have i2 : IntKind.i64.wrap ((d2 : Int) * s) = ((d2 * s : Nat) : Int) := imul rfl (by omega)
  obtain ⟨x1, hx1⟩ : ∃ x, d1 * u = x := ⟨_, rfl⟩
  obtain ⟨x2, hx2⟩ : ∃ x, d2 * s = x := ⟨_, rfl⟩
  rw [hx1] at i1 hC
  rw [hx2] at i2 hC
  have HD1 := Lib.hid hD1
  have HD2 := Lib.hid hD2
  have HC := Lib.hid hC
  clear hD1 hD2 hC h1 h2 l1 l2 m1 m2 hx1 hx2 hf ha hb
  go_enter Try.func56, Try.ntmps56
  go_wp2_with fail
  have A0 := Args2.new w p q r s t u
  generalize hX : (((w.alloc (.cells #[.int .i64 p, .int .i64 q] 26)).alloc (.cells #[.int .i64 r, .int .i64 s] 26)).alloc (.cells #[.int .i64 t, .int .i64 u] 26)) = X at *
  have HA := Lib.hid A0
  obtain ⟨a0, a1, _, _⟩ := A0.x.cells
  obtain ⟨b0, b1, _, _⟩ := A0.y.cells
  obtain ⟨c0, c1, _, _⟩ := A0.z.cells
  clear A0 hX
  go_region_held3 (fun w' => w'.cell? ⟨w.heap.size, 0, none⟩ = some (.int .i64 p) ∧ w'.cell? ⟨w.heap.size, 1, none⟩ = some (.int .i64 q) ∧ w'.cell? ⟨w.heap.size + 1, 0, none⟩ = some (.int .i64 r) ∧ w'.cell? ⟨w.heap.size + 1, 1, none⟩ = some (.int .i64 s) ∧ w'.cell? ⟨w.heap.size + 1 + 1, 0, none⟩ = some (.int .i64 t) ∧ w'.cell? ⟨w.heap.size + 1 + 1, 1, none⟩ = some (.int .i64 u))
    (first | exact ⟨a0, a1, b0, b1, c0, c1⟩ | exact ⟨f0, f1, g0, g1, h0, h1⟩ | exact ⟨j0, j1, k0, k1, l0, l1⟩)
    (first
      | (go_at_call_of 73 (Value.agg #[.int .i64 r, .int .i64 s]); refine (HD1.out _).mono ?_; rintro e w1 ⟨rfl, z1⟩; have b1' := undrew1 z1; have HA1 := Lib.hid (HA.out.below b1'); obtain ⟨f0, f1, _, _⟩ := HA1.out.x.cells; obtain ⟨g0, g1, _, _⟩ := HA1.out.y.cells; obtain ⟨h0, h1, _, _⟩ := HA1.out.z.cells)
      | (go_at_call_of 73 (Value.agg #[.int .i64 t, .int .i64 u]); refine (HD2.out _).mono ?_; rintro e w2 ⟨rfl, b2⟩; have HA2 := Lib.hid (HA1.out.below b2); obtain ⟨j0, j1, _, _⟩ := HA2.out.x.cells; obtain ⟨k0, k1, _, _⟩ := HA2.out.y.cells; obtain ⟨l0, l1, _, _⟩ := HA2.out.z.cells)
      | (go_at_call 72; refine (Any.cmp_Compare_int Try.lays122 _ _ _).mono ?_; rintro e w3 ⟨rfl, rfl⟩))
  all_goals go_wp2_with fail
  all_goals go_ret
  all_goals exact ⟨ret_int (by rw [HC.out]), HA2.out.b⟩

set_option maxHeartbeats 4000000 in
theorem compareSimplicity_any (r s t u : Nat) (ha : FrS 300 (r, s)) (hb : FrS 300 (t, u)) (w : World) :
    Calls Try.prog 57 #[.agg #[.int .i64 r, .int .i64 s], .agg #[.int .i64 t, .int .i64 u]] w fun e w' => e = .returned (.int .i64 (cmpS (r, s) (t, u))) ∧ Below w.heap.size w w' := by
  obtain ⟨c1, h1⟩ : ∃ c, Lib.compareInt (s : Int) u = c := ⟨_, rfl⟩
  obtain ⟨c2, h2⟩ : ∃ c, Lib.compareInt (r : Int) t = c := ⟨_, rfl⟩
  obtain ⟨o, ho⟩ : ∃ o, (if c1 = 0 then c2 else c1) = o := ⟨_, rfl⟩
  have HC := Lib.hid (show cmpS (r, s) (t, u) = o by unfold cmpS; simp only; rw [h1, h2, ho])
  have H1 := Lib.hid h1
  have H2 := Lib.hid h2
  clear h1 h2 ha hb
  go_enter Try.func57, Try.ntmps57
  go_wp2_with fail
  have A0 := Argp.new w r s t u
  generalize hX : ((w.alloc (.cells #[.int .i64 r, .int .i64 s] 26)).alloc (.cells #[.int .i64 t, .int .i64 u] 26)) = X at *
  have HA := Lib.hid A0
  have hT := (Two.new X 3 c1 c2).cells
  have hO := or_any c1 c2 X.heap.size (X.alloc (.cells #[.int .i64 c1, .int .i64 c2] 3)).drew hT.1 hT.2.1
  rw [ho] at hO
  have HO := Lib.hid hO
  obtain ⟨a0, a1, _, _⟩ := A0.x.cells
  obtain ⟨b0, b1, _, _⟩ := A0.y.cells
  clear A0 hX hT hO ho
  have HAl := Lib.hid (HA.out.below (below_alloc X (.cells #[.int .i64 c1, .int .i64 c2] 3)))
  obtain ⟨p0, p1, _, _⟩ := HAl.out.x.cells
  obtain ⟨q0, q1, _, _⟩ := HAl.out.y.cells
  have hlx := HA.out.x.lt
  have hly := HA.out.y.lt
  go_region_held3 (fun w' => w'.cell? ⟨w.heap.size, 0, none⟩ = some (.int .i64 r) ∧ w'.cell? ⟨w.heap.size, 1, none⟩ = some (.int .i64 s) ∧ w'.cell? ⟨w.heap.size + 1, 0, none⟩ = some (.int .i64 t) ∧ w'.cell? ⟨w.heap.size + 1, 1, none⟩ = some (.int .i64 u))
    (first | exact ⟨a0, a1, b0, b1⟩ | exact ⟨p0, p1, q0, q1⟩)
    (first
      | (go_at_call_of 72 (Value.int .i64 (s : Int)); refine (Any.cmp_Compare_int Try.lays122 _ _ _).mono ?_; rintro e w3 ⟨rfl, rfl⟩; rw [H1.out])
      | (go_at_call_of 72 (Value.int .i64 (r : Int)); refine (Any.cmp_Compare_int Try.lays122 _ _ _).mono ?_; rintro e w3 ⟨rfl, rfl⟩; rw [H2.out])
      | (go_at_call 55; refine HO.out.mono ?_; rintro e w3 ⟨rfl, rfl⟩))
  all_goals go_wp2_with fail
  all_goals go_ret
  all_goals exact ⟨ret_int (by rw [HC.out]), (b_next HA.out.b (below_alloc _ _)).drew⟩
end Go.Proofs.Ytelipknnfagnjaa
