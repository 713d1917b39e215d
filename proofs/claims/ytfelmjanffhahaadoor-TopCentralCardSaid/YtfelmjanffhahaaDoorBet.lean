/- Between and Neighbors. -/
import Derived.Test.YtfelmjanffhahaaDoorSmp
namespace Go.Proofs.YtfelmjanffhahaaDoor
set_option linter.unusedVariables false
open Go.RowKit Go.Shelf

/-- what Between returns -/
def betN (a b c d : Nat) : (Nat × Nat) × Int := if a * d < c * b then (if (between a b c d).2 ≤ 1000000 then (between a b c d, 0) else ((0, 0), 6)) else ((0, 0), 2)
def betR (p q r s : Int) : (Nat × Nat) × Int := if validB p q && validB r s then betN p.toNat q.toNat r.toNat s.toNat else ((0, 0), 2)

/-- the boxes of two arguments and of a third fraction -/
structure Args2 (w X : World) (a b c d e f : Int) : Prop where
  x : Two X w.heap.size 23 a b
  y : Two X (w.heap.size + 1) 23 c d
  z : Two X (w.heap.size + 1 + 1) 23 e f
  b : Below w.heap.size w X
theorem Args2.below {w X Y : World} {a b c d e f : Int} (h : Args2 w X a b c d e f) (hb : Below X.heap.size X Y) : Args2 w Y a b c d e f := ⟨h.x.below hb, h.y.below hb, h.z.below hb, b_next h.b hb⟩
theorem Args2.new (w : World) (a b c d e f : Int) : Args2 w (((w.alloc (.cells #[.int .i64 a, .int .i64 b] 23)).alloc (.cells #[.int .i64 c, .int .i64 d] 23)).alloc (.cells #[.int .i64 e, .int .i64 f] 23)) a b c d e f := by
  have h1 := ((Two.new w 23 a b).alloc (.cells #[.int .i64 c, .int .i64 d] 23)).alloc (.cells #[.int .i64 e, .int .i64 f] 23)
  have h2 := (Two.new (w.alloc (.cells #[.int .i64 a, .int .i64 b] 23)) 23 c d).alloc (.cells #[.int .i64 e, .int .i64 f] 23)
  have h3 := Two.new ((w.alloc (.cells #[.int .i64 a, .int .i64 b] 23)).alloc (.cells #[.int .i64 c, .int .i64 d] 23)) 23 e f
  simp only [World.size_alloc] at h2 h3
  exact ⟨h1, h2, h3, b_next (b_next (below_alloc w _) (below_alloc _ _)) (below_alloc _ _)⟩

set_option maxRecDepth 100000 in
set_option maxHeartbeats 4000000 in
theorem Between_yes (a b c d : Nat) (w : World) (h1 : validB a b = true) (h2 : validB c d = true) :
    Calls Tryd.prog 26 #[frV (a, b), frV (c, d)] w fun e w' => e = .returned (.tuple #[frV (betN a b c d).1, .int .i64 (betN a b c d).2]) ∧ Below w.heap.size w w' := by
  have V1 := fun w => isValid_any a b w
  have V2 := fun w => isValid_any c d w
  rw [h1] at V1
  rw [h2] at V2
  have HV1 := Lib.hid V1
  have HV2 := Lib.hid V2
  obtain ⟨a', b', e1, e2, k1, k2, k3, _⟩ := valid_nat h1
  obtain ⟨c', d', e3, e4, k4, k5, k6, _⟩ := valid_nat h2
  have m1 : a ≤ 1000000 := by omega
  have m2 : b ≤ 1000000 := by omega
  have m3 : c ≤ 1000000 := by omega
  have m4 : d ≤ 1000000 := by omega
  have m5 : 1 ≤ b := by omega
  clear V1 V2 h1 h2 e1 e2 e3 e4 k1 k2 k3 k4 k5 k6
  have hl := fun w => isLess_any (a, b) (c, d) ⟨by simp only; omega, by simp only; omega⟩ ⟨by simp only; omega, by simp only; omega⟩ w
  by_cases hlt : a * d < c * b
  · have hs := fun w => simplest_any a b c d w m5 hlt ⟨by omega, by omega, by omega, by omega⟩
    have hN : betN a b c d = if (between a b c d).2 ≤ 1000000 then (between a b c d, 0) else ((0, 0), 6) := by unfold betN; rw [if_pos hlt]
    obtain ⟨x, y, hxy⟩ : ∃ x y, between a b c d = (x, y) := ⟨_, _, rfl⟩
    rw [hxy] at hs hN
    rw [show lessF (a, b) (c, d) = true from decide_eq_true hlt] at hl
    unfold frV at hl hs ⊢
    have HL := Lib.hid hl
    have HS := Lib.hid hs
    have HN := Lib.hid hN
    clear hl hs hN hxy hlt
    go_enter Tryd.func26, Tryd.ntmps26
    go_wp2_with fail
    generalize hX : (((w.alloc (.cells #[.int .i64 a, .int .i64 b] 23)).alloc (.cells #[.int .i64 c, .int .i64 d] 23)).alloc (.cells #[.int .i64 0, .int .i64 0] 23)) = X
    have A0 : Args2 w X a b c d 0 0 := by rw [← hX]; exact Args2.new w _ _ _ _ _ _
    have HA0 := Lib.hid A0
    clear A0 hX
    refine (HV1.out _).mono ?_
    rintro e w1 ⟨rfl, b1⟩
    have A1 := HA0.out.below b1
    obtain ⟨x0, x1, _, _⟩ := A1.x.cells
    obtain ⟨y0, y1, _, _⟩ := A1.y.cells
    have HA1 := Lib.hid A1
    clear A1 b1
    go_wp2_with fail
    refine (HV2.out _).mono ?_
    rintro e w2 ⟨rfl, b2⟩
    have A2 := HA1.out.below b2
    obtain ⟨x0, x1, _, _⟩ := A2.x.cells
    obtain ⟨y0, y1, _, _⟩ := A2.y.cells
    have HA2 := Lib.hid A2
    clear A2 b2
    go_wp2_with fail
    refine (HL.out _).mono ?_
    rintro e w3 ⟨rfl, b3⟩
    have A3 := HA2.out.below b3
    obtain ⟨x0, x1, _, _⟩ := A3.x.cells
    obtain ⟨y0, y1, _, _⟩ := A3.y.cells
    have HA3 := Lib.hid A3
    clear A3 b3
    go_wp2_with fail
    refine (HS.out _).mono ?_
    rintro e w4 ⟨rfl, b4⟩
    have A4 := HA3.out.below b4
    obtain ⟨z0, z1, z2, z3⟩ := A4.z.cells
    have HA4 := Lib.hid A4
    have hlt4 : w.heap.size + 1 + 1 < w4.heap.size := A4.z.lt
    clear A4 b4
    go_wp2_with fail
    · have hy : ¬ y ≤ 1000000 := by omega
      obtain ⟨r0, r1, _, _⟩ := (((HA4.out.z.set0 0).set1 0).alloc (.cells #[.int .i64 (x : Nat), .int .i64 (y : Nat)] 23)).cells
      exact bodyPost_ret (v := .tuple #[.agg #[.int .i64 0, .int .i64 0], .int .i64 6]) (by simp [results, Tryd.results26, go_sem, r0, r1]) rfl ⟨by rw [HN.out, if_neg hy]; rfl, (((HA4.out.b.setCell (p := ⟨_, 0, none⟩) (by simp; omega) _).setCell (p := ⟨_, 1, none⟩) (by simp; omega) _).alloc (by simp; exact HA4.out.b.size) _)⟩
    · have hy : y ≤ 1000000 := by omega
      obtain ⟨r0, r1, _, _⟩ := (((HA4.out.z.set0 (x : Nat)).set1 (y : Nat)).alloc (.cells #[.int .i64 (x : Nat), .int .i64 (y : Nat)] 23)).cells
      exact bodyPost_ret (v := .tuple #[.agg #[.int .i64 (x : Nat), .int .i64 (y : Nat)], .int .i64 0]) (by simp [results, Tryd.results26, go_sem, r0, r1]) rfl ⟨by rw [HN.out, if_pos hy], (((HA4.out.b.setCell (p := ⟨_, 0, none⟩) (by simp; omega) _).setCell (p := ⟨_, 1, none⟩) (by simp; omega) _).alloc (by simp; exact HA4.out.b.size) _)⟩
  · have hN : betN a b c d = ((0, 0), 2) := by unfold betN; rw [if_neg hlt]
    rw [show lessF (a, b) (c, d) = false from decide_eq_false hlt] at hl
    unfold frV at hl ⊢
    have HL := Lib.hid hl
    have HN := Lib.hid hN
    clear hl hN hlt
    go_enter Tryd.func26, Tryd.ntmps26
    go_wp2_with fail
    generalize hX : (((w.alloc (.cells #[.int .i64 a, .int .i64 b] 23)).alloc (.cells #[.int .i64 c, .int .i64 d] 23)).alloc (.cells #[.int .i64 0, .int .i64 0] 23)) = X
    have A0 : Args2 w X a b c d 0 0 := by rw [← hX]; exact Args2.new w _ _ _ _ _ _
    have HA0 := Lib.hid A0
    clear A0 hX
    refine (HV1.out _).mono ?_
    rintro e w1 ⟨rfl, b1⟩
    have A1 := HA0.out.below b1
    obtain ⟨x0, x1, _, _⟩ := A1.x.cells
    obtain ⟨y0, y1, _, _⟩ := A1.y.cells
    obtain ⟨z0, z1, z2, z3⟩ := A1.z.cells
    have HA1 := Lib.hid A1
    have hlt1 : w.heap.size + 1 + 1 < w1.heap.size := A1.z.lt
    clear A1 b1
    go_wp2_with fail
    refine (HV2.out _).mono ?_
    rintro e w2 ⟨rfl, b2⟩
    have A2 := HA1.out.below b2
    obtain ⟨x0, x1, _, _⟩ := A2.x.cells
    obtain ⟨y0, y1, _, _⟩ := A2.y.cells
    obtain ⟨z0, z1, z2, z3⟩ := A2.z.cells
    have HA2 := Lib.hid A2
    have hlt2 : w.heap.size + 1 + 1 < w2.heap.size := A2.z.lt
    clear A2 b2
    go_wp2_with fail
    refine (HL.out _).mono ?_
    rintro e w3 ⟨rfl, b3⟩
    have A3 := HA2.out.below b3
    obtain ⟨x0, x1, _, _⟩ := A3.x.cells
    obtain ⟨y0, y1, _, _⟩ := A3.y.cells
    obtain ⟨z0, z1, z2, z3⟩ := A3.z.cells
    have HA3 := Lib.hid A3
    have hlt3 : w.heap.size + 1 + 1 < w3.heap.size := A3.z.lt
    clear A3 b3
    go_wp2_with fail
    obtain ⟨r0, r1, _, _⟩ := (((HA3.out.z.set0 0).set1 0)).cells
    exact bodyPost_ret (v := .tuple #[.agg #[.int .i64 0, .int .i64 0], .int .i64 2]) (by simp [results, Tryd.results26, go_sem, r0, r1]) rfl ⟨by rw [HN.out]; rfl, ((HA3.out.b.setCell (p := ⟨_, 0, none⟩) (by simp; omega) _).setCell (p := ⟨_, 1, none⟩) (by simp; omega) _)⟩

set_option maxRecDepth 100000 in
set_option maxHeartbeats 4000000 in
theorem Between_no (a b c d : Int) (w : World) (h : (validB a b && validB c d) = false) :
    Calls Tryd.prog 26 #[.agg #[.int .i64 a, .int .i64 b], .agg #[.int .i64 c, .int .i64 d]] w fun e w' => e = .returned (.tuple #[frV (0, 0), .int .i64 2]) ∧ Below w.heap.size w w' := by
  have V1 := fun w => isValid_any a b w
  have V2 := fun w => isValid_any c d w
  cases h1 : validB a b with
  | false =>
    rw [h1] at V1
    have HV1 := Lib.hid V1
    clear V1 V2 h h1
    go_enter Tryd.func26, Tryd.ntmps26
    go_wp2_with fail
    generalize hX : (((w.alloc (.cells #[.int .i64 a, .int .i64 b] 23)).alloc (.cells #[.int .i64 c, .int .i64 d] 23)).alloc (.cells #[.int .i64 0, .int .i64 0] 23)) = X
    have A0 : Args2 w X a b c d 0 0 := by rw [← hX]; exact Args2.new w _ _ _ _ _ _
    have HA0 := Lib.hid A0
    clear A0 hX
    refine (HV1.out _).mono ?_
    rintro e w1 ⟨rfl, b1⟩
    have A1 := HA0.out.below b1
    obtain ⟨x0, x1, _, _⟩ := A1.x.cells
    obtain ⟨y0, y1, _, _⟩ := A1.y.cells
    obtain ⟨z0, z1, z2, z3⟩ := A1.z.cells
    have HA1 := Lib.hid A1
    have hlt1 : w.heap.size + 1 + 1 < w1.heap.size := A1.z.lt
    clear A1 b1
    go_wp2_with fail
    obtain ⟨r0, r1, _, _⟩ := (((HA1.out.z.set0 0).set1 0)).cells
    exact bodyPost_ret (v := .tuple #[.agg #[.int .i64 0, .int .i64 0], .int .i64 2]) (by simp [results, Tryd.results26, go_sem, r0, r1]) rfl ⟨rfl, ((HA1.out.b.setCell (p := ⟨_, 0, none⟩) (by simp; omega) _).setCell (p := ⟨_, 1, none⟩) (by simp; omega) _)⟩
  | true =>
    have h2 : validB c d = false := by rw [h1, Bool.true_and] at h; exact h
    rw [h1] at V1
    rw [h2] at V2
    have HV1 := Lib.hid V1
    have HV2 := Lib.hid V2
    clear V1 V2 h h1 h2
    go_enter Tryd.func26, Tryd.ntmps26
    go_wp2_with fail
    generalize hX : (((w.alloc (.cells #[.int .i64 a, .int .i64 b] 23)).alloc (.cells #[.int .i64 c, .int .i64 d] 23)).alloc (.cells #[.int .i64 0, .int .i64 0] 23)) = X
    have A0 : Args2 w X a b c d 0 0 := by rw [← hX]; exact Args2.new w _ _ _ _ _ _
    have HA0 := Lib.hid A0
    clear A0 hX
    refine (HV1.out _).mono ?_
    rintro e w1 ⟨rfl, b1⟩
    have A1 := HA0.out.below b1
    obtain ⟨x0, x1, _, _⟩ := A1.x.cells
    obtain ⟨y0, y1, _, _⟩ := A1.y.cells
    obtain ⟨z0, z1, z2, z3⟩ := A1.z.cells
    have HA1 := Lib.hid A1
    have hlt1 : w.heap.size + 1 + 1 < w1.heap.size := A1.z.lt
    clear A1 b1
    go_wp2_with fail
    refine (HV2.out _).mono ?_
    rintro e w2 ⟨rfl, b2⟩
    have A2 := HA1.out.below b2
    obtain ⟨x0, x1, _, _⟩ := A2.x.cells
    obtain ⟨y0, y1, _, _⟩ := A2.y.cells
    obtain ⟨z0, z1, z2, z3⟩ := A2.z.cells
    have HA2 := Lib.hid A2
    have hlt2 : w.heap.size + 1 + 1 < w2.heap.size := A2.z.lt
    clear A2 b2
    go_wp2_with fail
    obtain ⟨r0, r1, _, _⟩ := (((HA2.out.z.set0 0).set1 0)).cells
    exact bodyPost_ret (v := .tuple #[.agg #[.int .i64 0, .int .i64 0], .int .i64 2]) (by simp [results, Tryd.results26, go_sem, r0, r1]) rfl ⟨rfl, ((HA2.out.b.setCell (p := ⟨_, 0, none⟩) (by simp; omega) _).setCell (p := ⟨_, 1, none⟩) (by simp; omega) _)⟩

theorem Between_any (p q r s : Int) (w : World) :
    Calls Tryd.prog 26 #[.agg #[.int .i64 p, .int .i64 q], .agg #[.int .i64 r, .int .i64 s]] w fun e w' => e = .returned (.tuple #[frV (betR p q r s).1, .int .i64 (betR p q r s).2]) ∧ Below w.heap.size w w' := by
  cases h : (validB p q && validB r s) with
  | false =>
    have hr : betR p q r s = ((0, 0), 2) := by unfold betR; rw [h]; rfl
    rw [hr]
    exact Between_no p q r s w h
  | true =>
    have hr : betR p q r s = betN p.toNat q.toNat r.toNat s.toNat := by unfold betR; rw [h]; rfl
    rw [Bool.and_eq_true] at h
    obtain ⟨a, b, rfl, rfl, _⟩ := valid_nat h.1
    obtain ⟨c, d, rfl, rfl, _⟩ := valid_nat h.2
    rw [hr]
    exact Between_yes a b c d w h.1 h.2
end Go.Proofs.YtfelmjanffhahaaDoor
