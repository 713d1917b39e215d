/- The simplest fraction between two: the program's closure and the reference's recursion. -/
import Derived.Test.YtfelmjanffhahaaDoorWrp
import Derived.Test.YtfelmjanffhahaaDoorBtw
namespace Go.Proofs.YtfelmjanffhahaaDoor
set_option linter.unusedVariables false
open Go.RowKit Go.Shelf

/-- four boxes of two numbers each, laid before a call -/
theorem boxes4 {W w1 : World} {t : TypeId} {a b c d e f g h : Int} (bb : Below ((((W.alloc (.cells #[.int .i64 a, .int .i64 b] t)).alloc (.cells #[.int .i64 c, .int .i64 d] t)).alloc (.cells #[.int .i64 e, .int .i64 f] t)).alloc (.cells #[.int .i64 g, .int .i64 h] t)).heap.size
      ((((W.alloc (.cells #[.int .i64 a, .int .i64 b] t)).alloc (.cells #[.int .i64 c, .int .i64 d] t)).alloc (.cells #[.int .i64 e, .int .i64 f] t)).alloc (.cells #[.int .i64 g, .int .i64 h] t)) w1) :
    Two w1 W.heap.size t a b ∧ Two w1 (W.heap.size + 1) t c d ∧ Two w1 (W.heap.size + 1 + 1) t e f ∧ Two w1 (W.heap.size + 1 + 1 + 1) t g h ∧ Below W.heap.size W w1 ∧ W.heap.size + 1 + 1 + 1 < w1.heap.size := by
  have h1 := (((Two.new W t a b).alloc (.cells #[.int .i64 c, .int .i64 d] t)).alloc (.cells #[.int .i64 e, .int .i64 f] t)).alloc (.cells #[.int .i64 g, .int .i64 h] t)
  have h2 := ((Two.new (W.alloc (.cells #[.int .i64 a, .int .i64 b] t)) t c d).alloc (.cells #[.int .i64 e, .int .i64 f] t)).alloc (.cells #[.int .i64 g, .int .i64 h] t)
  have h3 := (Two.new ((W.alloc (.cells #[.int .i64 a, .int .i64 b] t)).alloc (.cells #[.int .i64 c, .int .i64 d] t)) t e f).alloc (.cells #[.int .i64 g, .int .i64 h] t)
  have h4 := Two.new (((W.alloc (.cells #[.int .i64 a, .int .i64 b] t)).alloc (.cells #[.int .i64 c, .int .i64 d] t)).alloc (.cells #[.int .i64 e, .int .i64 f] t)) t g h
  simp only [World.size_alloc] at h2 h3 h4
  have b0 := b_next (b_next (b_next (below_alloc W (.cells #[.int .i64 a, .int .i64 b] t)) (below_alloc _ (.cells #[.int .i64 c, .int .i64 d] t))) (below_alloc _ (.cells #[.int .i64 e, .int .i64 f] t))) (below_alloc _ (.cells #[.int .i64 g, .int .i64 h] t))
  have b5 := h4.below bb
  exact ⟨h1.below bb, h2.below bb, h3.below bb, b5, b_next b0 bb, b5.lt⟩

/-- what a call in the recursion needs, and what it may use of the next one -/
theorem btw_next {a b c d m : Nat} (hm : b + d ≤ m + 1) (hb : 1 ≤ b) (h : a * d < c * b) (hn : ¬ (a / b + 1) * d < c) (hs : a ≤ 1000001 ∧ b ≤ 1000001 ∧ c ≤ 1000001 ∧ d ≤ 1000001) :
    ∃ q r s x y, a / b = q ∧ a = q * b + r ∧ c = q * d + s ∧ r < b ∧ 1 ≤ s ∧ s + r ≤ m ∧ 1 ≤ d ∧ d * r < b * s ∧ s ≤ d ∧ between d s b r = (x, y) ∧ between a b c d = (q * x + y, x) ∧ x ≤ 2000002 ∧ y ≤ 2000002 ∧ q * x + y ≤ 2000002 ∧ q * d ≤ 1000001 ∧ q * b ≤ 1000001 ∧ q ≤ 1000001 := by
  obtain ⟨h1, h3, h4, h5, h6, h7⟩ := btw_facts hb h hn
  have hs1 := between_spec hb h
  have hs2 := between_spec (a := d) (b := c - a / b * d) (c := b) (d := a - a / b * b) (by omega) h7
  have hu := between_unfold hb h
  rw [if_neg hn] at hu
  obtain ⟨q, hq⟩ : ∃ q, a / b = q := ⟨_, rfl⟩
  rw [hq] at h1 h3 h4 h5 h7 hs2 hu ⊢
  obtain ⟨p, hp⟩ : ∃ p, between d (c - q * d) b (a - q * b) = p := ⟨_, rfl⟩
  rw [hp] at hu hs2
  obtain ⟨x, y⟩ := p
  rw [hu] at hs1
  simp only at hs1 hs2 hu
  have hqa : q ≤ a := by rw [← hq]; exact Nat.div_le_self _ _
  exact ⟨q, a - q * b, c - q * d, x, y, rfl, by omega, by omega, h4, by omega, by omega, h6, h7, h5, hp, hu, by omega, by omega, by omega, by omega, by omega, by omega⟩

set_option maxRecDepth 100000 in
set_option maxHeartbeats 4000000 in
theorem simp1_base (a b c d q Bs : Nat) (W : World) (hb : 1 ≤ b) (s1 : a ≤ 1000001) (s2 : b ≤ 1000001) (s3 : c ≤ 1000001) (s4 : d ≤ 1000001) (w1 : Int.tdiv (a : Int) b = (q : Nat)) (hqa : q ≤ 1000001) (Hl : Hid (lessF (q + 1, 1) (c, d) = true))
    (hc : W.cell? ⟨Bs, 0, none⟩ = some (.func (.func 57) #[] #[.pointer (some ⟨Bs, 0, none⟩)])) :
    Calls Tryd.prog 57 #[.agg #[.int .i64 a, .int .i64 b], .agg #[.int .i64 c, .int .i64 d], .pointer (some ⟨Bs, 0, none⟩)] W fun e w' => e = .returned (.agg #[.int .i64 ((q : Int) + 1), .int .i64 1]) ∧ Below W.heap.size W w' := by
  have hbs : Bs < W.heap.size := World.block_lt_of_cell? _ _ hc
  have HL := fun x y hx hy w => isLess_any x y hx hy w
  unfold frV at HL
  have HL1 := Lib.hid HL
  clear HL
  have hd0 : ¬ (b : Int) = 0 := by omega
  have hdb : ((b : Int) == 0) = false := by simpa using hd0
  go_enter Tryd.func57, Tryd.ntmps57
  go_wp2_with fail
  refine (HL1.out (q + 1, 1) (c, d) ⟨by simp only; omega, by simp only; omega⟩ ⟨by simp only; omega, by simp only; omega⟩ _).mono ?_
  rintro e w1 ⟨rfl, b1⟩
  rw [Hl.out]
  obtain ⟨t1, t2, t3, t4, bw, hw⟩ := boxes4 b1
  obtain ⟨v1, v2, v3, v4⟩ := t4.cells
  obtain ⟨z1, z2, z3, z4⟩ := t3.cells
  have T3 := Lib.hid t3
  have HBW := Lib.hid bw
  clear t1 t2 t3 t4 bw b1
  go_wp2_with fail
  obtain ⟨r0, r1, _, _⟩ := ((T3.out.set0 ((q : Int) + 1)).set1 1).cells
  exact bodyPost_ret (v := .agg #[.int .i64 ((q : Int) + 1), .int .i64 1]) (by simp [results, Tryd.results57, go_sem, r0, r1]) rfl ⟨rfl, (HBW.out.setCell (p := ⟨_, 0, none⟩) (by simp; omega) _).setCell (p := ⟨_, 1, none⟩) (by simp; omega) _⟩

set_option maxRecDepth 100000 in
set_option maxHeartbeats 4000000 in
theorem simp1_step (a b c d q r s x y m1 m2 m3 m4 Bs : Nat) (W : World) (hb : 1 ≤ b) (s1 : a ≤ 1000001) (s2 : b ≤ 1000001) (s3 : c ≤ 1000001) (s4 : d ≤ 1000001) (w1 : Int.tdiv (a : Int) b = (q : Nat)) (hqa : q ≤ 1000001) (Hl : Hid (lessF (q + 1, 1) (c, d) = false))
    (w2 : wrap64 ((q : Int) * d) = m1) (w3 : wrap64 ((q : Int) * b) = m2) (w4 : wrap64 ((q : Int) * x) = m3) (v2 : wrap64 ((c : Int) - m1) = s) (v3 : wrap64 ((a : Int) - m2) = r) (v4 : wrap64 ((m3 : Int) + y) = (m4 : Nat))
    (HC : Hid (∀ W : World, W.cell? ⟨Bs, 0, none⟩ = some (.func (.func 57) #[] #[.pointer (some ⟨Bs, 0, none⟩)]) →
      Calls Tryd.prog 57 #[.agg #[.int .i64 d, .int .i64 s], .agg #[.int .i64 b, .int .i64 r], .pointer (some ⟨Bs, 0, none⟩)] W fun e w' => e = .returned (.agg #[.int .i64 x, .int .i64 y]) ∧ Below W.heap.size W w'))
    (hc : W.cell? ⟨Bs, 0, none⟩ = some (.func (.func 57) #[] #[.pointer (some ⟨Bs, 0, none⟩)])) :
    Calls Tryd.prog 57 #[.agg #[.int .i64 a, .int .i64 b], .agg #[.int .i64 c, .int .i64 d], .pointer (some ⟨Bs, 0, none⟩)] W fun e w' => e = .returned (.agg #[.int .i64 (m4 : Nat), .int .i64 x]) ∧ Below W.heap.size W w' := by
  have hbs : Bs < W.heap.size := World.block_lt_of_cell? _ _ hc
  have HL := fun x y hx hy w => isLess_any x y hx hy w
  unfold frV at HL
  have HL1 := Lib.hid HL
  clear HL
  have hd0 : ¬ (b : Int) = 0 := by omega
  have hdb : ((b : Int) == 0) = false := by simpa using hd0
  have W2 := Lib.hid w2
  have W3 := Lib.hid w3
  have W4 := Lib.hid w4
  have V2 := Lib.hid v2
  have V3 := Lib.hid v3
  have V4 := Lib.hid v4
  clear w2 w3 w4 v2 v3 v4
  go_enter Tryd.func57, Tryd.ntmps57
  go_wp2_with fail
  refine (HL1.out (q + 1, 1) (c, d) ⟨by simp only; omega, by simp only; omega⟩ ⟨by simp only; omega, by simp only; omega⟩ _).mono ?_
  rintro e w1 ⟨rfl, b1⟩
  rw [Hl.out]
  obtain ⟨t1, t2, t3, t4, bw, hw⟩ := boxes4 b1
  have hcb := (bw.cell (p := ⟨Bs, 0, none⟩) hbs).trans hc
  obtain ⟨x1, x2, _, _⟩ := t1.cells
  obtain ⟨y1, y2, _, _⟩ := t2.cells
  have T3 := Lib.hid t3
  have HBW := Lib.hid bw
  have w2 := W2.out
  have w3 := W3.out
  have v2 := V2.out
  have v3 := V3.out
  clear t1 t2 t3 t4 bw b1
  go_wp2_with fail
  have w4 := W4.out
  have v4 := V4.out
  clear w2 w3 v2 v3
  refine (HC.out _ hcb).mono ?_
  rintro e w2 ⟨rfl, b2⟩
  have t3 := T3.out.below b2
  obtain ⟨z1, z2, z3, z4⟩ := t3.cells
  have T4 := Lib.hid t3
  have HB2 := Lib.hid (b_next HBW.out b2)
  have hw2 : W.heap.size + 1 + 1 < w2.heap.size := t3.lt
  clear t3 b2
  go_wp2_with fail
  obtain ⟨r0, r1, _, _⟩ := (((T4.out.set0 m4).set1 x).alloc (.cells #[.int .i64 x, .int .i64 y] 23)).cells
  have hB5 := ((HB2.out.setCell (p := ⟨W.heap.size + 1 + 1, 0, none⟩) (by simp; omega) (.int .i64 (m4 : Nat))).setCell (p := ⟨W.heap.size + 1 + 1, 1, none⟩) (by simp; omega) (.int .i64 x)).alloc (by simp; exact HB2.out.size) (.cells #[.int .i64 x, .int .i64 y] 23)
  exact bodyPost_ret (v := .agg #[.int .i64 (m4 : Nat), .int .i64 x]) (by simp [results, Tryd.results57, go_sem, r0, r1]) rfl ⟨rfl, hB5⟩

theorem simp1_any : ∀ (m a b c d Bs : Nat) (W : World), b + d ≤ m → 1 ≤ b → a * d < c * b → (a ≤ 1000001 ∧ b ≤ 1000001 ∧ c ≤ 1000001 ∧ d ≤ 1000001) →
    W.cell? ⟨Bs, 0, none⟩ = some (.func (.func 57) #[] #[.pointer (some ⟨Bs, 0, none⟩)]) →
    Calls Tryd.prog 57 #[frV (a, b), frV (c, d), .pointer (some ⟨Bs, 0, none⟩)] W fun e w' => e = .returned (frV (between a b c d)) ∧ Below W.heap.size W w'
  | 0, a, b, c, d, Bs, W, hm, hb, h, hs, hc => absurd hm (by omega)
  | m + 1, a, b, c, d, Bs, W, hm, hb, h, hs, hc => by
    obtain ⟨s1, s2, s3, s4⟩ := hs
    by_cases hn : (a / b + 1) * d < c
    · have hu := between_unfold hb h
      rw [if_pos hn] at hu
      have hqa : a / b ≤ a := Nat.div_le_self _ _
      rw [hu]
      refine simp1_base a b c d (a / b) Bs W hb s1 s2 s3 s4 (tdivN rfl) (by omega) ?_ hc
      unfold Hid lessF
      rw [decide_eq_true_eq]
      simp only; omega
    · obtain ⟨q, r, s, x, y, hq, ha, hc', hr, hs1, hsr, hd1, hdet, hsd, hbt, hu, hx, hy, hxy, hqd, hqb, hqx⟩ := btw_next hm hb h hn ⟨s1, s2, s3, s4⟩
      have hqx2 : q * x ≤ 2000002 := by omega
      have hz : q * x + y ≤ 1000000000000000 := by omega
      have hC : ∀ W : World, W.cell? ⟨Bs, 0, none⟩ = some (.func (.func 57) #[] #[.pointer (some ⟨Bs, 0, none⟩)]) → _ := fun W hW => simp1_any m d s b r Bs W (by omega) (by omega) hdet ⟨by omega, by omega, by omega, by omega⟩ hW
      rw [hbt] at hC
      rw [hu]
      rw [hq] at hn
      refine simp1_step a b c d q r s x y (q * d) (q * b) (q * x) (q * x + y) Bs W hb s1 s2 s3 s4 (tdivN hq) hqx ?_ (wmul rfl (by omega)) (wmul rfl (by omega)) (wmul rfl (by omega)) (wsub hc' (by omega)) (wsub ha (by omega)) (wadd rfl hz) hC hc
      unfold Hid lessF
      rw [decide_eq_false_iff_not]
      simp only; omega

set_option maxRecDepth 100000 in
set_option maxHeartbeats 4000000 in
theorem simplest_any (a b c d : Nat) (w : World) (hb : 1 ≤ b) (h : a * d < c * b) (hs : a ≤ 1000001 ∧ b ≤ 1000001 ∧ c ≤ 1000001 ∧ d ≤ 1000001) :
    Calls Tryd.prog 46 #[frV (a, b), frV (c, d)] w fun e w' => e = .returned (frV (between a b c d)) ∧ Below w.heap.size w w' := by
  have hS := fun Bs W hW => simp1_any (b + d) a b c d Bs W (Nat.le_refl _) hb h hs hW
  have HS := Lib.hid hS
  clear hS
  unfold frV at HS ⊢
  simp only at HS ⊢
  go_enter Tryd.func46, Tryd.ntmps46
  go_wp2_with fail
  refine (HS.out _ _ (by go_cell)).mono ?_
  rintro e w1 ⟨rfl, b1⟩
  have h4 : Two w1 (w.heap.size + 1 + 1) 23 0 0 := by
    refine Two.below ?_ b1
    have h3 := Two.new ((w.alloc (.cells #[.int .i64 a, .int .i64 b] 23)).alloc (.cells #[.int .i64 c, .int .i64 d] 23)) 23 0 0
    simp only [World.size_alloc] at h3
    exact h3.alloc _
  have hB : Below w.heap.size w w1 := b_next (b_next (b_next (b_next (below_alloc w _) (below_alloc _ _)) (below_alloc _ _)) (below_alloc _ _)) b1
  obtain ⟨z1, z2, z3, z4⟩ := h4.cells
  have H4 := Lib.hid h4
  have HB := Lib.hid hB
  clear h4 hB b1
  go_wp2_with fail
  obtain ⟨r0, r1, _, _⟩ := ((H4.out.set0 ((between a b c d).1 : Nat)).set1 ((between a b c d).2 : Nat)).cells
  exact bodyPost_ret (v := frV (between a b c d)) (by simp [results, Tryd.results46, go_sem, r0, r1, frV]) rfl ⟨rfl, (HB.out.setCell (p := ⟨_, 0, none⟩) (by simp; omega) _).setCell (p := ⟨_, 1, none⟩) (by simp; omega) _⟩
end Go.Proofs.YtfelmjanffhahaaDoor
