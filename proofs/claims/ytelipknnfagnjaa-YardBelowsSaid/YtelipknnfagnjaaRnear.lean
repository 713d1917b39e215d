/- The reference's Nearest and Touching over its row. -/
import Derived.Test.YtelipknnfagnjaaRbel
namespace Go.Proofs.Ytelipknnfagnjaa
set_option linter.unusedVariables false
open Go.RowKit Go.Shelf

theorem distF_comm (x y : Nat × Nat) : distF x y = distF y x := by unfold distF; omega

set_option maxRecDepth 100000 in
set_option maxHeartbeats 4000000 in
theorem refDistance_any (a b c d : Nat) (hx : FrS 10000000 (a, b)) (hy : FrS 10000000 (c, d)) (w : World) :
    Calls Try.prog 66 #[.agg #[.int .i64 a, .int .i64 b], .agg #[.int .i64 c, .int .i64 d]] w fun e w' => e = .returned (.int .i64 (distF (a, b) (c, d) : Nat)) ∧ Below w.heap.size w w' := by
  have e1 := wrap_mul hx.1 hy.2
  have e2 := wrap_mul hy.1 hx.2
  have m1 := mul14 hx.1 hy.2
  have m2 := mul14 hy.1 hx.2
  simp only at e1 e2 m1 m2
  obtain ⟨u, hu⟩ : ∃ u, a * d = u := ⟨_, rfl⟩
  obtain ⟨v, hv⟩ : ∃ v, c * b = v := ⟨_, rfl⟩
  rw [hu] at e1 m1
  rw [hv] at e2 m2
  have e3 : wrap64 ((u : Int) - v) = (u : Int) - v := wI ⟨by clear e1 e2; omega, by clear e1 e2; omega⟩
  have e4 : wrap64 (-((u : Int) - v)) = -((u : Int) - v) := wI ⟨by clear e1 e2 e3; omega, by clear e1 e2 e3; omega⟩
  have hD : Hid (max ((u : Int) - v) (-((u : Int) - v)) = (distF (a, b) (c, d) : Nat)) := by unfold Hid distF; simp only; rw [hu, hv]; clear e1 e2 e3 e4; omega
  have hB := b_next (below_alloc w (.cells #[.int .i64 a, .int .i64 b] 26)) (below_alloc _ (.cells #[.int .i64 c, .int .i64 d] 26))
  have HB := Lib.hid hB
  clear hu hv hB m1 m2 hx hy
  go_enter Try.func66, Try.ntmps66
  go_wp2
  go_ret
  exact ⟨ret_int hD.out, HB.out⟩

theorem RowF.far {X : World} {g N B o : Nat} {v : Value} (h : RowF X g N) (hne : g ≠ B) : RowF (X.setCell ⟨B, o, none⟩ v) g N :=
  ⟨by simp; exact h.1, fun k hk => ⟨(World.cell?_of_block (a := ⟨g, k * 2, none⟩) (Below.heap_setCell _ _ _ _ hne)).trans (h.2 k hk).1, (World.cell?_of_block (a := ⟨g, k * 2 + 1, none⟩) (Below.heap_setCell _ _ _ _ hne)).trans (h.2 k hk).2⟩⟩
/-- the numbers of a comparison of distances -/
theorem near_num {p q x y c d : Nat} (hp : p ≤ 1000000) (hq : q ≤ 1000000) (hx : x ≤ 300) (hy : y ≤ 300) (hc : c ≤ 300) (hd : d ≤ 300) :
    ∃ D1 D2 m1 m2 : Nat, distF (x, y) (p, q) = D1 ∧ distF (c, d) (p, q) = D2 ∧ IntKind.i64.wrap ((D1 : Int) * d) = m1 ∧ IntKind.i64.wrap ((D2 : Int) * y) = m2 ∧ (Nearer (p, q) (x, y) (c, d) ↔ m1 < m2 ∨ (m1 = m2 ∧ simplerB (x, y) (c, d) = true)) := by
  have e1 : distF (x, y) (p, q) ≤ 300 * 1000000 := distF_le ⟨hx, hy⟩ ⟨hp, hq⟩
  have e2 : distF (c, d) (p, q) ≤ 300 * 1000000 := distF_le ⟨hc, hd⟩ ⟨hp, hq⟩
  have e3 : distF (x, y) (p, q) * d ≤ 300 * 1000000 * 300 := Nat.mul_le_mul e1 hd
  have e4 : distF (c, d) (p, q) * y ≤ 300 * 1000000 * 300 := Nat.mul_le_mul e2 hy
  refine ⟨_, _, _, _, rfl, rfl, imul rfl (by omega), imul rfl (by omega), ?_⟩
  unfold Nearer simplerB
  rw [distF_comm (p, q) (x, y), distF_comm (p, q) (c, d)]
  simp

set_option maxRecDepth 100000 in
set_option maxHeartbeats 4000000 in
theorem refNearest_any (N p q C D : Nat) (h1 : 1 ≤ N) (h3 : N ≤ 300) (hp : p ≤ 1000000) (hq : q ≤ 1000000) (hC : NearSpec N (p, q) (C, D)) (w : World) :
    Calls Try.prog 28 #[.int .i64 N, .agg #[.int .i64 p, .int .i64 q]] w fun e w' => e = .returned (.agg #[.int .i64 C, .int .i64 D]) ∧ Below w.heap.size w w' := by
  have HR := Lib.hid (fun w => refRow_at N h1 h3 w)
  have hL := len_le h1 h3
  have hsm := fun k (hk : k < len N) => fr_small300 h1 h3 hk
  have Hsm := Lib.hid hsm
  have hpos := fun k => (fr_pos h1 k).1
  have Hpos := Lib.hid hpos
  have hun := fun (c d : Nat) (h : NearSpec N (p, q) (c, d)) => near_uniq h1 h hC
  have Hun := Lib.hid hun
  have A0 := (Two.new w 26 p q).alloc (.cells #[.int .i64 0, .int .i64 0] 26)
  have A1 := Two.new (w.alloc (.cells #[.int .i64 p, .int .i64 q] 26)) 26 0 0
  simp only [World.size_alloc] at A1
  have AB := b_next (below_alloc w (.cells #[.int .i64 p, .int .i64 q] 26)) (below_alloc _ (.cells #[.int .i64 0, .int .i64 0] 26))
  have hl2 := len_two h1
  have hf0 : fr N 0 = (0, 1) := rfl
  obtain ⟨L, hLe⟩ : ∃ L, len N = L := ⟨_, rfl⟩
  rw [hLe] at hL hl2
  have HL := Lib.hid hLe
  clear hsm hC hpos hun
  go_enter Try.func28, Try.ntmps28
  go_wp2_with fail
  refine (HR.out _).mono ?_
  rintro e w1 ⟨⟨g, cap, rfl, hrow, hgw⟩, b1⟩
  rw [hLe]
  clear hLe
  have A2 := A0.below b1
  have A3 := A1.below b1
  have B1 := b_next AB b1
  obtain ⟨c0, c1⟩ := hrow.2 0 (by rw [HL.out]; omega)
  rw [hf0] at c0 c1
  simp only [Nat.zero_mul, Nat.zero_add] at c0 c1
  have hgl := hrow.1
  have hL0 : (0 : Int) < L := by omega
  clear A0 A1 AB b1 HR hf0
  go_wp2_with fail
  have C0 := A2.alloc (.cells #[.int .i64 0, .int .i64 1] 26)
  have C1 := A3.alloc (.cells #[.int .i64 0, .int .i64 1] 26)
  have C2 := Two.new w1 26 0 1
  have C3 := hrow.below (below_alloc w1 (.cells #[.int .i64 0, .int .i64 1] 26))
  have C4 := b_next B1 (below_alloc w1 (.cells #[.int .i64 0, .int .i64 1] 26))
  have hw1 : w.heap.size + 1 < w1.heap.size := A3.lt
  have hgn : g < w1.heap.size := hrow.1
  go_loopw [7] (fun v wr => ∃ k c d : Nat, k ≤ L ∧ v = .int .i64 k ∧ RowF wr g N ∧ Two wr w.heap.size 26 p q ∧ Two wr (w.heap.size + 1) 26 0 0 ∧ Two wr w1.heap.size 26 c d ∧ Below w.heap.size w wr ∧ (∃ j, j < L ∧ fr N j = (c, d)) ∧ (∀ j, j < k → ¬ Nearer (p, q) (fr N j) (c, d))) (fun v _ => L - (intOf v).toNat)
  case atStart => exact ⟨0, 0, 1, Nat.zero_le _, rfl, C3, C0, C1, C2, C4, ⟨0, by omega, rfl⟩, fun j hj => absurd hj (by omega)⟩
  case round =>
    clear hrow A2 A3 B1 C0 C1 C2 C3 C4 c0 c1 hgl hL0
    obtain ⟨k, c, d, hk, rfl, hrow, hf, hz, hb, hB, ⟨j0, hj0, hj1⟩, hno⟩ := hrel
    obtain ⟨f0, f1, _, _⟩ := hf.cells
    obtain ⟨b0, b1, b2, b3⟩ := hb.cells
    have lf := hf.lt
    have lb := hb.lt
    by_cases hlt : k < L
    · have hlt2 : k < len N := by rw [HL.out]; exact hlt
      obtain ⟨c0, c1⟩ := hrow.2 k hlt2
      obtain ⟨s1, s2⟩ := Hsm.out k hlt2
      obtain ⟨s3, s4⟩ := Hsm.out j0 (by rw [HL.out]; exact hj0)
      have hdpos := Hpos.out j0
      have hypos := Hpos.out k
      rw [hj1] at s3 s4 hdpos
      obtain ⟨⟨x, y⟩, hxy⟩ : ∃ z, fr N k = z := ⟨_, rfl⟩
      rw [hxy] at c0 c1 s1 s2 hypos
      simp only at c0 c1 s1 s2 s3 s4 hdpos hypos
      have hnum := near_num hp hq s1 s2 s3 s4
      have HD1 := Lib.hid (fun w => refDistance_any x y p q ⟨by simp only; omega, by simp only; omega⟩ ⟨by simp only; omega, by simp only; omega⟩ w)
      have HD2 := Lib.hid (fun w => refDistance_any c d p q ⟨by simp only; omega, by simp only; omega⟩ ⟨by simp only; omega, by simp only; omega⟩ w)
      have HS := Lib.hid (fun w => refSimpler_any x y c d w)
      unfold frV at HS
      simp only at HS
      obtain ⟨D1, D2, m1, m2, hd1, hd2, i1, i2, hiff⟩ := hnum
      have HD1' : Hid (∀ w, Calls Try.prog 66 #[.agg #[.int .i64 x, .int .i64 y], .agg #[.int .i64 p, .int .i64 q]] w fun e w' => e = .returned (.int .i64 D1) ∧ Below w.heap.size w w') := by intro w; rw [← hd1]; exact HD1.out w
      have HD2' : Hid (∀ w, Calls Try.prog 66 #[.agg #[.int .i64 c, .int .i64 d], .agg #[.int .i64 p, .int .i64 q]] w fun e w' => e = .returned (.int .i64 D2) ∧ Below w.heap.size w w') := by intro w; rw [← hd2]; exact HD2.out w
      have Hiff := Lib.hid hiff
      have Hf := Lib.hid hf
      have Hz := Lib.hid hz
      have Hb := Lib.hid hb
      have Hrow := Lib.hid hrow
      have HB := Lib.hid hB
      have Hno := Lib.hid hno
      have Hj := Lib.hid (And.intro hj0 hj1)
      have Hxy := Lib.hid hxy
      have Hps := Lib.hid (And.intro hdpos hypos)
      have hcond : (k : Int) < L := by omega
      have hgl := hrow.1
      clear hf hz hb hrow hB hno hj0 hj1 hxy HD1 HD2 hd1 hd2 hiff hdpos hypos
      go_wp2_with fail
      go_region_held3 (fun w' => w'.cell? ⟨g, k * 2, none⟩ = some (.int .i64 x) ∧ w'.cell? ⟨g, k * 2 + 1, none⟩ = some (.int .i64 y) ∧ w'.cell? ⟨w.heap.size, 0, none⟩ = some (.int .i64 p) ∧ w'.cell? ⟨w.heap.size, 1, none⟩ = some (.int .i64 q) ∧ w'.cell? ⟨w1.heap.size, 1, none⟩ = some (.int .i64 d))
        (first | exact ⟨c0, c1, f0, f1, b1⟩ | exact ⟨h0, h1, g0, g1, e1⟩)
        (first | (go_at_call 66; refine (HD1'.out _).mono ?_; rintro e w5 ⟨rfl, k5⟩; have b5 := undrew1 k5; have Hb5 := Lib.hid (Hb.out.below b5); have Hf5 := Lib.hid (Hf.out.below b5); have Hz5 := Lib.hid (Hz.out.below b5); have Hrow5 := Lib.hid (Hrow.out.below b5); have HB5 := Lib.hid (b_next HB.out b5); obtain ⟨e0, e1, _, _⟩ := Hb5.out.cells; obtain ⟨g0, g1, _, _⟩ := Hf5.out.cells; obtain ⟨h0, h1⟩ := Hrow5.out.2 k hlt2; rw [Hxy.out] at h0 h1; simp only at h0 h1))
      clear c0 c1 f0 f1 b0 b1 b2 b3 b5 k5 Hf Hz Hb Hrow HB lf lb hgl
      have hgl5 := Hrow5.out.1
      have lf5 := Hf5.out.lt
      have lb5 := Hb5.out.lt
      go_wp2_with fail
      go_region_held3 (fun w' => w'.cell? ⟨g, k * 2 + 1, none⟩ = some (.int .i64 y) ∧ w'.cell? ⟨w.heap.size, 0, none⟩ = some (.int .i64 p) ∧ w'.cell? ⟨w.heap.size, 1, none⟩ = some (.int .i64 q) ∧ w'.cell? ⟨w1.heap.size, 0, none⟩ = some (.int .i64 c) ∧ w'.cell? ⟨w1.heap.size, 1, none⟩ = some (.int .i64 d))
        (first | exact ⟨h1, g0, g1, e0, e1⟩ | exact ⟨c1, f0, f1, b0, b1⟩)
        (first | (go_at_call 66; refine (HD2'.out _).mono ?_; rintro e w6 ⟨rfl, k6⟩; have b6 := undrew1 k6; have Hb := Lib.hid (Hb5.out.below b6); have Hf := Lib.hid (Hf5.out.below b6); have Hz := Lib.hid (Hz5.out.below b6); have Hrow := Lib.hid (Hrow5.out.below b6); have HB := Lib.hid (b_next HB5.out b6); obtain ⟨b0, b1, b2, b3⟩ := Hb.out.cells; obtain ⟨f0, f1, _, _⟩ := Hf.out.cells; obtain ⟨c0, c1⟩ := Hrow.out.2 k hlt2; rw [Hxy.out] at c0 c1; simp only at c0 c1))
      clear e0 e1 g0 g1 h0 h1 b6 k6 Hf5 Hz5 Hb5 Hrow5 HB5 hgl5 lf5 lb5 i1 i2
      have hgl := Hrow.out.1
      have lf := Hf.out.lt
      have lb := Hb.out.lt
      have hrest : ∀ (wx : World), Below w6.heap.size w6 wx → Nearer (p, q) (x, y) (c, d) → ∀ wy, wy = ((wx.setCell ⟨w1.heap.size, 0, none⟩ (.int .i64 x)).setCell ⟨w1.heap.size, 1, none⟩ (.int .i64 y)) →
          RowF wy g N ∧ Two wy w.heap.size 26 p q ∧ Two wy (w.heap.size + 1) 26 0 0 ∧ Two wy w1.heap.size 26 x y ∧ Below w.heap.size w wy ∧ (∃ j, j < L ∧ fr N j = (x, y)) ∧ (∀ j, j < k + 1 → ¬ Nearer (p, q) (fr N j) (x, y)) := by
        rintro wx hbx hn _ rfl
        have hr := Hrow.out.below hbx
        refine ⟨(hr.far (by omega)).far (by omega), ((Hf.out.below hbx).far (by omega)).far (by omega), ((Hz.out.below hbx).far (by omega)).far (by omega), ((Hb.out.below hbx).set0 _).set1 _, ((b_next HB.out hbx).setCell (p := ⟨_, 0, none⟩) (by simp <;> omega) _).setCell (p := ⟨_, 1, none⟩) (by simp <;> omega) _, ⟨k, hlt, Hxy.out⟩, fun j hj hn2 => ?_⟩
        rcases Nat.lt_or_eq_of_le (Nat.le_of_lt_succ hj) with h | h
        · exact Hno.out j h (Nearer.trans (Hpos.out j) Hps.out.2 Hps.out.1 hn2 hn)
        · subst h; rw [Hxy.out] at hn2; exact Nearer.irr _ _ hn2
      have Hrest := Lib.hid hrest
      clear hrest
      have hstay : ¬ Nearer (p, q) (x, y) (c, d) → ∀ j, j < k + 1 → ¬ Nearer (p, q) (fr N j) (c, d) := by
        intro hn j hj
        rcases Nat.lt_or_eq_of_le (Nat.le_of_lt_succ hj) with h | h
        · exact Hno.out j h
        · subst h; rw [Hxy.out]; exact hn
      have Hstay := Lib.hid hstay
      clear hstay
      rcases Nat.lt_trichotomy m1 m2 with h | h | h
      · have Hn := Lib.hid (Hiff.out.2 (.inl h))
        have hc1 : (m1 : Int) < m2 := by omega
        have HR := Lib.hid (fun nq => Hrest.out (w6.drewN nq) (below_drewN (Below.refl _ w6) nq) Hn.out _ rfl)
        clear h
        go_wp2_with fail
        go_quiet (fail)
        go_wp2_with fail
        obtain ⟨r1, r2, r3, r4, r5, r6, r7⟩ := HR.out nq
        go_roundw
        case rel => exact ⟨k + 1, x, y, hlt, rfl, r1, r2, r3, r4, r5, r6, r7⟩
        case measure => simp [intOf]; omega
      · have hc1 : ¬ (m1 : Int) < m2 := by omega
        subst h
        have HiE := Lib.hid (fun hs => Hiff.out.2 (.inr ⟨rfl, hs⟩))
        have HiF : Hid (simplerB (x, y) (c, d) = false → ¬ Nearer (p, q) (x, y) (c, d)) := fun hs hn => by
          rcases Hiff.out.1 hn with h | ⟨_, h⟩
          · omega
          · rw [hs] at h; cases h
        clear Hiff
        go_wp2_with fail
        go_still_tail 13, (by kernel_rfl)
        change wpList _ _ _ _ _ w6.drew
        have HR := Lib.hid (fun wx (h : Below w6.drew.heap.size w6.drew wx) hn => Hrest.out wx (undrew1 h) hn _ rfl)
        have Hb7 : Hid (Two w6.drew w1.heap.size 26 c d) := Hb.out
        have Hf7 : Hid (Two w6.drew w.heap.size 26 p q) := Hf.out
        have Hz7 : Hid (Two w6.drew (w.heap.size + 1) 26 0 0) := Hz.out
        have Hrow7 : Hid (RowF w6.drew g N) := Hrow.out
        have HB7 : Hid (Below w.heap.size w w6.drew) := HB.out.drew
        have d0 : w6.drew.cell? ⟨g, k * 2, none⟩ = some (.int .i64 x) := c0
        have d1 : w6.drew.cell? ⟨g, k * 2 + 1, none⟩ = some (.int .i64 y) := c1
        have hgl7 : g < w6.drew.heap.size := hgl
        clear Hrest c0 c1 f0 f1 b0 b1 b2 b3 Hb Hf Hz Hrow HB hgl lf lb
        generalize w6.drew = wx at *
        cases hs : simplerB (x, y) (c, d) with
        | true =>
          rw [hs] at HS
          have Hn := Lib.hid (HiE.out hs)
          go_wp2_with (go_at_call 50; refine (HS.out _).mono ?_; rintro e w8 ⟨rfl, b8⟩; have k0 := (b8.cell (p := ⟨g, k * 2, none⟩) hgl7).trans d0; have k1 := (b8.cell (p := ⟨g, k * 2 + 1, none⟩) hgl7).trans d1; have Hb8 := Lib.hid (Hb7.out.below b8); obtain ⟨_, _, b2, b3⟩ := Hb8.out.cells; have lb := Hb8.out.lt)
          obtain ⟨r1, r2, r3, r4, r5, r6, r7⟩ := HR.out w8 b8 Hn.out
          go_roundw
          case rel => exact ⟨k + 1, x, y, hlt, rfl, r1, r2, r3, r4, r5, r6, r7⟩
          case measure => simp [intOf]; omega
        | false =>
          rw [hs] at HS
          have Hn := Lib.hid (HiF.out hs)
          go_wp2_with (go_at_call 50; refine (HS.out _).mono ?_; rintro e w8 ⟨rfl, b8⟩)
          go_roundw
          case rel => exact ⟨k + 1, c, d, hlt, rfl, Hrow7.out.below b8, Hf7.out.below b8, Hz7.out.below b8, Hb7.out.below b8, b_next HB7.out b8, ⟨j0, Hj.out.1, Hj.out.2⟩, Hstay.out Hn.out⟩
          case measure => simp [intOf]; omega
      · have hc1 : ¬ (m1 : Int) < m2 := by omega
        have hc2 : ((m1 : Int) == m2) = false := by rw [beq_eq_false_iff_ne]; omega
        have hc3 : (m1 == m2) = false := by rw [beq_eq_false_iff_ne]; omega
        have hc4 : ¬ m1 = m2 := by omega
        have hc5 : decide (m1 < m2) = false := by rw [decide_eq_false_iff_not]; omega
        have hc6 : decide ((m1 : Int) < m2) = false := by rw [decide_eq_false_iff_not]; omega
        have Hn := Lib.hid (show ¬ Nearer (p, q) (x, y) (c, d) from fun hn => by rcases Hiff.out.1 hn with h | ⟨h, _⟩ <;> omega)
        clear h
        go_wp2_with fail
        go_quiet (fail)
        go_wp2_with fail
        go_roundw
        case rel => exact ⟨k + 1, c, d, hlt, rfl, Hrow.out, Hf.out, Hz.out, Hb.out, below_drewN HB.out nq, ⟨j0, Hj.out.1, Hj.out.2⟩, Hstay.out Hn.out⟩
        case measure => simp [intOf]; omega
    · obtain rfl : k = L := by omega
      have hcond : ¬ (k : Int) < k := by omega
      have hS : NearSpec N (p, q) (c, d) := ⟨⟨j0, by rw [HL.out]; exact hj0, hj1.symm⟩, fun j hj => hno j (by rw [← HL.out]; exact hj)⟩
      have hcd := Hun.out c d hS
      obtain ⟨rfl, rfl⟩ := Prod.mk.inj hcd
      have Hz := Lib.hid hz
      have HB := Lib.hid hB
      obtain ⟨_, _, z2, z3⟩ := hz.cells
      have lz := hz.lt
      clear hS hcd hno hj0 hj1 hz hB hrow
      go_wp2_with fail
      have V0 := ((Hz.out.set0 (c : Int)).set1 (d : Int))
      obtain ⟨k0, k1, _, _⟩ := V0.cells
      have VB := ((HB.out.setCell (p := ⟨w.heap.size + 1, 0, none⟩) (by simp) (.int .i64 c)).setCell (p := ⟨w.heap.size + 1, 1, none⟩) (by simp) (.int .i64 d))
      exact bodyPost_ret (v := .agg #[.int .i64 c, .int .i64 d]) (by simp [results, Try.results28, go_sem, k0, k1]) rfl ⟨rfl, VB⟩
end Go.Proofs.Ytelipknnfagnjaa
