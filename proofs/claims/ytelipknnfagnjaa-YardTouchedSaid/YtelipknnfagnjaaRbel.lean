/- The reference's Below, Next and Before over its row. -/
import Derived.Test.YtelipknnfagnjaaDet
namespace Go.Proofs.Ytelipknnfagnjaa
set_option linter.unusedVariables false
open Go.RowKit Go.Shelf

/-- the slice at g holds the row of N -/
def RowF (X : World) (g N : Nat) : Prop := g < X.heap.size ∧ ∀ k, k < len N → X.cell? ⟨g, k * 2, none⟩ = some (.int .i64 (fr N k).1) ∧ X.cell? ⟨g, k * 2 + 1, none⟩ = some (.int .i64 (fr N k).2)
theorem RowF.below {X Y : World} {g N : Nat} (h : RowF X g N) (hb : Below X.heap.size X Y) : RowF Y g N :=
  ⟨Nat.lt_of_lt_of_le h.1 hb.size, fun k hk => ⟨(hb.cell (p := ⟨g, k * 2, none⟩) h.1).trans (h.2 k hk).1, (hb.cell (p := ⟨g, k * 2 + 1, none⟩) h.1).trans (h.2 k hk).2⟩⟩
theorem refRow_at (N : Nat) (h1 : 1 ≤ N) (h3 : N ≤ 300) (w : World) :
    Calls Try.prog 18 #[.int .i64 N] w fun e w' => (∃ g cap : Nat, e = .returned (.slice (some ⟨g, 0, none⟩) (len N) cap) ∧ RowF w' g N ∧ w.heap.size ≤ g) ∧ Below w.heap.size w w' := by
  refine (refRow_any N h1 h3 w).mono ?_
  rintro e w' ⟨v, rfl, hown, hb⟩
  have hl := len_two h1
  obtain ⟨g, cap, hv⟩ : ∃ g cap, v = .slice (some ⟨g, 0, none⟩) (len N) cap := by
    rcases hown.2 with ⟨_, h⟩ | ⟨g, cap, cur, h, _⟩
    · omega
    · exact ⟨g, cap, h⟩
  subst hv
  have hg := hown.lt g rfl
  refine ⟨⟨g, cap, rfl, ⟨hg.2, fun k hk => ?_⟩, hg.1⟩, hb⟩
  obtain ⟨g0, g1⟩ := flatF_get (frs_get (N := N) hk)
  exact ⟨(hown.cellAt (k * 2) (by omega)).trans g0, (hown.cellAt (k * 2 + 1) (by omega)).trans g1⟩
theorem len_le {N : Nat} (h1 : 1 ≤ N) (h3 : N ≤ 300) : len N ≤ 90002 := by have := (len_spec h1).2.2; have := Nat.mul_le_mul h3 h3; omega

set_option maxRecDepth 100000 in
set_option maxHeartbeats 4000000 in
theorem refBelow_any (N p q K : Nat) (h1 : 1 ≤ N) (h3 : N ≤ 300) (hp : p ≤ 1000000) (hq : q ≤ 1000000) (hK : BelowSpec N (p, q) K) (w : World) :
    Calls Try.prog 27 #[.int .i64 N, .agg #[.int .i64 p, .int .i64 q]] w fun e w' => e = .returned (.int .i64 K) ∧ Below w.heap.size w w' := by
  have HR := Lib.hid (fun w => refRow_at N h1 h3 w)
  have hL := len_le h1 h3
  have hsm := fun k (hk : k < len N) => fr_small300 h1 h3 hk
  have Hsm := Lib.hid hsm
  have HK := Lib.hid hK
  have A0 := Two.new w 26 p q
  have AB := below_alloc w (.cells #[.int .i64 p, .int .i64 q] 26)
  clear hsm hK
  go_enter Try.func27, Try.ntmps27
  go_wp2_with fail
  refine (HR.out _).mono ?_
  rintro e w1 ⟨⟨g, cap, rfl, hrow, hgw⟩, b1⟩
  have A1 := A0.below b1
  have B1 := b_next AB b1
  clear A0 AB b1 HR
  obtain ⟨L, hLe⟩ : ∃ L, len N = L := ⟨_, rfl⟩
  rw [hLe] at hL ⊢
  have HL := Lib.hid hLe
  clear hLe
  have HKK : Hid (K ≤ L) := by have := HK.out.1; rw [HL.out] at this; exact this
  go_wp2_with fail
  go_loopw [6] (fun v wr => ∃ k : Nat, k ≤ K ∧ v = .int .i64 k ∧ RowF wr g N ∧ Two wr w.heap.size 26 p q ∧ Below w.heap.size w wr) (fun v _ => K - (intOf v).toNat)
  case atStart => exact ⟨0, Nat.zero_le _, rfl, hrow, A1, B1⟩
  case round =>
    clear hrow A1 B1
    obtain ⟨k, hk, rfl, hrow, hf, hB⟩ := hrel
    obtain ⟨f0, f1, _, _⟩ := hf.cells
    have lf := hf.lt
    have hkL : k ≤ L := Nat.le_trans hk HKK.out
    by_cases hlt : k < L
    · have hlt2 : k < len N := by rw [HL.out]; exact hlt
      obtain ⟨c0, c1⟩ := hrow.2 k hlt2
      obtain ⟨s1, s2⟩ := Hsm.out k hlt2
      have hc : lessF (fr N k) (p, q) = decide (k < K) := by
        by_cases h : k < K
        · rw [decide_eq_true h]; exact HK.out.2.1 k h
        · rw [decide_eq_false h]
          obtain rfl : k = K := by omega
          exact HK.out.2.2 hlt2
      generalize fr N k = x at c0 c1 s1 s2 hc
      obtain ⟨x, y⟩ := x
      simp only at c0 c1 s1 s2
      have hLs := fun w => ref_less (a := x) (b := y) (c := p) (d := q) (by omega) (by omega) hp hq w
      rw [hc] at hLs
      have HLs := Lib.hid hLs
      have Hf := Lib.hid hf
      have Hrow := Lib.hid hrow
      have HB := Lib.hid hB
      have hcond : (k : Int) < L := by omega
      have hgl := hrow.1
      clear hLs hf hrow hB hc
      go_wp2_with fail
      go_still_tail 10, (by kernel_rfl)
      change wpList _ _ _ _ _ wr.drew
      have Hf2 : Hid (Two wr.drew w.heap.size 26 p q) := Hf.out
      have Hrow2 : Hid (RowF wr.drew g N) := Hrow.out
      have HB2 : Hid (Below w.heap.size w wr.drew) := HB.out.drew
      generalize wr.drew = wx at *
      by_cases hkK : k < K
      · rw [decide_eq_true hkK] at HLs
        go_wp2_with (go_at_call 34; refine (HLs.out _).mono ?_; rintro e w5 ⟨rfl, b5⟩)
        go_roundw
        case rel => exact ⟨k + 1, hkK, rfl, Hrow2.out.below b5, Hf2.out.below b5, b_next HB2.out b5⟩
        case measure => simp [intOf]; omega
      · rw [decide_eq_false hkK] at HLs
        obtain rfl : k = K := by omega
        go_wp2_with (go_at_call 34; refine (HLs.out _).mono ?_; rintro e w5 ⟨rfl, b5⟩)
        go_ret
        exact ⟨rfl, b_next HB2.out b5⟩
    · obtain rfl : k = L := by omega
      obtain rfl : K = k := by have := HKK.out; omega
      have hcond : ¬ (K : Int) < K := by omega
      have HB := Lib.hid hB
      clear hB
      go_wp2_with fail
      go_quiet (fail)
      go_wp2_with fail
      go_ret
      exact ⟨rfl, below_drewN HB.out nq⟩

/-- the first K fractions of the row are not greater, and the next one is -/
def GreatSpec (N : Nat) (x : Nat × Nat) (k : Nat) : Prop := k ≤ len N ∧ (∀ i, i < k → lessF x (fr N i) = false) ∧ (k < len N → lessF x (fr N k) = true)
theorem great_ex (N : Nat) (x : Nat × Nat) : ∃ k, GreatSpec N x k := by
  obtain ⟨k, h1, h2, h3⟩ := least_idx (P := fun k => k = len N ∨ lessF x (fr N k) = true) (n := len N) (.inl rfl)
  refine ⟨k, h1, fun i hi => ?_, fun h => ?_⟩
  · have := h3 i hi
    cases hc : lessF x (fr N i) with
    | false => rfl
    | true => exact absurd (.inr hc) this
  · rcases h2 with h2 | h2
    · omega
    · exact h2
def nextK (N k : Nat) : (Nat × Nat) × Int := if k = len N then ((0, 0), 6) else (fr N k, 0)
theorem great_next {N : Nat} {x : Nat × Nat} {k : Nat} (h : GreatSpec N x k) : NextSpec N x (nextK N k) := by
  obtain ⟨h1, h2, h3⟩ := h
  unfold nextK
  split
  · rename_i e; subst e; exact .inr ⟨h2, rfl⟩
  · exact .inl ⟨k, by omega, h3 (by omega), h2, rfl⟩

set_option maxRecDepth 100000 in
set_option maxHeartbeats 4000000 in
theorem refNext_any (N p q K : Nat) (h1 : 1 ≤ N) (h3 : N ≤ 300) (hp : p ≤ 1000000) (hq : q ≤ 1000000) (hK : GreatSpec N (p, q) K) (w : World) :
    Calls Try.prog 25 #[.int .i64 N, .agg #[.int .i64 p, .int .i64 q]] w fun e w' => e = .returned (.tuple #[.agg #[.int .i64 (nextK N K).1.1, .int .i64 (nextK N K).1.2], .bool (decide (K < len N))]) ∧ Below w.heap.size w w' := by
  have HR := Lib.hid (fun w => refRow_at N h1 h3 w)
  have hL := len_le h1 h3
  have hsm := fun k (hk : k < len N) => fr_small300 h1 h3 hk
  have Hsm := Lib.hid hsm
  have HK := Lib.hid hK
  have A0 := (Two.new w 26 p q).alloc (.cells #[.int .i64 0, .int .i64 0] 26)
  have A1 := Two.new (w.alloc (.cells #[.int .i64 p, .int .i64 q] 26)) 26 0 0
  simp only [World.size_alloc] at A1
  have AB := b_next (below_alloc w (.cells #[.int .i64 p, .int .i64 q] 26)) (below_alloc _ (.cells #[.int .i64 0, .int .i64 0] 26))
  have hnx : nextK N K = if K = len N then ((0, 0), 6) else (fr N K, 0) := rfl
  generalize nextK N K = r at hnx ⊢
  have Hnx := Lib.hid hnx
  clear hnx
  obtain ⟨L, hLe⟩ : ∃ L, len N = L := ⟨_, rfl⟩
  rw [hLe] at hL ⊢
  have HL := Lib.hid hLe
  clear hsm hK
  go_enter Try.func25, Try.ntmps25
  go_wp2_with fail
  refine (HR.out _).mono ?_
  rintro e w1 ⟨⟨g, cap, rfl, hrow, hgw⟩, b1⟩
  rw [hLe]
  clear hLe
  have A2 := A0.below b1
  have A3 := A1.below b1
  have B1 := b_next AB b1
  clear A0 A1 AB b1 HR
  have HKK : Hid (K ≤ L) := by have := HK.out.1; rw [HL.out] at this; exact this
  go_wp2_with fail
  go_loopw [7] (fun v wr => ∃ k : Nat, k ≤ K ∧ v = .int .i64 k ∧ RowF wr g N ∧ Two wr w.heap.size 26 p q ∧ Two wr (w.heap.size + 1) 26 0 0 ∧ Below w.heap.size w wr) (fun v _ => K - (intOf v).toNat)
  case atStart => exact ⟨0, Nat.zero_le _, rfl, hrow, A2, A3, B1⟩
  case round =>
    clear hrow A2 A3 B1
    obtain ⟨k, hk, rfl, hrow, hf, hz, hB⟩ := hrel
    obtain ⟨f0, f1, _, _⟩ := hf.cells
    have lf := hf.lt
    have hkL : k ≤ L := Nat.le_trans hk HKK.out
    by_cases hlt : k < L
    · have hlt2 : k < len N := by rw [HL.out]; exact hlt
      obtain ⟨c0, c1⟩ := hrow.2 k hlt2
      obtain ⟨s1, s2⟩ := Hsm.out k hlt2
      have hc : lessF (p, q) (fr N k) = decide (K ≤ k) := by
        by_cases h : k < K
        · rw [decide_eq_false (by omega)]; exact HK.out.2.1 k h
        · rw [decide_eq_true (by omega)]
          obtain rfl : k = K := by omega
          exact HK.out.2.2 hlt2
      have hrK : k = K → r = (fr N k, 0) := fun e => by subst e; rw [Hnx.out, if_neg (by omega)]
      have HrK := Lib.hid hrK
      clear hrK
      generalize fr N k = x at c0 c1 s1 s2 hc HrK
      obtain ⟨x, y⟩ := x
      simp only at c0 c1 s1 s2
      have hLs := fun w => ref_less (a := p) (b := q) (c := x) (d := y) hp hq (by omega) (by omega) w
      rw [hc] at hLs
      have HLs := Lib.hid hLs
      have Hf := Lib.hid hf
      have Hz := Lib.hid hz
      have Hrow := Lib.hid hrow
      have HB := Lib.hid hB
      have hcond : (k : Int) < L := by omega
      have hgl := hrow.1
      clear hLs hf hz hrow hB hc
      go_wp2_with fail
      go_still_tail 10, (by kernel_rfl)
      change wpList _ _ _ _ _ wr.drew
      have Hf2 : Hid (Two wr.drew w.heap.size 26 p q) := Hf.out
      have Hz2 : Hid (Two wr.drew (w.heap.size + 1) 26 0 0) := Hz.out
      have Hrow2 : Hid (RowF wr.drew g N) := Hrow.out
      have HB2 : Hid (Below w.heap.size w wr.drew) := HB.out.drew
      have c02 : wr.drew.cell? ⟨g, k * 2, none⟩ = some (.int .i64 x) := c0
      have c12 : wr.drew.cell? ⟨g, k * 2 + 1, none⟩ = some (.int .i64 y) := c1
      have hgl2 : g < wr.drew.heap.size := hgl
      clear c0 c1 f0 f1 Hf Hz Hrow HB hgl lf
      generalize wr.drew = wx at *
      by_cases hkK : k < K
      · rw [decide_eq_false (by omega)] at HLs
        go_wp2_with (go_at_call 34; refine (HLs.out _).mono ?_; rintro e w5 ⟨rfl, b5⟩)
        go_roundw
        case rel => exact ⟨k + 1, hkK, rfl, Hrow2.out.below b5, Hf2.out.below b5, Hz2.out.below b5, b_next HB2.out b5⟩
        case measure => simp [intOf]; omega
      · rw [decide_eq_true (by omega)] at HLs
        obtain rfl : k = K := by omega
        have Hr2 := Lib.hid (HrK.out rfl)
        clear HrK
        have hkb : ((k : Int) == L) = false := by rw [beq_eq_false_iff_ne]; omega
        go_wp2_with (go_at_call 34; refine (HLs.out _).mono ?_; rintro e w5 ⟨rfl, b5⟩; have d0 := (b5.cell (p := ⟨g, k * 2, none⟩) hgl2).trans c02; have d1 := (b5.cell (p := ⟨g, k * 2 + 1, none⟩) hgl2).trans c12; have hz5 := Hz2.out.below b5; obtain ⟨_, _, z2, z3⟩ := hz5.cells; have lz := hz5.lt)
        have V0 := ((hz5.set0 (x : Int)).set1 (y : Int))
        obtain ⟨k0, k1, _, _⟩ := V0.cells
        have VB := (((b_next HB2.out b5).setCell (p := ⟨w.heap.size + 1, 0, none⟩) (by simp) (.int .i64 x)).setCell (p := ⟨w.heap.size + 1, 1, none⟩) (by simp) (.int .i64 y))
        exact bodyPost_ret (v := .tuple #[.agg #[.int .i64 x, .int .i64 y], .bool true]) (by simp [results, Try.results25, go_sem, k0, k1]) rfl ⟨by rw [Hr2.out, decide_eq_true hlt], VB⟩
    · obtain rfl : k = L := by omega
      obtain rfl : K = k := by have := HKK.out; omega
      have hcond : ¬ (K : Int) < K := by omega
      have HB := Lib.hid hB
      have hr : r = ((0, 0), 6) := by rw [Hnx.out, if_pos HL.out.symm]
      have hz5 := hz
      obtain ⟨_, _, z2, z3⟩ := hz5.cells
      have lz := hz5.lt
      have Hz := Lib.hid hz5
      have Hr := Lib.hid hr
      clear hB hz hz5 hr
      go_wp2_with fail
      go_quiet (fail)
      go_wp2_with fail
      have V0 := (((Hz.out.drewN nq).set0 (0 : Int)).set1 (0 : Int))
      obtain ⟨k0, k1, _, _⟩ := V0.cells
      have VB := (((below_drewN HB.out nq).setCell (p := ⟨w.heap.size + 1, 0, none⟩) (by simp) (.int .i64 0)).setCell (p := ⟨w.heap.size + 1, 1, none⟩) (by simp) (.int .i64 0))
      exact bodyPost_ret (v := .tuple #[.agg #[.int .i64 0, .int .i64 0], .bool false]) (by simp [results, Try.results25, go_sem, k0, k1]) rfl ⟨by rw [Hr.out, decide_eq_false (by omega)]; rfl, VB⟩

set_option maxRecDepth 100000 in
set_option maxHeartbeats 4000000 in
theorem refBefore_any (N p q K : Nat) (h1 : 1 ≤ N) (h3 : N ≤ 300) (hp : p ≤ 1000000) (hq : q ≤ 1000000) (hK : BelowSpec N (p, q) K) (w : World) :
    Calls Try.prog 26 #[.int .i64 N, .agg #[.int .i64 p, .int .i64 q]] w fun e w' => e = .returned (.tuple #[.agg #[.int .i64 (beforeR N K).1.1, .int .i64 (beforeR N K).1.2], .bool (decide (0 < K))]) ∧ Below w.heap.size w w' := by
  have HR := Lib.hid (fun w => refRow_at N h1 h3 w)
  have HBl := Lib.hid (fun w => refBelow_any N p q K h1 h3 hp hq hK w)
  have hL := len_le h1 h3
  have hKL := hK.1
  have A0 := (Two.new w 26 p q).alloc (.cells #[.int .i64 0, .int .i64 0] 26)
  have A1 := Two.new (w.alloc (.cells #[.int .i64 p, .int .i64 q] 26)) 26 0 0
  simp only [World.size_alloc] at A1
  have AB := b_next (below_alloc w (.cells #[.int .i64 p, .int .i64 q] 26)) (below_alloc _ (.cells #[.int .i64 0, .int .i64 0] 26))
  obtain ⟨f0, f1, _, _⟩ := A0.cells
  clear hK
  rcases Nat.eq_zero_or_pos K with hK0 | hK0
  · subst hK0
    go_enter Try.func26, Try.ntmps26
    go_wp2_with fail
    refine (HBl.out _).mono ?_
    rintro e w1 ⟨rfl, b1⟩
    have A3 := A1.below b1
    have B1 := b_next AB b1
    obtain ⟨_, _, z2, z3⟩ := A3.cells
    have lz := A3.lt
    have H3 := Lib.hid A3
    have HB := Lib.hid B1
    clear A0 A1 AB b1 A3 B1 f0 f1
    go_wp2_with fail
    have V0 := ((H3.out.set0 (0 : Int)).set1 (0 : Int))
    obtain ⟨k0, k1, _, _⟩ := V0.cells
    have VB := ((HB.out.setCell (p := ⟨w.heap.size + 1, 0, none⟩) (by simp) (.int .i64 0)).setCell (p := ⟨w.heap.size + 1, 1, none⟩) (by simp) (.int .i64 0))
    exact bodyPost_ret (v := .tuple #[.agg #[.int .i64 0, .int .i64 0], .bool false]) (by simp [results, Try.results26, go_sem, k0, k1]) rfl ⟨rfl, VB⟩
  · obtain ⟨j, rfl⟩ : ∃ j, K = j + 1 := ⟨K - 1, by omega⟩
    have hbr : beforeR N (j + 1) = (fr N j, 0) := by unfold beforeR; rw [if_neg (by omega)]; rfl
    rw [hbr]
    obtain ⟨⟨x, y⟩, hxy⟩ : ∃ z, fr N j = z := ⟨_, rfl⟩
    rw [hxy]
    have Hxy := Lib.hid hxy
    clear hbr hxy
    obtain ⟨L, hLe⟩ : ∃ L, len N = L := ⟨_, rfl⟩
    have HL := Lib.hid hLe
    rw [hLe] at hL hKL
    have hj0 : (((j + 1 : Nat) : Int) == 0) = false := by rw [beq_eq_false_iff_ne]; omega
    have hj1 : ((j + 1 : Nat) : Int) - 1 = j := by omega
    have hj2 : (j : Int) < L := by omega
    have hj3 : ((j : Int) + 1 == 0) = false := by rw [beq_eq_false_iff_ne]; omega
    clear hLe
    go_enter Try.func26, Try.ntmps26
    go_wp2_with fail
    refine (HBl.out _).mono ?_
    rintro e w1 ⟨rfl, b1⟩
    have A3 := A1.below b1
    have B1 := b_next AB b1
    have H3 := Lib.hid A3
    have HB := Lib.hid B1
    clear A0 A1 AB b1 A3 B1 f0 f1
    go_wp2_with fail
    refine (HR.out _).mono ?_
    rintro e w2 ⟨⟨g, cap, rfl, hrow, hgw⟩, b2⟩
    obtain ⟨c0, c1⟩ := hrow.2 j (by rw [HL.out]; omega)
    have H4 := Lib.hid (H3.out.below b2)
    have HB2 := Lib.hid (b_next HB.out b2)
    obtain ⟨_, _, z2, z3⟩ := H4.out.cells
    have lz := H4.out.lt
    rw [HL.out]
    rw [Hxy.out] at c0 c1
    simp only at c0 c1
    clear hrow b2 H3 HB hgw
    go_wp2_with fail
    have V0 := ((H4.out.set0 (x : Int)).set1 (y : Int))
    obtain ⟨k0, k1, _, _⟩ := V0.cells
    have VB := ((HB2.out.setCell (p := ⟨w.heap.size + 1, 0, none⟩) (by simp) (.int .i64 x)).setCell (p := ⟨w.heap.size + 1, 1, none⟩) (by simp) (.int .i64 y))
    exact bodyPost_ret (v := .tuple #[.agg #[.int .i64 x, .int .i64 y], .bool true]) (by simp [results, Try.results26, go_sem, k0, k1]) rfl ⟨by rw [decide_eq_true (by omega)], VB⟩
end Go.Proofs.Ytelipknnfagnjaa
