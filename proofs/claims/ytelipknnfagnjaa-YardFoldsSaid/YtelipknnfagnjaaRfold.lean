/- The reference's Listed and Fold. -/
import Derived.Test.YtelipknnfagnjaaBack
namespace Go.Proofs.Ytelipknnfagnjaa
set_option linter.unusedVariables false
open Go.RowKit Go.Shelf

theorem last_gt {x : Int} (h : 1 ≤ x) : (!(x == 1)) = decide (1 < x) := by
  by_cases hx : x = 1
  · subst hx; rfl
  · have : 1 < x := by omega
    simp [hx, this]
set_option maxRecDepth 100000 in
set_option maxHeartbeats 1000000 in
theorem refListed_any (a : Option Addr) (m cap : Nat) (xs : List Int) (w : World) (hr : Row w a m (intL xs)) (hm : m ≤ 1000) :
    Calls Try.prog 44 #[.slice a m cap] w fun e w' => e = .returned (.bool (quotB xs)) ∧ w' = w := by
  have hx : xs.length = m := by have := hr.1; simpa [intL] using this
  have Hx := Lib.hid hx
  have Hr := Lib.hid hr
  clear hx hr
  go_enter Try.func44, Try.ntmps44
  go_wp2
  go_loopw [3] (fun i wr => ∃ k : Nat, k ≤ m ∧ i = .int .i64 k ∧ Hid ((xs.take k).all qOk = true) ∧ wr = w) (fun i _ => m - (intOf i).toNat)
  case atStart => exact ⟨0, Nat.zero_le _, rfl, rfl, rfl⟩
  case round =>
    obtain ⟨k, hk, rfl, HP, rfl⟩ := hrel
    by_cases hlt : k < m
    · have hc : (k : Int) < m := by omega
      obtain ⟨x, hxk⟩ : ∃ x, xs[k]? = some x := ⟨_, List.getElem?_eq_getElem (by have := Hx.out; omega)⟩
      obtain ⟨g, rfl, _, hg⟩ := Hr.out.2 (by omega)
      have c1 := hg k (.int .i64 x) (intL_get hxk)
      by_cases hx1 : x < 1
      · have hq := quot_no hxk (by omega)
        have Hq := Lib.hid hq
        clear hq hg hxk
        go_wp2
        go_ret
        exact ⟨ret_bool Hq.out.symm, rfl⟩
      · by_cases hx2 : 1000000 < x
        · have hq := quot_no hxk (by omega)
          have Hq := Lib.hid hq
          clear hq hg hxk
          go_wp2
          go_ret
          exact ⟨ret_bool Hq.out.symm, rfl⟩
        · have HP2 := Lib.hid (all_step hxk (by omega) (by omega) HP.out)
          clear hg hxk
          go_wp2
          go_roundw
          case rel => exact ⟨k + 1, by omega, rfl, HP2, trivial⟩
          case measure => simp [intOf]; omega
    · obtain rfl : k = m := by omega
      by_cases h40 : k ≤ 40
      · have h40' : (k : Int) ≤ 40 := by omega
        have hqy := quot_yes (xs := xs) (by have := Hx.out; omega) (by rw [Hx.out]; exact HP.out)
        rw [Hx.out] at hqy
        by_cases h2 : k < 2
        · have h2' : (k : Int) < 2 := by omega
          rw [decide_eq_true h2, Bool.true_or] at hqy
          have Hq := Lib.hid hqy
          clear hqy
          go_wp2
          go_ret
          exact ⟨ret_bool (by rw [Hq.out]; try (first | rfl | (simp <;> omega))), rfl⟩
        · obtain ⟨j, rfl⟩ : ∃ j, k = j + 1 := ⟨k - 1, by omega⟩
          obtain ⟨g, rfl, hg⟩ := Hr.out.int (show j < j + 1 by omega)
          have hall := HP.out
          rw [List.all_eq_true] at hall
          have hx1 : 1 ≤ xs.getD j 0 := by
            have hjl : j < xs.length := by have := Hx.out; omega
            have := hall xs[j] (by rw [List.take_of_length_le (by have := Hx.out; omega)]; exact List.getElem_mem hjl)
            unfold qOk at this
            rw [List.getD_eq_getElem?_getD, List.getElem?_eq_getElem hjl]
            simp at this ⊢
            omega
          have h2' : ¬ ((j : Int) + 1) < 2 := by omega
          have h2'' : ¬ ((j + 1 : Nat) : Int) < 2 := by omega
          rw [decide_eq_false h2, Bool.false_or, Nat.add_sub_cancel] at hqy
          generalize xs.getD j 0 = x at hqy hg hx1
          rw [last_gt hx1] at hqy
          have hj : ((j + 1 : Nat) : Int) - 1 = j := by omega
          have Hq := Lib.hid hqy
          clear hqy hall
          by_cases hx : 1 < x
          · go_wp2
            go_ret
            exact ⟨ret_bool (by rw [Hq.out, decide_eq_true (show 1 < x by omega)]; try (first | rfl | (simp <;> omega))), rfl⟩
          · go_wp2
            go_ret
            exact ⟨ret_bool (by rw [Hq.out, decide_eq_false (show ¬ 1 < x by omega)]; try (first | rfl | (simp <;> omega))), rfl⟩
      · have h40' : ¬ (k : Int) ≤ 40 := by omega
        have hq : quotB xs = false := by unfold quotB; rw [Hx.out, decide_eq_false h40]; rfl
        have Hq := Lib.hid hq
        clear hq
        go_wp2
        go_ret
        exact ⟨ret_bool (by rw [Hq.out]; try (first | rfl | (simp <;> omega))), rfl⟩

def refFoldR (l : List Int) : (Nat × Nat) × Bool := match foldP (natL l) with | some f => (f, true) | none => ((0, 0), false)
set_option maxRecDepth 100000 in
set_option maxHeartbeats 4000000 in
theorem refFold_any (a : Option Addr) (m cap : Nat) (xs : List Int) (w : World) (hr : Row w a m (intL xs)) (hm : m ≤ 1000) (hq : quotB xs = true) :
    Calls Try.prog 45 #[.slice a m cap] w fun e w' => e = .returned (.tuple #[.agg #[.int .i64 (refFoldR xs).1.1, .int .i64 (refFoldR xs).1.2], .bool (refFoldR xs).2]) ∧ Below w.heap.size w w' := by
  have hx : xs.length = m := by have := hr.1; simpa [intL] using this
  have hpos := quot_pos hq
  have Hx := Lib.hid hx
  have Hr := Lib.hid hr
  have Hq := Lib.hid hq
  have Hp := Lib.hid hpos
  have hgw : ∀ g, a = some ⟨g, 0, none⟩ → 0 < m → g < w.heap.size := fun g hg h0 => by obtain ⟨g', h1, h2, _⟩ := hr.2 h0; rw [hg] at h1; cases h1; exact h2
  have Hg := Lib.hid hgw
  clear hx hr hq hpos hgw
  go_enter Try.func45, Try.ntmps45
  have A0 := (Two.new w 26 0 0).alloc (.cells #[.int .i64 0, .int .i64 1] 26)
  have A1 := Two.new (w.alloc (.cells #[.int .i64 0, .int .i64 0] 26)) 26 0 1
  simp only [World.size_alloc] at A1
  have AB := b_next (below_alloc w (.cells #[.int .i64 0, .int .i64 0] 26)) (below_alloc _ (.cells #[.int .i64 0, .int .i64 1] 26))
  go_wp2
  go_loopw [5] (fun v wr => ∃ (j : Nat) (i : Int) (f : Nat × Nat), v = .int .i64 i ∧ i + 1 + j = m ∧ j ≤ m ∧ Hid (foldP ((natL xs).drop (m - j)) = some f) ∧ Two wr w.heap.size 26 0 0 ∧ Two wr (w.heap.size + 1) 26 f.1 f.2 ∧ Below w.heap.size w wr) (fun v _ => (intOf v + 1).toNat)
  case atStart => exact ⟨0, _, (0, 1), rfl, by omega, by omega, by unfold Hid; rw [List.drop_eq_nil_of_le (by rw [natL_length]; have := Hx.out; omega)]; rfl, A0, A1, AB⟩
  case round =>
    clear A0 A1 AB
    obtain ⟨j, i, f, rfl, hij, hj, HF, hr, hf, hB⟩ := hrel
    have hd : ∀ q ∈ (natL xs).drop (m - j), 1 ≤ q := fun q hq => Hp.out q (List.mem_of_mem_drop hq)
    obtain ⟨s1, s2, s3⟩ := foldP_small hd HF.out
    clear hd
    by_cases hlj : j < m
    · obtain ⟨k, rfl⟩ := Int.eq_ofNat_of_zero_le (show 0 ≤ i by omega)
      have hk : k + 1 + j = m := by omega
      have hkm : k < m := by omega
      obtain ⟨q, hq1, hq2, hq3, hq4⟩ := quot_get Hq.out (k := k) (by have := Hx.out; omega)
      obtain ⟨g, rfl, _, hg⟩ := Hr.out.2 (by omega)
      have hgl := Hg.out g rfl (by omega)
      have c1 : wr.cell? ⟨g, k, none⟩ = some (.int .i64 (q : Int)) := (hB.cell (p := ⟨g, k, none⟩) hgl).trans (hg k _ (intL_get hq1))
      have hF := HF.out
      rw [show m - j = k + 1 by omega] at hF
      have hS : foldP ((natL xs).drop k) = foldS q (some f) := by rw [foldP_drop hq2, hF]
      obtain ⟨x, y⟩ := f
      simp only at s1 s2 s3 hf
      obtain ⟨mq, hmq⟩ : ∃ z, q * y = z := ⟨_, rfl⟩
      obtain ⟨d, hdd⟩ : ∃ z, mq + x = z := ⟨_, rfl⟩
      have hle : mq ≤ 1000000 * 1000000 := by rw [← hmq]; exact Nat.mul_le_mul hq4 s3
      have i1 : IntKind.i64.wrap ((q : Int) * y) = mq := imul hmq (by omega)
      have i2 : IntKind.i64.wrap ((mq : Int) + x) = d := iadd hdd (by omega)
      have hS2 : foldS q (some (x, y)) = if d > 1000000 then none else some (y, d) := by unfold foldS fold1; simp only [Option.bind_some]; rw [hmq, hdd]
      rw [hS2] at hS
      have h01 : (0 : Int) ≤ (k : Int) := by omega
      have hkm1 : (k : Int) < m := by omega
      obtain ⟨f0, f1, f2, f3⟩ := hf.cells
      obtain ⟨r0, r1, r2, r3⟩ := hr.cells
      have Hf := Lib.hid hf
      have Hr2 := Lib.hid hr
      have HB := Lib.hid hB
      have HS := Lib.hid hS
      have hbs := hB.size
      have hls := hf.lt
      clear hF hS2 hS hf hr hB HF hq1 hq2 hg hmq hdd hle
      go_wp2
      go_region
      have T1 := (((Hf.out.set0 (y : Int)).set1 (d : Int)))
      have T0 := ((Hr2.out.far (B' := w.heap.size + 1) (o := 0) (v := .int .i64 (y : Int)) (by omega)).far (B' := w.heap.size + 1) (o := 1) (v := .int .i64 (d : Int)) (by omega))
      have TB := ((HB.out.setCell (p := ⟨w.heap.size + 1, 0, none⟩) (by simp) (.int .i64 (y : Int))).setCell (p := ⟨w.heap.size + 1, 1, none⟩) (by simp) (.int .i64 (d : Int)))
      obtain ⟨wx, hwx⟩ : ∃ wx, ((wr.setCell ⟨w.heap.size + 1, 0, none⟩ (.int .i64 (y : Int))).setCell ⟨w.heap.size + 1, 1, none⟩ (.int .i64 (d : Int))).drew = wx := ⟨_, rfl⟩
      have U1 : Hid (Two wx (w.heap.size + 1) 26 y d) := by rw [← hwx]; exact T1
      have U0 : Hid (Two wx w.heap.size 26 0 0) := by rw [← hwx]; exact T0
      have UB : Hid (Below w.heap.size w wx) := by rw [← hwx]; exact TB.drew
      rw [hwx]
      clear hwx T1 T0 TB f0 f1 f2 f3 r0 r1 r2 r3 Hf Hr2 HB c1 hbs hls
      obtain ⟨f0, f1, f2, f3⟩ := U1.out.cells
      obtain ⟨r0, r1, r2, r3⟩ := U0.out.cells
      have hls := U1.out.lt
      have hls2 := U0.out.lt
      by_cases hbig : 1000000 < d
      · have hR : refFoldR xs = ((0, 0), false) := by
          have hn := HS.out
          rw [if_pos hbig] at hn
          unfold refFoldR; rw [foldP_none_drop hn]
        have HR := Lib.hid hR
        have hbig' : (1000000 : Int) < d := by omega
        clear hR
        go_wp2
        have V0 := ((U0.out.set0 (0 : Int)).set1 (0 : Int))
        have VB := ((UB.out.setCell (p := ⟨w.heap.size, 0, none⟩) (by simp) (.int .i64 0)).setCell (p := ⟨w.heap.size, 1, none⟩) (by simp) (.int .i64 0))
        obtain ⟨k0, k1, _, _⟩ := V0.cells
        exact bodyPost_ret (v := .tuple #[.agg #[.int .i64 0, .int .i64 0], .bool false]) (by simp [results, Try.results45, go_sem, k0, k1]) rfl ⟨by rw [HR.out]; rfl, VB⟩
      · have hbig' : ¬ (1000000 : Int) < d := by omega
        have hn := HS.out
        rw [if_neg hbig] at hn
        have HN := Lib.hid hn
        clear hn
        go_wp2
        go_roundw
        case rel => exact ⟨j + 1, (k : Int) - 1, (y, d), rfl, by omega, hlj, by unfold Hid; rw [show m - (j + 1) = k by omega]; exact HN.out, U0.out, U1.out, UB.out⟩
        case measure => simp [intOf]
    · obtain rfl : j = m := by omega
      obtain rfl : i = -1 := by omega
      have hF := HF.out
      rw [Nat.sub_self, List.drop_zero] at hF
      have hR : refFoldR xs = (f, true) := by unfold refFoldR; rw [hF]
      obtain ⟨f0, f1, f2, f3⟩ := hf.cells
      obtain ⟨r0, r1, r2, r3⟩ := hr.cells
      have hl := hr.lt
      have HR := Lib.hid hR
      have Hr2 := Lib.hid hr
      have HB := Lib.hid hB
      clear hF hR hf hr hB HF
      go_wp2
      have T0 := ((Hr2.out.set0 (f.1 : Int)).set1 (f.2 : Int))
      obtain ⟨k0, k1, _, _⟩ := T0.cells
      have VB := ((HB.out.setCell (p := ⟨w.heap.size, 0, none⟩) (by simp) (.int .i64 (f.1 : Int))).setCell (p := ⟨w.heap.size, 1, none⟩) (by simp) (.int .i64 (f.2 : Int)))
      exact bodyPost_ret (v := .tuple #[.agg #[.int .i64 f.1, .int .i64 f.2], .bool true]) (by simp [results, Try.results45, go_sem, k0, k1]) rfl ⟨by rw [HR.out], VB⟩
end Go.Proofs.Ytelipknnfagnjaa
