/- YardFolds: for any list, Fold returns the fraction with these quotients, or the specified error. Conditions: none. -/
import Derived.Test.YtelipknnfagnjaaAwake
import Derived.Test.YtelipknnfagnjaaFold
import Derived.Test.YtelipknnfagnjaaRfold
import Derived.ProofKit
import Derived.OpenShut
import Derived.ShutString
import Derived.ChangeOld
import Derived.ChangeSlices
import Derived.Lib.SmallJoins
namespace Go.Proofs.Ytelipknnfagnjaa
set_option linter.unusedVariables false
open Go.RowKit Go.Shelf

/-- a list of ints that came in -/
def IsInts (w : World) (a : Option Addr) (len cap : Nat) (zs : List Int) : Prop :=
  (a = none ∧ len = 0 ∧ cap = 0 ∧ zs = []) ∨
  ∃ x, a = some x ∧ len ≤ cap ∧ cap ≤ maxLen ∧ zs.length = cap ∧ (∀ i, i < zs.length → w.cell? (x.add i) = some (.int .i64 (zs.getD i 0))) ∧ ∀ n ∈ zs, (Lit.int .i64 n).wf = true

set_option maxRecDepth 100000 in
set_option maxHeartbeats 4000000 in
theorem yfo_no (a : Option Addr) (len cap k : Nat) (zs xs : List Int) (W : World) (hk : min len 45 = k) (hxs : zs.take k = xs) (hq : quotB xs = false) (h : IsInts W a len cap zs) :
    Calls Try.prog 7 #[.slice a len cap] W fun e W' => e = .returned (.bool true) ∧ Below W.heap.size W W' := by
  obtain ⟨i0, hi, hz0, hz1, hz2⟩ := info_parts info_int
  have hR : foldR xs = ((0, 0), 2) := by unfold foldR; rw [hq]; rfl
  have hfo : ∀ (a : Option Addr) (cap : Nat) (w : World), Row w a k (intL xs) → Calls Try.prog 43 #[.slice a k cap] w fun e w' => e = .returned (.tuple #[.agg #[.int .i64 0, .int .i64 0], .int .i64 2]) ∧ Below w.heap.size w w' := fun a cap w hr => by
    have := Fold_any a k cap xs w hr (by omega)
    rw [hR] at this; exact this
  have hli : ∀ (a : Option Addr) (cap : Nat) (w : World), Row w a k (intL xs) → Calls Try.prog 44 #[.slice a k cap] w fun e w' => e = .returned (.bool false) ∧ w' = w := fun a cap w hr => by
    have := refListed_any a k cap xs w hr (by omega)
    rw [hq] at this; exact this
  have HW := Lib.hid awake_any
  have HFo0 := Lib.hid hfo
  have HLi0 := Lib.hid hli
  clear hfo hli hR hq
  go_enter Try.func7, Try.ntmps7
  rcases h with ⟨rfl, rfl, rfl, rfl⟩ | ⟨ad, rfl, hl, hm, hz, hc, hwf⟩
  · obtain rfl : k = 0 := by omega
    have hmin : min (0 : Int) 45 = 0 := by decide
    obtain rfl : xs = [] := by rw [← hxs]; rfl
    have HRow : Hid (Row W none 0 (intL [])) := ⟨rfl, fun h => absurd h (by omega)⟩
    have HB0 := Lib.hid (Below.refl W.heap.size W)
    have HB := Lib.hid (Below.refl W.heap.size W)
    have HFo := Lib.hid (HFo0.out none 0)
    have HLi := Lib.hid (HLi0.out none 0)
    clear HFo0 HLi0 hk hxs
    go_wp2_with fail
    refine (HFo.out _ (HRow.out.below HB.out)).mono ?_
    rintro e w2 ⟨rfl, b2⟩
    have HB' := Lib.hid (b_next HB.out b2)
    clear b2 HB  
    have HB := HB'
    clear HB'
    have HB' := Lib.hid (b_next HB.out (below_alloc w2 (.cells #[.int .i64 0, .int .i64 0] 26)))
    clear HB  
    have HB := HB'
    clear HB'
    have Hf := Lib.hid (Two.new w2 26 0 0)
    obtain ⟨f0, f1, _, _⟩ := Hf.out.cells
    have lf := Hf.out.lt
    go_wp2_with fail
    refine (HLi.out _ (HRow.out.below HB.out)).mono ?_
    rintro e w3 ⟨rfl, rfl⟩
    go_wp2_with fail
    refine (HW.out _).mono ?_
    rintro e w4 ⟨rfl, b4⟩
    have Hf' := Lib.hid (Hf.out.below b4)
    have HB' := Lib.hid (b_next HB.out b4)
    clear b4 HB Hf f0 f1 lf
    have Hf := Hf'
    clear Hf'
    have HB := HB'
    clear HB'
    obtain ⟨f0, f1, _, _⟩ := Hf.out.cells
    have lf := Hf.out.lt
    go_wp2_with fail
    go_ret
    exact ⟨rfl, b_next HB0.out HB.out⟩
  · have hk1 : min (len : Int) 45 = k := by omega
    have hk2 : k ≤ len := by omega
    have hk3 : k ≤ 45 := by omega
    have hnews : ∀ j u, (intL xs)[j]? = some u → W.cell? (ad.add j) = some u := by
      intro j u hj
      obtain ⟨hj1, _⟩ := List.getElem?_eq_some_iff.1 hj
      have hj2 : j < k := by rw [intL_length, ← hxs, List.length_take] at hj1; omega
      have hj3 : j < zs.length := by rw [hz]; omega
      rw [hc j hj3]
      unfold intL at hj
      rw [← hxs, List.getElem?_map, List.getElem?_take_of_lt hj2, List.getElem?_eq_getElem hj3] at hj
      simp only [Option.map_some, Option.some.injEq] at hj
      rw [← hj, List.getD_eq_getElem?_getD, List.getElem?_eq_getElem hj3]; rfl
    have hlen : (intL xs).length = k * 1 := by rw [intL_length, ← hxs, List.length_take]; omega
    have hone : ∀ u ∈ intL xs, u.oneCell' = true := by
      intro u hu
      obtain ⟨x, _, rfl⟩ := List.mem_map.1 hu
      simp [Value.oneCell']
    go_wp2_with (at_builtin; refine wpList_append_own _ rfl _ _ 54 rfl W.heap.size 3 i0 (.int .i64 0) 1 8 Try.underlying54 hi hz0 hz1 hz2 rfl (by decide) _ _ _ rfl (World.ownsRow_nil _ _ _ _) ad k cap _ rfl hlen hnews hone (by unfold maxLen; omega) (by omega) (Nat.le_refl _) ?_)
    intro v1 w1 hown hgrow _
    obtain ⟨a1, c1, rfl, hrow⟩ := Row.of_own hown
    have HRow := Lib.hid hrow
    have HB0 : Hid (Below W.heap.size W w1) := ⟨hgrow.os, hgrow.tape, hgrow.output, hgrow.size, fun k hk => hgrow.block k hk (by simp [Value.ownBlock])⟩
    have HB := Lib.hid (Below.refl w1.heap.size w1)
    have HFo := Lib.hid (HFo0.out a1 c1)
    have HLi := Lib.hid (HLi0.out a1 c1)
    clear HFo0 HLi0 hown hgrow hrow hnews hlen hone hc hwf hz
    go_wp2_with fail
    refine (HFo.out _ (HRow.out.below HB.out)).mono ?_
    rintro e w2 ⟨rfl, b2⟩
    have HB' := Lib.hid (b_next HB.out b2)
    clear b2 HB  
    have HB := HB'
    clear HB'
    have HB' := Lib.hid (b_next HB.out (below_alloc w2 (.cells #[.int .i64 0, .int .i64 0] 26)))
    clear HB  
    have HB := HB'
    clear HB'
    have Hf := Lib.hid (Two.new w2 26 0 0)
    obtain ⟨f0, f1, _, _⟩ := Hf.out.cells
    have lf := Hf.out.lt
    go_wp2_with fail
    refine (HLi.out _ (HRow.out.below HB.out)).mono ?_
    rintro e w3 ⟨rfl, rfl⟩
    go_wp2_with fail
    refine (HW.out _).mono ?_
    rintro e w4 ⟨rfl, b4⟩
    have Hf' := Lib.hid (Hf.out.below b4)
    have HB' := Lib.hid (b_next HB.out b4)
    clear b4 HB Hf f0 f1 lf
    have Hf := Hf'
    clear Hf'
    have HB := HB'
    clear HB'
    obtain ⟨f0, f1, _, _⟩ := Hf.out.cells
    have lf := Hf.out.lt
    go_wp2_with fail
    go_ret
    exact ⟨rfl, b_next HB0.out HB.out⟩
set_option maxRecDepth 100000 in
set_option maxHeartbeats 4000000 in
theorem yfo_none (a : Option Addr) (len cap k : Nat) (zs xs : List Int) (W : World) (hk : min len 45 = k) (hxs : zs.take k = xs) (hq : quotB xs = true) (hf : foldP (natL xs) = none) (h : IsInts W a len cap zs) :
    Calls Try.prog 7 #[.slice a len cap] W fun e W' => e = .returned (.bool true) ∧ Below W.heap.size W W' := by
  obtain ⟨i0, hi, hz0, hz1, hz2⟩ := info_parts info_int
  have hR : foldR xs = ((0, 0), 5) := by unfold foldR; rw [hq, hf]; rfl
  have hfo : ∀ (a : Option Addr) (cap : Nat) (w : World), Row w a k (intL xs) → Calls Try.prog 43 #[.slice a k cap] w fun e w' => e = .returned (.tuple #[.agg #[.int .i64 0, .int .i64 0], .int .i64 5]) ∧ Below w.heap.size w w' := fun a cap w hr => by
    have := Fold_any a k cap xs w hr (by omega)
    rw [hR] at this; exact this
  have hli : ∀ (a : Option Addr) (cap : Nat) (w : World), Row w a k (intL xs) → Calls Try.prog 44 #[.slice a k cap] w fun e w' => e = .returned (.bool true) ∧ w' = w := fun a cap w hr => by
    have := refListed_any a k cap xs w hr (by omega)
    rw [hq] at this; exact this
  have hrf : ∀ (a : Option Addr) (cap : Nat) (w : World), Row w a k (intL xs) → Calls Try.prog 45 #[.slice a k cap] w fun e w' => e = .returned (.tuple #[.agg #[.int .i64 0, .int .i64 0], .bool false]) ∧ Below w.heap.size w w' := fun a cap w hr => by
    have := refFold_any a k cap xs w hr (by omega) hq
    rw [show refFoldR xs = ((0, 0), false) from by unfold refFoldR; rw [hf]] at this; exact this
  have HW := Lib.hid awake_any
  have HFo0 := Lib.hid hfo
  have HLi0 := Lib.hid hli
  have HRf0 := Lib.hid hrf
  clear hfo hli hR hq hrf hf
  go_enter Try.func7, Try.ntmps7
  rcases h with ⟨rfl, rfl, rfl, rfl⟩ | ⟨ad, rfl, hl, hm, hz, hc, hwf⟩
  · obtain rfl : k = 0 := by omega
    have hmin : min (0 : Int) 45 = 0 := by decide
    obtain rfl : xs = [] := by rw [← hxs]; rfl
    have HRow : Hid (Row W none 0 (intL [])) := ⟨rfl, fun h => absurd h (by omega)⟩
    have HB0 := Lib.hid (Below.refl W.heap.size W)
    have HB := Lib.hid (Below.refl W.heap.size W)
    have HFo := Lib.hid (HFo0.out none 0)
    have HLi := Lib.hid (HLi0.out none 0)
    have HRf := Lib.hid (HRf0.out none 0)
    clear HFo0 HLi0 HRf0 hk hxs
    go_wp2_with fail
    refine (HFo.out _ (HRow.out.below HB.out)).mono ?_
    rintro e w2 ⟨rfl, b2⟩
    have HB' := Lib.hid (b_next HB.out b2)
    clear b2 HB  
    have HB := HB'
    clear HB'
    have HB' := Lib.hid (b_next HB.out (below_alloc w2 (.cells #[.int .i64 0, .int .i64 0] 26)))
    clear HB  
    have HB := HB'
    clear HB'
    have Hf := Lib.hid (Two.new w2 26 0 0)
    obtain ⟨f0, f1, _, _⟩ := Hf.out.cells
    have lf := Hf.out.lt
    go_wp2_with fail
    refine (HLi.out _ (HRow.out.below HB.out)).mono ?_
    rintro e w3 ⟨rfl, rfl⟩
    go_wp2_with fail
    refine (HRf.out _ (HRow.out.below HB.out)).mono ?_
    rintro e w4 ⟨rfl, b4⟩
    have Hf' := Lib.hid (Hf.out.below b4)
    have HB' := Lib.hid (b_next HB.out b4)
    clear b4 HB Hf f0 f1 lf
    have Hf := Hf'
    clear Hf'
    have HB := HB'
    clear HB'
    obtain ⟨f0, f1, _, _⟩ := Hf.out.cells
    have lf := Hf.out.lt
    have Hf' := Lib.hid (Hf.out.below (below_alloc w4 (.cells #[.int .i64 0, .int .i64 0] 26)))
    have HB' := Lib.hid (b_next HB.out (below_alloc w4 (.cells #[.int .i64 0, .int .i64 0] 26)))
    clear HB Hf f0 f1 lf
    have Hf := Hf'
    clear Hf'
    have HB := HB'
    clear HB'
    have Hg := Lib.hid (Two.new w4 26 0 0)
    obtain ⟨f0, f1, _, _⟩ := Hf.out.cells
    have lf := Hf.out.lt
    obtain ⟨g0, g1, _, _⟩ := Hg.out.cells
    have lg := Hg.out.lt
    go_wp2_with fail
    refine (HW.out _).mono ?_
    rintro e w5 ⟨rfl, b5⟩
    have Hf' := Lib.hid (Hf.out.below b5)
    have Hg' := Lib.hid (Hg.out.below b5)
    have HB' := Lib.hid (b_next HB.out b5)
    clear b5 HB Hf Hg f0 f1 lf g0 g1 lg
    have Hf := Hf'
    clear Hf'
    have Hg := Hg'
    clear Hg'
    have HB := HB'
    clear HB'
    obtain ⟨f0, f1, _, _⟩ := Hf.out.cells
    have lf := Hf.out.lt
    obtain ⟨g0, g1, _, _⟩ := Hg.out.cells
    have lg := Hg.out.lt
    go_wp2_with fail
    go_ret
    exact ⟨rfl, b_next HB0.out HB.out⟩
  · have hk1 : min (len : Int) 45 = k := by omega
    have hk2 : k ≤ len := by omega
    have hk3 : k ≤ 45 := by omega
    have hnews : ∀ j u, (intL xs)[j]? = some u → W.cell? (ad.add j) = some u := by
      intro j u hj
      obtain ⟨hj1, _⟩ := List.getElem?_eq_some_iff.1 hj
      have hj2 : j < k := by rw [intL_length, ← hxs, List.length_take] at hj1; omega
      have hj3 : j < zs.length := by rw [hz]; omega
      rw [hc j hj3]
      unfold intL at hj
      rw [← hxs, List.getElem?_map, List.getElem?_take_of_lt hj2, List.getElem?_eq_getElem hj3] at hj
      simp only [Option.map_some, Option.some.injEq] at hj
      rw [← hj, List.getD_eq_getElem?_getD, List.getElem?_eq_getElem hj3]; rfl
    have hlen : (intL xs).length = k * 1 := by rw [intL_length, ← hxs, List.length_take]; omega
    have hone : ∀ u ∈ intL xs, u.oneCell' = true := by
      intro u hu
      obtain ⟨x, _, rfl⟩ := List.mem_map.1 hu
      simp [Value.oneCell']
    go_wp2_with (at_builtin; refine wpList_append_own _ rfl _ _ 54 rfl W.heap.size 3 i0 (.int .i64 0) 1 8 Try.underlying54 hi hz0 hz1 hz2 rfl (by decide) _ _ _ rfl (World.ownsRow_nil _ _ _ _) ad k cap _ rfl hlen hnews hone (by unfold maxLen; omega) (by omega) (Nat.le_refl _) ?_)
    intro v1 w1 hown hgrow _
    obtain ⟨a1, c1, rfl, hrow⟩ := Row.of_own hown
    have HRow := Lib.hid hrow
    have HB0 : Hid (Below W.heap.size W w1) := ⟨hgrow.os, hgrow.tape, hgrow.output, hgrow.size, fun k hk => hgrow.block k hk (by simp [Value.ownBlock])⟩
    have HB := Lib.hid (Below.refl w1.heap.size w1)
    have HFo := Lib.hid (HFo0.out a1 c1)
    have HLi := Lib.hid (HLi0.out a1 c1)
    have HRf := Lib.hid (HRf0.out a1 c1)
    clear HFo0 HLi0 HRf0 hown hgrow hrow hnews hlen hone hc hwf hz
    go_wp2_with fail
    refine (HFo.out _ (HRow.out.below HB.out)).mono ?_
    rintro e w2 ⟨rfl, b2⟩
    have HB' := Lib.hid (b_next HB.out b2)
    clear b2 HB  
    have HB := HB'
    clear HB'
    have HB' := Lib.hid (b_next HB.out (below_alloc w2 (.cells #[.int .i64 0, .int .i64 0] 26)))
    clear HB  
    have HB := HB'
    clear HB'
    have Hf := Lib.hid (Two.new w2 26 0 0)
    obtain ⟨f0, f1, _, _⟩ := Hf.out.cells
    have lf := Hf.out.lt
    go_wp2_with fail
    refine (HLi.out _ (HRow.out.below HB.out)).mono ?_
    rintro e w3 ⟨rfl, rfl⟩
    go_wp2_with fail
    refine (HRf.out _ (HRow.out.below HB.out)).mono ?_
    rintro e w4 ⟨rfl, b4⟩
    have Hf' := Lib.hid (Hf.out.below b4)
    have HB' := Lib.hid (b_next HB.out b4)
    clear b4 HB Hf f0 f1 lf
    have Hf := Hf'
    clear Hf'
    have HB := HB'
    clear HB'
    obtain ⟨f0, f1, _, _⟩ := Hf.out.cells
    have lf := Hf.out.lt
    have Hf' := Lib.hid (Hf.out.below (below_alloc w4 (.cells #[.int .i64 0, .int .i64 0] 26)))
    have HB' := Lib.hid (b_next HB.out (below_alloc w4 (.cells #[.int .i64 0, .int .i64 0] 26)))
    clear HB Hf f0 f1 lf
    have Hf := Hf'
    clear Hf'
    have HB := HB'
    clear HB'
    have Hg := Lib.hid (Two.new w4 26 0 0)
    obtain ⟨f0, f1, _, _⟩ := Hf.out.cells
    have lf := Hf.out.lt
    obtain ⟨g0, g1, _, _⟩ := Hg.out.cells
    have lg := Hg.out.lt
    go_wp2_with fail
    refine (HW.out _).mono ?_
    rintro e w5 ⟨rfl, b5⟩
    have Hf' := Lib.hid (Hf.out.below b5)
    have Hg' := Lib.hid (Hg.out.below b5)
    have HB' := Lib.hid (b_next HB.out b5)
    clear b5 HB Hf Hg f0 f1 lf g0 g1 lg
    have Hf := Hf'
    clear Hf'
    have Hg := Hg'
    clear Hg'
    have HB := HB'
    clear HB'
    obtain ⟨f0, f1, _, _⟩ := Hf.out.cells
    have lf := Hf.out.lt
    obtain ⟨g0, g1, _, _⟩ := Hg.out.cells
    have lg := Hg.out.lt
    go_wp2_with fail
    go_ret
    exact ⟨rfl, b_next HB0.out HB.out⟩
set_option maxRecDepth 100000 in
set_option maxHeartbeats 4000000 in
theorem yfo_some (a : Option Addr) (len cap k : Nat) (zs xs : List Int) (W : World) (hk : min len 45 = k) (hxs : zs.take k = xs) (x y : Nat) (hq : quotB xs = true) (hf : foldP (natL xs) = some (x, y)) (h : IsInts W a len cap zs) :
    Calls Try.prog 7 #[.slice a len cap] W fun e W' => e = .returned (.bool true) ∧ Below W.heap.size W W' := by
  obtain ⟨i0, hi, hz0, hz1, hz2⟩ := info_parts info_int
  have hR : foldR xs = ((x, y), 0) := by unfold foldR; rw [hq, hf]; rfl
  have hfo : ∀ (a : Option Addr) (cap : Nat) (w : World), Row w a k (intL xs) → Calls Try.prog 43 #[.slice a k cap] w fun e w' => e = .returned (.tuple #[.agg #[.int .i64 x, .int .i64 y], .int .i64 0]) ∧ Below w.heap.size w w' := fun a cap w hr => by
    have := Fold_any a k cap xs w hr (by omega)
    rw [hR] at this; exact this
  have hli : ∀ (a : Option Addr) (cap : Nat) (w : World), Row w a k (intL xs) → Calls Try.prog 44 #[.slice a k cap] w fun e w' => e = .returned (.bool true) ∧ w' = w := fun a cap w hr => by
    have := refListed_any a k cap xs w hr (by omega)
    rw [hq] at this; exact this
  have hrf : ∀ (a : Option Addr) (cap : Nat) (w : World), Row w a k (intL xs) → Calls Try.prog 45 #[.slice a k cap] w fun e w' => e = .returned (.tuple #[.agg #[.int .i64 x, .int .i64 y], .bool true]) ∧ Below w.heap.size w w' := fun a cap w hr => by
    have := refFold_any a k cap xs w hr (by omega) hq
    rw [show refFoldR xs = ((x, y), true) from by unfold refFoldR; rw [hf]] at this; exact this
  have HW := Lib.hid awake_any
  have HFo0 := Lib.hid hfo
  have HLi0 := Lib.hid hli
  have HRf0 := Lib.hid hrf
  clear hfo hli hR hq hrf hf
  go_enter Try.func7, Try.ntmps7
  rcases h with ⟨rfl, rfl, rfl, rfl⟩ | ⟨ad, rfl, hl, hm, hz, hc, hwf⟩
  · obtain rfl : k = 0 := by omega
    have hmin : min (0 : Int) 45 = 0 := by decide
    obtain rfl : xs = [] := by rw [← hxs]; rfl
    have HRow : Hid (Row W none 0 (intL [])) := ⟨rfl, fun h => absurd h (by omega)⟩
    have HB0 := Lib.hid (Below.refl W.heap.size W)
    have HB := Lib.hid (Below.refl W.heap.size W)
    have HFo := Lib.hid (HFo0.out none 0)
    have HLi := Lib.hid (HLi0.out none 0)
    have HRf := Lib.hid (HRf0.out none 0)
    clear HFo0 HLi0 HRf0 hk hxs
    go_wp2_with fail
    refine (HFo.out _ (HRow.out.below HB.out)).mono ?_
    rintro e w2 ⟨rfl, b2⟩
    have HB' := Lib.hid (b_next HB.out b2)
    clear b2 HB  
    have HB := HB'
    clear HB'
    have HB' := Lib.hid (b_next HB.out (below_alloc w2 (.cells #[.int .i64 x, .int .i64 y] 26)))
    clear HB  
    have HB := HB'
    clear HB'
    have Hf := Lib.hid (Two.new w2 26 x y)
    obtain ⟨f0, f1, _, _⟩ := Hf.out.cells
    have lf := Hf.out.lt
    go_wp2_with fail
    refine (HLi.out _ (HRow.out.below HB.out)).mono ?_
    rintro e w3 ⟨rfl, rfl⟩
    go_wp2_with fail
    refine (HRf.out _ (HRow.out.below HB.out)).mono ?_
    rintro e w4 ⟨rfl, b4⟩
    have Hf' := Lib.hid (Hf.out.below b4)
    have HB' := Lib.hid (b_next HB.out b4)
    clear b4 HB Hf f0 f1 lf
    have Hf := Hf'
    clear Hf'
    have HB := HB'
    clear HB'
    obtain ⟨f0, f1, _, _⟩ := Hf.out.cells
    have lf := Hf.out.lt
    have Hf' := Lib.hid (Hf.out.below (below_alloc w4 (.cells #[.int .i64 x, .int .i64 y] 26)))
    have HB' := Lib.hid (b_next HB.out (below_alloc w4 (.cells #[.int .i64 x, .int .i64 y] 26)))
    clear HB Hf f0 f1 lf
    have Hf := Hf'
    clear Hf'
    have HB := HB'
    clear HB'
    have Hg := Lib.hid (Two.new w4 26 x y)
    obtain ⟨f0, f1, _, _⟩ := Hf.out.cells
    have lf := Hf.out.lt
    obtain ⟨g0, g1, _, _⟩ := Hg.out.cells
    have lg := Hg.out.lt
    go_wp2_with fail
    refine (HW.out _).mono ?_
    rintro e w5 ⟨rfl, b5⟩
    have Hf' := Lib.hid (Hf.out.below b5)
    have Hg' := Lib.hid (Hg.out.below b5)
    have HB' := Lib.hid (b_next HB.out b5)
    clear b5 HB Hf Hg f0 f1 lf g0 g1 lg
    have Hf := Hf'
    clear Hf'
    have Hg := Hg'
    clear Hg'
    have HB := HB'
    clear HB'
    obtain ⟨f0, f1, _, _⟩ := Hf.out.cells
    have lf := Hf.out.lt
    obtain ⟨g0, g1, _, _⟩ := Hg.out.cells
    have lg := Hg.out.lt
    go_wp2_with fail
    go_ret
    exact ⟨rfl, b_next HB0.out HB.out⟩
  · have hk1 : min (len : Int) 45 = k := by omega
    have hk2 : k ≤ len := by omega
    have hk3 : k ≤ 45 := by omega
    have hnews : ∀ j u, (intL xs)[j]? = some u → W.cell? (ad.add j) = some u := by
      intro j u hj
      obtain ⟨hj1, _⟩ := List.getElem?_eq_some_iff.1 hj
      have hj2 : j < k := by rw [intL_length, ← hxs, List.length_take] at hj1; omega
      have hj3 : j < zs.length := by rw [hz]; omega
      rw [hc j hj3]
      unfold intL at hj
      rw [← hxs, List.getElem?_map, List.getElem?_take_of_lt hj2, List.getElem?_eq_getElem hj3] at hj
      simp only [Option.map_some, Option.some.injEq] at hj
      rw [← hj, List.getD_eq_getElem?_getD, List.getElem?_eq_getElem hj3]; rfl
    have hlen : (intL xs).length = k * 1 := by rw [intL_length, ← hxs, List.length_take]; omega
    have hone : ∀ u ∈ intL xs, u.oneCell' = true := by
      intro u hu
      obtain ⟨x, _, rfl⟩ := List.mem_map.1 hu
      simp [Value.oneCell']
    go_wp2_with (at_builtin; refine wpList_append_own _ rfl _ _ 54 rfl W.heap.size 3 i0 (.int .i64 0) 1 8 Try.underlying54 hi hz0 hz1 hz2 rfl (by decide) _ _ _ rfl (World.ownsRow_nil _ _ _ _) ad k cap _ rfl hlen hnews hone (by unfold maxLen; omega) (by omega) (Nat.le_refl _) ?_)
    intro v1 w1 hown hgrow _
    obtain ⟨a1, c1, rfl, hrow⟩ := Row.of_own hown
    have HRow := Lib.hid hrow
    have HB0 : Hid (Below W.heap.size W w1) := ⟨hgrow.os, hgrow.tape, hgrow.output, hgrow.size, fun k hk => hgrow.block k hk (by simp [Value.ownBlock])⟩
    have HB := Lib.hid (Below.refl w1.heap.size w1)
    have HFo := Lib.hid (HFo0.out a1 c1)
    have HLi := Lib.hid (HLi0.out a1 c1)
    have HRf := Lib.hid (HRf0.out a1 c1)
    clear HFo0 HLi0 HRf0 hown hgrow hrow hnews hlen hone hc hwf hz
    go_wp2_with fail
    refine (HFo.out _ (HRow.out.below HB.out)).mono ?_
    rintro e w2 ⟨rfl, b2⟩
    have HB' := Lib.hid (b_next HB.out b2)
    clear b2 HB  
    have HB := HB'
    clear HB'
    have HB' := Lib.hid (b_next HB.out (below_alloc w2 (.cells #[.int .i64 x, .int .i64 y] 26)))
    clear HB  
    have HB := HB'
    clear HB'
    have Hf := Lib.hid (Two.new w2 26 x y)
    obtain ⟨f0, f1, _, _⟩ := Hf.out.cells
    have lf := Hf.out.lt
    go_wp2_with fail
    refine (HLi.out _ (HRow.out.below HB.out)).mono ?_
    rintro e w3 ⟨rfl, rfl⟩
    go_wp2_with fail
    refine (HRf.out _ (HRow.out.below HB.out)).mono ?_
    rintro e w4 ⟨rfl, b4⟩
    have Hf' := Lib.hid (Hf.out.below b4)
    have HB' := Lib.hid (b_next HB.out b4)
    clear b4 HB Hf f0 f1 lf
    have Hf := Hf'
    clear Hf'
    have HB := HB'
    clear HB'
    obtain ⟨f0, f1, _, _⟩ := Hf.out.cells
    have lf := Hf.out.lt
    have Hf' := Lib.hid (Hf.out.below (below_alloc w4 (.cells #[.int .i64 x, .int .i64 y] 26)))
    have HB' := Lib.hid (b_next HB.out (below_alloc w4 (.cells #[.int .i64 x, .int .i64 y] 26)))
    clear HB Hf f0 f1 lf
    have Hf := Hf'
    clear Hf'
    have HB := HB'
    clear HB'
    have Hg := Lib.hid (Two.new w4 26 x y)
    obtain ⟨f0, f1, _, _⟩ := Hf.out.cells
    have lf := Hf.out.lt
    obtain ⟨g0, g1, _, _⟩ := Hg.out.cells
    have lg := Hg.out.lt
    go_wp2_with fail
    refine (HW.out _).mono ?_
    rintro e w5 ⟨rfl, b5⟩
    have Hf' := Lib.hid (Hf.out.below b5)
    have Hg' := Lib.hid (Hg.out.below b5)
    have HB' := Lib.hid (b_next HB.out b5)
    clear b5 HB Hf Hg f0 f1 lf g0 g1 lg
    have Hf := Hf'
    clear Hf'
    have Hg := Hg'
    clear Hg'
    have HB := HB'
    clear HB'
    obtain ⟨f0, f1, _, _⟩ := Hf.out.cells
    have lf := Hf.out.lt
    obtain ⟨g0, g1, _, _⟩ := Hg.out.cells
    have lg := Hg.out.lt
    go_wp2_with fail
    go_ret
    exact ⟨rfl, b_next HB0.out HB.out⟩
theorem walk_YardFolds (a : Option Addr) (len cap : Nat) (zs : List Int) (W : World) (h : IsInts W a len cap zs) :
    Calls Try.prog 7 #[.slice a len cap] W fun e W' => e = .returned (.bool true) ∧ Below W.heap.size W W' := by
  cases hq : quotB (zs.take (min len 45)) with
  | false => exact yfo_no a len cap _ zs _ W rfl rfl hq h
  | true =>
    cases hf : foldP (natL (zs.take (min len 45))) with
    | none => exact yfo_none a len cap _ zs _ W rfl rfl hq hf h
    | some f => obtain ⟨x, y⟩ := f; exact yfo_some a len cap _ zs _ W rfl rfl x y hq hf h


namespace lawYardFolds
open Go.ChangeShapes Go.WideShapes Go.ChangeAt Go.RowKit
open Go.ChangeMaps (open_string shut_string)

theorem own : ownKnob Try.prog.godebug = none := by kernel_rfl
theorem lay : laidOutB Try.prog = true := by kernel_rfl

set_option maxRecDepth 100000 in
theorem lifted (os : Os) (started : os.Started) (H : Type) (enc : TypeId × Value → H) :
    ReturnsInHanded {} Try.checked os 7 .any (Rows.yardFoldsSpec.pre6 enc Try.prog Try.f7 Rows.yardFoldsRow.domain false) (Rows.yardFoldsSpec.post enc Try.prog Try.f7 false true false false) := by
  refine returnsInHanded_of_change (C := Try.checked) own started (by kernel_rfl) Try.func7
    (ChangeSpec.witness6 (enc := enc) (C := Try.checked) false ⟨#[], #[.slice none 0 0], []⟩ 8 (by kernel_rfl) (by kernel_rfl) (by kernel_rfl) (by kernel_rfl)) ?_
  intro W base args ds gs before hval0 hW hcnd _
  have hval : ∀ (j : Nat) t v, Try.f7.params[j]? = some t → args[j]? = some v → Value.okWide Try.prog W .any base t v := hval0
  have hW' := hW
  obtain ⟨p, q, hA0, hV, rfl, hfz, hnd⟩ := hW
  have hA : DataW.TrodAll enc Try.prog W 0 (fun _ => true) true Try.f7.params.toList args.toList ds p := hA0
  rw [Try.params7] at hA hval
  obtain ⟨v0, vs0, d0, ds0, p0, q0, hargs, rfl, rfl, h0, r0⟩ := trodAll_cons hA
  obtain ⟨rfl, rfl, rfl⟩ := trodAll_nil r0
  obtain rfl : args = #[v0] := by cases args; simp_all
  obtain ⟨rfl, rfl⟩ := trodVars_none hV
  obtain ⟨a0, len0, cap0, rfl⟩ := okWide_slice Try.underlying54 (hval 0 54 v0 rfl rfl)
  have k0 := h0
  have lt0 : ∀ x ∈ p0, x.block < W.heap.size := by obtain ⟨m, hm⟩ := k0; exact DataW.trod_lt m _ _ _ hm
  obtain ⟨z0, w0⟩ : ∃ zs, IsInts W a0 len0 cap0 zs := by
    obtain ⟨fuel, hf⟩ := h0
    rcases open_ints Try.underlying54 Try.underlying3 (by kernel_rfl) hf with ⟨hcs, _⟩ | ⟨x, l, c, zs, hcs, _, hl, hm, hz, _, hcell, hwz⟩
    · simp [Value.cells] at hcs
      obtain ⟨rfl, rfl, rfl⟩ := hcs
      exact ⟨[], .inl ⟨rfl, rfl, rfl, rfl⟩⟩
    · simp [Value.cells] at hcs
      obtain ⟨rfl, rfl, rfl⟩ := hcs
      exact ⟨zs, .inr ⟨_, rfl, hl, hm, by simpa using hz, hcell, hwz⟩⟩
  clear hA0 hval0
  refine (walk_YardFolds a0 len0 cap0 z0 W w0).mono fun e W' ⟨he, bel⟩ => ?_
  subst he
  exact ⟨_, rfl, _, _, _, [], _, [], hW', trodAll_mk1 (shut_bool Try.underlying4 _), (trodAll_cons_mk (Below.trod lay (by kernel_rfl) (of_decide_eq_true (by kernel_rfl)) k0 bel lt0) trodAll_mk0), rfl, bel.frame _, fun h => by cases h⟩

theorem over : Rows.yardFoldsRow.holds Try.pinned (OpenSpec.ofChange Rows.yardFoldsSpec) :=
  OpenClaim.holds_of_wide 7 Try.f7 rfl rfl rfl rfl rfl rfl rfl ⟨rfl, rfl, rfl, rfl, rfl⟩ rfl rfl rfl rfl rfl (by kernel_rfl) Try.func7 (by kernel_rfl)
    (of_decide_eq_true (by kernel_rfl)) (by unfold Func.isWrapper; first | (rw [if_pos (by decide +kernel)]; kernel_rfl) | (rw [if_neg (by decide +kernel)]; exact ⟨rfl, rfl⟩))
    (fun os started H enc _ => lifted os started H enc)

theorem proved : Rows.YardFoldsSaid := over
end lawYardFolds
end Go.Proofs.Ytelipknnfagnjaa
