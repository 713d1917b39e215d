/- The sample, and that the program is awake. -/
import Derived.Test.YtbbidgdgcbnanaaSch
import Derived.Test.YtbbidgdgcbnanaaNbs
import Derived.Test.YtbbidgdgcbnanaaInts
namespace Go.Proofs.Ytbbidgdgcbnanaa
set_option linter.unusedVariables false
open Go.RowKit
/-- the tree of the sample -/
def smpT : Tree := [([1, 2], 0), ([3, 4], 0), ([5, 6], 0), ([], 3), ([], 5), ([], 2), ([], 9)]
set_option maxRecDepth 10000
theorem smp_tree : treeB smpT = true := by decide +kernel
theorem smp_value : valN smpT (worthOf smpT) 0 = 3 := by decide +kernel
theorem smp_search : srchN smpT = (3, [3, 4, 5]) := by decide +kernel
theorem smp_low : showC smpT true 3 0 < 61 := by decide +kernel
theorem smp_shown : shownL smpT (showC smpT true 3) true = [3, 4] := by decide +kernel
theorem smp_proof : sortN (shownL smpT (showC smpT true 3) true) = [3, 4] := by
  rw [smp_shown]; simp [sortN, List.mergeSort, List.MergeSort.Internal.splitInTwo]
theorem smp_list : listB smpT [] = true := by decide +kernel
theorem smp_more : missN smpT [] true 4 = 2 := by decide +kernel
theorem smp_less : missN smpT [] false 3 = 2 := by decide +kernel
theorem smp_kids (i : Nat) : (kidsZ smpT i).length ≤ 1000000 := by
  unfold kidsZ nodeAt smpT
  match i with
  | 0 | 1 | 2 | 3 | 4 | 5 | 6 => decide
  | i + 7 => simp
/-- the sample in memory -/
def smpW (w : World) : World :=
  (((w.alloc (.cells #[.int .i64 1, .int .i64 2] 3)).alloc (.cells #[.int .i64 3, .int .i64 4] 3)).alloc (.cells #[.int .i64 5, .int .i64 6] 3)).alloc
    (.cells #[.slice (some ⟨w.heap.size, 0, none⟩) 2 2, .int .i64 0, .slice (some ⟨w.heap.size + 1, 0, none⟩) 2 2, .int .i64 0, .slice (some ⟨w.heap.size + 1 + 1, 0, none⟩) 2 2, .int .i64 0, .slice none 0 0, .int .i64 3, .slice none 0 0, .int .i64 5, .slice none 0 0, .int .i64 2, .slice none 0 0, .int .i64 9] 62)
set_option maxRecDepth 100000 in
set_option maxHeartbeats 4000000 in
theorem sample_new (w : World) : Calls Try.prog 58 #[] w fun e w' => e = .returned (.slice (some ⟨w.heap.size + 1 + 1 + 1, 0, none⟩) 7 7) ∧ w' = smpW w := by
  go_enter Try.func58, Try.ntmps58
  go_wp2
  go_ret
  exact ⟨rfl, rfl⟩
theorem smp_below (w : World) : Below w.heap.size w (smpW w) :=
  b_next (b_next (b_next (below_alloc w (.cells #[.int .i64 1, .int .i64 2] 3)) (below_alloc _ (.cells #[.int .i64 3, .int .i64 4] 3))) (below_alloc _ (.cells #[.int .i64 5, .int .i64 6] 3))) (below_alloc _ _)
theorem smp_at (w : World) : TreeAt (smpW w) (some ⟨w.heap.size + 1 + 1 + 1, 0, none⟩) smpT := by
  intro _
  obtain ⟨W1, h1⟩ : ∃ W1, w.alloc (.cells #[.int .i64 1, .int .i64 2] 3) = W1 := ⟨_, rfl⟩
  obtain ⟨W2, h2⟩ : ∃ W2, W1.alloc (.cells #[.int .i64 3, .int .i64 4] 3) = W2 := ⟨_, rfl⟩
  obtain ⟨W3, h3⟩ : ∃ W3, W2.alloc (.cells #[.int .i64 5, .int .i64 6] 3) = W3 := ⟨_, rfl⟩
  have s1 : W1.heap.size = w.heap.size + 1 := by rw [← h1]; simp
  have s2 : W2.heap.size = w.heap.size + 1 + 1 := by rw [← h2]; simp [s1]
  have s3 : W3.heap.size = w.heap.size + 1 + 1 + 1 := by rw [← h3]; simp [s2]
  have hs : smpW w = W3.alloc (.cells #[.slice (some ⟨w.heap.size, 0, none⟩) 2 2, .int .i64 0, .slice (some ⟨w.heap.size + 1, 0, none⟩) 2 2, .int .i64 0, .slice (some ⟨w.heap.size + 1 + 1, 0, none⟩) 2 2, .int .i64 0, .slice none 0 0, .int .i64 3, .slice none 0 0, .int .i64 5, .slice none 0 0, .int .i64 2, .slice none 0 0, .int .i64 9] 62) := by
    rw [← h3, ← h2, ← h1]; rfl
  have r1 : Row W1 (some ⟨w.heap.size, 0, none⟩) 2 [.int .i64 1, .int .i64 2] := by rw [← h1]; exact Row.built (w := w) 3 [.int .i64 1, .int .i64 2]
  have r2 : Row W2 (some ⟨w.heap.size + 1, 0, none⟩) 2 [.int .i64 3, .int .i64 4] := by rw [← h2, ← s1]; exact Row.built (w := W1) 3 [.int .i64 3, .int .i64 4]
  have r3 : Row W3 (some ⟨w.heap.size + 1 + 1, 0, none⟩) 2 [.int .i64 5, .int .i64 6] := by rw [← h3, ← s2]; exact Row.built (w := W2) 3 [.int .i64 5, .int .i64 6]
  have b2 : Below W1.heap.size W1 W2 := by rw [← h2]; exact below_alloc _ _
  have b3 : Below W2.heap.size W2 W3 := by rw [← h3]; exact below_alloc _ _
  rw [hs, ← s3]
  obtain ⟨o, ho⟩ : ∃ o, Obj.cells #[.slice (some ⟨w.heap.size, 0, none⟩) 2 2, .int .i64 0, .slice (some ⟨w.heap.size + 1, 0, none⟩) 2 2, .int .i64 0, .slice (some ⟨w.heap.size + 1 + 1, 0, none⟩) 2 2, .int .i64 0, .slice none 0 0, .int .i64 3, .slice none 0 0, .int .i64 5, .slice none 0 0, .int .i64 2, .slice none 0 0, .int .i64 9] 62 (0, 0) = o := ⟨_, rfl⟩
  rw [ho]
  have b4 := below_alloc W3 o
  have hx := heap_alloc_new W3 o
  have hc : ∀ i, (W3.alloc o).cell? ⟨W3.heap.size, i, none⟩ = (#[Value.slice (some ⟨w.heap.size, 0, none⟩) 2 2, .int .i64 0, .slice (some ⟨w.heap.size + 1, 0, none⟩) 2 2, .int .i64 0, .slice (some ⟨w.heap.size + 1 + 1, 0, none⟩) 2 2, .int .i64 0, .slice none 0 0, .int .i64 3, .slice none 0 0, .int .i64 5, .slice none 0 0, .int .i64 2, .slice none 0 0, .int .i64 9])[i]? := fun i => by
    simp only [World.cell?]; rw [hx, ← ho]; rfl
  refine ⟨W3.heap.size, rfl, by simp, fun i m hm => ?_⟩
  match i, hm with
  | 0, hm => cases hm; exact ⟨_, 2, hc 0, hc 1, by decide, ((r1.below b2).below b3).below b4⟩
  | 1, hm => cases hm; exact ⟨_, 2, hc 2, hc 3, by decide, (r2.below b3).below b4⟩
  | 2, hm => cases hm; exact ⟨_, 2, hc 4, hc 5, by decide, r3.below b4⟩
  | 3, hm => cases hm; exact ⟨none, 0, hc 6, hc 7, by decide, rfl, fun h => absurd h (by decide)⟩
  | 4, hm => cases hm; exact ⟨none, 0, hc 8, hc 9, by decide, rfl, fun h => absurd h (by decide)⟩
  | 5, hm => cases hm; exact ⟨none, 0, hc 10, hc 11, by decide, rfl, fun h => absurd h (by decide)⟩
  | 6, hm => cases hm; exact ⟨none, 0, hc 12, hc 13, by decide, rfl, fun h => absurd h (by decide)⟩
  | i + 7, hm => simp [smpT] at hm
theorem sample_any (w : World) : Calls Try.prog 58 #[] w fun e w' => ∃ g, e = .returned (.slice (some ⟨g, 0, none⟩) 7 7) ∧ TreeAt w' (some ⟨g, 0, none⟩) smpT ∧ Below w.heap.size w w' := by
  refine (sample_new w).mono ?_
  rintro e w' ⟨rfl, rfl⟩
  exact ⟨_, rfl, smp_at w, smp_below w⟩
theorem value_smp (a : Option Addr) (w : World) (h : TreeAt w a smpT) : Calls Try.prog 17 #[.slice a 7 7] w fun e w' => e = .returned (.tuple #[.int .i64 3, .int .i64 0]) ∧ Below w.heap.size w w' := by
  have h2 := Value_any smpT a 7 w h (by decide) smp_kids
  rw [smp_tree, if_pos rfl, if_pos rfl, smp_value] at h2
  exact h2
theorem search_smp (a : Option Addr) (w : World) (h : TreeAt w a smpT) : Calls Try.prog 25 #[.slice a 7 7] w fun e w' => ∃ b c, e = .returned (.tuple #[.int .i64 3, .slice b 3 c, .int .i64 0]) ∧ Row w' b 3 (intL [3, 4, 5]) ∧ Below w.heap.size w w' := by
  have h2 := Search_yes smpT smp_tree a 7 w h smp_kids
  rw [smp_search] at h2
  refine h2.mono ?_
  rintro e w' ⟨v, rfl, ho, hb⟩
  obtain ⟨b, c, rfl, hR⟩ := Row.of_own ho
  exact ⟨b, c, rfl, hR, hb⟩
theorem proof_smp (a : Option Addr) (w : World) (h : TreeAt w a smpT) : Calls Try.prog 31 #[.slice a 7 7, .int .i64 3] w fun e w' => ∃ b c, e = .returned (.tuple #[.slice b 2 c, .int .i64 0]) ∧ Row w' b 2 (intL [3, 4]) ∧ Below w.heap.size w w' := by
  have h2 := Proof_yes smpT smp_tree 3 (by decide) (by decide) smp_low a 7 w h smp_kids
  rw [smp_proof] at h2
  refine h2.mono ?_
  rintro e w' ⟨v, rfl, ho, hb⟩
  obtain ⟨b, c, rfl, hR⟩ := Row.of_own ho
  exact ⟨b, c, rfl, hR, hb⟩
theorem numbers_smp (a : Option Addr) (w : World) (h : TreeAt w a smpT) : Calls Try.prog 41 #[.slice a 7 7, .slice none 0 0, .int .i64 4] w fun e w' => e = .returned (.tuple #[.int .i64 2, .int .i64 2, .int .i64 0]) ∧ Below w.heap.size w w' := by
  have h2 := Numbers_yes smpT smp_tree a 7 none 0 0 [] smp_list 4 (by decide) (by decide) w h smp_kids ⟨rfl, fun h => absurd h (by decide)⟩ (by decide)
  rw [smp_more, show (4 : Int) - 1 = 3 from rfl, smp_less] at h2
  exact h2
set_option maxRecDepth 100000 in
set_option maxHeartbeats 4000000 in
theorem awake_any (w : World) : Calls Try.prog 21 #[] w fun e w' => e = .returned (.bool true) ∧ Below w.heap.size w w' := by
  go_enter Try.func21, Try.ntmps21
  go_wp2_with fail
  refine (sample_any _).mono ?_
  rintro e w1 ⟨g1, rfl, t1, b1⟩
  go_wp2_with fail
  refine (value_smp _ _ t1).mono ?_
  rintro e w2 ⟨rfl, b2⟩
  have c2 := b_next b1 b2
  clear b1 b2 t1
  go_wp2_with fail
  refine (sample_any _).mono ?_
  rintro e w3 ⟨g3, rfl, t3, b3⟩
  have c3 := b_next c2 b3
  clear b3 c2
  go_wp2_with fail
  refine (search_smp _ _ t3).mono ?_
  rintro e w4 ⟨a4, k4, rfl, r4, b4⟩
  have c4 := b_next c3 b4
  clear b4 c3 t3
  go_wp2_with fail
  refine (sample_any _).mono ?_
  rintro e w5 ⟨g5, rfl, t5, b5⟩
  have c5 := b_next c4 b5
  have r5 := r4.below b5
  clear b5 c4 r4
  go_wp2_with fail
  refine (proof_smp _ _ t5).mono ?_
  rintro e w6 ⟨a6, k6, rfl, p6, b6⟩
  have c6 := b_next c5 b6
  have r6 := r5.below b6
  clear b6 c5 r5 t5
  go_wp2_with fail
  refine (sample_any _).mono ?_
  rintro e w7 ⟨g7, rfl, t7, b7⟩
  have c7 := b_next c6 b7
  have r7 := r6.below b7
  have p7 := p6.below b7
  clear b7 c6 r6 p6
  go_wp2_with fail
  refine (numbers_smp _ _ t7).mono ?_
  rintro e w8 ⟨rfl, b8⟩
  have C8 := Lib.hid (b_next c7 b8)
  have R8 := Lib.hid (r7.below b8)
  have P8 := Lib.hid (p7.below b8)
  clear b8 c7 r7 p7 t7
  go_wp2_with fail
  have h9 := below_alloc w8 (.cells #[.int .i64 3, .int .i64 4, .int .i64 5] 3)
  refine (ints_true _ _ 3 _ _ [3, 4, 5] _ (R8.out.below h9) (Row.built (w := w8) 3 [.int .i64 3, .int .i64 4, .int .i64 5]) (by decide)).mono ?_
  rintro e w9 ⟨rfl, n1, rfl⟩
  have h10 := below_drewN (b_next C8.out h9) n1
  have P9 := Lib.hid ((P8.out.below h9).drewN n1)
  generalize hW9 : World.drewN _ n1 = W9 at h10 P9
  have H10 := Lib.hid h10
  clear h10 h9 R8 P8 C8 hW9
  go_wp2_with fail
  have h11 := below_alloc W9 (.cells #[.int .i64 3, .int .i64 4] 3)
  refine (ints_true _ _ 2 _ _ [3, 4] _ (P9.out.below h11) (Row.built (w := W9) 3 [.int .i64 3, .int .i64 4]) (by decide)).mono ?_
  rintro e w12 ⟨rfl, n2, rfl⟩
  have h12 := below_drewN (b_next H10.out h11) n2
  generalize hW12 : World.drewN _ n2 = W12 at h12
  have H12 := Lib.hid h12
  clear h12 hW12 h11
  go_wp2_with fail
  go_ret
  exact ⟨rfl, H12.out⟩
end Go.Proofs.Ytbbidgdgcbnanaa
