/- A polynomial's table, and its values as a list. -/
import Derived.Test.YthmdlkaanjjbkaaTabl
import Derived.Deep.Onto
namespace Go.Proofs.Ythmdlkaanjjbkaa
set_option linter.unusedVariables false
open Go.RowKit

/-- the innermost function: x itself -/
theorem self_any (i x : Int) (B : Nat) (w : World) (hB : w.cell? ⟨B, 0, none⟩ = some (.int .i64 x)) : Calls Try.prog 94 #[.int .i64 i, .pointer (some ⟨B, 0, none⟩)] w fun e w' => e = .returned (.int .i64 x) ∧ w' = w := by
  go_enter Try.func94, Try.ntmps94
  go_wp2
  go_ret
  exact ⟨rfl, rfl⟩

set_option maxRecDepth 100000 in
set_option maxHeartbeats 4000000 in
theorem at_any (x : Nat) (m : Nat) (B1 B2 : Nat) (a : Option Addr) (n cap : Nat) (xs : List Int) (w : World) (h1 : w.cell? ⟨B1, 0, none⟩ = some (.int .i64 m)) (h2 : w.cell? ⟨B2, 0, none⟩ = some (.slice a n cap)) (hr : Row w a n (intL xs)) (hn : n ≤ 100)
    (hm : 1 ≤ m) (hm2 : m ≤ 64) (hx : x ≤ 100) (hxs : ∀ x ∈ xs, -1000 ≤ x ∧ x ≤ 1000) :
    Calls Try.prog 92 #[.int .i64 x, .pointer (some ⟨B1, 0, none⟩), .pointer (some ⟨B2, 0, none⟩)] w fun e w' => e = .returned (.int .i64 (polyV m xs x)) ∧ Below w.heap.size w w' := by
  have hmf : ∀ (fn : Fn) (first cap : Array Value) (w : World), (Instr.makeFunc fn first cap).run Try.prog w = .ok (.func fn first cap) w := fun _ _ _ _ => rfl
  have b0 := below_alloc w (.cells #[.int .i64 x] 3)
  have hN : Calls Try.prog 93 #[.int .i64 m, .slice a n cap, .func (.func 94) #[] #[.pointer (some ⟨w.heap.size, 0, none⟩)]] (w.alloc (.cells #[.int .i64 x] 3)) fun e w' => e = .returned (.int .i64 (polyV m xs x)) ∧ Below (w.alloc (.cells #[.int .i64 x] 3)).heap.size (w.alloc (.cells #[.int .i64 x] 3)) w' := by
    refine nested_any m a n cap xs _ _ (fun _ => (x : Int)) _ (hr.below b0) hn hm hm2 hxs (fun i _ => by omega) (enters_of Try.func94 (by kernel_rfl) rfl) fun i W _ hW => ?_
    have hc := (Box1.new w 3 (.int .i64 x)).below hW
    exact (self_any i x w.heap.size W hc.cell).mono fun e w' ⟨he, hw⟩ => ⟨he, by rw [hw]; exact Below.refl _ _⟩
  have HN := Lib.hid hN
  have B0 := Lib.hid b0
  have c1 := (b0.cell (p := ⟨B1, 0, none⟩) (World.block_lt_of_cell? w _ h1)).trans h1
  have c2 := (b0.cell (p := ⟨B2, 0, none⟩) (World.block_lt_of_cell? w _ h2)).trans h2
  clear hN b0 h1 h2 hr
  go_enter Try.func92, Try.ntmps92
  go_wp2_with fail
  refine HN.out.mono ?_
  rintro e w1 ⟨rfl, b1⟩
  go_wp2
  go_ret
  exact ⟨rfl, b_next B0.out b1⟩
theorem start3 (w : World) (m : Nat) (v : Value) (X : Array Value) (h : X = zeroA) :
    Below w.heap.size w (((w.alloc (.cells #[.int .i64 m] 3)).alloc (.cells #[v] 22)).alloc (.cells X 69)) ∧
      Box1 (((w.alloc (.cells #[.int .i64 m] 3)).alloc (.cells #[v] 22)).alloc (.cells X 69)) w.heap.size 3 (.int .i64 m) ∧
      Box1 (((w.alloc (.cells #[.int .i64 m] 3)).alloc (.cells #[v] 22)).alloc (.cells X 69)) (w.heap.size + 1) 22 v ∧
      (((w.alloc (.cells #[.int .i64 m] 3)).alloc (.cells #[v] 22)).alloc (.cells X 69)).heap[w.heap.size + 1 + 1]? = some (.cells zeroA 69 (0, 0)) := by
  subst h
  have c0 := Box1.new w 3 (.int .i64 m)
  have b0 := below_alloc w (.cells #[.int .i64 m] 3)
  have s0 : (w.alloc (.cells #[.int .i64 m] 3)).heap.size = w.heap.size + 1 := by simp
  generalize w.alloc (.cells #[.int .i64 m] 3) = w1 at c0 b0 s0 ⊢
  have c1 := Box1.new w1 22 v
  have b1 := below_alloc w1 (.cells #[v] 22)
  have s1 : (w1.alloc (.cells #[v] 22)).heap.size = w.heap.size + 1 + 1 := by simp [s0]
  rw [s0] at c1
  generalize w1.alloc (.cells #[v] 22) = w2 at c1 b1 s1 ⊢
  have b2 := below_alloc w2 (.cells zeroA 69)
  have c2 := heap_alloc_new w2 (.cells zeroA 69)
  rw [s1] at c2
  exact ⟨b_next (b_next b0 b1) b2, (c0.below b1).below b2, c1.below b2, c2⟩

set_option maxRecDepth 100000 in
set_option maxHeartbeats 4000000 in
theorem polyTable_any (m : Nat) (a : Option Addr) (n cap : Nat) (xs : List Int) (w : World) (hr : Row w a n (intL xs)) (hn : n ≤ 100) (hm : 1 ≤ m) (hm2 : m ≤ 64) (hxs : ∀ x ∈ xs, -1000 ≤ x ∧ x ≤ 1000) :
    Calls Try.prog 63 #[.int .i64 m, .slice a n cap] w fun e w' => e = .returned (.agg (tabA (fun x => polyV m xs x) m)) ∧ Below w.heap.size w w' := by
  have hmf : ∀ (fn : Fn) (first cap : Array Value) (w : World), (Instr.makeFunc fn first cap).run Try.prog w = .ok (.func fn first cap) w := fun _ _ _ _ => rfl
  have hT : ∀ W : World, Below w.heap.size w W → Box1 W w.heap.size 3 (.int .i64 m) → Box1 W (w.heap.size + 1) 22 (.slice a n cap) →
      Calls Try.prog 67 #[.int .i64 m, .func (.func 92) #[] #[.pointer (some ⟨w.heap.size, 0, none⟩), .pointer (some ⟨w.heap.size + 1, 0, none⟩)]] W fun e w' => e = .returned (.agg (tabA (fun x => polyV m xs x) m)) ∧ Below W.heap.size W w' := fun W hW k1 k2 => by
    refine tabulated_any m _ _ (fun x => polyV m xs x) W hm2 (enters_of Try.func92 (by kernel_rfl) rfl) fun i X hi hX => ?_
    exact at_any i m _ _ a n cap xs X (k1.below hX).cell (k2.below hX).cell ((hr.below hW).below hX) hn hm hm2 (by omega) hxs
  have HT := Lib.hid hT
  obtain ⟨T, hTT⟩ : ∃ T, tabA (fun x => polyV m xs x) m = T := ⟨_, rfl⟩
  have hTs : T.size = 64 := by rw [← hTT]; exact tabA_size _ m
  have hTo : T.all (·.oneCell') = true := by rw [← hTT]; exact tabA_one _ m
  rw [hTT] at HT ⊢
  clear hT hr hTT hxs
  go_enter Try.func63, Try.ntmps63
  go_wp2_with fail
  obtain ⟨b3, k0, k1, k2⟩ := start3 w m (.slice a n cap) _ rfl
  refine (HT.out _ b3 k0 k1).mono ?_
  rintro e w1 ⟨rfl, b4⟩
  have k3 := (b4.block _ (Array.getElem?_eq_some_iff.1 k2).1).trans k2
  have K3 := Lib.hid k3
  have B3 := Lib.hid (b_next b3 b4)
  clear k0 k1 k2 k3 b3 b4
  go_wp2_with (refine wpList_store_row (o := ⟨none, .store 69 (.tmp 4) (.tmp 7), _, _, _, _⟩) rfl 69 (.tmp 4) (.tmp 7) rfl (w.heap.size + 1 + 1) T rfl rfl 69 zeroA K3.out (info_table T hTs) (zeroA_size.trans hTs.symm) hTo ?_)
  exact bodyPost_ret (v := .agg T) (results_cell_row rfl _ _ (w.heap.size + 1 + 1) 69 T (0, 0) _ rfl (setRow_heap _ _ _ _ _ _ K3.out) Try.underlying69 rfl (info_table T hTs)) rfl ⟨rfl, below_setRow B3.out (by omega) _⟩

theorem lt65 {n : Nat} (hn : n ≤ 64) : n = 0 ∨ n = 1 ∨ n = 2 ∨ n = 3 ∨ n = 4 ∨ n = 5 ∨ n = 6 ∨ n = 7 ∨ n = 8 ∨ n = 9 ∨ n = 10 ∨ n = 11 ∨ n = 12 ∨ n = 13 ∨ n = 14 ∨ n = 15 ∨ n = 16 ∨ n = 17 ∨ n = 18 ∨ n = 19 ∨ n = 20 ∨ n = 21 ∨ n = 22 ∨ n = 23 ∨ n = 24 ∨ n = 25 ∨ n = 26 ∨ n = 27 ∨ n = 28 ∨ n = 29 ∨ n = 30 ∨ n = 31 ∨ n = 32 ∨ n = 33 ∨ n = 34 ∨ n = 35 ∨ n = 36 ∨ n = 37 ∨ n = 38 ∨ n = 39 ∨ n = 40 ∨ n = 41 ∨ n = 42 ∨ n = 43 ∨ n = 44 ∨ n = 45 ∨ n = 46 ∨ n = 47 ∨ n = 48 ∨ n = 49 ∨ n = 50 ∨ n = 51 ∨ n = 52 ∨ n = 53 ∨ n = 54 ∨ n = 55 ∨ n = 56 ∨ n = 57 ∨ n = 58 ∨ n = 59 ∨ n = 60 ∨ n = 61 ∨ n = 62 ∨ n = 63 ∨ n = 64 := by omega
theorem slice_table (b n : Nat) (hn : n ≤ 64) (w : World) : (Instr.sliceAt 69 (.pointer (some ⟨b, 0, none⟩)) none (some (.int .i64 n)) none).run Try.prog w = .ok (.slice (some ⟨b, 0, none⟩) n 64) w := by
  rcases lt65 hn with rfl | rfl | rfl | rfl | rfl | rfl | rfl | rfl | rfl | rfl | rfl | rfl | rfl | rfl | rfl | rfl | rfl | rfl | rfl | rfl | rfl | rfl | rfl | rfl | rfl | rfl | rfl | rfl | rfl | rfl | rfl | rfl | rfl | rfl | rfl | rfl | rfl | rfl | rfl | rfl | rfl | rfl | rfl | rfl | rfl | rfl | rfl | rfl | rfl | rfl | rfl | rfl | rfl | rfl | rfl | rfl | rfl | rfl | rfl | rfl | rfl | rfl | rfl | rfl | rfl <;> kernel_rfl


/-- the values as a list of its own -/
theorem list_any (m : Nat) (f : Nat → Int) (w : World) (hm : m ≤ 64) :
    Calls Try.prog 64 #[.agg (tabA f m), .int .i64 m] w fun e w' => ∃ v, e = .returned v ∧ w'.ownsRow w.heap.size 3 1 v m (intL ((List.range m).map f)) ∧ Below w.heap.size w w' := by
  obtain ⟨T, hTT⟩ : ∃ T, tabA f m = T := ⟨_, rfl⟩
  have hb := below_alloc w (.cells T 69)
  have hcl : Calls Try.prog 95 #[.slice (some ⟨w.heap.size, 0, none⟩) m 64] (w.alloc (.cells T 69)) fun e w' => ∃ v, e = .returned v ∧ w'.ownsRow w.heap.size 3 1 v m (intL ((List.range m).map f)) ∧ Below w.heap.size w w' := by
    have h := Any.slices_Clone_int Try.laysNm215 w.heap.size 0 m 64 (tabL f m) (w.alloc (.cells T 69)) (by rw [tabL_length]; omega) (by omega) (fun j hj => by
      rw [Nat.zero_add, cell_of_row _ _ j T _ (0, 0) (heap_alloc_new w _), ← hTT]
      unfold tabA
      rw [List.getElem?_toArray]
      exact intL_get (by rw [List.getD_eq_getElem?_getD, List.getElem?_eq_getElem hj]; rfl))
    refine h.mono ?_
    rintro e w1 ⟨r, rfl, hown, _, hB⟩
    have e1 : (tabL f m).take m = (List.range m).map f := by
      unfold tabL
      rw [← List.map_take, List.take_range, Nat.min_eq_left hm]
      exact List.map_congr_left fun x hx => if_pos (List.mem_range.1 hx)
    rw [e1] at hown
    exact ⟨r, rfl, hown.mono (by simp), b_next hb hB⟩
  have hsl := fun W => slice_table w.heap.size m hm W
  have HC := Lib.hid hcl
  rw [hTT]
  clear hcl hTT hb
  go_enter Try.func64, Try.ntmps64
  go_wp2_with fail
  refine HC.out.mono ?_
  rintro e w1 ⟨v, rfl, ho, hB⟩
  have HO := Lib.hid ho
  have HB := Lib.hid hB
  obtain ⟨a', cap', hv, _⟩ := ownsRow_open HO.out
  subst hv
  clear ho hB
  go_wp2
  go_ret
  exact ⟨_, rfl, HO.out, HB.out⟩
end Go.Proofs.Ythmdlkaanjjbkaa
