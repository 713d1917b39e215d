/- Two tables are compared. -/
import Derived.Test.YthmdlkaanjjbkaaFat
import Derived.DeepKeys
namespace Go.Proofs.Ythmdlkaanjjbkaa
set_option linter.unusedVariables false
open Go.RowKit

theorem mapM_some {α β : Type} (f : α → Option β) (g : α → β) : ∀ l : List α, (∀ x ∈ l, f x = some (g x)) → l.mapM f = some (l.map g)
  | [], _ => rfl
  | x :: l, h => by
    rw [List.mapM_cons, h x (by simp), mapM_some f g l fun y hy => h y (by simp [hy])]
    rfl
theorem flat_one {α β : Type} (g : α → β) : ∀ l : List α, (l.map fun x => [g x]).flatten = l.map g
  | [] => rfl
  | x :: l => by
    rw [List.map_cons, List.flatten_cons, flat_one g l]; rfl
theorem lits_int (D : Nat) (x : Int) (h : (Lit.int .i64 x).wf = true) : Try.prog.keyLits (D + 1) 3 [.int .i64 x] = some [.int .i64 x] := by
  unfold Program.keyLits
  rw [Try.underlying3]
  simp [h]
set_option maxRecDepth 100000 in
theorem lits_tab (D : Nat) (xs : List Int) (hl : xs.length = 64) (hw : ∀ x ∈ xs, (Lit.int .i64 x).wf = true) : Try.prog.keyLits (D + 2) 69 (intL xs) = some (xs.map (Lit.int .i64)) := by
  unfold Program.keyLits
  rw [Try.underlying69]
  have e1 : Try.prog.cellsOf 69 = 64 := by kernel_rfl
  have e2 : Try.prog.cellsOf 3 = 1 := by kernel_rfl
  simp only [e1, e2]
  rw [if_pos (by rw [intL_length, hl])]
  have hm := mapM_some (fun i => Try.prog.keyLits (D + 1) 3 (((intL xs).drop (i * 1)).take 1)) (fun i => [Lit.int .i64 (xs.getD i 0)]) (List.range 64) fun i hi => by
    have hil := List.mem_range.1 hi
    have e : ((intL xs).drop (i * 1)).take 1 = [.int .i64 (xs.getD i 0)] := by
      rw [Nat.mul_one, List.drop_eq_getElem_cons (by rw [intL_length]; omega)]
      unfold intL
      simp [List.getD_eq_getElem?_getD, List.getElem?_eq_getElem (show i < xs.length by omega)]
    rw [e]
    exact lits_int D _ (hw _ (by rw [List.getD_eq_getElem?_getD, List.getElem?_eq_getElem (by omega)]; exact List.getElem_mem _))
  rw [hm, Option.map_some, flat_one]
  congr 1
  refine List.ext_getElem? fun i => ?_
  rw [List.getElem?_map, List.getElem?_map]
  by_cases hi : i < 64
  · rw [List.getElem?_range hi, List.getElem?_eq_getElem (show i < xs.length by omega)]
    simp [List.getD_eq_getElem?_getD, List.getElem?_eq_getElem (show i < xs.length by omega)]
  · rw [List.getElem?_eq_none (by simp; omega), List.getElem?_eq_none (by omega)]; rfl
theorem formed_tab (xs : List Int) (hl : xs.length = 64) : (Value.agg (intL xs).toArray).formed Try.prog 69 = true := by
  unfold Value.formed
  rw [Try.underlying69]
  have e1 : Try.prog.cellsOf 69 = 64 := by kernel_rfl
  simp [e1, intL_length, hl]
theorem map_lit_inj : ∀ (xs ys : List Int), xs.map (Lit.int .i64) = ys.map (Lit.int .i64) → xs = ys
  | [], [], _ => rfl
  | [], y :: ys, h => by simp at h
  | x :: xs, [], h => by simp at h
  | x :: xs, y :: ys, h => by
    simp only [List.map_cons, List.cons.injEq, Lit.int.injEq, true_and] at h
    rw [h.1, map_lit_inj xs ys h.2]

set_option maxRecDepth 100000 in
theorem eq_tab (xs ys : List Int) (w : World) (hx : xs.length = 64) (hy : ys.length = 64) (hwx : ∀ x ∈ xs, (Lit.int .i64 x).wf = true) (hwy : ∀ x ∈ ys, (Lit.int .i64 x).wf = true) :
    (Op.equalIn 10000 69 (.agg (intL xs).toArray) (.agg (intL ys).toArray)).run Try.prog w = .ok (decide (xs = ys)) w := by
  obtain ⟨r, h1, h2⟩ := run_equalIn_deep (P := Try.prog) 9998 2 69 (by kernel_rfl) w 2 2 (.agg (intL xs).toArray) (.agg (intL ys).toArray) _ _ (formed_tab xs hx) (formed_tab ys hy) (lits_tab 0 xs hx hwx) (lits_tab 0 ys hy hwy)
  rw [h1]
  congr 1
  rw [Bool.eq_iff_iff, h2, decide_eq_true_eq]
  exact ⟨map_lit_inj xs ys, fun h => by rw [h]⟩

/-- a list as a table -/
theorem copy_tab (xs : List Int) (m : Nat) (hl : xs.length = m) (hm : m ≤ 64) : (zeroA.toList.take 0 ++ (intL xs ++ zeroA.toList.drop (0 + (intL xs).length))).toArray = tabA (fun x => xs.getD x 0) m := by
  unfold tabA
  congr 1
  refine List.ext_getElem? fun i => ?_
  rw [List.take_zero, List.nil_append, Nat.zero_add, intL_length]
  by_cases hi : i < 64
  · have e : (intL (tabL (fun x => xs.getD x 0) m))[i]? = some (.int .i64 (if i < m then xs.getD i 0 else 0)) :=
      intL_get (by unfold tabL; rw [List.getElem?_map, List.getElem?_range hi]; rfl)
    rw [e]
    by_cases h : i < m
    · rw [if_pos h, List.getElem?_append_left (by rw [intL_length]; omega)]
      exact intL_get (by rw [List.getD_eq_getElem?_getD, List.getElem?_eq_getElem (by omega)]; rfl)
    · rw [if_neg h, List.getElem?_append_right (by rw [intL_length]; omega), intL_length, List.getElem?_drop]
      have := zeroA_get (i := i) hi
      rw [← Array.getElem?_toList] at this
      rw [show xs.length + (i - xs.length) = i by omega]
      exact this
  · rw [List.getElem?_eq_none (by simp [intL_length, zeroA_size]; omega), List.getElem?_eq_none (by rw [intL_length, tabL_length]; omega)]
abbrev X64 : Array Value := #[.int .i64 0, .int .i64 0, .int .i64 0, .int .i64 0, .int .i64 0, .int .i64 0, .int .i64 0, .int .i64 0, .int .i64 0, .int .i64 0, .int .i64 0, .int .i64 0, .int .i64 0, .int .i64 0, .int .i64 0, .int .i64 0, .int .i64 0, .int .i64 0, .int .i64 0, .int .i64 0, .int .i64 0, .int .i64 0, .int .i64 0, .int .i64 0, .int .i64 0, .int .i64 0, .int .i64 0, .int .i64 0, .int .i64 0, .int .i64 0, .int .i64 0, .int .i64 0, .int .i64 0, .int .i64 0, .int .i64 0, .int .i64 0, .int .i64 0, .int .i64 0, .int .i64 0, .int .i64 0, .int .i64 0, .int .i64 0, .int .i64 0, .int .i64 0, .int .i64 0, .int .i64 0, .int .i64 0, .int .i64 0, .int .i64 0, .int .i64 0, .int .i64 0, .int .i64 0, .int .i64 0, .int .i64 0, .int .i64 0, .int .i64 0, .int .i64 0, .int .i64 0, .int .i64 0, .int .i64 0, .int .i64 0, .int .i64 0, .int .i64 0, .int .i64 0]
theorem X64_zero : X64 = zeroA := by unfold zeroA; rfl
theorem start_two (w : World) (X : Array Value) (h : X = zeroA) :
    ((w.alloc (.cells X 69)).alloc (.cells X 69)).heap[w.heap.size]? = some (.cells zeroA 69 (0, 0)) ∧
      ((w.alloc (.cells X 69)).alloc (.cells X 69)).heap[w.heap.size + 1]? = some (.cells zeroA 69 (0, 0)) ∧
      Below w.heap.size w ((w.alloc (.cells X 69)).alloc (.cells X 69)) := by
  subst h
  exact ⟨heap_alloc2_old w _ _, heap_alloc2_new w _ _, b_next (below_alloc _ _) (below_alloc _ _)⟩
theorem slice_all (b : Nat) (w : World) : (Instr.sliceAt 69 (.pointer (some ⟨b, 0, none⟩)) none none none).run Try.prog w = .ok (.slice (some ⟨b, 0, none⟩) 64 64) w := by kernel_rfl
theorem info_int1 : (Try.prog.info? 3).map (·.size) = some 1 := by kernel_rfl
set_option maxRecDepth 100000 in
set_option maxHeartbeats 4000000 in
theorem tableOf_any (m : Nat) (a : Option Addr) (cap : Nat) (xs : List Int) (w : World) (hr : Row w a m (intL xs)) (hm : 1 ≤ m) (hm2 : m ≤ 64) :
    Calls Try.prog 76 #[.slice a m cap] w fun e w' => e = .returned (.agg (tabA (fun x => xs.getD x 0) m)) ∧ Below w.heap.size w w' := by
  have hx : xs.length = m := by have := hr.1; simpa [intL] using this
  obtain ⟨g, rfl, hg, hc⟩ := hr.2 (by omega)
  have hct := copy_tab xs m hx hm2
  obtain ⟨T, hT⟩ : ∃ T, tabA (fun x => xs.getD x 0) m = T := ⟨_, rfl⟩
  have hTs : T.size = 64 := by rw [← hT]; exact tabA_size _ m
  have hTo : T.all (·.oneCell') = true := by rw [← hT]; exact tabA_one _ m
  rw [hT] at hct ⊢
  have hsl := slice_all
  have Hct := Lib.hid hct
  have Hc := Lib.hid hc
  have Hx := Lib.hid hx
  clear hct hT hr hc hx
  go_enter Try.func76, Try.ntmps76
  go_wp2_with (first
    | (refine wpList_copy_own (o := ⟨some 6, .call { callee := .builtin .copy, args := #[.tmp 4, .tmp 5], argTypes := #[22, 22] }, _, _, _, _⟩) rfl (.tmp 4) (.tmp 5) 22 22 rfl 3 Try.underlying22 info_int1 (w.heap.size + 1) 0 64 64 ⟨g, 0, none⟩ m cap rfl rfl zeroA 69 (start_two w _ X64_zero).2.1 (intL xs) (by rw [intL_length, Hx.out]; exact (Nat.min_eq_left hm2).symm) (fun j v hv => by rw [addr_add, Nat.zero_add]; exact ((start_two w _ X64_zero).2.2.cell (p := ⟨g, j, none⟩) hg).trans (Hc.out j v hv)) (by rw [intL_length, Hx.out, zeroA_size]; omega) (fun v hv => by obtain ⟨x, _, rfl⟩ := List.mem_map.1 hv; rfl) ?_
       rw [Hct.out]
       have hz := start_two w _ X64_zero
       generalize (w.alloc (.cells X64 69)).alloc (.cells X64 69) = W at hz ⊢
       have h1 := (setRow_other W (w.heap.size + 1) w.heap.size T (by omega)).trans hz.1
       have h2 := setRow_heap W (w.heap.size + 1) zeroA T 69 (0, 0) hz.2.1
       have h3 := below_setRow hz.2.2 (show w.heap.size ≤ w.heap.size + 1 by omega) T
       generalize W.setRow (w.heap.size + 1) T = W2 at h1 h2 h3 ⊢
       have H1 := Lib.hid h1
       have H2 := Lib.hid h2
       have H3 := Lib.hid h3
       clear hz h1 h2 h3)
    | (refine wpList_load_row (o := ⟨some 7, .load 69 (.tmp 3), _, _, _, _⟩) rfl 69 (.tmp 3) rfl (w.heap.size + 1) rfl 69 T (0, 0) _ H2.out Try.underlying69 rfl (info_table T hTs) ?_; refine wpList_store_row (o := ⟨none, .store 69 (.tmp 2) (.tmp 7), _, _, _, _⟩) rfl 69 (.tmp 2) (.tmp 7) rfl w.heap.size T rfl rfl 69 zeroA H1.out (info_table T hTs) (zeroA_size.trans hTs.symm) hTo ?_))
  exact bodyPost_ret (v := .agg T) (results_cell_row rfl _ _ w.heap.size 69 T (0, 0) _ rfl (setRow_heap _ _ _ _ _ _ H1.out) Try.underlying69 rfl (info_table T hTs)) rfl ⟨rfl, below_setRow H3.out (Nat.le_refl _) _⟩
end Go.Proofs.Ythmdlkaanjjbkaa
