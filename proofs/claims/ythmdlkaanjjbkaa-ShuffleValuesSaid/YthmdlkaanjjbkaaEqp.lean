/- Two pairs compared. -/
import Derived.Test.YthmdlkaanjjbkaaTeq
namespace Go.Proofs.Ythmdlkaanjjbkaa
set_option linter.unusedVariables false
open Go.RowKit

set_option maxRecDepth 100000 in
theorem lits_two (D : Nat) (xs : List Int) (hl : xs.length = 2) (hw : ∀ x ∈ xs, (Lit.int .i64 x).wf = true) : Try.prog.keyLits (D + 2) 42 (intL xs) = some (xs.map (Lit.int .i64)) := by
  unfold Program.keyLits
  rw [Try.underlying42]
  have e1 : Try.prog.cellsOf 42 = 2 := by kernel_rfl
  have e2 : Try.prog.cellsOf 3 = 1 := by kernel_rfl
  simp only [e1, e2]
  rw [if_pos (by rw [intL_length, hl])]
  have hm := mapM_some (fun i => Try.prog.keyLits (D + 1) 3 (((intL xs).drop (i * 1)).take 1)) (fun i => [Lit.int .i64 (xs.getD i 0)]) (List.range 2) fun i hi => by
    have hil := List.mem_range.1 hi
    have e : ((intL xs).drop (i * 1)).take 1 = [.int .i64 (xs.getD i 0)] := by
      rw [Nat.mul_one, List.drop_eq_getElem_cons (by rw [intL_length]; omega)]
      unfold intL
      simp [List.getD_eq_getElem?_getD, List.getElem?_eq_getElem (show i < xs.length by omega)]
    rw [e]
    exact lits_int D _ (hw _ (by rw [List.getD_eq_getElem?_getD, List.getElem?_eq_getElem (by omega)]; exact List.getElem_mem _))
  rw [hm, Option.map_some, flat_one]
  congr 1
  refine List.ext_getElem? fun i => ?_
  rw [List.getElem?_map, List.getElem?_map]
  by_cases hi : i < 2
  · rw [List.getElem?_range hi, List.getElem?_eq_getElem (show i < xs.length by omega)]
    simp [List.getD_eq_getElem?_getD, List.getElem?_eq_getElem (show i < xs.length by omega)]
  · rw [List.getElem?_eq_none (by simp; omega), List.getElem?_eq_none (by omega)]; rfl
theorem formed_two (xs : List Int) (hl : xs.length = 2) : (Value.agg (intL xs).toArray).formed Try.prog 42 = true := by
  unfold Value.formed
  rw [Try.underlying42]
  have e1 : Try.prog.cellsOf 42 = 2 := by kernel_rfl
  simp [e1, intL_length, hl]
set_option maxRecDepth 100000 in
theorem eq_two (xs ys : List Int) (w : World) (hx : xs.length = 2) (hy : ys.length = 2) (hwx : ∀ x ∈ xs, (Lit.int .i64 x).wf = true) (hwy : ∀ x ∈ ys, (Lit.int .i64 x).wf = true) :
    (Op.equalIn 10000 42 (.agg (intL xs).toArray) (.agg (intL ys).toArray)).run Try.prog w = .ok (decide (xs = ys)) w := by
  obtain ⟨r, h1, h2⟩ := run_equalIn_deep (P := Try.prog) 9998 2 42 (by kernel_rfl) w 2 2 (.agg (intL xs).toArray) (.agg (intL ys).toArray) _ _ (formed_two xs hx) (formed_two ys hy) (lits_two 0 xs hx hwx) (lits_two 0 ys hy hwy)
  rw [h1]
  congr 1
  rw [Bool.eq_iff_iff, h2, decide_eq_true_eq]
  exact ⟨map_lit_inj xs ys, fun h => by rw [h]⟩

/-- a pair is itself -/

theorem eq_pair (x y : Int) (w : World) (hx : (Lit.int .i64 x).wf = true) (hy : (Lit.int .i64 y).wf = true) : (Op.equalIn 10000 42 (.agg #[.int .i64 x, .int .i64 y]) (.agg #[.int .i64 x, .int .i64 y])).run Try.prog w = .ok true w := by
  have hw : ∀ z ∈ [x, y], (Lit.int .i64 z).wf = true := fun z hz => by
    rcases List.mem_cons.1 hz with rfl | h
    · exact hx
    · rw [List.mem_singleton.1 h]; exact hy
  have h := eq_two [x, y] [x, y] w rfl rfl hw hw
  rw [decide_eq_true rfl] at h
  exact h
end Go.Proofs.Ythmdlkaanjjbkaa
