/- More leaves, and smaller numbers: mathematics. -/
import Derived.Test.YtbbidgdgcbnanaaSome
import Derived.Test.YtbbidgdgcbnanaaNbs
namespace Go.Proofs.Ytbbidgdgcbnanaa
set_option linter.unusedVariables false
open Go.RowKit

theorem someN_mem {T : Tree} {of : List Int} {t : Int → Bool} {n : Nat} {x : Int} : x ∈ someN T of t n ↔ ∃ i : Nat, x = (i : Int) ∧ i < n ∧ kids T i = [] ∧ i < of.length ∧ t (of.getD i 0) = true := by
  unfold someN
  rw [List.mem_map]
  constructor
  · rintro ⟨i, h, rfl⟩
    rw [List.mem_filter, List.mem_range, Bool.and_eq_true, Bool.and_eq_true, decide_eq_true_eq, decide_eq_true_eq] at h
    exact ⟨i, rfl, h.1, h.2.1, h.2.2.1, h.2.2.2⟩
  · rintro ⟨i, rfl, h1, h2, h3, h4⟩
    refine ⟨i, ?_, rfl⟩
    rw [List.mem_filter, List.mem_range, Bool.and_eq_true, Bool.and_eq_true, decide_eq_true_eq, decide_eq_true_eq]
    exact ⟨h1, h2, h3, h4⟩
theorem someN_list (T : Tree) (of : List Int) (t : Int → Bool) : listB T (someN T of t T.length) = true := by
  unfold listB
  rw [Bool.and_eq_true, List.all_eq_true, decide_eq_true_eq]
  refine ⟨fun x hx => ?_, ?_⟩
  · obtain ⟨i, rfl, h1, h2, -⟩ := someN_mem.1 hx
    unfold leafB
    have h3 : (kidsZ T i).length = 0 := by rw [← kids_len, h2]; rfl
    simp [h1, List.eq_nil_of_length_eq_zero h3]
  · unfold someN
    rw [List.pairwise_map]
    refine (List.Pairwise.filter _ List.pairwise_lt_range).imp fun h => ?_
    omega
theorem mod_odd {x : Int} (h : modV x 2 = 1) : 0 < modV x 4 := by
  unfold modV at *
  have h0 : 0 ≤ IntKind.u64.wrap x := by
    simp only [IntKind.wrap, IntKind.bits, IntKind.signed]
    simp
    omega
  generalize IntKind.u64.wrap x = u at *
  rw [Int.tmod_eq_emod_of_nonneg h0] at *
  omega
theorem miss_mono {T : Tree} (hI : IsTree T) {xs ys : List Int} {b b' : Int} (h : ∀ i : Nat, (i : Int) ∈ xs → metB true b (worthOf T i) = true → (i : Int) ∈ ys ∧ metB true b' (worthOf T i) = true) : missN T xs true b = 0 → missN T ys true b' = 0 := by
  have hm := costs_mono hI (p := learnP T xs (metB true b)) (q := learnP T ys (metB true b')) true (fun i _ _ => by
    refine ⟨(learn_range _ _ _ _).1, (learn_range _ _ _ _).1, fun h2 => ?_⟩
    unfold learnP at h2
    by_cases e : (i : Int) ∈ xs
    · rw [if_pos e] at h2
      by_cases e2 : metB true b (worthOf T i) = true
      · obtain ⟨h3, h4⟩ := h i e e2
        unfold learnP
        rw [if_pos h3, if_pos h4]
      · rw [if_neg e2] at h2; omega
    · rw [if_neg e] at h2; omega) 0 hI.pos
  have hz : ∀ z : Int, missV z = 0 ↔ z = 0 := fun z => by unfold missV; split <;> omega
  unfold missN
  rw [hz, hz, costW_eq hI (learn_range T xs _) true 0 hI.pos, costW_eq hI (learn_range T ys _) true 0 hI.pos]
  exact hm.2.2
/-- the two lists of the statement -/
def oddN (T : Tree) (of : List Int) : List Int := someN T of (fun x => decide (modV x 2 = 1)) T.length
def moreN (T : Tree) (of : List Int) (n : Nat) : List Int := someN T of (fun x => decide (0 < modV x 4)) n
theorem more_facts {T : Tree} (hI : IsTree T) (of : List Int) (b : Int) (h : missN T (oddN T of) true b = 0) : missN T (oddN T of) true (b - 1) = 0 ∧ missN T (moreN T of T.length) true b = 0 := by
  refine ⟨miss_mono hI (fun i hi hm => ⟨hi, ?_⟩) h, miss_mono hI (fun i hi hm => ⟨?_, hm⟩) h⟩
  · unfold metB atLeast at *
    simp at hm ⊢
    omega
  · obtain ⟨j, h1, h2, h3, h4, h5⟩ := someN_mem.1 hi
    exact someN_mem.2 ⟨j, h1, h2, h3, h4, by rw [decide_eq_true_eq] at h5 ⊢; exact mod_odd h5⟩
end Go.Proofs.Ytbbidgdgcbnanaa
