/- The leaves that are reached through the heirs, in ascending order. -/
import Derived.Test.YtbbidgdgcbnanaaHrs
import Derived.Test.YtbbidgdgcbnanaaApp
import Derived.Test.YtbbidgdgcbnanaaNbs
namespace Go.Proofs.Ytbbidgdgcbnanaa
set_option linter.unusedVariables false
open Go.RowKit Go.Maps Go.Sort Go.Shelf

theorem foldl_min_mem {ι : Type} (p : ι → Int) : ∀ (l : List ι) (a : Int), (l.map p).foldl minI a = a ∨ ∃ c ∈ l, (l.map p).foldl minI a = p c
  | [], a => .inl rfl
  | c :: l, a => by
    rw [List.map_cons, List.foldl_cons]
    rcases foldl_min_mem p l (minI a (p c)) with h | ⟨d, hd, h⟩
    · rw [h]
      unfold minI
      rcases Int.le_total a (p c) with h2 | h2
      · exact .inl (by omega)
      · exact .inr ⟨c, List.mem_cons_self, by omega⟩
    · exact .inr ⟨d, List.mem_cons_of_mem _ hd, h⟩
theorem join_min_mem {ι : Type} (p : ι → Int) {l : List ι} (hn : l ≠ []) : ∃ c ∈ l, join1 minI (l.map p) = p c := by
  obtain ⟨c, cs, rfl⟩ := List.exists_cons_of_ne_nil hn
  rcases foldl_min_mem p cs (p c) with h | ⟨d, hd, h⟩
  · exact ⟨c, List.mem_cons_self, h⟩
  · exact ⟨d, List.mem_cons_of_mem _ hd, h⟩
/-- f has an heir wherever this side moves -/
def Heirs (T : Tree) (f : Nat → Int) (wanted : Bool) : Prop := ∀ i, i < T.length → kids T i ≠ [] → even T i = wanted → ∃ c ∈ kids T i, f c = f i
theorem costW_heirs {T : Tree} (h : IsTree T) (leaf : Nat → Int) (wanted : Bool) : Heirs T (costW T leaf wanted) wanted := fun i hi hk he => by
  obtain ⟨c, hc, e⟩ := join_min_mem (costW T leaf wanted) hk
  refine ⟨c, hc, ?_⟩
  rw [costW_step h leaf wanted hi, if_neg hk, if_pos he]
  exact e.symm
theorem heirN_mem {T : Tree} {f : Nat → Int} {i c0 : Nat} (h : c0 ∈ kids T i) (hf : f c0 = f i) : heirN T f i ∈ kids T i ∧ f (heirN T f i) = f i := by
  obtain ⟨c, hc⟩ : ∃ c, (kids T i).find? (fun c => decide (f c = f i)) = some c := by
    cases hr : (kids T i).find? fun c => decide (f c = f i) with
    | some c => exact ⟨c, rfl⟩
    | none => rw [List.find?_eq_none] at hr; exact absurd (decide_eq_true hf) (hr c0 h)
  have hh : heirN T f i = c := by unfold heirN; rw [hc]; rfl
  rw [hh]
  exact ⟨List.mem_of_find?_eq_some hc, by have := List.find?_some hc; simpa using this⟩
theorem nxH_kid {T : Tree} {f : Nat → Int} {wanted : Bool} (hH : Heirs T f wanted) {i c : Nat} (hi : i < T.length) (h : c ∈ nxH T f wanted i) : c ∈ kids T i := by
  unfold nxH at h
  by_cases e : kids T i = []
  · rw [if_pos e] at h; cases h
  · rw [if_neg e] at h
    by_cases e2 : even T i = wanted
    · rw [if_pos e2] at h
      obtain ⟨c0, hc0, hf⟩ := hH i hi e e2
      rw [List.mem_singleton] at h
      rw [h]; exact (heirN_mem hc0 hf).1
    · rw [if_neg e2] at h; exact h
theorem kids_le {T : Tree} (hI : IsTree T) (i : Nat) : (kids T i).length ≤ 60 := by
  have h3 := List.Nodup.length_le_of_subset (l₂ := List.range T.length) (hI.kids_nodup i) (fun c hc => List.mem_range.2 (hI.kid hc).2.1)
  rw [List.length_range] at h3
  have := hI.len
  omega
theorem nxH_le {T : Tree} (hI : IsTree T) (f : Nat → Int) (wanted : Bool) (i : Nat) : (nxH T f wanted i).length ≤ 60 := by
  unfold nxH
  by_cases e : kids T i = []
  · rw [if_pos e]; simp
  · rw [if_neg e]
    by_cases e2 : even T i = wanted
    · rw [if_pos e2]; simp
    · rw [if_neg e2]; exact kids_le hI i
theorem dep_le {T : Tree} (hT : treeB T = true) (i : Nat) : dep T i ≤ i := by
  unfold treeB at hT
  rw [Bool.and_eq_true] at hT
  obtain ⟨D, hD⟩ := Option.isSome_iff_exists.1 hT.2
  have := gameN_le hD i
  have h2 : dep T = D := by unfold dep; rw [hD]; rfl
  rw [h2]; exact this
theorem even_by {T : Tree} {wanted : Bool} {i : Nat} : even T i = wanted ↔ ((dep T i % 2 : Nat) : Int) = byI wanted := by
  unfold even byI
  cases wanted
  · rw [decide_eq_false_iff_not, if_neg (by simp)]; omega
  · rw [decide_eq_true_eq, if_pos rfl]; omega
theorem nexts_heirs (T : Tree) (hT : treeB T = true) (f : Nat → Int) (wanted : Bool) (hH : Heirs T f wanted) (g cap B M Bn Bs : Nat) (w0 : World) (ht : TreeAt w0 (some ⟨g, 0, none⟩) T) (hd : Deps w0 B T.length (dep T)) (hM : NumsAt w0 M T.length 0 f)
    (c0 : w0.cell? ⟨Bn, 0, none⟩ = some (.slice (some ⟨g, 0, none⟩) T.length cap)) (c1 : w0.cell? ⟨Bn, 1, none⟩ = some (.slice (some ⟨B, 0, none⟩) T.length T.length)) (cm : w0.cell? ⟨Bn, 2, none⟩ = some (.map (some M))) (c2 : w0.cell? ⟨Bs, 0, none⟩ = some (.int .i64 (byI wanted))) :
    Nexts (nxH T f wanted) T.length 96 #[.pointer (some ⟨Bn, 0, none⟩), .pointer (some ⟨Bs, 0, none⟩)] (fun X => Below w0.heap.size w0 X) := by
  intro m i X hi hX
  have hI := isTree_of hT
  have hn6 := hI.len
  obtain ⟨g', ra, rc, e1, k1, -, hlc, hrow⟩ := ht.node hi
  simp only [Option.some.injEq, Addr.mk.injEq, and_true] at e1
  subst e1
  rw [kids_row hI i] at hrow
  rw [← kids_len] at k1 hlc hrow
  have hcell : ∀ {a : Addr} {v : Value}, w0.cell? a = some v → X.cell? a = some v := fun h => (hX.cell (World.block_lt_of_cell? _ _ h)).trans h
  have hdi := World.rowIs.cell hd hi
  have hdle := dep_le hT i
  refine callsIn_wide.2 ?_
  by_cases hcond : (kids T i).length = 0 ∨ ((dep T i % 2 : Nat) : Int) ≠ byI wanted
  · have hnx : nxH T f wanted i = kids T i := by
      unfold nxH
      rcases hcond with h | h
      · rw [if_pos (List.eq_nil_of_length_eq_zero h)]; exact (List.eq_nil_of_length_eq_zero h).symm
      · by_cases e : kids T i = []
        · rw [if_pos e, e]
        · rw [if_neg e, if_neg (fun he => h (even_by.1 he))]
    rw [hnx]
    refine (heirs_kids i g cap T.length B M Bn Bs (dep T i) (byI wanted) ra (kids T i).length rc X hi (by omega) (by omega) (hcell c0) (hcell c1) (hcell c2) (hcell k1) (hcell hdi) hcond).mono ?_
    rintro e X' ⟨rfl, b⟩
    exact ⟨ra, rc, rfl, hrow.below (b_next hX b), grown_none b none, .inr fun Y hY => hrow.below hY⟩
  · have h1 : (kids T i).length ≠ 0 := fun h => hcond (.inl h)
    have h2 : ((dep T i % 2 : Nat) : Int) = byI wanted := Classical.byContradiction fun h => hcond (.inr h)
    have hk : kids T i ≠ [] := fun e => h1 (by rw [e]; rfl)
    have he := even_by.2 h2
    obtain ⟨c, hc, hf⟩ := hH i hi hk he
    have hnx : nxH T f wanted i = [heirN T f i] := by unfold nxH; rw [if_neg hk, if_pos he]
    rw [hnx]
    refine (heirs_one i g cap T.length B M Bn Bs (dep T i) (heirN T f i) ra (kids T i).length rc X hi (by omega) (by omega) (hcell c0) (hcell c1) (hcell cm) (by rw [h2]; exact hcell c2) (hcell k1) (hcell hdi) h1
      (fun W hW => heir_any T hT f i g cap M (.slice (some ⟨B, 0, none⟩) T.length T.length) rfl W (ht.below (b_next hX hW)) (hM.below (b_next hX hW)) hi hc hf)).mono ?_
    rintro e X' ⟨b, rfl, hr, hb⟩
    exact ⟨_, _, rfl, hr, grown_none hb none, .inl (Nat.le_refl _)⟩
/-- the leaves that the heirs lead to -/
def shownL (T : Tree) (f : Nat → Int) (wanted : Bool) : List Nat := (visN (nxH T f wanted) T.length 0).filter fun i => decide (kids T i = [])
theorem sorted_leaves (T : Tree) (hT : treeB T = true) (f : Nat → Int) (wanted : Bool) (hH : Heirs T f wanted) (g cap B M Bn Bs Gb Nb : Nat) (hN : (visN (nxH T f wanted) T.length 0).length ≤ 1000000) (w0 : World) (ht : TreeAt w0 (some ⟨g, 0, none⟩) T) (hd : Deps w0 B T.length (dep T)) (hM : NumsAt w0 M T.length 0 f)
    (c0 : w0.cell? ⟨Bn, 0, none⟩ = some (.slice (some ⟨g, 0, none⟩) T.length cap)) (c1 : w0.cell? ⟨Bn, 1, none⟩ = some (.slice (some ⟨B, 0, none⟩) T.length T.length)) (cm : w0.cell? ⟨Bn, 2, none⟩ = some (.map (some M))) (c2 : w0.cell? ⟨Bs, 0, none⟩ = some (.int .i64 (byI wanted)))
    (g0 : w0.cell? ⟨Gb, 0, none⟩ = some (.slice (some ⟨g, 0, none⟩) T.length cap)) (g1 : w0.cell? ⟨Gb, 1, none⟩ = some (.slice (some ⟨B, 0, none⟩) T.length T.length)) (n0 : w0.cell? ⟨Nb, 0, none⟩ = some (.func (.func 96) #[] #[.pointer (some ⟨Bn, 0, none⟩), .pointer (some ⟨Bs, 0, none⟩)])) :
    Calls Try.prog 100 #[.func (.func 103) #[] #[.pointer (some ⟨Nb, 0, none⟩), .pointer (some ⟨Gb, 0, none⟩)]] w0 fun e w' => ∃ v, e = .returned v ∧ w'.ownsRow w0.heap.size 3 1 v (sortN (shownL T f wanted)).length (intL (sortN (shownL T f wanted))) ∧ Below w0.heap.size w0 w' := by
  have hI := isTree_of hT
  have hn6 := hI.len
  have hcell : ∀ {X : World} {a : Addr} {v : Value}, Below w0.heap.size w0 X → w0.cell? a = some v → X.cell? a = some v := fun hX h => (hX.cell (World.block_lt_of_cell? _ _ h)).trans h
  refine (sorted_any T.length 103 #[.pointer (some ⟨Nb, 0, none⟩), .pointer (some ⟨Gb, 0, none⟩)] (enters_of Try.func103 (by kernel_rfl) rfl) (fun xs => xs = shownL T f wanted) (visN (nxH T f wanted) T.length 0).length hN w0 (fun X => Below w0.heap.size w0 X) (fun X h => h)
    (fun k X hk hX => leaves_visits (nxH T f wanted) (fun i => decide (kids T i = [])) T.length hI.pos (by omega) (fun i c hi hc => by have := hI.kid (nxH_kid hH hi hc); exact ⟨this.1, this.2.1⟩) (fun i _ => by have := nxH_le hI f wanted i; omega)
      96 #[.pointer (some ⟨Bn, 0, none⟩), .pointer (some ⟨Bs, 0, none⟩)] (enters_of Try.func96 (by kernel_rfl) rfl) _ (nexts_heirs T hT f wanted hH g cap B M Bn Bs w0 ht hd hM c0 c1 cm c2)
      (.slice (some ⟨g, 0, none⟩) T.length cap) (.slice (some ⟨B, 0, none⟩) T.length T.length) (fun i Y hi hY => by
        obtain ⟨g', ra, rc, e1, k1, -, -, -⟩ := (ht.below hY).node hi
        simp only [Option.some.injEq, Addr.mk.injEq, and_true] at e1
        subst e1
        refine (isLeaf_cell g i T.length cap (.slice (some ⟨B, 0, none⟩) T.length T.length) ra (kidsZ T i).length rc Y hi rfl k1 (World.block_lt_of_cell? _ _ k1)).mono ?_
        rintro e Y' ⟨rfl, b⟩
        refine ⟨ret_bool (decide_eq_decide.2 ?_), b⟩
        rw [← kids_len]; exact List.length_eq_zero_iff)
      k hk (w0.heap.size + 1) w0.heap.size Gb Nb (by omega) X hX (fun Y hY => ⟨hcell hY g0, hcell hY g1⟩) (fun Y hY => hcell hY n0))).mono ?_
  rintro e w' ⟨v, rfl, xs, rfl, ho, hb⟩
  exact ⟨v, rfl, by rw [sortN_len]; exact ho, hb⟩
end Go.Proofs.Ytbbidgdgcbnanaa
