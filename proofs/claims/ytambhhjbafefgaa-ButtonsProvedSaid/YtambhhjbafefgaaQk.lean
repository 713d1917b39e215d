/- Texts of buttons, joined: Optm, Slm, Slf, Lastq, Rslk, Rfix, Slp, Rpay. -/
import Derived.Test.YtambhhjbafefgaaQh
import Derived.Test.YtambhhjbafefgaaQa
import Derived.Test.YtambhhjbafefgaaQb
import Derived.Test.YtambhhjbafefgaaQc
import Derived.Test.YtambhhjbafefgaaQg
/- The search finds the first assignment in the order: mathematics. -/
namespace Go.Proofs.Ytambhhjbafefgaa
set_option linter.unusedVariables false

theorem cmpInt_negH (x y : Int) : Lib.compareInt y x = - Lib.compareInt x y := by
  unfold Lib.compareInt
  repeat' split
  all_goals omega
theorem cmpInt_zero {x y : Int} : Lib.compareInt x y = 0 ↔ x = y := by
  unfold Lib.compareInt
  repeat' split
  all_goals omega
theorem cmpL_neg : ∀ (a b : List Int), cmpL b a = - cmpL a b := by
  intro a
  induction a with
  | nil => intro b; cases b <;> simp [cmpL]
  | cons x a ih =>
    intro b
    cases b with
    | nil => simp [cmpL]
    | cons y b =>
      show (if y = x then cmpL b a else Lib.compareInt y x) = - (if x = y then cmpL a b else Lib.compareInt x y)
      by_cases e : x = y
      · rw [if_pos e, if_pos e.symm, ih b]
      · rw [if_neg e, if_neg (fun h => e h.symm), cmpInt_negH]
theorem cmpL_zero : ∀ (a b : List Int), cmpL a b = 0 → a = b := by
  intro a
  induction a with
  | nil => intro b h; cases b <;> simp_all [cmpL]
  | cons x a ih =>
    intro b h
    cases b with
    | nil => simp [cmpL] at h
    | cons y b =>
      have h' : (if x = y then cmpL a b else Lib.compareInt x y) = 0 := h
      by_cases e : x = y
      · rw [if_pos e] at h'
        rw [e, ih b h']
      · rw [if_neg e, cmpInt_zero] at h'
        exact absurd h' e
theorem cmpInt_le {x y : Int} : Lib.compareInt x y ≤ 0 ↔ x ≤ y := by
  unfold Lib.compareInt
  repeat' split
  all_goals omega
theorem cmpL_trans : ∀ (a b c : List Int), cmpL a b ≤ 0 → cmpL b c ≤ 0 → cmpL a c ≤ 0 := by
  intro a
  induction a with
  | nil => intro b c _ _; cases c <;> simp [cmpL]
  | cons x a ih =>
    intro b c h1 h2
    cases b with
    | nil => simp [cmpL] at h1
    | cons y b =>
      cases c with
      | nil => simp [cmpL] at h2
      | cons z c =>
        have h1' : (if x = y then cmpL a b else Lib.compareInt x y) ≤ 0 := h1
        have h2' : (if y = z then cmpL b c else Lib.compareInt y z) ≤ 0 := h2
        show (if x = z then cmpL a c else Lib.compareInt x z) ≤ 0
        by_cases e1 : x = y
        · by_cases e2 : y = z
          · rw [if_pos e1] at h1'
            rw [if_pos e2] at h2'
            rw [if_pos (e1.trans e2)]
            exact ih b c h1' h2'
          · rw [if_neg e2, cmpInt_le] at h2'
            rw [if_neg (by omega), cmpInt_le]
            omega
        · rw [if_neg e1, cmpInt_le] at h1'
          by_cases e2 : y = z
          · rw [if_neg (by omega), cmpInt_le]; omega
          · rw [if_neg e2, cmpInt_le] at h2'
            rw [if_neg (by omega), cmpInt_le]
            omega
/-- what ways are compared by -/
def keyW (x : Way) : List Int := x.t :: x.holes
theorem ordW_key (x y : Way) : ordW x y = cmpL (keyW x) (keyW y) := rfl
theorem keyW_inj {x y : Way} (h : keyW x = keyW y) : x = y := by
  obtain ⟨a, b, c, d, e, f, g, t⟩ := x
  obtain ⟨a', b', c', d', e', f', g', t'⟩ := y
  simp [keyW, Way.holes] at h
  simp [h]
theorem ordW_total (x y : Way) (h : ¬ ordW x y < 0) : ordW y x ≤ 0 := by
  rw [ordW_key] at h ⊢
  rw [cmpL_neg]; omega
theorem ordW_antisymm {x y : Way} (h1 : ordW x y ≤ 0) (h2 : ordW y x ≤ 0) : x = y := by
  rw [ordW_key] at h1 h2
  rw [cmpL_neg] at h2
  exact keyW_inj (cmpL_zero _ _ (by omega))
theorem ordW_trans {x y z : Way} (h1 : ordW x y ≤ 0) (h2 : ordW y z ≤ 0) : ordW x z ≤ 0 := by
  rw [ordW_key] at h1 h2 ⊢
  exact cmpL_trans _ _ _ h1 h2
theorem ordW_refl (x : Way) : ordW x x ≤ 0 := by rw [ordW_key, cmpL_self]; exact Int.le_refl _
theorem foldMin (l : List Way) : ∀ m, let r := l.foldl (fun m y => if ordW y m < 0 then y else m) m; (r = m ∨ r ∈ l) ∧ ordW r m ≤ 0 ∧ ∀ y ∈ l, ordW r y ≤ 0 := by
  induction l with
  | nil => intro m; exact ⟨.inl rfl, ordW_refl m, by simp⟩
  | cons a l ih =>
    intro m
    simp only [List.foldl_cons]
    by_cases h : ordW a m < 0
    · rw [if_pos h]
      obtain ⟨h1, h2, h3⟩ := ih a
      refine ⟨?_, ordW_trans h2 (by omega), fun y hy => ?_⟩
      · rcases h1 with h1 | h1
        · exact .inr (by rw [h1]; simp)
        · exact .inr (by simp [h1])
      · rcases List.mem_cons.1 hy with rfl | hy
        · exact h2
        · exact h3 y hy
    · rw [if_neg h]
      obtain ⟨h1, h2, h3⟩ := ih m
      refine ⟨?_, h2, fun y hy => ?_⟩
      · rcases h1 with h1 | h1
        · exact .inl h1
        · exact .inr (by simp [h1])
      · rcases List.mem_cons.1 hy with rfl | hy
        · exact ordW_trans h2 (ordW_total _ _ h)
        · exact h3 y hy
theorem minW_min {l : List Way} (h : l ≠ []) : minW l ∈ l ∧ ∀ y ∈ l, ordW (minW l) y ≤ 0 := by
  cases l with
  | nil => exact absurd rfl h
  | cons a l =>
    obtain ⟨h1, h2, h3⟩ := foldMin l a
    refine ⟨?_, fun y hy => ?_⟩
    · rcases h1 with h1 | h1
      · have e : minW (a :: l) = l.foldl (fun m y => if ordW y m < 0 then y else m) a := rfl
        rw [e, h1]; simp
      · exact List.mem_cons.2 (.inr h1)
    · rcases List.mem_cons.1 hy with rfl | hy
      · exact h2
      · exact h3 y hy
theorem cmpL_set : ∀ (a b : List Int) (i : Nat) (h : Int), a[i]? = b[i]? → cmpL (a.set i h) (b.set i h) = cmpL a b := by
  intro a
  induction a with
  | nil =>
    intro b i h e
    cases b with
    | nil => rfl
    | cons y b =>
      cases i with
      | zero => simp at e
      | succ i => rfl
  | cons x a ih =>
    intro b i h e
    cases b with
    | nil =>
      cases i with
      | zero => simp at e
      | succ i => rfl
    | cons y b =>
      cases i with
      | zero =>
        simp at e
        subst e
        show (if h = h then cmpL a b else _) = (if x = x then cmpL a b else _)
        rw [if_pos rfl, if_pos rfl]
      | succ i =>
        show (if x = y then cmpL (a.set i h) (b.set i h) else _) = (if x = y then cmpL a b else _)
        rw [ih b i h (by simpa using e)]
theorem put_mono {x y : Way} {b : Nat} (hb : b < 7) (h k : Int) (he : x.at b = y.at b) (ho : ordW x y ≤ 0) : ordW (x.put b h k) (y.put b h k) ≤ 0 := by
  have e1 : (x.put b h k).t = x.t + k := put_t x b h k
  have e2 : (y.put b h k).t = y.t + k := put_t y b h k
  unfold ordW at ho ⊢
  rw [e1, e2, put_holes _ _ _ _ hb, put_holes _ _ _ _ hb]
  have hx : x.holes[b]? = y.holes[b]? := by
    unfold Way.at at he
    rw [List.getD_eq_getElem?_getD, List.getD_eq_getElem?_getD, List.getElem?_eq_getElem (show b < x.holes.length from hb), List.getElem?_eq_getElem (show b < y.holes.length from hb)] at he
    rw [List.getElem?_eq_getElem (show b < x.holes.length from hb), List.getElem?_eq_getElem (show b < y.holes.length from hb)]
    exact congrArg some he
  rw [cmpL_set _ _ _ _ hx]
  by_cases e : x.t = y.t
  · rw [if_pos e] at ho
    rw [if_pos (by omega)]
    exact ho
  · rw [if_neg e, cmpInt_le] at ho
    rw [if_neg (by omega), cmpInt_le]
    omega
/-- all ways for the last f rows -/
def plc (C : List (List Int)) : Nat → Nat → List Way
  | 0, _ => [Way.zero]
  | f + 1, T => (List.range (C.getD (C.length - (f + 1)) []).length).flatMap fun j => if T.testBit j then [] else (plc C f (T ||| 1 <<< j)).map fun y => y.put (C.length - (f + 1)) j ((C.getD (C.length - (f + 1)) []).getD j 0)
theorem mem_plc {C : List (List Int)} {f T : Nat} {y : Way} : y ∈ plc C (f + 1) T ↔ ∃ j z, j < (C.getD (C.length - (f + 1)) []).length ∧ T.testBit j = false ∧ z ∈ plc C f (T ||| 1 <<< j) ∧ y = z.put (C.length - (f + 1)) j ((C.getD (C.length - (f + 1)) []).getD j 0) := by
  rw [plc, List.mem_flatMap]
  constructor
  · rintro ⟨j, hj, hy⟩
    rw [List.mem_range] at hj
    cases ht : T.testBit j with
    | true => rw [ht, if_pos rfl] at hy; cases hy
    | false =>
      rw [ht, if_neg (by simp)] at hy
      obtain ⟨z, hz, rfl⟩ := List.mem_map.1 hy
      exact ⟨j, z, List.mem_range.1 (List.mem_range.2 hj), ht, hz, rfl⟩
  · rintro ⟨j, z, hj, ht, hz, rfl⟩
    refine ⟨j, List.mem_range.2 hj, ?_⟩
    rw [ht, if_neg (by simp)]
    exact List.mem_map.2 ⟨z, hz, rfl⟩
theorem mem_waysOf {W : Nat → Way} {b T : Nat} {row : List Int} {k : Nat} {y : Way} : y ∈ waysOf W b T row k ↔ ∃ j, j < k ∧ T.testBit j = false ∧ y = (W (T ||| 1 <<< j)).put b j (row.getD j 0) := by
  unfold waysOf
  rw [List.mem_filterMap]
  constructor
  · rintro ⟨j, hj, hy⟩
    cases ht : T.testBit j with
    | true => rw [ht, if_pos rfl] at hy; cases hy
    | false =>
      rw [ht, if_neg (by simp)] at hy
      exact ⟨j, List.mem_range.1 hj, ht, (Option.some.inj hy).symm⟩
  · rintro ⟨j, hj, ht, rfl⟩
    exact ⟨j, List.mem_range.2 hj, by rw [ht, if_neg (by simp)]⟩
theorem plc_low {C : List (List Int)} (hn : C.length ≤ 7) : ∀ (f T : Nat), f ≤ C.length → ∀ y ∈ plc C f T, ∀ i, i < C.length - f → y.at i = 0 := by
  intro f
  induction f with
  | zero =>
    intro T _ y hy i hi
    obtain rfl : y = Way.zero := by simpa [plc] using hy
    unfold Way.at Way.zero Way.holes
    rcases lt7 (show i < 7 by omega) with rfl | rfl | rfl | rfl | rfl | rfl | rfl <;> rfl
  | succ f ih =>
    intro T hf y hy i hi
    obtain ⟨j, z, _, _, hz, rfl⟩ := mem_plc.1 hy
    rw [put_ne z (by omega) (by omega) (by omega)]
    exact ih _ (by omega) z hz i (by omega)
theorem first_min {C : List (List Int)} {m : Nat} (hR : Rect C m) : ∀ (f T : Nat), f ≤ C.length → Fits T f m → firstW C f T ∈ plc C f T ∧ ∀ y ∈ plc C f T, ordW (firstW C f T) y ≤ 0 := by
  intro f
  induction f with
  | zero =>
    intro T _ _
    refine ⟨by simp [plc, firstW], fun y hy => ?_⟩
    obtain rfl : y = Way.zero := by simpa [plc] using hy
    exact ordW_refl _
  | succ f ih =>
    intro T hf hT
    have hn7 := hR.n7
    obtain ⟨b, hb⟩ : ∃ b, C.length - (f + 1) = b := ⟨_, rfl⟩
    have hrow : (C.getD b []).length = m := by
      rw [List.getD_eq_getElem?_getD, List.getElem?_eq_getElem (by omega)]
      exact hR.len _ (List.getElem_mem _)
    have hw : firstW C (f + 1) T = minW (waysOf (firstW C f) b T (C.getD b []) m) := by rw [firstW, hb, hrow]
    have hne : waysOf (firstW C f) b T (C.getD b []) m ≠ [] := fun e => by
      obtain ⟨j, hj, ht⟩ := hT.some
      have : (firstW C f (T ||| 1 <<< j)).put b j ((C.getD b []).getD j 0) ∈ waysOf (firstW C f) b T (C.getD b []) m := mem_waysOf.2 ⟨j, hj, ht, rfl⟩
      rw [e] at this
      cases this
    obtain ⟨h1, h2⟩ := minW_min hne
    rw [hw]
    refine ⟨?_, fun y hy => ?_⟩
    · obtain ⟨j, hj, ht, he⟩ := mem_waysOf.1 h1
      rw [he]
      exact mem_plc.2 ⟨j, _, by rw [hb, hrow]; exact hj, ht, (ih _ (by omega) (hT.next j)).1, by rw [hb]⟩
    · obtain ⟨j, z, hj, ht, hz, rfl⟩ := mem_plc.1 hy
      rw [hb, hrow] at hj
      rw [hb]
      obtain ⟨h3, h4⟩ := ih (T ||| 1 <<< j) (by omega) (hT.next j)
      refine ordW_trans (h2 _ (mem_waysOf.2 ⟨j, hj, ht, rfl⟩)) (put_mono (by omega) _ _ ?_ (h4 z hz))
      rw [plc_low hn7 f _ (by omega) _ h3 b (by omega), plc_low hn7 f _ (by omega) _ hz b (by omega)]
theorem put_comm (x : Way) {b b' : Nat} (hb : b < 7) (hb' : b' < 7) (h : b ≠ b') (p q k l : Int) : (x.put b p k).put b' q l = (x.put b' q l).put b p k := by
  obtain ⟨x0, x1, x2, x3, x4, x5, x6, t⟩ := x
  rcases lt7 hb with rfl | rfl | rfl | rfl | rfl | rfl | rfl <;> rcases lt7 hb' with rfl | rfl | rfl | rfl | rfl | rfl | rfl <;>
    first
      | exact absurd rfl h
      | (simp only [Way.put]; rw [Int.add_right_comm])
theorem visW_put {C : List (List Int)} (p : Nat) (q k : Int) : ∀ (m b T : Nat) (x : Way), p < b → b + m ≤ 7 → visW C m b T (x.put p q k) = (visW C m b T x).map fun y => y.put p q k := by
  intro m
  induction m with
  | zero => intro b T x _ _; rfl
  | succ m ih =>
    intro b T x hp hb
    show ((List.range C.length).flatMap fun h => if T.testBit h then [] else visW C m (b + 1) (T ||| 1 <<< h) ((x.put p q k).put b h (cost C b h))) = ((List.range C.length).flatMap fun h => if T.testBit h then [] else visW C m (b + 1) (T ||| 1 <<< h) (x.put b h (cost C b h))).map _
    rw [List.map_flatMap]
    refine flatMap_congr' fun h _ => ?_
    cases T.testBit h with
    | true => rfl
    | false =>
      simp only [Bool.false_eq_true, if_false]
      rw [put_comm x (by omega) (by omega) (by omega), ih (b + 1) _ _ (by omega) (by omega)]
theorem vis_plc {C : List (List Int)} (hR : Rect C C.length) : ∀ (m b T : Nat), b + m = C.length → visW C m b T Way.zero = plc C m T := by
  have hn7 := hR.n7
  intro m
  induction m with
  | zero => intro b T _; rfl
  | succ m ih =>
    intro b T hb
    have hrow : (C.getD b []).length = C.length := by
      rw [List.getD_eq_getElem?_getD, List.getElem?_eq_getElem (by omega)]
      exact hR.len _ (List.getElem_mem _)
    have he : C.length - (m + 1) = b := by omega
    rw [plc, he, hrow]
    show ((List.range C.length).flatMap fun h => if T.testBit h then [] else visW C m (b + 1) (T ||| 1 <<< h) (Way.zero.put b h (cost C b h))) = _
    refine flatMap_congr' fun h _ => ?_
    cases T.testBit h with
    | true => rfl
    | false =>
      simp only [Bool.false_eq_true, if_false]
      rw [visW_put b h _ m (b + 1) _ _ (by omega) (by omega), ih (b + 1) _ (by omega)]; rfl
theorem best_min {C : List (List Int)} (hw : costsB C = true) : bestW C ∈ asgW C ∧ ∀ y ∈ asgW C, ordW (bestW C) y ≤ 0 := by
  obtain ⟨hR, hp⟩ := Rect.of_costs hw
  have h := first_min hR C.length 0 (Nat.le_refl _) (fits_zero _ _ (Nat.le_refl _))
  rw [← vis_plc hR C.length 0 0 (by omega)] at h
  exact h
theorem best_item {C : List (List Int)} (hw : costsB C = true) : bestW C = itemW C 0 := by
  obtain ⟨hR, hp⟩ := Rect.of_costs hw
  have hn7 := hR.n7
  have hpos := asgW_pos hn7
  obtain ⟨h1, h2⟩ := best_min hw
  obtain ⟨h3, _⟩ := itemW_in (C := C) (k := 0) (by omega)
  have h4 := item_index hn7 (C := C) (k := 0) (by omega)
  have h5 : ¬ ordW (bestW C) (itemW C 0) < 0 := fun h => by
    have : bestW C ∈ (asgW C).filter fun x => decide (ordW x (itemW C 0) < 0) := List.mem_filter.2 ⟨h1, decide_eq_true h⟩
    rw [List.length_eq_zero_iff.1 h4] at this
    cases this
  exact ordW_antisymm (h2 _ h3) (ordW_total _ _ h5)
end Go.Proofs.Ytambhhjbafefgaa

/- Smallest totals with a button in a hole, or without it: mathematics. -/
namespace Go.Proofs.Ytambhhjbafefgaa
set_option linter.unusedVariables false

/-- the ways of rows, as lists, with their totals -/
def plR : List (List Int) → Nat → List (List Int × Int)
  | [], _ => [([], 0)]
  | row :: C, T => (List.range row.length).flatMap fun j => if T.testBit j then [] else (plR C (T ||| 1 <<< j)).map fun p => ((j : Int) :: p.1, p.2 + row.getD j 0)
theorem mem_plR {row : List Int} {C : List (List Int)} {T : Nat} {p : List Int × Int} : p ∈ plR (row :: C) T ↔ ∃ j q, j < row.length ∧ T.testBit j = false ∧ q ∈ plR C (T ||| 1 <<< j) ∧ p = ((j : Int) :: q.1, q.2 + row.getD j 0) := by
  rw [plR, List.mem_flatMap]
  constructor
  · rintro ⟨j, hj, hy⟩
    cases ht : T.testBit j with
    | true => rw [ht, if_pos rfl] at hy; cases hy
    | false =>
      rw [ht, if_neg (by simp)] at hy
      obtain ⟨z, hz, rfl⟩ := List.mem_map.1 hy
      exact ⟨j, z, List.mem_range.1 hj, ht, hz, rfl⟩
  · rintro ⟨j, z, hj, ht, hz, rfl⟩
    refine ⟨j, List.mem_range.2 hj, ?_⟩
    rw [ht, if_neg (by simp)]
    exact List.mem_map.2 ⟨z, hz, rfl⟩
/-- the row and the total of a way for the last f rows -/
def rowF (b f : Nat) (y : Way) : List Int × Int := ((y.holes.drop b).take f, y.t)
theorem put_rowF (z : Way) {b : Nat} (hb : b < 7) (f : Nat) (j c : Int) : rowF b (f + 1) (z.put b j c) = (j :: (rowF (b + 1) f z).1, (rowF (b + 1) f z).2 + c) := by
  unfold rowF
  rw [put_t]
  rcases lt7 hb with rfl | rfl | rfl | rfl | rfl | rfl | rfl <;> rfl
theorem plc_plR {C : List (List Int)} (hn : C.length ≤ 7) : ∀ (f T : Nat), f ≤ C.length → (plc C f T).map (rowF (C.length - f) f) = plR (C.drop (C.length - f)) T := by
  intro f
  induction f with
  | zero =>
    intro T _
    rw [Nat.sub_zero, List.drop_length]
    rfl
  | succ f ih =>
    intro T hf
    obtain ⟨b, hb⟩ : ∃ b, C.length - (f + 1) = b := ⟨_, rfl⟩
    have hb1 : C.length - f = b + 1 := by omega
    have hbl : b < C.length := by omega
    have hrow : C.getD b [] = C[b] := by rw [List.getD_eq_getElem?_getD, List.getElem?_eq_getElem hbl]; rfl
    rw [plc, hb, hrow, List.drop_eq_getElem_cons hbl, plR, List.map_flatMap]
    refine flatMap_congr' fun j _ => ?_
    cases T.testBit j with
    | true => rfl
    | false =>
      simp only [Bool.false_eq_true, if_false]
      rw [← hb1, ← ih _ (by omega), List.map_map, List.map_map]
      refine List.map_congr_left fun z _ => ?_
      show rowF b (f + 1) (z.put b j _) = _
      rw [put_rowF z (by omega), hb1]; rfl
theorem plR_free {C : List (List Int)} : ∀ (T : Nat) (p : List Int × Int), p ∈ plR C T → p.1.length = C.length ∧ ∀ x ∈ p.1, ∃ j : Nat, x = j ∧ T.testBit j = false := by
  induction C with
  | nil =>
    intro T p hp
    obtain rfl : p = ([], 0) := by simpa [plR] using hp
    exact ⟨rfl, by simp⟩
  | cons row C ih =>
    intro T p hp
    obtain ⟨j, q, _, ht, hq, rfl⟩ := mem_plR.1 hp
    obtain ⟨h1, h2⟩ := ih _ q hq
    refine ⟨by simp [h1], fun x hx => ?_⟩
    rcases List.mem_cons.1 hx with rfl | hx
    · exact ⟨j, rfl, ht⟩
    · obtain ⟨j', e, h3⟩ := h2 x hx
      rw [bit_or, Bool.or_eq_false_iff] at h3
      exact ⟨j', e, h3.1⟩
theorem or_swap (T h j : Nat) : (T ||| 1 <<< h) ||| 1 <<< j = (T ||| 1 <<< j) ||| 1 <<< h := by
  rw [Nat.or_assoc, Nat.or_comm (1 <<< h), ← Nat.or_assoc]
theorem plR_erase : ∀ (C : List (List Int)) (i T : Nat) (p : List Int × Int) (j : Nat), i < C.length → p ∈ plR C T → p.1[i]? = some (j : Int) → (p.1.eraseIdx i, p.2 - cost C i j) ∈ plR (C.eraseIdx i) (T ||| 1 <<< j) := by
  intro C
  induction C with
  | nil => intro i T p j hi; simp at hi
  | cons row C ih =>
    intro i T p j hi hp hj
    obtain ⟨h, q, hh, ht, hq, rfl⟩ := mem_plR.1 hp
    cases i with
    | zero =>
      have e : h = j := by simp at hj; omega
      subst e
      show (q.1, q.2 + row.getD h 0 - row.getD h 0) ∈ plR C _
      rw [show q.2 + row.getD h 0 - row.getD h 0 = q.2 by omega]
      exact hq
    | succ i =>
      have hj' : q.1[i]? = some (j : Int) := by simpa using hj
      have h1 := ih i _ q j (by simpa using hi) hq hj'
      obtain ⟨j', e, h3⟩ := (plR_free _ q hq).2 _ (List.mem_of_getElem? hj')
      have e' : j' = j := by omega
      subst e'
      rw [bit_or, Bool.or_eq_false_iff] at h3
      have hne : h ≠ j' := of_decide_eq_false h3.2
      show ((h : Int) :: q.1.eraseIdx i, q.2 + row.getD h 0 - cost C i j') ∈ plR (row :: C.eraseIdx i) _
      refine mem_plR.2 ⟨h, (q.1.eraseIdx i, q.2 - cost C i j'), hh, by rw [bit_or, ht, decide_eq_false (fun e => hne e.symm)]; rfl, by rw [or_swap]; exact h1, ?_⟩
      simp only [Prod.mk.injEq, true_and]
      omega
theorem plR_insert : ∀ (C : List (List Int)) (i T : Nat) (q : List Int × Int) (j : Nat), i < C.length → j < (C.getD i []).length → T.testBit j = false → q ∈ plR (C.eraseIdx i) (T ||| 1 <<< j) → ∃ p ∈ plR C T, p.1[i]? = some (j : Int) ∧ p.2 = q.2 + cost C i j := by
  intro C
  induction C with
  | nil => intro i T q j hi; simp at hi
  | cons row C ih =>
    intro i T q j hi hjl hT hq
    cases i with
    | zero => exact ⟨((j : Int) :: q.1, q.2 + row.getD j 0), mem_plR.2 ⟨j, q, hjl, hT, hq, rfl⟩, rfl, rfl⟩
    | succ i =>
      obtain ⟨h, z, hh, ht, hz, rfl⟩ := mem_plR.1 (show q ∈ plR (row :: C.eraseIdx i) _ from hq)
      rw [bit_or, Bool.or_eq_false_iff] at ht
      have hne : j ≠ h := of_decide_eq_false ht.2
      obtain ⟨p, hp, h1, h2⟩ := ih i (T ||| 1 <<< h) z j (by simpa using hi) hjl (by rw [bit_or, hT, decide_eq_false (fun e => hne e.symm)]; rfl) (by rw [or_swap]; exact hz)
      refine ⟨((h : Int) :: p.1, p.2 + row.getD h 0), mem_plR.2 ⟨h, p, hh, ht.1, hp, rfl⟩, by simpa using h1, ?_⟩
      show p.2 + row.getD h 0 = z.2 + row.getD h 0 + cost C i j
      omega
theorem plR_mono : ∀ (C : List (List Int)) (T j : Nat) (p : List Int × Int), p ∈ plR C (T ||| 1 <<< j) → p ∈ plR C T := by
  intro C
  induction C with
  | nil => intro T j p hp; exact hp
  | cons row C ih =>
    intro T j p hp
    obtain ⟨h, q, hh, ht, hq, rfl⟩ := mem_plR.1 hp
    rw [bit_or, Bool.or_eq_false_iff] at ht
    rw [or_swap] at hq
    exact mem_plR.2 ⟨h, q, hh, ht.1, ih _ j q hq, rfl⟩
theorem plR_add : ∀ (C : List (List Int)) (T j : Nat) (p : List Int × Int), p ∈ plR C T → (j : Int) ∉ p.1 → p ∈ plR C (T ||| 1 <<< j) := by
  intro C
  induction C with
  | nil => intro T j p hp _; exact hp
  | cons row C ih =>
    intro T j p hp hj
    obtain ⟨h, q, hh, ht, hq, rfl⟩ := mem_plR.1 hp
    have h1 : j ≠ h := fun e => hj (by rw [e]; simp)
    have h2 : (j : Int) ∉ q.1 := fun e => hj (by simp [e])
    refine mem_plR.2 ⟨h, q, hh, by rw [bit_or, ht, decide_eq_false h1]; rfl, ?_, rfl⟩
    rw [or_swap]
    exact ih _ j q hq h2
/-- the search's total is the smallest one -/
theorem first_tot {C : List (List Int)} {m : Nat} (hR : Rect C m) (T : Nat) (hT : Fits T C.length m) : (∃ p ∈ plR C T, p.2 = (firstW C C.length T).t) ∧ ∀ p ∈ plR C T, (firstW C C.length T).t ≤ p.2 := by
  obtain ⟨h1, h2⟩ := first_min hR C.length T (Nat.le_refl _) hT
  have h3 := plc_plR hR.n7 C.length T (Nat.le_refl _)
  rw [Nat.sub_self, List.drop_zero] at h3
  rw [← h3]
  refine ⟨⟨_, List.mem_map.2 ⟨_, h1, rfl⟩, rfl⟩, fun p hp => ?_⟩
  obtain ⟨y, hy, rfl⟩ := List.mem_map.1 hp
  have h4 := h2 y hy
  unfold ordW at h4
  show _ ≤ y.t
  by_cases e : (firstW C C.length T).t = y.t
  · omega
  · rw [if_neg e, cmpInt_le] at h4; exact h4
/-- all assignments, with their totals -/
theorem plR_all {C : List (List Int)} (hw : costsB C = true) (p : List Int × Int) : p ∈ plR C 0 ↔ p.1 ∈ allL C.length C.length ∧ p.2 = totL C C.length p.1 := by
  obtain ⟨hR, hp⟩ := Rect.of_costs hw
  have hn7 := hR.n7
  have h3 := plc_plR hn7 C.length 0 (Nat.le_refl _)
  rw [Nat.sub_self, List.drop_zero, ← vis_plc hR C.length 0 0 (by omega)] at h3
  rw [← h3, ← asgW_rows hn7]
  constructor
  · intro h
    obtain ⟨y, hy, rfl⟩ := List.mem_map.1 h
    refine ⟨List.mem_map.2 ⟨y, hy, rfl⟩, ?_⟩
    show y.t = totL C C.length (y.holes.take C.length)
    unfold totL
    rw [asgW_way hn7 y hy]
  · rintro ⟨h1, h2⟩
    obtain ⟨y, hy, he⟩ := List.mem_map.1 h1
    refine List.mem_map.2 ⟨y, hy, ?_⟩
    obtain ⟨p1, p2⟩ := p
    simp only at he h2
    unfold rowF
    rw [h2, ← he, List.drop_zero]
    unfold totL
    rw [asgW_way hn7 y hy]
end Go.Proofs.Ytambhhjbafefgaa

/- Slacks, as the reference counts them: mathematics. -/
namespace Go.Proofs.Ytambhhjbafefgaa
set_option linter.unusedVariables false

theorem fold_min {α : Type} (P : α → Bool) (f : α → Int) (v : Int) : ∀ (l : List α) (s : Int), (∀ r ∈ l, P r = true → v ≤ f r) → ((∃ r ∈ l, P r = true ∧ f r = v) ∨ s = v) → v ≤ s → l.foldl (fun m r => if P r then min m (f r) else m) s = v := by
  intro l
  induction l with
  | nil =>
    intro s _ h2 _
    rcases h2 with ⟨r, hr, _⟩ | h2
    · cases hr
    · exact h2
  | cons x l ih =>
    intro s h1 h2 h3
    rw [List.foldl_cons]
    cases hx : P x with
    | false =>
      rw [if_neg (by simp)]
      refine ih s (fun r hr => h1 r (by simp [hr])) ?_ h3
      rcases h2 with ⟨r, hr, hp, he⟩ | h2
      · rcases List.mem_cons.1 hr with rfl | hr
        · rw [hx] at hp; cases hp
        · exact .inl ⟨r, hr, hp, he⟩
      · exact .inr h2
    | true =>
      rw [if_pos rfl]
      have h4 := h1 x (by simp) hx
      refine ih _ (fun r hr => h1 r (by simp [hr])) ?_ (by omega)
      rcases h2 with ⟨r, hr, hp, he⟩ | h2
      · rcases List.mem_cons.1 hr with rfl | hr
        · exact .inr (by omega)
        · exact .inl ⟨r, hr, hp, he⟩
      · exact .inr (by omega)
theorem best_tot {C : List (List Int)} (hw : costsB C = true) : (∃ r ∈ allL C.length C.length, totL C C.length r = (bestW C).t) ∧ ∀ r ∈ allL C.length C.length, (bestW C).t ≤ totL C C.length r := by
  obtain ⟨hR, hp⟩ := Rect.of_costs hw
  obtain ⟨⟨p, h1, h2⟩, h3⟩ := first_tot hR 0 (fits_zero _ _ (Nat.le_refl _))
  refine ⟨?_, fun r hr => h3 (r, totL C C.length r) ((plR_all hw _).2 ⟨hr, rfl⟩)⟩
  obtain ⟨h4, h5⟩ := (plR_all hw p).1 h1
  exact ⟨p.1, h4, by rw [← h5, h2]; rfl⟩
theorem slack_tot {C : List (List Int)} (hw : costsB C = true) {i j : Nat} (hi : i < C.length) (hj : j < C.length) :
    (∃ r ∈ allL C.length C.length, r[i]? = some (j : Int) ∧ totL C C.length r = cost C i j + (firstW (C.eraseIdx i) (C.length - 1) (1 <<< j)).t) ∧
      ∀ r ∈ allL C.length C.length, r[i]? = some (j : Int) → cost C i j + (firstW (C.eraseIdx i) (C.length - 1) (1 <<< j)).t ≤ totL C C.length r := by
  obtain ⟨hR, hp⟩ := Rect.of_costs hw
  have hl : (C.eraseIdx i).length = C.length - 1 := by rw [List.length_eraseIdx, if_pos hi]
  obtain ⟨⟨q, h1, h2⟩, h3⟩ := first_tot (hR.erase i) (1 <<< j) (by rw [hl]; exact fits_one _ _ hp)
  rw [hl] at h2 h3
  have hrow : (C.getD i []).length = C.length := by
    rw [List.getD_eq_getElem?_getD, List.getElem?_eq_getElem hi]
    exact hR.len _ (List.getElem_mem _)
  constructor
  · obtain ⟨p, h4, h5, h6⟩ := plR_insert C i 0 q j hi (by omega) (Nat.zero_testBit _) (by rw [Nat.zero_or]; exact h1)
    obtain ⟨h7, h8⟩ := (plR_all hw p).1 h4
    exact ⟨p.1, h7, h5, by rw [← h8]; omega⟩
  · intro r hr hrj
    have h4 := plR_erase C i 0 (r, totL C C.length r) j hi ((plR_all hw _).2 ⟨hr, rfl⟩) hrj
    rw [Nat.zero_or] at h4
    have h5 := h3 _ h4
    simp only at h5
    omega
/-- the reference's entry of the slacks -/
def rslE (C : List (List Int)) (i j : Nat) (l : List (List Int)) : Int := l.foldl (fun m r => if decide (r.getD i 0 = (j : Int)) then min m (totL C C.length r - (bestW C).t) else m) 14000
theorem getD_some {r : List Int} {i : Nat} (hi : i < r.length) (x : Int) : r.getD i 0 = x ↔ r[i]? = some x := by
  rw [List.getD_eq_getElem?_getD, List.getElem?_eq_getElem hi]; simp
theorem slack_entry {C : List (List Int)} (hw : costsB C = true) {i j : Nat} (hi : i < C.length) (hj : j < C.length) : rslE C i j (allL C.length C.length) = (slackLine C i).getD j 0 := by
  obtain ⟨hR, hp⟩ := Rect.of_costs hw
  obtain ⟨⟨r, h1, h2, h3⟩, h4⟩ := slack_tot hw hi hj
  have hlen := fun r (hr : r ∈ allL C.length C.length) => (allL_good C.length C.length r hr).1
  have he : (slackLine C i).getD j 0 = cost C i j + (firstW (C.eraseIdx i) (C.length - 1) (1 <<< j)).t - (bestW C).t := by
    unfold slackLine
    rw [List.getD_eq_getElem?_getD, List.getElem?_map, List.getElem?_range hj]; rfl
  have hn7 := hR.n7
  have hb := firstW_t hR C.length 0
  have ht := wayP_t hR r C.length
  have ht' : totL C C.length r = (wayP C r C.length).t := rfl
  have hb' : (firstW C C.length 0).t = (bestW C).t := rfl
  rw [he]
  refine fold_min _ _ _ _ _ (fun r hr hP => ?_) (.inl ⟨r, h1, decide_eq_true ((getD_some (by rw [hlen r h1]; exact hi) _).2 h2), by omega⟩) (by omega)
  have := h4 r hr ((getD_some (by rw [hlen r hr]; exact hi) _).1 (of_decide_eq_true hP))
  omega
theorem rslE_step (C : List (List Int)) (i j : Nat) (l : List (List Int)) (k : Nat) (r : List Int) (h : l[k]? = some r) : rslE C i j (l.take (k + 1)) = if decide (r.getD i 0 = (j : Int)) then min (rslE C i j (l.take k)) (totL C C.length r - (bestW C).t) else rslE C i j (l.take k) := by
  unfold rslE
  rw [List.take_add_one, h, Option.toList, List.foldl_append]; rfl
theorem rslE_range {C : List (List Int)} (hw : costsB C = true) (i j : Nat) : ∀ l : List (List Int), -14000 ≤ rslE C i j l ∧ rslE C i j l ≤ 14000 := by
  obtain ⟨hR, hp⟩ := Rect.of_costs hw
  have hn7 := hR.n7
  have hb := firstW_t hR C.length 0
  have hb' : (firstW C C.length 0).t = (bestW C).t := rfl
  have hs : ∀ (l : List (List Int)) (s : Int), -14000 ≤ s ∧ s ≤ 14000 → -14000 ≤ l.foldl (fun m r => if decide (r.getD i 0 = (j : Int)) then min m (totL C C.length r - (bestW C).t) else m) s ∧ l.foldl (fun m r => if decide (r.getD i 0 = (j : Int)) then min m (totL C C.length r - (bestW C).t) else m) s ≤ 14000 := by
    intro l
    induction l with
    | nil => intro s h; exact h
    | cons r l ih =>
      intro s h
      rw [List.foldl_cons]
      refine ih _ ?_
      have ht := wayP_t hR r C.length
      have ht' : totL C C.length r = (wayP C r C.length).t := rfl
      split
      · omega
      · exact h
  exact fun l => hs l _ (by omega)
theorem slackLine_eq {C : List (List Int)} (hw : costsB C = true) {i : Nat} (hi : i < C.length) : slackLine C i = (List.range C.length).map fun j => rslE C i j (allL C.length C.length) := by
  refine List.ext_getElem (by simp [slackLine]) fun j h1 h2 => ?_
  have hj : j < C.length := by simpa [slackLine] using h1
  rw [List.getElem_map, List.getElem_range, slack_entry hw hi hj, List.getD_eq_getElem?_getD, List.getElem?_eq_getElem h1]; rfl
theorem slackL_take (C : List (List Int)) (k : Nat) (hk : k < C.length) : (slackL C).take (k + 1) = (slackL C).take k ++ [slackLine C k] := by
  rw [List.take_add_one]
  unfold slackL
  rw [List.getElem?_map, List.getElem?_range hk]; rfl
end Go.Proofs.Ytambhhjbafefgaa

/- Regions of seventeen operations whose last one is a store. -/
namespace Go.Proofs.Ytambhhjbafefgaa
set_option linter.unusedVariables false
open Go.RowKit

theorem wp_region_last17 {P : Program} {x0 x1 x2 x3 x4 x5 x6 x7 x8 x9 x10 x11 x12 x13 x14 x15 o : Oper} {Q : Exit → Act → World → Prop} (S : World → Prop) {id : Nat} {a : Act} {w : World} (hm : P.follows .mixedOrders = true) (hok : lastOkB .any [x0, x1, x2, x3, x4, x5, x6, x7, x8, x9, x10, x11, x12, x13, x14, x15] o = true) (hS : S w.drew)
    (h : S w.drew → wpAnyH P .any #[x0, x1, x2, x3, x4, x5, x6, x7, x8, x9, x10, x11, x12, x13, x14, x15] (lastQ P o Q) S 16 #[false, false, false, false, false, false, false, false, false, false, false, false, false, false, false, false] a w.drew) : (Code.region id #[x0, x1, x2, x3, x4, x5, x6, x7, x8, x9, x10, x11, x12, x13, x14, x15, o] true).wp P Q a w :=
  wp_region_last (pre := [x0, x1, x2, x3, x4, x5, x6, x7, x8, x9, x10, x11, x12, x13, x14, x15]) hm rfl hok hS h

section
variable {P : Program} {x0 x1 x2 x3 x4 x5 x6 x7 x8 x9 x10 x11 x12 x13 x14 x15 : Oper} {Q : Exit → Act → World → Prop} {md : Region.Mode} {S : World → Prop} {v : Value} {fuel : Nat} {listed : Array Bool} {a : Act} {w : World}
theorem take16_0 (hs : Region.noSelect #[x0, x1, x2, x3, x4, x5, x6, x7, x8, x9, x10, x11, x12, x13, x14, x15] = true) (hf : Region.free md #[x0, x1, x2, x3, x4, x5, x6, x7, x8, x9, x10, x11, x12, x13, x14, x15] listed 0 = true) (hr : (Region.ready md #[x0, x1, x2, x3, x4, x5, x6, x7, x8, x9, x10, x11, x12, x13, x14, x15] listed).contains 0 = true)
    (hQ : ∀ c a w, Q (.panic c) (a.put x0.dst v) w → Q (.panic c) a w) (hy : YieldsIf P #[x0, x1, x2, x3, x4, x5, x6, x7, x8, x9, x10, x11, x12, x13, x14, x15] S x0 v a) (hS : S w)
    (h : wpAnyH P md #[x0, x1, x2, x3, x4, x5, x6, x7, x8, x9, x10, x11, x12, x13, x14, x15] Q S fuel (listed.setIfInBounds 0 true) (a.put x0.dst v) w) : wpAnyH P md #[x0, x1, x2, x3, x4, x5, x6, x7, x8, x9, x10, x11, x12, x13, x14, x15] Q S (fuel + 1) listed a w :=
  wpAnyH_take (i := 0) (oi := x0) rfl hs hf hr hQ hy hS h
theorem take16_1 (hs : Region.noSelect #[x0, x1, x2, x3, x4, x5, x6, x7, x8, x9, x10, x11, x12, x13, x14, x15] = true) (hf : Region.free md #[x0, x1, x2, x3, x4, x5, x6, x7, x8, x9, x10, x11, x12, x13, x14, x15] listed 1 = true) (hr : (Region.ready md #[x0, x1, x2, x3, x4, x5, x6, x7, x8, x9, x10, x11, x12, x13, x14, x15] listed).contains 1 = true)
    (hQ : ∀ c a w, Q (.panic c) (a.put x1.dst v) w → Q (.panic c) a w) (hy : YieldsIf P #[x0, x1, x2, x3, x4, x5, x6, x7, x8, x9, x10, x11, x12, x13, x14, x15] S x1 v a) (hS : S w)
    (h : wpAnyH P md #[x0, x1, x2, x3, x4, x5, x6, x7, x8, x9, x10, x11, x12, x13, x14, x15] Q S fuel (listed.setIfInBounds 1 true) (a.put x1.dst v) w) : wpAnyH P md #[x0, x1, x2, x3, x4, x5, x6, x7, x8, x9, x10, x11, x12, x13, x14, x15] Q S (fuel + 1) listed a w :=
  wpAnyH_take (i := 1) (oi := x1) rfl hs hf hr hQ hy hS h
theorem take16_2 (hs : Region.noSelect #[x0, x1, x2, x3, x4, x5, x6, x7, x8, x9, x10, x11, x12, x13, x14, x15] = true) (hf : Region.free md #[x0, x1, x2, x3, x4, x5, x6, x7, x8, x9, x10, x11, x12, x13, x14, x15] listed 2 = true) (hr : (Region.ready md #[x0, x1, x2, x3, x4, x5, x6, x7, x8, x9, x10, x11, x12, x13, x14, x15] listed).contains 2 = true)
    (hQ : ∀ c a w, Q (.panic c) (a.put x2.dst v) w → Q (.panic c) a w) (hy : YieldsIf P #[x0, x1, x2, x3, x4, x5, x6, x7, x8, x9, x10, x11, x12, x13, x14, x15] S x2 v a) (hS : S w)
    (h : wpAnyH P md #[x0, x1, x2, x3, x4, x5, x6, x7, x8, x9, x10, x11, x12, x13, x14, x15] Q S fuel (listed.setIfInBounds 2 true) (a.put x2.dst v) w) : wpAnyH P md #[x0, x1, x2, x3, x4, x5, x6, x7, x8, x9, x10, x11, x12, x13, x14, x15] Q S (fuel + 1) listed a w :=
  wpAnyH_take (i := 2) (oi := x2) rfl hs hf hr hQ hy hS h
theorem take16_3 (hs : Region.noSelect #[x0, x1, x2, x3, x4, x5, x6, x7, x8, x9, x10, x11, x12, x13, x14, x15] = true) (hf : Region.free md #[x0, x1, x2, x3, x4, x5, x6, x7, x8, x9, x10, x11, x12, x13, x14, x15] listed 3 = true) (hr : (Region.ready md #[x0, x1, x2, x3, x4, x5, x6, x7, x8, x9, x10, x11, x12, x13, x14, x15] listed).contains 3 = true)
    (hQ : ∀ c a w, Q (.panic c) (a.put x3.dst v) w → Q (.panic c) a w) (hy : YieldsIf P #[x0, x1, x2, x3, x4, x5, x6, x7, x8, x9, x10, x11, x12, x13, x14, x15] S x3 v a) (hS : S w)
    (h : wpAnyH P md #[x0, x1, x2, x3, x4, x5, x6, x7, x8, x9, x10, x11, x12, x13, x14, x15] Q S fuel (listed.setIfInBounds 3 true) (a.put x3.dst v) w) : wpAnyH P md #[x0, x1, x2, x3, x4, x5, x6, x7, x8, x9, x10, x11, x12, x13, x14, x15] Q S (fuel + 1) listed a w :=
  wpAnyH_take (i := 3) (oi := x3) rfl hs hf hr hQ hy hS h
theorem take16_4 (hs : Region.noSelect #[x0, x1, x2, x3, x4, x5, x6, x7, x8, x9, x10, x11, x12, x13, x14, x15] = true) (hf : Region.free md #[x0, x1, x2, x3, x4, x5, x6, x7, x8, x9, x10, x11, x12, x13, x14, x15] listed 4 = true) (hr : (Region.ready md #[x0, x1, x2, x3, x4, x5, x6, x7, x8, x9, x10, x11, x12, x13, x14, x15] listed).contains 4 = true)
    (hQ : ∀ c a w, Q (.panic c) (a.put x4.dst v) w → Q (.panic c) a w) (hy : YieldsIf P #[x0, x1, x2, x3, x4, x5, x6, x7, x8, x9, x10, x11, x12, x13, x14, x15] S x4 v a) (hS : S w)
    (h : wpAnyH P md #[x0, x1, x2, x3, x4, x5, x6, x7, x8, x9, x10, x11, x12, x13, x14, x15] Q S fuel (listed.setIfInBounds 4 true) (a.put x4.dst v) w) : wpAnyH P md #[x0, x1, x2, x3, x4, x5, x6, x7, x8, x9, x10, x11, x12, x13, x14, x15] Q S (fuel + 1) listed a w :=
  wpAnyH_take (i := 4) (oi := x4) rfl hs hf hr hQ hy hS h
theorem take16_5 (hs : Region.noSelect #[x0, x1, x2, x3, x4, x5, x6, x7, x8, x9, x10, x11, x12, x13, x14, x15] = true) (hf : Region.free md #[x0, x1, x2, x3, x4, x5, x6, x7, x8, x9, x10, x11, x12, x13, x14, x15] listed 5 = true) (hr : (Region.ready md #[x0, x1, x2, x3, x4, x5, x6, x7, x8, x9, x10, x11, x12, x13, x14, x15] listed).contains 5 = true)
    (hQ : ∀ c a w, Q (.panic c) (a.put x5.dst v) w → Q (.panic c) a w) (hy : YieldsIf P #[x0, x1, x2, x3, x4, x5, x6, x7, x8, x9, x10, x11, x12, x13, x14, x15] S x5 v a) (hS : S w)
    (h : wpAnyH P md #[x0, x1, x2, x3, x4, x5, x6, x7, x8, x9, x10, x11, x12, x13, x14, x15] Q S fuel (listed.setIfInBounds 5 true) (a.put x5.dst v) w) : wpAnyH P md #[x0, x1, x2, x3, x4, x5, x6, x7, x8, x9, x10, x11, x12, x13, x14, x15] Q S (fuel + 1) listed a w :=
  wpAnyH_take (i := 5) (oi := x5) rfl hs hf hr hQ hy hS h
theorem take16_6 (hs : Region.noSelect #[x0, x1, x2, x3, x4, x5, x6, x7, x8, x9, x10, x11, x12, x13, x14, x15] = true) (hf : Region.free md #[x0, x1, x2, x3, x4, x5, x6, x7, x8, x9, x10, x11, x12, x13, x14, x15] listed 6 = true) (hr : (Region.ready md #[x0, x1, x2, x3, x4, x5, x6, x7, x8, x9, x10, x11, x12, x13, x14, x15] listed).contains 6 = true)
    (hQ : ∀ c a w, Q (.panic c) (a.put x6.dst v) w → Q (.panic c) a w) (hy : YieldsIf P #[x0, x1, x2, x3, x4, x5, x6, x7, x8, x9, x10, x11, x12, x13, x14, x15] S x6 v a) (hS : S w)
    (h : wpAnyH P md #[x0, x1, x2, x3, x4, x5, x6, x7, x8, x9, x10, x11, x12, x13, x14, x15] Q S fuel (listed.setIfInBounds 6 true) (a.put x6.dst v) w) : wpAnyH P md #[x0, x1, x2, x3, x4, x5, x6, x7, x8, x9, x10, x11, x12, x13, x14, x15] Q S (fuel + 1) listed a w :=
  wpAnyH_take (i := 6) (oi := x6) rfl hs hf hr hQ hy hS h
theorem take16_7 (hs : Region.noSelect #[x0, x1, x2, x3, x4, x5, x6, x7, x8, x9, x10, x11, x12, x13, x14, x15] = true) (hf : Region.free md #[x0, x1, x2, x3, x4, x5, x6, x7, x8, x9, x10, x11, x12, x13, x14, x15] listed 7 = true) (hr : (Region.ready md #[x0, x1, x2, x3, x4, x5, x6, x7, x8, x9, x10, x11, x12, x13, x14, x15] listed).contains 7 = true)
    (hQ : ∀ c a w, Q (.panic c) (a.put x7.dst v) w → Q (.panic c) a w) (hy : YieldsIf P #[x0, x1, x2, x3, x4, x5, x6, x7, x8, x9, x10, x11, x12, x13, x14, x15] S x7 v a) (hS : S w)
    (h : wpAnyH P md #[x0, x1, x2, x3, x4, x5, x6, x7, x8, x9, x10, x11, x12, x13, x14, x15] Q S fuel (listed.setIfInBounds 7 true) (a.put x7.dst v) w) : wpAnyH P md #[x0, x1, x2, x3, x4, x5, x6, x7, x8, x9, x10, x11, x12, x13, x14, x15] Q S (fuel + 1) listed a w :=
  wpAnyH_take (i := 7) (oi := x7) rfl hs hf hr hQ hy hS h
theorem take16_8 (hs : Region.noSelect #[x0, x1, x2, x3, x4, x5, x6, x7, x8, x9, x10, x11, x12, x13, x14, x15] = true) (hf : Region.free md #[x0, x1, x2, x3, x4, x5, x6, x7, x8, x9, x10, x11, x12, x13, x14, x15] listed 8 = true) (hr : (Region.ready md #[x0, x1, x2, x3, x4, x5, x6, x7, x8, x9, x10, x11, x12, x13, x14, x15] listed).contains 8 = true)
    (hQ : ∀ c a w, Q (.panic c) (a.put x8.dst v) w → Q (.panic c) a w) (hy : YieldsIf P #[x0, x1, x2, x3, x4, x5, x6, x7, x8, x9, x10, x11, x12, x13, x14, x15] S x8 v a) (hS : S w)
    (h : wpAnyH P md #[x0, x1, x2, x3, x4, x5, x6, x7, x8, x9, x10, x11, x12, x13, x14, x15] Q S fuel (listed.setIfInBounds 8 true) (a.put x8.dst v) w) : wpAnyH P md #[x0, x1, x2, x3, x4, x5, x6, x7, x8, x9, x10, x11, x12, x13, x14, x15] Q S (fuel + 1) listed a w :=
  wpAnyH_take (i := 8) (oi := x8) rfl hs hf hr hQ hy hS h
theorem take16_9 (hs : Region.noSelect #[x0, x1, x2, x3, x4, x5, x6, x7, x8, x9, x10, x11, x12, x13, x14, x15] = true) (hf : Region.free md #[x0, x1, x2, x3, x4, x5, x6, x7, x8, x9, x10, x11, x12, x13, x14, x15] listed 9 = true) (hr : (Region.ready md #[x0, x1, x2, x3, x4, x5, x6, x7, x8, x9, x10, x11, x12, x13, x14, x15] listed).contains 9 = true)
    (hQ : ∀ c a w, Q (.panic c) (a.put x9.dst v) w → Q (.panic c) a w) (hy : YieldsIf P #[x0, x1, x2, x3, x4, x5, x6, x7, x8, x9, x10, x11, x12, x13, x14, x15] S x9 v a) (hS : S w)
    (h : wpAnyH P md #[x0, x1, x2, x3, x4, x5, x6, x7, x8, x9, x10, x11, x12, x13, x14, x15] Q S fuel (listed.setIfInBounds 9 true) (a.put x9.dst v) w) : wpAnyH P md #[x0, x1, x2, x3, x4, x5, x6, x7, x8, x9, x10, x11, x12, x13, x14, x15] Q S (fuel + 1) listed a w :=
  wpAnyH_take (i := 9) (oi := x9) rfl hs hf hr hQ hy hS h
theorem take16_10 (hs : Region.noSelect #[x0, x1, x2, x3, x4, x5, x6, x7, x8, x9, x10, x11, x12, x13, x14, x15] = true) (hf : Region.free md #[x0, x1, x2, x3, x4, x5, x6, x7, x8, x9, x10, x11, x12, x13, x14, x15] listed 10 = true) (hr : (Region.ready md #[x0, x1, x2, x3, x4, x5, x6, x7, x8, x9, x10, x11, x12, x13, x14, x15] listed).contains 10 = true)
    (hQ : ∀ c a w, Q (.panic c) (a.put x10.dst v) w → Q (.panic c) a w) (hy : YieldsIf P #[x0, x1, x2, x3, x4, x5, x6, x7, x8, x9, x10, x11, x12, x13, x14, x15] S x10 v a) (hS : S w)
    (h : wpAnyH P md #[x0, x1, x2, x3, x4, x5, x6, x7, x8, x9, x10, x11, x12, x13, x14, x15] Q S fuel (listed.setIfInBounds 10 true) (a.put x10.dst v) w) : wpAnyH P md #[x0, x1, x2, x3, x4, x5, x6, x7, x8, x9, x10, x11, x12, x13, x14, x15] Q S (fuel + 1) listed a w :=
  wpAnyH_take (i := 10) (oi := x10) rfl hs hf hr hQ hy hS h
theorem take16_12 (hs : Region.noSelect #[x0, x1, x2, x3, x4, x5, x6, x7, x8, x9, x10, x11, x12, x13, x14, x15] = true) (hf : Region.free md #[x0, x1, x2, x3, x4, x5, x6, x7, x8, x9, x10, x11, x12, x13, x14, x15] listed 12 = true) (hr : (Region.ready md #[x0, x1, x2, x3, x4, x5, x6, x7, x8, x9, x10, x11, x12, x13, x14, x15] listed).contains 12 = true)
    (hQ : ∀ c a w, Q (.panic c) (a.put x12.dst v) w → Q (.panic c) a w) (hy : YieldsIf P #[x0, x1, x2, x3, x4, x5, x6, x7, x8, x9, x10, x11, x12, x13, x14, x15] S x12 v a) (hS : S w)
    (h : wpAnyH P md #[x0, x1, x2, x3, x4, x5, x6, x7, x8, x9, x10, x11, x12, x13, x14, x15] Q S fuel (listed.setIfInBounds 12 true) (a.put x12.dst v) w) : wpAnyH P md #[x0, x1, x2, x3, x4, x5, x6, x7, x8, x9, x10, x11, x12, x13, x14, x15] Q S (fuel + 1) listed a w :=
  wpAnyH_take (i := 12) (oi := x12) rfl hs hf hr hQ hy hS h
theorem take16_13 (hs : Region.noSelect #[x0, x1, x2, x3, x4, x5, x6, x7, x8, x9, x10, x11, x12, x13, x14, x15] = true) (hf : Region.free md #[x0, x1, x2, x3, x4, x5, x6, x7, x8, x9, x10, x11, x12, x13, x14, x15] listed 13 = true) (hr : (Region.ready md #[x0, x1, x2, x3, x4, x5, x6, x7, x8, x9, x10, x11, x12, x13, x14, x15] listed).contains 13 = true)
    (hQ : ∀ c a w, Q (.panic c) (a.put x13.dst v) w → Q (.panic c) a w) (hy : YieldsIf P #[x0, x1, x2, x3, x4, x5, x6, x7, x8, x9, x10, x11, x12, x13, x14, x15] S x13 v a) (hS : S w)
    (h : wpAnyH P md #[x0, x1, x2, x3, x4, x5, x6, x7, x8, x9, x10, x11, x12, x13, x14, x15] Q S fuel (listed.setIfInBounds 13 true) (a.put x13.dst v) w) : wpAnyH P md #[x0, x1, x2, x3, x4, x5, x6, x7, x8, x9, x10, x11, x12, x13, x14, x15] Q S (fuel + 1) listed a w :=
  wpAnyH_take (i := 13) (oi := x13) rfl hs hf hr hQ hy hS h
theorem take16_14 (hs : Region.noSelect #[x0, x1, x2, x3, x4, x5, x6, x7, x8, x9, x10, x11, x12, x13, x14, x15] = true) (hf : Region.free md #[x0, x1, x2, x3, x4, x5, x6, x7, x8, x9, x10, x11, x12, x13, x14, x15] listed 14 = true) (hr : (Region.ready md #[x0, x1, x2, x3, x4, x5, x6, x7, x8, x9, x10, x11, x12, x13, x14, x15] listed).contains 14 = true)
    (hQ : ∀ c a w, Q (.panic c) (a.put x14.dst v) w → Q (.panic c) a w) (hy : YieldsIf P #[x0, x1, x2, x3, x4, x5, x6, x7, x8, x9, x10, x11, x12, x13, x14, x15] S x14 v a) (hS : S w)
    (h : wpAnyH P md #[x0, x1, x2, x3, x4, x5, x6, x7, x8, x9, x10, x11, x12, x13, x14, x15] Q S fuel (listed.setIfInBounds 14 true) (a.put x14.dst v) w) : wpAnyH P md #[x0, x1, x2, x3, x4, x5, x6, x7, x8, x9, x10, x11, x12, x13, x14, x15] Q S (fuel + 1) listed a w :=
  wpAnyH_take (i := 14) (oi := x14) rfl hs hf hr hQ hy hS h
theorem take16_15 (hs : Region.noSelect #[x0, x1, x2, x3, x4, x5, x6, x7, x8, x9, x10, x11, x12, x13, x14, x15] = true) (hf : Region.free md #[x0, x1, x2, x3, x4, x5, x6, x7, x8, x9, x10, x11, x12, x13, x14, x15] listed 15 = true) (hr : (Region.ready md #[x0, x1, x2, x3, x4, x5, x6, x7, x8, x9, x10, x11, x12, x13, x14, x15] listed).contains 15 = true)
    (hQ : ∀ c a w, Q (.panic c) (a.put x15.dst v) w → Q (.panic c) a w) (hy : YieldsIf P #[x0, x1, x2, x3, x4, x5, x6, x7, x8, x9, x10, x11, x12, x13, x14, x15] S x15 v a) (hS : S w)
    (h : wpAnyH P md #[x0, x1, x2, x3, x4, x5, x6, x7, x8, x9, x10, x11, x12, x13, x14, x15] Q S fuel (listed.setIfInBounds 15 true) (a.put x15.dst v) w) : wpAnyH P md #[x0, x1, x2, x3, x4, x5, x6, x7, x8, x9, x10, x11, x12, x13, x14, x15] Q S (fuel + 1) listed a w :=
  wpAnyH_take (i := 15) (oi := x15) rfl hs hf hr hQ hy hS h
theorem turn16_11 (hr : Region.ready md #[x0, x1, x2, x3, x4, x5, x6, x7, x8, x9, x10, x11, x12, x13, x14, x15] listed = [11])
    (h : ∀ K' : Act → World → Prop, Shut (∀ a w, S w → (S w → wpAnyH P md #[x0, x1, x2, x3, x4, x5, x6, x7, x8, x9, x10, x11, x12, x13, x14, x15] Q S fuel (listed.setIfInBounds 11 true) a w) → K' a w) → if Region.wanted x11 (yielded #[x0, x1, x2, x3, x4, x5, x6, x7, x8, x9, x10, x11, x12, x13, x14, x15] a.tmps) = true then Oper.wp P x11 a w K' Q else K' (a.put x11.dst undef) w) :
    wpAnyH P md #[x0, x1, x2, x3, x4, x5, x6, x7, x8, x9, x10, x11, x12, x13, x14, x15] Q S (fuel + 1) listed a w :=
  wpAnyH_ready hr (by simp) (AllReadyH.cons (o := x11) rfl h AllReadyH.nil)
end
end Go.Proofs.Ytambhhjbafefgaa

/- The reference's Slack. -/
namespace Go.Proofs.Ytambhhjbafefgaa
set_option linter.unusedVariables false
open Go.RowKit

set_option maxRecDepth 100000 in
set_option maxHeartbeats 4000000 in
theorem refSlack_any (C : List (List Int)) (a : Option Addr) (cap n : Nat) (w : World) (hR : Rect C n) (hn : C.length = n) (hw : costsB C = true) (h : Tbl w a C) :
    Calls Try.prog 40 #[.slice a n cap] w fun e w' => ∃ v, e = .returned v ∧ Lines w' w.heap.size v (slackL C) ∧ Below w.heap.size w w' := by
  obtain ⟨i1, hj, hy0, hy1, hy2⟩ := info_parts info_ints
  have hn7 := hR.m7
  have hpos : 0 < (asgW C).length := asgW_pos (by omega)
  have hA := fun W => All_any n hn7 W
  obtain ⟨hs1, hs2⟩ := item_same (C := C) (by omega) (k := 0) hpos
  obtain ⟨r0, hr0⟩ : ∃ r, (itemW C 0).holes.take C.length = r := ⟨_, rfl⟩
  rw [hr0] at hs2
  have hr0m := List.mem_filter.1 (List.mem_of_getElem? hs2)
  have hr0t : totL C C.length r0 = (bestW C).t := by
    rw [best_item hw, (itemW_in hpos).2]
    simpa using hr0m.2
  have hline := fun i (hi : i < C.length) => slackLine_eq hw hi
  have hstep := fun i j k r hk => rslE_step C i j (allL n n) k r hk
  have htake := fun k hk => slackL_take C k hk
  have hlen : (slackL C).length = n := by simp [slackL, hn]
  have hbt := wayP_t hR r0 n
  rw [hn] at hs1 hs2 hr0m hr0t hline htake
  simp only [hn] at hstep
  have hr0t' : (wayP C r0 n).t = (bestW C).t := hr0t
  have hgood := fun r hr => allL_good n n r hr
  have hRi := fun W h => refItem_any C a cap n 0 _ _ r0 W hR hn h hs1 hs2
  have hT := fun r (hr : r ∈ allL n n) a3 rc W h ha => refTotal_any C a a3 cap n rc r W hR hn (hgood r hr).2.2 h ha
  have hT0 := fun a3 rc W h ha => refTotal_any C a a3 cap n rc r0 W hR hn (hgood r0 hr0m.1).2.2 h ha
  rw [hr0t'] at hT0 hbt
  obtain ⟨B, hB⟩ : ∃ B, (bestW C).t = B := ⟨_, rfl⟩
  simp only [hB] at hT0 hbt hstep
  have hTb : ∀ r, -7000 ≤ (wayP C r n).t ∧ (wayP C r n).t ≤ 7000 := fun r => by have := wayP_t hR r n; omega
  have hTl : ∀ r, totL C n r = (wayP C r n).t := fun _ => rfl
  simp only [hTl] at hstep
  have hF0 : ∀ i j, rslE C i j [] = 14000 := fun _ _ => rfl
  have hlall := allL_len n hn7 n
  have h77 : (7 : Nat) ^ n ≤ 7 ^ 7 := Nat.pow_le_pow_right (by decide) hn7
  generalize allL n n = L at *
  obtain ⟨c, hcl⟩ : ∃ c, L.length = c := ⟨_, rfl⟩
  have hc7 : c ≤ 823543 := by omega
  have hB7 : -7000 ≤ B ∧ B ≤ 7000 := by omega
  have hmk := run_make_row' (P := Try.prog) 24 3 (.int .i64 0) 8 Try.underlying24 info_int rfl .i64 .i64 n (by omega) (by omega)
  have HA := Lib.hid hA
  have HRi := Lib.hid hRi
  have HT := Lib.hid hT
  have HT0 := Lib.hid hT0
  have HTb := Lib.hid hTb
  have HG := Lib.hid hgood
  have H := Lib.hid h
  have HC := Lib.hid hcl
  have HLine := Lib.hid hline
  have HStep := Lib.hid hstep
  have HTake := Lib.hid htake
  have HLen := Lib.hid hlen
  have HF0 := Lib.hid hF0
  have HMk := Lib.hid hmk
  clear hA hRi hT hT0 hTb hgood h hcl hline hstep htake hlen hF0 hTl hB hbt hr0t hr0t' hs1 hs2 hr0m hr0 hlall h77 hw hn hR hpos hmk
  go_enter Try.func40, Try.ntmps40
  go_wp2_with fail
  refine (HA.out _).mono ?_
  rintro e w1 ⟨v, rfl, hl, b1⟩
  obtain ⟨a9, cap9, rfl, hcap9, hcm9, ht9⟩ := hl.tbl
  have H1 := Lib.hid (H.out.below b1)
  have B1 := Lib.hid b1
  have HT9 := Lib.hid ht9
  clear hl b1 ht9
  rw [HC.out] at hcap9 ⊢
  go_wp2_with fail
  refine (HRi.out _ H1.out).mono ?_
  rintro e w2 ⟨ra0, rc0, rfl, hR0, b2⟩
  have H2 := Lib.hid (H1.out.below b2)
  have R0 := Lib.hid hR0
  have HT8 := Lib.hid (HT9.out.below b2)
  have B2 := Lib.hid (b_next B1.out b2)
  clear hR0 b2 H1 HT9 B1
  go_wp2_with fail
  refine (HT0.out _ _ _ H2.out R0.out).mono ?_
  rintro e w3 ⟨rfl, q3, rfl⟩
  obtain ⟨W0, hW0⟩ : ∃ W, w2.drewN q3 = W := ⟨_, rfl⟩
  have H3 : Hid (Tbl W0 a C) := by rw [← hW0]; exact H2.out.drewN q3
  have HT7 : Hid (Tbl W0 a9 L) := by rw [← hW0]; exact HT8.out.drewN q3
  have B3 : Hid (Below w.heap.size w W0) := by rw [← hW0]; exact below_drewN B2.out q3
  rw [hW0]
  clear hW0 H2 HT8 B2 R0
  go_wp2
  go_loopw [6, 7] (fun v i wr => ∃ k : Nat, k ≤ n ∧ i = .int .i64 k ∧ Hid (Lines wr W0.heap.size v ((slackL C).take k)) ∧ Below W0.heap.size W0 wr) (fun _ i _ => n - (intOf i).toNat)
  case atStart => exact ⟨0, Nat.zero_le _, rfl, Lines.nil _ _, Below.refl _ _⟩
  case round =>
    obtain ⟨k, hk, rfl, HL, hB⟩ := hrel
    have HB := Lib.hid hB
    clear hB
    by_cases hlt : k < n
    · have hc1 : (k : Int) < n := by omega
      have hmk := HMk.out
      go_wp2
      have hrow0 := World.rowIs_made wr (.int .i64 0) n 3
      have hB0 := below_alloc wr (.cells (madeCells #[.int .i64 0] n) 3)
      generalize wr = W1 at *
      clear hmk
      go_loopw [9] (fun j w2 => ∃ m : Nat, m ≤ n ∧ j = .int .i64 m ∧ w2.rowIs W1.heap.size 3 n (fun x => .int .i64 (if x < m then rslE C k x L else 0)) ∧ Below W1.heap.size W1 w2) (fun j _ => n - (intOf j).toNat)
      case atStart => exact ⟨0, Nat.zero_le _, rfl, hrow0, hB0⟩
      case round =>
        clear hrow0 hB0
        obtain ⟨m, hm, rfl, hrow, hB⟩ := hrel
        by_cases hlm : m < n
        · have hc2 : (m : Int) < n := by omega
          have ck := hrow.cell (i := m) hlm
          have fk := hrow.frozen m
          have hrow1 := hrow.set m (.int .i64 14000)
          have hB1 := hB.setCell (p := ⟨W1.heap.size, m, none⟩) (Nat.le_refl _) (.int .i64 14000)
          have Hrow1 := Lib.hid hrow1
          have HB1 := Lib.hid hB1
          clear hrow hB hrow1 hB1
          go_wp2
          go_loopw [10] (fun i w3 => ∃ j : Nat, j ≤ c ∧ i = .int .i64 j ∧ w3.rowIs W1.heap.size 3 n (fun x => .int .i64 (if x = m then rslE C k m (L.take j) else if x < m then rslE C k x L else 0)) ∧ Below W1.heap.size W1 w3) (fun i _ => c - (intOf i).toNat)
          case atStart =>
            refine ⟨0, Nat.zero_le _, rfl, Hrow1.out.congr fun x _ => ?_, HB1.out⟩
            by_cases e : x = m
            · rw [if_pos e, if_pos e, List.take_zero, HF0.out]
            · rw [if_neg e, if_neg e]
          case round =>
            clear ck fk Hrow1 HB1
            obtain ⟨j, hj2, rfl, hrow, hB⟩ := hrel
            by_cases hlj : j < c
            · have hc3 : (j : Int) < c := by omega
              obtain ⟨r, hr⟩ : ∃ r, L[j]? = some r := ⟨_, List.getElem?_eq_getElem (by have := HC.out; omega)⟩
              have hrm := List.mem_of_getElem? hr
              obtain ⟨hrl, -, hrb⟩ := HG.out r hrm
              obtain ⟨g, ra, rc, rfl, hg, c1, hrc, R1⟩ := HT7.out.row hr
              rw [hrl] at c1 hrc R1
              have hBW := b_next HB.out hB
              have cr := (hBW.cell (p := ⟨g, j, none⟩) hg).trans c1
              have R2 := Lib.hid (R1.below hBW)
              have T2 := Lib.hid (H3.out.below hBW)
              obtain ⟨g2, hra, c2⟩ := R2.out.int hlt
              subst hra
              obtain ⟨x, hx⟩ : ∃ x, r.getD k 0 = x := ⟨_, rfl⟩
              rw [hx] at c2
              have hst := HStep.out k m j r hr
              rw [hx] at hst
              have hTr := HT.out r hrm (some ⟨g2, 0, none⟩) rc
              have hTb := HTb.out r
              obtain ⟨T, hTT⟩ : ∃ T, (wayP C r n).t = T := ⟨_, rfl⟩
              rw [hTT] at hTr hTb hst
              obtain ⟨f, hf⟩ : ∃ f, rslE C k m (L.take j) = f := ⟨_, rfl⟩
              rw [hf] at hst hrow
              have Hst := Lib.hid hst
              have HTr := Lib.hid hTr
              have Hrow := Lib.hid hrow
              have HB2 := Lib.hid hB
              clear hst hTr hrow hB hx hTT hf hr hrm hrl hrb R1 c1 hBW
              by_cases hxm : x = (m : Int)
              · subst hxm
                have hq : ((m : Int) == (m : Int)) = true := by simp
                have hw1 : IntKind.i64.wrap (T - B) = T - B := IntWalk.i64_in _ (by omega)
                have ck := Hrow.out.cell (i := m) hlm
                rw [if_pos rfl] at ck
                go_wp2
                refine wp_region_last17 (fun w' => w'.cell? ⟨W1.heap.size, m, none⟩ = some (.int .i64 f) ∧ w'.cell? ⟨g, j, none⟩ = some (.slice (some ⟨g2, 0, none⟩) n rc)) (by kernel_rfl) (by kernel_rfl) ⟨ck, cr⟩ (fun hHeld => ?_)
                refine take16_0 (v := ?_) (by kernel_rfl) (by kernel_rfl) (by kernel_rfl) (fun _ _ _ h => h) (Or.inl ⟨by rfl, ?_⟩) (by assumption) ?_
                rotate_left
                · intro w' hSw; (try dsimp only at hSw); go_simp; try with_reducible rfl
                (try simp only [Act.put, List.setIfInBounds_toArray, List.set_cons_zero, List.set_cons_succ])
                refine take16_1 (v := ?_) (by kernel_rfl) (by kernel_rfl) (by kernel_rfl) (fun _ _ _ h => h) (Or.inl ⟨by rfl, ?_⟩) (by assumption) ?_
                rotate_left
                · intro w' hSw; (try dsimp only at hSw); go_simp; try with_reducible rfl
                (try simp only [Act.put, List.setIfInBounds_toArray, List.set_cons_zero, List.set_cons_succ])
                refine take16_2 (v := ?_) (by kernel_rfl) (by kernel_rfl) (by kernel_rfl) (fun _ _ _ h => h) (Or.inl ⟨by rfl, ?_⟩) (by assumption) ?_
                rotate_left
                · intro w' hSw; (try dsimp only at hSw); go_simp; try with_reducible rfl
                (try simp only [Act.put, List.setIfInBounds_toArray, List.set_cons_zero, List.set_cons_succ])
                refine take16_3 (v := ?_) (by kernel_rfl) (by kernel_rfl) (by kernel_rfl) (fun _ _ _ h => h) (Or.inl ⟨by rfl, ?_⟩) (by assumption) ?_
                rotate_left
                · intro w' hSw; (try dsimp only at hSw); go_simp; try with_reducible rfl
                (try simp only [Act.put, List.setIfInBounds_toArray, List.set_cons_zero, List.set_cons_succ])
                refine take16_4 (v := ?_) (by kernel_rfl) (by kernel_rfl) (by kernel_rfl) (fun _ _ _ h => h) (Or.inl ⟨by rfl, ?_⟩) (by assumption) ?_
                rotate_left
                · intro w' hSw; (try dsimp only at hSw); go_simp; try with_reducible rfl
                (try simp only [Act.put, List.setIfInBounds_toArray, List.set_cons_zero, List.set_cons_succ])
                refine take16_5 (v := ?_) (by kernel_rfl) (by kernel_rfl) (by kernel_rfl) (fun _ _ _ h => h) (Or.inl ⟨by rfl, ?_⟩) (by assumption) ?_
                rotate_left
                · intro w' hSw; (try dsimp only at hSw); go_simp; try with_reducible rfl
                (try simp only [Act.put, List.setIfInBounds_toArray, List.set_cons_zero, List.set_cons_succ])
                refine take16_6 (v := ?_) (by kernel_rfl) (by kernel_rfl) (by kernel_rfl) (fun _ _ _ h => h) (Or.inl ⟨by rfl, ?_⟩) (by assumption) ?_
                rotate_left
                · intro w' hSw; (try dsimp only at hSw); go_simp; try with_reducible rfl
                (try simp only [Act.put, List.setIfInBounds_toArray, List.set_cons_zero, List.set_cons_succ])
                refine take16_7 (v := ?_) (by kernel_rfl) (by kernel_rfl) (by kernel_rfl) (fun _ _ _ h => h) (Or.inl ⟨by rfl, ?_⟩) (by assumption) ?_
                rotate_left
                · intro w' hSw; (try dsimp only at hSw); go_simp; try with_reducible rfl
                (try simp only [Act.put, List.setIfInBounds_toArray, List.set_cons_zero, List.set_cons_succ])
                refine take16_8 (v := ?_) (by kernel_rfl) (by kernel_rfl) (by kernel_rfl) (fun _ _ _ h => h) (Or.inl ⟨by rfl, ?_⟩) (by assumption) ?_
                rotate_left
                · intro w' hSw; (try dsimp only at hSw); go_simp; try with_reducible rfl
                (try simp only [Act.put, List.setIfInBounds_toArray, List.set_cons_zero, List.set_cons_succ])
                refine take16_9 (v := ?_) (by kernel_rfl) (by kernel_rfl) (by kernel_rfl) (fun _ _ _ h => h) (Or.inl ⟨by rfl, ?_⟩) (by assumption) ?_
                rotate_left
                · intro w' hSw; (try dsimp only at hSw); go_simp; try with_reducible rfl
                (try simp only [Act.put, List.setIfInBounds_toArray, List.set_cons_zero, List.set_cons_succ])
                refine take16_10 (v := ?_) (by kernel_rfl) (by kernel_rfl) (by kernel_rfl) (fun _ _ _ h => h) (Or.inl ⟨by rfl, ?_⟩) (by assumption) ?_
                rotate_left
                · intro w' hSw; (try dsimp only at hSw); go_simp; try with_reducible rfl
                (try simp only [Act.put, List.setIfInBounds_toArray, List.set_cons_zero, List.set_cons_succ])
                refine take16_12 (v := ?_) (by kernel_rfl) (by kernel_rfl) (by kernel_rfl) (fun _ _ _ h => h) (Or.inl ⟨by rfl, ?_⟩) (by assumption) ?_
                rotate_left
                · intro w' hSw; (try dsimp only at hSw); go_simp; try with_reducible rfl
                (try simp only [Act.put, List.setIfInBounds_toArray, List.set_cons_zero, List.set_cons_succ])
                refine turn16_11 (by kernel_rfl) (fun K hK => ?_)
                go_simp
                refine (HTr.out _ (T2.out.drewN 1) (R2.out.drewN 1)).mono ?_
                rintro e w4 ⟨rfl, q4, rfl⟩
                refine hK.out _ _ ⟨ck, cr⟩ (fun hHeld2 => ?_)
                clear hK K
                refine take16_13 (v := ?_) (by kernel_rfl) (by kernel_rfl) (by kernel_rfl) (fun _ _ _ h => h) (Or.inl ⟨by rfl, ?_⟩) (by assumption) ?_
                rotate_left
                · intro w' hSw; (try dsimp only at hSw); go_simp; try with_reducible rfl
                (try simp only [Act.put, List.setIfInBounds_toArray, List.set_cons_zero, List.set_cons_succ])
                refine take16_14 (v := ?_) (by kernel_rfl) (by kernel_rfl) (by kernel_rfl) (fun _ _ _ h => h) (Or.inl ⟨by rfl, ?_⟩) (by assumption) ?_
                rotate_left
                · intro w' hSw; (try dsimp only at hSw); go_simp; try with_reducible rfl
                (try simp only [Act.put, List.setIfInBounds_toArray, List.set_cons_zero, List.set_cons_succ])
                refine take16_15 (v := ?_) (by kernel_rfl) (by kernel_rfl) (by kernel_rfl) (fun _ _ _ h => h) (Or.inl ⟨by rfl, ?_⟩) (by assumption) ?_
                rotate_left
                · intro w' hSw; (try dsimp only at hSw); go_simp; try with_reducible rfl
                (try simp only [Act.put, List.setIfInBounds_toArray, List.set_cons_zero, List.set_cons_succ])
                refine wpAnyH_done (by kernel_rfl) ?_ _
                show Oper.wp _ _ _ _ _ _
                (try simp only [Act.put, List.setIfInBounds_toArray, List.set_cons_zero, List.set_cons_succ])
                have hrow5 : ((wr.drewN 1).drewN q4).rowIs W1.heap.size 3 n _ := Hrow.out
                have hB5 : Below W1.heap.size W1 ((wr.drewN 1).drewN q4) := below_drewN (below_drewN HB2.out 1) q4
                have ck5 : ((wr.drewN 1).drewN q4).cell? ⟨W1.heap.size, m, none⟩ = some (.int .i64 f) := ck
                clear hHeld hHeld2
                generalize ((wr.drewN 1).drewN q4) = W5 at *
                have fk5 := hrow5.frozen m
                have Hrow5 := Lib.hid (hrow5.set m (.int .i64 (min f (T - B))))
                have HB5 := Lib.hid (hB5.setCell (p := ⟨W1.heap.size, m, none⟩) (Nat.le_refl _) (.int .i64 (min f (T - B))))
                clear hrow5 hB5 ck
                go_simp
                generalize W5.setCell ⟨W1.heap.size, m, none⟩ (.int .i64 (min f (T - B))) = W6 at *
                go_wp2
                go_roundw
                case rel =>
                  refine ⟨j + 1, by omega, by go_num, Hrow5.out.congr fun y _ => ?_, HB5.out⟩
                  by_cases e : y = m
                  · subst e
                    rw [if_pos rfl, if_pos rfl, Hst.out]; simp
                  · rw [if_neg e, if_neg e, if_neg e]
                case measure => simp [intOf]; omega
              · have hq : (x == (m : Int)) = false := by simp [hxm]
                go_wp2
                go_roundw
                case rel => exact ⟨j + 1, by omega, by go_num, Hrow.out.congr fun y _ => by rw [Hst.out, decide_eq_false hxm]; rfl, HB2.out⟩
                case measure => simp [intOf]; omega
            · obtain rfl : j = c := by omega
              have hc3 : ¬ (j : Int) < j := by omega
              have htk : L.take j = L := List.take_of_length_le (by have := HC.out; omega)
              rw [htk] at hrow
              have Hrow := Lib.hid hrow
              have HB2 := Lib.hid hB
              clear hrow hB htk
              go_wp2
              go_roundw
              case rel =>
                refine ⟨m + 1, by omega, by go_num, Hrow.out.congr fun y _ => ?_, HB2.out⟩
                by_cases e : y = m
                · subst e
                  rw [if_pos rfl, if_pos (by omega)]
                · rw [if_neg e]
                  by_cases e2 : y < m
                  · rw [if_pos e2, if_pos (by omega)]
                  · rw [if_neg e2, if_neg (by omega)]
              case measure => simp [intOf]; omega
        · obtain rfl : m = n := by omega
          have hc2 : ¬ (m : Int) < m := by omega
          have hR : Row wr (some ⟨W1.heap.size, 0, none⟩) m (intL (slackLine C k)) := by
            rw [HLine.out k hlt]
            refine ⟨by rw [intL_length, List.length_map, List.length_range], fun _ => ⟨W1.heap.size, rfl, hrow.lt, fun y u hy => ?_⟩⟩
            have hyl := (List.getElem?_eq_some_iff.1 hy).1
            rw [intL_length, List.length_map, List.length_range] at hyl
            rw [hrow.cell hyl, if_pos hyl]
            unfold intL at hy
            rw [List.getElem?_map, List.getElem?_map, List.getElem?_range hyl] at hy
            simpa using hy
          have hCl : ((slackL C).take k).length = k := by rw [List.length_take, HLen.out]; omega
          have hrl2 : (slackLine C k).length = m := by rw [HLine.out k hlt, List.length_map, List.length_range]
          obtain ⟨hs, ho, hl2, h0⟩ := HL.out.below hB
          have ho' := (ho.alloc (.cells #[.slice (some ⟨W1.heap.size, 0, none⟩) m m] 24))
          rw [hCl] at ho'
          have HBw := Lib.hid (b_next HB.out hB)
          have HR := Lib.hid hR
          have Hho := Lib.hid ho
          have Hhl := Lib.hid hl2
          have Hh0 := Lib.hid h0
          have HO' := Lib.hid ho'
          have Hrl2 := Lib.hid hrl2
          have HCl := Lib.hid hCl
          clear hR ho hl2 h0 ho' hrl2 hCl hrow hB
          go_wp2_with (at_builtin; refine wpList_append_own _ rfl _ _ 22 rfl W0.heap.size 24 i1 (.slice none 0 0) 1 24 Try.underlying22 hj hy0 hy1 hy2 rfl (by decide) _ _ _ rfl HO'.out ⟨_, 0, none⟩ 1 1 [.slice (some ⟨W1.heap.size, 0, none⟩) m m] rfl rfl (one_new _ _ _ _ (by simp)) (by simp [Value.oneCell']) (by unfold maxLen; omega) (by omega) (by have := HBw.out.size; simp; omega) ?_; intro v' w6 hown' hgrow _)
          have hLn6 : Lines w6 W0.heap.size v' ((slackL C).take k ++ [slackLine C k]) :=
            Lines.push (o := .cells #[.slice (some ⟨W1.heap.size, 0, none⟩) m m] 24) (rc := m) (ra := some ⟨W1.heap.size, 0, none⟩) Hho.out Hhl.out Hh0.out (by rw [Hrl2.out]; exact HR.out) (by rw [Hrl2.out]; exact Nat.le_refl _) hgrow (by rw [HCl.out, Hrl2.out]; exact hown')
          have hB6 : Below W0.heap.size W0 w6 := rel_push HBw.out (by have := HBw.out.size; simp; omega) ((Below.refl _ _).alloc HBw.out.size _) Hho.out hgrow
          have HLn6 := Lib.hid hLn6
          have HB6 := Lib.hid hB6
          clear hown' hgrow hLn6 hB6
          go_wp2
          go_roundw
          case rel => exact ⟨k + 1, by omega, by go_num, by unfold Hid; rw [HTake.out k hlt]; exact HLn6.out, HB6.out⟩
          case measure => simp [intOf]; omega
    · obtain rfl : k = n := by omega
      have hc1 : ¬ (k : Int) < k := by omega
      have hL2 := HL.out
      rw [List.take_of_length_le (by have := HLen.out; omega)] at hL2
      have HL2 := Lib.hid hL2
      clear hL2 HL
      go_wp2
      go_ret
      exact ⟨_, rfl, HL2.out.base_le B3.out.size, b_next B3.out HB.out⟩
end Go.Proofs.Ytambhhjbafefgaa

/- The reference's Fixed. -/
namespace Go.Proofs.Ytambhhjbafefgaa
set_option linter.unusedVariables false
open Go.RowKit

def lastZ (row : List Int) : Nat → Int
  | 0 => -1
  | j + 1 => if row.getD j 0 = 0 then j else lastZ row j
def cntZ (row : List Int) : Nat → Nat
  | 0 => 0
  | j + 1 => if row.getD j 0 = 0 then cntZ row j + 1 else cntZ row j
theorem cntZ_le (row : List Int) : ∀ j, cntZ row j ≤ j
  | 0 => Nat.le_refl _
  | j + 1 => by
    have := cntZ_le row j
    unfold cntZ
    split <;> omega
theorem cntZ_mono (row : List Int) : ∀ d j, cntZ row j ≤ cntZ row (j + d)
  | 0, j => Nat.le_refl _
  | d + 1, j => by
    have := cntZ_mono row d j
    rw [← Nat.add_assoc]
    have h2 : cntZ row (j + d + 1) = if row.getD (j + d) 0 = 0 then cntZ row (j + d) + 1 else cntZ row (j + d) := rfl
    rw [h2]
    split <;> omega
def fixZ (row : List Int) (n : Nat) : Int := if 1 < cntZ row n then -1 else lastZ row n
theorem only_go (row : List Int) : ∀ d j, j + d = row.length → cntZ row j ≤ 1 → (lastZ row j < 0 ↔ cntZ row j = 0) → zeroAt (row.drop j) j (lastZ row j) = fixZ row row.length := by
  intro d
  induction d with
  | zero =>
    intro j hj h1 h2
    obtain rfl : j = row.length := by omega
    rw [List.drop_length]
    unfold fixZ
    rw [if_neg (by omega)]; rfl
  | succ d ih =>
    intro j hj h1 h2
    obtain ⟨x, hx⟩ : ∃ x, row[j]? = some x := ⟨_, List.getElem?_eq_getElem (by omega)⟩
    have hxd : row.getD j 0 = x := by rw [List.getD_eq_getElem?_getD, hx]; rfl
    have hl : lastZ row (j + 1) = if x = 0 then (j : Int) else lastZ row j := by rw [← hxd]; rfl
    have hc : cntZ row (j + 1) = if x = 0 then cntZ row j + 1 else cntZ row j := by rw [← hxd]; rfl
    have hih := ih (j + 1) (by omega)
    rw [hl, hc] at hih
    rw [zeroAt_drop hx]
    by_cases e : x = 0
    · simp only [if_pos e] at hih hc ⊢
      by_cases hz : 0 ≤ lastZ row j
      · rw [if_pos hz]
        have h3 : cntZ row j ≠ 0 := fun h => by have := h2.2 h; omega
        have h4 := cntZ_mono row d (j + 1)
        rw [show j + 1 + d = row.length by omega] at h4
        unfold fixZ
        rw [if_pos (by omega)]
      · rw [if_neg hz]
        have h3 : cntZ row j = 0 := h2.1 (by omega)
        exact hih (by omega) (by omega)
    · simp only [if_neg e] at hih ⊢
      exact hih h1 h2
theorem only_eq (row : List Int) : onlyZ row = fixZ row row.length := only_go row row.length 0 (by omega) (Nat.zero_le _) ⟨fun _ => rfl, fun _ => by show (-1 : Int) < 0; decide⟩

set_option maxRecDepth 100000 in
set_option maxHeartbeats 4000000 in
theorem refFixed_any (C : List (List Int)) (a : Option Addr) (cap n : Nat) (w : World) (hR : Rect C n) (hn : C.length = n) (hw : costsB C = true) (h : Tbl w a C) :
    Calls Try.prog 41 #[.slice a n cap] w fun e w' => ∃ ra rc, e = .returned (.slice ra n rc) ∧ Row w' ra n (intL (fixL C)) ∧ Below w.heap.size w w' := by
  obtain ⟨i0, hi, hz0, hz1, hz2⟩ := info_parts info_int
  have hn7 := hR.m7
  have hS := fun W h => refSlack_any C a cap n W hR hn hw h
  obtain ⟨D, hD⟩ : ∃ D, slackL C = D := ⟨_, rfl⟩
  have hDl : D.length = n := by rw [← hD, ← hn]; simp [slackL]
  have hDr : ∀ row ∈ D, row.length = n := by
    intro row hrow
    rw [← hD] at hrow
    simp only [slackL, List.mem_map, List.mem_range] at hrow
    obtain ⟨i, hi, rfl⟩ := hrow
    rw [slackLine_length]; exact hn
  have hfx : fixL C = D.map fun row => fixZ row n := by
    unfold fixL
    rw [hD]
    exact List.map_congr_left fun row hrow => by rw [only_eq, hDr row hrow]
  rw [hD] at hS
  rw [hfx]
  have HS := Lib.hid hS
  have HDl := Lib.hid hDl
  have HDr := Lib.hid hDr
  have H := Lib.hid h
  clear hS hDl hDr h hfx hD hR hn hw
  go_enter Try.func41, Try.ntmps41
  go_wp2_with fail
  refine (HS.out _ H.out).mono ?_
  rintro e w1 ⟨v, rfl, hl, b1⟩
  obtain ⟨av, cv, rfl, hcap9, hcm9, ht⟩ := hl.tbl
  have HT := Lib.hid ht
  have B1 := Lib.hid b1
  clear hl ht b1
  rw [HDl.out] at hcap9 ⊢
  go_wp2
  go_loopw [4, 5] (fun v i wr => ∃ k : Nat, k ≤ n ∧ i = .int .i64 k ∧ wr.ownsRow w1.heap.size 3 1 v k (intL ((D.take k).map fun row => fixZ row n)) ∧ Below w1.heap.size w1 wr) (fun _ i _ => n - (intOf i).toNat)
  case atStart => exact ⟨0, Nat.zero_le _, rfl, World.ownsRow_nil _ _ _ _, Below.refl _ _⟩
  case round =>
    obtain ⟨k, hk, rfl, hown, hB⟩ := hrel
    by_cases hlt : k < n
    · have hc1 : (k : Int) < n := by omega
      obtain ⟨row, hrow⟩ : ∃ row, D[k]? = some row := ⟨_, List.getElem?_eq_getElem (by have := HDl.out; omega)⟩
      have hrl := HDr.out row (List.mem_of_getElem? hrow)
      obtain ⟨g, ra, rc, rfl, hg, c1, hrc, R1⟩ := HT.out.row hrow
      rw [hrl] at c1 hrc R1
      have cr := (hB.cell (p := ⟨g, k, none⟩) hg).trans c1
      have R2 := Lib.hid (R1.below hB)
      obtain ⟨z, hz⟩ : ∃ z, fixZ row n = z := ⟨_, rfl⟩
      have hsucc : ((D.take (k + 1)).map fun row => fixZ row n) = ((D.take k).map fun row => fixZ row n) ++ [z] := by rw [List.take_add_one, hrow, ← hz]; simp
      have hl0 : lastZ row 0 = -1 := rfl
      have hc0 : cntZ row 0 = 0 := rfl
      have hls : ∀ j, lastZ row (j + 1) = if row.getD j 0 = 0 then (j : Int) else lastZ row j := fun _ => rfl
      have hcs : ∀ j, cntZ row (j + 1) = if row.getD j 0 = 0 then cntZ row j + 1 else cntZ row j := fun _ => rfl
      have hcl := cntZ_le row
      have Hz := Lib.hid hz
      have HSucc := Lib.hid hsucc
      have Hls := Lib.hid hls
      have Hcs := Lib.hid hcs
      have Hcl := Lib.hid hcl
      have Hown := Lib.hid hown
      have HB := Lib.hid hB
      clear hz hsucc hls hcs hcl hown hB R1 c1 hrow hrl
      go_wp2
      generalize wr = W1 at *
      go_loopw [6, 7, 8] (fun at' many j wr => ∃ m : Nat, m ≤ n ∧ j = .int .i64 m ∧ at' = .int .i64 (lastZ row m) ∧ many = .int .i64 ((cntZ row m : Nat) : Int) ∧ wr = W1) (fun _ _ j _ => n - (intOf j).toNat)
      case atStart => exact ⟨0, Nat.zero_le _, rfl, by rw [hl0], by rw [hc0]; rfl, rfl⟩
      case round =>
        obtain ⟨m, hm, rfl, rfl, rfl, hwr⟩ := hrel
        subst hwr
        have hcm := Hcl.out m
        obtain ⟨q, hq⟩ : ∃ q, cntZ row m = q := ⟨_, rfl⟩
        obtain ⟨l, hl⟩ : ∃ q, lastZ row m = q := ⟨_, rfl⟩
        have hs1 := Hls.out m
        have hs2 := Hcs.out m
        rw [hq] at hcm hs2
        rw [hl] at hs1
        by_cases hlm : m < n
        · rw [hq, hl]
          have hc2 : (m : Int) < n := by omega
          obtain ⟨g2, hra, c2⟩ := R2.out.int hlm
          subst hra
          obtain ⟨x, hx⟩ : ∃ x, row.getD m 0 = x := ⟨_, rfl⟩
          rw [hx] at c2 hs1 hs2
          have Hs1 := Lib.hid hs1
          have Hs2 := Lib.hid hs2
          clear hx hs1 hs2 hq hl
          by_cases e : x = 0
          · have hb : (x == 0) = true := by simp [e]
            have hw1 : IntKind.i64.wrap ((q : Int) + 1) = (q : Int) + 1 := IntWalk.i64_in _ (by omega)
            have hs1 := Hs1.out
            have hs2 := Hs2.out
            rw [if_pos e] at hs1 hs2
            have Hs3 := Lib.hid hs1
            have Hs4 := Lib.hid hs2
            clear hs1 hs2 e
            go_wp2
            go_roundw
            case rel => exact ⟨m + 1, by omega, by go_num, by rw [Hs3.out], by rw [Hs4.out]; go_num, trivial⟩
            case measure => simp [intOf]; omega
          · have hb : (x == 0) = false := by simp [e]
            have hs1 := Hs1.out
            have hs2 := Hs2.out
            rw [if_neg e] at hs1 hs2
            have Hs3 := Lib.hid hs1
            have Hs4 := Lib.hid hs2
            clear hs1 hs2 e
            go_wp2
            go_roundw
            case rel => exact ⟨m + 1, by omega, by go_num, by rw [Hs3.out], by rw [Hs4.out], trivial⟩
            case measure => simp [intOf]; omega
        · obtain rfl : m = n := by omega
          have hc2 : ¬ (m : Int) < m := by omega
          have hzz := Hz.out
          unfold fixZ at hzz
          rw [hq, hl] at hzz ⊢
          have HA := Lib.hid (Hown.out.alloc (.cells #[.int .i64 z] 3))
          have hc3 : Hid (k + 1 ≤ maxLen) := by unfold Hid maxLen; omega
          have hc4 : Hid ((k + 1) * 8 ≤ 140737488355328) := by unfold Hid; omega
          clear hs1 hs2 hq hl
          by_cases e : 1 < q
          · have hg1 : (q : Int) > 1 := by omega
            rw [if_pos e] at hzz
            subst hzz
            clear e
            go_wp2_with (at_builtin; refine wpList_append_own _ rfl _ _ 24 rfl w1.heap.size 3 i0 (.int .i64 0) 1 8 Try.underlying24 hi hz0 hz1 hz2 rfl (by decide) _ _ _ rfl HA.out ⟨_, 0, none⟩ 1 1 [.int .i64 (-1)] rfl rfl (cell_one_new _ _ _) (by simp [Value.oneCell']) hc3.out hc4.out (by have := HB.out.size; simp; omega) ?_; intro v' w5 hown' hgrow _)
            have hB5 := rel_push HB.out (by have := HB.out.size; simp; omega) ((Below.refl _ wr).alloc HB.out.size (.cells #[.int .i64 (-1)] 3)) Hown.out hgrow
            have ho5 : w5.ownsRow w1.heap.size 3 1 v' (k + 1) (intL ((D.take (k + 1)).map fun row => fixZ row m)) := by
              rw [HSucc.out]
              unfold intL at hown' ⊢
              rw [List.map_append]; exact hown'
            have HB5 := Lib.hid hB5
            have HO5 := Lib.hid ho5
            clear hown' hgrow hB5 ho5
            go_wp2
            go_roundw
            case rel => exact ⟨k + 1, by omega, by go_num, HO5.out, HB5.out⟩
            case measure => simp [intOf]; omega
          · have hg1 : ¬ (q : Int) > 1 := by omega
            rw [if_neg e] at hzz
            subst hzz
            clear e
            go_wp2_with (at_builtin; refine wpList_append_own _ rfl _ _ 24 rfl w1.heap.size 3 i0 (.int .i64 0) 1 8 Try.underlying24 hi hz0 hz1 hz2 rfl (by decide) _ _ _ rfl HA.out ⟨_, 0, none⟩ 1 1 [.int .i64 l] rfl rfl (cell_one_new _ _ _) (by simp [Value.oneCell']) hc3.out hc4.out (by have := HB.out.size; simp; omega) ?_; intro v' w5 hown' hgrow _)
            have hB5 := rel_push HB.out (by have := HB.out.size; simp; omega) ((Below.refl _ wr).alloc HB.out.size (.cells #[.int .i64 l] 3)) Hown.out hgrow
            have ho5 : w5.ownsRow w1.heap.size 3 1 v' (k + 1) (intL ((D.take (k + 1)).map fun row => fixZ row m)) := by
              rw [HSucc.out]
              unfold intL at hown' ⊢
              rw [List.map_append]; exact hown'
            have HB5 := Lib.hid hB5
            have HO5 := Lib.hid ho5
            clear hown' hgrow hB5 ho5
            go_wp2
            go_roundw
            case rel => exact ⟨k + 1, by omega, by go_num, HO5.out, HB5.out⟩
            case measure => simp [intOf]; omega
    · obtain rfl : k = n := by omega
      have hc1 : ¬ (k : Int) < k := by omega
      rw [List.take_of_length_le (by have := HDl.out; omega)] at hown
      obtain ⟨a5, c5, rfl, hR5⟩ := Row.of_own hown
      have HR5 := Lib.hid hR5
      have HB := Lib.hid hB
      clear hown hR5 hB
      go_wp2
      go_ret
      exact ⟨_, ⟨_, rfl⟩, HR5.out, b_next B1.out HB.out⟩
end Go.Proofs.Ytambhhjbafefgaa

/- Payments, as the reference counts them: mathematics. -/
namespace Go.Proofs.Ytambhhjbafefgaa
set_option linter.unusedVariables false

theorem count_mem (n : Nat) : ∀ a : List Int, (List.range n).countP (fun j : Nat => decide ((j : Int) ∈ a)) ≤ a.length := by
  intro a
  induction a with
  | nil => rw [List.countP_eq_zero.2 (by simp)]; exact Nat.le_refl _
  | cons x a ih =>
    have h1 := countP_or (fun j : Nat => decide ((j : Int) = x)) (fun j : Nat => decide ((j : Int) ∈ a)) (List.range n)
    have h2 : (List.range n).countP (fun j : Nat => decide ((j : Int) = x)) ≤ 1 := by
      by_cases hx : 0 ≤ x
      · have h3 := countP_one x.toNat n
        rw [List.countP_congr (q := fun i => decide (i = x.toNat)) (fun j _ => by simp; omega)]
        exact h3
      · rw [List.countP_eq_zero.2 (fun j _ => by simp; omega)]; omega
    have h3 : (List.range n).countP (fun j : Nat => decide ((j : Int) ∈ x :: a)) = (List.range n).countP (fun j : Nat => decide ((j : Int) = x) || decide ((j : Int) ∈ a)) := List.countP_congr fun j _ => by simp
    rw [h3, List.length_cons]
    omega
theorem free_hole (n : Nat) (a : List Int) (h : a.length < n) : ∃ j, j < n ∧ (j : Int) ∉ a := by
  refine Classical.byContradiction fun hc => ?_
  have h1 : ∀ j, j ∈ List.range n → decide ((j : Int) ∈ a) = true := fun j hj => by
    refine decide_eq_true (Classical.byContradiction fun hn => hc ⟨j, List.mem_range.1 hj, hn⟩)
  have h2 := List.countP_eq_length.2 h1
  have h3 := count_mem n a
  rw [List.length_range] at h2
  omega
/-- the total without a button -/
def restT (C : List (List Int)) (i : Nat) (r : List Int) : Int := totL C C.length r - (C.getD i []).getD (r.getD i 0).toNat 0
theorem rest_tot {C : List (List Int)} (hw : costsB C = true) {i : Nat} (hi : i < C.length) :
    (∃ r ∈ allL C.length C.length, restT C i r = (firstW (C.eraseIdx i) (C.length - 1) 0).t) ∧ ∀ r ∈ allL C.length C.length, (firstW (C.eraseIdx i) (C.length - 1) 0).t ≤ restT C i r := by
  obtain ⟨hR, hp⟩ := Rect.of_costs hw
  have hl : (C.eraseIdx i).length = C.length - 1 := by rw [List.length_eraseIdx, if_pos hi]
  obtain ⟨⟨q, h1, h2⟩, h3⟩ := first_tot (hR.erase i) 0 (fits_zero _ _ (by omega))
  rw [hl] at h2 h3
  have hrow : (C.getD i []).length = C.length := by
    rw [List.getD_eq_getElem?_getD, List.getElem?_eq_getElem hi]
    exact hR.len _ (List.getElem_mem _)
  have hgood := allL_good C.length C.length
  constructor
  · obtain ⟨j, hj, hjn⟩ := free_hole C.length q.1 (by rw [(plR_free _ q h1).1, hl]; omega)
    obtain ⟨p, h4, h5, h6⟩ := plR_insert C i 0 q j hi (by omega) (Nat.zero_testBit _) (plR_add _ _ _ _ h1 hjn)
    obtain ⟨h7, h8⟩ := (plR_all hw p).1 h4
    refine ⟨p.1, h7, ?_⟩
    unfold restT
    rw [(getD_some (by rw [(hgood _ h7).1]; exact hi) (j : Int)).2 h5, ← h8, Int.toNat_natCast]
    have : cost C i j = (C.getD i []).getD j 0 := rfl
    omega
  · intro r hr
    obtain ⟨hrl, -, hrb⟩ := hgood r hr
    obtain ⟨x, hx⟩ : ∃ x, r[i]? = some x := ⟨_, List.getElem?_eq_getElem (by omega)⟩
    obtain ⟨j, rfl⟩ : ∃ j : Nat, x = j := ⟨x.toNat, by have := hrb x (List.mem_of_getElem? hx); omega⟩
    have h4 := plR_erase C i 0 (r, totL C C.length r) j hi ((plR_all hw _).2 ⟨hr, rfl⟩) hx
    have h5 := h3 _ (plR_mono _ _ _ _ h4)
    unfold restT
    rw [(getD_some (by omega) (j : Int)).2 hx, Int.toNat_natCast]
    exact h5
def lstE (C : List (List Int)) (i : Nat) (l : List (List Int)) (s : Int) : Int := l.foldl (fun m r => min m (restT C i r)) s
theorem lstE_step (C : List (List Int)) (i : Nat) (l : List (List Int)) (s : Int) (k : Nat) (r : List Int) (h : l[k]? = some r) : lstE C i (l.take (k + 1)) s = min (lstE C i (l.take k) s) (restT C i r) := by
  unfold lstE
  rw [List.take_add_one, h, Option.toList, List.foldl_append]; rfl
theorem lst_all {C : List (List Int)} (hw : costsB C = true) {i : Nat} (hi : i < C.length) {r : List Int} (hr : r ∈ allL C.length C.length) : lstE C i (allL C.length C.length) (restT C i r) = (firstW (C.eraseIdx i) (C.length - 1) 0).t := by
  obtain ⟨⟨p, h1, h2⟩, h3⟩ := rest_tot hw hi
  have := fold_min (fun _ : List Int => true) (restT C i) (firstW (C.eraseIdx i) (C.length - 1) 0).t (allL C.length C.length) (restT C i r) (fun r hr _ => h3 r hr) (.inl ⟨p, h1, rfl, h2⟩) (h3 r hr)
  exact this
theorem best_at {C : List (List Int)} {i : Nat} (hi : i < C.length) : ((bestW C).holes.take C.length).getD i 0 = (bestW C).at i := by
  rw [List.getD_eq_getElem?_getD, List.getElem?_take_of_lt hi, ← List.getD_eq_getElem?_getD]; rfl
theorem pay_at {C : List (List Int)} (hw : costsB C = true) {i : Nat} (hi : i < C.length) {r : List Int} (hr : r ∈ allL C.length C.length) : payOne C i = restT C i ((bestW C).holes.take C.length) - lstE C i (allL C.length C.length) (restT C i r) := by
  obtain ⟨hR, hp⟩ := Rect.of_costs hw
  rw [lst_all hw hi hr]
  unfold payOne restT
  rw [best_at hi]
  have h : totL C C.length ((bestW C).holes.take C.length) = (bestW C).t := by
    unfold totL
    rw [asgW_way hR.n7 _ (best_min hw).1]
  rw [h]
end Go.Proofs.Ytambhhjbafefgaa

/- The reference's Payments. -/
namespace Go.Proofs.Ytambhhjbafefgaa
set_option linter.unusedVariables false
open Go.RowKit

theorem row_reads {C : List (List Int)} {a a2 : Option Addr} {W : World} {k n : Nat} {r : List Int} (hR : Rect C n) (hn : C.length = n) (hT : Tbl W a C) (ha : Row W a2 n (intL r)) (hk : k < n) (hrl : r.length = n) (hrb : ∀ x ∈ r, 0 ≤ x ∧ x < n) :
    ∃ g ra rr rc, ∃ j : Nat, ∃ c : Int, a = some ⟨g, 0, none⟩ ∧ a2 = some ⟨ra, 0, none⟩ ∧ j < n ∧ W.cell? ⟨ra, k, none⟩ = some (.int .i64 j) ∧ W.cell? ⟨g, k, none⟩ = some (.slice (some ⟨rr, 0, none⟩) n rc) ∧ W.cell? ⟨rr, j, none⟩ = some (.int .i64 c) ∧ -1000 ≤ c ∧ c ≤ 1000 ∧ restT C k r = (wayP C r n).t - c := by
  obtain ⟨x, hx⟩ : ∃ x, r[k]? = some x := ⟨_, List.getElem?_eq_getElem (by omega)⟩
  obtain ⟨j, rfl⟩ : ∃ j : Nat, x = j := ⟨x.toNat, by have := hrb x (List.mem_of_getElem? hx); omega⟩
  have hj := hrb j (List.mem_of_getElem? hx)
  have hgx : r.getD k 0 = j := by rw [List.getD_eq_getElem?_getD, hx]; rfl
  obtain ⟨ra, rfl, c1⟩ := ha.int hk
  rw [hgx] at c1
  obtain ⟨row, hrow⟩ : ∃ row, C[k]? = some row := ⟨_, List.getElem?_eq_getElem (by omega)⟩
  obtain ⟨g, rr, rc, rfl, hg, c2, _, R1⟩ := hT.row hrow
  have hrl2 : row.length = n := hR.len row (List.mem_of_getElem? hrow)
  rw [hrl2] at c2 R1
  obtain ⟨g2, rfl, c3⟩ := R1.int (show j < n from by omega)
  have hb := getD_bound (hR.cost row (List.mem_of_getElem? hrow)) j
  refine ⟨g, ra, g2, rc, j, _, rfl, rfl, by omega, c1, c2, c3, hb.1, hb.2, ?_⟩
  unfold restT
  rw [hgx, Int.toNat_natCast, List.getD_eq_getElem?_getD (l := C), hrow, hn]
  rfl

set_option maxRecDepth 100000 in
set_option maxHeartbeats 4000000 in
theorem refPayments_any (C : List (List Int)) (a : Option Addr) (cap n : Nat) (w : World) (hR : Rect C n) (hn : C.length = n) (hw : costsB C = true) (h : Tbl w a C) :
    Calls Try.prog 42 #[.slice a n cap] w fun e w' => ∃ ra rc, e = .returned (.slice ra n rc) ∧ Row w' ra n (intL (payL C)) ∧ Below w.heap.size w w' := by
  obtain ⟨i0, hi, hz0, hz1, hz2⟩ := info_parts info_int
  have hn7 := hR.m7
  have hpos : 0 < (asgW C).length := asgW_pos (by omega)
  have hlp : 0 < (allL n n).length := by rw [← hn, all_len (by omega)]; exact hpos
  have hA := fun W => All_any n hn7 W
  obtain ⟨hs1, hs2⟩ := item_same (C := C) (by omega) (k := 0) hpos
  rw [← best_item hw] at hs2
  have hpay := fun i (hi : i < C.length) r hr => pay_at hw hi (r := r) hr
  obtain ⟨r0, hr0⟩ : ∃ r, (bestW C).holes.take C.length = r := ⟨_, rfl⟩
  rw [hr0] at hs2 hpay
  have hr0m := List.mem_filter.1 (List.mem_of_getElem? hs2)
  rw [hn] at hs1 hs2 hr0m hpay
  have hgood := fun r hr => allL_good n n r hr
  obtain ⟨hg1, -, hg2⟩ := hgood r0 hr0m.1
  have hRi := fun W h => refItem_any C a cap n 0 _ _ r0 W hR hn h hs1 hs2
  have hT := fun r (hr : r ∈ allL n n) a3 rc W h ha => refTotal_any C a a3 cap n rc r W hR hn (hgood r hr).2.2 h ha
  have hT0 := fun a3 rc W h ha => refTotal_any C a a3 cap n rc r0 W hR hn hg2 h ha
  have hTb : ∀ r, -7000 ≤ (wayP C r n).t ∧ (wayP C r n).t ≤ 7000 := fun r => by have := wayP_t hR r n; omega
  have hrd := fun W k (hk : k < n) r (hr : r ∈ allL n n) a2 (hT : Tbl W a C) (ha : Row W a2 n (intL r)) => row_reads hR hn hT ha hk (hgood r hr).1 (hgood r hr).2.2
  have hrd0 := fun W k (hk : k < n) a2 (hT : Tbl W a C) (ha : Row W a2 n (intL r0)) => row_reads hR hn hT ha hk hg1 hg2
  have hst := fun i s j r hj => lstE_step C i (allL n n) s j r hj
  have hpl : (payL C).length = n := by unfold payL; rw [List.length_map, List.length_range, hn]
  have hpt : ∀ k, k < n → (payL C).take (k + 1) = (payL C).take k ++ [payOne C k] := fun k hk => by
    rw [List.take_add_one]
    unfold payL
    rw [List.getElem?_map, List.getElem?_range (by omega)]; rfl
  have hls0 : ∀ i s, lstE C i [] s = s := fun _ _ => rfl
  have hlall := allL_len n hn7 n
  have h77 : (7 : Nat) ^ n ≤ 7 ^ 7 := Nat.pow_le_pow_right (by decide) hn7
  generalize allL n n = L at *
  obtain ⟨c, hcl⟩ : ∃ c, L.length = c := ⟨_, rfl⟩
  rw [hcl] at hlp
  have hc7 : c ≤ 823543 := by omega
  have HA := Lib.hid hA
  have HRi := Lib.hid hRi
  have HT := Lib.hid hT
  have HT0 := Lib.hid hT0
  have HTb := Lib.hid hTb
  have HG := Lib.hid hgood
  have H := Lib.hid h
  have HC := Lib.hid hcl
  have HPay := Lib.hid hpay
  have HRd := Lib.hid hrd
  have HRd0 := Lib.hid hrd0
  have HSt := Lib.hid hst
  have HPl := Lib.hid hpl
  have HPt := Lib.hid hpt
  have HLs0 := Lib.hid hls0
  clear hA hRi hT hT0 hTb hgood h hcl hpay hrd hrd0 hst hpl hpt hls0 hlall h77 hw hn hR hpos hs1 hs2 hr0m hr0 hg1 hg2
  go_enter Try.func42, Try.ntmps42
  go_wp2_with fail
  refine (HA.out _).mono ?_
  rintro e w1 ⟨v, rfl, hl, b1⟩
  obtain ⟨a9, cap9, rfl, hcap9, hcm9, ht9⟩ := hl.tbl
  have H1 := Lib.hid (H.out.below b1)
  have B1 := Lib.hid b1
  have HT9 := Lib.hid ht9
  clear hl b1 ht9
  rw [HC.out] at hcap9 ⊢
  go_wp2_with fail
  refine (HRi.out _ H1.out).mono ?_
  rintro e W0 ⟨ra0, rc0, rfl, hR0, b2⟩
  have H2 := Lib.hid (H1.out.below b2)
  have R0 := Lib.hid hR0
  have HT8 := Lib.hid (HT9.out.below b2)
  have B2 := Lib.hid (b_next B1.out b2)
  clear hR0 b2 H1 HT9 B1
  go_wp2
  go_loopw [5, 6] (fun v i wr => ∃ k : Nat, k ≤ n ∧ i = .int .i64 k ∧ wr.ownsRow W0.heap.size 3 1 v k (intL ((payL C).take k)) ∧ Below W0.heap.size W0 wr) (fun _ i _ => n - (intOf i).toNat)
  case atStart => exact ⟨0, Nat.zero_le _, rfl, World.ownsRow_nil _ _ _ _, Below.refl _ _⟩
  case round =>
    obtain ⟨k, hk, rfl, hown, hB⟩ := hrel
    by_cases hlt : k < n
    · obtain ⟨W1, q1, hwr, hown1, hB1⟩ : ∃ W q, wr = World.drewN W q ∧ W.ownsRow W0.heap.size 3 1 u5 k (intL ((payL C).take k)) ∧ Below W0.heap.size W0 W := ⟨wr, 0, rfl, hown, hB⟩
      clear hown hB
      subst hwr
      have hown := hown1
      have hB := hB1
      clear hown1 hB1
      have hc1 : (k : Int) < n := by omega
      obtain ⟨r1, hr1⟩ : ∃ r, L[0]? = some r := ⟨_, List.getElem?_eq_getElem (by have := HC.out; omega)⟩
      have hrm := List.mem_of_getElem? hr1
      have hrl := (HG.out r1 hrm).1
      obtain ⟨g9, ra, rc, rfl, hg9, c1, hrc, R1⟩ := (HT8.out.below hB).row hr1
      rw [hrl] at c1 hrc R1
      obtain ⟨g, ra', rr, rc', j, x, rfl, rfl, hjn, k1, k2, k3, hx1, hx2, hrest⟩ := HRd.out W1 k hlt r1 hrm ra (H2.out.below hB) R1
      have hjc : (j : Int) < n := by omega
      have hTb := HTb.out r1
      have hTq := fun (W' : World) (hW : ∃ p, W' = W1.drewN p) => HT.out r1 hrm (some ⟨ra', 0, none⟩) rc W' (by obtain ⟨p, rfl⟩ := hW; exact (H2.out.below hB).drewN p) (by obtain ⟨p, rfl⟩ := hW; exact R1.drewN p)
      have hpy := HPay.out k hlt r1 hrm
      have hstk := fun s => HSt.out k s
      have hlc : (0 : Int) < c := by omega
      obtain ⟨T, hTT⟩ : ∃ T, (wayP C r1 n).t = T := ⟨_, rfl⟩
      rw [hTT] at hTb hTq hrest
      rw [hrest] at hpy
      have hw1 : IntKind.i64.wrap (T - x) = T - x := IntWalk.i64_in _ (by omega)
      have hs0 : -8000 ≤ T - x ∧ T - x ≤ 8000 := by omega
      have HTq := Lib.hid hTq
      have HPy := Lib.hid hpy
      have Hown := Lib.hid hown
      have HB := Lib.hid hB
      clear hTq hpy hown hB hrest hTT R1 hr1 hrm hrl hg9 hTb
      go_wp2_with fail
      go_quiet ((go_at_call 29; exact quiet_plus (HTq.out _ ⟨_, rfl⟩)))
      generalize T - x = s0 at *
      clear c1 k1 k2 k3 HTq
      go_wp2
      go_loopw [7, 8] (fun t i wr => ∃ (m q : Nat), m ≤ c ∧ i = .int .i64 m ∧ t = .int .i64 (lstE C k (L.take m) s0) ∧ Hid (-8000 ≤ lstE C k (L.take m) s0 ∧ lstE C k (L.take m) s0 ≤ 8000) ∧ wr = W1.drewN q) (fun _ i _ => c - (intOf i).toNat)
      case atStart => exact ⟨0, _, Nat.zero_le _, rfl, by rw [List.take_zero, HLs0.out], by unfold Hid; rw [List.take_zero, HLs0.out]; exact hs0, World.drewN_drewN _ _ _⟩
      case round =>
        obtain ⟨m, q, hm, rfl, rfl, Hf8, rfl⟩ := hrel
        obtain ⟨f, hf⟩ : ∃ f, lstE C k (L.take m) s0 = f := ⟨_, rfl⟩
        have hf8 := Hf8.out
        rw [hf] at hf8
        by_cases hlm : m < c
        · have hc2 : (m : Int) < c := by omega
          obtain ⟨r, hr⟩ : ∃ r, L[m]? = some r := ⟨_, List.getElem?_eq_getElem (by have := HC.out; omega)⟩
          have hrm := List.mem_of_getElem? hr
          have hrl := (HG.out r hrm).1
          obtain ⟨g9', ra2, rc2, e1, hg9, c1, hrc2, R1⟩ := (HT8.out.below HB.out).row hr
          simp only [Option.some.injEq, Addr.mk.injEq, and_true] at e1
          subst e1
          rw [hrl] at c1 hrc2 R1
          obtain ⟨g', ra3, rr2, rc3, j2, x2, e1, rfl, hjn2, k1, k2, k3, hx3, hx4, hrest⟩ := HRd.out W1 k hlt r hrm ra2 (H2.out.below HB.out) R1
          simp only [Option.some.injEq, Addr.mk.injEq, and_true] at e1
          subst e1
          have hjc2 : (j2 : Int) < n := by omega
          have hTb := HTb.out r
          have hTq := fun (W' : World) (hW : ∃ p, W' = W1.drewN p) => HT.out r hrm (some ⟨ra3, 0, none⟩) rc2 W' (by obtain ⟨p, rfl⟩ := hW; exact (H2.out.below HB.out).drewN p) (by obtain ⟨p, rfl⟩ := hW; exact R1.drewN p)
          have hst := HSt.out k s0 m r hr
          obtain ⟨T2, hTT⟩ : ∃ T, (wayP C r n).t = T := ⟨_, rfl⟩
          rw [hTT] at hTb hTq hrest
          rw [hrest, hf] at hst
          rw [hf]
          have hw2 : IntKind.i64.wrap (T2 - x2) = T2 - x2 := IntWalk.i64_in _ (by omega)
          have hs2 : -8000 ≤ T2 - x2 ∧ T2 - x2 ≤ 8000 := by omega
          have HTq := Lib.hid hTq
          have Hst := Lib.hid hst
          clear hTq hst hrest hTT R1 hr hrm hrl hg9 hTb hf Hf8
          go_wp2_with fail
          go_quiet ((go_at_call 29; exact quiet_plus (HTq.out _ ⟨_, rfl⟩)))
          clear c1 k1 k2 k3
          go_wp2
          go_roundw
          case rel => exact ⟨m + 1, _, by omega, by go_num, by rw [Hst.out], by unfold Hid; rw [Hst.out]; omega, rfl⟩
          case measure => simp [intOf]; omega
        · obtain rfl : m = c := by omega
          have hc2 : ¬ (m : Int) < m := by omega
          have htk : L.take m = L := List.take_of_length_le (by have := HC.out; omega)
          rw [hf]
          rw [htk] at hf
          have hpy := HPy.out
          rw [hf] at hpy
          obtain ⟨g', rb, rr0, rc5, j0, x0, e1, rfl, hj0n, k1, k2, k3, hx3, hx4, hrest⟩ := HRd0.out W0 k hlt ra0 H2.out R0.out
          simp only [Option.some.injEq, Addr.mk.injEq, and_true] at e1
          subst e1
          have hTb := HTb.out r0
          obtain ⟨T0, hTT⟩ : ∃ T, (wayP C r0 n).t = T := ⟨_, rfl⟩
          rw [hTT] at hTb hrest
          rw [hrest] at hpy
          have hT0 := HT0.out (some ⟨rb, 0, none⟩) rc0
          rw [hTT] at hT0
          obtain ⟨p, hp⟩ : ∃ p, T0 - x0 - f = p := ⟨_, rfl⟩
          rw [hp] at hpy
          have hw1 : IntKind.i64.wrap (T0 - x0) = T0 - x0 := IntWalk.i64_in _ (by omega)
          have hw2 : IntKind.i64.wrap (T0 - x0 - f) = p := by rw [IntWalk.i64_in _ (by omega)]; exact hp
          have hj0c : (j0 : Int) < n := by omega
          have hB5 : Below W0.heap.size W0 (W1.drewN q) := below_drewN HB.out q
          have hown5 : (W1.drewN q).ownsRow W0.heap.size 3 1 u5 k (intL ((payL C).take k)) := Hown.out
          go_wp2_with fail
          generalize W1.drewN q = W5 at *
          have l1 := World.block_lt_of_cell? _ _ k1
          have l2 := World.block_lt_of_cell? _ _ k2
          have l3 := World.block_lt_of_cell? _ _ k3
          have s1 := (hB5.cell (p := ⟨rb, k, none⟩) l1).trans k1
          have s2 := (hB5.cell (p := ⟨g, k, none⟩) l2).trans k2
          have s3 := (hB5.cell (p := ⟨rr0, j0, none⟩) l3).trans k3
          have hal : ∀ (o : Obj) (q : Nat) (p : Addr) (u : Value), W5.cell? p = some u → ((W5.drewN q).alloc o).cell? p = some u := fun o q p u hp =>
            ((below_alloc (W5.drewN q) o).cell (p := p) (World.block_lt_of_cell? W5 _ hp)).trans hp
          have hlt4 := hown5.lt
          have hfar : ∀ (w9 : World) (o : Obj) (q : Nat) (p : Addr) (u : Value), ((W5.drewN q).alloc o).drew.grownBy w9 u5.ownBlock → W5.cell? p = some u → p.block < W0.heap.size → w9.cell? p = some u := fun w9 o q p u hg hp hne =>
            hg.cell (hal o q p u hp) (fun e => by have := hlt4 _ e.symm; omega)
          have hOq : ∀ q, ((W5.drewN q).alloc (.cells #[.int .i64 p] 3)).ownsRow W0.heap.size 3 1 u5 k (intL ((payL C).take k)) := fun q => (show (W5.drewN q).ownsRow W0.heap.size 3 1 u5 k (intL ((payL C).take k)) from hown5).alloc (.cells #[.int .i64 p] 3)
          have hNq : ∀ q, _ := fun q => cell_one_new (W5.drewN q) (.int .i64 p) 3
          have hBq : ∀ q, W0.heap.size ≤ ((W5.drewN q).alloc (.cells #[.int .i64 p] 3)).drew.heap.size := fun q => Nat.le_trans hB5.size (by show W5.heap.size ≤ ((W5.drewN q).alloc _).heap.size; simp)
          have HAl := Lib.hid hal
          have hal2 : ∀ (o : Obj) (q : Nat) (p : Addr) (u : Value), W5.cell? p = some u → ((W5.drewN q).alloc o).drew.cell? p = some u := hal
          have HAl2 := Lib.hid hal2
          clear hal2
          have hfar2 : ∀ (w9 : World) (o : Obj) (q : Nat) (p : Addr) (u : Value), ((W5.drewN q).alloc o).grownBy w9 u5.ownBlock → W5.cell? p = some u → p.block < W0.heap.size → w9.cell? p = some u := fun w9 o q p u hg hp hne =>
            hg.cell (hal o q p u hp) (fun e => by have := hlt4 _ e.symm; omega)
          have HFar2 := Lib.hid hfar2
          clear hfar2
          have HFar := Lib.hid hfar
          have HOq := Lib.hid hOq
          have HNq := Lib.hid hNq
          have HBq := Lib.hid hBq
          have HT0c := Lib.hid hT0
          have Hpy := Lib.hid hpy
          have HB5 := Lib.hid hB5
          have Hown5 := Lib.hid hown5
          have S1 := Lib.hid s1
          have S2 := Lib.hid s2
          have S3 := Lib.hid s3
          have HH := Lib.hid (H2.out.below hB5)
          have HR := Lib.hid (R0.out.below hB5)
          clear hal hfar hOq hNq hBq hT0 hpy hB5 hown5 hlt4 hp hrest hTT hf Hf8 htk k1 k2 k3 hTb
          go_region_held3 (fun w' => w'.cell? ⟨rb, k, none⟩ = some (.int .i64 j0) ∧ w'.cell? ⟨g, k, none⟩ = some (.slice (some ⟨rr0, 0, none⟩) n rc5) ∧ w'.cell? ⟨rr0, j0, none⟩ = some (.int .i64 x0))
            (first | exact ⟨s1, s2, s3⟩ | exact ⟨HFar.out _ _ _ _ _ hgr9 S1.out l1, HFar.out _ _ _ _ _ hgr9 S2.out l2, HFar.out _ _ _ _ _ hgr9 S3.out l3⟩ | exact ⟨HAl2.out _ _ _ _ S1.out, HAl2.out _ _ _ _ S2.out, HAl2.out _ _ _ _ S3.out⟩ | exact ⟨HAl.out _ _ _ _ S1.out, HAl.out _ _ _ _ S2.out, HAl.out _ _ _ _ S3.out⟩ | exact ⟨HFar2.out _ _ _ _ _ hgr9 S1.out l1, HFar2.out _ _ _ _ _ hgr9 S2.out l2, HFar2.out _ _ _ _ _ hgr9 S3.out l3⟩ | (trace_state; fail "x"))
            (first
              | (go_at_call 29; refine (HT0c.out _ (HH.out.drewN 1) (HR.out.drewN 1)).mono ?_; rintro e w4 ⟨rfl, q4, rfl⟩)
              | (refine step_append_lies _ rfl _ _ 24 rfl W0.heap.size 3 i0 (.int .i64 0) 1 8 Try.underlying24 hi hz0 hz1 hz2 rfl (by decide) _ k (intL ((payL C).take k)) rfl (HOq.out (1 + q4)) ⟨_, 0, none⟩ 1 1 [.int .i64 p] rfl rfl (HNq.out (1 + q4)) (by simp [Value.oneCell']) (by omega) (by unfold maxLen; omega) (by omega) (HBq.out (1 + q4)) _ rfl ?_; intro g8 c8 w9 hown9 hgr9 _ _))
          have hfin : w9.ownsRow W0.heap.size 3 1 (.slice (some ⟨g8, 0, none⟩) (k + 1) c8) (k + 1) (intL ((payL C).take (k + 1))) := by
            rw [HPt.out k hlt, Hpy.out]
            unfold intL at hown9 ⊢
            rw [List.map_append]; exact hown9
          have hgr8 : ((W5.drewN (1 + q4)).alloc (.cells #[.int .i64 p] 3)).grownBy w9 u5.ownBlock := hgr9
          have hB8 : Below W0.heap.size W0 ((W5.drewN (1 + q4)).alloc (.cells #[.int .i64 p] 3)) := (below_drewN HB5.out (1 + q4)).trans ((below_alloc (W5.drewN (1 + q4)) _).mono HB5.out.size)
          have hB9 : Below W0.heap.size W0 w9 := hB8.grown hgr8 hB8.size (fun q e => (Hown5.out.lt q e).1)
          clear hgr8 hB8
          have HFin := Lib.hid hfin
          have HB9 := Lib.hid hB9
          clear hown9 hgr9 hfin hB9 s1 s2 s3
          go_wp2_with fail
          go_roundw
          case rel => exact ⟨k + 1, by omega, by go_num, HFin.out, HB9.out⟩
          case measure => simp [intOf]; omega
    · obtain rfl : k = n := by omega
      have hc1 : ¬ (k : Int) < k := by omega
      rw [List.take_of_length_le (by have := HPl.out; omega)] at hown
      obtain ⟨a5, c5, rfl, hR5⟩ := Row.of_own hown
      have HR5 := Lib.hid hR5
      have HB := Lib.hid hB
      clear hown hR5 hB
      go_wp2
      go_ret
      exact ⟨_, ⟨_, rfl⟩, HR5.out, b_next B2.out HB.out⟩
end Go.Proofs.Ytambhhjbafefgaa
