/- (*search).run: a leaf; a node of Max; a node of Min. -/
import Derived.Test.YtbbidgdgcbnanaaSrc
import Derived.WalkMore
import Derived.Test.YtbbidgdgcbnanaaVsm
namespace Go.Proofs.Ytbbidgdgcbnanaa
set_option linter.unusedVariables false
open Go.RowKit Go.Shelf Go.Sort
set_option maxRecDepth 100000 in
set_option maxHeartbeats 4000000 in
theorem run_leaf (T : Tree) (i g cap B : Nat) (lo hi : Int) (w0 : World) (xs : List Nat) (hxs : xs.length ≤ 1000) (X : World) (hX : SrcI w0 g cap B T.length xs X) (ht : TreeAt w0 (some ⟨g, 0, none⟩) T) (hi' : i < T.length) (hk : kids T i = []) :
    Calls Try.prog 62 #[.pointer (some ⟨w0.heap.size, 0, none⟩), .int .i64 i, .int .i64 lo, .int .i64 hi] X fun e w' => e = .returned (.int .i64 (worthOf T i)) ∧ SrcI w0 g cap B T.length (xs ++ [i]) w' := by
  obtain ⟨g', ra, rc, e1, c1, c2, -, -⟩ := ht.node hi'
  simp only [Option.some.injEq, Addr.mk.injEq, and_true] at e1
  subst e1
  have hgl : g < w0.heap.size := World.block_lt_of_cell? _ _ c1
  rw [← kids_len, hk] at c1
  have HL := Lib.hid fun W (hW : Below w0.heap.size w0 W) => isLeaf_cell g i T.length cap (.slice (some ⟨B, 0, none⟩) T.length T.length) ra 0 rc W hi' rfl ((hW.cell (p := ⟨g, i * 2, none⟩) hgl).trans c1) (Nat.lt_of_lt_of_le hgl hW.size)
  have HW := Lib.hid fun W (hW : Below w0.heap.size w0 W) => worth_cell g i T.length cap (.slice (some ⟨B, 0, none⟩) T.length T.length) (worthOf T i) W hi' rfl (Nat.lt_of_lt_of_le hgl hW.size) ((hW.cell (p := ⟨g, i * 2 + 1, none⟩) hgl).trans c2)
  obtain ⟨i0, hz, hz0, hz1, hz2⟩ := info_parts info_intF
  generalize worthOf T i = x at HW ⊢
  generalize T.length = n at hX HL HW ⊢
  clear c1 c2 ht hk hi'
  obtain ⟨c0, c1⟩ := hX.cells
  have HX := Lib.hid hX
  clear hX
  go_enter Try.func62, Try.ntmps62
  go_wp2_with fail
  go_step3
  go_wp2_with fail
  refine (HL.out _ HX.out.below).mono ?_
  rintro e w1 ⟨rfl, b1⟩
  have H1 := Lib.hid (HX.out.next b1)
  clear b1 c0 c1 HX HL
  obtain ⟨v, hbx, hown⟩ := H1.out.box
  obtain ⟨c0, c1, c2, fz⟩ := three_cells hbx
  have fz2 := fz 2
  obtain ⟨a, vc, hv, -⟩ := Row.of_own hown
  subst hv
  obtain ⟨k, hk⟩ : ∃ k, xs.length = k := ⟨_, rfl⟩
  have Hk := Lib.hid hk
  have Hown := Lib.hid hown
  rw [hk] at c2 hxs hown
  have Hown5 := Lib.hid (hown.alloc (.cells #[.int .i64 i] 3))
  have Hbx := Lib.hid hbx
  clear hown hk hbx fz
  go_wp2_with (at_builtin; refine wpList_append_own_at _ rfl _ _ 27 rfl (w0.heap.size + 1) 3 i0 (.int .i64 0) 1 8 Try.underlying27 hz hz0 hz1 hz2 rfl (by decide) _ _ _ rfl Hown5.out ⟨w1.heap.size, 0, none⟩ 1 1 [.int .i64 (i : Int)] rfl rfl (one_new _ _ _ _ rfl) (by simp [Value.oneCell']) (by unfold maxLen; omega) (by omega) (by have := H1.out.lt; simp; omega) ?_)
  intro v' w9 ho9 hg9 _ _
  obtain ⟨h9, hS⟩ := src_push H1.out.below Hbx.out Hown.out (World.grownBy_alloc w1 (.cells #[.int .i64 i] 3) none) (by rw [Hk.out]; exact ho9) (by rw [Hk.out]; exact hg9)
  obtain ⟨q, qc, hv'⟩ := ownsRow_succ ho9
  subst hv'
  obtain ⟨-, -, d2, fz⟩ := three_cells h9
  have fz2 := fz 2
  have H9 := Lib.hid hS
  clear hS h9 ho9 hg9 fz c0 c1 c2 H1 Hown Hown5 Hbx Hk hxs
  have HW9 := Lib.hid (HW.out _ H9.out.below)
  obtain ⟨e0, e1⟩ := H9.out.cells
  clear HW
  go_wp2_with fail
  refine HW9.out.mono ?_
  rintro e w8 ⟨rfl, hw8⟩
  have H8 : Hid (SrcI w0 g cap B n (xs ++ [i]) w8) := H9.out.next (by rw [hw8]; exact below_alloc _ _)
  clear hw8 e0 e1 d2 fz2 H9 HW9
  go_wp2
  try rw [Exit.noGoto_ret]
  go_ret
  exact ⟨rfl, H8.out⟩
set_option maxRecDepth 100000 in
set_option maxHeartbeats 4000000 in
theorem run_max (T : Tree) (hT : treeB T = true) (i g cap B : Nat) (lo hi : Int) (go : Nat → Int → Int × List Nat) (w0 : World) (xs : List Nat) (X : World) (hX : SrcI w0 g cap B T.length xs X) (ht : TreeAt w0 (some ⟨g, 0, none⟩) T) (hd : Deps w0 B T.length (dep T)) (hi' : i < T.length) (hk : kids T i ≠ []) (he : dep T i % 2 = 0)
    (hlen : xs.length + (scanN go (fun b => decide (hi ≤ b)) max (kids T i) lo).2.length ≤ 1000)
    (hrec : ∀ (c : Nat) (b : Int) (ys : List Nat) (Y : World), c ∈ kids T i → ys.length + (go c b).2.length ≤ 1000 → SrcI w0 g cap B T.length ys Y → Calls Try.prog 62 #[.pointer (some ⟨w0.heap.size, 0, none⟩), .int .i64 c, .int .i64 b, .int .i64 hi] Y fun e w' => e = .returned (.int .i64 (go c b).1) ∧ SrcI w0 g cap B T.length (ys ++ (go c b).2) w') :
    Calls Try.prog 62 #[.pointer (some ⟨w0.heap.size, 0, none⟩), .int .i64 i, .int .i64 lo, .int .i64 hi] X fun e w' => e = .returned (.int .i64 (scanN go (fun b => decide (hi ≤ b)) max (kids T i) lo).1) ∧ SrcI w0 g cap B T.length (xs ++ (scanN go (fun b => decide (hi ≤ b)) max (kids T i) lo).2) w' := by
  have hI := isTree_of hT
  have hn6 := hI.len
  have hdle := dep_le hT i
  obtain ⟨g', ra, rc, e1, c1, -, -, hrow⟩ := ht.node hi'
  simp only [Option.some.injEq, Addr.mk.injEq, and_true] at e1
  subst e1
  have hgl : g < w0.heap.size := World.block_lt_of_cell? _ _ c1
  rw [kids_row hI i] at hrow
  rw [← kids_len] at c1 hrow
  have hl6 : (kids T i).length ≤ 60 := by
    have h3 := List.Nodup.length_le_of_subset (l₂ := List.range T.length) (hI.kids_nodup i) (fun c hc => List.mem_range.2 (hI.kid hc).2.1)
    rw [List.length_range] at h3; omega
  have hl0 : ¬ (kids T i).length = 0 := fun h => hk (List.eq_nil_of_length_eq_zero h)
  have hdc := World.rowIs.cell hd hi'
  have hBl : B < w0.heap.size := World.block_lt_of_cell? _ _ hdc
  have HL := Lib.hid fun W (hW : Below w0.heap.size w0 W) => isLeaf_cell g i T.length cap (.slice (some ⟨B, 0, none⟩) T.length T.length) ra (kids T i).length rc W hi' rfl ((hW.cell (p := ⟨g, i * 2, none⟩) hgl).trans c1) (Nat.lt_of_lt_of_le hgl hW.size)
  rw [decide_eq_false hl0] at HL
  have HC := Lib.hid fun W (hW : Below w0.heap.size w0 W) => children_cell g i T.length cap (.slice (some ⟨B, 0, none⟩) T.length T.length) ra (kids T i).length rc W hi' rfl (Nat.lt_of_lt_of_le hgl hW.size) ((hW.cell (p := ⟨g, i * 2, none⟩) hgl).trans c1)
  have HM := Lib.hid fun W (hW : Below w0.heap.size w0 W) => mover_cell (.slice (some ⟨g, 0, none⟩) T.length cap) B i T.length T.length (dep T i) W hi' rfl (by omega) (Nat.lt_of_lt_of_le hBl hW.size) ((hW.cell (p := ⟨B, i, none⟩) hBl).trans hdc)
  rw [he] at HM
  obtain ⟨rg, rfl, hrg, hrc⟩ := hrow.2 (by omega)
  have HR := Lib.hid fun W (hW : Below w0.heap.size w0 W) (j : Nat) (c : Nat) (hj : (kids T i)[j]? = some c) => (hW.cell (p := ⟨rg, j, none⟩) hrg).trans (hrc j (.int .i64 (c : Int)) (by unfold intL; rw [List.getElem?_map, List.getElem?_map, hj]; rfl))
  have Hrec := Lib.hid hrec
  have Hlen := Lib.hid hlen
  obtain ⟨cs, hcs⟩ : ∃ cs, kids T i = cs := ⟨_, rfl⟩
  rw [hcs] at HC HR Hrec Hlen hl6 ⊢
  generalize T.length = n at *
  obtain ⟨R, hR⟩ : ∃ R, scanN go (fun b => decide (hi ≤ b)) max cs lo = R := ⟨_, rfl⟩
  rw [hR] at Hlen ⊢
  have HR0 := Lib.hid hR
  obtain ⟨l, hl⟩ : ∃ l, cs.length = l := ⟨_, rfl⟩
  have Hl := Lib.hid hl
  rw [hl] at HC hl6
  clear c1 ht hk hI hrow hrc hd hT hcs hR hlen hrec hdc hl he hl0 hdle
  obtain ⟨c0, c1⟩ := hX.cells
  have HX := Lib.hid hX
  clear hX
  go_enter Try.func62, Try.ntmps62
  go_wp2_with fail
  go_step3
  go_wp2_with fail
  refine (HL.out _ HX.out.below).mono ?_
  rintro e w1 ⟨rfl, b1⟩
  have H1 := Lib.hid (HX.out.next b1)
  clear b1 c0 c1 HX HL
  obtain ⟨c0, c1⟩ := H1.out.cells
  go_wp2_with fail
  refine (HM.out _ H1.out.below).mono ?_
  rintro e w2 ⟨rfl, hw2⟩
  have H2 : Hid (SrcI w0 g cap B n xs w2) := H1.out.next (by rw [hw2]; exact below_alloc _ _)
  clear hw2 c0 c1 H1
  obtain ⟨c0, c1⟩ := H2.out.cells
  go_wp2_with fail
  go_step3
  go_wp2_with fail
  refine (HC.out _ H2.out.below).mono ?_
  rintro e w3 ⟨rfl, hw3⟩
  have H3 : Hid (SrcI w0 g cap B n xs w3) := H2.out.next (by rw [hw3]; exact below_alloc _ _)
  clear hw3 c0 c1 H2 HC
  go_wp2
  go_loopw [9, 11, 50] (fun b _ v wr => ∃ (k : Nat) (x : Int) (pre : List Nat), k ≤ l ∧ v = .int .i64 k ∧ b = .int .i64 x ∧ Hid (((scanN go (fun b => decide (hi ≤ b)) max (cs.drop k) x).1, pre ++ (scanN go (fun b => decide (hi ≤ b)) max (cs.drop k) x).2) = R) ∧ Hid (SrcI w0 g cap B n (xs ++ pre) wr)) (fun _ _ v _ => l - (intOf v).toNat)
  case atStart => exact ⟨0, lo, [], Nat.zero_le _, rfl, rfl, by rw [← HR0.out]; rfl, by rw [List.append_nil]; exact H3⟩
  case round =>
    clear H3 HR0
    obtain ⟨k, x, pre, hkl, rfl, rfl, HS, HI⟩ := hrel
    by_cases hk : k = l
    · have hk2 : ¬ (k : Int) < l := by omega
      have HF : Hid (x = R.1 ∧ pre = R.2) := by
        have := HS.out
        rw [List.drop_eq_nil_of_le (by rw [Hl.out]; omega)] at this
        rw [← this]; exact ⟨rfl, (List.append_nil _).symm⟩
      clear hk hkl
      go_wp2
      try rw [Exit.noGoto_ret]
      exact bodyPost_ret (results_tmp rfl _ _ _) rfl ⟨(by exact congrArg (fun z => Ending.returned (.int .i64 z)) HF.out.1), by rw [← HF.out.2]; exact HI.out⟩
    · have hk2 : (k : Int) < l := by omega
      have hk3 : k < l := by omega
      obtain ⟨c, hc⟩ : ∃ c, cs[k]? = some c := ⟨_, List.getElem?_eq_getElem (by rw [Hl.out]; exact hk3)⟩
      have ck := HR.out _ HI.out.below k c hc
      have Hc := Lib.hid hc
      obtain ⟨c0, c1⟩ := HI.out.cells
      have hst := scan_step go (fun b => decide (hi ≤ b)) max hc x
      have Hst := Lib.hid hst
      clear hk hc hst hkl
      go_wp2_with fail
      refine (HM.out _ HI.out.below).mono ?_
      rintro e w4 ⟨rfl, hw4⟩
      have H4 : Hid (SrcI w0 g cap B n (xs ++ pre) w4) := HI.out.next (by rw [hw4]; exact below_alloc _ _)
      clear hw4 c0 c1 HI ck
      go_wp2_with fail
      refine (Hrec.out c x (xs ++ pre) _ (List.mem_of_getElem? Hc.out) (by
        have h1 := Hlen.out
        have h2 := HS.out
        rw [Hst.out] at h2
        rw [← h2] at h1
        split at h1 <;> simp only [List.length_append] at h1 ⊢ <;> omega) H4.out).mono ?_
      rintro e w5 ⟨rfl, H5⟩
      rw [Hst.out] at HS
      have H5h := Lib.hid H5
      clear H5 Hst H4 Hc
      by_cases hs : hi ≤ max x (go c x).1
      · have HF : Hid (max x (go c x).1 = R.1 ∧ pre ++ (go c x).2 = R.2) := by
          have := HS.out
          rw [if_pos (decide_eq_true hs)] at this
          rw [← this]; exact ⟨rfl, rfl⟩
        go_wp2
        try rw [Exit.noGoto_ret]
        exact bodyPost_ret (results_tmp rfl _ _ _) rfl ⟨(by exact congrArg (fun z => Ending.returned (.int .i64 z)) HF.out.1), by rw [← HF.out.2, ← List.append_assoc]; exact H5h.out⟩
      · have HS2 : Hid (((scanN go (fun b => decide (hi ≤ b)) max (cs.drop (k + 1)) (max x (go c x).1)).1, (pre ++ (go c x).2) ++ (scanN go (fun b => decide (hi ≤ b)) max (cs.drop (k + 1)) (max x (go c x).1)).2) = R) := by
          have := HS.out
          rw [if_neg (by rw [decide_eq_true_eq]; exact hs)] at this
          rw [← this, List.append_assoc]; rfl
        clear HS
        go_wp2
        go_roundw
        case rel => exact ⟨k + 1, _, pre ++ (go c x).2, by omega, by first | rfl | (congr 1; omega), rfl, HS2, by rw [← List.append_assoc]; exact H5h⟩
        case measure => simp [intOf]; omega
set_option maxRecDepth 100000 in
set_option maxHeartbeats 4000000 in
theorem run_min (T : Tree) (hT : treeB T = true) (i g cap B : Nat) (lo hi : Int) (go : Nat → Int → Int × List Nat) (w0 : World) (xs : List Nat) (X : World) (hX : SrcI w0 g cap B T.length xs X) (ht : TreeAt w0 (some ⟨g, 0, none⟩) T) (hd : Deps w0 B T.length (dep T)) (hi' : i < T.length) (hk : kids T i ≠ []) (he : dep T i % 2 = 1)
    (hlen : xs.length + (scanN go (fun b => decide (b ≤ lo)) min (kids T i) hi).2.length ≤ 1000)
    (hrec : ∀ (c : Nat) (b : Int) (ys : List Nat) (Y : World), c ∈ kids T i → ys.length + (go c b).2.length ≤ 1000 → SrcI w0 g cap B T.length ys Y → Calls Try.prog 62 #[.pointer (some ⟨w0.heap.size, 0, none⟩), .int .i64 c, .int .i64 lo, .int .i64 b] Y fun e w' => e = .returned (.int .i64 (go c b).1) ∧ SrcI w0 g cap B T.length (ys ++ (go c b).2) w') :
    Calls Try.prog 62 #[.pointer (some ⟨w0.heap.size, 0, none⟩), .int .i64 i, .int .i64 lo, .int .i64 hi] X fun e w' => e = .returned (.int .i64 (scanN go (fun b => decide (b ≤ lo)) min (kids T i) hi).1) ∧ SrcI w0 g cap B T.length (xs ++ (scanN go (fun b => decide (b ≤ lo)) min (kids T i) hi).2) w' := by
  have hI := isTree_of hT
  have hn6 := hI.len
  have hdle := dep_le hT i
  obtain ⟨g', ra, rc, e1, c1, -, -, hrow⟩ := ht.node hi'
  simp only [Option.some.injEq, Addr.mk.injEq, and_true] at e1
  subst e1
  have hgl : g < w0.heap.size := World.block_lt_of_cell? _ _ c1
  rw [kids_row hI i] at hrow
  rw [← kids_len] at c1 hrow
  have hl6 : (kids T i).length ≤ 60 := by
    have h3 := List.Nodup.length_le_of_subset (l₂ := List.range T.length) (hI.kids_nodup i) (fun c hc => List.mem_range.2 (hI.kid hc).2.1)
    rw [List.length_range] at h3; omega
  have hl0 : ¬ (kids T i).length = 0 := fun h => hk (List.eq_nil_of_length_eq_zero h)
  have hdc := World.rowIs.cell hd hi'
  have hBl : B < w0.heap.size := World.block_lt_of_cell? _ _ hdc
  have HL := Lib.hid fun W (hW : Below w0.heap.size w0 W) => isLeaf_cell g i T.length cap (.slice (some ⟨B, 0, none⟩) T.length T.length) ra (kids T i).length rc W hi' rfl ((hW.cell (p := ⟨g, i * 2, none⟩) hgl).trans c1) (Nat.lt_of_lt_of_le hgl hW.size)
  rw [decide_eq_false hl0] at HL
  have HC := Lib.hid fun W (hW : Below w0.heap.size w0 W) => children_cell g i T.length cap (.slice (some ⟨B, 0, none⟩) T.length T.length) ra (kids T i).length rc W hi' rfl (Nat.lt_of_lt_of_le hgl hW.size) ((hW.cell (p := ⟨g, i * 2, none⟩) hgl).trans c1)
  have HM := Lib.hid fun W (hW : Below w0.heap.size w0 W) => mover_cell (.slice (some ⟨g, 0, none⟩) T.length cap) B i T.length T.length (dep T i) W hi' rfl (by omega) (Nat.lt_of_lt_of_le hBl hW.size) ((hW.cell (p := ⟨B, i, none⟩) hBl).trans hdc)
  rw [he] at HM
  obtain ⟨rg, rfl, hrg, hrc⟩ := hrow.2 (by omega)
  have HR := Lib.hid fun W (hW : Below w0.heap.size w0 W) (j : Nat) (c : Nat) (hj : (kids T i)[j]? = some c) => (hW.cell (p := ⟨rg, j, none⟩) hrg).trans (hrc j (.int .i64 (c : Int)) (by unfold intL; rw [List.getElem?_map, List.getElem?_map, hj]; rfl))
  have Hrec := Lib.hid hrec
  have Hlen := Lib.hid hlen
  obtain ⟨cs, hcs⟩ : ∃ cs, kids T i = cs := ⟨_, rfl⟩
  rw [hcs] at HC HR Hrec Hlen hl6 ⊢
  generalize T.length = n at *
  obtain ⟨R, hR⟩ : ∃ R, scanN go (fun b => decide (b ≤ lo)) min cs hi = R := ⟨_, rfl⟩
  rw [hR] at Hlen ⊢
  have HR0 := Lib.hid hR
  obtain ⟨l, hl⟩ : ∃ l, cs.length = l := ⟨_, rfl⟩
  have Hl := Lib.hid hl
  rw [hl] at HC hl6
  clear c1 ht hk hI hrow hrc hd hT hcs hR hlen hrec hdc hl he hl0 hdle
  obtain ⟨c0, c1⟩ := hX.cells
  have HX := Lib.hid hX
  clear hX
  go_enter Try.func62, Try.ntmps62
  go_wp2_with fail
  go_step3
  go_wp2_with fail
  refine (HL.out _ HX.out.below).mono ?_
  rintro e w1 ⟨rfl, b1⟩
  have H1 := Lib.hid (HX.out.next b1)
  clear b1 c0 c1 HX HL
  obtain ⟨c0, c1⟩ := H1.out.cells
  go_wp2_with fail
  refine (HM.out _ H1.out.below).mono ?_
  rintro e w2 ⟨rfl, hw2⟩
  have H2 : Hid (SrcI w0 g cap B n xs w2) := H1.out.next (by rw [hw2]; exact below_alloc _ _)
  clear hw2 c0 c1 H1
  obtain ⟨c0, c1⟩ := H2.out.cells
  go_wp2_with fail
  go_step3
  go_wp2_with fail
  refine (HC.out _ H2.out.below).mono ?_
  rintro e w3 ⟨rfl, hw3⟩
  have H3 : Hid (SrcI w0 g cap B n xs w3) := H2.out.next (by rw [hw3]; exact below_alloc _ _)
  clear hw3 c0 c1 H2 HC
  go_wp2
  go_loopw [9, 11, 50] (fun b _ v wr => ∃ (k : Nat) (x : Int) (pre : List Nat), k ≤ l ∧ v = .int .i64 k ∧ b = .int .i64 x ∧ Hid (((scanN go (fun b => decide (b ≤ lo)) min (cs.drop k) x).1, pre ++ (scanN go (fun b => decide (b ≤ lo)) min (cs.drop k) x).2) = R) ∧ Hid (SrcI w0 g cap B n (xs ++ pre) wr)) (fun _ _ v _ => l - (intOf v).toNat)
  case atStart => exact ⟨0, hi, [], Nat.zero_le _, rfl, rfl, by rw [← HR0.out]; rfl, by rw [List.append_nil]; exact H3⟩
  case round =>
    clear H3 HR0
    obtain ⟨k, x, pre, hkl, rfl, rfl, HS, HI⟩ := hrel
    by_cases hk : k = l
    · have hk2 : ¬ (k : Int) < l := by omega
      have HF : Hid (x = R.1 ∧ pre = R.2) := by
        have := HS.out
        rw [List.drop_eq_nil_of_le (by rw [Hl.out]; omega)] at this
        rw [← this]; exact ⟨rfl, (List.append_nil _).symm⟩
      clear hk hkl
      go_wp2
      try rw [Exit.noGoto_ret]
      exact bodyPost_ret (results_tmp rfl _ _ _) rfl ⟨(by exact congrArg (fun z => Ending.returned (.int .i64 z)) HF.out.1), by rw [← HF.out.2]; exact HI.out⟩
    · have hk2 : (k : Int) < l := by omega
      have hk3 : k < l := by omega
      obtain ⟨c, hc⟩ : ∃ c, cs[k]? = some c := ⟨_, List.getElem?_eq_getElem (by rw [Hl.out]; exact hk3)⟩
      have ck := HR.out _ HI.out.below k c hc
      have Hc := Lib.hid hc
      obtain ⟨c0, c1⟩ := HI.out.cells
      have hst := scan_step go (fun b => decide (b ≤ lo)) min hc x
      have Hst := Lib.hid hst
      clear hk hc hst hkl
      go_wp2_with fail
      refine (HM.out _ HI.out.below).mono ?_
      rintro e w4 ⟨rfl, hw4⟩
      have H4 : Hid (SrcI w0 g cap B n (xs ++ pre) w4) := HI.out.next (by rw [hw4]; exact below_alloc _ _)
      clear hw4 c0 c1 HI ck
      go_wp2_with fail
      refine (Hrec.out c x (xs ++ pre) _ (List.mem_of_getElem? Hc.out) (by
        have h1 := Hlen.out
        have h2 := HS.out
        rw [Hst.out] at h2
        rw [← h2] at h1
        split at h1 <;> simp only [List.length_append] at h1 ⊢ <;> omega) H4.out).mono ?_
      rintro e w5 ⟨rfl, H5⟩
      rw [Hst.out] at HS
      have H5h := Lib.hid H5
      clear H5 Hst H4 Hc
      by_cases hs : min x (go c x).1 ≤ lo
      · have HF : Hid (min x (go c x).1 = R.1 ∧ pre ++ (go c x).2 = R.2) := by
          have := HS.out
          rw [if_pos (decide_eq_true hs)] at this
          rw [← this]; exact ⟨rfl, rfl⟩
        go_wp2
        try rw [Exit.noGoto_ret]
        exact bodyPost_ret (results_tmp rfl _ _ _) rfl ⟨(by exact congrArg (fun z => Ending.returned (.int .i64 z)) HF.out.1), by rw [← HF.out.2, ← List.append_assoc]; exact H5h.out⟩
      · have HS2 : Hid (((scanN go (fun b => decide (b ≤ lo)) min (cs.drop (k + 1)) (min x (go c x).1)).1, (pre ++ (go c x).2) ++ (scanN go (fun b => decide (b ≤ lo)) min (cs.drop (k + 1)) (min x (go c x).1)).2) = R) := by
          have := HS.out
          rw [if_neg (by rw [decide_eq_true_eq]; exact hs)] at this
          rw [← this, List.append_assoc]; rfl
        clear HS
        go_wp2
        go_roundw
        case rel => exact ⟨k + 1, _, pre ++ (go c x).2, by omega, by first | rfl | (congr 1; omega), rfl, HS2, by rw [← List.append_assoc]; exact H5h⟩
        case measure => simp [intOf]; omega
/-- run, from any node on -/
theorem run_any (T : Tree) (hT : treeB T = true) (g cap B : Nat) (w0 : World) (ht : TreeAt w0 (some ⟨g, 0, none⟩) T) (hd : Deps w0 B T.length (dep T)) : ∀ (F i : Nat) (lo hi : Int) (xs : List Nat) (X : World), i < T.length → T.length ≤ i + F → SrcI w0 g cap B T.length xs X → xs.length + (abN T F i lo hi).2.length ≤ 1000 →
    Calls Try.prog 62 #[.pointer (some ⟨w0.heap.size, 0, none⟩), .int .i64 i, .int .i64 lo, .int .i64 hi] X fun e w' => e = .returned (.int .i64 (abN T F i lo hi).1) ∧ SrcI w0 g cap B T.length (xs ++ (abN T F i lo hi).2) w'
  | 0, i, lo, hi, xs, X, hi', hF, hX, hlen => by omega
  | F + 1, i, lo, hi, xs, X, hi', hF, hX, hlen => by
    have hI := isTree_of hT
    have hk : ∀ c ∈ kids T i, c < T.length ∧ T.length ≤ c + F := fun c hc => ⟨(hI.kid hc).2.1, by have := (hI.kid hc).1; omega⟩
    unfold abN at hlen ⊢
    by_cases e : kids T i = []
    · rw [if_pos e] at hlen ⊢
      exact run_leaf T i g cap B lo hi w0 xs (by omega) X hX ht hi' e
    · rw [if_neg e] at hlen ⊢
      by_cases e2 : even T i = true
      · rw [if_pos e2] at hlen ⊢
        exact run_max T hT i g cap B lo hi _ w0 xs X hX ht hd hi' e (of_decide_eq_true e2) hlen fun c b ys Y hc hl hY => run_any T hT g cap B w0 ht hd F c b hi ys Y (hk c hc).1 (hk c hc).2 hY hl
      · rw [if_neg e2] at hlen ⊢
        have e3 : ¬ dep T i % 2 = 0 := fun h => e2 (decide_eq_true h)
        exact run_min T hT i g cap B lo hi _ w0 xs X hX ht hd hi' e (by omega) hlen fun c b ys Y hc hl hY => run_any T hT g cap B w0 ht hd F c lo b ys Y (hk c hc).1 (hk c hc).2 hY hl
end Go.Proofs.Ytbbidgdgcbnanaa
