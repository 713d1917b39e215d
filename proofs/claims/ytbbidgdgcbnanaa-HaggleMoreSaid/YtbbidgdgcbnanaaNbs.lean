/- Decides and Numbers of trees with known leaves. -/
import Derived.Test.YtbbidgdgcbnanaaDec
namespace Go.Proofs.Ytbbidgdgcbnanaa
set_option linter.unusedVariables false
open Go.RowKit Go.Maps Go.Sort Go.Shelf

/-- how few further leaves decide a tree at least b, or at most b -/
def missN (T : Tree) (xs : List Int) (wanted : Bool) (b : Int) : Int := missV (costW T (learnP T xs (metB wanted b)) wanted 0)
theorem missing_max (T : Tree) (hT : treeB T = true) (b : Int) (ka : Option Addr) (kn kc : Nat) (xs : List Int) (g cap B : Nat) (w : World) (ht : TreeAt w (some ⟨g, 0, none⟩) T) (hd : Deps w B T.length (dep T)) (hk : Row w ka kn (intL xs)) (hkn : kn ≤ 1000000) :
    Calls Try.prog 78 #[.agg #[.slice (some ⟨g, 0, none⟩) T.length cap, .slice (some ⟨B, 0, none⟩) T.length T.length], .slice ka kn kc, .agg #[.int .i64 0, .int .i64 b]] w fun e w' => e = .returned (.int .i64 (missN T xs true b)) ∧ Below w.heap.size w w' :=
  missing_any T hT true b ka kn kc xs g cap B w ht hd hk hkn
theorem missing_min (T : Tree) (hT : treeB T = true) (b : Int) (ka : Option Addr) (kn kc : Nat) (xs : List Int) (g cap B : Nat) (w : World) (ht : TreeAt w (some ⟨g, 0, none⟩) T) (hd : Deps w B T.length (dep T)) (hk : Row w ka kn (intL xs)) (hkn : kn ≤ 1000000) :
    Calls Try.prog 78 #[.agg #[.slice (some ⟨g, 0, none⟩) T.length cap, .slice (some ⟨B, 0, none⟩) T.length T.length], .slice ka kn kc, .agg #[.int .i64 1, .int .i64 b]] w fun e w' => e = .returned (.int .i64 (missN T xs false b)) ∧ Below w.heap.size w w' :=
  missing_any T hT false b ka kn kc xs g cap B w ht hd hk hkn
set_option maxRecDepth 100000 in
set_option maxHeartbeats 4000000 in
theorem Decides_yes (T : Tree) (hT : treeB T = true) (a : Option Addr) (cap : Nat) (la : Option Addr) (m lc : Nat) (xs : List Int) (hL : listB T xs = true) (b : Int) (hb1 : -1000 ≤ b) (hb2 : b ≤ 1000) (w : World) (ht : TreeAt w a T) (hl : ∀ i, (kidsZ T i).length ≤ 1000000)
    (hr : Row w la m (intL xs)) (hm : m ≤ 1000000) :
    Calls Try.prog 40 #[.slice a T.length cap, .slice la m lc, .int .i64 b] w fun e w' => e = .returned (.tuple #[.bool (decide (missN T xs true b = 0)), .int .i64 0]) ∧ Below w.heap.size w w' := by
  have hI := isTree_of hT
  have hn6 := hI.len
  have HG := Lib.hid (newGame_yes (cap := cap) hT ht (by omega) hl)
  have HL := Lib.hid fun g cap' dv hdv W hW ht' => (isLeaves_any T hT g cap' dv hdv la m lc xs W ht' (hr.below hW) hm)
  rw [hL] at HL
  have HB := Lib.hid (isBound_any b)
  rw [decide_eq_true (show -1000 ≤ b ∧ b ≤ 1000 from ⟨hb1, hb2⟩)] at HB
  have HM := Lib.hid fun g cap' B W (hW : Below w.heap.size w W) ht' hd => missing_max T hT b la m lc xs g cap' B W ht' hd (hr.below hW) hm
  obtain ⟨r, hre⟩ : ∃ r, missN T xs true b = r := ⟨_, rfl⟩
  rw [hre] at HM ⊢
  generalize T.length = n at HG HL HM hn6 ⊢
  clear ht hl hr hI hT hL hre
  go_enter Try.func40, Try.ntmps40
  go_wp2_with fail
  refine HG.out.mono ?_
  rintro e w1 ⟨g, cap', B, rfl, ht, hd, b1⟩
  have ba := below_alloc w1 (.cells #[.slice (some ⟨g, 0, none⟩) n cap', .slice (some ⟨B, 0, none⟩) n n] 70)
  have hx := heap_alloc_new w1 (.cells #[.slice (some ⟨g, 0, none⟩) n cap', .slice (some ⟨B, 0, none⟩) n n] 70)
  have B1 := Lib.hid (b_next b1 ba)
  have Ht := Lib.hid (ht.below ba)
  have Hd : Hid (Deps (w1.alloc (.cells #[.slice (some ⟨g, 0, none⟩) n cap', .slice (some ⟨B, 0, none⟩) n n] 70)) B n (dep T)) := World.rowIs.of_block hd (ba.block _ hd.lt)
  have HX := Lib.hid hx
  have HLl := Lib.hid (HL.out g cap' (.slice (some ⟨B, 0, none⟩) n n) rfl _ B1.out Ht.out)
  clear b1 ht hd ba hx HG HL
  go_wp2_with fail
  refine HLl.out.mono ?_
  rintro e w2 ⟨rfl, b2⟩
  have B2 := Lib.hid (b_next B1.out b2)
  have hx2 := (b2.block _ (Array.getElem?_eq_some_iff.1 HX.out).1).trans HX.out
  obtain ⟨p0, p1, -⟩ := two_cells hx2
  have HMm := Lib.hid (HM.out g cap' B w2 B2.out (Ht.out.below b2) (World.rowIs.of_block Hd.out (b2.block _ Hd.out.lt)))
  clear b2 HX HLl HM Hd Ht hx2
  go_wp2_with fail
  refine (HB.out _).mono ?_
  rintro e w3 ⟨rfl, hw3⟩
  subst w3
  go_wp2_with fail
  refine HMm.out.mono ?_
  rintro e w4 ⟨rfl, b4⟩
  have B4 := Lib.hid (b_next B2.out b4)
  clear b4 HMm B2 B1
  by_cases h0 : r = 0
  · subst h0
    go_wp2
    go_ret2
    exact ⟨rfl, B4.out⟩
  · have h1 : (r == 0) = false := by rw [beq_eq_false_iff_ne]; exact h0
    have h2 := Lib.hid (decide_eq_false h0)
    clear h0
    go_wp2
    go_ret2
    exact ⟨by rw [h2.out]; rfl, B4.out⟩
set_option maxRecDepth 100000 in
set_option maxHeartbeats 4000000 in
theorem Numbers_yes (T : Tree) (hT : treeB T = true) (a : Option Addr) (cap : Nat) (la : Option Addr) (m lc : Nat) (xs : List Int) (hL : listB T xs = true) (b : Int) (hb1 : -1000 ≤ b) (hb2 : b ≤ 1000) (w : World) (ht : TreeAt w a T) (hl : ∀ i, (kidsZ T i).length ≤ 1000000)
    (hr : Row w la m (intL xs)) (hm : m ≤ 1000000) :
    Calls Try.prog 41 #[.slice a T.length cap, .slice la m lc, .int .i64 b] w fun e w' => e = .returned (.tuple #[.int .i64 (missN T xs true b), .int .i64 (missN T xs false (b - 1)), .int .i64 0]) ∧ Below w.heap.size w w' := by
  have hI := isTree_of hT
  have hn6 := hI.len
  have HG := Lib.hid (newGame_yes (cap := cap) hT ht (by omega) hl)
  have HL := Lib.hid fun g cap' dv hdv W hW ht' => (isLeaves_any T hT g cap' dv hdv la m lc xs W ht' (hr.below hW) hm)
  rw [hL] at HL
  have HB := Lib.hid (isBound_any b)
  rw [decide_eq_true (show -1000 ≤ b ∧ b ≤ 1000 from ⟨hb1, hb2⟩)] at HB
  have HM := Lib.hid fun g cap' B W (hW : Below w.heap.size w W) ht' hd => missing_max T hT b la m lc xs g cap' B W ht' hd (hr.below hW) hm
  have HM2 := Lib.hid fun g cap' B W (hW : Below w.heap.size w W) ht' hd => missing_min T hT (b - 1) la m lc xs g cap' B W ht' hd (hr.below hW) hm
  obtain ⟨b', hbe⟩ : ∃ b', b - 1 = b' := ⟨_, rfl⟩
  have hw1 : IntKind.i64.wrap (b - 1) = b' := by rw [IntWalk.i64_in _ (by omega)]; exact hbe
  have hw2 : wrap64 (b - 1) = b' := by rw [IntWalk.wrap64_in _ (by omega)]; exact hbe
  rw [hbe] at HM2 ⊢
  generalize missN T xs true b = r at HM ⊢
  generalize missN T xs false b' = r2 at HM2 ⊢
  generalize T.length = n at HG HL HM HM2 hn6 ⊢
  clear ht hl hr hI hT hL hbe
  go_enter Try.func41, Try.ntmps41
  go_wp2_with fail
  refine HG.out.mono ?_
  rintro e w1 ⟨g, cap', B, rfl, ht, hd, b1⟩
  have ba := below_alloc w1 (.cells #[.slice (some ⟨g, 0, none⟩) n cap', .slice (some ⟨B, 0, none⟩) n n] 70)
  have hx := heap_alloc_new w1 (.cells #[.slice (some ⟨g, 0, none⟩) n cap', .slice (some ⟨B, 0, none⟩) n n] 70)
  have B1 := Lib.hid (b_next b1 ba)
  have Ht := Lib.hid (ht.below ba)
  have Hd : Hid (Deps (w1.alloc (.cells #[.slice (some ⟨g, 0, none⟩) n cap', .slice (some ⟨B, 0, none⟩) n n] 70)) B n (dep T)) := World.rowIs.of_block hd (ba.block _ hd.lt)
  have HX := Lib.hid hx
  have HLl := Lib.hid (HL.out g cap' (.slice (some ⟨B, 0, none⟩) n n) rfl _ B1.out Ht.out)
  clear b1 ht hd ba hx HG HL
  go_wp2_with fail
  refine HLl.out.mono ?_
  rintro e w2 ⟨rfl, b2⟩
  have B2 := Lib.hid (b_next B1.out b2)
  have hx2 := (b2.block _ (Array.getElem?_eq_some_iff.1 HX.out).1).trans HX.out
  obtain ⟨p0, p1, -⟩ := two_cells hx2
  have Ht2 := Lib.hid (Ht.out.below b2)
  have Hd2 : Hid (Deps w2 B n (dep T)) := World.rowIs.of_block Hd.out (b2.block _ Hd.out.lt)
  clear b2 HX HLl Hd Ht hx2 B1
  go_wp2_with fail
  refine (HB.out _).mono ?_
  rintro e w3 ⟨rfl, hw3⟩
  subst w3
  have k0 := cell_regrown p0
  have k1 := cell_regrown p1
  have cM : ∀ d os, Calls Try.prog 78 #[.agg #[.slice (some ⟨g, 0, none⟩) n cap', .slice (some ⟨B, 0, none⟩) n n], .slice la m lc, .agg #[.int .i64 0, .int .i64 b]] (grow (redrawn w2 d) os) fun e w'' => e = .returned (.int .i64 r) ∧ ∃ p : Regrown, w'' = grow (redrawn w2 p.d) p.os := fun d os => Calls.regrown_of (HM.out g cap' B _ (b_next B2.out (below_regrown w2 d os)) (Ht2.out.below (below_regrown w2 d os)) (World.rowIs.of_block Hd2.out ((below_regrown w2 d os).block _ Hd2.out.lt)))
  have cM2 : ∀ d os, Calls Try.prog 78 #[.agg #[.slice (some ⟨g, 0, none⟩) n cap', .slice (some ⟨B, 0, none⟩) n n], .slice la m lc, .agg #[.int .i64 1, .int .i64 b']] (grow (redrawn w2 d) os) fun e w'' => e = .returned (.int .i64 r2) ∧ ∃ p : Regrown, w'' = grow (redrawn w2 p.d) p.os := fun d os => Calls.regrown_of (HM2.out g cap' B _ (b_next B2.out (below_regrown w2 d os)) (Ht2.out.below (below_regrown w2 d os)) (World.rowIs.of_block Hd2.out ((below_regrown w2 d os).block _ Hd2.out.lt)))
  clear p0 p1 HB HM HM2
  go_wp2
  refine wp_region_quiet_below (by kernel_rfl) (by kernel_rfl) ?_
  repeat (quiet_step (first | with_reducible exact cM _ _ | with_reducible exact cM2 _ _))
  refine wpQuiet_nil ?_
  intro w4 hw4
  obtain ⟨⟨d4, o4⟩, hw4e⟩ := hw4
  have B4 : Hid (Below w.heap.size w w4) := by unfold Hid; rw [hw4e]; exact b_next B2.out (below_regrown _ _ _)
  clear hw4e k0 k1 cM cM2
  go_wp2
  exact bodyPost_ret (results_tmp3 rfl _ _ _) rfl ⟨rfl, B4.out⟩
end Go.Proofs.Ytbbidgdgcbnanaa
