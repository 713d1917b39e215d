/- Search; Proof and Refute. -/
import Derived.Test.YtbbidgdgcbnanaaRun
import Derived.Test.YtbbidgdgcbnanaaPrf
namespace Go.Proofs.Ytbbidgdgcbnanaa
set_option linter.unusedVariables false
open Go.RowKit Go.Shelf Go.Sort
/-- what Search gives -/
def srchN (T : Tree) : Int × List Nat := abN T T.length 0 (-9223372036854775808) 9223372036854775807
theorem src_new (w0 : World) (g cap B n : Nat) : SrcI w0 g cap B n [] (w0.alloc (.cells #[.slice (some ⟨g, 0, none⟩) n cap, .slice (some ⟨B, 0, none⟩) n n, .slice none 0 0] 82)) :=
  ⟨below_alloc _ _, .slice none 0 0, heap_alloc_new w0 _, World.ownsRow_nil _ _ _ _⟩
set_option maxRecDepth 100000 in
set_option maxHeartbeats 4000000 in
theorem Search_yes (T : Tree) (hT : treeB T = true) (a : Option Addr) (cap : Nat) (w : World) (ht : TreeAt w a T) (hl : ∀ i, (kidsZ T i).length ≤ 1000000) :
    Calls Try.prog 25 #[.slice a T.length cap] w fun e w' => ∃ v, e = .returned (.tuple #[.int .i64 (srchN T).1, v, .int .i64 0]) ∧ w'.ownsRow w.heap.size 3 1 v (srchN T).2.length (natL (srchN T).2) ∧ Below w.heap.size w w' := by
  have hI := isTree_of hT
  have hn6 := hI.len
  have hn1 := hI.pos
  have hab := ab_len hI T.length 0 (-9223372036854775808) 9223372036854775807 hn1
  have hle := leavesN_le hI hn1
  have HG := Lib.hid (newGame_yes (cap := cap) hT ht (by omega) hl)
  have HRn := Lib.hid fun (g cap' B : Nat) (w0 : World) (ht' : TreeAt w0 (some ⟨g, 0, none⟩) T) (hd' : Deps w0 B T.length (dep T)) => run_any T hT g cap' B w0 ht' hd' T.length 0 (-9223372036854775808) 9223372036854775807 [] _ hn1 (by omega) (src_new w0 g cap' B T.length) (by simp; omega)
  have Hs : Hid (abN T T.length 0 (-9223372036854775808) 9223372036854775807 = srchN T) := rfl
  rw [Hs.out] at HRn
  generalize srchN T = R at HRn ⊢
  simp only [List.nil_append] at HRn
  generalize T.length = n at HG HRn hn6 ⊢
  clear hI ht hl hT hab hle Hs hn1
  go_enter Try.func25, Try.ntmps25
  go_wp2_with fail
  refine HG.out.mono ?_
  rintro e w1 ⟨g, cap', B, rfl, ht, hd, b1⟩
  have ba := below_alloc w1 (.cells #[.slice (some ⟨g, 0, none⟩) n cap', .slice (some ⟨B, 0, none⟩) n n] 70)
  have HR2 := Lib.hid (HRn.out g cap' B (w1.alloc (.cells #[.slice (some ⟨g, 0, none⟩) n cap', .slice (some ⟨B, 0, none⟩) n n] 70)) (ht.below ba) (World.rowIs.of_block hd (ba.block _ hd.lt)))
  have B1 := Lib.hid (b_next b1 ba)
  rw [show (w1.alloc (.cells #[.slice (some ⟨g, 0, none⟩) n cap', .slice (some ⟨B, 0, none⟩) n n] 70)).heap.size = w1.heap.size + 1 by simp, show ((0 : Nat) : Int) = 0 from rfl] at HR2
  clear b1 ht hd HG HRn ba
  go_wp2_with fail
  refine HR2.out.mono ?_
  rintro e w2 ⟨rfl, H2⟩
  have B2 : Hid (Below w.heap.size w w2) := b_next B1.out H2.below
  have Hlt : Hid (w.heap.size ≤ w1.heap.size + 1 + 1) := by have := B1.out.size; simp at this; unfold Hid; omega
  obtain ⟨v, hbx, hown⟩ := H2.box
  simp only [World.size_alloc] at hbx hown
  obtain ⟨-, -, c2, -⟩ := three_cells hbx
  obtain ⟨va, vc, hv, -⟩ := Row.of_own hown
  subst hv
  have Hown := Lib.hid hown
  clear H2 hbx hown HR2
  go_wp2
  go_quiet (fail)
  have B3 : Hid (Below w.heap.size w (w2.drewN nq)) := below_drewN B2.out nq
  have O3 : Hid ((w2.drewN nq).ownsRow (w1.heap.size + 1 + 1) 3 1 (.slice va R.2.length vc) R.2.length (natL R.2)) := Hown.out
  clear c2 B2 Hown
  generalize w2.drewN nq = w3 at B3 O3 ⊢
  go_wp2
  exact bodyPost_ret (results_tmp3 rfl _ _ _) rfl ⟨_, rfl, own_base O3.out Hlt.out, B3.out⟩
set_option maxRecDepth 100000 in
set_option maxHeartbeats 4000000 in
theorem Proof_yes (T : Tree) (hT : treeB T = true) (b : Int) (hb1 : -1000 ≤ b) (hb2 : b ≤ 1000) (hlow : showC T true b 0 < 61) (a : Option Addr) (cap : Nat) (w : World) (ht : TreeAt w a T) (hl : ∀ i, (kidsZ T i).length ≤ 1000000) :
    Calls Try.prog 31 #[.slice a T.length cap, .int .i64 b] w fun e w' => ∃ v, e = .returned (.tuple #[v, .int .i64 0]) ∧ w'.ownsRow w.heap.size 3 1 v (sortN (shownL T (showC T true b) true)).length (intL (sortN (shownL T (showC T true b) true))) ∧ Below w.heap.size w w' := by
  have HS := Lib.hid (shown_yes T hT true b hb1 hb2 hlow a cap w ht hl)
  generalize intL (sortN (shownL T (showC T true b) true)) = ls at HS ⊢
  generalize (sortN (shownL T (showC T true b) true)).length = m at HS ⊢
  generalize T.length = n at HS ⊢
  clear ht hl hT hlow
  go_enter Try.func31, Try.ntmps31
  go_wp2_with fail
  refine HS.out.mono ?_
  rintro e w2 ⟨v, rfl, ho, hb⟩
  have Ho := Lib.hid ho
  have Hb := Lib.hid hb
  clear ho hb HS
  go_wp2
  exact bodyPost_ret (results_tmp2 rfl _ _ _) rfl ⟨_, rfl, Ho.out, Hb.out⟩
end Go.Proofs.Ytbbidgdgcbnanaa
