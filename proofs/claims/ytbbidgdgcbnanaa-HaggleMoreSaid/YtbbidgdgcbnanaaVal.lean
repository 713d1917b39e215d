/- values: the nodes' values; Value. -/
import Derived.Test.YtbbidgdgcbnanaaFold
import Derived.Test.YtbbidgdgcbnanaaCst
import Derived.Shelf.Abstract
namespace Go.Proofs.Ytbbidgdgcbnanaa
set_option linter.unusedVariables false
open Go.RowKit Go.Maps Go.Sort Go.Shelf

theorem greater_any (a b : Int) (W : World) : Calls Try.prog 87 #[.int .i64 a, .int .i64 b] W fun e w' => e = .returned (.int .i64 (maxI a b)) ∧ w' = W := by
  go_enter Try.func87, Try.ntmps87
  go_wp2
  all_goals
    go_ret
    exact ⟨ret_int (by unfold maxI; omega), rfl⟩
theorem smaller_any (a b : Int) (W : World) : Calls Try.prog 88 #[.int .i64 a, .int .i64 b] W fun e w' => e = .returned (.int .i64 (minI a b)) ∧ w' = W := by
  go_enter Try.func88, Try.ntmps88
  go_wp2
  all_goals
    go_ret
    exact ⟨ret_int (by unfold minI; omega), rfl⟩
def prodW (a b : Int) : Int := wrap64 (a * b)
theorem prod_any (a b : Int) (W : World) : Calls Try.prog 71 #[.int .i64 a, .int .i64 b] W fun e w' => e = .returned (.int .i64 (prodW a b)) ∧ w' = W := by
  go_enter Try.func71, Try.ntmps71
  go_wp2
  go_ret
  exact ⟨rfl, rfl⟩
theorem wf_iff (x : Int) : Wf x ↔ -9223372036854775808 ≤ x ∧ x ≤ 9223372036854775807 := by
  unfold Wf Lit.wf
  simp [IntKind.min, IntKind.max, IntKind.bits, IntKind.signed]
theorem wf_max (a b : Int) (ha : Wf a) (hb : Wf b) : Wf (maxI a b) := by rw [wf_iff] at *; unfold maxI; omega
theorem wf_min (a b : Int) (ha : Wf a) (hb : Wf b) : Wf (minI a b) := by rw [wf_iff] at *; unfold minI; omega
theorem wf_wrap (x : Int) : Wf (wrap64 x) := by
  rw [wf_iff]
  unfold wrap64
  omega
theorem wf_worth {T : Tree} (h : IsTree T) (i : Nat) : Wf (worthOf T i) := by
  rw [wf_iff]
  by_cases hi : i < T.length
  · have := h.worth i hi
    unfold worthB at this
    unfold worthOf
    by_cases e : (nodeAt T i).1.isEmpty = true
    · rw [if_pos e] at this; have := of_decide_eq_true this; omega
    · rw [if_neg e] at this; have := of_decide_eq_true this; omega
  · unfold worthOf nodeAt
    rw [List.getD_eq_getElem?_getD, List.getElem?_eq_none (by omega)]
    simp only [Option.getD_none]; omega
/-- g.worth as a function value -/
theorem worth_fn (T : Tree) (g cap : Nat) (dv : Value) (hdv : dv.oneCell' = true) (w : World) (ht : TreeAt w (some ⟨g, 0, none⟩) T) (i : Nat) (W : World) (hi : i < T.length) (hW : Below w.heap.size w W) :
    Calls Try.prog 68 #[.agg #[.slice (some ⟨g, 0, none⟩) T.length cap, dv], .int .i64 i] W fun e w' => e = .returned (.int .i64 (worthOf T i)) ∧ Below W.heap.size W w' := by
  obtain ⟨g', ra, rc, e1, -, c2, -, -⟩ := (ht.below hW).node hi
  simp only [Option.some.injEq, Addr.mk.injEq, and_true] at e1
  subst e1
  refine (worth_cell g i T.length cap dv (worthOf T i) W hi hdv (World.block_lt_of_cell? _ _ c2) c2).mono ?_
  rintro e w' ⟨rfl, rfl⟩
  exact ⟨rfl, below_alloc _ _⟩
theorem box_next {w : World} (o p : Obj) : ((w.alloc o).alloc p).heap[w.heap.size]? = some o ∧ ((w.alloc o).alloc p).heap[w.heap.size + 1]? = some p := by
  constructor
  · exact ((below_alloc (w.alloc o) p).block _ (by simp)).trans (heap_alloc_new w o)
  · have := heap_alloc_new (w.alloc o) p
    simpa using this
set_option maxRecDepth 100000 in
set_option maxHeartbeats 4000000 in
theorem values_any (T : Tree) (hT : treeB T = true) (g cap B : Nat) (w : World) (ht : TreeAt w (some ⟨g, 0, none⟩) T) (hd : Deps w B T.length (dep T)) :
    Calls Try.prog 55 #[.agg #[.slice (some ⟨g, 0, none⟩) T.length cap, .slice (some ⟨B, 0, none⟩) T.length T.length]] w fun e w' =>
      e = .returned (.agg #[.slice (some ⟨g, 0, none⟩) T.length cap, .slice (some ⟨B, 0, none⟩) T.length T.length, .map (some (w.heap.size + 1 + 1 + 1 + 1))]) ∧ NumsAt w' (w.heap.size + 1 + 1 + 1 + 1) T.length 0 (valN T (worthOf T)) ∧ Below w.heap.size w w' := by
  have hI := isTree_of hT
  obtain ⟨n, hnn⟩ : ∃ n, T.length = n := ⟨_, rfl⟩
  have hmf : ∀ (fn : Fn) (first cap : Array Value) (w : World), (Instr.makeFunc fn first cap).run Try.prog w = .ok (.func fn first cap) w := fun _ _ _ _ => rfl
  have hfo : ∀ W, Below w.heap.size w W → Calls Try.prog 69 #[.agg #[.slice (some ⟨g, 0, none⟩) n cap, .slice (some ⟨B, 0, none⟩) n n], .func (.func 68) #[.agg #[.slice (some ⟨g, 0, none⟩) n cap, .slice (some ⟨B, 0, none⟩) n n]] #[], .func (.func 87) #[] #[], .func (.func 88) #[] #[]] W fun e w' =>
      e = .returned (.agg #[.slice (some ⟨g, 0, none⟩) n cap, .slice (some ⟨B, 0, none⟩) n n, .map (some (W.heap.size + 1 + 1))]) ∧ NumsAt w' (W.heap.size + 1 + 1) n 0 (valN T (worthOf T)) ∧ Below W.heap.size W w' := fun W hW => by
    have h := fold_any T hT g cap B W (ht.below hW) (World.rowIs.of_block hd (hW.block _ hd.lt)) 68 (.agg #[.slice (some ⟨g, 0, none⟩) n cap, .slice (some ⟨B, 0, none⟩) n n]) (worthOf T) (wf_worth hI) 87 88 maxI minI wf_max wf_min
      (enters_of Try.func68 (by kernel_rfl) rfl) (enters_of Try.func87 (by kernel_rfl) rfl) (enters_of Try.func88 (by kernel_rfl) rfl) greater_any smaller_any
      (fun i X hi _ hX => by rw [← hnn]; exact worth_fn T g cap _ rfl W (ht.below hW) i X hi hX)
    rw [hnn] at h
    exact h
  rw [hnn]
  have HFo := Lib.hid hfo
  clear hfo ht hd hI hT hnn
  obtain ⟨x0, x1⟩ := box_next (w := w) (.cells #[.slice (some ⟨g, 0, none⟩) n cap, .slice (some ⟨B, 0, none⟩) n n] 70) (.cells #[.slice none 0 0, .slice none 0 0, .map none] 75)
  have hb : Below w.heap.size w ((w.alloc (.cells #[.slice (some ⟨g, 0, none⟩) n cap, .slice (some ⟨B, 0, none⟩) n n] 70)).alloc (.cells #[.slice none 0 0, .slice none 0 0, .map none] 75)) := b_next (below_alloc _ _) (below_alloc _ _)
  have HB := Lib.hid hb
  have X1 := Lib.hid x1
  clear x0 x1 hb
  go_enter Try.func55, Try.ntmps55
  go_wp2_with fail
  refine (HFo.out _ HB.out).mono ?_
  rintro e w3 ⟨rfl, hN, b3⟩
  simp only [World.size_alloc] at hN
  have HN := Lib.hid hN
  have HB3 := Lib.hid (b_next HB.out b3)
  have hx : w3.heap[w.heap.size + 1]? = some (.cells #[.slice none 0 0, .slice none 0 0, .map none] 75) := (b3.block _ (Array.getElem?_eq_some_iff.1 X1.out).1).trans X1.out
  have HX := Lib.hid hx
  clear hN b3 hx HFo HB X1
  obtain ⟨e0, e1, e2, fz⟩ := three_cells HX.out
  have fz0 := fz 0
  have fz1 := fz 1
  have fz2 := fz 2
  clear fz
  go_wp2
  obtain ⟨r0, r1, r2⟩ := three_set HX.out (.slice (some ⟨g, 0, none⟩) n cap) (.slice (some ⟨B, 0, none⟩) n n) (.map (some (w.heap.size + 1 + 1 + 1 + 1)))
  have hbe := ((HB3.out.setCell (p := ⟨w.heap.size + 1, 0, none⟩) (by simp) (.slice (some ⟨g, 0, none⟩) n cap)).setCell (p := ⟨w.heap.size + 1, 1, none⟩) (by simp) (.slice (some ⟨B, 0, none⟩) n n)).setCell (p := ⟨w.heap.size + 1, 2, none⟩) (by simp) (.map (some (w.heap.size + 1 + 1 + 1 + 1)))
  have hnu := ((HN.out.set (B := w.heap.size + 1) (by omega) 0 (.slice (some ⟨g, 0, none⟩) n cap)).set (B := w.heap.size + 1) (by omega) 1 (.slice (some ⟨B, 0, none⟩) n n)).set (B := w.heap.size + 1) (by omega) 2 (.map (some (w.heap.size + 1 + 1 + 1 + 1)))
  exact bodyPost_ret (v := .agg #[.slice (some ⟨g, 0, none⟩) n cap, .slice (some ⟨B, 0, none⟩) n n, .map (some (w.heap.size + 1 + 1 + 1 + 1))]) (by simp [results, Try.results55, go_sem, r0, r1, r2]) rfl ⟨rfl, hnu, hbe⟩
theorem field_nums (x y : Value) (m : Option Nat) (w : World) : (Instr.field 75 (Value.agg #[x, y, .map m]) 1).run Try.prog w = .ok (.map m) w := by kernel_rfl
theorem newGame_no {T : Tree} {a : Option Addr} {cap : Nat} {w : World} (h0 : treeB T = false) (ht : TreeAt w a T) (hn : T.length ≤ 1000) (hl : ∀ i, (kidsZ T i).length ≤ 1000000) :
    Calls Try.prog 54 #[.slice a T.length cap] w fun e w' => e = .returned (.tuple #[.agg #[.slice none 0 0, .slice none 0 0], .bool false]) ∧ Below w.heap.size w w' := by
  refine (newGame_any T a cap w ht hn hl).mono ?_
  rintro e w1 ⟨b1, (⟨_, rfl⟩ | ⟨h1, _⟩)⟩
  · exact ⟨rfl, b1⟩
  · rw [h0] at h1; cases h1
theorem newGame_yes {T : Tree} {a : Option Addr} {cap : Nat} {w : World} (h0 : treeB T = true) (ht : TreeAt w a T) (hn : T.length ≤ 1000) (hl : ∀ i, (kidsZ T i).length ≤ 1000000) :
    Calls Try.prog 54 #[.slice a T.length cap] w fun e w' => ∃ g cap' B, e = .returned (.tuple #[.agg #[.slice (some ⟨g, 0, none⟩) T.length cap', .slice (some ⟨B, 0, none⟩) T.length T.length], .bool true]) ∧ TreeAt w' (some ⟨g, 0, none⟩) T ∧ Deps w' B T.length (dep T) ∧ Below w.heap.size w w' := by
  refine (newGame_any T a cap w ht hn hl).mono ?_
  rintro e w1 ⟨b1, (⟨h1, _⟩ | ⟨_, gv, rfl, g, cap', B, rfl, h2, h3⟩)⟩
  · rw [h0] at h1; cases h1
  · exact ⟨g, cap', B, rfl, h2, h3, b1⟩
set_option maxRecDepth 100000 in
set_option maxHeartbeats 4000000 in
theorem Value_any (T : Tree) (a : Option Addr) (cap : Nat) (w : World) (ht : TreeAt w a T) (hn : T.length ≤ 1000) (hl : ∀ i, (kidsZ T i).length ≤ 1000000) :
    Calls Try.prog 17 #[.slice a T.length cap] w fun e w' => e = .returned (.tuple #[.int .i64 (if treeB T then valN T (worthOf T) 0 else 0), .int .i64 (if treeB T then 0 else 2)]) ∧ Below w.heap.size w w' := by
  cases h0 : treeB T with
  | false =>
    have HG := Lib.hid (newGame_no (cap := cap) h0 ht hn hl)
    generalize T.length = n at HG ⊢
    simp only [Bool.false_eq_true, if_false]
    clear ht hn hl h0
    go_enter Try.func17, Try.ntmps17
    go_wp2_with fail
    refine HG.out.mono ?_
    rintro e w1 ⟨rfl, b1⟩
    have B1 := Lib.hid (b_next b1 (below_alloc w1 (.cells #[.slice none 0 0, .slice none 0 0] 70)))
    clear b1
    go_wp2
    go_ret2
    exact ⟨rfl, B1.out⟩
  | true =>
    have HG := Lib.hid (newGame_yes (cap := cap) h0 ht hn hl)
    have Hv := Lib.hid (values_any T h0)
    have hn1 := (isTree_of h0).pos
    have hn6 := (isTree_of h0).len
    generalize T.length = n at HG Hv hn1 hn6 ⊢
    generalize valN T (worthOf T) = f at Hv ⊢
    simp only [if_true]
    clear ht hn hl h0
    go_enter Try.func17, Try.ntmps17
    go_wp2_with fail
    refine HG.out.mono ?_
    rintro e w1 ⟨g, cap', B, rfl, ht, hd, b1⟩
    have ba := below_alloc w1 (.cells #[.slice (some ⟨g, 0, none⟩) n cap', .slice (some ⟨B, 0, none⟩) n n] 70)
    have HV := Lib.hid (Hv.out g cap' B _ (ht.below ba) (World.rowIs.of_block hd (ba.block _ hd.lt)))
    have B1 := Lib.hid (b_next b1 ba)
    clear b1 ht hd ba HG Hv
    go_wp2_with fail
    refine HV.out.mono ?_
    rintro e w2 ⟨rfl, hN, b2⟩
    have hlk : (Instr.lookup 73 (.map (some ((w1.alloc (.cells #[.slice (some ⟨g, 0, none⟩) n cap', .slice (some ⟨B, 0, none⟩) n n] 70)).heap.size + 1 + 1 + 1 + 1))) (.int .i64 0) false).run Try.prog w2 = .ok (.int .i64 (f 0)) w2 := hN.look (j := 0) (Nat.zero_le _) (by omega) (by omega)
    simp only [World.size_alloc] at hlk
    have B2 := Lib.hid (b_next B1.out b2)
    clear hN b2 HV
    have hfl := field_nums
    go_wp2
    go_ret2
    exact ⟨rfl, B2.out⟩
end Go.Proofs.Ytbbidgdgcbnanaa
