/- costs, missing: how few leaves prove a claim. -/
import Derived.Test.YtbbidgdgcbnanaaLearn
namespace Go.Proofs.Ytbbidgdgcbnanaa
set_option linter.unusedVariables false
open Go.RowKit Go.Maps Go.Sort Go.Shelf

theorem four_box {w : World} (o p : Obj) : Below w.heap.size w ((w.alloc o).alloc p) := b_next (below_alloc _ _) (below_alloc _ _)
set_option maxRecDepth 100000 in
set_option maxHeartbeats 4000000 in
theorem costs_any (T : Tree) (hT : treeB T = true) (wanted : Bool) (b : Int) (kv : Value) (hkv : kv.oneCell' = true) (g cap B : Nat) (w : World) (ht : TreeAt w (some ⟨g, 0, none⟩) T) (hd : Deps w B T.length (dep T)) (gF : Nat) (rv : Value) (leaf : Nat → Int) (hlw : ∀ i, Wf (leaf i))
    (egF : ∀ args w, (callFunc gF args).run Try.prog w = .ok (.enter gF args) w)
    (hF : ∀ (i : Nat) (W : World), i < T.length → Below w.heap.size w W → Calls Try.prog gF #[rv, .int .i64 i] W fun e w' => e = .returned (.int .i64 (leaf i)) ∧ Below W.heap.size W w') :
    Calls Try.prog 98 #[.agg #[.slice (some ⟨g, 0, none⟩) T.length cap, .slice (some ⟨B, 0, none⟩) T.length T.length, .int .i64 (byI wanted), .int .i64 b, kv], .func (.func gF) #[rv] #[]] w fun e w' =>
      e = .returned (.agg #[.slice (some ⟨g, 0, none⟩) T.length cap, .slice (some ⟨B, 0, none⟩) T.length T.length, .map (some (w.heap.size + 1 + 1 + 1 + 1))]) ∧ NumsAt w' (w.heap.size + 1 + 1 + 1 + 1) T.length 0 (costW T leaf wanted) ∧ Below w.heap.size w w' := by
  obtain ⟨n, hnn⟩ : ∃ n, T.length = n := ⟨_, rfl⟩
  have hfo : ∀ W, Below w.heap.size w W → Calls Try.prog 69 #[.agg #[.slice (some ⟨g, 0, none⟩) n cap, .slice (some ⟨B, 0, none⟩) n n], .func (.func gF) #[rv] #[], .func (.func (if wanted then 88 else 70)) #[] #[], .func (.func (if wanted then 70 else 88)) #[] #[]] W fun e w' =>
      e = .returned (.agg #[.slice (some ⟨g, 0, none⟩) n cap, .slice (some ⟨B, 0, none⟩) n n, .map (some (W.heap.size + 1 + 1))]) ∧ NumsAt w' (W.heap.size + 1 + 1) n 0 (costW T leaf wanted) ∧ Below W.heap.size W w' := fun W hW => by
    have h := fold_any T hT g cap B W (ht.below hW) (World.rowIs.of_block hd (hW.block _ hd.lt)) gF rv leaf hlw (if wanted then 88 else 70) (if wanted then 70 else 88) (if wanted then minI else sumW) (if wanted then sumW else minI)
      (by cases wanted; exact fun a b _ _ => wf_sumW a b; exact wf_min) (by cases wanted; exact wf_min; exact fun a b _ _ => wf_sumW a b)
      egF (by cases wanted; exact enters_of Try.func70 (by kernel_rfl) rfl; exact enters_of Try.func88 (by kernel_rfl) rfl) (by cases wanted; exact enters_of Try.func88 (by kernel_rfl) rfl; exact enters_of Try.func70 (by kernel_rfl) rfl)
      (by cases wanted; exact sum_any; exact smaller_any) (by cases wanted; exact smaller_any; exact sum_any)
      (fun i X hi _ hX => hF i X hi (b_next hW hX))
    rw [hnn] at h
    exact h
  rw [hnn]
  have HFo := Lib.hid hfo
  clear hfo ht hd hT hnn hF hlw
  generalize costW T leaf wanted = f at HFo ⊢
  have hob := fun y => (box_next (w := w) (.cells #[.slice (some ⟨g, 0, none⟩) n cap, .slice (some ⟨B, 0, none⟩) n n, .int .i64 y, .int .i64 b, kv] 112) (.cells #[.slice none 0 0, .slice none 0 0, .map none] 75)).2
  have hbb := fun y => four_box (w := w) (.cells #[.slice (some ⟨g, 0, none⟩) n cap, .slice (some ⟨B, 0, none⟩) n n, .int .i64 y, .int .i64 b, kv] 112) (.cells #[.slice none 0 0, .slice none 0 0, .map none] 75)
  have Hob := Lib.hid hob
  have Hbb := Lib.hid hbb
  clear hob hbb
  cases wanted with
  | true =>
    show Calls Try.prog 98 #[.agg #[.slice (some ⟨g, 0, none⟩) n cap, .slice (some ⟨B, 0, none⟩) n n, .int .i64 0, .int .i64 b, kv], .func (.func gF) #[rv] #[]] w _
    have HFo := Lib.hid HFo.out
    simp only [if_true] at HFo
    go_enter Try.func98, Try.ntmps98
    go_wp2_with fail
    refine (HFo.out _ (Hbb.out _)).mono ?_
    rintro e w3 ⟨rfl, hN, b3⟩
    simp only [World.size_alloc] at hN
    have HN := Lib.hid hN
    have HB3 := Lib.hid (b_next (Hbb.out _) b3)
    have hx : w3.heap[w.heap.size + 1]? = some (.cells #[.slice none 0 0, .slice none 0 0, .map none] 75) := (b3.block _ (Array.getElem?_eq_some_iff.1 (Hob.out _)).1).trans (Hob.out _)
    have HX := Lib.hid hx
    clear hN b3 hx HFo Hbb Hob
    obtain ⟨e0, e1, e2, fz⟩ := three_cells HX.out
    have fz0 := fz 0
    have fz1 := fz 1
    have fz2 := fz 2
    clear fz
    go_wp2
    obtain ⟨r0, r1, r2⟩ := three_set HX.out (.slice (some ⟨g, 0, none⟩) n cap) (.slice (some ⟨B, 0, none⟩) n n) (.map (some (w.heap.size + 1 + 1 + 1 + 1)))
    have hbe := ((HB3.out.setCell (p := ⟨w.heap.size + 1, 0, none⟩) (by simp) (.slice (some ⟨g, 0, none⟩) n cap)).setCell (p := ⟨w.heap.size + 1, 1, none⟩) (by simp) (.slice (some ⟨B, 0, none⟩) n n)).setCell (p := ⟨w.heap.size + 1, 2, none⟩) (by simp) (.map (some (w.heap.size + 1 + 1 + 1 + 1)))
    have hnu := ((HN.out.set (B := w.heap.size + 1) (by omega) 0 (.slice (some ⟨g, 0, none⟩) n cap)).set (B := w.heap.size + 1) (by omega) 1 (.slice (some ⟨B, 0, none⟩) n n)).set (B := w.heap.size + 1) (by omega) 2 (.map (some (w.heap.size + 1 + 1 + 1 + 1)))
    exact bodyPost_ret (v := .agg #[.slice (some ⟨g, 0, none⟩) n cap, .slice (some ⟨B, 0, none⟩) n n, .map (some (w.heap.size + 1 + 1 + 1 + 1))]) (by simp [results, Try.results98, go_sem, r0, r1, r2]) rfl ⟨rfl, hnu, hbe⟩
  | false =>
    show Calls Try.prog 98 #[.agg #[.slice (some ⟨g, 0, none⟩) n cap, .slice (some ⟨B, 0, none⟩) n n, .int .i64 1, .int .i64 b, kv], .func (.func gF) #[rv] #[]] w _
    have HFo := Lib.hid HFo.out
    simp only [Bool.false_eq_true, if_false] at HFo
    go_enter Try.func98, Try.ntmps98
    go_wp2_with fail
    refine (HFo.out _ (Hbb.out _)).mono ?_
    rintro e w3 ⟨rfl, hN, b3⟩
    simp only [World.size_alloc] at hN
    have HN := Lib.hid hN
    have HB3 := Lib.hid (b_next (Hbb.out _) b3)
    have hx : w3.heap[w.heap.size + 1]? = some (.cells #[.slice none 0 0, .slice none 0 0, .map none] 75) := (b3.block _ (Array.getElem?_eq_some_iff.1 (Hob.out _)).1).trans (Hob.out _)
    have HX := Lib.hid hx
    clear hN b3 hx HFo Hbb Hob
    obtain ⟨e0, e1, e2, fz⟩ := three_cells HX.out
    have fz0 := fz 0
    have fz1 := fz 1
    have fz2 := fz 2
    clear fz
    go_wp2
    obtain ⟨r0, r1, r2⟩ := three_set HX.out (.slice (some ⟨g, 0, none⟩) n cap) (.slice (some ⟨B, 0, none⟩) n n) (.map (some (w.heap.size + 1 + 1 + 1 + 1)))
    have hbe := ((HB3.out.setCell (p := ⟨w.heap.size + 1, 0, none⟩) (by simp) (.slice (some ⟨g, 0, none⟩) n cap)).setCell (p := ⟨w.heap.size + 1, 1, none⟩) (by simp) (.slice (some ⟨B, 0, none⟩) n n)).setCell (p := ⟨w.heap.size + 1, 2, none⟩) (by simp) (.map (some (w.heap.size + 1 + 1 + 1 + 1)))
    have hnu := ((HN.out.set (B := w.heap.size + 1) (by omega) 0 (.slice (some ⟨g, 0, none⟩) n cap)).set (B := w.heap.size + 1) (by omega) 1 (.slice (some ⟨B, 0, none⟩) n n)).set (B := w.heap.size + 1) (by omega) 2 (.map (some (w.heap.size + 1 + 1 + 1 + 1)))
    exact bodyPost_ret (v := .agg #[.slice (some ⟨g, 0, none⟩) n cap, .slice (some ⟨B, 0, none⟩) n n, .map (some (w.heap.size + 1 + 1 + 1 + 1))]) (by simp [results, Try.results98, go_sem, r0, r1, r2]) rfl ⟨rfl, hnu, hbe⟩
theorem field_nums2 (x y : Value) (m : Option Nat) (w : World) : (Instr.field 75 (Value.agg #[x, y, .map m]) 1).run Try.prog w = .ok (.map m) w := by kernel_rfl
set_option maxRecDepth 100000 in
set_option maxHeartbeats 4000000 in
theorem missing_any (T : Tree) (hT : treeB T = true) (wanted : Bool) (b : Int) (ka : Option Addr) (kn kc : Nat) (xs : List Int) (g cap B : Nat) (w : World) (ht : TreeAt w (some ⟨g, 0, none⟩) T) (hd : Deps w B T.length (dep T)) (hk : Row w ka kn (intL xs)) (hkn : kn ≤ 1000000) :
    Calls Try.prog 78 #[.agg #[.slice (some ⟨g, 0, none⟩) T.length cap, .slice (some ⟨B, 0, none⟩) T.length T.length], .slice ka kn kc, .agg #[.int .i64 (byI wanted), .int .i64 b]] w fun e w' =>
      e = .returned (.int .i64 (missV (costW T (learnP T xs (metB wanted b)) wanted 0))) ∧ Below w.heap.size w w' := by
  have hI := isTree_of hT
  obtain ⟨n, hnn⟩ : ∃ n, T.length = n := ⟨_, rfl⟩
  obtain ⟨y, hy⟩ : ∃ y, byI wanted = y := ⟨_, rfl⟩
  have hmf : ∀ (fn : Fn) (first cap : Array Value) (w : World), (Instr.makeFunc fn first cap).run Try.prog w = .ok (.func fn first cap) w := fun _ _ _ _ => rfl
  have hco : ∀ W, Below w.heap.size w W → Calls Try.prog 98 #[.agg #[.slice (some ⟨g, 0, none⟩) n cap, .slice (some ⟨B, 0, none⟩) n n, .int .i64 y, .int .i64 b, .slice ka kn kc], .func (.func 101) #[.agg #[.slice (some ⟨g, 0, none⟩) n cap, .slice (some ⟨B, 0, none⟩) n n, .int .i64 y, .int .i64 b, .slice ka kn kc]] #[]] W fun e w' =>
      e = .returned (.agg #[.slice (some ⟨g, 0, none⟩) n cap, .slice (some ⟨B, 0, none⟩) n n, .map (some (W.heap.size + 1 + 1 + 1 + 1))]) ∧ NumsAt w' (W.heap.size + 1 + 1 + 1 + 1) n 0 (costW T (learnP T xs (metB wanted b)) wanted) ∧ Below W.heap.size W w' := fun W hW => by
    have h := costs_any T hT wanted b (.slice ka kn kc) rfl g cap B W (ht.below hW) (World.rowIs.of_block hd (hW.block _ hd.lt)) 101 (.agg #[.slice (some ⟨g, 0, none⟩) n cap, .slice (some ⟨B, 0, none⟩) n n, .int .i64 y, .int .i64 b, .slice ka kn kc])
      (learnP T xs (metB wanted b)) (fun i => by have := learn_range T xs (metB wanted b) i; rw [wf_iff]; omega) (enters_of Try.func101 (by kernel_rfl) rfl)
      (fun i X hi hX => by rw [← hnn, ← hy]; exact learn_fn T g cap _ rfl wanted b ka kn kc xs W (ht.below hW) (hk.below hW) hkn i X hi hX)
    rw [hnn, hy] at h
    exact h
  have hn1 := hI.pos
  have hn6 := hI.len
  rw [hnn, hy]
  rw [hnn] at hn1 hn6
  have HCo := Lib.hid hco
  clear hco ht hd hI hT hnn hk hy
  generalize costW T (learnP T xs (metB wanted b)) wanted = f at HCo ⊢
  have B0 : Hid (Below w.heap.size w (((w.alloc (.cells #[.slice (some ⟨g, 0, none⟩) n cap, .slice (some ⟨B, 0, none⟩) n n] 70)).alloc (.cells #[.int .i64 y, .int .i64 b] 95)).alloc (.cells #[.slice (some ⟨g, 0, none⟩) n cap, .slice (some ⟨B, 0, none⟩) n n, .int .i64 y, .int .i64 b, .slice ka kn kc] 112))) := b_next (four_box _ _) (below_alloc _ _)
  have hfl := field_nums2
  go_enter Try.func78, Try.ntmps78
  go_wp2_with fail
  refine (HCo.out _ B0.out).mono ?_
  rintro e w3 ⟨rfl, hN, b3⟩
  have hlk : (Instr.lookup 73 (.map (some ((((w.alloc (.cells #[.slice (some ⟨g, 0, none⟩) n cap, .slice (some ⟨B, 0, none⟩) n n] 70)).alloc (.cells #[.int .i64 y, .int .i64 b] 95)).alloc (.cells #[.slice (some ⟨g, 0, none⟩) n cap, .slice (some ⟨B, 0, none⟩) n n, .int .i64 y, .int .i64 b, .slice ka kn kc] 112)).heap.size + 1 + 1 + 1 + 1))) (.int .i64 0) false).run Try.prog w3 = .ok (.int .i64 (f 0)) w3 := hN.look (j := 0) (Nat.zero_le _) (by omega) (by omega)
  simp only [World.size_alloc] at hlk
  have B3 := Lib.hid (b_next B0.out b3)
  clear hN b3 HCo B0
  by_cases h61 : f 0 ≥ 61
  · have hm : Hid (missV (f 0) = -1) := by unfold Hid missV; rw [if_pos (by omega)]
    go_wp2
    go_ret
    exact ⟨ret_int hm.out.symm, B3.out⟩
  · have hm : Hid (missV (f 0) = f 0) := by unfold Hid missV; rw [if_neg (by omega)]
    go_wp2
    go_ret
    exact ⟨ret_int hm.out.symm, B3.out⟩
end Go.Proofs.Ytbbidgdgcbnanaa
