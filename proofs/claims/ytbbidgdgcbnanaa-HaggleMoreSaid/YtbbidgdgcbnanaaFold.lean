/- fold: all nodes get their numbers, the last one first. -/
import Derived.Test.YtbbidgdgcbnanaaNums
import Derived.Test.YtbbidgdgcbnanaaQlb
namespace Go.Proofs.Ytbbidgdgcbnanaa
set_option linter.unusedVariables false
open Go.RowKit Go.Maps Go.Sort

def Wf (x : Int) : Prop := (Lit.int .i64 x).wf = true
theorem wf_join {op : Int → Int → Int} (hop : ∀ a b, Wf a → Wf b → Wf (op a b)) : ∀ l : List Int, (∀ x ∈ l, Wf x) → Wf (join1 op l) := by
  have key : ∀ (l : List Int) (a : Int), Wf a → (∀ x ∈ l, Wf x) → Wf (l.foldl op a) := by
    intro l
    induction l with
    | nil => intro a ha _; exact ha
    | cons x l ih => intro a ha hl; exact ih _ (hop _ _ ha (hl x List.mem_cons_self)) fun y hy => hl y (List.mem_cons_of_mem _ hy)
  intro l hl
  cases l with
  | nil => show Wf 0; unfold Wf; exact WalkArith.wf_i64 (by omega)
  | cons x l => exact key l x (hl x List.mem_cons_self) fun y hy => hl y (List.mem_cons_of_mem _ hy)
theorem wf_num {T : Tree} (h : IsTree T) {leaf : Nat → Int} {opA opB : Int → Int → Int} (hl : ∀ i, Wf (leaf i)) (hA : ∀ a b, Wf a → Wf b → Wf (opA a b)) (hB : ∀ a b, Wf a → Wf b → Wf (opB a b)) : ∀ i, i < T.length → Wf (num T leaf opA opB i) := by
  refine h.up fun i hi ih => ?_
  rw [num_eq h _ _ _ hi]
  by_cases e : kids T i = []
  · rw [if_pos e]; exact hl i
  · rw [if_neg e]
    refine wf_join (by cases even T i; exact hB; exact hA) _ fun x hx => ?_
    obtain ⟨c, hc, rfl⟩ := List.mem_map.1 hx
    exact ih c hc
theorem three_cells {W : World} {R : Nat} {x y z : Value} {t : TypeId} (h : W.heap[R]? = some (.cells #[x, y, z] t (0, 0))) :
    W.cell? ⟨R, 0, none⟩ = some x ∧ W.cell? ⟨R, 1, none⟩ = some y ∧ W.cell? ⟨R, 2, none⟩ = some z ∧ ∀ i, W.frozen? ⟨R, i, none⟩ = false :=
  ⟨by simp only [World.cell?]; rw [h]; rfl, by simp only [World.cell?]; rw [h]; rfl, by simp only [World.cell?]; rw [h]; rfl, fun i => by simp [World.frozen?, h]⟩
theorem two_cells {W : World} {R : Nat} {x y : Value} {t : TypeId} (h : W.heap[R]? = some (.cells #[x, y] t (0, 0))) :
    W.cell? ⟨R, 0, none⟩ = some x ∧ W.cell? ⟨R, 1, none⟩ = some y ∧ ∀ i, W.frozen? ⟨R, i, none⟩ = false :=
  ⟨by simp only [World.cell?]; rw [h]; rfl, by simp only [World.cell?]; rw [h]; rfl, fun i => by simp [World.frozen?, h]⟩
theorem three_set {W : World} {R : Nat} {x y z : Value} {t : TypeId} {fr : Nat × Nat} (h : W.heap[R]? = some (.cells #[x, y, z] t fr)) (u v r : Value) :
    (((W.setCell ⟨R, 0, none⟩ u).setCell ⟨R, 1, none⟩ v).setCell ⟨R, 2, none⟩ r).cell? ⟨R, 0, none⟩ = some u ∧ (((W.setCell ⟨R, 0, none⟩ u).setCell ⟨R, 1, none⟩ v).setCell ⟨R, 2, none⟩ r).cell? ⟨R, 1, none⟩ = some v ∧
      (((W.setCell ⟨R, 0, none⟩ u).setCell ⟨R, 1, none⟩ v).setCell ⟨R, 2, none⟩ r).cell? ⟨R, 2, none⟩ = some r := by
  have h2 : (((W.setCell ⟨R, 0, none⟩ u).setCell ⟨R, 1, none⟩ v).setCell ⟨R, 2, none⟩ r).heap[R]? = some (.cells #[u, v, r] t fr) := by
    simp [World.setCell, Array.getElem?_modify, h]
  exact ⟨by simp only [World.cell?]; rw [h2]; rfl, by simp only [World.cell?]; rw [h2]; rfl, by simp only [World.cell?]; rw [h2]; rfl⟩
theorem grown_none {X Y : World} (h : Below X.heap.size X Y) (row : Option Nat) : X.grownBy Y row := ⟨h.os, h.tape, h.output, h.size, fun k hk _ => h.block k hk⟩

theorem NumsAt.set {w : World} {M n k B : Nat} {f : Nat → Int} (h : NumsAt w M n k f) (hB : M ≠ B) (o : Nat) (v : Value) : NumsAt (w.setCell ⟨B, o, none⟩ v) M n k f := by
  obtain ⟨nn, D, h1, h2⟩ := h
  exact ⟨nn, D, h1.kept (grownBy_set w B o v) (fun e => hB (Option.some.inj e)), h2⟩
/-- between two rounds of fold -/
structure FoldI (w : World) (tv dv : Value) (n k : Nat) (f : Nat → Int) (W : World) : Prop where
  below : Below w.heap.size w W
  game : W.heap[w.heap.size]? = some (.cells #[tv, dv] 70)
  res : W.heap[w.heap.size + 1]? = some (.cells #[.slice none 0 0, .slice none 0 0, .map none] 75)
  nums : NumsAt W (w.heap.size + 1 + 1) n k f
  all : W.heap[w.heap.size + 1 + 1 + 1]? = some (.cells #[tv, dv, .map (some (w.heap.size + 1 + 1))] 75)
theorem FoldI.next {w X Y : World} {tv dv : Value} {n k : Nat} {f : Nat → Int} (h : FoldI w tv dv n k f X) (hb : Below X.heap.size X Y) : FoldI w tv dv n k f Y :=
  ⟨b_next h.below hb, (hb.block _ (Array.getElem?_eq_some_iff.1 h.game).1).trans h.game, (hb.block _ (Array.getElem?_eq_some_iff.1 h.res).1).trans h.res, h.nums.below hb, (hb.block _ (Array.getElem?_eq_some_iff.1 h.all).1).trans h.all⟩
theorem FoldI.start (w : World) (tv dv : Value) (n : Nat) (f : Nat → Int) :
    FoldI w tv dv n n f ((((w.alloc (.cells #[tv, dv] 70)).alloc (.cells #[.slice none 0 0, .slice none 0 0, .map none] 75)).alloc (.map #[] 0)).alloc (.cells #[tv, dv, .map (some (w.heap.size + 1 + 1))] 75)) := by
  have b0 := below_alloc w (.cells #[tv, dv] 70)
  have k0 := heap_alloc_new w (.cells #[tv, dv] 70)
  have s0 : (w.alloc (.cells #[tv, dv] 70)).heap.size = w.heap.size + 1 := by simp
  generalize w.alloc (.cells #[tv, dv] 70) = w1 at b0 k0 s0 ⊢
  have b1 := below_alloc w1 (.cells #[.slice none 0 0, .slice none 0 0, .map none] 75)
  have k1 := heap_alloc_new w1 (.cells #[.slice none 0 0, .slice none 0 0, .map none] 75)
  have s1 : (w1.alloc (.cells #[.slice none 0 0, .slice none 0 0, .map none] 75)).heap.size = w.heap.size + 1 + 1 := by simp [s0]
  rw [s0] at k1
  generalize w1.alloc (.cells #[.slice none 0 0, .slice none 0 0, .map none] 75) = w2 at b1 k1 s1 ⊢
  have b2 := below_alloc w2 (.map #[] 0)
  have k2 := NumsAt.made w2 n f
  have s2 : (w2.alloc (.map #[] 0)).heap.size = w.heap.size + 1 + 1 + 1 := by simp [s1]
  rw [s1] at k2
  generalize w2.alloc (.map #[] 0) = w3 at b2 k2 s2 ⊢
  have b3 := below_alloc w3 (.cells #[tv, dv, .map (some (w.heap.size + 1 + 1))] 75)
  have k3 := heap_alloc_new w3 (.cells #[tv, dv, .map (some (w.heap.size + 1 + 1))] 75)
  rw [s2] at k3
  exact ⟨b_next (b_next (b_next b0 b1) b2) b3, (b3.block _ (by omega)).trans ((b2.block _ (by omega)).trans ((b1.block _ (by omega)).trans k0)), (b3.block _ (by omega)).trans ((b2.block _ (by omega)).trans k1), k2.below b3, k3⟩
theorem FoldI.put {w X Y : World} {tv dv : Value} {n k : Nat} {f : Nat → Int} (h : FoldI w tv dv n (k + 1) f X) (hg : X.grownBy Y (some (w.heap.size + 1 + 1))) (hN : NumsAt Y (w.heap.size + 1 + 1) n k f) : FoldI w tv dv n k f Y :=
  ⟨h.below.grown hg h.below.size (fun j e => by cases e; omega), (hg.block _ (Array.getElem?_eq_some_iff.1 h.game).1 (fun e => by have := Option.some.inj e; omega)).trans h.game, (hg.block _ (Array.getElem?_eq_some_iff.1 h.res).1 (by simp)).trans h.res, hN, (hg.block _ (Array.getElem?_eq_some_iff.1 h.all).1 (by simp)).trans h.all⟩
set_option maxRecDepth 100000 in
set_option maxHeartbeats 4000000 in
theorem fold_any (T : Tree) (hT : treeB T = true) (g cap B : Nat) (w : World) (ht : TreeAt w (some ⟨g, 0, none⟩) T) (hd : Deps w B T.length (dep T)) (gF : Nat) (rv : Value) (leaf : Nat → Int) (hlw : ∀ i, Wf (leaf i)) (jA jB : Nat) (opA opB : Int → Int → Int)
    (hwA : ∀ a b, Wf a → Wf b → Wf (opA a b)) (hwB : ∀ a b, Wf a → Wf b → Wf (opB a b)) (egF : ∀ args w, (callFunc gF args).run Try.prog w = .ok (.enter gF args) w) (egA : ∀ args w, (callFunc jA args).run Try.prog w = .ok (.enter jA args) w) (egB : ∀ args w, (callFunc jB args).run Try.prog w = .ok (.enter jB args) w)
    (hA : ∀ (a b : Int) (W : World), Calls Try.prog jA #[.int .i64 a, .int .i64 b] W fun e w' => e = .returned (.int .i64 (opA a b)) ∧ w' = W) (hB : ∀ (a b : Int) (W : World), Calls Try.prog jB #[.int .i64 a, .int .i64 b] W fun e w' => e = .returned (.int .i64 (opB a b)) ∧ w' = W)
    (hF : ∀ (i : Nat) (W : World), i < T.length → kids T i = [] → Below w.heap.size w W → Calls Try.prog gF #[rv, .int .i64 i] W fun e w' => e = .returned (.int .i64 (leaf i)) ∧ Below W.heap.size W w') :
    Calls Try.prog 69 #[.agg #[.slice (some ⟨g, 0, none⟩) T.length cap, .slice (some ⟨B, 0, none⟩) T.length T.length], .func (.func gF) #[rv] #[], .func (.func jA) #[] #[], .func (.func jB) #[] #[]] w fun e w' =>
      e = .returned (.agg #[.slice (some ⟨g, 0, none⟩) T.length cap, .slice (some ⟨B, 0, none⟩) T.length T.length, .map (some (w.heap.size + 1 + 1))]) ∧ NumsAt w' (w.heap.size + 1 + 1) T.length 0 (num T leaf opA opB) ∧ Below w.heap.size w w' := by
  have hI := isTree_of hT
  have hnum := fun i (hi : i < T.length) => num_eq hI leaf opA opB hi
  have hwn := wf_num hI hlw hwA hwB
  obtain ⟨f, hf⟩ : ∃ f, num T leaf opA opB = f := ⟨_, rfl⟩
  rw [hf] at hnum hwn ⊢
  have HJA := Lib.hid fun (i : Nat) (W : World) (hb : Below w.heap.size w W) (M : Nat) (hM : NumsAt W M T.length (i + 1) f) (hi : i < T.length) (hk : kids T i ≠ []) => joined_any T hT i g cap M jA (.slice (some ⟨B, 0, none⟩) T.length T.length) rfl f opA W (ht.below hb) hM hi hk egA hA
  have HJB := Lib.hid fun (i : Nat) (W : World) (hb : Below w.heap.size w W) (M : Nat) (hM : NumsAt W M T.length (i + 1) f) (hi : i < T.length) (hk : kids T i ≠ []) => joined_any T hT i g cap M jB (.slice (some ⟨B, 0, none⟩) T.length T.length) rfl f opB W (ht.below hb) hM hi hk egB hB
  have Hnode := Lib.hid fun (W : World) (hb : Below w.heap.size w W) (i : Nat) (hi : i < T.length) => (ht.below hb).node hi
  have Hdep := Lib.hid fun (W : World) (hb : Below w.heap.size w W) (i : Nat) (hi : i < T.length) => World.rowIs.cell (World.rowIs.of_block hd (hb.block _ hd.lt)) hi
  have Hdl : Hid (∀ i, i < T.length → dep T i ≤ 1000) := fun i hi => by
    unfold treeB at hT
    rw [Bool.and_eq_true] at hT
    obtain ⟨D, hD⟩ := Option.isSome_iff_exists.1 hT.2
    have := gameN_le hD i
    have h2 : dep T = D := by unfold dep; rw [hD]; rfl
    rw [h2]
    have := hI.len
    omega
  have HF := Lib.hid hF
  have Hgl : Hid (g < w.heap.size) := by
    obtain ⟨g', _, _, e1, c1, _⟩ := ht.node (i := 0) hI.pos
    simp only [Option.some.injEq, Addr.mk.injEq, and_true] at e1
    subst e1
    exact World.block_lt_of_cell? _ _ c1
  have HBl := Lib.hid hd.lt
  have Hnum := Lib.hid hnum
  have Hwn := Lib.hid hwn
  have hn60 := hI.len
  have Hkl := Lib.hid (kids_len T)
  obtain ⟨n, hnn⟩ : ∃ n, T.length = n := ⟨_, rfl⟩
  rw [hnn] at HJA HJB Hnode Hdep Hdl HF Hnum Hwn hn60 ⊢
  clear hf hnum hwn hF hA hB hd ht hI hT hnn hlw hwA hwB
  have hmm := @run_makeMap Try.prog
  have HS := Lib.hid (FoldI.start w (.slice (some ⟨g, 0, none⟩) n cap) (.slice (some ⟨B, 0, none⟩) n n) n f)
  go_enter Try.func69, Try.ntmps69
  go_wp2
  go_loopw [10] (fun v wr => ∃ (k : Nat) (z : Int), k ≤ n ∧ z = (k : Int) - 1 ∧ v = .int .i64 z ∧ Hid (FoldI w (.slice (some ⟨g, 0, none⟩) n cap) (.slice (some ⟨B, 0, none⟩) n n) n k f wr)) (fun v _ => (intOf v + 1).toNat)
  case atStart => exact ⟨n, _, Nat.le_refl _, rfl, rfl, HS⟩
  case round =>
    clear HS hmm
    obtain ⟨k, z, hk, hz, rfl, HI⟩ := hrel
    cases k with
    | zero =>
      have hz0 : ¬ (0 : Int) ≤ z := by omega
      clear hz
      obtain ⟨c0, c1, c2, -⟩ := three_cells HI.out.all
      obtain ⟨e0, e1, e2, fz⟩ := three_cells HI.out.res
      have fz0 := fz 0
      have fz1 := fz 1
      have fz2 := fz 2
      clear fz
      go_wp2
      obtain ⟨r0, r1, r2⟩ := three_set HI.out.res (.slice (some ⟨g, 0, none⟩) n cap) (.slice (some ⟨B, 0, none⟩) n n) (.map (some (w.heap.size + 1 + 1)))
      have hbe := ((HI.out.below.setCell (p := ⟨w.heap.size + 1, 0, none⟩) (by simp) (.slice (some ⟨g, 0, none⟩) n cap)).setCell (p := ⟨w.heap.size + 1, 1, none⟩) (by simp) (.slice (some ⟨B, 0, none⟩) n n)).setCell (p := ⟨w.heap.size + 1, 2, none⟩) (by simp) (.map (some (w.heap.size + 1 + 1)))
      have hnu := ((HI.out.nums.set (B := w.heap.size + 1) (by omega) 0 (.slice (some ⟨g, 0, none⟩) n cap)).set (B := w.heap.size + 1) (by omega) 1 (.slice (some ⟨B, 0, none⟩) n n)).set (B := w.heap.size + 1) (by omega) 2 (.map (some (w.heap.size + 1 + 1)))
      exact bodyPost_ret (v := .agg #[.slice (some ⟨g, 0, none⟩) n cap, .slice (some ⟨B, 0, none⟩) n n, .map (some (w.heap.size + 1 + 1))]) (by simp [results, Try.results69, go_sem, r0, r1, r2]) rfl ⟨rfl, hnu, hbe⟩
    | succ j =>
      obtain rfl : z = (j : Int) := by omega
      have hj : j < n := by omega
      have h0 : (0 : Int) ≤ (j : Int) := by omega
      obtain ⟨g', ra, rc, eg', cn, -, -, -⟩ := Hnode.out wr HI.out.below j hj
      simp only [Option.some.injEq, Addr.mk.injEq, and_true] at eg'
      subst eg'
      have hgl : g < wr.heap.size := World.block_lt_of_cell? _ _ cn
      have HL := Lib.hid (isLeaf_cell g j n cap (.slice (some ⟨B, 0, none⟩) n n) ra (kidsZ T j).length rc wr hj rfl cn hgl)
      obtain ⟨p0, p1, -⟩ := two_cells HI.out.game
      have HI2 := Lib.hid HI.out
      clear HI cn hgl hz
      go_wp2_with fail
      refine HL.out.mono ?_
      rintro e w3 ⟨rfl, b3⟩
      have F3 := Lib.hid (HI2.out.next b3)
      clear b3 HL HI2 p0 p1
      by_cases hkk : kids T j = []
      · have hl0 : (kidsZ T j).length = 0 := by rw [← Hkl.out, hkk]; rfl
        rw [decide_eq_true hl0]
        have Hfj : Hid (f j = leaf j) := by have := Hnum.out j hj; rwa [if_pos hkk] at this
        obtain ⟨c0, c1, c2, -⟩ := three_cells F3.out.all
        have k2 := cell_regrown c2
        have cF : ∀ d os, Calls Try.prog gF #[rv, .int .i64 j] (grow (redrawn w3 d) os) fun e w'' => e = .returned (.int .i64 (leaf j)) ∧ ∃ p : Regrown, w'' = grow (redrawn w3 p.d) p.os := fun d os => Calls.regrown_of (HF.out j _ hj hkk (b_next F3.out.below (below_regrown w3 d os)))
        clear c0 c1 c2 hl0
        have Hkk := Lib.hid hkk
        clear hkk
        go_wp2
        refine wp_region_qlb7 (by kernel_rfl) (by kernel_rfl) (by kernel_rfl) ?_
        repeat (quiet_step (exact cF _ _))
        refine wpQuiet_nil ?_
        intro w4 hw4
        obtain ⟨⟨d4, o4⟩, hw4e⟩ := hw4
        have b4 : Below w3.heap.size w3 w4 := by rw [hw4e]; exact below_regrown _ _ _
        clear hw4e k2 cF
        have F4 := Lib.hid (F3.out.next b4)
        clear F3 b4
        obtain ⟨nn, D, m1, m2, m3, m4⟩ := F4.out.nums
        refine wp_mapUpdate_own _ _ _ 73 rfl 3 3 (int_keyed Try.underlying3) Try.underlying73 _ (w.heap.size + 1 + 1) nn D rfl m1 (by unfold maxLen; omega) _ _ (.int .i64 (j : Int)) rfl rfl (keyOf_int_mk Try.underlying3 (WalkArith.wf_i64 (n := (j : Int)) (by omega))) (.lit (.int .i64 (f j))) [] (by rw [Hfj.out]; exact plainElem_int Try.underlying3 (by have := Hwn.out j hj; rwa [Hfj.out] at this)) ?_
        intro w5 m5 hg5
        have F5 := Lib.hid (F4.out.put hg5 (NumsAt.put m2 m3 m4 m5))
        clear m1 m2 m3 m4 m5 hg5 F4
        go_wp2
        go_roundw
        case rel => exact ⟨j, _, by omega, rfl, by first | rfl | (congr 1; omega), F5⟩
        case measure => simp [intOf]
      · have hl0 : ¬ (kidsZ T j).length = 0 := by rw [← Hkl.out]; intro h; exact hkk (List.eq_nil_of_length_eq_zero h)
        rw [decide_eq_false hl0]
        obtain ⟨p0, p1, -⟩ := two_cells F3.out.game
        have cd := Hdep.out w3 F3.out.below j hj
        have HM := Lib.hid (mover_cell (.slice (some ⟨g, 0, none⟩) n cap) B j n n (dep T j) w3 hj rfl (Hdl.out j hj) (Nat.lt_of_lt_of_le HBl.out F3.out.below.size) cd)
        clear cd hl0
        go_wp2_with fail
        refine HM.out.mono ?_
        rintro e w6 ⟨rfl, hw6⟩
        have b6 : Below w3.heap.size w3 w6 := by rw [hw6]; exact below_alloc _ _
        have F6 := Lib.hid (F3.out.next b6)
        clear b6 hw6 HM F3 p0 p1
        have Hev : Hid (even T j = decide (dep T j % 2 = 0)) := rfl
        obtain ⟨c0, c1, c2, -⟩ := three_cells F6.out.all
        have k0 := cell_regrown c0
        have k1 := cell_regrown c1
        have k2 := cell_regrown c2
        by_cases he : dep T j % 2 = 0
        · have Hfj : Hid (f j = join1 opA ((kids T j).map f)) := by
            have := Hnum.out j hj
            rw [if_neg hkk, Hev.out, decide_eq_true he] at this
            exact this
          rw [he]
          have cJ : ∀ d os, Calls Try.prog 97 #[.agg #[.slice (some ⟨g, 0, none⟩) n cap, .slice (some ⟨B, 0, none⟩) n n, .map (some (w.heap.size + 1 + 1))], .int .i64 j, .func (.func jA) #[] #[]] (grow (redrawn w6 d) os) fun e w'' => e = .returned (.int .i64 (join1 opA ((kids T j).map f))) ∧ ∃ p : Regrown, w'' = grow (redrawn w6 p.d) p.os := fun d os => Calls.regrown_of (HJA.out j _ (b_next F6.out.below (below_regrown w6 d os)) _ (F6.out.nums.below (below_regrown w6 d os)) hj hkk)
          generalize join1 opA ((kids T j).map f) = r at Hfj cJ
          have Hkk := Lib.hid hkk
          clear hkk he c0 c1 c2
          go_wp2
          refine wp_region_qlb8 (by kernel_rfl) (by kernel_rfl) (by kernel_rfl) ?_
          repeat (quiet_step (exact cJ _ _))
          refine wpQuiet_nil ?_
          intro w4 hw4
          obtain ⟨⟨d4, o4⟩, hw4e⟩ := hw4
          have b4 : Below w6.heap.size w6 w4 := by rw [hw4e]; exact below_regrown _ _ _
          clear hw4e k0 k1 k2 cJ
          have F4 := Lib.hid (F6.out.next b4)
          clear F6 b4
          obtain ⟨nn, D, m1, m2, m3, m4⟩ := F4.out.nums
          refine wp_mapUpdate_own _ _ _ 73 rfl 3 3 (int_keyed Try.underlying3) Try.underlying73 _ (w.heap.size + 1 + 1) nn D rfl m1 (by unfold maxLen; omega) _ _ (.int .i64 (j : Int)) rfl rfl (keyOf_int_mk Try.underlying3 (WalkArith.wf_i64 (n := (j : Int)) (by omega))) (.lit (.int .i64 (f j))) [] (by rw [Hfj.out]; exact plainElem_int Try.underlying3 (by have := Hwn.out j hj; rwa [Hfj.out] at this)) ?_
          intro w5 m5 hg5
          have F5 := Lib.hid (F4.out.put hg5 (NumsAt.put m2 m3 m4 m5))
          clear m1 m2 m3 m4 m5 hg5 F4
          go_wp2
          go_roundw
          case rel => exact ⟨j, _, by omega, rfl, by first | rfl | (congr 1; omega), F5⟩
          case measure => simp [intOf]
        · have h1 : dep T j % 2 = 1 := by omega
          have Hfj : Hid (f j = join1 opB ((kids T j).map f)) := by
            have := Hnum.out j hj
            rw [if_neg hkk, Hev.out, decide_eq_false he] at this
            exact this
          rw [h1]
          have cJ : ∀ d os, Calls Try.prog 97 #[.agg #[.slice (some ⟨g, 0, none⟩) n cap, .slice (some ⟨B, 0, none⟩) n n, .map (some (w.heap.size + 1 + 1))], .int .i64 j, .func (.func jB) #[] #[]] (grow (redrawn w6 d) os) fun e w'' => e = .returned (.int .i64 (join1 opB ((kids T j).map f))) ∧ ∃ p : Regrown, w'' = grow (redrawn w6 p.d) p.os := fun d os => Calls.regrown_of (HJB.out j _ (b_next F6.out.below (below_regrown w6 d os)) _ (F6.out.nums.below (below_regrown w6 d os)) hj hkk)
          generalize join1 opB ((kids T j).map f) = r at Hfj cJ
          have Hkk := Lib.hid hkk
          clear hkk he c0 c1 c2 h1
          go_wp2
          refine wp_region_qlb8 (by kernel_rfl) (by kernel_rfl) (by kernel_rfl) ?_
          repeat (quiet_step (exact cJ _ _))
          refine wpQuiet_nil ?_
          intro w4 hw4
          obtain ⟨⟨d4, o4⟩, hw4e⟩ := hw4
          have b4 : Below w6.heap.size w6 w4 := by rw [hw4e]; exact below_regrown _ _ _
          clear hw4e k0 k1 k2 cJ
          have F4 := Lib.hid (F6.out.next b4)
          clear F6 b4
          obtain ⟨nn, D, m1, m2, m3, m4⟩ := F4.out.nums
          refine wp_mapUpdate_own _ _ _ 73 rfl 3 3 (int_keyed Try.underlying3) Try.underlying73 _ (w.heap.size + 1 + 1) nn D rfl m1 (by unfold maxLen; omega) _ _ (.int .i64 (j : Int)) rfl rfl (keyOf_int_mk Try.underlying3 (WalkArith.wf_i64 (n := (j : Int)) (by omega))) (.lit (.int .i64 (f j))) [] (by rw [Hfj.out]; exact plainElem_int Try.underlying3 (by have := Hwn.out j hj; rwa [Hfj.out] at this)) ?_
          intro w5 m5 hg5
          have F5 := Lib.hid (F4.out.put hg5 (NumsAt.put m2 m3 m4 m5))
          clear m1 m2 m3 m4 m5 hg5 F4
          go_wp2
          go_roundw
          case rel => exact ⟨j, _, by omega, rfl, by first | rfl | (congr 1; omega), F5⟩
          case measure => simp [intOf]
end Go.Proofs.Ytbbidgdgcbnanaa
