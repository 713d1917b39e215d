/- heir, heirsOf: the first child with its parent's number. -/
import Derived.Test.YtbbidgdgcbnanaaLearn
import Derived.Test.YtbbidgdgcbnanaaRea
namespace Go.Proofs.Ytbbidgdgcbnanaa
set_option linter.unusedVariables false
open Go.RowKit Go.Maps Go.Sort Go.Shelf

/-- the first position at which p holds, or -1 -/
def findI (xs : List Int) (p : Int → Bool) : Int := if xs.any p then ((xs.findIdx p : Nat) : Int) else -1
theorem findI_hit {xs : List Int} {p : Int → Bool} {x : Int} {k : Nat} (hk : xs[k]? = some x) (hx : p x = true) (hn : (xs.take k).any p = false) : findI xs p = (k : Int) := by
  obtain ⟨hl, he⟩ := List.getElem?_eq_some_iff.1 hk
  unfold findI
  rw [if_pos (List.any_eq_true.2 ⟨x, List.mem_of_getElem? hk, hx⟩)]
  congr 1
  rw [List.findIdx_eq hl]
  refine ⟨by rw [he]; exact hx, fun j hj => ?_⟩
  rw [List.any_eq_false] at hn
  have := hn xs[j] (by rw [List.mem_take_iff_getElem]; exact ⟨j, by omega, rfl⟩)
  simpa using this
set_option maxRecDepth 100000 in
set_option maxHeartbeats 4000000 in
theorem IndexFunc_any (a : Option Addr) (n cap : Nat) (xs : List Int) (p : Int → Bool) (g : Nat) (lb : Array Value) (eg : ∀ args w, (callFunc g args).run Try.prog w = .ok (.enter g args) w) (w : World) (hr : Row w a n (intL xs)) (hn : n ≤ 1000000)
    (hp : ∀ x ∈ xs, Calls Try.prog g (#[.int .i64 x] ++ lb) w fun e w' => e = .returned (.bool (p x)) ∧ w' = w) :
    Calls Try.prog 90 #[.slice a n cap, .func (.func g) #[] lb] w fun e w' => e = .returned (.int .i64 (findI xs p)) ∧ w' = w := by
  have hx : xs.length = n := by have := hr.1; simpa [intL] using this
  have Hr := Lib.hid hr
  have Hx := Lib.hid hx
  have Hp := Lib.hid hp
  clear hr hx hp
  go_enter Try.func90, Try.ntmps90
  go_wp2
  go_loopw [5, 8] (fun _ i wr => ∃ k : Nat, k ≤ n ∧ i = .int .i64 k ∧ Hid ((xs.take k).any p = false) ∧ wr = w) (fun _ i _ => n - (intOf i).toNat)
  case atStart => exact ⟨0, Nat.zero_le _, rfl, by unfold Hid; rw [List.take_zero]; rfl, rfl⟩
  case round =>
    obtain ⟨k, hk, rfl, HN, hw⟩ := hrel
    subst wr
    by_cases hlt : k < n
    · have hc : (k : Int) < (n : Int) := by omega
      obtain ⟨y, hy⟩ : ∃ y, xs[k]? = some y := ⟨_, List.getElem?_eq_getElem (by have := Hx.out; omega)⟩
      obtain ⟨gr, rfl, cy⟩ := Hr.out.int hlt
      rw [List.getD_eq_getElem?_getD, hy] at cy
      simp only [Option.getD_some] at cy
      have HC := Lib.hid (Hp.out y (List.mem_of_getElem? hy))
      obtain ⟨b, hb⟩ : ∃ b, p y = b := ⟨_, rfl⟩
      have hhit := fun h => findI_hit hy h HN.out
      have HN2 : Hid (b = false → (xs.take (k + 1)).any p = false) := fun h => by
        rw [List.take_add_one, hy, List.any_append, HN.out]
        simp [hb, h]
      rw [hb] at HC hhit
      have Hhit := Lib.hid hhit
      clear hhit hy hb
      go_wp2_with fail
      refine HC.out.mono ?_
      rintro e w1 ⟨rfl, hw1⟩
      subst w1
      clear HC
      cases b with
      | true =>
        have Hres := Lib.hid (Hhit.out rfl)
        clear Hhit HN2
        go_wp2
        go_ret
        exact ⟨ret_int Hres.out.symm, rfl⟩
      | false =>
        have HN3 := Lib.hid (HN2.out rfl)
        clear Hhit HN2
        go_wp2
        go_roundw
        case rel => exact ⟨k + 1, by omega, by go_num, HN3, trivial⟩
        case measure => simp [intOf]; omega
    · obtain rfl : k = n := by omega
      have hc : ¬ (k : Int) < (k : Int) := by omega
      have hres : findI xs p = -1 := by
        have := HN.out
        rw [List.take_of_length_le (by rw [Hx.out]; exact Nat.le_refl _)] at this
        unfold findI
        rw [this]; rfl
      have Hres := Lib.hid hres
      clear hres
      go_wp2
      go_ret
      exact ⟨ret_int Hres.out.symm, rfl⟩
/-- the first child with the number of its parent -/
def heirN (T : Tree) (f : Nat → Int) (i : Nat) : Nat := ((kids T i).find? fun c => decide (f c = f i)).getD 0
theorem heir_at {T : Tree} (f : Nat → Int) {i c0 : Nat} (h : c0 ∈ kids T i) (hf : f c0 = f i) : ∃ k : Nat, findI ((kids T i).map fun c : Nat => (c : Int)) (fun x => decide (f x.toNat = f i)) = (k : Int) ∧ (kids T i)[k]? = some (heirN T f i) := by
  obtain ⟨c, hc⟩ : ∃ c, (kids T i).find? (fun c => decide (f c = f i)) = some c := by
    cases hr : (kids T i).find? fun c => decide (f c = f i) with
    | some c => exact ⟨c, rfl⟩
    | none => rw [List.find?_eq_none] at hr; exact absurd (decide_eq_true hf) (hr c0 h)
  have hh : heirN T f i = c := by unfold heirN; rw [hc]; rfl
  rw [hh]
  rw [List.find?_eq_some_iff_getElem] at hc
  obtain ⟨h1, k, hk, h2, h3⟩ := hc
  refine ⟨k, ?_, by rw [List.getElem?_eq_getElem hk, h2]⟩
  refine findI_hit (x := (c : Int)) (by rw [List.getElem?_map, List.getElem?_eq_getElem hk, h2]; rfl) (by simpa using h1) ?_
  rw [List.any_eq_false]
  intro x hx
  rw [List.mem_take_iff_getElem] at hx
  obtain ⟨j, hj, rfl⟩ := hx
  have := h3 j (by omega)
  simpa using this
/-- in a world the numbers of a game, boxed: numbered at B -/
theorem pred_heir (T : Tree) (f : Nat → Int) (hn : T.length ≤ 1000000) (i c : Nat) (hi : i < T.length) (hc : c < T.length) (tv dv : Value) (M Bn Bi : Nat) (w : World) (h2 : w.cell? ⟨Bn, 2, none⟩ = some (.map (some M))) (hi2 : w.cell? ⟨Bi, 0, none⟩ = some (.int .i64 (i : Int))) (hM : NumsAt w M T.length 0 f) :
    Calls Try.prog 91 #[.int .i64 (c : Int), .pointer (some ⟨Bn, 0, none⟩), .pointer (some ⟨Bi, 0, none⟩)] w fun e w' => e = .returned (.bool (decide (f c = f i))) ∧ w' = w := by
  have l1 := hM.look (Nat.zero_le i) hi hn
  have l2 := hM.look (Nat.zero_le c) hc hn
  generalize f c = x at l2 ⊢
  generalize f i = y at l1 ⊢
  by_cases e : x = y
  · subst e
    have hd := Lib.hid (decide_eq_true (rfl : x = x))
    rw [hd.out]
    go_enter Try.func91, Try.ntmps91
    go_wp2
    go_ret
    exact ⟨rfl, rfl⟩
  · have e2 : (x == y) = false := by rw [beq_eq_false_iff_ne]; exact e
    have hd := Lib.hid (decide_eq_false e)
    rw [hd.out]
    clear e
    go_enter Try.func91, Try.ntmps91
    go_wp2
    go_ret
    exact ⟨rfl, rfl⟩
theorem four_b {w : World} (o p : Obj) : Below w.heap.size w ((w.alloc o).alloc p) := b_next (below_alloc _ _) (below_alloc _ _)
theorem box3_next {w : World} (o p : Obj) : ((w.alloc o).alloc p).heap[w.heap.size]? = some o ∧ ((w.alloc o).alloc p).heap[w.heap.size + 1]? = some p := box_next o p
set_option maxRecDepth 100000 in
set_option maxHeartbeats 4000000 in
theorem heir_any (T : Tree) (hT : treeB T = true) (f : Nat → Int) (i g cap M : Nat) (dv : Value) (hdv : dv.oneCell' = true) (w : World) (ht : TreeAt w (some ⟨g, 0, none⟩) T) (hM : NumsAt w M T.length 0 f) (hi : i < T.length) {c0 : Nat} (hc0 : c0 ∈ kids T i) (hf : f c0 = f i) :
    Calls Try.prog 57 #[.agg #[.slice (some ⟨g, 0, none⟩) T.length cap, dv, .map (some M)], .int .i64 i] w fun e w' => e = .returned (.int .i64 (heirN T f i : Nat)) ∧ Below w.heap.size w w' := by
  have hI := isTree_of hT
  have hn6 := hI.len
  obtain ⟨g', ra, rc, e1, c1, -, hlc, hrow⟩ := ht.node hi
  simp only [Option.some.injEq, Addr.mk.injEq, and_true] at e1
  subst e1
  have hgl : g < w.heap.size := World.block_lt_of_cell? _ _ c1
  rw [kids_row hI i] at hrow
  rw [← kids_len] at c1 hlc hrow
  obtain ⟨k, hk1, hk2⟩ := heir_at f hc0 hf
  have hkl : k < (kids T i).length := (List.getElem?_eq_some_iff.1 hk2).1
  obtain ⟨rg, rfl, hrg, hrc⟩ := hrow.2 (by omega)
  have hck := hrc k _ (show (intL ((kids T i).map fun c : Nat => (c : Int)))[k]? = some (.int .i64 (heirN T f i : Nat)) by unfold intL; rw [List.getElem?_map, List.getElem?_map, hk2]; rfl)
  have hlen6 : (kids T i).length ≤ 1000000 := by
    have h3 := List.Nodup.length_le_of_subset (l₂ := List.range T.length) (hI.kids_nodup i) (fun c hc => List.mem_range.2 (hI.kid hc).2.1)
    rw [List.length_range] at h3; omega
  have HC := Lib.hid fun W (hW : Below w.heap.size w W) => children_cell g i T.length cap dv (some ⟨rg, 0, none⟩) (kids T i).length rc W hi hdv (Nat.lt_of_lt_of_le hgl hW.size) ((hW.cell (p := ⟨g, i * 2, none⟩) hgl).trans c1)
  have HIF := Lib.hid fun (W : World) (hW : Below w.heap.size w W) (Bn Bi : Nat) (h2 : W.cell? ⟨Bn, 2, none⟩ = some (.map (some M))) (h3 : W.cell? ⟨Bi, 0, none⟩ = some (.int .i64 (i : Int))) =>
    IndexFunc_any (some ⟨rg, 0, none⟩) (kids T i).length rc ((kids T i).map fun c : Nat => (c : Int)) (fun x => decide (f x.toNat = f i)) 91 #[.pointer (some ⟨Bn, 0, none⟩), .pointer (some ⟨Bi, 0, none⟩)] (enters_of Try.func91 (by kernel_rfl) rfl) W (hrow.below hW) hlen6
      (fun x hx => by
        obtain ⟨c, hc, rfl⟩ := List.mem_map.1 hx
        exact pred_heir T f (by omega) i c hi (hI.kid hc).2.1 (.slice none 0 0) dv M Bn Bi W h2 h3 (hM.below hW))
  rw [hk1] at HIF
  have Hck := Lib.hid fun W (hW : Below w.heap.size w W) => (hW.cell (p := ⟨rg, k, none⟩) hrg).trans hck
  generalize heirN T f i = h at Hck ⊢
  generalize hl : (kids T i).length = l at HC HIF hkl
  generalize T.length = n at HC hi ⊢
  have hkl2 : (k : Int) < (l : Int) := by omega
  clear c1 hrow hrc hck hk1 hk2 hM ht hI hc0 hf hlc hlen6 hgl hl hrg hT hn6
  obtain ⟨x0, x1⟩ := box3_next (w := w) (.cells #[.slice (some ⟨g, 0, none⟩) n cap, dv, .map (some M)] 75) (.cells #[.int .i64 (i : Int)] 3)
  have hb := four_b (w := w) (.cells #[.slice (some ⟨g, 0, none⟩) n cap, dv, .map (some M)] 75) (.cells #[.int .i64 (i : Int)] 3)
  have X0 := Lib.hid x0
  have X1 := Lib.hid x1
  have HB := Lib.hid hb
  have hmf : ∀ (fn : Fn) (first cap : Array Value) (w : World), (Instr.makeFunc fn first cap).run Try.prog w = .ok (.func fn first cap) w := fun _ _ _ _ => rfl
  clear x0 x1 hb
  go_enter Try.func57, Try.ntmps57
  go_wp2_with fail
  refine (HC.out _ HB.out).mono ?_
  rintro e w2 ⟨rfl, hw2⟩
  have b2 := below_alloc ((w.alloc (.cells #[.slice (some ⟨g, 0, none⟩) n cap, dv, .map (some M)] 75)).alloc (.cells #[.int .i64 (i : Int)] 3)) (.cells #[.slice (some ⟨g, 0, none⟩) n cap, dv] 70)
  rw [← hw2] at b2
  have hx0 := (b2.block _ (Array.getElem?_eq_some_iff.1 X0.out).1).trans X0.out
  have hx1 := (b2.block _ (Array.getElem?_eq_some_iff.1 X1.out).1).trans X1.out
  have B2 := Lib.hid (b_next HB.out b2)
  have y2 : w2.cell? ⟨w.heap.size, 2, none⟩ = some (.map (some M)) := by simp only [World.cell?]; rw [hx0]; rfl
  have y3 : w2.cell? ⟨w.heap.size + 1, 0, none⟩ = some (.int .i64 (i : Int)) := by simp only [World.cell?]; rw [hx1]; rfl
  have HIx := Lib.hid (HIF.out w2 B2.out w.heap.size (w.heap.size + 1) y2 y3)
  have hcell := Hck.out w2 B2.out
  clear b2 hx0 hx1 hw2 HB X0 X1 y2 y3 HIF HC
  go_wp2_with fail
  refine HIx.out.mono ?_
  rintro e w3 ⟨rfl, hw3⟩
  subst w3
  go_wp2
  go_ret
  exact ⟨rfl, B2.out⟩
end Go.Proofs.Ytbbidgdgcbnanaa
