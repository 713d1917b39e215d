/- A map with a number for each node from one on; joined. -/
import Derived.Test.YtbbidgdgcbnanaaNewg
import Derived.Maps.OwnOps
import Derived.Maps.Keyed
import Derived.Maps.Views
import Derived.Test.YtbbidgdgcbnanaaQp
namespace Go.Proofs.Ytbbidgdgcbnanaa
set_option linter.unusedVariables false
open Go.RowKit Go.Maps

theorem zeroInt (w : World) : (zeroValue 3).run Try.prog w = .ok (.int .i64 0) w := by kernel_rfl
/-- the map at M has the number f j for each node j from k on -/
def NumsAt (w : World) (M n k : Nat) (f : Nat → Int) : Prop :=
  ∃ (nn : Nat) (D : DataW Unit), w.ownsMap Try.prog 3 (plainElem Try.prog 3) M nn D ∧ IsMap D ∧ nn + k ≤ n ∧ ∀ j : Nat, k ≤ j → j < n → D.atKey (.int .i64 (j : Int)) (.lit (.int .i64 0)) = .lit (.int .i64 (f j))
theorem NumsAt.below {w w' : World} {M n k : Nat} {f : Nat → Int} (h : NumsAt w M n k f) (hb : Below w.heap.size w w') : NumsAt w' M n k f := by
  obtain ⟨nn, D, h1, h2⟩ := h
  exact ⟨nn, D, h1.kept (row := none) ⟨hb.os, hb.tape, hb.output, hb.size, fun k hk _ => hb.block k hk⟩ (by simp), h2⟩
theorem NumsAt.drewN {w : World} {M n k : Nat} {f : Nat → Int} (h : NumsAt w M n k f) (q : Nat) : NumsAt (w.drewN q) M n k f := h
theorem NumsAt.lt {w : World} {M n k : Nat} {f : Nat → Int} (h : NumsAt w M n k f) : M < w.heap.size := by obtain ⟨nn, D, h1, h2⟩ := h; exact h1.lt
theorem NumsAt.made (w : World) (n : Nat) (f : Nat → Int) : NumsAt (w.alloc (.map #[] 0)) w.heap.size n n f := ⟨0, _, World.ownsMap_made (H := Unit) w Try.prog 3 _, ⟨[], rfl⟩, by omega, fun j h1 h2 => by omega⟩
theorem NumsAt.look {w : World} {M n k : Nat} {f : Nat → Int} (h : NumsAt w M n k f) {j : Nat} (hj : k ≤ j) (hn : j < n) (hs : n ≤ 1000000) :
    (Instr.lookup 73 (.map (some M)) (.int .i64 (j : Int)) false).run Try.prog w = .ok (.int .i64 (f j)) w := by
  obtain ⟨nn, D, h1, h2, h3, h4⟩ := h
  obtain ⟨c, hrun, hat, hwc⟩ := h1.lookup_int (int_keyed Try.underlying3) Try.underlying73 Try.underlying3 (zeroInt w) (keyOf_int_mk Try.underlying3 (WalkArith.wf_i64 (n := (j : Int)) (by omega)))
  rw [h4 j hj hn] at hat
  simp only [DataW.lit.injEq, Lit.int.injEq, true_and] at hat
  rw [hat]; exact hrun
theorem NumsAt.put {w2 : World} {M n k nn : Nat} {f : Nat → Int} {D : DataW Unit} (hD : IsMap D) (hn : nn + (k + 1) ≤ n) (h4 : ∀ j : Nat, k + 1 ≤ j → j < n → D.atKey (.int .i64 (j : Int)) (.lit (.int .i64 0)) = .lit (.int .i64 (f j)))
    (h2 : w2.ownsMap Try.prog 3 (plainElem Try.prog 3) M (nn + 1) (D.put (.int .i64 (k : Int)) (.lit (.int .i64 (f k))))) : NumsAt w2 M n k f := by
  have hk : WideAt.IsKeyLit (.int .i64 (k : Int)) := trivial
  refine ⟨nn + 1, _, h2, hD.put _ _, by omega, fun j hj hjn => ?_⟩
  by_cases e : j = k
  · subst e; exact atKey_put_same hD hk _ _
  · rw [atKey_put_other (fun e2 => e (Int.ofNat.inj (by simpa using e2)))]; exact h4 j (by omega) hjn

theorem kids_row {T : Tree} (h : IsTree T) (i : Nat) : intL (kidsZ T i) = intL ((kids T i).map fun c : Nat => (c : Int)) := by rw [h.kids_cast]
theorem kids_len (T : Tree) (i : Nat) : (kids T i).length = (kidsZ T i).length := by unfold kids; rw [List.length_map]
set_option maxRecDepth 100000 in
set_option maxHeartbeats 4000000 in
theorem joined_any (T : Tree) (hT : treeB T = true) (i g cap M jF : Nat) (dv : Value) (hdv : dv.oneCell' = true) (f : Nat → Int) (op : Int → Int → Int) (w : World) (ht : TreeAt w (some ⟨g, 0, none⟩) T) (hM : NumsAt w M T.length (i + 1) f) (hi : i < T.length) (hk : kids T i ≠ [])
    (eg : ∀ args w, (callFunc jF args).run Try.prog w = .ok (.enter jF args) w)
    (hop : ∀ (a b : Int) (W : World), Calls Try.prog jF #[.int .i64 a, .int .i64 b] W fun e w' => e = .returned (.int .i64 (op a b)) ∧ w' = W) :
    Calls Try.prog 97 #[.agg #[.slice (some ⟨g, 0, none⟩) T.length cap, dv, .map (some M)], .int .i64 i, .func (.func jF) #[] #[]] w fun e w' => e = .returned (.int .i64 (join1 op ((kids T i).map f))) ∧ Below w.heap.size w w' := by
  have hI := isTree_of hT
  obtain ⟨g', ra, rc, e1, c1, -, hlc, hrow⟩ := ht.node hi
  simp only [Option.some.injEq, Addr.mk.injEq, and_true] at e1
  subst e1
  have hgl : g < w.heap.size := World.block_lt_of_cell? _ _ c1
  rw [kids_row hI i] at hrow
  have hin := fun c (hc : c ∈ kids T i) => hI.kid hc
  have hn60 := hI.len
  rw [← kids_len] at c1 hrow hlc
  obtain ⟨n, hnn⟩ : ∃ n, T.length = n := ⟨_, rfl⟩
  rw [hnn] at hM hi hin hn60 ⊢
  obtain ⟨c0, cs, hcs⟩ := List.exists_cons_of_ne_nil hk
  rw [hcs] at c1 hrow hlc hin ⊢
  obtain ⟨rg, rfl, hrg, hrc⟩ := hrow.2 (by simp)
  have hcell : ∀ (j : Nat) (c : Nat), (c0 :: cs)[j]? = some c → w.cell? ⟨rg, j, none⟩ = some (.int .i64 (c : Int)) := fun j c hj => hrc j _ (by unfold intL; rw [List.getElem?_map, List.getElem?_map, hj]; rfl)
  simp only [List.length_cons] at c1 hlc
  obtain ⟨b, hbe⟩ : ∃ b, w.alloc (.cells #[.slice (some ⟨g, 0, none⟩) n cap, dv, .map (some M)] 75) = b := ⟨_, rfl⟩
  have ha := below_alloc w (.cells #[.slice (some ⟨g, 0, none⟩) n cap, dv, .map (some M)] 75)
  have HC := Lib.hid fun W (hW : Below w.heap.size w W) => children_cell g i n cap dv (some ⟨rg, 0, none⟩) (cs.length + 1) rc W hi hdv (Nat.lt_of_lt_of_le hgl hW.size) ((hW.cell (p := ⟨g, i * 2, none⟩) hgl).trans c1)
  have HL := Lib.hid fun W (hW : Below w.heap.size w W) (c : Nat) (hc : c ∈ c0 :: cs) => (hM.below hW).look (hin c hc).1 (hin c hc).2.1 (by omega)
  have HR := Lib.hid fun W (hW : Below w.heap.size w W) (j : Nat) (c : Nat) (hj : (c0 :: cs)[j]? = some c) => (hW.cell (p := ⟨rg, j, none⟩) hrg).trans (hcell j c hj)
  have Hop := Lib.hid hop
  have HB := Lib.hid ha
  have Hlen := Lib.hid (show cs.length + 1 ≤ 1000000 ∧ cs.length + 1 ≤ rc from ⟨by
    have := hI.kids_nodup i
    rw [hcs] at this
    have h2 : (c0 :: cs).length ≤ 60 := by
      have h3 := List.Nodup.length_le_of_subset (l₂ := List.range n) this (fun c hc => List.mem_range.2 (hin c hc).2.1)
      rw [List.length_range] at h3; omega
    simp only [List.length_cons] at h2; omega, by omega⟩)
  clear c1 hrow hrc hcell hM hin hcs hk ht hnn ha hbe hgl hI hop hrg
  go_enter Try.func97, Try.ntmps97
  go_wp2_with fail
  refine (HC.out _ HB.out).mono ?_
  rintro e w2 ⟨rfl, hw2⟩
  have HX : Hid (w2.heap[w.heap.size]? = some (.cells #[.slice (some ⟨g, 0, none⟩) n cap, dv, .map (some M)] 75)) := by
    unfold Hid
    rw [hw2]
    exact ((below_alloc _ _).block _ (by simp)).trans (heap_alloc_new w _)
  have HB2 : Hid (Below w.heap.size w w2) := by unfold Hid; rw [hw2]; exact b_next HB.out (below_alloc _ _)
  clear hw2 HC HB
  have x2 : w2.cell? ⟨w.heap.size, 2, none⟩ = some (.map (some M)) := by simp [World.cell?, HX.out]
  have k0 := HR.out w2 HB2.out 0 c0 rfl
  have l0 := fun q => HL.out (w2.drewN q) (below_drewN HB2.out q) c0 List.mem_cons_self
  go_wp2
  go_quiet (fail)
  have HB3 : Hid (Below w.heap.size w (w2.drewN nq)) := below_drewN HB2.out nq
  have HX3 : Hid ((w2.drewN nq).heap[w.heap.size]? = some (.cells #[.slice (some ⟨g, 0, none⟩) n cap, dv, .map (some M)] 75)) := HX.out
  clear x2 k0 l0 HX HB2
  generalize w2.drewN nq = w3 at HB3 HX3 ⊢
  obtain ⟨l, hl⟩ : ∃ l, cs.length = l := ⟨_, rfl⟩
  have Hl := Lib.hid hl
  rw [hl] at Hlen ⊢
  have h1 : (1 : Int) ≤ ((l + 1 : Nat) : Int) := by omega
  have h2 : ((l + 1 : Nat) : Int) ≤ (rc : Int) := by have := Hlen.out; omega
  have h3 : (0 : Int) ≤ 1 := by omega
  have hl6 : l ≤ 1000000 := by have := Hlen.out; omega
  by_cases hrc1 : rc = 1
  · have hl0 : l = 0 := by have := Hlen.out; omega
    subst hl0
    clear hl
    go_wp2
    go_loopw [8, 10, 24] (fun v _ z wr => z = .int .i64 0 ∧ v = .int .i64 (f c0) ∧ Hid (Below w.heap.size w wr)) (fun _ _ z _ => 0)
    case atStart => exact ⟨rfl, rfl, HB3⟩
    case round =>
      clear HB3
      obtain ⟨rfl, rfl, HB⟩ := hrel
      have he : f c0 = join1 op ((c0 :: cs).map f) := by rw [List.eq_nil_of_length_eq_zero Hl.out]; rfl
      have He := Lib.hid he
      generalize f c0 = v at He ⊢
      clear he
      go_wp2
      go_ret
      exact ⟨ret_int He.out, HB.out⟩
  · clear hl
    go_wp2
    go_loopw [8, 10, 24] (fun v _ z wr => ∃ k : Nat, k ≤ l ∧ z = .int .i64 k ∧ v = .int .i64 (((cs.take k).map f).foldl op (f c0)) ∧ Hid (Below w.heap.size w wr) ∧ Hid (wr.heap[w.heap.size]? = some (.cells #[.slice (some ⟨g, 0, none⟩) n cap, dv, .map (some M)] 75))) (fun _ _ z _ => l - (intOf z).toNat)
    case atStart => exact ⟨0, Nat.zero_le _, rfl, rfl, HB3, HX3⟩
    case round =>
      clear HB3 HX3
      obtain ⟨k, hk, rfl, rfl, HB, HX⟩ := hrel
      by_cases hlt : k < l
      · have hc : (k : Int) < (l : Int) := by omega
        obtain ⟨c, hck⟩ : ∃ c, cs[k]? = some c := ⟨_, List.getElem?_eq_getElem (by have := Hl.out; omega)⟩
        have x2 : wr.cell? ⟨w.heap.size, 2, none⟩ = some (.map (some M)) := by simp [World.cell?, HX.out]
        have k0 := HR.out wr HB.out (1 + k) c (by rw [Nat.add_comm, List.getElem?_cons_succ]; exact hck)
        have l0 := HL.out wr HB.out c (List.mem_cons_of_mem _ (List.mem_of_getElem? hck))
        have hst : ((cs.take (k + 1)).map f).foldl op (f c0) = op (((cs.take k).map f).foldl op (f c0)) (f c) := by
          rw [List.take_add_one, hck, Option.toList, List.map_append, List.foldl_append]; rfl
        generalize ((cs.take k).map f).foldl op (f c0) = v at hst ⊢
        have Hst := Lib.hid hst
        have hgo := Lib.hid (show k + 1 ≤ l ∧ k < l ∧ k < 1000000 by have := Hlen.out; omega)
        clear hst hck
        go_wp2_with (refine (Hop.out _ _ _).mono ?_; rintro e w4 ⟨rfl, hw4⟩; subst w4)
        go_roundw
        case rel => exact ⟨k + 1, hgo.out.1, by go_num, by rw [Hst.out], HB, HX⟩
        case measure => simp [intOf]; have := hgo.out; omega
      · obtain rfl : k = l := by omega
        have hc : ¬ (k : Int) < (k : Int) := by omega
        have he : ((cs.take k).map f).foldl op (f c0) = join1 op ((c0 :: cs).map f) := by rw [List.take_of_length_le (by rw [Hl.out]; exact Nat.le_refl _)]; rfl
        have He := Lib.hid he
        generalize ((cs.take k).map f).foldl op (f c0) = v at He ⊢
        clear he
        go_wp2
        go_ret
        exact ⟨ret_int He.out, HB.out⟩
end Go.Proofs.Ytbbidgdgcbnanaa
