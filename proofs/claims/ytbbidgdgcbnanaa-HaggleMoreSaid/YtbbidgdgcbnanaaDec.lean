/- isLeaves, Decides, Numbers. -/
import Derived.Test.YtbbidgdgcbnanaaMiss
namespace Go.Proofs.Ytbbidgdgcbnanaa
set_option linter.unusedVariables false
open Go.RowKit Go.Maps Go.Sort Go.Shelf

/-- a list of leaves in strictly ascending order -/
def leafB (T : Tree) (x : Int) : Bool := decide (0 ≤ x ∧ x < (T.length : Int)) && (kidsZ T x.toNat).isEmpty
def listB (T : Tree) (xs : List Int) : Bool := xs.all (leafB T) && decide (xs.Pairwise (· < ·))
/-- as it is found one by one -/
def listF (T : Tree) : Int → List Int → Bool
  | _, [] => true
  | last, x :: xs => decide (last < x) && leafB T x && listF T x xs
theorem listF_eq (T : Tree) : ∀ (xs : List Int) (last : Int), listF T last xs = (xs.all (leafB T) && decide (xs.Pairwise (· < ·)) && xs.all fun x => decide (last < x))
  | [], last => by simp [listF]
  | x :: xs, last => by
    unfold listF
    rw [listF_eq T xs x, Bool.eq_iff_iff]
    simp only [Bool.and_eq_true, decide_eq_true_eq, List.all_cons, List.all_eq_true, List.pairwise_cons]
    constructor
    · rintro ⟨⟨h1, h2⟩, ⟨h3, h4⟩, h5⟩
      exact ⟨⟨⟨h2, h3⟩, h5, h4⟩, h1, fun y hy => by have := h5 y hy; omega⟩
    · rintro ⟨⟨⟨h2, h3⟩, h5, h4⟩, h1, h6⟩
      exact ⟨⟨h1, h2⟩, ⟨h3, h4⟩, h5⟩
theorem listB_eq (T : Tree) (xs : List Int) : listF T (-1) xs = listB T xs := by
  rw [listF_eq]
  unfold listB
  rw [Bool.eq_iff_iff]
  simp only [Bool.and_eq_true, decide_eq_true_eq, List.all_eq_true]
  refine ⟨fun h => h.1, fun h => ⟨h, fun x hx => ?_⟩⟩
  have := h.1 x hx
  unfold leafB at this
  rw [Bool.and_eq_true, decide_eq_true_eq] at this
  omega
set_option maxRecDepth 100000 in
set_option maxHeartbeats 4000000 in
theorem isLeaves_any (T : Tree) (hT : treeB T = true) (g cap : Nat) (dv : Value) (hdv : dv.oneCell' = true) (a : Option Addr) (m c : Nat) (xs : List Int) (w : World) (ht : TreeAt w (some ⟨g, 0, none⟩) T) (hr : Row w a m (intL xs)) (hm : m ≤ 1000000) :
    Calls Try.prog 76 #[.agg #[.slice (some ⟨g, 0, none⟩) T.length cap, dv], .slice a m c] w fun e w' => e = .returned (.bool (listB T xs)) ∧ Below w.heap.size w w' := by
  have hI := isTree_of hT
  have hx : xs.length = m := by have := hr.1; simpa [intL] using this
  obtain ⟨n, hnn⟩ : ∃ n, T.length = n := ⟨_, rfl⟩
  have Hnode := Lib.hid fun (W : World) (hb : Below w.heap.size w W) (i : Nat) (hi : i < n) => (ht.below hb).node (i := i) (by omega)
  have Hr := Lib.hid hr
  have Hx := Lib.hid hx
  have hn6 := hI.len
  have Hnn := Lib.hid hnn
  have Hlf : Hid (∀ x : Int, leafB T x = (decide (0 ≤ x ∧ x < (n : Int)) && decide ((kidsZ T x.toNat).length = 0))) := fun x => by
    unfold leafB
    rw [hnn]
    congr 1
    cases kidsZ T x.toNat <;> rfl
  rw [hnn] at hn6 ⊢
  rw [← listB_eq]
  clear ht hr hx hI hT hnn
  have hb0 := below_alloc w (.cells #[.slice (some ⟨g, 0, none⟩) n cap, dv] 70)
  have hx0 := heap_alloc_new w (.cells #[.slice (some ⟨g, 0, none⟩) n cap, dv] 70)
  have HB0 := Lib.hid hb0
  have HX0 := Lib.hid hx0
  clear hb0 hx0
  go_enter Try.func76, Try.ntmps76
  go_wp2
  go_loopw [5, 7, 10] (fun l _ v wr => ∃ (k : Nat) (last : Int), k ≤ m ∧ v = .int .i64 k ∧ l = .int .i64 last ∧ Hid (listF T (-1) xs = listF T last (xs.drop k)) ∧ Hid (Below w.heap.size w wr) ∧ Hid (wr.heap[w.heap.size]? = some (.cells #[.slice (some ⟨g, 0, none⟩) n cap, dv] 70)) ∧ Hid (-1 ≤ last)) (fun _ _ v _ => m - (intOf v).toNat)
  case atStart => exact ⟨0, -1, Nat.zero_le _, rfl, rfl, rfl, HB0, HX0, by unfold Hid; omega⟩
  case round =>
    clear HB0 HX0
    obtain ⟨k, last, hk, rfl, rfl, HL, HB, HX, Hla⟩ := hrel
    by_cases hlt : k < m
    · have hc : (k : Int) < (m : Int) := by omega
      obtain ⟨x, hxk⟩ : ∃ x, xs[k]? = some x := ⟨_, List.getElem?_eq_getElem (by have := Hx.out; omega)⟩
      obtain ⟨rg, rfl, cx⟩ := (Hr.out.below HB.out).int hlt
      rw [List.getD_eq_getElem?_getD, hxk] at cx
      simp only [Option.getD_some] at cx
      have hdr : xs.drop k = x :: xs.drop (k + 1) := by
        obtain ⟨h1, h2⟩ := List.getElem?_eq_some_iff.1 hxk
        rw [List.drop_eq_getElem_cons h1, h2]
      have hst : listF T (-1) xs = (decide (last < x) && leafB T x && listF T x (xs.drop (k + 1))) := by rw [HL.out, hdr]; rfl
      rw [Hlf.out x] at hst
      have Hst := Lib.hid hst
      obtain ⟨p0, p1, -⟩ := two_cells HX.out
      have hgo := Lib.hid (show k + 1 ≤ m ∧ k < m by omega)
      clear hst hdr hxk HL
      by_cases h1 : x ≤ last
      · have hres : Hid (listF T (-1) xs = false) := by unfold Hid; rw [Hst.out, decide_eq_false (show ¬ last < x by omega)]; simp
        clear Hst
        go_wp2
        go_ret
        exact ⟨ret_bool hres.out.symm, HB.out⟩
      · by_cases h2 : x ≥ (n : Int)
        · have hres : Hid (listF T (-1) xs = false) := by unfold Hid; rw [Hst.out, decide_eq_false (show ¬ (0 ≤ x ∧ x < (n : Int)) by omega)]; simp
          clear Hst
          go_wp2
          go_ret
          exact ⟨ret_bool hres.out.symm, HB.out⟩
        · obtain ⟨z, rfl⟩ := Int.eq_ofNat_of_zero_le (show 0 ≤ x by have := Hla.out; omega)
          have hzn : z < n := by omega
          obtain ⟨g', ra, rc, eg', cn, -, -, -⟩ := Hnode.out wr HB.out z hzn
          simp only [Option.some.injEq, Addr.mk.injEq, and_true] at eg'
          subst eg'
          have HLf := Lib.hid (isLeaf_cell g z n cap dv ra (kidsZ T z).length rc wr hzn hdv cn (World.block_lt_of_cell? _ _ cn))
          have Hst : Hid (listF T (-1) xs = (decide (last < (z : Int)) && (decide (0 ≤ (z : Int) ∧ (z : Int) < (n : Int)) && decide ((kidsZ T z).length = 0)) && listF T (z : Int) (xs.drop (k + 1)))) := Hst
          obtain ⟨l, hl⟩ : ∃ l, (kidsZ T z).length = l := ⟨_, rfl⟩
          have Hst : Hid (listF T (-1) xs = (decide (last < (z : Int)) && (decide (0 ≤ (z : Int) ∧ (z : Int) < (n : Int)) && decide (l = 0)) && listF T (z : Int) (xs.drop (k + 1)))) := by subst hl; exact Hst
          rw [hl] at HLf
          clear cn hl
          go_wp2_with fail
          refine HLf.out.mono ?_
          rintro e w3 ⟨rfl, b3⟩
          have HB3 := Lib.hid (b_next HB.out b3)
          have HX3 := Lib.hid ((b3.block _ (Array.getElem?_eq_some_iff.1 HX.out).1).trans HX.out)
          clear b3 HLf HB HX p0 p1 cx
          by_cases hl0 : l = 0
          · have HS : Hid (listF T (-1) xs = listF T (z : Int) (xs.drop (k + 1))) := by unfold Hid; rw [Hst.out, decide_eq_true (show last < (z : Int) by omega), decide_eq_true (show 0 ≤ (z : Int) ∧ (z : Int) < (n : Int) by omega), decide_eq_true hl0]; simp
            have Hz : Hid (-1 ≤ (z : Int)) := by unfold Hid; omega
            rw [decide_eq_true hl0]
            clear Hst hl0
            go_wp2
            go_roundw
            case rel => exact ⟨k + 1, _, hgo.out.1, by go_num, rfl, HS, HB3, HX3, Hz⟩
            case measure => simp [intOf]; have := hgo.out; omega
          · have hres : Hid (listF T (-1) xs = false) := by unfold Hid; rw [Hst.out, decide_eq_false hl0]; simp
            rw [decide_eq_false hl0]
            clear Hst hl0
            go_wp2
            go_ret
            exact ⟨ret_bool hres.out.symm, HB3.out⟩
    · obtain rfl : k = m := by omega
      have hc : ¬ (k : Int) < (k : Int) := by omega
      have hres : Hid (listF T (-1) xs = true) := by unfold Hid; rw [HL.out, List.drop_of_length_le (by rw [Hx.out]; exact Nat.le_refl _)]; rfl
      clear HL
      go_wp2
      go_ret
      exact ⟨ret_bool hres.out.symm, HB.out⟩
end Go.Proofs.Ytbbidgdgcbnanaa
