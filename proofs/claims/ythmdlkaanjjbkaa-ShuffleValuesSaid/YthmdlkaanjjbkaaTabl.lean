/- Tables of 64 numbers, by value. -/
import Derived.Test.YthmdlkaanjjbkaaNest
import Derived.Deep.WholeRow
import Derived.Deep.OwnRows
import Derived.Laws.CopyOwn
namespace Go.Proofs.Ythmdlkaanjjbkaa
set_option linter.unusedVariables false
open Go.RowKit

/-- the values of f below m, and 0 behind them -/
def tabL (f : Nat → Int) (m : Nat) : List Int := (List.range 64).map fun x => if x < m then f x else 0
def tabA (f : Nat → Int) (m : Nat) : Array Value := (intL (tabL f m)).toArray

theorem tabL_length (f : Nat → Int) (m : Nat) : (tabL f m).length = 64 := by simp [tabL]
theorem tabL_get (f : Nat → Int) (m : Nat) {x : Nat} (hx : x < 64) : (tabL f m).getD x 0 = if x < m then f x else 0 := by
  unfold tabL
  rw [List.getD_eq_getElem?_getD, List.getElem?_map, List.getElem?_range hx]; rfl
/-- a block that holds a table -/
def Tb (X : World) (B : Nat) (f : Nat → Int) (m : Nat) : Prop := X.rowIs B 69 64 fun x => .int .i64 (if x < m then f x else 0)
theorem Tb.zero {X : World} {B : Nat} (f : Nat → Int) (h : X.rowIs B 69 64 fun _ => .int .i64 0) : Tb X B f 0 := h.congr fun i _ => by rw [if_neg (by omega)]
theorem Tb.next {X : World} {B k : Nat} {f : Nat → Int} (h : Tb X B f k) : Tb (X.setCell ⟨B, k, none⟩ (.int .i64 (f k))) B f (k + 1) :=
  (h.set k (.int .i64 (f k))).congr fun j _ => by
    by_cases e : j = k
    · subst e; rw [if_pos rfl, if_pos (by omega)]
    · rw [if_neg e]
      by_cases h2 : j < k
      · rw [if_pos h2, if_pos (by omega)]
      · rw [if_neg h2, if_neg (by omega)]
theorem rowIs_below {X Y : World} {B n : Nat} {t : TypeId} {f : Nat → Value} (h : X.rowIs B t n f) (hb : Below X.heap.size X Y) : Y.rowIs B t n f := h.of_block (hb.block B h.lt)
def zeroA : Array Value := (List.replicate 64 (Value.int .i64 0)).toArray
theorem zeroA_get {i : Nat} (hi : i < 64) : zeroA[i]? = some (.int .i64 0) := by unfold zeroA; rw [List.getElem?_toArray, List.getElem?_replicate, if_pos hi]
theorem zeroA_size : zeroA.size = 64 := by unfold zeroA; rw [List.size_toArray, List.length_replicate]
theorem tabA_size (f : Nat → Int) (m : Nat) : (tabA f m).size = 64 := by simp [tabA, intL_length, tabL_length]
theorem tabA_one (f : Nat → Int) (m : Nat) : (tabA f m).all (·.oneCell') = true := by
  rw [Array.all_eq_true]
  intro i hi
  simp only [tabA, intL, List.getElem_toArray, List.getElem_map]
  rfl
theorem info_table0 : (Try.prog.info? 69).map (·.size) = some 64 := by kernel_rfl
theorem info_table (T : Array Value) (h : T.size = 64) : (Try.prog.info? 69).map (·.size) = some T.size := by rw [h]; exact info_table0
theorem rowIs_cells {X : World} {B : Nat} (h : X.rowIs B 69 64 fun _ => .int .i64 0) : X.heap[B]? = some (.cells zeroA 69 (0, 0)) := by
  obtain ⟨c, h1, h2, h3⟩ := h
  rw [h1]
  congr 2
  apply Array.ext_getElem?
  intro i
  by_cases hi : i < 64
  · rw [h3 i hi]; exact (zeroA_get hi).symm
  · rw [Array.getElem?_eq_none (by omega), Array.getElem?_eq_none (by rw [zeroA_size]; omega)]
theorem zeros64 (W : World) : (W.alloc (.cells zeroA 69)).rowIs W.heap.size 69 64 (fun _ => .int .i64 0) :=
  ⟨_, heap_alloc_new W _, zeroA_size, fun i hi => zeroA_get hi⟩
theorem start_tab (w : World) (f : Nat → Int) (X : Array Value) (h : X = zeroA) :
    ((w.alloc (.cells X 69)).alloc (.cells X 69)).rowIs w.heap.size 69 64 (fun _ => .int .i64 0) ∧
      Tb ((w.alloc (.cells X 69)).alloc (.cells X 69)) (w.heap.size + 1) f 0 ∧ Below w.heap.size w ((w.alloc (.cells X 69)).alloc (.cells X 69)) := by
  subst h
  have z1 := zeros64 w
  have z2 := zeros64 (w.alloc (.cells zeroA 69))
  have hs : (w.alloc (.cells zeroA 69)).heap.size = w.heap.size + 1 := by simp
  rw [hs] at z2
  exact ⟨rowIs_below z1 (below_alloc _ _), Tb.zero f z2, b_next (below_alloc _ _) (below_alloc _ _)⟩
theorem tb_cells {X : World} {B m : Nat} {f : Nat → Int} (h : Tb X B f m) : X.heap[B]? = some (.cells (tabA f m) 69 (0, 0)) := by
  obtain ⟨c, h1, h2, h3⟩ := h
  rw [h1]
  congr 2
  apply Array.ext_getElem?
  intro i
  by_cases hi : i < 64
  · rw [h3 i hi]
    unfold tabA
    rw [List.getElem?_toArray]
    exact (intL_get (by unfold tabL; rw [List.getElem?_map, List.getElem?_range hi]; rfl)).symm
  · rw [Array.getElem?_eq_none (by omega), Array.getElem?_eq_none (by simp [tabA, intL_length, tabL_length]; omega)]

set_option maxRecDepth 100000 in
set_option maxHeartbeats 4000000 in
theorem tabulated_any (m : Nat) (gF : Nat) (caps : Array Value) (f : Nat → Int) (w : World) (hm2 : m ≤ 64) (eg : ∀ args w, (callFunc gF args).run Try.prog w = .ok (.enter gF args) w)
    (hF : ∀ (i : Nat) (W : World), i < m → Below w.heap.size w W → Calls Try.prog gF (#[.int .i64 i] ++ caps) W fun e w' => e = .returned (.int .i64 (f i)) ∧ Below W.heap.size W w') :
    Calls Try.prog 67 #[.int .i64 m, .func (.func gF) #[] caps] w fun e w' => e = .returned (.agg (tabA f m)) ∧ Below w.heap.size w w' := by
  have HF := Lib.hid hF
  obtain ⟨T, hT⟩ : ∃ T, tabA f m = T := ⟨_, rfl⟩
  have hTs : T.size = 64 := by rw [← hT]; exact tabA_size f m
  have hTo : T.all (·.oneCell') = true := by rw [← hT]; exact tabA_one f m
  rw [hT]
  have HTm := Lib.hid hT
  clear hF hT
  go_enter Try.func67, Try.ntmps67
  go_wp2
  go_loopw [6, 8] (fun _ i wr => ∃ k, k ≤ m ∧ i = .int .i64 k ∧ wr.rowIs w.heap.size 69 64 (fun _ => .int .i64 0) ∧ Tb wr (w.heap.size + 1) f k ∧ Below w.heap.size w wr) (fun _ i _ => m - (intOf i).toNat)
  case atStart =>
    obtain ⟨z1, z2, z3⟩ := start_tab w f _ rfl
    exact ⟨0, Nat.zero_le _, rfl, z1, z2, z3⟩
  case round =>
    obtain ⟨k, hk, rfl, hZ, hT, hB⟩ := hrel
    by_cases hlt : k < m
    · have hc : (k : Int) < m := by omega
      have HZ := Lib.hid hZ
      have HT := Lib.hid hT
      have HB := Lib.hid hB
      have hFk := HF.out k wr hlt hB
      have HFk := Lib.hid hFk
      clear hZ hT hB hFk
      go_wp2
      refine HFk.out.mono ?_
      rintro e w1 ⟨rfl, b1⟩
      have hT := rowIs_below HT.out b1
      have hZ := rowIs_below HZ.out b1
      have hB := b_next HB.out b1
      have ck := hT.cell (i := k) (by omega)
      have fk := hT.frozen k
      have hT2 := Tb.next hT
      have hZ2 := hZ.setOther (a := ⟨w.heap.size + 1, k, none⟩) (by show w.heap.size ≠ w.heap.size + 1; omega) (.int .i64 (f k))
      have hB2 := hB.setCell (p := ⟨w.heap.size + 1, k, none⟩) (by show w.heap.size ≤ w.heap.size + 1; omega) (.int .i64 (f k))
      have T2 := Lib.hid hT2
      have Z2 := Lib.hid hZ2
      have B2 := Lib.hid hB2
      clear hT hZ hB hT2 hZ2 hB2 b1
      go_wp2
      go_roundw
      case rel => exact ⟨k + 1, by omega, by go_num, Z2.out, T2.out, B2.out⟩
      case measure => simp [intOf]; omega
    · obtain rfl : k = m := by omega
      have hc : ¬ (k : Int) < k := by omega
      have hcs := tb_cells hT
      have HZ := Lib.hid hZ
      have HB := Lib.hid hB
      clear hZ hT hB
      rw [HTm.out] at hcs
      have hzr := rowIs_cells HZ.out
      have HT := Lib.hid hcs
      have HZr := Lib.hid hzr
      clear hcs hzr
      go_wp2_with (refine wpList_load_row (o := ⟨some 17, .load 69 (.tmp 5), _, _, _, _⟩) rfl 69 (.tmp 5) rfl (w.heap.size + 1) rfl 69 T (0, 0) _ HT.out Try.underlying69 rfl (info_table T hTs) ?_; refine wpList_store_row (o := ⟨none, .store 69 (.tmp 4) (.tmp 17), _, _, _, _⟩) rfl 69 (.tmp 4) (.tmp 17) rfl w.heap.size T rfl rfl 69 zeroA HZr.out (info_table T hTs) (zeroA_size.trans hTs.symm) hTo ?_)
      exact bodyPost_ret (v := .agg T) (results_cell_row rfl _ _ w.heap.size 69 T (0, 0) _ rfl (setRow_heap _ _ _ _ _ _ HZr.out) Try.underlying69 rfl (info_table T hTs)) rfl ⟨rfl, below_setRow HB.out (Nat.le_refl _) _⟩
end Go.Proofs.Ythmdlkaanjjbkaa
