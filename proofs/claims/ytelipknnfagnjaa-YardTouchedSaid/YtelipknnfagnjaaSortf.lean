/- slices.SortedFunc over the keys of a set of fractions. -/
import Derived.Test.YtelipknnfagnjaaColl
import Derived.Test.YtelipknnfagnjaaShelfb
import Derived.Test.YtelipknnfagnjaaSizem
import Derived.Sort.Grow
namespace Go.Proofs.Ytelipknnfagnjaa
set_option linter.unusedVariables false
open Go.RowKit Go.Maps Go.Shelf Go.Sort

/-- fractions that can be compared -/
abbrev Cf := { x : Nat × Nat // 1 ≤ x.2 ∧ x.1 ≤ 10000000 ∧ x.2 ≤ 10000000 }
instance : Inhabited Cf := ⟨⟨(0, 1), by decide⟩⟩
def encC (x : Cf) : List Value := [.int .i64 (x.1.1 : Nat), .int .i64 (x.1.2 : Nat)]
def cfC (x y : Cf) : Int := cmpF x.1 y.1
theorem ltC (x y : Cf) : ltOf cfC x y = decide (x.1.1 * y.1.2 < y.1.1 * x.1.2) := by
  unfold ltOf cfC
  exact cmpF_less x.1 y.1
theorem swoC : SWO (ltOf cfC) where
  irrefl x := by rw [ltC]; simp
  trans x y z h1 h2 := by
    rw [ltC, decide_eq_true_eq] at *
    have hy := y.2.1
    refine Nat.lt_of_mul_lt_mul_right (a := y.1.2) ?_
    have e1 : x.1.1 * z.1.2 * y.1.2 = x.1.1 * y.1.2 * z.1.2 := by rw [Nat.mul_assoc, Nat.mul_comm z.1.2, Nat.mul_assoc]
    have e2 : z.1.1 * x.1.2 * y.1.2 = z.1.1 * y.1.2 * x.1.2 := by rw [Nat.mul_assoc, Nat.mul_comm x.1.2, Nat.mul_assoc]
    have e3 : y.1.1 * x.1.2 * z.1.2 = y.1.1 * z.1.2 * x.1.2 := by rw [Nat.mul_assoc, Nat.mul_comm x.1.2, Nat.mul_assoc]
    rw [e1, e2]
    exact Nat.lt_trans (Nat.mul_lt_mul_of_pos_right h1 z.2.1) (by rw [e3]; exact Nat.mul_lt_mul_of_pos_right h2 x.2.1)
  ntrans x y z h1 h2 := by
    rw [ltC, decide_eq_false_iff_not, Nat.not_lt] at *
    have hy := y.2.1
    refine Nat.le_of_mul_le_mul_right (c := y.1.2) ?_ hy
    have e1 : x.1.1 * z.1.2 * y.1.2 = x.1.1 * y.1.2 * z.1.2 := by rw [Nat.mul_assoc, Nat.mul_comm z.1.2, Nat.mul_assoc]
    have e2 : z.1.1 * x.1.2 * y.1.2 = z.1.1 * y.1.2 * x.1.2 := by rw [Nat.mul_assoc, Nat.mul_comm x.1.2, Nat.mul_assoc]
    have e3 : y.1.1 * x.1.2 * z.1.2 = y.1.1 * z.1.2 * x.1.2 := by rw [Nat.mul_assoc, Nat.mul_comm x.1.2, Nat.mul_assoc]
    rw [e1, e2]
    exact Nat.le_trans (Nat.mul_le_mul_right _ h2) (by rw [← e3]; exact Nat.mul_le_mul_right _ h1)

theorem flatK_flatF (d : Array Cf) : (flatK encC 2 d).toList = flatF (d.toList.map fun x => x.1) := by
  refine List.ext_getElem? fun t => ?_
  by_cases ht : t < d.size * 2
  · have hj : t / 2 < d.size := by omega
    have h1 : (flatK encC 2 d).toList[t]? = some ((encC d[t / 2]!)[t % 2]!) := by
      rw [Array.getElem?_toList, Array.getElem?_eq_getElem (by simpa using ht), ← getElem!_pos (flatK encC 2 d) t (by simpa using ht), get_flatK _ _ _ _ ht]
    have h2 : (d.toList.map fun x => x.1)[t / 2]? = some d[t / 2]!.1 := by
      rw [List.getElem?_map, Array.getElem?_toList, Array.getElem?_eq_getElem hj, getElem!_pos d (t / 2) hj]; rfl
    obtain ⟨f1, f2⟩ := flatF_get h2
    rw [h1]
    rcases Nat.mod_two_eq_zero_or_one t with h | h
    · rw [show t = t / 2 * 2 by omega, f1]
      simp [encC]
    · rw [show t = t / 2 * 2 + 1 by omega, f2]
      rw [show (t / 2 * 2 + 1) / 2 = t / 2 by omega, show (t / 2 * 2 + 1) % 2 = 1 by omega]
      simp [encC]
  · rw [List.getElem?_eq_none (by simp; omega), List.getElem?_eq_none (by rw [flatF_length]; simp; omega)]

theorem heap_sortedK {w : World} {g n : Nat} {os : Array Obj} {cur : Array Value} {e : TypeId} {fr : Nat × Nat} (F : Array Value) (hb : w.heap[g]? = some (.cells cur e fr)) :
    (grow (putRow id (Sort.ahead w n) g 0 F) os).heap[g]? = some (.cells (putCells id 0 F cur) e fr) := by
  have hg : g < w.heap.size := (Array.getElem?_eq_some_iff.1 hb).1
  rw [heap_grow_old _ _ (by simpa using hg)]
  simp [putRow, mapBlock, Sort.ahead, Array.getElem?_modify, hb, onCells]
theorem grownBy_sortedK {w : World} {g n : Nat} {os : Array Obj} (F : Array Value) : w.grownBy (grow (putRow id (Sort.ahead w n) g 0 F) os) (some g) := by
  refine ⟨rfl, rfl, rfl, by simp, fun k hk hne => ?_⟩
  rw [heap_grow_old _ _ (by simpa using hk)]
  have : g ≠ k := fun e => hne (by rw [e])
  simp [putRow, mapBlock, Sort.ahead, Array.getElem?_modify, this]
theorem take_putK (cur F : Array Value) (h : F.size ≤ cur.size) : (putCells id 0 F cur).toList.take F.size = F.toList := by
  apply List.ext_getElem?
  intro j
  by_cases hj : j < F.size
  · rw [List.getElem?_take_of_lt hj, Array.getElem?_toList]
    simp [putCells, hj, show j < cur.size by omega]
  · rw [List.getElem?_take_eq_none (by omega), List.getElem?_eq_none (by simp; omega)]

set_option maxHeartbeats 1000000 in
theorem compare_grow (x y : Cf) (W : World) : Calls Try.prog 65 #[.agg #[.int .i64 (x.1.1 : Nat), .int .i64 (x.1.2 : Nat)], .agg #[.int .i64 (y.1.1 : Nat), .int .i64 (y.1.2 : Nat)]] W fun e w' => e = .returned (.int .i64 (cfC x y)) ∧ ∃ q os', w' = grow (W.drewN q) os' := by
  obtain ⟨⟨a, b⟩, h1, h2, h3⟩ := x
  obtain ⟨⟨c, d⟩, k1, k2, k3⟩ := y
  have e1 := wrap_mul h2 k3
  have e2 := wrap_mul k2 h3
  unfold cfC cmpF
  simp only at e1 e2 ⊢
  go_enter Try.func65, Try.ntmps65
  go_wp2_with (go_at_call 72; (refine (Any.cmp_Compare_int Try.lays122 _ _ _).mono ?_; rintro e w' ⟨rfl, rfl⟩))
  go_ret
  exact ⟨rfl, 0, _, by rw [alloc_eq_grow, alloc_eq_grow, grow_grow]; rfl⟩
theorem cmpLaysC (blk off size : Nat) (w : World) : CmpLays Try.prog 65 #[] encC 2 cfC blk off size w := fun _ _ _ _ x y => compare_grow x y _

theorem perm_full {d d' : Array Cf} (h : PermIn 0 d.size d d') : d'.toList.Perm d.toList := by
  obtain ⟨h1, _, h2⟩ := h
  have e1 : (d'.extract 0 d.size).toList = d'.toList := by simp [← h1]
  have e2 : (d.extract 0 d.size).toList = d.toList := by simp
  rwa [e1, e2] at h2
theorem sorted_full {d' : Array Cf} {n : Nat} (hn : d'.size = n) (hs : SortedIn (ltOf cfC) 0 n d') (hnd : (d'.toList.map fun x => x.1).Nodup) (hg : ∀ x ∈ d'.toList, Nat.gcd x.1.1 x.1.2 = 1) : (d'.toList.map fun x => x.1).Pairwise LtF := by
  rw [List.pairwise_map, List.pairwise_iff_getElem]
  intro i j hi hj hij
  have hi' : i < d'.size := by simpa using hi
  have hj' : j < d'.size := by simpa using hj
  have h := hs i j (by omega) hij (by omega)
  rw [getElem!_pos d' i hi', getElem!_pos d' j hj', ltC, decide_eq_false_iff_not] at h
  unfold LtF
  simp only [Array.getElem_toList]
  rcases Nat.lt_or_eq_of_le (Nat.not_lt.1 h) with h2 | h2
  · exact h2
  · exfalso
    have e := low_eq (hg _ (by simp)) (hg _ (by simp)) (d'[i]).2.1 (a := d'[i].1.1) (b := d'[i].1.2) (c := d'[j].1.1) (d := d'[j].1.2) h2
    have hne := (List.pairwise_iff_getElem.1 (List.pairwise_map.1 hnd)) i j hi hj hij
    simp only [Array.getElem_toList] at hne
    exact hne (Prod.ext e.1 e.2)

theorem ownsMap_grown {w w' : World} {b n : Nat} {L : List (Nat × Nat)} (h : w.ownsMap Try.prog 26 (plainElem (H := Unit) Try.prog 4) b n (fracSet L)) (hg : w.grownBy w' none) : w'.ownsMap Try.prog 26 (plainElem (H := Unit) Try.prog 4) b n (fracSet L) := h.kept hg (row := none) (by simp)

set_option maxRecDepth 100000 in
set_option maxHeartbeats 4000000 in
theorem SortedFunc_set (b nn : Nat) (L : List (Nat × Nat)) (hsm : ∀ p ∈ L, 1 ≤ p.2 ∧ p.1 ≤ 1000000 ∧ p.2 ≤ 1000000 ∧ Nat.gcd p.1 p.2 = 1) (hne : L ≠ []) (w : World)
    (hown : w.ownsMap Try.prog 26 (plainElem (H := Unit) Try.prog 4) b nn (fracSet L)) (hnn : nn ≤ 100000) :
    Calls Try.prog 63 #[.func (.func 76) #[] #[.pointer (some ⟨w.heap.size, 0, none⟩)], .func (.func 65) #[] #[]] (w.alloc (.cells #[.map (some b)] 78)) fun e w' =>
      ∃ v xs, e = .returned v ∧ w'.ownsRow (w.heap.size + 1 + 1) 26 2 v xs.length (flatF xs) ∧ Below (w.heap.size + 1) (w.alloc (.cells #[.map (some b)] 78)) w' ∧ xs.Pairwise LtF ∧ ∀ p, p ∈ xs ↔ p ∈ L := by
  have hc0 : (w.alloc (.cells #[.map (some b)] 78)).cell? ⟨w.heap.size, 0, none⟩ = some (.map (some b)) := (Boxed.new w 78 (.map (some b))).cell
  have cC := (callsIn_wide (n := 6)).1 (collect_in 6 (by omega) 76 #[.pointer (some ⟨w.heap.size, 0, none⟩)] (enters_of Try.func76 (by kernel_rfl) rfl) _ nn hnn
    (w.alloc (.cells #[.map (some b)] 78)) (fun W hW => keys1_visits 4 (by omega) w.heap.size b nn L (fun p hp => ⟨(hsm p hp).2.1, (hsm p hp).2.2.1⟩) W
      ((World.cell?_of_block (a := ⟨w.heap.size, 0, none⟩) (((World.grownBy_alloc _ _ none).trans hW).block w.heap.size (by simp) (by simp))).trans hc0)
      (ownsMap_grown (ownsMap_grown (ownsMap_grown hown (World.grownBy_alloc _ _ none)) (World.grownBy_alloc _ _ none)) hW)))
  have hsW : (w.alloc (.cells #[.map (some b)] 78)).heap.size = w.heap.size + 1 := by simp
  rw [hsW] at cC
  have HC := Lib.hid cC
  have HS := Lib.hid (fun (blk cap : Nat) (d : Array Cf) (W : World) => AnyQ.slices_SortFunc Try.sortFr 2 Try.isAgg26 Try.sizeOf26 encC (fun _ => rfl) (fun x v hv => by simp [encC] at hv; rcases hv with rfl | rfl <;> rfl) cfC swoC 65 #[] blk 0 cap d W (enters_of Try.func65 (by kernel_rfl) rfl) (cmpLaysC blk 0 d.size W))
  have Hsm := Lib.hid hsm
  have Hne := Lib.hid hne
  clear cC hown hc0 hsW hsm hne
  go_enter Try.func63, Try.ntmps63
  go_wp2_with (go_at_call 74; refine HC.out.mono ?_; rintro e W ⟨v, xs, rfl, ⟨hnd, hmem, hlen⟩, hrow, hb⟩)
  rcases hrow.2 with ⟨rfl, hz⟩ | ⟨gb, cap, cur, rfl, hbase, hgb, r1, r2, r3, r4⟩
  · exfalso
    have h0 : xs = [] := List.eq_nil_of_length_eq_zero hz
    refine Hne.out (List.eq_nil_iff_forall_not_mem.2 fun p hp => ?_)
    have := (hmem p).2 hp
    rw [h0] at this; cases this
  · have hall : ∀ x ∈ xs, 1 ≤ x.2 ∧ x.1 ≤ 10000000 ∧ x.2 ≤ 10000000 := fun x hx => by
      obtain ⟨h1, h2, h3, _⟩ := Hsm.out x ((hmem x).1 hx)
      exact ⟨h1, by omega, by omega⟩
    obtain ⟨d, hd⟩ : ∃ d : Array Cf, d.toList.map (fun x => x.1) = xs := ⟨(xs.pmap (fun x h => (⟨x, h⟩ : Cf)) hall).toArray, by rw [List.map_pmap]; simp⟩
    have hds : d.size = xs.length := by rw [← hd]; simp
    have hF : (flatK encC 2 d).toList = flatF xs := by rw [flatK_flatF, hd]
    have hH : HoldsK encC 2 W gb 0 d := by
      intro j hj
      have hj2 : j < xs.length * 2 := by simpa [hds] using hj
      refine ⟨?_, by simp [World.frozen?, hgb]⟩
      have h1 : (cur.toList.take (xs.length * 2))[j]? = (flatK encC 2 d).toList[j]? := by rw [r4, hF]
      rw [List.getElem?_take_of_lt hj2] at h1
      simp only [World.cell?, hgb, Nat.zero_add]
      simp only [Option.isSome_none, Bool.false_eq_true, if_false]
      rw [← Array.getElem?_toList, h1, Array.getElem?_toList, Array.getElem?_eq_getElem hj, getElem!_pos (flatK encC 2 d) j hj]
      rfl
    have hgl : gb < W.heap.size := (Array.getElem?_eq_some_iff.1 hgb).1
    have cS := HS.out gb cap d W hH hgl (by rw [hds]; omega)
    change Calls Try.prog 75 _ _ _ at cS
    rw [hds] at cS
    have HcS := Lib.hid cS
    have Hall := Lib.hid (And.intro hnd (And.intro hmem (And.intro hd (And.intro hds hF))))
    have Hb := Lib.hid hb
    have Hr := Lib.hid (And.intro hbase (And.intro hgb (And.intro r1 (And.intro r2 r3))))
    clear cS hnd hmem hd hds hF hH hb hrow hbase hgb r1 r2 r3 r4 hall
    go_wp2_with (go_at_call 75; refine HcS.out.mono ?_; rintro e w' ⟨rfl, d', n', os, hp, hs, hw'⟩; have Hw' := Lib.hid (And.intro hp (And.intro hs hw')); clear hp hs hw')
    go_ret
    obtain ⟨hp, hs, hw'⟩ := Hw'.out
    obtain ⟨hnd, hmem, hd, hds, hF⟩ := Hall.out
    obtain ⟨hbase, hgb, r1, r2, r3⟩ := Hr.out
    have hw2 : w' = grow (putRow id (Sort.ahead W n') gb 0 (flatK encC 2 d')) os := hw'
    have hds2 : d'.size = d.size := hp.1
    rw [← hds] at hp hs
    have hpm := perm_full hp
    have hpx : (d'.toList.map fun x => x.1).Perm xs := by rw [← hd]; exact hpm.map _
    have hl : (d'.toList.map fun x => x.1).length = xs.length := hpx.length_eq
    have hnd2 := hpx.nodup_iff.2 hnd
    refine ⟨_, d'.toList.map (fun x => x.1), rfl, ?_, ?_, sorted_full hds2 hs hnd2 (fun x hx => ?_), fun p => by rw [hpx.mem_iff, hmem]⟩
    · rw [hw2, hl]
      refine ⟨by rw [flatF_length, hl], .inr ⟨gb, cap, _, rfl, hbase, heap_sortedK _ hgb, r1, r2, by simp [putCells, r3], ?_⟩⟩
      have := take_putK cur (flatK encC 2 d') (by simp; omega)
      rw [size_flatK, hds2, hds, flatK_flatF] at this
      exact this
    · rw [hw2]
      exact Hb.out.grown (grownBy_sortedK _) (by have := Hb.out.size; simp at this; omega) (fun j hj => by cases hj; omega)
    · have : x.1 ∈ xs := by rw [← hpx.mem_iff]; exact List.mem_map_of_mem hx
      exact (Hsm.out x.1 ((hmem _).1 this)).2.2.2
end Go.Proofs.Ytelipknnfagnjaa
