/- Where the last of the fewest parts begins: the contract of trim.fewestBegins. -/
import Derived.Test.YteejjcipdpojnaaWays
import Derived.Test.YteejjcipdpojnaaOrder
import Derived.Deep.OwnRows
namespace Go.Proofs.Yteejjcipdpojnaa
set_option linter.unusedVariables false
open Go.RowKit Go.Shelf
attribute [local go_sem] Oper.semAt_some

/-- one beginning more: the number of parts, and where the last one begins -/
def fewStep (f : Nat → Nat) (acc : Nat × Nat) (x : Nat) : Nat × Nat := if f x + 1 < acc.1 then (f x + 1, x) else acc
def fewTo (l : List UInt8) : Nat → List (Nat × Nat)
  | 0 => [(0, 0)]
  | k + 1 => fewTo l k ++ [((begs l (k + 1)).map (·.1)).foldl (fewStep fun x => ((fewTo l k).getD x (0, 0)).1) (((fewTo l k).getD k (0, 0)).1 + 1, k)]
def fewAt (l : List UInt8) (k : Nat) : Nat × Nat := (fewTo l k).getD k (0, 0)
theorem fewTo_length (l : List UInt8) : ∀ k, (fewTo l k).length = k + 1
  | 0 => rfl
  | k + 1 => by unfold fewTo; rw [List.length_append, fewTo_length l k]; rfl
theorem fewTo_get (l : List UInt8) (j : Nat) : ∀ f, (fewTo l (j + f)).getD j (0, 0) = fewAt l j
  | 0 => rfl
  | f + 1 => by
    rw [← Nat.add_assoc, fewTo, ← fewTo_get l j f, List.getD_eq_getElem?_getD, List.getElem?_append_left (by rw [fewTo_length]; omega), List.getD_eq_getElem?_getD]
theorem fewTo_at (l : List UInt8) {j k : Nat} (h : j ≤ k) : (fewTo l k).getD j (0, 0) = fewAt l j := by
  have := fewTo_get l j (k - j)
  rwa [show j + (k - j) = k from by omega] at this
/-- what has come of the beginnings pre -/
def fewAcc {e : Nat} (l : List UInt8) (k : Nat) (pre : List (Beg e)) : Nat × Nat := (pre.map (·.1)).foldl (fewStep fun x => (fewAt l x).1) ((fewAt l k).1 + 1, k)
theorem fewAcc_snoc {e : Nat} (l : List UInt8) (k : Nat) (pre : List (Beg e)) (x : Beg e) : fewAcc l k (pre ++ [x]) = fewStep (fun x => (fewAt l x).1) (fewAcc l k pre) x.1 := by simp [fewAcc]
theorem foldl_same {α β : Type} {f g : β → α → β} : ∀ (xs : List α) (b : β), (∀ b x, x ∈ xs → f b x = g b x) → xs.foldl f b = xs.foldl g b
  | [], _, _ => rfl
  | x :: xs, b, h => by
    rw [List.foldl_cons, List.foldl_cons, h b x (by simp)]
    exact foldl_same xs _ fun b y hy => h b y (by simp [hy])
theorem fewAt_succ (l : List UInt8) (k : Nat) : fewAt l (k + 1) = fewAcc l k (begs l (k + 1)) := by
  have h : fewAt l (k + 1) = ((begs l (k + 1)).map (·.1)).foldl (fewStep fun x => ((fewTo l k).getD x (0, 0)).1) (((fewTo l k).getD k (0, 0)).1 + 1, k) := by
    show (fewTo l k ++ [_]).getD (k + 1) (0, 0) = _
    rw [List.getD_eq_getElem?_getD, List.getElem?_append_right (by rw [fewTo_length]; omega), fewTo_length, Nat.sub_self]; rfl
  rw [h]
  unfold fewAcc
  rw [fewTo_at l (Nat.le_refl k)]
  refine foldl_same _ _ fun b x hx => ?_
  obtain ⟨y, _, rfl⟩ := List.mem_map.1 hx
  have hy : y.1 ≤ k := by have := y.2; omega
  simp only [fewStep, fewTo_at l hy]
theorem fewStep_le (f : Nat → Nat) (acc : Nat × Nat) (x m : Nat) (h : acc.1 ≤ m) : (fewStep f acc x).1 ≤ m := by
  unfold fewStep; split
  · simp only; omega
  · exact h
theorem fewStep_snd (f : Nat → Nat) (acc : Nat × Nat) (x m : Nat) (h : acc.2 ≤ m) (hx : x ≤ m) : (fewStep f acc x).2 ≤ m := by
  unfold fewStep; split
  · exact hx
  · exact h
theorem fewFold_le (f : Nat → Nat) (m : Nat) : ∀ (xs : List Nat) (acc : Nat × Nat), acc.1 ≤ m → (xs.foldl (fewStep f) acc).1 ≤ m
  | [], _, h => h
  | x :: xs, acc, h => fewFold_le f m xs _ (fewStep_le f acc x m h)
theorem fewFold_snd (f : Nat → Nat) (m : Nat) : ∀ (xs : List Nat) (acc : Nat × Nat), acc.2 ≤ m → (∀ x, x ∈ xs → x ≤ m) → (xs.foldl (fewStep f) acc).2 ≤ m
  | [], _, h, _ => h
  | x :: xs, acc, h, hx => fewFold_snd f m xs _ (fewStep_snd f acc x m h (hx x (by simp))) (fun y hy => hx y (by simp [hy]))
theorem fewAcc_le {e : Nat} (l : List UInt8) (k : Nat) (pre : List (Beg e)) : (fewAcc l k pre).1 ≤ (fewAt l k).1 + 1 := fewFold_le _ _ _ _ (Nat.le_refl _)
theorem fewAcc_snd (l : List UInt8) (k : Nat) (pre : List (Beg (k + 1))) : (fewAcc l k pre).2 ≤ k :=
  fewFold_snd _ _ _ _ (Nat.le_refl _) fun x hx => by
    obtain ⟨y, _, rfl⟩ := List.mem_map.1 hx
    have := y.2; omega
theorem fewAt_le (l : List UInt8) : ∀ k, (fewAt l k).1 ≤ k
  | 0 => Nat.le_refl _
  | k + 1 => by
    rw [fewAt_succ]
    have h1 := fewAcc_le l k (begs l (k + 1))
    have h2 := fewAt_le l k
    omega
theorem fewAt_snd (l : List UInt8) (k : Nat) : (fewAt l (k + 1)).2 ≤ k := by rw [fewAt_succ]; exact fewAcc_snd l k _

/-- the first k + 1 of the told numbers, then 0 -/
def told (f : Nat → Nat) (k : Nat) (j : Nat) : Value := .int .i64 ((if j ≤ k then f j else 0 : Nat) : Int)
/-- .. and c at k + 1 -/
def tell (f : Nat → Nat) (k c : Nat) (j : Nat) : Value := .int .i64 ((if j = k + 1 then c else if j ≤ k then f j else 0 : Nat) : Int)

/-- what holds at the head of fewestBegins' loop; all its blocks lie below M -/
structure FSt (M : Nat) (w W : World) (N : Nat) (Ds : List Nat) (fn fb : Nat → Value) : Prop where
  below : Below w.heap.size w W
  size : M ≤ W.heap.size
  nlt : w.heap.size + 1 + 1 + 1 < M
  dlt : ∀ D, D ∈ Ds → D < M
  bn : Boxed W (w.heap.size + 1) 27 (.slice (some ⟨w.heap.size, 0, none⟩) N N)
  bb : Boxed W (w.heap.size + 1 + 1 + 1) 27 (.slice (some ⟨w.heap.size + 1 + 1, 0, none⟩) N N)
  rn : W.rowIs w.heap.size 3 N fn
  rb : W.rowIs (w.heap.size + 1 + 1) 3 N fb
  marks : Marks w.heap.size Ds W
theorem FSt.kept {M : Nat} {w W W' : World} {N : Nat} {Ds : List Nat} {fn fb : Nat → Value} (h : FSt M w W N Ds fn fb) {row : Option Nat} (hg : W.grownBy W' row) (hr : ∀ r, row = some r → M ≤ r) : FSt M w W' N Ds fn fb := by
  have hne : ∀ q, q < M → some q ≠ row := fun q hq e => by have := hr q e.symm; omega
  have hn := h.nlt
  refine ⟨h.below.grown hg (by have := h.size; omega) (fun q e => by have := hr q e; omega), Nat.le_trans h.size hg.size, h.nlt, h.dlt, h.bn.kept hg (hne _ (by omega)), h.bb.kept hg (hne _ (by omega)),
    h.rn.of_block (hg.block _ h.rn.lt (hne _ (by omega))), h.rb.of_block (hg.block _ h.rb.lt (hne _ (by omega))), ⟨h.marks.1, fun D hD => ⟨(h.marks.2 D hD).1, ?_⟩⟩⟩
  rw [hg.block D (Array.getElem?_eq_some_iff.1 (h.marks.2 D hD).2).1 (hne _ (h.dlt D hD))]
  exact (h.marks.2 D hD).2
theorem FSt.set1 {M : Nat} {w W : World} {N : Nat} {Ds : List Nat} {fn fb : Nat → Value} (h : FSt M w W N Ds fn fb) (j : Nat) (v : Value) : FSt M w (W.setCell ⟨w.heap.size, j, none⟩ v) N Ds (fun i => if i = j then v else fn i) fb :=
  ⟨h.below.setCell (p := ⟨w.heap.size, j, none⟩) (Nat.le_refl _) v, by rw [World.size_setCell]; exact h.size, h.nlt, h.dlt, h.bn.kept (W' := W.setCell ⟨w.heap.size, j, none⟩ v) (row := some w.heap.size) ⟨rfl, rfl, rfl, by simp, fun k _ hk => Below.heap_setCell _ _ _ _ (fun e => hk (by rw [e]))⟩ (by simp <;> omega),
    h.bb.kept (W' := W.setCell ⟨w.heap.size, j, none⟩ v) (row := some w.heap.size) ⟨rfl, rfl, rfl, by simp, fun k _ hk => Below.heap_setCell _ _ _ _ (fun e => hk (by rw [e]))⟩ (by simp <;> omega), h.rn.set j v, h.rb.setOther (by show w.heap.size + 1 + 1 ≠ w.heap.size; omega) v,
    h.marks.1, fun D hD => ⟨(h.marks.2 D hD).1, (KeepsOthers.setCell W ⟨w.heap.size, j, none⟩ v).same D _ (h.marks.2 D hD).2 rfl⟩⟩
theorem FSt.set2 {M : Nat} {w W : World} {N : Nat} {Ds : List Nat} {fn fb : Nat → Value} (h : FSt M w W N Ds fn fb) (j : Nat) (v : Value) : FSt M w (W.setCell ⟨w.heap.size + 1 + 1, j, none⟩ v) N Ds fn (fun i => if i = j then v else fb i) :=
  ⟨h.below.setCell (p := ⟨w.heap.size + 1 + 1, j, none⟩) (by simp; omega) v, by rw [World.size_setCell]; exact h.size, h.nlt, h.dlt, h.bn.kept (W' := W.setCell ⟨w.heap.size + 1 + 1, j, none⟩ v) (row := some (w.heap.size + 1 + 1)) ⟨rfl, rfl, rfl, by simp, fun k _ hk => Below.heap_setCell _ _ _ _ (fun e => hk (by rw [e]))⟩ (by simp <;> omega),
    h.bb.kept (W' := W.setCell ⟨w.heap.size + 1 + 1, j, none⟩ v) (row := some (w.heap.size + 1 + 1)) ⟨rfl, rfl, rfl, by simp, fun k _ hk => Below.heap_setCell _ _ _ _ (fun e => hk (by rw [e]))⟩ (by simp <;> omega), h.rn.setOther (by show w.heap.size ≠ w.heap.size + 1 + 1; omega) v, h.rb.set j v,
    h.marks.1, fun D hD => ⟨(h.marks.2 D hD).1, (KeepsOthers.setCell W ⟨w.heap.size + 1 + 1, j, none⟩ v).same D _ (h.marks.2 D hD).2 rfl⟩⟩
theorem FSt.congr {M : Nat} {w W : World} {N : Nat} {Ds : List Nat} {fn fb fn' fb' : Nat → Value} (h : FSt M w W N Ds fn fb) (h1 : ∀ i, i < N → fn i = fn' i) (h2 : ∀ i, i < N → fb i = fb' i) : FSt M w W N Ds fn' fb' :=
  ⟨h.below, h.size, h.nlt, h.dlt, h.bn, h.bb, h.rn.congr h1, h.rb.congr h2, h.marks⟩
theorem told_tell (f : Nat → Nat) (k c i : Nat) : (if i = k + 1 then (.int .i64 (c : Int) : Value) else told f k i) = tell f k c i := by
  unfold told tell
  by_cases h : i = k + 1
  · rw [if_pos h, if_pos h]
  · rw [if_neg h, if_neg h]
theorem tell_tell (f : Nat → Nat) (k c d i : Nat) : (if i = k + 1 then (.int .i64 (c : Int) : Value) else tell f k d i) = tell f k c i := by
  unfold tell
  by_cases h : i = k + 1
  · rw [if_pos h, if_pos h]
  · rw [if_neg h, if_neg h, if_neg h]
theorem tell_told (f : Nat → Nat) (k i : Nat) : tell f k (f (k + 1)) i = told f (k + 1) i := by
  unfold tell told
  by_cases h : i = k + 1
  · subst h; rw [if_pos rfl, if_pos (Nat.le_refl _)]
  · rw [if_neg h]
    by_cases h2 : i ≤ k
    · rw [if_pos h2, if_pos (by omega)]
    · rw [if_neg h2, if_neg (by omega)]

theorem FSt.push {M : Nat} {w W X : World} {N : Nat} {Ds : List Nat} {fn fb : Nat → Value} (h : FSt M w X N Ds fn fb) (hM : Marks w.heap.size Ds W) {D : Nat} (hD : W.heap.size ≤ D) (hK : X.heap[D]? = some (Obj.deferred (some []))) (hW : w.heap.size ≤ W.heap.size := by omega) : FSt X.heap.size w X N (D :: Ds) fn fb := by
  have hn := h.nlt
  have hs := h.size
  have hmk : ∀ D', D' ∈ D :: Ds → X.heap[D']? = some (Obj.deferred (some [])) := by
    intro D' h'
    rcases List.mem_cons.1 h' with rfl | h'
    · exact hK
    · exact (h.marks.2 D' h').2
  exact ⟨h.below, Nat.le_refl _, by omega, fun D' h' => (Array.getElem?_eq_some_iff.1 (hmk D' h')).1, h.bn, h.bb, h.rn, h.rb, hM.push hD (by omega) (fun D' h' => hmk D' (by simp [h'])) hK⟩
/-- the function's leaving -/
theorem leaves_few {w : World} {n N : Nat} {tmps : Array Value} {u : FrameMode} {R : Ending → World → Prop} {v : Value} (hu : u = .returning) (h2 : tmps[2]? = some v) (f : Nat → Value)
    (Ds : List Nat) (X : World) (hM : Marks w.heap.size Ds X) (hX : X.rowIs (w.heap.size + 1 + 1) 3 N f ∧ Below w.heap.size w X)
    (hR : ∀ Y, Y.rowIs (w.heap.size + 1 + 1) 3 N f → Below w.heap.size w Y → R (.returned v) Y) :
    LeavesInM Fence.wide n Try.prog Try.f62 tmps R (Ds.map markD) u X := by
  subst hu
  refine leaves_marks (by simp) (n₀ := w.heap.size) (Φ := fun X => X.rowIs (w.heap.size + 1 + 1) 3 N f ∧ Below w.heap.size w X) ?_ ?_ Ds X hM hX
  · intro Y D h hD hk
    refine ⟨h.1.of_block (World.putObj_heap_other (fun e => ?_)), h.2.grown (grownBy_putObj' Y D _) h.2.size (fun q e => by cases e; exact hD)⟩
    obtain ⟨c, hc, _⟩ := h.1
    rw [e, hk] at hc; cases hc
  · intro Y h
    refine ⟨v, ?_, hR Y h.1 h.2⟩
    simp [results, Try.f62, go_sem, h2]

set_option maxRecDepth 100000 in
set_option maxHeartbeats 4000000 in
theorem fewestBegins_in (s : ByteArray) (w : World) (hs : s.size ≤ 1000) :
    CallsIn Fence.wide 6 Try.prog 62 #[.string s] w fun e w' => ∃ g, e = .returned (.slice (some ⟨g, 0, none⟩) (s.size + 1 : Nat) (s.size + 1 : Nat)) ∧ w'.rowIs g 3 (s.size + 1) (told (fun j => (fewAt s.data.toList j).2) s.size) ∧ Below w.heap.size w w' := by
  obtain ⟨N, hN⟩ : ∃ N, s.size + 1 = N := ⟨_, rfl⟩
  have eN : IntKind.i64.wrap ((s.size : Int) + 1) = N := by rw [IntWalk.i64_in _ (by omega)]; omega
  have hmk := run_make_row' (P := Try.prog) 27 3 (.int .i64 0) 8 Try.underlying27 info_int rfl .i64 .i64 N (by omega) (by omega)
  have HN := Lib.hid hN
  clear hN
  refine callsIn_of_wp_marks Try.func62 rfl trivial ?_ rfl
  simp only [Try.ntmps62, List.size_toArray, List.length_cons, List.length_nil, Nat.reduceAdd, Nat.reduceSub, Array.replicate_succ, Array.replicate_zero, List.push_toArray, List.append_toArray, List.nil_append, List.cons_append]
  gi_wp2
  clear hmk
  refine wpIn_loop (fun a' W => ∃ u5 u6 u7 u18 u19 u20 u21 u22 u23 u24 u25 u26 u27 u28 u29 u30 u31 u32 u33 u34 u35 u36 u37 u38 u39 u40 u41 u42 u43 u44 u45 u46 u47 u48 u49 u50 u51 u52 u53 u54 u55 u56 u57 u58 u59 u60 u61 : Value, ∃ ds : List Deferred, (∃ (k : Nat) (Ds : List Nat), k ≤ s.size ∧ u18 = .int .i64 k ∧ ds = Ds.map markD ∧ FSt W.heap.size w W N Ds (told (fun j => (fewAt s.data.toList j).1) k) (told (fun j => (fewAt s.data.toList j).2) k)) ∧ a' = { tmps := #[.string s, undef, .slice none 0 0, .pointer (some ⟨w.heap.size + 1, 0, none⟩), .pointer (some ⟨w.heap.size + 1 + 1 + 1, 0, none⟩), u5, u6, u7, .string s, .int .i64 s.size, .int .i64 N, .slice (some ⟨w.heap.size, 0, none⟩) N N, .string s, .int .i64 s.size, .int .i64 N, .slice (some ⟨w.heap.size + 1 + 1, 0, none⟩) N N, .string s, .int .i64 s.size, u18, u19, u20, u21, u22, u23, u24, u25, u26, u27, u28, u29, u30, u31, u32, u33, u34, u35, u36, u37, u38, u39, u40, u41, u42, u43, u44, u45, u46, u47, u48, u49, u50, u51, u52, u53, u54, u55, u56, u57, u58, u59, u60, u61, undef], defers := ds }) (fun a' _ => s.size - (intOf (a'.tmps.getD 18 undef)).toNat) ?_ ?_
  · (repeat apply Exists.intro)
    refine ⟨?_, rfl⟩
    refine ⟨0, [], Nat.zero_le _, rfl, rfl, ?_⟩
    have hB := ((((Below.refl _ w).alloc (Nat.le_refl _) (.cells (madeCells #[.int .i64 0] N) 3)).alloc (by simp) (.cells #[.slice (some ⟨w.heap.size, 0, none⟩) N N] 27)).alloc (by simp; omega) (.cells (madeCells #[.int .i64 0] N) 3)).alloc (by simp; omega) (.cells #[.slice (some ⟨w.heap.size + 1 + 1, 0, none⟩) N N] 27)
    have b1 := ((Boxed.new (w.alloc (.cells (madeCells #[.int .i64 0] N) 3)) 27 (.slice (some ⟨w.heap.size, 0, none⟩) N N)).alloc (.cells (madeCells #[.int .i64 0] N) 3)).alloc (.cells #[.slice (some ⟨w.heap.size + 1 + 1, 0, none⟩) N N] 27)
    have b3 := Boxed.new (((w.alloc (.cells (madeCells #[.int .i64 0] N) 3)).alloc (.cells #[.slice (some ⟨w.heap.size, 0, none⟩) N N] 27)).alloc (.cells (madeCells #[.int .i64 0] N) 3)) 27 (.slice (some ⟨w.heap.size + 1 + 1, 0, none⟩) N N)
    have r0 := (((World.rowIs_made w (.int .i64 0) N 3).alloc (.cells #[.slice (some ⟨w.heap.size, 0, none⟩) N N] 27)).alloc (.cells (madeCells #[.int .i64 0] N) 3)).alloc (.cells #[.slice (some ⟨w.heap.size + 1 + 1, 0, none⟩) N N] 27)
    have r2 := (World.rowIs_made ((w.alloc (.cells (madeCells #[.int .i64 0] N) 3)).alloc (.cells #[.slice (some ⟨w.heap.size, 0, none⟩) N N] 27)) (.int .i64 0) N 3).alloc (.cells #[.slice (some ⟨w.heap.size + 1 + 1, 0, none⟩) N N] 27)
    simp only [World.size_alloc] at b1 b3 r2
    have h00 : ∀ f : Nat → Nat, f 0 = 0 → ∀ i, i < N → (.int .i64 0 : Value) = told f 0 i := fun f h i _ => by
      unfold told
      by_cases e : i ≤ 0
      · rw [if_pos e, show i = 0 from by omega, h]; rfl
      · rw [if_neg e]; rfl
    exact ⟨hB, Nat.le_refl _, by simp, fun _ h => (by cases h), b1, b3, r0.congr (h00 _ rfl), r2.congr (h00 _ rfl), ⟨List.nodup_nil, fun _ h => (by cases h)⟩⟩
  · intro _ W hinv
    obtain ⟨u5, u6, u7, u18, u19, u20, u21, u22, u23, u24, u25, u26, u27, u28, u29, u30, u31, u32, u33, u34, u35, u36, u37, u38, u39, u40, u41, u42, u43, u44, u45, u46, u47, u48, u49, u50, u51, u52, u53, u54, u55, u56, u57, u58, u59, u60, u61, ds, ⟨k, Ds, hk, rfl, rfl, hS⟩, rfl⟩ := hinv
    dsimp only
    by_cases hlt : k < s.size
    · have hc : (k : Int) < s.size := by omega
      have hnlt := hS.nlt
      have hmx : Try.prog.follows .mixedOrders = true := by kernel_rfl
      have hf1 := fewAt_le s.data.toList k
      obtain ⟨f, hf⟩ : ∃ f, (fewAt s.data.toList k).1 = f := ⟨_, rfl⟩
      obtain ⟨c, hc1⟩ : ∃ c, f + 1 = c := ⟨_, rfl⟩
      rw [hf] at hf1
      have ef : IntKind.i64.wrap ((f : Int) + 1) = c := by rw [IntWalk.i64_in _ (by omega)]; omega
      have z1 : (k : Int) < N := by have := HN.out; omega
      have z2 : (k : Int) + 1 < N := by have := HN.out; omega
      have z3 : ((k : Int) + 1).toNat = k + 1 := by omega
      have hSa := hS.kept (World.grownBy_alloc W (.cells #[.int .i64 ((k : Int) + 1)] 3) none) (fun _ e => by cases e)
      have hSb := hSa.kept (drew_grown (row := none)) (fun _ e => by cases e)
      have hb6 := (Boxed.new W 3 (.int .i64 ((k : Int) + 1))).kept (drew_grown (row := none)) (by simp)
      gi_wp2
      obtain ⟨W0, HW0⟩ : ∃ W0, (W.alloc (.cells #[.int .i64 ((k : Int) + 1)] 3)).drew = W0 := ⟨_, rfl⟩
      rw [HW0] at hSb hb6
      have hS1 := hSb.set1 (k + 1) (.int .i64 c)
      have hS2 := hS1.set2 (k + 1) (.int .i64 k)
      have hb61 := hb6.other (B' := w.heap.size) (by omega)
      obtain ⟨W1, hW1⟩ : ∃ W1, W0.setCell ⟨w.heap.size, k + 1, none⟩ (.int .i64 c) = W1 := ⟨_, rfl⟩
      rw [hW1] at hS1 hS2
      obtain ⟨W2, hW2⟩ : ∃ W2, W1.setCell ⟨w.heap.size + 1 + 1, k + 1, none⟩ (.int .i64 k) = W2 := ⟨_, rfl⟩
      rw [hW2] at hS2
      have c3 := hSb.bn.cell
      have c4 := hSb.bb.cell
      have c41 := hS1.bb.cell
      have c6 := hb6.cell
      have ck := hSb.rn.cell (i := k) (by have := HN.out; omega)
      have ck1 := hSb.rn.cell (i := k + 1) (by have := HN.out; omega)
      have ck2 := hS1.rb.cell (i := k + 1) (by have := HN.out; omega)
      have fk1 := hSb.rn.frozen (k + 1)
      have fk2 := hS1.rb.frozen (k + 1)
      have c61 : W1.cell? ⟨W.heap.size, 0, none⟩ = some (.int .i64 ((k : Int) + 1)) := by
        rw [← hW1, World.cell?_setCell_other _ _ _ _ (fun e => by have := congrArg Addr.block e; simp at this; omega)]; exact c6
      simp only [told, if_pos (Nat.le_refl k), hf] at ck
      have hpk := pk_true
      refine region_inv' hmx (fun L a X => ∃ b0 b1 b2 b3 b4 b5 b6 b7 b8 b9 b10 b11 b12 b13 : Bool, L = #[b0, b1, b2, b3, b4, b5, b6, b7, b8, b9, b10, b11, b12, b13] ∧ a = { tmps := #[.string s, undef, .slice none 0 0, .pointer (some ⟨w.heap.size + 1, 0, none⟩), .pointer (some ⟨w.heap.size + 1 + 1 + 1, 0, none⟩), .int .i64 k, .pointer (some ⟨W.heap.size, 0, none⟩), u7, .string s, .int .i64 s.size, .int .i64 N, .slice (some ⟨w.heap.size, 0, none⟩) N N, .string s, .int .i64 s.size, .int .i64 N, .slice (some ⟨w.heap.size + 1 + 1, 0, none⟩) N N, .string s, .int .i64 s.size, .int .i64 k, .bool true, .int .i64 k, .int .i64 k, .int .i64 ((k : Int) + 1), pk b0 (.slice (some ⟨w.heap.size, 0, none⟩) N N) (u23), pk b1 (.int .i64 ((k : Int) + 1)) (u24), pk b2 (.slice (some ⟨w.heap.size + 1 + 1, 0, none⟩) N N) (u25), pk b3 (.int .i64 ((k : Int) + 1)) (u26), pk b4 (.slice (some ⟨w.heap.size, 0, none⟩) N N) (u27), pk b5 (.int .i64 k) (u28), pk b6 (.pointer (some ⟨w.heap.size, k, none⟩)) (u29), pk b7 (.int .i64 f) (u30), pk b8 (.int .i64 c) (u31), pk b9 (.int .i64 k) (u32), pk b10 (.pointer (some ⟨w.heap.size, k + 1, none⟩)) (u33), pk b12 (.pointer (some ⟨w.heap.size + 1 + 1, k + 1, none⟩)) (u34), u35, u36, u37, u38, u39, u40, u41, u42, u43, u44, u45, u46, u47, u48, u49, u50, u51, u52, u53, u54, u55, u56, u57, u58, u59, u60, u61, undef], defers := List.map markD Ds } ∧ X = (bif b13 then W2 else bif b11 then W1 else W0) ∧ (b11 = true → b0 = true ∧ b1 = true ∧ b4 = true ∧ b5 = true ∧ b6 = true ∧ b7 = true ∧ b8 = true ∧ b10 = true) ∧ (b13 = true → b0 = true ∧ b1 = true ∧ b2 = true ∧ b3 = true ∧ b4 = true ∧ b5 = true ∧ b6 = true ∧ b7 = true ∧ b8 = true ∧ b9 = true ∧ b10 = true ∧ b11 = true ∧ b12 = true)) { tmps := #[.string s, undef, .slice none 0 0, .pointer (some ⟨w.heap.size + 1, 0, none⟩), .pointer (some ⟨w.heap.size + 1 + 1 + 1, 0, none⟩), .int .i64 k, .pointer (some ⟨W.heap.size, 0, none⟩), u7, .string s, .int .i64 s.size, .int .i64 N, .slice (some ⟨w.heap.size, 0, none⟩) N N, .string s, .int .i64 s.size, .int .i64 N, .slice (some ⟨w.heap.size + 1 + 1, 0, none⟩) N N, .string s, .int .i64 s.size, .int .i64 k, .bool true, .int .i64 k, .int .i64 k, .int .i64 ((k : Int) + 1), .slice (some ⟨w.heap.size, 0, none⟩) N N, .int .i64 ((k : Int) + 1), .slice (some ⟨w.heap.size + 1 + 1, 0, none⟩) N N, .int .i64 ((k : Int) + 1), .slice (some ⟨w.heap.size, 0, none⟩) N N, .int .i64 k, .pointer (some ⟨w.heap.size, k, none⟩), .int .i64 f, .int .i64 c, .int .i64 k, .pointer (some ⟨w.heap.size, k + 1, none⟩), .pointer (some ⟨w.heap.size + 1 + 1, k + 1, none⟩), u35, u36, u37, u38, u39, u40, u41, u42, u43, u44, u45, u46, u47, u48, u49, u50, u51, u52, u53, u54, u55, u56, u57, u58, u59, u60, u61, undef], defers := List.map markD Ds } W2 ?h0 ?hstep ?hdone ?hfin
      case h0 => exact ⟨false, false, false, false, false, false, false, false, false, false, false, false, false, false, rfl, rfl, HW0, (fun h => by cases h), (fun h => by cases h)⟩
      case hstep =>
        rintro Q L a X ⟨b0, b1, b2, b3, b4, b5, b6, b7, b8, b9, b10, b11, b12, b13, rfl, rfl, rfl, k11, k13⟩ i hi
        have K11 := Lib.hid k11
        have K13 := Lib.hid k13
        clear k11 k13
        obtain ⟨hun, o, ho, hdeps⟩ := mem_ready.1 hi
        clear hi
        have hi : i < 14 := (Array.getElem?_eq_some_iff.1 ho).1
        have hor : i = 0 ∨ i = 1 ∨ i = 2 ∨ i = 3 ∨ i = 4 ∨ i = 5 ∨ i = 6 ∨ i = 7 ∨ i = 8 ∨ i = 9 ∨ i = 10 ∨ i = 11 ∨ i = 12 ∨ i = 13 := by omega
        clear hi
        rcases hor with rfl | rfl | rfl | rfl | rfl | rfl | rfl | rfl | rfl | rfl | rfl | rfl | rfl | rfl
        · have hb : b0 = false := hun
          cases ho
          clear hun hdeps
          have e11 : b11 = false := by cases h : b11 with | false => rfl | true => exact absurd ((K11.out h).1) (by rw [hb]; decide)
          have e13 : b13 = false := by cases h : b13 with | false => rfl | true => exact absurd ((K13.out h).1) (by rw [hb]; decide)
          subst hb e11 e13
          all_goals dsimp only
          refine wpOpIn_step rfl (fun K' hK => ?_)
          all_goals go_simp
          all_goals exact hK _ _ ⟨true, b1, b2, b3, b4, b5, b6, b7, b8, b9, b10, false, b12, false, rfl, rfl, rfl, (fun h => by cases h), (fun h => by cases h)⟩
        · have hb : b1 = false := hun
          cases ho
          clear hun hdeps
          have e11 : b11 = false := by cases h : b11 with | false => rfl | true => exact absurd ((K11.out h).2.1) (by rw [hb]; decide)
          have e13 : b13 = false := by cases h : b13 with | false => rfl | true => exact absurd ((K13.out h).2.1) (by rw [hb]; decide)
          subst hb e11 e13
          all_goals dsimp only
          refine wpOpIn_step rfl (fun K' hK => ?_)
          all_goals go_simp
          all_goals exact hK _ _ ⟨b0, true, b2, b3, b4, b5, b6, b7, b8, b9, b10, false, b12, false, rfl, rfl, rfl, (fun h => by cases h), (fun h => by cases h)⟩
        · have hb : b2 = false := hun
          cases ho
          clear hun hdeps
          have e13 : b13 = false := by cases h : b13 with | false => rfl | true => exact absurd ((K13.out h).2.2.1) (by rw [hb]; decide)
          subst hb e13
          cases b11
          all_goals dsimp only
          all_goals refine wpOpIn_step rfl (fun K' hK => ?_)
          all_goals go_simp
          all_goals exact hK _ _ ⟨b0, b1, true, b3, b4, b5, b6, b7, b8, b9, b10, _, b12, false, rfl, rfl, rfl, K11.out, (fun h => by cases h)⟩
        · have hb : b3 = false := hun
          cases ho
          clear hun hdeps
          have e13 : b13 = false := by cases h : b13 with | false => rfl | true => exact absurd ((K13.out h).2.2.2.1) (by rw [hb]; decide)
          subst hb e13
          cases b11
          all_goals dsimp only
          all_goals refine wpOpIn_step rfl (fun K' hK => ?_)
          all_goals go_simp
          all_goals exact hK _ _ ⟨b0, b1, b2, true, b4, b5, b6, b7, b8, b9, b10, _, b12, false, rfl, rfl, rfl, K11.out, (fun h => by cases h)⟩
        · have hb : b4 = false := hun
          cases ho
          clear hun hdeps
          have e11 : b11 = false := by cases h : b11 with | false => rfl | true => exact absurd ((K11.out h).2.2.1) (by rw [hb]; decide)
          have e13 : b13 = false := by cases h : b13 with | false => rfl | true => exact absurd ((K13.out h).2.2.2.2.1) (by rw [hb]; decide)
          subst hb e11 e13
          all_goals dsimp only
          refine wpOpIn_step rfl (fun K' hK => ?_)
          all_goals go_simp
          all_goals exact hK _ _ ⟨b0, b1, b2, b3, true, b5, b6, b7, b8, b9, b10, false, b12, false, rfl, rfl, rfl, (fun h => by cases h), (fun h => by cases h)⟩
        · have hb : b5 = false := hun
          cases ho
          clear hun hdeps
          have e11 : b11 = false := by cases h : b11 with | false => rfl | true => exact absurd ((K11.out h).2.2.2.1) (by rw [hb]; decide)
          have e13 : b13 = false := by cases h : b13 with | false => rfl | true => exact absurd ((K13.out h).2.2.2.2.2.1) (by rw [hb]; decide)
          subst hb e11 e13
          all_goals dsimp only
          refine wpOpIn_step rfl (fun K' hK => ?_)
          all_goals go_simp
          all_goals exact hK _ _ ⟨b0, b1, b2, b3, b4, true, b6, b7, b8, b9, b10, false, b12, false, rfl, rfl, rfl, (fun h => by cases h), (fun h => by cases h)⟩
        · have hb : b6 = false := hun
          cases ho
          have d4 : b4 = true := hdeps ⟨4, Ground.data⟩ (by simp) rfl
          have d5 : b5 = true := hdeps ⟨5, Ground.data⟩ (by simp) rfl
          clear hun hdeps
          have e11 : b11 = false := by cases h : b11 with | false => rfl | true => exact absurd ((K11.out h).2.2.2.2.1) (by rw [hb]; decide)
          have e13 : b13 = false := by cases h : b13 with | false => rfl | true => exact absurd ((K13.out h).2.2.2.2.2.2.1) (by rw [hb]; decide)
          subst hb d4 d5 e11 e13
          all_goals dsimp only
          refine wpOpIn_step rfl (fun K' hK => ?_)
          all_goals go_simp
          all_goals exact hK _ _ ⟨b0, b1, b2, b3, true, true, true, b7, b8, b9, b10, false, b12, false, rfl, rfl, rfl, (fun h => by cases h), (fun h => by cases h)⟩
        · have hb : b7 = false := hun
          cases ho
          have d6 : b6 = true := hdeps ⟨6, Ground.data⟩ (by simp) rfl
          clear hun hdeps
          have e11 : b11 = false := by cases h : b11 with | false => rfl | true => exact absurd ((K11.out h).2.2.2.2.2.1) (by rw [hb]; decide)
          have e13 : b13 = false := by cases h : b13 with | false => rfl | true => exact absurd ((K13.out h).2.2.2.2.2.2.2.1) (by rw [hb]; decide)
          subst hb d6 e11 e13
          all_goals dsimp only
          refine wpOpIn_step rfl (fun K' hK => ?_)
          all_goals go_simp
          all_goals exact hK _ _ ⟨b0, b1, b2, b3, b4, b5, true, true, b8, b9, b10, false, b12, false, rfl, rfl, rfl, (fun h => by cases h), (fun h => by cases h)⟩
        · have hb : b8 = false := hun
          cases ho
          have d7 : b7 = true := hdeps ⟨7, Ground.data⟩ (by simp) rfl
          clear hun hdeps
          have e11 : b11 = false := by cases h : b11 with | false => rfl | true => exact absurd ((K11.out h).2.2.2.2.2.2.1) (by rw [hb]; decide)
          have e13 : b13 = false := by cases h : b13 with | false => rfl | true => exact absurd ((K13.out h).2.2.2.2.2.2.2.2.1) (by rw [hb]; decide)
          subst hb d7 e11 e13
          all_goals dsimp only
          refine wpOpIn_step rfl (fun K' hK => ?_)
          all_goals go_simp
          all_goals exact hK _ _ ⟨b0, b1, b2, b3, b4, b5, b6, true, true, b9, b10, false, b12, false, rfl, rfl, rfl, (fun h => by cases h), (fun h => by cases h)⟩
        · have hb : b9 = false := hun
          cases ho
          clear hun hdeps
          have e13 : b13 = false := by cases h : b13 with | false => rfl | true => exact absurd ((K13.out h).2.2.2.2.2.2.2.2.2.1) (by rw [hb]; decide)
          subst hb e13
          cases b11
          all_goals dsimp only
          all_goals refine wpOpIn_step rfl (fun K' hK => ?_)
          all_goals go_simp
          all_goals exact hK _ _ ⟨b0, b1, b2, b3, b4, b5, b6, b7, b8, true, b10, _, b12, false, rfl, rfl, rfl, K11.out, (fun h => by cases h)⟩
        · have hb : b10 = false := hun
          cases ho
          have d0 : b0 = true := hdeps ⟨0, Ground.data⟩ (by simp) rfl
          have d1 : b1 = true := hdeps ⟨1, Ground.data⟩ (by simp) rfl
          have d4 : b4 = true := hdeps ⟨4, Ground.phase⟩ (by simp) rfl
          have d5 : b5 = true := hdeps ⟨5, Ground.phase⟩ (by simp) rfl
          have d6 : b6 = true := hdeps ⟨6, Ground.phase⟩ (by simp) rfl
          have d7 : b7 = true := hdeps ⟨7, Ground.phase⟩ (by simp) rfl
          have d8 : b8 = true := hdeps ⟨8, Ground.phase⟩ (by simp) rfl
          clear hun hdeps
          have e11 : b11 = false := by cases h : b11 with | false => rfl | true => exact absurd ((K11.out h).2.2.2.2.2.2.2) (by rw [hb]; decide)
          have e13 : b13 = false := by cases h : b13 with | false => rfl | true => exact absurd ((K13.out h).2.2.2.2.2.2.2.2.2.2.1) (by rw [hb]; decide)
          subst hb d0 d1 d4 d5 d6 d7 d8 e11 e13
          all_goals dsimp only
          refine wpOpIn_step rfl (fun K' hK => ?_)
          all_goals go_simp
          all_goals exact hK _ _ ⟨true, true, b2, b3, true, true, true, true, true, b9, true, false, b12, false, rfl, rfl, rfl, (fun h => by cases h), (fun h => by cases h)⟩
        · have hb : b11 = false := hun
          cases ho
          have d10 : b10 = true := hdeps ⟨10, Ground.data⟩ (by simp) rfl
          have d8 : b8 = true := hdeps ⟨8, Ground.data⟩ (by simp) rfl
          have d0 : b0 = true := hdeps ⟨0, Ground.phase⟩ (by simp) rfl
          have d1 : b1 = true := hdeps ⟨1, Ground.phase⟩ (by simp) rfl
          have d4 : b4 = true := hdeps ⟨4, Ground.phase⟩ (by simp) rfl
          have d5 : b5 = true := hdeps ⟨5, Ground.phase⟩ (by simp) rfl
          have d6 : b6 = true := hdeps ⟨6, Ground.phase⟩ (by simp) rfl
          have d7 : b7 = true := hdeps ⟨7, Ground.phase⟩ (by simp) rfl
          clear hun hdeps
          have e13 : b13 = false := by cases h : b13 with | false => rfl | true => exact absurd ((K13.out h).2.2.2.2.2.2.2.2.2.2.2.1) (by rw [hb]; decide)
          subst hb d10 d8 d0 d1 d4 d5 d6 d7 e13
          all_goals dsimp only
          refine wpOpIn_step rfl (fun K' hK => ?_)
          all_goals go_simp
          all_goals exact hK _ _ ⟨true, true, b2, b3, true, true, true, true, true, b9, true, true, b12, false, rfl, rfl, rfl, (fun _ => ⟨rfl, rfl, rfl, rfl, rfl, rfl, rfl, rfl⟩), (fun h => by cases h)⟩
        · have hb : b12 = false := hun
          cases ho
          have d2 : b2 = true := hdeps ⟨2, Ground.data⟩ (by simp) rfl
          have d3 : b3 = true := hdeps ⟨3, Ground.data⟩ (by simp) rfl
          have d0 : b0 = true := hdeps ⟨0, Ground.phase⟩ (by simp) rfl
          have d1 : b1 = true := hdeps ⟨1, Ground.phase⟩ (by simp) rfl
          have d4 : b4 = true := hdeps ⟨4, Ground.phase⟩ (by simp) rfl
          have d5 : b5 = true := hdeps ⟨5, Ground.phase⟩ (by simp) rfl
          have d6 : b6 = true := hdeps ⟨6, Ground.phase⟩ (by simp) rfl
          have d7 : b7 = true := hdeps ⟨7, Ground.phase⟩ (by simp) rfl
          have d8 : b8 = true := hdeps ⟨8, Ground.phase⟩ (by simp) rfl
          have d9 : b9 = true := hdeps ⟨9, Ground.phase⟩ (by simp) rfl
          have d10 : b10 = true := hdeps ⟨10, Ground.phase⟩ (by simp) rfl
          have d11 : b11 = true := hdeps ⟨11, Ground.phase⟩ (by simp) rfl
          clear hun hdeps
          have e13 : b13 = false := by cases h : b13 with | false => rfl | true => exact absurd ((K13.out h).2.2.2.2.2.2.2.2.2.2.2.2) (by rw [hb]; decide)
          subst hb d2 d3 d0 d1 d4 d5 d6 d7 d8 d9 d10 d11 e13
          all_goals dsimp only
          refine wpOpIn_step rfl (fun K' hK => ?_)
          all_goals go_simp
          all_goals exact hK _ _ ⟨true, true, true, true, true, true, true, true, true, true, true, true, true, false, rfl, rfl, rfl, K11.out, (fun h => by cases h)⟩
        · have hb : b13 = false := hun
          cases ho
          have d12 : b12 = true := hdeps ⟨12, Ground.data⟩ (by simp) rfl
          have d9 : b9 = true := hdeps ⟨9, Ground.data⟩ (by simp) rfl
          have d11 : b11 = true := hdeps ⟨11, Ground.chain⟩ (by simp) rfl
          have d0 : b0 = true := hdeps ⟨0, Ground.phase⟩ (by simp) rfl
          have d1 : b1 = true := hdeps ⟨1, Ground.phase⟩ (by simp) rfl
          have d2 : b2 = true := hdeps ⟨2, Ground.phase⟩ (by simp) rfl
          have d3 : b3 = true := hdeps ⟨3, Ground.phase⟩ (by simp) rfl
          have d4 : b4 = true := hdeps ⟨4, Ground.phase⟩ (by simp) rfl
          have d5 : b5 = true := hdeps ⟨5, Ground.phase⟩ (by simp) rfl
          have d6 : b6 = true := hdeps ⟨6, Ground.phase⟩ (by simp) rfl
          have d7 : b7 = true := hdeps ⟨7, Ground.phase⟩ (by simp) rfl
          have d8 : b8 = true := hdeps ⟨8, Ground.phase⟩ (by simp) rfl
          have d10 : b10 = true := hdeps ⟨10, Ground.phase⟩ (by simp) rfl
          clear hun hdeps
          subst hb d12 d9 d11 d0 d1 d2 d3 d4 d5 d6 d7 d8 d10
          all_goals dsimp only
          refine wpOpIn_step rfl (fun K' hK => ?_)
          all_goals go_simp
          all_goals exact hK _ _ ⟨true, true, true, true, true, true, true, true, true, true, true, true, true, true, rfl, rfl, rfl, K11.out, (fun _ => ⟨rfl, rfl, rfl, rfl, rfl, rfl, rfl, rfl, rfl, rfl, rfl, rfl, rfl⟩)⟩
      case hdone =>
        rintro L a X ⟨b0, b1, b2, b3, b4, b5, b6, b7, b8, b9, b10, b11, b12, b13, rfl, rfl, rfl, -, -⟩ hr
        have t0 : b0 = true := ready_nil hr (i := 0) (by simp) (by intro o ho; cases ho; intro e he hbd; replace he : e ∈ #[] := he; simp at he)
        subst t0
        have t1 : b1 = true := ready_nil hr (i := 1) (by simp) (by intro o ho; cases ho; intro e he hbd; replace he : e ∈ #[] := he; simp at he)
        subst t1
        have t2 : b2 = true := ready_nil hr (i := 2) (by simp) (by intro o ho; cases ho; intro e he hbd; replace he : e ∈ #[⟨11, Ground.gcOnly Departure.lateStores⟩] := he; simp only [List.mem_toArray, List.mem_cons, List.not_mem_nil, or_false] at he; rcases he with rfl <;> first | rfl | exact absurd hbd (by decide))
        subst t2
        have t3 : b3 = true := ready_nil hr (i := 3) (by simp) (by intro o ho; cases ho; intro e he hbd; replace he : e ∈ #[⟨11, Ground.gcOnly Departure.lateStores⟩] := he; simp only [List.mem_toArray, List.mem_cons, List.not_mem_nil, or_false] at he; rcases he with rfl <;> first | rfl | exact absurd hbd (by decide))
        subst t3
        have t4 : b4 = true := ready_nil hr (i := 4) (by simp) (by intro o ho; cases ho; intro e he hbd; replace he : e ∈ #[] := he; simp at he)
        subst t4
        have t5 : b5 = true := ready_nil hr (i := 5) (by simp) (by intro o ho; cases ho; intro e he hbd; replace he : e ∈ #[] := he; simp at he)
        subst t5
        have t6 : b6 = true := ready_nil hr (i := 6) (by simp) (by intro o ho; cases ho; intro e he hbd; replace he : e ∈ #[⟨4, Ground.data⟩, ⟨5, Ground.data⟩] := he; simp only [List.mem_toArray, List.mem_cons, List.not_mem_nil, or_false] at he; rcases he with rfl | rfl <;> first | rfl | exact absurd hbd (by decide))
        subst t6
        have t7 : b7 = true := ready_nil hr (i := 7) (by simp) (by intro o ho; cases ho; intro e he hbd; replace he : e ∈ #[⟨6, Ground.data⟩] := he; simp only [List.mem_toArray, List.mem_cons, List.not_mem_nil, or_false] at he; rcases he with rfl <;> first | rfl | exact absurd hbd (by decide))
        subst t7
        have t8 : b8 = true := ready_nil hr (i := 8) (by simp) (by intro o ho; cases ho; intro e he hbd; replace he : e ∈ #[⟨7, Ground.data⟩] := he; simp only [List.mem_toArray, List.mem_cons, List.not_mem_nil, or_false] at he; rcases he with rfl <;> first | rfl | exact absurd hbd (by decide))
        subst t8
        have t9 : b9 = true := ready_nil hr (i := 9) (by simp) (by intro o ho; cases ho; intro e he hbd; replace he : e ∈ #[⟨11, Ground.gcOnly Departure.lateStores⟩] := he; simp only [List.mem_toArray, List.mem_cons, List.not_mem_nil, or_false] at he; rcases he with rfl <;> first | rfl | exact absurd hbd (by decide))
        subst t9
        have t10 : b10 = true := ready_nil hr (i := 10) (by simp) (by intro o ho; cases ho; intro e he hbd; replace he : e ∈ #[⟨0, Ground.data⟩, ⟨1, Ground.data⟩, ⟨0, Ground.phase⟩, ⟨1, Ground.phase⟩, ⟨2, Ground.textOnly Departure.lateStores⟩, ⟨3, Ground.textOnly Departure.lateStores⟩, ⟨4, Ground.phase⟩, ⟨5, Ground.phase⟩, ⟨6, Ground.phase⟩, ⟨7, Ground.phase⟩, ⟨8, Ground.phase⟩, ⟨9, Ground.textOnly Departure.lateStores⟩] := he; simp only [List.mem_toArray, List.mem_cons, List.not_mem_nil, or_false] at he; rcases he with rfl | rfl | rfl | rfl | rfl | rfl | rfl | rfl | rfl | rfl | rfl | rfl <;> first | rfl | exact absurd hbd (by decide))
        subst t10
        have t11 : b11 = true := ready_nil hr (i := 11) (by simp) (by intro o ho; cases ho; intro e he hbd; replace he : e ∈ #[⟨10, Ground.data⟩, ⟨8, Ground.data⟩, ⟨0, Ground.phase⟩, ⟨1, Ground.phase⟩, ⟨2, Ground.textOnly Departure.lateStores⟩, ⟨3, Ground.textOnly Departure.lateStores⟩, ⟨4, Ground.phase⟩, ⟨5, Ground.phase⟩, ⟨6, Ground.phase⟩, ⟨7, Ground.phase⟩, ⟨8, Ground.phase⟩, ⟨9, Ground.textOnly Departure.lateStores⟩] := he; simp only [List.mem_toArray, List.mem_cons, List.not_mem_nil, or_false] at he; rcases he with rfl | rfl | rfl | rfl | rfl | rfl | rfl | rfl | rfl | rfl | rfl | rfl <;> first | rfl | exact absurd hbd (by decide))
        subst t11
        have t12 : b12 = true := ready_nil hr (i := 12) (by simp) (by intro o ho; cases ho; intro e he hbd; replace he : e ∈ #[⟨2, Ground.data⟩, ⟨3, Ground.data⟩, ⟨0, Ground.phase⟩, ⟨1, Ground.phase⟩, ⟨2, Ground.phase⟩, ⟨3, Ground.phase⟩, ⟨4, Ground.phase⟩, ⟨5, Ground.phase⟩, ⟨6, Ground.phase⟩, ⟨7, Ground.phase⟩, ⟨8, Ground.phase⟩, ⟨9, Ground.phase⟩, ⟨10, Ground.phase⟩, ⟨11, Ground.phase⟩] := he; simp only [List.mem_toArray, List.mem_cons, List.not_mem_nil, or_false] at he; rcases he with rfl | rfl | rfl | rfl | rfl | rfl | rfl | rfl | rfl | rfl | rfl | rfl | rfl | rfl <;> first | rfl | exact absurd hbd (by decide))
        subst t12
        have t13 : b13 = true := ready_nil hr (i := 13) (by simp) (by intro o ho; cases ho; intro e he hbd; replace he : e ∈ #[⟨12, Ground.data⟩, ⟨9, Ground.data⟩, ⟨11, Ground.chain⟩, ⟨0, Ground.phase⟩, ⟨1, Ground.phase⟩, ⟨2, Ground.phase⟩, ⟨3, Ground.phase⟩, ⟨4, Ground.phase⟩, ⟨5, Ground.phase⟩, ⟨6, Ground.phase⟩, ⟨7, Ground.phase⟩, ⟨8, Ground.phase⟩, ⟨9, Ground.phase⟩, ⟨10, Ground.phase⟩, ⟨11, Ground.phase⟩] := he; simp only [List.mem_toArray, List.mem_cons, List.not_mem_nil, or_false] at he; rcases he with rfl | rfl | rfl | rfl | rfl | rfl | rfl | rfl | rfl | rfl | rfl | rfl | rfl | rfl | rfl <;> first | rfl | exact absurd hbd (by decide))
        subst t13
        exact ⟨rfl, rfl⟩
      case hfin =>
        clear c3 c4 c41 c6 ck ck1 ck2 fk1 fk2 c61 ef hb61
        have hS3 := hS2.congr (fn' := tell (fun j => (fewAt s.data.toList j).1) k c) (fb' := tell (fun j => (fewAt s.data.toList j).2) k k) (fun i _ => told_tell _ _ _ _) (fun i _ => told_tell _ _ _ _)
        have hb2 : Boxed W2 W.heap.size 3 (.int .i64 ((k : Int) + 1)) := by
          show W2.heap[W.heap.size]? = _
          rw [← hW2, ← hW1, Below.heap_setCell _ _ _ _ (by show W.heap.size ≠ w.heap.size + 1 + 1; omega), Below.heap_setCell _ _ _ _ (by show W.heap.size ≠ w.heap.size; omega)]; exact hb6
        have hz2 : W2.heap.size = W.heap.size + 1 := by rw [← hW2, ← hW1, ← HW0]; simp
        have hsame2 : ∀ D, W.heap[D]? = some (Obj.deferred (some [])) → W2.heap[D]? = some (Obj.deferred (some [])) := fun D hD => by
          have h1 := (Array.getElem?_eq_some_iff.1 hD).1
          rw [← hW2, ← hW1, ← HW0]
          exact (((KeepsOthers.alloc W (.cells #[.int .i64 ((k : Int) + 1)] 3)).trans (KeepsOthers.drew _)).trans ((KeepsOthers.setCell _ ⟨w.heap.size, k + 1, none⟩ (.int .i64 c)).trans (KeepsOthers.setCell _ ⟨w.heap.size + 1 + 1, k + 1, none⟩ (.int .i64 k)))).same D _ hD rfl
        clear hS1 hS2 hSa hSb hb6 hW1 hW2 HW0
        have cb2 := hb2.cell
        gi_wp2_with (refine ⟨trivial, ?_⟩; gi_at_call 64; refine (lastParts_in _ s (k + 1) _).mono ?_; rintro e w' ⟨rfl, rfl⟩)
        have bw := (Boxed.new W2 9 (.string s)).alloc (.cells #[.int .i64 ((k : Int) + 1)] 3)
        have be := Boxed.new (W2.alloc (.cells #[.string s] 9)) 3 (.int .i64 ((k : Int) + 1))
        have bt := (hb2.alloc (.cells #[.string s] 9)).alloc (.cells #[.int .i64 ((k : Int) + 1)] 3)
        simp only [World.size_alloc, hz2] at bw be
        have hS4 := (hS3.kept (World.grownBy_alloc W2 (.cells #[.string s] 9) none) (fun _ e => by cases e)).kept (World.grownBy_alloc _ (.cells #[.int .i64 ((k : Int) + 1)] 3) none) (fun _ e => by cases e)
        have hdlt := hS.dlt
        refine wpIn_rangeFunc_ownF rfl (by omega) (gf := 79) (lb := #[.pointer (some ⟨W.heap.size + 1 + 1, 0, none⟩), .pointer (some ⟨W.heap.size + 1, 0, none⟩)]) rfl trivial (enters_of Try.func79 (by kernel_rfl) rfl)
          (last_stops (6 - 1) (by omega) s hs (k + 1) hlt (W.heap.size + 1 + 1) (W.heap.size + 1) _ (by simp [hz2]) (by simp [hz2] <;> omega) be.cell bw.cell) (fun h k => kept2_t h k) (kept2_b (by simp [hz2]) (by simp [hz2] <;> omega)) (Below.refl _ _) (fun _ => rfl)
          (fun pre X => FSt W.heap.size w X N Ds (tell (fun j => (fewAt s.data.toList j).1) k (fewAcc s.data.toList k pre).1) (tell (fun j => (fewAt s.data.toList j).2) k (fewAcc s.data.toList k pre).2) ∧ Boxed X W.heap.size 3 (.int .i64 ((k : Int) + 1)))
          (fun _ _ _ => False)
          ?hI ?hIx ⟨by simpa [fewAcc, hf, hc1] using hS4, bt⟩
          (fun x => { tmps := #[.string s, undef, .slice none 0 0, .pointer (some ⟨w.heap.size + 1, 0, none⟩), .pointer (some ⟨w.heap.size + 1 + 1 + 1, 0, none⟩), .int .i64 k, .pointer (some ⟨W.heap.size, 0, none⟩), .int .i64 x.1, .string s, .int .i64 s.size, .int .i64 N, .slice (some ⟨w.heap.size, 0, none⟩) N N, .string s, .int .i64 s.size, .int .i64 N, .slice (some ⟨w.heap.size + 1 + 1, 0, none⟩) N N, .string s, .int .i64 s.size, .int .i64 k, .bool true, .int .i64 k, .int .i64 k, .int .i64 ((k : Int) + 1), .slice (some ⟨w.heap.size, 0, none⟩) N N, .int .i64 ((k : Int) + 1), .slice (some ⟨w.heap.size + 1 + 1, 0, none⟩) N N, .int .i64 ((k : Int) + 1), .slice (some ⟨w.heap.size, 0, none⟩) N N, .int .i64 k, .pointer (some ⟨w.heap.size, k, none⟩), .int .i64 f, .int .i64 c, .int .i64 k, .pointer (some ⟨w.heap.size, k + 1, none⟩), .pointer (some ⟨w.heap.size + 1 + 1, k + 1, none⟩), .string s, .int .i64 ((k : Int) + 1), .func (.func 79) #[] #[.pointer (some ⟨W.heap.size + 1 + 1, 0, none⟩), .pointer (some ⟨W.heap.size + 1, 0, none⟩)], .int .i64 x.1, u39, u40, u41, u42, u43, u44, u45, u46, u47, u48, u49, u50, u51, u52, u53, u54, u55, u56, u57, u58, u59, u60, u61, undef], defers := [] }) ?assign ?body ?done ?stop
        case hI =>
          exact fun pre X Y row h hg hr => ⟨h.1.kept hg (fun r e => by have := (hr r e).1; simp [hz2] at this; omega), h.2.kept hg (fun e => by have := (hr _ e.symm).1; simp [hz2] at this; omega)⟩
        case hIx => exact fun _ _ _ _ _ h _ _ => h
        case assign =>
          intro l' x X K hK
          gi_wp2
          exact hK
        case body =>
          rintro l' pre x X ⟨hX, hXb⟩ _
          obtain ⟨a1, ha1⟩ : ∃ a1, (fewAcc s.data.toList k pre).1 = a1 := ⟨_, rfl⟩
          obtain ⟨a2, ha2⟩ : ∃ a2, (fewAcc s.data.toList k pre).2 = a2 := ⟨_, rfl⟩
          obtain ⟨g, hg⟩ : ∃ g, (fewAt s.data.toList x.1).1 = g := ⟨_, rfl⟩
          obtain ⟨d, hd⟩ : ∃ d, g + 1 = d := ⟨_, rfl⟩
          have hgl := fewAt_le s.data.toList x.1
          have hx2 := x.2
          rw [hg] at hgl
          have ed : IntKind.i64.wrap ((g : Int) + 1) = d := by rw [IntWalk.i64_in _ (by omega)]; omega
          rw [ha1, ha2] at hX
          have hsn : fewAcc s.data.toList k (pre ++ [x]) = if d < a1 then (d, x.1) else (a1, a2) := by
            rw [fewAcc_snoc, fewStep, hg, hd, ha1, ← ha2, ← ha1]
          have hX0' := hX.kept (drew_grown (row := none)) (fun _ e => by cases e)
          have hXb0' := hXb.kept (drew_grown (row := none)) (by simp)
          obtain ⟨X0, HX0⟩ : ∃ X0, X.drew = X0 := ⟨_, rfl⟩
          rw [HX0] at hX0' hXb0'
          have c3 := hX0'.bn.cell
          have c6 := hXb0'.cell
          have cx := hX0'.rn.cell (i := x.1) (by have := HN.out; omega)
          have ck1 := hX0'.rn.cell (i := k + 1) (by have := HN.out; omega)
          have zx : (x.1 : Int) < N := by have := HN.out; omega
          simp only [tell, if_neg (show ¬ x.1 = k + 1 from by omega), if_pos (show x.1 ≤ k from by omega), hg] at cx
          simp only [tell, if_pos] at ck1
          have hpk := pk_true
          have Hg := Lib.hid hg
          dsimp only
          by_cases hlt2 : d < a1
          · have hlz : (d : Int) < a1 := by omega
            rw [if_pos hlt2] at hsn
            have Hsn := Lib.hid hsn
            clear hsn ha1 ha2 hg hd
            gi_wp2
            refine region_inv' hmx (fun L a X => ∃ b0 b1 b2 b3 b4 b5 b6 b7 b8 b9 : Bool, L = #[b0, b1, b2, b3, b4, b5, b6, b7, b8, b9] ∧ a = { tmps := #[.string s, undef, .slice none 0 0, .pointer (some ⟨w.heap.size + 1, 0, none⟩), .pointer (some ⟨w.heap.size + 1 + 1 + 1, 0, none⟩), .int .i64 k, .pointer (some ⟨W.heap.size, 0, none⟩), .int .i64 x.1, .string s, .int .i64 s.size, .int .i64 N, .slice (some ⟨w.heap.size, 0, none⟩) N N, .string s, .int .i64 s.size, .int .i64 N, .slice (some ⟨w.heap.size + 1 + 1, 0, none⟩) N N, .string s, .int .i64 s.size, .int .i64 k, .bool true, .int .i64 k, .int .i64 k, .int .i64 ((k : Int) + 1), .slice (some ⟨w.heap.size, 0, none⟩) N N, .int .i64 ((k : Int) + 1), .slice (some ⟨w.heap.size + 1 + 1, 0, none⟩) N N, .int .i64 ((k : Int) + 1), .slice (some ⟨w.heap.size, 0, none⟩) N N, .int .i64 k, .pointer (some ⟨w.heap.size, k, none⟩), .int .i64 f, .int .i64 c, .int .i64 k, .pointer (some ⟨w.heap.size, k + 1, none⟩), .pointer (some ⟨w.heap.size + 1 + 1, k + 1, none⟩), .string s, .int .i64 ((k : Int) + 1), .func (.func 79) #[] #[.pointer (some ⟨W.heap.size + 1 + 1, 0, none⟩), .pointer (some ⟨W.heap.size + 1, 0, none⟩)], .int .i64 x.1, pk b0 (.slice (some ⟨w.heap.size, 0, none⟩) N N) (u39), pk b1 (.int .i64 x.1) (u40), pk b2 (.pointer (some ⟨w.heap.size, x.1, none⟩)) (u41), pk b3 (.int .i64 g) (u42), pk b4 (.int .i64 d) (u43), pk b5 (.slice (some ⟨w.heap.size, 0, none⟩) N N) (u44), pk b6 (.int .i64 ((k : Int) + 1)) (u45), pk b7 (.pointer (some ⟨w.heap.size, k + 1, none⟩)) (u46), pk b8 (.int .i64 a1) (u47), pk b9 (.bool true) (u48), u49, u50, u51, u52, u53, u54, u55, u56, u57, u58, u59, u60, u61, undef], defers := [] } ∧ X = X0 ∧ True) { tmps := #[.string s, undef, .slice none 0 0, .pointer (some ⟨w.heap.size + 1, 0, none⟩), .pointer (some ⟨w.heap.size + 1 + 1 + 1, 0, none⟩), .int .i64 k, .pointer (some ⟨W.heap.size, 0, none⟩), .int .i64 x.1, .string s, .int .i64 s.size, .int .i64 N, .slice (some ⟨w.heap.size, 0, none⟩) N N, .string s, .int .i64 s.size, .int .i64 N, .slice (some ⟨w.heap.size + 1 + 1, 0, none⟩) N N, .string s, .int .i64 s.size, .int .i64 k, .bool true, .int .i64 k, .int .i64 k, .int .i64 ((k : Int) + 1), .slice (some ⟨w.heap.size, 0, none⟩) N N, .int .i64 ((k : Int) + 1), .slice (some ⟨w.heap.size + 1 + 1, 0, none⟩) N N, .int .i64 ((k : Int) + 1), .slice (some ⟨w.heap.size, 0, none⟩) N N, .int .i64 k, .pointer (some ⟨w.heap.size, k, none⟩), .int .i64 f, .int .i64 c, .int .i64 k, .pointer (some ⟨w.heap.size, k + 1, none⟩), .pointer (some ⟨w.heap.size + 1 + 1, k + 1, none⟩), .string s, .int .i64 ((k : Int) + 1), .func (.func 79) #[] #[.pointer (some ⟨W.heap.size + 1 + 1, 0, none⟩), .pointer (some ⟨W.heap.size + 1, 0, none⟩)], .int .i64 x.1, .slice (some ⟨w.heap.size, 0, none⟩) N N, .int .i64 x.1, .pointer (some ⟨w.heap.size, x.1, none⟩), .int .i64 g, .int .i64 d, .slice (some ⟨w.heap.size, 0, none⟩) N N, .int .i64 ((k : Int) + 1), .pointer (some ⟨w.heap.size, k + 1, none⟩), .int .i64 a1, .bool true, u49, u50, u51, u52, u53, u54, u55, u56, u57, u58, u59, u60, u61, undef], defers := [] } X0 ?h0 ?hstep ?hdone ?hfin
            case h0 => exact ⟨false, false, false, false, false, false, false, false, false, false, rfl, rfl, HX0, trivial⟩
            case hstep =>
              rintro Q L a X ⟨b0, b1, b2, b3, b4, b5, b6, b7, b8, b9, rfl, rfl, rfl, _⟩ i hi
              obtain ⟨hun, o, ho, hdeps⟩ := mem_ready.1 hi
              clear hi
              have hi : i < 10 := (Array.getElem?_eq_some_iff.1 ho).1
              have hor : i = 0 ∨ i = 1 ∨ i = 2 ∨ i = 3 ∨ i = 4 ∨ i = 5 ∨ i = 6 ∨ i = 7 ∨ i = 8 ∨ i = 9 := by omega
              clear hi
              rcases hor with rfl | rfl | rfl | rfl | rfl | rfl | rfl | rfl | rfl | rfl
              · have hb : b0 = false := hun
                cases ho
                clear hun hdeps
                subst hb
                all_goals dsimp only
                refine wpOpIn_step rfl (fun K' hK => ?_)
                all_goals go_simp
                all_goals exact hK _ _ ⟨true, b1, b2, b3, b4, b5, b6, b7, b8, b9, rfl, rfl, rfl, trivial⟩
              · have hb : b1 = false := hun
                cases ho
                clear hun hdeps
                subst hb
                all_goals dsimp only
                refine wpOpIn_step rfl (fun K' hK => ?_)
                all_goals go_simp
                all_goals exact hK _ _ ⟨b0, true, b2, b3, b4, b5, b6, b7, b8, b9, rfl, rfl, rfl, trivial⟩
              · have hb : b2 = false := hun
                cases ho
                have d0 : b0 = true := hdeps ⟨0, Ground.data⟩ (by simp) rfl
                have d1 : b1 = true := hdeps ⟨1, Ground.data⟩ (by simp) rfl
                clear hun hdeps
                subst hb d0 d1
                all_goals dsimp only
                refine wpOpIn_step rfl (fun K' hK => ?_)
                all_goals go_simp
                all_goals exact hK _ _ ⟨true, true, true, b3, b4, b5, b6, b7, b8, b9, rfl, rfl, rfl, trivial⟩
              · have hb : b3 = false := hun
                cases ho
                have d2 : b2 = true := hdeps ⟨2, Ground.data⟩ (by simp) rfl
                clear hun hdeps
                subst hb d2
                all_goals dsimp only
                refine wpOpIn_step rfl (fun K' hK => ?_)
                all_goals go_simp
                all_goals exact hK _ _ ⟨b0, b1, true, true, b4, b5, b6, b7, b8, b9, rfl, rfl, rfl, trivial⟩
              · have hb : b4 = false := hun
                cases ho
                have d3 : b3 = true := hdeps ⟨3, Ground.data⟩ (by simp) rfl
                clear hun hdeps
                subst hb d3
                all_goals dsimp only
                refine wpOpIn_step rfl (fun K' hK => ?_)
                all_goals go_simp
                all_goals exact hK _ _ ⟨b0, b1, b2, true, true, b5, b6, b7, b8, b9, rfl, rfl, rfl, trivial⟩
              · have hb : b5 = false := hun
                cases ho
                clear hun hdeps
                subst hb
                all_goals dsimp only
                refine wpOpIn_step rfl (fun K' hK => ?_)
                all_goals go_simp
                all_goals exact hK _ _ ⟨b0, b1, b2, b3, b4, true, b6, b7, b8, b9, rfl, rfl, rfl, trivial⟩
              · have hb : b6 = false := hun
                cases ho
                clear hun hdeps
                subst hb
                all_goals dsimp only
                refine wpOpIn_step rfl (fun K' hK => ?_)
                all_goals go_simp
                all_goals exact hK _ _ ⟨b0, b1, b2, b3, b4, b5, true, b7, b8, b9, rfl, rfl, rfl, trivial⟩
              · have hb : b7 = false := hun
                cases ho
                have d5 : b5 = true := hdeps ⟨5, Ground.data⟩ (by simp) rfl
                have d6 : b6 = true := hdeps ⟨6, Ground.data⟩ (by simp) rfl
                clear hun hdeps
                subst hb d5 d6
                all_goals dsimp only
                refine wpOpIn_step rfl (fun K' hK => ?_)
                all_goals go_simp
                all_goals exact hK _ _ ⟨b0, b1, b2, b3, b4, true, true, true, b8, b9, rfl, rfl, rfl, trivial⟩
              · have hb : b8 = false := hun
                cases ho
                have d7 : b7 = true := hdeps ⟨7, Ground.data⟩ (by simp) rfl
                clear hun hdeps
                subst hb d7
                all_goals dsimp only
                refine wpOpIn_step rfl (fun K' hK => ?_)
                all_goals go_simp
                all_goals exact hK _ _ ⟨b0, b1, b2, b3, b4, b5, b6, true, true, b9, rfl, rfl, rfl, trivial⟩
              · have hb : b9 = false := hun
                cases ho
                have d4 : b4 = true := hdeps ⟨4, Ground.data⟩ (by simp) rfl
                have d8 : b8 = true := hdeps ⟨8, Ground.data⟩ (by simp) rfl
                clear hun hdeps
                subst hb d4 d8
                all_goals dsimp only
                refine wpOpIn_step rfl (fun K' hK => ?_)
                all_goals go_simp
                all_goals exact hK _ _ ⟨b0, b1, b2, b3, true, b5, b6, b7, true, true, rfl, rfl, rfl, trivial⟩
            case hdone =>
              rintro L a X ⟨b0, b1, b2, b3, b4, b5, b6, b7, b8, b9, rfl, rfl, rfl, _⟩ hr
              have t0 : b0 = true := ready_nil hr (i := 0) (by simp) (by intro o ho; cases ho; intro e he hbd; replace he : e ∈ #[] := he; simp at he)
              subst t0
              have t1 : b1 = true := ready_nil hr (i := 1) (by simp) (by intro o ho; cases ho; intro e he hbd; replace he : e ∈ #[] := he; simp at he)
              subst t1
              have t2 : b2 = true := ready_nil hr (i := 2) (by simp) (by intro o ho; cases ho; intro e he hbd; replace he : e ∈ #[⟨0, Ground.data⟩, ⟨1, Ground.data⟩] := he; simp only [List.mem_toArray, List.mem_cons, List.not_mem_nil, or_false] at he; rcases he with rfl | rfl <;> first | rfl | exact absurd hbd (by decide))
              subst t2
              have t3 : b3 = true := ready_nil hr (i := 3) (by simp) (by intro o ho; cases ho; intro e he hbd; replace he : e ∈ #[⟨2, Ground.data⟩] := he; simp only [List.mem_toArray, List.mem_cons, List.not_mem_nil, or_false] at he; rcases he with rfl <;> first | rfl | exact absurd hbd (by decide))
              subst t3
              have t4 : b4 = true := ready_nil hr (i := 4) (by simp) (by intro o ho; cases ho; intro e he hbd; replace he : e ∈ #[⟨3, Ground.data⟩] := he; simp only [List.mem_toArray, List.mem_cons, List.not_mem_nil, or_false] at he; rcases he with rfl <;> first | rfl | exact absurd hbd (by decide))
              subst t4
              have t5 : b5 = true := ready_nil hr (i := 5) (by simp) (by intro o ho; cases ho; intro e he hbd; replace he : e ∈ #[] := he; simp at he)
              subst t5
              have t6 : b6 = true := ready_nil hr (i := 6) (by simp) (by intro o ho; cases ho; intro e he hbd; replace he : e ∈ #[] := he; simp at he)
              subst t6
              have t7 : b7 = true := ready_nil hr (i := 7) (by simp) (by intro o ho; cases ho; intro e he hbd; replace he : e ∈ #[⟨5, Ground.data⟩, ⟨6, Ground.data⟩] := he; simp only [List.mem_toArray, List.mem_cons, List.not_mem_nil, or_false] at he; rcases he with rfl | rfl <;> first | rfl | exact absurd hbd (by decide))
              subst t7
              have t8 : b8 = true := ready_nil hr (i := 8) (by simp) (by intro o ho; cases ho; intro e he hbd; replace he : e ∈ #[⟨7, Ground.data⟩] := he; simp only [List.mem_toArray, List.mem_cons, List.not_mem_nil, or_false] at he; rcases he with rfl <;> first | rfl | exact absurd hbd (by decide))
              subst t8
              have t9 : b9 = true := ready_nil hr (i := 9) (by simp) (by intro o ho; cases ho; intro e he hbd; replace he : e ∈ #[⟨4, Ground.data⟩, ⟨8, Ground.data⟩] := he; simp only [List.mem_toArray, List.mem_cons, List.not_mem_nil, or_false] at he; rcases he with rfl | rfl <;> first | rfl | exact absurd hbd (by decide))
              subst t9
              exact ⟨rfl, rfl⟩
            case hfin =>
              have hX1' := hX0'.kept (drew_grown (row := none)) (fun _ e => by cases e)
              have hXb1' := hXb0'.kept (drew_grown (row := none)) (by simp)
              gi_wp2
              obtain ⟨X1, HX1⟩ : ∃ X1, X0.drew = X1 := ⟨_, rfl⟩
              rw [HX1] at hX1' hXb1'
              have hX2' := hX1'.set1 (k + 1) (.int .i64 d)
              have hX3' := hX2'.set2 (k + 1) (.int .i64 x.1)
              obtain ⟨X2, hX2⟩ : ∃ X2, X1.setCell ⟨w.heap.size, k + 1, none⟩ (.int .i64 d) = X2 := ⟨_, rfl⟩
              rw [hX2] at hX2' hX3'
              obtain ⟨X3, hX3⟩ : ∃ X3, X2.setCell ⟨w.heap.size + 1 + 1, k + 1, none⟩ (.int .i64 x.1) = X3 := ⟨_, rfl⟩
              rw [hX3] at hX3'
              have c3 := hX1'.bn.cell
              have c4 := hX1'.bb.cell
              have c41 := hX2'.bb.cell
              have c6 := hXb1'.cell
              have c61 : X2.cell? ⟨W.heap.size, 0, none⟩ = some (.int .i64 ((k : Int) + 1)) := by
                rw [← hX2, World.cell?_setCell_other _ _ _ _ (fun e => by have := congrArg Addr.block e; simp at this; omega)]; exact c6
              have cx := hX1'.rn.cell (i := x.1) (by have := HN.out; omega)
              have ck1 := hX1'.rn.cell (i := k + 1) (by have := HN.out; omega)
              have ck2 := hX2'.rb.cell (i := k + 1) (by have := HN.out; omega)
              have fk1 := hX1'.rn.frozen (k + 1)
              have fk2 := hX2'.rb.frozen (k + 1)
              simp only [tell, if_neg (show ¬ x.1 = k + 1 from by omega), if_pos (show x.1 ≤ k from by omega), Hg.out] at cx
              refine region_inv' hmx (fun L a X => ∃ b0 b1 b2 b3 b4 b5 b6 b7 b8 b9 b10 b11 b12 b13 : Bool, L = #[b0, b1, b2, b3, b4, b5, b6, b7, b8, b9, b10, b11, b12, b13] ∧ a = { tmps := #[.string s, undef, .slice none 0 0, .pointer (some ⟨w.heap.size + 1, 0, none⟩), .pointer (some ⟨w.heap.size + 1 + 1 + 1, 0, none⟩), .int .i64 k, .pointer (some ⟨W.heap.size, 0, none⟩), .int .i64 x.1, .string s, .int .i64 s.size, .int .i64 N, .slice (some ⟨w.heap.size, 0, none⟩) N N, .string s, .int .i64 s.size, .int .i64 N, .slice (some ⟨w.heap.size + 1 + 1, 0, none⟩) N N, .string s, .int .i64 s.size, .int .i64 k, .bool true, .int .i64 k, .int .i64 k, .int .i64 ((k : Int) + 1), .slice (some ⟨w.heap.size, 0, none⟩) N N, .int .i64 ((k : Int) + 1), .slice (some ⟨w.heap.size + 1 + 1, 0, none⟩) N N, .int .i64 ((k : Int) + 1), .slice (some ⟨w.heap.size, 0, none⟩) N N, .int .i64 k, .pointer (some ⟨w.heap.size, k, none⟩), .int .i64 f, .int .i64 c, .int .i64 k, .pointer (some ⟨w.heap.size, k + 1, none⟩), .pointer (some ⟨w.heap.size + 1 + 1, k + 1, none⟩), .string s, .int .i64 ((k : Int) + 1), .func (.func 79) #[] #[.pointer (some ⟨W.heap.size + 1 + 1, 0, none⟩), .pointer (some ⟨W.heap.size + 1, 0, none⟩)], .int .i64 x.1, .slice (some ⟨w.heap.size, 0, none⟩) N N, .int .i64 x.1, .pointer (some ⟨w.heap.size, x.1, none⟩), .int .i64 g, .int .i64 d, .slice (some ⟨w.heap.size, 0, none⟩) N N, .int .i64 ((k : Int) + 1), .pointer (some ⟨w.heap.size, k + 1, none⟩), .int .i64 a1, .bool true, pk b0 (.slice (some ⟨w.heap.size, 0, none⟩) N N) (u49), pk b1 (.int .i64 ((k : Int) + 1)) (u50), pk b2 (.slice (some ⟨w.heap.size + 1 + 1, 0, none⟩) N N) (u51), pk b3 (.int .i64 ((k : Int) + 1)) (u52), pk b4 (.slice (some ⟨w.heap.size, 0, none⟩) N N) (u53), pk b5 (.int .i64 x.1) (u54), pk b6 (.pointer (some ⟨w.heap.size, x.1, none⟩)) (u55), pk b7 (.int .i64 g) (u56), pk b8 (.int .i64 d) (u57), pk b9 (.int .i64 x.1) (u58), pk b10 (.pointer (some ⟨w.heap.size, k + 1, none⟩)) (u59), pk b12 (.pointer (some ⟨w.heap.size + 1 + 1, k + 1, none⟩)) (u60), u61, undef], defers := [] } ∧ X = (bif b13 then X3 else bif b11 then X2 else X1) ∧ (b11 = true → b0 = true ∧ b1 = true ∧ b4 = true ∧ b5 = true ∧ b6 = true ∧ b7 = true ∧ b8 = true ∧ b10 = true) ∧ (b13 = true → b0 = true ∧ b1 = true ∧ b2 = true ∧ b3 = true ∧ b4 = true ∧ b5 = true ∧ b6 = true ∧ b7 = true ∧ b8 = true ∧ b9 = true ∧ b10 = true ∧ b11 = true ∧ b12 = true)) { tmps := #[.string s, undef, .slice none 0 0, .pointer (some ⟨w.heap.size + 1, 0, none⟩), .pointer (some ⟨w.heap.size + 1 + 1 + 1, 0, none⟩), .int .i64 k, .pointer (some ⟨W.heap.size, 0, none⟩), .int .i64 x.1, .string s, .int .i64 s.size, .int .i64 N, .slice (some ⟨w.heap.size, 0, none⟩) N N, .string s, .int .i64 s.size, .int .i64 N, .slice (some ⟨w.heap.size + 1 + 1, 0, none⟩) N N, .string s, .int .i64 s.size, .int .i64 k, .bool true, .int .i64 k, .int .i64 k, .int .i64 ((k : Int) + 1), .slice (some ⟨w.heap.size, 0, none⟩) N N, .int .i64 ((k : Int) + 1), .slice (some ⟨w.heap.size + 1 + 1, 0, none⟩) N N, .int .i64 ((k : Int) + 1), .slice (some ⟨w.heap.size, 0, none⟩) N N, .int .i64 k, .pointer (some ⟨w.heap.size, k, none⟩), .int .i64 f, .int .i64 c, .int .i64 k, .pointer (some ⟨w.heap.size, k + 1, none⟩), .pointer (some ⟨w.heap.size + 1 + 1, k + 1, none⟩), .string s, .int .i64 ((k : Int) + 1), .func (.func 79) #[] #[.pointer (some ⟨W.heap.size + 1 + 1, 0, none⟩), .pointer (some ⟨W.heap.size + 1, 0, none⟩)], .int .i64 x.1, .slice (some ⟨w.heap.size, 0, none⟩) N N, .int .i64 x.1, .pointer (some ⟨w.heap.size, x.1, none⟩), .int .i64 g, .int .i64 d, .slice (some ⟨w.heap.size, 0, none⟩) N N, .int .i64 ((k : Int) + 1), .pointer (some ⟨w.heap.size, k + 1, none⟩), .int .i64 a1, .bool true, .slice (some ⟨w.heap.size, 0, none⟩) N N, .int .i64 ((k : Int) + 1), .slice (some ⟨w.heap.size + 1 + 1, 0, none⟩) N N, .int .i64 ((k : Int) + 1), .slice (some ⟨w.heap.size, 0, none⟩) N N, .int .i64 x.1, .pointer (some ⟨w.heap.size, x.1, none⟩), .int .i64 g, .int .i64 d, .int .i64 x.1, .pointer (some ⟨w.heap.size, k + 1, none⟩), .pointer (some ⟨w.heap.size + 1 + 1, k + 1, none⟩), u61, undef], defers := [] } X3 ?h0 ?hstep ?hdone ?hfin
              case h0 => exact ⟨false, false, false, false, false, false, false, false, false, false, false, false, false, false, rfl, rfl, HX1, (fun h => by cases h), (fun h => by cases h)⟩
              case hstep =>
                rintro Q L a X ⟨b0, b1, b2, b3, b4, b5, b6, b7, b8, b9, b10, b11, b12, b13, rfl, rfl, rfl, k11, k13⟩ i hi
                have K11 := Lib.hid k11
                have K13 := Lib.hid k13
                clear k11 k13
                obtain ⟨hun, o, ho, hdeps⟩ := mem_ready.1 hi
                clear hi
                have hi : i < 14 := (Array.getElem?_eq_some_iff.1 ho).1
                have hor : i = 0 ∨ i = 1 ∨ i = 2 ∨ i = 3 ∨ i = 4 ∨ i = 5 ∨ i = 6 ∨ i = 7 ∨ i = 8 ∨ i = 9 ∨ i = 10 ∨ i = 11 ∨ i = 12 ∨ i = 13 := by omega
                clear hi
                rcases hor with rfl | rfl | rfl | rfl | rfl | rfl | rfl | rfl | rfl | rfl | rfl | rfl | rfl | rfl
                · have hb : b0 = false := hun
                  cases ho
                  clear hun hdeps
                  have e11 : b11 = false := by cases h : b11 with | false => rfl | true => exact absurd ((K11.out h).1) (by rw [hb]; decide)
                  have e13 : b13 = false := by cases h : b13 with | false => rfl | true => exact absurd ((K13.out h).1) (by rw [hb]; decide)
                  subst hb e11 e13
                  all_goals dsimp only
                  refine wpOpIn_step rfl (fun K' hK => ?_)
                  all_goals go_simp
                  all_goals exact hK _ _ ⟨true, b1, b2, b3, b4, b5, b6, b7, b8, b9, b10, false, b12, false, rfl, rfl, rfl, (fun h => by cases h), (fun h => by cases h)⟩
                · have hb : b1 = false := hun
                  cases ho
                  clear hun hdeps
                  have e11 : b11 = false := by cases h : b11 with | false => rfl | true => exact absurd ((K11.out h).2.1) (by rw [hb]; decide)
                  have e13 : b13 = false := by cases h : b13 with | false => rfl | true => exact absurd ((K13.out h).2.1) (by rw [hb]; decide)
                  subst hb e11 e13
                  all_goals dsimp only
                  refine wpOpIn_step rfl (fun K' hK => ?_)
                  all_goals go_simp
                  all_goals exact hK _ _ ⟨b0, true, b2, b3, b4, b5, b6, b7, b8, b9, b10, false, b12, false, rfl, rfl, rfl, (fun h => by cases h), (fun h => by cases h)⟩
                · have hb : b2 = false := hun
                  cases ho
                  clear hun hdeps
                  have e13 : b13 = false := by cases h : b13 with | false => rfl | true => exact absurd ((K13.out h).2.2.1) (by rw [hb]; decide)
                  subst hb e13
                  cases b11
                  all_goals dsimp only
                  all_goals refine wpOpIn_step rfl (fun K' hK => ?_)
                  all_goals go_simp
                  all_goals exact hK _ _ ⟨b0, b1, true, b3, b4, b5, b6, b7, b8, b9, b10, _, b12, false, rfl, rfl, rfl, K11.out, (fun h => by cases h)⟩
                · have hb : b3 = false := hun
                  cases ho
                  clear hun hdeps
                  have e13 : b13 = false := by cases h : b13 with | false => rfl | true => exact absurd ((K13.out h).2.2.2.1) (by rw [hb]; decide)
                  subst hb e13
                  cases b11
                  all_goals dsimp only
                  all_goals refine wpOpIn_step rfl (fun K' hK => ?_)
                  all_goals go_simp
                  all_goals exact hK _ _ ⟨b0, b1, b2, true, b4, b5, b6, b7, b8, b9, b10, _, b12, false, rfl, rfl, rfl, K11.out, (fun h => by cases h)⟩
                · have hb : b4 = false := hun
                  cases ho
                  clear hun hdeps
                  have e11 : b11 = false := by cases h : b11 with | false => rfl | true => exact absurd ((K11.out h).2.2.1) (by rw [hb]; decide)
                  have e13 : b13 = false := by cases h : b13 with | false => rfl | true => exact absurd ((K13.out h).2.2.2.2.1) (by rw [hb]; decide)
                  subst hb e11 e13
                  all_goals dsimp only
                  refine wpOpIn_step rfl (fun K' hK => ?_)
                  all_goals go_simp
                  all_goals exact hK _ _ ⟨b0, b1, b2, b3, true, b5, b6, b7, b8, b9, b10, false, b12, false, rfl, rfl, rfl, (fun h => by cases h), (fun h => by cases h)⟩
                · have hb : b5 = false := hun
                  cases ho
                  clear hun hdeps
                  have e11 : b11 = false := by cases h : b11 with | false => rfl | true => exact absurd ((K11.out h).2.2.2.1) (by rw [hb]; decide)
                  have e13 : b13 = false := by cases h : b13 with | false => rfl | true => exact absurd ((K13.out h).2.2.2.2.2.1) (by rw [hb]; decide)
                  subst hb e11 e13
                  all_goals dsimp only
                  refine wpOpIn_step rfl (fun K' hK => ?_)
                  all_goals go_simp
                  all_goals exact hK _ _ ⟨b0, b1, b2, b3, b4, true, b6, b7, b8, b9, b10, false, b12, false, rfl, rfl, rfl, (fun h => by cases h), (fun h => by cases h)⟩
                · have hb : b6 = false := hun
                  cases ho
                  have d4 : b4 = true := hdeps ⟨4, Ground.data⟩ (by simp) rfl
                  have d5 : b5 = true := hdeps ⟨5, Ground.data⟩ (by simp) rfl
                  clear hun hdeps
                  have e11 : b11 = false := by cases h : b11 with | false => rfl | true => exact absurd ((K11.out h).2.2.2.2.1) (by rw [hb]; decide)
                  have e13 : b13 = false := by cases h : b13 with | false => rfl | true => exact absurd ((K13.out h).2.2.2.2.2.2.1) (by rw [hb]; decide)
                  subst hb d4 d5 e11 e13
                  all_goals dsimp only
                  refine wpOpIn_step rfl (fun K' hK => ?_)
                  all_goals go_simp
                  all_goals exact hK _ _ ⟨b0, b1, b2, b3, true, true, true, b7, b8, b9, b10, false, b12, false, rfl, rfl, rfl, (fun h => by cases h), (fun h => by cases h)⟩
                · have hb : b7 = false := hun
                  cases ho
                  have d6 : b6 = true := hdeps ⟨6, Ground.data⟩ (by simp) rfl
                  clear hun hdeps
                  have e11 : b11 = false := by cases h : b11 with | false => rfl | true => exact absurd ((K11.out h).2.2.2.2.2.1) (by rw [hb]; decide)
                  have e13 : b13 = false := by cases h : b13 with | false => rfl | true => exact absurd ((K13.out h).2.2.2.2.2.2.2.1) (by rw [hb]; decide)
                  subst hb d6 e11 e13
                  all_goals dsimp only
                  refine wpOpIn_step rfl (fun K' hK => ?_)
                  all_goals go_simp
                  all_goals exact hK _ _ ⟨b0, b1, b2, b3, b4, b5, true, true, b8, b9, b10, false, b12, false, rfl, rfl, rfl, (fun h => by cases h), (fun h => by cases h)⟩
                · have hb : b8 = false := hun
                  cases ho
                  have d7 : b7 = true := hdeps ⟨7, Ground.data⟩ (by simp) rfl
                  clear hun hdeps
                  have e11 : b11 = false := by cases h : b11 with | false => rfl | true => exact absurd ((K11.out h).2.2.2.2.2.2.1) (by rw [hb]; decide)
                  have e13 : b13 = false := by cases h : b13 with | false => rfl | true => exact absurd ((K13.out h).2.2.2.2.2.2.2.2.1) (by rw [hb]; decide)
                  subst hb d7 e11 e13
                  all_goals dsimp only
                  refine wpOpIn_step rfl (fun K' hK => ?_)
                  all_goals go_simp
                  all_goals exact hK _ _ ⟨b0, b1, b2, b3, b4, b5, b6, true, true, b9, b10, false, b12, false, rfl, rfl, rfl, (fun h => by cases h), (fun h => by cases h)⟩
                · have hb : b9 = false := hun
                  cases ho
                  clear hun hdeps
                  have e13 : b13 = false := by cases h : b13 with | false => rfl | true => exact absurd ((K13.out h).2.2.2.2.2.2.2.2.2.1) (by rw [hb]; decide)
                  subst hb e13
                  cases b11
                  all_goals dsimp only
                  all_goals refine wpOpIn_step rfl (fun K' hK => ?_)
                  all_goals go_simp
                  all_goals exact hK _ _ ⟨b0, b1, b2, b3, b4, b5, b6, b7, b8, true, b10, _, b12, false, rfl, rfl, rfl, K11.out, (fun h => by cases h)⟩
                · have hb : b10 = false := hun
                  cases ho
                  have d0 : b0 = true := hdeps ⟨0, Ground.data⟩ (by simp) rfl
                  have d1 : b1 = true := hdeps ⟨1, Ground.data⟩ (by simp) rfl
                  have d4 : b4 = true := hdeps ⟨4, Ground.phase⟩ (by simp) rfl
                  have d5 : b5 = true := hdeps ⟨5, Ground.phase⟩ (by simp) rfl
                  have d6 : b6 = true := hdeps ⟨6, Ground.phase⟩ (by simp) rfl
                  have d7 : b7 = true := hdeps ⟨7, Ground.phase⟩ (by simp) rfl
                  have d8 : b8 = true := hdeps ⟨8, Ground.phase⟩ (by simp) rfl
                  clear hun hdeps
                  have e11 : b11 = false := by cases h : b11 with | false => rfl | true => exact absurd ((K11.out h).2.2.2.2.2.2.2) (by rw [hb]; decide)
                  have e13 : b13 = false := by cases h : b13 with | false => rfl | true => exact absurd ((K13.out h).2.2.2.2.2.2.2.2.2.2.1) (by rw [hb]; decide)
                  subst hb d0 d1 d4 d5 d6 d7 d8 e11 e13
                  all_goals dsimp only
                  refine wpOpIn_step rfl (fun K' hK => ?_)
                  all_goals go_simp
                  all_goals exact hK _ _ ⟨true, true, b2, b3, true, true, true, true, true, b9, true, false, b12, false, rfl, rfl, rfl, (fun h => by cases h), (fun h => by cases h)⟩
                · have hb : b11 = false := hun
                  cases ho
                  have d10 : b10 = true := hdeps ⟨10, Ground.data⟩ (by simp) rfl
                  have d8 : b8 = true := hdeps ⟨8, Ground.data⟩ (by simp) rfl
                  have d0 : b0 = true := hdeps ⟨0, Ground.phase⟩ (by simp) rfl
                  have d1 : b1 = true := hdeps ⟨1, Ground.phase⟩ (by simp) rfl
                  have d4 : b4 = true := hdeps ⟨4, Ground.phase⟩ (by simp) rfl
                  have d5 : b5 = true := hdeps ⟨5, Ground.phase⟩ (by simp) rfl
                  have d6 : b6 = true := hdeps ⟨6, Ground.phase⟩ (by simp) rfl
                  have d7 : b7 = true := hdeps ⟨7, Ground.phase⟩ (by simp) rfl
                  clear hun hdeps
                  have e13 : b13 = false := by cases h : b13 with | false => rfl | true => exact absurd ((K13.out h).2.2.2.2.2.2.2.2.2.2.2.1) (by rw [hb]; decide)
                  subst hb d10 d8 d0 d1 d4 d5 d6 d7 e13
                  all_goals dsimp only
                  refine wpOpIn_step rfl (fun K' hK => ?_)
                  all_goals go_simp
                  all_goals exact hK _ _ ⟨true, true, b2, b3, true, true, true, true, true, b9, true, true, b12, false, rfl, rfl, rfl, (fun _ => ⟨rfl, rfl, rfl, rfl, rfl, rfl, rfl, rfl⟩), (fun h => by cases h)⟩
                · have hb : b12 = false := hun
                  cases ho
                  have d2 : b2 = true := hdeps ⟨2, Ground.data⟩ (by simp) rfl
                  have d3 : b3 = true := hdeps ⟨3, Ground.data⟩ (by simp) rfl
                  have d0 : b0 = true := hdeps ⟨0, Ground.phase⟩ (by simp) rfl
                  have d1 : b1 = true := hdeps ⟨1, Ground.phase⟩ (by simp) rfl
                  have d4 : b4 = true := hdeps ⟨4, Ground.phase⟩ (by simp) rfl
                  have d5 : b5 = true := hdeps ⟨5, Ground.phase⟩ (by simp) rfl
                  have d6 : b6 = true := hdeps ⟨6, Ground.phase⟩ (by simp) rfl
                  have d7 : b7 = true := hdeps ⟨7, Ground.phase⟩ (by simp) rfl
                  have d8 : b8 = true := hdeps ⟨8, Ground.phase⟩ (by simp) rfl
                  have d9 : b9 = true := hdeps ⟨9, Ground.phase⟩ (by simp) rfl
                  have d10 : b10 = true := hdeps ⟨10, Ground.phase⟩ (by simp) rfl
                  have d11 : b11 = true := hdeps ⟨11, Ground.phase⟩ (by simp) rfl
                  clear hun hdeps
                  have e13 : b13 = false := by cases h : b13 with | false => rfl | true => exact absurd ((K13.out h).2.2.2.2.2.2.2.2.2.2.2.2) (by rw [hb]; decide)
                  subst hb d2 d3 d0 d1 d4 d5 d6 d7 d8 d9 d10 d11 e13
                  all_goals dsimp only
                  refine wpOpIn_step rfl (fun K' hK => ?_)
                  all_goals go_simp
                  all_goals exact hK _ _ ⟨true, true, true, true, true, true, true, true, true, true, true, true, true, false, rfl, rfl, rfl, K11.out, (fun h => by cases h)⟩
                · have hb : b13 = false := hun
                  cases ho
                  have d12 : b12 = true := hdeps ⟨12, Ground.data⟩ (by simp) rfl
                  have d9 : b9 = true := hdeps ⟨9, Ground.data⟩ (by simp) rfl
                  have d11 : b11 = true := hdeps ⟨11, Ground.chain⟩ (by simp) rfl
                  have d0 : b0 = true := hdeps ⟨0, Ground.phase⟩ (by simp) rfl
                  have d1 : b1 = true := hdeps ⟨1, Ground.phase⟩ (by simp) rfl
                  have d2 : b2 = true := hdeps ⟨2, Ground.phase⟩ (by simp) rfl
                  have d3 : b3 = true := hdeps ⟨3, Ground.phase⟩ (by simp) rfl
                  have d4 : b4 = true := hdeps ⟨4, Ground.phase⟩ (by simp) rfl
                  have d5 : b5 = true := hdeps ⟨5, Ground.phase⟩ (by simp) rfl
                  have d6 : b6 = true := hdeps ⟨6, Ground.phase⟩ (by simp) rfl
                  have d7 : b7 = true := hdeps ⟨7, Ground.phase⟩ (by simp) rfl
                  have d8 : b8 = true := hdeps ⟨8, Ground.phase⟩ (by simp) rfl
                  have d10 : b10 = true := hdeps ⟨10, Ground.phase⟩ (by simp) rfl
                  clear hun hdeps
                  subst hb d12 d9 d11 d0 d1 d2 d3 d4 d5 d6 d7 d8 d10
                  all_goals dsimp only
                  refine wpOpIn_step rfl (fun K' hK => ?_)
                  all_goals go_simp
                  all_goals exact hK _ _ ⟨true, true, true, true, true, true, true, true, true, true, true, true, true, true, rfl, rfl, rfl, K11.out, (fun _ => ⟨rfl, rfl, rfl, rfl, rfl, rfl, rfl, rfl, rfl, rfl, rfl, rfl, rfl⟩)⟩
              case hdone =>
                rintro L a X ⟨b0, b1, b2, b3, b4, b5, b6, b7, b8, b9, b10, b11, b12, b13, rfl, rfl, rfl, -, -⟩ hr
                have t0 : b0 = true := ready_nil hr (i := 0) (by simp) (by intro o ho; cases ho; intro e he hbd; replace he : e ∈ #[] := he; simp at he)
                subst t0
                have t1 : b1 = true := ready_nil hr (i := 1) (by simp) (by intro o ho; cases ho; intro e he hbd; replace he : e ∈ #[] := he; simp at he)
                subst t1
                have t2 : b2 = true := ready_nil hr (i := 2) (by simp) (by intro o ho; cases ho; intro e he hbd; replace he : e ∈ #[⟨11, Ground.gcOnly Departure.lateStores⟩] := he; simp only [List.mem_toArray, List.mem_cons, List.not_mem_nil, or_false] at he; rcases he with rfl <;> first | rfl | exact absurd hbd (by decide))
                subst t2
                have t3 : b3 = true := ready_nil hr (i := 3) (by simp) (by intro o ho; cases ho; intro e he hbd; replace he : e ∈ #[⟨11, Ground.gcOnly Departure.lateStores⟩] := he; simp only [List.mem_toArray, List.mem_cons, List.not_mem_nil, or_false] at he; rcases he with rfl <;> first | rfl | exact absurd hbd (by decide))
                subst t3
                have t4 : b4 = true := ready_nil hr (i := 4) (by simp) (by intro o ho; cases ho; intro e he hbd; replace he : e ∈ #[] := he; simp at he)
                subst t4
                have t5 : b5 = true := ready_nil hr (i := 5) (by simp) (by intro o ho; cases ho; intro e he hbd; replace he : e ∈ #[] := he; simp at he)
                subst t5
                have t6 : b6 = true := ready_nil hr (i := 6) (by simp) (by intro o ho; cases ho; intro e he hbd; replace he : e ∈ #[⟨4, Ground.data⟩, ⟨5, Ground.data⟩] := he; simp only [List.mem_toArray, List.mem_cons, List.not_mem_nil, or_false] at he; rcases he with rfl | rfl <;> first | rfl | exact absurd hbd (by decide))
                subst t6
                have t7 : b7 = true := ready_nil hr (i := 7) (by simp) (by intro o ho; cases ho; intro e he hbd; replace he : e ∈ #[⟨6, Ground.data⟩] := he; simp only [List.mem_toArray, List.mem_cons, List.not_mem_nil, or_false] at he; rcases he with rfl <;> first | rfl | exact absurd hbd (by decide))
                subst t7
                have t8 : b8 = true := ready_nil hr (i := 8) (by simp) (by intro o ho; cases ho; intro e he hbd; replace he : e ∈ #[⟨7, Ground.data⟩] := he; simp only [List.mem_toArray, List.mem_cons, List.not_mem_nil, or_false] at he; rcases he with rfl <;> first | rfl | exact absurd hbd (by decide))
                subst t8
                have t9 : b9 = true := ready_nil hr (i := 9) (by simp) (by intro o ho; cases ho; intro e he hbd; replace he : e ∈ #[⟨11, Ground.gcOnly Departure.lateStores⟩] := he; simp only [List.mem_toArray, List.mem_cons, List.not_mem_nil, or_false] at he; rcases he with rfl <;> first | rfl | exact absurd hbd (by decide))
                subst t9
                have t10 : b10 = true := ready_nil hr (i := 10) (by simp) (by intro o ho; cases ho; intro e he hbd; replace he : e ∈ #[⟨0, Ground.data⟩, ⟨1, Ground.data⟩, ⟨0, Ground.phase⟩, ⟨1, Ground.phase⟩, ⟨2, Ground.textOnly Departure.lateStores⟩, ⟨3, Ground.textOnly Departure.lateStores⟩, ⟨4, Ground.phase⟩, ⟨5, Ground.phase⟩, ⟨6, Ground.phase⟩, ⟨7, Ground.phase⟩, ⟨8, Ground.phase⟩, ⟨9, Ground.textOnly Departure.lateStores⟩] := he; simp only [List.mem_toArray, List.mem_cons, List.not_mem_nil, or_false] at he; rcases he with rfl | rfl | rfl | rfl | rfl | rfl | rfl | rfl | rfl | rfl | rfl | rfl <;> first | rfl | exact absurd hbd (by decide))
                subst t10
                have t11 : b11 = true := ready_nil hr (i := 11) (by simp) (by intro o ho; cases ho; intro e he hbd; replace he : e ∈ #[⟨10, Ground.data⟩, ⟨8, Ground.data⟩, ⟨0, Ground.phase⟩, ⟨1, Ground.phase⟩, ⟨2, Ground.textOnly Departure.lateStores⟩, ⟨3, Ground.textOnly Departure.lateStores⟩, ⟨4, Ground.phase⟩, ⟨5, Ground.phase⟩, ⟨6, Ground.phase⟩, ⟨7, Ground.phase⟩, ⟨8, Ground.phase⟩, ⟨9, Ground.textOnly Departure.lateStores⟩] := he; simp only [List.mem_toArray, List.mem_cons, List.not_mem_nil, or_false] at he; rcases he with rfl | rfl | rfl | rfl | rfl | rfl | rfl | rfl | rfl | rfl | rfl | rfl <;> first | rfl | exact absurd hbd (by decide))
                subst t11
                have t12 : b12 = true := ready_nil hr (i := 12) (by simp) (by intro o ho; cases ho; intro e he hbd; replace he : e ∈ #[⟨2, Ground.data⟩, ⟨3, Ground.data⟩, ⟨0, Ground.phase⟩, ⟨1, Ground.phase⟩, ⟨2, Ground.phase⟩, ⟨3, Ground.phase⟩, ⟨4, Ground.phase⟩, ⟨5, Ground.phase⟩, ⟨6, Ground.phase⟩, ⟨7, Ground.phase⟩, ⟨8, Ground.phase⟩, ⟨9, Ground.phase⟩, ⟨10, Ground.phase⟩, ⟨11, Ground.phase⟩] := he; simp only [List.mem_toArray, List.mem_cons, List.not_mem_nil, or_false] at he; rcases he with rfl | rfl | rfl | rfl | rfl | rfl | rfl | rfl | rfl | rfl | rfl | rfl | rfl | rfl <;> first | rfl | exact absurd hbd (by decide))
                subst t12
                have t13 : b13 = true := ready_nil hr (i := 13) (by simp) (by intro o ho; cases ho; intro e he hbd; replace he : e ∈ #[⟨12, Ground.data⟩, ⟨9, Ground.data⟩, ⟨11, Ground.chain⟩, ⟨0, Ground.phase⟩, ⟨1, Ground.phase⟩, ⟨2, Ground.phase⟩, ⟨3, Ground.phase⟩, ⟨4, Ground.phase⟩, ⟨5, Ground.phase⟩, ⟨6, Ground.phase⟩, ⟨7, Ground.phase⟩, ⟨8, Ground.phase⟩, ⟨9, Ground.phase⟩, ⟨10, Ground.phase⟩, ⟨11, Ground.phase⟩] := he; simp only [List.mem_toArray, List.mem_cons, List.not_mem_nil, or_false] at he; rcases he with rfl | rfl | rfl | rfl | rfl | rfl | rfl | rfl | rfl | rfl | rfl | rfl | rfl | rfl | rfl <;> first | rfl | exact absurd hbd (by decide))
                subst t13
                exact ⟨rfl, rfl⟩
              case hfin =>
                clear c3 c4 c41 c6 c61 cx ck1 ck2 fk1 fk2
                gi_wp2
                have hko : KeepsOthers X X3 := by
                  rw [← hX3, ← hX2, ← HX1, ← HX0]
                  exact ((KeepsOthers.drew _).trans (KeepsOthers.drew _)).trans ((KeepsOthers.setCell _ ⟨w.heap.size, k + 1, none⟩ (.int .i64 d)).trans (KeepsOthers.setCell _ ⟨w.heap.size + 1 + 1, k + 1, none⟩ (.int .i64 x.1)))
                have hhp : ∀ q, q ≠ w.heap.size → q ≠ w.heap.size + 1 + 1 → X3.heap[q]? = X.heap[q]? := fun q h1 h2 => by
                  rw [← hX3, ← hX2, Below.heap_setCell _ _ _ _ h2, Below.heap_setCell _ _ _ _ h1, ← HX1, ← HX0]; rfl
                refine ⟨hko, ⟨hhp _ (by omega) (by omega), hhp _ (by omega) (by omega)⟩, ?_, ?_⟩
                · rw [Hsn.out]
                  exact hX3'.congr (fun i _ => tell_tell _ _ _ _ _) (fun i _ => tell_tell _ _ _ _ _)
                · exact (hhp _ (by omega) (by omega)).trans hXb
          · have hlz : ¬ (d : Int) < a1 := by omega
            rw [if_neg hlt2] at hsn
            have Hsn := Lib.hid hsn
            clear hsn ha1 ha2 hg hd
            gi_wp2
            refine region_inv' hmx (fun L a X => ∃ b0 b1 b2 b3 b4 b5 b6 b7 b8 b9 : Bool, L = #[b0, b1, b2, b3, b4, b5, b6, b7, b8, b9] ∧ a = { tmps := #[.string s, undef, .slice none 0 0, .pointer (some ⟨w.heap.size + 1, 0, none⟩), .pointer (some ⟨w.heap.size + 1 + 1 + 1, 0, none⟩), .int .i64 k, .pointer (some ⟨W.heap.size, 0, none⟩), .int .i64 x.1, .string s, .int .i64 s.size, .int .i64 N, .slice (some ⟨w.heap.size, 0, none⟩) N N, .string s, .int .i64 s.size, .int .i64 N, .slice (some ⟨w.heap.size + 1 + 1, 0, none⟩) N N, .string s, .int .i64 s.size, .int .i64 k, .bool true, .int .i64 k, .int .i64 k, .int .i64 ((k : Int) + 1), .slice (some ⟨w.heap.size, 0, none⟩) N N, .int .i64 ((k : Int) + 1), .slice (some ⟨w.heap.size + 1 + 1, 0, none⟩) N N, .int .i64 ((k : Int) + 1), .slice (some ⟨w.heap.size, 0, none⟩) N N, .int .i64 k, .pointer (some ⟨w.heap.size, k, none⟩), .int .i64 f, .int .i64 c, .int .i64 k, .pointer (some ⟨w.heap.size, k + 1, none⟩), .pointer (some ⟨w.heap.size + 1 + 1, k + 1, none⟩), .string s, .int .i64 ((k : Int) + 1), .func (.func 79) #[] #[.pointer (some ⟨W.heap.size + 1 + 1, 0, none⟩), .pointer (some ⟨W.heap.size + 1, 0, none⟩)], .int .i64 x.1, pk b0 (.slice (some ⟨w.heap.size, 0, none⟩) N N) (u39), pk b1 (.int .i64 x.1) (u40), pk b2 (.pointer (some ⟨w.heap.size, x.1, none⟩)) (u41), pk b3 (.int .i64 g) (u42), pk b4 (.int .i64 d) (u43), pk b5 (.slice (some ⟨w.heap.size, 0, none⟩) N N) (u44), pk b6 (.int .i64 ((k : Int) + 1)) (u45), pk b7 (.pointer (some ⟨w.heap.size, k + 1, none⟩)) (u46), pk b8 (.int .i64 a1) (u47), pk b9 (.bool false) (u48), u49, u50, u51, u52, u53, u54, u55, u56, u57, u58, u59, u60, u61, undef], defers := [] } ∧ X = X0 ∧ True) { tmps := #[.string s, undef, .slice none 0 0, .pointer (some ⟨w.heap.size + 1, 0, none⟩), .pointer (some ⟨w.heap.size + 1 + 1 + 1, 0, none⟩), .int .i64 k, .pointer (some ⟨W.heap.size, 0, none⟩), .int .i64 x.1, .string s, .int .i64 s.size, .int .i64 N, .slice (some ⟨w.heap.size, 0, none⟩) N N, .string s, .int .i64 s.size, .int .i64 N, .slice (some ⟨w.heap.size + 1 + 1, 0, none⟩) N N, .string s, .int .i64 s.size, .int .i64 k, .bool true, .int .i64 k, .int .i64 k, .int .i64 ((k : Int) + 1), .slice (some ⟨w.heap.size, 0, none⟩) N N, .int .i64 ((k : Int) + 1), .slice (some ⟨w.heap.size + 1 + 1, 0, none⟩) N N, .int .i64 ((k : Int) + 1), .slice (some ⟨w.heap.size, 0, none⟩) N N, .int .i64 k, .pointer (some ⟨w.heap.size, k, none⟩), .int .i64 f, .int .i64 c, .int .i64 k, .pointer (some ⟨w.heap.size, k + 1, none⟩), .pointer (some ⟨w.heap.size + 1 + 1, k + 1, none⟩), .string s, .int .i64 ((k : Int) + 1), .func (.func 79) #[] #[.pointer (some ⟨W.heap.size + 1 + 1, 0, none⟩), .pointer (some ⟨W.heap.size + 1, 0, none⟩)], .int .i64 x.1, .slice (some ⟨w.heap.size, 0, none⟩) N N, .int .i64 x.1, .pointer (some ⟨w.heap.size, x.1, none⟩), .int .i64 g, .int .i64 d, .slice (some ⟨w.heap.size, 0, none⟩) N N, .int .i64 ((k : Int) + 1), .pointer (some ⟨w.heap.size, k + 1, none⟩), .int .i64 a1, .bool false, u49, u50, u51, u52, u53, u54, u55, u56, u57, u58, u59, u60, u61, undef], defers := [] } X0 ?h0 ?hstep ?hdone ?hfin
            case h0 => exact ⟨false, false, false, false, false, false, false, false, false, false, rfl, rfl, HX0, trivial⟩
            case hstep =>
              rintro Q L a X ⟨b0, b1, b2, b3, b4, b5, b6, b7, b8, b9, rfl, rfl, rfl, _⟩ i hi
              obtain ⟨hun, o, ho, hdeps⟩ := mem_ready.1 hi
              clear hi
              have hi : i < 10 := (Array.getElem?_eq_some_iff.1 ho).1
              have hor : i = 0 ∨ i = 1 ∨ i = 2 ∨ i = 3 ∨ i = 4 ∨ i = 5 ∨ i = 6 ∨ i = 7 ∨ i = 8 ∨ i = 9 := by omega
              clear hi
              rcases hor with rfl | rfl | rfl | rfl | rfl | rfl | rfl | rfl | rfl | rfl
              · have hb : b0 = false := hun
                cases ho
                clear hun hdeps
                subst hb
                all_goals dsimp only
                refine wpOpIn_step rfl (fun K' hK => ?_)
                all_goals go_simp
                all_goals exact hK _ _ ⟨true, b1, b2, b3, b4, b5, b6, b7, b8, b9, rfl, rfl, rfl, trivial⟩
              · have hb : b1 = false := hun
                cases ho
                clear hun hdeps
                subst hb
                all_goals dsimp only
                refine wpOpIn_step rfl (fun K' hK => ?_)
                all_goals go_simp
                all_goals exact hK _ _ ⟨b0, true, b2, b3, b4, b5, b6, b7, b8, b9, rfl, rfl, rfl, trivial⟩
              · have hb : b2 = false := hun
                cases ho
                have d0 : b0 = true := hdeps ⟨0, Ground.data⟩ (by simp) rfl
                have d1 : b1 = true := hdeps ⟨1, Ground.data⟩ (by simp) rfl
                clear hun hdeps
                subst hb d0 d1
                all_goals dsimp only
                refine wpOpIn_step rfl (fun K' hK => ?_)
                all_goals go_simp
                all_goals exact hK _ _ ⟨true, true, true, b3, b4, b5, b6, b7, b8, b9, rfl, rfl, rfl, trivial⟩
              · have hb : b3 = false := hun
                cases ho
                have d2 : b2 = true := hdeps ⟨2, Ground.data⟩ (by simp) rfl
                clear hun hdeps
                subst hb d2
                all_goals dsimp only
                refine wpOpIn_step rfl (fun K' hK => ?_)
                all_goals go_simp
                all_goals exact hK _ _ ⟨b0, b1, true, true, b4, b5, b6, b7, b8, b9, rfl, rfl, rfl, trivial⟩
              · have hb : b4 = false := hun
                cases ho
                have d3 : b3 = true := hdeps ⟨3, Ground.data⟩ (by simp) rfl
                clear hun hdeps
                subst hb d3
                all_goals dsimp only
                refine wpOpIn_step rfl (fun K' hK => ?_)
                all_goals go_simp
                all_goals exact hK _ _ ⟨b0, b1, b2, true, true, b5, b6, b7, b8, b9, rfl, rfl, rfl, trivial⟩
              · have hb : b5 = false := hun
                cases ho
                clear hun hdeps
                subst hb
                all_goals dsimp only
                refine wpOpIn_step rfl (fun K' hK => ?_)
                all_goals go_simp
                all_goals exact hK _ _ ⟨b0, b1, b2, b3, b4, true, b6, b7, b8, b9, rfl, rfl, rfl, trivial⟩
              · have hb : b6 = false := hun
                cases ho
                clear hun hdeps
                subst hb
                all_goals dsimp only
                refine wpOpIn_step rfl (fun K' hK => ?_)
                all_goals go_simp
                all_goals exact hK _ _ ⟨b0, b1, b2, b3, b4, b5, true, b7, b8, b9, rfl, rfl, rfl, trivial⟩
              · have hb : b7 = false := hun
                cases ho
                have d5 : b5 = true := hdeps ⟨5, Ground.data⟩ (by simp) rfl
                have d6 : b6 = true := hdeps ⟨6, Ground.data⟩ (by simp) rfl
                clear hun hdeps
                subst hb d5 d6
                all_goals dsimp only
                refine wpOpIn_step rfl (fun K' hK => ?_)
                all_goals go_simp
                all_goals exact hK _ _ ⟨b0, b1, b2, b3, b4, true, true, true, b8, b9, rfl, rfl, rfl, trivial⟩
              · have hb : b8 = false := hun
                cases ho
                have d7 : b7 = true := hdeps ⟨7, Ground.data⟩ (by simp) rfl
                clear hun hdeps
                subst hb d7
                all_goals dsimp only
                refine wpOpIn_step rfl (fun K' hK => ?_)
                all_goals go_simp
                all_goals exact hK _ _ ⟨b0, b1, b2, b3, b4, b5, b6, true, true, b9, rfl, rfl, rfl, trivial⟩
              · have hb : b9 = false := hun
                cases ho
                have d4 : b4 = true := hdeps ⟨4, Ground.data⟩ (by simp) rfl
                have d8 : b8 = true := hdeps ⟨8, Ground.data⟩ (by simp) rfl
                clear hun hdeps
                subst hb d4 d8
                all_goals dsimp only
                refine wpOpIn_step rfl (fun K' hK => ?_)
                all_goals go_simp
                all_goals exact hK _ _ ⟨b0, b1, b2, b3, true, b5, b6, b7, true, true, rfl, rfl, rfl, trivial⟩
            case hdone =>
              rintro L a X ⟨b0, b1, b2, b3, b4, b5, b6, b7, b8, b9, rfl, rfl, rfl, _⟩ hr
              have t0 : b0 = true := ready_nil hr (i := 0) (by simp) (by intro o ho; cases ho; intro e he hbd; replace he : e ∈ #[] := he; simp at he)
              subst t0
              have t1 : b1 = true := ready_nil hr (i := 1) (by simp) (by intro o ho; cases ho; intro e he hbd; replace he : e ∈ #[] := he; simp at he)
              subst t1
              have t2 : b2 = true := ready_nil hr (i := 2) (by simp) (by intro o ho; cases ho; intro e he hbd; replace he : e ∈ #[⟨0, Ground.data⟩, ⟨1, Ground.data⟩] := he; simp only [List.mem_toArray, List.mem_cons, List.not_mem_nil, or_false] at he; rcases he with rfl | rfl <;> first | rfl | exact absurd hbd (by decide))
              subst t2
              have t3 : b3 = true := ready_nil hr (i := 3) (by simp) (by intro o ho; cases ho; intro e he hbd; replace he : e ∈ #[⟨2, Ground.data⟩] := he; simp only [List.mem_toArray, List.mem_cons, List.not_mem_nil, or_false] at he; rcases he with rfl <;> first | rfl | exact absurd hbd (by decide))
              subst t3
              have t4 : b4 = true := ready_nil hr (i := 4) (by simp) (by intro o ho; cases ho; intro e he hbd; replace he : e ∈ #[⟨3, Ground.data⟩] := he; simp only [List.mem_toArray, List.mem_cons, List.not_mem_nil, or_false] at he; rcases he with rfl <;> first | rfl | exact absurd hbd (by decide))
              subst t4
              have t5 : b5 = true := ready_nil hr (i := 5) (by simp) (by intro o ho; cases ho; intro e he hbd; replace he : e ∈ #[] := he; simp at he)
              subst t5
              have t6 : b6 = true := ready_nil hr (i := 6) (by simp) (by intro o ho; cases ho; intro e he hbd; replace he : e ∈ #[] := he; simp at he)
              subst t6
              have t7 : b7 = true := ready_nil hr (i := 7) (by simp) (by intro o ho; cases ho; intro e he hbd; replace he : e ∈ #[⟨5, Ground.data⟩, ⟨6, Ground.data⟩] := he; simp only [List.mem_toArray, List.mem_cons, List.not_mem_nil, or_false] at he; rcases he with rfl | rfl <;> first | rfl | exact absurd hbd (by decide))
              subst t7
              have t8 : b8 = true := ready_nil hr (i := 8) (by simp) (by intro o ho; cases ho; intro e he hbd; replace he : e ∈ #[⟨7, Ground.data⟩] := he; simp only [List.mem_toArray, List.mem_cons, List.not_mem_nil, or_false] at he; rcases he with rfl <;> first | rfl | exact absurd hbd (by decide))
              subst t8
              have t9 : b9 = true := ready_nil hr (i := 9) (by simp) (by intro o ho; cases ho; intro e he hbd; replace he : e ∈ #[⟨4, Ground.data⟩, ⟨8, Ground.data⟩] := he; simp only [List.mem_toArray, List.mem_cons, List.not_mem_nil, or_false] at he; rcases he with rfl | rfl <;> first | rfl | exact absurd hbd (by decide))
              subst t9
              exact ⟨rfl, rfl⟩
            case hfin =>
              gi_wp2
              rw [← HX0]
              refine ⟨KeepsOthers.drew _, ⟨rfl, rfl⟩, ?_, ?_⟩
              · rw [Hsn.out, HX0]; exact hX0'
              · rw [HX0]; exact hXb0'

        case done =>
          rintro D ys X hD rfl ⟨hX, hXb⟩ hK
          simp only [World.size_alloc, hz2] at hD
          have hE := hX.congr (fn' := told (fun j => (fewAt s.data.toList j).1) (k + 1)) (fb' := told (fun j => (fewAt s.data.toList j).2) (k + 1))
            (fun i _ => by rw [← fewAt_succ]; exact tell_told (fun j => (fewAt s.data.toList j).1) k i) (fun i _ => by rw [← fewAt_succ]; exact tell_told (fun j => (fewAt s.data.toList j).2) k i)
          have hF := hE.push hS.marks (by omega) hK
          clear hE hX hXb
          gi_wp2
          refine ⟨?_, ?_⟩
          · (repeat apply Exists.intro)
            exact ⟨⟨k + 1, D :: Ds, by omega, by go_num, rfl, hF⟩, rfl⟩
          · simp [intOf]; omega
        case stop =>
          rintro D c' pre X _ _ h _
          exact h.elim
    · have hks : k = s.size := by omega
      subst hks
      have hc : ¬ (s.size : Int) < s.size := by omega
      have c4 := hS.bb.cell
      have hnlt := hS.nlt
      gi_wp2
      exact leaves_few (v := .slice (some ⟨w.heap.size + 1 + 1, 0, none⟩) N N) rfl rfl (told (fun j => (fewAt s.data.toList j).2) s.size) Ds W hS.marks ⟨hS.rb, hS.below⟩ (fun Y h1 h2 => ⟨w.heap.size + 1 + 1, by rw [HN.out], by rw [HN.out]; exact h1, h2⟩)
end Go.Proofs.Yteejjcipdpojnaa
