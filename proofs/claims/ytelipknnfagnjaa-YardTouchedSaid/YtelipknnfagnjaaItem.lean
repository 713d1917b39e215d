/- Item: a range over the row that is left early. -/
import Derived.Test.YtelipknnfagnjaaSize
import Derived.Test.YtelipknnfagnjaaQuad
import Derived.Test.YtelipknnfagnjaaOwnb
namespace Go.Proofs.Ytelipknnfagnjaa
set_option linter.unusedVariables false
open Go.RowKit Go.Shelf
attribute [local go_sem] Oper.semAt_some

def itemR (N : Nat) (k : Int) : (Nat × Nat) × Int := if 0 ≤ k ∧ k < len N then (fr N k.toNat, 0) else ((0, 0), 2)

theorem bears_two {β : Type} {b B : Nat} (h : b < B) (t : TypeId) (f g : β → Int) : Bears B (fun s W => Two W b t (f s) (g s)) := fun s W W' row hs hg hr =>
  hs.kept hg (fun e => by have := hr b e.symm; omega)
theorem plTo_val (N : Nat) : ∀ k, k ≤ len N → (plTo N k).map (fun x => x.1) = List.range k
  | 0, _ => rfl
  | k + 1, h => by rw [plTo_succ (by omega), List.map_append, plTo_val N k (by omega), List.range_succ]; rfl
theorem pl_last {N : Nat} {pre : List (Pl N)} {x : Pl N} (h : pre ++ [x] <+: allPl N) : x.1 = pre.length ∧ pre.length < len N := by
  obtain ⟨t, ht⟩ := h
  have h1 := congrArg (fun l : List (Pl N) => (l.map fun x => x.1)[pre.length]?) ht
  simp only [allPl, plTo_val N _ (Nat.le_refl _)] at h1
  rw [List.map_append, List.map_append, List.getElem?_append_left (by simp), List.getElem?_append_right (by simp)] at h1
  simp only [List.length_map, Nat.sub_self, List.map_cons, List.map_nil, List.getElem?_cons_zero] at h1
  rw [eq_comm, List.getElem?_eq_some_iff] at h1
  obtain ⟨h2, h3⟩ := h1
  rw [List.getElem_range] at h3
  rw [List.length_range] at h2
  exact ⟨h3.symm, h2⟩
theorem KeepsAt.set {T b o : Nat} {W : World} (h : b < T) (v : Value) : KeepsAt T W (W.setCell ⟨b, o, none⟩ v) := KeepsAt.of_grown (grownBy_set W b o v) (fun r e => by have := Option.some.inj e; omega)

theorem _root_.Go.Boxed.at {W : World} {B B' o : Nat} {t : TypeId} {v u : Value} (h : Boxed W B t v) (hne : B ≠ B') : Boxed (W.setCell ⟨B', o, none⟩ u) B t v := Eq.trans (Below.heap_setCell _ _ _ _ hne) h

/-- a range has ended, and the results lie in two boxes -/
theorem leaves_cells {F : Fence} {n : Nat} {P : Program} {fn : Func} {tmps : Array Value} {R : Ending → World → Prop} {u : FrameMode} (hu : u ≠ .run) {w : World} {b c n₀ : Nat} {x y z : Int}
    (hb : b < n₀) (hc : c < n₀) (hn : w.heap.size ≤ n₀) (hend : ∀ W, Two W b 26 x y → Boxed W c 22 (.int .i64 z) → Below w.heap.size w W → LeavesInM F n P fn tmps R [] u W)
    (D : Nat) (W : World) (hD : n₀ ≤ D) (hK : W.heap[D]? = some (.deferred (some []))) (h1 : Two W b 26 x y) (h2 : Boxed W c 22 (.int .i64 z)) (h3 : Below w.heap.size w W) : LeavesInM F n P fn tmps R [markD D] u W := by
  refine leaves_one hu (n₀ := n₀) (Φ := fun X => Two X b 26 x y ∧ Boxed X c 22 (.int .i64 z) ∧ Below w.heap.size w X) ?_ (fun W h => hend W h.1 h.2.1 h.2.2) D W hD hK ⟨h1, h2, h3⟩
  rintro Y D' ⟨k1, k2, k3⟩ hD' _
  exact ⟨k1.kept (grownBy_putObj' Y D' _) (fun e => by have := Option.some.inj e; omega), k2.kept (grownBy_putObj' Y D' _) (fun e => by have := Option.some.inj e; omega), k3.grown (grownBy_putObj' Y D' _) k3.size (fun q e => by cases e; omega)⟩

set_option maxRecDepth 100000 in
set_option maxHeartbeats 4000000 in
theorem Item_yes (N : Nat) (k : Int) (h1 : 1 ≤ N) (h3 : N ≤ 300) (w : World) :
    Calls Try.prog 15 #[.int .i64 N, .int .i64 k] w fun e w' => e = .returned (.tuple #[frV (itemR N k).1, .int .i64 (itemR N k).2]) ∧ Below w.heap.size w w' := by
  refine (callsIn_wide (n := 6)).1 ?_
  have hrow : rowB N = true := by unfold rowB; simp; omega
  have Hrow := Lib.hid hrow
  clear hrow
  refine callsIn_of_wp_marks Try.func15 rfl trivial ?_ rfl
  simp only [Try.ntmps15, List.size_toArray, List.length_cons, List.length_nil, Nat.reduceAdd, Nat.reduceSub, Array.replicate_succ, Array.replicate_zero, List.push_toArray, List.append_toArray, List.nil_append, List.cons_append]
  gi_wp2_with (first
    | (refine ⟨trivial, ?_⟩; gi_at_call 51; refine (callsIn_wide.2 (row_51_any _ _)).mono ?_; rintro e w' ⟨rfl, rfl⟩; rw [Hrow.out])
    | (refine ⟨trivial, ?_⟩; gi_at_call 52; refine (row_in _ _ _).mono ?_; rintro e w' ⟨rfl, rfl⟩))
  have bk := ((((Boxed.new w 3 (.int .i64 k)).alloc (.cells #[.int .i64 0, .int .i64 0] 26)).alloc (.cells #[.int .i64 0] 22)).alloc (.cells #[.int .i64 0] 3)).alloc (.cells #[.int .i64 N] 3)
  have br := (((Two.new (w.alloc (.cells #[.int .i64 k] 3)) 26 0 0).alloc (.cells #[.int .i64 0] 22)).alloc (.cells #[.int .i64 0] 3)).alloc (.cells #[.int .i64 N] 3)
  have be := ((Boxed.new ((w.alloc (.cells #[.int .i64 k] 3)).alloc (.cells #[.int .i64 0, .int .i64 0] 26)) 22 (.int .i64 0)).alloc (.cells #[.int .i64 0] 3)).alloc (.cells #[.int .i64 N] 3)
  have bp := (Boxed.new (((w.alloc (.cells #[.int .i64 k] 3)).alloc (.cells #[.int .i64 0, .int .i64 0] 26)).alloc (.cells #[.int .i64 0] 22)) 3 (.int .i64 0)).alloc (.cells #[.int .i64 N] 3)
  have bn := Boxed.new ((((w.alloc (.cells #[.int .i64 k] 3)).alloc (.cells #[.int .i64 0, .int .i64 0] 26)).alloc (.cells #[.int .i64 0] 22)).alloc (.cells #[.int .i64 0] 3)) 3 (.int .i64 N)
  simp only [World.size_alloc] at br be bp bn
  have hB := b_next (b_next (b_next (b_next (below_alloc w (.cells #[.int .i64 k] 3)) (below_alloc _ (.cells #[.int .i64 0, .int .i64 0] 26))) (below_alloc _ (.cells #[.int .i64 0] 22))) (below_alloc _ (.cells #[.int .i64 0] 3))) (below_alloc _ (.cells #[.int .i64 N] 3))
  refine range_visits_box (α := Pl N) rfl (by omega) (gf := 71) (lb := #[.pointer (some ⟨w.heap.size + 1 + 1 + 1 + 1, 0, none⟩)]) rfl trivial (enters_of Try.func71 (by kernel_rfl) rfl)
    (encs := fun x : Pl N => #[frV (fr N x.1)]) (T := w.heap.size + 1 + 1 + 1 + 1) (S := fun ys => ys = allPl N) (Sp := fun pre => pre <+: allPl N) (N := len N) (by simp) (fun W hW => visits_row h1 h3 bn.cell W hW) (fun _ => rfl)
    (fun pre X => ((Boxed X w.heap.size 3 (.int .i64 k) ∧ Two X (w.heap.size + 1) 26 0 0) ∧ (Boxed X (w.heap.size + 1 + 1) 22 (.int .i64 0) ∧ Boxed X (w.heap.size + 1 + 1 + 1) 3 (.int .i64 (pre.length : Nat)))) ∧ (Below w.heap.size w X ∧ ¬ (0 ≤ k ∧ k < pre.length)))
    (fun c xs X => (c = .ret ∧ ∃ pre x, xs = pre ++ [x] ∧ (pre.length : Int) = k) ∧ ((Two X (w.heap.size + 1) 26 ((xs.getLast?.map fun x => (fr N x.1).1).getD 0 : Nat) ((xs.getLast?.map fun x => (fr N x.1).2).getD 0 : Nat) ∧ Boxed X (w.heap.size + 1 + 1) 22 (.int .i64 0)) ∧ Below w.heap.size w X))
    ((((bears_box (by simp <;> omega) _ _).and (bears_two (by simp <;> omega) _ _ _)).and ((bears_box (by simp <;> omega) _ _).and (bears_box (by simp <;> omega) _ _))).and ((bears_below (by simp <;> omega) (Nat.le_refl _)).and (bears_pure _ _)))
    (fun c => (bears_pure _ _).and (((bears_two (by simp <;> omega) _ _ _).and (bears_box (by simp <;> omega) _ _)).and (bears_below (by simp <;> omega) (Nat.le_refl _))))
    ⟨⟨⟨bk, br⟩, be, bp⟩, hB, by simp <;> omega⟩
    (fun x => .cells #[.int .i64 (fr N x.1).1, .int .i64 (fr N x.1).2] 26)
    (fun x B => { tmps := #[.int .i64 N, .int .i64 k, undef, .pointer (some ⟨w.heap.size, 0, none⟩), .pointer (some ⟨w.heap.size + 1, 0, none⟩), .pointer (some ⟨w.heap.size + 1 + 1, 0, none⟩), .pointer (some ⟨w.heap.size + 1 + 1 + 1, 0, none⟩), .pointer (some ⟨B, 0, none⟩), .int .i64 N, .bool true, .bool false, undef, .int .i64 N,
      .func (.func 71) #[] #[.pointer (some ⟨w.heap.size + 1 + 1 + 1 + 1, 0, none⟩)], frV (fr N x.1), undef, undef, undef, undef, undef, undef, undef], defers := [] }) ?assign ?body ?done ?stop
  case assign =>
    intro l x W K hK
    unfold frV at hK ⊢
    gi_wp2
    exact hK
  case body =>
    rintro l pre x B W ⟨⟨⟨hk, hr⟩, he, hp⟩, hX, hnk⟩ hbx hB2 hlen
    have hbt : Two W B 26 (fr N x.1).1 (fr N x.1).2 := hbx
    obtain ⟨t0, t1, _, _⟩ := hbt.cells
    have c0 := hk.cell
    obtain ⟨_, _, r0, r1⟩ := hr.cells
    have e0 := he.cell
    have e1 := he.frozen
    have p0 := hp.cell
    have p1 := hp.frozen
    have Hr := Lib.hid hr
    have He := Lib.hid he
    have Hk := Lib.hid hk
    have Hp := Lib.hid hp
    have HX := Lib.hid hX
    have hln : (pre.length : Nat) < 1000000 := by
      have := (len_spec h1).2.2
      have := Nat.mul_le_mul h3 h3
      omega
    have hsn : ((pre ++ [x]).length : Nat) = pre.length + 1 := by simp
    have hla : (pre ++ [x]).getLast? = some x := by simp
    have Hsn := Lib.hid hsn
    have Hla := Lib.hid hla
    have Hnk := Lib.hid hnk
    have hBl : w.heap.size + 1 + 1 + 1 + 1 + 1 ≤ B := by simpa using hB2
    clear hbx hbt hk hr he hp hX hsn hla hnk hB2 hlen bk br be bp bn hB
    by_cases hkp : (pre.length : Int) = k
    · subst hkp
      gi_wp2
      unfold roundEnds
      refine ⟨((KeepsAt.set (by omega) _).trans (KeepsAt.set (by omega) _)).trans (KeepsAt.set (by omega) _), ⟨rfl, pre, x, rfl, rfl⟩, ⟨?_, ?_⟩, ?_⟩
      · rw [Hla.out]
        exact ((Hr.out.set0 _).set1 _).far (by omega)
      · exact ((He.out.at (by omega)).at (by omega)).set _
      · exact ((HX.out.setCell (p := ⟨_, 0, none⟩) (by simp) _).setCell (p := ⟨_, 1, none⟩) (by simp) _).setCell (p := ⟨_, 0, none⟩) (by simp <;> omega) _
    · have hkb : ((pre.length : Int) == k) = false := by rw [beq_eq_false_iff_ne]; exact hkp
      have Hkp := Lib.hid hkp
      clear hkp
      gi_wp2
      unfold roundEnds
      refine ⟨KeepsAt.set (by omega) _, ⟨⟨Hk.out.at (by omega), Hr.out.far (by omega)⟩, He.out.at (by omega), ?_⟩, HX.out.setCell (p := ⟨_, 0, none⟩) (by simp <;> omega) _, ?_⟩
      · rw [Hsn.out]
        exact Hp.out.set (.int .i64 ((pre.length : Int) + 1))
      · have := Hkp.out
        have := Hnk.out
        rw [Hsn.out]; omega
  case done =>
    rintro D xs W hD rfl ⟨⟨⟨hk, hr⟩, he, hp⟩, hX, hnk⟩ hK
    obtain ⟨_, _, r0, r1⟩ := hr.cells
    have e0 := he.cell
    have e1 := he.frozen
    have hln : (allPl N).length = len N := by unfold allPl; exact plTo_len N _ (Nat.le_refl _)
    rw [hln] at hnk
    have hR : itemR N k = ((0, 0), 2) := by unfold itemR; rw [if_neg hnk]
    have HR := Lib.hid hR
    have Hr := Lib.hid hr
    have He := Lib.hid he
    have HX := Lib.hid hX
    have HK := Lib.hid hK
    have hDl : w.heap.size + 1 + 1 + 1 + 1 + 1 ≤ D := by simpa using hD
    clear hk hr he hp hX hnk hK bk br be bp bn hB hR hln hD
    gi_wp2
    refine leaves_cells (w := w) (by simp) (b := w.heap.size + 1) (c := w.heap.size + 1 + 1) (x := 0) (y := 0) (z := 2) (n₀ := w.heap.size + 1 + 1 + 1) (by omega) (by omega) (by omega) ?_ D _ (by omega) ?_ (((Hr.out.set0 0).set1 0).far (by omega)) (((He.out.at (by omega)).at (by omega)).set _) ?_
    · intro Y h1 h2 h3
      obtain ⟨k0, k1, _, _⟩ := h1.cells
      have k2 := h2.cell
      refine ⟨.tuple #[frV (0, 0), .int .i64 2], ?_, by rw [HR.out], h3⟩
      simp [results, Try.f15, go_sem, k0, k1, k2, frV]
    · rw [Below.heap_setCell _ _ _ _ (by simp <;> omega), Below.heap_setCell _ _ _ _ (by simp <;> omega), Below.heap_setCell _ _ _ _ (by simp <;> omega)]; exact HK.out
    · exact ((HX.out.setCell (p := ⟨_, 0, none⟩) (by simp) _).setCell (p := ⟨_, 1, none⟩) (by simp) _).setCell (p := ⟨_, 0, none⟩) (by simp <;> omega) _
  case stop =>
    rintro D c pre W hD hpre ⟨⟨rfl, pre', x, rfl, hk⟩, ⟨hr, he⟩, hX⟩ hK
    have hla : (pre' ++ [x]).getLast? = some x := by simp
    rw [hla] at hr
    obtain ⟨hx1, hx2⟩ := pl_last hpre
    have hR : itemR N k = (fr N x.1, 0) := by unfold itemR; rw [if_pos (by omega), hx1, ← hk]; rfl
    have hDl : w.heap.size + 1 + 1 + 1 + 1 + 1 ≤ D := by simpa using hD
    gi_wp2
    refine leaves_cells (w := w) (by simp) (b := w.heap.size + 1) (c := w.heap.size + 1 + 1) (x := (fr N x.1).1) (y := (fr N x.1).2) (z := 0) (n₀ := w.heap.size + 1 + 1 + 1) (by omega) (by omega) (by omega) ?_ D _ (by omega) hK hr he hX
    intro Y h1 h2 h3
    obtain ⟨k0, k1, _, _⟩ := h1.cells
    have k2 := h2.cell
    refine ⟨.tuple #[frV (fr N x.1), .int .i64 0], ?_, by rw [hR], h3⟩
    simp [results, Try.f15, go_sem, k0, k1, k2, frV]

set_option maxRecDepth 100000 in
set_option maxHeartbeats 4000000 in
theorem Item_no (n k : Int) (hn : rowB n = false) (w : World) :
    Calls Try.prog 15 #[.int .i64 n, .int .i64 k] w fun e w' => e = .returned (.tuple #[frV (0, 0), .int .i64 2]) ∧ Below w.heap.size w w' := by
  refine (callsIn_wide (n := 6)).1 ?_
  have Hrow := Lib.hid hn
  clear hn
  refine callsIn_of_wp_marks Try.func15 rfl trivial ?_ rfl
  simp only [Try.ntmps15, List.size_toArray, List.length_cons, List.length_nil, Nat.reduceAdd, Nat.reduceSub, Array.replicate_succ, Array.replicate_zero, List.push_toArray, List.append_toArray, List.nil_append, List.cons_append]
  gi_wp2_with (refine ⟨trivial, ?_⟩; gi_at_call 51; refine (callsIn_wide.2 (row_51_any _ _)).mono ?_; rintro e w' ⟨rfl, rfl⟩; rw [Hrow.out])
  refine ⟨.tuple #[frV (0, 0), .int .i64 2], ?_, rfl, ?_⟩
  · simp [results, Try.f15, go_sem, frV]
  · exact b_next (b_next (below_alloc _ _) (below_alloc _ _)) (below_alloc _ _)
end Go.Proofs.Ytelipknnfagnjaa
