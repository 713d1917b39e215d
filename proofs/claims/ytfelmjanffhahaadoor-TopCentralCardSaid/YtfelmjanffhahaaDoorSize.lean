/- Size and Item: ranges over the row. -/
import Derived.Test.YtfelmjanffhahaaDoorSeq
namespace Go.Proofs.YtfelmjanffhahaaDoor
set_option linter.unusedVariables false
open Go.RowKit Go.Shelf
attribute [local go_sem] Oper.semAt_some

/-- a block for deferred calls, as a range over a function leaves it -/
def markD (D : Nat) : Deferred := { target := .collected D, args := #[] }

/-- the blocks of the ranges that have ended lie open -/
def Marks (n₀ : Nat) (Ds : List Nat) (W : World) : Prop := Ds.Nodup ∧ ∀ D, D ∈ Ds → n₀ ≤ D ∧ W.heap[D]? = some (.deferred (some []))
theorem leaves_marks {F : Fence} {n : Nat} {P : Program} {fn : Func} {tmps : Array Value} {R : Ending → World → Prop} {u : FrameMode} (hu : u ≠ .run) {n₀ : Nat} {Φ : World → Prop}
    (hΦ : ∀ W D, Φ W → n₀ ≤ D → W.heap[D]? = some (.deferred (some [])) → Φ (W.putObj D (.deferred none))) (hend : ∀ W, Φ W → LeavesInM F n P fn tmps R [] u W) :
    ∀ Ds W, Marks n₀ Ds W → Φ W → LeavesInM F n P fn tmps R (Ds.map markD) u W
  | [], W, _, h => hend W h
  | D :: Ds, W, hM, h => by
    have hD := hM.2 D (by simp)
    refine ⟨hu, .inl ⟨D, _, rfl, run_takeDeferred hD.2, ?_⟩⟩
    refine leaves_marks hu hΦ hend Ds _ ⟨(List.nodup_cons.1 hM.1).2, fun D' h' => ⟨(hM.2 D' (by simp [h'])).1, ?_⟩⟩ (hΦ W D h hD.1 hD.2)
    rw [World.putObj_heap_other (by rintro rfl; exact (List.nodup_cons.1 hM.1).1 h')]
    exact (hM.2 D' (by simp [h'])).2
theorem Marks.push {n₀ : Nat} {Ds : List Nat} {W W' : World} (h : Marks n₀ Ds W) {D : Nat} (hD : W.heap.size ≤ D) (h0 : n₀ ≤ D) (hW : ∀ D, D ∈ Ds → W'.heap[D]? = some (.deferred (some []))) (hK : W'.heap[D]? = some (.deferred (some []))) : Marks n₀ (D :: Ds) W' := by
  refine ⟨List.nodup_cons.2 ⟨fun hm => ?_, h.1⟩, fun D' h' => ?_⟩
  · have := (Array.getElem?_eq_some_iff.1 (h.2 D hm).2).1; omega
  · rcases List.mem_cons.1 h' with rfl | h'
    · exact ⟨h0, hK⟩
    · exact ⟨(h.2 D' h').1, hW D' h'⟩

/-- one range has ended: its mark is taken -/
theorem leaves_one {F : Fence} {n : Nat} {P : Program} {fn : Func} {tmps : Array Value} {R : Ending → World → Prop} {u : FrameMode} (hu : u ≠ .run) {n₀ : Nat} {Φ : World → Prop}
    (hΦ : ∀ W D, Φ W → n₀ ≤ D → W.heap[D]? = some (.deferred (some [])) → Φ (W.putObj D (.deferred none))) (hend : ∀ W, Φ W → LeavesInM F n P fn tmps R [] u W)
    (D : Nat) (W : World) (hD : n₀ ≤ D) (hK : W.heap[D]? = some (.deferred (some []))) (h : Φ W) : LeavesInM F n P fn tmps R [markD D] u W :=
  leaves_marks hu hΦ hend [D] W ⟨by simp, fun D' h' => by rw [List.mem_singleton] at h'; subst h'; exact ⟨hD, hK⟩⟩ h
theorem visits_row {N : Nat} (h1 : 1 ≤ N) (h3 : N ≤ 300) {Be : Nat} {V : World} (hbe : V.cell? ⟨Be, 0, none⟩ = some (.int .i64 N)) (W : World) (hW : V.grownBy W none) :
    Visits Fence.wide 5 Tryd.prog 52 #[.pointer (some ⟨Be, 0, none⟩)] (fun x : Pl N => #[frV (fr N x.1)]) Be (fun ys => ys = allPl N) (fun pre => pre <+: allPl N) (len N) W :=
  row1_visits 5 (by omega) N h1 h3 Be Be W (Nat.le_refl _) ((World.cell?_of_block (a := ⟨Be, 0, none⟩) (hW.block Be (World.block_lt_of_cell? _ _ hbe) (by simp))).trans hbe)

theorem row_in (n : Nat) (N : Int) (w : World) :
    CallsIn Fence.wide n Tryd.prog 38 #[.int .i64 N] w fun e' w' => e' = .returned (.func (.func 52) #[] #[.pointer (some ⟨w.heap.size, 0, none⟩)]) ∧
      w' = w.alloc (.cells #[.int .i64 N] 3) := by
  refine callsIn_of_wp Tryd.func38 rfl trivial ?_ rfl
  simp only [Tryd.ntmps38, List.size_toArray, List.length_cons, List.length_nil, Nat.reduceAdd, Nat.reduceSub, Array.replicate_succ, Array.replicate_zero, List.push_toArray, List.append_toArray, List.nil_append, List.cons_append]
  gi_wp2
  go_ret
  exact ⟨rfl, rfl⟩

set_option maxRecDepth 100000 in
set_option maxHeartbeats 4000000 in
theorem Size_yes (N : Nat) (h1 : 1 ≤ N) (h3 : N ≤ 300) (w : World) :
    Calls Tryd.prog 25 #[.int .i64 N] w fun e w' => e = .returned (.tuple #[.int .i64 (len N), .int .i64 0]) ∧ Below w.heap.size w w' := by
  refine (callsIn_wide (n := 6)).1 ?_
  have hrow : rowB N = true := by unfold rowB; simp; omega
  have Hrow := Lib.hid hrow
  clear hrow
  refine callsIn_of_wp_marks Tryd.func25 rfl trivial ?_ rfl
  simp only [Tryd.ntmps25, List.size_toArray, List.length_cons, List.length_nil, Nat.reduceAdd, Nat.reduceSub, Array.replicate_succ, Array.replicate_zero, List.push_toArray, List.append_toArray, List.nil_append, List.cons_append]
  gi_wp2_with (first
    | (refine ⟨trivial, ?_⟩; gi_at_call 37; refine (callsIn_wide.2 (row_37_any _ _)).mono ?_; rintro e w' ⟨rfl, rfl⟩; rw [Hrow.out])
    | (refine ⟨trivial, ?_⟩; gi_at_call 38; refine (row_in _ _ _).mono ?_; rintro e w' ⟨rfl, rfl⟩))
  have bs := (Boxed.new w' 3 (.int .i64 0)).alloc (.cells #[.int .i64 N] 3)
  have be := Boxed.new (w'.alloc (.cells #[.int .i64 0] 3)) 3 (.int .i64 N)
  simp only [World.size_alloc] at be
  have hB := b_next (below_alloc w' (.cells #[.int .i64 0] 3)) (below_alloc _ (.cells #[.int .i64 N] 3))
  refine range_visits (α := Pl N) rfl (by omega) (gf := 52) (lb := #[.pointer (some ⟨w'.heap.size + 1, 0, none⟩)]) rfl trivial (enters_of Tryd.func52 (by kernel_rfl) rfl)
    (encs := fun x : Pl N => #[frV (fr N x.1)]) (T := w'.heap.size + 1) (S := fun ys => ys = allPl N) (Sp := fun pre => pre <+: allPl N) (N := len N) (by simp) (fun W hW => visits_row h1 h3 be.cell W hW) (fun _ => rfl)
    (fun pre X => Boxed X w'.heap.size 3 (.int .i64 (pre.length : Nat)) ∧ Below w'.heap.size w' X) (fun _ _ _ => False)
    ((bears_box (by simp; omega) _ _).and (bears_below (by simp; omega) (Nat.le_refl _))) (fun _ _ _ _ _ h _ _ => h) ⟨bs, hB⟩
    (fun x => { tmps := #[.int .i64 N, undef, .int .i64 0, .int .i64 0, .pointer (some ⟨w'.heap.size, 0, none⟩), .int .i64 N, .bool true, .bool false, .int .i64 N, .func (.func 52) #[] #[.pointer (some ⟨w'.heap.size + 1, 0, none⟩)], frV (fr N x.1), undef, undef, undef], defers := [] }) ?assign ?body ?done ?stop
  case assign =>
    intro l x W K hK
    gi_wp2
    simpa using hK
  case body =>
    rintro l pre x W ⟨hb, hX⟩ hlen
    have c0 := hb.cell
    have f0 := hb.frozen
    have Hb := Lib.hid hb
    have HX := Lib.hid hX
    have hln : (pre.length : Nat) < 1000000 := by
      have := (len_spec h1).2.2
      have := Nat.mul_le_mul h3 h3
      omega
    have hsn : ((pre ++ [x]).length : Nat) = pre.length + 1 := by simp
    have Hsn := Lib.hid hsn
    clear hb hX hsn
    gi_wp2
    refine ⟨KeepsAt.of_grown (grownBy_set W _ 0 _) (fun r e => by have := Option.some.inj e; omega), ?_, HX.out.setCell (p := ⟨_, 0, none⟩) (Nat.le_refl _) _⟩
    rw [Hsn.out]
    exact Hb.out.set (.int .i64 ((pre.length : Int) + 1))
  case done =>
    rintro D xs W hD rfl ⟨hb, hX⟩ hK
    have c0 := hb.cell
    have hln : (allPl N).length = len N := by unfold allPl; exact plTo_len N _ (Nat.le_refl _)
    rw [hln] at c0
    gi_wp2
    refine leaves_one (by simp) (n₀ := w'.heap.size) (Φ := fun X => Below w'.heap.size w' X) ?_ ?_ D W (by simp at hD; omega) hK hX
    · intro Y D' h hD' _
      exact h.grown (grownBy_putObj' Y D' _) h.size (fun q e => by cases e; exact hD')
    · intro Y h
      refine ⟨.tuple #[.int .i64 (len N), .int .i64 0], ?_, rfl, h⟩
      simp [results, Tryd.f25, go_sem]
  case stop => intro D c pre W _ _ h; exact h.elim

set_option maxRecDepth 100000 in
set_option maxHeartbeats 4000000 in
theorem Size_no (n : Int) (hn : rowB n = false) (w : World) :
    Calls Tryd.prog 25 #[.int .i64 n] w fun e w' => e = .returned (.tuple #[.int .i64 0, .int .i64 2]) ∧ w' = w := by
  refine (callsIn_wide (n := 6)).1 ?_
  have Hrow := Lib.hid hn
  clear hn
  refine callsIn_of_wp_marks Tryd.func25 rfl trivial ?_ rfl
  simp only [Tryd.ntmps25, List.size_toArray, List.length_cons, List.length_nil, Nat.reduceAdd, Nat.reduceSub, Array.replicate_succ, Array.replicate_zero, List.push_toArray, List.append_toArray, List.nil_append, List.cons_append]
  gi_wp2_with (refine ⟨trivial, ?_⟩; gi_at_call 37; refine (callsIn_wide.2 (row_37_any _ _)).mono ?_; rintro e w' ⟨rfl, rfl⟩; rw [Hrow.out])
  refine ⟨.tuple #[.int .i64 0, .int .i64 2], ?_, rfl, rfl⟩
  simp [results, Tryd.f25, go_sem]
end Go.Proofs.YtfelmjanffhahaaDoor
