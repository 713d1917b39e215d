/- Next: the first fraction of the row that is greater. -/
import Derived.Test.YtfelmjanffhahaaDoorItem
namespace Go.Proofs.YtfelmjanffhahaaDoor
set_option linter.unusedVariables false
open Go.RowKit Go.Shelf
attribute [local go_sem] Oper.semAt_some

theorem _root_.Go.Boxed.below {W W' : World} {B : Nat} {t : TypeId} {v : Value} (h : Boxed W B t v) (hb : Below W.heap.size W W') : Boxed W' B t v := Eq.trans (hb.block B h.lt) h

theorem grown_of {w w' : World} (h : Below w.heap.size w w') (row : Option Nat) : w.grownBy w' row := ⟨h.1, h.2, h.3, h.4, fun k hk _ => h.5 k hk⟩

/-- a round is left by a return: the result lies in its boxes -/
def RetAt {N : Nat} (w : World) (P : List (Pl N) → Pl N → Prop) (cd : Code) (xs : List (Pl N)) (X : World) : Prop :=
  ∃ pre x, cd = .ret ∧ xs = pre ++ [x] ∧ P pre x ∧ Two X (w.heap.size + 1) 23 (fr N x.1).1 (fr N x.1).2 ∧ Boxed X (w.heap.size + 1 + 1) 24 (.int .i64 0) ∧ Below w.heap.size w X
theorem bears_retAt {N B : Nat} {w : World} {P : List (Pl N) → Pl N → Prop} {cd : Code} (hB : w.heap.size + 1 + 1 < B) : Bears B (RetAt w P cd) := by
  rintro s W W' row ⟨pre, x, h1, h2, h3, h4, h5, h6⟩ hg hr
  exact ⟨pre, x, h1, h2, h3, h4.kept hg (fun e => by have := hr _ e.symm; omega), h5.kept hg (fun e => by have := hr _ e.symm; omega), h6.grown hg h6.size (fun k e => by have := hr k e; omega)⟩

theorem fr_small {N : Nat} (h1 : 1 ≤ N) (h3 : N ≤ 300) {k : Nat} (hk : k ≤ len N) : FrS 10000000 (fr N k) := by
  have := st_small h1 h3 hk
  exact ⟨Nat.le_trans this.a (by omega), Nat.le_trans this.b (by omega)⟩

theorem all_mem {N i : Nat} (h : i < len N) : (⟨i, h⟩ : Pl N) ∈ allPl N := by
  unfold allPl plTo
  exact List.mem_filterMap.2 ⟨i, List.mem_range.2 h, by simp [h]⟩
theorem pl_mem {N : Nat} {pre : List (Pl N)} {x : Pl N} (h : pre ++ [x] <+: allPl N) {i : Nat} (hi : i < pre.length) : ∃ y, y ∈ pre ∧ y.1 = i := by
  obtain ⟨t, ht⟩ := h
  have h1 := congrArg (fun l : List (Pl N) => (l.map fun x => x.1)[i]?) ht
  simp only [allPl, plTo_val N _ (Nat.le_refl _)] at h1
  rw [List.map_append, List.map_append, List.getElem?_append_left (by simp; omega), List.getElem?_append_left (by simpa using hi), List.getElem?_map, List.getElem?_eq_getElem hi] at h1
  simp only [Option.map_some] at h1
  rw [eq_comm, List.getElem?_eq_some_iff] at h1
  obtain ⟨h2, h3⟩ := h1
  rw [List.getElem_range] at h3
  exact ⟨pre[i], List.getElem_mem hi, h3.symm⟩

/-- r is the first fraction of the row that is greater than x, or there is none -/
def NextSpec (N : Nat) (x : Nat × Nat) (r : (Nat × Nat) × Int) : Prop :=
  (∃ j, j < len N ∧ lessF x (fr N j) = true ∧ (∀ i, i < j → lessF x (fr N i) = false) ∧ r = (fr N j, 0)) ∨ ((∀ i, i < len N → lessF x (fr N i) = false) ∧ r = ((0, 0), 6))

set_option maxRecDepth 100000 in
set_option maxHeartbeats 4000000 in
theorem Next_yes (N p q : Nat) (h1 : 1 ≤ N) (h3 : N ≤ 300) (hv : validB p q = true) (w : World) :
    Calls Tryd.prog 19 #[.int .i64 N, .agg #[.int .i64 p, .int .i64 q]] w fun e w' => (∃ r, NextSpec N (p, q) r ∧ e = .returned (.tuple #[frV r.1, .int .i64 r.2])) ∧ Below w.heap.size w w' := by
  refine (callsIn_wide (n := 6)).1 ?_
  have hrow : rowB N = true := by unfold rowB; simp; omega
  have Hrow := Lib.hid hrow
  have HV := Lib.hid hv
  clear hrow
  refine callsIn_of_wp_marks Tryd.func19 rfl trivial ?_ rfl
  simp only [Tryd.ntmps19, List.size_toArray, List.length_cons, List.length_nil, Nat.reduceAdd, Nat.reduceSub, Array.replicate_succ, Array.replicate_zero, List.push_toArray, List.append_toArray, List.nil_append, List.cons_append]
  have A0 : Two (((w.alloc (.cells #[.int .i64 p, .int .i64 q] 23)).alloc (.cells #[.int .i64 0, .int .i64 0] 23)).alloc (.cells #[.int .i64 0] 24)) w.heap.size 23 p q := ((Two.new w _ _ _).alloc _).alloc _
  have A1 : Two (((w.alloc (.cells #[.int .i64 p, .int .i64 q] 23)).alloc (.cells #[.int .i64 0, .int .i64 0] 23)).alloc (.cells #[.int .i64 0] 24)) (w.heap.size + 1) 23 0 0 := by
    have := (Two.new (w.alloc (.cells #[.int .i64 p, .int .i64 q] 23)) 23 0 0).alloc (.cells #[.int .i64 0] 24)
    simpa only [World.size_alloc] using this
  have A2 : Boxed (((w.alloc (.cells #[.int .i64 p, .int .i64 q] 23)).alloc (.cells #[.int .i64 0, .int .i64 0] 23)).alloc (.cells #[.int .i64 0] 24)) (w.heap.size + 1 + 1) 24 (.int .i64 0) := by
    have := Boxed.new ((w.alloc (.cells #[.int .i64 p, .int .i64 q] 23)).alloc (.cells #[.int .i64 0, .int .i64 0] 23)) 24 (.int .i64 0)
    simpa only [World.size_alloc] using this
  have AB := b_next (b_next (below_alloc w (.cells #[.int .i64 p, .int .i64 q] 23)) (below_alloc _ (.cells #[.int .i64 0, .int .i64 0] 23))) (below_alloc _ (.cells #[.int .i64 0] 24))
  have HA := Lib.hid (And.intro A0 (And.intro A1 (And.intro A2 AB)))
  clear A0 A1 A2 AB
  gi_wp2_with (first
    | (refine ⟨trivial, ?_⟩; gi_at_call 37; refine (callsIn_wide.2 (row_37_any _ _)).mono ?_; rintro e w' ⟨rfl, rfl⟩; rw [Hrow.out])
    | (refine ⟨trivial, ?_⟩; gi_at_call 31; refine (callsIn_wide.2 (isValid_any _ _ _)).mono ?_; rintro e w1 ⟨rfl, b1⟩; rw [HV.out])
    | (refine ⟨trivial, ?_⟩; gi_at_call 38; refine (row_in _ _ _).mono ?_; rintro e w' ⟨rfl, rfl⟩))
  have A0 := (HA.out.1.below b1).alloc (.cells #[.int .i64 N] 3)
  have A1 := (HA.out.2.1.below b1).alloc (.cells #[.int .i64 N] 3)
  have A2 := (HA.out.2.2.1.below b1).alloc (.cells #[.int .i64 N] 3)
  have AB := b_next (b_next HA.out.2.2.2 b1) (below_alloc _ (.cells #[.int .i64 N] 3))
  have An := Boxed.new w1 3 (.int .i64 N)
  have hl1 := (HA.out.2.2.1.below b1).lt
  clear HA b1
  refine range_visits_box (α := Pl N) rfl (by omega) (gf := 52) (lb := #[.pointer (some ⟨w1.heap.size, 0, none⟩)]) rfl trivial (enters_of Tryd.func52 (by kernel_rfl) rfl)
    (encs := fun x : Pl N => #[frV (fr N x.1)]) (T := w1.heap.size) (S := fun ys => ys = allPl N) (Sp := fun pre => pre <+: allPl N) (N := len N) (by simp) (fun W hW => visits_row h1 h3 An.cell W hW) (fun _ => rfl)
    (fun pre X => ((Two X w.heap.size 23 p q ∧ Two X (w.heap.size + 1) 23 0 0) ∧ Boxed X (w.heap.size + 1 + 1) 24 (.int .i64 0)) ∧ (Below w.heap.size w X ∧ ∀ y : Pl N, y ∈ pre → lessF (p, q) (fr N y.1) = false))
    (fun c xs X => RetAt w (fun pre x => lessF (p, q) (fr N x.1) = true ∧ ∀ y : Pl N, y ∈ pre → lessF (p, q) (fr N y.1) = false) c xs X)
    ((((bears_two (by simp <;> omega) _ _ _).and (bears_two (by simp <;> omega) _ _ _)).and (bears_box (by simp <;> omega) _ _)).and ((bears_below (by simp <;> omega) (Nat.le_refl _)).and (bears_pure _ _)))
    (fun c => bears_retAt (by simp <;> omega))
    ⟨⟨⟨A0, A1⟩, A2⟩, AB, fun y hy => absurd hy (by simp)⟩
    (fun x => .cells #[.int .i64 (fr N x.1).1, .int .i64 (fr N x.1).2] 23)
    (fun x B => { tmps := #[.int .i64 N, .agg #[.int .i64 p, .int .i64 q], undef, .pointer (some ⟨w.heap.size, 0, none⟩), .pointer (some ⟨w.heap.size + 1, 0, none⟩), .pointer (some ⟨w.heap.size + 1 + 1, 0, none⟩), .pointer (some ⟨B, 0, none⟩), .int .i64 N, .bool true, .bool false, .bool false,
      .agg #[.int .i64 p, .int .i64 q], .bool true, .bool false, .bool false, undef, .int .i64 N, .func (.func 52) #[] #[.pointer (some ⟨w1.heap.size, 0, none⟩)], frV (fr N x.1), undef, undef, undef, undef, undef], defers := [] }) ?assign ?body ?done ?stop
  case assign =>
    intro l x W K hK
    unfold frV at hK ⊢
    gi_wp2
    exact hK
  case body =>
    rintro l pre x B W ⟨⟨⟨hf, hr⟩, he⟩, hX, hno⟩ hbx hB2 hlen
    have hbt : Two W B 23 (fr N x.1).1 (fr N x.1).2 := hbx
    obtain ⟨t0, t1, _, _⟩ := hbt.cells
    obtain ⟨f0, f1, _, _⟩ := hf.cells
    have hvb := valid_nat hv
    have hl := fun w => isLess_any (p, q) (fr N x.1) (by obtain ⟨a', b', e1, e2, _, k2, k3, _⟩ := hvb; exact ⟨by simp only; omega, by simp only; omega⟩) (fr_small h1 h3 (Nat.le_of_lt x.2)) w
    unfold frV at hl
    simp only at hl
    have Hf := Lib.hid hf
    have Ht := Lib.hid hbt
    have Hr := Lib.hid hr
    have He := Lib.hid he
    have HX := Lib.hid hX
    have Hno := Lib.hid hno
    have hBl : w1.heap.size + 1 ≤ B := by simpa using hB2
    have hsn : ((pre ++ [x]).length : Nat) = pre.length + 1 := by simp
    have Hsn := Lib.hid hsn
    clear hbx hbt hf hr he hX hno hB2 A0 A1 A2 AB An hvb hsn
    cases hc : lessF (p, q) (fr N x.1) with
    | true =>
      rw [hc] at hl
      have HL := Lib.hid hl
      have Hc := Lib.hid hc
      clear hl hc
      gi_wp2_with (refine ⟨trivial, ?_⟩; gi_at_call 34; refine (CallsIn.inRound _ (callsIn_wide.2 (HL.out _))).mono ?_; rintro e w2 ⟨rfl, b2⟩; have HT2 := Lib.hid (Ht.out.below b2); have HR2 := Lib.hid (Hr.out.below b2); have HE2 := Lib.hid (He.out.below b2); obtain ⟨u0, u1, _, _⟩ := HT2.out.cells; obtain ⟨_, _, r0, r1⟩ := HR2.out.cells; have e0 := HE2.out.cell; have e1 := HE2.out.frozen)
      unfold roundEnds
      have hs2 := HE2.out.lt
      have hs3 := b2.size
      refine ⟨(KeepsAt.of_grown (grown_of b2 none) (by simp)).trans (((KeepsAt.set (by omega) _).trans (KeepsAt.set (by omega) _)).trans (KeepsAt.set (by omega) _)), pre, x, rfl, rfl, ⟨Hc.out, Hno.out⟩, ?_, ?_, ?_⟩
      · exact ((HR2.out.set0 _).set1 _).far (by omega)
      · exact ((HE2.out.at (by omega)).at (by omega)).set _
      · exact (((b_next HX.out b2).setCell (p := ⟨_, 0, none⟩) (by simp) _).setCell (p := ⟨_, 1, none⟩) (by simp) _).setCell (p := ⟨_, 0, none⟩) (by simp <;> omega) _
    | false =>
      rw [hc] at hl
      have HL := Lib.hid hl
      have Hc := Lib.hid hc
      clear hl hc
      gi_wp2_with (refine ⟨trivial, ?_⟩; gi_at_call 34; refine (CallsIn.inRound _ (callsIn_wide.2 (HL.out _))).mono ?_; rintro e w2 ⟨rfl, b2⟩)
      unfold roundEnds
      refine ⟨KeepsAt.of_grown (grown_of b2 none) (by simp), ⟨⟨Hf.out.below b2, Hr.out.below b2⟩, He.out.below b2⟩, b_next HX.out b2, fun y hy => ?_⟩
      rcases List.mem_append.1 hy with h | h
      · exact Hno.out y h
      · rw [List.mem_singleton] at h; rw [h]; exact Hc.out
  case done =>
    rintro D xs W hD rfl ⟨⟨⟨hf, hr⟩, he⟩, hX, hno⟩ hK
    obtain ⟨_, _, r0, r1⟩ := hr.cells
    have e0 := he.cell
    have e1 := he.frozen
    have hN : NextSpec N (p, q) ((0, 0), 6) := .inr ⟨fun i hi => hno ⟨i, hi⟩ (all_mem hi), rfl⟩
    have HN := Lib.hid hN
    have Hr := Lib.hid hr
    have He := Lib.hid he
    have HX := Lib.hid hX
    have HK := Lib.hid hK
    have hDl : w1.heap.size + 1 ≤ D := by simpa using hD
    clear hf hr he hX hno hK hN A0 A1 A2 AB An hD
    gi_wp2
    refine leaves_cells (w := w) (by simp) (b := w.heap.size + 1) (c := w.heap.size + 1 + 1) (x := 0) (y := 0) (z := 6) (n₀ := w.heap.size + 1 + 1 + 1) (by omega) (by omega) (by omega) ?_ D _ (by omega) ?_ (((Hr.out.set0 0).set1 0).far (by omega)) (((He.out.at (by omega)).at (by omega)).set _) ?_
    · intro Y h1 h2 h3
      obtain ⟨k0, k1, _, _⟩ := h1.cells
      have k2 := h2.cell
      refine ⟨.tuple #[frV (0, 0), .int .i64 6], ?_, ⟨_, HN.out, rfl⟩, h3⟩
      simp [results, Tryd.f19, go_sem, k0, k1, k2, frV]
    · rw [Below.heap_setCell _ _ _ _ (by simp <;> omega), Below.heap_setCell _ _ _ _ (by simp <;> omega), Below.heap_setCell _ _ _ _ (by simp <;> omega)]; exact HK.out
    · exact ((HX.out.setCell (p := ⟨_, 0, none⟩) (by simp) _).setCell (p := ⟨_, 1, none⟩) (by simp) _).setCell (p := ⟨_, 0, none⟩) (by simp <;> omega) _
  case stop =>
    rintro D c pre W hD hpre ⟨pre', x, rfl, rfl, ⟨hc, hno⟩, hr, he, hX⟩ hK
    obtain ⟨hx1, hx2⟩ := pl_last hpre
    have hN : NextSpec N (p, q) (fr N x.1, 0) := .inl ⟨x.1, x.2, hc, fun i hi => by obtain ⟨y, hy, rfl⟩ := pl_mem hpre (show i < pre'.length by omega); exact hno y hy, rfl⟩
    have hDl : w1.heap.size + 1 ≤ D := by simpa using hD
    gi_wp2
    refine leaves_cells (w := w) (by simp) (b := w.heap.size + 1) (c := w.heap.size + 1 + 1) (x := (fr N x.1).1) (y := (fr N x.1).2) (z := 0) (n₀ := w.heap.size + 1 + 1 + 1) (by omega) (by omega) (by omega) ?_ D _ (by omega) hK hr he hX
    intro Y h1 h2 h3
    obtain ⟨k0, k1, _, _⟩ := h1.cells
    have k2 := h2.cell
    refine ⟨.tuple #[frV (fr N x.1), .int .i64 0], ?_, ⟨_, hN, rfl⟩, h3⟩
    simp [results, Tryd.f19, go_sem, k0, k1, k2, frV]

set_option maxRecDepth 100000 in
set_option maxHeartbeats 4000000 in
theorem Next_no (n p q : Int) (hn : (rowB n && validB p q) = false) (w : World) :
    Calls Tryd.prog 19 #[.int .i64 n, .agg #[.int .i64 p, .int .i64 q]] w fun e w' => e = .returned (.tuple #[frV (0, 0), .int .i64 2]) ∧ Below w.heap.size w w' := by
  refine (callsIn_wide (n := 6)).1 ?_
  have A1 : Two (((w.alloc (.cells #[.int .i64 p, .int .i64 q] 23)).alloc (.cells #[.int .i64 0, .int .i64 0] 23)).alloc (.cells #[.int .i64 0] 24)) (w.heap.size + 1) 23 0 0 := by
    have := (Two.new (w.alloc (.cells #[.int .i64 p, .int .i64 q] 23)) 23 0 0).alloc (.cells #[.int .i64 0] 24)
    simpa only [World.size_alloc] using this
  have A2 : Boxed (((w.alloc (.cells #[.int .i64 p, .int .i64 q] 23)).alloc (.cells #[.int .i64 0, .int .i64 0] 23)).alloc (.cells #[.int .i64 0] 24)) (w.heap.size + 1 + 1) 24 (.int .i64 0) := by
    have := Boxed.new ((w.alloc (.cells #[.int .i64 p, .int .i64 q] 23)).alloc (.cells #[.int .i64 0, .int .i64 0] 23)) 24 (.int .i64 0)
    simpa only [World.size_alloc] using this
  have AB := b_next (b_next (below_alloc w (.cells #[.int .i64 p, .int .i64 q] 23)) (below_alloc _ (.cells #[.int .i64 0, .int .i64 0] 23))) (below_alloc _ (.cells #[.int .i64 0] 24))
  have HA := Lib.hid (And.intro A1 (And.intro A2 AB))
  clear A1 A2 AB
  refine callsIn_of_wp_marks Tryd.func19 rfl trivial ?_ rfl
  simp only [Tryd.ntmps19, List.size_toArray, List.length_cons, List.length_nil, Nat.reduceAdd, Nat.reduceSub, Array.replicate_succ, Array.replicate_zero, List.push_toArray, List.append_toArray, List.nil_append, List.cons_append]
  cases h1 : rowB n with
  | false =>
    have Hrow := Lib.hid h1
    clear h1 hn
    gi_wp2_with (refine ⟨trivial, ?_⟩; gi_at_call 37; refine (callsIn_wide.2 (row_37_any _ _)).mono ?_; rintro e w' ⟨rfl, rfl⟩; rw [Hrow.out])
    refine ⟨trivial, ?_⟩
    gi_wp2
    refine ⟨.tuple #[frV (0, 0), .int .i64 2], ?_, rfl, ?_⟩
    · simp [results, Tryd.f19, go_sem, frV]
    · exact b_next (b_next (below_alloc _ _) (below_alloc _ _)) (below_alloc _ _)
  | true =>
    have h2 : validB p q = false := by rw [h1, Bool.true_and] at hn; exact hn
    have Hrow := Lib.hid h1
    have HV := Lib.hid h2
    clear h1 hn h2
    gi_wp2_with (first
      | (refine ⟨trivial, ?_⟩; gi_at_call 37; refine (callsIn_wide.2 (row_37_any _ _)).mono ?_; rintro e w' ⟨rfl, rfl⟩; rw [Hrow.out])
      | (refine ⟨trivial, ?_⟩; gi_at_call 31; refine (callsIn_wide.2 (isValid_any _ _ _)).mono ?_; rintro e w1 ⟨rfl, b1⟩; rw [HV.out]; have A1 := Lib.hid (HA.out.1.below b1); have A2 := Lib.hid (HA.out.2.1.below b1); have AB := Lib.hid (b_next HA.out.2.2 b1); obtain ⟨_, _, r0, r1⟩ := A1.out.cells; have e0 := A2.out.cell; have e1 := A2.out.frozen; have l1 := A1.out.lt; have l2 := A2.out.lt))
    have R1 := ((A1.out.set0 0).set1 0).far (B' := w.heap.size + 1 + 1) (o := 0) (v := .int .i64 2) (by omega)
    have R2 := ((A2.out.at (B' := w.heap.size + 1) (o := 0) (u := .int .i64 0) (by omega)).at (B' := w.heap.size + 1) (o := 1) (u := .int .i64 0) (by omega)).set (.int .i64 2)
    obtain ⟨k0, k1, _, _⟩ := R1.cells
    have k2 := R2.cell
    refine ⟨.tuple #[frV (0, 0), .int .i64 2], ?_, rfl, ?_⟩
    · simp [results, Tryd.f19, go_sem, frV, k0, k1, k2]
    · exact ((AB.out.setCell (p := ⟨_, 0, none⟩) (by simp) _).setCell (p := ⟨_, 1, none⟩) (by simp) _).setCell (p := ⟨_, 0, none⟩) (by simp <;> omega) _
end Go.Proofs.YtfelmjanffhahaaDoor
