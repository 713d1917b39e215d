/- Before: the last fraction of the row that is less. -/
import Derived.Test.YtfelmjanffhahaaDoorNext
namespace Go.Proofs.YtfelmjanffhahaaDoor
set_option linter.unusedVariables false
open Go.RowKit Go.Shelf
attribute [local go_sem] Oper.semAt_some

/-- k fractions of the row are less than x: the first ones -/
def BelowSpec (N : Nat) (x : Nat × Nat) (k : Nat) : Prop := k ≤ len N ∧ (∀ i, i < k → lessF (fr N i) x = true) ∧ (k < len N → lessF (fr N k) x = false)
def beforeR (N k : Nat) : (Nat × Nat) × Int := if k = 0 then ((0, 0), 6) else (fr N (k - 1), 0)
def lastF (N : Nat) (pre : List (Pl N)) : Nat × Nat := (pre.getLast?.map fun x => fr N x.1).getD (0, 0)
def lastE {N : Nat} (pre : List (Pl N)) : Int := if pre.length = 0 then 6 else 0
theorem lastF_snoc {N : Nat} (pre : List (Pl N)) (x : Pl N) : lastF N (pre ++ [x]) = fr N x.1 := by unfold lastF; simp
theorem lastE_snoc {N : Nat} (pre : List (Pl N)) (x : Pl N) : lastE (pre ++ [x]) = 0 := by unfold lastE; simp
theorem before_all {N : Nat} (h1 : 1 ≤ N) {pre : List (Pl N)} (h : pre <+: allPl N) : (lastF N pre, lastE pre) = beforeR N pre.length := by
  unfold beforeR
  rcases List.eq_nil_or_concat pre with e | ⟨q, x, e⟩
  · rw [e]; rfl
  · subst e
    simp only [List.concat_eq_append] at h ⊢
    obtain ⟨h1, h2⟩ := pl_last h
    rw [lastF_snoc, lastE_snoc, if_neg (by simp), h1]
    simp

/-- between two rounds of Before -/
def BefI (w w1 : World) (N p q : Nat) (pre : List (Pl N)) (X : World) : Prop :=
  Two X w.heap.size 23 p q ∧ Two X (w.heap.size + 1) 23 0 0 ∧ Two X w1.heap.size 23 (lastF N pre).1 (lastF N pre).2 ∧ Boxed X (w1.heap.size + 1) 24 (.int .i64 (lastE pre)) ∧ Below w.heap.size w X ∧ ∀ y : Pl N, y ∈ pre → lessF (fr N y.1) (p, q) = true
theorem BefI.grown {w w1 : World} {N p q B : Nat} {pre : List (Pl N)} {W W' : World} {row : Option Nat} (h : BefI w w1 N p q pre W) (hB : w.heap.size + 1 < B) (hB2 : w1.heap.size + 1 < B) (hg : W.grownBy W' row) (hr : ∀ r, row = some r → B ≤ r) : BefI w w1 N p q pre W' := by
  obtain ⟨h1, h2, h3, h4, h5, h6⟩ := h
  exact ⟨h1.kept hg (fun e => by have := hr _ e.symm; omega), h2.kept hg (fun e => by have := hr _ e.symm; omega), h3.kept hg (fun e => by have := hr _ e.symm; omega), h4.kept hg (fun e => by have := hr _ e.symm; omega), h5.grown hg h5.size (fun k e => by have := hr k e; omega), h6⟩
theorem bears_befI {w w1 : World} {N p q B : Nat} (hB : w.heap.size + 1 < B) (hB2 : w1.heap.size + 1 < B) : Bears B (BefI w w1 N p q) := fun _ _ _ _ h hg hr => h.grown hB hB2 hg hr
/-- a round of Before is left -/
def BefX (w w1 : World) (N p q : Nat) (cd : Code) (xs : List (Pl N)) (X : World) : Prop := ∃ pre x, cd = .exit 0 ∧ xs = pre ++ [x] ∧ lessF (fr N x.1) (p, q) = false ∧ BefI w w1 N p q pre X
theorem bears_befX {w w1 : World} {N p q B : Nat} {cd : Code} (hB : w.heap.size + 1 < B) (hB2 : w1.heap.size + 1 < B) : Bears B (BefX w w1 N p q cd) := by
  rintro s W W' row ⟨pre, x, h1, h2, h3, h4⟩ hg hr
  exact ⟨pre, x, h1, h2, h3, h4.grown hB hB2 hg hr⟩
/-- a range has ended, and the result lies in a box -/
theorem leaves_cell {F : Fence} {n : Nat} {P : Program} {fn : Func} {tmps : Array Value} {R : Ending → World → Prop} {u : FrameMode} (hu : u ≠ .run) {w : World} {b n₀ : Nat} {x y : Int}
    (hb : b < n₀) (hn : w.heap.size ≤ n₀) (hend : ∀ W, Two W b 23 x y → Below w.heap.size w W → LeavesInM F n P fn tmps R [] u W)
    (D : Nat) (W : World) (hD : n₀ ≤ D) (hK : W.heap[D]? = some (.deferred (some []))) (h1 : Two W b 23 x y) (h3 : Below w.heap.size w W) : LeavesInM F n P fn tmps R [markD D] u W := by
  refine leaves_one hu (n₀ := n₀) (Φ := fun X => Two X b 23 x y ∧ Below w.heap.size w X) ?_ (fun W h => hend W h.1 h.2) D W hD hK ⟨h1, h3⟩
  rintro Y D' ⟨k1, k3⟩ hD' _
  exact ⟨k1.kept (grownBy_putObj' Y D' _) (fun e => by have := Option.some.inj e; omega), k3.grown (grownBy_putObj' Y D' _) k3.size (fun q e => by cases e; omega)⟩

set_option maxRecDepth 100000 in
set_option maxHeartbeats 4000000 in
theorem Before_yes (N p q : Nat) (h1 : 1 ≤ N) (h3 : N ≤ 300) (hv : validB p q = true) (w : World) :
    Calls Tryd.prog 18 #[.int .i64 N, .agg #[.int .i64 p, .int .i64 q]] w fun e w' => (∃ k, BelowSpec N (p, q) k ∧ e = .returned (.tuple #[frV (beforeR N k).1, .int .i64 (beforeR N k).2])) ∧ Below w.heap.size w w' := by
  refine (callsIn_wide (n := 6)).1 ?_
  have hrow : rowB N = true := by unfold rowB; simp; omega
  have Hrow := Lib.hid hrow
  have HV := Lib.hid hv
  clear hrow
  refine callsIn_of_wp_marks Tryd.func18 rfl trivial ?_ rfl
  simp only [Tryd.ntmps18, List.size_toArray, List.length_cons, List.length_nil, Nat.reduceAdd, Nat.reduceSub, Array.replicate_succ, Array.replicate_zero, List.push_toArray, List.append_toArray, List.nil_append, List.cons_append]
  have A0 := (Two.new w 23 p q).alloc (.cells #[.int .i64 0, .int .i64 0] 23)
  have A1 := Two.new (w.alloc (.cells #[.int .i64 p, .int .i64 q] 23)) 23 0 0
  simp only [World.size_alloc] at A1
  have AB := b_next (below_alloc w (.cells #[.int .i64 p, .int .i64 q] 23)) (below_alloc _ (.cells #[.int .i64 0, .int .i64 0] 23))
  have HA := Lib.hid (And.intro A0 (And.intro A1 AB))
  clear A0 A1 AB
  gi_wp2_with (first
    | (refine ⟨trivial, ?_⟩; gi_at_call 37; refine (callsIn_wide.2 (row_37_any _ _)).mono ?_; rintro e w' ⟨rfl, rfl⟩; rw [Hrow.out])
    | (refine ⟨trivial, ?_⟩; gi_at_call 31; refine (callsIn_wide.2 (isValid_any _ _ _)).mono ?_; rintro e w1 ⟨rfl, b1⟩; rw [HV.out])
    | (refine ⟨trivial, ?_⟩; gi_at_call 38; refine (row_in _ _ _).mono ?_; rintro e w' ⟨rfl, rfl⟩))
  have A0 := (((HA.out.1.below b1).alloc (.cells #[.int .i64 0, .int .i64 0] 23)).alloc (.cells #[.int .i64 6] 24)).alloc (.cells #[.int .i64 N] 3)
  have A1 := (((HA.out.2.1.below b1).alloc (.cells #[.int .i64 0, .int .i64 0] 23)).alloc (.cells #[.int .i64 6] 24)).alloc (.cells #[.int .i64 N] 3)
  have A2 := ((Two.new w1 23 0 0).alloc (.cells #[.int .i64 6] 24)).alloc (.cells #[.int .i64 N] 3)
  have A3 := (Boxed.new (w1.alloc (.cells #[.int .i64 0, .int .i64 0] 23)) 24 (.int .i64 6)).alloc (.cells #[.int .i64 N] 3)
  have An := Boxed.new ((w1.alloc (.cells #[.int .i64 0, .int .i64 0] 23)).alloc (.cells #[.int .i64 6] 24)) 3 (.int .i64 N)
  simp only [World.size_alloc] at A3 An
  have AB := b_next (b_next (b_next (b_next HA.out.2.2 b1) (below_alloc _ (.cells #[.int .i64 0, .int .i64 0] 23))) (below_alloc _ (.cells #[.int .i64 6] 24))) (below_alloc _ (.cells #[.int .i64 N] 3))
  have hl1 := (HA.out.2.1.below b1).lt
  clear HA b1
  refine range_visits_box (α := Pl N) rfl (by omega) (gf := 52) (lb := #[.pointer (some ⟨w1.heap.size + 1 + 1, 0, none⟩)]) rfl trivial (enters_of Tryd.func52 (by kernel_rfl) rfl)
    (encs := fun x : Pl N => #[frV (fr N x.1)]) (T := w1.heap.size + 1 + 1) (S := fun ys => ys = allPl N) (Sp := fun pre => pre <+: allPl N) (N := len N) (by simp) (fun W hW => visits_row h1 h3 An.cell W hW) (fun _ => rfl)
    (BefI w w1 N p q) (BefX w w1 N p q) (bears_befI (by simp <;> omega) (by simp <;> omega)) (fun c => bears_befX (by simp <;> omega) (by simp <;> omega))
    ⟨A0, A1, A2, A3, AB, fun y hy => absurd hy (by simp)⟩
    (fun x => .cells #[.int .i64 (fr N x.1).1, .int .i64 (fr N x.1).2] 23)
    (fun x B => { tmps := #[.int .i64 N, .agg #[.int .i64 p, .int .i64 q], undef, .pointer (some ⟨w.heap.size, 0, none⟩), .pointer (some ⟨w.heap.size + 1, 0, none⟩), .int .i64 0, .pointer (some ⟨w1.heap.size, 0, none⟩), .pointer (some ⟨w1.heap.size + 1, 0, none⟩), .pointer (some ⟨B, 0, none⟩), .int .i64 N, .bool true, .bool false, .bool false,
      .agg #[.int .i64 p, .int .i64 q], .bool true, .bool false, .bool false, undef, .agg #[.int .i64 0, .int .i64 0], .int .i64 N, .func (.func 52) #[] #[.pointer (some ⟨w1.heap.size + 1 + 1, 0, none⟩)], frV (fr N x.1), undef, undef, undef, undef, undef, undef, undef], defers := [] }) ?assign ?body ?done ?stop
  case assign =>
    intro l x W K hK
    unfold frV at hK ⊢
    gi_wp2
    exact hK
  case body =>
    rintro l pre x B W ⟨hf, hr, hm, he, hX, hno⟩ hbx hB2 hlen
    have hbt : Two W B 23 (fr N x.1).1 (fr N x.1).2 := hbx
    obtain ⟨t0, t1, _, _⟩ := hbt.cells
    obtain ⟨f0, f1, _, _⟩ := hf.cells
    have hvb := valid_nat hv
    have hl := fun w => isLess_any (fr N x.1) (p, q) (fr_small h1 h3 (Nat.le_of_lt x.2)) (by obtain ⟨a', b', e1, e2, _, k2, k3, _⟩ := hvb; exact ⟨by simp only; omega, by simp only; omega⟩) w
    unfold frV at hl
    simp only at hl
    have Hf := Lib.hid hf
    have Ht := Lib.hid hbt
    have Hr := Lib.hid hr
    have Hm := Lib.hid hm
    have He := Lib.hid he
    have HX := Lib.hid hX
    have Hno := Lib.hid hno
    have hBl : w1.heap.size + 1 + 1 + 1 ≤ B := by simpa using hB2
    clear hbx hbt hf hr hm he hX hno hB2 A0 A1 A2 A3 AB An hvb
    cases hc : lessF (fr N x.1) (p, q) with
    | false =>
      rw [hc] at hl
      have HL := Lib.hid hl
      have Hc := Lib.hid hc
      clear hl hc
      gi_wp2_with (refine ⟨trivial, ?_⟩; gi_at_call 34; refine (CallsIn.inRound _ (callsIn_wide.2 (HL.out _))).mono ?_; rintro e w2 ⟨rfl, b2⟩)
      refine ⟨KeepsAt.of_grown (grown_of b2 none) (by simp), pre, x, rfl, rfl, Hc.out, Hf.out.below b2, Hr.out.below b2, Hm.out.below b2, He.out.below b2, b_next HX.out b2, Hno.out⟩
    | true =>
      rw [hc] at hl
      have HL := Lib.hid hl
      have Hc := Lib.hid hc
      clear hl hc
      gi_wp2_with (refine ⟨trivial, ?_⟩; gi_at_call 34; refine (CallsIn.inRound _ (callsIn_wide.2 (HL.out _))).mono ?_; rintro e w2 ⟨rfl, b2⟩; have HT2 := Lib.hid (Ht.out.below b2); have HM2 := Lib.hid (Hm.out.below b2); have HE2 := Lib.hid (He.out.below b2); obtain ⟨u0, u1, _, _⟩ := HT2.out.cells; obtain ⟨m0, m1, r0, r1⟩ := HM2.out.cells; have e0 := HE2.out.cell; have e1 := HE2.out.frozen)
      have hs2 := HE2.out.lt
      have hs3 := b2.size
      refine ⟨(KeepsAt.of_grown (grown_of b2 none) (by simp)).trans (((KeepsAt.set (by omega) _).trans (KeepsAt.set (by omega) _)).trans (KeepsAt.set (by omega) _)), ?_, ?_, ?_, ?_, ?_, fun y hy => ?_⟩
      · exact (((Hf.out.below b2).far (by omega)).far (by omega)).far (by omega)
      · exact (((Hr.out.below b2).far (by omega)).far (by omega)).far (by omega)
      · rw [lastF_snoc]; exact ((HM2.out.set0 _).set1 _).far (by omega)
      · rw [lastE_snoc]; exact ((HE2.out.at (by omega)).at (by omega)).set _
      · exact (((b_next HX.out b2).setCell (p := ⟨_, 0, none⟩) (by simp <;> omega) _).setCell (p := ⟨_, 1, none⟩) (by simp <;> omega) _).setCell (p := ⟨_, 0, none⟩) (by simp <;> omega) _
      · rcases List.mem_append.1 hy with h | h
        · exact Hno.out y h
        · rw [List.mem_singleton] at h; rw [h]; exact Hc.out
  case done =>
    rintro D xs W hD rfl ⟨hf, hr, hm, he, hX, hno⟩ hK
    have hS : BelowSpec N (p, q) (allPl N).length := by
      rw [show (allPl N).length = len N from plTo_len N _ (Nat.le_refl _)]
      exact ⟨Nat.le_refl _, fun i hi => hno ⟨i, hi⟩ (all_mem hi), fun h => absurd h (by omega)⟩
    have hN := before_all h1 (List.prefix_refl (allPl N))
    have HS := Lib.hid hS
    obtain ⟨⟨mx, my⟩, hmm⟩ : ∃ z, lastF N (allPl N) = z := ⟨_, rfl⟩
    obtain ⟨me, hme⟩ : ∃ z, lastE (allPl N) = z := ⟨_, rfl⟩
    rw [hmm, hme] at hN
    rw [hmm] at hm
    rw [hme] at he
    have HN := Lib.hid hN
    have Hm := Lib.hid hm
    have He := Lib.hid he
    have Hr := Lib.hid hr
    have HX := Lib.hid hX
    have HK := Lib.hid hK
    have hDl : w1.heap.size + 1 + 1 + 1 ≤ D := by simpa using hD
    clear hf hr hm he hX hno hK hN hS hmm hme A0 A1 A2 A3 AB An hD
    obtain ⟨c0, c1, _, _⟩ := Hm.out.cells
    have c2 := He.out.cell
    obtain ⟨_, _, r0, r1⟩ := Hr.out.cells
    have sl := Hm.out.lt
    gi_wp2
    gi_region
    gi_wp2
    refine leaves_cell (w := w) (by simp) (b := w.heap.size + 1) (x := mx) (y := my) (n₀ := w.heap.size + 1 + 1) (by omega) (by omega) ?_ D _ (by omega) ?_ ((Hr.out.set0 _).set1 _) ?_
    · intro Y h1 h2
      obtain ⟨k0, k1, _, _⟩ := h1.cells
      refine ⟨.tuple #[frV (mx, my), .int .i64 me], ?_, ⟨_, HS.out, by rw [← HN.out]⟩, h2⟩
      simp [results, Tryd.f18, go_sem, k0, k1, frV]
    · exact (Below.heap_setCell _ _ _ _ (by simp <;> omega)).trans ((Below.heap_setCell _ _ _ _ (by simp <;> omega)).trans HK.out)
    · exact ((HX.out.setCell (p := ⟨_, 0, none⟩) (by simp) _).setCell (p := ⟨_, 1, none⟩) (by simp) _).drew
  case stop =>
    rintro D c pre W hD hpre ⟨pre', x, rfl, rfl, hc, hf, hr, hm, he, hX, hno⟩ hK
    obtain ⟨hx1, hx2⟩ := pl_last hpre
    have hp2 : pre' <+: allPl N := List.IsPrefix.trans (List.prefix_append _ _) hpre
    have hS : BelowSpec N (p, q) pre'.length := ⟨by omega, fun i hi => by obtain ⟨y, hy, rfl⟩ := pl_mem hpre hi; exact hno y hy, fun _ => by rw [← hx1]; exact hc⟩
    have hN := before_all h1 hp2
    have HS := Lib.hid hS
    obtain ⟨⟨mx, my⟩, hmm⟩ : ∃ z, lastF N pre' = z := ⟨_, rfl⟩
    obtain ⟨me, hme⟩ : ∃ z, lastE pre' = z := ⟨_, rfl⟩
    rw [hmm, hme] at hN
    rw [hmm] at hm
    rw [hme] at he
    have HN := Lib.hid hN
    have Hm := Lib.hid hm
    have He := Lib.hid he
    have Hr := Lib.hid hr
    have HX := Lib.hid hX
    have HK := Lib.hid hK
    have hDl : w1.heap.size + 1 + 1 + 1 ≤ D := by simpa using hD
    clear hf hr hm he hX hno hK hN hS hmm hme A0 A1 A2 A3 AB An hD hc hx1 hx2 hp2 hpre
    obtain ⟨c0, c1, _, _⟩ := Hm.out.cells
    have c2 := He.out.cell
    obtain ⟨_, _, r0, r1⟩ := Hr.out.cells
    have sl := Hm.out.lt
    gi_wp2
    gi_region
    gi_wp2
    refine leaves_cell (w := w) (by simp) (b := w.heap.size + 1) (x := mx) (y := my) (n₀ := w.heap.size + 1 + 1) (by omega) (by omega) ?_ D _ (by omega) ?_ ((Hr.out.set0 _).set1 _) ?_
    · intro Y h1 h2
      obtain ⟨k0, k1, _, _⟩ := h1.cells
      refine ⟨.tuple #[frV (mx, my), .int .i64 me], ?_, ⟨_, HS.out, by rw [← HN.out]⟩, h2⟩
      simp [results, Tryd.f18, go_sem, k0, k1, frV]
    · exact (Below.heap_setCell _ _ _ _ (by simp <;> omega)).trans ((Below.heap_setCell _ _ _ _ (by simp <;> omega)).trans HK.out)
    · exact ((HX.out.setCell (p := ⟨_, 0, none⟩) (by simp) _).setCell (p := ⟨_, 1, none⟩) (by simp) _).drew

set_option maxRecDepth 100000 in
set_option maxHeartbeats 4000000 in
theorem Before_no (n p q : Int) (hn : (rowB n && validB p q) = false) (w : World) :
    Calls Tryd.prog 18 #[.int .i64 n, .agg #[.int .i64 p, .int .i64 q]] w fun e w' => e = .returned (.tuple #[frV (0, 0), .int .i64 2]) ∧ Below w.heap.size w w' := by
  refine (callsIn_wide (n := 6)).1 ?_
  have A1 := Two.new (w.alloc (.cells #[.int .i64 p, .int .i64 q] 23)) 23 0 0
  simp only [World.size_alloc] at A1
  have AB := b_next (below_alloc w (.cells #[.int .i64 p, .int .i64 q] 23)) (below_alloc _ (.cells #[.int .i64 0, .int .i64 0] 23))
  have HA := Lib.hid (And.intro A1 AB)
  clear A1 AB
  refine callsIn_of_wp_marks Tryd.func18 rfl trivial ?_ rfl
  simp only [Tryd.ntmps18, List.size_toArray, List.length_cons, List.length_nil, Nat.reduceAdd, Nat.reduceSub, Array.replicate_succ, Array.replicate_zero, List.push_toArray, List.append_toArray, List.nil_append, List.cons_append]
  cases h1 : rowB n with
  | false =>
    have Hrow := Lib.hid h1
    clear h1 hn
    gi_wp2_with (refine ⟨trivial, ?_⟩; gi_at_call 37; refine (callsIn_wide.2 (row_37_any _ _)).mono ?_; rintro e w' ⟨rfl, rfl⟩; rw [Hrow.out])
    refine ⟨trivial, ?_⟩
    gi_wp2
    refine ⟨.tuple #[frV (0, 0), .int .i64 2], ?_, rfl, ?_⟩
    · simp [results, Tryd.f18, go_sem, frV]
    · exact b_next (below_alloc _ _) (below_alloc _ _)
  | true =>
    have h2 : validB p q = false := by rw [h1, Bool.true_and] at hn; exact hn
    have Hrow := Lib.hid h1
    have HV := Lib.hid h2
    clear h1 hn h2
    gi_wp2_with (first
      | (refine ⟨trivial, ?_⟩; gi_at_call 37; refine (callsIn_wide.2 (row_37_any _ _)).mono ?_; rintro e w' ⟨rfl, rfl⟩; rw [Hrow.out])
      | (refine ⟨trivial, ?_⟩; gi_at_call 31; refine (callsIn_wide.2 (isValid_any _ _ _)).mono ?_; rintro e w1 ⟨rfl, b1⟩; rw [HV.out]; have A1 := Lib.hid (HA.out.1.below b1); have AB := Lib.hid (b_next HA.out.2 b1); obtain ⟨_, _, r0, r1⟩ := A1.out.cells; have l1 := A1.out.lt))
    have R1 := (A1.out.set0 0).set1 0
    obtain ⟨k0, k1, _, _⟩ := R1.cells
    refine ⟨.tuple #[frV (0, 0), .int .i64 2], ?_, rfl, ?_⟩
    · simp [results, Tryd.f18, go_sem, frV, k0, k1]
    · exact (AB.out.setCell (p := ⟨_, 0, none⟩) (by simp) _).setCell (p := ⟨_, 1, none⟩) (by simp) _
end Go.Proofs.YtfelmjanffhahaaDoor
