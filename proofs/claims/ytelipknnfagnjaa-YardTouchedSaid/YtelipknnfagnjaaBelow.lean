/- Below: how many fractions of the row are less. -/
import Derived.Test.YtelipknnfagnjaaBefore
namespace Go.Proofs.Ytelipknnfagnjaa
set_option linter.unusedVariables false
open Go.RowKit Go.Shelf
attribute [local go_sem] Oper.semAt_some

/-- between two rounds of Below -/
def BelI (w w1 : World) (N p q : Nat) (pre : List (Pl N)) (X : World) : Prop :=
  Two X w.heap.size 26 p q ∧ Boxed X w1.heap.size 3 (.int .i64 (pre.length : Nat)) ∧ Below w.heap.size w X ∧ ∀ y : Pl N, y ∈ pre → lessF (fr N y.1) (p, q) = true
theorem BelI.grown {w w1 : World} {N p q B : Nat} {pre : List (Pl N)} {W W' : World} {row : Option Nat} (h : BelI w w1 N p q pre W) (hB : w.heap.size < B) (hB2 : w1.heap.size < B) (hg : W.grownBy W' row) (hr : ∀ r, row = some r → B ≤ r) : BelI w w1 N p q pre W' := by
  obtain ⟨h1, h4, h5, h6⟩ := h
  exact ⟨h1.kept hg (fun e => by have := hr _ e.symm; omega), h4.kept hg (fun e => by have := hr _ e.symm; omega), h5.grown hg h5.size (fun k e => by have := hr k e; omega), h6⟩
theorem bears_belI {w w1 : World} {N p q B : Nat} (hB : w.heap.size < B) (hB2 : w1.heap.size < B) : Bears B (BelI w w1 N p q) := fun _ _ _ _ h hg hr => h.grown hB hB2 hg hr
/-- a round of Below is left -/
def BelX (w w1 : World) (N p q : Nat) (cd : Code) (xs : List (Pl N)) (X : World) : Prop := ∃ pre x, cd = .exit 0 ∧ xs = pre ++ [x] ∧ lessF (fr N x.1) (p, q) = false ∧ BelI w w1 N p q pre X
theorem bears_belX {w w1 : World} {N p q B : Nat} {cd : Code} (hB : w.heap.size < B) (hB2 : w1.heap.size < B) : Bears B (BelX w w1 N p q cd) := by
  rintro s W W' row ⟨pre, x, h1, h2, h3, h4⟩ hg hr
  exact ⟨pre, x, h1, h2, h3, h4.grown hB hB2 hg hr⟩

set_option maxRecDepth 100000 in
set_option maxHeartbeats 4000000 in
theorem Below_yes (N p q : Nat) (h1 : 1 ≤ N) (h3 : N ≤ 300) (hv : validB p q = true) (w : World) :
    Calls Try.prog 19 #[.int .i64 N, .agg #[.int .i64 p, .int .i64 q]] w fun e w' => (∃ k : Nat, BelowSpec N (p, q) k ∧ e = .returned (.tuple #[.int .i64 k, .int .i64 0])) ∧ Below w.heap.size w w' := by
  refine (callsIn_wide (n := 6)).1 ?_
  have hrow : rowB N = true := by unfold rowB; simp; omega
  have Hrow := Lib.hid hrow
  have HV := Lib.hid hv
  clear hrow
  refine callsIn_of_wp_marks Try.func19 rfl trivial ?_ rfl
  simp only [Try.ntmps19, List.size_toArray, List.length_cons, List.length_nil, Nat.reduceAdd, Nat.reduceSub, Array.replicate_succ, Array.replicate_zero, List.push_toArray, List.append_toArray, List.nil_append, List.cons_append]
  have HA := Lib.hid (And.intro (Two.new w 26 p q) (below_alloc w (.cells #[.int .i64 p, .int .i64 q] 26)))
  gi_wp2_with (first
    | (refine ⟨trivial, ?_⟩; gi_at_call 51; refine (callsIn_wide.2 (row_51_any _ _)).mono ?_; rintro e w' ⟨rfl, rfl⟩; rw [Hrow.out])
    | (refine ⟨trivial, ?_⟩; gi_at_call 53; refine (callsIn_wide.2 (isValid_any _ _ _)).mono ?_; rintro e w1 ⟨rfl, b1⟩; rw [HV.out])
    | (refine ⟨trivial, ?_⟩; gi_at_call 52; refine (row_in _ _ _).mono ?_; rintro e w' ⟨rfl, rfl⟩))
  have A0 := ((HA.out.1.below b1).alloc (.cells #[.int .i64 0] 3)).alloc (.cells #[.int .i64 N] 3)
  have A2 := (Boxed.new w1 3 (.int .i64 0)).alloc (.cells #[.int .i64 N] 3)
  have An := Boxed.new (w1.alloc (.cells #[.int .i64 0] 3)) 3 (.int .i64 N)
  simp only [World.size_alloc] at An
  have AB := b_next (b_next (b_next HA.out.2 b1) (below_alloc _ (.cells #[.int .i64 0] 3))) (below_alloc _ (.cells #[.int .i64 N] 3))
  have hl1 := (HA.out.1.below b1).lt
  clear HA b1
  refine range_visits_box (α := Pl N) rfl (by omega) (gf := 71) (lb := #[.pointer (some ⟨w1.heap.size + 1, 0, none⟩)]) rfl trivial (enters_of Try.func71 (by kernel_rfl) rfl)
    (encs := fun x : Pl N => #[frV (fr N x.1)]) (T := w1.heap.size + 1) (S := fun ys => ys = allPl N) (Sp := fun pre => pre <+: allPl N) (N := len N) (by simp) (fun W hW => visits_row h1 h3 An.cell W hW) (fun _ => rfl)
    (BelI w w1 N p q) (BelX w w1 N p q) (bears_belI (by simp <;> omega) (by simp <;> omega)) (fun c => bears_belX (by simp <;> omega) (by simp <;> omega))
    ⟨A0, A2, AB, fun y hy => absurd hy (by simp)⟩
    (fun x => .cells #[.int .i64 (fr N x.1).1, .int .i64 (fr N x.1).2] 26)
    (fun x B => { tmps := #[.int .i64 N, .agg #[.int .i64 p, .int .i64 q], undef, .pointer (some ⟨w.heap.size, 0, none⟩), .int .i64 0, .int .i64 0, .pointer (some ⟨w1.heap.size, 0, none⟩), .pointer (some ⟨B, 0, none⟩), .int .i64 N, .bool true, .bool false, .bool false,
      .agg #[.int .i64 p, .int .i64 q], .bool true, .bool false, .bool false, .int .i64 N, .func (.func 71) #[] #[.pointer (some ⟨w1.heap.size + 1, 0, none⟩)], frV (fr N x.1), undef, undef, undef, undef, undef, undef, undef], defers := [] }) ?assign ?body ?done ?stop
  case assign =>
    intro l x W K hK
    unfold frV at hK ⊢
    gi_wp2
    exact hK
  case body =>
    rintro l pre x B W ⟨hf, hm, hX, hno⟩ hbx hB2 hlen
    have hbt : Two W B 26 (fr N x.1).1 (fr N x.1).2 := hbx
    obtain ⟨t0, t1, _, _⟩ := hbt.cells
    obtain ⟨f0, f1, _, _⟩ := hf.cells
    have hvb := valid_nat hv
    have hl := fun w => isLess_any (fr N x.1) (p, q) (fr_small h1 h3 (Nat.le_of_lt x.2)) (by obtain ⟨a', b', e1, e2, _, k2, k3, _⟩ := hvb; exact ⟨by simp only; omega, by simp only; omega⟩) w
    unfold frV at hl
    simp only at hl
    have Hf := Lib.hid hf
    have Hm := Lib.hid hm
    have HX := Lib.hid hX
    have Hno := Lib.hid hno
    have hBl : w1.heap.size + 1 + 1 ≤ B := by simpa using hB2
    have hln : (pre.length : Nat) < 1000000 := by
      have := (len_spec h1).2.2
      have := Nat.mul_le_mul h3 h3
      omega
    have Hsn := Lib.hid (show ((pre ++ [x]).length : Nat) = pre.length + 1 by simp)
    clear hbx hbt hf hm hX hno hB2 A0 A2 AB An hvb
    cases hc : lessF (fr N x.1) (p, q) with
    | false =>
      rw [hc] at hl
      have HL := Lib.hid hl
      have Hc := Lib.hid hc
      clear hl hc
      gi_wp2_with (refine ⟨trivial, ?_⟩; gi_at_call 54; refine (CallsIn.inRound _ (callsIn_wide.2 (HL.out _))).mono ?_; rintro e w2 ⟨rfl, b2⟩)
      refine ⟨KeepsAt.of_grown (grown_of b2 none) (by simp), pre, x, rfl, rfl, Hc.out, Hf.out.below b2, Hm.out.below b2, b_next HX.out b2, Hno.out⟩
    | true =>
      rw [hc] at hl
      have HL := Lib.hid hl
      have Hc := Lib.hid hc
      clear hl hc
      gi_wp2_with (refine ⟨trivial, ?_⟩; gi_at_call 54; refine (CallsIn.inRound _ (callsIn_wide.2 (HL.out _))).mono ?_; rintro e w2 ⟨rfl, b2⟩; have HM2 := Lib.hid (Hm.out.below b2); have m0 := HM2.out.cell; have m1 := HM2.out.frozen)
      have hs2 := HM2.out.lt
      have hs3 := b2.size
      refine ⟨(KeepsAt.of_grown (grown_of b2 none) (by simp)).trans (KeepsAt.set (by omega) _), (Hf.out.below b2).far (by omega), ?_, (b_next HX.out b2).setCell (p := ⟨_, 0, none⟩) (by simp <;> omega) _, fun y hy => ?_⟩
      · rw [Hsn.out]; exact HM2.out.set (.int .i64 ((pre.length : Int) + 1))
      · rcases List.mem_append.1 hy with h | h
        · exact Hno.out y h
        · rw [List.mem_singleton] at h; rw [h]; exact Hc.out
  case done =>
    rintro D xs W hD rfl ⟨hf, hm, hX, hno⟩ hK
    have hS : BelowSpec N (p, q) (allPl N).length := by
      rw [show (allPl N).length = len N from plTo_len N _ (Nat.le_refl _)]
      exact ⟨Nat.le_refl _, fun i hi => hno ⟨i, hi⟩ (all_mem hi), fun h => absurd h (by omega)⟩
    obtain ⟨mk, hmk⟩ : ∃ z, (allPl N).length = z := ⟨_, rfl⟩
    rw [hmk] at hm hS
    have HS := Lib.hid hS
    have Hm := Lib.hid hm
    have HX := Lib.hid hX
    have HK := Lib.hid hK
    have hDl : w1.heap.size + 1 + 1 ≤ D := by simpa using hD
    clear hf hm hX hno hK hS hmk A0 A2 AB An hD
    have c2 := Hm.out.cell
    gi_wp2
    refine leaves_one (by simp) (n₀ := w1.heap.size) (Φ := fun X => Below w.heap.size w X) ?_ ?_ D W (by omega) HK.out HX.out
    · intro Y D' h hD' _
      exact h.grown (grownBy_putObj' Y D' _) h.size (fun q e => by cases e; omega)
    · intro Y h
      refine ⟨.tuple #[.int .i64 mk, .int .i64 0], ?_, ⟨_, HS.out, rfl⟩, h⟩
      simp [results, Try.f19, go_sem]
  case stop =>
    rintro D c pre W hD hpre ⟨pre', x, rfl, rfl, hc, hf, hm, hX, hno⟩ hK
    obtain ⟨hx1, hx2⟩ := pl_last hpre
    have hS : BelowSpec N (p, q) pre'.length := ⟨by omega, fun i hi => by obtain ⟨y, hy, rfl⟩ := pl_mem hpre hi; exact hno y hy, fun _ => by rw [← hx1]; exact hc⟩
    obtain ⟨mk, hmk⟩ : ∃ z, pre'.length = z := ⟨_, rfl⟩
    rw [hmk] at hm hS
    have HS := Lib.hid hS
    have Hm := Lib.hid hm
    have HX := Lib.hid hX
    have HK := Lib.hid hK
    have hDl : w1.heap.size + 1 + 1 ≤ D := by simpa using hD
    clear hf hm hX hno hK hS hmk A0 A2 AB An hD hc hx1 hx2 hpre
    have c2 := Hm.out.cell
    gi_wp2
    refine leaves_one (by simp) (n₀ := w1.heap.size) (Φ := fun X => Below w.heap.size w X) ?_ ?_ D W (by omega) HK.out HX.out
    · intro Y D' h hD' _
      exact h.grown (grownBy_putObj' Y D' _) h.size (fun q e => by cases e; omega)
    · intro Y h
      refine ⟨.tuple #[.int .i64 mk, .int .i64 0], ?_, ⟨_, HS.out, rfl⟩, h⟩
      simp [results, Try.f19, go_sem]

set_option maxRecDepth 100000 in
set_option maxHeartbeats 4000000 in
theorem Below_no (n p q : Int) (hn : (rowB n && validB p q) = false) (w : World) :
    Calls Try.prog 19 #[.int .i64 n, .agg #[.int .i64 p, .int .i64 q]] w fun e w' => e = .returned (.tuple #[.int .i64 0, .int .i64 2]) ∧ Below w.heap.size w w' := by
  refine (callsIn_wide (n := 6)).1 ?_
  have HA := Lib.hid (below_alloc w (.cells #[.int .i64 p, .int .i64 q] 26))
  refine callsIn_of_wp_marks Try.func19 rfl trivial ?_ rfl
  simp only [Try.ntmps19, List.size_toArray, List.length_cons, List.length_nil, Nat.reduceAdd, Nat.reduceSub, Array.replicate_succ, Array.replicate_zero, List.push_toArray, List.append_toArray, List.nil_append, List.cons_append]
  cases h1 : rowB n with
  | false =>
    have Hrow := Lib.hid h1
    clear h1 hn
    gi_wp2_with (refine ⟨trivial, ?_⟩; gi_at_call 51; refine (callsIn_wide.2 (row_51_any _ _)).mono ?_; rintro e w' ⟨rfl, rfl⟩; rw [Hrow.out])
    refine ⟨trivial, ?_⟩
    gi_wp2
    refine ⟨.tuple #[.int .i64 0, .int .i64 2], ?_, rfl, HA.out⟩
    simp [results, Try.f19, go_sem]
  | true =>
    have h2 : validB p q = false := by rw [h1, Bool.true_and] at hn; exact hn
    have Hrow := Lib.hid h1
    have HV := Lib.hid h2
    clear h1 hn h2
    gi_wp2_with (first
      | (refine ⟨trivial, ?_⟩; gi_at_call 51; refine (callsIn_wide.2 (row_51_any _ _)).mono ?_; rintro e w' ⟨rfl, rfl⟩; rw [Hrow.out])
      | (refine ⟨trivial, ?_⟩; gi_at_call 53; refine (callsIn_wide.2 (isValid_any _ _ _)).mono ?_; rintro e w1 ⟨rfl, b1⟩; rw [HV.out]))
    refine ⟨.tuple #[.int .i64 0, .int .i64 2], ?_, rfl, b_next HA.out b1⟩
    simp [results, Try.f19, go_sem]
end Go.Proofs.Ytelipknnfagnjaa
