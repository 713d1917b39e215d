/- Fold: a range over the positions from the last one to the first one. -/
import Derived.Test.YtfelmjanffhahaaDoorBack
import Derived.Test.YtfelmjanffhahaaDoorItem
import Derived.Test.YtfelmjanffhahaaDoorNext
namespace Go.Proofs.YtfelmjanffhahaaDoor
set_option linter.unusedVariables false
open Go.RowKit Go.Shelf
attribute [local go_sem] Oper.semAt_some

/-- what Fold has found behind the positions pre -/
def foldW {m : Nat} (xs : List Int) (pre : List (Fin m)) : Option (Nat × Nat) := pre.foldl (fun o x => foldS ((natL xs).getD x.val 0) o) (some (0, 1))
theorem foldW_snoc {m : Nat} (xs : List Int) (pre : List (Fin m)) (x : Fin m) : foldW xs (pre ++ [x]) = foldS ((natL xs).getD x.val 0) (foldW xs pre) := by simp [foldW, List.foldl_append]
theorem foldl_none {m : Nat} (xs : List Int) : ∀ l : List (Fin m), l.foldl (fun o x => foldS ((natL xs).getD x.val 0) o) none = none
  | [] => rfl
  | x :: l => by rw [List.foldl_cons]; exact foldl_none xs l
theorem foldW_prefix {m : Nat} {xs : List Int} {pre all : List (Fin m)} (h : pre <+: all) (hn : foldW xs pre = none) : foldW xs all = none := by
  obtain ⟨t, rfl⟩ := h
  unfold foldW at *
  rw [List.foldl_append, hn]
  exact foldl_none xs t
theorem foldW_all {m : Nat} {xs : List Int} (hx : xs.length = m) : foldW xs (allD m) = foldP (natL xs) := by
  unfold foldW allD foldP
  rw [List.foldl_reverse]
  have : (List.finRange m).map (fun x : Fin m => (natL xs).getD x.val 0) = natL xs := by
    refine List.ext_getElem (by simp [natL_length, hx]) fun i h1 h2 => ?_
    simp at h1
    simp [List.getD_eq_getElem?_getD, natL_length, hx]
  rw [← this, List.foldr_map, this]
theorem nat_get {xs : List Int} (hq : quotB xs = true) {k : Nat} (hk : k < xs.length) : ∃ q : Nat, xs.getD k 0 = q ∧ (natL xs).getD k 0 = q ∧ 1 ≤ q ∧ q ≤ 1000000 := by
  obtain ⟨q, h1, h2, h3, h4⟩ := quot_get hq hk
  exact ⟨q, by rw [List.getD_eq_getElem?_getD, h1]; rfl, by rw [List.getD_eq_getElem?_getD, h2]; rfl, h3, h4⟩

theorem fold_num {q v u : Nat} (q4 : q ≤ 1000000) (s2 : v ≤ 1000000) (s1 : u ≤ 1000000) : ∃ mq d : Nat, wrap64 ((q : Int) * v) = mq ∧ wrap64 ((mq : Int) + u) = d ∧ foldS q (some (u, v)) = if d > 1000000 then none else some (v, d) := by
  have hle : q * v ≤ 1000000000000 := Nat.le_trans (Nat.mul_le_mul q4 s2) (by omega)
  refine ⟨q * v, q * v + u, wmul rfl (by omega), wadd rfl (by omega), ?_⟩
  unfold foldS fold1
  simp only [Option.bind_some]
/-- between two rounds of Fold -/
def FolI {m : Nat} (w : World) (a : Option Addr) (xs : List Int) (pre : List (Fin m)) (X : World) : Prop :=
  ∃ x y : Nat, foldW xs pre = some (x, y) ∧ x ≤ 1000000 ∧ y ≤ 1000000 ∧ Two X w.heap.size 23 0 0 ∧ Boxed X (w.heap.size + 1) 24 (.int .i64 0) ∧ Two X (w.heap.size + 1 + 1) 23 x y ∧ Below w.heap.size w X
/-- a round of Fold is left -/
def FolX {m : Nat} (w : World) (xs : List Int) (cd : Code) (pre : List (Fin m)) (X : World) : Prop :=
  cd = .ret ∧ foldW xs pre = none ∧ Two X w.heap.size 23 0 0 ∧ Boxed X (w.heap.size + 1) 24 (.int .i64 5) ∧ Below w.heap.size w X
theorem bears_folI {m B : Nat} {w : World} {a : Option Addr} {xs : List Int} (hB : w.heap.size + 1 + 1 < B) : Bears B (FolI (m := m) w a xs) := by
  rintro s W W' row ⟨x, y, h1, h2, h3, h4, h5, h6, h7⟩ hg hr
  exact ⟨x, y, h1, h2, h3, h4.kept hg (fun e => by have := hr _ e.symm; omega), h5.kept hg (fun e => by have := hr _ e.symm; omega), h6.kept hg (fun e => by have := hr _ e.symm; omega), h7.grown hg h7.size (fun k e => by have := hr k e; omega)⟩
theorem bears_folX {m B : Nat} {w : World} {xs : List Int} {cd : Code} (hB : w.heap.size + 1 + 1 < B) : Bears B (FolX (m := m) w xs cd) := by
  rintro s W W' row ⟨h1, h2, h4, h5, h7⟩ hg hr
  exact ⟨h1, h2, h4.kept hg (fun e => by have := hr _ e.symm; omega), h5.kept hg (fun e => by have := hr _ e.symm; omega), h7.grown hg h7.size (fun k e => by have := hr k e; omega)⟩

set_option maxRecDepth 100000 in
set_option maxHeartbeats 4000000 in
theorem Fold_any (a : Option Addr) (m cap : Nat) (xs : List Int) (w : World) (hr : Row w a m (intL xs)) (hm : m ≤ 1000) :
    Calls Tryd.prog 12 #[.slice a m cap] w fun e w' => e = .returned (.tuple #[frV (foldR xs).1, .int .i64 (foldR xs).2]) ∧ Below w.heap.size w w' := by
  refine (callsIn_wide (n := 6)).1 ?_
  have hx : xs.length = m := by have := hr.1; simpa [intL] using this
  have A0 := (Two.new w 23 0 0).alloc (.cells #[.int .i64 0] 24)
  have A1 : Boxed ((w.alloc (.cells #[.int .i64 0, .int .i64 0] 23)).alloc (.cells #[.int .i64 0] 24)) (w.heap.size + 1) 24 (.int .i64 0) := by
    have := Boxed.new (w.alloc (.cells #[.int .i64 0, .int .i64 0] 23)) 24 (.int .i64 0)
    simpa only [World.size_alloc] using this
  have AB := b_next (below_alloc w (.cells #[.int .i64 0, .int .i64 0] 23)) (below_alloc _ (.cells #[.int .i64 0] 24))
  have AR := hr.below AB
  refine callsIn_of_wp_marks Tryd.func12 rfl trivial ?_ rfl
  simp only [Tryd.ntmps12, List.size_toArray, List.length_cons, List.length_nil, Nat.reduceAdd, Nat.reduceSub, Array.replicate_succ, Array.replicate_zero, List.push_toArray, List.append_toArray, List.nil_append, List.cons_append]
  cases hq : quotB xs with
  | false =>
    have HA0 := Lib.hid A0
    have HA1 := Lib.hid A1
    have HAB := Lib.hid AB
    have HAR := Lib.hid AR
    have hR : foldR xs = ((0, 0), 2) := by unfold foldR; rw [hq]; rfl
    have HR := Lib.hid hR
    have Hq := Lib.hid hq
    obtain ⟨_, _, r0, r1⟩ := A0.cells
    have e0 := A1.cell
    have e1 := A1.frozen
    have l1 := A0.lt
    have l2 := A1.lt
    clear A0 A1 AB AR hR hq hx hr
    gi_wp2_with (refine ⟨trivial, ?_⟩; gi_at_call 32; refine (callsIn_wide.2 (areQ_any _ _ _ xs _ HAR.out)).mono ?_; rintro e w1 ⟨rfl, rfl⟩; rw [Hq.out])
    refine ⟨.tuple #[frV (0, 0), .int .i64 2], ?_, by rw [HR.out], ?_⟩
    · simp [results, Tryd.f12, go_sem, frV]
    · exact b_next (below_alloc _ _) (below_alloc _ _)
  | true =>
    have HA0 := Lib.hid A0
    have HA1 := Lib.hid A1
    have HAB := Lib.hid AB
    have HAR := Lib.hid AR
    have Hq := Lib.hid hq
    have Hx := Lib.hid hx
    have Hr := Lib.hid hr
    clear A0 A1 AB AR hq hx hr
    gi_wp2_with (first
      | (refine ⟨trivial, ?_⟩; gi_at_call 32; refine (callsIn_wide.2 (areQ_any _ _ _ xs _ HAR.out)).mono ?_; rintro e w1 ⟨rfl, rfl⟩; rw [Hq.out])
      | (refine ⟨trivial, ?_⟩; gi_at_call 33; refine (back_in _ _ _ _ _).mono ?_; rintro e w' ⟨rfl, rfl⟩))
    have A0 := (HA0.out.alloc (.cells #[.int .i64 0, .int .i64 1] 23)).alloc (.cells #[.slice a m cap] 32)
    have A1 := (HA1.out.alloc (.cells #[.int .i64 0, .int .i64 1] 23)).alloc (.cells #[.slice a m cap] 32)
    have A2 := (Two.new ((w.alloc (.cells #[.int .i64 0, .int .i64 0] 23)).alloc (.cells #[.int .i64 0] 24)) 23 0 1).alloc (.cells #[.slice a m cap] 32)
    simp only [World.size_alloc] at A2
    have A3 := Boxed.new (((w.alloc (.cells #[.int .i64 0, .int .i64 0] 23)).alloc (.cells #[.int .i64 0] 24)).alloc (.cells #[.int .i64 0, .int .i64 1] 23)) 32 (.slice a m cap)
    simp only [World.size_alloc] at A3
    have AB := b_next (b_next HAB.out (below_alloc _ (.cells #[.int .i64 0, .int .i64 1] 23))) (below_alloc _ (.cells #[.slice a m cap] 32))
    have a3 := A3.cell
    clear HA0 HA1 HAB HAR
    refine range_visits_k (α := Fin m) rfl (by omega) (gf := 48) (lb := #[.pointer (some ⟨w.heap.size + 1 + 1 + 1, 0, none⟩)]) rfl trivial (enters_of Tryd.func48 (by kernel_rfl) rfl)
      (encs := fun x : Fin m => #[.int .i64 (x.val : Nat), .int .i64 (xs.getD x.val 0)]) (T := w.heap.size + 1 + 1 + 1) (S := fun ys => ys = allD m) (Sp := fun pre => pre <+: allD m) (N := m) (Kp := fun X => Row X a m (intL xs)) (by simp)
      (fun W hW => back1_visits 5 (by omega) a m cap xs Hx.out hm (w.heap.size + 1 + 1 + 1) _ W (Nat.le_refl _) ((World.cell?_of_block (a := ⟨w.heap.size + 1 + 1 + 1, 0, none⟩) (hW.block _ (World.block_lt_of_cell? _ _ a3) (by simp))).trans a3)) (fun _ => rfl)
      (FolI w a xs) (FolX w xs) (bears_folI (by simp <;> omega)) (fun c => bears_folX (by simp <;> omega))
      ⟨0, 1, rfl, by omega, by omega, A0, A1, A2, AB⟩ (fun pre X h => by obtain ⟨_, _, _, _, _, _, _, _, h7⟩ := h; exact Hr.out.below h7)
      (fun x => { tmps := #[.slice a m cap, undef, .pointer (some ⟨w.heap.size, 0, none⟩), .pointer (some ⟨w.heap.size + 1, 0, none⟩), .pointer (some ⟨w.heap.size + 1 + 1, 0, none⟩), undef, .int .i64 (xs.getD x.val 0), .slice a m cap, .bool true, .bool false, undef, .agg #[.int .i64 0, .int .i64 1],
        .slice a m cap, .func (.func 48) #[] #[.pointer (some ⟨w.heap.size + 1 + 1 + 1, 0, none⟩)], .int .i64 (x.val : Nat), .int .i64 (xs.getD x.val 0), undef, undef, undef, undef, undef, undef, undef, undef, undef, undef, undef, undef, undef, undef, undef], defers := [] }) ?assign ?body ?done ?stop
    case assign =>
      intro l x W K hK
      generalize xs.getD x.val 0 = z at hK ⊢
      gi_wp2
      exact hK
    case body =>
      rintro l pre x W ⟨u, v, hF, s1, s2, hr0, he, hf, hX⟩ hlen
      obtain ⟨q, q1, q2, q3, q4⟩ := nat_get Hq.out (k := x.val) (by rw [Hx.out]; exact x.2)
      rw [q1]
      have hsn := foldW_snoc xs pre x
      rw [q2, hF] at hsn
      obtain ⟨mq, d, i1, i2, hS2⟩ := fold_num q4 s2 s1
      rw [hS2] at hsn
      obtain ⟨f0, f1, f2, f3⟩ := hf.cells
      obtain ⟨r0, r1, r2, r3⟩ := hr0.cells
      have e0 := he.cell
      have e1 := he.frozen
      have Hf := Lib.hid hf
      have Hr0 := Lib.hid hr0
      have He := Lib.hid he
      have HX := Lib.hid hX
      have Hsn := Lib.hid hsn
      have lf := hf.lt
      have le := he.lt
      have lr := hr0.lt
      clear hS2 hsn hf hr0 he hX hF q1 q2 A0 A1 A2 A3 AB a3
      have T1 := (Hf.out.set0 (v : Int)).set1 (d : Int)
      have T0 := (Hr0.out.far (B' := w.heap.size + 1 + 1) (o := 0) (v := .int .i64 (v : Int)) (by omega)).far (B' := w.heap.size + 1 + 1) (o := 1) (v := .int .i64 (d : Int)) (by omega)
      have TE := (He.out.at (B' := w.heap.size + 1 + 1) (o := 0) (u := .int .i64 (v : Int)) (by omega)).at (B' := w.heap.size + 1 + 1) (o := 1) (u := .int .i64 (d : Int)) (by omega)
      have TB := (HX.out.setCell (p := ⟨w.heap.size + 1 + 1, 0, none⟩) (by simp <;> omega) (.int .i64 (v : Int))).setCell (p := ⟨w.heap.size + 1 + 1, 1, none⟩) (by simp <;> omega) (.int .i64 (d : Int))
      have H1 := Lib.hid T1
      have H0 := Lib.hid T0
      have HE := Lib.hid TE
      have HB := Lib.hid TB
      clear T1 T0 TE TB
      by_cases hbig : 1000000 < d
      · have hbig' : (1000000 : Int) < d := by omega
        rw [if_pos hbig] at Hsn
        gi_wp2
        unfold roundEnds
        refine ⟨((((KeepsAt.set (by omega) _).trans (KeepsAt.set (by omega) _)).trans (KeepsAt.set (by omega) _)).trans (KeepsAt.set (by omega) _)).trans (KeepsAt.set (by omega) _), rfl, Hsn.out, ?_, ?_, ?_⟩
        · exact ((H0.out.set0 0).set1 0).far (by omega)
        · exact ((HE.out.at (by omega)).at (by omega)).set _
        · exact ((HB.out.setCell (p := ⟨_, 0, none⟩) (by simp) _).setCell (p := ⟨_, 1, none⟩) (by simp) _).setCell (p := ⟨_, 0, none⟩) (by simp <;> omega) _
      · have hbig' : ¬ (1000000 : Int) < d := by omega
        rw [if_neg hbig] at Hsn
        gi_wp2
        unfold roundEnds
        exact ⟨(KeepsAt.set (by omega) _).trans (KeepsAt.set (by omega) _), v, d, Hsn.out, s2, by omega, H0.out, HE.out, H1.out, HB.out⟩
    case done =>
      rintro D ys W hD rfl ⟨u, v, hF, s1, s2, hr0, he, hf, hX⟩ hK
      rw [foldW_all Hx.out] at hF
      have hR : foldR xs = ((u, v), 0) := by unfold foldR; rw [Hq.out, hF]; rfl
      obtain ⟨f0, f1, f2, f3⟩ := hf.cells
      obtain ⟨r0, r1, r2, r3⟩ := hr0.cells
      have e0 := he.cell
      have e1 := he.frozen
      have HR := Lib.hid hR
      have Hr0 := Lib.hid hr0
      have He := Lib.hid he
      have HX := Lib.hid hX
      have HK := Lib.hid hK
      have hDl : w.heap.size + 1 + 1 + 1 ≤ D := by have := hD; simp at this; omega
      clear hR hr0 he hX hF hK hD A0 A1 A2 A3 AB a3 hf
      gi_wp2
      refine leaves_cells (w := w) (by simp) (b := w.heap.size) (c := w.heap.size + 1) (x := u) (y := v) (z := 0) (n₀ := w.heap.size + 1 + 1) (by omega) (by omega) (by omega) ?_ D _ (by omega) ?_ (((Hr0.out.set0 _).set1 _).far (by omega)) (((He.out.at (by omega)).at (by omega)).set _) ?_
      · intro Y h1 h2 h3
        obtain ⟨k0, k1, _, _⟩ := h1.cells
        have k2 := h2.cell
        refine ⟨.tuple #[frV (u, v), .int .i64 0], ?_, by rw [HR.out], h3⟩
        simp [results, Tryd.f12, go_sem, k0, k1, k2, frV]
      · rw [Below.heap_setCell _ _ _ _ (by simp <;> omega), Below.heap_setCell _ _ _ _ (by simp <;> omega), Below.heap_setCell _ _ _ _ (by simp <;> omega)]; exact HK.out
      · exact ((HX.out.setCell (p := ⟨_, 0, none⟩) (by simp) _).setCell (p := ⟨_, 1, none⟩) (by simp) _).setCell (p := ⟨_, 0, none⟩) (by simp <;> omega) _
    case stop =>
      rintro D c pre W hD hpre ⟨rfl, hF, hr0, he, hX⟩ hK
      have hn := foldW_prefix hpre hF
      rw [foldW_all Hx.out] at hn
      have hR : foldR xs = ((0, 0), 5) := by unfold foldR; rw [Hq.out, hn]; rfl
      have hDl : w.heap.size + 1 + 1 + 1 ≤ D := by have := hD; simp at this; omega
      gi_wp2
      refine leaves_cells (w := w) (by simp) (b := w.heap.size) (c := w.heap.size + 1) (x := 0) (y := 0) (z := 5) (n₀ := w.heap.size + 1 + 1) (by omega) (by omega) (by omega) ?_ D _ (by omega) hK hr0 he hX
      intro Y h1 h2 h3
      obtain ⟨k0, k1, _, _⟩ := h1.cells
      have k2 := h2.cell
      refine ⟨.tuple #[frV (0, 0), .int .i64 5], ?_, by rw [hR], h3⟩
      simp [results, Tryd.f12, go_sem, k0, k1, k2, frV]
end Go.Proofs.YtfelmjanffhahaaDoor
