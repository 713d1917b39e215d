/- The reference's Unform, Differ, After. -/
import Derived.Test.YthmdlkaanjjbkaaRfm
import Derived.Test.YthmdlkaanjjbkaaAft
namespace Go.Proofs.Ythmdlkaanjjbkaa
set_option linter.unusedVariables false
open Go.RowKit

theorem uf_num {m f : Nat} {v y r : Int} (hm : 2 ≤ m) (hm2 : m ≤ 64) (hv : 0 ≤ v ∧ v < m) (hy : 0 ≤ y ∧ y ≤ 64) (hf : f < m) (h : (v + y * (f : Int)) % (m : Int) = r) :
    ∃ p s : Int, IntKind.i64.wrap (y * (f : Int)) = p ∧ wrap64 (y * (f : Int)) = p ∧ IntKind.i64.wrap (v + p) = s ∧ wrap64 (v + p) = s ∧ Int.tmod s (m : Int) = r ∧ IntKind.i64.wrap r = r ∧ wrap64 r = r ∧ 0 ≤ r ∧ r < m := by
  have h1 : y * (f : Int) ≤ 64 * 64 := Int.mul_le_mul (by omega) (by omega) (by omega) (by omega)
  have h2 : 0 ≤ y * (f : Int) := Int.mul_nonneg (by omega) (by omega)
  have h3 := Int.emod_nonneg (v + y * (f : Int)) (show (m : Int) ≠ 0 by omega)
  have h4 := Int.emod_lt_of_pos (v + y * (f : Int)) (show (0 : Int) < m by omega)
  rw [h] at h3 h4
  refine ⟨y * (f : Int), v + y * (f : Int), IntWalk.i64_in _ (by omega), IntWalk.wrap64_in _ (by omega), IntWalk.i64_in _ (by omega), IntWalk.wrap64_in _ (by omega), ?_, IntWalk.i64_in _ (by omega), IntWalk.wrap64_in _ (by omega), h3, h4⟩
  rw [Int.tmod_eq_emod_of_nonneg (by omega)]; exact h
theorem range_take {n k : Nat} (f : Nat → Int) (h : k < n) : ((List.range n).map f).take (k + 1) = ((List.range n).map f).take k ++ [f k] := by
  rw [List.take_add_one, List.getElem?_map, List.getElem?_range h]; rfl
set_option maxRecDepth 100000 in
set_option maxHeartbeats 4000000 in
theorem refUnform_any (m : Nat) (a : Option Addr) (n cap : Nat) (xs : List Int) (w : World) (hr : Row w a n (intL xs)) (hn : n ≤ 100) (hm : 2 ≤ m) (hm2 : m ≤ 64) (hxs : ∀ x ∈ xs, 0 ≤ x ∧ x ≤ 64) :
    Calls Try.prog 48 #[.int .i64 m, .slice a n cap] w fun e w' => ∃ v, e = .returned v ∧ w'.ownsRow w.heap.size 3 1 v m (intL ((List.range m).map fun x : Nat => formV m xs x)) ∧ Below w.heap.size w w' := by
  have hx : xs.length = n := by have := hr.1; simpa [intL] using this
  obtain ⟨i0, hi, hz0, hz1, hz2⟩ := info_parts info_int
  have hF := fun (x i : Nat) (hx : x ≤ 100) (hi : i ≤ 100) w => falling_any m x i w hm hm2 hx hi
  have hfl := fun x i => fallN_lt hm x i
  have hval : ∀ x : Nat, formV m xs x = valV m xs x n := fun x => by rw [formV_val hm, hx]
  have hv0 : ∀ x, valV m xs x 0 = 0 := fun _ => rfl
  have hvs : ∀ x i, valV m xs x (i + 1) = (valV m xs x i + xs.getD i 0 * (fallN m x i : Int)) % (m : Int) := fun _ _ => rfl
  have hvr := fun x i => valV_range (show 0 < m by omega) xs x i
  have htk := fun k (h : k < m) => range_take (n := m) (fun x : Nat => formV m xs x) h
  have hg : ∀ i, i < n → 0 ≤ xs.getD i 0 ∧ xs.getD i 0 ≤ 64 := fun i hi => hxs _ (by rw [List.getD_eq_getElem?_getD, List.getElem?_eq_getElem (by omega)]; exact List.getElem_mem _)
  have hml : ((List.range m).map fun x : Nat => formV m xs x).take m = (List.range m).map fun x : Nat => formV m xs x := List.take_of_length_le (by simp)
  generalize ((List.range m).map fun x : Nat => formV m xs x) = L at *
  generalize formV m xs = fv at *
  generalize valV m xs = vv at *
  generalize fallN m = fn at *
  have HF := Lib.hid hF
  have Hfl := Lib.hid hfl
  have Hval := Lib.hid hval
  have Hv0 := Lib.hid hv0
  have Hvs := Lib.hid hvs
  have Hvr := Lib.hid hvr
  have Htk := Lib.hid htk
  have Hg := Lib.hid hg
  have Hml := Lib.hid hml
  have Hr := Lib.hid hr
  clear hF hfl hval hv0 hvs hvr htk hg hml hr hxs hx
  obtain ⟨z1, z2⟩ := zero_no hm
  go_enter Try.func48, Try.ntmps48
  go_wp2
  go_loopw [5, 6] (fun v i wr => ∃ k : Nat, k ≤ m ∧ i = .int .i64 k ∧ wr.ownsRow w.heap.size 3 1 v k (intL (L.take k)) ∧ Below w.heap.size w wr) (fun _ i _ => m - (intOf i).toNat)
  case atStart => exact ⟨0, Nat.zero_le _, rfl, World.ownsRow_nil _ _ _ _, Below.refl _ _⟩
  case round =>
    obtain ⟨k, hk, rfl, ho, hB⟩ := hrel
    obtain ⟨a5, c5, hv5, -⟩ := Row.of_own ho
    subst hv5
    have HO := Lib.hid ho
    have HB := Lib.hid hB
    clear ho hB
    by_cases hlt : k < m
    · have hc : (k : Int) < (m : Int) := by omega
      have hk100 : k ≤ 100 := by omega
      generalize wr = W1 at *
      go_wp2
      go_loopw [7, 8] (fun t i w2 => ∃ j q : Nat, j ≤ n ∧ i = .int .i64 j ∧ t = .int .i64 (vv k j) ∧ w2 = W1.drewN q) (fun _ i _ => n - (intOf i).toNat)
      case atStart => exact ⟨0, 0, Nat.zero_le _, rfl, by rw [Hv0.out], rfl⟩
      case round =>
        obtain ⟨j, q, hj, rfl, rfl, hw⟩ := hrel
        subst wr
        by_cases hjn : j < n
        · have hc2 : (j : Int) < (n : Int) := by omega
          have hC := fun w => HF.out k j hk100 (by omega) w
          have hfj := Hfl.out k j
          have hvr := Hvr.out k j
          have hgj := Hg.out j hjn
          obtain ⟨r, hr⟩ : ∃ r, vv k (j + 1) = r := ⟨_, rfl⟩
          have hs := Hvs.out k j
          rw [hr] at hs
          obtain ⟨g, rfl, cx⟩ := (Hr.out.below HB.out).int hjn
          generalize xs.getD j 0 = y at cx hgj hs
          generalize fn k j = f at hC hfj hs
          generalize vv k j = u at hvr hs ⊢
          obtain ⟨p, s, n1, n2, n3, n4, n5, n6, n7, _⟩ := uf_num hm hm2 hvr hgj hfj hs.symm
          have HC := Lib.hid hC
          have HR := Lib.hid hr
          have Hgo := Lib.hid (And.intro (show j + 1 ≤ n by omega) hjn)
          clear hC hr hs hgj hfj hvr
          go_wp2
          go_quiet ((go_at_call 86; with_reducible exact quiet_still (HC.out _)))
          go_wp2
          go_roundw
          case rel => exact ⟨j + 1, _, Hgo.out.1, by go_num, by rw [HR.out], by first | rfl | exact World.drewN_drewN _ _ _ | trivial⟩
          case measure => exact mz_upn Hgo.out.2
        · obtain rfl : j = n := by omega
          have hc2 : ¬ (j : Int) < (j : Int) := by omega
          have hT := Htk.out k hlt
          have hV := Hval.out k
          generalize vv k j = u at hV ⊢
          rw [hV] at hT
          have HT := Lib.hid hT
          have HO2 : Hid ((W1.drewN q).ownsRow w.heap.size 3 1 (.slice a5 k c5) k (intL (L.take k))) := HO.out
          have HB2 : Hid (Below w.heap.size w (W1.drewN q)) := below_drewN HB.out q
          generalize W1.drewN q = W5 at HO2 HB2 ⊢
          have Hgo := Lib.hid (And.intro (show k + 1 ≤ m by omega) hlt)
          clear hT hV
          go_wp2_with (at_builtin; refine wpList_append_own _ rfl _ _ 22 rfl w.heap.size 3 i0 (.int .i64 0) 1 8 Try.underlying22 hi hz0 hz1 hz2 rfl (by decide) _ _ _ rfl (HO2.out.alloc (.cells #[.int .i64 u] 3)) ⟨_, 0, none⟩ 1 1 [.int .i64 u] rfl rfl (one_new _ _ _ _ (by simp)) (by simp [Value.oneCell']) (by unfold maxLen; omega) (by omega) (by have := HB2.out.size; simp; omega) ?_; intro v2 w6 hown2 hgrow2 _
                       obtain ⟨a6, c6, hv6, -⟩ := Row.of_own hown2
                       subst hv6
                       have HB6 : Hid (Below w.heap.size w w6) := rel_push HB2.out (by have := HB2.out.size; simp; omega) ((Below.refl _ _).alloc HB2.out.size _) HO2.out hgrow2
                       have HO6 := Lib.hid hown2
                       clear hown2 hgrow2)
          go_roundw
          case rel =>
            refine ⟨k + 1, Hgo.out.1, by go_num, ?_, HB6.out⟩
            rw [HT.out]
            unfold intL
            rw [List.map_append]
            exact HO6.out
          case measure => exact mz_upn Hgo.out.2
    · obtain rfl : k = m := by omega
      have hc : ¬ (k : Int) < (k : Int) := by omega
      have ho := HO.out
      rw [Hml.out] at ho
      have HO3 := Lib.hid ho
      clear ho
      go_wp2
      go_ret
      exact ⟨_, rfl, HO3.out, HB.out⟩
end Go.Proofs.Ythmdlkaanjjbkaa
