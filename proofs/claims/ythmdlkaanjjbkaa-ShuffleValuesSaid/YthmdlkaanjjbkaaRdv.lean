/- The reference's Values, After, Differ; After that refuses. -/
import Derived.Test.YthmdlkaanjjbkaaSame
import Derived.Test.YthmdlkaanjjbkaaRuf
import Derived.Test.YthmdlkaanjjbkaaLst
namespace Go.Proofs.Ythmdlkaanjjbkaa
set_option linter.unusedVariables false
open Go.RowKit

theorem nestV_const (m : Int) (x : Int) (xs : List Int) (j : Nat) (h : j < xs.length) : nestV m (fun _ => x) j (xs.drop j) = (nestV m (fun _ => x) (j + 1) (xs.drop (j + 1)) * x + xs.getD j 0) % m := by
  rw [List.drop_eq_getElem_cons h]
  show (xs[j] + x * _) % m = _
  rw [List.getD_eq_getElem?_getD, List.getElem?_eq_getElem h, Option.getD_some, Int.add_comm, Int.mul_comm]
theorem rv_num {m k : Nat} {v y r : Int} (hm : 2 ≤ m) (hm2 : m ≤ 64) (hv : 0 ≤ v ∧ v < m) (hy : 0 ≤ y ∧ y ≤ 64) (hk : k ≤ 64) (h : (v * (k : Int) + y) % (m : Int) = r) :
    ∃ p s : Int, IntKind.i64.wrap (v * (k : Int)) = p ∧ wrap64 (v * (k : Int)) = p ∧ IntKind.i64.wrap (p + y) = s ∧ wrap64 (p + y) = s ∧ Int.tmod s (m : Int) = r ∧ IntKind.i64.wrap r = r ∧ wrap64 r = r ∧ 0 ≤ r ∧ r < m := by
  have h1 : v * (k : Int) ≤ 64 * 64 := Int.mul_le_mul (by omega) (by omega) (by omega) (by omega)
  have h2 : 0 ≤ v * (k : Int) := Int.mul_nonneg (by omega) (by omega)
  have h3 := Int.emod_nonneg (v * (k : Int) + y) (show (m : Int) ≠ 0 by omega)
  have h4 := Int.emod_lt_of_pos (v * (k : Int) + y) (show (0 : Int) < m by omega)
  rw [h] at h3 h4
  refine ⟨v * (k : Int), v * (k : Int) + y, IntWalk.i64_in _ (by omega), IntWalk.wrap64_in _ (by omega), IntWalk.i64_in _ (by omega), IntWalk.wrap64_in _ (by omega), ?_, IntWalk.i64_in _ (by omega), IntWalk.wrap64_in _ (by omega), h3, h4⟩
  rw [Int.tmod_eq_emod_of_nonneg (by omega)]; exact h
theorem down_num {j : Nat} {z : Int} (h : z + 1 = j) (hj : j ≤ 1000) (h0 : 0 < j) : ∃ i : Nat, j = i + 1 ∧ z = (i : Int) ∧ ∃ z2 : Int, IntKind.i64.wrap ((i : Int) - 1) = z2 ∧ wrap64 ((i : Int) - 1) = z2 ∧ z2 + 1 = i := by
  obtain ⟨i, rfl⟩ : ∃ i, j = i + 1 := ⟨j - 1, by omega⟩
  refine ⟨i, rfl, by omega, (i : Int) - 1, ?_, ?_, by omega⟩
  · exact IntWalk.i64_in _ (by omega)
  · exact IntWalk.wrap64_in _ (by omega)
set_option maxRecDepth 100000 in
set_option maxHeartbeats 4000000 in
theorem refValues_any (m : Nat) (a : Option Addr) (n cap : Nat) (xs : List Int) (w : World) (hr : Row w a n (intL xs)) (hn : n ≤ 100) (hm : 2 ≤ m) (hm2 : m ≤ 64) (hxs : ∀ x ∈ xs, 0 ≤ x ∧ x < m) :
    Calls Try.prog 25 #[.int .i64 m, .slice a n cap] w fun e w' => ∃ v, e = .returned v ∧ w'.ownsRow w.heap.size 3 1 v m (intL (valuesL m xs)) ∧ Below w.heap.size w w' := by
  have hx : xs.length = n := by have := hr.1; simpa [intL] using this
  obtain ⟨i0, hi, hz0, hz1, hz2⟩ := info_parts info_int
  have hval : ∀ x : Nat, polyV m xs x = nestV m (fun _ => (x : Int)) 0 (xs.drop 0) := fun _ => rfl
  have hv0 : ∀ x : Nat, nestV m (fun _ => (x : Int)) n (xs.drop n) = 0 := fun x => by rw [List.drop_of_length_le (by omega)]; rfl
  have hvs := fun (x : Nat) j (h : j < n) => nestV_const m x xs j (by omega)
  have hvr := fun (x : Nat) j => nestV_range (m := m) (by omega) (fun _ => (x : Int)) (xs.drop j) j
  have htk := fun k (h : k < m) => range_take (n := m) (fun x : Nat => polyV m xs x) h
  have hg : ∀ i, i < n → 0 ≤ xs.getD i 0 ∧ xs.getD i 0 ≤ 64 := fun i hi => by
    have := hxs (xs.getD i 0) (by rw [List.getD_eq_getElem?_getD, List.getElem?_eq_getElem (by omega)]; exact List.getElem_mem _)
    omega
  have hml : (valuesL m xs).take m = valuesL m xs := List.take_of_length_le (by simp [valuesL])
  have hvl : (List.range m).map (fun x : Nat => polyV m xs x) = valuesL m xs := rfl
  rw [hvl] at htk
  obtain ⟨vv, hvv⟩ : ∃ vv : Nat → Nat → Int, ∀ (x j : Nat), nestV m (fun _ => (x : Int)) j (xs.drop j) = vv x j := ⟨_, fun _ _ => rfl⟩
  simp only [hvv] at hval hv0 hvs hvr
  generalize valuesL m xs = L at *
  have Hval := Lib.hid hval
  have Hv0 := Lib.hid hv0
  have Hvs := Lib.hid hvs
  have Hvr := Lib.hid hvr
  have Htk := Lib.hid htk
  have Hg := Lib.hid hg
  have Hml := Lib.hid hml
  have Hr := Lib.hid hr
  clear hval hv0 hvs hvr htk hg hml hr hxs hx hvl hvv
  obtain ⟨z1, z2⟩ := zero_no hm
  have hnn : ∃ z : Int, IntKind.i64.wrap ((n : Int) - 1) = z ∧ wrap64 ((n : Int) - 1) = z ∧ z + 1 = n := ⟨(n : Int) - 1, IntWalk.i64_in _ (by omega), IntWalk.wrap64_in _ (by omega), by omega⟩
  obtain ⟨zn, zn1, zn2, zn3⟩ := hnn
  have Hzn := Lib.hid zn3
  clear zn3
  go_enter Try.func25, Try.ntmps25
  go_wp2
  go_loopw [5, 6] (fun v i wr => ∃ k : Nat, k ≤ m ∧ i = .int .i64 k ∧ wr.ownsRow w.heap.size 3 1 v k (intL (L.take k)) ∧ Below w.heap.size w wr) (fun _ i _ => m - (intOf i).toNat)
  case atStart => exact ⟨0, Nat.zero_le _, rfl, World.ownsRow_nil _ _ _ _, Below.refl _ _⟩
  case round =>
    obtain ⟨k, hk, rfl, ho, hB⟩ := hrel
    obtain ⟨a5, c5, hv5, -⟩ := Row.of_own ho
    subst hv5
    have HO := Lib.hid ho
    have HB := Lib.hid hB
    clear ho hB
    by_cases hlt : k < m
    · have hc : (k : Int) < (m : Int) := by omega
      have hk64 : k ≤ 64 := by omega
      generalize wr = W1 at *
      go_wp2
      go_loopw [7, 8] (fun t i wr => ∃ (j : Nat) (z : Int), j ≤ n ∧ i = .int .i64 z ∧ Hid (z + 1 = j) ∧ t = .int .i64 (vv k j) ∧ wr = W1) (fun _ i _ => (intOf i + 1).toNat)
      case atStart => exact ⟨n, zn, Nat.le_refl _, by first | rfl | rw [zn1] | rw [zn2], Hzn, by rw [Hv0.out], rfl⟩
      case round =>
        obtain ⟨j, z, hj, rfl, HZ, rfl, hw⟩ := hrel
        subst wr
        by_cases hj0 : 0 < j
        · obtain ⟨i, rfl, rfl, z2', y1, y2, y3⟩ := down_num HZ.out (by omega) hj0
          have hvr := Hvr.out k (i + 1)
          have hin : i < n := by omega
          have hgj := Hg.out i hin
          obtain ⟨r, hr⟩ : ∃ r, vv k i = r := ⟨_, rfl⟩
          have hs := Hvs.out k i hin
          rw [hr] at hs
          obtain ⟨g, rfl, cx⟩ := (Hr.out.below HB.out).int hin
          generalize xs.getD i 0 = y at cx hgj hs
          generalize vv k (i + 1) = u at hvr hs ⊢
          obtain ⟨p, s, n1, n2, n3, n4, n5, n6, n7, _⟩ := rv_num hm hm2 hvr hgj hk64 hs.symm
          have hge : (0 : Int) ≤ (i : Int) := by omega
          have hii : (i : Int) < (n : Int) := by omega
          have HR := Lib.hid hr
          have HY := Lib.hid y3
          have Hin := Lib.hid hin
          clear hr hs hgj hvr HZ hj0 hj y3 hin
          go_wp2
          go_roundw
          case rel => exact ⟨i, z2', Nat.le_of_lt Hin.out, by first | rfl | rw [y1] | rw [y2], HY, by rw [HR.out], trivial⟩
          case measure => have h1 := HY.out; clear n1 n2 n3 n4 n5 n6 n7 y1 y2; simp [intOf]; omega
        · obtain rfl : j = 0 := by omega
          obtain rfl : z = -1 := by have := HZ.out; omega
          have hT := Htk.out k hlt
          have hV := Hval.out k
          generalize vv k 0 = u at hV ⊢
          rw [hV] at hT
          have HT := Lib.hid hT
          have Hgo := Lib.hid (And.intro (show k + 1 ≤ m by omega) hlt)
          clear hT hV
          go_wp2_with (at_builtin; refine wpList_append_own _ rfl _ _ 22 rfl w.heap.size 3 i0 (.int .i64 0) 1 8 Try.underlying22 hi hz0 hz1 hz2 rfl (by decide) _ _ _ rfl (HO.out.alloc (.cells #[.int .i64 u] 3)) ⟨_, 0, none⟩ 1 1 [.int .i64 u] rfl rfl (one_new _ _ _ _ (by simp)) (by simp [Value.oneCell']) (by unfold maxLen; omega) (by omega) (by have := HB.out.size; simp; omega) ?_; intro v2 w6 hown2 hgrow2 _
                       obtain ⟨a6, c6, hv6, -⟩ := Row.of_own hown2
                       subst hv6
                       have HB6 : Hid (Below w.heap.size w w6) := rel_push HB.out (by have := HB.out.size; simp; omega) ((Below.refl _ _).alloc HB.out.size _) HO.out hgrow2
                       have HO6 := Lib.hid hown2
                       clear hown2 hgrow2)
          go_roundw
          case rel =>
            refine ⟨k + 1, Hgo.out.1, by go_num, ?_, HB6.out⟩
            rw [HT.out]
            unfold intL
            rw [List.map_append]
            exact HO6.out
          case measure => exact mz_upn Hgo.out.2
    · obtain rfl : k = m := by omega
      have hc : ¬ (k : Int) < (k : Int) := by omega
      have ho := HO.out
      rw [Hml.out] at ho
      have HO3 := Lib.hid ho
      clear ho
      go_wp2
      go_ret
      exact ⟨_, rfl, HO3.out, HB.out⟩
def afterL (m : Nat) (F G : List Int) : List Int := (List.range m).map fun x : Nat => G.getD (F.getD x 0).toNat 0
set_option maxRecDepth 100000 in
set_option maxHeartbeats 4000000 in
theorem refAfter_any (m : Nat) (fa ga : Option Addr) (fc gc : Nat) (fs gs : List Int) (w : World) (hf : Row w fa m (intL fs)) (hg : Row w ga m (intL gs)) (hm2 : m ≤ 64) (hfi : ∀ x ∈ fs, 0 ≤ x ∧ x < m) :
    Calls Try.prog 51 #[.slice fa m fc, .slice ga m gc] w fun e w' => ∃ v, e = .returned v ∧ w'.ownsRow w.heap.size 3 1 v m (intL (afterL m fs gs)) ∧ Below w.heap.size w w' := by
  have hx : fs.length = m := by have := hf.1; simpa [intL] using this
  obtain ⟨i0, hi, hz0, hz1, hz2⟩ := info_parts info_int
  have htk := fun k (h : k < m) => range_take (n := m) (fun x : Nat => gs.getD (fs.getD x 0).toNat 0) h
  have hml : (afterL m fs gs).take m = afterL m fs gs := List.take_of_length_le (by simp [afterL])
  have hal : (List.range m).map (fun x : Nat => gs.getD (fs.getD x 0).toNat 0) = afterL m fs gs := rfl
  rw [hal] at htk
  have hfx : ∀ i, i < m → ∃ j : Nat, fs.getD i 0 = (j : Int) ∧ j < m := fun i hi => by
    have h := hfi (fs.getD i 0) (by rw [List.getD_eq_getElem?_getD, List.getElem?_eq_getElem (by omega)]; exact List.getElem_mem _)
    exact ⟨(fs.getD i 0).toNat, by omega, by omega⟩
  generalize afterL m fs gs = L at *
  have Htk := Lib.hid htk
  have Hml := Lib.hid hml
  have Hfx := Lib.hid hfx
  have Hf := Lib.hid hf
  have Hg := Lib.hid hg
  clear htk hml hfx hf hg hal hx hfi
  go_enter Try.func51, Try.ntmps51
  go_wp2
  go_loopw [5, 6] (fun v i wr => ∃ k : Nat, k ≤ m ∧ i = .int .i64 k ∧ wr.ownsRow w.heap.size 3 1 v k (intL (L.take k)) ∧ Below w.heap.size w wr) (fun _ i _ => m - (intOf i).toNat)
  case atStart => exact ⟨0, Nat.zero_le _, rfl, World.ownsRow_nil _ _ _ _, Below.refl _ _⟩
  case round =>
    obtain ⟨k, hk, rfl, ho, hB⟩ := hrel
    obtain ⟨a5, c5, hv5, -⟩ := Row.of_own ho
    subst hv5
    have HO := Lib.hid ho
    have HB := Lib.hid hB
    clear ho hB
    by_cases hlt : k < m
    · have hc : (k : Int) < (m : Int) := by omega
      have hk64 : k ≤ 64 := by omega
      obtain ⟨j, hj, hjm⟩ := Hfx.out k hlt
      have hT := Htk.out k hlt
      obtain ⟨g1, rfl, cf⟩ := (Hf.out.below HB.out).int hlt
      obtain ⟨g2, rfl, cg⟩ := (Hg.out.below HB.out).int hjm
      rw [hj] at cf hT
      rw [Int.toNat_natCast] at hT
      generalize gs.getD j 0 = u at cg hT
      have hji : (j : Int) < (m : Int) := by omega
      have HT := Lib.hid hT
      have Hgo := Lib.hid (And.intro (show k + 1 ≤ m by omega) hlt)
      clear hT hj
      go_wp2_with (at_builtin; refine wpList_append_own _ rfl _ _ 22 rfl w.heap.size 3 i0 (.int .i64 0) 1 8 Try.underlying22 hi hz0 hz1 hz2 rfl (by decide) _ _ _ rfl (HO.out.alloc (.cells #[.int .i64 u] 3)) ⟨_, 0, none⟩ 1 1 [.int .i64 u] rfl rfl (one_new _ _ _ _ (by simp)) (by simp [Value.oneCell']) (by unfold maxLen; omega) (by omega) (by have := HB.out.size; simp; omega) ?_; intro v2 w6 hown2 hgrow2 _
                   obtain ⟨a6, c6, hv6, -⟩ := Row.of_own hown2
                   subst hv6
                   have HB6 : Hid (Below w.heap.size w w6) := rel_push HB.out (by have := HB.out.size; simp; omega) ((Below.refl _ _).alloc HB.out.size _) HO.out hgrow2
                   have HO6 := Lib.hid hown2
                   clear hown2 hgrow2)
      go_roundw
      case rel =>
        refine ⟨k + 1, Hgo.out.1, by go_num, ?_, HB6.out⟩
        rw [HT.out]
        unfold intL
        rw [List.map_append]
        exact HO6.out
      case measure => exact mz_upn Hgo.out.2
    · obtain rfl : k = m := by omega
      have hc : ¬ (k : Int) < (k : Int) := by omega
      have ho := HO.out
      rw [Hml.out] at ho
      have HO3 := Lib.hid ho
      clear ho
      go_wp2
      go_ret
      exact ⟨_, rfl, HO3.out, HB.out⟩
def differR (m : Nat) (F G : List Int) : Int := firstN (differP (fun x => F.getD x 0) (fun x => G.getD x 0)) m 0
set_option maxRecDepth 100000 in
set_option maxHeartbeats 4000000 in
theorem refDiffer_any (m : Nat) (fa ga : Option Addr) (fc gc : Nat) (fs gs : List Int) (w : World) (hf : Row w fa m (intL fs)) (hg : Row w ga m (intL gs)) (hm2 : m ≤ 64) :
    Calls Try.prog 52 #[.slice fa m fc, .slice ga m gc] w fun e w' => e = .returned (.int .i64 (differR m fs gs)) ∧ ∃ q, w' = w.drewN q := by
  obtain ⟨R, hR⟩ : ∃ R, differR m fs gs = R := ⟨_, rfl⟩
  rw [hR]
  unfold differR at hR
  have hR0 : firstN (differP (fun x => fs.getD x 0) (fun x => gs.getD x 0)) (m - 0) 0 = R := hR
  have hst := fun k (h : k < m) => firstN_step (P := differP (fun x => fs.getD x 0) (fun x => gs.getD x 0)) h
  have hd : ∀ k, differP (fun x => fs.getD x 0) (fun x => gs.getD x 0) k = decide (fs.getD k 0 ≠ gs.getD k 0) := fun _ => rfl
  generalize differP (fun x => fs.getD x 0) (fun x => gs.getD x 0) = D at *
  have HR0 := Lib.hid hR0
  have Hst := Lib.hid hst
  have Hd := Lib.hid hd
  have Hf := Lib.hid hf
  have Hg := Lib.hid hg
  clear hR0 hst hd hR hf hg
  go_enter Try.func52, Try.ntmps52
  go_wp2
  go_loopw [5] (fun i wr => ∃ j q : Nat, j ≤ m ∧ i = .int .i64 j ∧ Hid (firstN D (m - j) j = R) ∧ wr = w.drewN q) (fun i _ => m - (intOf i).toNat)
  case atStart => exact ⟨0, 0, Nat.zero_le _, rfl, HR0.out, rfl⟩
  case round =>
    obtain ⟨j, q, hj, rfl, HF, hw⟩ := hrel
    subst wr
    by_cases hlt : j < m
    · have hc : (j : Int) < (m : Int) := by omega
      obtain ⟨g1, rfl, x1⟩ := Hf.out.int hlt
      obtain ⟨g2, rfl, x2⟩ := Hg.out.int hlt
      have hs := Hst.out j hlt
      rw [HF.out, Hd.out j] at hs
      generalize fs.getD j 0 = y1 at x1 hs
      generalize gs.getD j 0 = y2 at x2 hs
      have Hgo := Lib.hid (And.intro (show j + 1 ≤ m by omega) hlt)
      by_cases he : y1 = y2
      · subst y2
        rw [decide_eq_false (by simp), if_neg (by decide)] at hs
        have HS := Lib.hid hs.symm
        have hnn : (y1 != y1) = false := by simp
        clear hs HF
        go_wp2
        go_quiet (fail)
        go_wp2
        go_roundw
        case rel => exact ⟨j + 1, _, Hgo.out.1, by go_num, HS.out, by first | rfl | exact World.drewN_drewN _ _ _ | trivial⟩
        case measure => exact mz_upn Hgo.out.2
      · rw [decide_eq_true he, if_pos rfl] at hs
        have HS := Lib.hid hs
        have hnn : (y1 != y2) = true := by simp [he]
        have hnb : (y1 == y2) = false := by simp [he]
        clear hs HF he
        go_wp2
        go_quiet (fail)
        go_wp2
        go_ret
        exact ⟨ret_int HS.out.symm, _, by first | rfl | exact World.drewN_drewN _ _ _ | trivial⟩
    · obtain rfl : j = m := by omega
      have hc : ¬ (j : Int) < (j : Int) := by omega
      have hf := HF.out
      rw [Nat.sub_self] at hf
      have HS := Lib.hid (show (-1 : Int) = R from hf)
      clear hf HF
      go_wp2
      go_ret
      exact ⟨ret_int HS.out, _, rfl⟩
theorem same_differ (m : Nat) (P Q : List Int) : sameR m P Q = differR m (valuesL m P) (valuesL m Q) := by
  unfold sameR differR
  refine firstN_congr m 0 fun x _ hx => ?_
  show decide (polyV m P x ≠ polyV m Q x) = decide ((valuesL m P).getD x 0 ≠ (valuesL m Q).getD x 0)
  rw [valuesL_get m P (by omega), valuesL_get m Q (by omega)]
/-- After that refuses -/
theorem after_start (w : World) (u v : Value) : Below w.heap.size w ((w.alloc (.cells #[u] 22)).alloc (.cells #[v] 22)) ∧ ((w.alloc (.cells #[u] 22)).alloc (.cells #[v] 22)).cell? ⟨w.heap.size, 0, none⟩ = some u ∧ ((w.alloc (.cells #[u] 22)).alloc (.cells #[v] 22)).cell? ⟨w.heap.size + 1, 0, none⟩ = some v := by
  obtain ⟨h1, h2, h3⟩ := start_pair w u v
  exact ⟨h1, h2.cell, h3.cell⟩
set_option maxRecDepth 100000 in
theorem After_no1 (m : Int) (a b : Option Addr) (n cap k c2 : Nat) (xs : List Int) (w : World) (hr : Row w a n (intL xs)) (hn : n ≤ 1000) (hp : funcB m xs = false) :
    Calls Try.prog 49 #[.int .i64 m, .slice a n cap, .slice b k c2] w fun e w' => e = .returned (.tuple #[.slice none 0 0, .int .i64 2]) ∧ Below w.heap.size w w' := by
  obtain ⟨b3, k1, k2⟩ := after_start w (.slice a n cap) (.slice b k c2)
  have h := isFunc_any m a n cap xs _ (hr.below b3) hn
  rw [hp] at h
  have H := Lib.hid h
  have B3 := Lib.hid b3
  clear h hr hp b3
  go_enter Try.func49, Try.ntmps49
  go_wp2_with fail
  refine H.out.mono ?_
  rintro e w1 ⟨rfl, hw⟩
  subst w1
  go_wp2
  go_ret2
  exact ⟨rfl, B3.out⟩
set_option maxRecDepth 100000 in
theorem After_no2 (m : Int) (a b : Option Addr) (n cap k c2 : Nat) (xs ys : List Int) (w : World) (hr : Row w a n (intL xs)) (hn : n ≤ 1000) (hp : funcB m xs = true) (hr2 : Row w b k (intL ys)) (hk : k ≤ 1000) (hp2 : funcB m ys = false) :
    Calls Try.prog 49 #[.int .i64 m, .slice a n cap, .slice b k c2] w fun e w' => e = .returned (.tuple #[.slice none 0 0, .int .i64 2]) ∧ Below w.heap.size w w' := by
  obtain ⟨b3, k1, k2⟩ := after_start w (.slice a n cap) (.slice b k c2)
  have h := isFunc_any m a n cap xs _ (hr.below b3) hn
  have h2 := isFunc_any m b k c2 ys _ (hr2.below b3) hk
  rw [hp] at h
  rw [hp2] at h2
  have H := Lib.hid h
  have H2 := Lib.hid h2
  have B3 := Lib.hid b3
  clear h hr hp b3 h2 hr2 hp2
  go_enter Try.func49, Try.ntmps49
  go_wp2_with fail
  refine H.out.mono ?_
  rintro e w1 ⟨rfl, hw⟩
  subst w1
  go_wp2_with fail
  refine H2.out.mono ?_
  rintro e w1 ⟨rfl, hw⟩
  subst w1
  go_wp2
  go_ret2
  exact ⟨rfl, B3.out⟩
end Go.Proofs.Ythmdlkaanjjbkaa
