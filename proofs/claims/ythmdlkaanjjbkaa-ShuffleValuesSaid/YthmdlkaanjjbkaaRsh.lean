/- The reference's Shifts and Reduced. -/
import Derived.Test.YthmdlkaanjjbkaaRpw
import Derived.Test.YthmdlkaanjjbkaaShm
namespace Go.Proofs.Ythmdlkaanjjbkaa
set_option linter.unusedVariables false
open Go.RowKit

def okK (m : Nat) (F : List Int) (a k : Nat) : Bool := (List.range k).all fun x => decide (F.getD ((x + a) % m) 0 = (F.getD x 0 + (a : Int)) % (m : Int))
theorem okK_step (m : Nat) (F : List Int) (a k : Nat) : okK m F a (k + 1) = (okK m F a k && decide (F.getD ((k + a) % m) 0 = (F.getD k 0 + (a : Int)) % (m : Int))) := by
  unfold okK
  rw [List.range_succ, List.all_append]; simp
theorem okK_all {m : Nat} (hm2 : m ≤ 64) (F : List Int) (a : Nat) : okK m F a m = okS m (fun x => F.getD x 0) a := by
  rw [Bool.eq_iff_iff, okS_iff hm2]
  unfold okK
  rw [List.all_eq_true]
  exact ⟨fun h x hx => of_decide_eq_true (h x (List.mem_range.2 hx)), fun h x hx => decide_eq_true (h x (List.mem_range.1 hx))⟩
theorem rs_num {m x a : Nat} {y : Int} (hm : 2 ≤ m) (hm2 : m ≤ 64) (hx : x < m) (ha : a < m) (hy : 0 ≤ y ∧ y < m) : ∃ (j : Nat) (t : Int), (x + a) % m = j ∧ j < m ∧ IntKind.i64.wrap ((x : Int) + (a : Int)) = (x : Int) + (a : Int) ∧ Int.tmod ((x : Int) + (a : Int)) (m : Int) = (j : Int) ∧ IntKind.i64.wrap (j : Int) = (j : Int) ∧ IntKind.i64.wrap (y + (a : Int)) = y + (a : Int) ∧ Int.tmod (y + (a : Int)) (m : Int) = t ∧ IntKind.i64.wrap t = t ∧ (y + (a : Int)) % (m : Int) = t := by
  have h0 := Nat.mod_lt (x + a) (show 0 < m by omega)
  have h1 := tmod_nat (x + a) m
  rw [Int.natCast_add] at h1
  generalize (x + a) % m = j at h0 h1
  have h3 := Int.emod_nonneg (y + (a : Int)) (show (m : Int) ≠ 0 by omega)
  have h4 := Int.emod_lt_of_pos (y + (a : Int)) (show (0 : Int) < m by omega)
  have h5 : Int.tmod (y + (a : Int)) (m : Int) = (y + (a : Int)) % (m : Int) := Int.tmod_eq_emod_of_nonneg (by omega)
  refine ⟨j, (y + (a : Int)) % (m : Int), rfl, h0, IntWalk.i64_in _ (by omega), h1, IntWalk.i64_in _ (by omega), IntWalk.i64_in _ (by omega), h5, ?_, rfl⟩
  generalize (y + (a : Int)) % (m : Int) = t at h3 h4 ⊢
  exact IntWalk.i64_in _ (by omega)
set_option maxRecDepth 100000 in
set_option maxHeartbeats 4000000 in
theorem refShifts_any (m : Nat) (fa : Option Addr) (fc : Nat) (F : List Int) (w : World) (hr : Row w fa m (intL F)) (hm : 2 ≤ m) (hm2 : m ≤ 64) (hfi : ∀ x ∈ F, 0 ≤ x ∧ x < m) :
    Calls Try.prog 29 #[.slice fa m fc] w fun e w' => ∃ v, e = .returned v ∧ w'.ownsRow w.heap.size 3 1 v (shL m (fun x => F.getD x 0) m).length (intL (shL m (fun x => F.getD x 0) m)) ∧ Below w.heap.size w w' := by
  have hx : F.length = m := by have := hr.1; simpa [intL] using this
  obtain ⟨i0, hi, hz0, hz1, hz2⟩ := info_parts info_int
  have hg : ∀ i, i < m → 0 ≤ F.getD i 0 ∧ F.getD i 0 < m := fun i hi => hfi _ (by rw [List.getD_eq_getElem?_getD, List.getElem?_eq_getElem (by omega)]; exact List.getElem_mem _)
  obtain ⟨g, rfl, _⟩ := hr.2 (by omega)
  have hcell : ∀ W, Below w.heap.size w W → ∀ j, j < m → W.cell? ⟨g, j, none⟩ = some (.int .i64 (F.getD j 0)) := fun W hW j hj => by
    obtain ⟨g', e1, h2⟩ := (hr.below hW).int hj
    simp only [Option.some.injEq, Addr.mk.injEq, and_true] at e1
    subst e1
    exact h2
  have Hst := Lib.hid fun k => shL_next m (fun x => F.getD x 0) k
  have Hle := Lib.hid fun k => shL_le m (fun x => F.getD x 0) k
  have Hok := Lib.hid fun a => okK_all hm2 F a
  have Hks := Lib.hid fun a k => okK_step m F a k
  have Hk0 := Lib.hid fun a => (show okK m F a 0 = true from rfl)
  have Hcell := Lib.hid hcell
  have Hg := Lib.hid hg
  clear hcell hg hx hfi hr
  obtain ⟨z1, z2⟩ := zero_no hm
  generalize hL : shL m (fun x => F.getD x 0) = L at *
  generalize okS m (fun x => F.getD x 0) = ok at *
  generalize okK m F = kk at *
  have hL0 : L 0 = [] := by rw [← hL]; rfl
  have HL0 := Lib.hid hL0
  clear hL hL0
  go_enter Try.func29, Try.ntmps29
  go_wp2
  go_loopw [4, 5] (fun v i wr => ∃ k : Nat, k ≤ m ∧ i = .int .i64 k ∧ Hid (wr.ownsRow w.heap.size 3 1 v (L k).length (intL (L k))) ∧ Hid (Below w.heap.size w wr)) (fun _ i _ => m - (intOf i).toNat)
  case atStart => exact ⟨0, Nat.zero_le _, rfl, by unfold Hid; rw [HL0.out]; exact World.ownsRow_nil _ _ _ _, Below.refl _ _⟩
  case round =>
    obtain ⟨k, hk, rfl, HO, HB⟩ := hrel
    obtain ⟨a5, c5, hv5⟩ := own_form HO.out
    subst hv5
    generalize wr = W1 at *
    by_cases hlt : k < m
    · have hc : (k : Int) < (m : Int) := by omega
      go_wp2
      go_loopw [6, 7] (fun al i wr => ∃ j q : Nat, j ≤ m ∧ i = .int .i64 j ∧ al = .bool (kk k j) ∧ wr = W1.drewN q) (fun _ i _ => m - (intOf i).toNat)
      case atStart => exact ⟨0, 0, Nat.zero_le _, rfl, by rw [Hk0.out], rfl⟩
      case round =>
        obtain ⟨j, q, hj, rfl, rfl, hw⟩ := hrel
        subst wr
        by_cases hjm : j < m
        · have hc2 : (j : Int) < (m : Int) := by omega
          have hks := Hks.out k j
          have hgj := Hg.out j hjm
          obtain ⟨jj, t, h1, h2, n1, n2, n3, n4, n5, n6, n7⟩ := rs_num hm hm2 hjm hlt hgj
          rw [h1, n7] at hks
          have cj := Hcell.out W1 HB.out j hjm
          have cjj := Hcell.out W1 HB.out jj h2
          have hjji : (jj : Int) < (m : Int) := by omega
          generalize F.getD j 0 = y at *
          generalize F.getD jj 0 = y2 at *
          have hyt : decide (y2 = t) = (y2 == t) := by
            by_cases h : y2 = t
            · rw [decide_eq_true h]; simp [h]
            · rw [decide_eq_false h]; simp [h]
          rw [hyt] at hks
          generalize hb1 : kk k (j + 1) = b1 at *
          generalize kk k j = b at *
          have HB1 := Lib.hid hb1
          have HKs := Lib.hid hks
          have Hgo := Lib.hid (And.intro (show j + 1 ≤ m by omega) hjm)
          clear hks hyt hb1 h1 h2 n7 hgj hjm hj
          cases b with
          | true =>
            have hbb : b1 = (y2 == t) := by have := HKs.out; simpa using this
            go_wp2
            go_quiet (fail)
            go_wp2
            go_roundw
            case rel => exact ⟨j + 1, _, Hgo.out.1, by clear n1 n2 n3 n4 n5 n6; go_num, by rw [HB1.out, hbb], by first | rfl | exact World.drewN_drewN _ _ _ | trivial⟩
            case measure => exact mz_upn Hgo.out.2
          | false =>
            have hbb : b1 = false := by have := HKs.out; simpa using this
            go_wp2
            go_quiet (fail)
            go_wp2
            go_roundw
            case rel => exact ⟨j + 1, _, Hgo.out.1, by clear n1 n2 n3 n4 n5 n6; go_num, by rw [HB1.out, hbb], by first | rfl | exact World.drewN_drewN _ _ _ | trivial⟩
            case measure => exact mz_upn Hgo.out.2
        · obtain rfl : j = m := by omega
          have hc2 : ¬ (j : Int) < (j : Int) := by omega
          have hst := Hst.out k
          have hle := Hle.out k
          rw [Hok.out k]
          generalize ok k = b at hst ⊢
          have HO2 : Hid ((W1.drewN q).ownsRow w.heap.size 3 1 (.slice a5 (L k).length c5) (L k).length (intL (L k))) := HO.out
          have HB2 : Hid (Below w.heap.size w (W1.drewN q)) := below_drewN HB.out q
          generalize W1.drewN q = W5 at HO2 HB2 ⊢
          have Hgo := Lib.hid (And.intro (show k + 1 ≤ j by omega) hlt)
          obtain ⟨ln, hln⟩ : ∃ n, (L k).length = n := ⟨_, rfl⟩
          rw [hln] at hle
          have Hln := Lib.hid hln
          have Hst2 := Lib.hid hst
          clear hst hln
          cases b with
          | true =>
            rw [if_pos rfl] at Hst2
            go_wp2_with (at_builtin; refine wpList_append_own _ rfl _ _ 22 rfl w.heap.size 3 i0 (.int .i64 0) 1 8 Try.underlying22 hi hz0 hz1 hz2 rfl (by decide) _ _ _ rfl (HO2.out.alloc (.cells #[.int .i64 (k : Int)] 3)) ⟨_, 0, none⟩ 1 1 [.int .i64 (k : Int)] rfl rfl (one_new _ _ _ _ (by simp)) (by simp [Value.oneCell']) (by rw [Hln.out]; unfold maxLen; omega) (by rw [Hln.out]; omega) (by have := HB2.out.size; simp; omega) ?_; intro v2 w6 hown2 hgrow2 _
                         obtain ⟨a6, c6, hv6⟩ := own_form hown2
                         subst hv6
                         have HB6 : Hid (Below w.heap.size w w6) := rel_push HB2.out (by have := HB2.out.size; simp; omega) ((Below.refl _ _).alloc HB2.out.size _) HO2.out hgrow2
                         have HO6 := Lib.hid hown2
                         clear hown2 hgrow2)
            go_roundw
            case rel =>
              refine ⟨k + 1, Hgo.out.1, by go_num, ?_, HB6⟩
              rw [Hst2.out]
              unfold Hid intL
              rw [List.length_append, List.map_append]
              exact HO6.out
            case measure => exact mz_upn Hgo.out.2
          | false =>
            rw [if_neg (by decide)] at Hst2
            go_wp2
            go_roundw
            case rel =>
              refine ⟨k + 1, Hgo.out.1, by go_num, ?_, HB2⟩
              rw [Hst2.out]
              exact HO2
            case measure => exact mz_upn Hgo.out.2
    · obtain rfl : k = m := by omega
      have hc : ¬ (k : Int) < (k : Int) := by omega
      go_wp2
      go_ret
      exact ⟨_, rfl, HO.out, HB.out⟩
def redL (q : Nat) (xs : List Int) : List Int := xs.map fun x => x % (q : Int)
set_option maxRecDepth 100000 in
set_option maxHeartbeats 4000000 in
theorem refReduced_any (q : Nat) (a : Option Addr) (n cap : Nat) (xs : List Int) (w : World) (hr : Row w a n (intL xs)) (hn : n ≤ 100) (hq : 2 ≤ q) (hq2 : q ≤ 64) (hxs : ∀ x ∈ xs, 0 ≤ x ∧ x ≤ 64) :
    Calls Try.prog 31 #[.int .i64 q, .slice a n cap] w fun e w' => ∃ v, e = .returned v ∧ w'.ownsRow w.heap.size 3 1 v n (intL (redL q xs)) ∧ Below w.heap.size w w' := by
  have hx : xs.length = n := by have := hr.1; simpa [intL] using this
  obtain ⟨i0, hi, hz0, hz1, hz2⟩ := info_parts info_int
  have hml : (redL q xs).take n = redL q xs := List.take_of_length_le (by simp [redL]; omega)
  have htk : ∀ k, k < n → (redL q xs).take (k + 1) = (redL q xs).take k ++ [xs.getD k 0 % (q : Int)] := fun k hk => by
    unfold redL
    rw [List.take_add_one, List.getElem?_map, List.getElem?_eq_getElem (by omega), List.getD_eq_getElem?_getD, List.getElem?_eq_getElem (by omega)]; rfl
  have hg : ∀ i, i < n → 0 ≤ xs.getD i 0 ∧ xs.getD i 0 ≤ 64 := fun i hi => hxs _ (by rw [List.getD_eq_getElem?_getD, List.getElem?_eq_getElem (by omega)]; exact List.getElem_mem _)
  generalize redL q xs = L at *
  have Htk := Lib.hid htk
  have Hml := Lib.hid hml
  have Hg := Lib.hid hg
  have Hr := Lib.hid hr
  clear htk hml hg hr hx hxs
  obtain ⟨z1, z2⟩ := zero_no hq
  go_enter Try.func31, Try.ntmps31
  go_wp2
  go_loopw [5, 6] (fun v i wr => ∃ k : Nat, k ≤ n ∧ i = .int .i64 k ∧ wr.ownsRow w.heap.size 3 1 v k (intL (L.take k)) ∧ Below w.heap.size w wr) (fun _ i _ => n - (intOf i).toNat)
  case atStart => exact ⟨0, Nat.zero_le _, rfl, World.ownsRow_nil _ _ _ _, Below.refl _ _⟩
  case round =>
    obtain ⟨k, hk, rfl, ho, hB⟩ := hrel
    obtain ⟨a5, c5, hv5, -⟩ := Row.of_own ho
    subst hv5
    have HO := Lib.hid ho
    have HB := Lib.hid hB
    clear ho hB
    by_cases hlt : k < n
    · have hc : (k : Int) < (n : Int) := by omega
      have hT := Htk.out k hlt
      obtain ⟨g1, rfl, cf⟩ := (Hr.out.below HB.out).int hlt
      have hgk := Hg.out k hlt
      generalize xs.getD k 0 = y at cf hT hgk
      obtain ⟨s, u, n1, n2, n3, n4⟩ : ∃ s u : Int, Int.tmod y (q : Int) = u ∧ IntKind.i64.wrap u = u ∧ wrap64 u = u ∧ y % (q : Int) = u ∧ s = s := by
        have h3 := Int.emod_nonneg y (show (q : Int) ≠ 0 by omega)
        have h4 := Int.emod_lt_of_pos y (show (0 : Int) < q by omega)
        have h5 : Int.tmod y (q : Int) = y % (q : Int) := Int.tmod_eq_emod_of_nonneg hgk.1
        refine ⟨0, y % (q : Int), h5, ?_, ?_, rfl, rfl⟩
        · generalize y % (q : Int) = t at h3 h4 ⊢; exact IntWalk.i64_in _ (by omega)
        · generalize y % (q : Int) = t at h3 h4 ⊢; exact IntWalk.wrap64_in _ (by omega)
      rw [n4.1] at hT
      have HT := Lib.hid hT
      have Hgo := Lib.hid (And.intro (show k + 1 ≤ n by omega) hlt)
      have hk100 : k ≤ 100 := by clear n1 n2 n3; omega
      clear hT n4 hgk
      go_wp2_with (at_builtin; refine wpList_append_own _ rfl _ _ 22 rfl w.heap.size 3 i0 (.int .i64 0) 1 8 Try.underlying22 hi hz0 hz1 hz2 rfl (by decide) _ _ _ rfl (HO.out.alloc (.cells #[.int .i64 u] 3)) ⟨_, 0, none⟩ 1 1 [.int .i64 u] rfl rfl (one_new _ _ _ _ (by simp)) (by simp [Value.oneCell']) (by clear n1 n2 n3; unfold maxLen; omega) (by clear n1 n2 n3; omega) (by clear n1 n2 n3; have := HB.out.size; simp; omega) ?_; intro v2 w6 hown2 hgrow2 _
                   obtain ⟨a6, c6, hv6, -⟩ := Row.of_own hown2
                   subst hv6
                   have HB6 : Hid (Below w.heap.size w w6) := rel_push HB.out (by clear n1 n2 n3; have := HB.out.size; simp; omega) ((Below.refl _ _).alloc HB.out.size _) HO.out hgrow2
                   have HO6 := Lib.hid hown2
                   clear hown2 hgrow2)
      go_roundw
      case rel =>
        refine ⟨k + 1, Hgo.out.1, by clear n1 n2 n3; go_num, ?_, HB6.out⟩
        rw [HT.out]
        unfold intL
        rw [List.map_append]
        exact HO6.out
      case measure => exact mz_upn Hgo.out.2
    · obtain rfl : k = n := by omega
      have hc : ¬ (k : Int) < (k : Int) := by omega
      have ho := HO.out
      rw [Hml.out] at ho
      have HO3 := Lib.hid ho
      clear ho
      go_wp2
      go_ret
      exact ⟨_, rfl, HO3.out, HB.out⟩
end Go.Proofs.Ythmdlkaanjjbkaa
