/- The law's some: leaves out of any list. -/
import Derived.Test.YtbbidgdgcbnanaaTame
namespace Go.Proofs.Ytbbidgdgcbnanaa
set_option linter.unusedVariables false
open Go.RowKit

/-- the leaves below n at whose positions the list has a number that passes the test -/
def someN (T : Tree) (of : List Int) (t : Int → Bool) (n : Nat) : List Int := ((List.range n).filter fun i => decide (kids T i = []) && (decide (i < of.length) && t (of.getD i 0))).map fun i : Nat => (i : Int)
theorem someN_step (T : Tree) (of : List Int) (t : Int → Bool) (n : Nat) : someN T of t (n + 1) = someN T of t n ++ if (decide (kids T n = []) && (decide (n < of.length) && t (of.getD n 0))) = true then [(n : Int)] else [] := by
  unfold someN
  rw [List.range_succ, List.filter_append, List.map_append]
  congr 1
  rw [List.filter_cons]
  by_cases h : (decide (kids T n = []) && (decide (n < of.length) && t (of.getD n 0))) = true
  · rw [if_pos h, if_pos h]; rfl
  · rw [if_neg h, if_neg h]; rfl
theorem someN_len (T : Tree) (of : List Int) (t : Int → Bool) (n : Nat) : (someN T of t n).length ≤ n := by
  unfold someN
  rw [List.length_map]
  have := List.length_filter_le (fun i => decide (kids T i = []) && (decide (i < of.length) && t (of.getD i 0))) (List.range n)
  rwa [List.length_range] at this
set_option maxRecDepth 100000 in
set_option maxHeartbeats 4000000 in
theorem some_any (T : Tree) (g cap : Nat) (oa : Option Addr) (on oc : Nat) (of : List Int) (w : World) (ht : TreeAt w (some ⟨g, 0, none⟩) T) (hn : T.length ≤ 60) (hof : of.length = on) (hor : ∀ j x, of[j]? = some x → ∃ ad, oa = some ad ∧ w.cell? (ad.add j) = some (.int .i64 x)) :
    Calls Try.prog 53 #[.slice (some ⟨g, 0, none⟩) T.length cap, .slice oa on oc] w fun e w' => ∃ v, e = .returned v ∧ w'.ownsRow w.heap.size 3 1 v (someN T of (fun x => decide (modV x 2 = 1)) T.length).length (intL (someN T of (fun x => decide (modV x 2 = 1)) T.length)) ∧ Below w.heap.size w w' := by
  obtain ⟨j0, hj, hy0, hy1, hy2⟩ := info_parts info_int
  have Ht := Lib.hid ht
  have Hof := Lib.hid hof
  have Hor := Lib.hid hor
  have Hst := Lib.hid (someN_step T of fun x => decide (modV x 2 = 1))
  have Hle := Lib.hid (someN_len T of fun x => decide (modV x 2 = 1))
  have H0 : Hid (someN T of (fun x => decide (modV x 2 = 1)) 0 = []) := rfl
  obtain ⟨S, hS⟩ : ∃ S, someN T of (fun x => decide (modV x 2 = 1)) = S := ⟨_, rfl⟩
  rw [hS] at Hst Hle H0 ⊢
  obtain ⟨n, hnn⟩ : ∃ n, T.length = n := ⟨_, rfl⟩
  have Hnn := Lib.hid hnn
  rw [hnn] at hn ⊢
  clear ht hof hor hS hnn
  go_enter Try.func53, Try.ntmps53
  go_wp2
  go_loopw [5, 6] (fun v i wr => ∃ (k m : Nat) (va : Option Addr) (vc : Nat), k ≤ n ∧ m ≤ 60 ∧ i = .int .i64 k ∧ v = .slice va m vc ∧ Hid (wr.ownsRow w.heap.size 3 1 (.slice va m vc) m (intL (S k))) ∧ Hid ((S k).length = m) ∧ Hid (Below w.heap.size w wr)) (fun _ i _ => n - (intOf i).toNat)
  case atStart => exact ⟨0, 0, none, 0, Nat.zero_le _, Nat.zero_le _, rfl, rfl, by unfold Hid; rw [H0.out]; exact World.ownsRow_nil _ _ _ _, by unfold Hid; rw [H0.out]; rfl, Below.refl _ _⟩
  case round =>
    clear H0
    obtain ⟨k, m, va, vc, hk, hm60, rfl, rfl, HV, HM, HB⟩ := hrel
    by_cases hlt : k < n
    · have hc : (k : Int) < (n : Int) := by omega
      have hkT : k < T.length := by rw [Hnn.out]; exact hlt
      obtain ⟨g', ra, rc, e1, cn, -, -, -⟩ := (Ht.out.below HB.out).node hkT
      simp only [Option.some.injEq, Addr.mk.injEq, and_true] at e1
      subst e1
      rw [← kids_len] at cn
      obtain ⟨l, hl⟩ : ∃ l, (kids T k).length = l := ⟨_, rfl⟩
      have Hl : Hid (l = 0 ↔ kids T k = []) := by unfold Hid; rw [← hl]; exact List.length_eq_zero_iff
      rw [hl] at cn
      have Hs := Lib.hid (Hst.out k)
      have Hb := Lib.hid HB.out.size
      have Hl60 := Lib.hid (Hle.out (k + 1))
      clear hl hkT
      by_cases h1 : l = 0 ∧ k < on
      · obtain ⟨rfl, h2⟩ := h1
        have h3 : (k : Int) < (on : Int) := by omega
        obtain ⟨x, hx⟩ : ∃ x, of[k]? = some x := ⟨_, List.getElem?_eq_getElem (by have := Hof.out; omega)⟩
        obtain ⟨ad, hoa, hcx⟩ := Hor.out k x hx
        have hcx2 := (HB.out.cell (World.block_lt_of_cell? _ _ hcx)).trans hcx
        subst hoa
        have HMd := Lib.hid fun W => mod_val x 2 W (by omega) (by omega)
        have Hs2 : Hid (S (k + 1) = S k ++ if modV x 2 = 1 then [(k : Int)] else []) := by
          unfold Hid
          rw [Hs.out, decide_eq_true (Hl.out.1 rfl), decide_eq_true (show k < of.length by rw [Hof.out]; exact h2), List.getD_eq_getElem?_getD, hx]
          simp
        clear Hs hx hcx
        generalize modV x 2 = z at HMd Hs2
        go_wp2_with fail
        refine (HMd.out _).mono ?_
        rintro e w4 ⟨rfl, hw4⟩
        subst w4
        clear hcx2 cn HMd
        by_cases hz : z = 1
        · subst hz
          rw [if_pos rfl] at Hs2
          go_wp2_with (at_builtin; refine wpList_append_own _ rfl _ _ 27 rfl w.heap.size 3 j0 (.int .i64 0) 1 8 Try.underlying27 hj hy0 hy1 hy2 rfl (by decide) _ _ _ rfl (HV.out.alloc (.cells #[.int .i64 (k : Int)] 3)) ⟨_, 0, none⟩ 1 1 [.int .i64 (k : Int)] rfl rfl (one_new _ _ _ _ (by simp)) (by simp [Value.oneCell']) (by unfold maxLen; omega) (by omega) (by have := Hb.out; simp; omega) ?_)
          intro v9 w9 hown9 hgrow9 _
          have hB9 : Below w.heap.size w w9 := (HB.out.alloc Hb.out _).grown hgrow9 (by have := Hb.out; simp; omega) (fun q e => (HV.out.lt _ e).1)
          obtain ⟨a9, c9, hv9, -⟩ := Row.of_own hown9
          subst hv9
          have HV9 : Hid (w9.ownsRow w.heap.size 3 1 (.slice a9 (m + 1) c9) (m + 1) (intL (S (k + 1)))) := by unfold Hid; rw [Hs2.out, intL_snoc]; exact hown9
          have HM9 : Hid ((S (k + 1)).length = m + 1) := by unfold Hid; rw [Hs2.out, List.length_append, HM.out]; rfl
          have HB9 := Lib.hid hB9
          have hm61 : m + 1 ≤ 60 := by have := Hl60.out; have h9 := HM9.out; omega
          clear hown9 hgrow9 hB9 HV HM HB Hs2
          go_wp2
          go_roundw
          case rel => exact ⟨k + 1, m + 1, a9, c9, by omega, hm61, by first | rfl | (congr 1; omega), rfl, HV9, HM9, HB9⟩
          case measure => simp [intOf]; omega
        · rw [if_neg hz, List.append_nil] at Hs2
          have hz2 : ¬ (z : Int) = 1 := by omega
          have hz3 : ((z : Int) == 1) = false := by rw [beq_eq_false_iff_ne]; exact hz2
          clear hz
          go_wp2
          go_roundw
          case rel => exact ⟨k + 1, m, va, vc, by omega, hm60, by first | rfl | (congr 1; omega), rfl, by unfold Hid; rw [Hs2.out]; exact HV.out, by unfold Hid; rw [Hs2.out]; exact HM.out, HB⟩
          case measure => simp [intOf]; omega
      · have Hs2 : Hid (S (k + 1) = S k) := by
          unfold Hid
          rw [Hs.out, if_neg, List.append_nil]
          rw [Bool.and_eq_true, Bool.and_eq_true, decide_eq_true_eq, decide_eq_true_eq, Hof.out]
          rintro ⟨h2, h3, -⟩
          exact h1 ⟨Hl.out.2 h2, h3⟩
        by_cases h4 : l = 0
        · have h5 : ¬ ((k : Int) < (on : Int)) := by omega
          subst h4
          clear h1
          go_wp2
          go_roundw
          case rel => exact ⟨k + 1, m, va, vc, by omega, hm60, by first | rfl | (congr 1; omega), rfl, by unfold Hid; rw [Hs2.out]; exact HV.out, by unfold Hid; rw [Hs2.out]; exact HM.out, HB⟩
          case measure => simp [intOf]; omega
        · have h5 : ¬ ((l : Int) = 0) := by omega
          clear h1
          go_wp2
          go_roundw
          case rel => exact ⟨k + 1, m, va, vc, by omega, hm60, by first | rfl | (congr 1; omega), rfl, by unfold Hid; rw [Hs2.out]; exact HV.out, by unfold Hid; rw [Hs2.out]; exact HM.out, HB⟩
          case measure => simp [intOf]; omega
    · obtain rfl : k = n := by omega
      have hc : ¬ ((k : Int) < (k : Int)) := by omega
      clear hlt
      go_wp2
      exact bodyPost_ret (results_tmp rfl _ _ _) rfl ⟨_, rfl, by rw [HM.out]; exact HV.out, HB.out⟩
end Go.Proofs.Ytbbidgdgcbnanaa
