/- slices.Backward: its iterator comes from the last position to the first one. -/
import Derived.Test.YthmdlkaanjjbkaaOwnk
namespace Go.Proofs.Ythmdlkaanjjbkaa
set_option linter.unusedVariables false
open Go.RowKit Go.Shelf
attribute [local go_sem] Oper.semAt_some

theorem KeepsAt.heapk {T : Nat} {W W' : World} (h : KeepsAt T W W') {k : Nat} (hk : T ≤ k) (hl : k < W.heap.size) : W'.heap[k]? = W.heap[k]? := by
  rw [Array.getElem?_eq_getElem hl]; exact h.same k _ hk (Array.getElem?_eq_getElem hl)
/-- all positions, the last one first -/
def allD (m : Nat) : List (Fin m) := (List.finRange m).reverse
theorem allD_len (m : Nat) : (allD m).length = m := by simp [allD]
theorem allD_get {m j k : Nat} (h : k + 1 + j = m) : (allD m)[j]? = some ⟨k, by omega⟩ := by
  unfold allD
  rw [List.getElem?_reverse (by simp; omega)]
  rw [List.getElem?_eq_getElem (by simp; omega)]
  simp
  omega
theorem allD_step {m j k : Nat} (h : k + 1 + j = m) : (allD m).take (j + 1) = (allD m).take j ++ [⟨k, by omega⟩] := by
  rw [List.take_add_one, allD_get h]; rfl

set_option maxRecDepth 100000 in
set_option maxHeartbeats 4000000 in
theorem back1_visits (n : Nat) (hn : 1 ≤ n) (a : Option Addr) (m cap : Nat) (xs : List Int) (hx : xs.length = m) (hm : m ≤ 1000) (Be T : Nat) (W : World) (hT : T ≤ Be) (hBe : W.cell? ⟨Be, 0, none⟩ = some (.slice a m cap)) :
    VisitsK Fence.wide n Try.prog 108 #[.pointer (some ⟨Be, 0, none⟩)] (fun x : Fin m => #[.int .i64 (x.val : Nat), .int .i64 (xs.getD x.val 0)]) T (fun X => Row X a m (intL xs)) (fun ys => ys = allD m) (fun pre => pre <+: allD m) m W := by
  intro l J Jx hJ hJx hR hY h0
  refine callsIn_of_wp Try.func108 rfl trivial ?_ rfl
  simp only [Try.ntmps108, List.size_toArray, List.length_cons, List.length_nil, Nat.reduceAdd, Nat.reduceSub, Array.replicate_succ, Array.replicate_zero, List.push_toArray, List.append_toArray, List.nil_append, List.cons_append]
  have hlt : Be < W.heap.size := World.block_lt_of_cell? _ _ hBe
  gi_wp2
  gi_loopw [3] (fun v wr => ∃ (j : Nat) (i : Int), v = .int .i64 i ∧ i + 1 + j = m ∧ j ≤ m ∧ J ((allD m).take j) wr ∧ wr.cell? ⟨Be, 0, none⟩ = some (.slice a m cap)) (fun v _ => (intOf v + 1).toNat)
  case atStart => exact ⟨0, _, rfl, by omega, by omega, h0, hBe⟩
  case round =>
    obtain ⟨j, i, rfl, hij, hj, hJ0, hcell⟩ := hrel
    by_cases hlj : j < m
    · obtain ⟨k, rfl⟩ := Int.eq_ofNat_of_zero_le (show 0 ≤ i by omega)
      have hk : k + 1 + j = m := by omega
      have hkm : k < m := by omega
      obtain ⟨g, hg, hc⟩ := (hR _ _ hJ0).int hkm
      obtain ⟨fn, tmps, assign, body, hy, hRd⟩ := hY _ ⟨k, hkm⟩ wr hJ0 (by rw [List.length_take, allD_len]; omega)
      have hst := allD_step hk
      subst hg
      simp only at hy hRd hc
      generalize xs.getD k 0 = x at hy hRd hc
      have HY := Lib.hid hRd
      have HS := Lib.hid hst
      have HJ := Lib.hid hJ0
      have h01 : (0 : Int) ≤ (k : Int) := by omega
      have hkm1 : (k : Int) < m := by omega
      clear hRd hst hJ0
      gi_wp2
      refine HY.out.mono ?_
      rintro e' W3 (⟨rfl, hJ3, hk3⟩ | ⟨rfl, hJx3⟩)
      · have hc3 : W3.cell? ⟨Be, 0, none⟩ = some (.slice (some ⟨g, 0, none⟩) m cap) := (World.cell?_of_block (a := ⟨Be, 0, none⟩) (hk3.heapk hT (World.block_lt_of_cell? _ _ hcell))).trans hcell
        rw [← HS.out] at hJ3
        have HJ3 := Lib.hid hJ3
        clear hJ3 hcell hc
        gi_wp2
        go_roundw
        case rel => exact ⟨j + 1, (k : Int) - 1, rfl, by omega, hlj, HJ3.out, hc3⟩
        case measure => simp [intOf]
      · rw [← HS.out] at hJx3
        have HJ3 := Lib.hid hJx3
        clear hJx3
        gi_wp2
        refine bodyPost_ret (results_none rfl _ _ _) rfl ?_
        exact ⟨⟨_, rfl⟩, .inr ⟨_, List.take_prefix _ _, HJ3.out⟩⟩
    · obtain rfl : j = m := by omega
      obtain rfl : i = -1 := by omega
      have hall : (allD j).take j = allD j := List.take_of_length_le (by rw [allD_len]; omega)
      rw [hall] at hJ0
      have HJ := Lib.hid hJ0
      clear hJ0
      gi_wp2
      go_end0
      exact ⟨⟨_, rfl⟩, .inl ⟨_, rfl, HJ.out⟩⟩

theorem back_in (n : Nat) (a : Option Addr) (m cap : Nat) (w : World) :
    CallsIn Fence.wide n Try.prog 104 #[.slice a m cap] w fun e' w' => e' = .returned (.func (.func 108) #[] #[.pointer (some ⟨w.heap.size, 0, none⟩)]) ∧
      w' = w.alloc (.cells #[.slice a m cap] 22) := by
  refine callsIn_of_wp Try.func104 rfl trivial ?_ rfl
  simp only [Try.ntmps104, List.size_toArray, List.length_cons, List.length_nil, Nat.reduceAdd, Nat.reduceSub, Array.replicate_succ, Array.replicate_zero, List.push_toArray, List.append_toArray, List.nil_append, List.cons_append]
  gi_wp2
  go_ret
  exact ⟨rfl, rfl⟩

/-! ### areQuotients -/
end Go.Proofs.Ythmdlkaanjjbkaa
