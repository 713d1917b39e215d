/- The law's list. -/
import Derived.Test.YthmdlkaanjjbkaaTam
namespace Go.Proofs.Ythmdlkaanjjbkaa
set_option linter.unusedVariables false
open Go.RowKit

set_option maxRecDepth 100000 in
set_option maxHeartbeats 4000000 in
theorem list_ptr (ad : Addr) (n cap k : Nat) (xs : List Int) (w : World) (hn : n ≤ cap) (hk : k = min n 65) (hl : n ≤ xs.length) (hc : ∀ j, j < n → w.cell? (ad.add j) = some (.int .i64 (xs.getD j 0))) :
    Calls Try.prog 17 #[.slice (some ad) n cap] w fun e w' => ∃ v, e = .returned v ∧ w'.ownsRow w.heap.size 3 1 v k (intL (xs.take k)) ∧ Below w.heap.size w w' := by
  have hm : min (n : Int) 65 = (k : Int) := by omega
  have hk1 : k ≤ n := by omega
  have hk2 : (k : Int) ≤ cap := by omega
  have hk8 : k ≤ 65 := by omega
  have hnews : ∀ j u, (intL (xs.take k))[j]? = some u → w.cell? (ad.add j) = some u := by
    intro j u hj
    have hj2 : j < k := by
      have := (List.getElem?_eq_some_iff.1 hj).1
      rw [intL_length, List.length_take] at this; omega
    rw [hc j (by omega)]
    unfold intL at hj
    rw [List.getElem?_map, List.getElem?_take_of_lt hj2, List.getElem?_eq_getElem (by omega)] at hj
    simp only [Option.map_some, Option.some.injEq] at hj
    rw [← hj, List.getD_eq_getElem?_getD, List.getElem?_eq_getElem (by omega)]; rfl
  have hlen : (intL (xs.take k)).length = k * 1 := by rw [intL_length, List.length_take]; omega
  have hone : ∀ u ∈ intL (xs.take k), u.oneCell' = true := by
    intro u hu
    obtain ⟨x, _, rfl⟩ := List.mem_map.1 hu
    simp [Value.oneCell']
  obtain ⟨i0, hi, hz0, hz1, hz2⟩ := info_parts info_int
  have HN := Lib.hid hnews
  have HL := Lib.hid hlen
  have HO := Lib.hid hone
  clear hc hl hk hnews hlen hone hn
  go_enter Try.func17, Try.ntmps17
  go_wp2_with (at_builtin; refine wpList_append_own _ rfl _ _ 22 rfl w.heap.size 3 i0 (.int .i64 0) 1 8 Try.underlying22 hi hz0 hz1 hz2 rfl (by decide) _ _ _ rfl (World.ownsRow_nil _ _ _ _) ad k cap (intL (xs.take k)) rfl HL.out HN.out HO.out (by unfold maxLen; omega) (by omega) (Nat.le_refl _) ?_; intro v1 w1 hown hgrow _)
  simp only [Nat.zero_add, List.nil_append] at hown
  have hg2 : w.grownBy w1 none := hgrow
  have hB : Below w.heap.size w w1 := ⟨hg2.os, hg2.tape, hg2.output, hg2.size, fun k hk => hg2.block k hk (by simp)⟩
  clear hgrow
  go_wp2_with fail
  go_ret
  exact ⟨v1, rfl, hown, hB⟩
set_option maxRecDepth 100000 in
theorem list_nil (n cap : Nat) (hn : n = 0) (w : World) :
    Calls Try.prog 17 #[.slice none n cap] w fun e w' => ∃ v, e = .returned v ∧ w'.ownsRow w.heap.size 3 1 v 0 (intL []) ∧ Below w.heap.size w w' := by
  subst hn
  go_enter Try.func17, Try.ntmps17
  go_wp2_with fail
  go_ret
  exact ⟨.slice none 0 0, rfl, World.ownsRow_nil _ _ _ _, Below.refl _ _⟩
/-- what list makes of a row -/
def cutL (row : List Int) : List Int := row.take 65
theorem cutL_le (row : List Int) : (cutL row).length ≤ 65 := by unfold cutL; rw [List.length_take]; omega
theorem list_in (v : Value) (row : List Int) (w : World) (h : RowIn w v row) :
    Calls Try.prog 17 #[v] w fun e w' => ∃ r, e = .returned r ∧ w'.ownsRow w.heap.size 3 1 r (cutL row).length (intL (cutL row)) ∧ Below w.heap.size w w' := by
  rcases h with ⟨c, rfl, rfl⟩ | ⟨ad, c, rfl, hc, hd⟩
  · exact list_nil 0 c rfl w
  · have h := list_ptr ad row.length c (min row.length 65) row w hc rfl (Nat.le_refl _) hd
    have e : row.take (min row.length 65) = cutL row := by
      unfold cutL
      rcases Nat.le_total row.length 65 with h | h
      · rw [Nat.min_eq_left h, List.take_length, List.take_of_length_le h]
      · rw [Nat.min_eq_right h]
    have e2 : (cutL row).length = min row.length 65 := by unfold cutL; rw [List.length_take, Nat.min_comm]
    rw [e, ← e2] at h
    exact h
/-- a row of the program's as one that came in -/
theorem RowIn.of_row {w : World} {a : Option Addr} {n cap : Nat} {xs : List Int} (h : Row w a n (intL xs)) (hc : n ≤ cap) : RowIn w (.slice a n cap) xs := by
  have hx : xs.length = n := by have := h.1; simpa [intL] using this
  subst hx
  match a, h with
  | none, h =>
    left
    have h0 : xs.length = 0 := by
      rcases Nat.eq_zero_or_pos xs.length with e | e
      · exact e
      · obtain ⟨g, h1, _⟩ := h.2 e; simp at h1
    exact ⟨cap, by rw [h0], List.eq_nil_of_length_eq_zero h0⟩
  | some ad, h =>
    right
    refine ⟨ad, cap, rfl, hc, fun j hj => ?_⟩
    obtain ⟨g, h1, h2⟩ := h.int hj
    simp only [Option.some.injEq] at h1
    subst h1
    rw [addr_add, Nat.zero_add]
    exact h2
end Go.Proofs.Ythmdlkaanjjbkaa
