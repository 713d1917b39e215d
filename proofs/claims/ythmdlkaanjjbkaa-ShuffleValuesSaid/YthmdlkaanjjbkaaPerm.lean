/- The first places with equal values: the program's firstEqual and Permutes. -/
import Derived.Test.YthmdlkaanjjbkaaSame
namespace Go.Proofs.Ythmdlkaanjjbkaa
set_option linter.unusedVariables false
open Go.RowKit

def eqP (F : List Int) (k y : Nat) : Bool := decide (F.getD k 0 = F.getD y 0)
/-- the first place behind k with the value at k, or -1 -/
def laterN (F : List Int) (n k : Nat) : Int := firstN (eqP F k) (n - (k + 1)) (k + 1)
def eqF (F : List Int) (n : Nat) : Nat → Nat → Int × Int
  | 0, _ => (-1, -1)
  | r + 1, k => if 0 ≤ laterN F n k then ((k : Int), laterN F n k) else eqF F n r (k + 1)
def equalR (F : List Int) : Int × Int := eqF F F.length F.length 0
theorem eqF_step (F : List Int) {n k : Nat} (h : k < n) : eqF F n (n - k) k = if 0 ≤ laterN F n k then ((k : Int), laterN F n k) else eqF F n (n - (k + 1)) (k + 1) := by
  rw [show n - k = (n - (k + 1)) + 1 by omega]; rfl
theorem getD_drop (F : List Int) (k j : Nat) : (F.drop k).getD j 0 = F.getD (k + j) 0 := by
  rw [List.getD_eq_getElem?_getD, List.getD_eq_getElem?_getD, List.getElem?_drop]
theorem later_is (F : List Int) {n k : Nat} (hl : F.length = n) (hk : k < n) :
    (∃ d : Nat, laterN F n k = ((k + 1 + d : Nat) : Int) ∧ k + 1 + d < n ∧ F.getD k 0 = F.getD (k + 1 + d) 0 ∧ Lib.idxOf (F.drop (k + 1)) (F.getD k 0) = (d : Int)) ∨
      (laterN F n k = -1 ∧ (∀ y, k < y → y < n → F.getD k 0 ≠ F.getD y 0) ∧ Lib.idxOf (F.drop (k + 1)) (F.getD k 0) = -1) := by
  have htk : F.drop (k + 1) = (F.drop (k + 1)).take (n - (k + 1)) := (List.take_of_length_le (by rw [List.length_drop]; omega)).symm
  rcases firstN_is (P := eqP F k) (n - (k + 1)) (k + 1) with ⟨h1, h2⟩ | ⟨j, h1, h2, h3, h4, h5⟩
  · right
    refine ⟨h1, fun y h3 h4 => of_decide_eq_false (h2 y (by omega) (by omega)), ?_⟩
    rw [htk]
    exact Lib.idxOf_miss (F.drop (k + 1)) (n - (k + 1)) _ fun j hj => by
      rw [getD_drop]
      exact fun e => (of_decide_eq_false (h2 (k + 1 + j) (by omega) (by omega))) e.symm
  · left
    obtain ⟨d, rfl⟩ : ∃ d, j = k + 1 + d := ⟨j - (k + 1), by omega⟩
    refine ⟨d, h1, by omega, of_decide_eq_true h4, ?_⟩
    rw [htk]
    exact Lib.idxOf_hit (F.drop (k + 1)) (n - (k + 1)) d _ (by omega) (by rw [List.length_drop]; omega) (by rw [getD_drop]; exact (of_decide_eq_true h4).symm) fun i hi => by
      rw [getD_drop]
      exact fun e => (of_decide_eq_false (h5 (k + 1 + i) (by omega) (by omega))) e.symm
theorem slice_from (g n cap k : Nat) (hk : k ≤ n) (hn : n ≤ cap) (hc : cap ≤ 9223372036854775807) : ∃ ad : Addr, (k < n → ad = ⟨g, k, none⟩) ∧
    ∀ w : World, (Instr.sliceAt 22 (.slice (some ⟨g, 0, none⟩) n cap) (some (.int .i64 k)) none none).run Try.prog w = .ok (.slice (some ad) (n - k) (cap - k)) w := by
  by_cases h : k = cap
  · refine ⟨⟨g, 0, none⟩, fun hh => by omega, fun w => ?_⟩
    have h0 : (0 : Int) ≤ (k : Int) := by omega
    have h1 : (k : Int) ≤ (n : Int) := by omega
    simp [Instr.sliceAt, go_sem, h0, h1]
    omega
  · refine ⟨⟨g, k, none⟩, fun _ => rfl, fun w => ?_⟩
    have h0 : (0 : Int) ≤ (k : Int) := by omega
    have h1 : (k : Int) ≤ (n : Int) := by omega
    simp [Instr.sliceAt, go_sem, h0, h1]
    omega
/-- slices.Index at what lies behind k -/
theorem index_from (ad : Addr) (g n cap k : Nat) (F : List Int) (x : Int) (w : World) (hl : F.length = n) (hn : n ≤ 1000) (hc : ∀ j, j < n → w.cell? ⟨g, j, none⟩ = some (.int .i64 (F.getD j 0))) (had : k < n → ad = ⟨g, k, none⟩) (hk : k ≤ n) :
    Calls Try.prog 96 #[.slice (some ad) (n - k) cap, .int .i64 x] w fun e w' => e = .returned (.int .i64 (Lib.idxOf (F.drop k) x)) ∧ w' = w := by
  by_cases h : k < n
  · rw [had h]
    have h2 := Any.slices_Index_int Try.lays108 g k (n - k) cap (F.drop k) x w (by rw [List.length_drop]; omega) (by omega) fun j hj => by
      rw [List.length_drop] at hj
      rw [getD_drop]
      exact hc (k + j) (by omega)
    rw [List.take_of_length_le (by rw [List.length_drop]; omega)] at h2
    exact h2
  · obtain rfl : k = n := by omega
    rw [Nat.sub_self, List.drop_of_length_le (by omega)]
    exact Any.slices_Index_int_empty Try.lays108 (some ad) cap x w
theorem add_wrap {a b n : Nat} (h : a + b < n) (hn : n ≤ 1000) : IntKind.i64.wrap ((a : Int) + (b : Int)) = ((a + b : Nat) : Int) ∧ wrap64 ((a : Int) + (b : Int)) = ((a + b : Nat) : Int) := ⟨by rw [IntWalk.i64_in _ (by omega)]; rfl, by rw [IntWalk.wrap64_in _ (by omega)]; rfl⟩
set_option maxRecDepth 100000 in
set_option maxHeartbeats 4000000 in
theorem firstEqual_any (g n cap : Nat) (F : List Int) (w : World) (hr : Row w (some ⟨g, 0, none⟩) n (intL F)) (hn : n ≤ 100) (hcap : n ≤ cap) (hcm : cap ≤ 9223372036854775807) :
    Calls Try.prog 65 #[.slice (some ⟨g, 0, none⟩) n cap] w fun e w' => e = .returned (.tuple #[.int .i64 (equalR F).1, .int .i64 (equalR F).2]) ∧ w' = w := by
  have hl : F.length = n := by have := hr.1; simpa [intL] using this
  obtain ⟨R, hR⟩ : ∃ R, equalR F = R := ⟨_, rfl⟩
  rw [hR]
  unfold equalR at hR
  rw [hl] at hR
  have hcell : ∀ j, j < n → w.cell? ⟨g, j, none⟩ = some (.int .i64 (F.getD j 0)) := fun j hj => by
    obtain ⟨g', h1, h2⟩ := hr.int hj
    simp only [Option.some.injEq, Addr.mk.injEq, and_true] at h1
    subst h1
    exact h2
  have HI := Lib.hid fun k (hk : k < n) => later_is F hl hk
  have Hst := Lib.hid fun k (hk : k < n) => eqF_step F hk
  have HSl := Lib.hid fun k (hk : k ≤ n) => slice_from g n cap k hk hcap hcm
  have HX := Lib.hid fun ad cap k x had hk => index_from ad g n cap k F x w hl (by omega) hcell had hk
  have Hcell := Lib.hid hcell
  have HR0 : Hid (eqF F n (n - 0) 0 = R) := hR
  clear hR hcell hr hl
  go_enter Try.func65, Try.ntmps65
  go_wp2
  go_loopw [4, 5, 6, 9] (fun _ _ _ i wr => ∃ k : Nat, k ≤ n ∧ i = .int .i64 k ∧ Hid (eqF F n (n - k) k = R) ∧ wr = w) (fun _ _ _ i _ => n - (intOf i).toNat)
  case atStart => exact ⟨0, Nat.zero_le _, rfl, HR0, rfl⟩
  case round =>
    clear HR0
    obtain ⟨k, hk, rfl, HF, hw⟩ := hrel
    subst wr
    by_cases hlt : k < n
    · have hc : (k : Int) < (n : Int) := by omega
      have cx := Hcell.out k hlt
      have hs := Hst.out k hlt
      rw [HF.out] at hs
      obtain ⟨ad, had, hsl⟩ := HSl.out (k + 1) (by omega)
      have hsl2 : ∀ w : World, (Instr.sliceAt 22 (.slice (some ⟨g, 0, none⟩) n cap) (some (.int .i64 ((k : Int) + 1))) none none).run Try.prog w = .ok (.slice (some ad) (n - (k + 1)) (cap - (k + 1))) w := hsl
      have hix := HX.out ad (cap - (k + 1)) (k + 1) (F.getD k 0) had (by omega)
      have hi := HI.out k hlt
      obtain ⟨t, ht⟩ : ∃ t, Lib.idxOf (F.drop (k + 1)) (F.getD k 0) = t := ⟨_, rfl⟩
      rw [ht] at hi hix
      generalize F.getD k 0 = v at cx hix hi ht
      generalize n - (k + 1) = l1 at hsl2 hix
      generalize cap - (k + 1) = l2 at hsl2 hix
      have Hgo := Lib.hid (And.intro (show k + 1 ≤ n by omega) hlt)
      rcases hi with ⟨d, h1, h2, h2', h3⟩ | ⟨h1, h2', h3⟩
      · rw [h3] at hix
        have Hix := Lib.hid hix
        clear h2' h3 ht
        rw [h1, if_pos (Int.natCast_nonneg _)] at hs
        have HS := Lib.hid hs
        have hge : (d : Int) ≥ 0 := Int.natCast_nonneg _
        have hge2 : (0 : Int) ≤ (d : Int) := Int.natCast_nonneg _
        have hd : d ≤ 100 := by omega
        clear hix h1 had hsl hs h2 hcm hcap
        go_wp2_with fail
        refine Hix.out.mono ?_
        rintro e w1 ⟨rfl, hw⟩
        subst w1
        go_wp2
        go_ret2
        exact ⟨by rw [HS.out]; rfl, rfl⟩
      · rw [h3] at hix
        have Hix := Lib.hid hix
        clear h2' h3 ht
        rw [h1, if_neg (by decide)] at hs
        have HS := Lib.hid hs.symm
        have hge : ¬ (-1 : Int) ≥ 0 := by decide
        clear hix h1 had HF hs hsl hcm hcap
        go_wp2_with fail
        refine Hix.out.mono ?_
        rintro e w1 ⟨rfl, hw⟩
        subst w1
        go_wp2
        go_roundw
        case rel => exact ⟨k + 1, Hgo.out.1, by go_num, HS, trivial⟩
        case measure => exact mz_upn Hgo.out.2
    · obtain rfl : k = n := by omega
      have hc : ¬ (k : Int) < (k : Int) := by omega
      have hf := HF.out
      rw [Nat.sub_self] at hf
      have HS := Lib.hid (show ((-1, -1) : Int × Int) = R from hf)
      clear hf HF
      go_wp2
      go_ret2
      exact ⟨by rw [← HS.out]; rfl, rfl⟩
end Go.Proofs.Ythmdlkaanjjbkaa
