/- A tree in memory; a node's children, worth and mover. -/
import Derived.Test.YtbbidgdgcbnanaaBase
import Derived.Test.YtbbidgdgcbnanaaTrm
namespace Go.Proofs.Ytbbidgdgcbnanaa
set_option linter.unusedVariables false
open Go.RowKit

/-- the slice at a holds the nodes of T -/
def TreeAt (w : World) (a : Option Addr) (T : Tree) : Prop :=
  0 < T.length → ∃ g, a = some ⟨g, 0, none⟩ ∧ g < w.heap.size ∧ ∀ i m, T[i]? = some m → ∃ ra rc, w.cell? ⟨g, i * 2, none⟩ = some (.slice ra m.1.length rc) ∧ w.cell? ⟨g, i * 2 + 1, none⟩ = some (.int .i64 m.2) ∧ m.1.length ≤ rc ∧ Row w ra m.1.length (intL m.1)
theorem TreeAt.below {w w' : World} {a : Option Addr} {T : Tree} (h : TreeAt w a T) (hb : Below w.heap.size w w') : TreeAt w' a T := fun hn => by
  obtain ⟨g, e, hg, hc⟩ := h hn
  refine ⟨g, e, Nat.lt_of_lt_of_le hg hb.size, fun i m hi => ?_⟩
  obtain ⟨ra, rc, c1, c2, c3, c4⟩ := hc i m hi
  exact ⟨ra, rc, (hb.cell (p := ⟨g, i * 2, none⟩) hg).trans c1, (hb.cell (p := ⟨g, i * 2 + 1, none⟩) hg).trans c2, c3, c4.below hb⟩
theorem nodeAt_get {T : Tree} {i : Nat} (hi : i < T.length) : T[i]? = some (nodeAt T i) := by
  unfold nodeAt
  rw [List.getD_eq_getElem?_getD, List.getElem?_eq_getElem hi]; rfl
theorem TreeAt.node {w : World} {a : Option Addr} {T : Tree} (h : TreeAt w a T) {i : Nat} (hi : i < T.length) :
    ∃ g ra rc, a = some ⟨g, 0, none⟩ ∧ w.cell? ⟨g, i * 2, none⟩ = some (.slice ra (kidsZ T i).length rc) ∧ w.cell? ⟨g, i * 2 + 1, none⟩ = some (.int .i64 (worthOf T i)) ∧ (kidsZ T i).length ≤ rc ∧ Row w ra (kidsZ T i).length (intL (kidsZ T i)) := by
  obtain ⟨g, e, hg, hc⟩ := h (by omega)
  obtain ⟨ra, rc, c1, c2, c3, c4⟩ := hc i _ (nodeAt_get hi)
  exact ⟨g, ra, rc, e, c1, c2, c3, c4⟩

theorem children_cell (g i n cap : Nat) (dv : Value) (ra : Option Addr) (l rc : Nat) (w : World) (hi : i < n) (hd : dv.oneCell' = true) (hg : g < w.heap.size) (hc : w.cell? ⟨g, i * 2, none⟩ = some (.slice ra l rc)) :
    Calls Try.prog 89 #[.agg #[.slice (some ⟨g, 0, none⟩) n cap, dv], .int .i64 i] w fun e w' => e = .returned (.slice ra l rc) ∧ w' = w.alloc (.cells #[.slice (some ⟨g, 0, none⟩) n cap, dv] 70) := by
  have h1 : (i : Int) < n := by omega
  have hc2 := ((below_alloc w (.cells #[.slice (some ⟨g, 0, none⟩) n cap, dv] 70)).cell (p := ⟨g, i * 2, none⟩) hg).trans hc
  clear hc
  go_enter Try.func89, Try.ntmps89
  go_wp2
  go_ret
  exact ⟨rfl, rfl⟩
theorem worth_cell (g i n cap : Nat) (dv : Value) (x : Int) (w : World) (hi : i < n) (hd : dv.oneCell' = true) (hg : g < w.heap.size) (hc : w.cell? ⟨g, i * 2 + 1, none⟩ = some (.int .i64 x)) :
    Calls Try.prog 68 #[.agg #[.slice (some ⟨g, 0, none⟩) n cap, dv], .int .i64 i] w fun e w' => e = .returned (.int .i64 x) ∧ w' = w.alloc (.cells #[.slice (some ⟨g, 0, none⟩) n cap, dv] 70) := by
  have h1 : (i : Int) < n := by omega
  have hc2 := ((below_alloc w (.cells #[.slice (some ⟨g, 0, none⟩) n cap, dv] 70)).cell (p := ⟨g, i * 2 + 1, none⟩) hg).trans hc
  clear hc
  go_enter Try.func68, Try.ntmps68
  go_wp2
  go_ret
  exact ⟨rfl, rfl⟩
theorem isLeaf_cell (g i n cap : Nat) (dv : Value) (ra : Option Addr) (l rc : Nat) (w : World) (hi : i < n) (hd : dv.oneCell' = true) (hc : w.cell? ⟨g, i * 2, none⟩ = some (.slice ra l rc)) (hg : g < w.heap.size) :
    Calls Try.prog 56 #[.agg #[.slice (some ⟨g, 0, none⟩) n cap, dv], .int .i64 i] w fun e w' => e = .returned (.bool (decide (l = 0))) ∧ Below w.heap.size w w' := by
  have hb := below_alloc w (.cells #[.slice (some ⟨g, 0, none⟩) n cap, dv] 70)
  have HC := Lib.hid (children_cell g i n cap dv ra l rc _ hi hd (Nat.lt_of_lt_of_le hg hb.size) ((hb.cell (p := ⟨g, i * 2, none⟩) hg).trans hc))
  have HB := Lib.hid hb
  clear hb hc
  go_enter Try.func56, Try.ntmps56
  by_cases e : l = 0
  · subst e
    go_wp2_with fail
    refine HC.out.mono ?_
    rintro e w1 ⟨rfl, rfl⟩
    go_wp2
    go_ret
    exact ⟨rfl, b_next HB.out (below_alloc _ _)⟩
  · have e2 : ((l : Int) == 0) = false := by rw [beq_eq_false_iff_ne]; omega
    have He := Lib.hid e
    clear e
    go_wp2_with fail
    refine HC.out.mono ?_
    rintro e w1 ⟨rfl, rfl⟩
    go_wp2
    go_ret
    exact ⟨ret_bool (decide_eq_false He.out).symm, b_next HB.out (below_alloc _ _)⟩
theorem mover_cell (tv : Value) (g i n cap d : Nat) (w : World) (hi : i < n) (ht : tv.oneCell' = true) (hd : d ≤ 1000) (hg : g < w.heap.size) (hc : w.cell? ⟨g, i, none⟩ = some (.int .i64 d)) :
    Calls Try.prog 92 #[.agg #[tv, .slice (some ⟨g, 0, none⟩) n cap], .int .i64 i] w fun e w' => e = .returned (.int .i64 ((d % 2 : Nat) : Int)) ∧ w' = w.alloc (.cells #[tv, .slice (some ⟨g, 0, none⟩) n cap] 70) := by
  have h1 : (i : Int) < n := by omega
  have h2 : (d : Int).tmod 2 = ((d % 2 : Nat) : Int) := (Int.ofNat_tmod d 2).symm
  have h3 : wrap64 ((d % 2 : Nat) : Int) = ((d % 2 : Nat) : Int) := IntWalk.wrap64_in _ (by omega)
  have h4 : IntKind.i64.wrap ((d % 2 : Nat) : Int) = ((d % 2 : Nat) : Int) := IntWalk.i64_in _ (by omega)
  generalize d % 2 = q at h2 h3 h4 ⊢
  have hc2 := ((below_alloc w (.cells #[tv, .slice (some ⟨g, 0, none⟩) n cap] 70)).cell (p := ⟨g, i, none⟩) hg).trans hc
  clear hc
  go_enter Try.func92, Try.ntmps92
  go_wp2
  go_ret
  exact ⟨rfl, rfl⟩
theorem isWorth_any (ra : Option Addr) (l rc : Nat) (x : Int) (w : World) :
    Calls Try.prog 85 #[.agg #[.slice ra l rc, .int .i64 x]] w fun e w' => e = .returned (.bool (if l = 0 then decide (-100 ≤ x ∧ x ≤ 100) else decide (x = 0))) ∧ Below w.heap.size w w' := by
  have hb := Lib.hid (below_alloc w (.cells #[.slice ra l rc, .int .i64 x] 62))
  by_cases e : l = 0
  · subst e
    by_cases h1 : -100 ≤ x
    · by_cases h2 : x ≤ 100
      · have hr : (if (0 : Nat) = 0 then decide (-100 ≤ x ∧ x ≤ 100) else decide (x = 0)) = true := by rw [if_pos rfl]; exact decide_eq_true ⟨h1, h2⟩
        rw [hr]
        clear hr
        go_enter Try.func85, Try.ntmps85
        go_wp2
        go_ret
        exact ⟨rfl, hb.out⟩
      · have hr : (if (0 : Nat) = 0 then decide (-100 ≤ x ∧ x ≤ 100) else decide (x = 0)) = false := by rw [if_pos rfl]; exact decide_eq_false fun h => h2 h.2
        rw [hr]
        clear hr
        go_enter Try.func85, Try.ntmps85
        go_wp2
        go_ret
        exact ⟨rfl, hb.out⟩
    · have hr : (if (0 : Nat) = 0 then decide (-100 ≤ x ∧ x ≤ 100) else decide (x = 0)) = false := by rw [if_pos rfl]; exact decide_eq_false fun h => h1 h.1
      rw [hr]
      clear hr
      go_enter Try.func85, Try.ntmps85
      go_wp2
      go_ret
      exact ⟨rfl, hb.out⟩
  · have e2 : (0 : Int) < l := by omega
    rw [if_neg e]
    by_cases h0 : x = 0
    · subst h0
      clear e
      go_enter Try.func85, Try.ntmps85
      go_wp2
      go_ret
      exact ⟨rfl, hb.out⟩
    · have h3 : (x == 0) = false := by rw [beq_eq_false_iff_ne]; exact h0
      have h4 := Lib.hid (decide_eq_false h0)
      clear h0 e
      rw [h4.out]
      go_enter Try.func85, Try.ntmps85
      go_wp2
      go_ret
      exact ⟨rfl, hb.out⟩
end Go.Proofs.Ytbbidgdgcbnanaa
