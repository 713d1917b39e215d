/- The statements' fracs: a list of fractions equals another one. -/
import Derived.Test.YtelipknnfagnjaaTou
namespace Go.Proofs.Ytelipknnfagnjaa
set_option linter.unusedVariables false
open Go.RowKit Go.Shelf

/-- the slice at a holds these fractions -/
def FRow (w : World) (a : Option Addr) (n : Nat) (L : List (Nat × Nat)) : Prop :=
  L.length = n ∧ (0 < n → ∃ g, a = some ⟨g, 0, none⟩ ∧ g < w.heap.size ∧ ∀ k x, L[k]? = some x → w.cell? ⟨g, k * 2, none⟩ = some (.int .i64 x.1) ∧ w.cell? ⟨g, k * 2 + 1, none⟩ = some (.int .i64 x.2))
theorem FRow.below {X Y : World} {a : Option Addr} {n : Nat} {L : List (Nat × Nat)} (h : FRow X a n L) (hb : Below X.heap.size X Y) : FRow Y a n L :=
  ⟨h.1, fun hn => by
    obtain ⟨g, e, hg, hc⟩ := h.2 hn
    exact ⟨g, e, Nat.lt_of_lt_of_le hg hb.size, fun k x hx => ⟨(hb.cell (p := ⟨g, k * 2, none⟩) hg).trans (hc k x hx).1, (hb.cell (p := ⟨g, k * 2 + 1, none⟩) hg).trans (hc k x hx).2⟩⟩⟩
theorem frow_of {w : World} {base : Nat} {v : Value} {L : List (Nat × Nat)} (h : w.ownsRow base 26 2 v L.length (flatF L)) :
    ∃ a cap, v = .slice a L.length cap ∧ FRow w a L.length L := by
  rcases h.2 with ⟨rfl, hz⟩ | ⟨g, cap, cur, rfl, _⟩
  · exact ⟨none, 0, by rw [hz], rfl, fun hn => by omega⟩
  · refine ⟨_, _, rfl, rfl, fun hn => ⟨g, rfl, (h.lt g rfl).2, fun k x hx => ?_⟩⟩
    have hk := (List.getElem?_eq_some_iff.1 hx).1
    obtain ⟨g0, g1⟩ := flatF_get hx
    exact ⟨(h.cellAt (k * 2) (by omega)).trans g0, (h.cellAt (k * 2 + 1) (by omega)).trans g1⟩

set_option maxHeartbeats 1000000 in
theorem fracs_same (a b : Option Addr) (n ca cb : Nat) (L : List (Nat × Nat)) (w : World) (ha : FRow w a n L) (hb : FRow w b n L) (hn : n ≤ 1000000) :
    Calls Try.prog 29 #[.slice a n ca, .slice b n cb] w fun e w' => e = .returned (.bool true) ∧ Below w.heap.size w w' := by
  have hl := ha.1
  have Ha := Lib.hid ha.2
  have Hb := Lib.hid hb.2
  have Hl := Lib.hid hl
  clear ha hb hl
  go_enter Try.func29, Try.ntmps29
  go_wp2
  go_loopw [5] (fun i wr => ∃ k q : Nat, k ≤ n ∧ i = .int .i64 k ∧ wr = w.drewN q) (fun i _ => n - (intOf i).toNat)
  case atStart => exact ⟨0, 0, Nat.zero_le _, rfl, rfl⟩
  case round =>
    obtain ⟨k, q, hk, rfl, rfl⟩ := hrel
    by_cases hlt : k < n
    · have hc : (k : Int) < n := by omega
      obtain ⟨⟨x, y⟩, hx⟩ : ∃ x, L[k]? = some x := ⟨_, List.getElem?_eq_getElem (by have := Hl.out; omega)⟩
      obtain ⟨g1, rfl, _, hg1⟩ := Ha.out (by omega)
      obtain ⟨g2, rfl, _, hg2⟩ := Hb.out (by omega)
      obtain ⟨c1, c2⟩ := hg1 k _ hx
      obtain ⟨c3, c4⟩ := hg2 k _ hx
      simp only at c1 c2 c3 c4
      clear hx hg1 hg2
      go_wp2
      go_quiet (fail)
      go_wp2
      go_roundw
      case rel => exact ⟨k + 1, _, by omega, by go_num, rfl⟩
      case measure => simp [intOf]; omega
    · obtain rfl : k = n := by omega
      go_wp2
      go_ret
      exact ⟨rfl, below_drewN (Below.refl _ _) _⟩
end Go.Proofs.Ytelipknnfagnjaa
