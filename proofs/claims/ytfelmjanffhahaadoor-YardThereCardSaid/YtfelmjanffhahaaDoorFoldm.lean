/- Fold, as mathematics: from the last quotient to the first one, as long as the denominator is small. -/
import Derived.Test.YtfelmjanffhahaaDoorQuo
namespace Go.Proofs.YtfelmjanffhahaaDoor
set_option linter.unusedVariables false
open Go.RowKit

/-- one step of Fold -/
def foldS (q : Nat) (o : Option (Nat × Nat)) : Option (Nat × Nat) := o.bind fun f => if (fold1 q f).2 > 1000000 then none else some (fold1 q f)
def foldP (l : List Nat) : Option (Nat × Nat) := l.foldr foldS (some (0, 1))
theorem foldP_cons (q : Nat) (l : List Nat) : foldP (q :: l) = foldS q (foldP l) := rfl
theorem foldP_drop {l : List Nat} {k q : Nat} (h : l[k]? = some q) : foldP (l.drop k) = foldS q (foldP (l.drop (k + 1))) := by
  obtain ⟨hk, hq⟩ := List.getElem?_eq_some_iff.1 h
  rw [List.drop_eq_getElem_cons hk, hq, foldP_cons]
theorem foldP_none_drop {l : List Nat} : ∀ {k : Nat}, foldP (l.drop k) = none → foldP l = none
  | 0, h => by simpa using h
  | k + 1, h => by
    rcases Nat.lt_or_ge k l.length with hk | hk
    · exact foldP_none_drop (k := k) (by rw [foldP_drop (List.getElem?_eq_getElem hk), h]; rfl)
    · rw [List.drop_eq_nil_of_le (by omega)] at h; cases h
/-- what Fold has found is small -/
theorem foldP_small : ∀ {l : List Nat} {f : Nat × Nat}, (∀ q ∈ l, 1 ≤ q) → foldP l = some f → f.1 ≤ f.2 ∧ 1 ≤ f.2 ∧ f.2 ≤ 1000000
  | [], f, _, h => by cases h; simp
  | q :: l, f, hq, h => by
    rw [foldP_cons] at h
    cases ho : foldP l with
    | none => rw [ho] at h; cases h
    | some g =>
      rw [ho] at h
      obtain ⟨h1, h2, h3⟩ := foldP_small (fun x hx => hq x (List.mem_cons_of_mem _ hx)) ho
      unfold foldS at h
      simp only [Option.bind_some] at h
      split at h
      · cases h
      · rename_i hlt
        cases h
        have h4 : 1 * g.2 ≤ q * g.2 := Nat.mul_le_mul_right _ (hq q (List.mem_cons_self ..))
        unfold fold1 at *
        simp only at *
        omega
/-- quotients whose fraction is small are folded -/
theorem foldP_foldQ : ∀ {l : List Nat}, (∀ q ∈ l, 1 ≤ q) → (foldQ l).2 ≤ 1000000 → foldP l = some (foldQ l) ∧ 1 ≤ (foldQ l).2
  | [], _, _ => ⟨rfl, by decide⟩
  | q :: l, hq, h => by
    rw [foldQ_cons] at *
    have h4 : 1 * (foldQ l).2 ≤ q * (foldQ l).2 := Nat.mul_le_mul_right _ (hq q (List.mem_cons_self ..))
    have h5 : (foldQ l).2 ≤ 1000000 := by unfold fold1 at h; simp only at h; omega
    obtain ⟨h6, h7⟩ := foldP_foldQ (fun x hx => hq x (List.mem_cons_of_mem _ hx)) h5
    rw [foldP_cons, h6]
    refine ⟨by unfold foldS; rw [Option.bind_some, if_neg (by omega)], ?_⟩
    unfold fold1
    simp only
    omega

/-- a list may be quotients -/
def qOk (x : Int) : Bool := decide (1 ≤ x) && decide (x ≤ 1000000)
def quotB (l : List Int) : Bool := decide (l.length ≤ 40) && l.all qOk && (decide (l.length < 2) || !(l.getD (l.length - 1) 0 == 1))
def natL (l : List Int) : List Nat := l.map Int.toNat
theorem natL_length (l : List Int) : (natL l).length = l.length := List.length_map _
theorem quot_get {l : List Int} (h : quotB l = true) {k : Nat} (hk : k < l.length) : ∃ q : Nat, l[k]? = some (q : Int) ∧ (natL l)[k]? = some q ∧ 1 ≤ q ∧ q ≤ 1000000 := by
  unfold quotB at h
  simp only [Bool.and_eq_true, List.all_eq_true] at h
  have := h.1.2 l[k] (List.getElem_mem hk)
  unfold qOk at this
  simp at this
  refine ⟨l[k].toNat, ?_, ?_, by omega, by omega⟩
  · rw [List.getElem?_eq_getElem hk, Int.toNat_of_nonneg (by omega)]
  · unfold natL; rw [List.getElem?_map, List.getElem?_eq_getElem hk]; rfl
theorem quot_pos {l : List Int} (h : quotB l = true) : ∀ q ∈ natL l, 1 ≤ q := by
  intro q hq
  obtain ⟨k, hk, rfl⟩ := List.getElem_of_mem hq
  obtain ⟨q', h1, h2, h3, _⟩ := quot_get h (k := k) (by rw [natL_length] at hk; exact hk)
  rw [List.getElem?_eq_getElem hk] at h2
  cases h2
  exact h3
/-- Fold's answer -/
def foldR (l : List Int) : (Nat × Nat) × Int := if quotB l then (match foldP (natL l) with | some f => (f, 0) | none => ((0, 0), 5)) else ((0, 0), 2)
end Go.Proofs.YtfelmjanffhahaaDoor
