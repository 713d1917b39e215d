/- A region that draws its order, by an invariant over what is carried out; also in a round of a range over a function. -/
import Derived.Test.YthmdlkaanjjbkaaOwnb
import Derived.OrdersIn
namespace Go.Proofs.Ythmdlkaanjjbkaa
set_option linter.unusedVariables false
open Go.RowKit

theorem listed_false {L : Array Bool} {i : Nat} (h : L.getD i true = false) : ∃ hi : i < L.size, L[i] = false := by
  by_cases hi : i < L.size
  · refine ⟨hi, ?_⟩; simpa [hi] using h
  · simp [hi] at h
theorem count_set {L : Array Bool} {i : Nat} (h : L.getD i true = false) : (L.setIfInBounds i true).toList.count false + 1 = L.toList.count false := by
  obtain ⟨hi, hf⟩ := listed_false h
  have hl : i < L.toList.length := by simpa using hi
  have hg : L.toList[i] = false := by simpa using hf
  rw [Array.toList_setIfInBounds, List.count_set hl, hg]
  have : 1 ≤ L.toList.count false := List.one_le_count_iff.2 (List.mem_of_getElem hg)
  rw [if_pos (by rfl), if_neg (by decide)]
  omega

theorem any_inv {F : Fence} {n : Nat} {P : Program} {ops : Array Oper} {Q : Exit → Act → World → Prop} (Inv : Array Bool → Act → World → Prop)
    (hstep : ∀ L a w, Inv L a w → ∀ i, i ∈ Region.ready .any ops L → wpOpIn F n P ops Q i (Inv (L.setIfInBounds i true)) a w)
    (hdone : ∀ L a w, Inv L a w → Region.ready .any ops L = [] → Q .normal a w) : ∀ (fuel : Nat) (L : Array Bool) (a : Act) (w : World), L.toList.count false ≤ fuel → Inv L a w → wpAnyIn F n P .any ops Q fuel L a w
  | 0, L, a, w, hf, hI => by
    have hr : Region.ready .any ops L = [] := by
      refine List.eq_nil_iff_forall_not_mem.2 fun i hi => ?_
      have := count_set (mem_ready.1 hi).1
      omega
    exact ⟨hr, hdone L a w hI hr⟩
  | fuel + 1, L, a, w, hf, hI => by
    refine ⟨hdone L a w hI, fun i hi => ?_⟩
    have hc := count_set (mem_ready.1 hi).1
    exact wpOpIn_mono (fun a' w' h => any_inv Inv hstep hdone fuel _ a' w' (by omega) h) (hstep L a w hI i hi)

theorem region_inv {F : Fence} {n : Nat} {P : Program} {ops : Array Oper} {Q : Exit → Act → World → Prop} {id : Nat} {a : Act} {w : World} (hm : P.follows .mixedOrders = true) (Inv : Array Bool → Act → World → Prop)
    (h0 : Inv (Array.replicate ops.size false) a w.drew)
    (hstep : ∀ L a w, Inv L a w → ∀ i, i ∈ Region.ready .any ops L → wpOpIn F n P ops Q i (Inv (L.setIfInBounds i true)) a w)
    (hdone : ∀ L a w, Inv L a w → Region.ready .any ops L = [] → Q .normal a w) : (Code.region id ops true).wpIn F n P Q a w := by
  refine wpIn_region_any hm (any_inv Inv hstep hdone _ _ a _ ?_ h0)
  rw [Array.toList_replicate, List.count_replicate]
  simp

/-- a slot: what an operation yields once it is carried out -/
def pk (b : Bool) (v u : Value) : Value := bif b then v else u
theorem pk_true (v u : Value) : pk true v u = v := rfl

theorem region_inv' {F : Fence} {n : Nat} {P : Program} {ops : Array Oper} {Q : Exit → Act → World → Prop} {id : Nat} {a : Act} {w : World} (hm : P.follows .mixedOrders = true) (Inv : Array Bool → Act → World → Prop) (A : Act) (W' : World)
    (h0 : Inv (Array.replicate ops.size false) a w.drew)
    (hstep : ∀ (Q : Exit → Act → World → Prop) L a w, Inv L a w → ∀ i, i ∈ Region.ready .any ops L → wpOpIn F n P ops Q i (Inv (L.setIfInBounds i true)) a w)
    (hdone : ∀ L a w, Inv L a w → Region.ready .any ops L = [] → a = A ∧ w = W') (hfin : Q .normal A W') : (Code.region id ops true).wpIn F n P Q a w :=
  region_inv hm Inv h0 (hstep Q) fun L a w hI hr => by
    obtain ⟨rfl, rfl⟩ := hdone L a w hI hr
    exact hfin
theorem ready_nil {ops : Array Oper} {L : Array Bool} (hr : Region.ready .any ops L = []) {i : Nat} (hi : i < ops.size) (hd : ∀ o, ops[i]? = some o → ∀ e ∈ o.after, Region.binds .any e = true → L.getD e.on false = true) : L.getD i true = true := by
  cases h : L.getD i true with
  | true => rfl
  | false =>
    have := mem_ready.2 ⟨h, ops[i], Array.getElem?_eq_getElem hi, hd _ (Array.getElem?_eq_getElem hi)⟩
    rw [hr] at this
    cases this
end Go.Proofs.Ythmdlkaanjjbkaa
