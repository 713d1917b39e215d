/- What is visited in a tree is visited once: mathematics. -/
import Derived.Test.YtbbidgdgcbnanaaShw
namespace Go.Proofs.Ytbbidgdgcbnanaa
set_option linter.unusedVariables false

/-- the parent of a node -/
def parN (T : Tree) (x : Nat) : Nat := ((List.range T.length).find? fun k => decide (x ∈ kids T k)).getD 0
theorem parN_eq {T : Tree} (h : IsTree T) {i c : Nat} (hc : c ∈ kids T i) : parN T c = i := by
  have hi : i < T.length := kidsZ_lt (h.kid hc).2.2.2
  unfold parN
  cases hr : (List.range T.length).find? fun k => decide (c ∈ kids T k) with
  | none => rw [List.find?_eq_none] at hr; exact absurd (decide_eq_true hc) (hr i (List.mem_range.2 hi))
  | some k =>
    have := List.find?_some hr
    have hk : c ∈ kids T k := by simpa using this
    exact h.apart k i c (h.kid hk).2.2.2 (h.kid hc).2.2.2
def ancN (T : Tree) : Nat → Nat → Nat
  | 0, x => x
  | k + 1, x => parN T (ancN T k x)
theorem visN_anc {T : Tree} (h : IsTree T) {nx : Nat → List Nat} (hnx : ∀ i c, i < T.length → c ∈ nx i → c ∈ kids T i) : ∀ m i x, i < T.length → x ∈ visN nx m i → x < T.length ∧ i ≤ x ∧ ∃ k, ancN T k x = i ∧ dep T x = dep T i + k
  | 0, i, x, _, hx => by cases hx
  | m + 1, i, x, hi, hx => by
    rcases List.mem_cons.1 hx with rfl | hx
    · exact ⟨hi, Nat.le_refl _, 0, rfl, rfl⟩
    · obtain ⟨c, hc, hx⟩ := List.mem_flatMap.1 hx
      have hk := hnx i c hi hc
      obtain ⟨k1, k2, k3, -⟩ := h.kid hk
      obtain ⟨a1, a2, k, a3, a4⟩ := visN_anc h hnx m c x k2 hx
      exact ⟨a1, by omega, k + 1, by show parN T (ancN T k x) = i; rw [a3, parN_eq h hk], by omega⟩
theorem visN_nodup {T : Tree} (h : IsTree T) {nx : Nat → List Nat} (hnx : ∀ i c, i < T.length → c ∈ nx i → c ∈ kids T i) (hnd : ∀ i, i < T.length → (nx i).Nodup) : ∀ m i, i < T.length → (visN nx m i).Nodup
  | 0, i, _ => List.nodup_nil
  | m + 1, i, hi => by
    show (i :: (nx i).flatMap (visN nx m)).Nodup
    rw [List.nodup_cons]
    refine ⟨fun hm => ?_, ?_⟩
    · obtain ⟨c, hc, hx⟩ := List.mem_flatMap.1 hm
      have hk := h.kid (hnx i c hi hc)
      have := (visN_anc h hnx m c i hk.2.1 hx).2.1
      omega
    · have key : ∀ l : List Nat, l.Nodup → (∀ c ∈ l, c ∈ kids T i) → (l.flatMap (visN nx m)).Nodup := by
        intro l
        induction l with
        | nil => intro _ _; exact List.nodup_nil
        | cons c l ih =>
          intro hn hl
          rw [List.nodup_cons] at hn
          rw [List.flatMap_cons, List.nodup_append]
          have hkc := h.kid (hl c List.mem_cons_self)
          refine ⟨visN_nodup h hnx hnd m c hkc.2.1, ih hn.2 fun d hd => hl d (List.mem_cons_of_mem _ hd), fun x hx y hy e => ?_⟩
          subst e
          obtain ⟨d, hd, hy⟩ := List.mem_flatMap.1 hy
          have hkd := h.kid (hl d (List.mem_cons_of_mem _ hd))
          obtain ⟨-, -, k, a1, a2⟩ := visN_anc h hnx m c x hkc.2.1 hx
          obtain ⟨-, -, k', b1, b2⟩ := visN_anc h hnx m d x hkd.2.1 hy
          have : k = k' := by omega
          subst this
          rw [a1] at b1
          exact hn.1 (b1 ▸ hd)
      exact key _ (hnd i hi) fun c hc => hnx i c hi hc
theorem visN_le {T : Tree} (h : IsTree T) {nx : Nat → List Nat} (hnx : ∀ i c, i < T.length → c ∈ nx i → c ∈ kids T i) (hnd : ∀ i, i < T.length → (nx i).Nodup) (m i : Nat) (hi : i < T.length) : (visN nx m i).length ≤ 60 := by
  have h3 := List.Nodup.length_le_of_subset (l₂ := List.range T.length) (visN_nodup h hnx hnd m i hi) (fun c hc => List.mem_range.2 (visN_anc h hnx m i c hi hc).1)
  rw [List.length_range] at h3
  have := h.len
  omega
theorem nxH_nodup {T : Tree} (h : IsTree T) (f : Nat → Int) (wanted : Bool) (i : Nat) : (nxH T f wanted i).Nodup := by
  unfold nxH
  by_cases e : kids T i = []
  · rw [if_pos e]; exact List.nodup_nil
  · rw [if_neg e]
    by_cases e2 : even T i = wanted
    · rw [if_pos e2]; simp
    · rw [if_neg e2]; exact h.kids_nodup i
end Go.Proofs.Ytbbidgdgcbnanaa
