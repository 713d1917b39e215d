/- Quotients and paths lead back: mathematics. -/
import Derived.Test.YtfelmjanffhahaaDoorFlm
import Derived.Test.YtfelmjanffhahaaDoorFoldm
import Derived.Test.YtfelmjanffhahaaDoorQuo
import Derived.Test.YtfelmjanffhahaaDoorPath
namespace Go.Proofs.YtfelmjanffhahaaDoor
set_option linter.unusedVariables false

theorem natL_natI (l : List Nat) : natL (natI l) = l := by
  unfold natL natI
  rw [List.map_map]
  induction l with
  | nil => rfl
  | cons x l ih => simp at ih ⊢; exact ih

theorem there_fold {p q : Nat} (hv : validB p q = true) : foldR (quoI q p) = ((p, q), 0) := by
  obtain ⟨p', q', e1, e2, h1, h2, hp, hgcd⟩ := valid_nat hv
  obtain rfl : p = p' := by omega
  obtain rfl : q = q' := by omega
  clear e1 e2
  have hlen := quo_len40 hp h2
  have hmem := quo_mem _ q p (Nat.le_refl _) hp
  have hq : quotB (quoI q p) = true := by
    unfold quotB quoI
    rw [natI_length, decide_eq_true hlen, Bool.true_and, Bool.and_eq_true]
    refine ⟨?_, ?_⟩
    · rw [List.all_eq_true]
      intro x hx
      obtain ⟨n, hn, rfl⟩ := List.mem_map.1 hx
      have := hmem n hn
      unfold qOk
      rw [decide_eq_true (by omega), decide_eq_true (by omega)]; rfl
    · by_cases h2l : (quo q p).length < 2
      · rw [decide_eq_true h2l]; rfl
      · rw [decide_eq_false h2l, Bool.false_or, Bool.not_eq_true', beq_eq_false_iff_ne]
        have hp1 : 1 ≤ p := by
          rcases Nat.eq_zero_or_pos p with e | e
          · subst e; rw [quo_zero] at h2l; simp at h2l
          · exact e
        have hpq : p < q := by
          rcases Nat.lt_or_eq_of_le hp with e | e
          · exact e
          · subst e
            rw [quo_pos hp1, Nat.mod_self, quo_zero] at h2l
            simp at h2l
        have hl := quo_last _ q p (Nat.le_refl _) hp1 hpq
        intro e
        apply hl
        have hne : quo q p ≠ [] := fun e => by rw [e] at h2l; simp at h2l
        have hln : (quo q p).length - 1 < (quo q p).length := by omega
        rw [List.getD_eq_getElem?_getD, natI, List.getElem?_map, List.getElem?_eq_getElem hln] at e
        simp only [Option.map_some, Option.getD_some] at e
        rw [List.getLastD_eq_getLast?, List.getLast?_eq_getElem?, List.getElem?_eq_getElem hln]
        simp only [Option.getD_some]
        omega
  have hf := foldQ_quo _ q p (Nat.le_refl _) (by rw [Nat.gcd_comm]; exact hgcd)
  have hP := (foldP_foldQ (l := quo q p) (fun x hx => (hmem x hx).1) (by rw [hf]; exact h2)).1
  unfold foldR
  rw [hq, show natL (quoI q p) = quo q p from natL_natI _, hP, hf]
  rfl

theorem sum_take_le {l : List Nat} {m : Nat} (h : ∀ x ∈ l, x ≤ m) : ∀ k, (l.take k).sum ≤ k * m
  | 0 => by rw [List.take_zero]; exact Nat.zero_le _
  | k + 1 => by
    have ih := sum_take_le h k
    have e : (k + 1) * m = k * m + m := Nat.succ_mul _ _
    rcases Nat.lt_or_ge k l.length with hk | hk
    · rw [List.take_succ_eq_append_getElem hk, List.sum_append, e]
      have := h _ (List.getElem_mem hk)
      have e2 : [l[k]].sum = l[k] := by simp
      omega
    · have h1 : l.take (k + 1) = l := List.take_of_length_le (by omega)
      have h2 : l.take k = l := List.take_of_length_le hk
      rw [h2] at ih
      rw [h1, e]; omega
theorem sum_take_succ {l : List Nat} {k x : Nat} (h : l[k]? = some x) : (l.take (k + 1)).sum = (l.take k).sum + x := by
  obtain ⟨hk, rfl⟩ := List.getElem?_eq_some_iff.1 h
  rw [List.take_succ_eq_append_getElem hk, List.sum_append]; simp

theorem flip_ne {l : List UInt8} (h : ∀ c ∈ l, c = 76 ∨ c = 82) {k : Nat} {c d : UInt8} (hc : l[k]? = some c) (hd : (l.map flipC)[k]? = some d) : ((c.toNat : Int) == (d.toNat : Int)) = false := by
  rw [List.getElem?_map, hc] at hd
  simp only [Option.map_some, Option.some.injEq] at hd
  obtain ⟨hk, rfl⟩ := List.getElem?_eq_some_iff.1 hc
  rcases h _ (List.getElem_mem hk) with e | e
  · rw [e] at hd ⊢; subst hd; decide
  · rw [e] at hd ⊢; subst hd; decide
end Go.Proofs.YtfelmjanffhahaaDoor
