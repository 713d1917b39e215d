/- The reference's Row: the list of all fractions of a row. -/
import Derived.Test.YtfelmjanffhahaaDoorAdj
import Derived.Test.YtfelmjanffhahaaDoorQuad
import Derived.Deep.DeepCutAuto
namespace Go.Proofs.YtfelmjanffhahaaDoor
set_option linter.unusedVariables false
open Go.RowKit Go.Shelf

/-- fractions, one after the other, as cells -/
def flatF : List (Nat × Nat) → List Value
  | [] => []
  | p :: l => .int .i64 (p.1 : Int) :: .int .i64 (p.2 : Int) :: flatF l
theorem flatF_length : ∀ l, (flatF l).length = l.length * 2
  | [] => rfl
  | p :: l => by simp [flatF, flatF_length l]; omega
theorem flatF_append : ∀ l m, flatF (l ++ m) = flatF l ++ flatF m
  | [], m => rfl
  | p :: l, m => by simp [flatF, flatF_append l m]
theorem flatF_get : ∀ {l : List (Nat × Nat)} {j : Nat} {p : Nat × Nat}, l[j]? = some p → (flatF l)[j * 2]? = some (.int .i64 (p.1 : Int)) ∧ (flatF l)[j * 2 + 1]? = some (.int .i64 (p.2 : Int))
  | [], j, p, h => by simp at h
  | q :: l, 0, p, h => by simp at h; subst h; exact ⟨rfl, rfl⟩
  | q :: l, j + 1, p, h => by
    have := flatF_get (l := l) (j := j) (by simpa using h)
    rw [show (j + 1) * 2 = j * 2 + 1 + 1 from by omega]
    exact this
/-- the first k fractions of the row -/
def frs (N k : Nat) : List (Nat × Nat) := (List.range k).map (fr N)
theorem frs_length (N k : Nat) : (frs N k).length = k := by simp [frs]
theorem frs_get {N k j : Nat} (h : j < k) : (frs N k)[j]? = some (fr N j) := by simp [frs, h]
theorem frs_succ (N k : Nat) : frs N (k + 1) = frs N k ++ [fr N k] := by simp [frs, List.range_succ]
theorem fr_end {N j : Nat} (h1 : 1 ≤ N) (hj : j < len N) : (fr N j).1 < (fr N j).2 ↔ j + 1 < len N := by
  constructor
  · intro h
    rcases Nat.lt_or_ge (j + 1) (len N) with e | e
    · exact e
    · have : j = len N - 1 := by omega
      rw [this, fr_last h1] at h
      simp at h
  · intro h
    have := fr_lt h1 (i := j) (len N - 1) (by omega)
    rw [fr_last h1] at this
    simpa using this
theorem info_frac : (Tryd.prog.info? 23).map (fun i => (i.zero, i.size, i.bytes)) = some (some (.agg #[.int .i64 0, .int .i64 0]), 2, 16) := by kernel_rfl

theorem cells_two_new (w : World) (x y : Value) (t : TypeId) : ∀ j u, [x, y][j]? = some u → (w.alloc (.cells #[x, y] t)).cell? ((⟨w.heap.size, 0, none⟩ : Addr).add j) = some u := by
  intro j u hj
  match j, hj with
  | 0, hj => simp at hj; subst hj; simp [Addr.add]
  | 1, hj => simp at hj; subst hj; simp [Addr.add]
  | j + 2, hj => simp at hj
theorem row_num {N p q r s k : Nat} (h3 : N ≤ 300) (z1 : p ≤ 200000) (z2 : q ≤ N) (z3 : r ≤ 200000) (z4 : s ≤ N) (z5 : 1 ≤ s) (z6 : 1 ≤ q)
    (hst : 1 ≤ (N + q) / s ∧ p ≤ (N + q) / s * r ∧ q < (N + q) / s * s ∧ (N + q) / s * s ≤ N + q ∧ N + q < (N + q) / s * s + s) (hnx : fr N (k + 1 + 1) = ((N + q) / s * r - p, (N + q) / s * s - q)) :
    ∃ t tr ts x y : Nat, Int.tdiv ((N : Int) + q) s = t ∧ ((N : Int) + q) / s = t ∧ wrap64 ((t : Int) * r) = tr ∧ wrap64 ((tr : Int) - p) = x ∧ wrap64 ((t : Int) * s) = ts ∧ wrap64 ((ts : Int) - q) = y ∧ fr N (k + 2) = (x, y) ∧ t ≤ 1000 ∧ ¬ s = 0 ∧ ¬ (s : Int) = 0 := by
  obtain ⟨t, ht⟩ : ∃ t, (N + q) / s = t := ⟨_, rfl⟩
  have ht2 : t ≤ 600 := by rw [← ht]; exact Nat.le_trans (Nat.div_le_self _ _) (by omega)
  rw [ht] at hst hnx
  obtain ⟨_, h2, h4, h5, _⟩ := hst
  have h6 : t * r ≤ 600 * 200000 := Nat.mul_le_mul ht2 z3
  exact ⟨t, t * r, t * s, t * r - p, t * s - q, by rw [show (N : Int) + q = ((N + q : Nat) : Int) by simp]; exact tdivN ht, by rw [show (N : Int) + q = ((N + q : Nat) : Int) by simp, ← ht]; rfl, wmul rfl (by omega), wsub (by omega) (by omega), wmul rfl (by omega), wsub (by omega) (by omega), hnx, by omega, by omega, by omega⟩

def lenV : Value → Nat
  | .slice _ n _ => n
  | _ => 0

end Go.Proofs.YtfelmjanffhahaaDoor
