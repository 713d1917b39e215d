/- The memory of the search: a map from pairs of positions to strings. -/
import Derived.Test.YteejjcipdpojnaaBetter
import Derived.DeepKeys4
import Derived.Maps.StringElems
import Derived.Deep.RegionHeld3
namespace Go.Proofs.Yteejjcipdpojnaa
set_option linter.unusedVariables false
open Go.RowKit Go.Maps

/-- the first one of the longest palindromes among the subsequences of the d letters from b on -/
def innerAt (l : List UInt8) : Nat → Nat → List UInt8
  | 0, _ => []
  | 1, b => [l.getD b 0]
  | d + 2, b => if l.getD b 0 = l.getD (b + d + 1) 0 then l.getD b 0 :: (innerAt l d (b + 1) ++ [l.getD b 0]) else betterL (innerAt l (d + 1) (b + 1)) (innerAt l (d + 1) b)

theorem betterL_len (a b : List UInt8) : a.length ≤ (betterL a b).length ∧ b.length ≤ (betterL a b).length ∧ (betterL a b = a ∨ betterL a b = b) := by
  unfold betterL
  split
  · rename_i h; refine ⟨Nat.le_refl _, ?_, .inl rfl⟩; rcases h with h | ⟨h, _⟩ <;> omega
  · rename_i h; refine ⟨?_, Nat.le_refl _, .inr rfl⟩
    rcases Nat.lt_or_ge b.length a.length with k | k
    · exact absurd (.inl k) h
    · exact k

theorem innerAt_len (l : List UInt8) : ∀ d b, (innerAt l d b).length ≤ d
  | 0, _ => Nat.le_refl _
  | 1, _ => Nat.le_refl _
  | d + 2, b => by
    unfold innerAt
    split
    · have := innerAt_len l d (b + 1); simp; omega
    · have h1 := innerAt_len l (d + 1) (b + 1)
      have h2 := innerAt_len l (d + 1) b
      rcases (betterL_len (innerAt l (d + 1) (b + 1)) (innerAt l (d + 1) b)).2.2 with h | h <;> rw [h] <;> omega

abbrev pairV (b e : Nat) : Value := .agg #[.int .i64 b, .int .i64 e]
theorem row79 : (79 : TypeId) < Try.prog.types.size := of_decide_eq_true (by kernel_rfl)
theorem laidOut : laidOutB Try.prog = true := by kernel_rfl
theorem wide79 : (match Try.prog.underlying 79 with | some (.array _ _) | some (.struct _) => true | _ => false) = true := by rw [Try.underlying79]
theorem keyed79 : Keyed Try.prog 79 := Keyed.of_law (deep_law_laid laidOut (m := 2) (by omega) row79 (by kernel_rfl) wide79)
theorem cells79 : Try.prog.cellsOf 79 = 2 := by kernel_rfl
theorem cells3 : Try.prog.cellsOf 3 = 1 := by kernel_rfl
theorem keyT79 : Try.prog.keyType 79 = true := by kernel_rfl

theorem key_some (b e : Nat) (hb : b ≤ 1000) (he : e ≤ 1000) : keyOf Try.prog 79 (pairV b e) = some (.string (keyBytes [.int .i64 b, .int .i64 e])) := by
  obtain ⟨m, hm⟩ : ∃ m, Try.prog.types.size = m + 1 := ⟨Try.prog.types.size - 1, (Nat.succ_pred_eq_of_pos (Nat.lt_of_le_of_lt (Nat.zero_le _) row79)).symm⟩
  have w1 : (Lit.int .i64 (b : Int)).wf = true := WalkArith.wf_i64 ⟨by omega, by omega⟩
  have w2 : (Lit.int .i64 (e : Int)).wf = true := WalkArith.wf_i64 ⟨by omega, by omega⟩
  have hf : (pairV b e).formed Try.prog 79 = true := by simp [Value.formed, Try.underlying79, cells79]
  unfold keyOf
  rw [Try.underlying79, keyT79, hf, hm]
  simp [Program.keyLits, Try.underlying79, Try.underlying3, cells79, cells3, Value.cells, w1, w2, List.range_succ]

/-- the key of a pair, as the reader has it -/
def keyLit (p : Nat × Nat) : Lit := .string (keyBytes [.int .i64 p.1, .int .i64 p.2])
def Small (p : Nat × Nat) : Prop := p.1 ≤ 1000 ∧ p.2 ≤ 1000
theorem keyLit_key {p : Nat × Nat} (h : Small p) : keyOf Try.prog 79 (pairV p.1 p.2) = some (keyLit p) := key_some p.1 p.2 h.1 h.2
theorem keyLit_is {p : Nat × Nat} (h : Small p) : WideAt.IsKeyLit (keyLit p) := keyed79.key (keyLit_key h)
theorem keyLit_inj {p q : Nat × Nat} (hp : Small p) (hq : Small q) (h : keyLit p = keyLit q) : p = q := by
  have := keyed79.inj (keyLit_key hp) (by rw [h]; exact keyLit_key hq)
  simp [pairV] at this
  exact Prod.ext (by omega) (by omega)

theorem contains_snoc (L : List (Nat × Nat)) (q p : Nat × Nat) : (L ++ [q]).contains p = (L.contains p || decide (p = q)) := by
  rw [Bool.eq_iff_iff, Bool.or_eq_true, List.contains_iff_mem, List.contains_iff_mem, List.mem_append, List.mem_singleton, decide_eq_true_eq]

def memoStep (l : List UInt8) (m : DataW Unit) (p : Nat × Nat) : DataW Unit := m.put (keyLit p) (.lit (.string (innerAt l (p.2 - p.1) p.1)))
def memoOf (l : List UInt8) (L : List (Nat × Nat)) : DataW Unit := L.foldl (memoStep l) (.map [])
theorem memoOf_snoc (l : List UInt8) (L : List (Nat × Nat)) (p : Nat × Nat) : memoOf l (L ++ [p]) = (memoOf l L).put (keyLit p) (.lit (.string (innerAt l (p.2 - p.1) p.1))) := by
  simp [memoOf, List.foldl_append, memoStep]
theorem memoOf_isMap (l : List UInt8) : ∀ L, IsMap (memoOf l L) := by
  refine snoc_rec isMap_empty ?_
  intro L p ih
  rw [memoOf_snoc]; exact ih.put _ _

theorem memoOf_has (l : List UInt8) {p : Nat × Nat} (hp : Small p) : ∀ L, (∀ q ∈ L, Small q) → has (memoOf l L) (keyLit p) = L.contains p := by
  refine snoc_rec (fun _ => rfl) ?_
  intro L q ih hL
  rw [memoOf_snoc]
  by_cases h : p = q
  · subst h
    rw [has_put_same (memoOf_isMap l L) (keyLit_is hp), contains_snoc, decide_eq_true rfl, Bool.or_true]
  · rw [has_put_other (fun e => h (keyLit_inj hp (hL q (List.mem_append_right _ (List.mem_singleton.2 rfl))) e)), ih (fun r hr => hL r (List.mem_append_left _ hr)), contains_snoc, decide_eq_false h, Bool.or_false]

theorem memoOf_at (l : List UInt8) {p : Nat × Nat} (hp : Small p) (z : DataW Unit) : ∀ L, (∀ q ∈ L, Small q) → (memoOf l L).atKey (keyLit p) z = if L.contains p then .lit (.string (innerAt l (p.2 - p.1) p.1)) else z := by
  refine snoc_rec (fun _ => rfl) ?_
  intro L q ih hL
  rw [memoOf_snoc]
  by_cases h : p = q
  · subst h
    rw [atKey_put_same (memoOf_isMap l L) (keyLit_is hp), contains_snoc, decide_eq_true rfl, Bool.or_true, if_pos rfl]
  · rw [atKey_put_other (fun e => h (keyLit_inj hp (hL q (List.mem_append_right _ (List.mem_singleton.2 rfl))) e)), ih (fun r hr => hL r (List.mem_append_left _ hr)), contains_snoc, decide_eq_false h, Bool.or_false]

theorem zeroStr (w : World) : (zeroValue 9).run Try.prog w = .ok (.string ⟨#[]⟩) w := by kernel_rfl

/-- v, ok := found[key] -/
theorem wpList_lookup_memo (l : List UInt8) (L : List (Nat × Nat)) (p : Nat × Nat) (hp : Small p) (hL : ∀ q ∈ L, Small q) (w : World) {ops : Array Oper} {rest : List Oper} {o : Oper} {a : Act} {Q : Exit → Act → World → Prop}
    (hg : o.guard = none) (m x : Operand) (hop : o.op = Op.lookup 78 m x true) (b n : Nat)
    (hm : a.eval m = .map (some b)) (hown : w.ownsMap Try.prog 79 (plainElem Try.prog 9) b n (memoOf l L)) (hx : a.eval x = pairV p.1 p.2)
    (c : Bool) (r : ByteArray) (hc : L.contains p = c) (hr : r = if c then mk (innerAt l (p.2 - p.1) p.1) else ⟨#[]⟩)
    (hK : wpList Try.prog ops Q rest (a.put o.dst (.tuple #[.string r, .bool c])) w) :
    wpList Try.prog ops Q (o :: rest) a w := by
  refine wpList_lookup_own_ok w hg m x 78 hop 79 9 keyed79 Try.underlying78 (plainElem Try.prog 9) (zeroStr w) (.lit (.string [])) [] (plainElem_string Try.underlying9 (by decide)) b n (memoOf l L) hm hown _ (keyLit p) hx (keyLit_key hp) ?_
  intro v ps hv
  obtain ⟨s, rfl, hz, _⟩ := plainElem_string_inv Try.underlying9 hv
  rw [memoOf_has l hp L hL, hc]
  have : s = r := by
    rw [memoOf_at l hp _ L hL, hc] at hz
    rw [hr]
    cases c
    · simp at hz; cases s; simp_all
    · simp at hz; rw [if_pos rfl, hz.1, mk_data]
  rw [this]
  exact hK
end Go.Proofs.Yteejjcipdpojnaa
