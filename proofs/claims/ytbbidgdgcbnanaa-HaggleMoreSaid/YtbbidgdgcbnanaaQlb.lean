/- A region that draws its order and whose last operation waits for all others: the last one may change what the others read. -/
import Derived.Test.YtbbidgdgcbnanaaBase
import Derived.Lib.QuietBelow
import Derived.Maps.OwnOps
import Derived.Maps.Keyed
namespace Go.Proofs.Ytbbidgdgcbnanaa
set_option linter.unusedVariables false
open Go.RowKit Go.Sort Go.Maps Go.ChangeMaps Go.MapKept Go.WideShapes

def lastQ (P : Program) (o : Oper) (Q : Exit → Act → World → Prop) : Exit → Act → World → Prop
  | .normal, a, w => Oper.wp P o a w (Q .normal) Q
  | e, a, w => Q e a w

theorem upon_lastQ {P : Program} {o oi : Oper} {Q : Exit → Act → World → Prop} {a : Act} {w : World} {K : Act → World → Prop} (h : Oper.wp P oi a w K (lastQ P o Q)) : Oper.wp P oi a w K Q := by
  unfold Oper.wp at *
  generalize (execOp a.eval oi).run P w = r at *
  cases r with
  | ok n w' => cases n <;> exact h
  | halt x w' => cases x <;> exact h

theorem push_getD (L : Array Bool) (k : Nat) : (L.push false).getD k false = L.getD k false := by
  simp only [Array.getD_eq_getD_getElem?, Array.getElem?_push]
  split
  · rename_i h; subst h; simp
  · rfl

/-- what pre's operations wait for comes before them; the last one waits for all -/
structure LastOk (md : Region.Mode) (pre : List Oper) (o : Oper) : Prop where
  guard : ∀ p ∈ pre, p.guard = none
  lastGuard : o.guard = none
  before : ∀ k p, pre[k]? = some p → ∀ e ∈ p.after, Region.binds md e = true → e.on < k
  only : ∀ e ∈ o.after, Region.binds md e = true → e.on < pre.length
  all : ∀ k, k < pre.length → ∃ e ∈ o.after, Region.binds md e = true ∧ e.on = k

theorem least {md : Region.Mode} {pre : List Oper} {o : Oper} (h : LastOk md pre o) (L : Array Bool) (hL : L.size = pre.length) (hr : Region.ready md pre.toArray L = []) : ∀ k, k < pre.length → L.getD k false = true := by
  intro k
  induction k using Nat.strongRecOn with
  | ind k ih =>
    intro hk
    cases hc : L.getD k false with
    | true => rfl
    | false =>
      exfalso
      have hm : k ∈ Region.ready md pre.toArray L := mem_ready.2 ⟨by
        rw [← hc]; simp [Array.getD_eq_getD_getElem?, Array.getElem?_eq_getElem (show k < L.size from by omega)], pre[k], by simp [hk], fun e he hb => ih e.on (h.before k pre[k] (by simp [hk]) e he hb) (by have := h.before k pre[k] (by simp [hk]) e he hb; omega)⟩
      rw [hr] at hm
      cases hm

theorem wpAny_last {P : Program} {md : Region.Mode} {pre : List Oper} {o : Oper} {Q : Exit → Act → World → Prop} (h : LastOk md pre o) : ∀ (fuel : Nat) (L : Array Bool) (a : Act) (w : World), L.size = pre.length →
    wpAny P md pre.toArray (lastQ P o Q) fuel L a w → wpAny P md (pre.toArray.push o) Q (fuel + 1) (L.push false) a w := by
  have hlo : (pre.toArray.push o)[pre.length]? = some o := by simp
  have hpo : ∀ k, k < pre.length → (pre.toArray.push o)[k]? = pre.toArray[k]? := fun k hk => by
    rw [Array.getElem?_push_lt (by simpa using hk)]; simp [hk]
  -- the end: all of pre have come up
  have hend : ∀ (fuel : Nat) (L : Array Bool) (a : Act) (w : World), L.size = pre.length → (Region.ready md pre.toArray L = [] → lastQ P o Q .normal a w) →
      (∀ i, i < pre.length → i ∈ Region.ready md pre.toArray L → wpOp P (pre.toArray.push o) Q i (wpAny P md (pre.toArray.push o) Q fuel ((L.push false).setIfInBounds i true)) a w) →
      wpAny P md (pre.toArray.push o) Q (fuel + 1) (L.push false) a w := by
    intro fuel L a w hL hn hs
    have hpre : ∀ i, i < pre.length → i ∈ Region.ready md (pre.toArray.push o) (L.push false) → i ∈ Region.ready md pre.toArray L := by
      intro i hi hm
      obtain ⟨h1, oi, h2, h3⟩ := mem_ready.1 hm
      refine mem_ready.2 ⟨?_, oi, by rw [← hpo i hi]; exact h2, fun e he hb => by rw [← push_getD]; exact h3 e he hb⟩
      rw [← h1]
      simp only [Array.getD_eq_getD_getElem?, Array.getElem?_push]
      rw [if_neg (by omega)]
    have hlast : ∀ i, i ∈ Region.ready md (pre.toArray.push o) (L.push false) → i < pre.length ∨ i = pre.length := by
      intro i hm
      obtain ⟨_, oi, h2, _⟩ := mem_ready.1 hm
      have := (Array.getElem?_eq_some_iff.1 h2).1
      simp at this; omega
    refine ⟨fun hr => ?_, fun i hm => ?_⟩
    · exfalso
      have hr2 : Region.ready md pre.toArray L = [] := by
        refine List.eq_nil_iff_forall_not_mem.2 fun i hi => ?_
        obtain ⟨h1, oi, h2, h3⟩ := mem_ready.1 hi
        have hi2 : i < pre.length := by have := (Array.getElem?_eq_some_iff.1 h2).1; simpa using this
        have : i ∈ Region.ready md (pre.toArray.push o) (L.push false) := mem_ready.2 ⟨by
          rw [← h1]; simp only [Array.getD_eq_getD_getElem?, Array.getElem?_push]; rw [if_neg (by omega)], oi, by rw [hpo i hi2]; exact h2, fun e he hb => by rw [push_getD]; exact h3 e he hb⟩
        rw [hr] at this; cases this
      have hall := least h L hL hr2
      have hm : pre.length ∈ Region.ready md (pre.toArray.push o) (L.push false) := mem_ready.2 ⟨by
        simp only [Array.getD_eq_getD_getElem?, Array.getElem?_push]; rw [if_pos hL.symm]; rfl, o, hlo, fun e he hb => by rw [push_getD]; exact hall _ (h.only e he hb)⟩
      rw [hr] at hm; cases hm
    · rcases hlast i hm with hi | rfl
      · exact hs i hi (hpre i hi hm)
      · obtain ⟨_, oi, h2, h3⟩ := mem_ready.1 hm
        rw [hlo, Option.some.injEq] at h2
        subst h2
        have hall : ∀ k, k < pre.length → L.getD k false = true := fun k hk => by
          obtain ⟨e, he, hb, rfl⟩ := h.all k hk
          rw [← push_getD]; exact h3 e he hb
        have hr2 : Region.ready md pre.toArray L = [] := by
          refine List.eq_nil_iff_forall_not_mem.2 fun i hi => ?_
          obtain ⟨h1, oi, h2, _⟩ := mem_ready.1 hi
          have hi2 : i < pre.length := by have := (Array.getElem?_eq_some_iff.1 h2).1; simpa using this
          have h4 := hall i hi2
          simp [Array.getD_eq_getD_getElem?, Array.getElem?_eq_getElem (show i < L.size from by omega)] at h1 h4
          rw [h1] at h4; cases h4
        have hr3 : Region.ready md (pre.toArray.push o) ((L.push false).setIfInBounds pre.length true) = [] := by
          refine List.eq_nil_iff_forall_not_mem.2 fun i hi => ?_
          obtain ⟨h1, oi, h2, _⟩ := mem_ready.1 hi
          have hi2 : i < pre.length + 1 := by have := (Array.getElem?_eq_some_iff.1 h2).1; simpa using this
          by_cases hiN : i = pre.length
          · subst hiN
            have hz : pre.length < (L.push false).size := by simp [hL]
            simp [Array.getD_eq_getD_getElem?, hL] at h1
          · have h4 := hall i (by omega)
            simp only [Array.getD_eq_getD_getElem?, Array.getElem?_setIfInBounds, Array.getElem?_push] at h1 h4
            rw [if_neg (by omega), if_neg (by omega), Array.getElem?_eq_getElem (show i < L.size from by omega)] at h1
            rw [Array.getElem?_eq_getElem (show i < L.size from by omega)] at h4
            simp only [Option.getD_some] at h1 h4
            rw [h1] at h4; cases h4
        have hq := hn hr2
        unfold wpOp
        rw [hlo]
        simp only [Region.wanted, h.lastGuard]
        rw [if_pos (by trivial)]
        refine .inl (Oper.wp_mono (fun a' w' hQ => ?_) hq)
        cases fuel with
        | zero => exact ⟨hr3, hQ⟩
        | succ fuel => exact ⟨fun _ => hQ, fun i hi => by rw [hr3] at hi; cases hi⟩
  intro fuel
  induction fuel with
  | zero =>
    intro L a w hL hw
    exact hend 0 L a w hL (fun _ => hw.2) (fun i _ hm => by rw [hw.1] at hm; cases hm)
  | succ fuel ih =>
    intro L a w hL hw
    refine hend (fuel + 1) L a w hL hw.1 (fun i hi hm => ?_)
    have hk := hw.2 i hm
    have hset : (L.push false).setIfInBounds i true = (L.setIfInBounds i true).push false := by
      apply Array.toList_inj.1
      simp only [Array.toList_setIfInBounds, Array.toList_push]
      rw [List.set_append_left]
      simpa [hL] using hi
    rw [hset]
    have hpi : pre.toArray[i]? = some pre[i] := by simp [hi]
    unfold wpOp at hk ⊢
    rw [hpo i hi, hpi]
    rw [hpi] at hk
    simp only [Region.wanted, h.guard pre[i] (List.getElem_mem _)] at hk ⊢
    rw [if_pos (by trivial)] at hk ⊢
    rcases hk with hk | hk
    · exact .inl (upon_lastQ (Oper.wp_mono (fun a' w' hh => ih _ a' w' (by simpa using hL) hh) hk))
    · exact .inr ⟨hk.1, hk.2⟩

def lastOkB (md : Region.Mode) (pre : List Oper) (o : Oper) : Bool :=
  pre.all (·.guard.isNone) && o.guard.isNone && (List.range pre.length).all (fun k => (pre[k]?).all (fun p => p.after.all (fun e => !Region.binds md e || decide (e.on < k)))) &&
    o.after.all (fun e => !Region.binds md e || decide (e.on < pre.length)) && (List.range pre.length).all (fun k => o.after.any (fun e => Region.binds md e && e.on == k))
theorem lastOk_of {md : Region.Mode} {pre : List Oper} {o : Oper} (h : lastOkB md pre o = true) : LastOk md pre o := by
  unfold lastOkB at h
  simp only [Bool.and_eq_true, List.all_eq_true, List.mem_range, Array.all_eq_true', Array.any_eq_true', Bool.or_eq_true, Bool.not_eq_true', decide_eq_true_eq, beq_iff_eq] at h
  obtain ⟨⟨⟨⟨h1, h2⟩, h3⟩, h4⟩, h5⟩ := h
  refine ⟨fun p hp => by simpa using h1 p hp, by simpa using h2, fun k p hp e he hb => ?_, fun e he hb => ?_, fun k hk => ?_⟩
  · have := h3 k (List.getElem?_eq_some_iff.1 hp).1
    rw [hp] at this
    simp only [Option.all_some, Array.all_eq_true', Bool.or_eq_true, Bool.not_eq_true', decide_eq_true_eq] at this
    rcases this e he with h | h
    · rw [hb] at h; cases h
    · exact h
  · rcases h4 e he with h | h
    · rw [hb] at h; cases h
    · exact h
  · obtain ⟨e, he, hb, hk⟩ := h5 k hk
    exact ⟨e, he, hb, hk⟩

/-- all operations but the last one only read, or lay new blocks (their callees too); the last one waits for all: one walk of the text's order -/
theorem wp_region_qlb {P : Program} {l : List Oper} {o : Oper} {Q : Exit → Act → World → Prop} {id : Nat} {a : Act} {w : World} (hm : P.follows .mixedOrders = true) (hok : lastOkB .any l o = true) (hB : Region.lexB .any l.toArray = true)
    (h : wpQuiet P l.toArray (fun w' => ∃ p : Regrown, w' = grow (redrawn w p.d) p.os) (fun a' => ∀ w', (∃ p : Regrown, w' = grow (redrawn w p.d) p.os) → Oper.wp P o a' w' (Q .normal) Q) l a) : (Code.region id (l.toArray.push o) true).wp P Q a w := by
  refine wp_region_any hm ?_
  simp only [Region.lexB, Bool.and_eq_true] at hB
  have hq := wpAnyQ_lex (C := fun w' => ∃ p : Regrown, w' = grow (redrawn w p.d) p.os) (md := .any) hB.1 l 0 (Array.replicate l.length false) a (by simp) (by simpa using hB.2) h
  have h1 := wpAny_last (P := P) (Q := Q) (lastOk_of hok) l.length (Array.replicate l.length false) a w.drew (by simp)
    (wpAny_of_quiet (C := fun w' => ∃ p : Regrown, w' = grow (redrawn w p.d) p.os) (Q := fun a' => ∀ w', (∃ p : Regrown, w' = grow (redrawn w p.d) p.os) → Oper.wp P o a' w' (Q .normal) Q) (Q' := lastQ P o Q) (fun _ w' hw' h => h w' hw') _ _ _ _ ⟨⟨w.drawn + 1, #[]⟩, by rw [grow_empty]; rfl⟩ (by simpa using hq))
  have h2 : (Array.replicate l.length false).push false = Array.replicate (l.length + 1) false := by rw [Array.replicate_succ]
  rw [h2] at h1
  simpa using h1
theorem wp_region_qlb7 {P : Program} {x0 x1 x2 x3 x4 x5 o : Oper} {Q : Exit → Act → World → Prop} {id : Nat} {a : Act} {w : World} (hm : P.follows .mixedOrders = true) (hok : lastOkB .any [x0, x1, x2, x3, x4, x5] o = true) (hB : Region.lexB .any #[x0, x1, x2, x3, x4, x5] = true)
    (h : wpQuiet P #[x0, x1, x2, x3, x4, x5] (fun w' => ∃ p : Regrown, w' = grow (redrawn w p.d) p.os) (fun a' => ∀ w', (∃ p : Regrown, w' = grow (redrawn w p.d) p.os) → Oper.wp P o a' w' (Q .normal) Q) [x0, x1, x2, x3, x4, x5] a) : (Code.region id #[x0, x1, x2, x3, x4, x5, o] true).wp P Q a w :=
  wp_region_qlb (l := [x0, x1, x2, x3, x4, x5]) hm hok hB h
theorem wp_region_qlb8 {P : Program} {x0 x1 x2 x3 x4 x5 x6 o : Oper} {Q : Exit → Act → World → Prop} {id : Nat} {a : Act} {w : World} (hm : P.follows .mixedOrders = true) (hok : lastOkB .any [x0, x1, x2, x3, x4, x5, x6] o = true) (hB : Region.lexB .any #[x0, x1, x2, x3, x4, x5, x6] = true)
    (h : wpQuiet P #[x0, x1, x2, x3, x4, x5, x6] (fun w' => ∃ p : Regrown, w' = grow (redrawn w p.d) p.os) (fun a' => ∀ w', (∃ p : Regrown, w' = grow (redrawn w p.d) p.os) → Oper.wp P o a' w' (Q .normal) Q) [x0, x1, x2, x3, x4, x5, x6] a) : (Code.region id #[x0, x1, x2, x3, x4, x5, x6, o] true).wp P Q a w :=
  wp_region_qlb (l := [x0, x1, x2, x3, x4, x5, x6]) hm hok hB h
theorem wp_mapUpdate_own {H : Type} {P : Program} {w : World} {o : Oper} {a : Act} {K : Act → World → Prop} {Q : Exit → Act → World → Prop}
    (m x v : Operand) (t : TypeId) (hop : o.op = Op.mapUpdate t m x v)
    (k e : TypeId) (Kd : Keyed P k) (ht : P.underlying t = some (.map k e)) (R : Value → Option (DataW H × List MemPlace)) (b n : Nat) (D : DataW H)
    (hm : a.eval m = .map (some b)) (hown : w.ownsMap P k R b n D) (hn : n < maxLen) (key val : Value) (kl : Lit) (hx : a.eval x = key) (hv : a.eval v = val) (hkey : keyOf P k key = some kl)
    (d : DataW H) (ps : List MemPlace) (hval : R val = some (d, ps))
    (hK : ∀ w', w'.ownsMap P k R b (n + 1) (D.put kl d) → w.grownBy w' (some b) → K (a.put o.dst undef) w') : Oper.wp P o a w K Q := by
  obtain ⟨w', hrun, r1, r2⟩ := hown.update Kd ht hn hkey hval
  unfold Oper.wp
  simp [execOp, hop, hm, hx, hv, hrun, Result.andThen]
  exact hK w' r1 r2
end Go.Proofs.Ytbbidgdgcbnanaa
