/- Texts of buttons, joined: Asg, Lastop, WayOf, Total, Only, Fix, Rtot, Rasg, Rcosts. -/
import Derived.Test.YtambhhjbafefgaaQb
/- isAssignment, sum, wayOf. -/
namespace Go.Proofs.Ytambhhjbafefgaa
set_option linter.unusedVariables false
open Go.RowKit

set_option maxHeartbeats 1000000 in
theorem sum_any (a : Option Addr) (n ca : Nat) (xs : List Int) (w : World) (ha : Row w a n (intL xs)) (hn : n ≤ 1000) (hx : ∀ x ∈ xs, -1000000 ≤ x ∧ x ≤ 1000000) :
    Calls Try.prog 61 #[.slice a n ca] w fun e w' => e = .returned (.int .i64 xs.sum) ∧ w' = w := by
  have hl : xs.length = n := by have := ha.1; simpa [intL] using this
  have hb : ∀ k, k ≤ n → -1000000 * (k : Int) ≤ (xs.take k).sum ∧ (xs.take k).sum ≤ 1000000 * (k : Int) := by
    intro k hk
    induction k with
    | zero => simp
    | succ k ih =>
      have := ih (by omega)
      rw [List.take_add_one, List.getElem?_eq_getElem (by omega)]
      have hm := hx xs[k] (List.getElem_mem _)
      simp only [Option.toList_some, List.sum_append, List.sum_cons, List.sum_nil]
      omega
  have Hl := Lib.hid hl
  have Hb := Lib.hid hb
  have Ha := Lib.hid ha
  have Hx := Lib.hid hx
  clear hl hb ha hx
  go_enter Try.func61, Try.ntmps61
  go_wp2
  go_loopw [3, 8] (fun t i wr => ∃ k : Nat, k ≤ n ∧ t = .int .i64 (xs.take k).sum ∧ i = .int .i64 k ∧ wr = w) (fun _ i _ => n - (intOf i).toNat)
  case atStart => exact ⟨0, Nat.zero_le _, rfl, rfl, rfl⟩
  case round =>
    obtain ⟨k, hk, rfl, rfl, rfl⟩ := hrel
    by_cases hlt : k < n
    · have hc : (k : Int) < n := by omega
      obtain ⟨g1, rfl, hg1⟩ := Ha.out.int hlt
      obtain ⟨x, hx⟩ : ∃ x, xs[k]? = some x := ⟨_, List.getElem?_eq_getElem (by have := Hl.out; omega)⟩
      have hb1 := Hb.out k hk
      have hb2 := Hb.out (k + 1) hlt
      rw [List.take_add_one, hx] at hb2
      simp only [Option.toList_some, List.sum_append, List.sum_cons, List.sum_nil, Int.add_zero] at hb2
      have hz : (xs.take (k + 1)).sum = (xs.take k).sum + x := by rw [List.take_add_one, hx]; simp
      rw [List.getD_eq_getElem?_getD, hx] at hg1
      simp only [Option.getD_some] at hg1
      generalize (xs.take k).sum = s at *
      go_wp2
      go_roundw
      case rel => exact ⟨k + 1, by omega, by rw [hz], by go_num, by trivial⟩
      case measure => simp [intOf]; omega
    · obtain rfl : k = n := by omega
      have hc : ¬ (k : Int) < k := by omega
      go_wp2
      go_ret
      exact ⟨ret_int (by rw [List.take_of_length_le (by have := Hl.out; omega)]), rfl⟩

/-- an assignment of n buttons -/
def asgB (xs : List Int) (n : Nat) : Bool := decide (xs.length = n ∧ (∀ x ∈ xs, 0 ≤ x ∧ x < n) ∧ xs.Nodup)
def takA (l : List Int) : Array Value := #[.bool (decide ((0 : Int) ∈ l)), .bool (decide ((1 : Int) ∈ l)), .bool (decide ((2 : Int) ∈ l)), .bool (decide ((3 : Int) ∈ l)), .bool (decide ((4 : Int) ∈ l)), .bool (decide ((5 : Int) ∈ l)), .bool (decide ((6 : Int) ∈ l))]
theorem takA_get (l : List Int) (j : Nat) (hj : j < 7) : (takA l)[j]? = some (.bool (decide ((j : Int) ∈ l))) := by
  rcases lt7 hj with rfl | rfl | rfl | rfl | rfl | rfl | rfl <;> rfl
theorem takA_set (l : List Int) (j : Nat) (hj : j < 7) : (takA l).setIfInBounds j (.bool true) = takA (l ++ [(j : Int)]) := by
  rcases lt7 hj with rfl | rfl | rfl | rfl | rfl | rfl | rfl <;> simp [takA]

set_option maxHeartbeats 4000000 in
theorem isAssignment_any (a : Option Addr) (m n ca : Nat) (xs : List Int) (w : World) (ha : Row w a m (intL xs)) (hn : n ≤ 7) (hm : m ≤ 1000) :
    Calls Try.prog 59 #[.slice a m ca, .int .i64 n] w fun e w' => e = .returned (.bool (asgB xs n)) ∧ Below w.heap.size w w' := by
  have hl : xs.length = m := by have := ha.1; simpa [intL] using this
  have Hl := Lib.hid hl
  have Ha := Lib.hid ha
  clear ha hl
  by_cases hmn : m = n
  · subst hmn
    have hpre : ∀ k, k < m → ∀ x, xs[k]? = some x → asgB xs m = true → (0 ≤ x ∧ x < m) ∧ x ∉ xs.take k := by
      intro k hk x hx h
      unfold asgB at h
      rw [decide_eq_true_eq] at h
      refine ⟨h.2.1 x (List.mem_of_getElem? hx), ?_⟩
      have h2 := h.2.2
      rw [← List.take_append_drop k xs, List.nodup_append] at h2
      intro hm2
      refine h2.2.2 x hm2 x ?_ rfl
      rw [List.drop_eq_getElem_cons (by have := Hl.out; omega)]
      rw [List.getElem?_eq_some_iff] at hx
      obtain ⟨_, hx⟩ := hx
      rw [hx]; exact List.mem_cons_self
    have Hpre := Lib.hid hpre
    clear hpre
    go_enter Try.func59, Try.ntmps59
    go_wp2
    go_loopw [14] (fun i wr => ∃ k : Nat, k ≤ m ∧ i = .int .i64 k ∧ Hid ((∀ x ∈ xs.take k, 0 ≤ x ∧ x < m) ∧ (xs.take k).Nodup) ∧ wr = w.alloc (.cells (takA (xs.take k)) 76)) (fun i _ => m - (intOf i).toNat)
    case atStart => exact ⟨0, Nat.zero_le _, rfl, ⟨by simp, by simp⟩, rfl⟩
    case round =>
      obtain ⟨k, hk, rfl, HP, rfl⟩ := hrel
      by_cases hlt : k < m
      · have hc : (k : Int) < m := by omega
        obtain ⟨x, hx⟩ : ∃ x, xs[k]? = some x := ⟨_, List.getElem?_eq_getElem (by have := Hl.out; omega)⟩
        obtain ⟨g1, rfl, hg1⟩ := (Ha.out.below (below_alloc w (.cells (takA (xs.take k)) 76))).int hlt
        rw [List.getD_eq_getElem?_getD, hx] at hg1
        simp only [Option.getD_some] at hg1
        have hp := Hpre.out k hlt x hx
        have hT : xs.take (k + 1) = xs.take k ++ [x] := by rw [List.take_add_one, hx]; rfl
        obtain ⟨l, hlk⟩ : ∃ l, xs.take k = l := ⟨_, rfl⟩
        rw [hlk] at HP hg1 hp hT ⊢
        have Hp := Lib.hid hp
        have HT := Lib.hid hT
        clear hx hlk hp hT
        by_cases h0 : x < 0
        · go_wp2
          go_ret
          exact ⟨ret_bool (by cases hb : asgB xs m with | false => rfl | true => have := (Hp.out hb).1; omega), below_alloc _ _⟩
        · by_cases h1 : x ≥ m
          · go_wp2
            go_ret
            exact ⟨ret_bool (by cases hb : asgB xs m with | false => rfl | true => have := (Hp.out hb).1; omega), below_alloc _ _⟩
          · obtain ⟨j, rfl⟩ : ∃ j : Nat, x = j := ⟨x.toNat, by omega⟩
            have hj : j < 7 := by omega
            have hcell : (w.alloc (.cells (takA l) 76)).cell? ⟨w.heap.size, j, none⟩ = some (.bool (decide ((j : Int) ∈ l))) := by
              rw [World.cell?_alloc_at _ _ _ _ rfl]; exact takA_get l j hj
            by_cases hin : (j : Int) ∈ l
            · rw [decide_eq_true hin] at hcell
              have Hin := Lib.hid hin
              clear hin
              go_wp2
              go_ret
              exact ⟨ret_bool (by cases hb : asgB xs m with | false => rfl | true => exact absurd Hin.out (Hp.out hb).2), below_alloc _ _⟩
            · rw [decide_eq_false hin] at hcell
              have Hin := Lib.hid hin
              clear hin
              go_wp2
              rw [takA_set _ _ hj]
              go_roundw
              case rel => exact ⟨k + 1, by omega, by go_num, by
                rw [HT.out]
                have := HP.out
                refine ⟨fun y hy => ?_, ?_⟩
                · rcases List.mem_append.1 hy with h | h
                  · exact HP.out.1 y h
                  · rw [List.mem_singleton.1 h]; omega
                · rw [List.nodup_append]; exact ⟨HP.out.2, by simp, fun y hy z hz => by rw [List.mem_singleton.1 hz]; rintro rfl; exact Hin.out hy⟩, by rw [HT.out]⟩
              case measure => simp [intOf]; omega
      · obtain rfl : k = m := by omega
        have hc : ¬ (k : Int) < k := by omega
        go_wp2
        go_ret
        exact ⟨ret_bool (by
          unfold asgB
          rw [decide_eq_true]
          have h := HP.out
          rw [List.take_of_length_le (by have := Hl.out; omega)] at h
          exact ⟨Hl.out, h.1, h.2⟩), below_alloc _ _⟩
  · have h1 : ¬ (m : Int) = n := by omega
    have h2 : ((m : Int) == n) = false := by rw [beq_eq_false_iff_ne]; exact h1
    have h3 : asgB xs n = false := by unfold asgB; rw [decide_eq_false]; intro h; have := Hl.out; omega
    rw [h3]
    go_enter Try.func59, Try.ntmps59
    go_wp2
    go_ret
    exact ⟨rfl, Below.refl _ _⟩

/-- the way of an assignment, so far -/
def wayP (C : List (List Int)) (xs : List Int) : Nat → Way
  | 0 => Way.zero
  | k + 1 => (wayP C xs k).put k (xs.getD k 0) (cost C k (xs.getD k 0).toNat)
theorem wayP_t {C : List (List Int)} {m : Nat} (h : Rect C m) (xs : List Int) : ∀ k : Nat, -1000 * (k : Int) ≤ (wayP C xs k).t ∧ (wayP C xs k).t ≤ 1000 * (k : Int)
  | 0 => by unfold wayP; exact ⟨by show _ ≤ (0 : Int); omega, by show (0 : Int) ≤ _; omega⟩
  | k + 1 => by
    have ih := wayP_t h xs k
    have hc : -1000 ≤ cost C k (xs.getD k 0).toNat ∧ cost C k (xs.getD k 0).toNat ≤ 1000 := getD_bound (h.rowD k) _
    unfold wayP
    rw [put_t]
    omega
theorem frozen8 {w : World} {P : Nat} {x : Way} {t : TypeId} (h : w.heap[P]? = some (.cells (wayA x) t (0, 0))) :
    w.frozen? ⟨P, 0, none⟩ = false ∧ w.frozen? ⟨P, 1, none⟩ = false ∧ w.frozen? ⟨P, 2, none⟩ = false ∧ w.frozen? ⟨P, 3, none⟩ = false ∧ w.frozen? ⟨P, 4, none⟩ = false ∧ w.frozen? ⟨P, 5, none⟩ = false ∧ w.frozen? ⟨P, 6, none⟩ = false ∧ w.frozen? ⟨P, 7, none⟩ = false := by
  have f := fun j => frozen_of_row w P j _ _ h
  exact ⟨f 0, f 1, f 2, f 3, f 4, f 5, f 6, f 7⟩

end Go.Proofs.Ytambhhjbafefgaa

/- A region that draws its order and whose last operation waits for all others: the last one may change what the others read. -/
namespace Go.Proofs.Ytambhhjbafefgaa
set_option linter.unusedVariables false
open Go.RowKit

def lastQ (P : Program) (o : Oper) (Q : Exit → Act → World → Prop) : Exit → Act → World → Prop
  | .normal, a, w => Oper.wp P o a w (Q .normal) Q
  | e, a, w => Q e a w

theorem upon_lastQ {P : Program} {o oi : Oper} {Q : Exit → Act → World → Prop} {a : Act} {w : World} {K : Act → World → Prop} (h : Oper.wp P oi a w K (lastQ P o Q)) : Oper.wp P oi a w K Q := by
  unfold Oper.wp at *
  generalize (execOp a.eval oi).run P w = r at *
  cases r with
  | ok n w' => cases n <;> exact h
  | halt x w' => cases x <;> exact h

theorem push_getD (L : Array Bool) (k : Nat) : (L.push false).getD k false = L.getD k false := by
  simp only [Array.getD_eq_getD_getElem?, Array.getElem?_push]
  split
  · rename_i h; subst h; simp
  · rfl

/-- what pre's operations wait for comes before them; the last one waits for all -/
structure LastOk (md : Region.Mode) (pre : List Oper) (o : Oper) : Prop where
  guard : ∀ p ∈ pre, p.guard = none
  lastGuard : o.guard = none
  before : ∀ k p, pre[k]? = some p → ∀ e ∈ p.after, Region.binds md e = true → e.on < k
  only : ∀ e ∈ o.after, Region.binds md e = true → e.on < pre.length
  all : ∀ k, k < pre.length → ∃ e ∈ o.after, Region.binds md e = true ∧ e.on = k

theorem least {md : Region.Mode} {pre : List Oper} {o : Oper} (h : LastOk md pre o) (L : Array Bool) (hL : L.size = pre.length) (hr : Region.ready md pre.toArray L = []) : ∀ k, k < pre.length → L.getD k false = true := by
  intro k
  induction k using Nat.strongRecOn with
  | ind k ih =>
    intro hk
    cases hc : L.getD k false with
    | true => rfl
    | false =>
      exfalso
      have hm : k ∈ Region.ready md pre.toArray L := mem_ready.2 ⟨by
        rw [← hc]; simp [Array.getD_eq_getD_getElem?, Array.getElem?_eq_getElem (show k < L.size from by omega)], pre[k], by simp [hk], fun e he hb => ih e.on (h.before k pre[k] (by simp [hk]) e he hb) (by have := h.before k pre[k] (by simp [hk]) e he hb; omega)⟩
      rw [hr] at hm
      cases hm

theorem wpAny_last {P : Program} {md : Region.Mode} {pre : List Oper} {o : Oper} {Q : Exit → Act → World → Prop} (h : LastOk md pre o) : ∀ (fuel : Nat) (L : Array Bool) (a : Act) (w : World), L.size = pre.length →
    wpAny P md pre.toArray (lastQ P o Q) fuel L a w → wpAny P md (pre.toArray.push o) Q (fuel + 1) (L.push false) a w := by
  have hlo : (pre.toArray.push o)[pre.length]? = some o := by simp
  have hpo : ∀ k, k < pre.length → (pre.toArray.push o)[k]? = pre.toArray[k]? := fun k hk => by
    rw [Array.getElem?_push_lt (by simpa using hk)]; simp [hk]
  -- the end: all of pre have come up
  have hend : ∀ (fuel : Nat) (L : Array Bool) (a : Act) (w : World), L.size = pre.length → (Region.ready md pre.toArray L = [] → lastQ P o Q .normal a w) →
      (∀ i, i < pre.length → i ∈ Region.ready md pre.toArray L → wpOp P (pre.toArray.push o) Q i (wpAny P md (pre.toArray.push o) Q fuel ((L.push false).setIfInBounds i true)) a w) →
      wpAny P md (pre.toArray.push o) Q (fuel + 1) (L.push false) a w := by
    intro fuel L a w hL hn hs
    have hpre : ∀ i, i < pre.length → i ∈ Region.ready md (pre.toArray.push o) (L.push false) → i ∈ Region.ready md pre.toArray L := by
      intro i hi hm
      obtain ⟨h1, oi, h2, h3⟩ := mem_ready.1 hm
      refine mem_ready.2 ⟨?_, oi, by rw [← hpo i hi]; exact h2, fun e he hb => by rw [← push_getD]; exact h3 e he hb⟩
      rw [← h1]
      simp only [Array.getD_eq_getD_getElem?, Array.getElem?_push]
      rw [if_neg (by omega)]
    have hlast : ∀ i, i ∈ Region.ready md (pre.toArray.push o) (L.push false) → i < pre.length ∨ i = pre.length := by
      intro i hm
      obtain ⟨_, oi, h2, _⟩ := mem_ready.1 hm
      have := (Array.getElem?_eq_some_iff.1 h2).1
      simp at this; omega
    refine ⟨fun hr => ?_, fun i hm => ?_⟩
    · exfalso
      have hr2 : Region.ready md pre.toArray L = [] := by
        refine List.eq_nil_iff_forall_not_mem.2 fun i hi => ?_
        obtain ⟨h1, oi, h2, h3⟩ := mem_ready.1 hi
        have hi2 : i < pre.length := by have := (Array.getElem?_eq_some_iff.1 h2).1; simpa using this
        have : i ∈ Region.ready md (pre.toArray.push o) (L.push false) := mem_ready.2 ⟨by
          rw [← h1]; simp only [Array.getD_eq_getD_getElem?, Array.getElem?_push]; rw [if_neg (by omega)], oi, by rw [hpo i hi2]; exact h2, fun e he hb => by rw [push_getD]; exact h3 e he hb⟩
        rw [hr] at this; cases this
      have hall := least h L hL hr2
      have hm : pre.length ∈ Region.ready md (pre.toArray.push o) (L.push false) := mem_ready.2 ⟨by
        simp only [Array.getD_eq_getD_getElem?, Array.getElem?_push]; rw [if_pos hL.symm]; rfl, o, hlo, fun e he hb => by rw [push_getD]; exact hall _ (h.only e he hb)⟩
      rw [hr] at hm; cases hm
    · rcases hlast i hm with hi | rfl
      · exact hs i hi (hpre i hi hm)
      · obtain ⟨_, oi, h2, h3⟩ := mem_ready.1 hm
        rw [hlo, Option.some.injEq] at h2
        subst h2
        have hall : ∀ k, k < pre.length → L.getD k false = true := fun k hk => by
          obtain ⟨e, he, hb, rfl⟩ := h.all k hk
          rw [← push_getD]; exact h3 e he hb
        have hr2 : Region.ready md pre.toArray L = [] := by
          refine List.eq_nil_iff_forall_not_mem.2 fun i hi => ?_
          obtain ⟨h1, oi, h2, _⟩ := mem_ready.1 hi
          have hi2 : i < pre.length := by have := (Array.getElem?_eq_some_iff.1 h2).1; simpa using this
          have h4 := hall i hi2
          simp [Array.getD_eq_getD_getElem?, Array.getElem?_eq_getElem (show i < L.size from by omega)] at h1 h4
          rw [h1] at h4; cases h4
        have hr3 : Region.ready md (pre.toArray.push o) ((L.push false).setIfInBounds pre.length true) = [] := by
          refine List.eq_nil_iff_forall_not_mem.2 fun i hi => ?_
          obtain ⟨h1, oi, h2, _⟩ := mem_ready.1 hi
          have hi2 : i < pre.length + 1 := by have := (Array.getElem?_eq_some_iff.1 h2).1; simpa using this
          by_cases hiN : i = pre.length
          · subst hiN
            have hz : pre.length < (L.push false).size := by simp [hL]
            simp [Array.getD_eq_getD_getElem?, hL] at h1
          · have h4 := hall i (by omega)
            simp only [Array.getD_eq_getD_getElem?, Array.getElem?_setIfInBounds, Array.getElem?_push] at h1 h4
            rw [if_neg (by omega), if_neg (by omega), Array.getElem?_eq_getElem (show i < L.size from by omega)] at h1
            rw [Array.getElem?_eq_getElem (show i < L.size from by omega)] at h4
            simp only [Option.getD_some] at h1 h4
            rw [h1] at h4; cases h4
        have hq := hn hr2
        unfold wpOp
        rw [hlo]
        simp only [Region.wanted, h.lastGuard]
        rw [if_pos (by trivial)]
        refine .inl (Oper.wp_mono (fun a' w' hQ => ?_) hq)
        cases fuel with
        | zero => exact ⟨hr3, hQ⟩
        | succ fuel => exact ⟨fun _ => hQ, fun i hi => by rw [hr3] at hi; cases hi⟩
  intro fuel
  induction fuel with
  | zero =>
    intro L a w hL hw
    exact hend 0 L a w hL (fun _ => hw.2) (fun i _ hm => by rw [hw.1] at hm; cases hm)
  | succ fuel ih =>
    intro L a w hL hw
    refine hend (fuel + 1) L a w hL hw.1 (fun i hi hm => ?_)
    have hk := hw.2 i hm
    have hset : (L.push false).setIfInBounds i true = (L.setIfInBounds i true).push false := by
      apply Array.toList_inj.1
      simp only [Array.toList_setIfInBounds, Array.toList_push]
      rw [List.set_append_left]
      simpa [hL] using hi
    rw [hset]
    have hpi : pre.toArray[i]? = some pre[i] := by simp [hi]
    unfold wpOp at hk ⊢
    rw [hpo i hi, hpi]
    rw [hpi] at hk
    simp only [Region.wanted, h.guard pre[i] (List.getElem_mem _)] at hk ⊢
    rw [if_pos (by trivial)] at hk ⊢
    rcases hk with hk | hk
    · exact .inl (upon_lastQ (Oper.wp_mono (fun a' w' hh => ih _ a' w' (by simpa using hL) hh) hk))
    · exact .inr ⟨hk.1, hk.2⟩

def lastOkB (md : Region.Mode) (pre : List Oper) (o : Oper) : Bool :=
  pre.all (·.guard.isNone) && o.guard.isNone && (List.range pre.length).all (fun k => (pre[k]?).all (fun p => p.after.all (fun e => !Region.binds md e || decide (e.on < k)))) &&
    o.after.all (fun e => !Region.binds md e || decide (e.on < pre.length)) && (List.range pre.length).all (fun k => o.after.any (fun e => Region.binds md e && e.on == k))
theorem lastOk_of {md : Region.Mode} {pre : List Oper} {o : Oper} (h : lastOkB md pre o = true) : LastOk md pre o := by
  unfold lastOkB at h
  simp only [Bool.and_eq_true, List.all_eq_true, List.mem_range, Array.all_eq_true', Array.any_eq_true', Bool.or_eq_true, Bool.not_eq_true', decide_eq_true_eq, beq_iff_eq] at h
  obtain ⟨⟨⟨⟨h1, h2⟩, h3⟩, h4⟩, h5⟩ := h
  refine ⟨fun p hp => by simpa using h1 p hp, by simpa using h2, fun k p hp e he hb => ?_, fun e he hb => ?_, fun k hk => ?_⟩
  · have := h3 k (List.getElem?_eq_some_iff.1 hp).1
    rw [hp] at this
    simp only [Option.all_some, Array.all_eq_true', Bool.or_eq_true, Bool.not_eq_true', decide_eq_true_eq] at this
    rcases this e he with h | h
    · rw [hb] at h; cases h
    · exact h
  · rcases h4 e he with h | h
    · rw [hb] at h; cases h
    · exact h
  · obtain ⟨e, he, hb, hk⟩ := h5 k hk
    exact ⟨e, he, hb, hk⟩

theorem wp_region_last {P : Program} {pre : List Oper} {o : Oper} {Q : Exit → Act → World → Prop} {S : World → Prop} {id N : Nat} {a : Act} {w : World} (hm : P.follows .mixedOrders = true) (hN : pre.length = N) (hok : lastOkB .any pre o = true) (hS : S w.drew)
    (h : S w.drew → wpAnyH P .any pre.toArray (lastQ P o Q) S N (Array.replicate N false) a w.drew) : (Code.region id (pre.toArray.push o) true).wp P Q a w := by
  subst hN
  refine wp_region_any hm ?_
  have h1 := wpAny_last (lastOk_of hok) pre.length (Array.replicate pre.length false) a w.drew (by simp) (wpAny_of_held _ _ _ _ (h hS))
  have h2 : (Array.replicate pre.length false).push false = Array.replicate (pre.length + 1) false := by rw [Array.replicate_succ]
  rw [h2] at h1
  simpa using h1

theorem wp_region_last13 {P : Program} {x0 x1 x2 x3 x4 x5 x6 x7 x8 x9 x10 x11 o : Oper} {Q : Exit → Act → World → Prop} (S : World → Prop) {id : Nat} {a : Act} {w : World} (hm : P.follows .mixedOrders = true) (hok : lastOkB .any [x0, x1, x2, x3, x4, x5, x6, x7, x8, x9, x10, x11] o = true) (hS : S w.drew)
    (h : S w.drew → wpAnyH P .any #[x0, x1, x2, x3, x4, x5, x6, x7, x8, x9, x10, x11] (lastQ P o Q) S 12 #[false, false, false, false, false, false, false, false, false, false, false, false] a w.drew) : (Code.region id #[x0, x1, x2, x3, x4, x5, x6, x7, x8, x9, x10, x11, o] true).wp P Q a w :=
  wp_region_last (pre := [x0, x1, x2, x3, x4, x5, x6, x7, x8, x9, x10, x11]) hm rfl hok hS h

section
variable {P : Program} {x0 x1 x2 x3 x4 x5 x6 x7 x8 x9 x10 x11 : Oper} {Q : Exit → Act → World → Prop} {md : Region.Mode} {S : World → Prop} {v : Value} {fuel : Nat} {listed : Array Bool} {a : Act} {w : World}
theorem take12_0 (hs : Region.noSelect #[x0, x1, x2, x3, x4, x5, x6, x7, x8, x9, x10, x11] = true) (hf : Region.free md #[x0, x1, x2, x3, x4, x5, x6, x7, x8, x9, x10, x11] listed 0 = true) (hr : (Region.ready md #[x0, x1, x2, x3, x4, x5, x6, x7, x8, x9, x10, x11] listed).contains 0 = true)
    (hQ : ∀ c a w, Q (.panic c) (a.put x0.dst v) w → Q (.panic c) a w) (hy : YieldsIf P #[x0, x1, x2, x3, x4, x5, x6, x7, x8, x9, x10, x11] S x0 v a) (hS : S w)
    (h : wpAnyH P md #[x0, x1, x2, x3, x4, x5, x6, x7, x8, x9, x10, x11] Q S fuel (listed.setIfInBounds 0 true) (a.put x0.dst v) w) : wpAnyH P md #[x0, x1, x2, x3, x4, x5, x6, x7, x8, x9, x10, x11] Q S (fuel + 1) listed a w :=
  wpAnyH_take (i := 0) (oi := x0) rfl hs hf hr hQ hy hS h
theorem take12_1 (hs : Region.noSelect #[x0, x1, x2, x3, x4, x5, x6, x7, x8, x9, x10, x11] = true) (hf : Region.free md #[x0, x1, x2, x3, x4, x5, x6, x7, x8, x9, x10, x11] listed 1 = true) (hr : (Region.ready md #[x0, x1, x2, x3, x4, x5, x6, x7, x8, x9, x10, x11] listed).contains 1 = true)
    (hQ : ∀ c a w, Q (.panic c) (a.put x1.dst v) w → Q (.panic c) a w) (hy : YieldsIf P #[x0, x1, x2, x3, x4, x5, x6, x7, x8, x9, x10, x11] S x1 v a) (hS : S w)
    (h : wpAnyH P md #[x0, x1, x2, x3, x4, x5, x6, x7, x8, x9, x10, x11] Q S fuel (listed.setIfInBounds 1 true) (a.put x1.dst v) w) : wpAnyH P md #[x0, x1, x2, x3, x4, x5, x6, x7, x8, x9, x10, x11] Q S (fuel + 1) listed a w :=
  wpAnyH_take (i := 1) (oi := x1) rfl hs hf hr hQ hy hS h
theorem take12_2 (hs : Region.noSelect #[x0, x1, x2, x3, x4, x5, x6, x7, x8, x9, x10, x11] = true) (hf : Region.free md #[x0, x1, x2, x3, x4, x5, x6, x7, x8, x9, x10, x11] listed 2 = true) (hr : (Region.ready md #[x0, x1, x2, x3, x4, x5, x6, x7, x8, x9, x10, x11] listed).contains 2 = true)
    (hQ : ∀ c a w, Q (.panic c) (a.put x2.dst v) w → Q (.panic c) a w) (hy : YieldsIf P #[x0, x1, x2, x3, x4, x5, x6, x7, x8, x9, x10, x11] S x2 v a) (hS : S w)
    (h : wpAnyH P md #[x0, x1, x2, x3, x4, x5, x6, x7, x8, x9, x10, x11] Q S fuel (listed.setIfInBounds 2 true) (a.put x2.dst v) w) : wpAnyH P md #[x0, x1, x2, x3, x4, x5, x6, x7, x8, x9, x10, x11] Q S (fuel + 1) listed a w :=
  wpAnyH_take (i := 2) (oi := x2) rfl hs hf hr hQ hy hS h
theorem take12_3 (hs : Region.noSelect #[x0, x1, x2, x3, x4, x5, x6, x7, x8, x9, x10, x11] = true) (hf : Region.free md #[x0, x1, x2, x3, x4, x5, x6, x7, x8, x9, x10, x11] listed 3 = true) (hr : (Region.ready md #[x0, x1, x2, x3, x4, x5, x6, x7, x8, x9, x10, x11] listed).contains 3 = true)
    (hQ : ∀ c a w, Q (.panic c) (a.put x3.dst v) w → Q (.panic c) a w) (hy : YieldsIf P #[x0, x1, x2, x3, x4, x5, x6, x7, x8, x9, x10, x11] S x3 v a) (hS : S w)
    (h : wpAnyH P md #[x0, x1, x2, x3, x4, x5, x6, x7, x8, x9, x10, x11] Q S fuel (listed.setIfInBounds 3 true) (a.put x3.dst v) w) : wpAnyH P md #[x0, x1, x2, x3, x4, x5, x6, x7, x8, x9, x10, x11] Q S (fuel + 1) listed a w :=
  wpAnyH_take (i := 3) (oi := x3) rfl hs hf hr hQ hy hS h
theorem take12_4 (hs : Region.noSelect #[x0, x1, x2, x3, x4, x5, x6, x7, x8, x9, x10, x11] = true) (hf : Region.free md #[x0, x1, x2, x3, x4, x5, x6, x7, x8, x9, x10, x11] listed 4 = true) (hr : (Region.ready md #[x0, x1, x2, x3, x4, x5, x6, x7, x8, x9, x10, x11] listed).contains 4 = true)
    (hQ : ∀ c a w, Q (.panic c) (a.put x4.dst v) w → Q (.panic c) a w) (hy : YieldsIf P #[x0, x1, x2, x3, x4, x5, x6, x7, x8, x9, x10, x11] S x4 v a) (hS : S w)
    (h : wpAnyH P md #[x0, x1, x2, x3, x4, x5, x6, x7, x8, x9, x10, x11] Q S fuel (listed.setIfInBounds 4 true) (a.put x4.dst v) w) : wpAnyH P md #[x0, x1, x2, x3, x4, x5, x6, x7, x8, x9, x10, x11] Q S (fuel + 1) listed a w :=
  wpAnyH_take (i := 4) (oi := x4) rfl hs hf hr hQ hy hS h
theorem take12_5 (hs : Region.noSelect #[x0, x1, x2, x3, x4, x5, x6, x7, x8, x9, x10, x11] = true) (hf : Region.free md #[x0, x1, x2, x3, x4, x5, x6, x7, x8, x9, x10, x11] listed 5 = true) (hr : (Region.ready md #[x0, x1, x2, x3, x4, x5, x6, x7, x8, x9, x10, x11] listed).contains 5 = true)
    (hQ : ∀ c a w, Q (.panic c) (a.put x5.dst v) w → Q (.panic c) a w) (hy : YieldsIf P #[x0, x1, x2, x3, x4, x5, x6, x7, x8, x9, x10, x11] S x5 v a) (hS : S w)
    (h : wpAnyH P md #[x0, x1, x2, x3, x4, x5, x6, x7, x8, x9, x10, x11] Q S fuel (listed.setIfInBounds 5 true) (a.put x5.dst v) w) : wpAnyH P md #[x0, x1, x2, x3, x4, x5, x6, x7, x8, x9, x10, x11] Q S (fuel + 1) listed a w :=
  wpAnyH_take (i := 5) (oi := x5) rfl hs hf hr hQ hy hS h
theorem take12_6 (hs : Region.noSelect #[x0, x1, x2, x3, x4, x5, x6, x7, x8, x9, x10, x11] = true) (hf : Region.free md #[x0, x1, x2, x3, x4, x5, x6, x7, x8, x9, x10, x11] listed 6 = true) (hr : (Region.ready md #[x0, x1, x2, x3, x4, x5, x6, x7, x8, x9, x10, x11] listed).contains 6 = true)
    (hQ : ∀ c a w, Q (.panic c) (a.put x6.dst v) w → Q (.panic c) a w) (hy : YieldsIf P #[x0, x1, x2, x3, x4, x5, x6, x7, x8, x9, x10, x11] S x6 v a) (hS : S w)
    (h : wpAnyH P md #[x0, x1, x2, x3, x4, x5, x6, x7, x8, x9, x10, x11] Q S fuel (listed.setIfInBounds 6 true) (a.put x6.dst v) w) : wpAnyH P md #[x0, x1, x2, x3, x4, x5, x6, x7, x8, x9, x10, x11] Q S (fuel + 1) listed a w :=
  wpAnyH_take (i := 6) (oi := x6) rfl hs hf hr hQ hy hS h
theorem take12_7 (hs : Region.noSelect #[x0, x1, x2, x3, x4, x5, x6, x7, x8, x9, x10, x11] = true) (hf : Region.free md #[x0, x1, x2, x3, x4, x5, x6, x7, x8, x9, x10, x11] listed 7 = true) (hr : (Region.ready md #[x0, x1, x2, x3, x4, x5, x6, x7, x8, x9, x10, x11] listed).contains 7 = true)
    (hQ : ∀ c a w, Q (.panic c) (a.put x7.dst v) w → Q (.panic c) a w) (hy : YieldsIf P #[x0, x1, x2, x3, x4, x5, x6, x7, x8, x9, x10, x11] S x7 v a) (hS : S w)
    (h : wpAnyH P md #[x0, x1, x2, x3, x4, x5, x6, x7, x8, x9, x10, x11] Q S fuel (listed.setIfInBounds 7 true) (a.put x7.dst v) w) : wpAnyH P md #[x0, x1, x2, x3, x4, x5, x6, x7, x8, x9, x10, x11] Q S (fuel + 1) listed a w :=
  wpAnyH_take (i := 7) (oi := x7) rfl hs hf hr hQ hy hS h
theorem take12_8 (hs : Region.noSelect #[x0, x1, x2, x3, x4, x5, x6, x7, x8, x9, x10, x11] = true) (hf : Region.free md #[x0, x1, x2, x3, x4, x5, x6, x7, x8, x9, x10, x11] listed 8 = true) (hr : (Region.ready md #[x0, x1, x2, x3, x4, x5, x6, x7, x8, x9, x10, x11] listed).contains 8 = true)
    (hQ : ∀ c a w, Q (.panic c) (a.put x8.dst v) w → Q (.panic c) a w) (hy : YieldsIf P #[x0, x1, x2, x3, x4, x5, x6, x7, x8, x9, x10, x11] S x8 v a) (hS : S w)
    (h : wpAnyH P md #[x0, x1, x2, x3, x4, x5, x6, x7, x8, x9, x10, x11] Q S fuel (listed.setIfInBounds 8 true) (a.put x8.dst v) w) : wpAnyH P md #[x0, x1, x2, x3, x4, x5, x6, x7, x8, x9, x10, x11] Q S (fuel + 1) listed a w :=
  wpAnyH_take (i := 8) (oi := x8) rfl hs hf hr hQ hy hS h
theorem take12_9 (hs : Region.noSelect #[x0, x1, x2, x3, x4, x5, x6, x7, x8, x9, x10, x11] = true) (hf : Region.free md #[x0, x1, x2, x3, x4, x5, x6, x7, x8, x9, x10, x11] listed 9 = true) (hr : (Region.ready md #[x0, x1, x2, x3, x4, x5, x6, x7, x8, x9, x10, x11] listed).contains 9 = true)
    (hQ : ∀ c a w, Q (.panic c) (a.put x9.dst v) w → Q (.panic c) a w) (hy : YieldsIf P #[x0, x1, x2, x3, x4, x5, x6, x7, x8, x9, x10, x11] S x9 v a) (hS : S w)
    (h : wpAnyH P md #[x0, x1, x2, x3, x4, x5, x6, x7, x8, x9, x10, x11] Q S fuel (listed.setIfInBounds 9 true) (a.put x9.dst v) w) : wpAnyH P md #[x0, x1, x2, x3, x4, x5, x6, x7, x8, x9, x10, x11] Q S (fuel + 1) listed a w :=
  wpAnyH_take (i := 9) (oi := x9) rfl hs hf hr hQ hy hS h
theorem take12_10 (hs : Region.noSelect #[x0, x1, x2, x3, x4, x5, x6, x7, x8, x9, x10, x11] = true) (hf : Region.free md #[x0, x1, x2, x3, x4, x5, x6, x7, x8, x9, x10, x11] listed 10 = true) (hr : (Region.ready md #[x0, x1, x2, x3, x4, x5, x6, x7, x8, x9, x10, x11] listed).contains 10 = true)
    (hQ : ∀ c a w, Q (.panic c) (a.put x10.dst v) w → Q (.panic c) a w) (hy : YieldsIf P #[x0, x1, x2, x3, x4, x5, x6, x7, x8, x9, x10, x11] S x10 v a) (hS : S w)
    (h : wpAnyH P md #[x0, x1, x2, x3, x4, x5, x6, x7, x8, x9, x10, x11] Q S fuel (listed.setIfInBounds 10 true) (a.put x10.dst v) w) : wpAnyH P md #[x0, x1, x2, x3, x4, x5, x6, x7, x8, x9, x10, x11] Q S (fuel + 1) listed a w :=
  wpAnyH_take (i := 10) (oi := x10) rfl hs hf hr hQ hy hS h
theorem turn12_11 (hr : Region.ready md #[x0, x1, x2, x3, x4, x5, x6, x7, x8, x9, x10, x11] listed = [11])
    (h : ∀ K' : Act → World → Prop, Shut (∀ a w, S w → (S w → wpAnyH P md #[x0, x1, x2, x3, x4, x5, x6, x7, x8, x9, x10, x11] Q S fuel (listed.setIfInBounds 11 true) a w) → K' a w) → if Region.wanted x11 (yielded #[x0, x1, x2, x3, x4, x5, x6, x7, x8, x9, x10, x11] a.tmps) = true then Oper.wp P x11 a w K' Q else K' (a.put x11.dst undef) w) :
    wpAnyH P md #[x0, x1, x2, x3, x4, x5, x6, x7, x8, x9, x10, x11] Q S (fuel + 1) listed a w :=
  wpAnyH_ready hr (by simp) (AllReadyH.cons (o := x11) rfl h AllReadyH.nil)
end
end Go.Proofs.Ytambhhjbafefgaa

/- The way of an assignment. -/
namespace Go.Proofs.Ytambhhjbafefgaa
set_option linter.unusedVariables false
open Go.RowKit

set_option maxRecDepth 100000 in
set_option maxHeartbeats 8000000 in
theorem wayOf_any (C : List (List Int)) (a a2 : Option Addr) (cap n ca : Nat) (xs : List Int) (w : World) (hR : Rect C n) (hn : C.length = n) (hx : ∀ x ∈ xs, 0 ≤ x ∧ x < n) (h : Tbl w a C) (ha : Row w a2 n (intL xs)) :
    Calls Try.prog 62 #[.slice a C.length cap, .slice a2 n ca] w fun e w' => e = .returned (wayV (wayP C xs n)) ∧ Below w.heap.size w w' := by
  have hl : xs.length = n := by have := ha.1; simpa [intL] using this
  have hn7 := hR.m7
  rw [hn]
  have HR := Lib.hid hR
  have HN := Lib.hid hn
  have Hx := Lib.hid hx
  have HC := Lib.hid h
  have Ha := Lib.hid ha
  have Hl := Lib.hid hl
  clear hR hn hx h ha hl
  obtain ⟨w0, hw0⟩ : ∃ w0, (w.alloc (.cells (wayA Way.zero) 70)).alloc (.cells (wayA Way.zero) 70) = w0 := ⟨_, rfl⟩
  have hb0 : Below w.heap.size w w0 := by rw [← hw0]; exact b_next (below_alloc _ _) (below_alloc _ _)
  have hz0 : w0.heap[w.heap.size]? = some (.cells (wayA Way.zero) 70 (0, 0)) := by
    rw [← hw0]; exact ((below_alloc _ _).block _ (by simp)).trans (heap_alloc_new _ _)
  have hz1 : w0.heap[w.heap.size + 1]? = some (.cells (wayA Way.zero) 70 (0, 0)) := by
    rw [← hw0]; have := heap_alloc_new (w.alloc (.cells (wayA Way.zero) 70)) (.cells (wayA Way.zero) 70); simpa using this
  have HW0 := Lib.hid hw0
  have HB0 := Lib.hid hb0
  have HZ0 := Lib.hid hz0
  have HZ1 := Lib.hid hz1
  clear hw0 hb0 hz0 hz1
  go_enter Try.func62, Try.ntmps62
  go_wp2
  have hw1 := HW0.out
  unfold wayA Way.zero at hw1
  simp only at hw1
  rw [hw1]
  clear hw1
  go_loopw [6, 7, 10] (fun _ _ i wr => ∃ k : Nat, k ≤ n ∧ i = .int .i64 k ∧ Hid (Below w.heap.size w wr) ∧ Hid (w.heap.size + 1 < wr.heap.size) ∧ Hid (wr.heap[w.heap.size]? = some (.cells (wayA Way.zero) 70 (0, 0))) ∧ Hid (wr.heap[w.heap.size + 1]? = some (.cells (wayA (wayP C xs k)) 70 (0, 0)))) (fun _ _ i _ => n - (intOf i).toNat)
  case atStart => exact ⟨0, Nat.zero_le _, rfl, HB0.out, by unfold Hid; rw [← HW0.out]; simp, HZ0.out, HZ1.out⟩
  case round =>
    obtain ⟨k, hk, rfl, HB, HS, HZ, HY⟩ := hrel
    by_cases hlt : k < n
    · have hc : (k : Int) < n := by omega
      obtain ⟨x, hxk⟩ : ∃ x, xs[k]? = some x := ⟨_, List.getElem?_eq_getElem (by have := Hl.out; omega)⟩
      obtain ⟨j, rfl⟩ : ∃ j : Nat, x = j := ⟨x.toNat, by have := Hx.out x (List.mem_of_getElem? hxk); omega⟩
      have hj := Hx.out j (List.mem_of_getElem? hxk)
      obtain ⟨g1, rfl, hg1⟩ := (Ha.out.below HB.out).int hlt
      have hgx : xs.getD k 0 = j := by rw [List.getD_eq_getElem?_getD, hxk]; rfl
      rw [hgx] at hg1
      obtain ⟨row, hrow⟩ : ∃ row, C[k]? = some row := ⟨_, List.getElem?_eq_getElem (by have := HN.out; omega)⟩
      obtain ⟨g, ra, rc, rfl, hg, c1, _, R1⟩ := (HC.out.below HB.out).row hrow
      have hrl : row.length = n := HR.out.len row (List.mem_of_getElem? hrow)
      rw [hrl] at c1 R1
      obtain ⟨g2, rfl, c2⟩ := R1.int (show j < n from by omega)
      obtain ⟨c, hcv⟩ : ∃ c, row.getD j 0 = c := ⟨_, rfl⟩
      have hcc : -1000 ≤ c ∧ c ≤ 1000 := by rw [← hcv]; exact getD_bound (HR.out.cost row (List.mem_of_getElem? hrow)) j
      rw [hcv] at c2
      obtain ⟨y, hy⟩ : ∃ y, wayP C xs k = y := ⟨_, rfl⟩
      have hyt := wayP_t HR.out xs k
      rw [hy] at hyt HY
      obtain ⟨z, hz⟩ : ∃ z, y.put k j c = z := ⟨_, rfl⟩
      have hnext : wayP C xs (k + 1) = z := by
        unfold wayP
        rw [hy, hgx, ← hz, ← hcv]
        unfold cost
        rw [List.getD_eq_getElem?_getD (l := C), hrow]
        rfl
      have hwith := fun w' => with_any y k (by omega) j c w' (by omega) (by omega)
      rw [hz] at hwith
      unfold wayV at hwith
      have HWi := Lib.hid hwith
      have Hn := Lib.hid hnext
      clear hwith hnext hz hy hcv hrow hxk hgx hrl
      obtain ⟨s0, s1, s2, s3, s4, s5, s6, s7⟩ := at8_lit HY.out
      have hjc : (j : Int) < n := hj.2
      have HC1 : Hid (g < wr.heap.size ∧ wr.cell? ⟨g, k, none⟩ = some (.slice (some ⟨g2, 0, none⟩) n rc)) := ⟨hg, c1⟩
      have HC2 : Hid (g2 < wr.heap.size ∧ wr.cell? ⟨g2, j, none⟩ = some (.int .i64 c)) := ⟨World.block_lt_of_cell? _ _ c2, c2⟩
      clear R1 hg
      go_wp2
      refine wp_region_last13 (fun w' => (w'.cell? ⟨w.heap.size + 1, 0, none⟩ = some (.int .i64 y.a) ∧ w'.cell? ⟨w.heap.size + 1, 1, none⟩ = some (.int .i64 y.b) ∧ w'.cell? ⟨w.heap.size + 1, 2, none⟩ = some (.int .i64 y.c) ∧ w'.cell? ⟨w.heap.size + 1, 3, none⟩ = some (.int .i64 y.d) ∧ w'.cell? ⟨w.heap.size + 1, 4, none⟩ = some (.int .i64 y.e) ∧ w'.cell? ⟨w.heap.size + 1, 5, none⟩ = some (.int .i64 y.f) ∧ w'.cell? ⟨w.heap.size + 1, 6, none⟩ = some (.int .i64 y.g) ∧ w'.cell? ⟨w.heap.size + 1, 7, none⟩ = some (.int .i64 y.t)) ∧ w'.cell? ⟨g, k, none⟩ = some (.slice (some ⟨g2, 0, none⟩) n rc) ∧ w'.cell? ⟨g2, j, none⟩ = some (.int .i64 c)) (by kernel_rfl) (by kernel_rfl) ⟨⟨s0, s1, s2, s3, s4, s5, s6, s7⟩, c1, c2⟩ (fun hHeld => ?_)
      refine take12_0 (v := ?_) (by kernel_rfl) (by kernel_rfl) (by kernel_rfl) (fun _ _ _ h => h) (Or.inl ⟨by rfl, ?_⟩) (by assumption) ?_
      rotate_left
      · intro w' hSw; (try dsimp only at hSw); go_simp; try with_reducible rfl
      (try simp only [Act.put, List.setIfInBounds_toArray, List.set_cons_zero, List.set_cons_succ])
      refine take12_1 (v := ?_) (by kernel_rfl) (by kernel_rfl) (by kernel_rfl) (fun _ _ _ h => h) (Or.inl ⟨by rfl, ?_⟩) (by assumption) ?_
      rotate_left
      · intro w' hSw; (try dsimp only at hSw); go_simp; try with_reducible rfl
      (try simp only [Act.put, List.setIfInBounds_toArray, List.set_cons_zero, List.set_cons_succ])
      refine take12_2 (v := ?_) (by kernel_rfl) (by kernel_rfl) (by kernel_rfl) (fun _ _ _ h => h) (Or.inl ⟨by rfl, ?_⟩) (by assumption) ?_
      rotate_left
      · intro w' hSw; (try dsimp only at hSw); go_simp; try with_reducible rfl
      (try simp only [Act.put, List.setIfInBounds_toArray, List.set_cons_zero, List.set_cons_succ])
      refine take12_3 (v := ?_) (by kernel_rfl) (by kernel_rfl) (by kernel_rfl) (fun _ _ _ h => h) (Or.inl ⟨by rfl, ?_⟩) (by assumption) ?_
      rotate_left
      · intro w' hSw; (try dsimp only at hSw); go_simp; try with_reducible rfl
      (try simp only [Act.put, List.setIfInBounds_toArray, List.set_cons_zero, List.set_cons_succ])
      refine take12_4 (v := ?_) (by kernel_rfl) (by kernel_rfl) (by kernel_rfl) (fun _ _ _ h => h) (Or.inl ⟨by rfl, ?_⟩) (by assumption) ?_
      rotate_left
      · intro w' hSw; (try dsimp only at hSw); go_simp; try with_reducible rfl
      (try simp only [Act.put, List.setIfInBounds_toArray, List.set_cons_zero, List.set_cons_succ])
      refine take12_5 (v := ?_) (by kernel_rfl) (by kernel_rfl) (by kernel_rfl) (fun _ _ _ h => h) (Or.inl ⟨by rfl, ?_⟩) (by assumption) ?_
      rotate_left
      · intro w' hSw; (try dsimp only at hSw); go_simp; try with_reducible rfl
      (try simp only [Act.put, List.setIfInBounds_toArray, List.set_cons_zero, List.set_cons_succ])
      refine take12_6 (v := ?_) (by kernel_rfl) (by kernel_rfl) (by kernel_rfl) (fun _ _ _ h => h) (Or.inl ⟨by rfl, ?_⟩) (by assumption) ?_
      rotate_left
      · intro w' hSw; (try dsimp only at hSw); go_simp; try with_reducible rfl
      (try simp only [Act.put, List.setIfInBounds_toArray, List.set_cons_zero, List.set_cons_succ])
      refine take12_7 (v := ?_) (by kernel_rfl) (by kernel_rfl) (by kernel_rfl) (fun _ _ _ h => h) (Or.inl ⟨by rfl, ?_⟩) (by assumption) ?_
      rotate_left
      · intro w' hSw; (try dsimp only at hSw); go_simp; try with_reducible rfl
      (try simp only [Act.put, List.setIfInBounds_toArray, List.set_cons_zero, List.set_cons_succ])
      refine take12_8 (v := ?_) (by kernel_rfl) (by kernel_rfl) (by kernel_rfl) (fun _ _ _ h => h) (Or.inl ⟨by rfl, ?_⟩) (by assumption) ?_
      rotate_left
      · intro w' hSw; (try dsimp only at hSw); go_simp; try with_reducible rfl
      (try simp only [Act.put, List.setIfInBounds_toArray, List.set_cons_zero, List.set_cons_succ])
      refine take12_9 (v := ?_) (by kernel_rfl) (by kernel_rfl) (by kernel_rfl) (fun _ _ _ h => h) (Or.inl ⟨by rfl, ?_⟩) (by assumption) ?_
      rotate_left
      · intro w' hSw; (try dsimp only at hSw); go_simp; try with_reducible rfl
      (try simp only [Act.put, List.setIfInBounds_toArray, List.set_cons_zero, List.set_cons_succ])
      refine take12_10 (v := ?_) (by kernel_rfl) (by kernel_rfl) (by kernel_rfl) (fun _ _ _ h => h) (Or.inl ⟨by rfl, ?_⟩) (by assumption) ?_
      rotate_left
      · intro w' hSw; (try dsimp only at hSw); go_simp; try with_reducible rfl
      (try simp only [Act.put, List.setIfInBounds_toArray, List.set_cons_zero, List.set_cons_succ])
      refine turn12_11 (by kernel_rfl) (fun K hK => ?_)
      go_simp
      refine (HWi.out _).mono ?_
      rintro e w1 ⟨rfl, b1⟩
      have b2 := undrew b1
      have hq : w1.heap[w.heap.size + 1]? = some (.cells (wayA y) 70 (0, 0)) := (b2.block _ HS.out).trans HY.out
      refine hK.out _ _ ⟨at8_lit hq, (b2.cell (p := ⟨g, k, none⟩) HC1.out.1).trans HC1.out.2, (b2.cell (p := ⟨g2, j, none⟩) HC2.out.1).trans HC2.out.2⟩ (fun hHeld2 => ?_)
      clear hK K
      refine wpAnyH_done (by kernel_rfl) ?_ _
      show Oper.wp _ _ _ _ _ _
      (try simp only [Act.put, List.setIfInBounds_toArray, List.set_cons_zero, List.set_cons_succ])
      refine wp_store_row 70 (.tmp 5) (.tmp 26) rfl (w.heap.size + 1) (wayA z) rfl rfl 70 (wayA y) hq info_way rfl (wayA_one z) ?_
      have hbn := b_next HB.out b2
      have HB2 := Lib.hid (below_setRow hbn (show w.heap.size ≤ w.heap.size + 1 by omega) (wayA z))
      have HS2 : Hid (w.heap.size + 1 < (w1.setRow (w.heap.size + 1) (wayA z)).heap.size) := by
        unfold Hid; rw [setRow_size]; exact Nat.lt_of_lt_of_le HS.out b2.size
      have HZ2 : Hid ((w1.setRow (w.heap.size + 1) (wayA z)).heap[w.heap.size]? = some (.cells (wayA Way.zero) 70 (0, 0))) := by
        unfold Hid; rw [setRow_other _ _ _ _ (by omega)]; exact (b2.block _ (Nat.lt_of_succ_lt HS.out)).trans HZ.out
      have HQ2 := Lib.hid (setRow_heap _ _ _ (wayA z) _ _ hq)
      generalize w1.setRow (w.heap.size + 1) (wayA z) = w2 at *
      clear hq hbn b1 b2 hHeld2
      go_wp2_with fail
      go_roundw
      case rel => exact ⟨k + 1, by omega, by go_num, HB2.out, HS2.out, HZ2.out, by rw [Hn.out]; exact HQ2.out⟩
      case measure => simp [intOf]; omega
    · obtain rfl : k = n := by omega
      have hc : ¬ (k : Int) < k := by omega
      obtain ⟨y, hy⟩ : ∃ y, wayP C xs k = y := ⟨_, rfl⟩
      rw [hy] at HY
      have HYY := Lib.hid hy
      obtain ⟨s0, s1, s2, s3, s4, s5, s6, s7⟩ := at8_lit HY.out
      clear hy
      go_wp2_with (refine wpList_store_row (o := ⟨none, .store 70 (.tmp 4) (.tmp 28), _, _, _, _⟩) rfl 70 (.tmp 4) (.tmp 28) rfl w.heap.size (wayA y) rfl rfl 70 (wayA Way.zero) HZ.out info_way rfl (wayA_one y) ?_)
      exact bodyPost_ret (v := wayV y) (results_cell_row rfl _ _ w.heap.size 70 (wayA y) (0, 0) _ rfl (setRow_heap _ _ _ _ _ _ HZ.out) Try.underlying70 rfl info_way) rfl ⟨by rw [HYY.out], below_setRow HB.out (Nat.le_refl _) _⟩
end Go.Proofs.Ytambhhjbafefgaa

/- Total. -/
namespace Go.Proofs.Ytambhhjbafefgaa
set_option linter.unusedVariables false
open Go.RowKit

/-- what Total answers -/
def totR (C : List (List Int)) (xs : List Int) : Int × Int := if costsB C && asgB xs C.length then ((wayP C xs C.length).t, 0) else (0, 2)

set_option maxRecDepth 100000 in
set_option maxHeartbeats 4000000 in
theorem Total_any (C : List (List Int)) (xs : List Int) (a a2 : Option Addr) (cap m ca : Nat) (w : World) (h : Tbl w a C) (hn : C.length ≤ 1000) (hr : ∀ row ∈ C, row.length ≤ 1000) (ha : Row w a2 m (intL xs)) (hm : m ≤ 1000) :
    Calls Try.prog 27 #[.slice a C.length cap, .slice a2 m ca] w fun e w' => e = .returned (.tuple #[.int .i64 (totR C xs).1, .int .i64 (totR C xs).2]) ∧ Below w.heap.size w w' := by
  have hC := fun w' h => isCosts_any a cap C w' h hn hr
  have HC := Lib.hid hC
  have H := Lib.hid h
  have Ha := Lib.hid ha
  have hl : xs.length = m := by have := ha.1; simpa [intL] using this
  cases hw : costsB C with
  | false =>
    have hR : totR C xs = (0, 2) := by unfold totR; rw [hw]; rfl
    rw [hR]
    have HW := Lib.hid hw
    clear hw hR h hC ha hl
    go_enter Try.func27, Try.ntmps27
    go_wp2_with (go_at_call 53; refine (HC.out _ H.out).mono ?_; rintro e w' ⟨rfl, rfl⟩; rw [HW.out])
    go_ret2
    exact ⟨rfl, Below.refl _ _⟩
  | true =>
    obtain ⟨hRc, hp⟩ := Rect.of_costs hw
    have HW := Lib.hid hw
    have HRc := Lib.hid hRc
    cases has : asgB xs C.length with
    | false =>
      have hR : totR C xs = (0, 2) := by unfold totR; rw [hw, has]; rfl
      rw [hR]
      have hA := fun w' h => isAssignment_any a2 m C.length ca xs w' h hRc.n7 hm
      have HA := Lib.hid hA
      have Has := Lib.hid has
      clear hw hR h hC ha hl hA has hRc
      go_enter Try.func27, Try.ntmps27
      go_wp2_with (first
        | (go_at_call 53; refine (HC.out _ H.out).mono ?_; rintro e w' ⟨rfl, rfl⟩; rw [HW.out])
        | (go_at_call 59; refine (HA.out _ Ha.out).mono ?_; rintro e w1 ⟨rfl, b1⟩; rw [Has.out]))
      go_ret2
      exact ⟨rfl, b1⟩
    | true =>
      have hA := fun w' h => isAssignment_any a2 m C.length ca xs w' h hRc.n7 hm
      have hx := has
      unfold asgB at hx
      rw [decide_eq_true_eq] at hx
      obtain ⟨y, hy⟩ : ∃ y, wayP C xs C.length = y := ⟨_, rfl⟩
      obtain rfl : C.length = m := by omega
      have hWy := fun w' h h2 => wayOf_any C a a2 cap C.length ca xs w' hRc rfl hx.2.1 h h2
      rw [hy] at hWy
      unfold wayV at hWy
      have hR : totR C xs = (y.t, 0) := by unfold totR; rw [hw, has, hy]; rfl
      rw [hR]
      have HA := Lib.hid hA
      have Has := Lib.hid has
      have HWy := Lib.hid hWy
      clear hw hR h hC ha hl hA has hRc hWy hy hx
      have hfl := field_t
      go_enter Try.func27, Try.ntmps27
      go_wp2_with (first
        | (go_at_call 53; refine (HC.out _ H.out).mono ?_; rintro e w' ⟨rfl, rfl⟩; rw [HW.out])
        | (go_at_call 59; refine (HA.out _ Ha.out).mono ?_; rintro e w1 ⟨rfl, b1⟩; rw [Has.out]))
      go_wp2_with (go_at_call 62; refine (HWy.out _ (H.out.below b1) (Ha.out.below b1)).mono ?_; rintro e w2 ⟨rfl, b2⟩)
      go_ret2
      exact ⟨rfl, b_next b1 b2⟩
end Go.Proofs.Ytambhhjbafefgaa

/- onlyZero. -/
namespace Go.Proofs.Ytambhhjbafefgaa
set_option linter.unusedVariables false
open Go.RowKit

def zeroAt : List Int → Nat → Int → Int
  | [], _, z => z
  | x :: l, k, z => if x = 0 then (if 0 ≤ z then -1 else zeroAt l (k + 1) k) else zeroAt l (k + 1) z
/-- the position of the only 0 -/
def onlyZ (xs : List Int) : Int := zeroAt xs 0 (-1)
theorem zeroAt_drop {xs : List Int} {k : Nat} {x : Int} (h : xs[k]? = some x) (z : Int) : zeroAt (xs.drop k) k z = if x = 0 then (if 0 ≤ z then -1 else zeroAt (xs.drop (k + 1)) (k + 1) k) else zeroAt (xs.drop (k + 1)) (k + 1) z := by
  obtain ⟨hk, he⟩ := List.getElem?_eq_some_iff.1 h
  rw [List.drop_eq_getElem_cons hk, he]
  rfl

set_option maxHeartbeats 1000000 in
theorem onlyZero_any (a : Option Addr) (n ca : Nat) (xs : List Int) (w : World) (ha : Row w a n (intL xs)) (hn : n ≤ 1000) :
    Calls Try.prog 72 #[.slice a n ca] w fun e w' => e = .returned (.int .i64 (onlyZ xs)) ∧ w' = w := by
  have hl : xs.length = n := by have := ha.1; simpa [intL] using this
  obtain ⟨r, hr⟩ : ∃ r, onlyZ xs = r := ⟨_, rfl⟩
  rw [hr]
  have Hl := Lib.hid hl
  have Ha := Lib.hid ha
  have Hr : Hid (zeroAt (xs.drop 0) 0 (-1) = r) := hr
  clear hl ha hr
  go_enter Try.func72, Try.ntmps72
  go_wp2
  go_loopw [3, 4, 5, 8] (fun t _ _ i wr => ∃ (k : Nat) (z : Int), k ≤ n ∧ t = .int .i64 z ∧ i = .int .i64 k ∧ Hid (zeroAt (xs.drop k) k z = r) ∧ wr = w) (fun _ _ _ i _ => n - (intOf i).toNat)
  case atStart => exact ⟨0, -1, Nat.zero_le _, rfl, rfl, Hr, rfl⟩
  case round =>
    obtain ⟨k, z, hk, rfl, rfl, HP, rfl⟩ := hrel
    by_cases hlt : k < n
    · have hc : (k : Int) < n := by omega
      obtain ⟨x, hx⟩ : ∃ x, xs[k]? = some x := ⟨_, List.getElem?_eq_getElem (by have := Hl.out; omega)⟩
      obtain ⟨g1, rfl, hg1⟩ := Ha.out.int hlt
      rw [List.getD_eq_getElem?_getD, hx] at hg1
      simp only [Option.getD_some] at hg1
      have hz := zeroAt_drop hx z
      rw [HP.out] at hz
      clear hx
      by_cases hx0 : x = 0
      · subst hx0
        rw [if_pos rfl] at hz
        by_cases hz0 : z ≥ 0
        · rw [if_pos hz0] at hz
          have Hz := Lib.hid hz
          clear hz
          go_wp2
          go_ret
          exact ⟨ret_int (by rw [Hz.out]), rfl⟩
        · rw [if_neg hz0] at hz
          have Hz := Lib.hid hz
          clear hz
          go_wp2
          go_roundw
          case rel => exact ⟨k + 1, k, by omega, rfl, by go_num, Hz.out.symm, by trivial⟩
          case measure => simp [intOf]; omega
      · rw [if_neg hx0] at hz
        have Hz := Lib.hid hz
        clear hz
        have h1 : (x == 0) = false := by rw [beq_eq_false_iff_ne]; exact hx0
        have h2 : (x != 0) = true := by simp [hx0]
        go_wp2
        go_roundw
        case rel => exact ⟨k + 1, z, by omega, rfl, by go_num, Hz.out.symm, by trivial⟩
        case measure => simp [intOf]; omega
    · obtain rfl : k = n := by omega
      have hc : ¬ (k : Int) < k := by omega
      have hz := HP.out
      rw [List.drop_of_length_le (by have := Hl.out; omega)] at hz
      have hz2 : z = r := hz
      subst hz2
      clear hz
      go_wp2
      go_ret
      exact ⟨rfl, rfl⟩
end Go.Proofs.Ytambhhjbafefgaa

/- Fixed. -/
namespace Go.Proofs.Ytambhhjbafefgaa
set_option linter.unusedVariables false
open Go.RowKit

/-- what Fixed answers -/
def fixL (C : List (List Int)) : List Int := (slackL C).map onlyZ
def fixR (C : List (List Int)) : List Int × Int := if costsB C then (fixL C, 0) else ([], 2)

set_option maxRecDepth 100000 in
set_option maxHeartbeats 4000000 in
theorem Fixed_any (C : List (List Int)) (a : Option Addr) (cap : Nat) (w : World) (h : Tbl w a C) (hn : C.length ≤ 1000) (hr : ∀ row ∈ C, row.length ≤ 1000) (hcap : C.length ≤ cap) (hcm : cap ≤ maxLen) :
    Calls Try.prog 37 #[.slice a C.length cap] w fun e w' => ∃ v, e = .returned (.tuple #[v, .int .i64 (fixR C).2]) ∧ w'.ownsRow w.heap.size 3 1 v (fixR C).1.length (intL (fixR C).1) ∧ Below w.heap.size w w' := by
  have hC := fun w' h => isCosts_any a cap C w' h hn hr
  have HC := Lib.hid hC
  have H := Lib.hid h
  clear hC
  cases hw : costsB C with
  | false =>
    have hR : fixR C = ([], 2) := by unfold fixR; rw [hw]; rfl
    have HR := Lib.hid hR
    have HW := Lib.hid hw
    clear hw hR h
    go_enter Try.func37, Try.ntmps37
    go_wp2_with (go_at_call 53; refine (HC.out _ H.out).mono ?_; rintro e w' ⟨rfl, rfl⟩; rw [HW.out])
    go_ret2
    exact ⟨_, by rw [HR.out]; rfl, by rw [HR.out]; exact World.ownsRow_nil _ _ _ _, Below.refl _ _⟩
  | true =>
    obtain ⟨hRc, hp⟩ := Rect.of_costs hw
    have hR : fixR C = (fixL C, 0) := by unfold fixR; rw [hw]; rfl
    have hS := fun w' h => slackOf_any C a cap C.length w' hRc rfl hp h hcap hcm
    have HS := Lib.hid hS
    have HR := Lib.hid hR
    have HW := Lib.hid hw
    have HRc := Lib.hid hRc
    clear hw hR h hS hRc
    go_enter Try.func37, Try.ntmps37
    go_wp2_with (first
      | (go_at_call 53; refine (HC.out _ H.out).mono ?_; rintro e w' ⟨rfl, rfl⟩; rw [HW.out]))
    go_wp2_with fail
    refine (HS.out _ H.out).mono ?_
    rintro e w1 ⟨v, rfl, hL, hB⟩
    obtain ⟨av, cv, rfl, _, _, hT⟩ := hL.tbl
    obtain ⟨D, hD⟩ : ∃ D, slackL C = D := ⟨_, rfl⟩
    have hdl : D.length = C.length := by rw [← hD]; simp [slackL]
    have hdr : ∀ row ∈ D, row.length ≤ 7 := by
      intro row hrow
      rw [← hD] at hrow
      have h1 := HRc.out.n7
      simp only [slackL, List.mem_map, List.mem_range] at hrow
      obtain ⟨i, hi, rfl⟩ := hrow
      rw [slackLine_length]; exact h1
    have hfx : fixL C = D.map onlyZ := by rw [← hD]; rfl
    have hn7 := HRc.out.n7
    rw [hD] at hT ⊢
    have HT := Lib.hid hT
    have HDr := Lib.hid hdr
    have HFx := Lib.hid hfx
    have HB := Lib.hid hB
    clear hT hL hdr hfx hB hD
    obtain ⟨m, hm⟩ : ∃ m, D.length = m := ⟨_, rfl⟩
    rw [hm] at hdl ⊢
    have Hm := Lib.hid hm
    clear hm
    obtain ⟨i0, hi, hz0, hz1, hz2⟩ := info_parts info_int
    go_wp2_with fail
    go_loopw [4, 6, 13] (fun v _ i wr => ∃ k : Nat, k ≤ m ∧ i = .int .i64 k ∧ wr.ownsRow w1.heap.size 3 1 v k (intL ((D.take k).map onlyZ)) ∧ Below w1.heap.size w1 wr) (fun _ _ i _ => m - (intOf i).toNat)
    case atStart => exact ⟨0, Nat.zero_le _, rfl, World.ownsRow_nil _ _ _ _, Below.refl _ _⟩
    case round =>
      obtain ⟨k, hk, rfl, hown, hBe⟩ := hrel
      by_cases hlt : k < m
      · have hc : (k : Int) < m := by omega
        obtain ⟨row, hrow⟩ : ∃ row, D[k]? = some row := ⟨_, List.getElem?_eq_getElem (by have := Hm.out; omega)⟩
        obtain ⟨g, ra, rc, rfl, hg, c1, _, R1⟩ := (HT.out.below hBe).row hrow
        have hrl := HDr.out row (List.mem_of_getElem? hrow)
        have hO := fun w' h => onlyZero_any ra row.length rc row w' h (by omega)
        obtain ⟨z, hz⟩ : ∃ z, onlyZ row = z := ⟨_, rfl⟩
        rw [hz] at hO
        have HO := Lib.hid hO
        have hsucc : (D.take (k + 1)).map onlyZ = (D.take k).map onlyZ ++ [z] := by rw [List.take_add_one, hrow, ← hz]; simp
        have HS := Lib.hid hsucc
        have hc3 : Hid (k + 1 ≤ maxLen) := by unfold Hid maxLen; omega
        have hc4 : Hid ((k + 1) * 8 ≤ 140737488355328) := by unfold Hid; omega
        have HA := Lib.hid (hown.alloc (.cells #[.int .i64 z] 3))
        have HBe := Lib.hid hBe
        have Hown := Lib.hid hown
        have HR1 := Lib.hid R1
        clear hO hz hsucc hown hBe R1 hrow hg
        go_wp2_with (first
          | (go_at_call 72; refine (HO.out _ HR1.out).mono ?_; rintro e w2 ⟨rfl, rfl⟩)
          | (at_builtin; refine wpList_append_own _ rfl _ _ 24 rfl w1.heap.size 3 i0 (.int .i64 0) 1 8 Try.underlying24 hi hz0 hz1 hz2 rfl (by decide) _ _ _ rfl HA.out ⟨_, 0, none⟩ 1 1 [.int .i64 z] rfl rfl (cell_one_new _ _ _) (by simp [Value.oneCell']) hc3.out hc4.out (by have := HBe.out.size; simp; omega) ?_; intro v' w5 hown' hgrow _))
        have hB5 := rel_push HBe.out (by have := HBe.out.size; simp; omega) ((Below.refl _ w2).alloc HBe.out.size (.cells #[.int .i64 z] 3)) Hown.out hgrow
        have ho5 : w5.ownsRow w1.heap.size 3 1 v' (k + 1) (intL ((D.take (k + 1)).map onlyZ)) := by
          rw [HS.out]
          unfold intL at hown' ⊢
          rw [List.map_append]; exact hown'
        have HB5 := Lib.hid hB5
        have HO5 := Lib.hid ho5
        clear hown' hgrow hB5 ho5
        go_roundw
        case rel => exact ⟨k + 1, by omega, by go_num, HO5.out, HB5.out⟩
        case measure => simp [intOf]; omega
      · obtain rfl : k = m := by omega
        have hc : ¬ (k : Int) < k := by omega
        go_wp2
        go_ret2
        exact ⟨_, by rw [HR.out]; rfl, by
          rw [HR.out]
          show World.ownsRow _ _ _ _ _ (fixL C).length (intL (fixL C))
          rw [HFx.out, List.length_map, Hm.out]
          rw [List.take_of_length_le (by have := Hm.out; omega)] at hown
          exact own_base hown HB.out.size, b_next HB.out hBe⟩
end Go.Proofs.Ytambhhjbafefgaa

/- The reference's Total. -/
namespace Go.Proofs.Ytambhhjbafefgaa
set_option linter.unusedVariables false
open Go.RowKit

set_option maxRecDepth 100000 in
set_option maxHeartbeats 4000000 in
theorem refTotal_any (C : List (List Int)) (a a2 : Option Addr) (cap n ca : Nat) (xs : List Int) (w : World) (hR : Rect C n) (hn : C.length = n) (hx : ∀ x ∈ xs, 0 ≤ x ∧ x < n) (h : Tbl w a C) (ha : Row w a2 n (intL xs)) :
    Calls Try.prog 29 #[.slice a n cap, .slice a2 n ca] w fun e w' => e = .returned (.int .i64 (wayP C xs n).t) ∧ ∃ q, w' = w.drewN q := by
  have hl : xs.length = n := by have := ha.1; simpa [intL] using this
  have hn7 := hR.m7
  have HR := Lib.hid hR
  have HN := Lib.hid hn
  have Hx := Lib.hid hx
  have HC := Lib.hid h
  have Ha := Lib.hid ha
  have Hl := Lib.hid hl
  clear hR hn hx h ha hl
  go_enter Try.func29, Try.ntmps29
  go_wp2
  go_loopw [5, 6] (fun t i wr => ∃ k q : Nat, k ≤ n ∧ t = .int .i64 (wayP C xs k).t ∧ i = .int .i64 k ∧ wr = w.drewN q) (fun _ i _ => n - (intOf i).toNat)
  case atStart => exact ⟨0, 0, Nat.zero_le _, rfl, rfl, rfl⟩
  case round =>
    obtain ⟨k, q, hk, rfl, rfl, rfl⟩ := hrel
    by_cases hlt : k < n
    · have hc : (k : Int) < n := by omega
      obtain ⟨x, hxk⟩ : ∃ x, xs[k]? = some x := ⟨_, List.getElem?_eq_getElem (by have := Hl.out; omega)⟩
      obtain ⟨j, rfl⟩ : ∃ j : Nat, x = j := ⟨x.toNat, by have := Hx.out x (List.mem_of_getElem? hxk); omega⟩
      have hj := Hx.out j (List.mem_of_getElem? hxk)
      obtain ⟨g1, rfl, hg1⟩ := Ha.out.int hlt
      have hgx : xs.getD k 0 = j := by rw [List.getD_eq_getElem?_getD, hxk]; rfl
      rw [hgx] at hg1
      obtain ⟨row, hrow⟩ : ∃ row, C[k]? = some row := ⟨_, List.getElem?_eq_getElem (by have := HN.out; omega)⟩
      obtain ⟨g, ra, rc, rfl, hg, c1, _, R1⟩ := HC.out.row hrow
      have hrl : row.length = n := HR.out.len row (List.mem_of_getElem? hrow)
      rw [hrl] at c1 R1
      obtain ⟨g2, rfl, c2⟩ := R1.int (show j < n from by omega)
      obtain ⟨c, hcv⟩ : ∃ c, row.getD j 0 = c := ⟨_, rfl⟩
      have hcc : -1000 ≤ c ∧ c ≤ 1000 := by rw [← hcv]; exact getD_bound (HR.out.cost row (List.mem_of_getElem? hrow)) j
      rw [hcv] at c2
      obtain ⟨s, hs⟩ : ∃ s, (wayP C xs k).t = s := ⟨_, rfl⟩
      have hyt := wayP_t HR.out xs k
      rw [hs] at hyt ⊢
      have hnext : (wayP C xs (k + 1)).t = s + c := by
        unfold wayP
        rw [put_t, hs, hgx, ← hcv]
        unfold cost
        rw [List.getD_eq_getElem?_getD (l := C), hrow]
        rfl
      have Hn := Lib.hid hnext
      have hjc : (j : Int) < n := hj.2
      clear hnext hcv hrow hxk hgx hrl R1 hg hs
      go_wp2
      go_quiet (fail)
      go_wp2
      go_roundw
      case rel => exact ⟨k + 1, _, by omega, by rw [Hn.out], by go_num, rfl⟩
      case measure => simp [intOf]; omega
    · obtain rfl : k = n := by omega
      have hc : ¬ (k : Int) < k := by omega
      go_wp2
      go_ret
      exact ⟨rfl, _, rfl⟩
end Go.Proofs.Ytambhhjbafefgaa

/- The reference's Assignment. -/
namespace Go.Proofs.Ytambhhjbafefgaa
set_option linter.unusedVariables false
open Go.RowKit

set_option maxRecDepth 100000 in
set_option maxHeartbeats 4000000 in
theorem refAssignment_any (a : Option Addr) (m n ca : Nat) (xs : List Int) (w : World) (ha : Row w a m (intL xs)) (hn : n ≤ 7) (hm : m ≤ 1000) :
    Calls Try.prog 28 #[.slice a m ca, .int .i64 n] w fun e w' => e = .returned (.bool (asgB xs n)) ∧ ∃ q, w' = w.drewN q := by
  have hl : xs.length = m := by have := ha.1; simpa [intL] using this
  have hpre : ∀ k, k < m → ∀ x, xs[k]? = some x → asgB xs n = true → (0 ≤ x ∧ x < n) ∧ x ∉ xs.take k := by
    intro k hk x hx h
    unfold asgB at h
    rw [decide_eq_true_eq] at h
    refine ⟨h.2.1 x (List.mem_of_getElem? hx), ?_⟩
    have h2 := h.2.2
    rw [← List.take_append_drop k xs, List.nodup_append] at h2
    intro hm2
    refine h2.2.2 x hm2 x ?_ rfl
    rw [List.drop_eq_getElem_cons (by omega)]
    rw [List.getElem?_eq_some_iff] at hx
    obtain ⟨_, hx⟩ := hx
    rw [hx]; exact List.mem_cons_self
  have Hl := Lib.hid hl
  have Ha := Lib.hid ha
  have Hpre := Lib.hid hpre
  clear ha hl hpre
  go_enter Try.func28, Try.ntmps28
  go_wp2
  go_loopw [5, 6] (fun i _ wr => ∃ k q : Nat, k ≤ m ∧ i = .int .i64 k ∧ Hid ((∀ x ∈ xs.take k, 0 ≤ x ∧ x < n) ∧ (xs.take k).Nodup) ∧ wr = w.drewN q) (fun i _ _ => m - (intOf i).toNat)
  case atStart => exact ⟨0, 0, Nat.zero_le _, rfl, ⟨by simp, by simp⟩, rfl⟩
  case round =>
    obtain ⟨k, q, hk, rfl, HP, rfl⟩ := hrel
    by_cases hlt : k < m
    · have hc : (k : Int) < m := by omega
      obtain ⟨x, hx⟩ : ∃ x, xs[k]? = some x := ⟨_, List.getElem?_eq_getElem (by have := Hl.out; omega)⟩
      obtain ⟨g1, rfl, hcell, hg⟩ := Ha.out.2 (by omega)
      have hg1 := hg k (Value.int .i64 x) (by simp [intL, hx])
      have HG := Lib.hid hg
      have hp := Hpre.out k hlt x hx
      have hT : xs.take (k + 1) = xs.take k ++ [x] := by rw [List.take_add_one, hx]; rfl
      have Hp := Lib.hid hp
      have HT := Lib.hid hT
      clear hx hp hT hg
      by_cases h0 : x < 0
      · go_wp2
        go_ret
        exact ⟨ret_bool (by cases hb : asgB xs n with | false => rfl | true => have := (Hp.out hb).1; omega), _, rfl⟩
      · by_cases h1 : x ≥ n
        · go_wp2
          go_ret
          exact ⟨ret_bool (by cases hb : asgB xs n with | false => rfl | true => have := (Hp.out hb).1; omega), _, rfl⟩
        · go_wp2
          go_loopw [6] (fun i wr => ∃ k2 q2 : Nat, k2 ≤ k ∧ i = .int .i64 k2 ∧ Hid (x ∉ xs.take k2) ∧ wr = w.drewN q2) (fun i _ => k - (intOf i).toNat)
          case atStart => exact ⟨0, q, Nat.zero_le _, rfl, by unfold Hid; simp, rfl⟩
          case round =>
            obtain ⟨k2, q2, hk2, rfl, HQ, rfl⟩ := hrel
            by_cases hlt2 : k2 < k
            · have hc2 : (k2 : Int) < k := by omega
              have hc3 : (k2 : Int) < m := by omega
              obtain ⟨y, hy⟩ : ∃ y, xs[k2]? = some y := ⟨_, List.getElem?_eq_getElem (by have := Hl.out; omega)⟩
              have hg2 := HG.out k2 (Value.int .i64 y) (by simp [intL, hy])
              have hym : y ∈ xs.take k := by
                rw [List.mem_iff_getElem?]
                exact ⟨k2, by rw [List.getElem?_take_of_lt hlt2]; exact hy⟩
              have hT2 : xs.take (k2 + 1) = xs.take k2 ++ [y] := by rw [List.take_add_one, hy]; rfl
              have HT2 := Lib.hid hT2
              have HYm := Lib.hid hym
              clear hy hym hT2
              by_cases hxy : y = x
              · subst hxy
                go_wp2
                go_quiet (fail)
                go_wp2
                go_ret
                exact ⟨ret_bool (by cases hb : asgB xs n with | false => rfl | true => exact absurd HYm.out (Hp.out hb).2), _, World.drewN_drewN _ _ _⟩
              · have h2 : (y == x) = false := by simp [hxy]
                have Hxy := Lib.hid hxy
                clear hxy
                go_wp2
                go_quiet (fail)
                go_wp2
                go_roundw
                case rel => exact ⟨k2 + 1, _, by omega, by go_num, by
                  unfold Hid; rw [HT2.out, List.mem_append]
                  rintro (h | h)
                  · exact HQ.out h
                  · exact Hxy.out (List.mem_singleton.1 h).symm, rfl⟩
                case measure => simp [intOf]; omega
            · obtain rfl : k2 = k := by omega
              have hc2 : ¬ (k2 : Int) < k2 := by omega
              go_wp2
              go_roundw
              case rel => exact ⟨k2 + 1, _, by omega, by go_num, by
                rw [HT.out]
                refine ⟨fun y hy => ?_, ?_⟩
                · rcases List.mem_append.1 hy with h | h
                  · exact HP.out.1 y h
                  · rw [List.mem_singleton.1 h]; omega
                · rw [List.nodup_append]; exact ⟨HP.out.2, by simp, fun y hy z hz => by rw [List.mem_singleton.1 hz]; rintro rfl; exact HQ.out hy⟩, rfl⟩
              case measure => simp [intOf]; omega
    · obtain rfl : k = m := by omega
      have hc : ¬ (k : Int) < k := by omega
      have ha : asgB xs n = decide (k = n) := by
        unfold asgB
        have h := HP.out
        rw [List.take_of_length_le (by have := Hl.out; omega)] at h
        rw [Bool.eq_iff_iff, decide_eq_true_eq, decide_eq_true_eq, Hl.out]
        exact ⟨fun k => k.1, fun e => ⟨e, h.1, h.2⟩⟩
      have HA := Lib.hid ha
      clear ha
      by_cases hkn : k = n
      · subst hkn
        go_wp2
        go_ret
        exact ⟨ret_bool (by rw [HA.out]; simp), _, rfl⟩
      · have h1 : ¬ (k : Int) = n := by omega
        have h2 : ((k : Int) == n) = false := by rw [beq_eq_false_iff_ne]; exact h1
        go_wp2
        go_ret
        exact ⟨ret_bool (by rw [HA.out]; simp [hkn]), _, rfl⟩
end Go.Proofs.Ytambhhjbafefgaa

/- The reference's Costs. -/
namespace Go.Proofs.Ytambhhjbafefgaa
set_option linter.unusedVariables false
open Go.RowKit

set_option maxRecDepth 100000 in
set_option maxHeartbeats 4000000 in
theorem refCosts_any (C : List (List Int)) (a : Option Addr) (cap n : Nat) (w : World) (hn : C.length = n) (h : Tbl w a C) (hn1 : n ≤ 1000) (hr : ∀ row ∈ C, row.length ≤ 1000) :
    Calls Try.prog 19 #[.slice a n cap] w fun e w' => e = .returned (.bool (costsB C)) ∧ w' = w := by
  have HN := Lib.hid hn
  have HC := Lib.hid h
  have HR := Lib.hid hr
  clear hn h hr
  by_cases hn7 : n ≤ 7
  · have hbad : ∀ (k : Nat) (row : List Int), C[k]? = some row → rowB n row = false → costsB C = false := by
      intro k row hk hb
      unfold costsB
      rw [Bool.and_eq_false_iff]; right
      rw [List.all_eq_false]
      exact ⟨row, List.mem_of_getElem? hk, by rw [HN.out, hb]; simp⟩
    have HBad := Lib.hid hbad
    clear hbad
    go_enter Try.func19, Try.ntmps19
    go_wp2
    go_loopw [4, 5] (fun i _ wr => ∃ k : Nat, k ≤ n ∧ i = .int .i64 k ∧ Hid (∀ row ∈ C.take k, rowB n row = true) ∧ wr = w) (fun i _ _ => n - (intOf i).toNat)
    case atStart => exact ⟨0, Nat.zero_le _, rfl, by unfold Hid; simp, rfl⟩
    case round =>
      obtain ⟨k, hk, rfl, HP, rfl⟩ := hrel
      by_cases hlt : k < n
      · have hc : (k : Int) < n := by omega
        have hc7 : (n : Int) ≤ 7 := by omega
        obtain ⟨row, hrow⟩ : ∃ row, C[k]? = some row := ⟨_, List.getElem?_eq_getElem (by have := HN.out; omega)⟩
        obtain ⟨g, ra, rc, rfl, hg, c1, _, R1⟩ := HC.out.row hrow
        obtain ⟨l, hrl⟩ : ∃ l, row.length = l := ⟨_, rfl⟩
        have hl1 := HR.out row (List.mem_of_getElem? hrow)
        rw [hrl] at c1 R1 hl1
        have HRl := Lib.hid hrl
        have hT : C.take (k + 1) = C.take k ++ [row] := by rw [List.take_add_one, hrow]; rfl
        have HT := Lib.hid hT
        have hbd := HBad.out k row hrow
        have HBd := Lib.hid hbd
        have HR1 := Lib.hid R1
        clear hrow hT hbd R1 hrl hg
        by_cases hln : l = n
        · subst hln
          go_wp2
          go_loopw [5] (fun i w2 => ∃ j : Nat, j ≤ l ∧ i = .int .i64 j ∧ Hid (∀ x ∈ row.take j, -1000 ≤ x ∧ x ≤ 1000) ∧ w2 = wr) (fun i _ => l - (intOf i).toNat)
          case atStart => exact ⟨0, Nat.zero_le _, rfl, by unfold Hid; simp, rfl⟩
          case round =>
            obtain ⟨j, hj, rfl, HQ, rfl⟩ := hrel
            by_cases hlt2 : j < l
            · have hc2 : (j : Int) < l := by omega
              obtain ⟨x, hx⟩ : ∃ x, row[j]? = some x := ⟨_, List.getElem?_eq_getElem (by have := HRl.out; omega)⟩
              obtain ⟨g2, rfl, c2⟩ := HR1.out.int hlt2
              rw [List.getD_eq_getElem?_getD, hx] at c2
              simp only [Option.getD_some] at c2
              have hT2 : row.take (j + 1) = row.take j ++ [x] := by rw [List.take_add_one, hx]; rfl
              have HT2 := Lib.hid hT2
              have hno : ¬ (-1000 ≤ x ∧ x ≤ 1000) → costsB C = false := fun h => HBd.out (by
                unfold rowB; rw [decide_eq_false]; intro k; exact h (k.2 x (List.mem_of_getElem? hx)))
              have HNo := Lib.hid hno
              clear hx hT2 hno
              by_cases h1 : x < -1000
              · go_wp2
                go_ret
                exact ⟨ret_bool (by rw [HNo.out (by omega)]), rfl⟩
              · by_cases h2 : x > 1000
                · go_wp2
                  go_ret
                  exact ⟨ret_bool (by rw [HNo.out (by omega)]), rfl⟩
                · go_wp2
                  go_roundw
                  case rel => exact ⟨j + 1, by omega, by go_num, by
                    unfold Hid; rw [HT2.out]; intro y hy
                    rcases List.mem_append.1 hy with h | h
                    · exact HQ.out y h
                    · rw [List.mem_singleton.1 h]; omega, by trivial⟩
                  case measure => simp [intOf]; omega
            · obtain rfl : j = l := by omega
              have hc2 : ¬ (j : Int) < j := by omega
              go_wp2
              go_roundw
              case rel => exact ⟨k + 1, by omega, by go_num, by
                unfold Hid; rw [HT.out]; intro r hr
                rcases List.mem_append.1 hr with h | h
                · exact HP.out r h
                · rw [List.mem_singleton.1 h]; unfold rowB; rw [decide_eq_true_eq]
                  have hq := HQ.out
                  rw [List.take_of_length_le (by have := HRl.out; omega)] at hq
                  exact ⟨HRl.out, hq⟩, by trivial⟩
              case measure => simp [intOf]; omega
        · have hne : ¬ (l : Int) = n := by omega
          have h2 : ((l : Int) != n) = true := by rw [bne_iff_ne]; exact hne
          have hfa := HBd.out (by unfold rowB; rw [decide_eq_false]; intro h; have := HRl.out; omega)
          have HFa := Lib.hid hfa
          clear hfa
          go_wp2
          go_ret
          exact ⟨ret_bool (by rw [HFa.out]), rfl⟩
      · obtain rfl : k = n := by omega
        have hc : ¬ (k : Int) < k := by omega
        have hres : costsB C = decide (1 ≤ k) := by
          have h := HP.out
          rw [List.take_of_length_le (by have := HN.out; omega)] at h
          unfold costsB
          rw [HN.out, Bool.eq_iff_iff, Bool.and_eq_true, decide_eq_true_eq, decide_eq_true_eq, List.all_eq_true]
          exact ⟨fun h => h.1.1, fun e => ⟨⟨e, hn7⟩, h⟩⟩
        have HRes := Lib.hid hres
        clear hres
        have hc7 : (k : Int) ≤ 7 := by omega
        by_cases hk1 : 1 ≤ k
        · have h1 : (k : Int) ≥ 1 := by omega
          rw [decide_eq_true hk1] at HRes
          go_wp2
          go_ret
          exact ⟨ret_bool (by rw [HRes.out]), rfl⟩
        · have h1 : ¬ (k : Int) ≥ 1 := by omega
          rw [decide_eq_false hk1] at HRes
          go_wp2
          go_ret
          exact ⟨ret_bool (by rw [HRes.out]), rfl⟩
  · have hf : costsB C = false := by unfold costsB; rw [decide_eq_false (by have := HN.out; omega)]; rfl
    have HF := Lib.hid hf
    clear hf
    have h7 : ¬ (n : Int) ≤ 7 := by omega
    have h1 : (n : Int) ≥ 1 := by omega
    have h0 : (0 : Int) < n := by omega
    go_enter Try.func19, Try.ntmps19
    go_wp2
    go_loopw [4, 5] (fun i _ wr => i = .int .i64 0 ∧ wr = w) (fun _ _ _ => 0)
    case atStart => exact ⟨rfl, rfl⟩
    case round =>
      obtain ⟨rfl, rfl⟩ := hrel
      have h8 : ¬ (n : Int) ≤ 7 := by omega
      go_wp2
      go_ret
      exact ⟨ret_bool (by rw [HF.out]), rfl⟩
end Go.Proofs.Ytambhhjbafefgaa
