/- Texts, joined: Qlast, Wth, Ruf, Same, Perm, Req, Shc, Shf, Rpw. -/
import Derived.Test.YtndbjojjaapeaaaQa
import Derived.Test.YtndbjojjaapeaaaQd
/- A region that draws its order and whose last operation waits for all others: the last one may change what the others read. -/
namespace Go.Proofs.Ytndbjojjaapeaaa
set_option linter.unusedVariables false
open Go.RowKit

def lastQ (P : Program) (o : Oper) (Q : Exit → Act → World → Prop) : Exit → Act → World → Prop
  | .normal, a, w => Oper.wp P o a w (Q .normal) Q
  | e, a, w => Q e a w

theorem upon_lastQ {P : Program} {o oi : Oper} {Q : Exit → Act → World → Prop} {a : Act} {w : World} {K : Act → World → Prop} (h : Oper.wp P oi a w K (lastQ P o Q)) : Oper.wp P oi a w K Q := by
  unfold Oper.wp at *
  generalize (execOp a.eval oi).run P w = r at *
  cases r with
  | ok n w' => cases n <;> exact h
  | halt x w' => cases x <;> exact h

theorem push_getD (L : Array Bool) (k : Nat) : (L.push false).getD k false = L.getD k false := by
  simp only [Array.getD_eq_getD_getElem?, Array.getElem?_push]
  split
  · rename_i h; subst h; simp
  · rfl

/-- what pre's operations wait for comes before them; the last one waits for all -/
structure LastOk (md : Region.Mode) (pre : List Oper) (o : Oper) : Prop where
  guard : ∀ p ∈ pre, p.guard = none
  lastGuard : o.guard = none
  before : ∀ k p, pre[k]? = some p → ∀ e ∈ p.after, Region.binds md e = true → e.on < k
  only : ∀ e ∈ o.after, Region.binds md e = true → e.on < pre.length
  all : ∀ k, k < pre.length → ∃ e ∈ o.after, Region.binds md e = true ∧ e.on = k

theorem least {md : Region.Mode} {pre : List Oper} {o : Oper} (h : LastOk md pre o) (L : Array Bool) (hL : L.size = pre.length) (hr : Region.ready md pre.toArray L = []) : ∀ k, k < pre.length → L.getD k false = true := by
  intro k
  induction k using Nat.strongRecOn with
  | ind k ih =>
    intro hk
    cases hc : L.getD k false with
    | true => rfl
    | false =>
      exfalso
      have hm : k ∈ Region.ready md pre.toArray L := mem_ready.2 ⟨by
        rw [← hc]; simp [Array.getD_eq_getD_getElem?, Array.getElem?_eq_getElem (show k < L.size from by omega)], pre[k], by simp [hk], fun e he hb => ih e.on (h.before k pre[k] (by simp [hk]) e he hb) (by have := h.before k pre[k] (by simp [hk]) e he hb; omega)⟩
      rw [hr] at hm
      cases hm

theorem wpAny_last {P : Program} {md : Region.Mode} {pre : List Oper} {o : Oper} {Q : Exit → Act → World → Prop} (h : LastOk md pre o) : ∀ (fuel : Nat) (L : Array Bool) (a : Act) (w : World), L.size = pre.length →
    wpAny P md pre.toArray (lastQ P o Q) fuel L a w → wpAny P md (pre.toArray.push o) Q (fuel + 1) (L.push false) a w := by
  have hlo : (pre.toArray.push o)[pre.length]? = some o := by simp
  have hpo : ∀ k, k < pre.length → (pre.toArray.push o)[k]? = pre.toArray[k]? := fun k hk => by
    rw [Array.getElem?_push_lt (by simpa using hk)]; simp [hk]
  -- the end: all of pre have come up
  have hend : ∀ (fuel : Nat) (L : Array Bool) (a : Act) (w : World), L.size = pre.length → (Region.ready md pre.toArray L = [] → lastQ P o Q .normal a w) →
      (∀ i, i < pre.length → i ∈ Region.ready md pre.toArray L → wpOp P (pre.toArray.push o) Q i (wpAny P md (pre.toArray.push o) Q fuel ((L.push false).setIfInBounds i true)) a w) →
      wpAny P md (pre.toArray.push o) Q (fuel + 1) (L.push false) a w := by
    intro fuel L a w hL hn hs
    have hpre : ∀ i, i < pre.length → i ∈ Region.ready md (pre.toArray.push o) (L.push false) → i ∈ Region.ready md pre.toArray L := by
      intro i hi hm
      obtain ⟨h1, oi, h2, h3⟩ := mem_ready.1 hm
      refine mem_ready.2 ⟨?_, oi, by rw [← hpo i hi]; exact h2, fun e he hb => by rw [← push_getD]; exact h3 e he hb⟩
      rw [← h1]
      simp only [Array.getD_eq_getD_getElem?, Array.getElem?_push]
      rw [if_neg (by omega)]
    have hlast : ∀ i, i ∈ Region.ready md (pre.toArray.push o) (L.push false) → i < pre.length ∨ i = pre.length := by
      intro i hm
      obtain ⟨_, oi, h2, _⟩ := mem_ready.1 hm
      have := (Array.getElem?_eq_some_iff.1 h2).1
      simp at this; omega
    refine ⟨fun hr => ?_, fun i hm => ?_⟩
    · exfalso
      have hr2 : Region.ready md pre.toArray L = [] := by
        refine List.eq_nil_iff_forall_not_mem.2 fun i hi => ?_
        obtain ⟨h1, oi, h2, h3⟩ := mem_ready.1 hi
        have hi2 : i < pre.length := by have := (Array.getElem?_eq_some_iff.1 h2).1; simpa using this
        have : i ∈ Region.ready md (pre.toArray.push o) (L.push false) := mem_ready.2 ⟨by
          rw [← h1]; simp only [Array.getD_eq_getD_getElem?, Array.getElem?_push]; rw [if_neg (by omega)], oi, by rw [hpo i hi2]; exact h2, fun e he hb => by rw [push_getD]; exact h3 e he hb⟩
        rw [hr] at this; cases this
      have hall := least h L hL hr2
      have hm : pre.length ∈ Region.ready md (pre.toArray.push o) (L.push false) := mem_ready.2 ⟨by
        simp only [Array.getD_eq_getD_getElem?, Array.getElem?_push]; rw [if_pos hL.symm]; rfl, o, hlo, fun e he hb => by rw [push_getD]; exact hall _ (h.only e he hb)⟩
      rw [hr] at hm; cases hm
    · rcases hlast i hm with hi | rfl
      · exact hs i hi (hpre i hi hm)
      · obtain ⟨_, oi, h2, h3⟩ := mem_ready.1 hm
        rw [hlo, Option.some.injEq] at h2
        subst h2
        have hall : ∀ k, k < pre.length → L.getD k false = true := fun k hk => by
          obtain ⟨e, he, hb, rfl⟩ := h.all k hk
          rw [← push_getD]; exact h3 e he hb
        have hr2 : Region.ready md pre.toArray L = [] := by
          refine List.eq_nil_iff_forall_not_mem.2 fun i hi => ?_
          obtain ⟨h1, oi, h2, _⟩ := mem_ready.1 hi
          have hi2 : i < pre.length := by have := (Array.getElem?_eq_some_iff.1 h2).1; simpa using this
          have h4 := hall i hi2
          simp [Array.getD_eq_getD_getElem?, Array.getElem?_eq_getElem (show i < L.size from by omega)] at h1 h4
          rw [h1] at h4; cases h4
        have hr3 : Region.ready md (pre.toArray.push o) ((L.push false).setIfInBounds pre.length true) = [] := by
          refine List.eq_nil_iff_forall_not_mem.2 fun i hi => ?_
          obtain ⟨h1, oi, h2, _⟩ := mem_ready.1 hi
          have hi2 : i < pre.length + 1 := by have := (Array.getElem?_eq_some_iff.1 h2).1; simpa using this
          by_cases hiN : i = pre.length
          · subst hiN
            have hz : pre.length < (L.push false).size := by simp [hL]
            simp [Array.getD_eq_getD_getElem?, hL] at h1
          · have h4 := hall i (by omega)
            simp only [Array.getD_eq_getD_getElem?, Array.getElem?_setIfInBounds, Array.getElem?_push] at h1 h4
            rw [if_neg (by omega), if_neg (by omega), Array.getElem?_eq_getElem (show i < L.size from by omega)] at h1
            rw [Array.getElem?_eq_getElem (show i < L.size from by omega)] at h4
            simp only [Option.getD_some] at h1 h4
            rw [h1] at h4; cases h4
        have hq := hn hr2
        unfold wpOp
        rw [hlo]
        simp only [Region.wanted, h.lastGuard]
        rw [if_pos (by trivial)]
        refine .inl (Oper.wp_mono (fun a' w' hQ => ?_) hq)
        cases fuel with
        | zero => exact ⟨hr3, hQ⟩
        | succ fuel => exact ⟨fun _ => hQ, fun i hi => by rw [hr3] at hi; cases hi⟩
  intro fuel
  induction fuel with
  | zero =>
    intro L a w hL hw
    exact hend 0 L a w hL (fun _ => hw.2) (fun i _ hm => by rw [hw.1] at hm; cases hm)
  | succ fuel ih =>
    intro L a w hL hw
    refine hend (fuel + 1) L a w hL hw.1 (fun i hi hm => ?_)
    have hk := hw.2 i hm
    have hset : (L.push false).setIfInBounds i true = (L.setIfInBounds i true).push false := by
      apply Array.toList_inj.1
      simp only [Array.toList_setIfInBounds, Array.toList_push]
      rw [List.set_append_left]
      simpa [hL] using hi
    rw [hset]
    have hpi : pre.toArray[i]? = some pre[i] := by simp [hi]
    unfold wpOp at hk ⊢
    rw [hpo i hi, hpi]
    rw [hpi] at hk
    simp only [Region.wanted, h.guard pre[i] (List.getElem_mem _)] at hk ⊢
    rw [if_pos (by trivial)] at hk ⊢
    rcases hk with hk | hk
    · exact .inl (upon_lastQ (Oper.wp_mono (fun a' w' hh => ih _ a' w' (by simpa using hL) hh) hk))
    · exact .inr ⟨hk.1, hk.2⟩

def lastOkB (md : Region.Mode) (pre : List Oper) (o : Oper) : Bool :=
  pre.all (·.guard.isNone) && o.guard.isNone && (List.range pre.length).all (fun k => (pre[k]?).all (fun p => p.after.all (fun e => !Region.binds md e || decide (e.on < k)))) &&
    o.after.all (fun e => !Region.binds md e || decide (e.on < pre.length)) && (List.range pre.length).all (fun k => o.after.any (fun e => Region.binds md e && e.on == k))
theorem lastOk_of {md : Region.Mode} {pre : List Oper} {o : Oper} (h : lastOkB md pre o = true) : LastOk md pre o := by
  unfold lastOkB at h
  simp only [Bool.and_eq_true, List.all_eq_true, List.mem_range, Array.all_eq_true', Array.any_eq_true', Bool.or_eq_true, Bool.not_eq_true', decide_eq_true_eq, beq_iff_eq] at h
  obtain ⟨⟨⟨⟨h1, h2⟩, h3⟩, h4⟩, h5⟩ := h
  refine ⟨fun p hp => by simpa using h1 p hp, by simpa using h2, fun k p hp e he hb => ?_, fun e he hb => ?_, fun k hk => ?_⟩
  · have := h3 k (List.getElem?_eq_some_iff.1 hp).1
    rw [hp] at this
    simp only [Option.all_some, Array.all_eq_true', Bool.or_eq_true, Bool.not_eq_true', decide_eq_true_eq] at this
    rcases this e he with h | h
    · rw [hb] at h; cases h
    · exact h
  · rcases h4 e he with h | h
    · rw [hb] at h; cases h
    · exact h
  · obtain ⟨e, he, hb, hk⟩ := h5 k hk
    exact ⟨e, he, hb, hk⟩

/-- all operations but the last one only read (their callees too); the last one waits for all: one walk of the text's order -/
theorem wp_region_qlast {P : Program} {l : List Oper} {o : Oper} {Q : Exit → Act → World → Prop} {id : Nat} {a : Act} {w : World} (hm : P.follows .mixedOrders = true) (hok : lastOkB .any l o = true) (hB : Region.lexB .any l.toArray = true)
    (h : wpQuiet P l.toArray (fun w' => ∃ n, w' = w.drewN n) (fun a' => ∀ w', (∃ n, w' = w.drewN n) → Oper.wp P o a' w' (Q .normal) Q) l a) : (Code.region id (l.toArray.push o) true).wp P Q a w := by
  refine wp_region_any hm ?_
  simp only [Region.lexB, Bool.and_eq_true] at hB
  have hq := wpAnyQ_lex (C := fun w' => ∃ n, w' = w.drewN n) (md := .any) hB.1 l 0 (Array.replicate l.length false) a (by simp) (by simpa using hB.2) h
  have h1 := wpAny_last (P := P) (Q := Q) (lastOk_of hok) l.length (Array.replicate l.length false) a w.drew (by simp)
    (wpAny_of_quiet (C := fun w' => ∃ n, w' = w.drewN n) (Q := fun a' => ∀ w', (∃ n, w' = w.drewN n) → Oper.wp P o a' w' (Q .normal) Q) (Q' := lastQ P o Q) (fun _ w' hw' h => h w' hw') _ _ _ _ ⟨1, rfl⟩ (by simpa using hq))
  have h2 : (Array.replicate l.length false).push false = Array.replicate (l.length + 1) false := by rw [Array.replicate_succ]
  rw [h2] at h1
  simpa using h1
theorem wp_region_qlast16 {P : Program} {x0 x1 x2 x3 x4 x5 x6 x7 x8 x9 x10 x11 x12 x13 x14 o : Oper} {Q : Exit → Act → World → Prop} {id : Nat} {a : Act} {w : World} (hm : P.follows .mixedOrders = true) (hok : lastOkB .any [x0, x1, x2, x3, x4, x5, x6, x7, x8, x9, x10, x11, x12, x13, x14] o = true) (hB : Region.lexB .any #[x0, x1, x2, x3, x4, x5, x6, x7, x8, x9, x10, x11, x12, x13, x14] = true)
    (h : wpQuiet P #[x0, x1, x2, x3, x4, x5, x6, x7, x8, x9, x10, x11, x12, x13, x14] (fun w' => ∃ n, w' = w.drewN n) (fun a' => ∀ w', (∃ n, w' = w.drewN n) → Oper.wp P o a' w' (Q .normal) Q) [x0, x1, x2, x3, x4, x5, x6, x7, x8, x9, x10, x11, x12, x13, x14] a) : (Code.region id #[x0, x1, x2, x3, x4, x5, x6, x7, x8, x9, x10, x11, x12, x13, x14, o] true).wp P Q a w :=
  wp_region_qlast (l := [x0, x1, x2, x3, x4, x5, x6, x7, x8, x9, x10, x11, x12, x13, x14]) hm hok hB h
end Go.Proofs.Ytndbjojjaapeaaa

/- The walk of There. -/
namespace Go.Proofs.Ytndbjojjaapeaaa
set_option linter.unusedVariables false
open Go.RowKit

theorem Form_some (m : Nat) (a : Option Addr) (cap : Nat) (xs l : List Int) (w : World) (hr : Row w a m (intL xs)) (hm : 2 ≤ m) (hm2 : m ≤ 64) (hrem : ∀ x ∈ xs, 0 ≤ x ∧ x < m) (hl : formR m (fun x => xs.getD x 0) = some l) :
    Calls Try.prog 32 #[.int .i64 m, .slice a m cap] w fun e w' => ∃ v, e = .returned (.tuple #[v, .int .i64 0]) ∧ w'.ownsRow w.heap.size 3 1 v l.length (intL l) ∧ Below w.heap.size w w' :=
  (Form_yes m a cap xs w hr hm hm2 hrem).mono fun e w' ⟨⟨h1, _⟩, b⟩ => by
    obtain ⟨v, h2, h3⟩ := h1 l hl
    exact ⟨v, h2, h3, b⟩
theorem Form_none (m : Nat) (a : Option Addr) (cap : Nat) (xs : List Int) (w : World) (hr : Row w a m (intL xs)) (hm : 2 ≤ m) (hm2 : m ≤ 64) (hrem : ∀ x ∈ xs, 0 ≤ x ∧ x < m) (hl : formR m (fun x => xs.getD x 0) = none) :
    Calls Try.prog 32 #[.int .i64 m, .slice a m cap] w fun e w' => e = .returned (.tuple #[.slice none 0 0, .int .i64 6]) ∧ Below w.heap.size w w' :=
  (Form_yes m a cap xs w hr hm hm2 hrem).mono fun e w' ⟨⟨_, h1⟩, b⟩ => ⟨h1 hl, b⟩
theorem list_own (m : Nat) (a : Option Addr) (cap : Nat) (xs : List Int) (w : World) (hr : Row w a m (intL xs)) (hc : m ≤ cap) (hm2 : m ≤ 65) :
    Calls Try.prog 17 #[.slice a m cap] w fun e w' => ∃ r, e = .returned r ∧ w'.ownsRow w.heap.size 3 1 r m (intL xs) ∧ Below w.heap.size w w' := by
  have hx : xs.length = m := by have := hr.1; simpa [intL] using this
  have h := list_in _ xs w (RowIn.of_row hr hc)
  have e : cutL xs = xs := List.take_of_length_le (by omega)
  rw [e, hx] at h
  exact h
theorem own_pairs {w : World} {base n : Nat} {e : TypeId} {v : Value} {xs : List Value} (h : w.ownsRow base e 2 v n xs) : ∃ a cap, v = .slice a n cap ∧ (0 < n → ∃ g, a = some ⟨g, 0, none⟩ ∧ ∀ j u, xs[j]? = some u → w.cell? ⟨g, j, none⟩ = some u) := by
  have hcells := fun g (hg : v.ownBlock = some g) => h.cells hg
  rcases h.2 with ⟨rfl, rfl⟩ | ⟨g, cap, cur, rfl, hb, hg, _⟩
  · exact ⟨none, 0, rfl, fun h => absurd h (by omega)⟩
  · refine ⟨_, cap, rfl, fun _ => ⟨g, rfl, fun j u hu => ?_⟩⟩
    have := hcells g rfl j u hu
    rwa [show ((⟨g, 0, none⟩ : Addr).add j) = ⟨g, j, none⟩ from by unfold Addr.add; split <;> simp_all] at this
/-- what the walk wants to know -/
structure ThW (x : Int) (at' by' : Int) (P F C : List Int) (m m1 k y z : Nat) (r2 : Nat) : Prop where
  m2 : 2 ≤ m
  m64 : m ≤ 64
  w1 : wrap64 (2 + (modV x 63 : Int)) = (m : Int)
  w2 : IntKind.i64.wrap (2 + (modV x 63 : Int)) = (m : Int)
  kk : k = modV at' m
  km : k < m
  m1e : m1 + 1 = m
  rr : r2 = modV by' m1
  r2m : r2 < m
  ye : F.getD k 0 = (y : Int)
  ym : y < m
  zz : z = modV ((y + 1 + r2 : Nat) : Int) m
  zm : z < m
  pol : polyB m P = true
  val : valuesL m P = F
  flen : F.length = m
  fin : ∀ v ∈ F, 0 ≤ v ∧ v < m
  frm : formR m (fun x => F.getD x 0) = some C
  cf : formB m C = true
  cd : C.length ≤ 64
  unf : ((List.range m).map fun x : Nat => formV m C x) = F
theorem thW (x at' by' : Int) (row : List Int) : ∃ F C m m1 k y z r2, ThW x at' by' (tamL m row) F C m m1 k y z r2 := by
  have hr := modV_lt x 63 (by omega)
  obtain ⟨m, hm⟩ : ∃ m, modV x 63 + 2 = m := ⟨_, rfl⟩
  have hk := modV_lt at' m (by omega)
  have hr2 := modV_lt by' (m - 1) (by omega)
  have hF : ∀ v ∈ valuesL m (tamL m row), 0 ≤ v ∧ v < m := valuesL_in (by omega) _
  have hl := valuesL_len m (tamL m row)
  have hy := hF ((valuesL m (tamL m row)).getD (modV at' m) 0) (by rw [List.getD_eq_getElem?_getD, List.getElem?_eq_getElem (by omega)]; exact List.getElem_mem _)
  obtain ⟨t1, t2, t3⟩ := trim_form (m := m) (by omega) (by omega) (tamL m row)
  obtain ⟨_, d2, _⟩ := deg_facts ⟨m, by omega⟩ (by show 2 ≤ m; omega)
  simp only at d2
  exact ⟨valuesL m (tamL m row), trimZ (formP m (tamL m row)), m, m - 1, modV at' m, ((valuesL m (tamL m row)).getD (modV at' m) 0).toNat, _, modV by' (m - 1),
    ⟨by omega, by omega, by rw [IntWalk.wrap64_in _ (by omega)]; omega, by rw [IntWalk.i64_in _ (by omega)]; omega, rfl, hk, by omega, rfl, by omega, by omega, by omega, rfl, modV_lt _ m (by omega), tamL_poly (by omega) (by omega) row, rfl, hl, hF,
      formR_trim (by omega) (by omega) _ fun x hx => valuesL_get m _ hx, t1, by omega, List.map_congr_left fun x _ => t3 x⟩⟩
theorem set_in {m k z : Nat} {F : List Int} (h : ∀ v ∈ F, 0 ≤ v ∧ v < m) (hz : z < m) : ∀ v ∈ F.set k (z : Int), 0 ≤ v ∧ v < m := fun v hv => by
  rcases List.mem_or_eq_of_mem_set hv with h1 | h1
  · exact h v h1
  · subst h1; omega
theorem intL_set (F : List Int) (k : Nat) (z : Int) : intL (F.set k z) = (intL F).set k (.int .i64 z) := by
  unfold intL; rw [List.map_set]
theorem parts_one {L : List (Nat × Nat)} (h : L.length = 1) : ∃ p, L = [(p, (L.getD 0 (0, 0)).2)] := by
  match L, h with
  | [q], _ => exact ⟨q.1, rfl⟩
set_option maxRecDepth 100000 in
set_option maxHeartbeats 8000000 in
theorem there_as (x at' by' : Int) (pv : Value) (row F C : List Int) (m m1 k y z r2 : Nat) (L : List (Nat × Nat)) (w : World) (hP : RowIn w pv row) (h : ThW x at' by' (tamL m row) F C m m1 k y z r2) (hL : partsL m = L) (hL3 : L.length ≤ 3) (lc : List Int) (hres : formR m (fun x => (F.set k (z : Int)).getD x 0) = some lc) (hone : ¬ L.length = 1) : Calls Try.prog 13 #[.int .i64 x, pv, .int .i64 at', .int .i64 by'] w fun e w' => e = .returned (.bool true) ∧ Below w.heap.size w w' := by
  obtain ⟨hm, hm2, w1, w2, hkk, hkm, hm1, hrr, hr2m, hye, hym, hzz, hzm, hpol, hval, hfl, hfin, hfrm, hcf, hcd, hunf⟩ := h
  have HM := Lib.hid (mod_val x 63 w (by omega) (by omega))
  have HTP := Lib.hid (tame_in m pv row w (by omega) hm2 hP)
  have HV := Lib.hid fun a n cap W hW => Values_yes m a n cap (tamL m row) W hW hpol
  rw [hval] at HV
  have HFo := Lib.hid fun a cap W hW => Form_some m a cap F C W hW hm hm2 hfin hfrm
  have HU := Lib.hid fun a n cap W hW (hc : n ≤ cap) => Unform_yes m a n cap C W hW hc hm hm2 hcf
  rw [hunf] at HU
  have HI := Lib.hid fun a b ca cb W h1 h2 => ints_true a b m ca cb F W h1 h2 (by omega)
  have HI2 := Lib.hid fun a b ca cb W h1 h2 => ints_true a b C.length ca cb C W h1 h2 (by omega)
  have hFd := fun a cap W hW => refFormed_any m a C.length cap C W hW (by omega) hm hm2
  rw [formed_eq hm hm2, hcf] at hFd
  have HFd := Lib.hid hFd
  have HLi := Lib.hid fun a cap W hW hc => list_own m a cap F W hW hc (by omega)
  have hX := fun W => mod_val at' m W (by omega) (by omega)
  rw [← hkk] at hX
  have HX := Lib.hid hX
  have hB2 := fun W => mod_val by' m1 W (by omega) (by omega)
  rw [← hrr] at hB2
  have HB2 := Lib.hid hB2
  have hZ := fun W => mod_val ((y + 1 + r2 : Nat) : Int) m W (by omega) (by omega)
  rw [← hzz] at hZ
  obtain ⟨s, hs⟩ : ∃ s, y + 1 + r2 = s := ⟨_, rfl⟩
  rw [hs] at hZ
  have HZ := Lib.hid hZ
  have HFc := Lib.hid fun a cap W hW => Form_some m a cap (F.set k (z : Int)) lc W hW hm hm2 (set_in hfin hzm) hres
  have hPt := fun W => refParts_any m W (by omega) hm2
  rw [hL] at hPt
  have HPt := Lib.hid hPt
  have HA := Lib.hid fun w => awake_any w
  have n1 : IntKind.i64.wrap ((y : Int) + 1) = ((y + 1 : Nat) : Int) := by rw [IntWalk.i64_in _ (by omega)]; rfl
  have n2 : IntKind.i64.wrap ((m : Int) - 1) = (m1 : Int) := by rw [IntWalk.i64_in _ (by omega)]; omega
  obtain ⟨y1, hy1⟩ : ∃ y1, y + 1 = y1 := ⟨_, rfl⟩
  rw [hy1] at n1
  have n3 : IntKind.i64.wrap ((y1 : Int) + (r2 : Int)) = (s : Int) := by rw [IntWalk.i64_in _ (by omega)]; omega
  have hki : (k : Int) < (m : Int) := by omega
  have hset := intL_set F k (z : Int)
  have hgk : (intL F)[k]? = some (.int .i64 (y : Int)) := intL_get (by rw [← hye, List.getD_eq_getElem?_getD, List.getElem?_eq_getElem (by omega)]; rfl)
  have Hset := Lib.hid hset
  have Hgk := Lib.hid hgk
  have Hkm := Lib.hid hkm
  have Hm := Lib.hid (show 0 < m by omega)
  generalize modV x 63 = r at *
  generalize F.set k (z : Int) = Fc at *
  generalize tamL m row = P at *
  generalize hcl : C.length = cl at *
  obtain ⟨ll, hll⟩ : ∃ n, L.length = n := ⟨_, rfl⟩
  rw [hll] at HPt
  have hlz : ((ll : Int) == 1) = false := by rw [beq_eq_false_iff_ne]; omega
  generalize hlc : lc.length = nc at *
  clear hX hB2 hZ hFd hPt hset hgk hkk hkm hm1 hrr hr2m hye hym hzz hzm hpol hval hfl hfin hfrm hcf hcd hunf hs hy1 hP hL hL3 hres hcl hlc hone hll
  go_enter Try.func13, Try.ntmps13
  go_wp2_with fail
  refine (HM.out).mono ?_
  rintro e w1 ⟨rfl, hw⟩
  subst w1
  go_wp2_with fail
  refine HTP.out.mono ?_
  rintro e wt ⟨tv, rfl, ot, bt⟩
  have Bt := Lib.hid bt
  obtain ⟨a2, c2, hv, hc2, r2'⟩ := own_slice ot
  subst tv
  have RP := Lib.hid r2'
  clear ot bt r2'
  go_wp2_with fail
  refine (HV.out _ _ _ _ RP.out).mono ?_
  rintro e w3 ⟨v3, rfl, ho, b3⟩
  have B3 := Lib.hid (b_next Bt.out b3)
  clear Bt
  replace RP := Lib.hid (RP.out.below b3)
  clear b3
  obtain ⟨a3, c3, hv, hc3, r3⟩ := own_slice ho
  subst v3
  have RF := Lib.hid r3
  clear ho r3
  clear RP
  go_wp2_with fail
  refine (HFo.out _ _ _ RF.out).mono ?_
  rintro e w4 ⟨v4, rfl, ho, b4⟩
  have B4 := Lib.hid (b_next B3.out b4)
  clear B3
  replace RF := Lib.hid (RF.out.below b4)
  clear b4
  obtain ⟨a4, c4, hv, hc4, r4⟩ := own_slice ho
  subst v4
  have RC := Lib.hid r4
  clear ho r4
  go_wp2_with fail
  refine (HU.out _ _ _ _ RC.out hc4).mono ?_
  rintro e w5 ⟨v5, rfl, ho, b5⟩
  have B5 := Lib.hid (b_next B4.out b5)
  clear B4
  replace RF := Lib.hid (RF.out.below b5)
  replace RC := Lib.hid (RC.out.below b5)
  clear b5
  obtain ⟨a5, c5, hv, hc5, r5⟩ := own_slice ho
  subst v5
  have RU := Lib.hid r5
  clear ho r5
  go_wp2_with fail
  refine (HFo.out _ _ _ RU.out).mono ?_
  rintro e w6 ⟨v6, rfl, ho, b6⟩
  have B6 := Lib.hid (b_next B5.out b6)
  clear B5
  replace RF := Lib.hid (RF.out.below b6)
  replace RC := Lib.hid (RC.out.below b6)
  replace RU := Lib.hid (RU.out.below b6)
  clear b6
  obtain ⟨a6, c6, hv, hc6, r6⟩ := own_slice ho
  subst v6
  have RD := Lib.hid r6
  clear ho r6
  go_wp2_with fail
  refine (HI.out _ _ _ _ _ RU.out RF.out).mono ?_
  rintro e w7 ⟨rfl, hq⟩
  have b7 := drew_below hq
  clear hq
  have B7 := Lib.hid (b_next B6.out b7)
  clear B6
  replace RF := Lib.hid (RF.out.below b7)
  replace RC := Lib.hid (RC.out.below b7)
  replace RU := Lib.hid (RU.out.below b7)
  replace RD := Lib.hid (RD.out.below b7)
  clear b7
  go_wp2_with fail
  refine (HI2.out _ _ _ _ _ RC.out RD.out).mono ?_
  rintro e w8 ⟨rfl, hq⟩
  have b8 := drew_below hq
  clear hq
  have B8 := Lib.hid (b_next B7.out b8)
  clear B7
  replace RF := Lib.hid (RF.out.below b8)
  replace RC := Lib.hid (RC.out.below b8)
  replace RU := Lib.hid (RU.out.below b8)
  replace RD := Lib.hid (RD.out.below b8)
  clear b8
  go_wp2_with fail
  refine (HFd.out _ _ _ RC.out).mono ?_
  rintro e w9 ⟨rfl, hq⟩
  have b9 := drew_below hq
  clear hq
  have B9 := Lib.hid (b_next B8.out b9)
  clear B8
  replace RF := Lib.hid (RF.out.below b9)
  replace RC := Lib.hid (RC.out.below b9)
  replace RU := Lib.hid (RU.out.below b9)
  replace RD := Lib.hid (RD.out.below b9)
  clear b9
  clear RU
  clear RC
  clear RD
  go_wp2_with fail
  refine (HLi.out _ _ _ RF.out hc3).mono ?_
  rintro e wl ⟨lv, rfl, ol, bl⟩
  have hbs := B9.out.size
  have Bl := Lib.hid (b_next B9.out bl)
  obtain ⟨a8, c8, hv, hc8, r8⟩ := own_slice ol
  subst lv
  obtain ⟨g8, rfl, _⟩ := r8.2 Hm.out
  have OL := Lib.hid ol
  have HG := Lib.hid (Nat.le_trans hbs (ol.lt g8 rfl).1)
  clear ol bl r8 hbs RF B9
  go_wp2_with fail
  refine (HX.out _).mono ?_
  rintro e w11 ⟨rfl, hw⟩
  subst w11
  go_wp2_with fail
  have cx := (OL.out.cellAt k (by have := Hkm.out; omega)).trans Hgk.out
  have fx := OL.out.frozenAt k
  refine wp_region_qlast16 (by kernel_rfl) (by kernel_rfl) (by kernel_rfl) ?_
  repeat (go_big_quiet_step ((first | (go_at_call 57; with_reducible exact Calls.quiet_of_same (HB2.out _)) | (go_at_call 57; with_reducible exact Calls.quiet_of_same (HZ.out _)))))
  refine wpQuiet_nil ?_
  intro wq hwq
  obtain ⟨nq, rfl⟩ := hwq
  have OL2 : Hid ((wl.drewN nq).ownsRow _ 3 1 (.slice (some ⟨g8, 0, none⟩) m c8) m (intL F)) := OL.out
  have BL2 : Hid (Below w.heap.size w (wl.drewN nq)) := below_drewN Bl.out nq
  have cy : (wl.drewN nq).cell? ⟨g8, k, none⟩ = some (.int .i64 (y : Int)) := cx
  have fy : (wl.drewN nq).frozen? ⟨g8, k, none⟩ = false := fx
  generalize wl.drewN nq = W5 at OL2 BL2 cy fy ⊢
  clear cx fx OL Bl
  show Oper.wp _ _ _ _ _ _
  go_simp
  have st := (OL2.out.stored k (.int .i64 (z : Int))).1
  rw [← Hset.out] at st
  have bs := BL2.out.setCell (p := ⟨g8, k, none⟩) HG.out (.int .i64 (z : Int))
  generalize W5.setCell ⟨g8, k, none⟩ (.int .i64 (z : Int)) = W6 at st bs ⊢
  obtain ⟨a9, c9, hv9, hc9, r9⟩ := own_slice st
  cases hv9
  have RN := Lib.hid r9
  have B6 := Lib.hid bs
  clear st bs r9 OL2 BL2 cy fy HG
  go_wp2_with fail
  refine (HFc.out _ _ _ RN.out).mono ?_
  rintro e w12 ⟨v12, rfl, ho, b12⟩
  have B12 := Lib.hid (b_next B6.out b12)
  clear B6
  replace RN := Lib.hid (RN.out.below b12)
  clear b12
  obtain ⟨a10, c10, hv, hc10, r12⟩ := own_slice ho
  subst v12
  have RE := Lib.hid r12
  clear ho r12
  go_wp2_with fail
  refine (HPt.out _).mono ?_
  rintro e wp13 ⟨pv13, rfl, op, bp⟩
  have BP13 := Lib.hid (b_next B12.out bp)
  obtain ⟨ap13, cp13, hv, hcp⟩ := own_pairs op
  subst pv13
  clear op bp B12
  clear hcp
  go_wp2_with fail
  refine (HA.out _).mono ?_
  rintro e w14 ⟨rfl, b14⟩
  have B14 := Lib.hid (b_next BP13.out b14)
  clear BP13
  clear b14
  go_wp2
  go_ret
  exact ⟨rfl, B14.out⟩
set_option maxRecDepth 100000 in
set_option maxHeartbeats 8000000 in
theorem there_an (x at' by' : Int) (pv : Value) (row F C : List Int) (m m1 k y z r2 : Nat) (L : List (Nat × Nat)) (w : World) (hP : RowIn w pv row) (h : ThW x at' by' (tamL m row) F C m m1 k y z r2) (hL : partsL m = L) (hL3 : L.length ≤ 3) (hres : formR m (fun x => (F.set k (z : Int)).getD x 0) = none) (hone : ¬ L.length = 1) : Calls Try.prog 13 #[.int .i64 x, pv, .int .i64 at', .int .i64 by'] w fun e w' => e = .returned (.bool true) ∧ Below w.heap.size w w' := by
  obtain ⟨hm, hm2, w1, w2, hkk, hkm, hm1, hrr, hr2m, hye, hym, hzz, hzm, hpol, hval, hfl, hfin, hfrm, hcf, hcd, hunf⟩ := h
  have HM := Lib.hid (mod_val x 63 w (by omega) (by omega))
  have HTP := Lib.hid (tame_in m pv row w (by omega) hm2 hP)
  have HV := Lib.hid fun a n cap W hW => Values_yes m a n cap (tamL m row) W hW hpol
  rw [hval] at HV
  have HFo := Lib.hid fun a cap W hW => Form_some m a cap F C W hW hm hm2 hfin hfrm
  have HU := Lib.hid fun a n cap W hW (hc : n ≤ cap) => Unform_yes m a n cap C W hW hc hm hm2 hcf
  rw [hunf] at HU
  have HI := Lib.hid fun a b ca cb W h1 h2 => ints_true a b m ca cb F W h1 h2 (by omega)
  have HI2 := Lib.hid fun a b ca cb W h1 h2 => ints_true a b C.length ca cb C W h1 h2 (by omega)
  have hFd := fun a cap W hW => refFormed_any m a C.length cap C W hW (by omega) hm hm2
  rw [formed_eq hm hm2, hcf] at hFd
  have HFd := Lib.hid hFd
  have HLi := Lib.hid fun a cap W hW hc => list_own m a cap F W hW hc (by omega)
  have hX := fun W => mod_val at' m W (by omega) (by omega)
  rw [← hkk] at hX
  have HX := Lib.hid hX
  have hB2 := fun W => mod_val by' m1 W (by omega) (by omega)
  rw [← hrr] at hB2
  have HB2 := Lib.hid hB2
  have hZ := fun W => mod_val ((y + 1 + r2 : Nat) : Int) m W (by omega) (by omega)
  rw [← hzz] at hZ
  obtain ⟨s, hs⟩ : ∃ s, y + 1 + r2 = s := ⟨_, rfl⟩
  rw [hs] at hZ
  have HZ := Lib.hid hZ
  have HFc := Lib.hid fun a cap W hW => Form_none m a cap (F.set k (z : Int)) W hW hm hm2 (set_in hfin hzm) hres
  have hPt := fun W => refParts_any m W (by omega) hm2
  rw [hL] at hPt
  have HPt := Lib.hid hPt
  have HA := Lib.hid fun w => awake_any w
  have n1 : IntKind.i64.wrap ((y : Int) + 1) = ((y + 1 : Nat) : Int) := by rw [IntWalk.i64_in _ (by omega)]; rfl
  have n2 : IntKind.i64.wrap ((m : Int) - 1) = (m1 : Int) := by rw [IntWalk.i64_in _ (by omega)]; omega
  obtain ⟨y1, hy1⟩ : ∃ y1, y + 1 = y1 := ⟨_, rfl⟩
  rw [hy1] at n1
  have n3 : IntKind.i64.wrap ((y1 : Int) + (r2 : Int)) = (s : Int) := by rw [IntWalk.i64_in _ (by omega)]; omega
  have hki : (k : Int) < (m : Int) := by omega
  have hset := intL_set F k (z : Int)
  have hgk : (intL F)[k]? = some (.int .i64 (y : Int)) := intL_get (by rw [← hye, List.getD_eq_getElem?_getD, List.getElem?_eq_getElem (by omega)]; rfl)
  have Hset := Lib.hid hset
  have Hgk := Lib.hid hgk
  have Hkm := Lib.hid hkm
  have Hm := Lib.hid (show 0 < m by omega)
  generalize modV x 63 = r at *
  generalize F.set k (z : Int) = Fc at *
  generalize tamL m row = P at *
  generalize hcl : C.length = cl at *
  obtain ⟨ll, hll⟩ : ∃ n, L.length = n := ⟨_, rfl⟩
  rw [hll] at HPt
  have hlz : ((ll : Int) == 1) = false := by rw [beq_eq_false_iff_ne]; omega
  clear hX hB2 hZ hFd hPt hset hgk hkk hkm hm1 hrr hr2m hye hym hzz hzm hpol hval hfl hfin hfrm hcf hcd hunf hs hy1 hP hL hL3 hres hcl hone hll
  go_enter Try.func13, Try.ntmps13
  go_wp2_with fail
  refine (HM.out).mono ?_
  rintro e w1 ⟨rfl, hw⟩
  subst w1
  go_wp2_with fail
  refine HTP.out.mono ?_
  rintro e wt ⟨tv, rfl, ot, bt⟩
  have Bt := Lib.hid bt
  obtain ⟨a2, c2, hv, hc2, r2'⟩ := own_slice ot
  subst tv
  have RP := Lib.hid r2'
  clear ot bt r2'
  go_wp2_with fail
  refine (HV.out _ _ _ _ RP.out).mono ?_
  rintro e w3 ⟨v3, rfl, ho, b3⟩
  have B3 := Lib.hid (b_next Bt.out b3)
  clear Bt
  replace RP := Lib.hid (RP.out.below b3)
  clear b3
  obtain ⟨a3, c3, hv, hc3, r3⟩ := own_slice ho
  subst v3
  have RF := Lib.hid r3
  clear ho r3
  clear RP
  go_wp2_with fail
  refine (HFo.out _ _ _ RF.out).mono ?_
  rintro e w4 ⟨v4, rfl, ho, b4⟩
  have B4 := Lib.hid (b_next B3.out b4)
  clear B3
  replace RF := Lib.hid (RF.out.below b4)
  clear b4
  obtain ⟨a4, c4, hv, hc4, r4⟩ := own_slice ho
  subst v4
  have RC := Lib.hid r4
  clear ho r4
  go_wp2_with fail
  refine (HU.out _ _ _ _ RC.out hc4).mono ?_
  rintro e w5 ⟨v5, rfl, ho, b5⟩
  have B5 := Lib.hid (b_next B4.out b5)
  clear B4
  replace RF := Lib.hid (RF.out.below b5)
  replace RC := Lib.hid (RC.out.below b5)
  clear b5
  obtain ⟨a5, c5, hv, hc5, r5⟩ := own_slice ho
  subst v5
  have RU := Lib.hid r5
  clear ho r5
  go_wp2_with fail
  refine (HFo.out _ _ _ RU.out).mono ?_
  rintro e w6 ⟨v6, rfl, ho, b6⟩
  have B6 := Lib.hid (b_next B5.out b6)
  clear B5
  replace RF := Lib.hid (RF.out.below b6)
  replace RC := Lib.hid (RC.out.below b6)
  replace RU := Lib.hid (RU.out.below b6)
  clear b6
  obtain ⟨a6, c6, hv, hc6, r6⟩ := own_slice ho
  subst v6
  have RD := Lib.hid r6
  clear ho r6
  go_wp2_with fail
  refine (HI.out _ _ _ _ _ RU.out RF.out).mono ?_
  rintro e w7 ⟨rfl, hq⟩
  have b7 := drew_below hq
  clear hq
  have B7 := Lib.hid (b_next B6.out b7)
  clear B6
  replace RF := Lib.hid (RF.out.below b7)
  replace RC := Lib.hid (RC.out.below b7)
  replace RU := Lib.hid (RU.out.below b7)
  replace RD := Lib.hid (RD.out.below b7)
  clear b7
  go_wp2_with fail
  refine (HI2.out _ _ _ _ _ RC.out RD.out).mono ?_
  rintro e w8 ⟨rfl, hq⟩
  have b8 := drew_below hq
  clear hq
  have B8 := Lib.hid (b_next B7.out b8)
  clear B7
  replace RF := Lib.hid (RF.out.below b8)
  replace RC := Lib.hid (RC.out.below b8)
  replace RU := Lib.hid (RU.out.below b8)
  replace RD := Lib.hid (RD.out.below b8)
  clear b8
  go_wp2_with fail
  refine (HFd.out _ _ _ RC.out).mono ?_
  rintro e w9 ⟨rfl, hq⟩
  have b9 := drew_below hq
  clear hq
  have B9 := Lib.hid (b_next B8.out b9)
  clear B8
  replace RF := Lib.hid (RF.out.below b9)
  replace RC := Lib.hid (RC.out.below b9)
  replace RU := Lib.hid (RU.out.below b9)
  replace RD := Lib.hid (RD.out.below b9)
  clear b9
  clear RU
  clear RC
  clear RD
  go_wp2_with fail
  refine (HLi.out _ _ _ RF.out hc3).mono ?_
  rintro e wl ⟨lv, rfl, ol, bl⟩
  have hbs := B9.out.size
  have Bl := Lib.hid (b_next B9.out bl)
  obtain ⟨a8, c8, hv, hc8, r8⟩ := own_slice ol
  subst lv
  obtain ⟨g8, rfl, _⟩ := r8.2 Hm.out
  have OL := Lib.hid ol
  have HG := Lib.hid (Nat.le_trans hbs (ol.lt g8 rfl).1)
  clear ol bl r8 hbs RF B9
  go_wp2_with fail
  refine (HX.out _).mono ?_
  rintro e w11 ⟨rfl, hw⟩
  subst w11
  go_wp2_with fail
  have cx := (OL.out.cellAt k (by have := Hkm.out; omega)).trans Hgk.out
  have fx := OL.out.frozenAt k
  refine wp_region_qlast16 (by kernel_rfl) (by kernel_rfl) (by kernel_rfl) ?_
  repeat (go_big_quiet_step ((first | (go_at_call 57; with_reducible exact Calls.quiet_of_same (HB2.out _)) | (go_at_call 57; with_reducible exact Calls.quiet_of_same (HZ.out _)))))
  refine wpQuiet_nil ?_
  intro wq hwq
  obtain ⟨nq, rfl⟩ := hwq
  have OL2 : Hid ((wl.drewN nq).ownsRow _ 3 1 (.slice (some ⟨g8, 0, none⟩) m c8) m (intL F)) := OL.out
  have BL2 : Hid (Below w.heap.size w (wl.drewN nq)) := below_drewN Bl.out nq
  have cy : (wl.drewN nq).cell? ⟨g8, k, none⟩ = some (.int .i64 (y : Int)) := cx
  have fy : (wl.drewN nq).frozen? ⟨g8, k, none⟩ = false := fx
  generalize wl.drewN nq = W5 at OL2 BL2 cy fy ⊢
  clear cx fx OL Bl
  show Oper.wp _ _ _ _ _ _
  go_simp
  have st := (OL2.out.stored k (.int .i64 (z : Int))).1
  rw [← Hset.out] at st
  have bs := BL2.out.setCell (p := ⟨g8, k, none⟩) HG.out (.int .i64 (z : Int))
  generalize W5.setCell ⟨g8, k, none⟩ (.int .i64 (z : Int)) = W6 at st bs ⊢
  obtain ⟨a9, c9, hv9, hc9, r9⟩ := own_slice st
  cases hv9
  have RN := Lib.hid r9
  have B6 := Lib.hid bs
  clear st bs r9 OL2 BL2 cy fy HG
  go_wp2_with fail
  refine (HFc.out _ _ _ RN.out).mono ?_
  rintro e w12 ⟨rfl, b12⟩
  have B12 := Lib.hid (b_next B6.out b12)
  clear B6
  replace RN := Lib.hid (RN.out.below b12)
  clear b12
  go_wp2_with fail
  refine (HPt.out _).mono ?_
  rintro e wp13 ⟨pv13, rfl, op, bp⟩
  have BP13 := Lib.hid (b_next B12.out bp)
  obtain ⟨ap13, cp13, hv, hcp⟩ := own_pairs op
  subst pv13
  clear op bp B12
  clear hcp
  go_wp2_with fail
  refine (HA.out _).mono ?_
  rintro e w14 ⟨rfl, b14⟩
  have B14 := Lib.hid (b_next BP13.out b14)
  clear BP13
  clear b14
  go_wp2
  go_ret
  exact ⟨rfl, B14.out⟩
set_option maxRecDepth 100000 in
set_option maxHeartbeats 8000000 in
theorem there_b1 (x at' by' : Int) (pv : Value) (row F C : List Int) (m m1 k y z r2 : Nat) (L : List (Nat × Nat)) (w : World) (hP : RowIn w pv row) (h : ThW x at' by' (tamL m row) F C m m1 k y z r2) (hL : partsL m = L) (hL3 : L.length ≤ 3) (lc : List Int) (hres : formR m (fun x => (F.set k (z : Int)).getD x 0) = some lc) (p q : Nat) (hone : L = [(p, q)]) (hq : q = 1) : Calls Try.prog 13 #[.int .i64 x, pv, .int .i64 at', .int .i64 by'] w fun e w' => e = .returned (.bool true) ∧ Below w.heap.size w w' := by
  obtain ⟨hm, hm2, w1, w2, hkk, hkm, hm1, hrr, hr2m, hye, hym, hzz, hzm, hpol, hval, hfl, hfin, hfrm, hcf, hcd, hunf⟩ := h
  have HM := Lib.hid (mod_val x 63 w (by omega) (by omega))
  have HTP := Lib.hid (tame_in m pv row w (by omega) hm2 hP)
  have HV := Lib.hid fun a n cap W hW => Values_yes m a n cap (tamL m row) W hW hpol
  rw [hval] at HV
  have HFo := Lib.hid fun a cap W hW => Form_some m a cap F C W hW hm hm2 hfin hfrm
  have HU := Lib.hid fun a n cap W hW (hc : n ≤ cap) => Unform_yes m a n cap C W hW hc hm hm2 hcf
  rw [hunf] at HU
  have HI := Lib.hid fun a b ca cb W h1 h2 => ints_true a b m ca cb F W h1 h2 (by omega)
  have HI2 := Lib.hid fun a b ca cb W h1 h2 => ints_true a b C.length ca cb C W h1 h2 (by omega)
  have hFd := fun a cap W hW => refFormed_any m a C.length cap C W hW (by omega) hm hm2
  rw [formed_eq hm hm2, hcf] at hFd
  have HFd := Lib.hid hFd
  have HLi := Lib.hid fun a cap W hW hc => list_own m a cap F W hW hc (by omega)
  have hX := fun W => mod_val at' m W (by omega) (by omega)
  rw [← hkk] at hX
  have HX := Lib.hid hX
  have hB2 := fun W => mod_val by' m1 W (by omega) (by omega)
  rw [← hrr] at hB2
  have HB2 := Lib.hid hB2
  have hZ := fun W => mod_val ((y + 1 + r2 : Nat) : Int) m W (by omega) (by omega)
  rw [← hzz] at hZ
  obtain ⟨s, hs⟩ : ∃ s, y + 1 + r2 = s := ⟨_, rfl⟩
  rw [hs] at hZ
  have HZ := Lib.hid hZ
  have HFc := Lib.hid fun a cap W hW => Form_some m a cap (F.set k (z : Int)) lc W hW hm hm2 (set_in hfin hzm) hres
  have hPt := fun W => refParts_any m W (by omega) hm2
  rw [hL] at hPt
  have HPt := Lib.hid hPt
  have HA := Lib.hid fun w => awake_any w
  have n1 : IntKind.i64.wrap ((y : Int) + 1) = ((y + 1 : Nat) : Int) := by rw [IntWalk.i64_in _ (by omega)]; rfl
  have n2 : IntKind.i64.wrap ((m : Int) - 1) = (m1 : Int) := by rw [IntWalk.i64_in _ (by omega)]; omega
  obtain ⟨y1, hy1⟩ : ∃ y1, y + 1 = y1 := ⟨_, rfl⟩
  rw [hy1] at n1
  have n3 : IntKind.i64.wrap ((y1 : Int) + (r2 : Int)) = (s : Int) := by rw [IntWalk.i64_in _ (by omega)]; omega
  have hki : (k : Int) < (m : Int) := by omega
  have hset := intL_set F k (z : Int)
  have hgk : (intL F)[k]? = some (.int .i64 (y : Int)) := intL_get (by rw [← hye, List.getD_eq_getElem?_getD, List.getElem?_eq_getElem (by omega)]; rfl)
  have Hset := Lib.hid hset
  have Hgk := Lib.hid hgk
  have Hkm := Lib.hid hkm
  have Hm := Lib.hid (show 0 < m by omega)
  generalize modV x 63 = r at *
  generalize F.set k (z : Int) = Fc at *
  generalize tamL m row = P at *
  generalize hcl : C.length = cl at *
  subst hone
  have hqq : ((q : Int) == 1) = true := by rw [beq_iff_eq]; omega
  generalize hlc : lc.length = nc at *
  clear hX hB2 hZ hFd hPt hset hgk hkk hkm hm1 hrr hr2m hye hym hzz hzm hpol hval hfl hfin hfrm hcf hcd hunf hs hy1 hP hL hL3 hres hcl hlc hq
  go_enter Try.func13, Try.ntmps13
  go_wp2_with fail
  refine (HM.out).mono ?_
  rintro e w1 ⟨rfl, hw⟩
  subst w1
  go_wp2_with fail
  refine HTP.out.mono ?_
  rintro e wt ⟨tv, rfl, ot, bt⟩
  have Bt := Lib.hid bt
  obtain ⟨a2, c2, hv, hc2, r2'⟩ := own_slice ot
  subst tv
  have RP := Lib.hid r2'
  clear ot bt r2'
  go_wp2_with fail
  refine (HV.out _ _ _ _ RP.out).mono ?_
  rintro e w3 ⟨v3, rfl, ho, b3⟩
  have B3 := Lib.hid (b_next Bt.out b3)
  clear Bt
  replace RP := Lib.hid (RP.out.below b3)
  clear b3
  obtain ⟨a3, c3, hv, hc3, r3⟩ := own_slice ho
  subst v3
  have RF := Lib.hid r3
  clear ho r3
  clear RP
  go_wp2_with fail
  refine (HFo.out _ _ _ RF.out).mono ?_
  rintro e w4 ⟨v4, rfl, ho, b4⟩
  have B4 := Lib.hid (b_next B3.out b4)
  clear B3
  replace RF := Lib.hid (RF.out.below b4)
  clear b4
  obtain ⟨a4, c4, hv, hc4, r4⟩ := own_slice ho
  subst v4
  have RC := Lib.hid r4
  clear ho r4
  go_wp2_with fail
  refine (HU.out _ _ _ _ RC.out hc4).mono ?_
  rintro e w5 ⟨v5, rfl, ho, b5⟩
  have B5 := Lib.hid (b_next B4.out b5)
  clear B4
  replace RF := Lib.hid (RF.out.below b5)
  replace RC := Lib.hid (RC.out.below b5)
  clear b5
  obtain ⟨a5, c5, hv, hc5, r5⟩ := own_slice ho
  subst v5
  have RU := Lib.hid r5
  clear ho r5
  go_wp2_with fail
  refine (HFo.out _ _ _ RU.out).mono ?_
  rintro e w6 ⟨v6, rfl, ho, b6⟩
  have B6 := Lib.hid (b_next B5.out b6)
  clear B5
  replace RF := Lib.hid (RF.out.below b6)
  replace RC := Lib.hid (RC.out.below b6)
  replace RU := Lib.hid (RU.out.below b6)
  clear b6
  obtain ⟨a6, c6, hv, hc6, r6⟩ := own_slice ho
  subst v6
  have RD := Lib.hid r6
  clear ho r6
  go_wp2_with fail
  refine (HI.out _ _ _ _ _ RU.out RF.out).mono ?_
  rintro e w7 ⟨rfl, hq⟩
  have b7 := drew_below hq
  clear hq
  have B7 := Lib.hid (b_next B6.out b7)
  clear B6
  replace RF := Lib.hid (RF.out.below b7)
  replace RC := Lib.hid (RC.out.below b7)
  replace RU := Lib.hid (RU.out.below b7)
  replace RD := Lib.hid (RD.out.below b7)
  clear b7
  go_wp2_with fail
  refine (HI2.out _ _ _ _ _ RC.out RD.out).mono ?_
  rintro e w8 ⟨rfl, hq⟩
  have b8 := drew_below hq
  clear hq
  have B8 := Lib.hid (b_next B7.out b8)
  clear B7
  replace RF := Lib.hid (RF.out.below b8)
  replace RC := Lib.hid (RC.out.below b8)
  replace RU := Lib.hid (RU.out.below b8)
  replace RD := Lib.hid (RD.out.below b8)
  clear b8
  go_wp2_with fail
  refine (HFd.out _ _ _ RC.out).mono ?_
  rintro e w9 ⟨rfl, hq⟩
  have b9 := drew_below hq
  clear hq
  have B9 := Lib.hid (b_next B8.out b9)
  clear B8
  replace RF := Lib.hid (RF.out.below b9)
  replace RC := Lib.hid (RC.out.below b9)
  replace RU := Lib.hid (RU.out.below b9)
  replace RD := Lib.hid (RD.out.below b9)
  clear b9
  clear RU
  clear RC
  clear RD
  go_wp2_with fail
  refine (HLi.out _ _ _ RF.out hc3).mono ?_
  rintro e wl ⟨lv, rfl, ol, bl⟩
  have hbs := B9.out.size
  have Bl := Lib.hid (b_next B9.out bl)
  obtain ⟨a8, c8, hv, hc8, r8⟩ := own_slice ol
  subst lv
  obtain ⟨g8, rfl, _⟩ := r8.2 Hm.out
  have OL := Lib.hid ol
  have HG := Lib.hid (Nat.le_trans hbs (ol.lt g8 rfl).1)
  clear ol bl r8 hbs RF B9
  go_wp2_with fail
  refine (HX.out _).mono ?_
  rintro e w11 ⟨rfl, hw⟩
  subst w11
  go_wp2_with fail
  have cx := (OL.out.cellAt k (by have := Hkm.out; omega)).trans Hgk.out
  have fx := OL.out.frozenAt k
  refine wp_region_qlast16 (by kernel_rfl) (by kernel_rfl) (by kernel_rfl) ?_
  repeat (go_big_quiet_step ((first | (go_at_call 57; with_reducible exact Calls.quiet_of_same (HB2.out _)) | (go_at_call 57; with_reducible exact Calls.quiet_of_same (HZ.out _)))))
  refine wpQuiet_nil ?_
  intro wq hwq
  obtain ⟨nq, rfl⟩ := hwq
  have OL2 : Hid ((wl.drewN nq).ownsRow _ 3 1 (.slice (some ⟨g8, 0, none⟩) m c8) m (intL F)) := OL.out
  have BL2 : Hid (Below w.heap.size w (wl.drewN nq)) := below_drewN Bl.out nq
  have cy : (wl.drewN nq).cell? ⟨g8, k, none⟩ = some (.int .i64 (y : Int)) := cx
  have fy : (wl.drewN nq).frozen? ⟨g8, k, none⟩ = false := fx
  generalize wl.drewN nq = W5 at OL2 BL2 cy fy ⊢
  clear cx fx OL Bl
  show Oper.wp _ _ _ _ _ _
  go_simp
  have st := (OL2.out.stored k (.int .i64 (z : Int))).1
  rw [← Hset.out] at st
  have bs := BL2.out.setCell (p := ⟨g8, k, none⟩) HG.out (.int .i64 (z : Int))
  generalize W5.setCell ⟨g8, k, none⟩ (.int .i64 (z : Int)) = W6 at st bs ⊢
  obtain ⟨a9, c9, hv9, hc9, r9⟩ := own_slice st
  cases hv9
  have RN := Lib.hid r9
  have B6 := Lib.hid bs
  clear st bs r9 OL2 BL2 cy fy HG
  go_wp2_with fail
  refine (HFc.out _ _ _ RN.out).mono ?_
  rintro e w12 ⟨v12, rfl, ho, b12⟩
  have B12 := Lib.hid (b_next B6.out b12)
  clear B6
  replace RN := Lib.hid (RN.out.below b12)
  clear b12
  obtain ⟨a10, c10, hv, hc10, r12⟩ := own_slice ho
  subst v12
  have RE := Lib.hid r12
  clear ho r12
  go_wp2_with fail
  refine (HPt.out _).mono ?_
  rintro e wp13 ⟨pv13, rfl, op, bp⟩
  have BP13 := Lib.hid (b_next B12.out bp)
  obtain ⟨ap13, cp13, hv, hcp⟩ := own_pairs op
  subst pv13
  clear op bp B12
  clear hcp
  go_wp2_with fail
  refine (HPt.out _).mono ?_
  rintro e wp14 ⟨pv14, rfl, op, bp⟩
  have BP14 := Lib.hid (b_next BP13.out bp)
  obtain ⟨ap14, cp14, hv, hcp⟩ := own_pairs op
  subst pv14
  clear op bp BP13
  obtain ⟨gp, rfl, hcl⟩ := hcp Nat.one_pos
  have ce := hcl 1 (.int .i64 (q : Int)) rfl
  clear hcl
  go_wp2_with fail
  refine (HA.out _).mono ?_
  rintro e w15 ⟨rfl, b15⟩
  have B15 := Lib.hid (b_next BP14.out b15)
  clear BP14
  clear b15
  go_wp2
  go_ret
  exact ⟨rfl, B15.out⟩
set_option maxRecDepth 100000 in
set_option maxHeartbeats 8000000 in
theorem there_bs (x at' by' : Int) (pv : Value) (row F C : List Int) (m m1 k y z r2 : Nat) (L : List (Nat × Nat)) (w : World) (hP : RowIn w pv row) (h : ThW x at' by' (tamL m row) F C m m1 k y z r2) (hL : partsL m = L) (hL3 : L.length ≤ 3) (lc : List Int) (hres : formR m (fun x => (F.set k (z : Int)).getD x 0) = some lc) (p q : Nat) (hone : L = [(p, q)]) (hq : ¬ q = 1) : Calls Try.prog 13 #[.int .i64 x, pv, .int .i64 at', .int .i64 by'] w fun e w' => e = .returned (.bool true) ∧ Below w.heap.size w w' := by
  obtain ⟨hm, hm2, w1, w2, hkk, hkm, hm1, hrr, hr2m, hye, hym, hzz, hzm, hpol, hval, hfl, hfin, hfrm, hcf, hcd, hunf⟩ := h
  have HM := Lib.hid (mod_val x 63 w (by omega) (by omega))
  have HTP := Lib.hid (tame_in m pv row w (by omega) hm2 hP)
  have HV := Lib.hid fun a n cap W hW => Values_yes m a n cap (tamL m row) W hW hpol
  rw [hval] at HV
  have HFo := Lib.hid fun a cap W hW => Form_some m a cap F C W hW hm hm2 hfin hfrm
  have HU := Lib.hid fun a n cap W hW (hc : n ≤ cap) => Unform_yes m a n cap C W hW hc hm hm2 hcf
  rw [hunf] at HU
  have HI := Lib.hid fun a b ca cb W h1 h2 => ints_true a b m ca cb F W h1 h2 (by omega)
  have HI2 := Lib.hid fun a b ca cb W h1 h2 => ints_true a b C.length ca cb C W h1 h2 (by omega)
  have hFd := fun a cap W hW => refFormed_any m a C.length cap C W hW (by omega) hm hm2
  rw [formed_eq hm hm2, hcf] at hFd
  have HFd := Lib.hid hFd
  have HLi := Lib.hid fun a cap W hW hc => list_own m a cap F W hW hc (by omega)
  have hX := fun W => mod_val at' m W (by omega) (by omega)
  rw [← hkk] at hX
  have HX := Lib.hid hX
  have hB2 := fun W => mod_val by' m1 W (by omega) (by omega)
  rw [← hrr] at hB2
  have HB2 := Lib.hid hB2
  have hZ := fun W => mod_val ((y + 1 + r2 : Nat) : Int) m W (by omega) (by omega)
  rw [← hzz] at hZ
  obtain ⟨s, hs⟩ : ∃ s, y + 1 + r2 = s := ⟨_, rfl⟩
  rw [hs] at hZ
  have HZ := Lib.hid hZ
  have HFc := Lib.hid fun a cap W hW => Form_some m a cap (F.set k (z : Int)) lc W hW hm hm2 (set_in hfin hzm) hres
  have hPt := fun W => refParts_any m W (by omega) hm2
  rw [hL] at hPt
  have HPt := Lib.hid hPt
  have HA := Lib.hid fun w => awake_any w
  have n1 : IntKind.i64.wrap ((y : Int) + 1) = ((y + 1 : Nat) : Int) := by rw [IntWalk.i64_in _ (by omega)]; rfl
  have n2 : IntKind.i64.wrap ((m : Int) - 1) = (m1 : Int) := by rw [IntWalk.i64_in _ (by omega)]; omega
  obtain ⟨y1, hy1⟩ : ∃ y1, y + 1 = y1 := ⟨_, rfl⟩
  rw [hy1] at n1
  have n3 : IntKind.i64.wrap ((y1 : Int) + (r2 : Int)) = (s : Int) := by rw [IntWalk.i64_in _ (by omega)]; omega
  have hki : (k : Int) < (m : Int) := by omega
  have hset := intL_set F k (z : Int)
  have hgk : (intL F)[k]? = some (.int .i64 (y : Int)) := intL_get (by rw [← hye, List.getD_eq_getElem?_getD, List.getElem?_eq_getElem (by omega)]; rfl)
  have Hset := Lib.hid hset
  have Hgk := Lib.hid hgk
  have Hkm := Lib.hid hkm
  have Hm := Lib.hid (show 0 < m by omega)
  generalize modV x 63 = r at *
  generalize F.set k (z : Int) = Fc at *
  generalize tamL m row = P at *
  generalize hcl : C.length = cl at *
  subst hone
  have hqq : ((q : Int) == 1) = false := by rw [beq_eq_false_iff_ne]; omega
  generalize hlc : lc.length = nc at *
  clear hX hB2 hZ hFd hPt hset hgk hkk hkm hm1 hrr hr2m hye hym hzz hzm hpol hval hfl hfin hfrm hcf hcd hunf hs hy1 hP hL hL3 hres hcl hlc hq
  go_enter Try.func13, Try.ntmps13
  go_wp2_with fail
  refine (HM.out).mono ?_
  rintro e w1 ⟨rfl, hw⟩
  subst w1
  go_wp2_with fail
  refine HTP.out.mono ?_
  rintro e wt ⟨tv, rfl, ot, bt⟩
  have Bt := Lib.hid bt
  obtain ⟨a2, c2, hv, hc2, r2'⟩ := own_slice ot
  subst tv
  have RP := Lib.hid r2'
  clear ot bt r2'
  go_wp2_with fail
  refine (HV.out _ _ _ _ RP.out).mono ?_
  rintro e w3 ⟨v3, rfl, ho, b3⟩
  have B3 := Lib.hid (b_next Bt.out b3)
  clear Bt
  replace RP := Lib.hid (RP.out.below b3)
  clear b3
  obtain ⟨a3, c3, hv, hc3, r3⟩ := own_slice ho
  subst v3
  have RF := Lib.hid r3
  clear ho r3
  clear RP
  go_wp2_with fail
  refine (HFo.out _ _ _ RF.out).mono ?_
  rintro e w4 ⟨v4, rfl, ho, b4⟩
  have B4 := Lib.hid (b_next B3.out b4)
  clear B3
  replace RF := Lib.hid (RF.out.below b4)
  clear b4
  obtain ⟨a4, c4, hv, hc4, r4⟩ := own_slice ho
  subst v4
  have RC := Lib.hid r4
  clear ho r4
  go_wp2_with fail
  refine (HU.out _ _ _ _ RC.out hc4).mono ?_
  rintro e w5 ⟨v5, rfl, ho, b5⟩
  have B5 := Lib.hid (b_next B4.out b5)
  clear B4
  replace RF := Lib.hid (RF.out.below b5)
  replace RC := Lib.hid (RC.out.below b5)
  clear b5
  obtain ⟨a5, c5, hv, hc5, r5⟩ := own_slice ho
  subst v5
  have RU := Lib.hid r5
  clear ho r5
  go_wp2_with fail
  refine (HFo.out _ _ _ RU.out).mono ?_
  rintro e w6 ⟨v6, rfl, ho, b6⟩
  have B6 := Lib.hid (b_next B5.out b6)
  clear B5
  replace RF := Lib.hid (RF.out.below b6)
  replace RC := Lib.hid (RC.out.below b6)
  replace RU := Lib.hid (RU.out.below b6)
  clear b6
  obtain ⟨a6, c6, hv, hc6, r6⟩ := own_slice ho
  subst v6
  have RD := Lib.hid r6
  clear ho r6
  go_wp2_with fail
  refine (HI.out _ _ _ _ _ RU.out RF.out).mono ?_
  rintro e w7 ⟨rfl, hq⟩
  have b7 := drew_below hq
  clear hq
  have B7 := Lib.hid (b_next B6.out b7)
  clear B6
  replace RF := Lib.hid (RF.out.below b7)
  replace RC := Lib.hid (RC.out.below b7)
  replace RU := Lib.hid (RU.out.below b7)
  replace RD := Lib.hid (RD.out.below b7)
  clear b7
  go_wp2_with fail
  refine (HI2.out _ _ _ _ _ RC.out RD.out).mono ?_
  rintro e w8 ⟨rfl, hq⟩
  have b8 := drew_below hq
  clear hq
  have B8 := Lib.hid (b_next B7.out b8)
  clear B7
  replace RF := Lib.hid (RF.out.below b8)
  replace RC := Lib.hid (RC.out.below b8)
  replace RU := Lib.hid (RU.out.below b8)
  replace RD := Lib.hid (RD.out.below b8)
  clear b8
  go_wp2_with fail
  refine (HFd.out _ _ _ RC.out).mono ?_
  rintro e w9 ⟨rfl, hq⟩
  have b9 := drew_below hq
  clear hq
  have B9 := Lib.hid (b_next B8.out b9)
  clear B8
  replace RF := Lib.hid (RF.out.below b9)
  replace RC := Lib.hid (RC.out.below b9)
  replace RU := Lib.hid (RU.out.below b9)
  replace RD := Lib.hid (RD.out.below b9)
  clear b9
  clear RU
  clear RC
  clear RD
  go_wp2_with fail
  refine (HLi.out _ _ _ RF.out hc3).mono ?_
  rintro e wl ⟨lv, rfl, ol, bl⟩
  have hbs := B9.out.size
  have Bl := Lib.hid (b_next B9.out bl)
  obtain ⟨a8, c8, hv, hc8, r8⟩ := own_slice ol
  subst lv
  obtain ⟨g8, rfl, _⟩ := r8.2 Hm.out
  have OL := Lib.hid ol
  have HG := Lib.hid (Nat.le_trans hbs (ol.lt g8 rfl).1)
  clear ol bl r8 hbs RF B9
  go_wp2_with fail
  refine (HX.out _).mono ?_
  rintro e w11 ⟨rfl, hw⟩
  subst w11
  go_wp2_with fail
  have cx := (OL.out.cellAt k (by have := Hkm.out; omega)).trans Hgk.out
  have fx := OL.out.frozenAt k
  refine wp_region_qlast16 (by kernel_rfl) (by kernel_rfl) (by kernel_rfl) ?_
  repeat (go_big_quiet_step ((first | (go_at_call 57; with_reducible exact Calls.quiet_of_same (HB2.out _)) | (go_at_call 57; with_reducible exact Calls.quiet_of_same (HZ.out _)))))
  refine wpQuiet_nil ?_
  intro wq hwq
  obtain ⟨nq, rfl⟩ := hwq
  have OL2 : Hid ((wl.drewN nq).ownsRow _ 3 1 (.slice (some ⟨g8, 0, none⟩) m c8) m (intL F)) := OL.out
  have BL2 : Hid (Below w.heap.size w (wl.drewN nq)) := below_drewN Bl.out nq
  have cy : (wl.drewN nq).cell? ⟨g8, k, none⟩ = some (.int .i64 (y : Int)) := cx
  have fy : (wl.drewN nq).frozen? ⟨g8, k, none⟩ = false := fx
  generalize wl.drewN nq = W5 at OL2 BL2 cy fy ⊢
  clear cx fx OL Bl
  show Oper.wp _ _ _ _ _ _
  go_simp
  have st := (OL2.out.stored k (.int .i64 (z : Int))).1
  rw [← Hset.out] at st
  have bs := BL2.out.setCell (p := ⟨g8, k, none⟩) HG.out (.int .i64 (z : Int))
  generalize W5.setCell ⟨g8, k, none⟩ (.int .i64 (z : Int)) = W6 at st bs ⊢
  obtain ⟨a9, c9, hv9, hc9, r9⟩ := own_slice st
  cases hv9
  have RN := Lib.hid r9
  have B6 := Lib.hid bs
  clear st bs r9 OL2 BL2 cy fy HG
  go_wp2_with fail
  refine (HFc.out _ _ _ RN.out).mono ?_
  rintro e w12 ⟨v12, rfl, ho, b12⟩
  have B12 := Lib.hid (b_next B6.out b12)
  clear B6
  replace RN := Lib.hid (RN.out.below b12)
  clear b12
  obtain ⟨a10, c10, hv, hc10, r12⟩ := own_slice ho
  subst v12
  have RE := Lib.hid r12
  clear ho r12
  go_wp2_with fail
  refine (HPt.out _).mono ?_
  rintro e wp13 ⟨pv13, rfl, op, bp⟩
  have BP13 := Lib.hid (b_next B12.out bp)
  obtain ⟨ap13, cp13, hv, hcp⟩ := own_pairs op
  subst pv13
  clear op bp B12
  clear hcp
  go_wp2_with fail
  refine (HPt.out _).mono ?_
  rintro e wp14 ⟨pv14, rfl, op, bp⟩
  have BP14 := Lib.hid (b_next BP13.out bp)
  obtain ⟨ap14, cp14, hv, hcp⟩ := own_pairs op
  subst pv14
  clear op bp BP13
  obtain ⟨gp, rfl, hcl⟩ := hcp Nat.one_pos
  have ce := hcl 1 (.int .i64 (q : Int)) rfl
  clear hcl
  go_wp2_with fail
  refine (HA.out _).mono ?_
  rintro e w15 ⟨rfl, b15⟩
  have B15 := Lib.hid (b_next BP14.out b15)
  clear BP14
  clear b15
  go_wp2
  go_ret
  exact ⟨rfl, B15.out⟩
set_option maxRecDepth 100000 in
set_option maxHeartbeats 8000000 in
theorem there_bn (x at' by' : Int) (pv : Value) (row F C : List Int) (m m1 k y z r2 : Nat) (L : List (Nat × Nat)) (w : World) (hP : RowIn w pv row) (h : ThW x at' by' (tamL m row) F C m m1 k y z r2) (hL : partsL m = L) (hL3 : L.length ≤ 3) (hres : formR m (fun x => (F.set k (z : Int)).getD x 0) = none) (p q : Nat) (hone : L = [(p, q)]) (hq : ¬ q = 1) : Calls Try.prog 13 #[.int .i64 x, pv, .int .i64 at', .int .i64 by'] w fun e w' => e = .returned (.bool true) ∧ Below w.heap.size w w' := by
  obtain ⟨hm, hm2, w1, w2, hkk, hkm, hm1, hrr, hr2m, hye, hym, hzz, hzm, hpol, hval, hfl, hfin, hfrm, hcf, hcd, hunf⟩ := h
  have HM := Lib.hid (mod_val x 63 w (by omega) (by omega))
  have HTP := Lib.hid (tame_in m pv row w (by omega) hm2 hP)
  have HV := Lib.hid fun a n cap W hW => Values_yes m a n cap (tamL m row) W hW hpol
  rw [hval] at HV
  have HFo := Lib.hid fun a cap W hW => Form_some m a cap F C W hW hm hm2 hfin hfrm
  have HU := Lib.hid fun a n cap W hW (hc : n ≤ cap) => Unform_yes m a n cap C W hW hc hm hm2 hcf
  rw [hunf] at HU
  have HI := Lib.hid fun a b ca cb W h1 h2 => ints_true a b m ca cb F W h1 h2 (by omega)
  have HI2 := Lib.hid fun a b ca cb W h1 h2 => ints_true a b C.length ca cb C W h1 h2 (by omega)
  have hFd := fun a cap W hW => refFormed_any m a C.length cap C W hW (by omega) hm hm2
  rw [formed_eq hm hm2, hcf] at hFd
  have HFd := Lib.hid hFd
  have HLi := Lib.hid fun a cap W hW hc => list_own m a cap F W hW hc (by omega)
  have hX := fun W => mod_val at' m W (by omega) (by omega)
  rw [← hkk] at hX
  have HX := Lib.hid hX
  have hB2 := fun W => mod_val by' m1 W (by omega) (by omega)
  rw [← hrr] at hB2
  have HB2 := Lib.hid hB2
  have hZ := fun W => mod_val ((y + 1 + r2 : Nat) : Int) m W (by omega) (by omega)
  rw [← hzz] at hZ
  obtain ⟨s, hs⟩ : ∃ s, y + 1 + r2 = s := ⟨_, rfl⟩
  rw [hs] at hZ
  have HZ := Lib.hid hZ
  have HFc := Lib.hid fun a cap W hW => Form_none m a cap (F.set k (z : Int)) W hW hm hm2 (set_in hfin hzm) hres
  have hPt := fun W => refParts_any m W (by omega) hm2
  rw [hL] at hPt
  have HPt := Lib.hid hPt
  have HA := Lib.hid fun w => awake_any w
  have n1 : IntKind.i64.wrap ((y : Int) + 1) = ((y + 1 : Nat) : Int) := by rw [IntWalk.i64_in _ (by omega)]; rfl
  have n2 : IntKind.i64.wrap ((m : Int) - 1) = (m1 : Int) := by rw [IntWalk.i64_in _ (by omega)]; omega
  obtain ⟨y1, hy1⟩ : ∃ y1, y + 1 = y1 := ⟨_, rfl⟩
  rw [hy1] at n1
  have n3 : IntKind.i64.wrap ((y1 : Int) + (r2 : Int)) = (s : Int) := by rw [IntWalk.i64_in _ (by omega)]; omega
  have hki : (k : Int) < (m : Int) := by omega
  have hset := intL_set F k (z : Int)
  have hgk : (intL F)[k]? = some (.int .i64 (y : Int)) := intL_get (by rw [← hye, List.getD_eq_getElem?_getD, List.getElem?_eq_getElem (by omega)]; rfl)
  have Hset := Lib.hid hset
  have Hgk := Lib.hid hgk
  have Hkm := Lib.hid hkm
  have Hm := Lib.hid (show 0 < m by omega)
  generalize modV x 63 = r at *
  generalize F.set k (z : Int) = Fc at *
  generalize tamL m row = P at *
  generalize hcl : C.length = cl at *
  subst hone
  have hqq : ((q : Int) == 1) = false := by rw [beq_eq_false_iff_ne]; omega
  clear hX hB2 hZ hFd hPt hset hgk hkk hkm hm1 hrr hr2m hye hym hzz hzm hpol hval hfl hfin hfrm hcf hcd hunf hs hy1 hP hL hL3 hres hcl hq
  go_enter Try.func13, Try.ntmps13
  go_wp2_with fail
  refine (HM.out).mono ?_
  rintro e w1 ⟨rfl, hw⟩
  subst w1
  go_wp2_with fail
  refine HTP.out.mono ?_
  rintro e wt ⟨tv, rfl, ot, bt⟩
  have Bt := Lib.hid bt
  obtain ⟨a2, c2, hv, hc2, r2'⟩ := own_slice ot
  subst tv
  have RP := Lib.hid r2'
  clear ot bt r2'
  go_wp2_with fail
  refine (HV.out _ _ _ _ RP.out).mono ?_
  rintro e w3 ⟨v3, rfl, ho, b3⟩
  have B3 := Lib.hid (b_next Bt.out b3)
  clear Bt
  replace RP := Lib.hid (RP.out.below b3)
  clear b3
  obtain ⟨a3, c3, hv, hc3, r3⟩ := own_slice ho
  subst v3
  have RF := Lib.hid r3
  clear ho r3
  clear RP
  go_wp2_with fail
  refine (HFo.out _ _ _ RF.out).mono ?_
  rintro e w4 ⟨v4, rfl, ho, b4⟩
  have B4 := Lib.hid (b_next B3.out b4)
  clear B3
  replace RF := Lib.hid (RF.out.below b4)
  clear b4
  obtain ⟨a4, c4, hv, hc4, r4⟩ := own_slice ho
  subst v4
  have RC := Lib.hid r4
  clear ho r4
  go_wp2_with fail
  refine (HU.out _ _ _ _ RC.out hc4).mono ?_
  rintro e w5 ⟨v5, rfl, ho, b5⟩
  have B5 := Lib.hid (b_next B4.out b5)
  clear B4
  replace RF := Lib.hid (RF.out.below b5)
  replace RC := Lib.hid (RC.out.below b5)
  clear b5
  obtain ⟨a5, c5, hv, hc5, r5⟩ := own_slice ho
  subst v5
  have RU := Lib.hid r5
  clear ho r5
  go_wp2_with fail
  refine (HFo.out _ _ _ RU.out).mono ?_
  rintro e w6 ⟨v6, rfl, ho, b6⟩
  have B6 := Lib.hid (b_next B5.out b6)
  clear B5
  replace RF := Lib.hid (RF.out.below b6)
  replace RC := Lib.hid (RC.out.below b6)
  replace RU := Lib.hid (RU.out.below b6)
  clear b6
  obtain ⟨a6, c6, hv, hc6, r6⟩ := own_slice ho
  subst v6
  have RD := Lib.hid r6
  clear ho r6
  go_wp2_with fail
  refine (HI.out _ _ _ _ _ RU.out RF.out).mono ?_
  rintro e w7 ⟨rfl, hq⟩
  have b7 := drew_below hq
  clear hq
  have B7 := Lib.hid (b_next B6.out b7)
  clear B6
  replace RF := Lib.hid (RF.out.below b7)
  replace RC := Lib.hid (RC.out.below b7)
  replace RU := Lib.hid (RU.out.below b7)
  replace RD := Lib.hid (RD.out.below b7)
  clear b7
  go_wp2_with fail
  refine (HI2.out _ _ _ _ _ RC.out RD.out).mono ?_
  rintro e w8 ⟨rfl, hq⟩
  have b8 := drew_below hq
  clear hq
  have B8 := Lib.hid (b_next B7.out b8)
  clear B7
  replace RF := Lib.hid (RF.out.below b8)
  replace RC := Lib.hid (RC.out.below b8)
  replace RU := Lib.hid (RU.out.below b8)
  replace RD := Lib.hid (RD.out.below b8)
  clear b8
  go_wp2_with fail
  refine (HFd.out _ _ _ RC.out).mono ?_
  rintro e w9 ⟨rfl, hq⟩
  have b9 := drew_below hq
  clear hq
  have B9 := Lib.hid (b_next B8.out b9)
  clear B8
  replace RF := Lib.hid (RF.out.below b9)
  replace RC := Lib.hid (RC.out.below b9)
  replace RU := Lib.hid (RU.out.below b9)
  replace RD := Lib.hid (RD.out.below b9)
  clear b9
  clear RU
  clear RC
  clear RD
  go_wp2_with fail
  refine (HLi.out _ _ _ RF.out hc3).mono ?_
  rintro e wl ⟨lv, rfl, ol, bl⟩
  have hbs := B9.out.size
  have Bl := Lib.hid (b_next B9.out bl)
  obtain ⟨a8, c8, hv, hc8, r8⟩ := own_slice ol
  subst lv
  obtain ⟨g8, rfl, _⟩ := r8.2 Hm.out
  have OL := Lib.hid ol
  have HG := Lib.hid (Nat.le_trans hbs (ol.lt g8 rfl).1)
  clear ol bl r8 hbs RF B9
  go_wp2_with fail
  refine (HX.out _).mono ?_
  rintro e w11 ⟨rfl, hw⟩
  subst w11
  go_wp2_with fail
  have cx := (OL.out.cellAt k (by have := Hkm.out; omega)).trans Hgk.out
  have fx := OL.out.frozenAt k
  refine wp_region_qlast16 (by kernel_rfl) (by kernel_rfl) (by kernel_rfl) ?_
  repeat (go_big_quiet_step ((first | (go_at_call 57; with_reducible exact Calls.quiet_of_same (HB2.out _)) | (go_at_call 57; with_reducible exact Calls.quiet_of_same (HZ.out _)))))
  refine wpQuiet_nil ?_
  intro wq hwq
  obtain ⟨nq, rfl⟩ := hwq
  have OL2 : Hid ((wl.drewN nq).ownsRow _ 3 1 (.slice (some ⟨g8, 0, none⟩) m c8) m (intL F)) := OL.out
  have BL2 : Hid (Below w.heap.size w (wl.drewN nq)) := below_drewN Bl.out nq
  have cy : (wl.drewN nq).cell? ⟨g8, k, none⟩ = some (.int .i64 (y : Int)) := cx
  have fy : (wl.drewN nq).frozen? ⟨g8, k, none⟩ = false := fx
  generalize wl.drewN nq = W5 at OL2 BL2 cy fy ⊢
  clear cx fx OL Bl
  show Oper.wp _ _ _ _ _ _
  go_simp
  have st := (OL2.out.stored k (.int .i64 (z : Int))).1
  rw [← Hset.out] at st
  have bs := BL2.out.setCell (p := ⟨g8, k, none⟩) HG.out (.int .i64 (z : Int))
  generalize W5.setCell ⟨g8, k, none⟩ (.int .i64 (z : Int)) = W6 at st bs ⊢
  obtain ⟨a9, c9, hv9, hc9, r9⟩ := own_slice st
  cases hv9
  have RN := Lib.hid r9
  have B6 := Lib.hid bs
  clear st bs r9 OL2 BL2 cy fy HG
  go_wp2_with fail
  refine (HFc.out _ _ _ RN.out).mono ?_
  rintro e w12 ⟨rfl, b12⟩
  have B12 := Lib.hid (b_next B6.out b12)
  clear B6
  replace RN := Lib.hid (RN.out.below b12)
  clear b12
  go_wp2_with fail
  refine (HPt.out _).mono ?_
  rintro e wp13 ⟨pv13, rfl, op, bp⟩
  have BP13 := Lib.hid (b_next B12.out bp)
  obtain ⟨ap13, cp13, hv, hcp⟩ := own_pairs op
  subst pv13
  clear op bp B12
  clear hcp
  go_wp2_with fail
  refine (HPt.out _).mono ?_
  rintro e wp14 ⟨pv14, rfl, op, bp⟩
  have BP14 := Lib.hid (b_next BP13.out bp)
  obtain ⟨ap14, cp14, hv, hcp⟩ := own_pairs op
  subst pv14
  clear op bp BP13
  obtain ⟨gp, rfl, hcl⟩ := hcp Nat.one_pos
  have ce := hcl 1 (.int .i64 (q : Int)) rfl
  clear hcl
  go_wp2_with fail
  refine (HA.out _).mono ?_
  rintro e w15 ⟨rfl, b15⟩
  have B15 := Lib.hid (b_next BP14.out b15)
  clear BP14
  clear b15
  go_wp2
  go_ret
  exact ⟨rfl, B15.out⟩
theorem walk_ShuffleThere (x : Int) (_ : (Lit.int .i64 x).wf = true) (pv : Value) (row : List Int) (w : World) (hP : RowIn w pv row) (a : Int) (_ : (Lit.int .i64 a).wf = true) (b : Int) (_ : (Lit.int .i64 b).wf = true) : Calls Try.prog 13 #[.int .i64 x, pv, .int .i64 a, .int .i64 b] w fun e w' => e = .returned (.bool true) ∧ Below w.heap.size w w' := by
  obtain ⟨F, C, m, m1, k, y, z, r2, h⟩ := thW x a b row
  obtain ⟨hl1, hl3⟩ := parts_some ⟨m, by have := h.m64; omega⟩ h.m2
  simp only at hl1 hl3
  obtain ⟨L, hL⟩ : ∃ L, partsL m = L := ⟨_, rfl⟩
  rw [hL] at hl1 hl3
  have hsi := set_in (k := k) h.fin h.zm
  cases hres : formR m (fun x => (F.set k (z : Int)).getD x 0) with
  | some lc =>
    by_cases hone : L.length = 1
    · obtain ⟨p, hp⟩ := parts_one hone
      obtain ⟨q, hq⟩ : ∃ q, (L.getD 0 (0, 0)).2 = q := ⟨_, rfl⟩
      rw [hq] at hp
      by_cases hq1 : q = 1
      · exact there_b1 x a b pv row F C m m1 k y z r2 L w hP h hL hl3 lc hres p q hp hq1
      · exact there_bs x a b pv row F C m m1 k y z r2 L w hP h hL hl3 lc hres p q hp hq1
    · exact there_as x a b pv row F C m m1 k y z r2 L w hP h hL hl3 lc hres hone
  | none =>
    by_cases hone : L.length = 1
    · obtain ⟨p, hp⟩ := parts_one hone
      obtain ⟨q, hq⟩ : ∃ q, (L.getD 0 (0, 0)).2 = q := ⟨_, rfl⟩
      by_cases hq1 : q = 1
      · exfalso
        have hpr : primeB m = true := by
          unfold primeB
          rw [hL, hq, hone, hq1]; rfl
        obtain ⟨l, hl⟩ := form_prime h.m2 h.m64 hpr (f := fun x => (F.set k (z : Int)).getD x 0) fun x hx => hsi _ (by rw [List.getD_eq_getElem?_getD, List.getElem?_eq_getElem (by rw [List.length_set, h.flen]; exact hx)]; exact List.getElem_mem _)
        rw [hl] at hres
        cases hres
      · rw [hq] at hp
        exact there_bn x a b pv row F C m m1 k y z r2 L w hP h hL hl3 hres p q hp hq1
    · exact there_an x a b pv row F C m m1 k y z r2 L w hP h hL hl3 hres hone
end Go.Proofs.Ytndbjojjaapeaaa

/- The reference's Unform, Differ, After. -/
namespace Go.Proofs.Ytndbjojjaapeaaa
set_option linter.unusedVariables false
open Go.RowKit

theorem uf_num {m f : Nat} {v y r : Int} (hm : 2 ≤ m) (hm2 : m ≤ 64) (hv : 0 ≤ v ∧ v < m) (hy : 0 ≤ y ∧ y ≤ 64) (hf : f < m) (h : (v + y * (f : Int)) % (m : Int) = r) :
    ∃ p s : Int, IntKind.i64.wrap (y * (f : Int)) = p ∧ wrap64 (y * (f : Int)) = p ∧ IntKind.i64.wrap (v + p) = s ∧ wrap64 (v + p) = s ∧ Int.tmod s (m : Int) = r ∧ IntKind.i64.wrap r = r ∧ wrap64 r = r ∧ 0 ≤ r ∧ r < m := by
  have h1 : y * (f : Int) ≤ 64 * 64 := Int.mul_le_mul (by omega) (by omega) (by omega) (by omega)
  have h2 : 0 ≤ y * (f : Int) := Int.mul_nonneg (by omega) (by omega)
  have h3 := Int.emod_nonneg (v + y * (f : Int)) (show (m : Int) ≠ 0 by omega)
  have h4 := Int.emod_lt_of_pos (v + y * (f : Int)) (show (0 : Int) < m by omega)
  rw [h] at h3 h4
  refine ⟨y * (f : Int), v + y * (f : Int), IntWalk.i64_in _ (by omega), IntWalk.wrap64_in _ (by omega), IntWalk.i64_in _ (by omega), IntWalk.wrap64_in _ (by omega), ?_, IntWalk.i64_in _ (by omega), IntWalk.wrap64_in _ (by omega), h3, h4⟩
  rw [Int.tmod_eq_emod_of_nonneg (by omega)]; exact h
theorem range_take {n k : Nat} (f : Nat → Int) (h : k < n) : ((List.range n).map f).take (k + 1) = ((List.range n).map f).take k ++ [f k] := by
  rw [List.take_add_one, List.getElem?_map, List.getElem?_range h]; rfl
set_option maxRecDepth 100000 in
set_option maxHeartbeats 4000000 in
theorem refUnform_any (m : Nat) (a : Option Addr) (n cap : Nat) (xs : List Int) (w : World) (hr : Row w a n (intL xs)) (hn : n ≤ 100) (hm : 2 ≤ m) (hm2 : m ≤ 64) (hxs : ∀ x ∈ xs, 0 ≤ x ∧ x ≤ 64) :
    Calls Try.prog 48 #[.int .i64 m, .slice a n cap] w fun e w' => ∃ v, e = .returned v ∧ w'.ownsRow w.heap.size 3 1 v m (intL ((List.range m).map fun x : Nat => formV m xs x)) ∧ Below w.heap.size w w' := by
  have hx : xs.length = n := by have := hr.1; simpa [intL] using this
  obtain ⟨i0, hi, hz0, hz1, hz2⟩ := info_parts info_int
  have hF := fun (x i : Nat) (hx : x ≤ 100) (hi : i ≤ 100) w => falling_any m x i w hm hm2 hx hi
  have hfl := fun x i => fallN_lt hm x i
  have hval : ∀ x : Nat, formV m xs x = valV m xs x n := fun x => by rw [formV_val hm, hx]
  have hv0 : ∀ x, valV m xs x 0 = 0 := fun _ => rfl
  have hvs : ∀ x i, valV m xs x (i + 1) = (valV m xs x i + xs.getD i 0 * (fallN m x i : Int)) % (m : Int) := fun _ _ => rfl
  have hvr := fun x i => valV_range (show 0 < m by omega) xs x i
  have htk := fun k (h : k < m) => range_take (n := m) (fun x : Nat => formV m xs x) h
  have hg : ∀ i, i < n → 0 ≤ xs.getD i 0 ∧ xs.getD i 0 ≤ 64 := fun i hi => hxs _ (by rw [List.getD_eq_getElem?_getD, List.getElem?_eq_getElem (by omega)]; exact List.getElem_mem _)
  have hml : ((List.range m).map fun x : Nat => formV m xs x).take m = (List.range m).map fun x : Nat => formV m xs x := List.take_of_length_le (by simp)
  generalize ((List.range m).map fun x : Nat => formV m xs x) = L at *
  generalize formV m xs = fv at *
  generalize valV m xs = vv at *
  generalize fallN m = fn at *
  have HF := Lib.hid hF
  have Hfl := Lib.hid hfl
  have Hval := Lib.hid hval
  have Hv0 := Lib.hid hv0
  have Hvs := Lib.hid hvs
  have Hvr := Lib.hid hvr
  have Htk := Lib.hid htk
  have Hg := Lib.hid hg
  have Hml := Lib.hid hml
  have Hr := Lib.hid hr
  clear hF hfl hval hv0 hvs hvr htk hg hml hr hxs hx
  obtain ⟨z1, z2⟩ := zero_no hm
  go_enter Try.func48, Try.ntmps48
  go_wp2
  go_loopw [5, 6] (fun v i wr => ∃ k : Nat, k ≤ m ∧ i = .int .i64 k ∧ wr.ownsRow w.heap.size 3 1 v k (intL (L.take k)) ∧ Below w.heap.size w wr) (fun _ i _ => m - (intOf i).toNat)
  case atStart => exact ⟨0, Nat.zero_le _, rfl, World.ownsRow_nil _ _ _ _, Below.refl _ _⟩
  case round =>
    obtain ⟨k, hk, rfl, ho, hB⟩ := hrel
    obtain ⟨a5, c5, hv5, -⟩ := Row.of_own ho
    subst hv5
    have HO := Lib.hid ho
    have HB := Lib.hid hB
    clear ho hB
    by_cases hlt : k < m
    · have hc : (k : Int) < (m : Int) := by omega
      have hk100 : k ≤ 100 := by omega
      generalize wr = W1 at *
      go_wp2
      go_loopw [7, 8] (fun t i w2 => ∃ j q : Nat, j ≤ n ∧ i = .int .i64 j ∧ t = .int .i64 (vv k j) ∧ w2 = W1.drewN q) (fun _ i _ => n - (intOf i).toNat)
      case atStart => exact ⟨0, 0, Nat.zero_le _, rfl, by rw [Hv0.out], rfl⟩
      case round =>
        obtain ⟨j, q, hj, rfl, rfl, hw⟩ := hrel
        subst wr
        by_cases hjn : j < n
        · have hc2 : (j : Int) < (n : Int) := by omega
          have hC := fun w => HF.out k j hk100 (by omega) w
          have hfj := Hfl.out k j
          have hvr := Hvr.out k j
          have hgj := Hg.out j hjn
          obtain ⟨r, hr⟩ : ∃ r, vv k (j + 1) = r := ⟨_, rfl⟩
          have hs := Hvs.out k j
          rw [hr] at hs
          obtain ⟨g, rfl, cx⟩ := (Hr.out.below HB.out).int hjn
          generalize xs.getD j 0 = y at cx hgj hs
          generalize fn k j = f at hC hfj hs
          generalize vv k j = u at hvr hs ⊢
          obtain ⟨p, s, n1, n2, n3, n4, n5, n6, n7, _⟩ := uf_num hm hm2 hvr hgj hfj hs.symm
          have HC := Lib.hid hC
          have HR := Lib.hid hr
          have Hgo := Lib.hid (And.intro (show j + 1 ≤ n by omega) hjn)
          clear hC hr hs hgj hfj hvr
          go_wp2
          go_quiet ((go_at_call 86; with_reducible exact quiet_still (HC.out _)))
          go_wp2
          go_roundw
          case rel => exact ⟨j + 1, _, Hgo.out.1, by go_num, by rw [HR.out], by first | rfl | exact World.drewN_drewN _ _ _ | trivial⟩
          case measure => exact mz_upn Hgo.out.2
        · obtain rfl : j = n := by omega
          have hc2 : ¬ (j : Int) < (j : Int) := by omega
          have hT := Htk.out k hlt
          have hV := Hval.out k
          generalize vv k j = u at hV ⊢
          rw [hV] at hT
          have HT := Lib.hid hT
          have HO2 : Hid ((W1.drewN q).ownsRow w.heap.size 3 1 (.slice a5 k c5) k (intL (L.take k))) := HO.out
          have HB2 : Hid (Below w.heap.size w (W1.drewN q)) := below_drewN HB.out q
          generalize W1.drewN q = W5 at HO2 HB2 ⊢
          have Hgo := Lib.hid (And.intro (show k + 1 ≤ m by omega) hlt)
          clear hT hV
          go_wp2_with (at_builtin; refine wpList_append_own _ rfl _ _ 22 rfl w.heap.size 3 i0 (.int .i64 0) 1 8 Try.underlying22 hi hz0 hz1 hz2 rfl (by decide) _ _ _ rfl (HO2.out.alloc (.cells #[.int .i64 u] 3)) ⟨_, 0, none⟩ 1 1 [.int .i64 u] rfl rfl (one_new _ _ _ _ (by simp)) (by simp [Value.oneCell']) (by unfold maxLen; omega) (by omega) (by have := HB2.out.size; simp; omega) ?_; intro v2 w6 hown2 hgrow2 _
                       obtain ⟨a6, c6, hv6, -⟩ := Row.of_own hown2
                       subst hv6
                       have HB6 : Hid (Below w.heap.size w w6) := rel_push HB2.out (by have := HB2.out.size; simp; omega) ((Below.refl _ _).alloc HB2.out.size _) HO2.out hgrow2
                       have HO6 := Lib.hid hown2
                       clear hown2 hgrow2)
          go_roundw
          case rel =>
            refine ⟨k + 1, Hgo.out.1, by go_num, ?_, HB6.out⟩
            rw [HT.out]
            unfold intL
            rw [List.map_append]
            exact HO6.out
          case measure => exact mz_upn Hgo.out.2
    · obtain rfl : k = m := by omega
      have hc : ¬ (k : Int) < (k : Int) := by omega
      have ho := HO.out
      rw [Hml.out] at ho
      have HO3 := Lib.hid ho
      clear ho
      go_wp2
      go_ret
      exact ⟨_, rfl, HO3.out, HB.out⟩
end Go.Proofs.Ytndbjojjaapeaaa

/- Same. -/
namespace Go.Proofs.Ytndbjojjaapeaaa
set_option linter.unusedVariables false
open Go.RowKit

/-- the first number from k on, below k + r, that meets P, or -1 -/
def firstN (P : Nat → Bool) : Nat → Nat → Int
  | 0, _ => -1
  | r + 1, k => if P k then (k : Int) else firstN P r (k + 1)
theorem firstN_congr {P Q : Nat → Bool} : ∀ (r k : Nat), (∀ x, k ≤ x → x < k + r → P x = Q x) → firstN P r k = firstN Q r k
  | 0, _, _ => rfl
  | r + 1, k, h => by
    unfold firstN
    rw [h k (Nat.le_refl _) (by omega), firstN_congr r (k + 1) fun x h1 h2 => h x (by omega) (by omega)]
theorem firstN_none {P : Nat → Bool} : ∀ (r k : Nat), (∀ x, k ≤ x → x < k + r → P x = false) → firstN P r k = -1
  | 0, _, _ => rfl
  | r + 1, k, h => by
    unfold firstN
    rw [h k (Nat.le_refl _) (by omega), if_neg (by decide)]
    exact firstN_none r (k + 1) fun x h1 h2 => h x (by omega) (by omega)
theorem firstN_is {P : Nat → Bool} : ∀ (r k : Nat), (firstN P r k = -1 ∧ ∀ x, k ≤ x → x < k + r → P x = false) ∨ ∃ j : Nat, firstN P r k = (j : Int) ∧ k ≤ j ∧ j < k + r ∧ P j = true ∧ ∀ x, k ≤ x → x < j → P x = false
  | 0, k => .inl ⟨rfl, fun x h1 h2 => by omega⟩
  | r + 1, k => by
    unfold firstN
    cases hp : P k with
    | true => exact .inr ⟨k, by simp, Nat.le_refl _, by omega, hp, fun x h1 h2 => by omega⟩
    | false =>
      rcases firstN_is (P := P) r (k + 1) with ⟨h1, h2⟩ | ⟨j, h1, h2, h3, h4, h5⟩
      · left
        refine ⟨by simpa using h1, fun x hx1 hx2 => ?_⟩
        by_cases e : x = k
        · rw [e]; exact hp
        · exact h2 x (by omega) (by omega)
      · right
        refine ⟨j, by simpa using h1, by omega, by omega, h4, fun x hx1 hx2 => ?_⟩
        by_cases e : x = k
        · rw [e]; exact hp
        · exact h5 x (by omega) hx2
theorem firstN_step {P : Nat → Bool} {n k : Nat} (h : k < n) : firstN P (n - k) k = if P k then (k : Int) else firstN P (n - (k + 1)) (k + 1) := by
  rw [show n - k = (n - (k + 1)) + 1 by omega]; rfl
def differP (P Q : Nat → Int) (x : Nat) : Bool := decide (P x ≠ Q x)
def sameR (m : Nat) (P Q : List Int) : Int := firstN (differP (fun x => polyV m P x) (fun x => polyV m Q x)) m 0
set_option maxRecDepth 100000 in
theorem Same_no1 (m : Int) (a b : Option Addr) (n cap k c2 : Nat) (xs : List Int) (w : World) (hr : Row w a n (intL xs)) (hn : n ≤ 1000) (hp : polyB m xs = false) :
    Calls Try.prog 50 #[.int .i64 m, .slice a n cap, .slice b k c2] w fun e w' => e = .returned (.tuple #[.int .i64 0, .int .i64 2]) ∧ Below w.heap.size w w' := by
  have h := isPoly_any m a n cap xs w hr hn
  rw [hp] at h
  have H := Lib.hid h
  clear h hr hp
  go_enter Try.func50, Try.ntmps50
  go_wp2_with fail
  refine H.out.mono ?_
  rintro e w1 ⟨rfl, hw⟩
  subst w1
  go_wp2
  go_ret2
  exact ⟨rfl, Below.refl _ _⟩
set_option maxRecDepth 100000 in
theorem Same_no2 (m : Int) (a b : Option Addr) (n cap k c2 : Nat) (xs ys : List Int) (w : World) (hr : Row w a n (intL xs)) (hn : n ≤ 1000) (hp : polyB m xs = true) (hr2 : Row w b k (intL ys)) (hk : k ≤ 1000) (hp2 : polyB m ys = false) :
    Calls Try.prog 50 #[.int .i64 m, .slice a n cap, .slice b k c2] w fun e w' => e = .returned (.tuple #[.int .i64 0, .int .i64 2]) ∧ Below w.heap.size w w' := by
  have h := isPoly_any m a n cap xs w hr hn
  have h2 := isPoly_any m b k c2 ys w hr2 hk
  rw [hp] at h
  rw [hp2] at h2
  have H := Lib.hid h
  have H2 := Lib.hid h2
  clear h hr hp h2 hr2 hp2
  go_enter Try.func50, Try.ntmps50
  go_wp2_with fail
  refine H.out.mono ?_
  rintro e w1 ⟨rfl, hw⟩
  subst w1
  go_wp2_with fail
  refine H2.out.mono ?_
  rintro e w1 ⟨rfl, hw⟩
  subst w1
  go_wp2
  go_ret2
  exact ⟨rfl, Below.refl _ _⟩
theorem zeros_two (w : World) (X : Array Value) (h : X = zeroA) :
    Below w.heap.size w ((w.alloc (.cells X 69)).alloc (.cells X 69)) ∧ ((w.alloc (.cells X 69)).alloc (.cells X 69)).heap[w.heap.size]? = some (.cells zeroA 69 (0, 0)) ∧
      ((w.alloc (.cells X 69)).alloc (.cells X 69)).heap[w.heap.size + 1]? = some (.cells zeroA 69 (0, 0)) := by
  subst h
  have b0 := below_alloc w (.cells zeroA 69)
  have c0 := heap_alloc_new w (.cells zeroA 69)
  have s0 : (w.alloc (.cells zeroA 69)).heap.size = w.heap.size + 1 := by simp
  generalize w.alloc (.cells zeroA 69) = w1 at b0 c0 s0 ⊢
  have b1 := below_alloc w1 (.cells zeroA 69)
  have c1 := heap_alloc_new w1 (.cells zeroA 69)
  rw [s0] at c1
  refine ⟨b_next b0 b1, ?_, c1⟩
  exact (b1.block _ (Array.getElem?_eq_some_iff.1 c0).1).trans c0
theorem tab_cell {w : World} {B x m : Nat} {f : Nat → Int} (h : w.heap[B]? = some (.cells (tabA f m) 69 (0, 0))) (hx : x < m) (hm : m ≤ 64) : w.cell? ⟨B, x, none⟩ = some (.int .i64 (f x)) := by
  rw [cell_of_row _ _ x _ _ (0, 0) h]
  unfold tabA
  rw [List.getElem?_toArray]
  refine intL_get ?_
  unfold tabL
  rw [List.getElem?_map, List.getElem?_range (by omega)]
  simp [hx]
set_option maxRecDepth 100000 in
set_option maxHeartbeats 4000000 in
theorem Same_yes (m : Nat) (a b : Option Addr) (n cap k c2 : Nat) (xs ys : List Int) (w : World) (hr : Row w a n (intL xs)) (hp : polyB m xs = true) (hr2 : Row w b k (intL ys)) (hp2 : polyB m ys = true) :
    Calls Try.prog 50 #[.int .i64 m, .slice a n cap, .slice b k c2] w fun e w' => e = .returned (.tuple #[.int .i64 (sameR m xs ys), .int .i64 0]) ∧ Below w.heap.size w w' := by
  have hpl : ∀ zs : List Int, polyB m zs = true → zs.length ≤ 12 ∧ 2 ≤ m ∧ m ≤ 64 ∧ ∀ x ∈ zs, -1000 ≤ x ∧ x ≤ 1000 := fun zs h => by
    unfold polyB at h
    rw [Bool.and_eq_true, Bool.and_eq_true, decide_eq_true_eq] at h
    obtain ⟨⟨h1, h2⟩, h3⟩ := h
    obtain ⟨j, hj, hj2, hj64⟩ := modB_nat h1
    have hin := remB_in h3
    exact ⟨h2, by omega, by omega, fun x hx => by have := hin x hx; omega⟩
  obtain ⟨l1, hm, hm2, i1⟩ := hpl xs hp
  obtain ⟨l2, _, _, i2⟩ := hpl ys hp2
  have hx : xs.length = n := by have := hr.1; simpa [intL] using this
  have hy : ys.length = k := by have := hr2.1; simpa [intL] using this
  have h := fun W hW => isPoly_any m a n cap xs W hW (by omega)
  have h2 := fun W hW => isPoly_any m b k c2 ys W hW (by omega)
  rw [hp] at h
  rw [hp2] at h2
  have ht := fun W hW => polyTable_any m a n cap xs W hW (by omega) (by omega) hm2 i1
  have ht2 := fun W hW => polyTable_any m b k c2 ys W hW (by omega) (by omega) hm2 i2
  obtain ⟨R, hR⟩ : ∃ R, sameR m xs ys = R := ⟨_, rfl⟩
  unfold sameR at hR
  have hR0 : firstN (differP (fun x => polyV m xs x) (fun x => polyV m ys x)) (m - 0) 0 = R := hR
  have hst := fun k (h : k < m) => firstN_step (P := differP (fun x => polyV m xs x) (fun x => polyV m ys x)) h
  have hd : ∀ k, differP (fun x => polyV m xs x) (fun x => polyV m ys x) k = decide (polyV m xs k ≠ polyV m ys k) := fun _ => rfl
  rw [show sameR m xs ys = R from hR]
  have htl : ∀ (W : World) (B : Nat) (zs : List Int), W.heap[B]? = some (.cells (tabA (fun x => polyV m zs x) m) 69 (0, 0)) → ∀ i, i < m → W.cell? ⟨B, i, none⟩ = some (.int .i64 (polyV m zs i)) := fun W B zs h i hi => tab_cell (f := fun x => polyV m zs x) h hi hm2
  have ht1c := fun W B => htl W B xs
  have ht2c := fun W B => htl W B ys
  generalize differP (fun x => polyV m xs x) (fun x => polyV m ys x) = D at *
  obtain ⟨T1, hT1⟩ : ∃ T, tabA (fun x => polyV m xs x) m = T := ⟨_, rfl⟩
  have hT1s : T1.size = 64 := by rw [← hT1]; exact tabA_size _ m
  have hT1o : T1.all (·.oneCell') = true := by rw [← hT1]; exact tabA_one _ m
  obtain ⟨T2, hT2⟩ : ∃ T, tabA (fun x => polyV m ys x) m = T := ⟨_, rfl⟩
  have hT2s : T2.size = 64 := by rw [← hT2]; exact tabA_size _ m
  have hT2o : T2.all (·.oneCell') = true := by rw [← hT2]; exact tabA_one _ m
  simp only [hT1] at ht ht1c
  simp only [hT2] at ht2 ht2c
  have H := Lib.hid h
  have H2 := Lib.hid h2
  have HT := Lib.hid ht
  have HT2 := Lib.hid ht2
  have Hr := Lib.hid hr
  have Hr2 := Lib.hid hr2
  have HR0 := Lib.hid hR0
  have Hst := Lib.hid hst
  have Hd := Lib.hid hd
  have Ht1c := Lib.hid ht1c
  have Ht2c := Lib.hid ht2c
  clear h h2 ht ht2 hr hr2 hR0 hst hd hpl hp hp2 hR l1 l2 i1 i2 hx hy htl ht1c ht2c hT1 hT2
  go_enter Try.func50, Try.ntmps50
  go_wp2_with fail
  refine (H.out _ Hr.out).mono ?_
  rintro e w1 ⟨rfl, hw⟩
  subst w1
  go_wp2_with fail
  refine (H2.out _ Hr2.out).mono ?_
  rintro e w1 ⟨rfl, hw⟩
  subst w1
  go_wp2_with fail
  refine (HT.out _ Hr.out).mono ?_
  rintro e w1 ⟨rfl, b1⟩
  have R2 := Lib.hid (Hr2.out.below b1)
  have B1 := Lib.hid b1
  clear b1
  go_wp2_with fail
  refine (HT2.out _ R2.out).mono ?_
  rintro e w2 ⟨rfl, b2⟩
  have B2 := Lib.hid (b_next B1.out b2)
  clear b2
  go_wp2_with (first
    | (have hz := zeros_two w2 _ X64_zero
       generalize (w2.alloc (.cells X64 69)).alloc (.cells X64 69) = W at hz ⊢
       have B3 := Lib.hid (b_next B2.out hz.1)
       have K1 := Lib.hid hz.2.1
       have K2 := Lib.hid hz.2.2
       clear hz
       refine wpList_store_row (o := ⟨none, .store 69 (.tmp 8) (.tmp 23), _, _, _, _⟩) rfl 69 (.tmp 8) (.tmp 23) rfl w2.heap.size T1 rfl rfl 69 zeroA K1.out (info_table T1 hT1s) (zeroA_size.trans hT1s.symm) hT1o ?_
       have j1 := setRow_heap W w2.heap.size zeroA T1 69 (0, 0) K1.out
       have j2 := (setRow_other W w2.heap.size (w2.heap.size + 1) T1 (by omega)).trans K2.out
       have j3 := below_setRow B3.out B2.out.size T1
       generalize W.setRow w2.heap.size T1 = W2 at j1 j2 j3 ⊢
       have J1 := Lib.hid j1
       have J2 := Lib.hid j2
       have J3 := Lib.hid j3
       clear j1 j2 j3)
    | (refine wpList_store_row (o := ⟨none, .store 69 (.tmp 9) (.tmp 26), _, _, _, _⟩) rfl 69 (.tmp 9) (.tmp 26) rfl (w2.heap.size + 1) T2 rfl rfl 69 zeroA J2.out (info_table T2 hT2s) (zeroA_size.trans hT2s.symm) hT2o ?_))
  have j4 := setRow_heap W2 (w2.heap.size + 1) zeroA T2 69 (0, 0) J2.out
  have j5 := (setRow_other W2 (w2.heap.size + 1) w2.heap.size T2 (by omega)).trans J1.out
  have j6 := below_setRow J3.out (show w.heap.size ≤ w2.heap.size + 1 from Nat.le_succ_of_le B2.out.size) T2
  generalize W2.setRow (w2.heap.size + 1) T2 = W3 at j4 j5 j6 ⊢
  have C1 := Lib.hid (Ht1c.out W3 _ j5)
  have C2 := Lib.hid (Ht2c.out W3 _ j4)
  have B5 := Lib.hid j6
  clear j4 j5 j6 J1 J2 J3 K1 K2 B3 B2 B1 R2
  generalize w2.heap.size = g at *
  go_wp2
  go_loopw [10, 28] (fun _ i wr => ∃ j q : Nat, j ≤ m ∧ i = .int .i64 j ∧ Hid (firstN D (m - j) j = R) ∧ wr = W3.drewN q) (fun _ i _ => m - (intOf i).toNat)
  case atStart => exact ⟨0, 0, Nat.zero_le _, rfl, HR0.out, rfl⟩
  case round =>
    obtain ⟨j, q, hj, rfl, HF, hw⟩ := hrel
    subst wr
    by_cases hlt : j < m
    · have hc : (j : Int) < (m : Int) := by omega
      have x1 := C1.out j hlt
      have x2 := C2.out j hlt
      have hs := Hst.out j hlt
      rw [HF.out, Hd.out j] at hs
      generalize polyV m xs j = y1 at x1 hs
      generalize polyV m ys j = y2 at x2 hs
      have hj64 : (j : Int) < 64 := by omega
      have Hgo := Lib.hid (And.intro (show j + 1 ≤ m by omega) hlt)
      by_cases he : y1 = y2
      · subst y2
        rw [decide_eq_false (by simp), if_neg (by decide)] at hs
        have HS := Lib.hid hs.symm
        have hnn : (y1 != y1) = false := by simp
        clear hs HF
        go_wp2
        go_quiet (fail)
        go_wp2
        go_roundw
        case rel => exact ⟨j + 1, _, Hgo.out.1, by go_num, HS.out, by first | rfl | exact World.drewN_drewN _ _ _ | trivial⟩
        case measure => exact mz_upn Hgo.out.2
      · rw [decide_eq_true he, if_pos rfl] at hs
        have HS := Lib.hid hs
        have hnn : (y1 != y2) = true := by simp [he]
        have hnb : (y1 == y2) = false := by simp [he]
        clear hs HF he
        go_wp2
        go_quiet (fail)
        go_wp2
        go_ret2
        exact ⟨by rw [HS.out]; rfl, below_drewN (below_drewN B5.out _) _⟩
    · obtain rfl : j = m := by omega
      have hc : ¬ (j : Int) < (j : Int) := by omega
      have hf := HF.out
      rw [Nat.sub_self] at hf
      have HS := Lib.hid (show (-1 : Int) = R from hf)
      clear hf HF
      go_wp2
      go_ret2
      exact ⟨by rw [← HS.out]; rfl, below_drewN B5.out _⟩
end Go.Proofs.Ytndbjojjaapeaaa

/- The first places with equal values: the program's firstEqual and Permutes. -/
namespace Go.Proofs.Ytndbjojjaapeaaa
set_option linter.unusedVariables false
open Go.RowKit

def eqP (F : List Int) (k y : Nat) : Bool := decide (F.getD k 0 = F.getD y 0)
/-- the first place behind k with the value at k, or -1 -/
def laterN (F : List Int) (n k : Nat) : Int := firstN (eqP F k) (n - (k + 1)) (k + 1)
def eqF (F : List Int) (n : Nat) : Nat → Nat → Int × Int
  | 0, _ => (-1, -1)
  | r + 1, k => if 0 ≤ laterN F n k then ((k : Int), laterN F n k) else eqF F n r (k + 1)
def equalR (F : List Int) : Int × Int := eqF F F.length F.length 0
theorem eqF_step (F : List Int) {n k : Nat} (h : k < n) : eqF F n (n - k) k = if 0 ≤ laterN F n k then ((k : Int), laterN F n k) else eqF F n (n - (k + 1)) (k + 1) := by
  rw [show n - k = (n - (k + 1)) + 1 by omega]; rfl
theorem getD_drop (F : List Int) (k j : Nat) : (F.drop k).getD j 0 = F.getD (k + j) 0 := by
  rw [List.getD_eq_getElem?_getD, List.getD_eq_getElem?_getD, List.getElem?_drop]
theorem later_is (F : List Int) {n k : Nat} (hl : F.length = n) (hk : k < n) :
    (∃ d : Nat, laterN F n k = ((k + 1 + d : Nat) : Int) ∧ k + 1 + d < n ∧ F.getD k 0 = F.getD (k + 1 + d) 0 ∧ Lib.idxOf (F.drop (k + 1)) (F.getD k 0) = (d : Int)) ∨
      (laterN F n k = -1 ∧ (∀ y, k < y → y < n → F.getD k 0 ≠ F.getD y 0) ∧ Lib.idxOf (F.drop (k + 1)) (F.getD k 0) = -1) := by
  have htk : F.drop (k + 1) = (F.drop (k + 1)).take (n - (k + 1)) := (List.take_of_length_le (by rw [List.length_drop]; omega)).symm
  rcases firstN_is (P := eqP F k) (n - (k + 1)) (k + 1) with ⟨h1, h2⟩ | ⟨j, h1, h2, h3, h4, h5⟩
  · right
    refine ⟨h1, fun y h3 h4 => of_decide_eq_false (h2 y (by omega) (by omega)), ?_⟩
    rw [htk]
    exact Lib.idxOf_miss (F.drop (k + 1)) (n - (k + 1)) _ fun j hj => by
      rw [getD_drop]
      exact fun e => (of_decide_eq_false (h2 (k + 1 + j) (by omega) (by omega))) e.symm
  · left
    obtain ⟨d, rfl⟩ : ∃ d, j = k + 1 + d := ⟨j - (k + 1), by omega⟩
    refine ⟨d, h1, by omega, of_decide_eq_true h4, ?_⟩
    rw [htk]
    exact Lib.idxOf_hit (F.drop (k + 1)) (n - (k + 1)) d _ (by omega) (by rw [List.length_drop]; omega) (by rw [getD_drop]; exact (of_decide_eq_true h4).symm) fun i hi => by
      rw [getD_drop]
      exact fun e => (of_decide_eq_false (h5 (k + 1 + i) (by omega) (by omega))) e.symm
theorem slice_from (g n cap k : Nat) (hk : k ≤ n) (hn : n ≤ cap) (hc : cap ≤ 9223372036854775807) : ∃ ad : Addr, (k < n → ad = ⟨g, k, none⟩) ∧
    ∀ w : World, (Instr.sliceAt 22 (.slice (some ⟨g, 0, none⟩) n cap) (some (.int .i64 k)) none none).run Try.prog w = .ok (.slice (some ad) (n - k) (cap - k)) w := by
  by_cases h : k = cap
  · refine ⟨⟨g, 0, none⟩, fun hh => by omega, fun w => ?_⟩
    have h0 : (0 : Int) ≤ (k : Int) := by omega
    have h1 : (k : Int) ≤ (n : Int) := by omega
    simp [Instr.sliceAt, go_sem, h0, h1]
    omega
  · refine ⟨⟨g, k, none⟩, fun _ => rfl, fun w => ?_⟩
    have h0 : (0 : Int) ≤ (k : Int) := by omega
    have h1 : (k : Int) ≤ (n : Int) := by omega
    simp [Instr.sliceAt, go_sem, h0, h1]
    omega
/-- slices.Index at what lies behind k -/
theorem index_from (ad : Addr) (g n cap k : Nat) (F : List Int) (x : Int) (w : World) (hl : F.length = n) (hn : n ≤ 1000) (hc : ∀ j, j < n → w.cell? ⟨g, j, none⟩ = some (.int .i64 (F.getD j 0))) (had : k < n → ad = ⟨g, k, none⟩) (hk : k ≤ n) :
    Calls Try.prog 96 #[.slice (some ad) (n - k) cap, .int .i64 x] w fun e w' => e = .returned (.int .i64 (Lib.idxOf (F.drop k) x)) ∧ w' = w := by
  by_cases h : k < n
  · rw [had h]
    have h2 := Any.slices_Index_int Try.lays108 g k (n - k) cap (F.drop k) x w (by rw [List.length_drop]; omega) (by omega) fun j hj => by
      rw [List.length_drop] at hj
      rw [getD_drop]
      exact hc (k + j) (by omega)
    rw [List.take_of_length_le (by rw [List.length_drop]; omega)] at h2
    exact h2
  · obtain rfl : k = n := by omega
    rw [Nat.sub_self, List.drop_of_length_le (by omega)]
    exact Any.slices_Index_int_empty Try.lays108 (some ad) cap x w
theorem add_wrap {a b n : Nat} (h : a + b < n) (hn : n ≤ 1000) : IntKind.i64.wrap ((a : Int) + (b : Int)) = ((a + b : Nat) : Int) ∧ wrap64 ((a : Int) + (b : Int)) = ((a + b : Nat) : Int) := ⟨by rw [IntWalk.i64_in _ (by omega)]; rfl, by rw [IntWalk.wrap64_in _ (by omega)]; rfl⟩
set_option maxRecDepth 100000 in
set_option maxHeartbeats 4000000 in
theorem firstEqual_any (g n cap : Nat) (F : List Int) (w : World) (hr : Row w (some ⟨g, 0, none⟩) n (intL F)) (hn : n ≤ 100) (hcap : n ≤ cap) (hcm : cap ≤ 9223372036854775807) :
    Calls Try.prog 65 #[.slice (some ⟨g, 0, none⟩) n cap] w fun e w' => e = .returned (.tuple #[.int .i64 (equalR F).1, .int .i64 (equalR F).2]) ∧ w' = w := by
  have hl : F.length = n := by have := hr.1; simpa [intL] using this
  obtain ⟨R, hR⟩ : ∃ R, equalR F = R := ⟨_, rfl⟩
  rw [hR]
  unfold equalR at hR
  rw [hl] at hR
  have hcell : ∀ j, j < n → w.cell? ⟨g, j, none⟩ = some (.int .i64 (F.getD j 0)) := fun j hj => by
    obtain ⟨g', h1, h2⟩ := hr.int hj
    simp only [Option.some.injEq, Addr.mk.injEq, and_true] at h1
    subst h1
    exact h2
  have HI := Lib.hid fun k (hk : k < n) => later_is F hl hk
  have Hst := Lib.hid fun k (hk : k < n) => eqF_step F hk
  have HSl := Lib.hid fun k (hk : k ≤ n) => slice_from g n cap k hk hcap hcm
  have HX := Lib.hid fun ad cap k x had hk => index_from ad g n cap k F x w hl (by omega) hcell had hk
  have Hcell := Lib.hid hcell
  have HR0 : Hid (eqF F n (n - 0) 0 = R) := hR
  clear hR hcell hr hl
  go_enter Try.func65, Try.ntmps65
  go_wp2
  go_loopw [4, 5, 6, 9] (fun _ _ _ i wr => ∃ k : Nat, k ≤ n ∧ i = .int .i64 k ∧ Hid (eqF F n (n - k) k = R) ∧ wr = w) (fun _ _ _ i _ => n - (intOf i).toNat)
  case atStart => exact ⟨0, Nat.zero_le _, rfl, HR0, rfl⟩
  case round =>
    clear HR0
    obtain ⟨k, hk, rfl, HF, hw⟩ := hrel
    subst wr
    by_cases hlt : k < n
    · have hc : (k : Int) < (n : Int) := by omega
      have cx := Hcell.out k hlt
      have hs := Hst.out k hlt
      rw [HF.out] at hs
      obtain ⟨ad, had, hsl⟩ := HSl.out (k + 1) (by omega)
      have hsl2 : ∀ w : World, (Instr.sliceAt 22 (.slice (some ⟨g, 0, none⟩) n cap) (some (.int .i64 ((k : Int) + 1))) none none).run Try.prog w = .ok (.slice (some ad) (n - (k + 1)) (cap - (k + 1))) w := hsl
      have hix := HX.out ad (cap - (k + 1)) (k + 1) (F.getD k 0) had (by omega)
      have hi := HI.out k hlt
      obtain ⟨t, ht⟩ : ∃ t, Lib.idxOf (F.drop (k + 1)) (F.getD k 0) = t := ⟨_, rfl⟩
      rw [ht] at hi hix
      generalize F.getD k 0 = v at cx hix hi ht
      generalize n - (k + 1) = l1 at hsl2 hix
      generalize cap - (k + 1) = l2 at hsl2 hix
      have Hgo := Lib.hid (And.intro (show k + 1 ≤ n by omega) hlt)
      rcases hi with ⟨d, h1, h2, h2', h3⟩ | ⟨h1, h2', h3⟩
      · rw [h3] at hix
        have Hix := Lib.hid hix
        clear h2' h3 ht
        rw [h1, if_pos (Int.natCast_nonneg _)] at hs
        have HS := Lib.hid hs
        have hge : (d : Int) ≥ 0 := Int.natCast_nonneg _
        have hge2 : (0 : Int) ≤ (d : Int) := Int.natCast_nonneg _
        have hd : d ≤ 100 := by omega
        clear hix h1 had hsl hs h2 hcm hcap
        go_wp2_with fail
        refine Hix.out.mono ?_
        rintro e w1 ⟨rfl, hw⟩
        subst w1
        go_wp2
        go_ret2
        exact ⟨by rw [HS.out]; rfl, rfl⟩
      · rw [h3] at hix
        have Hix := Lib.hid hix
        clear h2' h3 ht
        rw [h1, if_neg (by decide)] at hs
        have HS := Lib.hid hs.symm
        have hge : ¬ (-1 : Int) ≥ 0 := by decide
        clear hix h1 had HF hs hsl hcm hcap
        go_wp2_with fail
        refine Hix.out.mono ?_
        rintro e w1 ⟨rfl, hw⟩
        subst w1
        go_wp2
        go_roundw
        case rel => exact ⟨k + 1, Hgo.out.1, by go_num, HS, trivial⟩
        case measure => exact mz_upn Hgo.out.2
    · obtain rfl : k = n := by omega
      have hc : ¬ (k : Int) < (k : Int) := by omega
      have hf := HF.out
      rw [Nat.sub_self] at hf
      have HS := Lib.hid (show ((-1, -1) : Int × Int) = R from hf)
      clear hf HF
      go_wp2
      go_ret2
      exact ⟨by rw [← HS.out]; rfl, rfl⟩
end Go.Proofs.Ytndbjojjaapeaaa

/- Permutes, and the reference's Equal. -/
namespace Go.Proofs.Ytndbjojjaapeaaa
set_option linter.unusedVariables false
open Go.RowKit

theorem own_full {w : World} {base n : Nat} {e : TypeId} {v : Value} {xs : List Value} (h : w.ownsRow base e 1 v n xs) (hn : 0 < n) : ∃ g cap, v = .slice (some ⟨g, 0, none⟩) n cap ∧ n ≤ cap ∧ cap ≤ 9223372036854775807 ∧ base ≤ g ∧ Row w (some ⟨g, 0, none⟩) n xs := by
  obtain ⟨a, cap, hv, hr⟩ := Row.of_own h
  rcases h.2 with ⟨h1, h2⟩ | ⟨g, cap', cur, h1, hb, _, hc, hm, _⟩
  · omega
  · rw [h1] at hv
    cases hv
    unfold maxLen at hm
    exact ⟨g, _, h1, hc, by omega, hb, hr⟩
set_option maxRecDepth 100000 in
theorem Permutes_no (m : Int) (a : Option Addr) (n cap : Nat) (xs : List Int) (w : World) (hr : Row w a n (intL xs)) (hn : n ≤ 1000) (hp : polyB m xs = false) :
    Calls Try.prog 19 #[.int .i64 m, .slice a n cap] w fun e w' => e = .returned (.tuple #[.int .i64 0, .int .i64 0, .int .i64 2]) ∧ Below w.heap.size w w' := by
  have h := isPoly_any m a n cap xs w hr hn
  rw [hp] at h
  have H := Lib.hid h
  clear h hr hp
  go_enter Try.func19, Try.ntmps19
  go_wp2_with fail
  refine H.out.mono ?_
  rintro e w1 ⟨rfl, hw⟩
  subst w1
  go_wp2
  go_ret3
  exact ⟨rfl, Below.refl _ _⟩
set_option maxRecDepth 100000 in
set_option maxHeartbeats 4000000 in
theorem Permutes_yes (m : Nat) (a : Option Addr) (n cap : Nat) (xs : List Int) (w : World) (hr : Row w a n (intL xs)) (hp : polyB m xs = true) :
    Calls Try.prog 19 #[.int .i64 m, .slice a n cap] w fun e w' => e = .returned (.tuple #[.int .i64 (equalR (valuesL m xs)).1, .int .i64 (equalR (valuesL m xs)).2, .int .i64 0]) ∧ Below w.heap.size w w' := by
  have hx : xs.length = n := by have := hr.1; simpa [intL] using this
  have hp2 := hp
  unfold polyB at hp2
  rw [Bool.and_eq_true, Bool.and_eq_true, decide_eq_true_eq] at hp2
  obtain ⟨⟨h1, h2⟩, h3⟩ := hp2
  obtain ⟨k, hk, hk2, hk64⟩ := modB_nat h1
  obtain rfl : m = k := by omega
  have hin := remB_in h3
  have h := fun W hW => isPoly_any m a n cap xs W hW (by omega)
  rw [hp] at h
  have ht := fun W hW => polyTable_any m a n cap xs W hW (by omega) (by omega) hk64 (fun x hx => by have := hin x hx; omega)
  have hl : ∀ W, Calls Try.prog 64 #[.agg (tabA (fun x : Nat => polyV m xs x) m), .int .i64 m] W fun e w' => ∃ v, e = .returned v ∧ w'.ownsRow W.heap.size 3 1 v m (intL (valuesL m xs)) ∧ Below W.heap.size W w' := fun W => list_any m (fun x : Nat => polyV m xs x) W hk64
  have hE := fun g cap W hW h1 h2 => firstEqual_any g m cap (valuesL m xs) W hW (by omega) h1 h2
  obtain ⟨T, hT⟩ : ∃ T, tabA (fun x : Nat => polyV m xs x) m = T := ⟨_, rfl⟩
  rw [hT] at hl ht
  generalize valuesL m xs = F at *
  have H := Lib.hid h
  have HT := Lib.hid ht
  have HL := Lib.hid hl
  have HE := Lib.hid hE
  have Hr := Lib.hid hr
  have Hm := Lib.hid (show 0 < m by omega)
  clear h ht hl hE hr hp h1 h2 h3 hin hk hx hT
  go_enter Try.func19, Try.ntmps19
  go_wp2_with fail
  refine (H.out _ Hr.out).mono ?_
  rintro e w1 ⟨rfl, rfl⟩
  go_wp2_with fail
  refine (HT.out _ Hr.out).mono ?_
  rintro e w2 ⟨rfl, b2⟩
  have B2 := Lib.hid b2
  clear b2
  go_wp2_with fail
  refine (HL.out _).mono ?_
  rintro e w3 ⟨v, rfl, ho, b3⟩
  obtain ⟨g, c, rfl, hc1, hc2, _, r3⟩ := own_full ho Hm.out
  have B3 := Lib.hid (b_next B2.out b3)
  clear ho b3
  go_wp2_with fail
  refine (HE.out _ _ _ r3 hc1 hc2).mono ?_
  rintro e w4 ⟨rfl, hw⟩
  subst w4
  clear hc1 hc2 r3
  go_wp2
  go_ret3
  exact ⟨rfl, B3.out⟩
set_option maxRecDepth 100000 in
set_option maxHeartbeats 4000000 in
theorem refEqual_any (a : Option Addr) (n cap : Nat) (F : List Int) (w : World) (hr : Row w a n (intL F)) (hn : n ≤ 100) :
    Calls Try.prog 26 #[.slice a n cap] w fun e w' => e = .returned (.tuple #[.int .i64 (equalR F).1, .int .i64 (equalR F).2]) ∧ ∃ q, w' = w.drewN q := by
  have hl : F.length = n := by have := hr.1; simpa [intL] using this
  obtain ⟨R, hR⟩ : ∃ R, equalR F = R := ⟨_, rfl⟩
  rw [hR]
  unfold equalR at hR
  rw [hl] at hR
  have Hst := Lib.hid fun k (hk : k < n) => eqF_step F hk
  have Hlt := Lib.hid fun k => (show firstN (eqP F k) (n - (k + 1)) (k + 1) = laterN F n k from rfl)
  have Hfs := Lib.hid fun k y (hy : y < n) => firstN_step (P := eqP F k) hy
  have Hep := Lib.hid fun k y => (show eqP F k y = decide (F.getD k 0 = F.getD y 0) from rfl)
  have Hr := Lib.hid hr
  have HR0 : Hid (eqF F n (n - 0) 0 = R) := hR
  clear hR hr hl
  go_enter Try.func26, Try.ntmps26
  go_wp2
  go_loopw [4, 5] (fun i _ wr => ∃ k q : Nat, k ≤ n ∧ i = .int .i64 k ∧ Hid (eqF F n (n - k) k = R) ∧ wr = w.drewN q) (fun i _ _ => n - (intOf i).toNat)
  case atStart => exact ⟨0, 0, Nat.zero_le _, rfl, HR0, rfl⟩
  case round =>
    clear HR0
    obtain ⟨k, q, hk, rfl, HF, hw⟩ := hrel
    subst wr
    by_cases hlt : k < n
    · have hc : (k : Int) < (n : Int) := by omega
      have hs := Hst.out k hlt
      rw [HF.out] at hs
      have HS := Lib.hid hs
      have Hl := Lib.hid (Hlt.out k)
      obtain ⟨g1, rfl, x1⟩ := Hr.out.int hlt
      have Hgo := Lib.hid (And.intro (show k + 1 ≤ n by omega) hlt)
      clear hs HF
      go_wp2
      go_loopw [5] (fun j wr => ∃ y q : Nat, k < y ∧ y ≤ n ∧ j = .int .i64 y ∧ Hid (firstN (eqP F k) (n - y) y = laterN F n k) ∧ wr = w.drewN q) (fun j _ => n - (intOf j).toNat)
      case atStart => exact ⟨k + 1, q, Nat.lt_succ_self _, Hgo.out.1, by go_num, Hl.out, rfl⟩
      case round =>
        obtain ⟨y, q, hky, hy, rfl, HY, hw⟩ := hrel
        subst wr
        by_cases hyn : y < n
        · have hc2 : (y : Int) < (n : Int) := by omega
          obtain ⟨g2, e2, x2⟩ := Hr.out.int hyn
          simp only [Option.some.injEq, Addr.mk.injEq, and_true] at e2
          subst e2
          have hf := Hfs.out k y hyn
          rw [HY.out, Hep.out k y] at hf
          generalize F.getD k 0 = u at x1 hf
          generalize F.getD y 0 = v at x2 hf
          have Hgy := Lib.hid (And.intro (show y + 1 ≤ n by omega) hyn)
          by_cases he : u = v
          · subst v
            rw [decide_eq_true rfl, if_pos rfl] at hf
            have hs := HS.out
            rw [hf, if_pos (Int.natCast_nonneg _)] at hs
            have HT := Lib.hid hs
            have hee : (u == u) = true := by simp
            clear hf hs HY
            go_wp2
            go_quiet (fail)
            go_wp2
            go_ret2
            exact ⟨by rw [HT.out]; rfl, _, by first | rfl | exact World.drewN_drewN _ _ _ | trivial⟩
          · rw [decide_eq_false he, if_neg (by decide)] at hf
            have HT := Lib.hid hf.symm
            have hee : (u == v) = false := by simp [he]
            have hky2 : k < y + 1 := by omega
            clear hf HY he
            go_wp2
            go_quiet (fail)
            go_wp2
            go_roundw
            case rel => exact ⟨y + 1, _, hky2, Hgy.out.1, by go_num, HT, by first | rfl | exact World.drewN_drewN _ _ _ | trivial⟩
            case measure => exact mz_upn Hgy.out.2
        · obtain rfl : y = n := by omega
          have hc2 : ¬ (y : Int) < (y : Int) := by omega
          have hf := HY.out
          rw [Nat.sub_self] at hf
          have hm1 : laterN F y k = -1 := hf.symm
          have hs := HS.out
          rw [hm1, if_neg (by decide)] at hs
          have HT := Lib.hid hs.symm
          clear hf hs HY hm1
          go_wp2
          go_roundw
          case rel => exact ⟨k + 1, _, Hgo.out.1, by go_num, HT, by first | rfl | exact World.drewN_drewN _ _ _ | trivial⟩
          case measure => exact mz_upn Hgo.out.2
    · obtain rfl : k = n := by omega
      have hc : ¬ (k : Int) < (k : Int) := by omega
      have hf := HF.out
      rw [Nat.sub_self] at hf
      have HS := Lib.hid (show ((-1, -1) : Int × Int) = R from hf)
      clear hf HF
      go_wp2
      go_ret2
      exact ⟨by rw [← HS.out]; rfl, _, rfl⟩
/-- whether no two values are equal -/
theorem equal_none (F : List Int) {n : Nat} (hl : F.length = n) : (equalR F).1 = -1 ↔ ∀ x y, x < y → y < n → F.getD x 0 ≠ F.getD y 0 := by
  unfold equalR
  rw [hl]
  have h : ∀ r k, k + r = n → ((eqF F n r k).1 = -1 ↔ ∀ x y, k ≤ x → x < y → y < n → F.getD x 0 ≠ F.getD y 0) := by
    intro r
    induction r with
    | zero => exact fun k h => ⟨fun _ x y h1 h2 h3 => by omega, fun _ => rfl⟩
    | succ r ih =>
      intro k hk
      unfold eqF
      rcases later_is F hl (show k < n by omega) with ⟨d, h1, h2, h3, _⟩ | ⟨h1, h2, _⟩
      · rw [h1, if_pos (Int.natCast_nonneg _)]
        refine ⟨fun h => ?_, fun h => absurd h3 (h k (k + 1 + d) (Nat.le_refl _) (by omega) h2)⟩
        simp only at h
        omega
      · rw [h1, if_neg (by decide), ih (k + 1) (by omega)]
        refine ⟨fun h x y hx hy hn => ?_, fun h x y hx hy hn => h x y (by omega) hy hn⟩
        by_cases e : x = k
        · subst e; exact h2 y hy hn
        · exact h x y (by omega) hy hn
  rw [h n 0 (by omega)]
  exact ⟨fun h x y => h x y (Nat.zero_le _), fun h x y _ => h x y⟩
end Go.Proofs.Ytndbjojjaapeaaa

/- The closures of Shifts. -/
namespace Go.Proofs.Ytndbjojjaapeaaa
set_option linter.unusedVariables false
open Go.RowKit

theorem sh_num {x a m : Nat} (hm : 2 ≤ m) (hm2 : m ≤ 64) (hx : x < 64) (ha : a < 64) : ∃ j : Nat, (x + a) % m = j ∧ j < m ∧ ((x : Int) + (a : Int)) % (m : Int) = (j : Int) := by
  refine ⟨(x + a) % m, rfl, Nat.mod_lt _ (by omega), ?_⟩
  rw [← Int.natCast_add, ← Int.natCast_emod]
set_option maxRecDepth 100000 in
set_option maxHeartbeats 4000000 in
theorem shift1_any (x a m : Nat) (Bf Br Ba Bm : Nat) (f : Nat → Int) (w : World) (h1 : w.heap[Bf]? = some (.cells (tabA f m) 69 (0, 0))) (h2 : w.cell? ⟨Br, 0, none⟩ = some (.func (.func 97) #[] #[.pointer (some ⟨Bm, 0, none⟩)])) (h3 : w.cell? ⟨Ba, 0, none⟩ = some (.int .i64 a)) (h4 : w.cell? ⟨Bm, 0, none⟩ = some (.int .i64 m))
    (hm : 2 ≤ m) (hm2 : m ≤ 64) (hx : x < 64) (ha : a < 64) :
    Calls Try.prog 68 #[.int .i64 x, .pointer (some ⟨Bf, 0, none⟩), .pointer (some ⟨Br, 0, none⟩), .pointer (some ⟨Ba, 0, none⟩)] w fun e w' => e = .returned (.int .i64 (f ((x + a) % m))) ∧ Below w.heap.size w w' := by
  obtain ⟨j, hj, hjm, hj2⟩ := sh_num hm hm2 hx ha
  rw [hj]
  have cj := tab_cell h1 hjm hm2
  have hR := rem_any ((x : Int) + (a : Int)) m Bm w h4 (by omega) (by omega) (by omega)
  rw [hj2] at hR
  have HR := Lib.hid hR
  have hj64 : (j : Int) < 64 := by omega
  have Hc := Lib.hid cj
  generalize f j = y at Hc ⊢
  clear hj hjm hj2 hR h1 h4 cj
  go_enter Try.func68, Try.ntmps68
  go_wp2_with fail
  refine HR.out.mono ?_
  rintro e w1 ⟨rfl, q, rfl⟩
  have cj := Hc.out
  go_wp2
  go_ret
  exact ⟨rfl, below_drewN (Below.refl _ _) _⟩
set_option maxRecDepth 100000 in
set_option maxHeartbeats 4000000 in
theorem shift2_any (x a m : Nat) (Bf Br Ba Bm : Nat) (f : Nat → Int) (w : World) (h1 : w.heap[Bf]? = some (.cells (tabA f m) 69 (0, 0))) (h2 : w.cell? ⟨Br, 0, none⟩ = some (.func (.func 97) #[] #[.pointer (some ⟨Bm, 0, none⟩)])) (h3 : w.cell? ⟨Ba, 0, none⟩ = some (.int .i64 a)) (h4 : w.cell? ⟨Bm, 0, none⟩ = some (.int .i64 m))
    (hm : 2 ≤ m) (hm2 : m ≤ 64) (hx : x < m) (ha : a < 64) (hf : 0 ≤ f x ∧ f x < m) :
    Calls Try.prog 69 #[.int .i64 x, .pointer (some ⟨Br, 0, none⟩), .pointer (some ⟨Bf, 0, none⟩), .pointer (some ⟨Ba, 0, none⟩)] w fun e w' => e = .returned (.int .i64 ((f x + (a : Int)) % (m : Int))) ∧ Below w.heap.size w w' := by
  have cx := tab_cell h1 hx hm2
  obtain ⟨y, hy⟩ : ∃ y, f x = y := ⟨_, rfl⟩
  rw [hy] at hf cx ⊢
  have hR : ∀ n, Calls Try.prog 97 #[.int .i64 (y + (a : Int)), .pointer (some ⟨Bm, 0, none⟩)] (w.drewN n) fun e w' => e = .returned (.int .i64 ((y + (a : Int)) % (m : Int))) ∧ ∃ q, w' = (w.drewN n).drewN q := fun n => rem_any (y + (a : Int)) m Bm (w.drewN n) h4 (by omega) (by omega) (by omega)
  have HR := Lib.hid hR
  have hw : IntKind.i64.wrap (y + (a : Int)) = y + (a : Int) := IntWalk.i64_in _ (by omega)
  have hx64 : (x : Int) < 64 := by omega
  clear hR h1 h4 hy hf
  go_enter Try.func69, Try.ntmps69
  go_wp2
  go_quiet ((go_at_call 97; with_reducible exact Calls.quiet_of (HR.out _)))
  go_wp2
  go_ret
  exact ⟨rfl, below_drewN (Below.refl _ _) _⟩
end Go.Proofs.Ytndbjojjaapeaaa

/- Shifts. -/
namespace Go.Proofs.Ytndbjojjaapeaaa
set_option linter.unusedVariables false
open Go.RowKit

/-- whether the function moves by a with its argument -/
def okS (m : Nat) (f : Nat → Int) (a : Nat) : Bool := decide (tabL (fun x => f ((x + a) % m)) m = tabL (fun x => (f x + (a : Int)) % (m : Int)) m)
def shL (m : Nat) (f : Nat → Int) (k : Nat) : List Int := ((List.range k).filter (okS m f)).map fun a : Nat => (a : Int)
theorem shL_next (m : Nat) (f : Nat → Int) (k : Nat) : shL m f (k + 1) = if okS m f k then shL m f k ++ [(k : Int)] else shL m f k := by
  unfold shL
  rw [List.range_succ, List.filter_append, List.map_append]
  cases h : okS m f k <;> simp [h]
theorem shL_le (m : Nat) (f : Nat → Int) (k : Nat) : (shL m f k).length ≤ k := by
  unfold shL
  rw [List.length_map]
  exact Nat.le_trans (List.length_filter_le _ _) (by simp)
/-- the boxes: the modulus, the function that finds remainders, the table -/
structure ShB (w : World) (m : Nat) (f : Nat → Int) (Bm Br Bf : Nat) (W : World) : Prop where
  below : Below w.heap.size w W
  cm : W.cell? ⟨Bm, 0, none⟩ = some (.int .i64 m)
  cr : W.cell? ⟨Br, 0, none⟩ = some (.func (.func 97) #[] #[.pointer (some ⟨Bm, 0, none⟩)])
  cf : W.heap[Bf]? = some (.cells (tabA f m) 69 (0, 0))
theorem ShB.next {w W W' : World} {m Bm Br Bf : Nat} {f : Nat → Int} (h : ShB w m f Bm Br Bf W) (hb : Below W.heap.size W W') : ShB w m f Bm Br Bf W' :=
  ⟨b_next h.below hb, (hb.cell (p := ⟨Bm, 0, none⟩) (World.block_lt_of_cell? W _ h.cm)).trans h.cm, (hb.cell (p := ⟨Br, 0, none⟩) (World.block_lt_of_cell? W _ h.cr)).trans h.cr, (hb.block _ (Array.getElem?_eq_some_iff.1 h.cf).1).trans h.cf⟩
theorem ShB.grown {w W W1 w6 : World} {m Bm Br Bf n b0 : Nat} {f : Nat → Int} {v : Value} {xs : List Value} (h : ShB w m f Bm Br Bf W) (hb : Below W.heap.size W W1) (ho : W.ownsRow b0 3 1 v n xs) (hg : W1.grownBy w6 v.ownBlock) (h0 : w.heap.size ≤ b0 ∧ Bm < b0 ∧ Br < b0 ∧ Bf < b0) : ShB w m f Bm Br Bf w6 := by
  have h1 := h.next hb
  have hne : ∀ B, B < b0 → some B ≠ v.ownBlock := fun B hB e => by have := (ho.lt B e.symm).1; omega
  refine ⟨rel_push h.below (Nat.le_trans h.below.size hb.size) (hb.mono h.below.size) (ho.mono h0.1) hg, ?_, ?_, ?_⟩
  · exact hg.cell h1.cm (hne Bm h0.2.1)
  · exact hg.cell h1.cr (hne Br h0.2.2.1)
  · exact (hg.block _ (Array.getElem?_eq_some_iff.1 h1.cf).1 (hne Bf h0.2.2.2)).trans h1.cf
/-- stands at the operation with this place, fast where it is another one -/
theorem at_dst {P : Program} {ops rest : _} {Q : Exit → Act → World → Prop} {a : Act} {w : World} (d : Option Tmp) {op ty pos af gd} (h : wpList P ops Q (⟨d, op, ty, pos, af, gd⟩ :: rest) a w) : wpList P ops Q (⟨d, op, ty, pos, af, gd⟩ :: rest) a w := h
theorem at_op {P : Program} {ops rest : _} {Q : Exit → Act → World → Prop} {a : Act} {w : World} (op : Op) {d ty pos af gd} (h : wpList P ops Q (⟨d, op, ty, pos, af, gd⟩ :: rest) a w) : wpList P ops Q (⟨d, op, ty, pos, af, gd⟩ :: rest) a w := h
theorem zero_one (w : World) (X : Array Value) (h : X = zeroA) : Below w.heap.size w (w.alloc (.cells X 69)) ∧ (w.alloc (.cells X 69)).heap[w.heap.size]? = some (.cells zeroA 69 (0, 0)) := by
  subst h
  exact ⟨below_alloc w _, heap_alloc_new w _⟩
theorem two_boxes (w : World) (u v : Value) (t1 t2 : TypeId) : Below w.heap.size w ((w.alloc (.cells #[u] t1)).alloc (.cells #[v] t2)) ∧ ((w.alloc (.cells #[u] t1)).alloc (.cells #[v] t2)).cell? ⟨w.heap.size, 0, none⟩ = some u ∧ ((w.alloc (.cells #[u] t1)).alloc (.cells #[v] t2)).cell? ⟨w.heap.size + 1, 0, none⟩ = some v := by
  have c0 := Box1.new w t1 u
  have b0 := below_alloc w (.cells #[u] t1)
  have s0 : (w.alloc (.cells #[u] t1)).heap.size = w.heap.size + 1 := by simp
  generalize w.alloc (.cells #[u] t1) = w1 at c0 b0 s0 ⊢
  have c1 := Box1.new w1 t2 v
  have b1 := below_alloc w1 (.cells #[v] t2)
  rw [s0] at c1
  exact ⟨b_next b0 b1, (c0.below b1).cell, c1.cell⟩
theorem tab_eq {m a : Nat} (hm : 2 ≤ m) (f : Nat → Int) (hf : ∀ x, 0 ≤ f x ∧ f x < m) (hm2 : m ≤ 64) (W : World) : (Op.equalIn 10000 69 (.agg (tabA (fun x => f ((x + a) % m)) m)) (.agg (tabA (fun x => (f x + (a : Int)) % (m : Int)) m))).run Try.prog W = .ok (okS m f a) W :=
  eq_tab (tabL (fun x => f ((x + a) % m)) m) (tabL (fun x => (f x + (a : Int)) % (m : Int)) m) W (tabL_length _ _) (tabL_length _ _) (tabL_wf fun x _ => by have := hf ((x + a) % m); omega) (tabL_wf fun x _ => by
    have h1 := Int.emod_nonneg (f x + (a : Int)) (show (m : Int) ≠ 0 by omega)
    have h2 := Int.emod_lt_of_pos (f x + (a : Int)) (show (0 : Int) < m by omega)
    omega)
theorem own_form {w : World} {base n : Nat} {e : TypeId} {size : Nat} {v : Value} {xs : List Value} (h : w.ownsRow base e size v n xs) : ∃ a cap, v = .slice a n cap := by
  rcases h.2 with ⟨rfl, rfl⟩ | ⟨g, cap, cur, rfl, _⟩
  · exact ⟨_, _, rfl⟩
  · exact ⟨_, _, rfl⟩
set_option maxRecDepth 100000 in
set_option maxHeartbeats 4000000 in
theorem Shifts_yes (m : Nat) (a : Option Addr) (n cap : Nat) (xs : List Int) (w : World) (hr : Row w a n (intL xs)) (hp : polyB m xs = true) :
    Calls Try.prog 20 #[.int .i64 m, .slice a n cap] w fun e w' => ∃ v, e = .returned (.tuple #[v, .int .i64 0]) ∧ w'.ownsRow w.heap.size 3 1 v (shL m (fun x : Nat => polyV m xs x) m).length (intL (shL m (fun x : Nat => polyV m xs x) m)) ∧ Below w.heap.size w w' := by
  have hx : xs.length = n := by have := hr.1; simpa [intL] using this
  have hmf : ∀ (fn : Fn) (first cap : Array Value) (w : World), (Instr.makeFunc fn first cap).run Try.prog w = .ok (.func fn first cap) w := fun _ _ _ _ => rfl
  obtain ⟨i0, hi, hz0, hz1, hz2⟩ := info_parts info_int
  have hp2 := hp
  unfold polyB at hp2
  rw [Bool.and_eq_true, Bool.and_eq_true, decide_eq_true_eq] at hp2
  obtain ⟨⟨h1, h2⟩, h3⟩ := hp2
  obtain ⟨k, hk, hm, hm2⟩ := modB_nat h1
  obtain rfl : m = k := by omega
  have hin := remB_in h3
  have h := fun W hW => isPoly_any m a n cap xs W hW (by omega)
  rw [hp] at h
  have ht := fun W hW => polyTable_any m a n cap xs W hW (by omega) (by omega) hm2 (fun x hx => by have := hin x hx; omega)
  have hmo := modulo_any (m : Int)
  have H := Lib.hid h
  have HT := Lib.hid ht
  have HMo := Lib.hid hmo
  have Hr := Lib.hid hr
  clear h ht hr hp h1 h2 h3 hin hk hx hmo
  generalize hff : (fun x : Nat => polyV m xs x) = f at *
  have hfr : ∀ x, 0 ≤ f x ∧ f x < m := fun x => by rw [← hff]; exact nestV_range (by omega) _ _ _
  have HEq := Lib.hid fun a W => tab_eq (a := a) hm f hfr hm2 W
  have Hst := Lib.hid fun k => shL_next m f k
  have Hle := Lib.hid fun k => shL_le m f k
  have HT1 : Hid (∀ (k Bf Br Ba Bm : Nat) (W : World), k < m → ShB w m f Bm Br Bf W → W.cell? ⟨Ba, 0, none⟩ = some (.int .i64 k) → Calls Try.prog 67 #[.int .i64 m, .func (.func 68) #[] #[.pointer (some ⟨Bf, 0, none⟩), .pointer (some ⟨Br, 0, none⟩), .pointer (some ⟨Ba, 0, none⟩)]] W fun e w' => e = .returned (.agg (tabA (fun x => f ((x + k) % m)) m)) ∧ Below W.heap.size W w') := fun k Bf Br Ba Bm W hk hS hc => by
    refine tabulated_any m _ _ (fun x => f ((x + k) % m)) W hm2 (enters_of Try.func68 (by kernel_rfl) rfl) fun i X hi hX => ?_
    have hS2 := hS.next hX
    exact shift1_any i k m Bf Br Ba Bm f X hS2.cf hS2.cr ((hX.cell (p := ⟨Ba, 0, none⟩) (World.block_lt_of_cell? W _ hc)).trans hc) hS2.cm hm hm2 (by omega) (by omega)
  have HT2 : Hid (∀ (k Bf Br Ba Bm : Nat) (W : World), k < m → ShB w m f Bm Br Bf W → W.cell? ⟨Ba, 0, none⟩ = some (.int .i64 k) → Calls Try.prog 67 #[.int .i64 m, .func (.func 69) #[] #[.pointer (some ⟨Br, 0, none⟩), .pointer (some ⟨Bf, 0, none⟩), .pointer (some ⟨Ba, 0, none⟩)]] W fun e w' => e = .returned (.agg (tabA (fun x => (f x + (k : Int)) % (m : Int)) m)) ∧ Below W.heap.size W w') := fun k Bf Br Ba Bm W hk hS hc => by
    refine tabulated_any m _ _ (fun x => (f x + (k : Int)) % (m : Int)) W hm2 (enters_of Try.func69 (by kernel_rfl) rfl) fun i X hi hX => ?_
    have hS2 := hS.next hX
    exact shift2_any i k m Bf Br Ba Bm f X hS2.cf hS2.cr ((hX.cell (p := ⟨Ba, 0, none⟩) (World.block_lt_of_cell? W _ hc)).trans hc) hS2.cm hm hm2 hi (by omega) (hfr i)
  clear hff hfr
  obtain ⟨T, hT⟩ : ∃ T, tabA f m = T := ⟨_, rfl⟩
  have hTs : T.size = 64 := by rw [← hT]; exact tabA_size f m
  have hTo : T.all (·.oneCell') = true := by rw [← hT]; exact tabA_one f m
  go_enter Try.func20, Try.ntmps20
  go_wp2_with fail
  refine (H.out _ Hr.out).mono ?_
  rintro e w1 ⟨rfl, hw⟩
  subst w1
  go_wp2_with fail
  refine (HMo.out _).mono ?_
  rintro e w1 ⟨rfl, rfl⟩
  go_wp2_with fail
  obtain ⟨b2, c1, c2⟩ := two_boxes w (.int .i64 m) (.func (.func 97) #[] #[.pointer (some ⟨w.heap.size, 0, none⟩)]) 3 52
  generalize (w.alloc (.cells #[.int .i64 m] 3)).alloc (.cells #[.func (.func 97) #[] #[.pointer (some ⟨w.heap.size, 0, none⟩)]] 52) = W2 at b2 c1 c2 ⊢
  refine (HT.out _ (Hr.out.below b2)).mono ?_
  rintro e w3 ⟨rfl, b3⟩
  rw [hT]
  have k1 := (b3.cell (p := ⟨w.heap.size, 0, none⟩) (World.block_lt_of_cell? W2 _ c1)).trans c1
  have k2 := (b3.cell (p := ⟨w.heap.size + 1, 0, none⟩) (World.block_lt_of_cell? W2 _ c2)).trans c2
  have B3 := Lib.hid (b_next b2 b3)
  have K1 := Lib.hid k1
  have K2 := Lib.hid k2
  clear b2 b3 c1 c2 k1 k2 HT H HMo
  go_wp2_with (have hz := zero_one w3 _ X64_zero
               generalize w3.alloc (.cells X64 69) = W at hz ⊢
               have B4 := Lib.hid (b_next B3.out hz.1)
               have Z4 := Lib.hid hz.2
               have K3 := Lib.hid ((hz.1.cell (p := ⟨w.heap.size, 0, none⟩) (World.block_lt_of_cell? w3 _ K1.out)).trans K1.out)
               have K4 := Lib.hid ((hz.1.cell (p := ⟨w.heap.size + 1, 0, none⟩) (World.block_lt_of_cell? w3 _ K2.out)).trans K2.out)
               clear hz
               refine wpList_store_row (o := ⟨none, .store 69 (.tmp 7) (.tmp 20), _, _, _, _⟩) rfl 69 (.tmp 7) (.tmp 20) rfl w3.heap.size T rfl rfl 69 zeroA Z4.out (info_table T hTs) (zeroA_size.trans hTs.symm) hTo ?_)
  have HB0 : Hid (ShB w m f w.heap.size (w.heap.size + 1) w3.heap.size (W.setRow w3.heap.size T)) := by
    have j1 := setRow_heap W w3.heap.size zeroA T 69 (0, 0) Z4.out
    have l1 := World.block_lt_of_cell? w3 _ K1.out
    have l2 := World.block_lt_of_cell? w3 _ K2.out
    simp only at l1 l2
    refine ⟨below_setRow B4.out B3.out.size T, ?_, ?_, by rw [hT]; exact j1⟩
    · rw [← K3.out]; exact World.cell?_of_block (setRow_other W w3.heap.size w.heap.size T (by omega))
    · rw [← K4.out]; exact World.cell?_of_block (setRow_other W w3.heap.size (w.heap.size + 1) T (by omega))
  generalize W.setRow w3.heap.size T = W3 at HB0 ⊢
  have hb0 : w.heap.size ≤ W3.heap.size ∧ w.heap.size < W3.heap.size ∧ w.heap.size + 1 < W3.heap.size ∧ w3.heap.size < W3.heap.size :=
    ⟨HB0.out.below.size, World.block_lt_of_cell? W3 _ HB0.out.cm, World.block_lt_of_cell? W3 _ HB0.out.cr, (Array.getElem?_eq_some_iff.1 HB0.out.cf).1⟩
  obtain ⟨b0, hbb⟩ : ∃ b, W3.heap.size = b := ⟨_, rfl⟩
  rw [hbb] at hb0
  have Hb0 := Lib.hid hb0
  have Hbb := Lib.hid (Nat.le_of_eq hbb.symm)
  clear hb0 hbb
  generalize hBm : w.heap.size = Bm at HB0 Hb0 ⊢
  generalize w3.heap.size = Bf at HB0 Hb0 ⊢
  clear K1 K2 K3 K4 Z4 B3 B4 hT hTs hTo
  go_wp2
  have Hb0' : Hid (w.heap.size ≤ b0 ∧ Bm < b0 ∧ Bm + 1 < b0 ∧ Bf < b0) := by rw [hBm]; exact Hb0.out
  go_loopw [8, 22] (fun v i wr => ∃ k : Nat, k ≤ m ∧ i = .int .i64 k ∧ Hid (wr.ownsRow b0 3 1 v (shL m f k).length (intL (shL m f k))) ∧ Hid (b0 ≤ wr.heap.size) ∧ Hid (ShB w m f Bm (Bm + 1) Bf wr)) (fun _ i _ => m - (intOf i).toNat)
  case atStart => exact ⟨0, Nat.zero_le _, rfl, World.ownsRow_nil _ _ _ _, Hbb, HB0⟩
  case round =>
    clear HB0
    obtain ⟨k, hk, rfl, HO, HZ, HB⟩ := hrel
    obtain ⟨a5, c5, hv5⟩ := own_form HO.out
    subst hv5
    by_cases hlt : k < m
    · have hc : (k : Int) < (m : Int) := by omega
      have hbx := below_alloc wr (.cells #[.int .i64 (k : Int)] 3)
      have hcx := (Box1.new wr 3 (.int .i64 (k : Int))).cell
      have HZ1 := Lib.hid (Nat.le_trans HZ.out hbx.size)
      have HB1 := Lib.hid (HB.out.next hbx)
      have HO1 := Lib.hid (HO.out.alloc (.cells #[.int .i64 (k : Int)] 3))
      have Hcx := Lib.hid hcx
      have hst := Hst.out k
      have hle := Hle.out k
      obtain ⟨ln, hln⟩ : ∃ n, (shL m f k).length = n := ⟨_, rfl⟩
      rw [hln] at hle
      have Hln := Lib.hid hln
      have h1 := HT1.out k Bf (Bm + 1) wr.heap.size Bm (wr.alloc (.cells #[.int .i64 (k : Int)] 3)) hlt HB1.out hcx
      have h2 := fun W hS hc => HT2.out k Bf (Bm + 1) wr.heap.size Bm W hlt hS hc
      have heq := HEq.out k
      generalize okS m f k = ok at hst heq
      obtain ⟨TA, hTA⟩ : ∃ T, tabA (fun x => f ((x + k) % m)) m = T := ⟨_, rfl⟩
      have hTAs : TA.size = 64 := by rw [← hTA]; exact tabA_size _ m
      have hTAo : TA.all (·.oneCell') = true := by rw [← hTA]; exact tabA_one _ m
      obtain ⟨TB, hTB⟩ : ∃ T, tabA (fun x => (f x + (k : Int)) % (m : Int)) m = T := ⟨_, rfl⟩
      have hTBs : TB.size = 64 := by rw [← hTB]; exact tabA_size _ m
      have hTBo : TB.all (·.oneCell') = true := by rw [← hTB]; exact tabA_one _ m
      rw [hTA] at h1 heq
      rw [hTB] at heq
      simp only [hTB] at h2
      have H1 := Lib.hid h1
      have H2 := Lib.hid h2
      have Hst2 := Lib.hid hst
      have Hgo := Lib.hid (And.intro (show k + 1 ≤ m by omega) hlt)
      clear h1 h2 hst hTA hTB hbx hcx HB HO hln hk
      go_wp2_with fail
      generalize hBa : wr.heap.size = Ba at *
      generalize wr.alloc (.cells #[.int .i64 (k : Int)] 3) = Wa at *
      refine H1.out.mono ?_
      rintro e wA ⟨rfl, bA⟩
      have SA := Lib.hid (HB1.out.next bA)
      have CA := Lib.hid ((bA.cell (p := ⟨Ba, 0, none⟩) (World.block_lt_of_cell? Wa _ Hcx.out)).trans Hcx.out)
      have OA := Lib.hid (own_later HO1.out bA)
      have ZA := Lib.hid (Nat.le_trans HZ1.out bA.size)
      clear bA H1 HB1 HO1 Hcx hBa
      go_wp2_with (have hz := zero_one wA _ X64_zero
                   generalize wA.alloc (.cells X64 69) = WA at hz ⊢
                   have Hz1 := Lib.hid hz.1
                   have Z1 := Lib.hid hz.2
                   clear hz
                   refine wpList_store_row (o := ⟨none, .store 69 (.tmp 10) (.tmp 27), _, _, _, _⟩) rfl 69 (.tmp 10) (.tmp 27) rfl wA.heap.size TA rfl rfl 69 zeroA Z1.out (info_table TA hTAs) (zeroA_size.trans hTAs.symm) hTAo ?_)
      have bB := below_setRow Hz1.out (Nat.le_refl _) TA
      have jB := setRow_heap WA wA.heap.size zeroA TA 69 (0, 0) Z1.out
      generalize WA.setRow wA.heap.size TA = WB at bB jB ⊢
      have SB := Lib.hid (SA.out.next bB)
      have CB := Lib.hid ((bB.cell (p := ⟨Ba, 0, none⟩) (World.block_lt_of_cell? wA _ CA.out)).trans CA.out)
      have OB := Lib.hid (own_later OA.out bB)
      have ZB := Lib.hid (Nat.le_trans ZA.out bB.size)
      refine (H2.out WB SB.out CB.out).mono ?_
      rintro e wC ⟨rfl, bC⟩
      have SC := Lib.hid (SB.out.next bC)
      have CC := Lib.hid ((bC.cell (p := ⟨Ba, 0, none⟩) (World.block_lt_of_cell? WB _ CB.out)).trans CB.out)
      have OC := Lib.hid (own_later OB.out bC)
      have ZC := Lib.hid (Nat.le_trans ZB.out bC.size)
      have JC := Lib.hid ((bC.block _ (Array.getElem?_eq_some_iff.1 jB).1).trans jB)
      generalize wA.heap.size = BA at *
      clear bB jB bC SA CA OA SB CB OB Hz1 Z1 H2
      cases ok with
      | true =>
        rw [if_pos rfl] at Hst2
        go_wp2_with (first
          | (with_reducible refine at_op (.store 69 (.tmp 11) (.tmp 30)) ?_
             have hz := zero_one wC _ X64_zero
             generalize wC.alloc (.cells X64 69) = WC at hz ⊢
             refine wpList_store_row (o := ⟨none, .store 69 (.tmp 11) (.tmp 30), _, _, _, _⟩) rfl 69 (.tmp 11) (.tmp 30) rfl wC.heap.size TB rfl rfl 69 zeroA hz.2 (info_table TB hTBs) (zeroA_size.trans hTBs.symm) hTBo ?_
             have bD := below_setRow hz.1 (Nat.le_refl _) TB
             have jD := setRow_heap WC wC.heap.size zeroA TB 69 (0, 0) hz.2
             generalize WC.setRow wC.heap.size TB = WD at bD jD ⊢
             have SD := Lib.hid (SC.out.next bD)
             have cD := (bD.cell (p := ⟨Ba, 0, none⟩) (World.block_lt_of_cell? wC _ CC.out)).trans CC.out
             have OD := Lib.hid (own_later OC.out bD)
             have ZD := Lib.hid (Nat.le_trans ZC.out bD.size)
             have JD := Lib.hid ((bD.block _ (Array.getElem?_eq_some_iff.1 JC.out).1).trans JC.out)
             have KD := Lib.hid jD
             generalize wC.heap.size = BC at *
             clear hz bD jD SC CC OC JC)
          | (with_reducible refine at_dst (some 31) ?_; refine wpList_load_row (o := ⟨some 31, .load 69 (.tmp 10), _, _, _, _⟩) rfl 69 (.tmp 10) rfl BA rfl 69 TA (0, 0) _ JD.out Try.underlying69 rfl (info_table TA hTAs) ?_; (try simp only [Act.put, List.setIfInBounds_toArray, List.set_cons_zero, List.set_cons_succ]))
          | (with_reducible refine at_dst (some 32) ?_; refine wpList_load_row (o := ⟨some 32, .load 69 (.tmp 11), _, _, _, _⟩) rfl 69 (.tmp 11) rfl BC rfl 69 TB (0, 0) _ KD.out Try.underlying69 rfl (info_table TB hTBs) ?_; (try simp only [Act.put, List.setIfInBounds_toArray, List.set_cons_zero, List.set_cons_succ]))
          | (at_builtin; refine wpList_append_own _ rfl _ _ 22 rfl b0 3 i0 (.int .i64 0) 1 8 Try.underlying22 hi hz0 hz1 hz2 rfl (by decide) _ _ _ rfl (OD.out.alloc (.cells #[.int .i64 (k : Int)] 3)) ⟨_, 0, none⟩ 1 1 [.int .i64 (k : Int)] rfl rfl (one_new _ _ _ _ (by simp)) (by simp [Value.oneCell']) (by rw [Hln.out]; unfold maxLen; omega) (by rw [Hln.out]; omega) (by have := ZD.out; simp; omega) ?_; intro v2 w6 hown2 hgrow2 _
             obtain ⟨a6, c6, hv6⟩ := own_form hown2
             subst hv6
             have hba : Below WD.heap.size WD (WD.alloc (.cells #[.int .i64 (k : Int)] 3)) := below_alloc WD _
             have HS6 : Hid (ShB w m f Bm (Bm + 1) Bf w6) := SD.out.grown hba OD.out hgrow2 Hb0'.out
             have HZ6 : Hid (b0 ≤ w6.heap.size) := Nat.le_trans ZD.out (Nat.le_trans hba.size hgrow2.size)
             have HO6 := Lib.hid hown2
             clear hown2 hgrow2 hba))
        go_roundw
        case rel =>
          refine ⟨k + 1, Hgo.out.1, by go_num, ?_, HZ6, HS6⟩
          rw [Hst2.out]
          unfold Hid intL
          rw [List.length_append, List.map_append]
          exact HO6.out
        case measure => exact mz_upn Hgo.out.2
      | false =>
        rw [if_neg (by decide)] at Hst2
        go_wp2_with (first
          | (with_reducible refine at_op (.store 69 (.tmp 11) (.tmp 30)) ?_
             have hz := zero_one wC _ X64_zero
             generalize wC.alloc (.cells X64 69) = WC at hz ⊢
             refine wpList_store_row (o := ⟨none, .store 69 (.tmp 11) (.tmp 30), _, _, _, _⟩) rfl 69 (.tmp 11) (.tmp 30) rfl wC.heap.size TB rfl rfl 69 zeroA hz.2 (info_table TB hTBs) (zeroA_size.trans hTBs.symm) hTBo ?_
             have bD := below_setRow hz.1 (Nat.le_refl _) TB
             have jD := setRow_heap WC wC.heap.size zeroA TB 69 (0, 0) hz.2
             generalize WC.setRow wC.heap.size TB = WD at bD jD ⊢
             have SD := Lib.hid (SC.out.next bD)
             have OD := Lib.hid (own_later OC.out bD)
             have ZD := Lib.hid (Nat.le_trans ZC.out bD.size)
             have JD := Lib.hid ((bD.block _ (Array.getElem?_eq_some_iff.1 JC.out).1).trans JC.out)
             have KD := Lib.hid jD
             generalize wC.heap.size = BC at *
             clear hz bD jD SC CC OC JC)
          | (with_reducible refine at_dst (some 31) ?_; refine wpList_load_row (o := ⟨some 31, .load 69 (.tmp 10), _, _, _, _⟩) rfl 69 (.tmp 10) rfl BA rfl 69 TA (0, 0) _ JD.out Try.underlying69 rfl (info_table TA hTAs) ?_; (try simp only [Act.put, List.setIfInBounds_toArray, List.set_cons_zero, List.set_cons_succ]))
          | (with_reducible refine at_dst (some 32) ?_; refine wpList_load_row (o := ⟨some 32, .load 69 (.tmp 11), _, _, _, _⟩) rfl 69 (.tmp 11) rfl BC rfl 69 TB (0, 0) _ KD.out Try.underlying69 rfl (info_table TB hTBs) ?_; (try simp only [Act.put, List.setIfInBounds_toArray, List.set_cons_zero, List.set_cons_succ])))
        go_roundw
        case rel =>
          refine ⟨k + 1, Hgo.out.1, by go_num, ?_, ZD, SD⟩
          rw [Hst2.out]
          exact OD
        case measure => exact mz_upn Hgo.out.2
    · obtain rfl : k = m := by omega
      have hc : ¬ (k : Int) < (k : Int) := by omega
      have BZ := Lib.hid HB.out.below
      clear HB
      go_wp2
      go_ret2
      exact ⟨.slice a5 _ c5, rfl, HO.out.mono Hb0.out.1, by rw [← hBm]; exact BZ.out⟩
end Go.Proofs.Ytndbjojjaapeaaa

/- Powers, reduced polynomials, Shifts that refuses. -/
namespace Go.Proofs.Ytndbjojjaapeaaa
set_option linter.unusedVariables false
open Go.RowKit

theorem pow_in {p k : Nat} (hp : p ≤ 64) (hk : k ≤ 6) : p ^ k ≤ 68719476736 := by
  have h1 : p ^ k ≤ 64 ^ k := Nat.pow_le_pow_left hp k
  have h2 : 64 ^ k ≤ 64 ^ 6 := Nat.pow_le_pow_right (by decide) hk
  exact Nat.le_trans h1 h2
def powN (p k : Nat) : Nat := p ^ k
theorem pow_num {p k : Nat} (hp : p ≤ 64) (hk : k < 6) : ∃ q q2 : Nat, powN p k = q ∧ powN p (k + 1) = q2 ∧ IntKind.i64.wrap ((q : Int) * (p : Int)) = (q2 : Int) ∧ wrap64 ((q : Int) * (p : Int)) = (q2 : Int) := by
  have h := pow_in hp (k := k + 1) (by omega)
  have e : ((p ^ k : Nat) : Int) * (p : Int) = ((p ^ (k + 1) : Nat) : Int) := by rw [Nat.pow_succ, Int.natCast_mul]
  refine ⟨p ^ k, p ^ (k + 1), rfl, rfl, ?_, ?_⟩
  · rw [e]; generalize p ^ (k + 1) = q at h ⊢; exact IntWalk.i64_in _ (by omega)
  · rw [e]; generalize p ^ (k + 1) = q at h ⊢; exact IntWalk.wrap64_in _ (by omega)
set_option maxRecDepth 100000 in
set_option maxHeartbeats 4000000 in
theorem refPower_any (p k : Nat) (w : World) (hp : p ≤ 64) (hk : k ≤ 6) : Calls Try.prog 30 #[.int .i64 p, .int .i64 k] w fun e w' => e = .returned (.int .i64 (powN p k : Nat)) ∧ w' = w := by
  go_enter Try.func30, Try.ntmps30
  go_wp2
  go_loopw [5, 6] (fun o i wr => ∃ j : Nat, j ≤ k ∧ i = .int .i64 j ∧ o = .int .i64 (powN p j : Nat) ∧ wr = w) (fun _ i _ => k - (intOf i).toNat)
  case atStart => exact ⟨0, Nat.zero_le _, rfl, rfl, rfl⟩
  case round =>
    obtain ⟨j, hj, rfl, rfl, hw⟩ := hrel
    subst wr
    by_cases hlt : j < k
    · have hc : (j : Int) < (k : Int) := by omega
      obtain ⟨q, q2, h1, h2, n1, n2⟩ := pow_num hp (show j < 6 by omega)
      rw [h1]
      have H2 := Lib.hid h2
      have Hgo := Lib.hid (And.intro (show j + 1 ≤ k by omega) hlt)
      clear h1 h2
      go_wp2
      go_roundw
      case rel => exact ⟨j + 1, Hgo.out.1, by clear n1 n2; go_num, by rw [H2.out], trivial⟩
      case measure => exact mz_upn Hgo.out.2
    · obtain rfl : j = k := by omega
      have hc : ¬ (j : Int) < (j : Int) := by omega
      go_wp2
      go_ret
      exact ⟨rfl, rfl⟩
theorem box_pair (w : World) (u v : Value) (t : TypeId) : Below w.heap.size w (w.alloc (.cells #[u, v] t)) ∧ (w.alloc (.cells #[u, v] t)).cell? ⟨w.heap.size, 0, none⟩ = some u ∧ (w.alloc (.cells #[u, v] t)).cell? ⟨w.heap.size, 1, none⟩ = some v := by
  have k : ∀ y : World, y.heap[w.heap.size]? = some (.cells #[u, v] t (0, 0)) → y.cell? ⟨w.heap.size, 0, none⟩ = some u ∧ y.cell? ⟨w.heap.size, 1, none⟩ = some v := fun y k => ⟨by simp [World.cell?, k], by simp [World.cell?, k]⟩
  exact ⟨below_alloc _ _, k _ (World.alloc_heap_new w (.cells #[u, v] t))⟩
set_option maxRecDepth 100000 in
set_option maxHeartbeats 4000000 in
theorem powerOf_any (p k : Nat) (w : World) (hp : p ≤ 64) (hk : k ≤ 6) : Calls Try.prog 71 #[.agg #[.int .i64 p, .int .i64 k]] w fun e w' => e = .returned (.int .i64 (powN p k : Nat)) ∧ Below w.heap.size w w' := by
  obtain ⟨hb, k0, k1⟩ := box_pair w (.int .i64 p) (.int .i64 k) 42
  go_enter Try.func71, Try.ntmps71
  go_wp2
  generalize w.alloc (.cells #[.int .i64 p, .int .i64 k] 42) = W1 at *
  have HB := Lib.hid hb
  clear hb
  go_loopw [3, 6] (fun o i wr => ∃ j : Nat, j ≤ k ∧ i = .int .i64 j ∧ o = .int .i64 (powN p j : Nat) ∧ wr = W1) (fun _ i _ => k - (intOf i).toNat)
  case atStart => exact ⟨0, Nat.zero_le _, rfl, rfl, rfl⟩
  case round =>
    obtain ⟨j, hj, rfl, rfl, hw⟩ := hrel
    subst wr
    by_cases hlt : j < k
    · have hc : (j : Int) < (k : Int) := by omega
      obtain ⟨q, q2, h1, h2, n1, n2⟩ := pow_num hp (show j < 6 by omega)
      rw [h1]
      have H2 := Lib.hid h2
      have Hgo := Lib.hid (And.intro (show j + 1 ≤ k by omega) hlt)
      clear h1 h2
      go_wp2
      go_roundw
      case rel => exact ⟨j + 1, Hgo.out.1, by clear n1 n2; go_num, by rw [H2.out], trivial⟩
      case measure => exact mz_upn Hgo.out.2
    · obtain rfl : j = k := by omega
      have hc : ¬ (j : Int) < (j : Int) := by omega
      go_wp2
      go_ret
      exact ⟨rfl, HB.out⟩
set_option maxRecDepth 100000 in
theorem Shifts_no (m : Int) (a : Option Addr) (n cap : Nat) (xs : List Int) (w : World) (hr : Row w a n (intL xs)) (hn : n ≤ 1000) (hp : polyB m xs = false) :
    Calls Try.prog 20 #[.int .i64 m, .slice a n cap] w fun e w' => e = .returned (.tuple #[.slice none 0 0, .int .i64 2]) ∧ w' = w := by
  have h := isPoly_any m a n cap xs w hr hn
  rw [hp] at h
  have H := Lib.hid h
  clear h hr hp
  go_enter Try.func20, Try.ntmps20
  go_wp2_with fail
  refine H.out.mono ?_
  rintro e w1 ⟨rfl, hw⟩
  subst w1
  go_wp2
  go_ret2
  exact ⟨rfl, rfl⟩
set_option maxRecDepth 100000 in
theorem Split_no (m : Int) (a : Option Addr) (n cap : Nat) (xs : List Int) (w : World) (hr : Row w a n (intL xs)) (hn : n ≤ 1000) (hp : polyB m xs = false) :
    Calls Try.prog 21 #[.int .i64 m, .slice a n cap] w fun e w' => e = .returned (.tuple #[.slice none 0 0, .slice none 0 0, .int .i64 2]) ∧ w' = w := by
  have h := isPoly_any m a n cap xs w hr hn
  rw [hp] at h
  have H := Lib.hid h
  clear h hr hp
  go_enter Try.func21, Try.ntmps21
  go_wp2_with fail
  refine H.out.mono ?_
  rintro e w1 ⟨rfl, hw⟩
  subst w1
  go_wp2
  go_ret3
  exact ⟨rfl, rfl⟩
end Go.Proofs.Ytndbjojjaapeaaa
