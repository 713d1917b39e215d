/- Texts of buttons, joined: Ownr, Ownb, Rinv, Bsv, Vst, Ownf, Asv, Narm, Marks, Nar. -/
import Derived.Test.YtambhhjbafefgaaQb
import Derived.RangeFuncNested
import Derived.RangeFuncBound
import Derived.RangeFuncCalls
import Derived.RangeFuncLeaves
import Derived.RangeFuncBox
import Derived.RangeFuncFrom
import Derived.Shelf.Abstract
import Derived.Shelf.RegionOpen
import Derived.OwnWalkIn
import Derived.TacticsInMore
import Derived.LoopNIn
import Derived.LoopIn
import Derived.OrdersIn
import Derived.Test.YtambhhjbafefgaaQc
import Derived.Test.YtambhhjbafefgaaQa
/- A range over a function whose iterator writes variables of its own: what the caller's loop keeps, and a law for it. -/
namespace Go.Proofs.Ytambhhjbafefgaa
set_option linter.unusedVariables false
open Go.RowKit

/-- whatever lies from T on lies as it lay -/
structure KeepsAt (T : Nat) (W W' : World) : Prop where
  size : W.heap.size ≤ W'.heap.size
  same : ∀ (k : Nat) (o : Obj), T ≤ k → W.heap[k]? = some o → W'.heap[k]? = some o
theorem KeepsAt.refl (T : Nat) (W : World) : KeepsAt T W W := ⟨Nat.le_refl _, fun _ _ _ h => h⟩
theorem KeepsAt.trans {T : Nat} {A B C : World} (h : KeepsAt T A B) (k : KeepsAt T B C) : KeepsAt T A C := ⟨Nat.le_trans h.size k.size, fun i o hi ho => k.same i o hi (h.same i o hi ho)⟩
theorem KeepsAt.of_grown {T : Nat} {W W' : World} {row : Option Nat} (h : W.grownBy W' row) (hr : ∀ r, row = some r → r < T) : KeepsAt T W W' :=
  ⟨h.size, fun k o hk ho => (h.block k (Array.getElem?_eq_some_iff.1 ho).1 (fun e => by have := hr k e.symm; omega)).trans ho⟩
theorem KeepsAt.block {T : Nat} {W W' : World} (h : KeepsAt T W W') {k : Nat} {o : Obj} (hk : T ≤ k) (ho : W.heap[k]? = some o) : W'.heap[k]? = some o := h.same k o hk ho

/-- it bears new blocks, and whatever happens to blocks from B on -/
def Bears {β : Type} (B : Nat) (J : β → World → Prop) : Prop :=
  ∀ s W W' row, J s W → W.grownBy W' row → (∀ r, row = some r → B ≤ r) → J s W'
theorem Bears.put {β : Type} {B : Nat} {J : β → World → Prop} (h : Bears B J) {s : β} {W : World} {l : Nat} (o : Obj) (hs : J s W) (hl : B ≤ l) : J s (W.putObj l o) :=
  h s W _ (some l) hs (grownBy_putObj' W l o) (fun r e => by cases e; exact hl)
theorem Bears.new {β : Type} {B : Nat} {J : β → World → Prop} (h : Bears B J) {s : β} {W : World} (o : Obj) (hs : J s W) : J s (W.alloc o) :=
  h s W _ none hs (World.grownBy_alloc W o none) (fun r e => by cases e)
theorem Bears.and {β : Type} {B : Nat} {I J : β → World → Prop} (h : Bears B I) (k : Bears B J) : Bears B (fun s W => I s W ∧ J s W) := fun s W W' row hs hg hr => ⟨h s W W' row hs.1 hg hr, k s W W' row hs.2 hg hr⟩
theorem bears_pure {β : Type} (B : Nat) (p : β → Prop) : Bears B (fun s (_ : World) => p s) := fun _ _ _ _ hs _ _ => hs
theorem bears_below {β : Type} {m B : Nat} {w : World} (h : m ≤ B) (hw : m ≤ w.heap.size) : Bears B (fun (_ : β) W => Below m w W) := fun s W W' row hs hg hr =>
  hs.grown hg (Nat.le_trans hw hs.size) (fun k e => Nat.le_trans h (hr k e))
theorem bears_box {β : Type} {b B : Nat} (h : b < B) (t : TypeId) (f : β → Value) : Bears B (fun s W => Boxed W b t (f s)) := fun s W W' row hs hg hr =>
  hs.kept hg (fun e => by have := hr b e.symm; omega)

/-- an iterator that calls yield for what S says, or for a part of it -/
def Visits {α : Type} (F : Fence) (n : Nat) (P : Program) (gf : Nat) (lb : Array Value) (encs : α → Array Value) (T : Nat) (S Sp : List α → Prop) (N : Nat) (W : World) : Prop :=
  ∀ (l : Nat) (J Jx : List α → World → Prop), Bears W.heap.size J → Bears W.heap.size Jx →
    (∀ pre x X, J pre X → pre.length < N → YieldAt F (n - 1) P l (encs x) X fun e X' =>
      (e = .returned (.bool true) ∧ J (pre ++ [x]) X' ∧ KeepsAt T X X') ∨ (e = .returned (.bool false) ∧ Jx (pre ++ [x]) X')) →
    J [] W → CallsIn F n P gf (#[.func (.yield l) #[] #[]] ++ lb) W fun e W' => (∃ v, e = .returned v) ∧ ((∃ xs, S xs ∧ J xs W') ∨ (∃ pre, Sp pre ∧ Jx pre W'))

/-- how a round may end -/
def roundEnds {α : Type} (T : Nat) (I : List α → World → Prop) (Ix : Code → List α → World → Prop) (xs : List α) (W : World) : Exit → Act → World → Prop
  | .normal, _, W' => KeepsAt T W W' ∧ I xs W'
  | .ret, _, W' => KeepsAt T W W' ∧ Ix .ret xs W'
  | .exit i, _, W' => KeepsAt T W W' ∧ Ix (.exit i) xs W'
  | .goto t, _, W' => KeepsAt T W W' ∧ Ix (.goto t) xs W'
  | _, _, _ => False

variable {F : Fence} {n : Nat} {P : Program}

theorem range_visits {α : Type} {g : Operand} {ps : Array Tmp} {assign body : Code} {Q : Exit → Act → World → Prop} {a : Act} {w : World}
    (hro : F.round = none) (h1 : 1 ≤ n) {gf : Nat} {lb : Array Value} (hg : a.eval g = .func (.func gf) #[] lb) (hFg : F.fn gf) (eg : ∀ args w, (callFunc gf args).run P w = .ok (.enter gf args) w)
    {encs : α → Array Value} {T : Nat} {S Sp : List α → Prop} {N : Nat} (hT : T ≤ w.heap.size) (hseq : ∀ W, w.grownBy W none → Visits F (n - 1) P gf lb encs T S Sp N W) (hps : ∀ x, (encs x).size = ps.size)
    (I : List α → World → Prop) (Ix : Code → List α → World → Prop) (hI : Bears w.heap.size I) (hIx : ∀ c, Bears w.heap.size (Ix c)) (h0 : I [] w) (a₁ : α → Act)
    (hassign : ∀ (l : Nat) (x : α) (W : World) (K : Act → World → Prop), K (a₁ x) W →
      assign.wpIn (F.inRound l) (n - 1 - 1) P (Exit.then K (fun _ _ _ => False)) { tmps := (ps.zip (encs x)).foldl (fun t (p, v) => t.setIfInBounds p v) a.tmps, defers := [] } W)
    (hbody : ∀ (l : Nat) (pre : List α) (x : α) (W : World), I pre W → pre.length < N → body.wpIn (F.inRound l) (n - 1 - 1) P (roundEnds T I Ix (pre ++ [x]) W) (a₁ x) W)
    (hdone : ∀ (D : Nat) (xs : List α) (W : World), w.heap.size ≤ D → S xs → I xs W → W.heap[D]? = some (.deferred (some [])) → Q .normal { a with defers := { target := .collected D, args := #[] } :: a.defers } W)
    (hstop : ∀ (D : Nat) (c : Code) (pre : List α) (W : World), w.heap.size ≤ D → Sp pre → Ix c pre W → W.heap[D]? = some (.deferred (some [])) → c.wpIn F n P Q { a with defers := { target := .collected D, args := #[] } :: a.defers } W) :
    (Code.rangeFunc g ps assign body).wpIn F n P Q a w := by
  refine wpIn_rangeFunc (fun fn hfn => ?_)
  rw [hro]
  -- the two blocks of the loop: D for the deferred calls, L for its record
  obtain ⟨D, hD⟩ : ∃ D, w.heap.size = D := ⟨_, rfl⟩
  obtain ⟨rec, hrec⟩ : ∃ rec : LoopState → Option Code → Loop, rec = fun st jump => { state := st, pending := jump, fn, tmps := a.tmps, params := ps, assign, body, defers := D } := ⟨_, rfl⟩
  obtain ⟨V, hV⟩ : ∃ V, (w.alloc (.deferred (some []))).alloc (.loop (rec .ready none)) = V := ⟨_, rfl⟩
  have vs : V.heap.size = D + 1 + 1 := by rw [← hV, ← hD]; simp
  have vL : V.heap[D + 1]? = some (.loop (rec .ready none)) := by
    rw [← hV, ← hD]; have h := World.alloc_heap_new (w.alloc (.deferred (some []))) (.loop (rec .ready none)); rwa [World.size_alloc] at h
  have vD : V.heap[D]? = some (.deferred (some [])) := by
    rw [← hV, ← hD]; exact (Below.heap_alloc _ _ _ (by simp)).trans (World.alloc_heap_new w _)
  have vg : w.grownBy V none := by
    rw [← hV]
    have k1 := World.grownBy_alloc w (.deferred (some [])) none
    have k2 := World.grownBy_alloc (w.alloc (.deferred (some []))) (.loop (rec .ready none)) none
    exact k1.trans k2
  have vI : I [] V := by rw [← hV]; exact hI.new _ (hI.new _ h0)
  rw [hD] at hI hIx hT
  -- what holds between two rounds, and behind the last one
  let J : List α → World → Prop := fun pre W => I pre W ∧ W.heap[D + 1]? = some (.loop (rec .ready none)) ∧ W.heap[D]? = some (.deferred (some []))
  let Jx : List α → World → Prop := fun pre W => ∃ c, Ix c pre W ∧ W.heap[D + 1]? = some (.loop (rec .done (some c))) ∧ W.heap[D]? = some (.deferred (some []))
  have far : ∀ {A B : World} {row : Option Nat} {k : Nat} {o : Obj}, k < V.heap.size → A.grownBy B row → (∀ r, row = some r → V.heap.size ≤ r) → A.heap[k]? = some o → B.heap[k]? = some o := fun hk hg hr ho =>
    (hg.block _ (Array.getElem?_eq_some_iff.1 ho).1 (fun e => by have := hr _ e.symm; omega)).trans ho
  have bJ : Bears V.heap.size J := fun s A B row hs hg' hr => ⟨hI s A B row hs.1 hg' (fun r e => by have := hr r e; omega), far (by omega) hg' hr hs.2.1, far (by omega) hg' hr hs.2.2⟩
  have bJx : Bears V.heap.size Jx := fun s A B row ⟨c, hc, hl, hk⟩ hg' hr => ⟨c, hIx c s A B row hc hg' (fun r e => by have := hr r e; omega), far (by omega) hg' hr hl, far (by omega) hg' hr hk⟩
  refine ⟨D + 1, [{ target := .collected D, args := #[] }], V, { target := .fn (.func gf) lb, args := #[.func (.yield (D + 1)) #[] #[]] }, V, gf, #[.func (.yield (D + 1)) #[] #[]] ++ lb, V, ?_, ?_, ?_, ?_, fun _ => h1, ?_⟩
  · rw [← hV, hrec, ← hD]; exact run_enterLoop_outer _ _ _ _ _
  · simp only [resolve, hg]; simp [go_sem]
  · intro f hf; simp [Target.leads] at hf; subst hf; exact hFg
  · simp [invoke, go_sem, eg]
  refine (hseq V vg (D + 1) J Jx bJ bJx ?_ ⟨vI, vL, vD⟩).mono ?_
  · rintro pre x W ⟨hi, hl, hk⟩ hlen
    have hlt : D + 1 < W.heap.size := (Array.getElem?_eq_some_iff.1 hl).1
    have hy := run_yield (P := P) (args := encs x) hl (by rw [hrec]; exact hps x)
    rw [hrec] at hy
    refine ⟨fn, _, assign, body, hy, roundIn_of_wpIn hfn (hassign _ x W _ ⟨_, run_beginRound hl (by rw [hrec]), ?_⟩)⟩
    obtain ⟨W2, hW2⟩ : ∃ W2, W.putObj (D + 1) (.loop { rec .ready none with state := .busy }) = W2 := ⟨_, rfl⟩
    have l2 : W2.heap[D + 1]? = some (.loop { rec .ready none with state := .busy }) := by rw [← hW2]; exact World.putObj_heap_same hlt
    have k2 : W2.heap[D]? = some (.deferred (some [])) := by rw [← hW2]; exact (World.putObj_heap_other (by omega)).trans hk
    have i2 : I pre W2 := by rw [← hW2]; exact hI.put _ hi (by omega)
    have oth2 : ∀ k, k ≠ D + 1 → W2.heap[k]? = W.heap[k]? := fun k hne => by rw [← hW2]; exact World.putObj_heap_other hne
    have s2 : W2.heap.size = W.heap.size := by rw [← hW2]; simp
    -- the end of a round, whichever way it is left
    have fin : ∀ (jump : Option Code) (W3 : World), KeepsAt T W2 W3 → ∃ W4, (Instr.endRound (D + 1) jump).run P W3 = .ok (.bool jump.isNone) W4 ∧ W4 = W3.putObj (D + 1) (.loop (rec (if jump.isNone then .ready else .done) jump)) ∧
        W4.heap[D + 1]? = some (.loop (rec (if jump.isNone then .ready else .done) jump)) ∧ W4.heap[D]? = some (.deferred (some [])) := fun jump W3 hk3 => by
      have hl3 := hk3.same _ _ (by omega) l2
      have hrun := run_endRound (P := P) jump hl3
      rw [hrec] at hrun ⊢
      exact ⟨_, hrun, rfl, World.putObj_heap_same (Array.getElem?_eq_some_iff.1 hl3).1, (World.putObj_heap_other (by omega)).trans (hk3.same _ _ (by omega) k2)⟩
    rw [hW2]
    refine wpIn_mono (hbody _ pre x W2 i2 hlen) ?_
    intro e a3 W3 hp
    have left : ∀ c, KeepsAt T W2 W3 → Ix c (pre ++ [x]) W3 → ∃ v W4, (Instr.endRound (D + 1) (some c)).run P W3 = .ok v W4 ∧ ((Ending.returned v = .returned (.bool true) ∧ J (pre ++ [x]) W4 ∧ KeepsAt T W W4) ∨ (Ending.returned v = .returned (.bool false) ∧ Jx (pre ++ [x]) W4)) := fun c hk3 hi3 => by
      obtain ⟨W4, hr, rfl, hl4, hk4⟩ := fin (some c) W3 hk3
      exact ⟨_, _, hr, .inr ⟨rfl, c, (hIx c).put _ hi3 (by omega), hl4, hk4⟩⟩
    cases e with
    | normal =>
      obtain ⟨hk3, hi3⟩ := hp
      obtain ⟨W4, hr, rfl, hl4, hk4⟩ := fin none W3 hk3
      refine ⟨_, _, hr, .inl ⟨rfl, ⟨hI.put _ hi3 (by omega), hl4, hk4⟩, ?_⟩⟩
      refine ⟨by have := hk3.size; simp; omega, fun k o hT' ho => ?_⟩
      by_cases hkl : k = D + 1
      · subst hkl
        rw [hl] at ho
        cases ho
        exact hl4
      · exact (World.putObj_heap_other hkl).trans (hk3.same k o hT' ((oth2 k hkl).trans ho))
    | ret => exact left .ret hp.1 hp.2
    | exit i => exact left (.exit i) hp.1 hp.2
    | goto t => exact left (.goto t) hp.1 hp.2
    | panic c => exact hp.elim
    | outgrown => exact hp.elim
  · rintro e W2 ⟨⟨v, rfl⟩, (⟨xs, hS, hi, hl, hk⟩ | ⟨pre, hSp, c, hi, hl, hk⟩)⟩
    all_goals
      have hend := run_endLoop (P := P) hl (by rw [hrec]; simp)
      rw [hrec] at hend
    · exact ⟨none, _, hend, hdone D xs _ (by omega) hS (hI.put _ hi (by omega)) ((World.putObj_heap_other (by omega)).trans hk)⟩
    · exact ⟨some c, _, hend, hstop D c pre _ (by omega) hSp ((hIx c).put _ hi (by omega)) ((World.putObj_heap_other (by omega)).trans hk)⟩
end Go.Proofs.Ytambhhjbafefgaa

/- The law for a range over a function, where the round lays a box for what it is handed. -/
namespace Go.Proofs.Ytambhhjbafefgaa
set_option linter.unusedVariables false
open Go.RowKit

variable {F : Fence} {n : Nat} {P : Program}

theorem range_visits_box {α : Type} {g : Operand} {ps : Array Tmp} {assign body : Code} {Q : Exit → Act → World → Prop} {a : Act} {w : World}
    (hro : F.round = none) (h1 : 1 ≤ n) {gf : Nat} {lb : Array Value} (hg : a.eval g = .func (.func gf) #[] lb) (hFg : F.fn gf) (eg : ∀ args w, (callFunc gf args).run P w = .ok (.enter gf args) w)
    {encs : α → Array Value} {T : Nat} {S Sp : List α → Prop} {N : Nat} (hT : T ≤ w.heap.size) (hseq : ∀ W, w.grownBy W none → Visits F (n - 1) P gf lb encs T S Sp N W) (hps : ∀ x, (encs x).size = ps.size)
    (I : List α → World → Prop) (Ix : Code → List α → World → Prop) (hI : Bears w.heap.size I) (hIx : ∀ c, Bears w.heap.size (Ix c)) (h0 : I [] w) (ob : α → Obj) (a₁ : α → Nat → Act)
    (hassign : ∀ (l : Nat) (x : α) (W : World) (K : Act → World → Prop), K (a₁ x W.heap.size) (W.alloc (ob x)) →
      assign.wpIn (F.inRound l) (n - 1 - 1) P (Exit.then K (fun _ _ _ => False)) { tmps := (ps.zip (encs x)).foldl (fun t (p, v) => t.setIfInBounds p v) a.tmps, defers := [] } W)
    (hbody : ∀ (l : Nat) (pre : List α) (x : α) (B : Nat) (W : World), I pre W → W.heap[B]? = some (ob x) → w.heap.size ≤ B → pre.length < N → body.wpIn (F.inRound l) (n - 1 - 1) P (roundEnds T I Ix (pre ++ [x]) W) (a₁ x B) W)
    (hdone : ∀ (D : Nat) (xs : List α) (W : World), w.heap.size ≤ D → S xs → I xs W → W.heap[D]? = some (.deferred (some [])) → Q .normal { a with defers := { target := .collected D, args := #[] } :: a.defers } W)
    (hstop : ∀ (D : Nat) (c : Code) (pre : List α) (W : World), w.heap.size ≤ D → Sp pre → Ix c pre W → W.heap[D]? = some (.deferred (some [])) → c.wpIn F n P Q { a with defers := { target := .collected D, args := #[] } :: a.defers } W) :
    (Code.rangeFunc g ps assign body).wpIn F n P Q a w := by
  refine wpIn_rangeFunc (fun fn hfn => ?_)
  rw [hro]
  -- the two blocks of the loop: D for the deferred calls, L for its record
  obtain ⟨D, hD⟩ : ∃ D, w.heap.size = D := ⟨_, rfl⟩
  obtain ⟨rec, hrec⟩ : ∃ rec : LoopState → Option Code → Loop, rec = fun st jump => { state := st, pending := jump, fn, tmps := a.tmps, params := ps, assign, body, defers := D } := ⟨_, rfl⟩
  obtain ⟨V, hV⟩ : ∃ V, (w.alloc (.deferred (some []))).alloc (.loop (rec .ready none)) = V := ⟨_, rfl⟩
  have vs : V.heap.size = D + 1 + 1 := by rw [← hV, ← hD]; simp
  have vL : V.heap[D + 1]? = some (.loop (rec .ready none)) := by
    rw [← hV, ← hD]; have h := World.alloc_heap_new (w.alloc (.deferred (some []))) (.loop (rec .ready none)); rwa [World.size_alloc] at h
  have vD : V.heap[D]? = some (.deferred (some [])) := by
    rw [← hV, ← hD]; exact (Below.heap_alloc _ _ _ (by simp)).trans (World.alloc_heap_new w _)
  have vg : w.grownBy V none := by
    rw [← hV]
    have k1 := World.grownBy_alloc w (.deferred (some [])) none
    have k2 := World.grownBy_alloc (w.alloc (.deferred (some []))) (.loop (rec .ready none)) none
    exact k1.trans k2
  have vI : I [] V := by rw [← hV]; exact hI.new _ (hI.new _ h0)
  rw [hD] at hI hIx hT
  -- what holds between two rounds, and behind the last one
  let J : List α → World → Prop := fun pre W => I pre W ∧ W.heap[D + 1]? = some (.loop (rec .ready none)) ∧ W.heap[D]? = some (.deferred (some []))
  let Jx : List α → World → Prop := fun pre W => ∃ c, Ix c pre W ∧ W.heap[D + 1]? = some (.loop (rec .done (some c))) ∧ W.heap[D]? = some (.deferred (some []))
  have far : ∀ {A B : World} {row : Option Nat} {k : Nat} {o : Obj}, k < V.heap.size → A.grownBy B row → (∀ r, row = some r → V.heap.size ≤ r) → A.heap[k]? = some o → B.heap[k]? = some o := fun hk hg hr ho =>
    (hg.block _ (Array.getElem?_eq_some_iff.1 ho).1 (fun e => by have := hr _ e.symm; omega)).trans ho
  have bJ : Bears V.heap.size J := fun s A B row hs hg' hr => ⟨hI s A B row hs.1 hg' (fun r e => by have := hr r e; omega), far (by omega) hg' hr hs.2.1, far (by omega) hg' hr hs.2.2⟩
  have bJx : Bears V.heap.size Jx := fun s A B row ⟨c, hc, hl, hk⟩ hg' hr => ⟨c, hIx c s A B row hc hg' (fun r e => by have := hr r e; omega), far (by omega) hg' hr hl, far (by omega) hg' hr hk⟩
  refine ⟨D + 1, [{ target := .collected D, args := #[] }], V, { target := .fn (.func gf) lb, args := #[.func (.yield (D + 1)) #[] #[]] }, V, gf, #[.func (.yield (D + 1)) #[] #[]] ++ lb, V, ?_, ?_, ?_, ?_, fun _ => h1, ?_⟩
  · rw [← hV, hrec, ← hD]; exact run_enterLoop_outer _ _ _ _ _
  · simp only [resolve, hg]; simp [go_sem]
  · intro f hf; simp [Target.leads] at hf; subst hf; exact hFg
  · simp [invoke, go_sem, eg]
  refine (hseq V vg (D + 1) J Jx bJ bJx ?_ ⟨vI, vL, vD⟩).mono ?_
  · rintro pre x W ⟨hi, hl, hk⟩ hlen
    have hlt : D + 1 < W.heap.size := (Array.getElem?_eq_some_iff.1 hl).1
    have hy := run_yield (P := P) (args := encs x) hl (by rw [hrec]; exact hps x)
    rw [hrec] at hy
    refine ⟨fn, _, assign, body, hy, roundIn_of_wpIn hfn (hassign _ x W _ ⟨_, run_beginRound ((Below.heap_alloc W (ob x) (D + 1) hlt).trans hl) (by rw [hrec]), ?_⟩)⟩
    obtain ⟨W2, hW2⟩ : ∃ W2, (W.alloc (ob x)).putObj (D + 1) (.loop { rec .ready none with state := .busy }) = W2 := ⟨_, rfl⟩
    have l2 : W2.heap[D + 1]? = some (.loop { rec .ready none with state := .busy }) := by rw [← hW2]; exact World.putObj_heap_same (by simp; omega)
    have k2 : W2.heap[D]? = some (.deferred (some [])) := by rw [← hW2]; exact (World.putObj_heap_other (by omega)).trans ((Below.heap_alloc W (ob x) D (by omega)).trans hk)
    have i2 : I pre W2 := by rw [← hW2]; exact hI.put _ (hI.new _ hi) (by omega)
    have oth2 : ∀ k, k ≠ D + 1 → k < W.heap.size → W2.heap[k]? = W.heap[k]? := fun k hne hk => by rw [← hW2]; exact (World.putObj_heap_other hne).trans (Below.heap_alloc W (ob x) k hk)
    have s2 : W2.heap.size = W.heap.size + 1 := by rw [← hW2]; simp
    have x2 : W2.heap[W.heap.size]? = some (ob x) := by rw [← hW2]; exact (World.putObj_heap_other (by omega)).trans (World.alloc_heap_new W (ob x))
    -- the end of a round, whichever way it is left
    have fin : ∀ (jump : Option Code) (W3 : World), KeepsAt T W2 W3 → ∃ W4, (Instr.endRound (D + 1) jump).run P W3 = .ok (.bool jump.isNone) W4 ∧ W4 = W3.putObj (D + 1) (.loop (rec (if jump.isNone then .ready else .done) jump)) ∧
        W4.heap[D + 1]? = some (.loop (rec (if jump.isNone then .ready else .done) jump)) ∧ W4.heap[D]? = some (.deferred (some [])) := fun jump W3 hk3 => by
      have hl3 := hk3.same _ _ (by omega) l2
      have hrun := run_endRound (P := P) jump hl3
      rw [hrec] at hrun ⊢
      exact ⟨_, hrun, rfl, World.putObj_heap_same (Array.getElem?_eq_some_iff.1 hl3).1, (World.putObj_heap_other (by omega)).trans (hk3.same _ _ (by omega) k2)⟩
    rw [hW2]
    refine wpIn_mono (hbody _ pre x W.heap.size W2 i2 x2 (by omega) hlen) ?_
    intro e a3 W3 hp
    have left : ∀ c, KeepsAt T W2 W3 → Ix c (pre ++ [x]) W3 → ∃ v W4, (Instr.endRound (D + 1) (some c)).run P W3 = .ok v W4 ∧ ((Ending.returned v = .returned (.bool true) ∧ J (pre ++ [x]) W4 ∧ KeepsAt T W W4) ∨ (Ending.returned v = .returned (.bool false) ∧ Jx (pre ++ [x]) W4)) := fun c hk3 hi3 => by
      obtain ⟨W4, hr, rfl, hl4, hk4⟩ := fin (some c) W3 hk3
      exact ⟨_, _, hr, .inr ⟨rfl, c, (hIx c).put _ hi3 (by omega), hl4, hk4⟩⟩
    cases e with
    | normal =>
      obtain ⟨hk3, hi3⟩ := hp
      obtain ⟨W4, hr, rfl, hl4, hk4⟩ := fin none W3 hk3
      refine ⟨_, _, hr, .inl ⟨rfl, ⟨hI.put _ hi3 (by omega), hl4, hk4⟩, ?_⟩⟩
      refine ⟨by have := hk3.size; simp; omega, fun k o hT' ho => ?_⟩
      by_cases hkl : k = D + 1
      · subst hkl
        rw [hl] at ho
        cases ho
        exact hl4
      · exact (World.putObj_heap_other hkl).trans (hk3.same k o hT' ((oth2 k hkl (Array.getElem?_eq_some_iff.1 ho).1).trans ho))
    | ret => exact left .ret hp.1 hp.2
    | exit i => exact left (.exit i) hp.1 hp.2
    | goto t => exact left (.goto t) hp.1 hp.2
    | panic c => exact hp.elim
    | outgrown => exact hp.elim
  · rintro e W2 ⟨⟨v, rfl⟩, (⟨xs, hS, hi, hl, hk⟩ | ⟨pre, hSp, c, hi, hl, hk⟩)⟩
    all_goals
      have hend := run_endLoop (P := P) hl (by rw [hrec]; simp)
      rw [hrec] at hend
    · exact ⟨none, _, hend, hdone D xs _ (by omega) hS (hI.put _ hi (by omega)) ((World.putObj_heap_other (by omega)).trans hk)⟩
    · exact ⟨some c, _, hend, hstop D c pre _ (by omega) hSp ((hIx c).put _ hi (by omega)) ((World.putObj_heap_other (by omega)).trans hk)⟩
end Go.Proofs.Ytambhhjbafefgaa

/- A region that draws its order, by an invariant over what is carried out; also in a round of a range over a function. -/
namespace Go.Proofs.Ytambhhjbafefgaa
set_option linter.unusedVariables false
open Go.RowKit

theorem listed_false {L : Array Bool} {i : Nat} (h : L.getD i true = false) : ∃ hi : i < L.size, L[i] = false := by
  by_cases hi : i < L.size
  · refine ⟨hi, ?_⟩; simpa [hi] using h
  · simp [hi] at h
theorem count_set {L : Array Bool} {i : Nat} (h : L.getD i true = false) : (L.setIfInBounds i true).toList.count false + 1 = L.toList.count false := by
  obtain ⟨hi, hf⟩ := listed_false h
  have hl : i < L.toList.length := by simpa using hi
  have hg : L.toList[i] = false := by simpa using hf
  rw [Array.toList_setIfInBounds, List.count_set hl, hg]
  have : 1 ≤ L.toList.count false := List.one_le_count_iff.2 (List.mem_of_getElem hg)
  rw [if_pos (by rfl), if_neg (by decide)]
  omega

theorem any_inv {F : Fence} {n : Nat} {P : Program} {ops : Array Oper} {Q : Exit → Act → World → Prop} (Inv : Array Bool → Act → World → Prop)
    (hstep : ∀ L a w, Inv L a w → ∀ i, i ∈ Region.ready .any ops L → wpOpIn F n P ops Q i (Inv (L.setIfInBounds i true)) a w)
    (hdone : ∀ L a w, Inv L a w → Region.ready .any ops L = [] → Q .normal a w) : ∀ (fuel : Nat) (L : Array Bool) (a : Act) (w : World), L.toList.count false ≤ fuel → Inv L a w → wpAnyIn F n P .any ops Q fuel L a w
  | 0, L, a, w, hf, hI => by
    have hr : Region.ready .any ops L = [] := by
      refine List.eq_nil_iff_forall_not_mem.2 fun i hi => ?_
      have := count_set (mem_ready.1 hi).1
      omega
    exact ⟨hr, hdone L a w hI hr⟩
  | fuel + 1, L, a, w, hf, hI => by
    refine ⟨hdone L a w hI, fun i hi => ?_⟩
    have hc := count_set (mem_ready.1 hi).1
    exact wpOpIn_mono (fun a' w' h => any_inv Inv hstep hdone fuel _ a' w' (by omega) h) (hstep L a w hI i hi)

theorem region_inv {F : Fence} {n : Nat} {P : Program} {ops : Array Oper} {Q : Exit → Act → World → Prop} {id : Nat} {a : Act} {w : World} (hm : P.follows .mixedOrders = true) (Inv : Array Bool → Act → World → Prop)
    (h0 : Inv (Array.replicate ops.size false) a w.drew)
    (hstep : ∀ L a w, Inv L a w → ∀ i, i ∈ Region.ready .any ops L → wpOpIn F n P ops Q i (Inv (L.setIfInBounds i true)) a w)
    (hdone : ∀ L a w, Inv L a w → Region.ready .any ops L = [] → Q .normal a w) : (Code.region id ops true).wpIn F n P Q a w := by
  refine wpIn_region_any hm (any_inv Inv hstep hdone _ _ a _ ?_ h0)
  rw [Array.toList_replicate, List.count_replicate]
  simp

/-- a slot: what an operation yields once it is carried out -/
def pk (b : Bool) (v u : Value) : Value := bif b then v else u
theorem pk_true (v u : Value) : pk true v u = v := rfl

theorem region_inv' {F : Fence} {n : Nat} {P : Program} {ops : Array Oper} {Q : Exit → Act → World → Prop} {id : Nat} {a : Act} {w : World} (hm : P.follows .mixedOrders = true) (Inv : Array Bool → Act → World → Prop) (A : Act) (W' : World)
    (h0 : Inv (Array.replicate ops.size false) a w.drew)
    (hstep : ∀ (Q : Exit → Act → World → Prop) L a w, Inv L a w → ∀ i, i ∈ Region.ready .any ops L → wpOpIn F n P ops Q i (Inv (L.setIfInBounds i true)) a w)
    (hdone : ∀ L a w, Inv L a w → Region.ready .any ops L = [] → a = A ∧ w = W') (hfin : Q .normal A W') : (Code.region id ops true).wpIn F n P Q a w :=
  region_inv hm Inv h0 (hstep Q) fun L a w hI hr => by
    obtain ⟨rfl, rfl⟩ := hdone L a w hI hr
    exact hfin
theorem ready_nil {ops : Array Oper} {L : Array Bool} (hr : Region.ready .any ops L = []) {i : Nat} (hi : i < ops.size) (hd : ∀ o, ops[i]? = some o → ∀ e ∈ o.after, Region.binds .any e = true → L.getD e.on false = true) : L.getD i true = true := by
  cases h : L.getD i true with
  | true => rfl
  | false =>
    have := mem_ready.2 ⟨h, ops[i], Array.getElem?_eq_getElem hi, hd _ (Array.getElem?_eq_getElem hi)⟩
    rw [hr] at this
    cases this
end Go.Proofs.Ytambhhjbafefgaa

/- Boxes of seven numbers; prices: mathematics of relaxing. -/
namespace Go.Proofs.Ytambhhjbafefgaa
set_option linter.unusedVariables false
open Go.RowKit

theorem block_set {X : World} {B o : Nat} {cs : Array Value} {e : TypeId} {m : Nat × Nat} (v : Value) (h : X.heap[B]? = some (.cells cs e m)) : (X.setCell ⟨B, o, none⟩ v).heap[B]? = some (.cells (cs.setIfInBounds o v) e m) := by
  obtain ⟨hlt, hk⟩ := Array.getElem?_eq_some_iff.1 h
  show (X.heap.modify B _)[B]? = _
  rw [Array.getElem?_eq_getElem (by rw [Array.size_modify]; exact hlt), Array.getElem_modify_self, hk]
  rfl

/-- a box of seven numbers -/
structure B7 (W : World) (B : Nat) (v : List Int) : Prop where
  len : v.length = 7
  blk : W.heap[B]? = some (.cells (intL v).toArray 72 (0, 0))
theorem B7.lt {W : World} {B : Nat} {v : List Int} (h : B7 W B v) : B < W.heap.size := (Array.getElem?_eq_some_iff.1 h.blk).1
theorem B7.cell {W : World} {B : Nat} {v : List Int} (h : B7 W B v) {j : Nat} (hj : j < 7) : W.cell? ⟨B, j, none⟩ = some (.int .i64 (v.getD j 0)) := by
  have hl := h.len
  have hlt : j < v.length := by omega
  simp [World.cell?, h.blk, intL, hlt]
theorem B7.free {W : World} {B : Nat} {v : List Int} (h : B7 W B v) (j : Nat) : W.frozen? ⟨B, j, none⟩ = false := by simp [World.frozen?, h.blk]
theorem B7.set {W : World} {B : Nat} {v : List Int} (h : B7 W B v) (j : Nat) (x : Int) : B7 (W.setCell ⟨B, j, none⟩ (.int .i64 x)) B (v.set j x) := by
  refine ⟨by rw [List.length_set]; exact h.len, ?_⟩
  rw [block_set (.int .i64 x) h.blk]
  simp [intL, List.map_set]
theorem B7.kept {X Y : World} {B : Nat} {v : List Int} {row : Option Nat} (h : B7 X B v) (hg : X.grownBy Y row) (hne : some B ≠ row) : B7 Y B v := ⟨h.len, Eq.trans (hg.block B h.lt hne) h.blk⟩
theorem B7.below {X Y : World} {B : Nat} {v : List Int} (h : B7 X B v) (hb : Below X.heap.size X Y) : B7 Y B v := ⟨h.len, Eq.trans (hb.block B h.lt) h.blk⟩
theorem B7.far {X : World} {B B' o : Nat} {v : List Int} {u : Value} (h : B7 X B v) (hne : B ≠ B') : B7 (X.setCell ⟨B', o, none⟩ u) B v := ⟨h.len, Eq.trans (Below.heap_setCell _ _ _ _ hne) h.blk⟩
theorem B7.drewN {X : World} {B : Nat} {v : List Int} (h : B7 X B v) (n : Nat) : B7 (X.drewN n) B v := ⟨h.len, h.blk⟩
def zero7 : List Int := [0, 0, 0, 0, 0, 0, 0]

/-- one limit of a price -/
def rlx (C : List (List Int)) (x : Way) (v : List Int) (p : Nat × Nat) : List Int :=
  v.set p.2 (min (v.getD p.2 0) (v.getD (x.at p.1).toNat 0 + cost C p.1 p.2 - cost C p.1 (x.at p.1).toNat))
/-- all prices from -M to 0 -/
def PB (M : Int) (v : List Int) : Prop := v.length = 7 ∧ ∀ i, -M ≤ v.getD i 0 ∧ v.getD i 0 ≤ 0
def CB (C : List (List Int)) : Prop := ∀ i j, -1000 ≤ cost C i j ∧ cost C i j ≤ 1000
theorem getD_set (v : List Int) (j i : Nat) (x : Int) : (v.set j x).getD i 0 = if j = i ∧ j < v.length then x else v.getD i 0 := by
  rw [List.getD_eq_getElem?_getD, List.getD_eq_getElem?_getD, List.getElem?_set]
  by_cases h : j = i
  · subst h
    by_cases hl : j < v.length
    · simp [hl]
    · simp [hl]
  · simp [h]
theorem PB.rlx {C : List (List Int)} {x : Way} {M : Int} {v : List Int} (h : PB M v) (hc : CB C) (hM : 0 ≤ M) (p : Nat × Nat) : PB (M + 2000) (rlx C x v p) := by
  refine ⟨by unfold Proofs.Ytambhhjbafefgaa.rlx; rw [List.length_set]; exact h.1, fun i => ?_⟩
  unfold Proofs.Ytambhhjbafefgaa.rlx
  rw [getD_set]
  have h1 := h.2 i
  have h2 := h.2 p.2
  have h3 := h.2 (x.at p.1).toNat
  have c1 := hc p.1 p.2
  have c2 := hc p.1 (x.at p.1).toNat
  split <;> omega
theorem PB.zero : PB 0 zero7 := by
  refine ⟨rfl, fun i => ?_⟩
  have : zero7.getD i 0 = 0 := by
    unfold zero7
    match i with
    | 0 | 1 | 2 | 3 | 4 | 5 | 6 => rfl
    | i + 7 => rfl
  omega
def rlxs (C : List (List Int)) (x : Way) (v : List Int) (l : List (Nat × Nat)) : List Int := l.foldl (rlx C x) v
theorem rlxs_snoc (C : List (List Int)) (x : Way) (v : List Int) (l : List (Nat × Nat)) (p : Nat × Nat) : rlxs C x v (l ++ [p]) = rlx C x (rlxs C x v l) p := by unfold rlxs; rw [List.foldl_append]; rfl
theorem PB.rlxs {C : List (List Int)} {x : Way} (hc : CB C) : ∀ (l : List (Nat × Nat)) {M : Int} {v : List Int}, PB M v → 0 ≤ M → PB (M + 2000 * l.length) (rlxs C x v l)
  | [], M, v, h, hM => by simpa [Proofs.Ytambhhjbafefgaa.rlxs] using h
  | p :: l, M, v, h, hM => by
    have := PB.rlxs (x := x) hc l (h.rlx (x := x) hc hM p) (by omega)
    unfold Proofs.Ytambhhjbafefgaa.rlxs at this ⊢
    rw [List.foldl_cons]
    have e : M + 2000 + 2000 * (l.length : Int) = M + 2000 * ((p :: l).length : Int) := by rw [List.length_cons]; omega
    rw [← e]; exact this
/-- the pairs of n buttons -/
def prsL (n : Nat) : List (Nat × Nat) := (allPairs n).map fun p => p.1
theorem prsL_len (n : Nat) : (prsL n).length ≤ n * n := by unfold prsL; rw [List.length_map]; exact pairsTo_len n (n * n)
def rnds (C : List (List Int)) (x : Way) : Nat → List Int
  | 0 => zero7
  | k + 1 => rlxs C x (rnds C x k) (prsL C.length)
theorem rnds_pb {C : List (List Int)} {x : Way} (hc : CB C) (hn : C.length ≤ 7) : ∀ k : Nat, PB (98000 * (k : Int)) (rnds C x k)
  | 0 => PB.zero
  | k + 1 => by
    have h := PB.rlxs (x := x) hc (prsL C.length) (rnds_pb (x := x) hc hn k) (by omega)
    have h1 := prsL_len C.length
    have h2 : C.length * C.length ≤ 7 * 7 := Nat.mul_le_mul hn hn
    refine ⟨h.1, fun i => ?_⟩
    have := h.2 i
    rw [rnds]
    omega
/-- the prices of the buttons -/
def uTo (C : List (List Int)) (x : Way) (v : List Int) : Nat → List Int
  | 0 => zero7
  | k + 1 => (uTo C x v k).set k (cost C k (x.at k).toNat - v.getD (x.at k).toNat 0)
theorem uTo_len (C : List (List Int)) (x : Way) (v : List Int) : ∀ k, (uTo C x v k).length = 7
  | 0 => rfl
  | k + 1 => by rw [uTo, List.length_set]; exact uTo_len C x v k
def vP (C : List (List Int)) (x : Way) : List Int := rnds C x C.length
def uP (C : List (List Int)) (x : Way) : List Int := uTo C x (vP C x) C.length
end Go.Proofs.Ytambhhjbafefgaa

/- visit: all assignments that begin with a way; the iterator assignments. -/
namespace Go.Proofs.Ytambhhjbafefgaa
set_option linter.unusedVariables false
open Go.RowKit Go.Shelf
attribute [local go_sem] Oper.semAt_some

theorem room_of_none {F : Fence} (hd : F.depth = none) (k : Nat) : F.room k := fun d h => by rw [hd] at h; cases h
theorem RoundIn.anyDepth {F : Fence} (hd : F.depth = none) {m m' : Nat} {P : Program} {l : Nat} {f : FuncId} {tmps : Array Value} {assign body : Code} {w : World} {R : Ending → World → Prop}
    (h : RoundIn F m P l f tmps assign body w R) : RoundIn F m' P l f tmps assign body w R := ⟨h.1, fun c cs _ => h.2 c cs (room_of_none hd _)⟩
theorem YieldAt.anyDepth {F : Fence} (hd : F.depth = none) {m : Nat} (m' : Nat) {P : Program} {l : Nat} {args : Array Value} {W : World} {R : Ending → World → Prop} (h : YieldAt F m P l args W R) : YieldAt F m' P l args W R := by
  obtain ⟨fn, tmps, assign, body, hy, hR⟩ := h
  exact ⟨fn, tmps, assign, body, hy, RoundIn.anyDepth hd hR⟩

/-- the assignments that begin with x, which puts the buttons before b into the holes in T; m buttons are left -/
def visW (C : List (List Int)) : Nat → Nat → Nat → Way → List Way
  | 0, _, _, x => [x]
  | m + 1, b, T, x => (List.range C.length).flatMap fun h => if T.testBit h then [] else visW C m (b + 1) (T ||| 1 <<< h) (x.put b h (cost C b h))
def visTo (C : List (List Int)) (m b T : Nat) (x : Way) (k : Nat) : List Way := (List.range k).flatMap fun h => if T.testBit h then [] else visW C m (b + 1) (T ||| 1 <<< h) (x.put b h (cost C b h))
theorem visW_succ (C : List (List Int)) (m b T : Nat) (x : Way) : visW C (m + 1) b T x = visTo C m b T x C.length := by rw [visW]; rfl
theorem visTo_succ (C : List (List Int)) (m b T : Nat) (x : Way) (k : Nat) : visTo C m b T x (k + 1) = visTo C m b T x k ++ (if T.testBit k then [] else visW C m (b + 1) (T ||| 1 <<< k) (x.put b k (cost C b k))) := by
  unfold visTo
  rw [List.range_succ, List.flatMap_append]; simp
theorem visTo_prefix (C : List (List Int)) (m b T : Nat) (x : Way) {k n : Nat} (h : k ≤ n) : visTo C m b T x k <+: visTo C m b T x n := by
  obtain ⟨d, rfl⟩ := Nat.exists_eq_add_of_le h
  unfold visTo
  rw [List.range_add, List.flatMap_append]
  exact List.prefix_append _ _

/-- a table, with the slices of its rows -/
def TblF (w : World) (g : Nat) (ra : Nat → Option Addr) (rc : Nat → Nat) (C : List (List Int)) : Prop :=
  g < w.heap.size ∧ ∀ i row, C[i]? = some row → w.cell? ⟨g, i, none⟩ = some (.slice (ra i) row.length (rc i)) ∧ row.length ≤ rc i ∧ Row w (ra i) row.length (intL row)
theorem TblF.of {w : World} {a : Option Addr} {C : List (List Int)} (h : Tbl w a C) (hC : 0 < C.length) : ∃ g ra rc, a = some ⟨g, 0, none⟩ ∧ TblF w g ra rc C := by
  obtain ⟨g, h1, h2, h3⟩ := h hC
  have h4 : ∀ i, ∃ (ra : Option Addr) (rc : Nat), ∀ row, C[i]? = some row → w.cell? ⟨g, i, none⟩ = some (.slice ra row.length rc) ∧ row.length ≤ rc ∧ Row w ra row.length (intL row) := fun i => by
    cases hr : C[i]? with
    | none => exact ⟨none, 0, fun row h => by cases h⟩
    | some row =>
      obtain ⟨ra, rc, c⟩ := h3 i row hr
      exact ⟨ra, rc, fun row' h => by cases h; exact c⟩
  exact ⟨g, fun i => (h4 i).choose, fun i => (h4 i).choose_spec.choose, h1, h2, fun i row hr => (h4 i).choose_spec.choose_spec row hr⟩
theorem TblF.tbl {w : World} {g : Nat} {ra : Nat → Option Addr} {rc : Nat → Nat} {C : List (List Int)} (h : TblF w g ra rc C) : Tbl w (some ⟨g, 0, none⟩) C := fun _ => ⟨g, rfl, h.1, fun i row hi => ⟨ra i, rc i, h.2 i row hi⟩⟩
theorem TblF.below {w w' : World} {g : Nat} {ra : Nat → Option Addr} {rc : Nat → Nat} {C : List (List Int)} (h : TblF w g ra rc C) (hb : Below w.heap.size w w') : TblF w' g ra rc C :=
  ⟨Nat.lt_of_lt_of_le h.1 hb.size, fun i row hi => ⟨(hb.cell (p := ⟨g, i, none⟩) h.1).trans (h.2 i row hi).1, (h.2 i row hi).2.1, (h.2 i row hi).2.2.below hb⟩⟩

theorem gr_of {w w' : World} (h : Below w.heap.size w w') (row : Option Nat) : w.grownBy w' row := ⟨h.1, h.2, h.3, h.4, fun k hk _ => h.5 k hk⟩
/-- a box that holds v -/
def Blk (W : World) (B : Nat) (o : Obj) : Prop := W.heap[B]? = some o

set_option maxRecDepth 100000 in
set_option maxHeartbeats 4000000 in
theorem visit_in (C : List (List Int)) (g cap : Nat) (ra : Nat → Option Addr) (rc : Nat → Nat) (hR : Rect C C.length) (l T0 W0 M : Nat) (J Jx : List Way → World → Prop) (hJ : Bears W0 J) (hJT : ∀ pre W, J pre W → TblF W g ra rc C)
    (hY : ∀ m pre (x : Way) W, J pre W → pre.length < M → (∀ i, i < C.length → ∃ j : Nat, j < C.length ∧ x.at i = j) → YieldAt Fence.wide m Try.prog l #[wayV x] W fun e W' =>
      (e = .returned (.bool true) ∧ J (pre ++ [x]) W' ∧ KeepsAt T0 W W') ∨ (e = .returned (.bool false) ∧ Jx (pre ++ [x]) W')) :
    ∀ (m b T : Nat) (x : Way) (n : Nat) (pre : List Way) (W : World), b + m = C.length → T < 128 → (-1000 * b ≤ x.t ∧ x.t ≤ 1000 * b) → (∀ i, i < b → ∃ j : Nat, j < C.length ∧ x.at i = j) → J pre W → W0 ≤ W.heap.size → T0 ≤ W.heap.size → pre.length + (visW C m b T x).length ≤ M →
      CallsIn Fence.wide n Try.prog 97 #[.slice (some ⟨g, 0, none⟩) C.length cap, .agg #[.int .i64 b, .int .i64 T], wayV x, .func (.yield l) #[] #[]] W fun e W' =>
        (e = .returned (.bool true) ∧ J (pre ++ visW C m b T x) W' ∧ KeepsAt T0 W W') ∨ (e = .returned (.bool false) ∧ ∃ q, q <+: visW C m b T x ∧ Jx (pre ++ q) W') := by
  intro m
  induction m with
  | zero =>
    intro b T x n pre W hb hT hx hxo hj hW0 hT0 hM
    obtain rfl : b = C.length := by omega
    have hj1 := hJ.new (.cells #[.int .i64 (C.length : Int), .int .i64 (T : Int)] 98) hj
    have hj2 := hJ.new (.cells (wayA x) 70) hj1
    have hk : KeepsAt T0 W ((W.alloc (.cells #[.int .i64 (C.length : Int), .int .i64 (T : Int)] 98)).alloc (.cells (wayA x) 70)) :=
      (KeepsAt.of_grown (World.grownBy_alloc W _ none) (fun r e => by cases e)).trans (KeepsAt.of_grown (World.grownBy_alloc _ _ none) (fun r e => by cases e))
    obtain ⟨fn, tmps, assign, body, hy, hR⟩ := hY (n - 1) pre x _ hj2 (by have : (visW C 0 C.length T x).length = 1 := rfl; omega) hxo
    unfold wayA at hy hR hk
    unfold wayV at hy ⊢
    clear hY hJ hJT hj hj1 hj2
    refine callsIn_of_wp Try.func97 rfl trivial ?_ rfl
    simp only [Try.ntmps97, List.size_toArray, List.length_cons, List.length_nil, Nat.reduceAdd, Nat.reduceSub, Array.replicate_succ, Array.replicate_zero, List.push_toArray, List.append_toArray, List.nil_append, List.cons_append]
    gi_wp2_with fail
    refine ⟨fun h => (by cases h), ?_⟩
    refine hR.mono ?_
    rintro e W2 (⟨rfl, hJ2, hk2⟩ | ⟨rfl, hx2⟩)
    · gi_wp2
      go_ret
      exact .inl ⟨rfl, hJ2, hk.trans hk2⟩
    · gi_wp2
      go_ret
      exact .inr ⟨rfl, [x], List.prefix_refl _, hx2⟩
  | succ m ih =>
    intro b T x n pre W hb hT hx hxo hj hW0 hT0 hM
    have hn7 := hR.n7
    have hbN : b < C.length := by omega
    obtain ⟨row, hrow⟩ : ∃ row, C[b]? = some row := ⟨_, List.getElem?_eq_getElem hbN⟩
    have hrl := hR.len row (List.mem_of_getElem? hrow)
    have hj1 := hJ.new (.cells #[.int .i64 (b : Int), .int .i64 (T : Int)] 98) hj
    have hj2 := hJ.new (.cells (wayA x) 70) hj1
    have hk : KeepsAt T0 W ((W.alloc (.cells #[.int .i64 (b : Int), .int .i64 (T : Int)] 98)).alloc (.cells (wayA x) 70)) :=
      (KeepsAt.of_grown (World.grownBy_alloc W _ none) (fun r e => by cases e)).trans (KeepsAt.of_grown (World.grownBy_alloc _ _ none) (fun r e => by cases e))
    have hs1 : ((W.alloc (.cells #[.int .i64 (b : Int), .int .i64 (T : Int)] 98)).alloc (.cells (wayA x) 70)).heap[W.heap.size]? = some (.cells #[.int .i64 (b : Int), .int .i64 (T : Int)] 98 (0, 0)) :=
      (Below.heap_alloc _ _ _ (by simp)).trans (World.alloc_heap_new W _)
    have hs2 : ((W.alloc (.cells #[.int .i64 (b : Int), .int .i64 (T : Int)] 98)).alloc (.cells (wayA x) 70)).heap[W.heap.size + 1]? = some (.cells (wayA x) 70 (0, 0)) := by
      have h := World.alloc_heap_new (W.alloc (.cells #[.int .i64 (b : Int), .int .i64 (T : Int)] 98)) (.cells (wayA x) 70)
      rwa [World.size_alloc] at h
    have hbne : ((b : Int) == C.length) = false := by rw [beq_eq_false_iff_ne]; omega
    have hl0 : ((W.alloc (.cells #[.int .i64 (b : Int), .int .i64 (T : Int)] 98)).alloc (.cells (wayA x) 70)).heap.size = W.heap.size + 2 := by simp
    refine callsIn_of_wp Try.func97 rfl trivial ?_ rfl
    simp only [Try.ntmps97, List.size_toArray, List.length_cons, List.length_nil, Nat.reduceAdd, Nat.reduceSub, Array.replicate_succ, Array.replicate_zero, List.push_toArray, List.append_toArray, List.nil_append, List.cons_append]
    unfold wayV
    have hdef : wayA x = #[.int .i64 x.a, .int .i64 x.b, .int .i64 x.c, .int .i64 x.d, .int .i64 x.e, .int .i64 x.f, .int .i64 x.g, .int .i64 x.t] := rfl
    generalize hX : ((W.alloc (.cells #[.int .i64 (b : Int), .int .i64 (T : Int)] 98)).alloc (.cells (wayA x) 70)) = X at hj2 hk hs1 hs2 hl0
    rw [hdef] at hX
    obtain ⟨htg, htf⟩ := hJT pre X hj2
    obtain ⟨tc1, tc2, tc3⟩ := htf b row hrow
    rw [hrl] at tc1 tc2 tc3
    obtain ⟨g2, hra, _⟩ := tc3.int (k := 0) (by omega)
    rw [hra] at tc1
    have Hra := Lib.hid hra
    clear hra
    have sc0 : X.cell? ⟨W.heap.size, 0, none⟩ = some (.int .i64 b) := by simp [World.cell?, hs1]
    have sc1 : X.cell? ⟨W.heap.size, 1, none⟩ = some (.int .i64 T) := by simp [World.cell?, hs1]
    have Hk := Lib.hid hk
    have Hs1 := Lib.hid hs1
    have Hs2 := Lib.hid hs2
    have HJT := Lib.hid hJT
    have HY := Lib.hid hY
    have Hih := Lib.hid ih
    have HR := Lib.hid hR
    have HM := Lib.hid hM
    have Hrow := Lib.hid hrow
    have HJ := Lib.hid hJ
    have Hxo := Lib.hid hxo
    have hbN' : (b : Int) < C.length := by omega
    clear hj hj1 hk hs1 hs2 htf hJT hY ih hR hM hrow tc3 hdef hJ hxo
    gi_wp2_with fail
    gi_loopw [26] (fun i wr => ∃ k : Nat, k ≤ C.length ∧ i = .int .i64 k ∧ J (pre ++ visTo C m b T x k) wr ∧ KeepsAt T0 X wr) (fun i _ => C.length - (intOf i).toNat)
    case atStart => exact ⟨0, Nat.zero_le _, rfl, by simpa [visTo] using hj2, KeepsAt.refl _ _⟩
    case round =>
      obtain ⟨k, hk, rfl, hj, hks⟩ := hrel
      by_cases hlt : k < C.length
      · have hc : (k : Int) < C.length := by omega
        have hs1 := hks.block (by omega) Hs1.out
        have hs2 := hks.block (by omega) Hs2.out
        obtain ⟨ug, uf⟩ := HJT.out _ wr hj
        obtain ⟨uc1, uc2, uc3⟩ := uf b row Hrow.out
        rw [hrl] at uc1 uc2 uc3
        rw [Hra.out] at uc1 uc3
        obtain ⟨g3, hra3, ccost⟩ := uc3.int hlt
        obtain rfl : g2 = g3 := by injection hra3 with e; injection e
        clear hra3
        have hcost : row.getD k 0 = cost C b k := by unfold cost; rw [List.getD_eq_getElem?_getD (l := C), Hrow.out]; rfl
        rw [hcost] at ccost
        have hcb := HR.out.cost row (List.mem_of_getElem? Hrow.out)
        have hcb2 := getD_bound hcb k
        rw [hcost] at hcb2
        have sc0 : wr.cell? ⟨W.heap.size, 0, none⟩ = some (.int .i64 b) := by simp [World.cell?, hs1]
        have sc1 : wr.cell? ⟨W.heap.size, 1, none⟩ = some (.int .i64 T) := by simp [World.cell?, hs1]
        obtain ⟨cc, hCC⟩ : ∃ cc, cost C b k = cc := ⟨_, rfl⟩
        rw [hCC] at ccost hcb2
        have hvs := visTo_succ C m b T x k
        rw [hCC] at hvs
        gi_wp2_with fail
        refine ⟨trivial, (fun h => by cases h), ?_⟩
        refine (callsIn_wide.2 (isTaken_any b T k hT (by omega) _)).mono ?_
        rintro e w1 ⟨rfl, b1⟩
        have hg1 := gr_of b1 none
        have hj1 := HJ.out _ _ _ none hj hg1 (fun r e => by cases e)
        have hk1 := hks.trans (KeepsAt.of_grown hg1 (fun r e => by cases e))
        have hs1' := hk1.block (by omega) Hs1.out
        have hs2' := hk1.block (by omega) Hs2.out
        clear hj hks hs1 hs2 sc0 sc1 b1 hg1 uf uc1 uc2 uc3 ccost ug
        have sc0 : w1.cell? ⟨W.heap.size, 0, none⟩ = some (.int .i64 b) := by simp [World.cell?, hs1']
        have sc1 : w1.cell? ⟨W.heap.size, 1, none⟩ = some (.int .i64 T) := by simp [World.cell?, hs1']
        cases htb : T.testBit k with
        | true =>
          rw [htb] at hvs
          simp only [if_true, List.append_nil] at hvs
          have Hvs := Lib.hid hvs
          clear hvs
          gi_wp2_with fail
          go_roundw
          case rel => exact ⟨k + 1, by omega, by go_num, by rw [Hvs.out]; exact hj1, hk1⟩
          case measure => simp [intOf]; omega
        | false =>
          rw [htb] at hvs
          simp only [Bool.false_eq_true, if_false] at hvs
          have Hvs := Lib.hid hvs
          clear hvs
          obtain ⟨a0, a1, a2, a3, a4, a5, a6, a7⟩ := at8_lit hs2'
          have hwi := with_any x b (by omega) k cc w1 (by omega) (by omega)
          unfold wayV at hwi
          obtain ⟨y, hy⟩ : ∃ y, x.put b k cc = y := ⟨_, rfl⟩
          rw [hy] at hwi Hvs
          have hyt : y.t = x.t + cc := by rw [← hy]; exact put_t x b k cc
          have hyo : ∀ i, i < b + 1 → ∃ j : Nat, j < C.length ∧ y.at i = j := fun i hi => by
            rw [← hy]
            by_cases e : i = b
            · subst e; exact ⟨k, hlt, put_at x (by omega) _ _⟩
            · rw [put_ne x (by omega) (by omega) e]; exact Hxo.out i (by omega)
          have Hyo := Lib.hid hyo
          clear hyo
          gi_wp2_with fail
          refine ⟨trivial, (fun h => by cases h), ?_⟩
          refine (callsIn_wide.2 hwi).mono ?_
          rintro e w2 ⟨rfl, b2⟩
          have hg2 := gr_of b2 none
          have hj2 := HJ.out _ _ _ none hj1 hg2 (fun r e => by cases e)
          have hk2 := hk1.trans (KeepsAt.of_grown hg2 (fun r e => by cases e))
          have hj3 := HJ.out.new (.cells (wayA y) 70) hj2
          have hk3 : KeepsAt T0 X (w2.alloc (.cells (wayA y) 70)) := hk2.trans (KeepsAt.of_grown (World.grownBy_alloc _ _ none) (fun r e => by cases e))
          have hs1'' := hk3.block (by omega) Hs1.out
          have hs3 := World.alloc_heap_new w2 (.cells (wayA y) 70)
          have hw2 : X.heap.size ≤ w2.heap.size := hk2.size
          have hdef2 : wayA y = #[.int .i64 y.a, .int .i64 y.b, .int .i64 y.c, .int .i64 y.d, .int .i64 y.e, .int .i64 y.f, .int .i64 y.g, .int .i64 y.t] := rfl
          generalize hX3 : w2.alloc (.cells (wayA y) 70) = X3 at hj3 hk3 hs1'' hs3
          rw [hdef2] at hX3
          clear hj2 hk2 hg2 b2 hj1 hk1 hs1' hs2' a0 a1 a2 a3 a4 a5 a6 a7 sc0 sc1 hwi hdef2
          have Hyt := Lib.hid hyt
          clear hyt
          gi_wp2_with fail
          obtain ⟨pre2, hpre2⟩ : ∃ z, pre ++ visTo C m b T x k = z := ⟨_, rfl⟩
          obtain ⟨c', hc'⟩ : ∃ z, b + 1 = z := ⟨_, rfl⟩
          obtain ⟨T', hT'⟩ : ∃ z, T ||| 1 <<< k = z := ⟨_, rfl⟩
          have hyo := Hyo.out
          rw [hc'] at hyo
          clear Hyo
          have Hyo := Lib.hid hyo
          clear hyo
          have hvs9 := Hvs.out
          rw [hc', hT'] at hvs9
          clear Hvs
          have Hvs := Lib.hid hvs9
          clear hvs9
          obtain ⟨LL, hLL⟩ : ∃ z, visW C m c' T' y = z := ⟨_, rfl⟩
          have hlen2 : pre2.length + LL.length ≤ M := by
            have h1 := HM.out
            rw [visW_succ] at h1
            have h2 := (visTo_prefix C m b T x (show k + 1 ≤ C.length from hlt)).length_le
            rw [Hvs.out, List.length_append, hLL] at h2
            rw [← hpre2, List.length_append]
            omega
          have hvs2 : pre ++ visTo C m b T x (k + 1) = pre2 ++ LL := by rw [Hvs.out, ← hpre2, ← hLL, List.append_assoc]
          have hvp : ∀ q, q <+: LL → ∃ q', q' <+: visW C (m + 1) b T x ∧ pre ++ q' = pre2 ++ q := fun q hq => by
            refine ⟨visTo C m b T x k ++ q, ?_, by rw [← hpre2, List.append_assoc]⟩
            rw [visW_succ]
            have h2 := visTo_prefix C m b T x (show k + 1 ≤ C.length from hlt)
            rw [Hvs.out, hLL] at h2
            exact List.IsPrefix.trans ((List.prefix_append_right_inj _).2 hq) h2
          rw [hpre2] at hj3
          have HLL := Lib.hid hLL
          have Hvs2 := Lib.hid hvs2
          have Hvp := Lib.hid hvp
          have hmo : Try.prog.follows .mixedOrders = true := by kernel_rfl
          have hnx := fun w => next_any b T k (by omega) hT (by omega) w
          rw [hc', hT'] at hnx
          have hT2 : T' < 128 := by rw [← hT']; exact or_lt ⟨T, hT⟩ ⟨k, by omega⟩
          have hih := fun Y (h1 : J pre2 Y) (h2 : KeepsAt T0 X Y) => Hih.out c' T' y (n - 1) pre2 Y (by omega) hT2 (by have := Hyt.out; omega) Hyo.out h1 (by have := h2.size; omega) (by have := h2.size; omega) (by rw [HLL.out]; exact hlen2)
          rw [hLL] at hih
          unfold wayV at hih
          have HIH := Lib.hid hih
          have HNX := Lib.hid hnx
          have HS1 := Lib.hid (fun Y (h : KeepsAt T0 X Y) => h.block (by omega) Hs1.out)
          have HS3 : Hid (∀ Y, J pre2 Y ∧ KeepsAt T0 X Y → KeepsAt T0 X3 Y → Y.heap[w2.heap.size]? = some (.cells (wayA y) 70 (0, 0))) := fun Y _ h => h.block (by omega) hs3
          clear hpre2 hLL hvs2 hvp hnx hih hlen2 Hih HY Hvs hT' hc'
          refine region_inv hmo (fun L a Y => ∃ (b0 b1 b2 b3 b4 b5 b6 b7 rb : Bool), L = #[b0, b1, b2, b3, b4, b5, b6, b7] ∧ a = { tmps := #[.slice (some ⟨g, 0, none⟩) C.length cap, .agg #[.int .i64 (b : Int), .int .i64 (T : Int)], .agg #[.int .i64 x.a, .int .i64 x.b, .int .i64 x.c, .int .i64 x.d, .int .i64 x.e, .int .i64 x.f, .int .i64 x.g, .int .i64 x.t], .func (.yield l) #[] #[], undef, .pointer (some ⟨W.heap.size, 0, none⟩), .pointer (some ⟨W.heap.size + 1, 0, none⟩), undef, u8, .int .i64 (k : Int), .int .i64 cc, .pointer (some ⟨w2.heap.size, 0, none⟩), .pointer (some ⟨W.heap.size, 0, none⟩), .int .i64 (b : Int), .slice (some ⟨g, 0, none⟩) C.length cap, .int .i64 (C.length : Int), .bool false, undef, undef, undef, .slice (some ⟨g, 0, none⟩) C.length cap, .pointer (some ⟨W.heap.size, 0, none⟩), .int .i64 (b : Int), .pointer (some ⟨g, b, none⟩), .slice (some ⟨g2, 0, none⟩) C.length (rc b), .int .i64 (C.length : Int), .int .i64 (k : Int), .bool true, .int .i64 (k : Int), .pointer (some ⟨g2, k, none⟩), .int .i64 cc, .agg #[.int .i64 (b : Int), .int .i64 (T : Int)], .int .i64 (k : Int), .bool false, .agg #[.int .i64 x.a, .int .i64 x.b, .int .i64 x.c, .int .i64 x.d, .int .i64 x.e, .int .i64 x.f, .int .i64 x.g, .int .i64 x.t], .pointer (some ⟨W.heap.size, 0, none⟩), .int .i64 (b : Int), .int .i64 (k : Int), .agg #[.int .i64 (b : Int), .int .i64 (k : Int)], .int .i64 cc, .agg #[.int .i64 y.a, .int .i64 y.b, .int .i64 y.c, .int .i64 y.d, .int .i64 y.e, .int .i64 y.f, .int .i64 y.g, .int .i64 y.t], pk b0 (.slice (some ⟨g, 0, none⟩) C.length cap) u41, pk b1 (.agg #[.int .i64 (b : Int), .int .i64 (T : Int)]) u42, pk b2 (.int .i64 (k : Int)) u43, pk b3 (.agg #[.int .i64 (c' : Int), .int .i64 (T' : Int)]) u44, pk b4 (.agg #[.int .i64 y.a, .int .i64 y.b, .int .i64 y.c, .int .i64 y.d, .int .i64 y.e, .int .i64 y.f, .int .i64 y.g, .int .i64 y.t]) u45, pk b5 (.func (.yield l) #[] #[]) u46, pk b6 (.bool rb) u47, pk b7 (.bool (!rb)) u48, u49], defers := [] } ∧ (b6 = false → J pre2 Y ∧ KeepsAt T0 X Y ∧ KeepsAt T0 X3 Y) ∧ (b6 = true → (b0 = true ∧ b1 = true ∧ b2 = true ∧ b3 = true ∧ b4 = true ∧ b5 = true) ∧ ((rb = true ∧ J (pre2 ++ LL) Y ∧ KeepsAt T0 X Y ∧ KeepsAt T0 X3 Y) ∨ (rb = false ∧ ∃ q, q <+: LL ∧ Jx (pre2 ++ q) Y))) ∧ (b7 = true → b6 = true) ∧ (b3 = true → b1 = true ∧ b2 = true)) ?h0 ?hstep ?hdone
          case h0 =>
            have hgd : X3.grownBy X3.drew none := ⟨rfl, rfl, rfl, Nat.le_refl _, fun _ _ _ => rfl⟩
            exact ⟨false, false, false, false, false, false, false, false, false, rfl, rfl, fun _ => ⟨HJ.out _ _ _ none hj3 hgd (fun r e => (by cases e)), hk3.trans (KeepsAt.of_grown hgd (fun r e => (by cases e))), KeepsAt.of_grown hgd (fun r e => (by cases e))⟩, (fun h => by cases h), (fun h => by cases h), (fun h => by cases h)⟩
          case hstep =>
            rintro L a Y ⟨b0, b1, b2, b3, b4, b5, b6, b7, rb, rfl, rfl, hF, hT6, hC7, hC3⟩ i hi
            obtain ⟨hun, o', ho, hdeps⟩ := mem_ready.1 hi
            clear hi
            have hi : i < 8 := (Array.getElem?_eq_some_iff.1 ho).1
            have hor : i = 0 ∨ i = 1 ∨ i = 2 ∨ i = 3 ∨ i = 4 ∨ i = 5 ∨ i = 6 ∨ i = 7 := by omega
            clear hi
            rcases hor with rfl | rfl | rfl | rfl | rfl | rfl | rfl | rfl
            · have hb0 : b0 = false := hun
              cases ho
              clear hun hdeps
              have e6 : b6 = false := by
                cases h : b6 with
                | false => rfl
                | true => exact absurd ((hT6 h).1.1) (by rw [hb0]; decide)
              have e7 : b7 = false := by
                cases h : b7 with
                | false => rfl
                | true => rw [hC7 h] at e6; cases e6
              obtain ⟨hJ6, hK6, hK7⟩ := hF e6
              subst hb0 e6 e7
              dsimp only
              refine wpOpIn_step rfl (fun K' hK => ?_)
              go_simp
              exact hK _ _ ⟨true, b1, b2, b3, b4, b5, false, false, rb, rfl, rfl, fun _ => ⟨hJ6, hK6, hK7⟩, (fun h => by cases h), (fun h => by cases h), hC3⟩
            · have hb0 : b1 = false := hun
              cases ho
              clear hun hdeps
              have e6 : b6 = false := by
                cases h : b6 with
                | false => rfl
                | true => exact absurd ((hT6 h).1.2.1) (by rw [hb0]; decide)
              have e7 : b7 = false := by
                cases h : b7 with
                | false => rfl
                | true => rw [hC7 h] at e6; cases e6
              obtain ⟨hJ6, hK6, hK7⟩ := hF e6
              have hs := HS1.out Y hK6
              have sc0 : Y.cell? ⟨W.heap.size, 0, none⟩ = some (.int .i64 b) := by simp [World.cell?, hs]
              have sc1 : Y.cell? ⟨W.heap.size, 1, none⟩ = some (.int .i64 T) := by simp [World.cell?, hs]
              clear hs
              subst hb0 e6 e7
              dsimp only
              refine wpOpIn_step rfl (fun K' hK => ?_)
              go_simp
              exact hK _ _ ⟨b0, true, b2, b3, b4, b5, false, false, rb, rfl, rfl, fun _ => ⟨hJ6, hK6, hK7⟩, (fun h => by cases h), (fun h => by cases h), fun h => ⟨rfl, (hC3 h).2⟩⟩
            · have hb0 : b2 = false := hun
              cases ho
              clear hun hdeps
              have e6 : b6 = false := by
                cases h : b6 with
                | false => rfl
                | true => exact absurd ((hT6 h).1.2.2.1) (by rw [hb0]; decide)
              have e7 : b7 = false := by
                cases h : b7 with
                | false => rfl
                | true => rw [hC7 h] at e6; cases e6
              obtain ⟨hJ6, hK6, hK7⟩ := hF e6
              subst hb0 e6 e7
              dsimp only
              refine wpOpIn_step rfl (fun K' hK => ?_)
              go_simp
              exact hK _ _ ⟨b0, b1, true, b3, b4, b5, false, false, rb, rfl, rfl, fun _ => ⟨hJ6, hK6, hK7⟩, (fun h => by cases h), (fun h => by cases h), fun h => ⟨(hC3 h).1, rfl⟩⟩
            · have hb0 : b3 = false := hun
              cases ho
              have d1 : b1 = true := hdeps ⟨1, Ground.data⟩ (by simp) rfl
              have d2 : b2 = true := hdeps ⟨2, Ground.data⟩ (by simp) rfl
              clear hun hdeps
              have e6 : b6 = false := by
                cases h : b6 with
                | false => rfl
                | true => exact absurd ((hT6 h).1.2.2.2.1) (by rw [hb0]; decide)
              have e7 : b7 = false := by
                cases h : b7 with
                | false => rfl
                | true => rw [hC7 h] at e6; cases e6
              obtain ⟨hJ6, hK6, hK7⟩ := hF e6
              subst hb0 d1 d2 e6 e7
              dsimp only
              refine wpOpIn_step rfl (fun K' hK => ?_)
              simp only [pk_true]
              go_simp
              refine ⟨trivial, (fun h => by cases h), ?_⟩
              refine (callsIn_wide.2 (HNX.out _)).mono ?_
              rintro e w5 ⟨rfl, z⟩
              have hgz := gr_of z none
              exact hK _ _ ⟨b0, true, true, true, b4, b5, false, false, rb, rfl, rfl, fun _ => ⟨HJ.out _ _ _ none hJ6 hgz (fun r e => (by cases e)), hK6.trans (KeepsAt.of_grown hgz (fun r e => (by cases e))), hK7.trans (KeepsAt.of_grown hgz (fun r e => (by cases e)))⟩, (fun h => by cases h), (fun h => by cases h), fun _ => ⟨rfl, rfl⟩⟩
            · have hb0 : b4 = false := hun
              cases ho
              clear hun hdeps
              have e6 : b6 = false := by
                cases h : b6 with
                | false => rfl
                | true => exact absurd ((hT6 h).1.2.2.2.2.1) (by rw [hb0]; decide)
              have e7 : b7 = false := by
                cases h : b7 with
                | false => rfl
                | true => rw [hC7 h] at e6; cases e6
              obtain ⟨hJ6, hK6, hK7⟩ := hF e6
              have hs := HS3.out Y ⟨hJ6, hK6⟩ hK7
              obtain ⟨a0, a1, a2, a3, a4, a5, a6, a7⟩ := at8_lit hs
              clear hs
              subst hb0 e6 e7
              dsimp only
              refine wpOpIn_step rfl (fun K' hK => ?_)
              go_simp
              exact hK _ _ ⟨b0, b1, b2, b3, true, b5, false, false, rb, rfl, rfl, fun _ => ⟨hJ6, hK6, hK7⟩, (fun h => by cases h), (fun h => by cases h), hC3⟩
            · have hb0 : b5 = false := hun
              cases ho
              clear hun hdeps
              have e6 : b6 = false := by
                cases h : b6 with
                | false => rfl
                | true => exact absurd ((hT6 h).1.2.2.2.2.2) (by rw [hb0]; decide)
              have e7 : b7 = false := by
                cases h : b7 with
                | false => rfl
                | true => rw [hC7 h] at e6; cases e6
              obtain ⟨hJ6, hK6, hK7⟩ := hF e6
              subst hb0 e6 e7
              dsimp only
              refine wpOpIn_step rfl (fun K' hK => ?_)
              go_simp
              exact hK _ _ ⟨b0, b1, b2, b3, b4, true, false, false, rb, rfl, rfl, fun _ => ⟨hJ6, hK6, hK7⟩, (fun h => by cases h), (fun h => by cases h), hC3⟩
            · have hb0 : b6 = false := hun
              cases ho
              have d0 : b0 = true := hdeps ⟨0, Ground.data⟩ (by simp) rfl
              have d3 : b3 = true := hdeps ⟨3, Ground.data⟩ (by simp) rfl
              have d4 : b4 = true := hdeps ⟨4, Ground.data⟩ (by simp) rfl
              have d5 : b5 = true := hdeps ⟨5, Ground.data⟩ (by simp) rfl
              clear hun hdeps
              obtain ⟨hJ6, hK6, hK7⟩ := hF hb0
              have e7 : b7 = false := by
                cases h : b7 with
                | false => rfl
                | true => rw [hC7 h] at hb0; cases hb0
              subst hb0 d0 d3 d4 d5 e7
              have t1 : b1 = true := (hC3 rfl).1
              have t2 : b2 = true := (hC3 rfl).2
              subst t1 t2
              dsimp only
              refine wpOpIn_step rfl (fun K' hK => ?_)
              simp only [pk_true]
              go_simp
              refine ⟨trivial, (fun h => by cases h), ?_⟩
              refine (HIH.out _ hJ6 hK6).mono ?_
              rintro e w5 (⟨rfl, z1, z2⟩ | ⟨rfl, q, z1, z2⟩)
              · exact hK _ _ ⟨true, true, true, true, true, true, true, false, true, rfl, rfl, (fun h => by cases h), fun _ => ⟨⟨rfl, rfl, rfl, rfl, rfl, rfl⟩, .inl ⟨rfl, z1, hK6.trans z2, hK7.trans z2⟩⟩, fun _ => rfl, fun _ => ⟨rfl, rfl⟩⟩
              · exact hK _ _ ⟨true, true, true, true, true, true, true, false, false, rfl, rfl, (fun h => by cases h), fun _ => ⟨⟨rfl, rfl, rfl, rfl, rfl, rfl⟩, .inr ⟨rfl, q, z1, z2⟩⟩, fun _ => rfl, fun _ => ⟨rfl, rfl⟩⟩
            · have hb0 : b7 = false := hun
              cases ho
              have d6 : b6 = true := hdeps ⟨6, Ground.data⟩ (by simp) rfl
              clear hun hdeps
              have hT7 := hT6
              subst hb0 d6
              obtain ⟨s0, s1, s2, s3, s4, s5⟩ := (hT7 rfl).1
              subst s0 s1 s2 s3 s4 s5
              dsimp only
              refine wpOpIn_step rfl (fun K' hK => ?_)
              simp only [pk_true]
              go_simp
              exact hK _ _ ⟨true, true, true, true, true, true, true, true, rb, rfl, rfl, (fun h => by cases h), fun _ => ⟨⟨rfl, rfl, rfl, rfl, rfl, rfl⟩, (hT7 rfl).2⟩, fun _ => rfl, fun _ => ⟨rfl, rfl⟩⟩
          case hdone =>
            rintro L a Y ⟨b0, b1, b2, b3, b4, b5, b6, b7, rb, rfl, rfl, hF, hT6, hC7, _⟩ hr
            have t0 : b0 = true := ready_nil hr (i := 0) (by simp) (by intro o ho; cases ho; intro e he hbd; replace he : e ∈ #[] := he; simp at he)
            subst t0
            have t1 : b1 = true := ready_nil hr (i := 1) (by simp) (by intro o ho; cases ho; intro e he hbd; replace he : e ∈ #[] := he; simp at he)
            subst t1
            have t2 : b2 = true := ready_nil hr (i := 2) (by simp) (by intro o ho; cases ho; intro e he hbd; replace he : e ∈ #[] := he; simp at he)
            subst t2
            have t3 : b3 = true := ready_nil hr (i := 3) (by simp) (by intro o ho; cases ho; intro e he hbd; replace he : e ∈ #[⟨1, Ground.data⟩, ⟨2, Ground.data⟩] := he; simp only [List.mem_toArray, List.mem_cons, List.not_mem_nil, or_false] at he; rcases he with rfl | rfl <;> first | rfl | exact absurd hbd (by decide))
            subst t3
            have t4 : b4 = true := ready_nil hr (i := 4) (by simp) (by intro o ho; cases ho; intro e he hbd; replace he : e ∈ #[] := he; simp at he)
            subst t4
            have t5 : b5 = true := ready_nil hr (i := 5) (by simp) (by intro o ho; cases ho; intro e he hbd; replace he : e ∈ #[] := he; simp at he)
            subst t5
            have t6 : b6 = true := ready_nil hr (i := 6) (by simp) (by intro o ho; cases ho; intro e he hbd; replace he : e ∈ #[⟨0, Ground.data⟩, ⟨3, Ground.data⟩, ⟨4, Ground.data⟩, ⟨5, Ground.data⟩, ⟨3, Ground.chain⟩] := he; simp only [List.mem_toArray, List.mem_cons, List.not_mem_nil, or_false] at he; rcases he with rfl | rfl | rfl | rfl | rfl <;> first | rfl | exact absurd hbd (by decide))
            subst t6
            have t7 : b7 = true := ready_nil hr (i := 7) (by simp) (by intro o ho; cases ho; intro e he hbd; replace he : e ∈ #[⟨6, Ground.data⟩] := he; simp only [List.mem_toArray, List.mem_cons, List.not_mem_nil, or_false] at he; rcases he with rfl <;> first | rfl | exact absurd hbd (by decide))
            subst t7
            simp only [pk_true]
            rcases (hT6 rfl).2 with ⟨rfl, hj6, hk6, _⟩ | ⟨rfl, q, hq, hx⟩
            · gi_wp2_with fail
              go_roundw
              case rel => exact ⟨k + 1, by omega, by go_num, by rw [Hvs2.out]; exact hj6, hk6⟩
              case measure => simp [intOf]; omega
            · gi_wp2_with fail
              go_ret
              obtain ⟨q', h1, h2⟩ := Hvp.out q hq
              exact .inr ⟨rfl, q', h1, by rw [h2]; exact hx⟩
      · obtain rfl : k = C.length := by omega
        gi_wp2_with fail
        go_ret
        rw [visW_succ]
        exact .inl ⟨rfl, hj, Hk.out.trans hks⟩
end Go.Proofs.Ytambhhjbafefgaa

/- The law for a range over a function, where the round lays a box for what it is handed, and the iterator wants something of the world that the rounds keep. -/
namespace Go.Proofs.Ytambhhjbafefgaa
set_option linter.unusedVariables false
open Go.RowKit

variable {F : Fence} {n : Nat} {P : Program}

/-- an iterator that calls yield for what S says, or for a part of it, as long as the rounds keep Φ -/
def VisitsF {α : Type} (F : Fence) (n : Nat) (P : Program) (gf : Nat) (lb : Array Value) (encs : α → Array Value) (T : Nat) (S Sp : List α → Prop) (N : Nat) (Φ : World → Prop) (W : World) : Prop :=
  ∀ (l : Nat) (J Jx : List α → World → Prop), Bears W.heap.size J → Bears W.heap.size Jx → (∀ pre X, J pre X → Φ X) →
    (∀ pre x X, J pre X → pre.length < N → YieldAt F (n - 1) P l (encs x) X fun e X' =>
      (e = .returned (.bool true) ∧ J (pre ++ [x]) X' ∧ KeepsAt T X X') ∨ (e = .returned (.bool false) ∧ Jx (pre ++ [x]) X')) →
    J [] W → CallsIn F n P gf (#[.func (.yield l) #[] #[]] ++ lb) W fun e W' => (∃ v, e = .returned v) ∧ ((∃ xs, S xs ∧ J xs W') ∨ (∃ pre, Sp pre ∧ Jx pre W'))

theorem range_visits_boxF {α : Type} {g : Operand} {ps : Array Tmp} {assign body : Code} {Q : Exit → Act → World → Prop} {a : Act} {w : World}
    (hro : F.round = none) (h1 : 1 ≤ n) {gf : Nat} {lb : Array Value} (hg : a.eval g = .func (.func gf) #[] lb) (hFg : F.fn gf) (eg : ∀ args w, (callFunc gf args).run P w = .ok (.enter gf args) w)
    {encs : α → Array Value} {T : Nat} {S Sp : List α → Prop} {N : Nat} (hT : T ≤ w.heap.size) {Φ : World → Prop} (hseq : ∀ W, w.grownBy W none → VisitsF F (n - 1) P gf lb encs T S Sp N Φ W) (hps : ∀ x, (encs x).size = ps.size)
    (I : List α → World → Prop) (Ix : Code → List α → World → Prop) (hI : Bears w.heap.size I) (hIx : ∀ c, Bears w.heap.size (Ix c)) (hΦ : ∀ pre X, I pre X → Φ X) (h0 : I [] w) (ob : α → Obj) (a₁ : α → Nat → Act)
    (hassign : ∀ (l : Nat) (x : α) (W : World) (K : Act → World → Prop), K (a₁ x W.heap.size) (W.alloc (ob x)) →
      assign.wpIn (F.inRound l) (n - 1 - 1) P (Exit.then K (fun _ _ _ => False)) { tmps := (ps.zip (encs x)).foldl (fun t (p, v) => t.setIfInBounds p v) a.tmps, defers := [] } W)
    (hbody : ∀ (l : Nat) (pre : List α) (x : α) (B : Nat) (W : World), I pre W → W.heap[B]? = some (ob x) → w.heap.size ≤ B → pre.length < N → body.wpIn (F.inRound l) (n - 1 - 1) P (roundEnds T I Ix (pre ++ [x]) W) (a₁ x B) W)
    (hdone : ∀ (D : Nat) (xs : List α) (W : World), w.heap.size ≤ D → S xs → I xs W → W.heap[D]? = some (.deferred (some [])) → Q .normal { a with defers := { target := .collected D, args := #[] } :: a.defers } W)
    (hstop : ∀ (D : Nat) (c : Code) (pre : List α) (W : World), w.heap.size ≤ D → Sp pre → Ix c pre W → W.heap[D]? = some (.deferred (some [])) → c.wpIn F n P Q { a with defers := { target := .collected D, args := #[] } :: a.defers } W) :
    (Code.rangeFunc g ps assign body).wpIn F n P Q a w := by
  refine wpIn_rangeFunc (fun fn hfn => ?_)
  rw [hro]
  -- the two blocks of the loop: D for the deferred calls, L for its record
  obtain ⟨D, hD⟩ : ∃ D, w.heap.size = D := ⟨_, rfl⟩
  obtain ⟨rec, hrec⟩ : ∃ rec : LoopState → Option Code → Loop, rec = fun st jump => { state := st, pending := jump, fn, tmps := a.tmps, params := ps, assign, body, defers := D } := ⟨_, rfl⟩
  obtain ⟨V, hV⟩ : ∃ V, (w.alloc (.deferred (some []))).alloc (.loop (rec .ready none)) = V := ⟨_, rfl⟩
  have vs : V.heap.size = D + 1 + 1 := by rw [← hV, ← hD]; simp
  have vL : V.heap[D + 1]? = some (.loop (rec .ready none)) := by
    rw [← hV, ← hD]; have h := World.alloc_heap_new (w.alloc (.deferred (some []))) (.loop (rec .ready none)); rwa [World.size_alloc] at h
  have vD : V.heap[D]? = some (.deferred (some [])) := by
    rw [← hV, ← hD]; exact (Below.heap_alloc _ _ _ (by simp)).trans (World.alloc_heap_new w _)
  have vg : w.grownBy V none := by
    rw [← hV]
    have k1 := World.grownBy_alloc w (.deferred (some [])) none
    have k2 := World.grownBy_alloc (w.alloc (.deferred (some []))) (.loop (rec .ready none)) none
    exact k1.trans k2
  have vI : I [] V := by rw [← hV]; exact hI.new _ (hI.new _ h0)
  rw [hD] at hI hIx hT
  -- what holds between two rounds, and behind the last one
  let J : List α → World → Prop := fun pre W => I pre W ∧ W.heap[D + 1]? = some (.loop (rec .ready none)) ∧ W.heap[D]? = some (.deferred (some []))
  let Jx : List α → World → Prop := fun pre W => ∃ c, Ix c pre W ∧ W.heap[D + 1]? = some (.loop (rec .done (some c))) ∧ W.heap[D]? = some (.deferred (some []))
  have far : ∀ {A B : World} {row : Option Nat} {k : Nat} {o : Obj}, k < V.heap.size → A.grownBy B row → (∀ r, row = some r → V.heap.size ≤ r) → A.heap[k]? = some o → B.heap[k]? = some o := fun hk hg hr ho =>
    (hg.block _ (Array.getElem?_eq_some_iff.1 ho).1 (fun e => by have := hr _ e.symm; omega)).trans ho
  have bJ : Bears V.heap.size J := fun s A B row hs hg' hr => ⟨hI s A B row hs.1 hg' (fun r e => by have := hr r e; omega), far (by omega) hg' hr hs.2.1, far (by omega) hg' hr hs.2.2⟩
  have bJx : Bears V.heap.size Jx := fun s A B row ⟨c, hc, hl, hk⟩ hg' hr => ⟨c, hIx c s A B row hc hg' (fun r e => by have := hr r e; omega), far (by omega) hg' hr hl, far (by omega) hg' hr hk⟩
  refine ⟨D + 1, [{ target := .collected D, args := #[] }], V, { target := .fn (.func gf) lb, args := #[.func (.yield (D + 1)) #[] #[]] }, V, gf, #[.func (.yield (D + 1)) #[] #[]] ++ lb, V, ?_, ?_, ?_, ?_, fun _ => h1, ?_⟩
  · rw [← hV, hrec, ← hD]; exact run_enterLoop_outer _ _ _ _ _
  · simp only [resolve, hg]; simp [go_sem]
  · intro f hf; simp [Target.leads] at hf; subst hf; exact hFg
  · simp [invoke, go_sem, eg]
  refine (hseq V vg (D + 1) J Jx bJ bJx (fun pre X h => hΦ pre X h.1) ?_ ⟨vI, vL, vD⟩).mono ?_
  · rintro pre x W ⟨hi, hl, hk⟩ hlen
    have hlt : D + 1 < W.heap.size := (Array.getElem?_eq_some_iff.1 hl).1
    have hy := run_yield (P := P) (args := encs x) hl (by rw [hrec]; exact hps x)
    rw [hrec] at hy
    refine ⟨fn, _, assign, body, hy, roundIn_of_wpIn hfn (hassign _ x W _ ⟨_, run_beginRound ((Below.heap_alloc W (ob x) (D + 1) hlt).trans hl) (by rw [hrec]), ?_⟩)⟩
    obtain ⟨W2, hW2⟩ : ∃ W2, (W.alloc (ob x)).putObj (D + 1) (.loop { rec .ready none with state := .busy }) = W2 := ⟨_, rfl⟩
    have l2 : W2.heap[D + 1]? = some (.loop { rec .ready none with state := .busy }) := by rw [← hW2]; exact World.putObj_heap_same (by simp; omega)
    have k2 : W2.heap[D]? = some (.deferred (some [])) := by rw [← hW2]; exact (World.putObj_heap_other (by omega)).trans ((Below.heap_alloc W (ob x) D (by omega)).trans hk)
    have i2 : I pre W2 := by rw [← hW2]; exact hI.put _ (hI.new _ hi) (by omega)
    have oth2 : ∀ k, k ≠ D + 1 → k < W.heap.size → W2.heap[k]? = W.heap[k]? := fun k hne hk => by rw [← hW2]; exact (World.putObj_heap_other hne).trans (Below.heap_alloc W (ob x) k hk)
    have s2 : W2.heap.size = W.heap.size + 1 := by rw [← hW2]; simp
    have x2 : W2.heap[W.heap.size]? = some (ob x) := by rw [← hW2]; exact (World.putObj_heap_other (by omega)).trans (World.alloc_heap_new W (ob x))
    -- the end of a round, whichever way it is left
    have fin : ∀ (jump : Option Code) (W3 : World), KeepsAt T W2 W3 → ∃ W4, (Instr.endRound (D + 1) jump).run P W3 = .ok (.bool jump.isNone) W4 ∧ W4 = W3.putObj (D + 1) (.loop (rec (if jump.isNone then .ready else .done) jump)) ∧
        W4.heap[D + 1]? = some (.loop (rec (if jump.isNone then .ready else .done) jump)) ∧ W4.heap[D]? = some (.deferred (some [])) := fun jump W3 hk3 => by
      have hl3 := hk3.same _ _ (by omega) l2
      have hrun := run_endRound (P := P) jump hl3
      rw [hrec] at hrun ⊢
      exact ⟨_, hrun, rfl, World.putObj_heap_same (Array.getElem?_eq_some_iff.1 hl3).1, (World.putObj_heap_other (by omega)).trans (hk3.same _ _ (by omega) k2)⟩
    rw [hW2]
    refine wpIn_mono (hbody _ pre x W.heap.size W2 i2 x2 (by omega) hlen) ?_
    intro e a3 W3 hp
    have left : ∀ c, KeepsAt T W2 W3 → Ix c (pre ++ [x]) W3 → ∃ v W4, (Instr.endRound (D + 1) (some c)).run P W3 = .ok v W4 ∧ ((Ending.returned v = .returned (.bool true) ∧ J (pre ++ [x]) W4 ∧ KeepsAt T W W4) ∨ (Ending.returned v = .returned (.bool false) ∧ Jx (pre ++ [x]) W4)) := fun c hk3 hi3 => by
      obtain ⟨W4, hr, rfl, hl4, hk4⟩ := fin (some c) W3 hk3
      exact ⟨_, _, hr, .inr ⟨rfl, c, (hIx c).put _ hi3 (by omega), hl4, hk4⟩⟩
    cases e with
    | normal =>
      obtain ⟨hk3, hi3⟩ := hp
      obtain ⟨W4, hr, rfl, hl4, hk4⟩ := fin none W3 hk3
      refine ⟨_, _, hr, .inl ⟨rfl, ⟨hI.put _ hi3 (by omega), hl4, hk4⟩, ?_⟩⟩
      refine ⟨by have := hk3.size; simp; omega, fun k o hT' ho => ?_⟩
      by_cases hkl : k = D + 1
      · subst hkl
        rw [hl] at ho
        cases ho
        exact hl4
      · exact (World.putObj_heap_other hkl).trans (hk3.same k o hT' ((oth2 k hkl (Array.getElem?_eq_some_iff.1 ho).1).trans ho))
    | ret => exact left .ret hp.1 hp.2
    | exit i => exact left (.exit i) hp.1 hp.2
    | goto t => exact left (.goto t) hp.1 hp.2
    | panic c => exact hp.elim
    | outgrown => exact hp.elim
  · rintro e W2 ⟨⟨v, rfl⟩, (⟨xs, hS, hi, hl, hk⟩ | ⟨pre, hSp, c, hi, hl, hk⟩)⟩
    all_goals
      have hend := run_endLoop (P := P) hl (by rw [hrec]; simp)
      rw [hrec] at hend
    · exact ⟨none, _, hend, hdone D xs _ (by omega) hS (hI.put _ hi (by omega)) ((World.putObj_heap_other (by omega)).trans hk)⟩
    · exact ⟨some c, _, hend, hstop D c pre _ (by omega) hSp ((hIx c).put _ hi (by omega)) ((World.putObj_heap_other (by omega)).trans hk)⟩
end Go.Proofs.Ytambhhjbafefgaa

/- The iterator assignments: its contract. -/
namespace Go.Proofs.Ytambhhjbafefgaa
set_option linter.unusedVariables false
open Go.RowKit Go.Shelf
attribute [local go_sem] Oper.semAt_some

/-- all assignments, in lexicographic order -/
def asgW (C : List (List Int)) : List Way := visW C C.length 0 0 Way.zero

set_option maxHeartbeats 1000000 in
theorem assignments_in (n m : Nat) (a : Option Addr) (cap : Nat) (w : World) :
    CallsIn Fence.wide n Try.prog 76 #[.slice a m cap] w fun e' w' => e' = .returned (.func (.func 96) #[] #[.pointer (some ⟨w.heap.size, 0, none⟩)]) ∧
      w' = w.alloc (.cells #[.slice a m cap] 22) := by
  refine callsIn_of_wp Try.func76 rfl trivial ?_ rfl
  simp only [Try.ntmps76, List.size_toArray, List.length_cons, List.length_nil, Nat.reduceAdd, Nat.reduceSub, Array.replicate_succ, Array.replicate_zero, List.push_toArray, List.append_toArray, List.nil_append, List.cons_append]
  gi_wp2
  go_ret
  exact ⟨rfl, rfl⟩

/-- a way that puts each button into a hole that there is -/
abbrev OkW (C : List (List Int)) := { x : Way // ∀ i, i < C.length → ∃ j : Nat, j < C.length ∧ x.at i = j }
def valW {C : List (List Int)} (l : List (OkW C)) : List Way := l.map fun x => x.1
theorem valW_snoc {C : List (List Int)} (l : List (OkW C)) (x : OkW C) : valW (l ++ [x]) = valW l ++ [x.1] := by simp [valW]

set_option maxRecDepth 100000 in
set_option maxHeartbeats 4000000 in
theorem asg_visits (C : List (List Int)) (g cap : Nat) (ra : Nat → Option Addr) (rc : Nat → Nat) (hR : Rect C C.length) (n Be T : Nat) (W : World) (hT : T ≤ W.heap.size) (hBe : W.cell? ⟨Be, 0, none⟩ = some (.slice (some ⟨g, 0, none⟩) C.length cap)) :
    VisitsF Fence.wide n Try.prog 96 #[.pointer (some ⟨Be, 0, none⟩)] (fun x : OkW C => #[wayV x.1]) T (fun ys => valW ys = asgW C) (fun pre => valW pre <+: asgW C) (asgW C).length (fun X => TblF X g ra rc C) W := by
  intro l J Jx hJ hJx hΦ hY h0
  have hv := visit_in C g cap ra rc hR l T W.heap.size (asgW C).length (fun l X => ∃ l' : List (OkW C), valW l' = l ∧ J l' X) (fun l X => ∃ l' : List (OkW C), valW l' = l ∧ Jx l' X)
    (fun s A B row ⟨l', e, hj⟩ hg hr => ⟨l', e, hJ l' A B row hj hg hr⟩) (fun pre X ⟨l', _, hj⟩ => hΦ l' X hj)
    (fun m pre x X ⟨l', e, hj⟩ hl hx => by
      refine YieldAt.anyDepth rfl m (YieldAt.mono (hY l' ⟨x, hx⟩ X hj (by rw [← e] at hl; simpa [valW] using hl)) ?_)
      rintro e' X' (⟨h1, h2, h3⟩ | ⟨h1, h2⟩)
      · exact .inl ⟨h1, ⟨_, by rw [valW_snoc, e], h2⟩, h3⟩
      · exact .inr ⟨h1, ⟨_, by rw [valW_snoc, e], h2⟩⟩)
    C.length 0 0 Way.zero (n - 1) [] W (by omega) (by omega) (by simp [Way.zero]) (fun i hi => absurd hi (by omega)) ⟨[], rfl, h0⟩ (Nat.le_refl _) hT (by simp [asgW])
  rw [List.nil_append] at hv
  have HV := Lib.hid hv
  clear hv hY hJ hJx hΦ h0
  refine callsIn_of_wp Try.func96 rfl trivial ?_ rfl
  simp only [Try.ntmps96, List.size_toArray, List.length_cons, List.length_nil, Nat.reduceAdd, Nat.reduceSub, Array.replicate_succ, Array.replicate_zero, List.push_toArray, List.append_toArray, List.nil_append, List.cons_append]
  gi_wp2_with fail
  refine ⟨trivial, (fun h => by cases h), ?_⟩
  refine (HV.out).mono ?_
  rintro e W2 (⟨rfl, ⟨l', he, hj⟩, _⟩ | ⟨rfl, q, hq, ⟨l', he, hx⟩⟩)
  · gi_wp2
    go_end0
    exact ⟨⟨_, rfl⟩, .inl ⟨_, he, hj⟩⟩
  · gi_wp2
    go_end0
    exact ⟨⟨_, rfl⟩, .inr ⟨l', by rw [he]; exact hq, hx⟩⟩
end Go.Proofs.Ytambhhjbafefgaa

/- The narrowest assignment: mathematics. -/
namespace Go.Proofs.Ytambhhjbafefgaa
set_option linter.unusedVariables false

/-- the ways put buttons into holes that there are -/
theorem visW_ok {C : List (List Int)} (hn : C.length ≤ 7) : ∀ (m b T : Nat) (x : Way), b + m = C.length → (∀ i, i < b → ∃ j : Nat, j < C.length ∧ x.at i = j) → ∀ y ∈ visW C m b T x, ∀ i, i < C.length → ∃ j : Nat, j < C.length ∧ y.at i = j
  | 0, b, T, x, hb, hx, y, hy, i, hi => by
    simp only [visW, List.mem_singleton] at hy
    subst hy
    exact hx i (by omega)
  | m + 1, b, T, x, hb, hx, y, hy, i, hi => by
    rw [visW] at hy
    obtain ⟨h, hh, hy⟩ := List.mem_flatMap.1 hy
    rw [List.mem_range] at hh
    by_cases ht : T.testBit h
    · rw [if_pos ht] at hy; cases hy
    · rw [if_neg ht] at hy
      refine visW_ok hn m (b + 1) _ _ (by omega) (fun i' hi' => ?_) y hy i hi
      by_cases e : i' = b
      · subst e; exact ⟨h, hh, put_at x (by omega) _ _⟩
      · rw [put_ne x (by omega) (by omega) e]; exact hx i' (by omega)
theorem asgW_ok {C : List (List Int)} (hn : C.length ≤ 7) : ∀ y ∈ asgW C, ∀ i, i < C.length → ∃ j : Nat, j < C.length ∧ y.at i = j :=
  visW_ok hn C.length 0 0 Way.zero (by omega) (fun i hi => absurd hi (by omega))

def narStep (C : List (List Int)) (s : Way × Int) (x : Way) : Way × Int := if widthTo C x C.length < s.2 then (x, widthTo C x C.length) else s
def narL (C : List (List Int)) (l : List Way) : Way × Int := l.foldl (narStep C) (Way.zero, 1001)
theorem narL_snoc (C : List (List Int)) (l : List Way) (x : Way) : narL C (l ++ [x]) = narStep C (narL C l) x := by unfold narL; rw [List.foldl_append]; rfl
def narW (C : List (List Int)) : Way × Int := narL C (asgW C)
theorem width_in {C : List (List Int)} (hR : Rect C C.length) (x : Way) : ∀ k, -1000 ≤ widthTo C x k ∧ widthTo C x k ≤ 1000
  | 0 => by unfold widthTo; omega
  | k + 1 => by
    have ih := width_in hR x k
    unfold widthTo
    have h : ∀ i j, -1000 ≤ (C.getD i []).getD j 0 ∧ (C.getD i []).getD j 0 ≤ 1000 := fun i j => by
      cases hi : C[i]? with
      | none => rw [List.getD_eq_getElem?_getD (l := C), hi]; simp
      | some row => rw [List.getD_eq_getElem?_getD (l := C), hi]; exact getD_bound (hR.cost row (List.mem_of_getElem? hi)) j
    have := h k (x.at k).toNat
    omega
theorem narL_in {C : List (List Int)} (hR : Rect C C.length) : ∀ l : List Way, -1000 ≤ (narL C l).2 ∧ (narL C l).2 ≤ 1001 := by
  intro l
  suffices ∀ (l : List Way) (s : Way × Int), -1000 ≤ s.2 ∧ s.2 ≤ 1001 → -1000 ≤ (l.foldl (narStep C) s).2 ∧ (l.foldl (narStep C) s).2 ≤ 1001 from this l _ (by simp)
  intro l
  induction l with
  | nil => intro s h; exact h
  | cons x l ih =>
    intro s h
    rw [List.foldl_cons]
    refine ih _ ?_
    unfold narStep
    have := width_in hR x C.length
    split
    · simp only; omega
    · exact h
end Go.Proofs.Ytambhhjbafefgaa

/- How a function with ended ranges is left. -/
namespace Go.Proofs.Ytambhhjbafefgaa
set_option linter.unusedVariables false
open Go.RowKit Go.Shelf
attribute [local go_sem] Oper.semAt_some

/-- a block for deferred calls, as a range over a function leaves it -/
def markD (D : Nat) : Deferred := { target := .collected D, args := #[] }

/-- the blocks of the ranges that have ended lie open -/
def Marks (n₀ : Nat) (Ds : List Nat) (W : World) : Prop := Ds.Nodup ∧ ∀ D, D ∈ Ds → n₀ ≤ D ∧ W.heap[D]? = some (.deferred (some []))
theorem leaves_marks {F : Fence} {n : Nat} {P : Program} {fn : Func} {tmps : Array Value} {R : Ending → World → Prop} {u : FrameMode} (hu : u ≠ .run) {n₀ : Nat} {Φ : World → Prop}
    (hΦ : ∀ W D, Φ W → n₀ ≤ D → W.heap[D]? = some (.deferred (some [])) → Φ (W.putObj D (.deferred none))) (hend : ∀ W, Φ W → LeavesInM F n P fn tmps R [] u W) :
    ∀ Ds W, Marks n₀ Ds W → Φ W → LeavesInM F n P fn tmps R (Ds.map markD) u W
  | [], W, _, h => hend W h
  | D :: Ds, W, hM, h => by
    have hD := hM.2 D (by simp)
    refine ⟨hu, .inl ⟨D, _, rfl, run_takeDeferred hD.2, ?_⟩⟩
    refine leaves_marks hu hΦ hend Ds _ ⟨(List.nodup_cons.1 hM.1).2, fun D' h' => ⟨(hM.2 D' (by simp [h'])).1, ?_⟩⟩ (hΦ W D h hD.1 hD.2)
    rw [World.putObj_heap_other (by rintro rfl; exact (List.nodup_cons.1 hM.1).1 h')]
    exact (hM.2 D' (by simp [h'])).2
theorem Marks.push {n₀ : Nat} {Ds : List Nat} {W W' : World} (h : Marks n₀ Ds W) {D : Nat} (hD : W.heap.size ≤ D) (h0 : n₀ ≤ D) (hW : ∀ D, D ∈ Ds → W'.heap[D]? = some (.deferred (some []))) (hK : W'.heap[D]? = some (.deferred (some []))) : Marks n₀ (D :: Ds) W' := by
  refine ⟨List.nodup_cons.2 ⟨fun hm => ?_, h.1⟩, fun D' h' => ?_⟩
  · have := (Array.getElem?_eq_some_iff.1 (h.2 D hm).2).1; omega
  · rcases List.mem_cons.1 h' with rfl | h'
    · exact ⟨h0, hK⟩
    · exact ⟨(h.2 D' h').1, hW D' h'⟩

/-- one range has ended: its mark is taken -/
theorem leaves_one {F : Fence} {n : Nat} {P : Program} {fn : Func} {tmps : Array Value} {R : Ending → World → Prop} {u : FrameMode} (hu : u ≠ .run) {n₀ : Nat} {Φ : World → Prop}
    (hΦ : ∀ W D, Φ W → n₀ ≤ D → W.heap[D]? = some (.deferred (some [])) → Φ (W.putObj D (.deferred none))) (hend : ∀ W, Φ W → LeavesInM F n P fn tmps R [] u W)
    (D : Nat) (W : World) (hD : n₀ ≤ D) (hK : W.heap[D]? = some (.deferred (some []))) (h : Φ W) : LeavesInM F n P fn tmps R [markD D] u W :=
  leaves_marks hu hΦ hend [D] W ⟨by simp, fun D' h' => by rw [List.mem_singleton] at h'; subst h'; exact ⟨hD, hK⟩⟩ h

theorem own_ne {W : World} {base n size D : Nat} {e : TypeId} {v : Value} {xs : List Value} {o : Option (List Deferred)} (h : W.ownsRow base e size v n xs) (hd : W.heap[D]? = some (.deferred o)) : v.ownBlock ≠ some D := by
  rcases h.2 with ⟨rfl, _⟩ | ⟨g, cap, cur, rfl, _, hg, _⟩
  · simp [Value.ownBlock]
  · intro e
    have : g = D := by simpa [Value.ownBlock] using e
    subst this
    rw [hg] at hd
    cases hd
theorem own_kept {W : World} {base n size D : Nat} {e : TypeId} {v : Value} {xs : List Value} {o : Option (List Deferred)} {o' : Obj} (h : W.ownsRow base e size v n xs) (hd : W.heap[D]? = some (.deferred o)) : (W.putObj D o').ownsRow base e size v n xs :=
  h.kept (grownBy_putObj' W D o') (.inr (own_ne h hd))
theorem own_gr {w w' : World} {base size n : Nat} {e : TypeId} {v : Value} {xs : List Value} (h : w.ownsRow base e size v n xs) (hb : Below w.heap.size w w') : w'.ownsRow base e size v n xs :=
  h.kept (gr_of hb none) (by generalize v.ownBlock = q; cases q <;> simp)
end Go.Proofs.Ytambhhjbafefgaa

/- Narrow. -/
namespace Go.Proofs.Ytambhhjbafefgaa
set_option linter.unusedVariables false
open Go.RowKit Go.Shelf
attribute [local go_sem] Oper.semAt_some

set_option maxRecDepth 100000 in
set_option maxHeartbeats 4000000 in
theorem Narrow_no (C : List (List Int)) (a : Option Addr) (cap : Nat) (w : World) (h : Tbl w a C) (hn : C.length ≤ 1000) (hr : ∀ row ∈ C, row.length ≤ 1000) (hw : costsB C = false) :
    Calls Try.prog 43 #[.slice a C.length cap] w fun e w' => e = .returned (.tuple #[.slice none 0 0, .int .i64 0, .slice none 0 0, .int .i64 2]) ∧ Below w.heap.size w w' := by
  have hC := fun w' h => isCosts_any a cap C w' h hn hr
  rw [hw] at hC
  have HC := Lib.hid hC
  have H := Lib.hid (h.below (below_alloc w (.cells #[.slice a C.length cap] 22)))
  clear hC h hw
  go_enter Try.func43, Try.ntmps43
  go_wp2_with (go_at_call 53; refine (HC.out _ H.out).mono ?_; rintro e w' ⟨rfl, rfl⟩)
  exact bodyPost_ret (v := .tuple #[.slice none 0 0, .int .i64 0, .slice none 0 0, .int .i64 2]) (by simp [results, Try.results43, go_sem]) rfl ⟨rfl, below_alloc _ _⟩

theorem grownBy_set (W : World) (b o : Nat) (v : Value) : W.grownBy (W.setCell ⟨b, o, none⟩ v) (some b) := ⟨rfl, rfl, rfl, by simp, fun k _ hk => Below.heap_setCell _ _ _ _ (fun e => hk (by rw [e]))⟩
theorem undrew1 {W w1 : World} (h : Below W.drew.heap.size W.drew w1) : Below W.heap.size W w1 := ⟨h.1, h.2, h.3, h.4, h.5⟩
/-- what Narrow's loop keeps -/
structure NarI (w : World) (g cap : Nat) (C : List (List Int)) (pre : List (OkW C)) (W : World) : Prop where
  below : Below w.heap.size w W
  b1 : W.heap[w.heap.size]? = some (.cells #[.slice (some ⟨g, 0, none⟩) C.length cap] 22 (0, 0))
  b2 : W.heap[w.heap.size + 1]? = some (.cells (wayA (narL C (valW pre)).1) 70 (0, 0))
  b3 : W.heap[w.heap.size + 1 + 1]? = some (.cells #[.int .i64 (narL C (valW pre)).2] 3 (0, 0))
theorem bears_nar {w : World} {g cap : Nat} {C : List (List Int)} {B : Nat} (h : w.heap.size + 3 ≤ B) : Bears B (fun pre X => NarI w g cap C pre X) := fun s W W' row hs hg hr => by
  have far : ∀ k, k < w.heap.size + 3 → ∀ o, W.heap[k]? = some o → W'.heap[k]? = some o := fun k hk o ho =>
    (hg.block k (Array.getElem?_eq_some_iff.1 ho).1 (fun e => by have := hr k e.symm; omega)).trans ho
  exact ⟨hs.below.grown hg hs.below.size (fun k e => by have := hr k e; omega), far _ (by omega) _ hs.b1, far _ (by omega) _ hs.b2, far _ (by omega) _ hs.b3⟩

set_option maxRecDepth 100000 in
set_option maxHeartbeats 4000000 in
theorem Narrow_yes (C : List (List Int)) (a : Option Addr) (cap : Nat) (w : World) (h : Tbl w a C) (hcC : costsB C = true) :
    Calls Try.prog 43 #[.slice a C.length cap] w fun e w' => ∃ v1 v2 l, e = .returned (.tuple #[v1, .int .i64 (narW C).2, v2, .int .i64 0]) ∧ w'.ownsRow w.heap.size 3 1 v1 C.length (intL ((narW C).1.holes.take C.length)) ∧
      w'.ownsRow w.heap.size 3 1 v2 l.length (intL l) ∧ BlockRes C ((narW C).2 - 1) l ∧ Below w.heap.size w w' := by
  refine (callsIn_wide (n := 6)).1 ?_
  obtain ⟨hR, hp⟩ := Rect.of_costs hcC
  obtain ⟨g, ra, rc, rfl, hF⟩ := TblF.of h hp
  have hC := fun w' h => isCosts_any (some ⟨g, 0, none⟩) cap C w' h (by have := hR.n7; omega) (fun row hrow => by have := hR.len row hrow; have := hR.n7; omega)
  rw [hcC] at hC
  have HC := Lib.hid hC
  have HR := Lib.hid hR
  have HF := Lib.hid hF
  have HFw := Lib.hid hF
  clear hC h
  refine callsIn_of_wp_marks Try.func43 rfl trivial ?_ rfl
  simp only [Try.ntmps43, List.size_toArray, List.length_cons, List.length_nil, Nat.reduceAdd, Nat.reduceSub, Array.replicate_succ, Array.replicate_zero, List.push_toArray, List.append_toArray, List.nil_append, List.cons_append]
  have hw1 := hF.below (below_alloc w (.cells #[.slice (some ⟨g, 0, none⟩) C.length cap] 22))
  have HW1 := Lib.hid hw1
  clear hF hw1
  gi_wp2_with fail
  refine ⟨trivial, ?_⟩
  refine (callsIn_wide.2 (HC.out _ HW1.out.tbl)).mono ?_
  rintro e w' ⟨rfl, rfl⟩
  gi_wp2_with fail
  refine ⟨trivial, ?_⟩
  refine (assignments_in _ _ _ _ _).mono ?_
  rintro e w' ⟨rfl, rfl⟩
  gi_wp2_with fail
  generalize hW3 : ((((w.alloc (.cells #[.slice (some ⟨g, 0, none⟩) C.length cap] 22)).alloc (.cells #[.int .i64 0, .int .i64 0, .int .i64 0, .int .i64 0, .int .i64 0, .int .i64 0, .int .i64 0, .int .i64 0] 70)).alloc (.cells #[.int .i64 1001] 3)).alloc (.cells #[.slice (some ⟨g, 0, none⟩) C.length cap] 22)) = W3
  have hsz : W3.heap.size = w.heap.size + 4 := by rw [← hW3]; simp
  have hI0 : NarI w g cap C [] W3 := by
    rw [← hW3]
    refine ⟨?_, ?_, ?_, ?_⟩
    · exact b_next (b_next (b_next (below_alloc _ _) (below_alloc _ _)) (below_alloc _ _)) (below_alloc _ _)
    · exact (Below.heap_alloc _ _ _ (by simp only [World.size_alloc]; omega)).trans ((Below.heap_alloc _ _ _ (by simp only [World.size_alloc]; omega)).trans ((Below.heap_alloc _ _ _ (by simp only [World.size_alloc]; omega)).trans (World.alloc_heap_new _ _)))
    · have h := World.alloc_heap_new (w.alloc (.cells #[.slice (some ⟨g, 0, none⟩) C.length cap] 22)) (.cells (wayA Way.zero) 70)
      rw [World.size_alloc] at h
      exact (Below.heap_alloc _ _ _ (by simp only [World.size_alloc]; omega)).trans ((Below.heap_alloc _ _ _ (by simp only [World.size_alloc]; omega)).trans h)
    · have h := World.alloc_heap_new ((w.alloc (.cells #[.slice (some ⟨g, 0, none⟩) C.length cap] 22)).alloc (.cells (wayA Way.zero) 70)) (.cells #[.int .i64 1001] 3)
      rw [World.size_alloc, World.size_alloc] at h
      exact (Below.heap_alloc _ _ _ (by simp only [World.size_alloc]; omega)).trans h
  have hBe : W3.cell? ⟨w.heap.size + 1 + 1 + 1, 0, none⟩ = some (.slice (some ⟨g, 0, none⟩) C.length cap) := by
    rw [← hW3]
    rw [World.cell?_alloc_at _ _ _ _ (by simp only [World.size_alloc])]; rfl
  have HF0 : Hid (∀ pre X, NarI w g cap C pre X → TblF X g ra rc C) := fun pre X h => by
    have h0 := HFw.out
    exact h0.below h.below
  clear hW3
  refine range_visits_boxF (α := OkW C) rfl (by omega) (gf := 96) (lb := #[.pointer (some ⟨w.heap.size + 1 + 1 + 1, 0, none⟩)]) rfl trivial (enters_of Try.func96 (by kernel_rfl) rfl)
    (encs := fun x : OkW C => #[wayV x.1]) (T := w.heap.size + 3) (S := fun ys => valW ys = asgW C) (Sp := fun pre => valW pre <+: asgW C) (N := (asgW C).length) (by omega)
    (fun W hW => asg_visits C g cap ra rc HR.out _ (w.heap.size + 1 + 1 + 1) (w.heap.size + 3) W (by have := hW.size; omega) ((World.cell?_of_block (a := ⟨w.heap.size + 1 + 1 + 1, 0, none⟩) (hW.block _ (by show w.heap.size + 1 + 1 + 1 < W3.heap.size; omega) (by simp))).trans hBe)) (fun _ => rfl)
    (fun pre X => NarI w g cap C pre X) (fun _ _ _ => False) (bears_nar (by omega)) (fun _ _ _ _ _ h _ _ => h) HF0.out hI0
    (fun x => .cells (wayA x.1) 70)
    (fun x B => { tmps := #[.slice (some ⟨g, 0, none⟩) C.length cap, .pointer (some ⟨w.heap.size, 0, none⟩), .slice none 0 0, .int .i64 0, .slice none 0 0, .int .i64 0, .int .i64 (C.length : Int), .pointer (some ⟨w.heap.size + 1, 0, none⟩), .pointer (some ⟨w.heap.size + 1 + 1, 0, none⟩), .pointer (some ⟨B, 0, none⟩), undef, .slice (some ⟨g, 0, none⟩) C.length cap, .bool true, .bool false, .slice (some ⟨g, 0, none⟩) C.length cap, .int .i64 (C.length : Int), .slice (some ⟨g, 0, none⟩) C.length cap, .func (.func 96) #[] #[.pointer (some ⟨w.heap.size + 1 + 1 + 1, 0, none⟩)], wayV x.1, undef, undef, undef, undef, undef, undef, undef, undef, undef, undef, undef, undef, undef, undef, undef, undef], defers := [] }) ?assign ?body ?done ?stop
  case assign =>
    intro l x W K hK
    unfold wayV at hK ⊢
    unfold wayA at hK
    gi_wp2
    exact hK
  case body =>
    rintro l pre x B W hI hbx hB2 hlen
    obtain ⟨x, hx⟩ := x
    have hTF := HF0.out _ _ hI
    have hwd := widthOf_any C (some ⟨g, 0, none⟩) cap C.length x W HR.out rfl hx hTF.tbl
    have hin := width_in HR.out x C.length
    have hnl := narL_snoc C (valW pre) x
    unfold narStep at hnl
    obtain ⟨wd, hwde⟩ : ∃ z, widthTo C x C.length = z := ⟨_, rfl⟩
    rw [hwde] at hwd hnl hin
    obtain ⟨b1, b2, b3, b4⟩ := hI
    obtain ⟨⟨m, s⟩, hms⟩ : ∃ z, narL C (valW pre) = z := ⟨_, rfl⟩
    rw [hms] at b3 b4 hnl
    simp only at b3 b4 hnl hbx
    obtain ⟨a0, a1, a2, a3, a4, a5, a6, a7⟩ := at8_lit hbx
    have s0 : W.cell? ⟨w.heap.size, 0, none⟩ = some (.slice (some ⟨g, 0, none⟩) C.length cap) := by simp [World.cell?, b2]
    have hBw : w.heap.size + 4 ≤ B := by omega
    have HW0 := Lib.hid hwd
    have Hnl := Lib.hid hnl
    have Hb1 := Lib.hid b1
    have Hb2 := Lib.hid b2
    have Hb3 := Lib.hid b3
    have Hb4 := Lib.hid b4
    have Hbx := Lib.hid hbx
    have hWs : B < W.heap.size := (Array.getElem?_eq_some_iff.1 hbx).1
    unfold wayV at HW0
    clear hwd hnl b1 b2 b3 b4 hTF hwde hms hbx hI0 hBe
    unfold wayV
    gi_wp2_with fail
    refine ⟨trivial, ?_⟩
    refine (CallsIn.inRound _ (callsIn_wide.2 HW0.out)).mono ?_
    rintro e w5 ⟨rfl, z⟩
    have b3 := (z.block _ (by omega)).trans Hb3.out
    have b4 := (z.block _ (by omega)).trans Hb4.out
    have s4 : w5.cell? ⟨w.heap.size + 1 + 1, 0, none⟩ = some (.int .i64 s) := by simp [World.cell?, b4]
    have s5 : w5.frozen? ⟨w.heap.size + 1 + 1, 0, none⟩ = false := by simp [World.frozen?, b4]
    obtain ⟨a0, a1, a2, a3, a4, a5, a6, a7⟩ := at8_lit ((z.block _ hWs).trans Hbx.out)
    obtain ⟨f0, f1, f2, f3, f4, f5, f6, f7⟩ := frozen8 b3
    obtain ⟨k0, k1, k2, k3, k4, k5, k6, k7⟩ := at8_lit b3
    have Hb3' := Lib.hid b3
    have Hb4' := Lib.hid b4
    have Hz := Lib.hid z
    clear b3 b4 z
    by_cases hlt : wd < s
    · have hnl := Hnl.out
      rw [if_pos hlt] at hnl
      have HN := Lib.hid hnl
      clear hnl
      gi_wp2_with fail
      refine show KeepsAt _ _ _ ∧ NarI _ _ _ _ _ _ from ?_
      rw [store8 x Hb3'.out]
      have hg1 : w5.grownBy (w5.setRow (w.heap.size + 1) (wayA x)) (some (w.heap.size + 1)) := ⟨rfl, rfl, rfl, by rw [setRow_size]; exact Nat.le_refl _, fun i _ hi => setRow_other _ _ _ _ (fun e => hi (by rw [e]))⟩
      have hg2 := grownBy_set (w5.setRow (w.heap.size + 1) (wayA x)) (w.heap.size + 1 + 1) 0 (.int .i64 wd)
      have hb := (((b_next Hb1.out Hz.out).grown hg1 (by have := (b_next Hb1.out Hz.out).size; omega) (fun k e => by have := Option.some.inj e; omega)).grown hg2 (by rw [setRow_size]; have := (b_next Hb1.out Hz.out).size; omega) (fun k e => by have := Option.some.inj e; omega))
      refine ⟨(KeepsAt.of_grown (gr_of Hz.out none) (fun r e => by cases e)).trans ((KeepsAt.of_grown hg1 (fun r e => by have := Option.some.inj e; omega)).trans (KeepsAt.of_grown hg2 (fun r e => by have := Option.some.inj e; omega))), hb, ?_, ?_, ?_⟩
      · exact (Below.heap_setCell _ _ _ _ (by show w.heap.size ≠ w.heap.size + 1 + 1; omega)).trans ((setRow_other _ _ _ _ (by omega)).trans ((Hz.out.block _ (by omega)).trans Hb2.out))
      · rw [valW_snoc, HN.out]
        exact (Below.heap_setCell _ _ _ _ (by show w.heap.size + 1 ≠ w.heap.size + 1 + 1; omega)).trans (setRow_heap _ _ _ _ _ _ Hb3'.out)
      · rw [valW_snoc, HN.out]
        have h := block_set (X := w5.setRow (w.heap.size + 1) (wayA x)) (o := 0) (.int .i64 wd) ((setRow_other _ _ _ _ (by omega)).trans Hb4'.out)
        exact h
    · have hnl := Hnl.out
      rw [if_neg hlt] at hnl
      have HN := Lib.hid hnl
      clear hnl
      gi_wp2_with fail
      refine show KeepsAt _ _ _ ∧ NarI _ _ _ _ _ _ from ?_
      refine ⟨KeepsAt.of_grown (gr_of Hz.out none) (fun r e => by cases e), b_next Hb1.out Hz.out, (Hz.out.block _ (by omega)).trans Hb2.out, ?_, ?_⟩
      · rw [valW_snoc, HN.out]; exact Hb3'.out
      · rw [valW_snoc, HN.out]; exact Hb4'.out
  case stop =>
    rintro D c pre X hD hSp hF hDf
    exact hF.elim
  case done =>
    rintro D xs X hD hS hI hDf
    have hTF := HF0.out _ _ hI
    obtain ⟨b1, b2, b3, b4⟩ := hI
    rw [hS] at b3 b4
    have hin := narL_in HR.out (asgW C)
    have hnw : narL C (asgW C) = narW C := rfl
    rw [hnw] at b3 b4 hin
    obtain ⟨⟨m, s⟩, hms⟩ : ∃ z, narW C = z := ⟨_, rfl⟩
    rw [hms] at b3 b4 hin
    simp only at b3 b4 hin
    have Hms := Lib.hid hms
    clear hms
    have hn7 := HR.out.n7
    have hli := fun w' => list_any m C.length hn7 w'
    unfold wayV at hli
    have hbf := fun w' h => blockFor_any C (some ⟨g, 0, none⟩) cap C.length (s - 1) w' HR.out rfl h
    have i1 : IntKind.i64.wrap (s - 1) = s - 1 := IntWalk.i64_in _ (by omega)
    have s0 : X.cell? ⟨w.heap.size, 0, none⟩ = some (.slice (some ⟨g, 0, none⟩) C.length cap) := by simp [World.cell?, b2]
    have s4 : X.cell? ⟨w.heap.size + 1 + 1, 0, none⟩ = some (.int .i64 s) := by simp [World.cell?, b4]
    obtain ⟨a0, a1, a2, a3, a4, a5, a6, a7⟩ := at8_lit b3
    have HLi := Lib.hid hli
    have HBf := Lib.hid hbf
    have HB := Lib.hid b1
    have Hb2 := Lib.hid b2
    have Hb3 := Lib.hid b3
    have Hb4 := Lib.hid b4
    have HTF := Lib.hid hTF
    have HDf := Lib.hid hDf
    have hDl : D < X.heap.size := (Array.getElem?_eq_some_iff.1 hDf).1
    have l0 : w.heap.size + 1 + 1 < X.heap.size := (Array.getElem?_eq_some_iff.1 b4).1
    have hK : ∀ y, Below X.heap.size X y → y.cell? ⟨w.heap.size, 0, none⟩ = some (.slice (some ⟨g, 0, none⟩) C.length cap) ∧ y.cell? ⟨w.heap.size + 1 + 1, 0, none⟩ = some (.int .i64 s) ∧ y.cell? ⟨w.heap.size + 1, 0, none⟩ = some (.int .i64 m.a) ∧ y.cell? ⟨w.heap.size + 1, 1, none⟩ = some (.int .i64 m.b) ∧ y.cell? ⟨w.heap.size + 1, 2, none⟩ = some (.int .i64 m.c) ∧ y.cell? ⟨w.heap.size + 1, 3, none⟩ = some (.int .i64 m.d) ∧ y.cell? ⟨w.heap.size + 1, 4, none⟩ = some (.int .i64 m.e) ∧ y.cell? ⟨w.heap.size + 1, 5, none⟩ = some (.int .i64 m.f) ∧ y.cell? ⟨w.heap.size + 1, 6, none⟩ = some (.int .i64 m.g) ∧ y.cell? ⟨w.heap.size + 1, 7, none⟩ = some (.int .i64 m.t) := fun y hy => by
      have c2 := (hy.block _ (by omega)).trans Hb2.out
      have c3 := (hy.block _ (by omega)).trans Hb3.out
      have c4 := (hy.block _ (by omega)).trans Hb4.out
      obtain ⟨k0, k1, k2, k3, k4, k5, k6, k7⟩ := at8_lit c3
      exact ⟨by simp [World.cell?, c2], by simp [World.cell?, c4], k0, k1, k2, k3, k4, k5, k6, k7⟩
    have HK := Lib.hid hK
    clear hI0 hBe hli hbf b1 b2 b3 b4 hTF hDf HW1 hin hS hnw hK
    gi_wp2_with fail
    refine wpIn_wide.2 ?_
    go_region_held3 (fun w' => w'.cell? ⟨w.heap.size, 0, none⟩ = some (.slice (some ⟨g, 0, none⟩) C.length cap) ∧ w'.cell? ⟨w.heap.size + 1 + 1, 0, none⟩ = some (.int .i64 s) ∧ w'.cell? ⟨w.heap.size + 1, 0, none⟩ = some (.int .i64 m.a) ∧ w'.cell? ⟨w.heap.size + 1, 1, none⟩ = some (.int .i64 m.b) ∧ w'.cell? ⟨w.heap.size + 1, 2, none⟩ = some (.int .i64 m.c) ∧ w'.cell? ⟨w.heap.size + 1, 3, none⟩ = some (.int .i64 m.d) ∧ w'.cell? ⟨w.heap.size + 1, 4, none⟩ = some (.int .i64 m.e) ∧ w'.cell? ⟨w.heap.size + 1, 5, none⟩ = some (.int .i64 m.f) ∧ w'.cell? ⟨w.heap.size + 1, 6, none⟩ = some (.int .i64 m.g) ∧ w'.cell? ⟨w.heap.size + 1, 7, none⟩ = some (.int .i64 m.t))
      (first | exact ⟨s0, s4, a0, a1, a2, a3, a4, a5, a6, a7⟩ | exact HC1.out | exact HC2.out)
      (first
        | (go_at_call 56; refine (HLi.out _).mono ?_; rintro e y1 ⟨v1, rfl, o1, z1⟩; have zz := undrew1 z1; have HZ1 := Lib.hid zz; have HO1 := Lib.hid o1; have HC1 := Lib.hid (HK.out y1 zz); obtain ⟨s0, s4, a0, a1, a2, a3, a4, a5, a6, a7⟩ := HC1.out)
        | (go_at_call 78; refine (HBf.out _ (HTF.out.below HZ1.out).tbl).mono ?_; rintro e y2 ⟨v2, l2, rfl, o2, hres, z2⟩; have HZ2 := Lib.hid z2; have HO2 := Lib.hid o2; have HC2 := Lib.hid (HK.out y2 (b_next HZ1.out z2))))
    have HDf2 := (b_next HZ1.out HZ2.out).block D hDl |>.trans HDf.out
    gi_wp2_with fail
    refine leaves_one (by simp) (n₀ := w.heap.size) (Φ := fun Y => Y.ownsRow w.heap.size 3 1 v1 C.length (intL (m.holes.take C.length)) ∧ Y.ownsRow w.heap.size 3 1 v2 l2.length (intL l2) ∧ Below w.heap.size w Y) ?_ ?_ D _ (by omega) HDf2 ⟨?_, ?_, ?_⟩
    · rintro Y D' ⟨k1, k2, k3⟩ hD' hd
      exact ⟨own_kept k1 hd, own_kept k2 hd, k3.grown (grownBy_putObj' Y D' _) k3.size (fun q e => by cases e; omega)⟩
    · rintro Y ⟨k1, k2, k3⟩
      refine ⟨.tuple #[v1, .int .i64 s, v2, .int .i64 0], ?_, v1, v2, l2, by rw [Hms.out], by rw [Hms.out]; exact k1, k2, by rw [Hms.out]; exact hres, k3⟩
      simp [results, Try.f43, go_sem]
    · exact own_gr (own_base HO1.out (by have := HB.out.size; exact this)) HZ2.out
    · exact own_base HO2.out (Nat.le_trans HB.out.size HZ1.out.size)
    · exact b_next HB.out (b_next HZ1.out HZ2.out)
end Go.Proofs.Ytambhhjbafefgaa
