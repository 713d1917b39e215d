/- A range over a function that goes through a map: the iterator changes what is no row of cells, the round changes cells alone, and lays a box for what it is handed. -/
import Derived.Test.YtelipknnfagnjaaOwnr
import Derived.RangeFuncSeq
namespace Go.Proofs.Ytelipknnfagnjaa
set_option linter.unusedVariables false
open Go.RowKit

/-- what is no row of cells lies as it lay -/
structure KeepsN (W W' : World) : Prop where
  size : W.heap.size ≤ W'.heap.size
  same : ∀ (k : Nat) (o : Obj), o.isCells = false → W.heap[k]? = some o → W'.heap[k]? = some o
theorem KeepsN.refl (W : World) : KeepsN W W := ⟨Nat.le_refl _, fun _ _ _ h => h⟩
theorem KeepsN.trans {A B C : World} (h : KeepsN A B) (k : KeepsN B C) : KeepsN A C := ⟨Nat.le_trans h.size k.size, fun i o hi ho => k.same i o hi (h.same i o hi ho)⟩
theorem walk_not_cells {o : Obj} (h : o.isWalk = true) : o.isCells = false := by cases o <;> simp_all [Obj.isWalk, Obj.isCells]
theorem KeepsN.walks {W W' : World} (h : KeepsN W W') : KeepsWalks W W' := ⟨h.size, fun k o ho hw => h.same k o (walk_not_cells hw) ho⟩
theorem KeepsN.of_grown {W W' : World} {row : Option Nat} (h : W.grownBy W' row) (hr : ∀ r, row = some r → ∃ o : Obj, W.heap[r]? = some o ∧ o.isCells = true) : KeepsN W W' :=
  ⟨h.size, fun k o hk ho => (h.block k (Array.getElem?_eq_some_iff.1 ho).1 (fun e => by obtain ⟨o', h1, h2⟩ := hr k e.symm; rw [ho] at h1; cases h1; rw [hk] at h2; cases h2)).trans ho⟩

/-- it bears new blocks, and what an iterator does from B on -/
def BearsW {β : Type} (B : Nat) (J : β → World → Prop) : Prop :=
  ∀ s W W' row, J s W → W.grownBy W' row → (∀ r, row = some r → B ≤ r ∧ ∃ o : Obj, W.heap[r]? = some o ∧ o.isCells = false) → J s W'
theorem BearsW.put {β : Type} {B : Nat} {J : β → World → Prop} (h : BearsW B J) {s : β} {W : World} {l : Nat} {o0 : Obj} (o : Obj) (hs : J s W) (hl : B ≤ l) (h0 : W.heap[l]? = some o0) (hc : o0.isCells = false) : J s (W.putObj l o) :=
  h s W _ (some l) hs (grownBy_putObj' W l o) (fun r e => by cases e; exact ⟨hl, o0, h0, hc⟩)
theorem BearsW.new {β : Type} {B : Nat} {J : β → World → Prop} (h : BearsW B J) {s : β} {W : World} (o : Obj) (hs : J s W) : J s (W.alloc o) :=
  h s W _ none hs (World.grownBy_alloc W o none) (fun r e => by cases e)

/-- an iterator that calls yield for what S says -/
def VisitsW {α : Type} (F : Fence) (n : Nat) (P : Program) (gf : Nat) (lb : Array Value) (encs : α → Array Value) (S : List α → Prop) (N : Nat) (W : World) : Prop :=
  ∀ (l : Nat) (J : List α → World → Prop), BearsW W.heap.size J →
    (∀ pre x X, J pre X → pre.length < N → YieldAt F (n - 1) P l (encs x) X fun e X' => e = .returned (.bool true) ∧ J (pre ++ [x]) X' ∧ KeepsN X X') →
    J [] W → CallsIn F n P gf (#[.func (.yield l) #[] #[]] ++ lb) W fun e W' => (∃ v, e = .returned v) ∧ ∃ xs, S xs ∧ J xs W'

/-- how a round ends: at its end -/
def roundN {α : Type} (I : List α → World → Prop) (xs : List α) (W : World) : Exit → Act → World → Prop
  | .normal, _, W' => KeepsN W W' ∧ I xs W'
  | _, _, _ => False

variable {F : Fence} {n : Nat} {P : Program}

theorem range_visits_w {α : Type} {g : Operand} {ps : Array Tmp} {assign body : Code} {Q : Exit → Act → World → Prop} {a : Act} {w : World}
    (hro : F.round = none) (h1 : 1 ≤ n) {gf : Nat} {lb : Array Value} (hg : a.eval g = .func (.func gf) #[] lb) (hFg : F.fn gf) (eg : ∀ args w, (callFunc gf args).run P w = .ok (.enter gf args) w)
    {encs : α → Array Value} {S : List α → Prop} {N : Nat} (hseq : ∀ W, w.grownBy W none → VisitsW F (n - 1) P gf lb encs S N W) (hps : ∀ x, (encs x).size = ps.size)
    (I : List α → World → Prop) (hI : BearsW w.heap.size I) (h0 : I [] w) (ob : α → Obj) (a₁ : α → Nat → Act)
    (hassign : ∀ (l : Nat) (x : α) (W : World) (K : Act → World → Prop), K (a₁ x W.heap.size) (W.alloc (ob x)) →
      assign.wpIn (F.inRound l) (n - 1 - 1) P (Exit.then K (fun _ _ _ => False)) { tmps := (ps.zip (encs x)).foldl (fun t (p, v) => t.setIfInBounds p v) a.tmps, defers := [] } W)
    (hbody : ∀ (l : Nat) (pre : List α) (x : α) (B : Nat) (W : World), I pre W → W.heap[B]? = some (ob x) → w.heap.size ≤ B → pre.length < N → body.wpIn (F.inRound l) (n - 1 - 1) P (roundN I (pre ++ [x]) W) (a₁ x B) W)
    (hdone : ∀ (D : Nat) (xs : List α) (W : World), w.heap.size ≤ D → S xs → I xs W → W.heap[D]? = some (.deferred (some [])) → Q .normal { a with defers := { target := .collected D, args := #[] } :: a.defers } W) :
    (Code.rangeFunc g ps assign body).wpIn F n P Q a w := by
  refine wpIn_rangeFunc (fun fn hfn => ?_)
  rw [hro]
  obtain ⟨D, hD⟩ : ∃ D, w.heap.size = D := ⟨_, rfl⟩
  obtain ⟨rec, hrec⟩ : ∃ rec : LoopState → Option Code → Loop, rec = fun st jump => { state := st, pending := jump, fn, tmps := a.tmps, params := ps, assign, body, defers := D } := ⟨_, rfl⟩
  obtain ⟨V, hV⟩ : ∃ V, (w.alloc (.deferred (some []))).alloc (.loop (rec .ready none)) = V := ⟨_, rfl⟩
  have vs : V.heap.size = D + 1 + 1 := by rw [← hV, ← hD]; simp
  have vL : V.heap[D + 1]? = some (.loop (rec .ready none)) := by
    rw [← hV, ← hD]; have h := World.alloc_heap_new (w.alloc (.deferred (some []))) (.loop (rec .ready none)); rwa [World.size_alloc] at h
  have vD : V.heap[D]? = some (.deferred (some [])) := by
    rw [← hV, ← hD]; exact (Below.heap_alloc _ _ _ (by simp)).trans (World.alloc_heap_new w _)
  have vg : w.grownBy V none := by
    rw [← hV]
    have k1 := World.grownBy_alloc w (.deferred (some [])) none
    have k2 := World.grownBy_alloc (w.alloc (.deferred (some []))) (.loop (rec .ready none)) none
    exact k1.trans k2
  have vI : I [] V := by rw [← hV]; exact hI.new _ (hI.new _ h0)
  rw [hD] at hI
  let J : List α → World → Prop := fun pre W => I pre W ∧ W.heap[D + 1]? = some (.loop (rec .ready none)) ∧ W.heap[D]? = some (.deferred (some []))
  have far : ∀ {A B : World} {row : Option Nat} {k : Nat} {o : Obj}, k < V.heap.size → A.grownBy B row → (∀ r, row = some r → V.heap.size ≤ r) → A.heap[k]? = some o → B.heap[k]? = some o := fun hk hg hr ho =>
    (hg.block _ (Array.getElem?_eq_some_iff.1 ho).1 (fun e => by have := hr _ e.symm; omega)).trans ho
  have bJ : BearsW V.heap.size J := fun s A B row hs hg' hr => ⟨hI s A B row hs.1 hg' (fun r e => ⟨by have := (hr r e).1; omega, (hr r e).2⟩), far (by omega) hg' (fun r e => (hr r e).1) hs.2.1, far (by omega) hg' (fun r e => (hr r e).1) hs.2.2⟩
  refine ⟨D + 1, [{ target := .collected D, args := #[] }], V, { target := .fn (.func gf) lb, args := #[.func (.yield (D + 1)) #[] #[]] }, V, gf, #[.func (.yield (D + 1)) #[] #[]] ++ lb, V, ?_, ?_, ?_, ?_, fun _ => h1, ?_⟩
  · rw [← hV, hrec, ← hD]; exact run_enterLoop_outer _ _ _ _ _
  · simp only [resolve, hg]; simp [go_sem]
  · intro f hf; simp [Target.leads] at hf; subst hf; exact hFg
  · simp [invoke, go_sem, eg]
  refine (hseq V vg (D + 1) J bJ ?_ ⟨vI, vL, vD⟩).mono ?_
  · rintro pre x W ⟨hi, hl, hk⟩ hlen
    have hlt : D + 1 < W.heap.size := (Array.getElem?_eq_some_iff.1 hl).1
    have hy := run_yield (P := P) (args := encs x) hl (by rw [hrec]; exact hps x)
    rw [hrec] at hy
    refine ⟨fn, _, assign, body, hy, roundIn_of_wpIn hfn (hassign _ x W _ ⟨_, run_beginRound ((Below.heap_alloc W (ob x) (D + 1) hlt).trans hl) (by rw [hrec]), ?_⟩)⟩
    obtain ⟨W2, hW2⟩ : ∃ W2, (W.alloc (ob x)).putObj (D + 1) (.loop { rec .ready none with state := .busy }) = W2 := ⟨_, rfl⟩
    have l2 : W2.heap[D + 1]? = some (.loop { rec .ready none with state := .busy }) := by rw [← hW2]; exact World.putObj_heap_same (by simp; omega)
    have k2 : W2.heap[D]? = some (.deferred (some [])) := by rw [← hW2]; exact (World.putObj_heap_other (by omega)).trans ((Below.heap_alloc W (ob x) D (by omega)).trans hk)
    have i2 : I pre W2 := by rw [← hW2]; exact hI.put _ (hI.new _ hi) (by omega) ((Below.heap_alloc W (ob x) (D + 1) hlt).trans hl) rfl
    have oth2 : ∀ k, k ≠ D + 1 → k < W.heap.size → W2.heap[k]? = W.heap[k]? := fun k hne hk => by rw [← hW2]; exact (World.putObj_heap_other hne).trans (Below.heap_alloc W (ob x) k hk)
    have s2 : W2.heap.size = W.heap.size + 1 := by rw [← hW2]; simp
    have x2 : W2.heap[W.heap.size]? = some (ob x) := by rw [← hW2]; exact (World.putObj_heap_other (by omega)).trans (World.alloc_heap_new W (ob x))
    rw [hW2]
    refine wpIn_mono (hbody _ pre x W.heap.size W2 i2 x2 (by omega) hlen) ?_
    intro e a3 W3 hp
    cases e with
    | normal =>
      obtain ⟨hk3, hi3⟩ := hp
      have hl3 := hk3.same _ _ rfl l2
      have hrun := run_endRound (P := P) none hl3
      rw [hrec] at hrun
      refine ⟨_, _, hrun, rfl, ⟨hI.put _ hi3 (by omega) hl3 rfl, by rw [hrec]; exact World.putObj_heap_same (Array.getElem?_eq_some_iff.1 hl3).1, (World.putObj_heap_other (by omega)).trans (hk3.same _ _ rfl k2)⟩, ?_⟩
      refine ⟨by have := hk3.size; simp; omega, fun k o hT' ho => ?_⟩
      by_cases hkl : k = D + 1
      · subst hkl
        rw [hl] at ho
        cases ho
        rw [hrec]
        exact World.putObj_heap_same (Array.getElem?_eq_some_iff.1 hl3).1
      · exact (World.putObj_heap_other hkl).trans (hk3.same k o hT' ((oth2 k hkl (Array.getElem?_eq_some_iff.1 ho).1).trans ho))
    | ret => exact hp.elim
    | exit i => exact hp.elim
    | goto t => exact hp.elim
    | panic c => exact hp.elim
    | outgrown => exact hp.elim
  · rintro e W2 ⟨⟨v, rfl⟩, xs, hS, hi, hl, hk⟩
    have hend := run_endLoop (P := P) hl (by rw [hrec]; simp)
    rw [hrec] at hend
    exact ⟨none, _, hend, hdone D xs _ (by omega) hS (hI.put _ hi (by omega) hl rfl) ((World.putObj_heap_other (by omega)).trans hk)⟩
end Go.Proofs.Ytelipknnfagnjaa
