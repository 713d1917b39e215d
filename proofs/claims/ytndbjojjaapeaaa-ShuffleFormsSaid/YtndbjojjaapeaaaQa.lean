/- Texts, joined: Base, Ownr, Ownk, Back, Poly, Simple, Ownb, Rinv, Marks. -/
import Derived.Test.YtndbjojjaapeaaaRows
import Derived.Test.YtndbjojjaapeaaaShelf
import Derived.WalkKit
import Derived.WalkSpells
import Derived.WalkLawsBesides
import Derived.Deep.QuietTactic
import Derived.BigQuiet
import Derived.Handy
import Derived.Lib.Hide
import Derived.Laws.OwnMore
import Derived.Laws.EntriesVeiled
import Derived.Maps.AppendAt
import Derived.Deep.RegionHeld3
import Derived.Deep.RegionWith
import Derived.StillTailTactics
import Derived.Outline
import Derived.RangeFuncNested
import Derived.RangeFuncBound
import Derived.RangeFuncCalls
import Derived.RangeFuncLeaves
import Derived.RangeFuncBox
import Derived.RangeFuncFrom
import Derived.Shelf.Abstract
import Derived.Shelf.RegionOpen
import Derived.OwnWalkIn
import Derived.TacticsInMore
import Derived.LoopNIn
import Derived.LoopIn
import Derived.OrdersIn
/- Words that the texts share: rows of numbers, tables, aggregates in memory. -/
namespace Go.Proofs.Ytndbjojjaapeaaa
set_option linter.unusedVariables false
open Go.RowKit

theorem ret_int {k : IntKind} {a b : Int} (h : a = b) : Ending.returned (.int k a) = .returned (.int k b) := by rw [h]
theorem ret_bool {a b : Bool} (h : a = b) : Ending.returned (.bool a) = .returned (.bool b) := by rw [h]
theorem b_next {w a b : World} (h : Below w.heap.size w a) (k : Below a.heap.size a b) : Below w.heap.size w b := h.trans (k.mono h.size)
theorem below_drewN {B : Nat} {a w : World} (h : Below B a w) (n : Nat) : Below B a (w.drewN n) := h.trans ⟨rfl, rfl, rfl, Nat.le_refl _, fun _ _ => rfl⟩
theorem below_alloc (w : World) (o : Obj) : Below w.heap.size w (w.alloc o) := (Below.refl _ _).alloc (Nat.le_refl _) _
theorem info_int : (Try.prog.info? 3).map (fun i => (i.zero, i.size, i.bytes)) = some (some (.int .i64 0), 1, 8) := by kernel_rfl
theorem info_ints : (Try.prog.info? 22).map (fun i => (i.zero, i.size, i.bytes)) = some (some (.slice none 0 0), 1, 24) := by kernel_rfl

theorem ownsRow_open {w : World} {base n : Nat} {e : TypeId} {v : Value} {xs : List Value} (h : w.ownsRow base e 1 v n xs) :
    ∃ a cap, v = .slice a n cap ∧ xs.length = n ∧ (0 < n → ∃ g, a = some ⟨g, 0, none⟩ ∧ base ≤ g ∧ g < w.heap.size ∧ ∀ j u, xs[j]? = some u → w.cell? ⟨g, j, none⟩ = some u) := by
  have hlen := h.1
  have hcells := fun g (hg : v.ownBlock = some g) => h.cells hg
  rcases h.2 with ⟨rfl, rfl⟩ | ⟨g, cap, cur, rfl, hb, hg, _⟩
  · exact ⟨none, 0, rfl, by omega, fun h => absurd h (by omega)⟩
  · refine ⟨_, cap, rfl, by omega, fun _ => ⟨g, rfl, hb, (Array.getElem?_eq_some_iff.1 hg).1, fun j u hu => ?_⟩⟩
    have := hcells g rfl j u hu
    rwa [show ((⟨g, 0, none⟩ : Addr).add j) = ⟨g, j, none⟩ from by unfold Addr.add; split <;> simp_all] at this

/-- the slice at a holds the values vs -/
def Row (w : World) (a : Option Addr) (n : Nat) (vs : List Value) : Prop :=
  vs.length = n ∧ (0 < n → ∃ g, a = some ⟨g, 0, none⟩ ∧ g < w.heap.size ∧ ∀ j u, vs[j]? = some u → w.cell? ⟨g, j, none⟩ = some u)
theorem Row.of_own {w : World} {base n : Nat} {e : TypeId} {v : Value} {xs : List Value} (h : w.ownsRow base e 1 v n xs) : ∃ a cap, v = .slice a n cap ∧ Row w a n xs := by
  obtain ⟨a, cap, hv, hl, hc⟩ := ownsRow_open h
  exact ⟨a, cap, hv, hl, fun hn => by obtain ⟨g, h1, _, h3, h4⟩ := hc hn; exact ⟨g, h1, h3, h4⟩⟩
theorem Row.below {w w' : World} {a : Option Addr} {n : Nat} {vs : List Value} (h : Row w a n vs) (hb : Below w.heap.size w w') : Row w' a n vs :=
  ⟨h.1, fun hn => by obtain ⟨g, h1, h3, h4⟩ := h.2 hn; exact ⟨g, h1, Nat.lt_of_lt_of_le h3 hb.size, fun j u hu => (hb.cell (p := ⟨g, j, none⟩) h3).trans (h4 j u hu)⟩⟩
theorem Row.drewN {w : World} {a : Option Addr} {n : Nat} {vs : List Value} (h : Row w a n vs) (q : Nat) : Row (w.drewN q) a n vs := h
theorem Row.built {w : World} (t : TypeId) (vs : List Value) : Row (w.alloc (.cells vs.toArray t)) (some ⟨w.heap.size, 0, none⟩) vs.length vs :=
  ⟨rfl, fun _ => ⟨_, rfl, by simp, fun j u hu => by rw [World.cell?_alloc_at _ _ _ _ rfl]; simpa using hu⟩⟩
def intL (xs : List Int) : List Value := xs.map (Value.int .i64)
theorem intL_length (xs : List Int) : (intL xs).length = xs.length := List.length_map _
theorem intL_get {xs : List Int} {k : Nat} {x : Int} (h : xs[k]? = some x) : (intL xs)[k]? = some (.int .i64 x) := by simp [intL, h]
theorem Row.int {w : World} {a : Option Addr} {n k : Nat} {xs : List Int} (h : Row w a n (intL xs)) (hk : k < n) : ∃ g, a = some ⟨g, 0, none⟩ ∧ w.cell? ⟨g, k, none⟩ = some (.int .i64 (xs.getD k 0)) := by
  obtain ⟨g, rfl, _, hc⟩ := h.2 (by omega)
  have hl : k < xs.length := by have := h.1; rw [intL_length] at this; omega
  exact ⟨g, rfl, hc k _ (intL_get (by rw [List.getD_eq_getElem?_getD, List.getElem?_eq_getElem hl]; rfl))⟩
theorem rel_push {w wr wx w1 : World} {base : Nat} {e : TypeId} {v : Value} {k size : Nat} {xs : List Value} (hB : Below base w wr) (hb : base ≤ wx.heap.size) (hx : Below base wr wx) (hown : wr.ownsRow base e size v k xs)
    (hg : wx.grownBy w1 v.ownBlock) : Below base w w1 :=
  (hB.trans hx).grown hg hb (fun j hj => (hown.lt j hj).1)

/-- the table at a holds the rows of C -/
def Tbl (w : World) (a : Option Addr) (C : List (List Int)) : Prop :=
  0 < C.length → ∃ g, a = some ⟨g, 0, none⟩ ∧ g < w.heap.size ∧ ∀ i row, C[i]? = some row → ∃ ra rc, w.cell? ⟨g, i, none⟩ = some (.slice ra row.length rc) ∧ row.length ≤ rc ∧ Row w ra row.length (intL row)
theorem Tbl.below {w w' : World} {a : Option Addr} {C : List (List Int)} (h : Tbl w a C) (hb : Below w.heap.size w w') : Tbl w' a C := fun hn => by
  obtain ⟨g, h1, h2, h3⟩ := h hn
  refine ⟨g, h1, Nat.lt_of_lt_of_le h2 hb.size, fun i row hi => ?_⟩
  obtain ⟨ra, rc, c1, c2, c3⟩ := h3 i row hi
  exact ⟨ra, rc, (hb.cell (p := ⟨g, i, none⟩) h2).trans c1, c2, c3.below hb⟩
theorem Tbl.drewN {w : World} {a : Option Addr} {C : List (List Int)} (h : Tbl w a C) (q : Nat) : Tbl (w.drewN q) a C := h
theorem Tbl.row {w : World} {a : Option Addr} {C : List (List Int)} (h : Tbl w a C) {i : Nat} {row : List Int} (hi : C[i]? = some row) :
    ∃ g ra rc, a = some ⟨g, 0, none⟩ ∧ g < w.heap.size ∧ w.cell? ⟨g, i, none⟩ = some (.slice ra row.length rc) ∧ row.length ≤ rc ∧ Row w ra row.length (intL row) := by
  obtain ⟨g, h1, h2, h3⟩ := h (by obtain ⟨h, _⟩ := List.getElem?_eq_some_iff.1 hi; omega)
  obtain ⟨ra, rc, c⟩ := h3 i row hi
  exact ⟨g, ra, rc, h1, h2, c⟩

/-- costs -/
def rowB (n : Nat) (row : List Int) : Bool := decide (row.length = n ∧ ∀ x ∈ row, -1000 ≤ x ∧ x ≤ 1000)
def costsB (C : List (List Int)) : Bool := decide (1 ≤ C.length ∧ C.length ≤ 7) && C.all (rowB C.length)
/-- the cost of the pair i, j -/
def cost (C : List (List Int)) (i j : Nat) : Int := (C.getD i []).getD j 0
end Go.Proofs.Ytndbjojjaapeaaa

/- A range over a function whose iterator writes variables of its own: what the caller's loop keeps, and a law for it. -/
namespace Go.Proofs.Ytndbjojjaapeaaa
set_option linter.unusedVariables false
open Go.RowKit

/-- whatever lies from T on lies as it lay -/
structure KeepsAt (T : Nat) (W W' : World) : Prop where
  size : W.heap.size ≤ W'.heap.size
  same : ∀ (k : Nat) (o : Obj), T ≤ k → W.heap[k]? = some o → W'.heap[k]? = some o
theorem KeepsAt.refl (T : Nat) (W : World) : KeepsAt T W W := ⟨Nat.le_refl _, fun _ _ _ h => h⟩
theorem KeepsAt.trans {T : Nat} {A B C : World} (h : KeepsAt T A B) (k : KeepsAt T B C) : KeepsAt T A C := ⟨Nat.le_trans h.size k.size, fun i o hi ho => k.same i o hi (h.same i o hi ho)⟩
theorem KeepsAt.of_grown {T : Nat} {W W' : World} {row : Option Nat} (h : W.grownBy W' row) (hr : ∀ r, row = some r → r < T) : KeepsAt T W W' :=
  ⟨h.size, fun k o hk ho => (h.block k (Array.getElem?_eq_some_iff.1 ho).1 (fun e => by have := hr k e.symm; omega)).trans ho⟩
theorem KeepsAt.block {T : Nat} {W W' : World} (h : KeepsAt T W W') {k : Nat} {o : Obj} (hk : T ≤ k) (ho : W.heap[k]? = some o) : W'.heap[k]? = some o := h.same k o hk ho

/-- it bears new blocks, and whatever happens to blocks from B on -/
def Bears {β : Type} (B : Nat) (J : β → World → Prop) : Prop :=
  ∀ s W W' row, J s W → W.grownBy W' row → (∀ r, row = some r → B ≤ r) → J s W'
theorem Bears.put {β : Type} {B : Nat} {J : β → World → Prop} (h : Bears B J) {s : β} {W : World} {l : Nat} (o : Obj) (hs : J s W) (hl : B ≤ l) : J s (W.putObj l o) :=
  h s W _ (some l) hs (grownBy_putObj' W l o) (fun r e => by cases e; exact hl)
theorem Bears.new {β : Type} {B : Nat} {J : β → World → Prop} (h : Bears B J) {s : β} {W : World} (o : Obj) (hs : J s W) : J s (W.alloc o) :=
  h s W _ none hs (World.grownBy_alloc W o none) (fun r e => by cases e)
theorem Bears.and {β : Type} {B : Nat} {I J : β → World → Prop} (h : Bears B I) (k : Bears B J) : Bears B (fun s W => I s W ∧ J s W) := fun s W W' row hs hg hr => ⟨h s W W' row hs.1 hg hr, k s W W' row hs.2 hg hr⟩
theorem bears_pure {β : Type} (B : Nat) (p : β → Prop) : Bears B (fun s (_ : World) => p s) := fun _ _ _ _ hs _ _ => hs
theorem bears_below {β : Type} {m B : Nat} {w : World} (h : m ≤ B) (hw : m ≤ w.heap.size) : Bears B (fun (_ : β) W => Below m w W) := fun s W W' row hs hg hr =>
  hs.grown hg (Nat.le_trans hw hs.size) (fun k e => Nat.le_trans h (hr k e))
theorem bears_box {β : Type} {b B : Nat} (h : b < B) (t : TypeId) (f : β → Value) : Bears B (fun s W => Boxed W b t (f s)) := fun s W W' row hs hg hr =>
  hs.kept hg (fun e => by have := hr b e.symm; omega)

/-- an iterator that calls yield for what S says, or for a part of it -/
def Visits {α : Type} (F : Fence) (n : Nat) (P : Program) (gf : Nat) (lb : Array Value) (encs : α → Array Value) (T : Nat) (S Sp : List α → Prop) (N : Nat) (W : World) : Prop :=
  ∀ (l : Nat) (J Jx : List α → World → Prop), Bears W.heap.size J → Bears W.heap.size Jx →
    (∀ pre x X, J pre X → pre.length < N → YieldAt F (n - 1) P l (encs x) X fun e X' =>
      (e = .returned (.bool true) ∧ J (pre ++ [x]) X' ∧ KeepsAt T X X') ∨ (e = .returned (.bool false) ∧ Jx (pre ++ [x]) X')) →
    J [] W → CallsIn F n P gf (#[.func (.yield l) #[] #[]] ++ lb) W fun e W' => (∃ v, e = .returned v) ∧ ((∃ xs, S xs ∧ J xs W') ∨ (∃ pre, Sp pre ∧ Jx pre W'))

/-- how a round may end -/
def roundEnds {α : Type} (T : Nat) (I : List α → World → Prop) (Ix : Code → List α → World → Prop) (xs : List α) (W : World) : Exit → Act → World → Prop
  | .normal, _, W' => KeepsAt T W W' ∧ I xs W'
  | .ret, _, W' => KeepsAt T W W' ∧ Ix .ret xs W'
  | .exit i, _, W' => KeepsAt T W W' ∧ Ix (.exit i) xs W'
  | .goto t, _, W' => KeepsAt T W W' ∧ Ix (.goto t) xs W'
  | _, _, _ => False

variable {F : Fence} {n : Nat} {P : Program}

theorem range_visits {α : Type} {g : Operand} {ps : Array Tmp} {assign body : Code} {Q : Exit → Act → World → Prop} {a : Act} {w : World}
    (hro : F.round = none) (h1 : 1 ≤ n) {gf : Nat} {lb : Array Value} (hg : a.eval g = .func (.func gf) #[] lb) (hFg : F.fn gf) (eg : ∀ args w, (callFunc gf args).run P w = .ok (.enter gf args) w)
    {encs : α → Array Value} {T : Nat} {S Sp : List α → Prop} {N : Nat} (hT : T ≤ w.heap.size) (hseq : ∀ W, w.grownBy W none → Visits F (n - 1) P gf lb encs T S Sp N W) (hps : ∀ x, (encs x).size = ps.size)
    (I : List α → World → Prop) (Ix : Code → List α → World → Prop) (hI : Bears w.heap.size I) (hIx : ∀ c, Bears w.heap.size (Ix c)) (h0 : I [] w) (a₁ : α → Act)
    (hassign : ∀ (l : Nat) (x : α) (W : World) (K : Act → World → Prop), K (a₁ x) W →
      assign.wpIn (F.inRound l) (n - 1 - 1) P (Exit.then K (fun _ _ _ => False)) { tmps := (ps.zip (encs x)).foldl (fun t (p, v) => t.setIfInBounds p v) a.tmps, defers := [] } W)
    (hbody : ∀ (l : Nat) (pre : List α) (x : α) (W : World), I pre W → pre.length < N → body.wpIn (F.inRound l) (n - 1 - 1) P (roundEnds T I Ix (pre ++ [x]) W) (a₁ x) W)
    (hdone : ∀ (D : Nat) (xs : List α) (W : World), w.heap.size ≤ D → S xs → I xs W → W.heap[D]? = some (.deferred (some [])) → Q .normal { a with defers := { target := .collected D, args := #[] } :: a.defers } W)
    (hstop : ∀ (D : Nat) (c : Code) (pre : List α) (W : World), w.heap.size ≤ D → Sp pre → Ix c pre W → W.heap[D]? = some (.deferred (some [])) → c.wpIn F n P Q { a with defers := { target := .collected D, args := #[] } :: a.defers } W) :
    (Code.rangeFunc g ps assign body).wpIn F n P Q a w := by
  refine wpIn_rangeFunc (fun fn hfn => ?_)
  rw [hro]
  -- the two blocks of the loop: D for the deferred calls, L for its record
  obtain ⟨D, hD⟩ : ∃ D, w.heap.size = D := ⟨_, rfl⟩
  obtain ⟨rec, hrec⟩ : ∃ rec : LoopState → Option Code → Loop, rec = fun st jump => { state := st, pending := jump, fn, tmps := a.tmps, params := ps, assign, body, defers := D } := ⟨_, rfl⟩
  obtain ⟨V, hV⟩ : ∃ V, (w.alloc (.deferred (some []))).alloc (.loop (rec .ready none)) = V := ⟨_, rfl⟩
  have vs : V.heap.size = D + 1 + 1 := by rw [← hV, ← hD]; simp
  have vL : V.heap[D + 1]? = some (.loop (rec .ready none)) := by
    rw [← hV, ← hD]; have h := World.alloc_heap_new (w.alloc (.deferred (some []))) (.loop (rec .ready none)); rwa [World.size_alloc] at h
  have vD : V.heap[D]? = some (.deferred (some [])) := by
    rw [← hV, ← hD]; exact (Below.heap_alloc _ _ _ (by simp)).trans (World.alloc_heap_new w _)
  have vg : w.grownBy V none := by
    rw [← hV]
    have k1 := World.grownBy_alloc w (.deferred (some [])) none
    have k2 := World.grownBy_alloc (w.alloc (.deferred (some []))) (.loop (rec .ready none)) none
    exact k1.trans k2
  have vI : I [] V := by rw [← hV]; exact hI.new _ (hI.new _ h0)
  rw [hD] at hI hIx hT
  -- what holds between two rounds, and behind the last one
  let J : List α → World → Prop := fun pre W => I pre W ∧ W.heap[D + 1]? = some (.loop (rec .ready none)) ∧ W.heap[D]? = some (.deferred (some []))
  let Jx : List α → World → Prop := fun pre W => ∃ c, Ix c pre W ∧ W.heap[D + 1]? = some (.loop (rec .done (some c))) ∧ W.heap[D]? = some (.deferred (some []))
  have far : ∀ {A B : World} {row : Option Nat} {k : Nat} {o : Obj}, k < V.heap.size → A.grownBy B row → (∀ r, row = some r → V.heap.size ≤ r) → A.heap[k]? = some o → B.heap[k]? = some o := fun hk hg hr ho =>
    (hg.block _ (Array.getElem?_eq_some_iff.1 ho).1 (fun e => by have := hr _ e.symm; omega)).trans ho
  have bJ : Bears V.heap.size J := fun s A B row hs hg' hr => ⟨hI s A B row hs.1 hg' (fun r e => by have := hr r e; omega), far (by omega) hg' hr hs.2.1, far (by omega) hg' hr hs.2.2⟩
  have bJx : Bears V.heap.size Jx := fun s A B row ⟨c, hc, hl, hk⟩ hg' hr => ⟨c, hIx c s A B row hc hg' (fun r e => by have := hr r e; omega), far (by omega) hg' hr hl, far (by omega) hg' hr hk⟩
  refine ⟨D + 1, [{ target := .collected D, args := #[] }], V, { target := .fn (.func gf) lb, args := #[.func (.yield (D + 1)) #[] #[]] }, V, gf, #[.func (.yield (D + 1)) #[] #[]] ++ lb, V, ?_, ?_, ?_, ?_, fun _ => h1, ?_⟩
  · rw [← hV, hrec, ← hD]; exact run_enterLoop_outer _ _ _ _ _
  · simp only [resolve, hg]; simp [go_sem]
  · intro f hf; simp [Target.leads] at hf; subst hf; exact hFg
  · simp [invoke, go_sem, eg]
  refine (hseq V vg (D + 1) J Jx bJ bJx ?_ ⟨vI, vL, vD⟩).mono ?_
  · rintro pre x W ⟨hi, hl, hk⟩ hlen
    have hlt : D + 1 < W.heap.size := (Array.getElem?_eq_some_iff.1 hl).1
    have hy := run_yield (P := P) (args := encs x) hl (by rw [hrec]; exact hps x)
    rw [hrec] at hy
    refine ⟨fn, _, assign, body, hy, roundIn_of_wpIn hfn (hassign _ x W _ ⟨_, run_beginRound hl (by rw [hrec]), ?_⟩)⟩
    obtain ⟨W2, hW2⟩ : ∃ W2, W.putObj (D + 1) (.loop { rec .ready none with state := .busy }) = W2 := ⟨_, rfl⟩
    have l2 : W2.heap[D + 1]? = some (.loop { rec .ready none with state := .busy }) := by rw [← hW2]; exact World.putObj_heap_same hlt
    have k2 : W2.heap[D]? = some (.deferred (some [])) := by rw [← hW2]; exact (World.putObj_heap_other (by omega)).trans hk
    have i2 : I pre W2 := by rw [← hW2]; exact hI.put _ hi (by omega)
    have oth2 : ∀ k, k ≠ D + 1 → W2.heap[k]? = W.heap[k]? := fun k hne => by rw [← hW2]; exact World.putObj_heap_other hne
    have s2 : W2.heap.size = W.heap.size := by rw [← hW2]; simp
    -- the end of a round, whichever way it is left
    have fin : ∀ (jump : Option Code) (W3 : World), KeepsAt T W2 W3 → ∃ W4, (Instr.endRound (D + 1) jump).run P W3 = .ok (.bool jump.isNone) W4 ∧ W4 = W3.putObj (D + 1) (.loop (rec (if jump.isNone then .ready else .done) jump)) ∧
        W4.heap[D + 1]? = some (.loop (rec (if jump.isNone then .ready else .done) jump)) ∧ W4.heap[D]? = some (.deferred (some [])) := fun jump W3 hk3 => by
      have hl3 := hk3.same _ _ (by omega) l2
      have hrun := run_endRound (P := P) jump hl3
      rw [hrec] at hrun ⊢
      exact ⟨_, hrun, rfl, World.putObj_heap_same (Array.getElem?_eq_some_iff.1 hl3).1, (World.putObj_heap_other (by omega)).trans (hk3.same _ _ (by omega) k2)⟩
    rw [hW2]
    refine wpIn_mono (hbody _ pre x W2 i2 hlen) ?_
    intro e a3 W3 hp
    have left : ∀ c, KeepsAt T W2 W3 → Ix c (pre ++ [x]) W3 → ∃ v W4, (Instr.endRound (D + 1) (some c)).run P W3 = .ok v W4 ∧ ((Ending.returned v = .returned (.bool true) ∧ J (pre ++ [x]) W4 ∧ KeepsAt T W W4) ∨ (Ending.returned v = .returned (.bool false) ∧ Jx (pre ++ [x]) W4)) := fun c hk3 hi3 => by
      obtain ⟨W4, hr, rfl, hl4, hk4⟩ := fin (some c) W3 hk3
      exact ⟨_, _, hr, .inr ⟨rfl, c, (hIx c).put _ hi3 (by omega), hl4, hk4⟩⟩
    cases e with
    | normal =>
      obtain ⟨hk3, hi3⟩ := hp
      obtain ⟨W4, hr, rfl, hl4, hk4⟩ := fin none W3 hk3
      refine ⟨_, _, hr, .inl ⟨rfl, ⟨hI.put _ hi3 (by omega), hl4, hk4⟩, ?_⟩⟩
      refine ⟨by have := hk3.size; simp; omega, fun k o hT' ho => ?_⟩
      by_cases hkl : k = D + 1
      · subst hkl
        rw [hl] at ho
        cases ho
        exact hl4
      · exact (World.putObj_heap_other hkl).trans (hk3.same k o hT' ((oth2 k hkl).trans ho))
    | ret => exact left .ret hp.1 hp.2
    | exit i => exact left (.exit i) hp.1 hp.2
    | goto t => exact left (.goto t) hp.1 hp.2
    | panic c => exact hp.elim
    | outgrown => exact hp.elim
  · rintro e W2 ⟨⟨v, rfl⟩, (⟨xs, hS, hi, hl, hk⟩ | ⟨pre, hSp, c, hi, hl, hk⟩)⟩
    all_goals
      have hend := run_endLoop (P := P) hl (by rw [hrec]; simp)
      rw [hrec] at hend
    · exact ⟨none, _, hend, hdone D xs _ (by omega) hS (hI.put _ hi (by omega)) ((World.putObj_heap_other (by omega)).trans hk)⟩
    · exact ⟨some c, _, hend, hstop D c pre _ (by omega) hSp ((hIx c).put _ hi (by omega)) ((World.putObj_heap_other (by omega)).trans hk)⟩
end Go.Proofs.Ytndbjojjaapeaaa

/- A range over a function whose iterator reads what the round keeps: as in Ownr, with a word for what is kept. -/
namespace Go.Proofs.Ytndbjojjaapeaaa
set_option linter.unusedVariables false
open Go.RowKit

/-- an iterator that calls yield for what S says, or for a part of it, as long as Kp holds between the rounds -/
def VisitsK {α : Type} (F : Fence) (n : Nat) (P : Program) (gf : Nat) (lb : Array Value) (encs : α → Array Value) (T : Nat) (Kp : World → Prop) (S Sp : List α → Prop) (N : Nat) (W : World) : Prop :=
  ∀ (l : Nat) (J Jx : List α → World → Prop), Bears W.heap.size J → Bears W.heap.size Jx → (∀ pre X, J pre X → Kp X) →
    (∀ pre x X, J pre X → pre.length < N → YieldAt F (n - 1) P l (encs x) X fun e X' =>
      (e = .returned (.bool true) ∧ J (pre ++ [x]) X' ∧ KeepsAt T X X') ∨ (e = .returned (.bool false) ∧ Jx (pre ++ [x]) X')) →
    J [] W → CallsIn F n P gf (#[.func (.yield l) #[] #[]] ++ lb) W fun e W' => (∃ v, e = .returned v) ∧ ((∃ xs, S xs ∧ J xs W') ∨ (∃ pre, Sp pre ∧ Jx pre W'))

variable {F : Fence} {n : Nat} {P : Program}

theorem range_visits_k {α : Type} {g : Operand} {ps : Array Tmp} {assign body : Code} {Q : Exit → Act → World → Prop} {a : Act} {w : World}
    (hro : F.round = none) (h1 : 1 ≤ n) {gf : Nat} {lb : Array Value} (hg : a.eval g = .func (.func gf) #[] lb) (hFg : F.fn gf) (eg : ∀ args w, (callFunc gf args).run P w = .ok (.enter gf args) w)
    {encs : α → Array Value} {T : Nat} {S Sp : List α → Prop} {N : Nat} {Kp : World → Prop} (hT : T ≤ w.heap.size) (hseq : ∀ W, w.grownBy W none → VisitsK F (n - 1) P gf lb encs T Kp S Sp N W) (hps : ∀ x, (encs x).size = ps.size)
    (I : List α → World → Prop) (Ix : Code → List α → World → Prop) (hI : Bears w.heap.size I) (hIx : ∀ c, Bears w.heap.size (Ix c)) (h0 : I [] w) (hKp : ∀ pre W, I pre W → Kp W) (a₁ : α → Act)
    (hassign : ∀ (l : Nat) (x : α) (W : World) (K : Act → World → Prop), K (a₁ x) W →
      assign.wpIn (F.inRound l) (n - 1 - 1) P (Exit.then K (fun _ _ _ => False)) { tmps := (ps.zip (encs x)).foldl (fun t (p, v) => t.setIfInBounds p v) a.tmps, defers := [] } W)
    (hbody : ∀ (l : Nat) (pre : List α) (x : α) (W : World), I pre W → pre.length < N → body.wpIn (F.inRound l) (n - 1 - 1) P (roundEnds T I Ix (pre ++ [x]) W) (a₁ x) W)
    (hdone : ∀ (D : Nat) (xs : List α) (W : World), w.heap.size ≤ D → S xs → I xs W → W.heap[D]? = some (.deferred (some [])) → Q .normal { a with defers := { target := .collected D, args := #[] } :: a.defers } W)
    (hstop : ∀ (D : Nat) (c : Code) (pre : List α) (W : World), w.heap.size ≤ D → Sp pre → Ix c pre W → W.heap[D]? = some (.deferred (some [])) → c.wpIn F n P Q { a with defers := { target := .collected D, args := #[] } :: a.defers } W) :
    (Code.rangeFunc g ps assign body).wpIn F n P Q a w := by
  refine wpIn_rangeFunc (fun fn hfn => ?_)
  rw [hro]
  -- the two blocks of the loop: D for the deferred calls, L for its record
  obtain ⟨D, hD⟩ : ∃ D, w.heap.size = D := ⟨_, rfl⟩
  obtain ⟨rec, hrec⟩ : ∃ rec : LoopState → Option Code → Loop, rec = fun st jump => { state := st, pending := jump, fn, tmps := a.tmps, params := ps, assign, body, defers := D } := ⟨_, rfl⟩
  obtain ⟨V, hV⟩ : ∃ V, (w.alloc (.deferred (some []))).alloc (.loop (rec .ready none)) = V := ⟨_, rfl⟩
  have vs : V.heap.size = D + 1 + 1 := by rw [← hV, ← hD]; simp
  have vL : V.heap[D + 1]? = some (.loop (rec .ready none)) := by
    rw [← hV, ← hD]; have h := World.alloc_heap_new (w.alloc (.deferred (some []))) (.loop (rec .ready none)); rwa [World.size_alloc] at h
  have vD : V.heap[D]? = some (.deferred (some [])) := by
    rw [← hV, ← hD]; exact (Below.heap_alloc _ _ _ (by simp)).trans (World.alloc_heap_new w _)
  have vg : w.grownBy V none := by
    rw [← hV]
    have k1 := World.grownBy_alloc w (.deferred (some [])) none
    have k2 := World.grownBy_alloc (w.alloc (.deferred (some []))) (.loop (rec .ready none)) none
    exact k1.trans k2
  have vI : I [] V := by rw [← hV]; exact hI.new _ (hI.new _ h0)
  rw [hD] at hI hIx hT
  -- what holds between two rounds, and behind the last one
  let J : List α → World → Prop := fun pre W => I pre W ∧ W.heap[D + 1]? = some (.loop (rec .ready none)) ∧ W.heap[D]? = some (.deferred (some []))
  let Jx : List α → World → Prop := fun pre W => ∃ c, Ix c pre W ∧ W.heap[D + 1]? = some (.loop (rec .done (some c))) ∧ W.heap[D]? = some (.deferred (some []))
  have far : ∀ {A B : World} {row : Option Nat} {k : Nat} {o : Obj}, k < V.heap.size → A.grownBy B row → (∀ r, row = some r → V.heap.size ≤ r) → A.heap[k]? = some o → B.heap[k]? = some o := fun hk hg hr ho =>
    (hg.block _ (Array.getElem?_eq_some_iff.1 ho).1 (fun e => by have := hr _ e.symm; omega)).trans ho
  have bJ : Bears V.heap.size J := fun s A B row hs hg' hr => ⟨hI s A B row hs.1 hg' (fun r e => by have := hr r e; omega), far (by omega) hg' hr hs.2.1, far (by omega) hg' hr hs.2.2⟩
  have bJx : Bears V.heap.size Jx := fun s A B row ⟨c, hc, hl, hk⟩ hg' hr => ⟨c, hIx c s A B row hc hg' (fun r e => by have := hr r e; omega), far (by omega) hg' hr hl, far (by omega) hg' hr hk⟩
  refine ⟨D + 1, [{ target := .collected D, args := #[] }], V, { target := .fn (.func gf) lb, args := #[.func (.yield (D + 1)) #[] #[]] }, V, gf, #[.func (.yield (D + 1)) #[] #[]] ++ lb, V, ?_, ?_, ?_, ?_, fun _ => h1, ?_⟩
  · rw [← hV, hrec, ← hD]; exact run_enterLoop_outer _ _ _ _ _
  · simp only [resolve, hg]; simp [go_sem]
  · intro f hf; simp [Target.leads] at hf; subst hf; exact hFg
  · simp [invoke, go_sem, eg]
  refine (hseq V vg (D + 1) J Jx bJ bJx (fun pre X h => hKp pre X h.1) ?_ ⟨vI, vL, vD⟩).mono ?_
  · rintro pre x W ⟨hi, hl, hk⟩ hlen
    have hlt : D + 1 < W.heap.size := (Array.getElem?_eq_some_iff.1 hl).1
    have hy := run_yield (P := P) (args := encs x) hl (by rw [hrec]; exact hps x)
    rw [hrec] at hy
    refine ⟨fn, _, assign, body, hy, roundIn_of_wpIn hfn (hassign _ x W _ ⟨_, run_beginRound hl (by rw [hrec]), ?_⟩)⟩
    obtain ⟨W2, hW2⟩ : ∃ W2, W.putObj (D + 1) (.loop { rec .ready none with state := .busy }) = W2 := ⟨_, rfl⟩
    have l2 : W2.heap[D + 1]? = some (.loop { rec .ready none with state := .busy }) := by rw [← hW2]; exact World.putObj_heap_same hlt
    have k2 : W2.heap[D]? = some (.deferred (some [])) := by rw [← hW2]; exact (World.putObj_heap_other (by omega)).trans hk
    have i2 : I pre W2 := by rw [← hW2]; exact hI.put _ hi (by omega)
    have oth2 : ∀ k, k ≠ D + 1 → W2.heap[k]? = W.heap[k]? := fun k hne => by rw [← hW2]; exact World.putObj_heap_other hne
    have s2 : W2.heap.size = W.heap.size := by rw [← hW2]; simp
    -- the end of a round, whichever way it is left
    have fin : ∀ (jump : Option Code) (W3 : World), KeepsAt T W2 W3 → ∃ W4, (Instr.endRound (D + 1) jump).run P W3 = .ok (.bool jump.isNone) W4 ∧ W4 = W3.putObj (D + 1) (.loop (rec (if jump.isNone then .ready else .done) jump)) ∧
        W4.heap[D + 1]? = some (.loop (rec (if jump.isNone then .ready else .done) jump)) ∧ W4.heap[D]? = some (.deferred (some [])) := fun jump W3 hk3 => by
      have hl3 := hk3.same _ _ (by omega) l2
      have hrun := run_endRound (P := P) jump hl3
      rw [hrec] at hrun ⊢
      exact ⟨_, hrun, rfl, World.putObj_heap_same (Array.getElem?_eq_some_iff.1 hl3).1, (World.putObj_heap_other (by omega)).trans (hk3.same _ _ (by omega) k2)⟩
    rw [hW2]
    refine wpIn_mono (hbody _ pre x W2 i2 hlen) ?_
    intro e a3 W3 hp
    have left : ∀ c, KeepsAt T W2 W3 → Ix c (pre ++ [x]) W3 → ∃ v W4, (Instr.endRound (D + 1) (some c)).run P W3 = .ok v W4 ∧ ((Ending.returned v = .returned (.bool true) ∧ J (pre ++ [x]) W4 ∧ KeepsAt T W W4) ∨ (Ending.returned v = .returned (.bool false) ∧ Jx (pre ++ [x]) W4)) := fun c hk3 hi3 => by
      obtain ⟨W4, hr, rfl, hl4, hk4⟩ := fin (some c) W3 hk3
      exact ⟨_, _, hr, .inr ⟨rfl, c, (hIx c).put _ hi3 (by omega), hl4, hk4⟩⟩
    cases e with
    | normal =>
      obtain ⟨hk3, hi3⟩ := hp
      obtain ⟨W4, hr, rfl, hl4, hk4⟩ := fin none W3 hk3
      refine ⟨_, _, hr, .inl ⟨rfl, ⟨hI.put _ hi3 (by omega), hl4, hk4⟩, ?_⟩⟩
      refine ⟨by have := hk3.size; simp; omega, fun k o hT' ho => ?_⟩
      by_cases hkl : k = D + 1
      · subst hkl
        rw [hl] at ho
        cases ho
        exact hl4
      · exact (World.putObj_heap_other hkl).trans (hk3.same k o hT' ((oth2 k hkl).trans ho))
    | ret => exact left .ret hp.1 hp.2
    | exit i => exact left (.exit i) hp.1 hp.2
    | goto t => exact left (.goto t) hp.1 hp.2
    | panic c => exact hp.elim
    | outgrown => exact hp.elim
  · rintro e W2 ⟨⟨v, rfl⟩, (⟨xs, hS, hi, hl, hk⟩ | ⟨pre, hSp, c, hi, hl, hk⟩)⟩
    all_goals
      have hend := run_endLoop (P := P) hl (by rw [hrec]; simp)
      rw [hrec] at hend
    · exact ⟨none, _, hend, hdone D xs _ (by omega) hS (hI.put _ hi (by omega)) ((World.putObj_heap_other (by omega)).trans hk)⟩
    · exact ⟨some c, _, hend, hstop D c pre _ (by omega) hSp ((hIx c).put _ hi (by omega)) ((World.putObj_heap_other (by omega)).trans hk)⟩
end Go.Proofs.Ytndbjojjaapeaaa

/- slices.Backward: its iterator comes from the last position to the first one. -/
namespace Go.Proofs.Ytndbjojjaapeaaa
set_option linter.unusedVariables false
open Go.RowKit Go.Shelf
attribute [local go_sem] Oper.semAt_some

theorem KeepsAt.heapk {T : Nat} {W W' : World} (h : KeepsAt T W W') {k : Nat} (hk : T ≤ k) (hl : k < W.heap.size) : W'.heap[k]? = W.heap[k]? := by
  rw [Array.getElem?_eq_getElem hl]; exact h.same k _ hk (Array.getElem?_eq_getElem hl)
/-- all positions, the last one first -/
def allD (m : Nat) : List (Fin m) := (List.finRange m).reverse
theorem allD_len (m : Nat) : (allD m).length = m := by simp [allD]
theorem allD_get {m j k : Nat} (h : k + 1 + j = m) : (allD m)[j]? = some ⟨k, by omega⟩ := by
  unfold allD
  rw [List.getElem?_reverse (by simp; omega)]
  rw [List.getElem?_eq_getElem (by simp; omega)]
  simp
  omega
theorem allD_step {m j k : Nat} (h : k + 1 + j = m) : (allD m).take (j + 1) = (allD m).take j ++ [⟨k, by omega⟩] := by
  rw [List.take_add_one, allD_get h]; rfl

set_option maxRecDepth 100000 in
set_option maxHeartbeats 4000000 in
theorem back1_visits (n : Nat) (hn : 1 ≤ n) (a : Option Addr) (m cap : Nat) (xs : List Int) (hx : xs.length = m) (hm : m ≤ 1000) (Be T : Nat) (W : World) (hT : T ≤ Be) (hBe : W.cell? ⟨Be, 0, none⟩ = some (.slice a m cap)) :
    VisitsK Fence.wide n Try.prog 108 #[.pointer (some ⟨Be, 0, none⟩)] (fun x : Fin m => #[.int .i64 (x.val : Nat), .int .i64 (xs.getD x.val 0)]) T (fun X => Row X a m (intL xs)) (fun ys => ys = allD m) (fun pre => pre <+: allD m) m W := by
  intro l J Jx hJ hJx hR hY h0
  refine callsIn_of_wp Try.func108 rfl trivial ?_ rfl
  simp only [Try.ntmps108, List.size_toArray, List.length_cons, List.length_nil, Nat.reduceAdd, Nat.reduceSub, Array.replicate_succ, Array.replicate_zero, List.push_toArray, List.append_toArray, List.nil_append, List.cons_append]
  have hlt : Be < W.heap.size := World.block_lt_of_cell? _ _ hBe
  gi_wp2
  gi_loopw [3] (fun v wr => ∃ (j : Nat) (i : Int), v = .int .i64 i ∧ i + 1 + j = m ∧ j ≤ m ∧ J ((allD m).take j) wr ∧ wr.cell? ⟨Be, 0, none⟩ = some (.slice a m cap)) (fun v _ => (intOf v + 1).toNat)
  case atStart => exact ⟨0, _, rfl, by omega, by omega, h0, hBe⟩
  case round =>
    obtain ⟨j, i, rfl, hij, hj, hJ0, hcell⟩ := hrel
    by_cases hlj : j < m
    · obtain ⟨k, rfl⟩ := Int.eq_ofNat_of_zero_le (show 0 ≤ i by omega)
      have hk : k + 1 + j = m := by omega
      have hkm : k < m := by omega
      obtain ⟨g, hg, hc⟩ := (hR _ _ hJ0).int hkm
      obtain ⟨fn, tmps, assign, body, hy, hRd⟩ := hY _ ⟨k, hkm⟩ wr hJ0 (by rw [List.length_take, allD_len]; omega)
      have hst := allD_step hk
      subst hg
      simp only at hy hRd hc
      generalize xs.getD k 0 = x at hy hRd hc
      have HY := Lib.hid hRd
      have HS := Lib.hid hst
      have HJ := Lib.hid hJ0
      have h01 : (0 : Int) ≤ (k : Int) := by omega
      have hkm1 : (k : Int) < m := by omega
      clear hRd hst hJ0
      gi_wp2
      refine HY.out.mono ?_
      rintro e' W3 (⟨rfl, hJ3, hk3⟩ | ⟨rfl, hJx3⟩)
      · have hc3 : W3.cell? ⟨Be, 0, none⟩ = some (.slice (some ⟨g, 0, none⟩) m cap) := (World.cell?_of_block (a := ⟨Be, 0, none⟩) (hk3.heapk hT (World.block_lt_of_cell? _ _ hcell))).trans hcell
        rw [← HS.out] at hJ3
        have HJ3 := Lib.hid hJ3
        clear hJ3 hcell hc
        gi_wp2
        go_roundw
        case rel => exact ⟨j + 1, (k : Int) - 1, rfl, by omega, hlj, HJ3.out, hc3⟩
        case measure => simp [intOf]
      · rw [← HS.out] at hJx3
        have HJ3 := Lib.hid hJx3
        clear hJx3
        gi_wp2
        refine bodyPost_ret (results_none rfl _ _ _) rfl ?_
        exact ⟨⟨_, rfl⟩, .inr ⟨_, List.take_prefix _ _, HJ3.out⟩⟩
    · obtain rfl : j = m := by omega
      obtain rfl : i = -1 := by omega
      have hall : (allD j).take j = allD j := List.take_of_length_le (by rw [allD_len]; omega)
      rw [hall] at hJ0
      have HJ := Lib.hid hJ0
      clear hJ0
      gi_wp2
      go_end0
      exact ⟨⟨_, rfl⟩, .inl ⟨_, rfl, HJ.out⟩⟩

theorem back_in (n : Nat) (a : Option Addr) (m cap : Nat) (w : World) :
    CallsIn Fence.wide n Try.prog 104 #[.slice a m cap] w fun e' w' => e' = .returned (.func (.func 108) #[] #[.pointer (some ⟨w.heap.size, 0, none⟩)]) ∧
      w' = w.alloc (.cells #[.slice a m cap] 22) := by
  refine callsIn_of_wp Try.func104 rfl trivial ?_ rfl
  simp only [Try.ntmps104, List.size_toArray, List.length_cons, List.length_nil, Nat.reduceAdd, Nat.reduceSub, Array.replicate_succ, Array.replicate_zero, List.push_toArray, List.append_toArray, List.nil_append, List.cons_append]
  gi_wp2
  go_ret
  exact ⟨rfl, rfl⟩

/-! ### areQuotients -/
end Go.Proofs.Ytndbjojjaapeaaa

/- Polynomials by Horner's rule, falling products, limits: mathematics. -/
namespace Go.Proofs.Ytndbjojjaapeaaa
set_option linter.unusedVariables false

/-- c0 + f0 (c1 + f1 (c2 + ..)) modulo m -/
def nestV (m : Int) (f : Nat → Int) : Nat → List Int → Int
  | _, [] => 0
  | i, c :: cs => (c + f i * nestV m f (i + 1) cs) % m
theorem nestV_range {m : Int} (hm : 0 < m) (f : Nat → Int) : ∀ (cs : List Int) (i : Nat), 0 ≤ nestV m f i cs ∧ nestV m f i cs < m
  | [], _ => ⟨Int.le_refl _, hm⟩
  | _ :: _, _ => ⟨Int.emod_nonneg _ (by omega), Int.emod_lt_of_pos _ hm⟩
/-- the same without the remainders -/
def sumP (f : Nat → Int) : Nat → List Int → Int
  | _, [] => 0
  | i, c :: cs => c + f i * sumP f (i + 1) cs
theorem nestV_sum (m : Int) (f : Nat → Int) : ∀ (cs : List Int) (i : Nat), nestV m f i cs = sumP f i cs % m
  | [], _ => by simp [nestV, sumP]
  | c :: cs, i => by
    unfold nestV sumP
    rw [nestV_sum m f cs (i + 1), Int.add_emod, Int.mul_emod, Int.emod_emod, ← Int.mul_emod, ← Int.add_emod]
/-- f0 f1 .. f(k-1) -/
def prodF (f : Nat → Int) : Nat → Int
  | 0 => 1
  | k + 1 => prodF f k * f k
/-- the terms before the k-th one -/
def termsP (f : Nat → Int) (cs : List Int) : Nat → Int
  | 0 => 0
  | k + 1 => termsP f cs k + cs.getD k 0 * prodF f k
theorem sumP_terms (f : Nat → Int) (cs : List Int) : ∀ k, k ≤ cs.length → sumP f 0 cs = termsP f cs k + prodF f k * sumP f k (cs.drop k)
  | 0, _ => by simp [termsP, prodF]
  | k + 1, h => by
    rw [sumP_terms f cs k (by omega)]
    have e : cs.drop k = cs.getD k 0 :: cs.drop (k + 1) := by
      rw [List.drop_eq_getElem_cons (by omega), List.getD_eq_getElem?_getD, List.getElem?_eq_getElem (by omega)]; rfl
    rw [e]
    show _ + _ * (_ + f k * _) = _ + _ * prodF f k + prodF f k * f k * _
    rw [Int.mul_add, Int.mul_comm (cs.getD k 0) (prodF f k), Int.mul_assoc (prodF f k) (f k)]
    omega
theorem sumP_all (f : Nat → Int) (cs : List Int) : sumP f 0 cs = termsP f cs cs.length := by
  have h := sumP_terms f cs cs.length (Nat.le_refl _)
  rw [List.drop_length] at h
  simpa [sumP] using h

/-- x (x - 1) .. (x - k + 1) -/
def desc (x : Nat) : Nat → Nat
  | 0 => 1
  | k + 1 => desc x k * (x - k)
def fact : Nat → Nat
  | 0 => 1
  | n + 1 => (n + 1) * fact n
theorem desc_step (n : Nat) : ∀ k, desc (n + 1) (k + 1) = (n + 1) * desc n k
  | 0 => by simp [desc]
  | k + 1 => by
    have ih := desc_step n k
    show desc (n + 1) (k + 1) * (n + 1 - (k + 1)) = _
    rw [ih, show n + 1 - (k + 1) = n - k by omega, Nat.mul_assoc]; rfl
theorem desc_fact : ∀ n, desc n n = fact n
  | 0 => rfl
  | n + 1 => by rw [desc_step, desc_fact n]; rfl
theorem desc_zero (x : Nat) : ∀ k, x < k → desc x k = 0
  | 0, h => by omega
  | k + 1, h => by
    show desc x k * (x - k) = 0
    rw [show x - k = 0 by omega, Nat.mul_zero]
theorem prodF_desc (x : Nat) : ∀ k, prodF (fun i => (x : Int) - i) k = (desc x k : Int)
  | 0 => rfl
  | k + 1 => by
    show prodF _ k * ((x : Int) - k) = ((desc x k * (x - k) : Nat) : Int)
    rw [prodF_desc x k]
    by_cases h : k ≤ x
    · rw [Int.natCast_mul, Int.ofNat_sub h]
    · rw [desc_zero x k (by omega)]; simp

/-- the remainder of the falling product, as the reference reckons it -/
def fallN (m x : Nat) : Nat → Nat
  | 0 => 1
  | k + 1 => fallN m x k * (x - k) % m
theorem fallN_desc {m : Nat} (hm : 2 ≤ m) (x : Nat) : ∀ k, fallN m x k = desc x k % m
  | 0 => by show 1 = 1 % m; rw [Nat.mod_eq_of_lt (by omega)]
  | k + 1 => by
    show fallN m x k * (x - k) % m = desc x k * (x - k) % m
    rw [fallN_desc hm x k, Nat.mod_mul_mod]
/-- a form's value, as the reference reckons it -/
def valV (m : Nat) (form : List Int) (x : Nat) : Nat → Int
  | 0 => 0
  | i + 1 => (valV m form x i + form.getD i 0 * (fallN m x i : Int)) % (m : Int)
theorem valV_terms {m : Nat} (hm : 2 ≤ m) (form : List Int) (x : Nat) : ∀ k, valV m form x k = termsP (fun i => (x : Int) - i) form k % (m : Int)
  | 0 => by simp [valV, termsP]
  | k + 1 => by
    show (valV m form x k + form.getD k 0 * (fallN m x k : Int)) % (m : Int) = (termsP _ form k + form.getD k 0 * prodF _ k) % (m : Int)
    rw [valV_terms hm form x k, fallN_desc hm, prodF_desc, Int.natCast_emod, Int.add_emod, Int.mul_emod, Int.emod_emod, Int.emod_emod, ← Int.mul_emod, ← Int.add_emod]
def polyV (m : Int) (p : List Int) (x : Int) : Int := nestV m (fun _ => x) 0 p
def formV (m : Int) (form : List Int) (x : Nat) : Int := nestV m (fun i => (x : Int) - i) 0 form
theorem formV_val {m : Nat} (hm : 2 ≤ m) (form : List Int) (x : Nat) : formV m form x = valV m form x form.length := by
  unfold formV
  rw [nestV_sum, sumP_all, valV_terms hm]

/-- 1 2 .. i modulo m, as the program reckons it -/
def prodP (m : Nat) : Nat → Nat
  | 0 => 1
  | i + 1 => prodP m i * (i + 1) % m
theorem prodP_fact {m : Nat} (hm : 2 ≤ m) : ∀ i, prodP m i = fact i % m
  | 0 => by show 1 = 1 % m; rw [Nat.mod_eq_of_lt (by omega)]
  | i + 1 => by
    show prodP m i * (i + 1) % m = (i + 1) * fact i % m
    rw [prodP_fact hm i, Nat.mod_mul_mod, Nat.mul_comm]
theorem fallN_prodP {m : Nat} (hm : 2 ≤ m) (i : Nat) : fallN m i i = prodP m i := by rw [fallN_desc hm, desc_fact, prodP_fact hm]
/-- what the i-th number of a form is less than -/
def roomN (m i : Nat) : Nat := m / Nat.gcd m (prodP m i)
def degN (m : Nat) : Nat := ((List.range 65).filter fun i => decide (prodP m i ≠ 0)).length
def limL (m : Nat) : List Int := (List.range (degN m)).map fun i => (roomN m i : Int)
theorem deg_facts : ∀ m : Fin 65, 2 ≤ m.1 → 2 ≤ degN m.1 ∧ degN m.1 ≤ m.1 ∧ prodP m.1 (degN m.1) = 0 ∧ (∀ i : Fin 65, i.1 < degN m.1 → prodP m.1 i.1 ≠ 0 ∧ 2 ≤ roomN m.1 i.1) ∧ roomN m.1 (degN m.1) = 1 := by decide +kernel
end Go.Proofs.Ytndbjojjaapeaaa

/- Moduli, remainders, divisors: the program's and the reference's. -/
namespace Go.Proofs.Ytndbjojjaapeaaa
set_option linter.unusedVariables false
open Go.RowKit

def modB (m : Int) : Bool := decide (2 ≤ m ∧ m ≤ 64)
def remB (m : Int) (xs : List Int) : Bool := xs.all fun x => decide (0 ≤ x ∧ x < m)
def polyB (m : Int) (xs : List Int) : Bool := modB m && decide (xs.length ≤ 12) && remB m xs
def funcB (m : Int) (xs : List Int) : Bool := modB m && decide ((xs.length : Int) = m) && remB m xs

theorem isModulus_any (m : Int) (w : World) : Calls Try.prog 84 #[.int .i64 m] w fun e w' => e = .returned (.bool (modB m)) ∧ w' = w := by
  by_cases h1 : 2 ≤ m
  · by_cases h2 : m ≤ 64
    · have hb : modB m = true := decide_eq_true ⟨h1, h2⟩
      rw [hb]
      clear hb
      go_enter Try.func84, Try.ntmps84
      go_wp2
      go_ret
      exact ⟨rfl, rfl⟩
    · have hb : modB m = false := decide_eq_false (fun h => h2 h.2)
      rw [hb]
      clear hb
      go_enter Try.func84, Try.ntmps84
      go_wp2
      go_ret
      exact ⟨rfl, rfl⟩
  · have hb : modB m = false := decide_eq_false (fun h => h1 h.1)
    rw [hb]
    clear hb
    go_enter Try.func84, Try.ntmps84
    go_wp2
    go_ret
    exact ⟨rfl, rfl⟩
theorem refModulus_any (m : Int) (w : World) : Calls Try.prog 22 #[.int .i64 m] w fun e w' => e = .returned (.bool (modB m)) ∧ w' = w := by
  by_cases h1 : 2 ≤ m
  · by_cases h2 : m ≤ 64
    · have hb : modB m = true := decide_eq_true ⟨h1, h2⟩
      rw [hb]
      clear hb
      go_enter Try.func22, Try.ntmps22
      go_wp2
      go_ret
      exact ⟨rfl, rfl⟩
    · have hb : modB m = false := decide_eq_false (fun h => h2 h.2)
      rw [hb]
      clear hb
      go_enter Try.func22, Try.ntmps22
      go_wp2
      go_ret
      exact ⟨rfl, rfl⟩
  · have hb : modB m = false := decide_eq_false (fun h => h1 h.1)
    rw [hb]
    clear hb
    go_enter Try.func22, Try.ntmps22
    go_wp2
    go_ret
    exact ⟨rfl, rfl⟩
theorem remB_step {m : Int} {xs : List Int} {k : Nat} {x : Int} (h : xs[k]? = some x) : remB m (xs.take (k + 1)) = (remB m (xs.take k) && decide (0 ≤ x ∧ x < m)) := by
  unfold remB
  rw [List.take_add_one, h, List.all_append]
  simp
theorem remB_no {m : Int} {xs : List Int} {k : Nat} {x : Int} (h : xs[k]? = some x) (hx : ¬ (0 ≤ x ∧ x < m)) : remB m xs = false := by
  unfold remB
  rw [Bool.eq_false_iff]
  intro h2
  rw [List.all_eq_true] at h2
  exact hx (of_decide_eq_true (h2 x (List.mem_of_getElem? h)))

set_option maxRecDepth 100000 in
set_option maxHeartbeats 4000000 in
theorem areRem_any (m : Int) (a : Option Addr) (n cap : Nat) (xs : List Int) (w : World) (hr : Row w a n (intL xs)) (hn : n ≤ 1000) :
    Calls Try.prog 91 #[.int .i64 m, .slice a n cap] w fun e w' => e = .returned (.bool (remB m xs)) ∧ w' = w := by
  have hx : xs.length = n := by have := hr.1; simpa [intL] using this
  have Hr := Lib.hid hr
  have Hx := Lib.hid hx
  clear hr hx
  go_enter Try.func91, Try.ntmps91
  go_wp2
  go_loopw [6, 9] (fun _ i wr => ∃ k : Nat, k ≤ n ∧ i = .int .i64 k ∧ Hid (remB m (xs.take k) = true) ∧ wr = w) (fun _ i _ => n - (intOf i).toNat)
  case atStart => exact ⟨0, Nat.zero_le _, rfl, by unfold Hid; rw [List.take_zero]; rfl, rfl⟩
  case round =>
    obtain ⟨k, hk, rfl, HB, rfl⟩ := hrel
    by_cases hlt : k < n
    · have hc : (k : Int) < n := by omega
      obtain ⟨x, hxk⟩ : ∃ x, xs[k]? = some x := ⟨_, List.getElem?_eq_getElem (by have := Hx.out; omega)⟩
      obtain ⟨g, rfl, c1⟩ := Hr.out.int hlt
      rw [List.getD_eq_getElem?_getD, hxk] at c1
      simp only [Option.getD_some] at c1
      have hno := fun h => remB_no (m := m) hxk h
      have hst := remB_step (m := m) hxk
      rw [HB.out] at hst
      have HN := Lib.hid hno
      have HS := Lib.hid hst
      clear hno hst hxk
      by_cases h0 : x < 0
      · go_wp2
        go_ret
        exact ⟨ret_bool (HN.out (by omega)).symm, rfl⟩
      · by_cases h1 : x ≥ m
        · go_wp2
          go_ret
          exact ⟨ret_bool (HN.out (by omega)).symm, rfl⟩
        · have HS2 : Hid (remB m (xs.take (k + 1)) = true) := by unfold Hid; rw [HS.out, Bool.true_and]; exact decide_eq_true (by omega)
          have h2 : x < m := by omega
          go_wp2
          go_roundw
          case rel => exact ⟨k + 1, by omega, by go_num, HS2, trivial⟩
          case measure => simp [intOf]; omega
    · obtain rfl : k = n := by omega
      have hc : ¬ (k : Int) < k := by omega
      have hb := HB.out
      rw [List.take_of_length_le (by have := Hx.out; omega)] at hb
      have HB2 := Lib.hid hb
      clear hb
      go_wp2
      go_ret
      exact ⟨ret_bool HB2.out.symm, rfl⟩
set_option maxRecDepth 100000 in
set_option maxHeartbeats 4000000 in
theorem refListed_any (m : Int) (a : Option Addr) (n cap : Nat) (xs : List Int) (w : World) (hr : Row w a n (intL xs)) (hn : n ≤ 1000) :
    Calls Try.prog 61 #[.int .i64 m, .slice a n cap] w fun e w' => e = .returned (.bool (remB m xs)) ∧ w' = w := by
  have hx : xs.length = n := by have := hr.1; simpa [intL] using this
  have Hr := Lib.hid hr
  have Hx := Lib.hid hx
  clear hr hx
  go_enter Try.func61, Try.ntmps61
  go_wp2
  go_loopw [5] (fun i wr => ∃ k : Nat, k ≤ n ∧ i = .int .i64 k ∧ Hid (remB m (xs.take k) = true) ∧ wr = w) (fun i _ => n - (intOf i).toNat)
  case atStart => exact ⟨0, Nat.zero_le _, rfl, by unfold Hid; rw [List.take_zero]; rfl, rfl⟩
  case round =>
    obtain ⟨k, hk, rfl, HB, rfl⟩ := hrel
    by_cases hlt : k < n
    · have hc : (k : Int) < n := by omega
      obtain ⟨x, hxk⟩ : ∃ x, xs[k]? = some x := ⟨_, List.getElem?_eq_getElem (by have := Hx.out; omega)⟩
      obtain ⟨g, rfl, c1⟩ := Hr.out.int hlt
      rw [List.getD_eq_getElem?_getD, hxk] at c1
      simp only [Option.getD_some] at c1
      have hno := fun h => remB_no (m := m) hxk h
      have hst := remB_step (m := m) hxk
      rw [HB.out] at hst
      have HN := Lib.hid hno
      have HS := Lib.hid hst
      clear hno hst hxk
      by_cases h0 : x < 0
      · go_wp2
        go_ret
        exact ⟨ret_bool (HN.out (by omega)).symm, rfl⟩
      · by_cases h1 : x ≥ m
        · go_wp2
          go_ret
          exact ⟨ret_bool (HN.out (by omega)).symm, rfl⟩
        · have HS2 : Hid (remB m (xs.take (k + 1)) = true) := by unfold Hid; rw [HS.out, Bool.true_and]; exact decide_eq_true (by omega)
          have h2 : x < m := by omega
          go_wp2
          go_roundw
          case rel => exact ⟨k + 1, by omega, by go_num, HS2, trivial⟩
          case measure => simp [intOf]; omega
    · obtain rfl : k = n := by omega
      have hc : ¬ (k : Int) < k := by omega
      have hb := HB.out
      rw [List.take_of_length_le (by have := Hx.out; omega)] at hb
      have HB2 := Lib.hid hb
      clear hb
      go_wp2
      go_ret
      exact ⟨ret_bool HB2.out.symm, rfl⟩

set_option maxRecDepth 100000 in
theorem isPoly_any (m : Int) (a : Option Addr) (n cap : Nat) (xs : List Int) (w : World) (hr : Row w a n (intL xs)) (hn : n ≤ 1000) :
    Calls Try.prog 62 #[.int .i64 m, .slice a n cap] w fun e w' => e = .returned (.bool (polyB m xs)) ∧ w' = w := by
  have hx : xs.length = n := by have := hr.1; simpa [intL] using this
  have H1 := Lib.hid fun w => isModulus_any m w
  have H2 := Lib.hid (areRem_any m a n cap xs w hr hn)
  obtain ⟨b, hb⟩ : ∃ b, modB m = b := ⟨_, rfl⟩
  have hR : polyB m xs = (b && decide (n ≤ 12) && remB m xs) := by unfold polyB; rw [hb, hx]
  have HR := Lib.hid hR
  have Hb := Lib.hid hb
  clear hr hx hb hR
  go_enter Try.func62, Try.ntmps62
  go_wp2_with fail
  refine (H1.out _).mono ?_
  rintro e w1 ⟨rfl, rfl⟩
  rw [Hb.out]
  cases b with
  | false =>
    go_wp2
    go_ret
    exact ⟨ret_bool (by rw [HR.out]; rfl), rfl⟩
  | true =>
    by_cases h12 : n ≤ 12
    · have h2 : (n : Int) ≤ 12 := by omega
      go_wp2_with fail
      refine H2.out.mono ?_
      rintro e w2 ⟨rfl, rfl⟩
      go_wp2
      go_ret
      exact ⟨ret_bool (by rw [HR.out, decide_eq_true h12]; rfl), rfl⟩
    · have h2 : ¬ (n : Int) ≤ 12 := by omega
      go_wp2
      go_ret
      exact ⟨ret_bool (by rw [HR.out, decide_eq_false h12]; rfl), rfl⟩
set_option maxRecDepth 100000 in
theorem isFunc_any (m : Int) (a : Option Addr) (n cap : Nat) (xs : List Int) (w : World) (hr : Row w a n (intL xs)) (hn : n ≤ 1000) :
    Calls Try.prog 72 #[.int .i64 m, .slice a n cap] w fun e w' => e = .returned (.bool (funcB m xs)) ∧ w' = w := by
  have hx : xs.length = n := by have := hr.1; simpa [intL] using this
  have H1 := Lib.hid fun w => isModulus_any m w
  have H2 := Lib.hid (areRem_any m a n cap xs w hr hn)
  obtain ⟨b, hb⟩ : ∃ b, modB m = b := ⟨_, rfl⟩
  have hR : funcB m xs = (b && decide ((n : Int) = m) && remB m xs) := by unfold funcB; rw [hb, hx]
  have HR := Lib.hid hR
  have Hb := Lib.hid hb
  clear hr hx hb hR
  go_enter Try.func72, Try.ntmps72
  go_wp2_with fail
  refine (H1.out _).mono ?_
  rintro e w1 ⟨rfl, rfl⟩
  rw [Hb.out]
  cases b with
  | false =>
    go_wp2
    go_ret
    exact ⟨ret_bool (by rw [HR.out]; rfl), rfl⟩
  | true =>
    by_cases h12 : (n : Int) = m
    · subst h12
      go_wp2_with fail
      refine H2.out.mono ?_
      rintro e w2 ⟨rfl, rfl⟩
      go_wp2
      go_ret
      exact ⟨ret_bool (by rw [HR.out]; simp), rfl⟩
    · have h2 : ((n : Int) == m) = false := by rw [beq_eq_false_iff_ne]; exact h12
      have HN := Lib.hid h12
      clear h12
      go_wp2
      go_ret
      exact ⟨ret_bool (by rw [HR.out, decide_eq_false HN.out]; rfl), rfl⟩
set_option maxRecDepth 100000 in
theorem refPoly_any (m : Int) (a : Option Addr) (n cap : Nat) (xs : List Int) (w : World) (hr : Row w a n (intL xs)) (hn : n ≤ 1000) :
    Calls Try.prog 23 #[.int .i64 m, .slice a n cap] w fun e w' => e = .returned (.bool (decide (n ≤ 12) && remB m xs)) ∧ w' = w := by
  have H2 := Lib.hid (refListed_any m a n cap xs w hr hn)
  clear hr
  go_enter Try.func23, Try.ntmps23
  by_cases h12 : n ≤ 12
  · have h2 : (n : Int) ≤ 12 := by omega
    go_wp2_with fail
    refine H2.out.mono ?_
    rintro e w2 ⟨rfl, rfl⟩
    go_wp2
    go_ret
    exact ⟨ret_bool (by simp [h12]), rfl⟩
  · have h2 : ¬ (n : Int) ≤ 12 := by omega
    go_wp2
    go_ret
    exact ⟨ret_bool (by simp), rfl⟩
set_option maxRecDepth 100000 in
theorem refFunc_any (m : Int) (a : Option Addr) (n cap : Nat) (xs : List Int) (w : World) (hr : Row w a n (intL xs)) (hn : n ≤ 1000) :
    Calls Try.prog 36 #[.int .i64 m, .slice a n cap] w fun e w' => e = .returned (.bool (decide ((n : Int) = m) && remB m xs)) ∧ w' = w := by
  have H2 := Lib.hid (refListed_any m a n cap xs w hr hn)
  clear hr
  go_enter Try.func36, Try.ntmps36
  by_cases h12 : (n : Int) = m
  · subst h12
    go_wp2_with fail
    refine H2.out.mono ?_
    rintro e w2 ⟨rfl, rfl⟩
    go_wp2
    go_ret
    exact ⟨ret_bool (by simp), rfl⟩
  · have h2 : ((n : Int) == m) = false := by rw [beq_eq_false_iff_ne]; exact h12
    have HN := Lib.hid h12
    clear h12
    go_wp2
    go_ret
    exact ⟨ret_bool (by simp [HN.out]), rfl⟩

theorem gcd_step (a b : Nat) : Nat.gcd b (a % b) = Nat.gcd a b := by rw [Nat.gcd_comm, ← Nat.gcd_rec, Nat.gcd_comm]
theorem tmod_nat (p q : Nat) : Int.tmod (p : Int) q = ((p % q : Nat) : Int) := (Int.ofNat_tmod p q).symm
set_option maxHeartbeats 4000000 in
theorem divisor_any (a b : Nat) (ha : a ≤ 1000000000000) (hb : b ≤ 1000000000000) (w : World) :
    Calls Try.prog 80 #[.int .i64 a, .int .i64 b] w fun e w' => e = .returned (.int .i64 (Nat.gcd a b : Nat)) ∧ ∃ n, w' = w.drewN n := by
  go_enter Try.func80, Try.ntmps80
  go_wp2
  go_loopw [0, 1] (fun x y wr => ∃ (p q : Nat) (n : Nat), x = .int .i64 p ∧ y = .int .i64 q ∧ p ≤ 1000000000000 ∧ q ≤ 1000000000000 ∧ Hid (Nat.gcd p q = Nat.gcd a b) ∧ wr = w.drewN n) (fun _ y _ => (intOf y).toNat)
  case atStart => exact ⟨a, b, 0, rfl, rfl, ha, hb, rfl, rfl⟩
  case round =>
    obtain ⟨p, q, n, rfl, rfl, hp, hq, HG, rfl⟩ := hrel
    by_cases hz : q = 0
    · subst hz
      have hg : Nat.gcd a b = p := by rw [← HG.out, Nat.gcd_zero_right]
      have HG2 := Lib.hid hg
      clear hg
      go_wp2
      go_ret
      exact ⟨ret_int (by rw [HG2.out]), n, rfl⟩
    · have h1 : ((q : Int) != 0) = true := by rw [bne_iff_ne]; omega
      have h0 : ((q : Int) == 0) = false := by rw [beq_eq_false_iff_ne]; omega
      have hn0 : ¬ (q : Int) = 0 := by omega
      have ht := tmod_nat p q
      have h2 := Nat.mod_lt p (show 0 < q by omega)
      have hg := gcd_step p q
      obtain ⟨t, hm⟩ : ∃ t, p % q = t := ⟨_, rfl⟩
      rw [hm] at ht h2 hg
      have HG2 : Hid (Nat.gcd q t = Nat.gcd a b) := by unfold Hid; rw [hg]; exact HG.out
      clear hg hm
      go_wp2
      go_region
      go_wp2
      exact ⟨⟨q, t, n + 1, rfl, rfl, hq, by omega, HG2, rfl⟩, by simp [intOf]; exact h2⟩
set_option maxHeartbeats 1000000 in
theorem refGcd_any (a b : Nat) (ha : a ≤ 1000000000000) (hb : b ≤ 1000000000000) (w : World) :
    Calls Try.prog 59 #[.int .i64 a, .int .i64 b] w fun e w' => e = .returned (.int .i64 (Nat.gcd a b : Nat)) ∧ w' = w := by
  go_enter Try.func59, Try.ntmps59
  go_wp2
  go_loop [0, 1] (fun x y => ∃ (p q : Nat), x = .int .i64 p ∧ y = .int .i64 q ∧ p ≤ 1000000000000 ∧ q ≤ 1000000000000 ∧ Hid (Nat.gcd p q = Nat.gcd a b)) (fun _ y => (intOf y).toNat)
  case atStart => exact ⟨a, b, rfl, rfl, ha, hb, rfl⟩
  case round =>
    obtain ⟨p, q, rfl, rfl, hp, hq, HG⟩ := hrel
    by_cases hz : 0 < q
    · have hc : (0 : Int) < q := by omega
      have hbz : ((q : Int) == 0) = false := by simpa using (show (q : Int) ≠ 0 by omega)
      have hn0 : ¬ (q : Int) = 0 := by omega
      have ht := tmod_nat p q
      have h2 := Nat.mod_lt p hz
      have HG2 : Hid (Nat.gcd q (p % q) = Nat.gcd a b) := by unfold Hid; rw [gcd_step]; exact HG.out
      obtain ⟨t, hm⟩ : ∃ t, p % q = t := ⟨_, rfl⟩
      rw [hm] at ht h2 HG2
      go_wp2
      go_round
      case rel => exact ⟨q, t, rfl, rfl, hq, by omega, HG2⟩
      case measure => simp [intOf]; exact h2
    · obtain rfl : q = 0 := by omega
      have hg : Nat.gcd a b = p := by rw [← HG.out, Nat.gcd_zero_right]
      have HG2 := Lib.hid hg
      clear hg
      go_wp2
      go_ret
      exact ⟨ret_int (by rw [HG2.out]), rfl⟩

/-- a function that finds remainders -/
theorem modulo_any (m : Int) (w : World) : Calls Try.prog 66 #[.int .i64 m] w fun e w' =>
    e = .returned (.func (.func 97) #[] #[.pointer (some ⟨w.heap.size, 0, none⟩)]) ∧ w' = w.alloc (.cells #[.int .i64 m] 3) := by
  have hmf : ∀ (fn : Fn) (first cap : Array Value) (w : World), (Instr.makeFunc fn first cap).run Try.prog w = .ok (.func fn first cap) w := fun _ _ _ _ => rfl
  go_enter Try.func66, Try.ntmps66
  go_wp2
  go_ret
  exact ⟨rfl, rfl⟩
theorem tmod_bound (a b : Int) (hb : 0 < b) : -b < Int.tmod a b := by
  have h1 := Int.tmod_lt_of_pos a hb
  rcases Int.le_total 0 a with h | h
  · have := Int.tmod_nonneg b h
    omega
  · have h2 := Int.tmod_lt_of_pos (-a) hb
    rw [Int.neg_tmod] at h2
    omega
theorem rem_num (n m : Int) (hm : 0 < m) : Int.tmod (Int.tmod n m + m) m = n % m := by
  have h1 := Int.tmod_def n m
  have h2 : -m < Int.tmod n m := tmod_bound n m hm
  rw [Int.tmod_eq_emod_of_nonneg (by omega), h1, show n - m * n.tdiv m + m = n + m * (1 - n.tdiv m) by rw [Int.mul_sub, Int.mul_one]; omega, Int.add_mul_emod_self_left]
set_option maxHeartbeats 4000000 in
theorem rem_any (n : Int) (m : Nat) (B : Nat) (w : World) (hB : w.cell? ⟨B, 0, none⟩ = some (.int .i64 m)) (hm : 1 ≤ m) (hm2 : m ≤ 1000) (hn : -1000000000 ≤ n ∧ n ≤ 1000000000) :
    Calls Try.prog 97 #[.int .i64 n, .pointer (some ⟨B, 0, none⟩)] w fun e w' => e = .returned (.int .i64 (n % m)) ∧ ∃ q, w' = w.drewN q := by
  have hb : ((m : Int) == 0) = false := by rw [beq_eq_false_iff_ne]; omega
  have h0 : ¬ (m : Int) = 0 := by omega
  have h00 : ¬ m = 0 := by omega
  have h3 := rem_num n m (by omega)
  have h1 : -(m : Int) < Int.tmod n m := tmod_bound n m (by omega)
  have h2 := Int.tmod_lt_of_pos n (show (0 : Int) < m by omega)
  obtain ⟨t, ht⟩ : ∃ t, Int.tmod n m = t := ⟨_, rfl⟩
  rw [ht] at h1 h2 h3
  have hw0 : wrap64 t = t := IntWalk.wrap64_in _ (by omega)
  have hw1 : IntKind.i64.wrap t = t := IntWalk.i64_in _ (by omega)
  have hw2 : IntKind.i64.wrap (t + m) = t + m := IntWalk.i64_in _ (by omega)
  have hw3 : wrap64 (t + m) = t + m := IntWalk.wrap64_in _ (by omega)
  have h4 := Int.emod_nonneg n h0
  have h5 := Int.emod_lt_of_pos n (show (0 : Int) < m by omega)
  obtain ⟨r, hr⟩ : ∃ r, n % (m : Int) = r := ⟨_, rfl⟩
  rw [hr] at h3 h4 h5
  have hw4 : IntKind.i64.wrap r = r := IntWalk.i64_in _ (by omega)
  have hw5 : wrap64 r = r := IntWalk.wrap64_in _ (by omega)
  rw [hr]
  clear hr h1 h2 h4 h5 hn
  go_enter Try.func97, Try.ntmps97
  go_wp2
  go_quiet (fail)
  go_wp2
  go_ret
  exact ⟨rfl, _, rfl⟩
end Go.Proofs.Ytndbjojjaapeaaa

/- The law for a range over a function, where the round lays a box for what it is handed. -/
namespace Go.Proofs.Ytndbjojjaapeaaa
set_option linter.unusedVariables false
open Go.RowKit

variable {F : Fence} {n : Nat} {P : Program}

theorem range_visits_box {α : Type} {g : Operand} {ps : Array Tmp} {assign body : Code} {Q : Exit → Act → World → Prop} {a : Act} {w : World}
    (hro : F.round = none) (h1 : 1 ≤ n) {gf : Nat} {lb : Array Value} (hg : a.eval g = .func (.func gf) #[] lb) (hFg : F.fn gf) (eg : ∀ args w, (callFunc gf args).run P w = .ok (.enter gf args) w)
    {encs : α → Array Value} {T : Nat} {S Sp : List α → Prop} {N : Nat} (hT : T ≤ w.heap.size) (hseq : ∀ W, w.grownBy W none → Visits F (n - 1) P gf lb encs T S Sp N W) (hps : ∀ x, (encs x).size = ps.size)
    (I : List α → World → Prop) (Ix : Code → List α → World → Prop) (hI : Bears w.heap.size I) (hIx : ∀ c, Bears w.heap.size (Ix c)) (h0 : I [] w) (ob : α → Obj) (a₁ : α → Nat → Act)
    (hassign : ∀ (l : Nat) (x : α) (W : World) (K : Act → World → Prop), K (a₁ x W.heap.size) (W.alloc (ob x)) →
      assign.wpIn (F.inRound l) (n - 1 - 1) P (Exit.then K (fun _ _ _ => False)) { tmps := (ps.zip (encs x)).foldl (fun t (p, v) => t.setIfInBounds p v) a.tmps, defers := [] } W)
    (hbody : ∀ (l : Nat) (pre : List α) (x : α) (B : Nat) (W : World), I pre W → W.heap[B]? = some (ob x) → w.heap.size ≤ B → pre.length < N → body.wpIn (F.inRound l) (n - 1 - 1) P (roundEnds T I Ix (pre ++ [x]) W) (a₁ x B) W)
    (hdone : ∀ (D : Nat) (xs : List α) (W : World), w.heap.size ≤ D → S xs → I xs W → W.heap[D]? = some (.deferred (some [])) → Q .normal { a with defers := { target := .collected D, args := #[] } :: a.defers } W)
    (hstop : ∀ (D : Nat) (c : Code) (pre : List α) (W : World), w.heap.size ≤ D → Sp pre → Ix c pre W → W.heap[D]? = some (.deferred (some [])) → c.wpIn F n P Q { a with defers := { target := .collected D, args := #[] } :: a.defers } W) :
    (Code.rangeFunc g ps assign body).wpIn F n P Q a w := by
  refine wpIn_rangeFunc (fun fn hfn => ?_)
  rw [hro]
  -- the two blocks of the loop: D for the deferred calls, L for its record
  obtain ⟨D, hD⟩ : ∃ D, w.heap.size = D := ⟨_, rfl⟩
  obtain ⟨rec, hrec⟩ : ∃ rec : LoopState → Option Code → Loop, rec = fun st jump => { state := st, pending := jump, fn, tmps := a.tmps, params := ps, assign, body, defers := D } := ⟨_, rfl⟩
  obtain ⟨V, hV⟩ : ∃ V, (w.alloc (.deferred (some []))).alloc (.loop (rec .ready none)) = V := ⟨_, rfl⟩
  have vs : V.heap.size = D + 1 + 1 := by rw [← hV, ← hD]; simp
  have vL : V.heap[D + 1]? = some (.loop (rec .ready none)) := by
    rw [← hV, ← hD]; have h := World.alloc_heap_new (w.alloc (.deferred (some []))) (.loop (rec .ready none)); rwa [World.size_alloc] at h
  have vD : V.heap[D]? = some (.deferred (some [])) := by
    rw [← hV, ← hD]; exact (Below.heap_alloc _ _ _ (by simp)).trans (World.alloc_heap_new w _)
  have vg : w.grownBy V none := by
    rw [← hV]
    have k1 := World.grownBy_alloc w (.deferred (some [])) none
    have k2 := World.grownBy_alloc (w.alloc (.deferred (some []))) (.loop (rec .ready none)) none
    exact k1.trans k2
  have vI : I [] V := by rw [← hV]; exact hI.new _ (hI.new _ h0)
  rw [hD] at hI hIx hT
  -- what holds between two rounds, and behind the last one
  let J : List α → World → Prop := fun pre W => I pre W ∧ W.heap[D + 1]? = some (.loop (rec .ready none)) ∧ W.heap[D]? = some (.deferred (some []))
  let Jx : List α → World → Prop := fun pre W => ∃ c, Ix c pre W ∧ W.heap[D + 1]? = some (.loop (rec .done (some c))) ∧ W.heap[D]? = some (.deferred (some []))
  have far : ∀ {A B : World} {row : Option Nat} {k : Nat} {o : Obj}, k < V.heap.size → A.grownBy B row → (∀ r, row = some r → V.heap.size ≤ r) → A.heap[k]? = some o → B.heap[k]? = some o := fun hk hg hr ho =>
    (hg.block _ (Array.getElem?_eq_some_iff.1 ho).1 (fun e => by have := hr _ e.symm; omega)).trans ho
  have bJ : Bears V.heap.size J := fun s A B row hs hg' hr => ⟨hI s A B row hs.1 hg' (fun r e => by have := hr r e; omega), far (by omega) hg' hr hs.2.1, far (by omega) hg' hr hs.2.2⟩
  have bJx : Bears V.heap.size Jx := fun s A B row ⟨c, hc, hl, hk⟩ hg' hr => ⟨c, hIx c s A B row hc hg' (fun r e => by have := hr r e; omega), far (by omega) hg' hr hl, far (by omega) hg' hr hk⟩
  refine ⟨D + 1, [{ target := .collected D, args := #[] }], V, { target := .fn (.func gf) lb, args := #[.func (.yield (D + 1)) #[] #[]] }, V, gf, #[.func (.yield (D + 1)) #[] #[]] ++ lb, V, ?_, ?_, ?_, ?_, fun _ => h1, ?_⟩
  · rw [← hV, hrec, ← hD]; exact run_enterLoop_outer _ _ _ _ _
  · simp only [resolve, hg]; simp [go_sem]
  · intro f hf; simp [Target.leads] at hf; subst hf; exact hFg
  · simp [invoke, go_sem, eg]
  refine (hseq V vg (D + 1) J Jx bJ bJx ?_ ⟨vI, vL, vD⟩).mono ?_
  · rintro pre x W ⟨hi, hl, hk⟩ hlen
    have hlt : D + 1 < W.heap.size := (Array.getElem?_eq_some_iff.1 hl).1
    have hy := run_yield (P := P) (args := encs x) hl (by rw [hrec]; exact hps x)
    rw [hrec] at hy
    refine ⟨fn, _, assign, body, hy, roundIn_of_wpIn hfn (hassign _ x W _ ⟨_, run_beginRound ((Below.heap_alloc W (ob x) (D + 1) hlt).trans hl) (by rw [hrec]), ?_⟩)⟩
    obtain ⟨W2, hW2⟩ : ∃ W2, (W.alloc (ob x)).putObj (D + 1) (.loop { rec .ready none with state := .busy }) = W2 := ⟨_, rfl⟩
    have l2 : W2.heap[D + 1]? = some (.loop { rec .ready none with state := .busy }) := by rw [← hW2]; exact World.putObj_heap_same (by simp; omega)
    have k2 : W2.heap[D]? = some (.deferred (some [])) := by rw [← hW2]; exact (World.putObj_heap_other (by omega)).trans ((Below.heap_alloc W (ob x) D (by omega)).trans hk)
    have i2 : I pre W2 := by rw [← hW2]; exact hI.put _ (hI.new _ hi) (by omega)
    have oth2 : ∀ k, k ≠ D + 1 → k < W.heap.size → W2.heap[k]? = W.heap[k]? := fun k hne hk => by rw [← hW2]; exact (World.putObj_heap_other hne).trans (Below.heap_alloc W (ob x) k hk)
    have s2 : W2.heap.size = W.heap.size + 1 := by rw [← hW2]; simp
    have x2 : W2.heap[W.heap.size]? = some (ob x) := by rw [← hW2]; exact (World.putObj_heap_other (by omega)).trans (World.alloc_heap_new W (ob x))
    -- the end of a round, whichever way it is left
    have fin : ∀ (jump : Option Code) (W3 : World), KeepsAt T W2 W3 → ∃ W4, (Instr.endRound (D + 1) jump).run P W3 = .ok (.bool jump.isNone) W4 ∧ W4 = W3.putObj (D + 1) (.loop (rec (if jump.isNone then .ready else .done) jump)) ∧
        W4.heap[D + 1]? = some (.loop (rec (if jump.isNone then .ready else .done) jump)) ∧ W4.heap[D]? = some (.deferred (some [])) := fun jump W3 hk3 => by
      have hl3 := hk3.same _ _ (by omega) l2
      have hrun := run_endRound (P := P) jump hl3
      rw [hrec] at hrun ⊢
      exact ⟨_, hrun, rfl, World.putObj_heap_same (Array.getElem?_eq_some_iff.1 hl3).1, (World.putObj_heap_other (by omega)).trans (hk3.same _ _ (by omega) k2)⟩
    rw [hW2]
    refine wpIn_mono (hbody _ pre x W.heap.size W2 i2 x2 (by omega) hlen) ?_
    intro e a3 W3 hp
    have left : ∀ c, KeepsAt T W2 W3 → Ix c (pre ++ [x]) W3 → ∃ v W4, (Instr.endRound (D + 1) (some c)).run P W3 = .ok v W4 ∧ ((Ending.returned v = .returned (.bool true) ∧ J (pre ++ [x]) W4 ∧ KeepsAt T W W4) ∨ (Ending.returned v = .returned (.bool false) ∧ Jx (pre ++ [x]) W4)) := fun c hk3 hi3 => by
      obtain ⟨W4, hr, rfl, hl4, hk4⟩ := fin (some c) W3 hk3
      exact ⟨_, _, hr, .inr ⟨rfl, c, (hIx c).put _ hi3 (by omega), hl4, hk4⟩⟩
    cases e with
    | normal =>
      obtain ⟨hk3, hi3⟩ := hp
      obtain ⟨W4, hr, rfl, hl4, hk4⟩ := fin none W3 hk3
      refine ⟨_, _, hr, .inl ⟨rfl, ⟨hI.put _ hi3 (by omega), hl4, hk4⟩, ?_⟩⟩
      refine ⟨by have := hk3.size; simp; omega, fun k o hT' ho => ?_⟩
      by_cases hkl : k = D + 1
      · subst hkl
        rw [hl] at ho
        cases ho
        exact hl4
      · exact (World.putObj_heap_other hkl).trans (hk3.same k o hT' ((oth2 k hkl (Array.getElem?_eq_some_iff.1 ho).1).trans ho))
    | ret => exact left .ret hp.1 hp.2
    | exit i => exact left (.exit i) hp.1 hp.2
    | goto t => exact left (.goto t) hp.1 hp.2
    | panic c => exact hp.elim
    | outgrown => exact hp.elim
  · rintro e W2 ⟨⟨v, rfl⟩, (⟨xs, hS, hi, hl, hk⟩ | ⟨pre, hSp, c, hi, hl, hk⟩)⟩
    all_goals
      have hend := run_endLoop (P := P) hl (by rw [hrec]; simp)
      rw [hrec] at hend
    · exact ⟨none, _, hend, hdone D xs _ (by omega) hS (hI.put _ hi (by omega)) ((World.putObj_heap_other (by omega)).trans hk)⟩
    · exact ⟨some c, _, hend, hstop D c pre _ (by omega) hSp ((hIx c).put _ hi (by omega)) ((World.putObj_heap_other (by omega)).trans hk)⟩
end Go.Proofs.Ytndbjojjaapeaaa

/- A region that draws its order, by an invariant over what is carried out; also in a round of a range over a function. -/
namespace Go.Proofs.Ytndbjojjaapeaaa
set_option linter.unusedVariables false
open Go.RowKit

theorem listed_false {L : Array Bool} {i : Nat} (h : L.getD i true = false) : ∃ hi : i < L.size, L[i] = false := by
  by_cases hi : i < L.size
  · refine ⟨hi, ?_⟩; simpa [hi] using h
  · simp [hi] at h
theorem count_set {L : Array Bool} {i : Nat} (h : L.getD i true = false) : (L.setIfInBounds i true).toList.count false + 1 = L.toList.count false := by
  obtain ⟨hi, hf⟩ := listed_false h
  have hl : i < L.toList.length := by simpa using hi
  have hg : L.toList[i] = false := by simpa using hf
  rw [Array.toList_setIfInBounds, List.count_set hl, hg]
  have : 1 ≤ L.toList.count false := List.one_le_count_iff.2 (List.mem_of_getElem hg)
  rw [if_pos (by rfl), if_neg (by decide)]
  omega

theorem any_inv {F : Fence} {n : Nat} {P : Program} {ops : Array Oper} {Q : Exit → Act → World → Prop} (Inv : Array Bool → Act → World → Prop)
    (hstep : ∀ L a w, Inv L a w → ∀ i, i ∈ Region.ready .any ops L → wpOpIn F n P ops Q i (Inv (L.setIfInBounds i true)) a w)
    (hdone : ∀ L a w, Inv L a w → Region.ready .any ops L = [] → Q .normal a w) : ∀ (fuel : Nat) (L : Array Bool) (a : Act) (w : World), L.toList.count false ≤ fuel → Inv L a w → wpAnyIn F n P .any ops Q fuel L a w
  | 0, L, a, w, hf, hI => by
    have hr : Region.ready .any ops L = [] := by
      refine List.eq_nil_iff_forall_not_mem.2 fun i hi => ?_
      have := count_set (mem_ready.1 hi).1
      omega
    exact ⟨hr, hdone L a w hI hr⟩
  | fuel + 1, L, a, w, hf, hI => by
    refine ⟨hdone L a w hI, fun i hi => ?_⟩
    have hc := count_set (mem_ready.1 hi).1
    exact wpOpIn_mono (fun a' w' h => any_inv Inv hstep hdone fuel _ a' w' (by omega) h) (hstep L a w hI i hi)

theorem region_inv {F : Fence} {n : Nat} {P : Program} {ops : Array Oper} {Q : Exit → Act → World → Prop} {id : Nat} {a : Act} {w : World} (hm : P.follows .mixedOrders = true) (Inv : Array Bool → Act → World → Prop)
    (h0 : Inv (Array.replicate ops.size false) a w.drew)
    (hstep : ∀ L a w, Inv L a w → ∀ i, i ∈ Region.ready .any ops L → wpOpIn F n P ops Q i (Inv (L.setIfInBounds i true)) a w)
    (hdone : ∀ L a w, Inv L a w → Region.ready .any ops L = [] → Q .normal a w) : (Code.region id ops true).wpIn F n P Q a w := by
  refine wpIn_region_any hm (any_inv Inv hstep hdone _ _ a _ ?_ h0)
  rw [Array.toList_replicate, List.count_replicate]
  simp

/-- a slot: what an operation yields once it is carried out -/
def pk (b : Bool) (v u : Value) : Value := bif b then v else u
theorem pk_true (v u : Value) : pk true v u = v := rfl

theorem region_inv' {F : Fence} {n : Nat} {P : Program} {ops : Array Oper} {Q : Exit → Act → World → Prop} {id : Nat} {a : Act} {w : World} (hm : P.follows .mixedOrders = true) (Inv : Array Bool → Act → World → Prop) (A : Act) (W' : World)
    (h0 : Inv (Array.replicate ops.size false) a w.drew)
    (hstep : ∀ (Q : Exit → Act → World → Prop) L a w, Inv L a w → ∀ i, i ∈ Region.ready .any ops L → wpOpIn F n P ops Q i (Inv (L.setIfInBounds i true)) a w)
    (hdone : ∀ L a w, Inv L a w → Region.ready .any ops L = [] → a = A ∧ w = W') (hfin : Q .normal A W') : (Code.region id ops true).wpIn F n P Q a w :=
  region_inv hm Inv h0 (hstep Q) fun L a w hI hr => by
    obtain ⟨rfl, rfl⟩ := hdone L a w hI hr
    exact hfin
theorem ready_nil {ops : Array Oper} {L : Array Bool} (hr : Region.ready .any ops L = []) {i : Nat} (hi : i < ops.size) (hd : ∀ o, ops[i]? = some o → ∀ e ∈ o.after, Region.binds .any e = true → L.getD e.on false = true) : L.getD i true = true := by
  cases h : L.getD i true with
  | true => rfl
  | false =>
    have := mem_ready.2 ⟨h, ops[i], Array.getElem?_eq_getElem hi, hd _ (Array.getElem?_eq_getElem hi)⟩
    rw [hr] at this
    cases this
end Go.Proofs.Ytndbjojjaapeaaa

/- How a function with ended ranges is left. -/
namespace Go.Proofs.Ytndbjojjaapeaaa
set_option linter.unusedVariables false
open Go.RowKit Go.Shelf
attribute [local go_sem] Oper.semAt_some

/-- a block for deferred calls, as a range over a function leaves it -/
def markD (D : Nat) : Deferred := { target := .collected D, args := #[] }

/-- the blocks of the ranges that have ended lie open -/
def Marks (n₀ : Nat) (Ds : List Nat) (W : World) : Prop := Ds.Nodup ∧ ∀ D, D ∈ Ds → n₀ ≤ D ∧ W.heap[D]? = some (.deferred (some []))
theorem leaves_marks {F : Fence} {n : Nat} {P : Program} {fn : Func} {tmps : Array Value} {R : Ending → World → Prop} {u : FrameMode} (hu : u ≠ .run) {n₀ : Nat} {Φ : World → Prop}
    (hΦ : ∀ W D, Φ W → n₀ ≤ D → W.heap[D]? = some (.deferred (some [])) → Φ (W.putObj D (.deferred none))) (hend : ∀ W, Φ W → LeavesInM F n P fn tmps R [] u W) :
    ∀ Ds W, Marks n₀ Ds W → Φ W → LeavesInM F n P fn tmps R (Ds.map markD) u W
  | [], W, _, h => hend W h
  | D :: Ds, W, hM, h => by
    have hD := hM.2 D (by simp)
    refine ⟨hu, .inl ⟨D, _, rfl, run_takeDeferred hD.2, ?_⟩⟩
    refine leaves_marks hu hΦ hend Ds _ ⟨(List.nodup_cons.1 hM.1).2, fun D' h' => ⟨(hM.2 D' (by simp [h'])).1, ?_⟩⟩ (hΦ W D h hD.1 hD.2)
    rw [World.putObj_heap_other (by rintro rfl; exact (List.nodup_cons.1 hM.1).1 h')]
    exact (hM.2 D' (by simp [h'])).2
theorem Marks.push {n₀ : Nat} {Ds : List Nat} {W W' : World} (h : Marks n₀ Ds W) {D : Nat} (hD : W.heap.size ≤ D) (h0 : n₀ ≤ D) (hW : ∀ D, D ∈ Ds → W'.heap[D]? = some (.deferred (some []))) (hK : W'.heap[D]? = some (.deferred (some []))) : Marks n₀ (D :: Ds) W' := by
  refine ⟨List.nodup_cons.2 ⟨fun hm => ?_, h.1⟩, fun D' h' => ?_⟩
  · have := (Array.getElem?_eq_some_iff.1 (h.2 D hm).2).1; omega
  · rcases List.mem_cons.1 h' with rfl | h'
    · exact ⟨h0, hK⟩
    · exact ⟨(h.2 D' h').1, hW D' h'⟩

/-- one range has ended: its mark is taken -/
theorem leaves_one {F : Fence} {n : Nat} {P : Program} {fn : Func} {tmps : Array Value} {R : Ending → World → Prop} {u : FrameMode} (hu : u ≠ .run) {n₀ : Nat} {Φ : World → Prop}
    (hΦ : ∀ W D, Φ W → n₀ ≤ D → W.heap[D]? = some (.deferred (some [])) → Φ (W.putObj D (.deferred none))) (hend : ∀ W, Φ W → LeavesInM F n P fn tmps R [] u W)
    (D : Nat) (W : World) (hD : n₀ ≤ D) (hK : W.heap[D]? = some (.deferred (some []))) (h : Φ W) : LeavesInM F n P fn tmps R [markD D] u W :=
  leaves_marks hu hΦ hend [D] W ⟨by simp, fun D' h' => by rw [List.mem_singleton] at h'; subst h'; exact ⟨hD, hK⟩⟩ h
end Go.Proofs.Ytndbjojjaapeaaa
