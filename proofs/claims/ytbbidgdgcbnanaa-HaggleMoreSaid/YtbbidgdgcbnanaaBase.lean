/- Words that the texts share: rows of numbers, tables, aggregates in memory. -/
import Derived.Test.YtbbidgdgcbnanaaRows
import Derived.Test.YtbbidgdgcbnanaaProg
import Derived.WalkKit
import Derived.WalkSpells
import Derived.WalkLawsBesides
import Derived.Deep.QuietTactic
import Derived.BigQuiet
import Derived.Handy
import Derived.Lib.Hide
import Derived.Laws.OwnMore
import Derived.Laws.EntriesVeiled
import Derived.Maps.AppendAt
import Derived.Deep.RegionHeld3
import Derived.Deep.RegionWith
import Derived.StillTailTactics
import Derived.Outline
namespace Go.Proofs.Ytbbidgdgcbnanaa
set_option linter.unusedVariables false
open Go.RowKit

theorem ret_int {k : IntKind} {a b : Int} (h : a = b) : Ending.returned (.int k a) = .returned (.int k b) := by rw [h]
theorem ret_bool {a b : Bool} (h : a = b) : Ending.returned (.bool a) = .returned (.bool b) := by rw [h]
theorem b_next {w a b : World} (h : Below w.heap.size w a) (k : Below a.heap.size a b) : Below w.heap.size w b := h.trans (k.mono h.size)
theorem below_drewN {B : Nat} {a w : World} (h : Below B a w) (n : Nat) : Below B a (w.drewN n) := h.trans ⟨rfl, rfl, rfl, Nat.le_refl _, fun _ _ => rfl⟩
theorem below_alloc (w : World) (o : Obj) : Below w.heap.size w (w.alloc o) := (Below.refl _ _).alloc (Nat.le_refl _) _
theorem info_int : (Try.prog.info? 3).map (fun i => (i.zero, i.size, i.bytes)) = some (some (.int .i64 0), 1, 8) := by kernel_rfl
theorem info_ints : (Try.prog.info? 27).map (fun i => (i.zero, i.size, i.bytes)) = some (some (.slice none 0 0), 1, 24) := by kernel_rfl

theorem ownsRow_open {w : World} {base n : Nat} {e : TypeId} {v : Value} {xs : List Value} (h : w.ownsRow base e 1 v n xs) :
    ∃ a cap, v = .slice a n cap ∧ xs.length = n ∧ (0 < n → ∃ g, a = some ⟨g, 0, none⟩ ∧ base ≤ g ∧ g < w.heap.size ∧ ∀ j u, xs[j]? = some u → w.cell? ⟨g, j, none⟩ = some u) := by
  have hlen := h.1
  have hcells := fun g (hg : v.ownBlock = some g) => h.cells hg
  rcases h.2 with ⟨rfl, rfl⟩ | ⟨g, cap, cur, rfl, hb, hg, _⟩
  · exact ⟨none, 0, rfl, by omega, fun h => absurd h (by omega)⟩
  · refine ⟨_, cap, rfl, by omega, fun _ => ⟨g, rfl, hb, (Array.getElem?_eq_some_iff.1 hg).1, fun j u hu => ?_⟩⟩
    have := hcells g rfl j u hu
    rwa [show ((⟨g, 0, none⟩ : Addr).add j) = ⟨g, j, none⟩ from by unfold Addr.add; split <;> simp_all] at this

/-- the slice at a holds the values vs -/
def Row (w : World) (a : Option Addr) (n : Nat) (vs : List Value) : Prop :=
  vs.length = n ∧ (0 < n → ∃ g, a = some ⟨g, 0, none⟩ ∧ g < w.heap.size ∧ ∀ j u, vs[j]? = some u → w.cell? ⟨g, j, none⟩ = some u)
theorem Row.of_own {w : World} {base n : Nat} {e : TypeId} {v : Value} {xs : List Value} (h : w.ownsRow base e 1 v n xs) : ∃ a cap, v = .slice a n cap ∧ Row w a n xs := by
  obtain ⟨a, cap, hv, hl, hc⟩ := ownsRow_open h
  exact ⟨a, cap, hv, hl, fun hn => by obtain ⟨g, h1, _, h3, h4⟩ := hc hn; exact ⟨g, h1, h3, h4⟩⟩
theorem Row.below {w w' : World} {a : Option Addr} {n : Nat} {vs : List Value} (h : Row w a n vs) (hb : Below w.heap.size w w') : Row w' a n vs :=
  ⟨h.1, fun hn => by obtain ⟨g, h1, h3, h4⟩ := h.2 hn; exact ⟨g, h1, Nat.lt_of_lt_of_le h3 hb.size, fun j u hu => (hb.cell (p := ⟨g, j, none⟩) h3).trans (h4 j u hu)⟩⟩
theorem Row.drewN {w : World} {a : Option Addr} {n : Nat} {vs : List Value} (h : Row w a n vs) (q : Nat) : Row (w.drewN q) a n vs := h
theorem Row.built {w : World} (t : TypeId) (vs : List Value) : Row (w.alloc (.cells vs.toArray t)) (some ⟨w.heap.size, 0, none⟩) vs.length vs :=
  ⟨rfl, fun _ => ⟨_, rfl, by simp, fun j u hu => by rw [World.cell?_alloc_at _ _ _ _ rfl]; simpa using hu⟩⟩
def intL (xs : List Int) : List Value := xs.map (Value.int .i64)
theorem intL_length (xs : List Int) : (intL xs).length = xs.length := List.length_map _
theorem intL_get {xs : List Int} {k : Nat} {x : Int} (h : xs[k]? = some x) : (intL xs)[k]? = some (.int .i64 x) := by simp [intL, h]
theorem Row.int {w : World} {a : Option Addr} {n k : Nat} {xs : List Int} (h : Row w a n (intL xs)) (hk : k < n) : ∃ g, a = some ⟨g, 0, none⟩ ∧ w.cell? ⟨g, k, none⟩ = some (.int .i64 (xs.getD k 0)) := by
  obtain ⟨g, rfl, _, hc⟩ := h.2 (by omega)
  have hl : k < xs.length := by have := h.1; rw [intL_length] at this; omega
  exact ⟨g, rfl, hc k _ (intL_get (by rw [List.getD_eq_getElem?_getD, List.getElem?_eq_getElem hl]; rfl))⟩
theorem rel_push {w wr wx w1 : World} {base : Nat} {e : TypeId} {v : Value} {k size : Nat} {xs : List Value} (hB : Below base w wr) (hb : base ≤ wx.heap.size) (hx : Below base wr wx) (hown : wr.ownsRow base e size v k xs)
    (hg : wx.grownBy w1 v.ownBlock) : Below base w w1 :=
  (hB.trans hx).grown hg hb (fun j hj => (hown.lt j hj).1)

/-- the table at a holds the rows of C -/
def Tbl (w : World) (a : Option Addr) (C : List (List Int)) : Prop :=
  0 < C.length → ∃ g, a = some ⟨g, 0, none⟩ ∧ g < w.heap.size ∧ ∀ i row, C[i]? = some row → ∃ ra rc, w.cell? ⟨g, i, none⟩ = some (.slice ra row.length rc) ∧ row.length ≤ rc ∧ Row w ra row.length (intL row)
theorem Tbl.below {w w' : World} {a : Option Addr} {C : List (List Int)} (h : Tbl w a C) (hb : Below w.heap.size w w') : Tbl w' a C := fun hn => by
  obtain ⟨g, h1, h2, h3⟩ := h hn
  refine ⟨g, h1, Nat.lt_of_lt_of_le h2 hb.size, fun i row hi => ?_⟩
  obtain ⟨ra, rc, c1, c2, c3⟩ := h3 i row hi
  exact ⟨ra, rc, (hb.cell (p := ⟨g, i, none⟩) h2).trans c1, c2, c3.below hb⟩
theorem Tbl.drewN {w : World} {a : Option Addr} {C : List (List Int)} (h : Tbl w a C) (q : Nat) : Tbl (w.drewN q) a C := h
theorem Tbl.row {w : World} {a : Option Addr} {C : List (List Int)} (h : Tbl w a C) {i : Nat} {row : List Int} (hi : C[i]? = some row) :
    ∃ g ra rc, a = some ⟨g, 0, none⟩ ∧ g < w.heap.size ∧ w.cell? ⟨g, i, none⟩ = some (.slice ra row.length rc) ∧ row.length ≤ rc ∧ Row w ra row.length (intL row) := by
  obtain ⟨g, h1, h2, h3⟩ := h (by obtain ⟨h, _⟩ := List.getElem?_eq_some_iff.1 hi; omega)
  obtain ⟨ra, rc, c⟩ := h3 i row hi
  exact ⟨g, ra, rc, h1, h2, c⟩

/-- costs -/
def rowB (n : Nat) (row : List Int) : Bool := decide (row.length = n ∧ ∀ x ∈ row, -1000 ≤ x ∧ x ≤ 1000)
def costsB (C : List (List Int)) : Bool := decide (1 ≤ C.length ∧ C.length ≤ 7) && C.all (rowB C.length)
/-- the cost of the pair i, j -/
def cost (C : List (List Int)) (i j : Nat) : Int := (C.getD i []).getD j 0
end Go.Proofs.Ytbbidgdgcbnanaa
