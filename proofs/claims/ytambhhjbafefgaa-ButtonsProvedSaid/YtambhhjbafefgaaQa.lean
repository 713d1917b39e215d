/- Texts of buttons, joined: Base, Costs, Way, Cmp, Ord, Min, Bits, Memo, First, Firstb, FirstOf. -/
import Derived.Test.YtambhhjbafefgaaRows
import Derived.Test.YtambhhjbafefgaaShelf
import Derived.WalkKit
import Derived.WalkSpells
import Derived.WalkLawsBesides
import Derived.Deep.QuietTactic
import Derived.BigQuiet
import Derived.Handy
import Derived.Lib.Hide
import Derived.Laws.OwnMore
import Derived.Laws.EntriesVeiled
import Derived.Maps.AppendAt
import Derived.Deep.RegionHeld3
import Derived.Deep.RegionWith
import Derived.StillTailTactics
import Derived.Outline
import Derived.Laws.CopyOwn
import Derived.DeepKeys4
import Derived.Maps.OwnOps
import Derived.Maps.OwnSet
import Derived.Maps.StringElems
/- Words that the texts share: rows of numbers, tables, aggregates in memory. -/
namespace Go.Proofs.Ytambhhjbafefgaa
set_option linter.unusedVariables false
open Go.RowKit

theorem ret_int {k : IntKind} {a b : Int} (h : a = b) : Ending.returned (.int k a) = .returned (.int k b) := by rw [h]
theorem ret_bool {a b : Bool} (h : a = b) : Ending.returned (.bool a) = .returned (.bool b) := by rw [h]
theorem b_next {w a b : World} (h : Below w.heap.size w a) (k : Below a.heap.size a b) : Below w.heap.size w b := h.trans (k.mono h.size)
theorem below_drewN {B : Nat} {a w : World} (h : Below B a w) (n : Nat) : Below B a (w.drewN n) := h.trans ⟨rfl, rfl, rfl, Nat.le_refl _, fun _ _ => rfl⟩
theorem below_alloc (w : World) (o : Obj) : Below w.heap.size w (w.alloc o) := (Below.refl _ _).alloc (Nat.le_refl _) _
theorem info_int : (Try.prog.info? 3).map (fun i => (i.zero, i.size, i.bytes)) = some (some (.int .i64 0), 1, 8) := by kernel_rfl
theorem info_ints : (Try.prog.info? 24).map (fun i => (i.zero, i.size, i.bytes)) = some (some (.slice none 0 0), 1, 24) := by kernel_rfl

theorem ownsRow_open {w : World} {base n : Nat} {e : TypeId} {v : Value} {xs : List Value} (h : w.ownsRow base e 1 v n xs) :
    ∃ a cap, v = .slice a n cap ∧ xs.length = n ∧ (0 < n → ∃ g, a = some ⟨g, 0, none⟩ ∧ base ≤ g ∧ g < w.heap.size ∧ ∀ j u, xs[j]? = some u → w.cell? ⟨g, j, none⟩ = some u) := by
  have hlen := h.1
  have hcells := fun g (hg : v.ownBlock = some g) => h.cells hg
  rcases h.2 with ⟨rfl, rfl⟩ | ⟨g, cap, cur, rfl, hb, hg, _⟩
  · exact ⟨none, 0, rfl, by omega, fun h => absurd h (by omega)⟩
  · refine ⟨_, cap, rfl, by omega, fun _ => ⟨g, rfl, hb, (Array.getElem?_eq_some_iff.1 hg).1, fun j u hu => ?_⟩⟩
    have := hcells g rfl j u hu
    rwa [show ((⟨g, 0, none⟩ : Addr).add j) = ⟨g, j, none⟩ from by unfold Addr.add; split <;> simp_all] at this

/-- the slice at a holds the values vs -/
def Row (w : World) (a : Option Addr) (n : Nat) (vs : List Value) : Prop :=
  vs.length = n ∧ (0 < n → ∃ g, a = some ⟨g, 0, none⟩ ∧ g < w.heap.size ∧ ∀ j u, vs[j]? = some u → w.cell? ⟨g, j, none⟩ = some u)
theorem Row.of_own {w : World} {base n : Nat} {e : TypeId} {v : Value} {xs : List Value} (h : w.ownsRow base e 1 v n xs) : ∃ a cap, v = .slice a n cap ∧ Row w a n xs := by
  obtain ⟨a, cap, hv, hl, hc⟩ := ownsRow_open h
  exact ⟨a, cap, hv, hl, fun hn => by obtain ⟨g, h1, _, h3, h4⟩ := hc hn; exact ⟨g, h1, h3, h4⟩⟩
theorem Row.below {w w' : World} {a : Option Addr} {n : Nat} {vs : List Value} (h : Row w a n vs) (hb : Below w.heap.size w w') : Row w' a n vs :=
  ⟨h.1, fun hn => by obtain ⟨g, h1, h3, h4⟩ := h.2 hn; exact ⟨g, h1, Nat.lt_of_lt_of_le h3 hb.size, fun j u hu => (hb.cell (p := ⟨g, j, none⟩) h3).trans (h4 j u hu)⟩⟩
theorem Row.drewN {w : World} {a : Option Addr} {n : Nat} {vs : List Value} (h : Row w a n vs) (q : Nat) : Row (w.drewN q) a n vs := h
theorem Row.built {w : World} (t : TypeId) (vs : List Value) : Row (w.alloc (.cells vs.toArray t)) (some ⟨w.heap.size, 0, none⟩) vs.length vs :=
  ⟨rfl, fun _ => ⟨_, rfl, by simp, fun j u hu => by rw [World.cell?_alloc_at _ _ _ _ rfl]; simpa using hu⟩⟩
def intL (xs : List Int) : List Value := xs.map (Value.int .i64)
theorem intL_length (xs : List Int) : (intL xs).length = xs.length := List.length_map _
theorem intL_get {xs : List Int} {k : Nat} {x : Int} (h : xs[k]? = some x) : (intL xs)[k]? = some (.int .i64 x) := by simp [intL, h]
theorem Row.int {w : World} {a : Option Addr} {n k : Nat} {xs : List Int} (h : Row w a n (intL xs)) (hk : k < n) : ∃ g, a = some ⟨g, 0, none⟩ ∧ w.cell? ⟨g, k, none⟩ = some (.int .i64 (xs.getD k 0)) := by
  obtain ⟨g, rfl, _, hc⟩ := h.2 (by omega)
  have hl : k < xs.length := by have := h.1; rw [intL_length] at this; omega
  exact ⟨g, rfl, hc k _ (intL_get (by rw [List.getD_eq_getElem?_getD, List.getElem?_eq_getElem hl]; rfl))⟩
theorem rel_push {w wr wx w1 : World} {base : Nat} {e : TypeId} {v : Value} {k size : Nat} {xs : List Value} (hB : Below base w wr) (hb : base ≤ wx.heap.size) (hx : Below base wr wx) (hown : wr.ownsRow base e size v k xs)
    (hg : wx.grownBy w1 v.ownBlock) : Below base w w1 :=
  (hB.trans hx).grown hg hb (fun j hj => (hown.lt j hj).1)

/-- the table at a holds the rows of C -/
def Tbl (w : World) (a : Option Addr) (C : List (List Int)) : Prop :=
  0 < C.length → ∃ g, a = some ⟨g, 0, none⟩ ∧ g < w.heap.size ∧ ∀ i row, C[i]? = some row → ∃ ra rc, w.cell? ⟨g, i, none⟩ = some (.slice ra row.length rc) ∧ row.length ≤ rc ∧ Row w ra row.length (intL row)
theorem Tbl.below {w w' : World} {a : Option Addr} {C : List (List Int)} (h : Tbl w a C) (hb : Below w.heap.size w w') : Tbl w' a C := fun hn => by
  obtain ⟨g, h1, h2, h3⟩ := h hn
  refine ⟨g, h1, Nat.lt_of_lt_of_le h2 hb.size, fun i row hi => ?_⟩
  obtain ⟨ra, rc, c1, c2, c3⟩ := h3 i row hi
  exact ⟨ra, rc, (hb.cell (p := ⟨g, i, none⟩) h2).trans c1, c2, c3.below hb⟩
theorem Tbl.drewN {w : World} {a : Option Addr} {C : List (List Int)} (h : Tbl w a C) (q : Nat) : Tbl (w.drewN q) a C := h
theorem Tbl.row {w : World} {a : Option Addr} {C : List (List Int)} (h : Tbl w a C) {i : Nat} {row : List Int} (hi : C[i]? = some row) :
    ∃ g ra rc, a = some ⟨g, 0, none⟩ ∧ g < w.heap.size ∧ w.cell? ⟨g, i, none⟩ = some (.slice ra row.length rc) ∧ row.length ≤ rc ∧ Row w ra row.length (intL row) := by
  obtain ⟨g, h1, h2, h3⟩ := h (by obtain ⟨h, _⟩ := List.getElem?_eq_some_iff.1 hi; omega)
  obtain ⟨ra, rc, c⟩ := h3 i row hi
  exact ⟨g, ra, rc, h1, h2, c⟩

/-- costs -/
def rowB (n : Nat) (row : List Int) : Bool := decide (row.length = n ∧ ∀ x ∈ row, -1000 ≤ x ∧ x ≤ 1000)
def costsB (C : List (List Int)) : Bool := decide (1 ≤ C.length ∧ C.length ≤ 7) && C.all (rowB C.length)
/-- the cost of the pair i, j -/
def cost (C : List (List Int)) (i j : Nat) : Int := (C.getD i []).getD j 0
end Go.Proofs.Ytambhhjbafefgaa

/- Which lists are costs: areWithin, isCosts, and the reference's Costs. -/
namespace Go.Proofs.Ytambhhjbafefgaa
set_option linter.unusedVariables false
open Go.RowKit

theorem foldl_min_ge (m : Int) : ∀ (l : List Int) (a : Int), m ≤ l.foldl min a ↔ m ≤ a ∧ ∀ x ∈ l, m ≤ x
  | [], a => by simp
  | y :: l, a => by
    rw [List.foldl_cons, foldl_min_ge m l (min a y), show m ≤ min a y ↔ m ≤ a ∧ m ≤ y from by omega, and_assoc]
    simp only [List.mem_cons, forall_eq_or_imp]
theorem foldl_max_le (m : Int) : ∀ (l : List Int) (a : Int), l.foldl max a ≤ m ↔ a ≤ m ∧ ∀ x ∈ l, x ≤ m
  | [], a => by simp
  | y :: l, a => by
    rw [List.foldl_cons, foldl_max_le m l (max a y), show max a y ≤ m ↔ a ≤ m ∧ y ≤ m from by omega, and_assoc]
    simp only [List.mem_cons, forall_eq_or_imp]
theorem minOf_ge (m : Int) (l : List Int) (h : 0 < l.length) : m ≤ Lib.minOf l ↔ ∀ x ∈ l, m ≤ x := by
  cases l with
  | nil => simp at h
  | cons y l => unfold Lib.minOf; rw [foldl_min_ge]; simp
theorem maxOf_le (m : Int) (l : List Int) (h : 0 < l.length) : Lib.maxOf l ≤ m ↔ ∀ x ∈ l, x ≤ m := by
  cases l with
  | nil => simp at h
  | cons y l => unfold Lib.maxOf; rw [foldl_max_le]; simp

def withinB (m : Int) (row : List Int) : Bool := decide (∀ x ∈ row, -m ≤ x ∧ x ≤ m)
theorem within_iff (m : Int) (l : List Int) (h : 0 < l.length) : withinB m l = (decide (-m ≤ Lib.minOf l) && decide (Lib.maxOf l ≤ m)) := by
  unfold withinB
  rw [Bool.eq_iff_iff, Bool.and_eq_true, decide_eq_true_eq, decide_eq_true_eq, decide_eq_true_eq, minOf_ge _ _ h, maxOf_le _ _ h]
  exact ⟨fun k => ⟨fun x hx => (k x hx).1, fun x hx => (k x hx).2⟩, fun k x hx => ⟨k.1 x hx, k.2 x hx⟩⟩

theorem Row.cells {w : World} {a : Option Addr} {n : Nat} {xs : List Int} (h : Row w a n (intL xs)) (hn : 0 < n) :
    ∃ g, a = some ⟨g, 0, none⟩ ∧ xs.length = n ∧ ∀ j, j < xs.length → w.cell? ⟨g, 0 + j, none⟩ = some (.int .i64 (xs.getD j 0)) := by
  obtain ⟨g, rfl, _, hc⟩ := h.2 hn
  refine ⟨g, rfl, by rw [← intL_length]; exact h.1, fun j hj => ?_⟩
  rw [Nat.zero_add]
  exact hc j _ (intL_get (by rw [List.getD_eq_getElem?_getD, List.getElem?_eq_getElem hj]; rfl))

set_option maxHeartbeats 1000000 in
theorem areWithin_any (a : Option Addr) (n cap : Nat) (xs : List Int) (m : Int) (w : World) (h : Row w a n (intL xs)) (hn : 0 < n) (hn2 : n ≤ 1000) (hm : 0 ≤ m) (hm2 : m ≤ 1000000) :
    Calls Try.prog 80 #[.slice a n cap, .int .i64 m] w fun e w' => e = .returned (.bool (withinB m xs)) ∧ w = w' := by
  obtain ⟨g, rfl, hl, hc⟩ := h.cells hn
  have hw := within_iff m xs (by omega)
  have h1 := fun w' hc => Any.slices_Min_int Try.lays114 g 0 n cap xs w' hn (by omega) (by omega) hc
  have h2 := fun w' hc => Any.slices_Max_int Try.lays113 g 0 n cap xs w' hn (by omega) (by omega) hc
  rw [List.take_of_length_le (by omega)] at h1 h2
  generalize Lib.minOf xs = x at *
  generalize Lib.maxOf xs = y at *
  have HW := Lib.hid hw
  have H1 := Lib.hid h1
  have H2 := Lib.hid h2
  have HC := Lib.hid hc
  clear hw h1 h2 hc hl h
  by_cases k1 : -m ≤ x
  · by_cases k2 : y ≤ m
    · go_enter Try.func80, Try.ntmps80
      go_wp2_with (first
        | (go_at_call 100; refine (H1.out _ HC.out).mono ?_; rintro e w' ⟨rfl, rfl⟩)
        | (go_at_call 101; refine (H2.out _ HC.out).mono ?_; rintro e w' ⟨rfl, rfl⟩))
      go_ret
      exact ⟨ret_bool (by rw [HW.out, decide_eq_true k1, decide_eq_true k2]; rfl), rfl⟩
    · go_enter Try.func80, Try.ntmps80
      go_wp2_with (first
        | (go_at_call 100; refine (H1.out _ HC.out).mono ?_; rintro e w' ⟨rfl, rfl⟩)
        | (go_at_call 101; refine (H2.out _ HC.out).mono ?_; rintro e w' ⟨rfl, rfl⟩))
      go_ret
      exact ⟨ret_bool (by rw [HW.out, decide_eq_true k1, decide_eq_false (by omega)]; rfl), rfl⟩
  · go_enter Try.func80, Try.ntmps80
    go_wp2_with (first
      | (go_at_call 100; refine (H1.out _ HC.out).mono ?_; rintro e w' ⟨rfl, rfl⟩))
    go_ret
    exact ⟨ret_bool (by rw [HW.out, decide_eq_false (by omega)]; rfl), rfl⟩

theorem costsB_long {C : List (List Int)} (h : ¬ (1 ≤ C.length ∧ C.length ≤ 7)) : costsB C = false := by unfold costsB; rw [decide_eq_false h]; rfl
theorem costsB_ok {C : List (List Int)} (h : 1 ≤ C.length ∧ C.length ≤ 7) : costsB C = C.all (rowB C.length) := by unfold costsB; rw [decide_eq_true h]; rfl
theorem all_part {α : Type} {f : α → Bool} {l : List α} {k : Nat} {x : α} (hx : l[k]? = some x) (h : f x = false) : l.all f = false := by
  obtain ⟨hk, rfl⟩ := List.getElem?_eq_some_iff.1 hx
  rw [← Bool.not_eq_true, List.all_eq_true]; intro H; rw [H _ (List.getElem_mem hk)] at h; cases h
theorem all_step {α : Type} {f : α → Bool} {l : List α} {k : Nat} {x : α} (hx : l[k]? = some x) (h : f x = true) (hp : (l.take k).all f = true) : (l.take (k + 1)).all f = true := by
  rw [List.take_add_one, hx, List.all_append, hp]; simp [h]
theorem rowB_eq {n : Nat} {row : List Int} (h : row.length = n) : rowB n row = withinB 1000 row := by
  unfold rowB withinB; simp [h]
theorem rowB_ne {n : Nat} {row : List Int} (h : ¬ row.length = n) : rowB n row = false := by unfold rowB; simp [h]

set_option maxHeartbeats 2000000 in
theorem isCosts_any (a : Option Addr) (cap : Nat) (C : List (List Int)) (w : World) (h : Tbl w a C) (hn : C.length ≤ 1000) (hr : ∀ row ∈ C, row.length ≤ 1000) :
    Calls Try.prog 53 #[.slice a C.length cap] w fun e w' => e = .returned (.bool (costsB C)) ∧ w = w' := by
  obtain ⟨n, hnn⟩ : ∃ n, C.length = n := ⟨_, rfl⟩
  rw [hnn] at hn ⊢
  by_cases h1 : 1 ≤ n
  · by_cases h2 : n ≤ 7
    · have hc := costsB_ok (C := C) (by rw [hnn]; exact ⟨h1, h2⟩)
      rw [hnn] at hc
      have HC := Lib.hid hc
      have HN := Lib.hid hnn
      have H := Lib.hid h
      have HR := Lib.hid hr
      clear hc hnn h hr
      go_enter Try.func53, Try.ntmps53
      go_wp2
      go_loop [15] (fun i => ∃ k : Nat, k ≤ n ∧ i = .int .i64 k ∧ Hid ((C.take k).all (rowB n) = true)) (fun i => n - (intOf i).toNat)
      case atStart => exact ⟨0, Nat.zero_le _, rfl, rfl⟩
      case round =>
        obtain ⟨k, hk, rfl, HP⟩ := hrel
        by_cases hlt : k < n
        · have hcc : (k : Int) < n := by omega
          obtain ⟨row, hrow⟩ : ∃ row, C[k]? = some row := ⟨_, List.getElem?_eq_getElem (by have := HN.out; omega)⟩
          obtain ⟨g, ra, rc, rfl, hg, hcell, hrc, hR⟩ := H.out.row hrow
          have hr2 := HR.out row (List.mem_of_getElem? hrow)
          have HR1 := Lib.hid hR
          have HW := Lib.hid hrow
          clear hrow hR hg
          by_cases hl : row.length = n
          · have hb : ((row.length : Int) != n) = false := by rw [hl]; simp
            have hx := rowB_eq hl
            have HL := Lib.hid hl
            have HX := Lib.hid hx
            clear hl hx
            have hC := fun w' h => areWithin_any ra row.length rc row 1000 w' h (by have := HL.out; omega) hr2 (by omega) (by omega)
            have HCa := Lib.hid hC
            clear hC
            cases hwb : withinB 1000 row with
            | true =>
              have HWB := Lib.hid hwb
              clear hwb
              go_wp2_with (go_at_call 80; refine (HCa.out _ HR1.out).mono ?_; rintro e w' ⟨rfl, rfl⟩; rw [HWB.out])
              go_round
              case rel => exact ⟨k + 1, by omega, by go_num, all_step HW.out (by rw [HX.out, HWB.out]) HP.out⟩
              case measure => simp [intOf]; omega
            | false =>
              have HWB := Lib.hid hwb
              clear hwb
              go_wp2_with (go_at_call 80; refine (HCa.out _ HR1.out).mono ?_; rintro e w' ⟨rfl, rfl⟩; rw [HWB.out])
              go_ret
              exact ⟨ret_bool (by rw [HC.out, all_part HW.out (by rw [HX.out, HWB.out])]), rfl⟩
          · have hb : ((row.length : Int) != n) = true := by simp; omega
            have HX := Lib.hid (rowB_ne hl)
            clear hl
            go_wp2
            go_ret
            exact ⟨ret_bool (by rw [HC.out, all_part HW.out HX.out]), rfl⟩
        · obtain rfl : k = n := by omega
          have hcc : ¬ (k : Int) < k := by omega
          go_wp2
          go_ret
          exact ⟨ret_bool (by rw [HC.out]; have := HP.out; rw [List.take_of_length_le (by have := HN.out; omega)] at this; rw [this]), rfl⟩
    · have hc := costsB_long (C := C) (by rw [hnn]; omega)
      have HC := Lib.hid hc
      clear hc hnn h hr
      have h3 : (7 : Int) < n := by omega
      go_enter Try.func53, Try.ntmps53
      go_wp2
      go_ret
      exact ⟨ret_bool (by rw [HC.out]), rfl⟩
  · have hc := costsB_long (C := C) (by rw [hnn]; omega)
    have HC := Lib.hid hc
    clear hc hnn h hr
    obtain rfl : n = 0 := by omega
    go_enter Try.func53, Try.ntmps53
    go_wp2
    go_ret
    exact ⟨ret_bool (by rw [HC.out]), rfl⟩
end Go.Proofs.Ytambhhjbafefgaa

/- Ways: with, list, and how they are compared. -/
namespace Go.Proofs.Ytambhhjbafefgaa
set_option linter.unusedVariables false
open Go.RowKit

theorem own_base {w : World} {base base' n size : Nat} {e : TypeId} {v : Value} {xs : List Value} (h : w.ownsRow base e size v n xs) (hb : base' ≤ base) : w.ownsRow base' e size v n xs := by
  refine ⟨h.1, ?_⟩
  rcases h.2 with k | ⟨g, cap, cur, hv, h1, k⟩
  · exact .inl k
  · exact .inr ⟨g, cap, cur, hv, Nat.le_trans hb h1, k⟩

/-- seven holes and a total -/
structure Way where
  (a b c d e f g t : Int)
deriving DecidableEq
def wayV (x : Way) : Value := .agg #[.int .i64 x.a, .int .i64 x.b, .int .i64 x.c, .int .i64 x.d, .int .i64 x.e, .int .i64 x.f, .int .i64 x.g, .int .i64 x.t]
def Way.zero : Way := ⟨0, 0, 0, 0, 0, 0, 0, 0⟩
def Way.holes (x : Way) : List Int := [x.a, x.b, x.c, x.d, x.e, x.f, x.g]
def Way.at (x : Way) (i : Nat) : Int := x.holes.getD i 0
def Way.put (x : Way) (i : Nat) (h k : Int) : Way :=
  match i with
  | 0 => { x with a := h, t := x.t + k }
  | 1 => { x with b := h, t := x.t + k }
  | 2 => { x with c := h, t := x.t + k }
  | 3 => { x with d := h, t := x.t + k }
  | 4 => { x with e := h, t := x.t + k }
  | 5 => { x with f := h, t := x.t + k }
  | _ => { x with g := h, t := x.t + k }
theorem lt7 {i : Nat} (h : i < 7) : i = 0 ∨ i = 1 ∨ i = 2 ∨ i = 3 ∨ i = 4 ∨ i = 5 ∨ i = 6 := by omega

set_option maxHeartbeats 4000000 in
theorem with_any (x : Way) (i : Nat) (hi : i < 7) (h k : Int) (w : World) (ht : -1000000 ≤ x.t ∧ x.t ≤ 1000000) (hk : -1000000 ≤ k ∧ k ≤ 1000000) :
    Calls Try.prog 85 #[wayV x, .agg #[.int .i64 i, .int .i64 h], .int .i64 k] w fun e w' => e = .returned (wayV (x.put i h k)) ∧ Below w.heap.size w w' := by
  obtain ⟨ht1, ht2⟩ := ht
  obtain ⟨hk1, hk2⟩ := hk
  obtain ⟨a, b, c, d, e, f, g, t⟩ := x
  simp only at ht1 ht2
  unfold wayV
  rcases lt7 hi with rfl | rfl | rfl | rfl | rfl | rfl | rfl
  all_goals
    go_enter Try.func85, Try.ntmps85
    go_wp2
    exact bodyPost_ret (v := wayV (Way.put _ _ _ _)) (by simp [results, Try.results85, go_sem, wayV, Way.put]) rfl ⟨rfl, by repeat' (first | exact Below.refl _ _ | exact Nat.le_refl _ | apply Below.alloc | (simp; done) | (simp; omega))⟩

theorem holes_cells (x : Way) (w : World) (T : TypeId) : ∀ j, j < x.holes.length → (w.alloc (.cells #[.int .i64 x.a, .int .i64 x.b, .int .i64 x.c, .int .i64 x.d, .int .i64 x.e, .int .i64 x.f, .int .i64 x.g, .int .i64 x.t] T)).cell? ⟨w.heap.size, 0 + j, none⟩ = some (.int .i64 (x.holes.getD j 0)) := by
  intro j hj
  rw [World.cell?_alloc_at _ _ _ _ rfl]
  rcases lt7 (show j < 7 from hj) with rfl | rfl | rfl | rfl | rfl | rfl | rfl <;> rfl

theorem lt8 {i : Nat} (h : i ≤ 7) : i = 0 ∨ i = 1 ∨ i = 2 ∨ i = 3 ∨ i = 4 ∨ i = 5 ∨ i = 6 ∨ i = 7 := by omega
theorem slice_array (b n : Nat) (hn : n ≤ 7) (w : World) : (Instr.sliceAt 68 (.pointer (some ⟨b, 0, none⟩)) none (some (.int .i64 n)) none).run Try.prog w = .ok (.slice (some ⟨b, 0, none⟩) n 7) w := by
  rcases lt8 hn with rfl | rfl | rfl | rfl | rfl | rfl | rfl | rfl <;> kernel_rfl

set_option maxRecDepth 100000 in
set_option maxHeartbeats 1000000 in
theorem list_any (x : Way) (n : Nat) (hn : n ≤ 7) (w : World) :
    Calls Try.prog 56 #[wayV x, .int .i64 n] w fun e w' => ∃ v, e = .returned v ∧ w'.ownsRow w.heap.size 3 1 v n (intL (x.holes.take n)) ∧ Below w.heap.size w w' := by
  have hc := holes_cells x w 70
  have hcl := Any.slices_Clone_int Try.laysNm215 w.heap.size 0 n 7 x.holes _ (show n ≤ 7 from hn) (by omega) hc
  have HCL := Lib.hid hcl
  clear hcl hc
  have hsl := fun w' => slice_array w.heap.size n hn w'
  unfold wayV
  go_enter Try.func56, Try.ntmps56
  go_wp2_with (go_at_call 57; refine HCL.out.mono ?_; rintro e w1 ⟨v, rfl, hown, _, hB⟩)
  go_ret
  exact ⟨v, rfl, by have := hB.size; exact own_base hown (by simp), (below_alloc _ _).trans (hB.mono (by simp))⟩
end Go.Proofs.Ytambhhjbafefgaa

/- How ways are compared: byTotal, byHoles, compare, inOrder. -/
namespace Go.Proofs.Ytambhhjbafefgaa
set_option linter.unusedVariables false
open Go.RowKit

/-- the lexicographic comparison of two lists -/
def cmpL : List Int → List Int → Int
  | [], [] => 0
  | [], _ :: _ => -1
  | _ :: _, [] => 1
  | x :: xs, y :: ys => if x = y then cmpL xs ys else Lib.compareInt x y
theorem cmpL_self : ∀ xs : List Int, cmpL xs xs = 0
  | [] => rfl
  | x :: xs => by rw [cmpL, if_pos rfl, cmpL_self xs]
theorem cmpL_at : ∀ (k : Nat) (xs ys : List Int) (x y : Int), xs.take k = ys.take k → xs[k]? = some x → ys[k]? = some y → x ≠ y → cmpL xs ys = Lib.compareInt x y
  | 0, a :: xs, b :: ys, x, y, _, hx, hy, hne => by
    simp at hx hy; subst hx; subst hy
    rw [cmpL, if_neg hne]
  | k + 1, a :: xs, b :: ys, x, y, h, hx, hy, hne => by
    rw [List.take_succ_cons, List.take_succ_cons, List.cons.injEq] at h
    rw [cmpL, if_pos h.1]
    exact cmpL_at k xs ys x y h.2 (by simpa using hx) (by simpa using hy) hne
  | _, [], _, _, _, _, hx, _, _ => by simp at hx
  | _, _ :: _, [], _, _, _, _, hy, _ => by simp at hy
theorem cmpInt_eq (x : Int) : Lib.compareInt x x = 0 := by unfold Lib.compareInt; simp
theorem cmpInt_ne {x y : Int} (h : x ≠ y) : Lib.compareInt x y ≠ 0 := by unfold Lib.compareInt; split <;> (try split) <;> omega

set_option maxHeartbeats 1000000 in
theorem scompare_any (a b : Option Addr) (n ca cb : Nat) (xs ys : List Int) (w : World) (hx : Row w a n (intL xs)) (hy : Row w b n (intL ys)) (hn : n ≤ 1000) :
    Calls Try.prog 108 #[.slice a n ca, .slice b n cb] w fun e w' => e = .returned (.int .i64 (cmpL xs ys)) ∧ w' = w := by
  have hxl : xs.length = n := by rw [← intL_length]; exact hx.1
  have hyl : ys.length = n := by rw [← intL_length]; exact hy.1
  have HX := Lib.hid hx
  have HY := Lib.hid hy
  have LX := Lib.hid hxl
  have LY := Lib.hid hyl
  clear hx hy hxl hyl
  go_enter Try.func108, Try.ntmps108
  go_wp2
  go_loop [11] (fun i => ∃ k : Nat, k ≤ n ∧ i = .int .i64 k ∧ Hid (xs.take k = ys.take k)) (fun i => n - (intOf i).toNat)
  case atStart => exact ⟨0, Nat.zero_le _, rfl, rfl⟩
  case round =>
    obtain ⟨k, hk, rfl, HP⟩ := hrel
    by_cases hlt : k < n
    · have hc : (k : Int) < n := by omega
      obtain ⟨g1, rfl, c1⟩ := HX.out.int hlt
      obtain ⟨g2, rfl, c2⟩ := HY.out.int hlt
      obtain ⟨x, hxk⟩ : ∃ x, xs[k]? = some x := ⟨_, List.getElem?_eq_getElem (by have := LX.out; omega)⟩
      obtain ⟨y, hyk⟩ : ∃ y, ys[k]? = some y := ⟨_, List.getElem?_eq_getElem (by have := LY.out; omega)⟩
      rw [List.getD_eq_getElem?_getD, hxk, Option.getD_some] at c1
      rw [List.getD_eq_getElem?_getD, hyk, Option.getD_some] at c2
      by_cases hxy : x = y
      · have hz : Lib.compareInt x y = 0 := by rw [hxy]; exact cmpInt_eq y
        have HZ := Lib.hid hz
        have HN : Hid (xs.take (k + 1) = ys.take (k + 1)) := by unfold Hid; rw [List.take_add_one, List.take_add_one, HP.out, hxk, hyk, hxy]
        clear hz hxk hyk hxy
        go_wp2_with (go_at_call 84; refine (Any.cmp_Compare_int Try.lays122 x y _).mono ?_; rintro e w' ⟨rfl, rfl⟩; rw [HZ.out])
        go_round
        case rel => exact ⟨k + 1, by omega, by go_num, HN.out⟩
        case measure => simp [intOf]; omega
      · have hz := cmpInt_ne hxy
        have HA := Lib.hid (cmpL_at k xs ys x y HP.out hxk hyk hxy)
        generalize hv : Lib.compareInt x y = v at hz HA
        have HV := Lib.hid hv
        have hz2 : (v != 0) = true := by simpa using hz
        clear hv hxk hyk hxy hz
        go_wp2_with (go_at_call 84; refine (Any.cmp_Compare_int Try.lays122 x y _).mono ?_; rintro e w' ⟨rfl, rfl⟩; rw [HV.out])
        go_ret
        exact ⟨ret_int HA.out.symm, rfl⟩
    · obtain rfl : k = n := by omega
      have hc : ¬ (k : Int) < k := by omega
      have HE : Hid (cmpL xs ys = 0) := by
        have := HP.out
        rw [List.take_of_length_le (by have := LX.out; omega), List.take_of_length_le (by have := LY.out; omega)] at this
        unfold Hid; rw [this, cmpL_self]
      go_wp2
      go_ret
      exact ⟨ret_int HE.out.symm, rfl⟩

set_option maxRecDepth 100000 in
set_option maxHeartbeats 1000000 in
theorem byTotal_any (x y : Way) (w : World) :
    Calls Try.prog 90 #[wayV x, wayV y] w fun e w' => e = .returned (.int .i64 (Lib.compareInt x.t y.t)) ∧ Below w.heap.size w w' := by
  unfold wayV
  go_enter Try.func90, Try.ntmps90
  go_wp2_with (go_at_call 84; refine (Any.cmp_Compare_int Try.lays122 _ _ _).mono ?_; rintro e w' ⟨rfl, rfl⟩)
  go_ret
  exact ⟨rfl, (below_alloc _ _).alloc (by simp) _⟩

theorem slice_whole (b : Nat) (w : World) : (Instr.sliceAt 68 (.pointer (some ⟨b, 0, none⟩)) none none none).run Try.prog w = .ok (.slice (some ⟨b, 0, none⟩) 7 7) w := by kernel_rfl
def wayO (x : Way) : Obj := .cells #[.int .i64 x.a, .int .i64 x.b, .int .i64 x.c, .int .i64 x.d, .int .i64 x.e, .int .i64 x.f, .int .i64 x.g, .int .i64 x.t] 70
theorem holes_row {w : World} {b : Nat} {x : Way} (h : w.heap[b]? = some (wayO x)) : Row w (some ⟨b, 0, none⟩) 7 (intL x.holes) := by
  refine ⟨rfl, fun _ => ⟨b, rfl, (Array.getElem?_eq_some_iff.1 h).1, fun j u hu => ?_⟩⟩
  rw [cell_of_row w b j _ _ _ h]
  obtain ⟨hj, _⟩ := List.getElem?_eq_some_iff.1 hu
  rcases lt7 (show j < 7 from hj) with rfl | rfl | rfl | rfl | rfl | rfl | rfl <;> exact hu

set_option maxRecDepth 100000 in
set_option maxHeartbeats 1000000 in
theorem byHoles_any (x y : Way) (w : World) :
    Calls Try.prog 91 #[wayV x, wayV y] w fun e w' => e = .returned (.int .i64 (cmpL x.holes y.holes)) ∧ Below w.heap.size w w' := by
  have h1 := slice_whole w.heap.size
  have h2 := slice_whole (w.heap.size + 1)
  have r1 : Row ((w.alloc (wayO x)).alloc (wayO y)) (some ⟨w.heap.size, 0, none⟩) 7 (intL x.holes) := holes_row (heap_alloc2_old w _ _)
  have r2 : Row ((w.alloc (wayO x)).alloc (wayO y)) (some ⟨w.heap.size + 1, 0, none⟩) 7 (intL y.holes) := holes_row (heap_alloc2_new w _ _)
  have hS := fun q => scompare_any (some ⟨w.heap.size, 0, none⟩) (some ⟨w.heap.size + 1, 0, none⟩) 7 7 7 x.holes y.holes _ (r1.drewN q) (r2.drewN q) (by omega)
  unfold wayO at hS
  have HS := Lib.hid hS
  clear hS r1 r2
  unfold wayV
  go_enter Try.func91, Try.ntmps91
  go_wp2
  go_quiet ((go_at_call 108; exact Calls.quiet_of_same (HS.out _)))
  go_wp2
  go_ret
  exact ⟨rfl, below_drewN ((below_alloc _ _).alloc (by simp) _) _⟩
end Go.Proofs.Ytambhhjbafefgaa

/- How ways are compared: compare, inOrder, slices.MinFunc. -/
namespace Go.Proofs.Ytambhhjbafefgaa
set_option linter.unusedVariables false
open Go.RowKit

/-- as the document orders assignments -/
def ordW (x y : Way) : Int := if x.t = y.t then cmpL x.holes y.holes else Lib.compareInt x.t y.t

abbrev fnT : Value := .func (.func 90) #[] #[]
abbrev fnH : Value := .func (.func 91) #[] #[]

theorem bcell {W w1 : World} (hb : Below W.heap.size W w1) : (∀ b o, b < W.heap.size → w1.cell? ⟨b, o, none⟩ = W.cell? ⟨b, o, none⟩) ∧ (∀ b o, b < W.heap.size → w1.frozen? ⟨b, o, none⟩ = W.frozen? ⟨b, o, none⟩) :=
  ⟨fun b o h => hb.cell (p := ⟨b, o, none⟩) h, fun b o h => hb.frozen (p := ⟨b, o, none⟩) h⟩

set_option maxRecDepth 100000 in
set_option maxHeartbeats 4000000 in
theorem compare_any (x y : Way) (g : Nat) (w : World) (h1 : w.cell? ⟨g, 0, none⟩ = some fnT) (h2 : w.cell? ⟨g, 1, none⟩ = some fnH) :
    Calls Try.prog 89 #[wayV x, wayV y, .slice (some ⟨g, 0, none⟩) 2 2] w fun e w' => e = .returned (.int .i64 (ordW x y)) ∧ Below w.heap.size w w' := by
  have hg := World.block_lt_of_cell? _ _ h1
  have hT := byTotal_any x y
  have hH := byHoles_any x y
  obtain ⟨u, hu⟩ : ∃ u, Lib.compareInt x.t y.t = u := ⟨_, rfl⟩
  obtain ⟨v, hv⟩ : ∃ v, cmpL x.holes y.holes = v := ⟨_, rfl⟩
  rw [hu] at hT
  rw [hv] at hH
  unfold wayV at hT hH
  have HT := Lib.hid hT
  have HH := Lib.hid hH
  clear hT hH
  by_cases ht : x.t = y.t
  · have hu0 : u = 0 := by rw [← hu, ht, cmpInt_eq]
    subst hu0
    have HO : Hid (ordW x y = v) := by unfold Hid ordW; rw [if_pos ht]; exact hv
    clear ht hu hv
    unfold wayV
    by_cases hv0 : v = 0
    · subst hv0
      go_enter Try.func89, Try.ntmps89
      go_wp2
      refine wp_loop_rounds 3 ?_
      rw [rounds_succ]
      go_wp2_with fail
      refine (HT.out _).mono ?_
      rintro e w1 ⟨rfl, b1⟩
      have hcg : w1.cell? ⟨g, 1, none⟩ = some fnH := ((b_next (b_next (below_alloc _ _) (below_alloc _ _)) b1).cell (p := ⟨g, 1, none⟩) hg).trans h2
      obtain ⟨hc1, hf1⟩ := bcell b1
      go_wp2_with fail
      rw [rounds_succ]
      go_wp2_with fail
      refine (HH.out _).mono ?_
      rintro e w2 ⟨rfl, b2⟩
      go_wp2_with fail
      rw [rounds_succ]
      go_wp2_with fail
      go_ret
      exact ⟨ret_int HO.out.symm, b_next (b_next (b_next (below_alloc _ _) (below_alloc _ _)) b1) b2⟩
    · have hv1 : (v != 0) = true := by simpa using hv0
      clear hv0
      go_enter Try.func89, Try.ntmps89
      go_wp2
      refine wp_loop_rounds 3 ?_
      rw [rounds_succ]
      go_wp2_with fail
      refine (HT.out _).mono ?_
      rintro e w1 ⟨rfl, b1⟩
      have hcg : w1.cell? ⟨g, 1, none⟩ = some fnH := ((b_next (b_next (below_alloc _ _) (below_alloc _ _)) b1).cell (p := ⟨g, 1, none⟩) hg).trans h2
      obtain ⟨hc1, hf1⟩ := bcell b1
      go_wp2_with fail
      rw [rounds_succ]
      go_wp2_with fail
      refine (HH.out _).mono ?_
      rintro e w2 ⟨rfl, b2⟩
      go_wp2_with fail
      go_ret
      exact ⟨ret_int HO.out.symm, b_next (b_next (b_next (below_alloc _ _) (below_alloc _ _)) b1) b2⟩
  · have hu0 : u ≠ 0 := by rw [← hu]; exact cmpInt_ne ht
    have hu1 : (u != 0) = true := by simpa using hu0
    have HO : Hid (ordW x y = u) := by unfold Hid ordW; rw [if_neg ht]; exact hu
    clear ht hu hv hu0
    unfold wayV
    go_enter Try.func89, Try.ntmps89
    go_wp2
    refine wp_loop_rounds 3 ?_
    rw [rounds_succ]
    go_wp2_with fail
    refine (HT.out _).mono ?_
    rintro e w1 ⟨rfl, b1⟩
    go_wp2_with fail
    go_ret
    exact ⟨ret_int HO.out.symm, b_next (b_next (below_alloc _ _) (below_alloc _ _)) b1⟩

set_option maxRecDepth 100000 in
set_option maxHeartbeats 4000000 in
theorem inOrder_any (x y : Way) (w : World) :
    Calls Try.prog 69 #[wayV x, wayV y] w fun e w' => e = .returned (.int .i64 (ordW x y)) ∧ Below w.heap.size w w' := by
  have hC := compare_any x y
  unfold wayV at hC ⊢
  have HC := Lib.hid hC
  clear hC
  go_enter Try.func69, Try.ntmps69
  go_wp2_with fail
  refine (HC.out _ _ ?_ ?_).mono ?_
  · rw [World.cell?_alloc_at _ _ _ _ (by simp)]; rfl
  · rw [World.cell?_alloc_at _ _ _ _ (by simp)]; rfl
  rintro e w1 ⟨rfl, b1⟩
  go_wp2
  go_ret
  exact ⟨rfl, b_next (b_next (b_next (below_alloc _ _) (below_alloc _ _)) (below_alloc _ _)) b1⟩
end Go.Proofs.Ytambhhjbafefgaa

/- slices.MinFunc of ways, in the document's order. -/
namespace Go.Proofs.Ytambhhjbafefgaa
set_option linter.unusedVariables false
open Go.RowKit

def wayC (x : Way) : List Value := [.int .i64 x.a, .int .i64 x.b, .int .i64 x.c, .int .i64 x.d, .int .i64 x.e, .int .i64 x.f, .int .i64 x.g, .int .i64 x.t]
def waysC (xs : List Way) : List Value := xs.flatMap wayC
theorem wayC_length (x : Way) : (wayC x).length = 8 := rfl
theorem waysC_length (xs : List Way) : (waysC xs).length = xs.length * 8 := by
  induction xs with
  | nil => rfl
  | cons x xs ih => unfold waysC at ih ⊢; rw [List.flatMap_cons, List.length_append, ih, wayC_length, List.length_cons]; omega
theorem waysC_snoc (xs : List Way) (x : Way) : waysC (xs ++ [x]) = waysC xs ++ wayC x := by simp [waysC]
theorem waysC_get : ∀ (xs : List Way) (i j : Nat) (x : Way), xs[i]? = some x → j < 8 → (waysC xs)[i * 8 + j]? = (wayC x)[j]?
  | y :: xs, 0, j, x, h, hj => by
    simp at h; subst h
    show (wayC y ++ waysC xs)[0 * 8 + j]? = _
    rw [Nat.zero_mul, Nat.zero_add, List.getElem?_append_left (by rw [wayC_length]; exact hj)]
  | y :: xs, i + 1, j, x, h, hj => by
    show (wayC y ++ waysC xs)[(i + 1) * 8 + j]? = _
    rw [List.getElem?_append_right (by rw [wayC_length]; omega), wayC_length, show (i + 1) * 8 + j - 8 = i * 8 + j from by omega]
    exact waysC_get xs i j x (by simpa using h) hj
  | [], _, _, _, h, _ => by simp at h

/-- the slice at a holds the ways xs -/
def Ways (w : World) (a : Option Addr) (xs : List Way) : Prop :=
  0 < xs.length → ∃ g, a = some ⟨g, 0, none⟩ ∧ g < w.heap.size ∧ ∀ j u, (waysC xs)[j]? = some u → w.cell? ⟨g, j, none⟩ = some u
theorem Ways.below {w w' : World} {a : Option Addr} {xs : List Way} (h : Ways w a xs) (hb : Below w.heap.size w w') : Ways w' a xs := fun hn => by
  obtain ⟨g, h1, h2, h3⟩ := h hn
  exact ⟨g, h1, Nat.lt_of_lt_of_le h2 hb.size, fun j u hj => (hb.cell (p := ⟨g, j, none⟩) h2).trans (h3 j u hj)⟩
/-- eight cells from the o-th on -/
def At8 (w : World) (g o : Nat) (x : Way) : Prop :=
  w.cell? ⟨g, o, none⟩ = some (.int .i64 x.a) ∧ w.cell? ⟨g, o + 1, none⟩ = some (.int .i64 x.b) ∧ w.cell? ⟨g, o + 2, none⟩ = some (.int .i64 x.c) ∧ w.cell? ⟨g, o + 3, none⟩ = some (.int .i64 x.d) ∧
  w.cell? ⟨g, o + 4, none⟩ = some (.int .i64 x.e) ∧ w.cell? ⟨g, o + 5, none⟩ = some (.int .i64 x.f) ∧ w.cell? ⟨g, o + 6, none⟩ = some (.int .i64 x.g) ∧ w.cell? ⟨g, o + 7, none⟩ = some (.int .i64 x.t)
theorem At8.below {w w' : World} {g o : Nat} {x : Way} (h : At8 w g o x) (hg : g < w.heap.size) (hb : Below w.heap.size w w') : At8 w' g o x := by
  have k := fun j => hb.cell (p := ⟨g, j, none⟩) hg
  obtain ⟨h0, h1, h2, h3, h4, h5, h6, h7⟩ := h
  exact ⟨(k _).trans h0, (k _).trans h1, (k _).trans h2, (k _).trans h3, (k _).trans h4, (k _).trans h5, (k _).trans h6, (k _).trans h7⟩
theorem Ways.at8 {w : World} {a : Option Addr} {xs : List Way} (h : Ways w a xs) {i : Nat} {x : Way} (hi : xs[i]? = some x) : ∃ g, a = some ⟨g, 0, none⟩ ∧ g < w.heap.size ∧ At8 w g (i * 8) x := by
  obtain ⟨g, h1, h2, h3⟩ := h (by obtain ⟨h, _⟩ := List.getElem?_eq_some_iff.1 hi; omega)
  have k : ∀ j u, j < 8 → (wayC x)[j]? = some u → w.cell? ⟨g, i * 8 + j, none⟩ = some u := fun j u hj hu => h3 _ u (by rw [waysC_get xs i j x hi hj]; exact hu)
  exact ⟨g, h1, h2, k 0 _ (by omega) rfl, k 1 _ (by omega) rfl, k 2 _ (by omega) rfl, k 3 _ (by omega) rfl, k 4 _ (by omega) rfl, k 5 _ (by omega) rfl, k 6 _ (by omega) rfl, k 7 _ (by omega) rfl⟩

/-- the first one of the least -/
def minW : List Way → Way
  | [] => Way.zero
  | x :: xs => xs.foldl (fun m y => if ordW y m < 0 then y else m) x

structure MinSt (w wr : World) (m : Way) : Prop where
  below : Below w.heap.size w wr
  size : w.heap.size + 1 < wr.heap.size
  res : wr.heap[w.heap.size]? = some (wayO Way.zero)
  best : wr.heap[w.heap.size + 1]? = some (wayO m)
theorem MinSt.start (w : World) (x m : Way) (h : m = x) : MinSt w ((w.alloc (wayO Way.zero)).alloc (wayO x)) m := by
  subst h
  exact ⟨b_next (below_alloc _ _) (below_alloc _ _), by simp, heap_alloc2_old _ _ _, heap_alloc2_new _ _ _⟩
theorem at8_of {w : World} {b : Nat} {x : Way} (h : w.heap[b]? = some (wayO x)) : At8 w b 0 x := by
  have k := fun j => cell_of_row w b j _ _ _ h
  exact ⟨k 0, k 1, k 2, k 3, k 4, k 5, k 6, k 7⟩
theorem MinSt.at8 {w wr : World} {m : Way} (h : MinSt w wr m) : At8 wr (w.heap.size + 1) 0 m := at8_of h.best

theorem undrew {B : Nat} {w w1 : World} (h : Below B w.drew w1) : Below B w w1 := (⟨rfl, rfl, rfl, Nat.le_refl _, fun _ _ => rfl⟩ : Below B w w.drew).trans h
theorem MinSt.next {w wr w1 : World} {m : Way} (h : MinSt w wr m) (b : Below wr.heap.size wr w1) : MinSt w w1 m :=
  ⟨b_next h.below b, Nat.lt_of_lt_of_le h.size b.size, (b.block _ (by have := h.size; omega)).trans h.res, (b.block _ h.size).trans h.best⟩
abbrev wayA (x : Way) : Array Value := #[.int .i64 x.a, .int .i64 x.b, .int .i64 x.c, .int .i64 x.d, .int .i64 x.e, .int .i64 x.f, .int .i64 x.g, .int .i64 x.t]
theorem MinSt.put {w w1 : World} {m : Way} (h : MinSt w w1 m) (x : Way) : MinSt w (w1.setRow (w.heap.size + 1) (wayA x)) x :=
  ⟨below_setRow h.below (by omega) _, by rw [setRow_size]; exact h.size, (setRow_other _ _ _ _ (by omega)).trans h.res, setRow_heap _ _ _ _ _ _ h.best⟩
theorem wayA_one (x : Way) : (wayA x).all (·.oneCell') = true := by simp [wayA, Value.oneCell']
theorem info_way : (Try.prog.info? 70).map (·.size) = some 8 := by kernel_rfl
theorem minW_snoc (l : List Way) (x : Way) (h : 0 < l.length) : minW (l ++ [x]) = if ordW x (minW l) < 0 then x else minW l := by
  cases l with
  | nil => simp at h
  | cons y ys =>
    show (ys ++ [x]).foldl _ y = _
    rw [List.foldl_append]; rfl

set_option maxRecDepth 100000 in
set_option maxHeartbeats 8000000 in
theorem minFunc_any (a : Option Addr) (n cap : Nat) (xs : List Way) (w : World) (h : Ways w a xs) (hl : xs.length = n) (hn : 0 < n) (hn2 : n ≤ 1000) :
    Calls Try.prog 95 #[.slice a n cap, .func (.func 69) #[] #[]] w fun e w' => e = .returned (wayV (minW xs)) ∧ Below w.heap.size w w' := by
  obtain ⟨x0, h0⟩ : ∃ x, xs[0]? = some x := ⟨_, List.getElem?_eq_getElem (by omega)⟩
  obtain ⟨g, rfl, hg, c0, c1, c2, c3, c4, c5, c6, c7⟩ := h.at8 h0
  simp only [Nat.zero_mul, Nat.zero_add] at c0 c1 c2 c3 c4 c5 c6 c7
  have H := Lib.hid h
  have HL := Lib.hid hl
  have HL0 := Lib.hid h0
  clear h hl h0
  go_enter Try.func95, Try.ntmps95
  go_wp2
  go_loopw [6] (fun i wr => ∃ k : Nat, 1 ≤ k ∧ k ≤ n ∧ i = .int .i64 k ∧ MinSt w wr (minW (xs.take k))) (fun i _ => n - (intOf i).toNat)
  case atStart => exact ⟨1, by omega, by omega, rfl, MinSt.start w x0 _ (by have := HL0.out; cases xs with | nil => simp at this | cons y ys => simp at this; subst this; rfl)⟩
  case round =>
    obtain ⟨k, hk1, hk, rfl, hS⟩ := hrel
    by_cases hlt : k < n
    · have hc : (k : Int) < n := by omega
      obtain ⟨x, hx⟩ : ∃ x, xs[k]? = some x := ⟨_, List.getElem?_eq_getElem (by have := HL.out; omega)⟩
      obtain ⟨m, hm⟩ : ∃ m, minW (xs.take k) = m := ⟨_, rfl⟩
      rw [hm] at hS
      obtain ⟨g', hg', hgs, d0, d1, d2, d3, d4, d5, d6, d7⟩ := (H.out.below hS.below).at8 hx
      obtain rfl : g = g' := by simpa using hg'
      obtain ⟨m0, m1, m2, m3, m4, m5, m6, m7⟩ := hS.at8
      simp only [Nat.zero_add] at m1 m2 m3 m4 m5 m6 m7
      have hO := inOrder_any x m
      obtain ⟨o, ho⟩ : ∃ o, ordW x m = o := ⟨_, rfl⟩
      rw [ho] at hO
      unfold wayV at hO
      have HO := Lib.hid hO
      have HOO := Lib.hid ho
      have HX := Lib.hid hx
      have HM := Lib.hid hm
      have HS := Lib.hid hS
      have hD : Hid (At8 wr g (k * 8) x) := ⟨d0, d1, d2, d3, d4, d5, d6, d7⟩
      clear hO ho hx hm hS
      by_cases hneg : o < 0
      · go_wp2
        go_region_held3 (fun w' => (w'.cell? ⟨g, k * 8, none⟩ = some (.int .i64 x.a) ∧ w'.cell? ⟨g, k * 8 + 1, none⟩ = some (.int .i64 x.b) ∧ w'.cell? ⟨g, k * 8 + 2, none⟩ = some (.int .i64 x.c) ∧ w'.cell? ⟨g, k * 8 + 3, none⟩ = some (.int .i64 x.d) ∧ w'.cell? ⟨g, k * 8 + 4, none⟩ = some (.int .i64 x.e) ∧ w'.cell? ⟨g, k * 8 + 5, none⟩ = some (.int .i64 x.f) ∧ w'.cell? ⟨g, k * 8 + 6, none⟩ = some (.int .i64 x.g) ∧ w'.cell? ⟨g, k * 8 + 7, none⟩ = some (.int .i64 x.t)) ∧
          (w'.cell? ⟨w.heap.size + 1, 0, none⟩ = some (.int .i64 m.a) ∧ w'.cell? ⟨w.heap.size + 1, 1, none⟩ = some (.int .i64 m.b) ∧ w'.cell? ⟨w.heap.size + 1, 2, none⟩ = some (.int .i64 m.c) ∧ w'.cell? ⟨w.heap.size + 1, 3, none⟩ = some (.int .i64 m.d) ∧ w'.cell? ⟨w.heap.size + 1, 4, none⟩ = some (.int .i64 m.e) ∧ w'.cell? ⟨w.heap.size + 1, 5, none⟩ = some (.int .i64 m.f) ∧ w'.cell? ⟨w.heap.size + 1, 6, none⟩ = some (.int .i64 m.g) ∧ w'.cell? ⟨w.heap.size + 1, 7, none⟩ = some (.int .i64 m.t))) (first | exact ⟨⟨d0, d1, d2, d3, d4, d5, d6, d7⟩, m0, m1, m2, m3, m4, m5, m6, m7⟩ | exact ⟨⟨e0, e1, e2, e3, e4, e5, e6, e7⟩, p0, p1, p2, p3, p4, p5, p6, p7⟩)
          (first
            | (go_at_call 69; refine (HO.out _).mono ?_; rintro e w1 ⟨rfl, b1⟩; have b2 := undrew b1; obtain ⟨e0, e1, e2, e3, e4, e5, e6, e7⟩ := At8.below hD.out hgs b2; obtain ⟨p0, p1, p2, p3, p4, p5, p6, p7⟩ := At8.below HS.out.at8 HS.out.size b2))
        all_goals
          have HN := Lib.hid (HS.out.next b2)
          have HB : Hid (w1.heap[w.heap.size + 1]? = some (.cells (wayA m) 70 (0, 0))) := HN.out.best
          clear b1 b2 d0 d1 d2 d3 d4 d5 d6 d7 m0 m1 m2 m3 m4 m5 m6 m7 p0 p1 p2 p3 p4 p5 p6 p7
          go_wp2_with (refine wpList_store_row (o := ⟨none, .store 70 (.tmp 5) (.tmp 31), _, _, _, _⟩) rfl 70 (.tmp 5) (.tmp 31) rfl (w.heap.size + 1) (wayA x) rfl rfl 70 (wayA m) HB.out info_way rfl (wayA_one x) ?_)
          go_roundw
          case rel => exact ⟨k + 1, by omega, by omega, by go_num, by
            rw [List.take_add_one, HX.out, show Option.toList (some x) = [x] from rfl, minW_snoc _ _ (by rw [List.length_take]; have := HL.out; omega), HM.out, HOO.out, if_pos hneg]
            exact HN.out.put x⟩
          case measure => simp [intOf]; omega
      · go_wp2
        go_region_held3 (fun w' => (w'.cell? ⟨g, k * 8, none⟩ = some (.int .i64 x.a) ∧ w'.cell? ⟨g, k * 8 + 1, none⟩ = some (.int .i64 x.b) ∧ w'.cell? ⟨g, k * 8 + 2, none⟩ = some (.int .i64 x.c) ∧ w'.cell? ⟨g, k * 8 + 3, none⟩ = some (.int .i64 x.d) ∧ w'.cell? ⟨g, k * 8 + 4, none⟩ = some (.int .i64 x.e) ∧ w'.cell? ⟨g, k * 8 + 5, none⟩ = some (.int .i64 x.f) ∧ w'.cell? ⟨g, k * 8 + 6, none⟩ = some (.int .i64 x.g) ∧ w'.cell? ⟨g, k * 8 + 7, none⟩ = some (.int .i64 x.t)) ∧
          (w'.cell? ⟨w.heap.size + 1, 0, none⟩ = some (.int .i64 m.a) ∧ w'.cell? ⟨w.heap.size + 1, 1, none⟩ = some (.int .i64 m.b) ∧ w'.cell? ⟨w.heap.size + 1, 2, none⟩ = some (.int .i64 m.c) ∧ w'.cell? ⟨w.heap.size + 1, 3, none⟩ = some (.int .i64 m.d) ∧ w'.cell? ⟨w.heap.size + 1, 4, none⟩ = some (.int .i64 m.e) ∧ w'.cell? ⟨w.heap.size + 1, 5, none⟩ = some (.int .i64 m.f) ∧ w'.cell? ⟨w.heap.size + 1, 6, none⟩ = some (.int .i64 m.g) ∧ w'.cell? ⟨w.heap.size + 1, 7, none⟩ = some (.int .i64 m.t))) (first | exact ⟨⟨d0, d1, d2, d3, d4, d5, d6, d7⟩, m0, m1, m2, m3, m4, m5, m6, m7⟩ | exact ⟨⟨e0, e1, e2, e3, e4, e5, e6, e7⟩, p0, p1, p2, p3, p4, p5, p6, p7⟩)
          (first
            | (go_at_call 69; refine (HO.out _).mono ?_; rintro e w1 ⟨rfl, b1⟩; have b2 := undrew b1; obtain ⟨e0, e1, e2, e3, e4, e5, e6, e7⟩ := At8.below hD.out hgs b2; obtain ⟨p0, p1, p2, p3, p4, p5, p6, p7⟩ := At8.below HS.out.at8 HS.out.size b2))
        all_goals
          have HN := Lib.hid (HS.out.next b2)
          clear b1 b2 d0 d1 d2 d3 d4 d5 d6 d7 m0 m1 m2 m3 m4 m5 m6 m7 p0 p1 p2 p3 p4 p5 p6 p7
          go_wp2_with fail
          go_roundw
          case rel => exact ⟨k + 1, by omega, by omega, by go_num, by
            rw [List.take_add_one, HX.out, show Option.toList (some x) = [x] from rfl, minW_snoc _ _ (by rw [List.length_take]; have := HL.out; omega), HM.out, HOO.out, if_neg (by omega)]
            exact HN.out⟩
          case measure => simp [intOf]; omega
    · obtain rfl : k = n := by omega
      have hc : ¬ (k : Int) < k := by omega
      obtain ⟨m, hm⟩ : ∃ m, minW (xs.take k) = m := ⟨_, rfl⟩
      rw [hm] at hS
      rw [List.take_of_length_le (by have := HL.out; omega)] at hm
      obtain ⟨m0, m1, m2, m3, m4, m5, m6, m7⟩ := hS.at8
      simp only [Nat.zero_add] at m1 m2 m3 m4 m5 m6 m7
      have HR : Hid (wr.heap[w.heap.size]? = some (.cells (wayA Way.zero) 70 (0, 0))) := hS.res
      have HM := Lib.hid hm
      have HB := Lib.hid hS.below
      clear hS hm
      go_wp2_with (refine wpList_store_row (o := ⟨none, .store 70 (.tmp 4) (.tmp 32), _, _, _, _⟩) rfl 70 (.tmp 4) (.tmp 32) rfl w.heap.size (wayA m) rfl rfl 70 (wayA Way.zero) HR.out info_way rfl (wayA_one m) ?_)
      exact bodyPost_ret (v := wayV m) (results_cell_row rfl _ _ w.heap.size 70 (wayA m) (0, 0) _ rfl (setRow_heap _ _ _ _ _ _ HR.out) Try.underlying70 rfl info_way) rfl ⟨by rw [HM.out], below_setRow HB.out (Nat.le_refl _) _⟩
end Go.Proofs.Ytambhhjbafefgaa

/- States of the search: isTaken, next. -/
namespace Go.Proofs.Ytambhhjbafefgaa
set_option linter.unusedVariables false
open Go.RowKit

theorem and_fin : ∀ T : Fin 128, ∀ j : Fin 7, (bits BinOp.and IntKind.i64 ((T.1 : Nat) / 2 ^ j.1) 1 == 1) = T.1.testBit j.1 := by decide +kernel
theorem or_fin : ∀ T : Fin 128, ∀ j : Fin 7, bits BinOp.or IntKind.i64 (T.1 : Nat) (wrap64 (2 ^ j.1)) = ((T.1 ||| 1 <<< j.1 : Nat) : Int) := by decide +kernel
theorem or_lt : ∀ T : Fin 128, ∀ j : Fin 7, T.1 ||| 1 <<< j.1 < 128 := by decide +kernel

set_option maxHeartbeats 1000000 in
theorem isTaken_any (b T j : Nat) (hT : T < 128) (hj : j < 7) (w : World) :
    Calls Try.prog 93 #[.agg #[.int .i64 b, .int .i64 T], .int .i64 j] w fun e w' => e = .returned (.bool (T.testBit j)) ∧ Below w.heap.size w w' := by
  go_enter Try.func93, Try.ntmps93
  go_wp2
  go_ret
  exact ⟨ret_bool (by have := and_fin ⟨T, hT⟩ ⟨j, hj⟩; simpa using this), below_alloc _ _⟩
set_option maxHeartbeats 1000000 in
theorem next_any (b T j : Nat) (hb : b < 1000) (hT : T < 128) (hj : j < 7) (w : World) :
    Calls Try.prog 94 #[.agg #[.int .i64 b, .int .i64 T], .int .i64 j] w fun e w' => e = .returned (.agg #[.int .i64 ((b + 1 : Nat) : Int), .int .i64 ((T ||| 1 <<< j : Nat) : Int)]) ∧ Below w.heap.size w w' := by
  go_enter Try.func94, Try.ntmps94
  go_wp2
  go_region
  go_wp2
  have h := or_fin ⟨T, hT⟩ ⟨j, hj⟩
  simp only at h
  rw [h]
  exact bodyPost_ret (v := .agg #[.int .i64 ((b : Int) + 1), .int .i64 ((T ||| 1 <<< j : Nat) : Int)]) (by simp [results, Try.results94, go_sem]) rfl ⟨by rw [show ((b + 1 : Nat) : Int) = (b : Int) + 1 from by omega], (b_next (below_alloc _ _) (below_alloc _ _)).drew⟩
end Go.Proofs.Ytambhhjbafefgaa

/- The memory of the search: a map from states to ways. -/
namespace Go.Proofs.Ytambhhjbafefgaa
set_option linter.unusedVariables false
open Go.RowKit Go.Maps

/-- the ways that put the next button into a free hole, and then go on as W says -/
def waysOf (W : Nat → Way) (b : Nat) (T : Nat) (row : List Int) (k : Nat) : List Way :=
  (List.range k).filterMap fun j => if T.testBit j then none else some ((W (T ||| 1 <<< j)).put b j (row.getD j 0))
/-- the first way for the last f rows of C, into holes that are not in T -/
def firstW (C : List (List Int)) : Nat → Nat → Way
  | 0, _ => Way.zero
  | f + 1, T => minW (waysOf (firstW C f) (C.length - (f + 1)) T (C.getD (C.length - (f + 1)) []) (C.getD (C.length - (f + 1)) []).length)

theorem waysOf_succ (W : Nat → Way) (b T : Nat) (row : List Int) (k : Nat) : waysOf W b T row (k + 1) = waysOf W b T row k ++ if T.testBit k then [] else [(W (T ||| 1 <<< k)).put b k (row.getD k 0)] := by
  unfold waysOf
  rw [List.range_succ, List.filterMap_append]
  congr 1
  simp only [List.filterMap_cons, List.filterMap_nil]
  cases T.testBit k <;> rfl
theorem waysOf_le (W : Nat → Way) (b T : Nat) (row : List Int) : ∀ k, (waysOf W b T row k).length ≤ k
  | 0 => Nat.le_refl _
  | k + 1 => by
    rw [waysOf_succ, List.length_append]
    have := waysOf_le W b T row k
    split <;> simp <;> omega

abbrev stV (b T : Nat) : Value := .agg #[.int .i64 b, .int .i64 T]
set_option maxRecDepth 100000 in
theorem rowS : (98 : TypeId) < Try.prog.types.size := of_decide_eq_true (by kernel_rfl)
theorem laidOut : laidOutB Try.prog = true := by kernel_rfl
theorem wideS : (match Try.prog.underlying 98 with | some (.array _ _) | some (.struct _) => true | _ => false) = true := by rw [Try.underlying98]
set_option maxRecDepth 100000 in
theorem keyedS : Keyed Try.prog 98 := Keyed.of_law (deep_law_laid laidOut (m := 2) (by omega) rowS (by kernel_rfl) wideS)
set_option maxRecDepth 100000 in
theorem cellsS : Try.prog.cellsOf 98 = 2 := by kernel_rfl
theorem cells3 : Try.prog.cellsOf 3 = 1 := by kernel_rfl
set_option maxRecDepth 100000 in
theorem keyTS : Try.prog.keyType 98 = true := by kernel_rfl
set_option maxRecDepth 100000 in
theorem key_some (b e : Nat) (hb : b ≤ 1000) (he : e ≤ 1000) : keyOf Try.prog 98 (stV b e) = some (.string (keyBytes [.int .i64 b, .int .i64 e])) := by
  obtain ⟨m, hm⟩ : ∃ m, Try.prog.types.size = m + 1 := ⟨Try.prog.types.size - 1, (Nat.succ_pred_eq_of_pos (Nat.lt_of_le_of_lt (Nat.zero_le _) rowS)).symm⟩
  have w1 : (Lit.int .i64 (b : Int)).wf = true := WalkArith.wf_i64 ⟨by omega, by omega⟩
  have w2 : (Lit.int .i64 (e : Int)).wf = true := WalkArith.wf_i64 ⟨by omega, by omega⟩
  have hf : (stV b e).formed Try.prog 98 = true := by simp [Value.formed, Try.underlying98, cellsS]
  unfold keyOf
  rw [Try.underlying98, keyTS, hf, hm]
  simp [Program.keyLits, Try.underlying98, Try.underlying3, cellsS, cells3, Value.cells, w1, w2]

def keyLit (p : Nat × Nat) : Lit := .string (keyBytes [.int .i64 p.1, .int .i64 p.2])
def Small (p : Nat × Nat) : Prop := p.1 ≤ 1000 ∧ p.2 ≤ 1000
theorem keyLit_key {p : Nat × Nat} (h : Small p) : keyOf Try.prog 98 (stV p.1 p.2) = some (keyLit p) := key_some p.1 p.2 h.1 h.2
theorem keyLit_is {p : Nat × Nat} (h : Small p) : WideAt.IsKeyLit (keyLit p) := keyedS.key (keyLit_key h)
theorem keyLit_inj {p q : Nat × Nat} (hp : Small p) (hq : Small q) (h : keyLit p = keyLit q) : p = q := by
  have := keyedS.inj (keyLit_key hp) (by rw [h]; exact keyLit_key hq)
  simp [stV] at this
  exact Prod.ext (by omega) (by omega)
theorem contains_snoc (L : List (Nat × Nat)) (q p : Nat × Nat) : (L ++ [q]).contains p = (L.contains p || decide (p = q)) := by
  rw [Bool.eq_iff_iff, Bool.or_eq_true, List.contains_iff_mem, List.contains_iff_mem, List.mem_append, List.mem_singleton, decide_eq_true_eq]
theorem snoc_rec {α : Type} {p : List α → Prop} (h0 : p []) (h1 : ∀ l x, p l → p (l ++ [x])) : ∀ l, p l := by
  intro l
  rw [← List.reverse_reverse l]
  induction l.reverse with
  | nil => exact h0
  | cons x l ih => rw [List.reverse_cons]; exact h1 _ _ ih

/-- how a way in the map reads -/
def wayD (x : Way) : DataW Unit := .agg [.lit (.int .i64 x.a), .lit (.int .i64 x.b), .lit (.int .i64 x.c), .lit (.int .i64 x.d), .lit (.int .i64 x.e), .lit (.int .i64 x.f), .lit (.int .i64 x.g), .lit (.int .i64 x.t)]
def wayR : Value → Option (DataW Unit × List MemPlace)
  | .agg ⟨[.int .i64 a, .int .i64 b, .int .i64 c, .int .i64 d, .int .i64 e, .int .i64 f, .int .i64 g, .int .i64 t]⟩ => some (wayD ⟨a, b, c, d, e, f, g, t⟩, [])
  | _ => none
theorem wayR_val (x : Way) : wayR (wayV x) = some (wayD x, []) := rfl
theorem wayD_inj {x y : Way} (h : wayD x = wayD y) : x = y := by
  cases x; cases y; simp [wayD] at h; simp [h]
theorem wayR_inv {v : Value} {x : Way} {ps : List MemPlace} (h : wayR v = some (wayD x, ps)) : v = wayV x := by
  unfold wayR at h
  split at h
  · have := wayD_inj (Prod.mk.inj (Option.some.inj h)).1
    subst this; rfl
  · cases h

/-- what the search has found at p -/
def foundW (C : List (List Int)) (p : Nat × Nat) : Way := firstW C (C.length - p.1) p.2
def memoStep (C : List (List Int)) (m : DataW Unit) (p : Nat × Nat) : DataW Unit := m.put (keyLit p) (wayD (foundW C p))
def memoOf (C : List (List Int)) (L : List (Nat × Nat)) : DataW Unit := L.foldl (memoStep C) (.map [])
theorem memoOf_snoc (C : List (List Int)) (L : List (Nat × Nat)) (p : Nat × Nat) : memoOf C (L ++ [p]) = (memoOf C L).put (keyLit p) (wayD (foundW C p)) := by
  simp [memoOf, List.foldl_append, memoStep]
theorem memoOf_isMap (C : List (List Int)) : ∀ L, IsMap (memoOf C L) := by
  refine snoc_rec isMap_empty ?_
  intro L p ih
  rw [memoOf_snoc]; exact ih.put _ _
theorem memoOf_has (C : List (List Int)) {p : Nat × Nat} (hp : Small p) : ∀ L, (∀ q ∈ L, Small q) → has (memoOf C L) (keyLit p) = L.contains p := by
  refine snoc_rec (fun _ => rfl) ?_
  intro L q ih hL
  rw [memoOf_snoc]
  by_cases h : p = q
  · subst h
    rw [has_put_same (memoOf_isMap C L) (keyLit_is hp), contains_snoc, decide_eq_true rfl, Bool.or_true]
  · rw [has_put_other (fun e => h (keyLit_inj hp (hL q (List.mem_append_right _ (List.mem_singleton.2 rfl))) e)), ih (fun r hr => hL r (List.mem_append_left _ hr)), contains_snoc, decide_eq_false h, Bool.or_false]
theorem memoOf_at (C : List (List Int)) {p : Nat × Nat} (hp : Small p) (z : DataW Unit) : ∀ L, (∀ q ∈ L, Small q) → (memoOf C L).atKey (keyLit p) z = if L.contains p then wayD (foundW C p) else z := by
  refine snoc_rec (fun _ => rfl) ?_
  intro L q ih hL
  rw [memoOf_snoc]
  by_cases h : p = q
  · subst h
    rw [atKey_put_same (memoOf_isMap C L) (keyLit_is hp), contains_snoc, decide_eq_true rfl, Bool.or_true, if_pos rfl]
  · rw [atKey_put_other (fun e => h (keyLit_inj hp (hL q (List.mem_append_right _ (List.mem_singleton.2 rfl))) e)), ih (fun r hr => hL r (List.mem_append_left _ hr)), contains_snoc, decide_eq_false h, Bool.or_false]

theorem zeroWay (w : World) : (zeroValue 70).run Try.prog w = .ok (wayV Way.zero) w := by kernel_rfl

/-- known, ok := s.found[from] -/
theorem wpList_lookup_memo (C : List (List Int)) (L : List (Nat × Nat)) (p : Nat × Nat) (hp : Small p) (hL : ∀ q ∈ L, Small q) (w : World) {ops : Array Oper} {rest : List Oper} {o : Oper} {a : Act} {Q : Exit → Act → World → Prop}
    (hg : o.guard = none) (m x : Operand) (hop : o.op = Op.lookup 91 m x true) (b n : Nat)
    (hm : a.eval m = .map (some b)) (hown : w.ownsMap Try.prog 98 wayR b n (memoOf C L)) (hx : a.eval x = stV p.1 p.2)
    (c : Bool) (r : Way) (hc : L.contains p = c) (hr : r = if c then foundW C p else Way.zero)
    (hK : wpList Try.prog ops Q rest (a.put o.dst (.tuple #[wayV r, .bool c])) w) :
    wpList Try.prog ops Q (o :: rest) a w := by
  refine wpList_lookup_own_ok w hg m x 91 hop 98 70 keyedS Try.underlying91 wayR (zeroWay w) (wayD Way.zero) [] (wayR_val _) b n (memoOf C L) hm hown _ (keyLit p) hx (keyLit_key hp) ?_
  intro v ps hv
  rw [memoOf_has C hp L hL, hc]
  rw [memoOf_at C hp _ L hL, hc] at hv
  have : v = wayV r := by
    rw [hr]
    cases c
    · exact wayR_inv hv
    · exact wayR_inv hv
  rw [this]
  exact hK
end Go.Proofs.Ytambhhjbafefgaa

/- The search's contract. -/
namespace Go.Proofs.Ytambhhjbafefgaa
set_option linter.unusedVariables false
open Go.RowKit Go.Maps

/-- the costs' bounds: rows of m numbers -/
structure Rect (C : List (List Int)) (m : Nat) : Prop where
  n7 : C.length ≤ 7
  m7 : m ≤ 7
  len : ∀ row ∈ C, row.length = m
  cost : ∀ row ∈ C, ∀ x ∈ row, -1000 ≤ x ∧ x ≤ 1000

/-- f more buttons fit into the holes that are not in T -/
def Fits (T f m : Nat) : Prop := f + (List.range m).countP (T.testBit ·) ≤ m

theorem testBit_next (T j i : Nat) : (T ||| 1 <<< j).testBit i = (T.testBit i || decide (i = j)) := by
  rw [Nat.testBit_or, Nat.one_shiftLeft, Nat.testBit_two_pow]
  congr 1
  exact decide_eq_decide.2 ⟨fun h => h.symm, fun h => h.symm⟩
theorem countP_or {α : Type} (p q : α → Bool) : ∀ l : List α, l.countP (fun x => p x || q x) ≤ l.countP p + l.countP q
  | [] => by simp
  | x :: l => by
    have := countP_or p q l
    rw [List.countP_cons, List.countP_cons, List.countP_cons]
    cases p x <;> cases q x <;> simp <;> omega
theorem countP_one (j : Nat) : ∀ m, (List.range m).countP (fun i => decide (i = j)) ≤ 1
  | 0 => by simp
  | m + 1 => by
    rw [List.range_succ, List.countP_append]
    by_cases h : m = j
    · have : (List.range m).countP (fun i => decide (i = j)) = 0 := by
        rw [List.countP_eq_zero]; intro x hx; rw [List.mem_range] at hx; simp; omega
      rw [this]; simp [h]
    · have := countP_one j m
      simp [h]; exact this
theorem Fits.next {T f m : Nat} (h : Fits T (f + 1) m) (j : Nat) : Fits (T ||| 1 <<< j) f m := by
  unfold Fits at h ⊢
  have h1 : (List.range m).countP ((T ||| 1 <<< j).testBit ·) = (List.range m).countP (fun i => T.testBit i || decide (i = j)) := by
    congr 1; funext i; exact testBit_next T j i
  have h2 := countP_or (T.testBit ·) (fun i => decide (i = j)) (List.range m)
  have h3 := countP_one j m
  rw [h1]; omega
theorem Fits.some {T f m : Nat} (h : Fits T (f + 1) m) : ∃ j, j < m ∧ T.testBit j = false := by
  unfold Fits at h
  have hlt : (List.range m).countP (T.testBit ·) < (List.range m).length := by rw [List.length_range]; omega
  have : ¬ ∀ x ∈ List.range m, T.testBit x = true := fun hc => by
    rw [List.countP_eq_length.2 hc] at hlt; omega
  obtain ⟨j, hj⟩ := Classical.not_forall.1 this
  obtain ⟨hj1, hj2⟩ := Classical.not_imp.1 hj
  exact ⟨j, List.mem_range.1 hj1, by simpa using hj2⟩
theorem waysOf_pos (W : Nat → Way) (b T : Nat) (row : List Int) {j k : Nat} (hj : j < k) (h : T.testBit j = false) : 0 < (waysOf W b T row k).length := by
  have : (W (T ||| 1 <<< j)).put b j (row.getD j 0) ∈ waysOf W b T row k := by
    unfold waysOf
    rw [List.mem_filterMap]
    exact ⟨j, List.mem_range.2 hj, by rw [h]; rfl⟩
  exact List.length_pos_of_mem this

theorem minW_mem : ∀ (xs : List Way), xs ≠ [] → minW xs ∈ xs := by
  refine snoc_rec (fun h => absurd rfl h) ?_
  intro l x ih _
  by_cases h : l = []
  · subst h; exact List.mem_singleton.2 rfl
  · rw [minW_snoc l x (List.length_pos_iff.2 h)]
    split
    · exact List.mem_append_right _ (List.mem_singleton.2 rfl)
    · exact List.mem_append_left _ (ih h)
theorem put_t (x : Way) (i : Nat) (h k : Int) : (x.put i h k).t = x.t + k := by unfold Way.put; split <;> rfl
theorem getD_bound {row : List Int} (h : ∀ x ∈ row, -1000 ≤ x ∧ x ≤ 1000) (j : Nat) : -1000 ≤ row.getD j 0 ∧ row.getD j 0 ≤ 1000 := by
  rw [List.getD_eq_getElem?_getD]
  cases hj : row[j]? with
  | none => simp
  | some x => exact h x (List.mem_of_getElem? hj)
theorem Rect.rowD {C : List (List Int)} {m : Nat} (h : Rect C m) (b : Nat) : ∀ x ∈ C.getD b [], -1000 ≤ x ∧ x ≤ 1000 := by
  rw [List.getD_eq_getElem?_getD]
  cases hb : C[b]? with
  | none => intro x hx; simp at hx
  | some row => exact h.cost row (List.mem_of_getElem? hb)
theorem firstW_t {C : List (List Int)} {m : Nat} (h : Rect C m) : ∀ (f T : Nat), -1000 * (f : Int) ≤ (firstW C f T).t ∧ (firstW C f T).t ≤ 1000 * (f : Int)
  | 0, _ => by simp [firstW, Way.zero]
  | f + 1, T => by
    rw [firstW]
    by_cases hn : waysOf (firstW C f) (C.length - (f + 1)) T (C.getD (C.length - (f + 1)) []) (C.getD (C.length - (f + 1)) []).length = []
    · rw [hn]; simp [minW, Way.zero]; omega
    · have hm := minW_mem _ hn
      generalize minW (waysOf (firstW C f) (C.length - (f + 1)) T (C.getD (C.length - (f + 1)) []) (C.getD (C.length - (f + 1)) []).length) = y at hm ⊢
      unfold waysOf at hm
      rw [List.mem_filterMap] at hm
      obtain ⟨j, _, hj⟩ := hm
      split at hj
      · cases hj
      · rw [Option.some.injEq] at hj
        have h1 := firstW_t h f (T ||| 1 <<< j)
        have h2 := getD_bound (h.rowD (C.length - (f + 1))) j
        rw [← hj, put_t]
        omega

theorem cell_not_map {W : World} {B o M n : Nat} {v : Value} {k : TypeId} {R : Value → Option (DataW Unit × List MemPlace)} {D : DataW Unit} (h : W.cell? ⟨B, o, none⟩ = some v) (hm : W.ownsMap Try.prog k R M n D) : some B ≠ some M := by
  rintro ⟨⟩
  obtain ⟨es, clock, hb, _⟩ := hm
  simp [World.cell?, hb] at h
theorem Row.grown {w w' : World} {a : Option Addr} {n M N : Nat} {vs : List Value} {k : TypeId} {R : Value → Option (DataW Unit × List MemPlace)} {D : DataW Unit} (h : Row w a n vs) (hm : w.ownsMap Try.prog k R M N D) (hg : w.grownBy w' (some M)) : Row w' a n vs :=
  ⟨h.1, fun hn => by
    obtain ⟨g, h1, h3, h4⟩ := h.2 hn
    exact ⟨g, h1, Nat.lt_of_lt_of_le h3 hg.size, fun j u hu => hg.cell (h4 j u hu) (cell_not_map (h4 j u hu) hm)⟩⟩
theorem Tbl.grown {w w' : World} {a : Option Addr} {C : List (List Int)} {M N : Nat} {k : TypeId} {R : Value → Option (DataW Unit × List MemPlace)} {D : DataW Unit} (h : Tbl w a C) (hm : w.ownsMap Try.prog k R M N D) (hg : w.grownBy w' (some M)) : Tbl w' a C := fun hn => by
  obtain ⟨g, h1, h2, h3⟩ := h hn
  refine ⟨g, h1, Nat.lt_of_lt_of_le h2 hg.size, fun i row hi => ?_⟩
  obtain ⟨ra, rc, c1, c2, c3⟩ := h3 i row hi
  exact ⟨ra, rc, hg.cell c1 (cell_not_map c1 hm), c2, c3.grown hm hg⟩

structure Found (C : List (List Int)) (a : Option Addr) (M : Nat) (W : World) (L : List (Nat × Nat)) : Prop where
  tbl : Tbl W a C
  own : W.ownsMap Try.prog 98 wayR M L.length (memoOf C L)
  small : ∀ q ∈ L, Small q
  nodup : L.Nodup
theorem Found.grown {C : List (List Int)} {a : Option Addr} {M : Nat} {W W' : World} {L L' : List (Nat × Nat)} (h : Found C a M W L) (hg : W.grownBy W' (some M))
    (ho : W'.ownsMap Try.prog 98 wayR M L'.length (memoOf C L')) (hs : ∀ q ∈ L', Small q) (hn : L'.Nodup) : Found C a M W' L' :=
  ⟨h.tbl.grown h.own hg, ho, hs, hn⟩
theorem below_grown {w w' : World} (h : Below w.heap.size w w') (row : Option Nat) : w.grownBy w' row := ⟨h.os, h.tape, h.output, h.size, fun k hk _ => h.block k hk⟩
theorem Found.below {C : List (List Int)} {a : Option Addr} {M : Nat} {W W' : World} {L : List (Nat × Nat)} (h : Found C a M W L) (hb : Below W.heap.size W W') : Found C a M W' L :=
  ⟨h.tbl.below hb, h.own.kept (below_grown hb none) (by simp), h.small, h.nodup⟩
/-- written besides: a block of the call's own -/
theorem Found.besides {C : List (List Int)} {a : Option Addr} {M B : Nat} {W W' : World} {L : List (Nat × Nat)} (h : Found C a M W L) (hb : Below B W W') (hM : M < B) (ht : Tbl W' a C) : Found C a M W' L :=
  ⟨ht, by
    obtain ⟨es, clock, hb1, hf⟩ := h.own
    exact ⟨es, clock, (hb.block M hM).trans hb1, hf⟩, h.small, h.nodup⟩
theorem grown_trans {a b c : World} {row : Option Nat} (h : a.grownBy b row) (k : b.grownBy c row) : a.grownBy c row :=
  ⟨k.os.trans h.os, k.tape.trans h.tape, k.output.trans h.output, Nat.le_trans h.size k.size, fun i hi hne => (k.block i (Nat.lt_of_lt_of_le hi h.size) hne).trans (h.block i hi hne)⟩
theorem grown_below {a b c : World} {row : Option Nat} (h : a.grownBy b row) (k : Below a.heap.size b c) : a.grownBy c row :=
  ⟨k.os.trans h.os, k.tape.trans h.tape, k.output.trans h.output, Nat.le_trans h.size k.size, fun i hi hne => (k.block i hi).trans (h.block i hi hne)⟩

/-- what a search leaves -/
def Searched (C : List (List Int)) (a : Option Addr) (M f b T : Nat) (W : World) (L : List (Nat × Nat)) (e : Ending) (W' : World) : Prop :=
  e = .returned (wayV (firstW C f T)) ∧ ∃ L', Found C a M W' L' ∧ (∀ q ∈ L', q ∈ L ∨ b ≤ q.1) ∧ W.grownBy W' (some M)

theorem first_zero (C : List (List Int)) (a : Option Addr) (cap M T : Nat) (L : List (Nat × Nat)) (W : World) (hF : Found C a M W L) (hT : T < 128) :
    Calls Try.prog 75 #[.agg #[.slice a C.length cap, .map (some M)], stV C.length T] W (Searched C a M 0 C.length T W L) := by
  have HF := Lib.hid hF
  clear hF
  go_enter Try.func75, Try.ntmps75
  go_wp2
  exact bodyPost_ret (v := wayV Way.zero) (by simp [results, Try.results75, go_sem, wayV, Way.zero]) rfl ⟨rfl, L, HF.out.below (b_next (b_next (below_alloc _ _) (below_alloc _ _)) (below_alloc _ _)), fun q hq => .inl hq, below_grown (b_next (b_next (below_alloc _ _) (below_alloc _ _)) (below_alloc _ _)) _⟩

set_option maxRecDepth 100000 in
set_option maxHeartbeats 2000000 in
theorem first_known (C : List (List Int)) (a : Option Addr) (cap M f b T : Nat) (L : List (Nat × Nat)) (W : World) (hF : Found C a M W L) (hT : T < 128) (hb : b + f = C.length) (hf : 0 < f) (hn : C.length ≤ 7) (hc : L.contains (b, T) = true) :
    Calls Try.prog 75 #[.agg #[.slice a C.length cap, .map (some M)], stV b T] W (Searched C a M f b T W L) := by
  have hsm : Small (b, T) := ⟨by show b ≤ 1000; omega, by show T ≤ 1000; omega⟩
  have hr : firstW C f T = foundW C (b, T) := by unfold foundW; rw [show C.length - (b, T).1 = f from by show C.length - b = f; omega]
  obtain ⟨r, hr2⟩ : ∃ r, firstW C f T = r := ⟨_, rfl⟩
  have HR : Hid (r = if true then foundW C (b, T) else Way.zero) := by unfold Hid; rw [if_pos rfl, ← hr, hr2]
  have Hr2 := Lib.hid hr2
  have h1 : ((b : Int) == (C.length : Int)) = false := by simp; omega
  have hown := ((hF.own.alloc (.cells #[.slice a C.length cap, .map (some M)] 93)).alloc (.cells #[.int .i64 b, .int .i64 T] 98)).alloc (.cells #[.int .i64 0, .int .i64 0, .int .i64 0, .int .i64 0, .int .i64 0, .int .i64 0, .int .i64 0, .int .i64 0] 70)
  have HO := Lib.hid hown
  have Hsm := Lib.hid hsm
  have HS := Lib.hid hF.small
  have Hc := Lib.hid hc
  have HF := Lib.hid hF
  clear hF hc hr hr2 hown
  go_enter Try.func75, Try.ntmps75
  go_wp2_with (at_lookup; refine wpList_lookup_memo C L (b, T) Hsm.out HS.out _ rfl _ _ rfl M _ rfl HO.out rfl true r Hc.out HR.out ?_; unfold wayV)
  have hB := b_next (b_next (b_next (below_alloc W (.cells #[.slice a C.length cap, .map (some M)] 93)) (below_alloc _ (.cells #[.int .i64 b, .int .i64 T] 98))) (below_alloc _ (.cells (wayA r) 70))) (below_alloc _ (.cells (wayA r) 70))
  exact bodyPost_ret (v := wayV r) (by simp [results, Try.results75, go_sem, wayV]) rfl ⟨by rw [Hr2.out], L, HF.out.below hB, fun q hq => .inl hq, below_grown hB _⟩

theorem set_next {w : World} {P : Nat} {t : TypeId} (cs cs' : Array Value) (j : Nat) (v : Value) (h : ∃ old, w.heap[P]? = some (.cells old t (0, 0))) (hc : cs.setIfInBounds j v = cs') : (w.setRow P cs).setCell ⟨P, j, none⟩ v = w.setRow P cs' := by
  obtain ⟨old, h⟩ := h
  rw [setCell_eq_setRow _ P j cs t (0, 0) v (setRow_heap w P old cs t (0, 0) h), setRow_setRow, hc]
theorem store8 {w : World} {P : Nat} {x : Way} {t : TypeId} (y : Way) (h : w.heap[P]? = some (.cells (wayA x) t (0, 0))) :
    (((((((w.setCell ⟨P, 0, none⟩ (.int .i64 y.a)).setCell ⟨P, 1, none⟩ (.int .i64 y.b)).setCell ⟨P, 2, none⟩ (.int .i64 y.c)).setCell ⟨P, 3, none⟩ (.int .i64 y.d)).setCell ⟨P, 4, none⟩ (.int .i64 y.e)).setCell ⟨P, 5, none⟩ (.int .i64 y.f)).setCell ⟨P, 6, none⟩ (.int .i64 y.g)).setCell ⟨P, 7, none⟩ (.int .i64 y.t) = w.setRow P (wayA y) := by
  have h' : ∃ old, w.heap[P]? = some (.cells old t (0, 0)) := ⟨_, h⟩
  rw [setCell_eq_setRow w P 0 (wayA x) t (0, 0) (.int .i64 y.a) h]
  rw [set_next (t := t) _ #[.int .i64 y.a, .int .i64 y.b, .int .i64 x.c, .int .i64 x.d, .int .i64 x.e, .int .i64 x.f, .int .i64 x.g, .int .i64 x.t] 1 _ h' (by simp),
    set_next (t := t) _ #[.int .i64 y.a, .int .i64 y.b, .int .i64 y.c, .int .i64 x.d, .int .i64 x.e, .int .i64 x.f, .int .i64 x.g, .int .i64 x.t] 2 _ h' (by simp),
    set_next (t := t) _ #[.int .i64 y.a, .int .i64 y.b, .int .i64 y.c, .int .i64 y.d, .int .i64 x.e, .int .i64 x.f, .int .i64 x.g, .int .i64 x.t] 3 _ h' (by simp),
    set_next (t := t) _ #[.int .i64 y.a, .int .i64 y.b, .int .i64 y.c, .int .i64 y.d, .int .i64 y.e, .int .i64 x.f, .int .i64 x.g, .int .i64 x.t] 4 _ h' (by simp),
    set_next (t := t) _ #[.int .i64 y.a, .int .i64 y.b, .int .i64 y.c, .int .i64 y.d, .int .i64 y.e, .int .i64 y.f, .int .i64 x.g, .int .i64 x.t] 5 _ h' (by simp),
    set_next (t := t) _ #[.int .i64 y.a, .int .i64 y.b, .int .i64 y.c, .int .i64 y.d, .int .i64 y.e, .int .i64 y.f, .int .i64 y.g, .int .i64 x.t] 6 _ h' (by simp),
    set_next (t := t) _ (wayA y) 7 _ h' (by simp)]
end Go.Proofs.Ytambhhjbafefgaa

/- The search's contract: a state that it has not seen. -/
namespace Go.Proofs.Ytambhhjbafefgaa
set_option linter.unusedVariables false
open Go.RowKit Go.Maps

/-- the search's boxes: s, from, the result -/
structure Boxes (B M : Nat) (a : Option Addr) (n cap b T : Nat) (w : World) : Prop where
  lt : B + 3 < w.heap.size
  s0 : w.cell? ⟨B, 0, none⟩ = some (.slice a n cap)
  s1 : w.cell? ⟨B, 1, none⟩ = some (.map (some M))
  f0 : w.cell? ⟨B + 1, 0, none⟩ = some (.int .i64 b)
  f1 : w.cell? ⟨B + 1, 1, none⟩ = some (.int .i64 T)
  res : w.heap[B + 2]? = some (.cells (wayA Way.zero) 70 (0, 0))
theorem Boxes.grown {B M n cap b T : Nat} {a : Option Addr} {w w' : World} {row : Option Nat} (h : Boxes B M a n cap b T w) (hg : w.grownBy w' row) (hr : ∀ k, row = some k → k < B ∨ B + 4 ≤ k) : Boxes B M a n cap b T w' := by
  have hne : ∀ i, i < 4 → some (B + i) ≠ row := fun i hi e => by have := hr _ e.symm; omega
  have hl := h.lt
  exact ⟨Nat.lt_of_lt_of_le h.lt hg.size, hg.cell h.s0 (hne 0 (by omega)), hg.cell h.s1 (hne 0 (by omega)), hg.cell h.f0 (hne 1 (by omega)), hg.cell h.f1 (hne 1 (by omega)), (hg.block _ (by omega) (hne 2 (by omega))).trans h.res⟩
theorem Boxes.below {B M n cap b T : Nat} {a : Option Addr} {w w' : World} (h : Boxes B M a n cap b T w) (hb : Below w.heap.size w w') : Boxes B M a n cap b T w' :=
  h.grown (below_grown hb none) (fun k e => by cases e)
theorem Boxes.drew {B M n cap b T : Nat} {a : Option Addr} {w : World} (h : Boxes B M a n cap b T w) : Boxes B M a n cap b T w.drew := ⟨h.lt, h.s0, h.s1, h.f0, h.f1, h.res⟩
theorem zero8 {w : World} {P : Nat} {t : TypeId} (h : w.heap[P]? = some (.cells (wayA Way.zero) t (0, 0))) :
    (w.cell? ⟨P, 0, none⟩ = some (.int .i64 0) ∧ w.cell? ⟨P, 1, none⟩ = some (.int .i64 0) ∧ w.cell? ⟨P, 2, none⟩ = some (.int .i64 0) ∧ w.cell? ⟨P, 3, none⟩ = some (.int .i64 0) ∧ w.cell? ⟨P, 4, none⟩ = some (.int .i64 0) ∧ w.cell? ⟨P, 5, none⟩ = some (.int .i64 0) ∧ w.cell? ⟨P, 6, none⟩ = some (.int .i64 0) ∧ w.cell? ⟨P, 7, none⟩ = some (.int .i64 0)) ∧
    (w.frozen? ⟨P, 0, none⟩ = false ∧ w.frozen? ⟨P, 1, none⟩ = false ∧ w.frozen? ⟨P, 2, none⟩ = false ∧ w.frozen? ⟨P, 3, none⟩ = false ∧ w.frozen? ⟨P, 4, none⟩ = false ∧ w.frozen? ⟨P, 5, none⟩ = false ∧ w.frozen? ⟨P, 6, none⟩ = false ∧ w.frozen? ⟨P, 7, none⟩ = false) := by
  have k := fun j => cell_of_row w P j _ _ _ h
  have f := fun j => frozen_of_row w P j _ _ h
  exact ⟨⟨k 0, k 1, k 2, k 3, k 4, k 5, k 6, k 7⟩, f 0, f 1, f 2, f 3, f 4, f 5, f 6, f 7⟩

/-- .. that it has not found -/
theorem wpList_lookup_miss (C : List (List Int)) (L : List (Nat × Nat)) (p : Nat × Nat) (hp : Small p) (hL : ∀ q ∈ L, Small q) (w : World) {ops : Array Oper} {rest : List Oper} {o : Oper} {a : Act} {Q : Exit → Act → World → Prop}
    (hg : o.guard = none) (m x : Operand) (hop : o.op = Op.lookup 91 m x true) (b n : Nat)
    (hm : a.eval m = .map (some b)) (hown : w.ownsMap Try.prog 98 wayR b n (memoOf C L)) (hx : a.eval x = stV p.1 p.2) (hc : L.contains p = false)
    (hK : wpList Try.prog ops Q rest (a.put o.dst (.tuple #[.agg #[.int .i64 0, .int .i64 0, .int .i64 0, .int .i64 0, .int .i64 0, .int .i64 0, .int .i64 0, .int .i64 0], .bool false])) w) :
    wpList Try.prog ops Q (o :: rest) a w :=
  wpList_lookup_memo C L p hp hL w hg m x hop b n hm hown hx false Way.zero hc rfl hK

/-- the world behind the search's boxes -/
abbrev world4 (W : World) (g n cap M b T : Nat) : World := (((W.alloc (.cells #[.slice (some ⟨g, 0, none⟩) n cap, .map (some M)] 93)).alloc (.cells #[.int .i64 b, .int .i64 T] 98)).alloc (.cells #[.int .i64 0, .int .i64 0, .int .i64 0, .int .i64 0, .int .i64 0, .int .i64 0, .int .i64 0, .int .i64 0] 70)).alloc (.cells #[.int .i64 0, .int .i64 0, .int .i64 0, .int .i64 0, .int .i64 0, .int .i64 0, .int .i64 0, .int .i64 0] 70)
theorem below4 (W : World) (g n cap M b T : Nat) : Below W.heap.size W (world4 W g n cap M b T) :=
  b_next (b_next (b_next (below_alloc _ _) (below_alloc _ _)) (below_alloc _ _)) (below_alloc _ _)
theorem Boxes.start (W : World) (g n cap M b T : Nat) : Boxes W.heap.size M (some ⟨g, 0, none⟩) n cap b T (world4 W g n cap M b T) := by
  have k0 : (world4 W g n cap M b T).heap[W.heap.size]? = some (.cells #[.slice (some ⟨g, 0, none⟩) n cap, .map (some M)] 93 (0, 0)) := by
    rw [Below.heap_alloc _ _ _ (by simp; omega), Below.heap_alloc _ _ _ (by simp; omega), Below.heap_alloc _ _ _ (by simp), heap_alloc_new]
  have k1 : (world4 W g n cap M b T).heap[W.heap.size + 1]? = some (.cells #[.int .i64 b, .int .i64 T] 98 (0, 0)) := by
    rw [Below.heap_alloc _ _ _ (by simp), Below.heap_alloc _ _ _ (by simp), heap_alloc2_new]
  have k2 : (world4 W g n cap M b T).heap[W.heap.size + 2]? = some (.cells (wayA Way.zero) 70 (0, 0)) := by
    have h := Below.heap_alloc ((((W.alloc (.cells #[.slice (some ⟨g, 0, none⟩) n cap, .map (some M)] 93)).alloc (.cells #[.int .i64 b, .int .i64 T] 98)).alloc (.cells #[.int .i64 0, .int .i64 0, .int .i64 0, .int .i64 0, .int .i64 0, .int .i64 0, .int .i64 0, .int .i64 0] 70))) (.cells #[.int .i64 0, .int .i64 0, .int .i64 0, .int .i64 0, .int .i64 0, .int .i64 0, .int .i64 0, .int .i64 0] 70) (W.heap.size + 2) (by simp)
    rw [h]
    have := heap_alloc2_new (W.alloc (.cells #[.slice (some ⟨g, 0, none⟩) n cap, .map (some M)] 93)) (.cells #[.int .i64 b, .int .i64 T] 98) (.cells #[.int .i64 0, .int .i64 0, .int .i64 0, .int .i64 0, .int .i64 0, .int .i64 0, .int .i64 0, .int .i64 0] 70)
    rw [show (W.alloc (.cells #[.slice (some ⟨g, 0, none⟩) n cap, .map (some M)] 93)).heap.size + 1 = W.heap.size + 2 from by simp] at this
    exact this
  have c := fun j => cell_of_row _ _ j _ _ _ k0
  have d := fun j => cell_of_row _ _ j _ _ _ k1
  exact ⟨by simp, c 0, c 1, d 0, d 1, k2⟩

/-- what the search's loop keeps -/
structure FirstSt (C : List (List Int)) (a : Option Addr) (M cap f b T : Nat) (row : List Int) (L : List (Nat × Nat)) (W : World) (k : Nat) (v : Value) (L' : List (Nat × Nat)) (wr : World) : Prop where
  own : wr.ownsRow (W.heap.size + 4) 70 8 v (waysOf (firstW C f) b T row k).length (waysC (waysOf (firstW C f) b T row k))
  found : Found C a M wr L'
  news : ∀ q ∈ L', q ∈ L ∨ b + 1 ≤ q.1
  grown : W.grownBy wr (some M)
  boxes : Boxes W.heap.size M a C.length cap b T wr
  lt : M < W.heap.size
theorem FirstSt.below {C : List (List Int)} {a : Option Addr} {M cap f b T k : Nat} {row : List Int} {L L' : List (Nat × Nat)} {W wr w1 : World} {v : Value} (h : FirstSt C a M cap f b T row L W k v L' wr) (hb : Below wr.heap.size wr w1) : FirstSt C a M cap f b T row L W k v L' w1 :=
  ⟨h.own.kept (below_grown hb none) (by cases v.ownBlock <;> simp), h.found.below hb, h.news, grown_below h.grown (hb.mono h.grown.size), h.boxes.below hb, h.lt⟩
theorem FirstSt.nextA {C : List (List Int)} {a : Option Addr} {M cap f b T k : Nat} {row : List Int} {L L' : List (Nat × Nat)} {W wr w1 : World} {v : Value} (h : FirstSt C a M cap f b T row L W k v L' wr) (hb : Below wr.drew.heap.size wr.drew w1) : FirstSt C a M cap f b T row L W k v L' w1 := h.below (undrew hb)
theorem FirstSt.nextC {C : List (List Int)} {a : Option Addr} {M cap f b T k : Nat} {row : List Int} {L L' : List (Nat × Nat)} {W wr w1 : World} {v : Value} (h : FirstSt C a M cap f b T row L W k v L' wr) {o : Obj} (hb : Below (wr.alloc o).drew.heap.size (wr.alloc o).drew w1) : FirstSt C a M cap f b T row L W k v L' w1 := h.below (b_next (below_alloc _ _) (undrew hb))
theorem FirstSt.skip {C : List (List Int)} {a : Option Addr} {M cap f b T k : Nat} {row : List Int} {L L' : List (Nat × Nat)} {W wr : World} {v : Value} (h : FirstSt C a M cap f b T row L W k v L' wr) (ht : T.testBit k = true) : FirstSt C a M cap f b T row L W (k + 1) v L' wr :=
  ⟨by rw [waysOf_succ, ht, if_pos rfl, List.append_nil]; exact h.own, h.found, h.news, h.grown, h.boxes, h.lt⟩
/-- behind the next search -/
theorem FirstSt.searched {C : List (List Int)} {a : Option Addr} {M cap f b T k : Nat} {row : List Int} {L L' L'' : List (Nat × Nat)} {W wr w1 : World} {v : Value} (h : FirstSt C a M cap f b T row L W k v L' wr) (hF : Found C a M w1 L'') (hq : ∀ q ∈ L'', q ∈ L' ∨ b + 1 ≤ q.1) (hg : wr.grownBy w1 (some M)) : FirstSt C a M cap f b T row L W k v L'' w1 :=
  ⟨h.own.kept hg (by
    cases hv : v.ownBlock with
    | none => exact .inl rfl
    | some j => right; intro e; rw [Option.some.injEq] at e; have := (h.own.lt j hv).1; have := h.lt; omega),
   hF, fun q hm => (hq q hm).elim (h.news q) .inr, grown_trans h.grown hg, h.boxes.grown hg (fun j e => by cases e; exact .inl h.lt), h.lt⟩

theorem keepS {B M n cap b T : Nat} {a : Option Addr} {w : World} (h : Boxes B M a n cap b T w) : (w.cell? ⟨B, 0, none⟩ = some (.slice a n cap) ∧ w.cell? ⟨B, 1, none⟩ = some (.map (some M))) ∧ (w.cell? ⟨B + 1, 0, none⟩ = some (.int .i64 b) ∧ w.cell? ⟨B + 1, 1, none⟩ = some (.int .i64 T)) := ⟨⟨h.s0, h.s1⟩, h.f0, h.f1⟩
theorem FirstSt.stored {C : List (List Int)} {a : Option Addr} {M cap f b T k : Nat} {row : List Int} {L L' : List (Nat × Nat)} {W wr : World} {v : Value} (h : FirstSt C a M cap f b T row L W k v L' wr) (hF : Found C a M W L) (P : Nat) (cs : Array Value) (hP : W.heap.size + 4 ≤ P) (hv : ∀ j, v.ownBlock = some j → j < P) :
    FirstSt C a M cap f b T row L W k v L' (wr.setRow P cs) := by
  have hg : wr.grownBy (wr.setRow P cs) (some P) := ⟨rfl, rfl, rfl, by rw [setRow_size]; exact Nat.le_refl _, fun i _ hi => setRow_other _ _ _ _ (fun e => hi (by rw [e]))⟩
  have hB : Below W.heap.size wr (wr.setRow P cs) := below_setRow (Below.refl _ _) (by omega) _
  have hG : W.grownBy (wr.setRow P cs) (some M) := grown_below h.grown hB
  exact ⟨h.own.kept hg (by
    cases hq : v.ownBlock with
    | none => exact .inl rfl
    | some j => right; intro e; rw [Option.some.injEq] at e; have := hv j hq; omega),
    h.found.besides hB h.lt (hF.tbl.grown hF.own hG), h.news, hG, h.boxes.grown hg (fun j e => by cases e; exact .inr hP), h.lt⟩

theorem info_wayF : (Try.prog.info? 70).map (fun i => (i.zero, i.size, i.bytes)) = some (some (.agg #[.int .i64 0, .int .i64 0, .int .i64 0, .int .i64 0, .int .i64 0, .int .i64 0, .int .i64 0, .int .i64 0]), 8, 64) := by kernel_rfl
theorem at8_lit {w : World} {g : Nat} {x : Way} (h : w.heap[g]? = some (.cells (wayA x) 70 (0, 0))) :
    w.cell? ⟨g, 0, none⟩ = some (.int .i64 x.a) ∧ w.cell? ⟨g, 1, none⟩ = some (.int .i64 x.b) ∧ w.cell? ⟨g, 2, none⟩ = some (.int .i64 x.c) ∧ w.cell? ⟨g, 3, none⟩ = some (.int .i64 x.d) ∧
    w.cell? ⟨g, 4, none⟩ = some (.int .i64 x.e) ∧ w.cell? ⟨g, 5, none⟩ = some (.int .i64 x.f) ∧ w.cell? ⟨g, 6, none⟩ = some (.int .i64 x.g) ∧ w.cell? ⟨g, 7, none⟩ = some (.int .i64 x.t) := by
  have k := fun j => cell_of_row w g j _ _ _ h
  exact ⟨k 0, k 1, k 2, k 3, k 4, k 5, k 6, k 7⟩

theorem way_new (w : World) (y : Way) (t : TypeId) : ∀ j u, (wayC y)[j]? = some u → (w.alloc (.cells (wayA y) t)).cell? ((⟨w.heap.size, 0, none⟩ : Addr).add j) = some u := by
  intro j u hu
  rw [show (⟨w.heap.size, 0, none⟩ : Addr).add j = ⟨w.heap.size, j, none⟩ from by unfold Addr.add; split <;> simp_all, World.cell?_alloc_at _ _ _ _ rfl]
  simpa [wayC, wayA] using hu
theorem wayC_one (y : Way) : ∀ u ∈ wayC y, u.oneCell' = true := by simp [wayC, Value.oneCell']
theorem FirstSt.push {C : List (List Int)} {a : Option Addr} {M cap f b T k : Nat} {row : List Int} {L L' : List (Nat × Nat)} {W wx w5 : World} {v v' : Value} {y : Way} (h : FirstSt C a M cap f b T row L W k v L' wx) (hF : Found C a M W L) (ht : T.testBit k = false)
    (hy : (firstW C f (T ||| 1 <<< k)).put b k (row.getD k 0) = y) (ho : w5.ownsRow (W.heap.size + 4) 70 8 v' ((waysOf (firstW C f) b T row k).length + 1) (waysC (waysOf (firstW C f) b T row k) ++ wayC y)) (hg : wx.grownBy w5 v.ownBlock) :
    FirstSt C a M cap f b T row L W (k + 1) v' L' w5 := by
  have hB : Below W.heap.size wx w5 := (Below.refl _ _).grown hg h.grown.size (fun j e => by have := (h.own.lt j e).1; omega)
  have hG : W.grownBy w5 (some M) := grown_below h.grown hB
  have hs : waysOf (firstW C f) b T row (k + 1) = waysOf (firstW C f) b T row k ++ [y] := by rw [waysOf_succ, ht, hy]; rfl
  exact ⟨by rw [hs, waysC_snoc, List.length_append]; exact ho, h.found.besides hB h.lt (hF.tbl.grown hF.own hG), h.news, hG, h.boxes.grown hg (fun j e => .inr (h.own.lt j e).1), h.lt⟩
theorem Ways.of_own {w : World} {base : Nat} {e : TypeId} {v : Value} {xs : List Way} (h : w.ownsRow base e 8 v xs.length (waysC xs)) : ∃ a cap, v = .slice a xs.length cap ∧ Ways w a xs := by
  have hc := fun g (hg : v.ownBlock = some g) => h.cells hg
  rcases h.2 with ⟨rfl, hn⟩ | ⟨g, cap, cur, rfl, _, hg, _⟩
  · exact ⟨none, 0, by rw [hn], fun hp => absurd hp (by omega)⟩
  · refine ⟨_, cap, rfl, fun _ => ⟨g, rfl, (Array.getElem?_eq_some_iff.1 hg).1, fun j u hu => ?_⟩⟩
    have := hc g rfl j u hu
    rwa [show ((⟨g, 0, none⟩ : Addr).add j) = ⟨g, j, none⟩ from by unfold Addr.add; split <;> simp_all] at this
theorem nodup_len : ∀ (n : Nat) (L : List Nat), L.Nodup → (∀ x ∈ L, x < n) → L.length ≤ n
  | 0, L, _, h => by
    cases L with
    | nil => exact Nat.le_refl _
    | cons x _ => exact absurd (h x (by simp)) (by omega)
  | n + 1, L, hn, h => by
    by_cases hm : n ∈ L
    · have h1 := List.length_erase_of_mem hm
      have h2 := nodup_len n (L.erase n) (hn.erase n) (fun x hx => by
        have h3 := (hn.mem_erase_iff).1 hx
        have h4 := h x h3.2
        have h5 := h3.1
        omega)
      omega
    · have h2 := nodup_len n L hn (fun x hx => by
        have h4 := h x hx
        have h5 : x ≠ n := fun e => hm (e ▸ hx)
        omega)
      omega
theorem pairs_len (L : List (Nat × Nat)) (hn : L.Nodup) (hs : ∀ q ∈ L, Small q) : L.length ≤ 1002001 := by
  have h := nodup_len 1002001 (L.map fun q => q.1 * 1001 + q.2) (by
    unfold List.Nodup
    rw [List.pairwise_map]
    refine List.Pairwise.imp_of_mem ?_ hn
    intro a b ha hb hne e
    have h1 := hs a ha
    have h2 := hs b hb
    unfold Small at h1 h2
    exact hne (Prod.ext (by omega) (by omega))) (by
    intro x hx
    obtain ⟨q, hq, rfl⟩ := List.mem_map.1 hx
    have h1 := hs q hq
    unfold Small at h1
    omega)
  rwa [List.length_map] at h
/-- what the search leaves at its end -/
theorem FirstSt.done {C : List (List Int)} {a : Option Addr} {M cap f b T m : Nat} {row : List Int} {L L' : List (Nat × Nat)} {W wx w6 : World} {v : Value} {R : Way} (h : FirstSt C a M cap f b T row L W m v L' wx) (hF : Found C a M W L) (hb : b + (f + 1) = C.length) (hsm : Small (b, T)) (hc : L.contains (b, T) = false)
    (hR : firstW C (f + 1) T = R) (ho : w6.ownsMap Try.prog 98 wayR M (L'.length + 1) ((memoOf C L').put (keyLit (b, T)) (wayD R))) (hg : wx.grownBy w6 (some M)) :
    Searched C a M (f + 1) b T W L (.returned (wayV R)) (w6.setRow (W.heap.size + 2) (wayA R)) := by
  have hG : W.grownBy w6 (some M) := grown_trans h.grown hg
  have hB : Below W.heap.size w6 (w6.setRow (W.heap.size + 2) (wayA R)) := below_setRow (Below.refl _ _) (by omega) _
  have hG2 : W.grownBy (w6.setRow (W.heap.size + 2) (wayA R)) (some M) := grown_below hG hB
  have hfw : foundW C (b, T) = R := by unfold foundW; rw [show C.length - (b, T).1 = f + 1 from by show C.length - b = f + 1; omega]; exact hR
  have hnot : (b, T) ∉ L' := fun hm => by
    rcases h.news _ hm with h1 | h1
    · rw [List.contains_iff_mem.2 h1] at hc; cases hc
    · exact absurd h1 (by show ¬ b + 1 ≤ b; omega)
  refine ⟨by rw [hR], L' ++ [(b, T)], ⟨hF.tbl.grown hF.own hG2, ?_, ?_, ?_⟩, ?_, hG2⟩
  · rw [memoOf_snoc, List.length_append, hfw]
    obtain ⟨es, clock, hb1, hf⟩ := ho
    exact ⟨es, clock, (hB.block M h.lt).trans hb1, hf⟩
  · intro q hq
    rcases List.mem_append.1 hq with h1 | h1
    · exact h.found.small q h1
    · rw [List.mem_singleton.1 h1]; exact hsm
  · rw [List.nodup_append]
    refine ⟨h.found.nodup, by simp, ?_⟩
    intro q hq r hr e
    rw [List.mem_singleton.1 hr] at e
    exact hnot (e ▸ hq)
  · intro q hq
    rcases List.mem_append.1 hq with h1 | h1
    · rcases h.news q h1 with h2 | h2
      · exact .inl h2
      · exact .inr (by omega)
    · right; rw [List.mem_singleton.1 h1]; exact Nat.le_refl _

theorem step_store_row {P : Program} {ops : Array Oper} {o : Oper} {a : Act} {w : World} {K : Act → World → Prop} {Q : Exit → Act → World → Prop} {E : Prop} (hg : o.guard = none)
    (ty : TypeId) (x y : Operand) (ho : o.op = .store ty x y) (g : Nat) (cells : Array Value) (hx : a.eval x = .pointer (some ⟨g, 0, none⟩)) (hy : a.eval y = .agg cells)
    (t : TypeId) (old : Array Value) (hgp : w.heap[g]? = some (.cells old t (0, 0))) (hi : (P.info? ty).map (·.size) = some cells.size)
    (hold : old.size = cells.size) (h1 : cells.all (·.oneCell') = true) (hK : K (a.put o.dst undef) (w.setRow g cells)) :
    if Region.wanted o (yielded ops a.tmps) = true then Oper.wp P o a w K Q else E := by
  have hw : Region.wanted o (yielded ops a.tmps) = true := by simp [Region.wanted, hg]
  rw [if_pos hw]
  exact wp_store_row ty x y ho g cells hx hy t old hgp hi hold h1 hK

set_option maxRecDepth 100000 in
set_option maxHeartbeats 8000000 in
theorem first_step (C : List (List Int)) (a : Option Addr) (cap m M f b T : Nat) (hRc : Rect C m) (L : List (Nat × Nat)) (W : World) (hF : Found C a M W L) (hT : T < 128) (hb : b + (f + 1) = C.length) (hfit : Fits T (f + 1) m) (hc : L.contains (b, T) = false)
    (ih : ∀ (T' : Nat) (L' : List (Nat × Nat)) (W' : World), Found C a M W' L' → T' < 128 → Fits T' f m → Calls Try.prog 75 #[.agg #[.slice a C.length cap, .map (some M)], stV (b + 1) T'] W' (Searched C a M f (b + 1) T' W' L')) :
    Calls Try.prog 75 #[.agg #[.slice a C.length cap, .map (some M)], stV b T] W (Searched C a M (f + 1) b T W L) := by
  have hn7 := hRc.n7
  have hm7 := hRc.m7
  have hsm : Small (b, T) := ⟨by show b ≤ 1000; omega, by show T ≤ 1000; omega⟩
  have h1 : ((b : Int) == (C.length : Int)) = false := by simp; omega
  obtain ⟨row, hrow⟩ : ∃ row, C[b]? = some row := ⟨_, List.getElem?_eq_getElem (by omega)⟩
  have hrm : row.length = m := hRc.len row (List.mem_of_getElem? hrow)
  obtain ⟨g, ra, rc, rfl, hg, hcell, hrc, hRow⟩ := hF.tbl.row hrow
  rw [hrm] at hcell hRow
  have hown := ((hF.own.alloc (.cells #[.slice (some ⟨g, 0, none⟩) C.length cap, .map (some M)] 93)).alloc (.cells #[.int .i64 b, .int .i64 T] 98)).alloc (.cells #[.int .i64 0, .int .i64 0, .int .i64 0, .int .i64 0, .int .i64 0, .int .i64 0, .int .i64 0, .int .i64 0] 70)
  have hMlt := hF.own.lt
  have hgM := cell_not_map hcell hF.own
  have HO := Lib.hid hown
  have Hsm := Lib.hid hsm
  have HS := Lib.hid hF.small
  have Hc := Lib.hid hc
  have HF := Lib.hid hF
  have HRc := Lib.hid hRc
  have Hrow := Lib.hid hrow
  have Hrm := Lib.hid hrm
  have HRow := Lib.hid hRow
  have Hfit := Lib.hid hfit
  have Hih := Lib.hid ih
  have HgM := Lib.hid hgM
  have hcell4 : (world4 W g C.length cap M b T).cell? ⟨g, b, none⟩ = some (.slice ra m rc) := ((below4 W g C.length cap M b T).cell (p := ⟨g, b, none⟩) hg).trans hcell
  have hbC : (b : Int) < C.length := by omega
  clear hF hc hown hRc hrow hrm hRow hfit ih hsm hgM
  go_enter Try.func75, Try.ntmps75
  go_wp2_with (at_lookup; refine wpList_lookup_miss C L (b, T) Hsm.out HS.out _ rfl _ _ rfl M _ rfl HO.out rfl Hc.out ?_)
  have hstart : FirstSt C (some ⟨g, 0, none⟩) M cap f b T row L W 0 (.slice none 0 0) L (world4 W g C.length cap M b T) :=
    ⟨World.ownsRow_nil _ _ _ _, HF.out.below (below4 _ _ _ _ _ _ _), fun q hq => .inl hq, below_grown (below4 _ _ _ _ _ _ _) _, Boxes.start _ _ _ _ _ _ _, hMlt⟩
  clear hcell4
  go_loopw [7, 35] (fun v i wr => ∃ (k : Nat) (L' : List (Nat × Nat)), k ≤ m ∧ i = .int .i64 k ∧ FirstSt C (some ⟨g, 0, none⟩) M cap f b T row L W k v L' wr) (fun _ i _ => m - (intOf i).toNat)
  case atStart => exact ⟨0, L, Nat.zero_le _, rfl, hstart⟩
  case round =>
    obtain ⟨k, L', hk, rfl, hS⟩ := hrel
    by_cases hlt : k < m
    · have hc : (k : Int) < m := by omega
      obtain ⟨g2, rfl, ck⟩ := (HRow.out.grown HF.out.own hS.grown).int hlt
      obtain ⟨_, s0, s1, f0, f1, _⟩ := hS.boxes
      cases htk : T.testBit k with
      | true =>
        have HT2 := Lib.hid htk
        clear htk hstart
        go_wp2_with (go_at_call 93; refine (isTaken_any b T k hT (by omega) _).mono ?_; rintro e w1 ⟨rfl, b1⟩; rw [HT2.out])
        go_roundw
        case rel => exact ⟨k + 1, L', by omega, by go_num, (hS.below b1).skip HT2.out⟩
        case measure => simp [intOf]; omega
      | false =>
        have HT2 := Lib.hid htk
        clear htk hstart
        go_wp2_with (go_at_call 93; refine (isTaken_any b T k hT (by omega) _).mono ?_; rintro e w1 ⟨rfl, b1⟩; rw [HT2.out])
        have hS1 := hS.below b1
        clear hS s0 s1 f0 f1 ck
        obtain ⟨_, s0, s1, f0, f1, _⟩ := hS1.boxes
        have HS1 := Lib.hid hS1
        clear hS1
        obtain ⟨r, hr⟩ : ∃ r, firstW C f (T ||| 1 <<< k) = r := ⟨_, rfl⟩
        have hih := fun L' W' h => Hih.out (T ||| 1 <<< k) L' W' h (or_lt ⟨T, hT⟩ ⟨k, by omega⟩) (Hfit.out.next k)
        unfold Searched wayV at hih
        simp only [hr] at hih
        have Hih2 := Lib.hid hih
        have Hr := Lib.hid hr
        clear hih hr
        go_region_held3 (fun w' => (w'.cell? ⟨W.heap.size, 0, none⟩ = some (.slice (some ⟨g, 0, none⟩) C.length cap) ∧ w'.cell? ⟨W.heap.size, 1, none⟩ = some (.map (some M))) ∧ (w'.cell? ⟨W.heap.size + 1, 0, none⟩ = some (.int .i64 b) ∧ w'.cell? ⟨W.heap.size + 1, 1, none⟩ = some (.int .i64 T)))
          (first | (with_reducible exact keepS HS1.out.boxes.drew) | (with_reducible exact keepS (HS1.out.boxes.below (below_alloc _ _)).drew) | (with_reducible exact keepS HS3.out.boxes) | ((rw [store8 r hz3]); exact keepS (HS3.out.stored HF.out _ _ (by have := HS1.out.boxes.lt; have := hP.out; omega) (fun j hj => Nat.lt_of_lt_of_le (HS1.out.own.lt j hj).2 hP.out)).boxes) | (with_reducible exact keepS (HS3.out.boxes.below (below_alloc _ _))) | (with_reducible exact keepS HS2.out.boxes) | (with_reducible exact keepS (HS2.out.boxes.below (below_alloc _ _))) | (with_reducible exact keepS (HS1.out.boxes.below (below_alloc _ _))))
          (first
            | (go_at_call 94; refine (next_any b T k (by omega) hT (by omega) _).mono ?_; rintro e w2 ⟨rfl, b2⟩; first | ((with_reducible have HS2 := Lib.hid (HS1.out.nextA b2)); have hz2 : True := trivial) | ((with_reducible have HS2 := Lib.hid (HS1.out.nextC b2)); have hz2 : Hid (w2.heap[w1.heap.size]? = some (.cells (wayA Way.zero) 70 (0, 0))) := (b2.block _ (by simp)).trans (heap_alloc_new _ _)))
            | (go_at_call 75; refine (Hih2.out L' _ ?_).mono ?_; (first | (with_reducible exact HS2.out.found) | (with_reducible exact (HS2.out.below (below_alloc _ _)).found)); rintro e w3 ⟨rfl, L2, hF3, hL2, hG3⟩; first
                | ((with_reducible have HS3 := Lib.hid (FirstSt.searched (HS2.out.below (below_alloc _ _)) hF3 hL2 hG3)); have hz3 : w3.heap[w2.heap.size]? = some (.cells (wayA Way.zero) 70 (0, 0)) := (hG3.block _ (by simp) (by intro e; rw [Option.some.injEq] at e; have := HS2.out.boxes.lt; have := HS2.out.lt; omega)).trans (heap_alloc_new _ _); obtain ⟨⟨z0, z1, z2, z3, z4, z5, z6, z7⟩, y0, y1, y2, y3, y4, y5, y6, y7⟩ := zero8 hz3; have hP : Hid (w1.heap.size ≤ w2.heap.size) := b2.size)
                | ((with_reducible have HS3 := Lib.hid (FirstSt.searched HS2.out hF3 hL2 hG3)); have hz3 : w3.heap[w1.heap.size]? = some (.cells (wayA Way.zero) 70 (0, 0)) := (hG3.block _ (by have := b2.size; simp at this; omega) (by intro e; rw [Option.some.injEq] at e; have := HS1.out.boxes.lt; have := HS1.out.lt; omega)).trans hz2.out; obtain ⟨⟨z0, z1, z2, z3, z4, z5, z6, z7⟩, y0, y1, y2, y3, y4, y5, y6, y7⟩ := zero8 hz3; have hP : Hid (w1.heap.size ≤ w1.heap.size) := Nat.le_refl _)
                | (have HS3 := Lib.hid (FirstSt.searched HS2.out hF3 hL2 hG3))))
        all_goals first
          | (rw [store8 r hz3]; have HX := Lib.hid (HS3.out.stored HF.out _ (wayA r) (by have := HS1.out.boxes.lt; have := hP.out; omega) (fun j hj => Nat.lt_of_lt_of_le (HS1.out.own.lt j hj).2 hP.out)); obtain ⟨q0, q1, q2, q3, q4, q5, q6, q7⟩ := at8_lit (setRow_heap _ _ _ (wayA r) _ _ hz3); clear hz3 z0 z1 z2 z3 z4 z5 z6 z7 y0 y1 y2 y3 y4 y5 y6 y7 hP)
          | (have HX := Lib.hid (HS3.out.below (below_alloc _ (.cells (wayA r) 70))); obtain ⟨q0, q1, q2, q3, q4, q5, q6, q7⟩ := at8_lit (heap_alloc_new w3 (.cells (wayA r) 70)))
        all_goals
          obtain ⟨_, s0', s1', f0', f1', _⟩ := HX.out.boxes
          obtain ⟨y, hy⟩ : ∃ y, r.put b k (row.getD k 0) = y := ⟨_, rfl⟩
          have ht := firstW_t HRc.out f (T ||| 1 <<< k)
          rw [Hr.out] at ht
          have hcost := getD_bound (HRc.out.cost row (List.mem_of_getElem? Hrow.out)) k
          have hw := fun w' => with_any r b (by omega) k (row.getD k 0) w' (by omega) (by omega)
          rw [hy] at hw
          unfold wayV at hw
          have HW := Lib.hid hw
          have hwl := waysOf_le (firstW C f) b T row k
          have HY := Lib.hid hy
          have hc3 : Hid ((waysOf (firstW C f) b T row k).length + 1 ≤ maxLen) := by unfold Hid maxLen; omega
          have hc4 : Hid (((waysOf (firstW C f) b T row k).length + 1) * 64 ≤ 140737488355328) := by unfold Hid; omega
          clear hwl
          obtain ⟨i0, hi, hz0, hz1, hz2⟩ := info_parts info_wayF
          clear hw hy ht hcost b1 b2
          go_wp2_with (first
            | (go_at_call 85; refine (HW.out _).mono ?_; rintro e w4 ⟨rfl, b4⟩; have HX4 := Lib.hid ((HX.out.below b4).below (below_alloc _ (.cells (wayA y) 70))))
            | (at_builtin; refine wpList_append_own _ rfl _ _ 85 rfl (W.heap.size + 4) 70 i0 (.agg #[.int .i64 0, .int .i64 0, .int .i64 0, .int .i64 0, .int .i64 0, .int .i64 0, .int .i64 0, .int .i64 0]) 8 64 Try.underlying85 hi hz0 hz1 hz2 rfl (by decide) _ _ _ rfl HX4.out.own ⟨w4.heap.size, 0, none⟩ 1 1 (wayC y) rfl rfl (way_new _ y _) (wayC_one y) hc3.out hc4.out (Nat.succ_le_of_lt HX4.out.boxes.lt) ?_; intro v' w5 hown' hgrow _))
          have HN := Lib.hid (HX4.out.push HF.out HT2.out (by rw [Hr.out]; exact HY.out) hown' hgrow)
          clear hown' hgrow
          go_wp2_with fail
          go_roundw
          case rel => exact ⟨k + 1, L2, by omega, by go_num, HN.out⟩
          case measure => simp [intOf]; omega
    · obtain rfl : k = m := by omega
      have hc : ¬ (k : Int) < k := by omega
      obtain ⟨j, hj1, hj2⟩ := Hfit.out.some
      have hpos := waysOf_pos (firstW C f) b T row hj1 hj2
      have hle := waysOf_le (firstW C f) b T row k
      obtain ⟨xs, hxs⟩ : ∃ xs, waysOf (firstW C f) b T row k = xs := ⟨_, rfl⟩
      have hown := hS.own
      rw [hxs] at hown hpos hle
      obtain ⟨av, cv, rfl, hWs⟩ := Ways.of_own hown
      obtain ⟨R, hRR⟩ : ∃ R, firstW C (f + 1) T = R := ⟨_, rfl⟩
      have hmin : minW xs = R := by
        rw [← hRR, firstW, show C.length - (f + 1) = b from by omega, List.getD_eq_getElem?_getD, Hrow.out, Option.getD_some, Hrm.out, hxs]
      have hM := fun w' h => minFunc_any av xs.length cv xs w' h rfl hpos (by omega)
      rw [hmin] at hM
      unfold wayV at hM
      have HM := Lib.hid hM
      have HWs := Lib.hid hWs
      have Hlen : Hid (L'.length < maxLen) := Nat.lt_of_le_of_lt (pairs_len L' hS.found.nodup hS.found.small) (by unfold maxLen; omega)
      obtain ⟨_, s0, s1, f0, f1, _⟩ := hS.boxes
      have HSS := Lib.hid hS
      have HRR := Lib.hid hRR
      clear hS hRR hM hWs hmin hown hxs hpos hle hj1 hj2 hstart
      go_wp2_with (first
        | (go_at_call 95; refine (HM.out _ HWs.out).mono ?_; rintro e w1 ⟨rfl, b1⟩; have HX := Lib.hid ((HSS.out.below b1).below (below_alloc _ (.cells (wayA R) 70))); obtain ⟨_, s0', s1', f0', f1', _⟩ := HX.out.boxes)
        | (at_mapUpdate; refine wpList_mapUpdate_own _ rfl _ _ _ 91 rfl 98 70 keyedS Try.underlying91 wayR M L'.length (memoOf C L') rfl HX.out.found.own Hlen.out _ _ (keyLit (b, T)) rfl rfl (keyLit_key Hsm.out) (wayD R) [] (wayR_val R) ?_; intro w6 ho6 hg6; have HO6 := Lib.hid ho6; have HG6 := Lib.hid hg6; clear ho6 hg6; obtain ⟨z0, z1, z2, z3, z4, z5, z6, z7⟩ := at8_lit ((HG6.out.block w1.heap.size (by simp) (by intro e; rw [Option.some.injEq] at e; have := b1.size; have := HSS.out.boxes.lt; omega)).trans (heap_alloc_new w1 (.cells (wayA R) 70))); have HR6 : Hid (w6.heap[W.heap.size + 2]? = some (.cells (wayA Way.zero) 70 (0, 0))) := (HG6.out.block (W.heap.size + 2) (Nat.lt_trans (Nat.lt_succ_self _) HX.out.boxes.lt) (by intro e; rw [Option.some.injEq] at e; omega)).trans HX.out.boxes.res)
        | (refine wpList_store_row (o := ⟨none, .store 70 (.tmp 4) (.tmp 66), _, _, _, _⟩) rfl 70 (.tmp 4) (.tmp 66) rfl (W.heap.size + 2) (wayA R) rfl rfl 70 (wayA Way.zero) HR6.out info_way rfl (wayA_one R) ?_))
      exact bodyPost_ret (v := wayV R) (results_cell_row rfl _ _ (W.heap.size + 2) 70 (wayA R) (0, 0) _ rfl (setRow_heap _ _ _ _ _ _ HR6.out) Try.underlying70 rfl info_way) rfl (FirstSt.done HX.out HF.out hb Hsm.out Hc.out HRR.out HO6.out HG6.out)

/-- the first way for the buttons from b on, into the holes that are not in T -/
theorem first_any (C : List (List Int)) (a : Option Addr) (cap m M : Nat) (hR : Rect C m) : ∀ (f b T : Nat) (L : List (Nat × Nat)) (W : World), b + f = C.length → Fits T f m → T < 128 → Found C a M W L →
    Calls Try.prog 75 #[.agg #[.slice a C.length cap, .map (some M)], stV b T] W (Searched C a M f b T W L)
  | 0, b, T, L, W, hb, _, hT, hF => by
    obtain rfl : b = C.length := by omega
    exact first_zero C a cap M T L W hF hT
  | f + 1, b, T, L, W, hb, hfit, hT, hF => by
    cases hc : L.contains (b, T) with
    | true => exact first_known C a cap M (f + 1) b T L W hF hT hb (by omega) hR.n7 hc
    | false =>
      exact first_step C a cap m M f b T hR L W hF hT hb hfit hc (fun T' L' W' hF' hT' hfit' => first_any C a cap m M hR f (b + 1) T' L' W' (by omega) hfit' hT' hF')
end Go.Proofs.Ytambhhjbafefgaa

/- newSearch, firstOf. -/
namespace Go.Proofs.Ytambhhjbafefgaa
set_option linter.unusedVariables false
open Go.RowKit Go.Maps

/-- the first one of all assignments -/
def bestW (C : List (List Int)) : Way := firstW C C.length 0

set_option maxRecDepth 100000 in
set_option maxHeartbeats 1000000 in
theorem newSearch_any (C : List (List Int)) (a : Option Addr) (cap : Nat) (w : World) (h : Tbl w a C) :
    Calls Try.prog 73 #[.slice a C.length cap] w fun e w' => ∃ M, e = .returned (.agg #[.slice a C.length cap, .map (some M)]) ∧ Found C a M w' [] ∧ w.heap.size ≤ M ∧ Below w.heap.size w w' := by
  have hmm := @run_makeMap Try.prog
  have H := Lib.hid h
  clear h
  go_enter Try.func73, Try.ntmps73
  go_wp2
  have hB := b_next (below_alloc w (.cells #[.slice a C.length cap, .map (some (w.heap.size + 1))] 93)) (below_alloc _ (.map #[] 0))
  have hM := World.ownsMap_made (H := Unit) (w.alloc (.cells #[.slice a C.length cap, .map (some (w.heap.size + 1))] 93)) Try.prog 98 wayR
  rw [show (w.alloc (.cells #[.slice a C.length cap, .map (some (w.heap.size + 1))] 93)).heap.size = w.heap.size + 1 from by simp] at hM
  exact bodyPost_ret (v := .agg #[.slice a C.length cap, .map (some (w.heap.size + 1))]) (by simp [results, Try.results73, go_sem]) rfl
    ⟨w.heap.size + 1, rfl, ⟨H.out.below hB, hM, (fun q hq => absurd hq (by simp)), List.nodup_nil⟩, Nat.le_succ _, hB⟩

theorem fits_zero (f m : Nat) (h : f ≤ m) : Fits 0 f m := by
  unfold Fits
  have : (List.range m).countP ((0 : Nat).testBit ·) = 0 := by rw [List.countP_eq_zero]; intro x _; simp
  rw [this]; omega

set_option maxRecDepth 100000 in
set_option maxHeartbeats 1000000 in
theorem firstOf_any (C : List (List Int)) (a : Option Addr) (cap m : Nat) (w : World) (hR : Rect C m) (hnm : C.length ≤ m) (h : Tbl w a C) :
    Calls Try.prog 54 #[.slice a C.length cap] w fun e w' => e = .returned (wayV (bestW C)) ∧ Below w.heap.size w w' := by
  have hN := fun w' h => newSearch_any C a cap w' h
  have hF := fun M W h => first_any C a cap m M hR C.length 0 0 [] W (by omega) (fits_zero _ _ hnm) (by omega) h
  obtain ⟨R, hRR⟩ : ∃ R, firstW C C.length 0 = R := ⟨_, rfl⟩
  have HRR : Hid (bestW C = R) := hRR
  unfold Searched wayV at hF
  simp only [hRR] at hF
  have HN := Lib.hid hN
  have HF := Lib.hid hF
  have H := Lib.hid h
  clear hN hF h hRR
  go_enter Try.func54, Try.ntmps54
  go_wp2_with fail
  refine (HN.out _ (H.out.below (below_alloc _ _))).mono ?_
  rintro e w1 ⟨M, rfl, hF1, hM, b1⟩
  go_wp2_with fail
  refine (HF.out M _ hF1).mono ?_
  rintro e w2 ⟨rfl, L', hF2, _, hG⟩
  have hres : w2.heap[w.heap.size]? = some (.cells (wayA Way.zero) 70 (0, 0)) :=
    (hG.block _ (by have := b1.size; simp at this; omega) (by intro e; rw [Option.some.injEq] at e; simp at hM; omega)).trans ((b1.block _ (by simp)).trans (heap_alloc_new _ _))
  have HR := Lib.hid hres
  have hB : Below w.heap.size w w2 := (b_next (below_alloc _ _) b1).grown hG (by have := b1.size; simp at this; omega) (fun k e => by cases e; simp at hM; omega)
  have HB := Lib.hid hB
  clear hres hG hB hF1 hF2 b1 hM
  go_wp2_with (refine wpList_store_row (o := ⟨none, .store 70 (.tmp 2) (.tmp 6), _, _, _, _⟩) rfl 70 (.tmp 2) (.tmp 6) rfl w.heap.size (wayA R) rfl rfl 70 (wayA Way.zero) HR.out info_way rfl (wayA_one R) ?_)
  exact bodyPost_ret (v := wayV R) (results_cell_row rfl _ _ w.heap.size 70 (wayA R) (0, 0) _ rfl (setRow_heap _ _ _ _ _ _ HR.out) Try.underlying70 rfl info_way) rfl ⟨by rw [HRR.out], below_setRow HB.out (Nat.le_refl _) _⟩
end Go.Proofs.Ytambhhjbafefgaa
