/- Texts of buttons, joined: Prve, Prv, Best, Rprv, Pri, Chk, Awm, Awk, Lst, Tab, Opn. -/
import Derived.Test.YtambhhjbafefgaaQd
import Derived.Test.YtambhhjbafefgaaQc
import Derived.Test.YtambhhjbafefgaaQb
import Derived.ProofKit
import Derived.OpenShut
import Derived.ChangeOld
import Derived.ChangeSlices
import Derived.Deep.Matrix
import Derived.Lib.SmallJoins
/- provingPrices: what it keeps, and how it is left. -/
namespace Go.Proofs.Ytambhhjbafefgaa
set_option linter.unusedVariables false
open Go.RowKit Go.Shelf
attribute [local go_sem] Oper.semAt_some

theorem pairs_visits (n : Nat) (hn : 1 ≤ n) (N : Nat) (hN : N ≤ 7) (Be T : Nat) (hT : T ≤ Be) (W : World) (hBe : W.heap[Be]? = some (.cells #[.int .i64 (N : Int)] 3 (0, 0))) :
    Visits Fence.wide n Try.prog 102 #[.pointer (some ⟨Be, 0, none⟩)] (fun x : Pr N => #[Value.agg #[.int .i64 x.1.1, .int .i64 x.1.2]]) T (fun ys => ys = allPairs N) (fun pre => pre <+: allPairs N) (N * N) W := by
  intro l J Jx hJ hJx hY h0
  have hlt : Be < W.heap.size := (Array.getElem?_eq_some_iff.1 hBe).1
  have h := pairs1_in n hn N hN l Be (fun pre X => J pre X ∧ X.heap[Be]? = some (.cells #[.int .i64 (N : Int)] 3 (0, 0))) Jx W.heap.size
    (fun s A B row ⟨hj, hb⟩ hg hr => ⟨hJ s A B row hj hg (fun r e => (hr r e).1), (hg.block Be (Array.getElem?_eq_some_iff.1 hb).1 (fun e => by have := (hr _ e.symm).1; omega)).trans hb⟩)
    (fun pre x X ⟨hj, hb⟩ hl => YieldAt.mono (hY pre x X hj hl) (fun e X' h => by
      rcases h with ⟨h1, h2, h3⟩ | h
      · exact .inl ⟨h1, ⟨h2, h3.same _ _ hT hb⟩, (h3.same _ _ hT hb).trans hb.symm⟩
      · exact .inr h))
    W (by simp [World.cell?, hBe]) ⟨h0, hBe⟩
  refine h.mono ?_
  rintro e X ⟨hv, (⟨ys, h1, h2, _⟩ | h)⟩
  · exact ⟨hv, .inl ⟨ys, h1, h2⟩⟩
  · exact ⟨hv, .inr h⟩

theorem B7.new (W : World) : B7 (W.alloc (.cells #[.int .i64 0, .int .i64 0, .int .i64 0, .int .i64 0, .int .i64 0, .int .i64 0, .int .i64 0] 72)) W.heap.size zero7 := ⟨rfl, World.alloc_heap_new W _⟩

def set7 (W : World) (B : Nat) (a b c d e f g : Value) : World := ((((((W.setCell ⟨B, 0, none⟩ a).setCell ⟨B, 1, none⟩ b).setCell ⟨B, 2, none⟩ c).setCell ⟨B, 3, none⟩ d).setCell ⟨B, 4, none⟩ e).setCell ⟨B, 5, none⟩ f).setCell ⟨B, 6, none⟩ g
theorem set7_grown (W : World) (B : Nat) (a b c d e f g : Value) : W.grownBy (set7 W B a b c d e f g) (some B) := by
  unfold set7
  exact (((((((grownBy_set W B 0 a).trans (grownBy_set _ B 1 b)).trans (grownBy_set _ B 2 c)).trans (grownBy_set _ B 3 d)).trans (grownBy_set _ B 4 e)).trans (grownBy_set _ B 5 f)).trans (grownBy_set _ B 6 g))
theorem B7.set7 {W : World} {B : Nat} {x0 x1 x2 x3 x4 x5 x6 : Int} (h : B7 W B [x0, x1, x2, x3, x4, x5, x6]) (a b c d e f g : Int) : B7 (Proofs.Ytambhhjbafefgaa.set7 W B (.int .i64 a) (.int .i64 b) (.int .i64 c) (.int .i64 d) (.int .i64 e) (.int .i64 f) (.int .i64 g)) B [a, b, c, d, e, f, g] :=
  by
  have k0 : B7 _ B [a, x1, x2, x3, x4, x5, x6] := h.set 0 a
  have k1 : B7 _ B [a, b, x2, x3, x4, x5, x6] := k0.set 1 b
  have k2 : B7 _ B [a, b, c, x3, x4, x5, x6] := k1.set 2 c
  have k3 : B7 _ B [a, b, c, d, x4, x5, x6] := k2.set 3 d
  have k4 : B7 _ B [a, b, c, d, e, x5, x6] := k3.set 4 e
  have k5 : B7 _ B [a, b, c, d, e, f, x6] := k4.set 5 f
  exact k5.set 6 g
theorem list7 {l : List Int} (h : l.length = 7) : ∃ a b c d e f g, l = [a, b, c, d, e, f, g] := by
  match l, h with
  | [a, b, c, d, e, f, g], _ => exact ⟨a, b, c, d, e, f, g, rfl⟩
theorem B7.cells7 {W : World} {B : Nat} {a b c d e f g : Int} (h : B7 W B [a, b, c, d, e, f, g]) : W.cell? ⟨B, 0, none⟩ = some (.int .i64 a) ∧ W.cell? ⟨B, 1, none⟩ = some (.int .i64 b) ∧ W.cell? ⟨B, 2, none⟩ = some (.int .i64 c) ∧ W.cell? ⟨B, 3, none⟩ = some (.int .i64 d) ∧ W.cell? ⟨B, 4, none⟩ = some (.int .i64 e) ∧ W.cell? ⟨B, 5, none⟩ = some (.int .i64 f) ∧ W.cell? ⟨B, 6, none⟩ = some (.int .i64 g) :=
  ⟨h.cell (by omega), h.cell (by omega), h.cell (by omega), h.cell (by omega), h.cell (by omega), h.cell (by omega), h.cell (by omega)⟩
/-- what provingPrices keeps: the boxes of the costs, of the way, of u and v -/
structure PrvI (w : World) (g cap : Nat) (C : List (List Int)) (x : Way) (u v : List Int) (W : World) : Prop where
  below : Below w.heap.size w W
  b0 : W.heap[w.heap.size]? = some (.cells #[.slice (some ⟨g, 0, none⟩) C.length cap] 22 (0, 0))
  b1 : W.heap[w.heap.size + 1]? = some (.cells (wayA x) 70 (0, 0))
  b2 : B7 W (w.heap.size + 1 + 1) u
  b3 : B7 W (w.heap.size + 1 + 1 + 1) v
theorem PrvI.grown {w : World} {g cap : Nat} {C : List (List Int)} {x : Way} {u v : List Int} {W W' : World} {row : Option Nat} (h : PrvI w g cap C x u v W) (hg : W.grownBy W' row) (hr : ∀ r, row = some r → w.heap.size + 4 ≤ r) : PrvI w g cap C x u v W' := by
  have far : ∀ k, k < w.heap.size + 4 → ∀ o, W.heap[k]? = some o → W'.heap[k]? = some o := fun k hk o ho =>
    (hg.block k (Array.getElem?_eq_some_iff.1 ho).1 (fun e => by have := hr k e.symm; omega)).trans ho
  exact ⟨h.below.grown hg h.below.size (fun k e => by have := hr k e; omega), far _ (by omega) _ h.b0, far _ (by omega) _ h.b1, ⟨h.b2.len, far _ (by omega) _ h.b2.blk⟩, ⟨h.b3.len, far _ (by omega) _ h.b3.blk⟩⟩
theorem bears_prv {w : World} {g cap : Nat} {C : List (List Int)} {x : Way} {u : List Int} {α : Type} {f : α → List Int} {B : Nat} (h : w.heap.size + 4 ≤ B) : Bears B (fun pre X => PrvI w g cap C x u (f pre) X) := fun s W W' row hs hg hr =>
  hs.grown hg (fun r e => by have := hr r e; omega)
theorem PrvI.tbl {w : World} {g cap : Nat} {C : List (List Int)} {x : Way} {u v : List Int} {W : World} {ra : Nat → Option Addr} {rc : Nat → Nat} (h : PrvI w g cap C x u v W) (hF : TblF w g ra rc C) : TblF W g ra rc C := hF.below h.below


set_option maxHeartbeats 1000000 in
theorem prov_final {w : World} {g cap : Nat} {C : List (List Int)} {x : Way} {a0 a1 a2 a3 a4 a5 a6 d0 d1 d2 d3 d4 d5 d6 : Int} {Ds : List Nat} {X : World} (hI : PrvI w g cap C x [a0, a1, a2, a3, a4, a5, a6] [d0, d1, d2, d3, d4, d5, d6] X) (hM : Marks (w.heap.size + 4) Ds X) :
    B7 (set7 (set7 X (w.heap.size + 1 + 1) (.int .i64 a0) (.int .i64 a1) (.int .i64 a2) (.int .i64 a3) (.int .i64 a4) (.int .i64 a5) (.int .i64 a6)) (w.heap.size + 1 + 1 + 1) (.int .i64 d0) (.int .i64 d1) (.int .i64 d2) (.int .i64 d3) (.int .i64 d4) (.int .i64 d5) (.int .i64 d6)).drew (w.heap.size + 1 + 1) [a0, a1, a2, a3, a4, a5, a6] ∧ B7 (set7 (set7 X (w.heap.size + 1 + 1) (.int .i64 a0) (.int .i64 a1) (.int .i64 a2) (.int .i64 a3) (.int .i64 a4) (.int .i64 a5) (.int .i64 a6)) (w.heap.size + 1 + 1 + 1) (.int .i64 d0) (.int .i64 d1) (.int .i64 d2) (.int .i64 d3) (.int .i64 d4) (.int .i64 d5) (.int .i64 d6)).drew (w.heap.size + 1 + 1 + 1) [d0, d1, d2, d3, d4, d5, d6] ∧ Below w.heap.size w (set7 (set7 X (w.heap.size + 1 + 1) (.int .i64 a0) (.int .i64 a1) (.int .i64 a2) (.int .i64 a3) (.int .i64 a4) (.int .i64 a5) (.int .i64 a6)) (w.heap.size + 1 + 1 + 1) (.int .i64 d0) (.int .i64 d1) (.int .i64 d2) (.int .i64 d3) (.int .i64 d4) (.int .i64 d5) (.int .i64 d6)).drew ∧ Marks (w.heap.size + 4) Ds (set7 (set7 X (w.heap.size + 1 + 1) (.int .i64 a0) (.int .i64 a1) (.int .i64 a2) (.int .i64 a3) (.int .i64 a4) (.int .i64 a5) (.int .i64 a6)) (w.heap.size + 1 + 1 + 1) (.int .i64 d0) (.int .i64 d1) (.int .i64 d2) (.int .i64 d3) (.int .i64 d4) (.int .i64 d5) (.int .i64 d6)).drew := by
  have k2 := set7_grown X (w.heap.size + 1 + 1) (.int .i64 a0) (.int .i64 a1) (.int .i64 a2) (.int .i64 a3) (.int .i64 a4) (.int .i64 a5) (.int .i64 a6)
  have q2 := B7.set7 hI.b2 a0 a1 a2 a3 a4 a5 a6
  have q3 := hI.b3.kept k2 (fun e => by have := Option.some.inj e; omega)
  have qb := hI.below.grown k2 hI.below.size (fun k e => by have := Option.some.inj e; omega)
  have qm : ∀ D, D ∈ Ds → w.heap.size + 4 ≤ D ∧ (set7 X (w.heap.size + 1 + 1) (.int .i64 a0) (.int .i64 a1) (.int .i64 a2) (.int .i64 a3) (.int .i64 a4) (.int .i64 a5) (.int .i64 a6)).heap[D]? = some (.deferred (some [])) := fun D hD => ⟨(hM.2 D hD).1, (k2.block D (Array.getElem?_eq_some_iff.1 (hM.2 D hD).2).1 (fun e => by have := Option.some.inj e; have := (hM.2 D hD).1; omega)).trans (hM.2 D hD).2⟩
  generalize set7 X (w.heap.size + 1 + 1) (.int .i64 a0) (.int .i64 a1) (.int .i64 a2) (.int .i64 a3) (.int .i64 a4) (.int .i64 a5) (.int .i64 a6) = Y at q2 q3 qb qm
  have k3 := set7_grown Y (w.heap.size + 1 + 1 + 1) (.int .i64 d0) (.int .i64 d1) (.int .i64 d2) (.int .i64 d3) (.int .i64 d4) (.int .i64 d5) (.int .i64 d6)
  have r3 := B7.set7 q3 d0 d1 d2 d3 d4 d5 d6
  have r2 := q2.kept k3 (fun e => by have := Option.some.inj e; omega)
  have rb := qb.grown k3 qb.size (fun k e => by have := Option.some.inj e; omega)
  have rm : ∀ D, D ∈ Ds → w.heap.size + 4 ≤ D ∧ (set7 Y (w.heap.size + 1 + 1 + 1) (.int .i64 d0) (.int .i64 d1) (.int .i64 d2) (.int .i64 d3) (.int .i64 d4) (.int .i64 d5) (.int .i64 d6)).heap[D]? = some (.deferred (some [])) := fun D hD => ⟨(qm D hD).1, (k3.block D (Array.getElem?_eq_some_iff.1 (qm D hD).2).1 (fun e => by have := Option.some.inj e; have := (qm D hD).1; omega)).trans (qm D hD).2⟩
  generalize set7 Y (w.heap.size + 1 + 1 + 1) (.int .i64 d0) (.int .i64 d1) (.int .i64 d2) (.int .i64 d3) (.int .i64 d4) (.int .i64 d5) (.int .i64 d6) = Z at r2 r3 rb rm
  exact ⟨⟨r2.len, r2.blk⟩, ⟨r3.len, r3.blk⟩, rb.drew, hM.1, rm⟩

set_option maxHeartbeats 1000000 in
theorem prov_leaves {w : World} {n : Nat} {tmps : Array Value} {um : FrameMode} {a0 a1 a2 a3 a4 a5 a6 d0 d1 d2 d3 d4 d5 d6 : Int} {R : Ending → World → Prop} (hu : um = .returning) (h4 : tmps[4]? = some (.pointer (some ⟨w.heap.size + 1 + 1, 0, none⟩))) (h5 : tmps[5]? = some (.pointer (some ⟨w.heap.size + 1 + 1 + 1, 0, none⟩)))
    (Ds : List Nat) (X : World) (hM : Marks (w.heap.size + 4) Ds X) (h2 : B7 X (w.heap.size + 1 + 1) [a0, a1, a2, a3, a4, a5, a6]) (h3 : B7 X (w.heap.size + 1 + 1 + 1) [d0, d1, d2, d3, d4, d5, d6]) (hb : Below w.heap.size w X)
    (hR : ∀ Y, Below w.heap.size w Y → R (.returned (.tuple #[.agg (intL [a0, a1, a2, a3, a4, a5, a6]).toArray, .agg (intL [d0, d1, d2, d3, d4, d5, d6]).toArray])) Y) :
    LeavesInM Fence.wide n Try.prog Try.f55 tmps R (Ds.map markD) um X := by
  subst hu
  refine leaves_marks (by simp) (n₀ := w.heap.size + 4) (Φ := fun Y => B7 Y (w.heap.size + 1 + 1) [a0, a1, a2, a3, a4, a5, a6] ∧ B7 Y (w.heap.size + 1 + 1 + 1) [d0, d1, d2, d3, d4, d5, d6] ∧ Below w.heap.size w Y) ?_ ?_ Ds X hM ⟨h2, h3, hb⟩
  · rintro Y D' ⟨y1, y2, y3⟩ hD' hd
    exact ⟨y1.kept (grownBy_putObj' Y D' _) (fun e => by have := Option.some.inj e; omega), y2.kept (grownBy_putObj' Y D' _) (fun e => by have := Option.some.inj e; omega), y3.grown (grownBy_putObj' Y D' _) y3.size (fun q e => by cases e; omega)⟩
  · rintro Y ⟨y1, y2, y3⟩
    obtain ⟨c0, c1, c2, c3, c4, c5, c6⟩ := y1.cells7
    obtain ⟨e0, e1, e2, e3, e4, e5, e6⟩ := y2.cells7
    refine ⟨.tuple #[.agg (intL [a0, a1, a2, a3, a4, a5, a6]).toArray, .agg (intL [d0, d1, d2, d3, d4, d5, d6]).toArray], ?_, hR Y y3⟩
    simp [results, Try.f55, go_sem, intL, h4, h5, c0, c1, c2, c3, c4, c5, c6, e0, e1, e2, e3, e4, e5, e6]
end Go.Proofs.Ytambhhjbafefgaa

/- provingPrices. -/
namespace Go.Proofs.Ytambhhjbafefgaa
set_option linter.unusedVariables false
open Go.RowKit Go.Shelf
attribute [local go_sem] Oper.semAt_some

def provV (C : List (List Int)) (x : Way) : Value := .tuple #[.agg (intL (uP C x)).toArray, .agg (intL (vP C x)).toArray]

set_option maxRecDepth 100000 in
set_option maxHeartbeats 4000000 in
theorem prov_any (C : List (List Int)) (a : Option Addr) (cap : Nat) (x : Way) (w : World) (h : Tbl w a C) (hcC : costsB C = true) (hx : ∀ i, i < C.length → ∃ j : Nat, j < C.length ∧ x.at i = j) :
    Calls Try.prog 55 #[.slice a C.length cap, wayV x] w fun e w' => e = .returned (provV C x) ∧ Below w.heap.size w w' := by
  refine (callsIn_wide (n := 6)).1 ?_
  obtain ⟨hR, hp⟩ := Rect.of_costs hcC
  obtain ⟨g, ra, rc, rfl, hF⟩ := TblF.of h hp
  have hn7 := hR.n7
  have HR := Lib.hid hR
  have HF := Lib.hid hF
  have HX := Lib.hid hx
  clear h hR hF hx hcC
  obtain ⟨n, hn⟩ : ∃ n, C.length = n := ⟨_, rfl⟩
  have Hn := Lib.hid hn
  rw [hn] at hn7 hp ⊢
  refine callsIn_of_wp_marks Try.func55 rfl trivial ?_ rfl
  simp only [Try.ntmps55, List.size_toArray, List.length_cons, List.length_nil, Nat.reduceAdd, Nat.reduceSub, Array.replicate_succ, Array.replicate_zero, List.push_toArray, List.append_toArray, List.nil_append, List.cons_append]
  generalize hX0 : ((((w.alloc (.cells #[.slice (some ⟨g, 0, none⟩) n cap] 22)).alloc (.cells (wayA x) 70)).alloc (.cells #[.int .i64 0, .int .i64 0, .int .i64 0, .int .i64 0, .int .i64 0, .int .i64 0, .int .i64 0] 72)).alloc (.cells #[.int .i64 0, .int .i64 0, .int .i64 0, .int .i64 0, .int .i64 0, .int .i64 0, .int .i64 0] 72)) = X0
  have hI0 : PrvI w g cap C x zero7 zero7 X0 := by
    rw [← hX0, ← hn]
    refine ⟨b_next (b_next (b_next (below_alloc _ _) (below_alloc _ _)) (below_alloc _ _)) (below_alloc _ _), ?_, ?_, ?_, ?_⟩
    · exact (Below.heap_alloc _ _ _ (by simp only [World.size_alloc]; omega)).trans ((Below.heap_alloc _ _ _ (by simp only [World.size_alloc]; omega)).trans ((Below.heap_alloc _ _ _ (by simp only [World.size_alloc]; omega)).trans (World.alloc_heap_new _ _)))
    · have h := World.alloc_heap_new (w.alloc (.cells #[.slice (some ⟨g, 0, none⟩) C.length cap] 22)) (.cells (wayA x) 70)
      rw [World.size_alloc] at h
      exact (Below.heap_alloc _ _ _ (by simp only [World.size_alloc]; omega)).trans ((Below.heap_alloc _ _ _ (by simp only [World.size_alloc]; omega)).trans h)
    · have h := B7.new ((w.alloc (.cells #[.slice (some ⟨g, 0, none⟩) C.length cap] 22)).alloc (.cells (wayA x) 70))
      rw [World.size_alloc, World.size_alloc] at h
      exact h.below (below_alloc _ _)
    · have h := B7.new (((w.alloc (.cells #[.slice (some ⟨g, 0, none⟩) C.length cap] 22)).alloc (.cells (wayA x) 70)).alloc (.cells #[.int .i64 0, .int .i64 0, .int .i64 0, .int .i64 0, .int .i64 0, .int .i64 0, .int .i64 0] 72))
      rw [World.size_alloc, World.size_alloc, World.size_alloc] at h
      exact h
  have hs0 : X0.heap.size = w.heap.size + 4 := by rw [← hX0]; simp
  have hwa : wayA x = #[.int .i64 x.a, .int .i64 x.b, .int .i64 x.c, .int .i64 x.d, .int .i64 x.e, .int .i64 x.f, .int .i64 x.g, .int .i64 x.t] := rfl
  rw [hwa] at hX0
  clear hwa hn
  unfold wayV
  have s0 : X0.cell? ⟨w.heap.size, 0, none⟩ = some (.slice (some ⟨g, 0, none⟩) n cap) := by simp [World.cell?, hI0.b0, Hn.out]
  have HI0 := Lib.hid hI0
  clear hI0
  gi_wp2_with fail
  clear s0
  refine wpIn_loop (fun a' W => ∃ u6 u7 u8 u14 u15 u16 u17 u18 u20 u21 u22 u23 u24 u25 u26 u27 u28 u29 u30 u31 u32 u33 u34 u35 u36 u37 u38 u39 u40 u41 u42 u43 u44 u45 u46 u47 u48 u49 u50 u51 u52 : Value, ∃ ds : List Deferred, (∃ (k : Nat) (Ds : List Nat), k ≤ n ∧ u14 = .int .i64 k ∧ ds = Ds.map markD ∧ (PrvI w g cap C x zero7 (rnds C x k) W ∧ Marks (w.heap.size + 4) Ds W ∧ ∀ D, D ∈ Ds → D < W.heap.size)) ∧ a' = { tmps := #[.slice (some ⟨g, 0, none⟩) n cap, .agg #[.int .i64 x.a, .int .i64 x.b, .int .i64 x.c, .int .i64 x.d, .int .i64 x.e, .int .i64 x.f, .int .i64 x.g, .int .i64 x.t], .pointer (some ⟨w.heap.size, 0, none⟩), .pointer (some ⟨w.heap.size + 1, 0, none⟩), .pointer (some ⟨w.heap.size + 1 + 1, 0, none⟩), .pointer (some ⟨w.heap.size + 1 + 1 + 1, 0, none⟩), u6, u7, u8, undef, undef, undef, .slice (some ⟨g, 0, none⟩) n cap, .int .i64 (n : Int), u14, u15, u16, u17, u18, undef, u20, u21, u22, u23, u24, u25, u26, u27, u28, u29, u30, u31, u32, u33, u34, u35, u36, u37, u38, u39, u40, u41, u42, u43, u44, u45, u46, u47, u48, u49, u50, u51, u52, undef, undef, undef, undef, undef, undef, undef, undef, undef, undef, undef, undef, undef, undef, undef, undef, undef, undef, undef, undef, undef, undef, undef, undef], defers := ds }) (fun a' _ => n - (intOf (a'.tmps.getD 14 undef)).toNat) ?_ ?_
  · (repeat apply Exists.intro)
    refine ⟨?_, rfl⟩
    exact ⟨0, [], Nat.zero_le _, rfl, rfl, HI0.out, ⟨List.nodup_nil, fun _ h => (by cases h)⟩, fun _ h => (by cases h)⟩
  · intro _ wr hinv
    obtain ⟨u6, u7, u8, u14, u15, u16, u17, u18, u20, u21, u22, u23, u24, u25, u26, u27, u28, u29, u30, u31, u32, u33, u34, u35, u36, u37, u38, u39, u40, u41, u42, u43, u44, u45, u46, u47, u48, u49, u50, u51, u52, ds, ⟨k, Ds, hk, rfl, rfl, hI, hM, hDl⟩, rfl⟩ := hinv
    dsimp only
    by_cases hlt : k < n
    · have hc : (k : Int) < n := by omega
      have s0 : wr.cell? ⟨w.heap.size, 0, none⟩ = some (.slice (some ⟨g, 0, none⟩) n cap) := by simp [World.cell?, hI.b0, Hn.out]
      have HI := Lib.hid hI
      have HMk := Lib.hid hM
      have HDl := Lib.hid hDl
      have hsz : w.heap.size + 4 ≤ wr.heap.size := by have := hI.b3.lt; omega
      clear hI hM hDl
      gi_wp2_with fail
      refine ⟨trivial, ?_⟩
      refine (pairs_in _ _ _).mono ?_
      rintro e w' ⟨rfl, rfl⟩
      gi_wp2_with fail
      clear s0
      have hgr := World.grownBy_alloc wr (.cells #[.int .i64 (n : Int)] 3) none
      have hbe := World.alloc_heap_new wr (.cells #[.int .i64 (n : Int)] 3)
      have hM1 : ∀ D, D ∈ Ds → w.heap.size + 4 ≤ D ∧ (wr.alloc (.cells #[.int .i64 (n : Int)] 3)).heap[D]? = some (.deferred (some [])) := fun D hD => ⟨(HMk.out.2 D hD).1, (Below.heap_alloc _ _ _ (HDl.out D hD)).trans (HMk.out.2 D hD).2⟩
      have hI1 := HI.out.grown hgr (fun r e => by cases e)
      have hz1 : (wr.alloc (.cells #[.int .i64 (n : Int)] 3)).heap.size = wr.heap.size + 1 := by simp
      generalize hW1 : wr.alloc (.cells #[.int .i64 (n : Int)] 3) = W1 at hgr hbe hM1 hI1 hz1
      have hcb : CB C := fun i j => by
        unfold cost
        cases hi : C[i]? with
        | none => rw [List.getD_eq_getElem?_getD (l := C), hi]; simp
        | some row => rw [List.getD_eq_getElem?_getD (l := C), hi]; exact getD_bound (HR.out.cost row (List.mem_of_getElem? hi)) j
      have hpb0 := rnds_pb (x := x) hcb HR.out.n7 k
      have HPb0 := Lib.hid hpb0
      have Hcb := Lib.hid hcb
      have HbDs : Hid (∀ D, D ∈ Ds → D < W1.heap.size) := fun D hD => by have := HDl.out D hD; omega
      refine range_visits_box (α := Pr n) rfl (by omega) (gf := 102) (lb := #[.pointer (some ⟨wr.heap.size, 0, none⟩)]) rfl trivial (enters_of Try.func102 (by kernel_rfl) rfl)
        (encs := fun x : Pr n => #[Value.agg #[.int .i64 x.1.1, .int .i64 x.1.2]]) (T := w.heap.size + 4) (S := fun ys => ys = allPairs n) (Sp := fun pre => pre <+: allPairs n) (N := n * n) (by omega)
        (fun W hW => pairs_visits _ (by omega) n hn7 wr.heap.size (w.heap.size + 4) hsz W ((hW.block _ (by omega) (by simp)).trans hbe)) (fun _ => rfl)
        (fun pre X => PrvI w g cap C x zero7 (rlxs C x (rnds C x k) (pre.map fun p : Pr n => p.1)) X ∧ ∀ D, D ∈ Ds → w.heap.size + 4 ≤ D ∧ X.heap[D]? = some (.deferred (some []))) (fun _ _ _ => False)
        (fun s A B row ⟨h1, h2⟩ hg hr => ⟨h1.grown hg (fun r e => by have := hr r e; omega), fun D hD => ⟨(h2 D hD).1, (hg.block D (Array.getElem?_eq_some_iff.1 (h2 D hD).2).1 (fun e => by have := hr D e.symm; have := HbDs.out D hD; omega)).trans (h2 D hD).2⟩⟩)
        (fun _ _ _ _ _ h _ _ => h) ⟨hI1, hM1⟩
        (fun p => .cells #[.int .i64 p.1.1, .int .i64 p.1.2] 80)
        (fun p B => { tmps := #[.slice (some ⟨g, 0, none⟩) n cap, .agg #[.int .i64 x.a, .int .i64 x.b, .int .i64 x.c, .int .i64 x.d, .int .i64 x.e, .int .i64 x.f, .int .i64 x.g, .int .i64 x.t], .pointer (some ⟨w.heap.size, 0, none⟩), .pointer (some ⟨w.heap.size + 1, 0, none⟩), .pointer (some ⟨w.heap.size + 1 + 1, 0, none⟩), .pointer (some ⟨w.heap.size + 1 + 1 + 1, 0, none⟩), .pointer (some ⟨B, 0, none⟩), u7, u8, undef, undef, undef, .slice (some ⟨g, 0, none⟩) n cap, .int .i64 (n : Int), .int .i64 (k : Int), .bool true, .slice (some ⟨g, 0, none⟩) n cap, .int .i64 (n : Int), .func (.func 102) #[] #[.pointer (some ⟨wr.heap.size, 0, none⟩)], .agg #[.int .i64 p.1.1, .int .i64 p.1.2], u20, u21, u22, u23, u24, u25, u26, u27, u28, u29, u30, u31, u32, u33, u34, u35, u36, u37, u38, u39, u40, u41, u42, u43, u44, u45, u46, u47, u48, u49, u50, u51, u52, undef, undef, undef, undef, undef, undef, undef, undef, undef, undef, undef, undef, undef, undef, undef, undef, undef, undef, undef, undef, undef, undef, undef, undef], defers := [] }) ?assign ?body ?done ?stop
      case assign =>
        intro l p W K hK
        gi_wp2
        exact hK
      case body =>
        rintro l pre p B W ⟨hI, hMD⟩ hbx hB2 hlen
        obtain ⟨⟨i, j⟩, hi, hj⟩ := p
        simp only at hi hj hbx
        obtain ⟨o, ho, hxo⟩ := HX.out i (by rw [Hn.out]; exact hi)
        rw [Hn.out] at ho
        have hsn : rlxs C x (rnds C x k) ((pre ++ [(⟨(i, j), hi, hj⟩ : Pr n)]).map fun p : Pr n => p.1) = rlx C x (rlxs C x (rnds C x k) (pre.map fun p : Pr n => p.1)) (i, j) := by
          rw [List.map_append]; exact rlxs_snoc _ _ _ _ _
        have hpb := PB.rlxs (x := x) Hcb.out (pre.map fun p : Pr n => p.1) HPb0.out (by omega)
        rw [List.length_map] at hpb
        have hlen2 : (pre.length : Int) ≤ 49 := by
          have h2 : n * n ≤ 7 * 7 := Nat.mul_le_mul hn7 hn7
          omega
        generalize rlxs C x (rnds C x k) (pre.map fun p : Pr n => p.1) = v at hI hsn hpb
        unfold rlx at hsn
        simp only at hsn
        rw [hxo, Int.toNat_natCast] at hsn
        have hv1 := hpb.2 j
        have hv2 := hpb.2 o
        have hc1 := Hcb.out i j
        have hc2 := Hcb.out i o
        have bj : 98000 * (k : Int) + 2000 * (pre.length : Int) ≤ 900000 := by omega
        obtain ⟨row, hrow⟩ : ∃ row, C[i]? = some row := ⟨_, List.getElem?_eq_getElem (by rw [Hn.out]; exact hi)⟩
        have hrl := HR.out.len row (List.mem_of_getElem? hrow)
        rw [Hn.out] at hrl
        have hTF := hI.tbl HF.out
        obtain ⟨tc1, tc2, tc3⟩ := hTF.2 i row hrow
        rw [hrl] at tc1 tc2 tc3
        have htg := hTF.1
        obtain ⟨g2, hra, cj⟩ := tc3.int hj
        obtain ⟨g3, hra3, co⟩ := tc3.int ho
        obtain rfl : g2 = g3 := by rw [hra] at hra3; injection hra3 with e; injection e
        rw [hra] at tc1
        have ej : row.getD j 0 = cost C i j := by unfold cost; rw [List.getD_eq_getElem?_getD (l := C), hrow]; rfl
        have eo : row.getD o 0 = cost C i o := by unfold cost; rw [List.getD_eq_getElem?_getD (l := C), hrow]; rfl
        rw [ej] at cj
        rw [eo] at co
        have sv1 := hI.b3.cell (j := j) (by omega)
        have sv2 := hI.b3.cell (j := o) (by omega)
        have sf := hI.b3.free j
        obtain ⟨vj, hvj⟩ : ∃ z, v.getD j 0 = z := ⟨_, rfl⟩
        obtain ⟨vo, hvo⟩ : ∃ z, v.getD o 0 = z := ⟨_, rfl⟩
        obtain ⟨cij, hcij⟩ : ∃ z, cost C i j = z := ⟨_, rfl⟩
        obtain ⟨cio, hcio⟩ : ∃ z, cost C i o = z := ⟨_, rfl⟩
        rw [hvj] at hv1 sv1 hsn
        rw [hvo] at hv2 sv2 hsn
        rw [hcij] at hc1 cj hsn
        rw [hcio] at hc2 co hsn
        have i1 : IntKind.i64.wrap (vo + cij) = vo + cij := IntWalk.i64_in _ (by omega)
        have i2 : IntKind.i64.wrap (vo + cij - cio) = vo + cij - cio := IntWalk.i64_in _ (by omega)
        have s0 : W.cell? ⟨w.heap.size, 0, none⟩ = some (.slice (some ⟨g, 0, none⟩) n cap) := by simp [World.cell?, hI.b0, Hn.out]
        have sx : W.cell? ⟨w.heap.size + 1, i, none⟩ = some (.int .i64 o) := by rw [at_cell hI.b1 (by omega), hxo]
        have sp0 : W.cell? ⟨B, 0, none⟩ = some (.int .i64 i) := by simp [World.cell?, hbx]
        have sp1 : W.cell? ⟨B, 1, none⟩ = some (.int .i64 j) := by simp [World.cell?, hbx]
        have l1 : (i : Int) < n := by omega
        have l2 : (j : Int) < n := by omega
        have l3 : (o : Int) < n := by omega
        have l4 : (i : Int) < 7 := by omega
        have l5 : (j : Int) < 7 := by omega
        have l6 : (o : Int) < 7 := by omega
        have hBw : w.heap.size + 4 ≤ B := by omega
        have HI2 := Lib.hid hI
        have HMD := Lib.hid hMD
        have Hsn := Lib.hid hsn
        clear hI hMD hsn hpb hv1 hv2 hc1 hc2 bj hlen2 hrow hrl hTF tc2 tc3 hra hra3 ej eo hvj hvo hcij hcio hbx hxo hI1 hM1 hgr hbe
        gi_wp2_with fail
        have hmx : Try.prog.follows .mixedOrders = true := by kernel_rfl
        refine region_inv' hmx (fun L a X => ∃ b0 b1 b2 b3 b4 b5 b6 b7 b8 b9 b10 b11 : Bool, L = #[b0, b1, b2, b3, b4, b5, b6, b7, b8, b9, b10, b11] ∧ a = { tmps := #[.slice (some ⟨g, 0, none⟩) n cap, .agg #[.int .i64 x.a, .int .i64 x.b, .int .i64 x.c, .int .i64 x.d, .int .i64 x.e, .int .i64 x.f, .int .i64 x.g, .int .i64 x.t], .pointer (some ⟨w.heap.size, 0, none⟩), .pointer (some ⟨w.heap.size + 1, 0, none⟩), .pointer (some ⟨w.heap.size + 1 + 1, 0, none⟩), .pointer (some ⟨w.heap.size + 1 + 1 + 1, 0, none⟩), .pointer (some ⟨B, 0, none⟩), pk b10 (.slice (some ⟨g2, 0, none⟩) n (rc i)) (u7), pk b11 (.int .i64 (o : Int)) (u8), undef, undef, undef, .slice (some ⟨g, 0, none⟩) n cap, .int .i64 (n : Int), .int .i64 (k : Int), .bool true, .slice (some ⟨g, 0, none⟩) n cap, .int .i64 (n : Int), .func (.func 102) #[] #[.pointer (some ⟨wr.heap.size, 0, none⟩)], .agg #[.int .i64 (i : Int), .int .i64 (j : Int)], pk b0 (.slice (some ⟨g, 0, none⟩) n cap) (u20), pk b1 (.pointer (some ⟨B, 0, none⟩)) (u21), pk b2 (.int .i64 (i : Int)) (u22), pk b3 (.pointer (some ⟨g, i, none⟩)) (u23), pk b4 (.slice (some ⟨g2, 0, none⟩) n (rc i)) (u24), pk b5 (.pointer (some ⟨B, 0, none⟩)) (u25), pk b6 (.int .i64 (i : Int)) (u26), pk b7 (.pointer (some ⟨w.heap.size + 1, 0, none⟩)) (u27), pk b8 (.pointer (some ⟨w.heap.size + 1, i, none⟩)) (u28), pk b9 (.int .i64 (o : Int)) (u29), u30, u31, u32, u33, u34, u35, u36, u37, u38, u39, u40, u41, u42, u43, u44, u45, u46, u47, u48, u49, u50, u51, u52, undef, undef, undef, undef, undef, undef, undef, undef, undef, undef, undef, undef, undef, undef, undef, undef, undef, undef, undef, undef, undef, undef, undef, undef], defers := [] } ∧ X = W.drew ∧ True) { tmps := #[.slice (some ⟨g, 0, none⟩) n cap, .agg #[.int .i64 x.a, .int .i64 x.b, .int .i64 x.c, .int .i64 x.d, .int .i64 x.e, .int .i64 x.f, .int .i64 x.g, .int .i64 x.t], .pointer (some ⟨w.heap.size, 0, none⟩), .pointer (some ⟨w.heap.size + 1, 0, none⟩), .pointer (some ⟨w.heap.size + 1 + 1, 0, none⟩), .pointer (some ⟨w.heap.size + 1 + 1 + 1, 0, none⟩), .pointer (some ⟨B, 0, none⟩), .slice (some ⟨g2, 0, none⟩) n (rc i), .int .i64 (o : Int), undef, undef, undef, .slice (some ⟨g, 0, none⟩) n cap, .int .i64 (n : Int), .int .i64 (k : Int), .bool true, .slice (some ⟨g, 0, none⟩) n cap, .int .i64 (n : Int), .func (.func 102) #[] #[.pointer (some ⟨wr.heap.size, 0, none⟩)], .agg #[.int .i64 (i : Int), .int .i64 (j : Int)], .slice (some ⟨g, 0, none⟩) n cap, .pointer (some ⟨B, 0, none⟩), .int .i64 (i : Int), .pointer (some ⟨g, i, none⟩), .slice (some ⟨g2, 0, none⟩) n (rc i), .pointer (some ⟨B, 0, none⟩), .int .i64 (i : Int), .pointer (some ⟨w.heap.size + 1, 0, none⟩), .pointer (some ⟨w.heap.size + 1, i, none⟩), .int .i64 (o : Int), u30, u31, u32, u33, u34, u35, u36, u37, u38, u39, u40, u41, u42, u43, u44, u45, u46, u47, u48, u49, u50, u51, u52, undef, undef, undef, undef, undef, undef, undef, undef, undef, undef, undef, undef, undef, undef, undef, undef, undef, undef, undef, undef, undef, undef, undef, undef], defers := [] } W.drew ?h0 ?hstep ?hdone ?hfin
        case h0 => exact ⟨false, false, false, false, false, false, false, false, false, false, false, false, rfl, rfl, rfl, trivial⟩
        case hstep =>
          rintro Q L a X ⟨b0, b1, b2, b3, b4, b5, b6, b7, b8, b9, b10, b11, rfl, rfl, rfl, _⟩ i hi
          obtain ⟨hun, o, ho, hdeps⟩ := mem_ready.1 hi
          clear hi
          have hi : i < 12 := (Array.getElem?_eq_some_iff.1 ho).1
          have hor : i = 0 ∨ i = 1 ∨ i = 2 ∨ i = 3 ∨ i = 4 ∨ i = 5 ∨ i = 6 ∨ i = 7 ∨ i = 8 ∨ i = 9 ∨ i = 10 ∨ i = 11 := by omega
          clear hi
          rcases hor with rfl | rfl | rfl | rfl | rfl | rfl | rfl | rfl | rfl | rfl | rfl | rfl
          · have hb : b0 = false := hun
            cases ho
            clear hun hdeps
            subst hb
            all_goals dsimp only
            refine wpOpIn_step rfl (fun K' hK => ?_)
            all_goals go_simp
            all_goals exact hK _ _ ⟨true, b1, b2, b3, b4, b5, b6, b7, b8, b9, b10, b11, rfl, rfl, rfl, trivial⟩
          · have hb : b1 = false := hun
            cases ho
            clear hun hdeps
            subst hb
            all_goals dsimp only
            refine wpOpIn_step rfl (fun K' hK => ?_)
            all_goals go_simp
            all_goals exact hK _ _ ⟨b0, true, b2, b3, b4, b5, b6, b7, b8, b9, b10, b11, rfl, rfl, rfl, trivial⟩
          · have hb : b2 = false := hun
            cases ho
            have d1 : b1 = true := hdeps ⟨1, Ground.data⟩ (by simp) rfl
            clear hun hdeps
            subst hb d1
            all_goals dsimp only
            refine wpOpIn_step rfl (fun K' hK => ?_)
            all_goals simp only [pk_true]
            all_goals go_simp
            all_goals exact hK _ _ ⟨b0, true, true, b3, b4, b5, b6, b7, b8, b9, b10, b11, rfl, rfl, rfl, trivial⟩
          · have hb : b3 = false := hun
            cases ho
            have d0 : b0 = true := hdeps ⟨0, Ground.data⟩ (by simp) rfl
            have d2 : b2 = true := hdeps ⟨2, Ground.data⟩ (by simp) rfl
            clear hun hdeps
            subst hb d0 d2
            all_goals dsimp only
            refine wpOpIn_step rfl (fun K' hK => ?_)
            all_goals simp only [pk_true]
            all_goals go_simp
            all_goals exact hK _ _ ⟨true, b1, true, true, b4, b5, b6, b7, b8, b9, b10, b11, rfl, rfl, rfl, trivial⟩
          · have hb : b4 = false := hun
            cases ho
            have d3 : b3 = true := hdeps ⟨3, Ground.data⟩ (by simp) rfl
            clear hun hdeps
            subst hb d3
            all_goals dsimp only
            refine wpOpIn_step rfl (fun K' hK => ?_)
            all_goals simp only [pk_true]
            all_goals go_simp
            all_goals exact hK _ _ ⟨b0, b1, b2, true, true, b5, b6, b7, b8, b9, b10, b11, rfl, rfl, rfl, trivial⟩
          · have hb : b5 = false := hun
            cases ho
            clear hun hdeps
            subst hb
            all_goals dsimp only
            refine wpOpIn_step rfl (fun K' hK => ?_)
            all_goals go_simp
            all_goals exact hK _ _ ⟨b0, b1, b2, b3, b4, true, b6, b7, b8, b9, b10, b11, rfl, rfl, rfl, trivial⟩
          · have hb : b6 = false := hun
            cases ho
            have d5 : b5 = true := hdeps ⟨5, Ground.data⟩ (by simp) rfl
            clear hun hdeps
            subst hb d5
            all_goals dsimp only
            refine wpOpIn_step rfl (fun K' hK => ?_)
            all_goals simp only [pk_true]
            all_goals go_simp
            all_goals exact hK _ _ ⟨b0, b1, b2, b3, b4, true, true, b7, b8, b9, b10, b11, rfl, rfl, rfl, trivial⟩
          · have hb : b7 = false := hun
            cases ho
            clear hun hdeps
            subst hb
            all_goals dsimp only
            refine wpOpIn_step rfl (fun K' hK => ?_)
            all_goals go_simp
            all_goals exact hK _ _ ⟨b0, b1, b2, b3, b4, b5, b6, true, b8, b9, b10, b11, rfl, rfl, rfl, trivial⟩
          · have hb : b8 = false := hun
            cases ho
            have d7 : b7 = true := hdeps ⟨7, Ground.data⟩ (by simp) rfl
            have d6 : b6 = true := hdeps ⟨6, Ground.data⟩ (by simp) rfl
            clear hun hdeps
            subst hb d7 d6
            all_goals dsimp only
            refine wpOpIn_step rfl (fun K' hK => ?_)
            all_goals simp only [pk_true]
            all_goals go_simp
            all_goals exact hK _ _ ⟨b0, b1, b2, b3, b4, b5, true, true, true, b9, b10, b11, rfl, rfl, rfl, trivial⟩
          · have hb : b9 = false := hun
            cases ho
            have d8 : b8 = true := hdeps ⟨8, Ground.data⟩ (by simp) rfl
            clear hun hdeps
            subst hb d8
            all_goals dsimp only
            refine wpOpIn_step rfl (fun K' hK => ?_)
            all_goals simp only [pk_true]
            all_goals go_simp
            all_goals exact hK _ _ ⟨b0, b1, b2, b3, b4, b5, b6, b7, true, true, b10, b11, rfl, rfl, rfl, trivial⟩
          · have hb : b10 = false := hun
            cases ho
            have d4 : b4 = true := hdeps ⟨4, Ground.data⟩ (by simp) rfl
            have d0 : b0 = true := hdeps ⟨0, Ground.phase⟩ (by simp) rfl
            have d1 : b1 = true := hdeps ⟨1, Ground.phase⟩ (by simp) rfl
            have d2 : b2 = true := hdeps ⟨2, Ground.phase⟩ (by simp) rfl
            have d3 : b3 = true := hdeps ⟨3, Ground.phase⟩ (by simp) rfl
            clear hun hdeps
            subst hb d4 d0 d1 d2 d3
            all_goals dsimp only
            refine wpOpIn_step rfl (fun K' hK => ?_)
            all_goals simp only [pk_true]
            all_goals go_simp
            all_goals exact hK _ _ ⟨true, true, true, true, true, b5, b6, b7, b8, b9, true, b11, rfl, rfl, rfl, trivial⟩
          · have hb : b11 = false := hun
            cases ho
            have d9 : b9 = true := hdeps ⟨9, Ground.data⟩ (by simp) rfl
            have d10 : b10 = true := hdeps ⟨10, Ground.chain⟩ (by simp) rfl
            have d0 : b0 = true := hdeps ⟨0, Ground.phase⟩ (by simp) rfl
            have d1 : b1 = true := hdeps ⟨1, Ground.phase⟩ (by simp) rfl
            have d2 : b2 = true := hdeps ⟨2, Ground.phase⟩ (by simp) rfl
            have d3 : b3 = true := hdeps ⟨3, Ground.phase⟩ (by simp) rfl
            have d4 : b4 = true := hdeps ⟨4, Ground.phase⟩ (by simp) rfl
            have d5 : b5 = true := hdeps ⟨5, Ground.phase⟩ (by simp) rfl
            have d6 : b6 = true := hdeps ⟨6, Ground.phase⟩ (by simp) rfl
            have d7 : b7 = true := hdeps ⟨7, Ground.phase⟩ (by simp) rfl
            have d8 : b8 = true := hdeps ⟨8, Ground.phase⟩ (by simp) rfl
            clear hun hdeps
            subst hb d9 d10 d0 d1 d2 d3 d4 d5 d6 d7 d8
            all_goals dsimp only
            refine wpOpIn_step rfl (fun K' hK => ?_)
            all_goals simp only [pk_true]
            all_goals go_simp
            all_goals exact hK _ _ ⟨true, true, true, true, true, true, true, true, true, true, true, true, rfl, rfl, rfl, trivial⟩
        case hdone =>
          rintro L a X ⟨b0, b1, b2, b3, b4, b5, b6, b7, b8, b9, b10, b11, rfl, rfl, rfl, _⟩ hr
          have t0 : b0 = true := ready_nil hr (i := 0) (by simp) (by intro o ho; cases ho; intro e he hbd; replace he : e ∈ #[] := he; simp at he)
          subst t0
          have t1 : b1 = true := ready_nil hr (i := 1) (by simp) (by intro o ho; cases ho; intro e he hbd; replace he : e ∈ #[] := he; simp at he)
          subst t1
          have t2 : b2 = true := ready_nil hr (i := 2) (by simp) (by intro o ho; cases ho; intro e he hbd; replace he : e ∈ #[⟨1, Ground.data⟩] := he; simp only [List.mem_toArray, List.mem_cons, List.not_mem_nil, or_false] at he; rcases he with rfl <;> first | rfl | exact absurd hbd (by decide))
          subst t2
          have t3 : b3 = true := ready_nil hr (i := 3) (by simp) (by intro o ho; cases ho; intro e he hbd; replace he : e ∈ #[⟨0, Ground.data⟩, ⟨2, Ground.data⟩] := he; simp only [List.mem_toArray, List.mem_cons, List.not_mem_nil, or_false] at he; rcases he with rfl | rfl <;> first | rfl | exact absurd hbd (by decide))
          subst t3
          have t4 : b4 = true := ready_nil hr (i := 4) (by simp) (by intro o ho; cases ho; intro e he hbd; replace he : e ∈ #[⟨3, Ground.data⟩] := he; simp only [List.mem_toArray, List.mem_cons, List.not_mem_nil, or_false] at he; rcases he with rfl <;> first | rfl | exact absurd hbd (by decide))
          subst t4
          have t5 : b5 = true := ready_nil hr (i := 5) (by simp) (by intro o ho; cases ho; intro e he hbd; replace he : e ∈ #[⟨10, Ground.gcOnly Departure.lateStores⟩] := he; simp only [List.mem_toArray, List.mem_cons, List.not_mem_nil, or_false] at he; rcases he with rfl <;> first | rfl | exact absurd hbd (by decide))
          subst t5
          have t6 : b6 = true := ready_nil hr (i := 6) (by simp) (by intro o ho; cases ho; intro e he hbd; replace he : e ∈ #[⟨5, Ground.data⟩, ⟨10, Ground.gcOnly Departure.lateStores⟩] := he; simp only [List.mem_toArray, List.mem_cons, List.not_mem_nil, or_false] at he; rcases he with rfl | rfl <;> first | rfl | exact absurd hbd (by decide))
          subst t6
          have t7 : b7 = true := ready_nil hr (i := 7) (by simp) (by intro o ho; cases ho; intro e he hbd; replace he : e ∈ #[⟨10, Ground.gcOnly Departure.lateStores⟩] := he; simp only [List.mem_toArray, List.mem_cons, List.not_mem_nil, or_false] at he; rcases he with rfl <;> first | rfl | exact absurd hbd (by decide))
          subst t7
          have t8 : b8 = true := ready_nil hr (i := 8) (by simp) (by intro o ho; cases ho; intro e he hbd; replace he : e ∈ #[⟨7, Ground.data⟩, ⟨6, Ground.data⟩, ⟨10, Ground.gcOnly Departure.lateStores⟩] := he; simp only [List.mem_toArray, List.mem_cons, List.not_mem_nil, or_false] at he; rcases he with rfl | rfl | rfl <;> first | rfl | exact absurd hbd (by decide))
          subst t8
          have t9 : b9 = true := ready_nil hr (i := 9) (by simp) (by intro o ho; cases ho; intro e he hbd; replace he : e ∈ #[⟨8, Ground.data⟩, ⟨10, Ground.gcOnly Departure.lateStores⟩] := he; simp only [List.mem_toArray, List.mem_cons, List.not_mem_nil, or_false] at he; rcases he with rfl | rfl <;> first | rfl | exact absurd hbd (by decide))
          subst t9
          have t10 : b10 = true := ready_nil hr (i := 10) (by simp) (by intro o ho; cases ho; intro e he hbd; replace he : e ∈ #[⟨4, Ground.data⟩, ⟨0, Ground.phase⟩, ⟨1, Ground.phase⟩, ⟨2, Ground.phase⟩, ⟨3, Ground.phase⟩, ⟨4, Ground.phase⟩, ⟨5, Ground.textOnly Departure.lateStores⟩, ⟨6, Ground.textOnly Departure.lateStores⟩, ⟨7, Ground.textOnly Departure.lateStores⟩, ⟨8, Ground.textOnly Departure.lateStores⟩, ⟨9, Ground.textOnly Departure.lateStores⟩] := he; simp only [List.mem_toArray, List.mem_cons, List.not_mem_nil, or_false] at he; rcases he with rfl | rfl | rfl | rfl | rfl | rfl | rfl | rfl | rfl | rfl | rfl <;> first | rfl | exact absurd hbd (by decide))
          subst t10
          have t11 : b11 = true := ready_nil hr (i := 11) (by simp) (by intro o ho; cases ho; intro e he hbd; replace he : e ∈ #[⟨9, Ground.data⟩, ⟨10, Ground.chain⟩, ⟨0, Ground.phase⟩, ⟨1, Ground.phase⟩, ⟨2, Ground.phase⟩, ⟨3, Ground.phase⟩, ⟨4, Ground.phase⟩, ⟨5, Ground.phase⟩, ⟨6, Ground.phase⟩, ⟨7, Ground.phase⟩, ⟨8, Ground.phase⟩, ⟨9, Ground.phase⟩, ⟨10, Ground.phase⟩] := he; simp only [List.mem_toArray, List.mem_cons, List.not_mem_nil, or_false] at he; rcases he with rfl | rfl | rfl | rfl | rfl | rfl | rfl | rfl | rfl | rfl | rfl | rfl | rfl <;> first | rfl | exact absurd hbd (by decide))
          subst t11
          exact ⟨rfl, rfl⟩
        case hfin =>
          gi_wp2_with fail
          refine region_inv' hmx (fun L a X => ∃ b0 b1 b2 b3 b4 b5 b6 b7 b8 b9 b10 b11 b12 b13 b14 b15 b16 b17 b18 b19 b20 b21 b22 : Bool, L = #[b0, b1, b2, b3, b4, b5, b6, b7, b8, b9, b10, b11, b12, b13, b14, b15, b16, b17, b18, b19, b20, b21, b22] ∧ a = { tmps := #[.slice (some ⟨g, 0, none⟩) n cap, .agg #[.int .i64 x.a, .int .i64 x.b, .int .i64 x.c, .int .i64 x.d, .int .i64 x.e, .int .i64 x.f, .int .i64 x.g, .int .i64 x.t], .pointer (some ⟨w.heap.size, 0, none⟩), .pointer (some ⟨w.heap.size + 1, 0, none⟩), .pointer (some ⟨w.heap.size + 1 + 1, 0, none⟩), .pointer (some ⟨w.heap.size + 1 + 1 + 1, 0, none⟩), .pointer (some ⟨B, 0, none⟩), .slice (some ⟨g2, 0, none⟩) n (rc i), .int .i64 (o : Int), undef, undef, undef, .slice (some ⟨g, 0, none⟩) n cap, .int .i64 (n : Int), .int .i64 (k : Int), .bool true, .slice (some ⟨g, 0, none⟩) n cap, .int .i64 (n : Int), .func (.func 102) #[] #[.pointer (some ⟨wr.heap.size, 0, none⟩)], .agg #[.int .i64 (i : Int), .int .i64 (j : Int)], .slice (some ⟨g, 0, none⟩) n cap, .pointer (some ⟨B, 0, none⟩), .int .i64 (i : Int), .pointer (some ⟨g, i, none⟩), .slice (some ⟨g2, 0, none⟩) n (rc i), .pointer (some ⟨B, 0, none⟩), .int .i64 (i : Int), .pointer (some ⟨w.heap.size + 1, 0, none⟩), .pointer (some ⟨w.heap.size + 1, i, none⟩), .int .i64 (o : Int), pk b0 (.pointer (some ⟨B, 1, none⟩)) (u30), pk b1 (.int .i64 (j : Int)) (u31), pk b2 (.pointer (some ⟨B, 1, none⟩)) (u32), pk b3 (.int .i64 (j : Int)) (u33), pk b4 (.pointer (some ⟨w.heap.size + 1 + 1 + 1, j, none⟩)) (u34), pk b5 (.int .i64 vj) (u35), pk b6 (.int .i64 (o : Int)) (u36), pk b7 (.pointer (some ⟨w.heap.size + 1 + 1 + 1, o, none⟩)) (u37), pk b8 (.int .i64 vo) (u38), pk b9 (.slice (some ⟨g2, 0, none⟩) n (rc i)) (u39), pk b10 (.pointer (some ⟨B, 1, none⟩)) (u40), pk b11 (.int .i64 (j : Int)) (u41), pk b12 (.pointer (some ⟨g2, j, none⟩)) (u42), pk b13 (.int .i64 cij) (u43), pk b14 (.int .i64 (vo + cij)) (u44), pk b15 (.slice (some ⟨g2, 0, none⟩) n (rc i)) (u45), pk b16 (.int .i64 (o : Int)) (u46), pk b17 (.pointer (some ⟨g2, o, none⟩)) (u47), pk b18 (.int .i64 cio) (u48), pk b19 (.int .i64 (vo + cij - cio)) (u49), pk b20 (.int .i64 (min vj (vo + cij - cio))) (u50), pk b21 (.pointer (some ⟨w.heap.size + 1 + 1 + 1, j, none⟩)) (u51), u52, undef, undef, undef, undef, undef, undef, undef, undef, undef, undef, undef, undef, undef, undef, undef, undef, undef, undef, undef, undef, undef, undef, undef, undef], defers := [] } ∧ X = (bif b22 then (W.drew.drew.setCell ⟨w.heap.size + 1 + 1 + 1, j, none⟩ (.int .i64 (min vj (vo + cij - cio)))) else W.drew.drew) ∧ (b22 = true → b0 = true ∧ b1 = true ∧ b2 = true ∧ b3 = true ∧ b4 = true ∧ b5 = true ∧ b6 = true ∧ b7 = true ∧ b8 = true ∧ b9 = true ∧ b10 = true ∧ b11 = true ∧ b12 = true ∧ b13 = true ∧ b14 = true ∧ b15 = true ∧ b16 = true ∧ b17 = true ∧ b18 = true ∧ b19 = true ∧ b20 = true ∧ b21 = true)) { tmps := #[.slice (some ⟨g, 0, none⟩) n cap, .agg #[.int .i64 x.a, .int .i64 x.b, .int .i64 x.c, .int .i64 x.d, .int .i64 x.e, .int .i64 x.f, .int .i64 x.g, .int .i64 x.t], .pointer (some ⟨w.heap.size, 0, none⟩), .pointer (some ⟨w.heap.size + 1, 0, none⟩), .pointer (some ⟨w.heap.size + 1 + 1, 0, none⟩), .pointer (some ⟨w.heap.size + 1 + 1 + 1, 0, none⟩), .pointer (some ⟨B, 0, none⟩), .slice (some ⟨g2, 0, none⟩) n (rc i), .int .i64 (o : Int), undef, undef, undef, .slice (some ⟨g, 0, none⟩) n cap, .int .i64 (n : Int), .int .i64 (k : Int), .bool true, .slice (some ⟨g, 0, none⟩) n cap, .int .i64 (n : Int), .func (.func 102) #[] #[.pointer (some ⟨wr.heap.size, 0, none⟩)], .agg #[.int .i64 (i : Int), .int .i64 (j : Int)], .slice (some ⟨g, 0, none⟩) n cap, .pointer (some ⟨B, 0, none⟩), .int .i64 (i : Int), .pointer (some ⟨g, i, none⟩), .slice (some ⟨g2, 0, none⟩) n (rc i), .pointer (some ⟨B, 0, none⟩), .int .i64 (i : Int), .pointer (some ⟨w.heap.size + 1, 0, none⟩), .pointer (some ⟨w.heap.size + 1, i, none⟩), .int .i64 (o : Int), .pointer (some ⟨B, 1, none⟩), .int .i64 (j : Int), .pointer (some ⟨B, 1, none⟩), .int .i64 (j : Int), .pointer (some ⟨w.heap.size + 1 + 1 + 1, j, none⟩), .int .i64 vj, .int .i64 (o : Int), .pointer (some ⟨w.heap.size + 1 + 1 + 1, o, none⟩), .int .i64 vo, .slice (some ⟨g2, 0, none⟩) n (rc i), .pointer (some ⟨B, 1, none⟩), .int .i64 (j : Int), .pointer (some ⟨g2, j, none⟩), .int .i64 cij, .int .i64 (vo + cij), .slice (some ⟨g2, 0, none⟩) n (rc i), .int .i64 (o : Int), .pointer (some ⟨g2, o, none⟩), .int .i64 cio, .int .i64 (vo + cij - cio), .int .i64 (min vj (vo + cij - cio)), .pointer (some ⟨w.heap.size + 1 + 1 + 1, j, none⟩), u52, undef, undef, undef, undef, undef, undef, undef, undef, undef, undef, undef, undef, undef, undef, undef, undef, undef, undef, undef, undef, undef, undef, undef, undef], defers := [] } (W.drew.drew.setCell ⟨w.heap.size + 1 + 1 + 1, j, none⟩ (.int .i64 (min vj (vo + cij - cio)))) ?h0 ?hstep ?hdone ?hfin
          case h0 => exact ⟨false, false, false, false, false, false, false, false, false, false, false, false, false, false, false, false, false, false, false, false, false, false, false, rfl, rfl, rfl, (fun h => by cases h)⟩
          case hstep =>
            rintro Q L a X ⟨b0, b1, b2, b3, b4, b5, b6, b7, b8, b9, b10, b11, b12, b13, b14, b15, b16, b17, b18, b19, b20, b21, b22, rfl, rfl, rfl, k22⟩ i hi
            have K22 := Lib.hid k22
            clear k22
            obtain ⟨hun, o, ho, hdeps⟩ := mem_ready.1 hi
            clear hi
            have hi : i < 23 := (Array.getElem?_eq_some_iff.1 ho).1
            have hor : i = 0 ∨ i = 1 ∨ i = 2 ∨ i = 3 ∨ i = 4 ∨ i = 5 ∨ i = 6 ∨ i = 7 ∨ i = 8 ∨ i = 9 ∨ i = 10 ∨ i = 11 ∨ i = 12 ∨ i = 13 ∨ i = 14 ∨ i = 15 ∨ i = 16 ∨ i = 17 ∨ i = 18 ∨ i = 19 ∨ i = 20 ∨ i = 21 ∨ i = 22 := by omega
            clear hi
            rcases hor with rfl | rfl | rfl | rfl | rfl | rfl | rfl | rfl | rfl | rfl | rfl | rfl | rfl | rfl | rfl | rfl | rfl | rfl | rfl | rfl | rfl | rfl | rfl
            · have hb : b0 = false := hun
              cases ho
              clear hun hdeps
              have e22 : b22 = false := by cases h : b22 with | false => rfl | true => exact absurd ((K22.out h).1) (by rw [hb]; decide)
              subst hb e22
              all_goals dsimp only
              refine wpOpIn_step rfl (fun K' hK => ?_)
              all_goals try simp only [Bool.cond_false]
              all_goals go_simp
              all_goals exact hK _ _ ⟨true, b1, b2, b3, b4, b5, b6, b7, b8, b9, b10, b11, b12, b13, b14, b15, b16, b17, b18, b19, b20, b21, false, rfl, rfl, rfl, (fun h => by cases h)⟩
            · have hb : b1 = false := hun
              cases ho
              have d0 : b0 = true := hdeps ⟨0, Ground.data⟩ (by simp) rfl
              clear hun hdeps
              have e22 : b22 = false := by cases h : b22 with | false => rfl | true => exact absurd ((K22.out h).2.1) (by rw [hb]; decide)
              subst hb d0 e22
              all_goals dsimp only
              refine wpOpIn_step rfl (fun K' hK => ?_)
              all_goals simp only [pk_true]
              all_goals try simp only [Bool.cond_false]
              all_goals go_simp
              all_goals exact hK _ _ ⟨true, true, b2, b3, b4, b5, b6, b7, b8, b9, b10, b11, b12, b13, b14, b15, b16, b17, b18, b19, b20, b21, false, rfl, rfl, rfl, (fun h => by cases h)⟩
            · have hb : b2 = false := hun
              cases ho
              clear hun hdeps
              have e22 : b22 = false := by cases h : b22 with | false => rfl | true => exact absurd ((K22.out h).2.2.1) (by rw [hb]; decide)
              subst hb e22
              all_goals dsimp only
              refine wpOpIn_step rfl (fun K' hK => ?_)
              all_goals try simp only [Bool.cond_false]
              all_goals go_simp
              all_goals exact hK _ _ ⟨b0, b1, true, b3, b4, b5, b6, b7, b8, b9, b10, b11, b12, b13, b14, b15, b16, b17, b18, b19, b20, b21, false, rfl, rfl, rfl, (fun h => by cases h)⟩
            · have hb : b3 = false := hun
              cases ho
              have d2 : b2 = true := hdeps ⟨2, Ground.data⟩ (by simp) rfl
              clear hun hdeps
              have e22 : b22 = false := by cases h : b22 with | false => rfl | true => exact absurd ((K22.out h).2.2.2.1) (by rw [hb]; decide)
              subst hb d2 e22
              all_goals dsimp only
              refine wpOpIn_step rfl (fun K' hK => ?_)
              all_goals simp only [pk_true]
              all_goals try simp only [Bool.cond_false]
              all_goals go_simp
              all_goals exact hK _ _ ⟨b0, b1, true, true, b4, b5, b6, b7, b8, b9, b10, b11, b12, b13, b14, b15, b16, b17, b18, b19, b20, b21, false, rfl, rfl, rfl, (fun h => by cases h)⟩
            · have hb : b4 = false := hun
              cases ho
              have d3 : b3 = true := hdeps ⟨3, Ground.data⟩ (by simp) rfl
              clear hun hdeps
              have e22 : b22 = false := by cases h : b22 with | false => rfl | true => exact absurd ((K22.out h).2.2.2.2.1) (by rw [hb]; decide)
              subst hb d3 e22
              all_goals dsimp only
              refine wpOpIn_step rfl (fun K' hK => ?_)
              all_goals simp only [pk_true]
              all_goals try simp only [Bool.cond_false]
              all_goals go_simp
              all_goals exact hK _ _ ⟨b0, b1, b2, true, true, b5, b6, b7, b8, b9, b10, b11, b12, b13, b14, b15, b16, b17, b18, b19, b20, b21, false, rfl, rfl, rfl, (fun h => by cases h)⟩
            · have hb : b5 = false := hun
              cases ho
              have d4 : b4 = true := hdeps ⟨4, Ground.data⟩ (by simp) rfl
              clear hun hdeps
              have e22 : b22 = false := by cases h : b22 with | false => rfl | true => exact absurd ((K22.out h).2.2.2.2.2.1) (by rw [hb]; decide)
              subst hb d4 e22
              all_goals dsimp only
              refine wpOpIn_step rfl (fun K' hK => ?_)
              all_goals simp only [pk_true]
              all_goals try simp only [Bool.cond_false]
              all_goals go_simp
              all_goals exact hK _ _ ⟨b0, b1, b2, b3, true, true, b6, b7, b8, b9, b10, b11, b12, b13, b14, b15, b16, b17, b18, b19, b20, b21, false, rfl, rfl, rfl, (fun h => by cases h)⟩
            · have hb : b6 = false := hun
              cases ho
              clear hun hdeps
              have e22 : b22 = false := by cases h : b22 with | false => rfl | true => exact absurd ((K22.out h).2.2.2.2.2.2.1) (by rw [hb]; decide)
              subst hb e22
              all_goals dsimp only
              refine wpOpIn_step rfl (fun K' hK => ?_)
              all_goals try simp only [Bool.cond_false]
              all_goals go_simp
              all_goals exact hK _ _ ⟨b0, b1, b2, b3, b4, b5, true, b7, b8, b9, b10, b11, b12, b13, b14, b15, b16, b17, b18, b19, b20, b21, false, rfl, rfl, rfl, (fun h => by cases h)⟩
            · have hb : b7 = false := hun
              cases ho
              have d6 : b6 = true := hdeps ⟨6, Ground.data⟩ (by simp) rfl
              clear hun hdeps
              have e22 : b22 = false := by cases h : b22 with | false => rfl | true => exact absurd ((K22.out h).2.2.2.2.2.2.2.1) (by rw [hb]; decide)
              subst hb d6 e22
              all_goals dsimp only
              refine wpOpIn_step rfl (fun K' hK => ?_)
              all_goals simp only [pk_true]
              all_goals try simp only [Bool.cond_false]
              all_goals go_simp
              all_goals exact hK _ _ ⟨b0, b1, b2, b3, b4, b5, true, true, b8, b9, b10, b11, b12, b13, b14, b15, b16, b17, b18, b19, b20, b21, false, rfl, rfl, rfl, (fun h => by cases h)⟩
            · have hb : b8 = false := hun
              cases ho
              have d7 : b7 = true := hdeps ⟨7, Ground.data⟩ (by simp) rfl
              clear hun hdeps
              have e22 : b22 = false := by cases h : b22 with | false => rfl | true => exact absurd ((K22.out h).2.2.2.2.2.2.2.2.1) (by rw [hb]; decide)
              subst hb d7 e22
              all_goals dsimp only
              refine wpOpIn_step rfl (fun K' hK => ?_)
              all_goals simp only [pk_true]
              all_goals try simp only [Bool.cond_false]
              all_goals go_simp
              all_goals exact hK _ _ ⟨b0, b1, b2, b3, b4, b5, b6, true, true, b9, b10, b11, b12, b13, b14, b15, b16, b17, b18, b19, b20, b21, false, rfl, rfl, rfl, (fun h => by cases h)⟩
            · have hb : b9 = false := hun
              cases ho
              clear hun hdeps
              have e22 : b22 = false := by cases h : b22 with | false => rfl | true => exact absurd ((K22.out h).2.2.2.2.2.2.2.2.2.1) (by rw [hb]; decide)
              subst hb e22
              all_goals dsimp only
              refine wpOpIn_step rfl (fun K' hK => ?_)
              all_goals try simp only [Bool.cond_false]
              all_goals go_simp
              all_goals exact hK _ _ ⟨b0, b1, b2, b3, b4, b5, b6, b7, b8, true, b10, b11, b12, b13, b14, b15, b16, b17, b18, b19, b20, b21, false, rfl, rfl, rfl, (fun h => by cases h)⟩
            · have hb : b10 = false := hun
              cases ho
              clear hun hdeps
              have e22 : b22 = false := by cases h : b22 with | false => rfl | true => exact absurd ((K22.out h).2.2.2.2.2.2.2.2.2.2.1) (by rw [hb]; decide)
              subst hb e22
              all_goals dsimp only
              refine wpOpIn_step rfl (fun K' hK => ?_)
              all_goals try simp only [Bool.cond_false]
              all_goals go_simp
              all_goals exact hK _ _ ⟨b0, b1, b2, b3, b4, b5, b6, b7, b8, b9, true, b11, b12, b13, b14, b15, b16, b17, b18, b19, b20, b21, false, rfl, rfl, rfl, (fun h => by cases h)⟩
            · have hb : b11 = false := hun
              cases ho
              have d10 : b10 = true := hdeps ⟨10, Ground.data⟩ (by simp) rfl
              clear hun hdeps
              have e22 : b22 = false := by cases h : b22 with | false => rfl | true => exact absurd ((K22.out h).2.2.2.2.2.2.2.2.2.2.2.1) (by rw [hb]; decide)
              subst hb d10 e22
              all_goals dsimp only
              refine wpOpIn_step rfl (fun K' hK => ?_)
              all_goals simp only [pk_true]
              all_goals try simp only [Bool.cond_false]
              all_goals go_simp
              all_goals exact hK _ _ ⟨b0, b1, b2, b3, b4, b5, b6, b7, b8, b9, true, true, b12, b13, b14, b15, b16, b17, b18, b19, b20, b21, false, rfl, rfl, rfl, (fun h => by cases h)⟩
            · have hb : b12 = false := hun
              cases ho
              have d9 : b9 = true := hdeps ⟨9, Ground.data⟩ (by simp) rfl
              have d11 : b11 = true := hdeps ⟨11, Ground.data⟩ (by simp) rfl
              clear hun hdeps
              have e22 : b22 = false := by cases h : b22 with | false => rfl | true => exact absurd ((K22.out h).2.2.2.2.2.2.2.2.2.2.2.2.1) (by rw [hb]; decide)
              subst hb d9 d11 e22
              all_goals dsimp only
              refine wpOpIn_step rfl (fun K' hK => ?_)
              all_goals simp only [pk_true]
              all_goals try simp only [Bool.cond_false]
              all_goals go_simp
              all_goals exact hK _ _ ⟨b0, b1, b2, b3, b4, b5, b6, b7, b8, true, b10, true, true, b13, b14, b15, b16, b17, b18, b19, b20, b21, false, rfl, rfl, rfl, (fun h => by cases h)⟩
            · have hb : b13 = false := hun
              cases ho
              have d12 : b12 = true := hdeps ⟨12, Ground.data⟩ (by simp) rfl
              clear hun hdeps
              have e22 : b22 = false := by cases h : b22 with | false => rfl | true => exact absurd ((K22.out h).2.2.2.2.2.2.2.2.2.2.2.2.2.1) (by rw [hb]; decide)
              subst hb d12 e22
              all_goals dsimp only
              refine wpOpIn_step rfl (fun K' hK => ?_)
              all_goals simp only [pk_true]
              all_goals try simp only [Bool.cond_false]
              all_goals go_simp
              all_goals exact hK _ _ ⟨b0, b1, b2, b3, b4, b5, b6, b7, b8, b9, b10, b11, true, true, b14, b15, b16, b17, b18, b19, b20, b21, false, rfl, rfl, rfl, (fun h => by cases h)⟩
            · have hb : b14 = false := hun
              cases ho
              have d8 : b8 = true := hdeps ⟨8, Ground.data⟩ (by simp) rfl
              have d13 : b13 = true := hdeps ⟨13, Ground.data⟩ (by simp) rfl
              clear hun hdeps
              have e22 : b22 = false := by cases h : b22 with | false => rfl | true => exact absurd ((K22.out h).2.2.2.2.2.2.2.2.2.2.2.2.2.2.1) (by rw [hb]; decide)
              subst hb d8 d13 e22
              all_goals dsimp only
              refine wpOpIn_step rfl (fun K' hK => ?_)
              all_goals simp only [pk_true]
              all_goals try simp only [Bool.cond_false]
              all_goals go_simp
              all_goals exact hK _ _ ⟨b0, b1, b2, b3, b4, b5, b6, b7, true, b9, b10, b11, b12, true, true, b15, b16, b17, b18, b19, b20, b21, false, rfl, rfl, rfl, (fun h => by cases h)⟩
            · have hb : b15 = false := hun
              cases ho
              clear hun hdeps
              have e22 : b22 = false := by cases h : b22 with | false => rfl | true => exact absurd ((K22.out h).2.2.2.2.2.2.2.2.2.2.2.2.2.2.2.1) (by rw [hb]; decide)
              subst hb e22
              all_goals dsimp only
              refine wpOpIn_step rfl (fun K' hK => ?_)
              all_goals try simp only [Bool.cond_false]
              all_goals go_simp
              all_goals exact hK _ _ ⟨b0, b1, b2, b3, b4, b5, b6, b7, b8, b9, b10, b11, b12, b13, b14, true, b16, b17, b18, b19, b20, b21, false, rfl, rfl, rfl, (fun h => by cases h)⟩
            · have hb : b16 = false := hun
              cases ho
              clear hun hdeps
              have e22 : b22 = false := by cases h : b22 with | false => rfl | true => exact absurd ((K22.out h).2.2.2.2.2.2.2.2.2.2.2.2.2.2.2.2.1) (by rw [hb]; decide)
              subst hb e22
              all_goals dsimp only
              refine wpOpIn_step rfl (fun K' hK => ?_)
              all_goals try simp only [Bool.cond_false]
              all_goals go_simp
              all_goals exact hK _ _ ⟨b0, b1, b2, b3, b4, b5, b6, b7, b8, b9, b10, b11, b12, b13, b14, b15, true, b17, b18, b19, b20, b21, false, rfl, rfl, rfl, (fun h => by cases h)⟩
            · have hb : b17 = false := hun
              cases ho
              have d15 : b15 = true := hdeps ⟨15, Ground.data⟩ (by simp) rfl
              have d16 : b16 = true := hdeps ⟨16, Ground.data⟩ (by simp) rfl
              clear hun hdeps
              have e22 : b22 = false := by cases h : b22 with | false => rfl | true => exact absurd ((K22.out h).2.2.2.2.2.2.2.2.2.2.2.2.2.2.2.2.2.1) (by rw [hb]; decide)
              subst hb d15 d16 e22
              all_goals dsimp only
              refine wpOpIn_step rfl (fun K' hK => ?_)
              all_goals simp only [pk_true]
              all_goals try simp only [Bool.cond_false]
              all_goals go_simp
              all_goals exact hK _ _ ⟨b0, b1, b2, b3, b4, b5, b6, b7, b8, b9, b10, b11, b12, b13, b14, true, true, true, b18, b19, b20, b21, false, rfl, rfl, rfl, (fun h => by cases h)⟩
            · have hb : b18 = false := hun
              cases ho
              have d17 : b17 = true := hdeps ⟨17, Ground.data⟩ (by simp) rfl
              clear hun hdeps
              have e22 : b22 = false := by cases h : b22 with | false => rfl | true => exact absurd ((K22.out h).2.2.2.2.2.2.2.2.2.2.2.2.2.2.2.2.2.2.1) (by rw [hb]; decide)
              subst hb d17 e22
              all_goals dsimp only
              refine wpOpIn_step rfl (fun K' hK => ?_)
              all_goals simp only [pk_true]
              all_goals try simp only [Bool.cond_false]
              all_goals go_simp
              all_goals exact hK _ _ ⟨b0, b1, b2, b3, b4, b5, b6, b7, b8, b9, b10, b11, b12, b13, b14, b15, b16, true, true, b19, b20, b21, false, rfl, rfl, rfl, (fun h => by cases h)⟩
            · have hb : b19 = false := hun
              cases ho
              have d14 : b14 = true := hdeps ⟨14, Ground.data⟩ (by simp) rfl
              have d18 : b18 = true := hdeps ⟨18, Ground.data⟩ (by simp) rfl
              clear hun hdeps
              have e22 : b22 = false := by cases h : b22 with | false => rfl | true => exact absurd ((K22.out h).2.2.2.2.2.2.2.2.2.2.2.2.2.2.2.2.2.2.2.1) (by rw [hb]; decide)
              subst hb d14 d18 e22
              all_goals dsimp only
              refine wpOpIn_step rfl (fun K' hK => ?_)
              all_goals simp only [pk_true]
              all_goals try simp only [Bool.cond_false]
              all_goals go_simp
              all_goals exact hK _ _ ⟨b0, b1, b2, b3, b4, b5, b6, b7, b8, b9, b10, b11, b12, b13, true, b15, b16, b17, true, true, b20, b21, false, rfl, rfl, rfl, (fun h => by cases h)⟩
            · have hb : b20 = false := hun
              cases ho
              have d5 : b5 = true := hdeps ⟨5, Ground.data⟩ (by simp) rfl
              have d19 : b19 = true := hdeps ⟨19, Ground.data⟩ (by simp) rfl
              clear hun hdeps
              have e22 : b22 = false := by cases h : b22 with | false => rfl | true => exact absurd ((K22.out h).2.2.2.2.2.2.2.2.2.2.2.2.2.2.2.2.2.2.2.2.1) (by rw [hb]; decide)
              subst hb d5 d19 e22
              all_goals dsimp only
              refine wpOpIn_step rfl (fun K' hK => ?_)
              all_goals simp only [pk_true]
              all_goals try simp only [Bool.cond_false]
              all_goals go_simp
              all_goals exact hK _ _ ⟨b0, b1, b2, b3, b4, true, b6, b7, b8, b9, b10, b11, b12, b13, b14, b15, b16, b17, b18, true, true, b21, false, rfl, rfl, rfl, (fun h => by cases h)⟩
            · have hb : b21 = false := hun
              cases ho
              have d1 : b1 = true := hdeps ⟨1, Ground.data⟩ (by simp) rfl
              have d0 : b0 = true := hdeps ⟨0, Ground.phase⟩ (by simp) rfl
              have d2 : b2 = true := hdeps ⟨2, Ground.phase⟩ (by simp) rfl
              have d3 : b3 = true := hdeps ⟨3, Ground.phase⟩ (by simp) rfl
              have d4 : b4 = true := hdeps ⟨4, Ground.phase⟩ (by simp) rfl
              have d5 : b5 = true := hdeps ⟨5, Ground.phase⟩ (by simp) rfl
              have d6 : b6 = true := hdeps ⟨6, Ground.phase⟩ (by simp) rfl
              have d7 : b7 = true := hdeps ⟨7, Ground.phase⟩ (by simp) rfl
              have d8 : b8 = true := hdeps ⟨8, Ground.phase⟩ (by simp) rfl
              have d9 : b9 = true := hdeps ⟨9, Ground.phase⟩ (by simp) rfl
              have d10 : b10 = true := hdeps ⟨10, Ground.phase⟩ (by simp) rfl
              have d11 : b11 = true := hdeps ⟨11, Ground.phase⟩ (by simp) rfl
              have d12 : b12 = true := hdeps ⟨12, Ground.phase⟩ (by simp) rfl
              have d13 : b13 = true := hdeps ⟨13, Ground.phase⟩ (by simp) rfl
              have d14 : b14 = true := hdeps ⟨14, Ground.phase⟩ (by simp) rfl
              have d15 : b15 = true := hdeps ⟨15, Ground.phase⟩ (by simp) rfl
              have d16 : b16 = true := hdeps ⟨16, Ground.phase⟩ (by simp) rfl
              have d17 : b17 = true := hdeps ⟨17, Ground.phase⟩ (by simp) rfl
              have d18 : b18 = true := hdeps ⟨18, Ground.phase⟩ (by simp) rfl
              have d19 : b19 = true := hdeps ⟨19, Ground.phase⟩ (by simp) rfl
              have d20 : b20 = true := hdeps ⟨20, Ground.phase⟩ (by simp) rfl
              clear hun hdeps
              have e22 : b22 = false := by cases h : b22 with | false => rfl | true => exact absurd ((K22.out h).2.2.2.2.2.2.2.2.2.2.2.2.2.2.2.2.2.2.2.2.2) (by rw [hb]; decide)
              subst hb d1 d0 d2 d3 d4 d5 d6 d7 d8 d9 d10 d11 d12 d13 d14 d15 d16 d17 d18 d19 d20 e22
              all_goals dsimp only
              refine wpOpIn_step rfl (fun K' hK => ?_)
              all_goals simp only [pk_true]
              all_goals try simp only [Bool.cond_false]
              all_goals go_simp
              all_goals exact hK _ _ ⟨true, true, true, true, true, true, true, true, true, true, true, true, true, true, true, true, true, true, true, true, true, true, false, rfl, rfl, rfl, (fun h => by cases h)⟩
            · have hb : b22 = false := hun
              cases ho
              have d21 : b21 = true := hdeps ⟨21, Ground.data⟩ (by simp) rfl
              have d20 : b20 = true := hdeps ⟨20, Ground.data⟩ (by simp) rfl
              have d0 : b0 = true := hdeps ⟨0, Ground.phase⟩ (by simp) rfl
              have d1 : b1 = true := hdeps ⟨1, Ground.phase⟩ (by simp) rfl
              have d2 : b2 = true := hdeps ⟨2, Ground.phase⟩ (by simp) rfl
              have d3 : b3 = true := hdeps ⟨3, Ground.phase⟩ (by simp) rfl
              have d4 : b4 = true := hdeps ⟨4, Ground.phase⟩ (by simp) rfl
              have d5 : b5 = true := hdeps ⟨5, Ground.phase⟩ (by simp) rfl
              have d6 : b6 = true := hdeps ⟨6, Ground.phase⟩ (by simp) rfl
              have d7 : b7 = true := hdeps ⟨7, Ground.phase⟩ (by simp) rfl
              have d8 : b8 = true := hdeps ⟨8, Ground.phase⟩ (by simp) rfl
              have d9 : b9 = true := hdeps ⟨9, Ground.phase⟩ (by simp) rfl
              have d10 : b10 = true := hdeps ⟨10, Ground.phase⟩ (by simp) rfl
              have d11 : b11 = true := hdeps ⟨11, Ground.phase⟩ (by simp) rfl
              have d12 : b12 = true := hdeps ⟨12, Ground.phase⟩ (by simp) rfl
              have d13 : b13 = true := hdeps ⟨13, Ground.phase⟩ (by simp) rfl
              have d14 : b14 = true := hdeps ⟨14, Ground.phase⟩ (by simp) rfl
              have d15 : b15 = true := hdeps ⟨15, Ground.phase⟩ (by simp) rfl
              have d16 : b16 = true := hdeps ⟨16, Ground.phase⟩ (by simp) rfl
              have d17 : b17 = true := hdeps ⟨17, Ground.phase⟩ (by simp) rfl
              have d18 : b18 = true := hdeps ⟨18, Ground.phase⟩ (by simp) rfl
              have d19 : b19 = true := hdeps ⟨19, Ground.phase⟩ (by simp) rfl
              clear hun hdeps
              subst hb d21 d20 d0 d1 d2 d3 d4 d5 d6 d7 d8 d9 d10 d11 d12 d13 d14 d15 d16 d17 d18 d19
              all_goals dsimp only
              refine wpOpIn_step rfl (fun K' hK => ?_)
              all_goals simp only [pk_true]
              all_goals try simp only [Bool.cond_false]
              all_goals go_simp
              all_goals exact hK _ _ ⟨true, true, true, true, true, true, true, true, true, true, true, true, true, true, true, true, true, true, true, true, true, true, true, rfl, rfl, rfl, (fun _ => ⟨rfl, rfl, rfl, rfl, rfl, rfl, rfl, rfl, rfl, rfl, rfl, rfl, rfl, rfl, rfl, rfl, rfl, rfl, rfl, rfl, rfl, rfl⟩)⟩
          case hdone =>
            rintro L a X ⟨b0, b1, b2, b3, b4, b5, b6, b7, b8, b9, b10, b11, b12, b13, b14, b15, b16, b17, b18, b19, b20, b21, b22, rfl, rfl, rfl, -⟩ hr
            have t0 : b0 = true := ready_nil hr (i := 0) (by simp) (by intro o ho; cases ho; intro e he hbd; replace he : e ∈ #[] := he; simp at he)
            subst t0
            have t1 : b1 = true := ready_nil hr (i := 1) (by simp) (by intro o ho; cases ho; intro e he hbd; replace he : e ∈ #[⟨0, Ground.data⟩] := he; simp only [List.mem_toArray, List.mem_cons, List.not_mem_nil, or_false] at he; rcases he with rfl <;> first | rfl | exact absurd hbd (by decide))
            subst t1
            have t2 : b2 = true := ready_nil hr (i := 2) (by simp) (by intro o ho; cases ho; intro e he hbd; replace he : e ∈ #[] := he; simp at he)
            subst t2
            have t3 : b3 = true := ready_nil hr (i := 3) (by simp) (by intro o ho; cases ho; intro e he hbd; replace he : e ∈ #[⟨2, Ground.data⟩] := he; simp only [List.mem_toArray, List.mem_cons, List.not_mem_nil, or_false] at he; rcases he with rfl <;> first | rfl | exact absurd hbd (by decide))
            subst t3
            have t4 : b4 = true := ready_nil hr (i := 4) (by simp) (by intro o ho; cases ho; intro e he hbd; replace he : e ∈ #[⟨3, Ground.data⟩] := he; simp only [List.mem_toArray, List.mem_cons, List.not_mem_nil, or_false] at he; rcases he with rfl <;> first | rfl | exact absurd hbd (by decide))
            subst t4
            have t5 : b5 = true := ready_nil hr (i := 5) (by simp) (by intro o ho; cases ho; intro e he hbd; replace he : e ∈ #[⟨4, Ground.data⟩] := he; simp only [List.mem_toArray, List.mem_cons, List.not_mem_nil, or_false] at he; rcases he with rfl <;> first | rfl | exact absurd hbd (by decide))
            subst t5
            have t6 : b6 = true := ready_nil hr (i := 6) (by simp) (by intro o ho; cases ho; intro e he hbd; replace he : e ∈ #[] := he; simp at he)
            subst t6
            have t7 : b7 = true := ready_nil hr (i := 7) (by simp) (by intro o ho; cases ho; intro e he hbd; replace he : e ∈ #[⟨6, Ground.data⟩] := he; simp only [List.mem_toArray, List.mem_cons, List.not_mem_nil, or_false] at he; rcases he with rfl <;> first | rfl | exact absurd hbd (by decide))
            subst t7
            have t8 : b8 = true := ready_nil hr (i := 8) (by simp) (by intro o ho; cases ho; intro e he hbd; replace he : e ∈ #[⟨7, Ground.data⟩] := he; simp only [List.mem_toArray, List.mem_cons, List.not_mem_nil, or_false] at he; rcases he with rfl <;> first | rfl | exact absurd hbd (by decide))
            subst t8
            have t9 : b9 = true := ready_nil hr (i := 9) (by simp) (by intro o ho; cases ho; intro e he hbd; replace he : e ∈ #[] := he; simp at he)
            subst t9
            have t10 : b10 = true := ready_nil hr (i := 10) (by simp) (by intro o ho; cases ho; intro e he hbd; replace he : e ∈ #[] := he; simp at he)
            subst t10
            have t11 : b11 = true := ready_nil hr (i := 11) (by simp) (by intro o ho; cases ho; intro e he hbd; replace he : e ∈ #[⟨10, Ground.data⟩] := he; simp only [List.mem_toArray, List.mem_cons, List.not_mem_nil, or_false] at he; rcases he with rfl <;> first | rfl | exact absurd hbd (by decide))
            subst t11
            have t12 : b12 = true := ready_nil hr (i := 12) (by simp) (by intro o ho; cases ho; intro e he hbd; replace he : e ∈ #[⟨9, Ground.data⟩, ⟨11, Ground.data⟩] := he; simp only [List.mem_toArray, List.mem_cons, List.not_mem_nil, or_false] at he; rcases he with rfl | rfl <;> first | rfl | exact absurd hbd (by decide))
            subst t12
            have t13 : b13 = true := ready_nil hr (i := 13) (by simp) (by intro o ho; cases ho; intro e he hbd; replace he : e ∈ #[⟨12, Ground.data⟩] := he; simp only [List.mem_toArray, List.mem_cons, List.not_mem_nil, or_false] at he; rcases he with rfl <;> first | rfl | exact absurd hbd (by decide))
            subst t13
            have t14 : b14 = true := ready_nil hr (i := 14) (by simp) (by intro o ho; cases ho; intro e he hbd; replace he : e ∈ #[⟨8, Ground.data⟩, ⟨13, Ground.data⟩] := he; simp only [List.mem_toArray, List.mem_cons, List.not_mem_nil, or_false] at he; rcases he with rfl | rfl <;> first | rfl | exact absurd hbd (by decide))
            subst t14
            have t15 : b15 = true := ready_nil hr (i := 15) (by simp) (by intro o ho; cases ho; intro e he hbd; replace he : e ∈ #[] := he; simp at he)
            subst t15
            have t16 : b16 = true := ready_nil hr (i := 16) (by simp) (by intro o ho; cases ho; intro e he hbd; replace he : e ∈ #[] := he; simp at he)
            subst t16
            have t17 : b17 = true := ready_nil hr (i := 17) (by simp) (by intro o ho; cases ho; intro e he hbd; replace he : e ∈ #[⟨15, Ground.data⟩, ⟨16, Ground.data⟩] := he; simp only [List.mem_toArray, List.mem_cons, List.not_mem_nil, or_false] at he; rcases he with rfl | rfl <;> first | rfl | exact absurd hbd (by decide))
            subst t17
            have t18 : b18 = true := ready_nil hr (i := 18) (by simp) (by intro o ho; cases ho; intro e he hbd; replace he : e ∈ #[⟨17, Ground.data⟩] := he; simp only [List.mem_toArray, List.mem_cons, List.not_mem_nil, or_false] at he; rcases he with rfl <;> first | rfl | exact absurd hbd (by decide))
            subst t18
            have t19 : b19 = true := ready_nil hr (i := 19) (by simp) (by intro o ho; cases ho; intro e he hbd; replace he : e ∈ #[⟨14, Ground.data⟩, ⟨18, Ground.data⟩] := he; simp only [List.mem_toArray, List.mem_cons, List.not_mem_nil, or_false] at he; rcases he with rfl | rfl <;> first | rfl | exact absurd hbd (by decide))
            subst t19
            have t20 : b20 = true := ready_nil hr (i := 20) (by simp) (by intro o ho; cases ho; intro e he hbd; replace he : e ∈ #[⟨5, Ground.data⟩, ⟨19, Ground.data⟩] := he; simp only [List.mem_toArray, List.mem_cons, List.not_mem_nil, or_false] at he; rcases he with rfl | rfl <;> first | rfl | exact absurd hbd (by decide))
            subst t20
            have t21 : b21 = true := ready_nil hr (i := 21) (by simp) (by intro o ho; cases ho; intro e he hbd; replace he : e ∈ #[⟨1, Ground.data⟩, ⟨0, Ground.phase⟩, ⟨1, Ground.phase⟩, ⟨2, Ground.phase⟩, ⟨3, Ground.phase⟩, ⟨4, Ground.phase⟩, ⟨5, Ground.phase⟩, ⟨6, Ground.phase⟩, ⟨7, Ground.phase⟩, ⟨8, Ground.phase⟩, ⟨9, Ground.phase⟩, ⟨10, Ground.phase⟩, ⟨11, Ground.phase⟩, ⟨12, Ground.phase⟩, ⟨13, Ground.phase⟩, ⟨14, Ground.phase⟩, ⟨15, Ground.phase⟩, ⟨16, Ground.phase⟩, ⟨17, Ground.phase⟩, ⟨18, Ground.phase⟩, ⟨19, Ground.phase⟩, ⟨20, Ground.phase⟩] := he; simp only [List.mem_toArray, List.mem_cons, List.not_mem_nil, or_false] at he; rcases he with rfl | rfl | rfl | rfl | rfl | rfl | rfl | rfl | rfl | rfl | rfl | rfl | rfl | rfl | rfl | rfl | rfl | rfl | rfl | rfl | rfl | rfl <;> first | rfl | exact absurd hbd (by decide))
            subst t21
            have t22 : b22 = true := ready_nil hr (i := 22) (by simp) (by intro o ho; cases ho; intro e he hbd; replace he : e ∈ #[⟨21, Ground.data⟩, ⟨20, Ground.data⟩, ⟨0, Ground.phase⟩, ⟨1, Ground.phase⟩, ⟨2, Ground.phase⟩, ⟨3, Ground.phase⟩, ⟨4, Ground.phase⟩, ⟨5, Ground.phase⟩, ⟨6, Ground.phase⟩, ⟨7, Ground.phase⟩, ⟨8, Ground.phase⟩, ⟨9, Ground.phase⟩, ⟨10, Ground.phase⟩, ⟨11, Ground.phase⟩, ⟨12, Ground.phase⟩, ⟨13, Ground.phase⟩, ⟨14, Ground.phase⟩, ⟨15, Ground.phase⟩, ⟨16, Ground.phase⟩, ⟨17, Ground.phase⟩, ⟨18, Ground.phase⟩, ⟨19, Ground.phase⟩, ⟨20, Ground.phase⟩] := he; simp only [List.mem_toArray, List.mem_cons, List.not_mem_nil, or_false] at he; rcases he with rfl | rfl | rfl | rfl | rfl | rfl | rfl | rfl | rfl | rfl | rfl | rfl | rfl | rfl | rfl | rfl | rfl | rfl | rfl | rfl | rfl | rfl | rfl <;> first | rfl | exact absurd hbd (by decide))
            subst t22
            exact ⟨rfl, rfl⟩
          case hfin =>
            gi_wp2_with fail
            refine show KeepsAt _ _ _ ∧ PrvI _ _ _ _ _ _ _ _ ∧ _ from ?_
            have hgd : W.grownBy W.drew.drew none := ⟨rfl, rfl, rfl, Nat.le_refl _, fun _ _ _ => rfl⟩
            have hI3 := HI2.out.grown hgd (fun r e => by cases e)
            have hgs := grownBy_set W.drew.drew (w.heap.size + 1 + 1 + 1) j (.int .i64 (min vj (vo + cij - cio)))
            have hks : KeepsAt (w.heap.size + 4) W (W.drew.drew.setCell ⟨w.heap.size + 1 + 1 + 1, j, none⟩ (.int .i64 (min vj (vo + cij - cio)))) :=
              (KeepsAt.of_grown hgd (fun r e => by cases e)).trans (KeepsAt.of_grown hgs (fun r e => by have := Option.some.inj e; omega))
            refine ⟨hks, ⟨?_, ?_, ?_, ?_, ?_⟩, fun D hD => ⟨(HMD.out D hD).1, hks.same _ _ (HMD.out D hD).1 (HMD.out D hD).2⟩⟩
            · exact hI3.below.grown hgs hI3.below.size (fun k e => by have := Option.some.inj e; omega)
            · exact (Below.heap_setCell _ _ _ _ (by show w.heap.size ≠ w.heap.size + 1 + 1 + 1; omega)).trans hI3.b0
            · exact (Below.heap_setCell _ _ _ _ (by show w.heap.size + 1 ≠ w.heap.size + 1 + 1 + 1; omega)).trans hI3.b1
            · exact hI3.b2.far (by omega)
            · rw [Hsn.out]; exact hI3.b3.set j _
      case stop =>
        rintro D c pre X hD hSp hF hDf
        exact hF.elim
      case done =>
        rintro D xs X hD hS ⟨hI, hMD⟩ hDf
        subst hS
        have hrn : rlxs C x (rnds C x k) ((allPairs n).map fun p : Pr n => p.1) = rnds C x (k + 1) := by rw [rnds]; unfold prsL; rw [Hn.out]
        rw [hrn] at hI
        have hM2 : Marks (w.heap.size + 4) (D :: Ds) X := HMk.out.push (by omega) (by omega) (fun D' h' => (hMD D' h').2) hDf
        have hD2 : ∀ D', D' ∈ D :: Ds → D' < X.heap.size := fun D' h' => (Array.getElem?_eq_some_iff.1 (hM2.2 D' h').2).1
        have HI5 := Lib.hid hI
        have HM5 := Lib.hid hM2
        have HD5 := Lib.hid hD2
        clear hI hMD hrn hM2 hD2 hDf hI1 hM1 hgr hbe
        gi_wp2_with fail
        refine ⟨?_, ?_⟩
        · (repeat apply Exists.intro)
          exact ⟨⟨k + 1, D :: Ds, by omega, by go_num, rfl, HI5.out, HM5.out, HD5.out⟩, rfl⟩
        · simp [intOf]; omega
    · obtain rfl : k = n := by omega
      have s0 : wr.cell? ⟨w.heap.size, 0, none⟩ = some (.slice (some ⟨g, 0, none⟩) k cap) := by simp [World.cell?, hI.b0, Hn.out]
      have HI := Lib.hid hI
      have HMk := Lib.hid hM
      clear hI hM hDl
      gi_wp2_with fail
      clear s0
      have hvP : rnds C x k = vP C x := by unfold vP; rw [Hn.out]
      have hcb : CB C := fun i j => by
        unfold cost
        cases hi : C[i]? with
        | none => rw [List.getD_eq_getElem?_getD (l := C), hi]; simp
        | some row => rw [List.getD_eq_getElem?_getD (l := C), hi]; exact getD_bound (HR.out.cost row (List.mem_of_getElem? hi)) j
      have hpb := rnds_pb (x := x) hcb HR.out.n7 k
      rw [hvP] at hpb
      have Hpb := Lib.hid hpb
      have Hcb := Lib.hid hcb
      have HvP := Lib.hid hvP
      clear hpb hcb hvP
      gi_loopw [55] (fun i wr => ∃ r : Nat, r ≤ k ∧ i = .int .i64 r ∧ PrvI w g cap C x (uTo C x (vP C x) r) (vP C x) wr ∧ Marks (w.heap.size + 4) Ds wr) (fun i _ => k - (intOf i).toNat)
      case atStart => exact ⟨0, Nat.zero_le _, rfl, by have h := HI.out; rw [HvP.out] at h; exact h, HMk.out⟩
      case round =>
        obtain ⟨r, hr, rfl, hI, hMy⟩ := hrel
        by_cases hlr : r < k
        · have hcr : (r : Int) < k := by omega
          obtain ⟨o, ho, hxo⟩ := HX.out r (by rw [Hn.out]; exact hlr)
          rw [Hn.out] at ho
          have hus : uTo C x (vP C x) (r + 1) = (uTo C x (vP C x) r).set r (cost C r o - (vP C x).getD o 0) := by rw [uTo, hxo, Int.toNat_natCast]
          generalize uTo C x (vP C x) r = uu at hI hus
          have hv2 := Hpb.out.2 o
          have hc2 := Hcb.out r o
          obtain ⟨row, hrow⟩ : ∃ row, C[r]? = some row := ⟨_, List.getElem?_eq_getElem (by rw [Hn.out]; exact hlr)⟩
          have hrl := HR.out.len row (List.mem_of_getElem? hrow)
          rw [Hn.out] at hrl
          have hTF := hI.tbl HF.out
          obtain ⟨tc1, tc2, tc3⟩ := hTF.2 r row hrow
          rw [hrl] at tc1 tc2 tc3
          have htg := hTF.1
          obtain ⟨g2, hra, co⟩ := tc3.int ho
          rw [hra] at tc1
          have eo : row.getD o 0 = cost C r o := by unfold cost; rw [List.getD_eq_getElem?_getD (l := C), hrow]; rfl
          rw [eo] at co
          have sv2 := hI.b3.cell (j := o) (by omega)
          have sf := hI.b2.free r
          have su := hI.b2.cell (j := r) (by omega)
          obtain ⟨vo, hvo⟩ : ∃ z, (vP C x).getD o 0 = z := ⟨_, rfl⟩
          obtain ⟨cro, hcro⟩ : ∃ z, cost C r o = z := ⟨_, rfl⟩
          rw [hvo] at hv2 sv2 hus
          rw [hcro] at hc2 co hus
          have hk7 : (k : Int) ≤ 7 := by omega
          have i1 : IntKind.i64.wrap (cro - vo) = cro - vo := IntWalk.i64_in _ (by omega)
          have sx : wr.cell? ⟨w.heap.size + 1, r, none⟩ = some (.int .i64 o) := by rw [at_cell hI.b1 (by omega), hxo]
          have l3 : (o : Int) < k := by omega
          have l4 : (r : Int) < 7 := by omega
          have l6 : (o : Int) < 7 := by omega
          have hmx : Try.prog.follows .mixedOrders = true := by kernel_rfl
          have HI2 := Lib.hid hI
          have HM2 := Lib.hid hMy
          have Hus := Lib.hid hus
          clear hI hMy hus hv2 hc2 hrow hrl hTF tc2 tc3 hra eo hvo hcro hxo
          gi_wp2_with fail
          refine region_inv' hmx (fun L a X => ∃ b0 b1 b2 b3 b4 b5 b6 b7 b8 b9 b10 : Bool, L = #[b0, b1, b2, b3, b4, b5, b6, b7, b8, b9, b10] ∧ a = { tmps := #[.slice (some ⟨g, 0, none⟩) k cap, .agg #[.int .i64 x.a, .int .i64 x.b, .int .i64 x.c, .int .i64 x.d, .int .i64 x.e, .int .i64 x.f, .int .i64 x.g, .int .i64 x.t], .pointer (some ⟨w.heap.size, 0, none⟩), .pointer (some ⟨w.heap.size + 1, 0, none⟩), .pointer (some ⟨w.heap.size + 1 + 1, 0, none⟩), .pointer (some ⟨w.heap.size + 1 + 1 + 1, 0, none⟩), u6, u7, u8, .int .i64 (r : Int), .slice (some ⟨g2, 0, none⟩) k (rc r), .int .i64 (o : Int), .slice (some ⟨g, 0, none⟩) k cap, .int .i64 (k : Int), .int .i64 (k : Int), .bool false, u16, u17, u18, undef, u20, u21, u22, u23, u24, u25, u26, u27, u28, u29, u30, u31, u32, u33, u34, u35, u36, u37, u38, u39, u40, u41, u42, u43, u44, u45, u46, u47, u48, u49, u50, u51, u52, .slice (some ⟨g, 0, none⟩) k cap, .int .i64 (k : Int), .int .i64 (r : Int), .bool true, .int .i64 (r : Int), .pointer (some ⟨g, r, none⟩), .slice (some ⟨g2, 0, none⟩) k (rc r), .int .i64 (r : Int), .pointer (some ⟨w.heap.size + 1, 0, none⟩), .pointer (some ⟨w.heap.size + 1, r, none⟩), .int .i64 (o : Int), pk b0 (.int .i64 (r : Int)) (u64), pk b1 (.slice (some ⟨g2, 0, none⟩) k (rc r)) (u65), pk b2 (.int .i64 (o : Int)) (u66), pk b3 (.pointer (some ⟨g2, o, none⟩)) (u67), pk b4 (.int .i64 cro) (u68), pk b5 (.int .i64 (o : Int)) (u69), pk b6 (.pointer (some ⟨w.heap.size + 1 + 1 + 1, o, none⟩)) (u70), pk b7 (.int .i64 vo) (u71), pk b8 (.int .i64 (cro - vo)) (u72), pk b9 (.pointer (some ⟨w.heap.size + 1 + 1, r, none⟩)) (u73), u74, undef, undef], defers := (List.map markD Ds) } ∧ X = (bif b10 then (wr.drew.setCell ⟨w.heap.size + 1 + 1, r, none⟩ (.int .i64 (cro - vo))) else wr.drew) ∧ (b10 = true → b0 = true ∧ b1 = true ∧ b2 = true ∧ b3 = true ∧ b4 = true ∧ b5 = true ∧ b6 = true ∧ b7 = true ∧ b8 = true ∧ b9 = true)) { tmps := #[.slice (some ⟨g, 0, none⟩) k cap, .agg #[.int .i64 x.a, .int .i64 x.b, .int .i64 x.c, .int .i64 x.d, .int .i64 x.e, .int .i64 x.f, .int .i64 x.g, .int .i64 x.t], .pointer (some ⟨w.heap.size, 0, none⟩), .pointer (some ⟨w.heap.size + 1, 0, none⟩), .pointer (some ⟨w.heap.size + 1 + 1, 0, none⟩), .pointer (some ⟨w.heap.size + 1 + 1 + 1, 0, none⟩), u6, u7, u8, .int .i64 (r : Int), .slice (some ⟨g2, 0, none⟩) k (rc r), .int .i64 (o : Int), .slice (some ⟨g, 0, none⟩) k cap, .int .i64 (k : Int), .int .i64 (k : Int), .bool false, u16, u17, u18, undef, u20, u21, u22, u23, u24, u25, u26, u27, u28, u29, u30, u31, u32, u33, u34, u35, u36, u37, u38, u39, u40, u41, u42, u43, u44, u45, u46, u47, u48, u49, u50, u51, u52, .slice (some ⟨g, 0, none⟩) k cap, .int .i64 (k : Int), .int .i64 (r : Int), .bool true, .int .i64 (r : Int), .pointer (some ⟨g, r, none⟩), .slice (some ⟨g2, 0, none⟩) k (rc r), .int .i64 (r : Int), .pointer (some ⟨w.heap.size + 1, 0, none⟩), .pointer (some ⟨w.heap.size + 1, r, none⟩), .int .i64 (o : Int), .int .i64 (r : Int), .slice (some ⟨g2, 0, none⟩) k (rc r), .int .i64 (o : Int), .pointer (some ⟨g2, o, none⟩), .int .i64 cro, .int .i64 (o : Int), .pointer (some ⟨w.heap.size + 1 + 1 + 1, o, none⟩), .int .i64 vo, .int .i64 (cro - vo), .pointer (some ⟨w.heap.size + 1 + 1, r, none⟩), u74, undef, undef], defers := (List.map markD Ds) } (wr.drew.setCell ⟨w.heap.size + 1 + 1, r, none⟩ (.int .i64 (cro - vo))) ?h0 ?hstep ?hdone ?hfin
          case h0 => exact ⟨false, false, false, false, false, false, false, false, false, false, false, rfl, rfl, rfl, (fun h => by cases h)⟩
          case hstep =>
            rintro Q L a X ⟨b0, b1, b2, b3, b4, b5, b6, b7, b8, b9, b10, rfl, rfl, rfl, k10⟩ i hi
            have K10 := Lib.hid k10
            clear k10
            obtain ⟨hun, o, ho, hdeps⟩ := mem_ready.1 hi
            clear hi
            have hi : i < 11 := (Array.getElem?_eq_some_iff.1 ho).1
            have hor : i = 0 ∨ i = 1 ∨ i = 2 ∨ i = 3 ∨ i = 4 ∨ i = 5 ∨ i = 6 ∨ i = 7 ∨ i = 8 ∨ i = 9 ∨ i = 10 := by omega
            clear hi
            rcases hor with rfl | rfl | rfl | rfl | rfl | rfl | rfl | rfl | rfl | rfl | rfl
            · have hb : b0 = false := hun
              cases ho
              clear hun hdeps
              have e10 : b10 = false := by cases h : b10 with | false => rfl | true => exact absurd ((K10.out h).1) (by rw [hb]; decide)
              subst hb e10
              all_goals dsimp only
              refine wpOpIn_step rfl (fun K' hK => ?_)
              all_goals try simp only [Bool.cond_false]
              all_goals go_simp
              all_goals exact hK _ _ ⟨true, b1, b2, b3, b4, b5, b6, b7, b8, b9, false, rfl, rfl, rfl, (fun h => by cases h)⟩
            · have hb : b1 = false := hun
              cases ho
              clear hun hdeps
              have e10 : b10 = false := by cases h : b10 with | false => rfl | true => exact absurd ((K10.out h).2.1) (by rw [hb]; decide)
              subst hb e10
              all_goals dsimp only
              refine wpOpIn_step rfl (fun K' hK => ?_)
              all_goals try simp only [Bool.cond_false]
              all_goals go_simp
              all_goals exact hK _ _ ⟨b0, true, b2, b3, b4, b5, b6, b7, b8, b9, false, rfl, rfl, rfl, (fun h => by cases h)⟩
            · have hb : b2 = false := hun
              cases ho
              clear hun hdeps
              have e10 : b10 = false := by cases h : b10 with | false => rfl | true => exact absurd ((K10.out h).2.2.1) (by rw [hb]; decide)
              subst hb e10
              all_goals dsimp only
              refine wpOpIn_step rfl (fun K' hK => ?_)
              all_goals try simp only [Bool.cond_false]
              all_goals go_simp
              all_goals exact hK _ _ ⟨b0, b1, true, b3, b4, b5, b6, b7, b8, b9, false, rfl, rfl, rfl, (fun h => by cases h)⟩
            · have hb : b3 = false := hun
              cases ho
              have d1 : b1 = true := hdeps ⟨1, Ground.data⟩ (by simp) rfl
              have d2 : b2 = true := hdeps ⟨2, Ground.data⟩ (by simp) rfl
              clear hun hdeps
              have e10 : b10 = false := by cases h : b10 with | false => rfl | true => exact absurd ((K10.out h).2.2.2.1) (by rw [hb]; decide)
              subst hb d1 d2 e10
              all_goals dsimp only
              refine wpOpIn_step rfl (fun K' hK => ?_)
              all_goals simp only [pk_true]
              all_goals try simp only [Bool.cond_false]
              all_goals go_simp
              all_goals exact hK _ _ ⟨b0, true, true, true, b4, b5, b6, b7, b8, b9, false, rfl, rfl, rfl, (fun h => by cases h)⟩
            · have hb : b4 = false := hun
              cases ho
              have d3 : b3 = true := hdeps ⟨3, Ground.data⟩ (by simp) rfl
              clear hun hdeps
              have e10 : b10 = false := by cases h : b10 with | false => rfl | true => exact absurd ((K10.out h).2.2.2.2.1) (by rw [hb]; decide)
              subst hb d3 e10
              all_goals dsimp only
              refine wpOpIn_step rfl (fun K' hK => ?_)
              all_goals simp only [pk_true]
              all_goals try simp only [Bool.cond_false]
              all_goals go_simp
              all_goals exact hK _ _ ⟨b0, b1, b2, true, true, b5, b6, b7, b8, b9, false, rfl, rfl, rfl, (fun h => by cases h)⟩
            · have hb : b5 = false := hun
              cases ho
              clear hun hdeps
              have e10 : b10 = false := by cases h : b10 with | false => rfl | true => exact absurd ((K10.out h).2.2.2.2.2.1) (by rw [hb]; decide)
              subst hb e10
              all_goals dsimp only
              refine wpOpIn_step rfl (fun K' hK => ?_)
              all_goals try simp only [Bool.cond_false]
              all_goals go_simp
              all_goals exact hK _ _ ⟨b0, b1, b2, b3, b4, true, b6, b7, b8, b9, false, rfl, rfl, rfl, (fun h => by cases h)⟩
            · have hb : b6 = false := hun
              cases ho
              have d5 : b5 = true := hdeps ⟨5, Ground.data⟩ (by simp) rfl
              clear hun hdeps
              have e10 : b10 = false := by cases h : b10 with | false => rfl | true => exact absurd ((K10.out h).2.2.2.2.2.2.1) (by rw [hb]; decide)
              subst hb d5 e10
              all_goals dsimp only
              refine wpOpIn_step rfl (fun K' hK => ?_)
              all_goals simp only [pk_true]
              all_goals try simp only [Bool.cond_false]
              all_goals go_simp
              all_goals exact hK _ _ ⟨b0, b1, b2, b3, b4, true, true, b7, b8, b9, false, rfl, rfl, rfl, (fun h => by cases h)⟩
            · have hb : b7 = false := hun
              cases ho
              have d6 : b6 = true := hdeps ⟨6, Ground.data⟩ (by simp) rfl
              clear hun hdeps
              have e10 : b10 = false := by cases h : b10 with | false => rfl | true => exact absurd ((K10.out h).2.2.2.2.2.2.2.1) (by rw [hb]; decide)
              subst hb d6 e10
              all_goals dsimp only
              refine wpOpIn_step rfl (fun K' hK => ?_)
              all_goals simp only [pk_true]
              all_goals try simp only [Bool.cond_false]
              all_goals go_simp
              all_goals exact hK _ _ ⟨b0, b1, b2, b3, b4, b5, true, true, b8, b9, false, rfl, rfl, rfl, (fun h => by cases h)⟩
            · have hb : b8 = false := hun
              cases ho
              have d4 : b4 = true := hdeps ⟨4, Ground.data⟩ (by simp) rfl
              have d7 : b7 = true := hdeps ⟨7, Ground.data⟩ (by simp) rfl
              clear hun hdeps
              have e10 : b10 = false := by cases h : b10 with | false => rfl | true => exact absurd ((K10.out h).2.2.2.2.2.2.2.2.1) (by rw [hb]; decide)
              subst hb d4 d7 e10
              all_goals dsimp only
              refine wpOpIn_step rfl (fun K' hK => ?_)
              all_goals simp only [pk_true]
              all_goals try simp only [Bool.cond_false]
              all_goals go_simp
              all_goals exact hK _ _ ⟨b0, b1, b2, b3, true, b5, b6, true, true, b9, false, rfl, rfl, rfl, (fun h => by cases h)⟩
            · have hb : b9 = false := hun
              cases ho
              have d0 : b0 = true := hdeps ⟨0, Ground.data⟩ (by simp) rfl
              have d1 : b1 = true := hdeps ⟨1, Ground.phase⟩ (by simp) rfl
              have d2 : b2 = true := hdeps ⟨2, Ground.phase⟩ (by simp) rfl
              have d3 : b3 = true := hdeps ⟨3, Ground.phase⟩ (by simp) rfl
              have d4 : b4 = true := hdeps ⟨4, Ground.phase⟩ (by simp) rfl
              have d5 : b5 = true := hdeps ⟨5, Ground.phase⟩ (by simp) rfl
              have d6 : b6 = true := hdeps ⟨6, Ground.phase⟩ (by simp) rfl
              have d7 : b7 = true := hdeps ⟨7, Ground.phase⟩ (by simp) rfl
              have d8 : b8 = true := hdeps ⟨8, Ground.phase⟩ (by simp) rfl
              clear hun hdeps
              have e10 : b10 = false := by cases h : b10 with | false => rfl | true => exact absurd ((K10.out h).2.2.2.2.2.2.2.2.2) (by rw [hb]; decide)
              subst hb d0 d1 d2 d3 d4 d5 d6 d7 d8 e10
              all_goals dsimp only
              refine wpOpIn_step rfl (fun K' hK => ?_)
              all_goals simp only [pk_true]
              all_goals try simp only [Bool.cond_false]
              all_goals go_simp
              all_goals exact hK _ _ ⟨true, true, true, true, true, true, true, true, true, true, false, rfl, rfl, rfl, (fun h => by cases h)⟩
            · have hb : b10 = false := hun
              cases ho
              have d9 : b9 = true := hdeps ⟨9, Ground.data⟩ (by simp) rfl
              have d8 : b8 = true := hdeps ⟨8, Ground.data⟩ (by simp) rfl
              have d0 : b0 = true := hdeps ⟨0, Ground.phase⟩ (by simp) rfl
              have d1 : b1 = true := hdeps ⟨1, Ground.phase⟩ (by simp) rfl
              have d2 : b2 = true := hdeps ⟨2, Ground.phase⟩ (by simp) rfl
              have d3 : b3 = true := hdeps ⟨3, Ground.phase⟩ (by simp) rfl
              have d4 : b4 = true := hdeps ⟨4, Ground.phase⟩ (by simp) rfl
              have d5 : b5 = true := hdeps ⟨5, Ground.phase⟩ (by simp) rfl
              have d6 : b6 = true := hdeps ⟨6, Ground.phase⟩ (by simp) rfl
              have d7 : b7 = true := hdeps ⟨7, Ground.phase⟩ (by simp) rfl
              clear hun hdeps
              subst hb d9 d8 d0 d1 d2 d3 d4 d5 d6 d7
              all_goals dsimp only
              refine wpOpIn_step rfl (fun K' hK => ?_)
              all_goals simp only [pk_true]
              all_goals try simp only [Bool.cond_false]
              all_goals go_simp
              all_goals exact hK _ _ ⟨true, true, true, true, true, true, true, true, true, true, true, rfl, rfl, rfl, (fun _ => ⟨rfl, rfl, rfl, rfl, rfl, rfl, rfl, rfl, rfl, rfl⟩)⟩
          case hdone =>
            rintro L a X ⟨b0, b1, b2, b3, b4, b5, b6, b7, b8, b9, b10, rfl, rfl, rfl, -⟩ hr
            have t0 : b0 = true := ready_nil hr (i := 0) (by simp) (by intro o ho; cases ho; intro e he hbd; replace he : e ∈ #[] := he; simp at he)
            subst t0
            have t1 : b1 = true := ready_nil hr (i := 1) (by simp) (by intro o ho; cases ho; intro e he hbd; replace he : e ∈ #[] := he; simp at he)
            subst t1
            have t2 : b2 = true := ready_nil hr (i := 2) (by simp) (by intro o ho; cases ho; intro e he hbd; replace he : e ∈ #[] := he; simp at he)
            subst t2
            have t3 : b3 = true := ready_nil hr (i := 3) (by simp) (by intro o ho; cases ho; intro e he hbd; replace he : e ∈ #[⟨1, Ground.data⟩, ⟨2, Ground.data⟩] := he; simp only [List.mem_toArray, List.mem_cons, List.not_mem_nil, or_false] at he; rcases he with rfl | rfl <;> first | rfl | exact absurd hbd (by decide))
            subst t3
            have t4 : b4 = true := ready_nil hr (i := 4) (by simp) (by intro o ho; cases ho; intro e he hbd; replace he : e ∈ #[⟨3, Ground.data⟩] := he; simp only [List.mem_toArray, List.mem_cons, List.not_mem_nil, or_false] at he; rcases he with rfl <;> first | rfl | exact absurd hbd (by decide))
            subst t4
            have t5 : b5 = true := ready_nil hr (i := 5) (by simp) (by intro o ho; cases ho; intro e he hbd; replace he : e ∈ #[] := he; simp at he)
            subst t5
            have t6 : b6 = true := ready_nil hr (i := 6) (by simp) (by intro o ho; cases ho; intro e he hbd; replace he : e ∈ #[⟨5, Ground.data⟩] := he; simp only [List.mem_toArray, List.mem_cons, List.not_mem_nil, or_false] at he; rcases he with rfl <;> first | rfl | exact absurd hbd (by decide))
            subst t6
            have t7 : b7 = true := ready_nil hr (i := 7) (by simp) (by intro o ho; cases ho; intro e he hbd; replace he : e ∈ #[⟨6, Ground.data⟩] := he; simp only [List.mem_toArray, List.mem_cons, List.not_mem_nil, or_false] at he; rcases he with rfl <;> first | rfl | exact absurd hbd (by decide))
            subst t7
            have t8 : b8 = true := ready_nil hr (i := 8) (by simp) (by intro o ho; cases ho; intro e he hbd; replace he : e ∈ #[⟨4, Ground.data⟩, ⟨7, Ground.data⟩] := he; simp only [List.mem_toArray, List.mem_cons, List.not_mem_nil, or_false] at he; rcases he with rfl | rfl <;> first | rfl | exact absurd hbd (by decide))
            subst t8
            have t9 : b9 = true := ready_nil hr (i := 9) (by simp) (by intro o ho; cases ho; intro e he hbd; replace he : e ∈ #[⟨0, Ground.data⟩, ⟨0, Ground.phase⟩, ⟨1, Ground.phase⟩, ⟨2, Ground.phase⟩, ⟨3, Ground.phase⟩, ⟨4, Ground.phase⟩, ⟨5, Ground.phase⟩, ⟨6, Ground.phase⟩, ⟨7, Ground.phase⟩, ⟨8, Ground.phase⟩] := he; simp only [List.mem_toArray, List.mem_cons, List.not_mem_nil, or_false] at he; rcases he with rfl | rfl | rfl | rfl | rfl | rfl | rfl | rfl | rfl | rfl <;> first | rfl | exact absurd hbd (by decide))
            subst t9
            have t10 : b10 = true := ready_nil hr (i := 10) (by simp) (by intro o ho; cases ho; intro e he hbd; replace he : e ∈ #[⟨9, Ground.data⟩, ⟨8, Ground.data⟩, ⟨0, Ground.phase⟩, ⟨1, Ground.phase⟩, ⟨2, Ground.phase⟩, ⟨3, Ground.phase⟩, ⟨4, Ground.phase⟩, ⟨5, Ground.phase⟩, ⟨6, Ground.phase⟩, ⟨7, Ground.phase⟩, ⟨8, Ground.phase⟩] := he; simp only [List.mem_toArray, List.mem_cons, List.not_mem_nil, or_false] at he; rcases he with rfl | rfl | rfl | rfl | rfl | rfl | rfl | rfl | rfl | rfl | rfl <;> first | rfl | exact absurd hbd (by decide))
            subst t10
            exact ⟨rfl, rfl⟩
          case hfin =>
            have hgd : wr.grownBy wr.drew none := ⟨rfl, rfl, rfl, Nat.le_refl _, fun _ _ _ => rfl⟩
            have hI3 := HI2.out.grown hgd (fun r e => by cases e)
            have hgs := grownBy_set wr.drew (w.heap.size + 1 + 1) r (.int .i64 (cro - vo))
            have hI4 : PrvI w g cap C x (uTo C x (vP C x) (r + 1)) (vP C x) (wr.drew.setCell ⟨w.heap.size + 1 + 1, r, none⟩ (.int .i64 (cro - vo))) := by
              refine ⟨?_, ?_, ?_, ?_, ?_⟩
              · exact hI3.below.grown hgs hI3.below.size (fun k e => by have := Option.some.inj e; omega)
              · exact (Below.heap_setCell _ _ _ _ (by show w.heap.size ≠ w.heap.size + 1 + 1; omega)).trans hI3.b0
              · exact (Below.heap_setCell _ _ _ _ (by show w.heap.size + 1 ≠ w.heap.size + 1 + 1; omega)).trans hI3.b1
              · rw [Hus.out]; exact hI3.b2.set r _
              · exact hI3.b3.far (by omega)
            have hM4 : Marks (w.heap.size + 4) Ds (wr.drew.setCell ⟨w.heap.size + 1 + 1, r, none⟩ (.int .i64 (cro - vo))) := ⟨HM2.out.1, fun D hD => ⟨(HM2.out.2 D hD).1, (Below.heap_setCell _ _ _ _ (by show D ≠ w.heap.size + 1 + 1; have := (HM2.out.2 D hD).1; omega)).trans (HM2.out.2 D hD).2⟩⟩
            have HI4 := Lib.hid hI4
            have HM4 := Lib.hid hM4
            clear hI4 hM4 hI3 hgs hgd
            gi_wp2_with fail
            go_roundw
            case rel => exact ⟨r + 1, by omega, by go_num, HI4.out, HM4.out⟩
            case measure => simp [intOf]; omega
        · obtain rfl : r = k := by omega
          have hu : uTo C x (vP C x) r = uP C x := by unfold uP; rw [Hn.out]
          rw [hu] at hI
          have hpv : provV C x = .tuple #[.agg (intL (uP C x)).toArray, .agg (intL (vP C x)).toArray] := rfl
          obtain ⟨u, huu⟩ : ∃ z, uP C x = z := ⟨_, rfl⟩
          obtain ⟨v, hvv⟩ : ∃ z, vP C x = z := ⟨_, rfl⟩
          rw [huu, hvv] at hI hpv
          have Hpv := Lib.hid hpv
          clear hu hpv huu hvv HvP Hpb
          obtain ⟨a0, a1, a2, a3, a4, a5, a6, rfl⟩ := list7 hI.b2.len
          obtain ⟨d0, d1, d2, d3, d4, d5, d6, rfl⟩ := list7 hI.b3.len
          obtain ⟨c0, c1, c2, c3, c4, c5, c6⟩ := hI.b2.cells7
          obtain ⟨e0, e1, e2, e3, e4, e5, e6⟩ := hI.b3.cells7
          have f0 := hI.b2.free 0; have f1 := hI.b2.free 1; have f2 := hI.b2.free 2; have f3 := hI.b2.free 3; have f4 := hI.b2.free 4; have f5 := hI.b2.free 5; have f6 := hI.b2.free 6
          have g0 := hI.b3.free 0; have g1 := hI.b3.free 1; have g2 := hI.b3.free 2; have g3 := hI.b3.free 3; have g4 := hI.b3.free 4; have g5 := hI.b3.free 5; have g6 := hI.b3.free 6
          have HI2 := Lib.hid hI
          have HM2 := Lib.hid hMy
          clear hI hMy
          gi_wp2_with fail
          gi_region
          gi_wp2_with fail
          obtain ⟨q2, q3, qb, qm⟩ := prov_final HI2.out HM2.out
          have HPf := Hpv.out
          clear c0 c1 c2 c3 c4 c5 c6 e0 e1 e2 e3 e4 e5 e6 f0 f1 f2 f3 f4 f5 f6 g0 g1 g2 g3 g4 g5 g6
          unfold set7 at q2 q3 qb qm
          exact prov_leaves rfl rfl rfl Ds _ qm q2 q3 qb (fun Y hY => ⟨by rw [HPf], hY⟩)
end Go.Proofs.Ytambhhjbafefgaa

/- Best. -/
namespace Go.Proofs.Ytambhhjbafefgaa
set_option linter.unusedVariables false
open Go.RowKit Go.Shelf

theorem slice_prices (b n : Nat) (hn : n ≤ 7) (w : World) : (Instr.sliceAt 72 (.pointer (some ⟨b, 0, none⟩)) none (some (.int .i64 n)) none).run Try.prog w = .ok (.slice (some ⟨b, 0, none⟩) n 7) w := by
  rcases lt8 hn with rfl | rfl | rfl | rfl | rfl | rfl | rfl | rfl <;> kernel_rfl

theorem bestW_ok {C : List (List Int)} (hR : Rect C C.length) : ∀ i, i < C.length → ∃ j : Nat, j < C.length ∧ (bestW C).at i = j := fun i hi =>
  firstW_at hR C.length 0 (Nat.le_refl _) (fits_zero _ _ (Nat.le_refl _)) i (by omega) hi

set_option maxRecDepth 100000 in
set_option maxHeartbeats 4000000 in
theorem Best_no (C : List (List Int)) (a : Option Addr) (cap : Nat) (w : World) (h : Tbl w a C) (hn : C.length ≤ 1000) (hr : ∀ row ∈ C, row.length ≤ 1000) (hw : costsB C = false) :
    Calls Try.prog 17 #[.slice a C.length cap] w fun e w' => e = .returned (.tuple #[.slice none 0 0, .slice none 0 0, .slice none 0 0, .int .i64 2]) ∧ w' = w := by
  have hC := fun w' h => isCosts_any a cap C w' h hn hr
  rw [hw] at hC
  have HC := Lib.hid hC
  have H := Lib.hid h
  clear hC h hw
  go_enter Try.func17, Try.ntmps17
  go_wp2_with (go_at_call 53; refine (HC.out _ H.out).mono ?_; rintro e w' ⟨rfl, rfl⟩)
  exact bodyPost_ret (v := .tuple #[.slice none 0 0, .slice none 0 0, .slice none 0 0, .int .i64 2]) (by simp [results, Try.results17, go_sem]) rfl ⟨rfl, rfl⟩

theorem clone7 (W : World) (B n : Nat) (v : List Int) (hn : n ≤ 7) (h : B7 W B v) :
    Calls Try.prog 57 #[.slice (some ⟨B, 0, none⟩) n 7] W fun e w' => ∃ r, e = .returned r ∧ w'.ownsRow W.heap.size 3 1 r n (intL (v.take n)) ∧ Below W.heap.size W w' := by
  have hcl := Any.slices_Clone_int Try.laysNm215 B 0 n 7 v W (by have := h.len; omega) (by omega) (fun j hj => by rw [Nat.zero_add]; exact h.cell (by rw [h.len] at hj; exact hj))
  refine hcl.mono ?_
  rintro e w1 ⟨r, rfl, hown, _, hB⟩
  exact ⟨r, rfl, hown, hB⟩

set_option maxRecDepth 100000 in
set_option maxHeartbeats 4000000 in
theorem Best_yes (C : List (List Int)) (a : Option Addr) (cap : Nat) (w : World) (h : Tbl w a C) (hcC : costsB C = true) :
    Calls Try.prog 17 #[.slice a C.length cap] w fun e w' => ∃ r0 r1 r2, e = .returned (.tuple #[r0, r1, r2, .int .i64 0]) ∧ w'.ownsRow w.heap.size 3 1 r0 C.length (intL ((bestW C).holes.take C.length)) ∧
      w'.ownsRow w.heap.size 3 1 r1 C.length (intL ((uP C (bestW C)).take C.length)) ∧ w'.ownsRow w.heap.size 3 1 r2 C.length (intL ((vP C (bestW C)).take C.length)) ∧ Below w.heap.size w w' := by
  obtain ⟨hR, hp⟩ := Rect.of_costs hcC
  have hn7 := hR.n7
  have hC := fun w' h => isCosts_any a cap C w' h (by omega) (fun row hrow => by have := hR.len row hrow; omega)
  rw [hcC] at hC
  have hF := fun w' h => firstOf_any C a cap C.length w' hR (Nat.le_refl _) h
  have hok := bestW_ok hR
  obtain ⟨m, hm⟩ : ∃ z, bestW C = z := ⟨_, rfl⟩
  rw [hm] at hF hok ⊢
  have hP := fun w' h => prov_any C a cap m w' h hcC hok
  unfold provV at hP
  obtain ⟨u, hu⟩ : ∃ z, uP C m = z := ⟨_, rfl⟩
  obtain ⟨v, hv⟩ : ∃ z, vP C m = z := ⟨_, rfl⟩
  have hul : u.length = 7 := by rw [← hu]; exact uTo_len _ _ _ _
  have hvl : v.length = 7 := by
    rw [← hv]
    unfold vP
    cases C.length with
    | zero => rfl
    | succ k =>
      have : ∀ (l : List (Nat × Nat)) (z : List Int), z.length = 7 → (rlxs C m z l).length = 7 := by
        intro l
        induction l with
        | nil => intro z h; exact h
        | cons p l ih => intro z h; unfold rlxs; rw [List.foldl_cons]; exact ih _ (by unfold rlx; rw [List.length_set]; exact h)
      have h2 : ∀ k, (rnds C m k).length = 7 := by
        intro k
        induction k with
        | zero => rfl
        | succ k ih => rw [rnds]; exact this _ _ ih
      exact h2 _
  rw [hu, hv] at hP ⊢
  obtain ⟨a0, a1, a2, a3, a4, a5, a6, rfl⟩ := list7 hul
  obtain ⟨d0, d1, d2, d3, d4, d5, d6, rfl⟩ := list7 hvl
  rw [show (intL [a0, a1, a2, a3, a4, a5, a6]).toArray = (#[.int .i64 a0, .int .i64 a1, .int .i64 a2, .int .i64 a3, .int .i64 a4, .int .i64 a5, .int .i64 a6] : Array Value) from rfl, show (intL [d0, d1, d2, d3, d4, d5, d6]).toArray = (#[.int .i64 d0, .int .i64 d1, .int .i64 d2, .int .i64 d3, .int .i64 d4, .int .i64 d5, .int .i64 d6] : Array Value) from rfl] at hP
  have hli := fun w' => list_any m C.length hn7 w'
  unfold wayV at hF hP hli
  have HC := Lib.hid hC
  have HF := Lib.hid hF
  have HP := Lib.hid hP
  have HL := Lib.hid hli
  have H := Lib.hid h
  obtain ⟨n, hn⟩ : ∃ n, C.length = n := ⟨_, rfl⟩
  rw [hn] at HC HF HP HL hn7 ⊢
  clear hC hF hP hli h hok hm hu hv hul hvl hR hp hn hcC
  go_enter Try.func17, Try.ntmps17
  go_wp2_with fail
  refine (HC.out _ H.out).mono ?_
  rintro e w' ⟨rfl, rfl⟩
  go_wp2_with fail
  refine (HF.out _ H.out).mono ?_
  rintro e w1 ⟨rfl, b1⟩
  have t1 := World.alloc_heap_new w1 (.cells (wayA m) 70)
  have hb1 := b_next b1 (below_alloc w1 (.cells (wayA m) 70))
  have hwa : wayA m = #[.int .i64 m.a, .int .i64 m.b, .int .i64 m.c, .int .i64 m.d, .int .i64 m.e, .int .i64 m.f, .int .i64 m.g, .int .i64 m.t] := rfl
  have hz1 : (w1.alloc (.cells (wayA m) 70)).heap.size = w1.heap.size + 1 := by simp
  generalize hX1 : w1.alloc (.cells (wayA m) 70) = X1 at t1 hb1 hz1
  rw [hwa] at hX1
  clear hwa b1
  obtain ⟨c0, c1, c2, c3, c4, c5, c6, c7⟩ := at8_lit t1
  go_wp2_with fail
  refine (HP.out _ (H.out.below hb1)).mono ?_
  rintro e w2 ⟨rfl, b2⟩
  have t2 := (b2.block _ (by omega)).trans t1
  have hb2 := b_next hb1 b2
  have q1 := (World.alloc_heap_new w2 (.cells #[.int .i64 a0, .int .i64 a1, .int .i64 a2, .int .i64 a3, .int .i64 a4, .int .i64 a5, .int .i64 a6] 72))
  have q2 := (World.alloc_heap_new (w2.alloc (.cells #[.int .i64 a0, .int .i64 a1, .int .i64 a2, .int .i64 a3, .int .i64 a4, .int .i64 a5, .int .i64 a6] 72)) (.cells #[.int .i64 d0, .int .i64 d1, .int .i64 d2, .int .i64 d3, .int .i64 d4, .int .i64 d5, .int .i64 d6] 72))
  have hs2 : w1.heap.size < w2.heap.size := by have := b2.size; omega
  have hz3 : ((w2.alloc (.cells #[.int .i64 a0, .int .i64 a1, .int .i64 a2, .int .i64 a3, .int .i64 a4, .int .i64 a5, .int .i64 a6] 72)).alloc (.cells #[.int .i64 d0, .int .i64 d1, .int .i64 d2, .int .i64 d3, .int .i64 d4, .int .i64 d5, .int .i64 d6] 72)).heap.size = w2.heap.size + 2 := by simp
  have q1' := (Below.heap_alloc _ (.cells #[.int .i64 d0, .int .i64 d1, .int .i64 d2, .int .i64 d3, .int .i64 d4, .int .i64 d5, .int .i64 d6] 72) w2.heap.size (by simp)).trans q1
  have t3 := (Below.heap_alloc (w2.alloc (.cells #[.int .i64 a0, .int .i64 a1, .int .i64 a2, .int .i64 a3, .int .i64 a4, .int .i64 a5, .int .i64 a6] 72)) (.cells #[.int .i64 d0, .int .i64 d1, .int .i64 d2, .int .i64 d3, .int .i64 d4, .int .i64 d5, .int .i64 d6] 72) w1.heap.size (by simp; omega)).trans ((Below.heap_alloc w2 (.cells #[.int .i64 a0, .int .i64 a1, .int .i64 a2, .int .i64 a3, .int .i64 a4, .int .i64 a5, .int .i64 a6] 72) w1.heap.size hs2).trans t2)
  rw [World.size_alloc] at q2
  have hb3 := b_next (b_next hb2 (below_alloc w2 (.cells #[.int .i64 a0, .int .i64 a1, .int .i64 a2, .int .i64 a3, .int .i64 a4, .int .i64 a5, .int .i64 a6] 72))) (below_alloc _ (.cells #[.int .i64 d0, .int .i64 d1, .int .i64 d2, .int .i64 d3, .int .i64 d4, .int .i64 d5, .int .i64 d6] 72))
  generalize hX3 : (w2.alloc (.cells #[.int .i64 a0, .int .i64 a1, .int .i64 a2, .int .i64 a3, .int .i64 a4, .int .i64 a5, .int .i64 a6] 72)).alloc (.cells #[.int .i64 d0, .int .i64 d1, .int .i64 d2, .int .i64 d3, .int .i64 d4, .int .i64 d5, .int .i64 d6] 72) = X3 at q2 q1' t3 hb3 hz3
  have p1 : B7 X3 w2.heap.size [a0, a1, a2, a3, a4, a5, a6] := ⟨rfl, q1'⟩
  have p2 : B7 X3 (w2.heap.size + 1) [d0, d1, d2, d3, d4, d5, d6] := ⟨rfl, q2⟩
  clear t2 q1 q1' q2 c0 c1 c2 c3 c4 c5 c6 c7 hb2 b2 t1 hb1
  obtain ⟨c0, c1, c2, c3, c4, c5, c6, c7⟩ := at8_lit t3
  have HB3 := Lib.hid hb3
  have Hp1 := Lib.hid p1
  have Hp2 := Lib.hid p2
  have Ht3 := Lib.hid t3
  have hs := fun b w' => slice_prices b n hn7 w'
  have hs1 := fun w' => slice_prices w2.heap.size n hn7 w'
  have hs2' := fun w' => slice_prices (w2.heap.size + 1) n hn7 w'
  have hkeep : ∀ y, Below X3.heap.size X3 y → (y.cell? ⟨w1.heap.size, 0, none⟩ = some (.int .i64 m.a) ∧ y.cell? ⟨w1.heap.size, 1, none⟩ = some (.int .i64 m.b) ∧ y.cell? ⟨w1.heap.size, 2, none⟩ = some (.int .i64 m.c) ∧ y.cell? ⟨w1.heap.size, 3, none⟩ = some (.int .i64 m.d) ∧ y.cell? ⟨w1.heap.size, 4, none⟩ = some (.int .i64 m.e) ∧ y.cell? ⟨w1.heap.size, 5, none⟩ = some (.int .i64 m.f) ∧ y.cell? ⟨w1.heap.size, 6, none⟩ = some (.int .i64 m.g) ∧ y.cell? ⟨w1.heap.size, 7, none⟩ = some (.int .i64 m.t)) := fun y hy => at8_lit ((hy.block _ (by omega)).trans Ht3.out)
  have HK := Lib.hid hkeep
  clear hkeep p1 p2 t3 hb3 hs
  go_wp2_with fail
  go_region_held3 (fun w' => w'.cell? ⟨w1.heap.size, 0, none⟩ = some (.int .i64 m.a) ∧ w'.cell? ⟨w1.heap.size, 1, none⟩ = some (.int .i64 m.b) ∧ w'.cell? ⟨w1.heap.size, 2, none⟩ = some (.int .i64 m.c) ∧ w'.cell? ⟨w1.heap.size, 3, none⟩ = some (.int .i64 m.d) ∧ w'.cell? ⟨w1.heap.size, 4, none⟩ = some (.int .i64 m.e) ∧ w'.cell? ⟨w1.heap.size, 5, none⟩ = some (.int .i64 m.f) ∧ w'.cell? ⟨w1.heap.size, 6, none⟩ = some (.int .i64 m.g) ∧ w'.cell? ⟨w1.heap.size, 7, none⟩ = some (.int .i64 m.t))
    (first | exact ⟨c0, c1, c2, c3, c4, c5, c6, c7⟩ | exact HC1.out | exact HC2.out | exact HC3.out)
    (first
      | (go_at_call 56; refine (HL.out _).mono ?_; rintro e y1 ⟨v1, rfl, o1, z1⟩; have zz := undrew1 z1; have HZ1 := Lib.hid zz; have HO1 := Lib.hid o1; have HC1 := Lib.hid (HK.out y1 zz))
      | (go_at_call 57; refine (clone7 _ w2.heap.size n _ hn7 (Hp1.out.below HZ1.out)).mono ?_; rintro e y2 ⟨v2, rfl, o2, z2⟩; have zz2 := b_next HZ1.out z2; have HZ2 := Lib.hid zz2; have Hz2 := Lib.hid z2; have HO2 := Lib.hid o2; have HC2 := Lib.hid (HK.out y2 zz2))
      | (go_at_call 57; refine (clone7 _ (w2.heap.size + 1) n _ hn7 (Hp2.out.below HZ2.out)).mono ?_; rintro e y3 ⟨v3, rfl, o3, z3⟩; have HC3 := Lib.hid (HK.out y3 (b_next HZ2.out z3))))
  have hw3 := HB3.out.size
  have hw4 := HZ1.out.size
  have hw5 := HZ2.out.size
  have hw6 := z3.size
  have r1 := own_base (own_gr (own_gr HO1.out Hz2.out) z3) (show w.heap.size ≤ X3.drew.heap.size from hw3)
  have r2 := own_base (own_gr HO2.out z3) (show w.heap.size ≤ y1.heap.size by omega)
  have r3 := own_base o3 (show w.heap.size ≤ y2.heap.size by omega)
  have rB := HB3.out.trans ((b_next HZ2.out z3).mono hw3)
  go_wp2_with fail
  all_goals first
    | exact bodyPost_ret (v := .tuple #[v1, v2, v3, .int .i64 0]) (by simp [results, Try.results17, go_sem]) rfl ⟨v1, v2, v3, rfl, r1, r2, r3, rB⟩
    | trace_state
end Go.Proofs.Ytambhhjbafefgaa

/- The reference's Proves. -/
namespace Go.Proofs.Ytambhhjbafefgaa
set_option linter.unusedVariables false
open Go.RowKit

/-- prices in range that leave no room -/
def pricesB (C : List (List Int)) (us vs : List Int) : Bool :=
  decide (us.length = C.length ∧ vs.length = C.length ∧ (∀ x ∈ us, -1000000 ≤ x ∧ x ≤ 1000000) ∧ (∀ x ∈ vs, -1000000 ≤ x ∧ x ≤ 1000000) ∧ ∀ i, i < C.length → ∀ j, j < C.length → us.getD i 0 + vs.getD j 0 ≤ cost C i j)
/-- prices that prove an assignment -/
def provesB (C : List (List Int)) (xs us vs : List Int) : Bool :=
  asgB xs C.length && pricesB C us vs && decide (us.sum + vs.sum = (wayP C xs C.length).t)

theorem sums_bound (us vs : List Int) (k : Nat) (hk : k ≤ us.length) (hk2 : k ≤ vs.length) (h1 : ∀ x ∈ us.take k, -1000000 ≤ x ∧ x ≤ 1000000) (h2 : ∀ x ∈ vs.take k, -1000000 ≤ x ∧ x ≤ 1000000) :
    -2000000 * (k : Int) ≤ (us.take k).sum + (vs.take k).sum ∧ (us.take k).sum + (vs.take k).sum ≤ 2000000 * (k : Int) := by
  have one : ∀ (l : List Int), (∀ x ∈ l, -1000000 ≤ x ∧ x ≤ 1000000) → -1000000 * (l.length : Int) ≤ l.sum ∧ l.sum ≤ 1000000 * (l.length : Int) := by
    intro l
    induction l with
    | nil => intro _; simp
    | cons a l ih =>
      intro h
      have := ih (fun x hx => h x (List.mem_cons_of_mem _ hx))
      have ha := h a List.mem_cons_self
      simp only [List.sum_cons, List.length_cons]
      omega
  have a := one _ h1
  have b := one _ h2
  rw [List.length_take, Nat.min_eq_left hk] at a
  rw [List.length_take, Nat.min_eq_left hk2] at b
  omega

set_option maxRecDepth 100000 in
set_option maxHeartbeats 4000000 in
theorem Proves_any (C : List (List Int)) (a a1 a2 a3 : Option Addr) (cap n m m2 m3 c1 c2 c3 : Nat) (xs us vs : List Int) (w : World) (hR : Rect C n) (hn : C.length = n) (h : Tbl w a C)
    (ha : Row w a1 m (intL xs)) (hu : Row w a2 m2 (intL us)) (hv : Row w a3 m3 (intL vs)) (hm : m ≤ 1000) (hm2 : m2 ≤ 1000) (hm3 : m3 ≤ 1000) :
    Calls Try.prog 23 #[.slice a n cap, .slice a1 m c1, .slice a2 m2 c2, .slice a3 m3 c3] w fun e w' => e = .returned (.bool (provesB C xs us vs)) ∧ ∃ q, w' = w.drewN q := by
  have hl1 : xs.length = m := by have := ha.1; simpa [intL] using this
  have hl2 : us.length = m2 := by have := hu.1; simpa [intL] using this
  have hl3 : vs.length = m3 := by have := hv.1; simpa [intL] using this
  have hn7 := hR.m7
  have hA := fun w' h => refAssignment_any a1 m n c1 xs w' h hn7 hm
  have HA := Lib.hid hA
  have HC := Lib.hid h
  have Ha := Lib.hid ha
  have Hu := Lib.hid hu
  have Hv := Lib.hid hv
  have HR := Lib.hid hR
  have HN := Lib.hid hn
  have Hl1 := Lib.hid hl1
  have Hl2 := Lib.hid hl2
  have Hl3 := Lib.hid hl3
  clear hA h ha hu hv hR hn hl1 hl2 hl3
  by_cases hasg : asgB xs n = true
  · obtain ⟨hxl, hxr, _⟩ := of_decide_eq_true (show decide (xs.length = n ∧ (∀ x ∈ xs, 0 ≤ x ∧ x < n) ∧ xs.Nodup) = true from hasg)
    obtain rfl : n = m := by have := Hl1.out; omega
    have hT := fun w' h ha => refTotal_any C a a1 cap n c1 xs w' HR.out HN.out hxr h ha
    have HT := Lib.hid hT
    clear hT hxl hxr
    by_cases hu2 : n = m2
    · subst hu2
      by_cases hv3 : n = m3
      · subst hv3
        have hb1 : ∀ (k : Nat) (x : Int), us[k]? = some x → ¬ (-1000000 ≤ x ∧ x ≤ 1000000) → provesB C xs us vs = false := by
          intro k x hk hb
          unfold provesB pricesB
          rw [decide_eq_false (p := us.length = C.length ∧ _) (fun h => hb (h.2.2.1 x (List.mem_of_getElem? hk)))]
          simp
        have hb2 : ∀ (k : Nat) (x : Int), vs[k]? = some x → ¬ (-1000000 ≤ x ∧ x ≤ 1000000) → provesB C xs us vs = false := by
          intro k x hk hb
          unfold provesB pricesB
          rw [decide_eq_false (p := us.length = C.length ∧ _) (fun h => hb (h.2.2.2.1 x (List.mem_of_getElem? hk)))]
          simp
        have hb3 : ∀ (i j : Nat), i < n → j < n → ¬ (us.getD i 0 + vs.getD j 0 ≤ cost C i j) → provesB C xs us vs = false := by
          intro i j hi hj hb
          unfold provesB pricesB
          rw [decide_eq_false (p := us.length = C.length ∧ _) (fun h => hb (h.2.2.2.2 i (by have := HN.out; omega) j (by have := HN.out; omega)))]
          simp
        have hgood : (∀ x ∈ us, -1000000 ≤ x ∧ x ≤ 1000000) → (∀ x ∈ vs, -1000000 ≤ x ∧ x ≤ 1000000) → (∀ i, i < n → ∀ j, j < n → us.getD i 0 + vs.getD j 0 ≤ cost C i j) → provesB C xs us vs = decide (us.sum + vs.sum = (wayP C xs n).t) := by
          intro h1 h2 h3
          unfold provesB pricesB
          rw [HN.out, hasg, decide_eq_true (p := us.length = n ∧ _) ⟨Hl2.out, Hl3.out, h1, h2, h3⟩]
          simp
        have HB1 := Lib.hid hb1
        have HB2 := Lib.hid hb2
        have HB3 := Lib.hid hb3
        have HG := Lib.hid hgood
        clear hb1 hb2 hb3 hgood
        go_enter Try.func23, Try.ntmps23
        go_wp2_with (go_at_call 28; refine (HA.out _ Ha.out).mono ?_; rintro e w1 ⟨rfl, q0, rfl⟩; rw [hasg])
        go_loopw [10, 11] (fun t i wr => ∃ k q : Nat, k ≤ n ∧ t = .int .i64 ((us.take k).sum + (vs.take k).sum) ∧ i = .int .i64 k ∧ Hid ((∀ x ∈ us.take k, -1000000 ≤ x ∧ x ≤ 1000000) ∧ (∀ x ∈ vs.take k, -1000000 ≤ x ∧ x ≤ 1000000)) ∧ wr = w.drewN q) (fun _ i _ => n - (intOf i).toNat)
        case atStart => exact ⟨0, q0, Nat.zero_le _, rfl, rfl, by unfold Hid; simp, rfl⟩
        case round =>
          obtain ⟨k, q, hk, rfl, rfl, HP, rfl⟩ := hrel
          have hsb := sums_bound us vs k (by have := Hl2.out; omega) (by have := Hl3.out; omega) HP.out.1 HP.out.2
          by_cases hlt : k < n
          · have hc : (k : Int) < n := by omega
            obtain ⟨x, hx⟩ : ∃ x, us[k]? = some x := ⟨_, List.getElem?_eq_getElem (by have := Hl2.out; omega)⟩
            obtain ⟨y, hy⟩ : ∃ y, vs[k]? = some y := ⟨_, List.getElem?_eq_getElem (by have := Hl3.out; omega)⟩
            obtain ⟨g2, rfl, u2⟩ := Hu.out.int hlt
            obtain ⟨g3, rfl, u3⟩ := Hv.out.int hlt
            rw [List.getD_eq_getElem?_getD, hx] at u2
            rw [List.getD_eq_getElem?_getD, hy] at u3
            simp only [Option.getD_some] at u2 u3
            have f1 := HB1.out k x hx
            have f2 := HB2.out k y hy
            have hTu : us.take (k + 1) = us.take k ++ [x] := by rw [List.take_add_one, hx]; rfl
            have hTv : vs.take (k + 1) = vs.take k ++ [y] := by rw [List.take_add_one, hy]; rfl
            have F1 := Lib.hid f1
            have F2 := Lib.hid f2
            have HTu := Lib.hid hTu
            have HTv := Lib.hid hTv
            obtain ⟨s, hs⟩ : ∃ s, (us.take k).sum + (vs.take k).sum = s := ⟨_, rfl⟩
            have Hs := Lib.hid hs
            rw [hs] at hsb ⊢
            clear f1 f2 hTu hTv hx hy hs
            by_cases h1 : x < -1000000
            · go_wp2
              go_ret
              exact ⟨ret_bool (by rw [F1.out (by omega)]), _, rfl⟩
            · by_cases h2 : x > 1000000
              · go_wp2
                go_ret
                exact ⟨ret_bool (by rw [F1.out (by omega)]), _, rfl⟩
              · by_cases h3 : y < -1000000
                · go_wp2
                  go_ret
                  exact ⟨ret_bool (by rw [F2.out (by omega)]), _, rfl⟩
                · by_cases h4 : y > 1000000
                  · go_wp2
                    go_ret
                    exact ⟨ret_bool (by rw [F2.out (by omega)]), _, rfl⟩
                  · go_wp2
                    go_quiet (fail)
                    go_wp2
                    go_roundw
                    case rel => exact ⟨k + 1, _, by omega, by rw [HTu.out, HTv.out, ← Hs.out]; simp only [List.sum_append, List.sum_cons, List.sum_nil]; congr 1; omega, by go_num, by
                      unfold Hid; rw [HTu.out, HTv.out]
                      refine ⟨fun z hz => ?_, fun z hz => ?_⟩
                      · rcases List.mem_append.1 hz with h | h
                        · exact HP.out.1 z h
                        · rw [List.mem_singleton.1 h]; omega
                      · rcases List.mem_append.1 hz with h | h
                        · exact HP.out.2 z h
                        · rw [List.mem_singleton.1 h]; omega, rfl⟩
                    case measure => simp [intOf]; omega
          · obtain rfl : n = k := by omega
            have hc : ¬ (n : Int) < n := by omega
            rw [List.take_of_length_le (show us.length ≤ n by have := Hl2.out; omega), List.take_of_length_le (show vs.length ≤ n by have := Hl3.out; omega)] at hsb HP ⊢
            have hG := HG.out HP.out.1 HP.out.2
            have hgu : ∀ i, -1000000 ≤ us.getD i 0 ∧ us.getD i 0 ≤ 1000000 := fun i => by
              rw [List.getD_eq_getElem?_getD]
              cases hi : us[i]? with
              | none => exact ⟨by simp, by simp⟩
              | some x => exact HP.out.1 x (List.mem_of_getElem? hi)
            have hgv : ∀ i, -1000000 ≤ vs.getD i 0 ∧ vs.getD i 0 ≤ 1000000 := fun i => by
              rw [List.getD_eq_getElem?_getD]
              cases hi : vs[i]? with
              | none => exact ⟨by simp, by simp⟩
              | some x => exact HP.out.2 x (List.mem_of_getElem? hi)
            have HGu := Lib.hid hgu
            have HGv := Lib.hid hgv
            have HG2 := Lib.hid hG
            obtain ⟨s, hs⟩ : ∃ s, us.sum + vs.sum = s := ⟨_, rfl⟩
            rw [hs] at hsb HG2 ⊢
            clear hG hgu hgv hs
            go_wp2
            go_loopw [12, 13] (fun i _ wr => ∃ k q : Nat, k ≤ n ∧ i = .int .i64 k ∧ Hid (∀ i, i < k → ∀ j, j < n → us.getD i 0 + vs.getD j 0 ≤ cost C i j) ∧ wr = w.drewN q) (fun i _ _ => n - (intOf i).toNat)
            case atStart => exact ⟨0, q, Nat.zero_le _, rfl, by unfold Hid; intro i hi; omega, rfl⟩
            case round =>
              obtain ⟨k, q, hk, rfl, HQ, rfl⟩ := hrel
              by_cases hlt : k < n
              · have hc2 : (k : Int) < n := by omega
                go_wp2
                go_loopw [13] (fun i wr => ∃ j q : Nat, j ≤ n ∧ i = .int .i64 j ∧ Hid (∀ j', j' < j → us.getD k 0 + vs.getD j' 0 ≤ cost C k j') ∧ wr = w.drewN q) (fun i _ => n - (intOf i).toNat)
                case atStart => exact ⟨0, _, Nat.zero_le _, rfl, by unfold Hid; intro i hi; omega, rfl⟩
                case round =>
                  obtain ⟨j, q, hj, rfl, HJ, rfl⟩ := hrel
                  by_cases hlt2 : j < n
                  · have hc3 : (j : Int) < n := by omega
                    obtain ⟨g2, rfl, u2⟩ := Hu.out.int hlt
                    obtain ⟨g3, rfl, u3⟩ := Hv.out.int hlt2
                    obtain ⟨row, hrow⟩ : ∃ row, C[k]? = some row := ⟨_, List.getElem?_eq_getElem (by have := HN.out; omega)⟩
                    obtain ⟨g, ra, rc, rfl, hg, r1, _, R1⟩ := HC.out.row hrow
                    have hrl : row.length = n := HR.out.len row (List.mem_of_getElem? hrow)
                    rw [hrl] at r1 R1
                    obtain ⟨g4, rfl, r2⟩ := R1.int hlt2
                    have hcst : cost C k j = row.getD j 0 := by unfold cost; rw [List.getD_eq_getElem?_getD (l := C), hrow]; rfl
                    have f3 := HB3.out k j hlt hlt2
                    have b1 := HGu.out k
                    have b2 := HGv.out j
                    have hjj := HJ.out
                    rw [hcst] at f3
                    have hnext : us.getD k 0 + vs.getD j 0 ≤ row.getD j 0 → ∀ j', j' < j + 1 → us.getD k 0 + vs.getD j' 0 ≤ cost C k j' := by
                      intro h j' hj'
                      rcases Nat.lt_succ_iff_lt_or_eq.1 hj' with h1 | rfl
                      · exact hjj j' h1
                      · rw [hcst]; exact h
                    clear hjj
                    obtain ⟨x, hx⟩ : ∃ x, us.getD k 0 = x := ⟨_, rfl⟩
                    obtain ⟨y, hy⟩ : ∃ y, vs.getD j 0 = y := ⟨_, rfl⟩
                    obtain ⟨c, hcc⟩ : ∃ c, row.getD j 0 = c := ⟨_, rfl⟩
                    rw [hx, hy, hcc] at f3
                    have HNext : Hid (x + y ≤ c → ∀ j', j' < j + 1 → us.getD k 0 + vs.getD j' 0 ≤ cost C k j') := Lib.hid (fun h => hnext (by rw [hx, hy, hcc]; exact h))
                    clear hnext
                    rw [hx] at u2 b1
                    rw [hy] at u3 b2
                    rw [hcc] at r2
                    have F3 := Lib.hid f3
                    clear f3 hcst hrow hrl R1 hx hy hcc HJ hg
                    by_cases h1 : x + y > c
                    · go_wp2
                      go_quiet (fail)
                      go_wp2
                      go_ret
                      exact ⟨ret_bool (by rw [F3.out (by omega)]), _, World.drewN_drewN _ _ _⟩
                    · go_wp2
                      go_quiet (fail)
                      go_wp2
                      go_roundw
                      case rel => exact ⟨j + 1, _, by omega, by go_num, Lib.hid (HNext.out (by omega)), rfl⟩
                      case measure => simp [intOf]; omega
                  · obtain rfl : n = j := by omega
                    have hc3 : ¬ (n : Int) < n := by omega
                    have hnext : ∀ i, i < k + 1 → ∀ j, j < n → us.getD i 0 + vs.getD j 0 ≤ cost C i j := by
                      intro i hi j hj
                      rcases Nat.lt_succ_iff_lt_or_eq.1 hi with h1 | rfl
                      · exact HQ.out i h1 j hj
                      · exact HJ.out j hj
                    have HNext := Lib.hid hnext
                    clear hnext
                    go_wp2
                    go_roundw
                    case rel => exact ⟨k + 1, _, by omega, by go_num, HNext, rfl⟩
                    case measure => simp [intOf]; omega
              · obtain rfl : n = k := by omega
                have hc2 : ¬ (n : Int) < n := by omega
                have hres := HG2.out HQ.out
                have HRes := Lib.hid hres
                clear hres
                clear HQ HG2
                go_wp2_with (go_at_call 29; refine (HT.out _ (HC.out.drewN _) (Ha.out.drewN _)).mono ?_; rintro e w1 ⟨rfl, q2, rfl⟩)
                go_ret
                exact ⟨ret_bool (by rw [HRes.out, Bool.eq_iff_iff]; simp), _, rfl⟩
      · have hne : ¬ (m3 : Int) = n := by omega
        have hne2 : ((m3 : Int) != n) = true := by rw [bne_iff_ne]; exact hne
        have hres : provesB C xs us vs = false := by unfold provesB pricesB; rw [decide_eq_false (p := us.length = C.length ∧ _) (fun h => by have := h.2.1; have := HN.out; have := Hl3.out; omega)]; simp
        have HRes := Lib.hid hres
        clear hres
        go_enter Try.func23, Try.ntmps23
        go_wp2_with (go_at_call 28; refine (HA.out _ Ha.out).mono ?_; rintro e w1 ⟨rfl, q0, rfl⟩; rw [hasg])
        go_ret
        exact ⟨ret_bool (by rw [HRes.out]), _, rfl⟩
    · have hne : ¬ (m2 : Int) = n := by omega
      have hne2 : ((m2 : Int) != n) = true := by rw [bne_iff_ne]; exact hne
      have hres : provesB C xs us vs = false := by unfold provesB pricesB; rw [decide_eq_false (p := us.length = C.length ∧ _) (fun h => by have := h.1; have := HN.out; have := Hl2.out; omega)]; simp
      have HRes := Lib.hid hres
      clear hres
      go_enter Try.func23, Try.ntmps23
      go_wp2_with (go_at_call 28; refine (HA.out _ Ha.out).mono ?_; rintro e w1 ⟨rfl, q0, rfl⟩; rw [hasg])
      go_ret
      exact ⟨ret_bool (by rw [HRes.out]), _, rfl⟩
  · rw [Bool.not_eq_true] at hasg
    have hres : provesB C xs us vs = false := by unfold provesB; rw [HN.out, hasg]; rfl
    have HRes := Lib.hid hres
    clear hres
    go_enter Try.func23, Try.ntmps23
    go_wp2_with (go_at_call 28; refine (HA.out _ Ha.out).mono ?_; rintro e w1 ⟨rfl, q0, rfl⟩; rw [hasg])
    go_ret
    exact ⟨ret_bool (by rw [HRes.out]), _, rfl⟩
end Go.Proofs.Ytambhhjbafefgaa

/- arePrices. -/
namespace Go.Proofs.Ytambhhjbafefgaa
set_option linter.unusedVariables false
open Go.RowKit Go.Shelf
attribute [local go_sem] Oper.semAt_some

/-- what arePrices keeps: the boxes of its arguments and of its result -/
structure PriI (w : World) (g cap n gu c2 gv c3 : Nat) (r : Bool) (W : World) : Prop where
  below : Below w.heap.size w W
  b0 : W.heap[w.heap.size]? = some (.cells #[.slice (some ⟨g, 0, none⟩) n cap] 22 (0, 0))
  b1 : W.heap[w.heap.size + 1]? = some (.cells #[.slice (some ⟨gu, 0, none⟩) n c2] 24 (0, 0))
  b2 : W.heap[w.heap.size + 1 + 1]? = some (.cells #[.slice (some ⟨gv, 0, none⟩) n c3] 24 (0, 0))
  b3 : W.heap[w.heap.size + 1 + 1 + 1]? = some (.cells #[.bool r] 4 (0, 0))
theorem PriI.grown {w : World} {g cap n gu c2 gv c3 : Nat} {r : Bool} {W W' : World} {row : Option Nat} (h : PriI w g cap n gu c2 gv c3 r W) (hg : W.grownBy W' row) (hr : ∀ k, row = some k → w.heap.size + 4 ≤ k) : PriI w g cap n gu c2 gv c3 r W' := by
  have far : ∀ k, k < w.heap.size + 4 → ∀ o, W.heap[k]? = some o → W'.heap[k]? = some o := fun k hk o ho =>
    (hg.block k (Array.getElem?_eq_some_iff.1 ho).1 (fun e => by have := hr k e.symm; omega)).trans ho
  exact ⟨h.below.grown hg h.below.size (fun k e => by have := hr k e; omega), far _ (by omega) _ h.b0, far _ (by omega) _ h.b1, far _ (by omega) _ h.b2, far _ (by omega) _ h.b3⟩
theorem pri_leaves {w : World} {g cap n gu c2 gv c3 m : Nat} {r : Bool} {tmps : Array Value} {R : Ending → World → Prop} (h6 : tmps[6]? = some (.pointer (some ⟨w.heap.size + 1 + 1 + 1, 0, none⟩)))
    (Ds : List Nat) (X : World) (hM : Marks (w.heap.size + 4) Ds X) (hI : PriI w g cap n gu c2 gv c3 r X) (hR : ∀ Y, Below w.heap.size w Y → R (.returned (.bool r)) Y) :
    LeavesInM Fence.wide m Try.prog Try.f60 tmps R (Ds.map markD) .returning X := by
  refine leaves_marks (by simp) (n₀ := w.heap.size + 4) (Φ := fun Y => PriI w g cap n gu c2 gv c3 r Y) ?_ ?_ Ds X hM hI
  · rintro Y D' y1 hD' hd
    exact y1.grown (grownBy_putObj' Y D' _) (fun q e => by cases e; omega)
  · rintro Y y1
    have c : Y.cell? ⟨w.heap.size + 1 + 1 + 1, 0, none⟩ = some (.bool r) := by simp [World.cell?, y1.b3]
    refine ⟨.bool r, ?_, hR Y y1.below⟩
    simp [results, Try.f60, go_sem, h6, c]
theorem PriI.put {w : World} {g cap n gu c2 gv c3 : Nat} {r : Bool} {W : World} (h : PriI w g cap n gu c2 gv c3 r W) (q : Bool) : PriI w g cap n gu c2 gv c3 q (W.setCell ⟨w.heap.size + 1 + 1 + 1, 0, none⟩ (.bool q)) := by
  have hgs := grownBy_set W (w.heap.size + 1 + 1 + 1) 0 (.bool q)
  refine ⟨h.below.grown hgs h.below.size (fun k e => by have := Option.some.inj e; omega), ?_, ?_, ?_, ?_⟩
  · exact (Below.heap_setCell _ _ _ _ (by show w.heap.size ≠ w.heap.size + 1 + 1 + 1; omega)).trans h.b0
  · exact (Below.heap_setCell _ _ _ _ (by show w.heap.size + 1 ≠ w.heap.size + 1 + 1 + 1; omega)).trans h.b1
  · exact (Below.heap_setCell _ _ _ _ (by show w.heap.size + 1 + 1 ≠ w.heap.size + 1 + 1 + 1; omega)).trans h.b2
  · exact block_set (X := W) (o := 0) (.bool q) h.b3

/-- no pair of a list leaves no room -/
def PrOk (C : List (List Int)) (us vs : List Int) {n : Nat} (pre : List (Pr n)) : Prop := ∀ p, p ∈ pre → us.getD p.1.1 0 + vs.getD p.1.2 0 ≤ cost C p.1.1 p.1.2
theorem pri_short {w X : World} (hB : Below w.heap.size w X) (hk : X.heap[w.heap.size + 1 + 1 + 1]? = some (.cells #[.bool false] 4 (0, 0))) :
    (X.setCell ⟨w.heap.size + 1 + 1 + 1, 0, none⟩ (.bool false)).cell? ⟨w.heap.size + 1 + 1 + 1, 0, none⟩ = some (.bool false) ∧ Below w.heap.size w (X.setCell ⟨w.heap.size + 1 + 1 + 1, 0, none⟩ (.bool false)) := by
  have hgs := grownBy_set X (w.heap.size + 1 + 1 + 1) 0 (.bool false)
  have c := block_set (X := X) (o := 0) (.bool false) hk
  exact ⟨by simp [World.cell?, c], hB.grown hgs hB.size (fun k e => by have := Option.some.inj e; omega)⟩
theorem getD_within {xs : List Int} (h : withinB 1000000 xs = true) (i : Nat) : -1000000 ≤ xs.getD i 0 ∧ xs.getD i 0 ≤ 1000000 := by
  unfold withinB at h
  rw [decide_eq_true_eq] at h
  rw [List.getD_eq_getElem?_getD]
  cases hi : xs[i]? with
  | none => exact ⟨by simp, by simp⟩
  | some x => exact h x (List.mem_of_getElem? hi)
theorem allPairs_mem {n i j : Nat} (hi : i < n) (hj : j < n) : (⟨(i, j), hi, hj⟩ : Pr n) ∈ allPairs n := by
  unfold allPairs pairsTo
  rw [List.mem_filterMap]
  have h1 : (i * n + j) / n = i := by rw [Nat.add_comm, Nat.add_mul_div_right _ _ (by omega), Nat.div_eq_of_lt hj]; omega
  have h2 : (i * n + j) % n = j := by rw [Nat.add_comm, Nat.add_mul_mod_self_right]; exact Nat.mod_eq_of_lt hj
  refine ⟨i * n + j, List.mem_range.2 ?_, ?_⟩
  · have : (i + 1) * n ≤ n * n := Nat.mul_le_mul_right n hi
    rw [Nat.add_mul, Nat.one_mul] at this; omega
  · simp only [h1, h2]; rw [dif_pos ⟨hi, hj⟩]

set_option maxRecDepth 100000 in
set_option maxHeartbeats 4000000 in
theorem arePrices_any (C : List (List Int)) (a a2 a3 : Option Addr) (cap m2 m3 c2 c3 : Nat) (us vs : List Int) (w : World) (hcC : costsB C = true) (h : Tbl w a C) (hu : Row w a2 m2 (intL us)) (hv : Row w a3 m3 (intL vs)) (hm2 : m2 ≤ 1000) (hm3 : m3 ≤ 1000) :
    Calls Try.prog 60 #[.slice a C.length cap, .slice a2 m2 c2, .slice a3 m3 c3] w fun e w' => e = .returned (.bool (pricesB C us vs)) ∧ Below w.heap.size w w' := by
  refine (callsIn_wide (n := 6)).1 ?_
  obtain ⟨hR, hp⟩ := Rect.of_costs hcC
  obtain ⟨g, ra, rc, rfl, hF⟩ := TblF.of h hp
  have hn7 := hR.n7
  have hl2 : us.length = m2 := by have := hu.1; simpa [intL] using this
  have hl3 : vs.length = m3 := by have := hv.1; simpa [intL] using this
  have HR := Lib.hid hR
  have HF := Lib.hid hF
  have Hu := Lib.hid hu
  have Hv := Lib.hid hv
  have Hl2 := Lib.hid hl2
  have Hl3 := Lib.hid hl3
  clear h hR hF hcC hu hv hl2 hl3
  obtain ⟨n, hn⟩ : ∃ n, C.length = n := ⟨_, rfl⟩
  have Hn := Lib.hid hn
  rw [hn] at hn7 hp ⊢
  refine callsIn_of_wp_marks Try.func60 rfl trivial ?_ rfl
  simp only [Try.ntmps60, List.size_toArray, List.length_cons, List.length_nil, Nat.reduceAdd, Nat.reduceSub, Array.replicate_succ, Array.replicate_zero, List.push_toArray, List.append_toArray, List.nil_append, List.cons_append]
  generalize hX0 : ((((w.alloc (.cells #[.slice (some ⟨g, 0, none⟩) n cap] 22)).alloc (.cells #[.slice a2 m2 c2] 24)).alloc (.cells #[.slice a3 m3 c3] 24)).alloc (.cells #[.bool false] 4)) = X0
  have hB0 : Below w.heap.size w X0 := by rw [← hX0]; exact b_next (b_next (b_next (below_alloc _ _) (below_alloc _ _)) (below_alloc _ _)) (below_alloc _ _)
  have k0 : X0.heap[w.heap.size]? = some (.cells #[.slice (some ⟨g, 0, none⟩) n cap] 22 (0, 0)) := by
    rw [← hX0]
    exact (Below.heap_alloc _ _ _ (by simp only [World.size_alloc]; omega)).trans ((Below.heap_alloc _ _ _ (by simp only [World.size_alloc]; omega)).trans ((Below.heap_alloc _ _ _ (by simp only [World.size_alloc]; omega)).trans (World.alloc_heap_new _ _)))
  have k1 : X0.heap[w.heap.size + 1]? = some (.cells #[.slice a2 m2 c2] 24 (0, 0)) := by
    rw [← hX0]
    have h := World.alloc_heap_new (w.alloc (.cells #[.slice (some ⟨g, 0, none⟩) n cap] 22)) (.cells #[.slice a2 m2 c2] 24)
    rw [World.size_alloc] at h
    exact (Below.heap_alloc _ _ _ (by simp only [World.size_alloc]; omega)).trans ((Below.heap_alloc _ _ _ (by simp only [World.size_alloc]; omega)).trans h)
  have k2 : X0.heap[w.heap.size + 1 + 1]? = some (.cells #[.slice a3 m3 c3] 24 (0, 0)) := by
    rw [← hX0]
    have h := World.alloc_heap_new ((w.alloc (.cells #[.slice (some ⟨g, 0, none⟩) n cap] 22)).alloc (.cells #[.slice a2 m2 c2] 24)) (.cells #[.slice a3 m3 c3] 24)
    rw [World.size_alloc, World.size_alloc] at h
    exact (Below.heap_alloc _ _ _ (by simp only [World.size_alloc]; omega)).trans h
  have k3 : X0.heap[w.heap.size + 1 + 1 + 1]? = some (.cells #[.bool false] 4 (0, 0)) := by
    rw [← hX0]
    have h := World.alloc_heap_new (((w.alloc (.cells #[.slice (some ⟨g, 0, none⟩) n cap] 22)).alloc (.cells #[.slice a2 m2 c2] 24)).alloc (.cells #[.slice a3 m3 c3] 24)) (.cells #[.bool false] 4)
    rw [World.size_alloc, World.size_alloc, World.size_alloc] at h
    exact h
  have hs0 : X0.heap.size = w.heap.size + 4 := by rw [← hX0]; simp
  by_cases hu2 : n = m2
  · subst hu2
    obtain ⟨gu, rfl, _⟩ := Hu.out.int hp
    by_cases hv3 : n = m3
    · subst hv3
      obtain ⟨gv, rfl, _⟩ := Hv.out.int hp
      have hI0 : PriI w g cap n gu c2 gv c3 false X0 := ⟨hB0, k0, k1, k2, k3⟩
      clear hB0 k0 k1 k2 k3
      have hwu := areWithin_any (some ⟨gu, 0, none⟩) n c2 us 1000000 X0 (Hu.out.below hI0.below) hp (by omega) (by omega) (by omega)
      have hwv := areWithin_any (some ⟨gv, 0, none⟩) n c3 vs 1000000 X0 (Hv.out.below hI0.below) hp (by omega) (by omega) (by omega)
      have s0 : X0.cell? ⟨w.heap.size, 0, none⟩ = some (.slice (some ⟨g, 0, none⟩) n cap) := by simp [World.cell?, hI0.b0]
      have s1 : X0.cell? ⟨w.heap.size + 1, 0, none⟩ = some (.slice (some ⟨gu, 0, none⟩) n c2) := by simp [World.cell?, hI0.b1]
      have s2 : X0.cell? ⟨w.heap.size + 1 + 1, 0, none⟩ = some (.slice (some ⟨gv, 0, none⟩) n c3) := by simp [World.cell?, hI0.b2]
      have s3 : X0.cell? ⟨w.heap.size + 1 + 1 + 1, 0, none⟩ = some (.bool false) := by simp [World.cell?, hI0.b3]
      have f3 : X0.frozen? ⟨w.heap.size + 1 + 1 + 1, 0, none⟩ = false := by simp [World.frozen?, hI0.b3]
      have HI0 := Lib.hid hI0
      have HWu := Lib.hid hwu
      have HWv := Lib.hid hwv
      clear hI0 hwu hwv hn
      have hbad : (withinB 1000000 us = false ∨ withinB 1000000 vs = false) → pricesB C us vs = false := by
        intro h
        unfold pricesB
        rw [decide_eq_false]
        intro k
        rcases h with h | h
        · exact absurd (show withinB 1000000 us = true by unfold withinB; rw [decide_eq_true_eq]; exact k.2.2.1) (by rw [h]; decide)
        · exact absurd (show withinB 1000000 vs = true by unfold withinB; rw [decide_eq_true_eq]; exact k.2.2.2.1) (by rw [h]; decide)
      have HBad := Lib.hid hbad
      clear hbad
      gi_wp2_with fail
      refine ⟨trivial, ?_⟩
      refine (callsIn_wide.2 HWu.out).mono ?_
      rintro e w' ⟨rfl, rfl⟩
      cases hb1 : withinB 1000000 us with
      | false =>
        have hpr := HBad.out (.inl hb1)
        have HPr := Lib.hid hpr
        clear hpr
        gi_wp2_with fail
        refine ⟨trivial, ?_⟩
        gi_wp2_with fail
        exact pri_leaves rfl [] _ ⟨List.nodup_nil, fun _ h => (by cases h)⟩ (HI0.out.put false) (fun Y hY => ⟨ret_bool (by rw [HPr.out]), hY⟩)
      | true =>
        gi_wp2_with fail
        refine ⟨trivial, ?_⟩
        refine (callsIn_wide.2 HWv.out).mono ?_
        rintro e w' ⟨rfl, rfl⟩
        cases hb2 : withinB 1000000 vs with
        | false =>
          have hpr := HBad.out (.inr hb2)
          have HPr := Lib.hid hpr
          clear hpr
          gi_wp2_with fail
          exact pri_leaves rfl [] _ ⟨List.nodup_nil, fun _ h => (by cases h)⟩ (HI0.out.put false) (fun Y hY => ⟨ret_bool (by rw [HPr.out]), hY⟩)
        | true =>
          gi_wp2_with fail
          refine ⟨trivial, ?_⟩
          refine (pairs_in _ _ _).mono ?_
          rintro e w' ⟨rfl, rfl⟩
          gi_wp2_with fail
          have hbu : ∀ i, -1000000 ≤ us.getD i 0 ∧ us.getD i 0 ≤ 1000000 := getD_within hb1
          have hbv : ∀ i, -1000000 ≤ vs.getD i 0 ∧ vs.getD i 0 ≤ 1000000 := getD_within hb2
          have hgood : (∀ i j, i < n → j < n → us.getD i 0 + vs.getD j 0 ≤ cost C i j) → pricesB C us vs = true := by
            intro h
            unfold pricesB
            rw [decide_eq_true_eq, Hn.out]
            unfold withinB at hb1 hb2
            rw [decide_eq_true_eq] at hb1 hb2
            exact ⟨Hl2.out, Hl3.out, hb1, hb2, fun i hi j hj => h i j hi hj⟩
          have hbad : ∀ i j, i < n → j < n → us.getD i 0 + vs.getD j 0 > cost C i j → pricesB C us vs = false := by
            intro i j hi hj h
            unfold pricesB
            rw [decide_eq_false, ]
            intro k
            have := k.2.2.2.2 i (by rw [Hn.out]; exact hi) j (by rw [Hn.out]; exact hj)
            omega
          have HGood := Lib.hid hgood
          have HBad2 := Lib.hid hbad
          have Hbu := Lib.hid hbu
          have Hbv := Lib.hid hbv
          have hgr := World.grownBy_alloc X0 (.cells #[.int .i64 (n : Int)] 3) none
          have hbe := World.alloc_heap_new X0 (.cells #[.int .i64 (n : Int)] 3)
          rw [hs0] at hbe
          have hI1 := HI0.out.grown hgr (fun r e => by cases e)
          have hz1 : (X0.alloc (.cells #[.int .i64 (n : Int)] 3)).heap.size = w.heap.size + 5 := by simp [hs0]
          clear hgood hbad hbu hbv hgr s0 s1 s2 s3 f3 hX0
          generalize X0.alloc (.cells #[.int .i64 (n : Int)] 3) = W1 at hbe hI1 hz1
          refine range_visits_box (α := Pr n) rfl (by omega) (gf := 102) (lb := #[.pointer (some ⟨w.heap.size + 4, 0, none⟩)]) rfl trivial (enters_of Try.func102 (by kernel_rfl) rfl)
            (encs := fun x : Pr n => #[Value.agg #[.int .i64 x.1.1, .int .i64 x.1.2]]) (T := w.heap.size + 4) (S := fun ys => ys = allPairs n) (Sp := fun pre => pre <+: allPairs n) (N := n * n) (by omega)
            (fun W hW => pairs_visits _ (by omega) n hn7 (w.heap.size + 4) (w.heap.size + 4) (Nat.le_refl _) W ((hW.block _ (by omega) (by simp)).trans hbe)) (fun _ => rfl)
            (fun pre X => PriI w g cap n gu c2 gv c3 false X ∧ PrOk C us vs pre) (fun c pre X => c = .ret ∧ PriI w g cap n gu c2 gv c3 false X ∧ pricesB C us vs = false)
            (fun s A B row ⟨h1, h2⟩ hg hr => ⟨h1.grown hg (fun r e => by have := hr r e; omega), h2⟩)
            (fun c s A B row ⟨h0, h1, h2⟩ hg hr => ⟨h0, h1.grown hg (fun r e => by have := hr r e; omega), h2⟩) ⟨hI1, fun p hp => (by cases hp)⟩
            (fun p => .cells #[.int .i64 p.1.1, .int .i64 p.1.2] 80)
            (fun p B => { tmps := #[.slice (some ⟨g, 0, none⟩) n cap, .slice (some ⟨gu, 0, none⟩) n c2, .slice (some ⟨gv, 0, none⟩) n c3, .pointer (some ⟨w.heap.size, 0, none⟩), .pointer (some ⟨w.heap.size + 1, 0, none⟩), .pointer (some ⟨w.heap.size + 1 + 1, 0, none⟩), .pointer (some ⟨w.heap.size + 1 + 1 + 1, 0, none⟩), .int .i64 (n : Int), .pointer (some ⟨B, 0, none⟩), .slice (some ⟨g, 0, none⟩) n cap, .int .i64 (n : Int), .slice (some ⟨gu, 0, none⟩) n c2, .int .i64 (n : Int), .int .i64 (n : Int), .bool false, .bool false, .slice (some ⟨gv, 0, none⟩) n c3, .int .i64 (n : Int), .int .i64 (n : Int), .bool false, .bool false, .bool false, .slice (some ⟨gu, 0, none⟩) n c2, .bool true, .bool false, .bool false, .bool false, .slice (some ⟨gv, 0, none⟩) n c3, .bool true, .bool false, .bool false, .int .i64 (n : Int), .func (.func 102) #[] #[.pointer (some ⟨w.heap.size + 4, 0, none⟩)], .agg #[.int .i64 p.1.1, .int .i64 p.1.2], undef, undef, undef, undef, undef, undef, undef, undef, undef, undef, undef, undef, undef, undef, undef, undef, undef, undef, undef, undef, undef], defers := [] }) ?assign ?body ?done ?stop
          case assign =>
            intro l p W K hK
            gi_wp2
            exact hK
          case body =>
            rintro l pre p B W ⟨hI, hall⟩ hbx hB2 hlen
            obtain ⟨⟨i, j⟩, hi, hj⟩ := p
            simp only at hi hj hbx
            have hbi := Hbu.out i
            have hbj := Hbv.out j
            have hbd := HBad2.out i j hi hj
            have hu2 := (Hu.out.below hI.below).int hi
            have hv2 := (Hv.out.below hI.below).int hj
            obtain ⟨gu', eu, cu⟩ := hu2
            obtain ⟨gv', ev, cv⟩ := hv2
            obtain rfl : gu = gu' := by injection eu with e; injection e
            obtain rfl : gv = gv' := by injection ev with e; injection e
            obtain ⟨row, hrow⟩ : ∃ row, C[i]? = some row := ⟨_, List.getElem?_eq_getElem (by rw [Hn.out]; exact hi)⟩
            have hrl := HR.out.len row (List.mem_of_getElem? hrow)
            rw [Hn.out] at hrl
            have hTF := HF.out.below hI.below
            obtain ⟨tc1, tc2, tc3⟩ := hTF.2 i row hrow
            rw [hrl] at tc1 tc2 tc3
            have htg := hTF.1
            obtain ⟨g2, hra, cj⟩ := tc3.int hj
            rw [hra] at tc1
            have ej : row.getD j 0 = cost C i j := by unfold cost; rw [List.getD_eq_getElem?_getD (l := C), hrow]; rfl
            rw [ej] at cj
            have hnx : us.getD i 0 + vs.getD j 0 ≤ cost C i j → PrOk C us vs (pre ++ [(⟨(i, j), hi, hj⟩ : Pr n)]) := by
              intro h p hp
              rcases List.mem_append.1 hp with h1 | h1
              · exact hall p h1
              · rw [List.mem_singleton.1 h1]; exact h
            obtain ⟨x, hx⟩ : ∃ z, us.getD i 0 = z := ⟨_, rfl⟩
            obtain ⟨y, hy⟩ : ∃ z, vs.getD j 0 = z := ⟨_, rfl⟩
            obtain ⟨cij, hcij⟩ : ∃ z, cost C i j = z := ⟨_, rfl⟩
            rw [hx] at hbi hbd cu hnx
            rw [hy] at hbj hbd cv hnx
            rw [hcij] at hbd cj hnx
            have i1 : IntKind.i64.wrap (x + y) = x + y := IntWalk.i64_in _ (by omega)
            have s0 : W.cell? ⟨w.heap.size, 0, none⟩ = some (.slice (some ⟨g, 0, none⟩) n cap) := by simp [World.cell?, hI.b0]
            have s1 : W.cell? ⟨w.heap.size + 1, 0, none⟩ = some (.slice (some ⟨gu, 0, none⟩) n c2) := by simp [World.cell?, hI.b1]
            have s2 : W.cell? ⟨w.heap.size + 1 + 1, 0, none⟩ = some (.slice (some ⟨gv, 0, none⟩) n c3) := by simp [World.cell?, hI.b2]
            have s3 : W.cell? ⟨w.heap.size + 1 + 1 + 1, 0, none⟩ = some (.bool false) := by simp [World.cell?, hI.b3]
            have f3 : W.frozen? ⟨w.heap.size + 1 + 1 + 1, 0, none⟩ = false := by simp [World.frozen?, hI.b3]
            have sp0 : W.cell? ⟨B, 0, none⟩ = some (.int .i64 i) := by simp [World.cell?, hbx]
            have sp1 : W.cell? ⟨B, 1, none⟩ = some (.int .i64 j) := by simp [World.cell?, hbx]
            have l1 : (i : Int) < n := by omega
            have l2 : (j : Int) < n := by omega
            have HI2 := Lib.hid hI
            have HNx := Lib.hid hnx
            have HBd := Lib.hid hbd
            clear hI hall hbi hbj hbd hnx hrow hrl hTF tc2 tc3 hra ej hx hy hcij hbx hI1 hbe eu ev
            have hmx : Try.prog.follows .mixedOrders = true := by kernel_rfl
            gi_wp2_with fail
            refine region_inv' hmx (fun L a X => ∃ b0 b1 b2 b3 b4 b5 b6 b7 b8 b9 b10 b11 b12 b13 b14 b15 b16 b17 b18 b19 b20 : Bool, L = #[b0, b1, b2, b3, b4, b5, b6, b7, b8, b9, b10, b11, b12, b13, b14, b15, b16, b17, b18, b19, b20] ∧ a = { tmps := #[.slice (some ⟨g, 0, none⟩) n cap, .slice (some ⟨gu, 0, none⟩) n c2, .slice (some ⟨gv, 0, none⟩) n c3, .pointer (some ⟨w.heap.size, 0, none⟩), .pointer (some ⟨w.heap.size + 1, 0, none⟩), .pointer (some ⟨w.heap.size + 1 + 1, 0, none⟩), .pointer (some ⟨w.heap.size + 1 + 1 + 1, 0, none⟩), .int .i64 (n : Int), .pointer (some ⟨B, 0, none⟩), .slice (some ⟨g, 0, none⟩) n cap, .int .i64 (n : Int), .slice (some ⟨gu, 0, none⟩) n c2, .int .i64 (n : Int), .int .i64 (n : Int), .bool false, .bool false, .slice (some ⟨gv, 0, none⟩) n c3, .int .i64 (n : Int), .int .i64 (n : Int), .bool false, .bool false, .bool false, .slice (some ⟨gu, 0, none⟩) n c2, .bool true, .bool false, .bool false, .bool false, .slice (some ⟨gv, 0, none⟩) n c3, .bool true, .bool false, .bool false, .int .i64 (n : Int), .func (.func 102) #[] #[.pointer (some ⟨w.heap.size + 4, 0, none⟩)], .agg #[.int .i64 (i : Int), .int .i64 (j : Int)], pk b0 (.slice (some ⟨gu, 0, none⟩) n c2) (undef), pk b1 (.pointer (some ⟨B, 0, none⟩)) (undef), pk b2 (.int .i64 (i : Int)) (undef), pk b3 (.pointer (some ⟨gu, i, none⟩)) (undef), pk b4 (.int .i64 x) (undef), pk b5 (.slice (some ⟨gv, 0, none⟩) n c3) (undef), pk b6 (.pointer (some ⟨B, 1, none⟩)) (undef), pk b7 (.int .i64 (j : Int)) (undef), pk b8 (.pointer (some ⟨gv, j, none⟩)) (undef), pk b9 (.int .i64 y) (undef), pk b10 (.int .i64 (x + y)) (undef), pk b11 (.slice (some ⟨g, 0, none⟩) n cap) (undef), pk b12 (.pointer (some ⟨B, 0, none⟩)) (undef), pk b13 (.int .i64 (i : Int)) (undef), pk b14 (.pointer (some ⟨g, i, none⟩)) (undef), pk b15 (.slice (some ⟨g2, 0, none⟩) n (rc i)) (undef), pk b16 (.pointer (some ⟨B, 1, none⟩)) (undef), pk b17 (.int .i64 (j : Int)) (undef), pk b18 (.pointer (some ⟨g2, j, none⟩)) (undef), pk b19 (.int .i64 cij) (undef), pk b20 (.bool (decide (x + y > cij))) (undef)], defers := [] } ∧ X = W.drew ∧ True) { tmps := #[.slice (some ⟨g, 0, none⟩) n cap, .slice (some ⟨gu, 0, none⟩) n c2, .slice (some ⟨gv, 0, none⟩) n c3, .pointer (some ⟨w.heap.size, 0, none⟩), .pointer (some ⟨w.heap.size + 1, 0, none⟩), .pointer (some ⟨w.heap.size + 1 + 1, 0, none⟩), .pointer (some ⟨w.heap.size + 1 + 1 + 1, 0, none⟩), .int .i64 (n : Int), .pointer (some ⟨B, 0, none⟩), .slice (some ⟨g, 0, none⟩) n cap, .int .i64 (n : Int), .slice (some ⟨gu, 0, none⟩) n c2, .int .i64 (n : Int), .int .i64 (n : Int), .bool false, .bool false, .slice (some ⟨gv, 0, none⟩) n c3, .int .i64 (n : Int), .int .i64 (n : Int), .bool false, .bool false, .bool false, .slice (some ⟨gu, 0, none⟩) n c2, .bool true, .bool false, .bool false, .bool false, .slice (some ⟨gv, 0, none⟩) n c3, .bool true, .bool false, .bool false, .int .i64 (n : Int), .func (.func 102) #[] #[.pointer (some ⟨w.heap.size + 4, 0, none⟩)], .agg #[.int .i64 (i : Int), .int .i64 (j : Int)], .slice (some ⟨gu, 0, none⟩) n c2, .pointer (some ⟨B, 0, none⟩), .int .i64 (i : Int), .pointer (some ⟨gu, i, none⟩), .int .i64 x, .slice (some ⟨gv, 0, none⟩) n c3, .pointer (some ⟨B, 1, none⟩), .int .i64 (j : Int), .pointer (some ⟨gv, j, none⟩), .int .i64 y, .int .i64 (x + y), .slice (some ⟨g, 0, none⟩) n cap, .pointer (some ⟨B, 0, none⟩), .int .i64 (i : Int), .pointer (some ⟨g, i, none⟩), .slice (some ⟨g2, 0, none⟩) n (rc i), .pointer (some ⟨B, 1, none⟩), .int .i64 (j : Int), .pointer (some ⟨g2, j, none⟩), .int .i64 cij, .bool (decide (x + y > cij))], defers := [] } W.drew ?h0 ?hstep ?hdone ?hfin
            case h0 => exact ⟨false, false, false, false, false, false, false, false, false, false, false, false, false, false, false, false, false, false, false, false, false, rfl, rfl, rfl, trivial⟩
            case hstep =>
              rintro Q L a X ⟨b0, b1, b2, b3, b4, b5, b6, b7, b8, b9, b10, b11, b12, b13, b14, b15, b16, b17, b18, b19, b20, rfl, rfl, rfl, _⟩ i hi
              obtain ⟨hun, o, ho, hdeps⟩ := mem_ready.1 hi
              clear hi
              have hi : i < 21 := (Array.getElem?_eq_some_iff.1 ho).1
              have hor : i = 0 ∨ i = 1 ∨ i = 2 ∨ i = 3 ∨ i = 4 ∨ i = 5 ∨ i = 6 ∨ i = 7 ∨ i = 8 ∨ i = 9 ∨ i = 10 ∨ i = 11 ∨ i = 12 ∨ i = 13 ∨ i = 14 ∨ i = 15 ∨ i = 16 ∨ i = 17 ∨ i = 18 ∨ i = 19 ∨ i = 20 := by omega
              clear hi
              rcases hor with rfl | rfl | rfl | rfl | rfl | rfl | rfl | rfl | rfl | rfl | rfl | rfl | rfl | rfl | rfl | rfl | rfl | rfl | rfl | rfl | rfl
              · have hb : b0 = false := hun
                cases ho
                clear hun hdeps
                subst hb
                all_goals dsimp only
                refine wpOpIn_step rfl (fun K' hK => ?_)
                all_goals go_simp
                all_goals exact hK _ _ ⟨true, b1, b2, b3, b4, b5, b6, b7, b8, b9, b10, b11, b12, b13, b14, b15, b16, b17, b18, b19, b20, rfl, rfl, rfl, trivial⟩
              · have hb : b1 = false := hun
                cases ho
                clear hun hdeps
                subst hb
                all_goals dsimp only
                refine wpOpIn_step rfl (fun K' hK => ?_)
                all_goals go_simp
                all_goals exact hK _ _ ⟨b0, true, b2, b3, b4, b5, b6, b7, b8, b9, b10, b11, b12, b13, b14, b15, b16, b17, b18, b19, b20, rfl, rfl, rfl, trivial⟩
              · have hb : b2 = false := hun
                cases ho
                have d1 : b1 = true := hdeps ⟨1, Ground.data⟩ (by simp) rfl
                clear hun hdeps
                subst hb d1
                all_goals dsimp only
                refine wpOpIn_step rfl (fun K' hK => ?_)
                all_goals simp only [pk_true]
                all_goals go_simp
                all_goals exact hK _ _ ⟨b0, true, true, b3, b4, b5, b6, b7, b8, b9, b10, b11, b12, b13, b14, b15, b16, b17, b18, b19, b20, rfl, rfl, rfl, trivial⟩
              · have hb : b3 = false := hun
                cases ho
                have d0 : b0 = true := hdeps ⟨0, Ground.data⟩ (by simp) rfl
                have d2 : b2 = true := hdeps ⟨2, Ground.data⟩ (by simp) rfl
                clear hun hdeps
                subst hb d0 d2
                all_goals dsimp only
                refine wpOpIn_step rfl (fun K' hK => ?_)
                all_goals simp only [pk_true]
                all_goals go_simp
                all_goals exact hK _ _ ⟨true, b1, true, true, b4, b5, b6, b7, b8, b9, b10, b11, b12, b13, b14, b15, b16, b17, b18, b19, b20, rfl, rfl, rfl, trivial⟩
              · have hb : b4 = false := hun
                cases ho
                have d3 : b3 = true := hdeps ⟨3, Ground.data⟩ (by simp) rfl
                clear hun hdeps
                subst hb d3
                all_goals dsimp only
                refine wpOpIn_step rfl (fun K' hK => ?_)
                all_goals simp only [pk_true]
                all_goals go_simp
                all_goals exact hK _ _ ⟨b0, b1, b2, true, true, b5, b6, b7, b8, b9, b10, b11, b12, b13, b14, b15, b16, b17, b18, b19, b20, rfl, rfl, rfl, trivial⟩
              · have hb : b5 = false := hun
                cases ho
                clear hun hdeps
                subst hb
                all_goals dsimp only
                refine wpOpIn_step rfl (fun K' hK => ?_)
                all_goals go_simp
                all_goals exact hK _ _ ⟨b0, b1, b2, b3, b4, true, b6, b7, b8, b9, b10, b11, b12, b13, b14, b15, b16, b17, b18, b19, b20, rfl, rfl, rfl, trivial⟩
              · have hb : b6 = false := hun
                cases ho
                clear hun hdeps
                subst hb
                all_goals dsimp only
                refine wpOpIn_step rfl (fun K' hK => ?_)
                all_goals go_simp
                all_goals exact hK _ _ ⟨b0, b1, b2, b3, b4, b5, true, b7, b8, b9, b10, b11, b12, b13, b14, b15, b16, b17, b18, b19, b20, rfl, rfl, rfl, trivial⟩
              · have hb : b7 = false := hun
                cases ho
                have d6 : b6 = true := hdeps ⟨6, Ground.data⟩ (by simp) rfl
                clear hun hdeps
                subst hb d6
                all_goals dsimp only
                refine wpOpIn_step rfl (fun K' hK => ?_)
                all_goals simp only [pk_true]
                all_goals go_simp
                all_goals exact hK _ _ ⟨b0, b1, b2, b3, b4, b5, true, true, b8, b9, b10, b11, b12, b13, b14, b15, b16, b17, b18, b19, b20, rfl, rfl, rfl, trivial⟩
              · have hb : b8 = false := hun
                cases ho
                have d5 : b5 = true := hdeps ⟨5, Ground.data⟩ (by simp) rfl
                have d7 : b7 = true := hdeps ⟨7, Ground.data⟩ (by simp) rfl
                clear hun hdeps
                subst hb d5 d7
                all_goals dsimp only
                refine wpOpIn_step rfl (fun K' hK => ?_)
                all_goals simp only [pk_true]
                all_goals go_simp
                all_goals exact hK _ _ ⟨b0, b1, b2, b3, b4, true, b6, true, true, b9, b10, b11, b12, b13, b14, b15, b16, b17, b18, b19, b20, rfl, rfl, rfl, trivial⟩
              · have hb : b9 = false := hun
                cases ho
                have d8 : b8 = true := hdeps ⟨8, Ground.data⟩ (by simp) rfl
                clear hun hdeps
                subst hb d8
                all_goals dsimp only
                refine wpOpIn_step rfl (fun K' hK => ?_)
                all_goals simp only [pk_true]
                all_goals go_simp
                all_goals exact hK _ _ ⟨b0, b1, b2, b3, b4, b5, b6, b7, true, true, b10, b11, b12, b13, b14, b15, b16, b17, b18, b19, b20, rfl, rfl, rfl, trivial⟩
              · have hb : b10 = false := hun
                cases ho
                have d4 : b4 = true := hdeps ⟨4, Ground.data⟩ (by simp) rfl
                have d9 : b9 = true := hdeps ⟨9, Ground.data⟩ (by simp) rfl
                clear hun hdeps
                subst hb d4 d9
                all_goals dsimp only
                refine wpOpIn_step rfl (fun K' hK => ?_)
                all_goals simp only [pk_true]
                all_goals go_simp
                all_goals exact hK _ _ ⟨b0, b1, b2, b3, true, b5, b6, b7, b8, true, true, b11, b12, b13, b14, b15, b16, b17, b18, b19, b20, rfl, rfl, rfl, trivial⟩
              · have hb : b11 = false := hun
                cases ho
                clear hun hdeps
                subst hb
                all_goals dsimp only
                refine wpOpIn_step rfl (fun K' hK => ?_)
                all_goals go_simp
                all_goals exact hK _ _ ⟨b0, b1, b2, b3, b4, b5, b6, b7, b8, b9, b10, true, b12, b13, b14, b15, b16, b17, b18, b19, b20, rfl, rfl, rfl, trivial⟩
              · have hb : b12 = false := hun
                cases ho
                clear hun hdeps
                subst hb
                all_goals dsimp only
                refine wpOpIn_step rfl (fun K' hK => ?_)
                all_goals go_simp
                all_goals exact hK _ _ ⟨b0, b1, b2, b3, b4, b5, b6, b7, b8, b9, b10, b11, true, b13, b14, b15, b16, b17, b18, b19, b20, rfl, rfl, rfl, trivial⟩
              · have hb : b13 = false := hun
                cases ho
                have d12 : b12 = true := hdeps ⟨12, Ground.data⟩ (by simp) rfl
                clear hun hdeps
                subst hb d12
                all_goals dsimp only
                refine wpOpIn_step rfl (fun K' hK => ?_)
                all_goals simp only [pk_true]
                all_goals go_simp
                all_goals exact hK _ _ ⟨b0, b1, b2, b3, b4, b5, b6, b7, b8, b9, b10, b11, true, true, b14, b15, b16, b17, b18, b19, b20, rfl, rfl, rfl, trivial⟩
              · have hb : b14 = false := hun
                cases ho
                have d11 : b11 = true := hdeps ⟨11, Ground.data⟩ (by simp) rfl
                have d13 : b13 = true := hdeps ⟨13, Ground.data⟩ (by simp) rfl
                clear hun hdeps
                subst hb d11 d13
                all_goals dsimp only
                refine wpOpIn_step rfl (fun K' hK => ?_)
                all_goals simp only [pk_true]
                all_goals go_simp
                all_goals exact hK _ _ ⟨b0, b1, b2, b3, b4, b5, b6, b7, b8, b9, b10, true, b12, true, true, b15, b16, b17, b18, b19, b20, rfl, rfl, rfl, trivial⟩
              · have hb : b15 = false := hun
                cases ho
                have d14 : b14 = true := hdeps ⟨14, Ground.data⟩ (by simp) rfl
                clear hun hdeps
                subst hb d14
                all_goals dsimp only
                refine wpOpIn_step rfl (fun K' hK => ?_)
                all_goals simp only [pk_true]
                all_goals go_simp
                all_goals exact hK _ _ ⟨b0, b1, b2, b3, b4, b5, b6, b7, b8, b9, b10, b11, b12, b13, true, true, b16, b17, b18, b19, b20, rfl, rfl, rfl, trivial⟩
              · have hb : b16 = false := hun
                cases ho
                clear hun hdeps
                subst hb
                all_goals dsimp only
                refine wpOpIn_step rfl (fun K' hK => ?_)
                all_goals go_simp
                all_goals exact hK _ _ ⟨b0, b1, b2, b3, b4, b5, b6, b7, b8, b9, b10, b11, b12, b13, b14, b15, true, b17, b18, b19, b20, rfl, rfl, rfl, trivial⟩
              · have hb : b17 = false := hun
                cases ho
                have d16 : b16 = true := hdeps ⟨16, Ground.data⟩ (by simp) rfl
                clear hun hdeps
                subst hb d16
                all_goals dsimp only
                refine wpOpIn_step rfl (fun K' hK => ?_)
                all_goals simp only [pk_true]
                all_goals go_simp
                all_goals exact hK _ _ ⟨b0, b1, b2, b3, b4, b5, b6, b7, b8, b9, b10, b11, b12, b13, b14, b15, true, true, b18, b19, b20, rfl, rfl, rfl, trivial⟩
              · have hb : b18 = false := hun
                cases ho
                have d15 : b15 = true := hdeps ⟨15, Ground.data⟩ (by simp) rfl
                have d17 : b17 = true := hdeps ⟨17, Ground.data⟩ (by simp) rfl
                clear hun hdeps
                subst hb d15 d17
                all_goals dsimp only
                refine wpOpIn_step rfl (fun K' hK => ?_)
                all_goals simp only [pk_true]
                all_goals go_simp
                all_goals exact hK _ _ ⟨b0, b1, b2, b3, b4, b5, b6, b7, b8, b9, b10, b11, b12, b13, b14, true, b16, true, true, b19, b20, rfl, rfl, rfl, trivial⟩
              · have hb : b19 = false := hun
                cases ho
                have d18 : b18 = true := hdeps ⟨18, Ground.data⟩ (by simp) rfl
                clear hun hdeps
                subst hb d18
                all_goals dsimp only
                refine wpOpIn_step rfl (fun K' hK => ?_)
                all_goals simp only [pk_true]
                all_goals go_simp
                all_goals exact hK _ _ ⟨b0, b1, b2, b3, b4, b5, b6, b7, b8, b9, b10, b11, b12, b13, b14, b15, b16, b17, true, true, b20, rfl, rfl, rfl, trivial⟩
              · have hb : b20 = false := hun
                cases ho
                have d10 : b10 = true := hdeps ⟨10, Ground.data⟩ (by simp) rfl
                have d19 : b19 = true := hdeps ⟨19, Ground.data⟩ (by simp) rfl
                clear hun hdeps
                subst hb d10 d19
                all_goals dsimp only
                refine wpOpIn_step rfl (fun K' hK => ?_)
                all_goals simp only [pk_true]
                all_goals go_simp
                all_goals exact hK _ _ ⟨b0, b1, b2, b3, b4, b5, b6, b7, b8, b9, true, b11, b12, b13, b14, b15, b16, b17, b18, true, true, rfl, rfl, rfl, trivial⟩
            case hdone =>
              rintro L a X ⟨b0, b1, b2, b3, b4, b5, b6, b7, b8, b9, b10, b11, b12, b13, b14, b15, b16, b17, b18, b19, b20, rfl, rfl, rfl, _⟩ hr
              have t0 : b0 = true := ready_nil hr (i := 0) (by simp) (by intro o ho; cases ho; intro e he hbd; replace he : e ∈ #[] := he; simp at he)
              subst t0
              have t1 : b1 = true := ready_nil hr (i := 1) (by simp) (by intro o ho; cases ho; intro e he hbd; replace he : e ∈ #[] := he; simp at he)
              subst t1
              have t2 : b2 = true := ready_nil hr (i := 2) (by simp) (by intro o ho; cases ho; intro e he hbd; replace he : e ∈ #[⟨1, Ground.data⟩] := he; simp only [List.mem_toArray, List.mem_cons, List.not_mem_nil, or_false] at he; rcases he with rfl <;> first | rfl | exact absurd hbd (by decide))
              subst t2
              have t3 : b3 = true := ready_nil hr (i := 3) (by simp) (by intro o ho; cases ho; intro e he hbd; replace he : e ∈ #[⟨0, Ground.data⟩, ⟨2, Ground.data⟩] := he; simp only [List.mem_toArray, List.mem_cons, List.not_mem_nil, or_false] at he; rcases he with rfl | rfl <;> first | rfl | exact absurd hbd (by decide))
              subst t3
              have t4 : b4 = true := ready_nil hr (i := 4) (by simp) (by intro o ho; cases ho; intro e he hbd; replace he : e ∈ #[⟨3, Ground.data⟩] := he; simp only [List.mem_toArray, List.mem_cons, List.not_mem_nil, or_false] at he; rcases he with rfl <;> first | rfl | exact absurd hbd (by decide))
              subst t4
              have t5 : b5 = true := ready_nil hr (i := 5) (by simp) (by intro o ho; cases ho; intro e he hbd; replace he : e ∈ #[] := he; simp at he)
              subst t5
              have t6 : b6 = true := ready_nil hr (i := 6) (by simp) (by intro o ho; cases ho; intro e he hbd; replace he : e ∈ #[] := he; simp at he)
              subst t6
              have t7 : b7 = true := ready_nil hr (i := 7) (by simp) (by intro o ho; cases ho; intro e he hbd; replace he : e ∈ #[⟨6, Ground.data⟩] := he; simp only [List.mem_toArray, List.mem_cons, List.not_mem_nil, or_false] at he; rcases he with rfl <;> first | rfl | exact absurd hbd (by decide))
              subst t7
              have t8 : b8 = true := ready_nil hr (i := 8) (by simp) (by intro o ho; cases ho; intro e he hbd; replace he : e ∈ #[⟨5, Ground.data⟩, ⟨7, Ground.data⟩] := he; simp only [List.mem_toArray, List.mem_cons, List.not_mem_nil, or_false] at he; rcases he with rfl | rfl <;> first | rfl | exact absurd hbd (by decide))
              subst t8
              have t9 : b9 = true := ready_nil hr (i := 9) (by simp) (by intro o ho; cases ho; intro e he hbd; replace he : e ∈ #[⟨8, Ground.data⟩] := he; simp only [List.mem_toArray, List.mem_cons, List.not_mem_nil, or_false] at he; rcases he with rfl <;> first | rfl | exact absurd hbd (by decide))
              subst t9
              have t10 : b10 = true := ready_nil hr (i := 10) (by simp) (by intro o ho; cases ho; intro e he hbd; replace he : e ∈ #[⟨4, Ground.data⟩, ⟨9, Ground.data⟩] := he; simp only [List.mem_toArray, List.mem_cons, List.not_mem_nil, or_false] at he; rcases he with rfl | rfl <;> first | rfl | exact absurd hbd (by decide))
              subst t10
              have t11 : b11 = true := ready_nil hr (i := 11) (by simp) (by intro o ho; cases ho; intro e he hbd; replace he : e ∈ #[] := he; simp at he)
              subst t11
              have t12 : b12 = true := ready_nil hr (i := 12) (by simp) (by intro o ho; cases ho; intro e he hbd; replace he : e ∈ #[] := he; simp at he)
              subst t12
              have t13 : b13 = true := ready_nil hr (i := 13) (by simp) (by intro o ho; cases ho; intro e he hbd; replace he : e ∈ #[⟨12, Ground.data⟩] := he; simp only [List.mem_toArray, List.mem_cons, List.not_mem_nil, or_false] at he; rcases he with rfl <;> first | rfl | exact absurd hbd (by decide))
              subst t13
              have t14 : b14 = true := ready_nil hr (i := 14) (by simp) (by intro o ho; cases ho; intro e he hbd; replace he : e ∈ #[⟨11, Ground.data⟩, ⟨13, Ground.data⟩] := he; simp only [List.mem_toArray, List.mem_cons, List.not_mem_nil, or_false] at he; rcases he with rfl | rfl <;> first | rfl | exact absurd hbd (by decide))
              subst t14
              have t15 : b15 = true := ready_nil hr (i := 15) (by simp) (by intro o ho; cases ho; intro e he hbd; replace he : e ∈ #[⟨14, Ground.data⟩] := he; simp only [List.mem_toArray, List.mem_cons, List.not_mem_nil, or_false] at he; rcases he with rfl <;> first | rfl | exact absurd hbd (by decide))
              subst t15
              have t16 : b16 = true := ready_nil hr (i := 16) (by simp) (by intro o ho; cases ho; intro e he hbd; replace he : e ∈ #[] := he; simp at he)
              subst t16
              have t17 : b17 = true := ready_nil hr (i := 17) (by simp) (by intro o ho; cases ho; intro e he hbd; replace he : e ∈ #[⟨16, Ground.data⟩] := he; simp only [List.mem_toArray, List.mem_cons, List.not_mem_nil, or_false] at he; rcases he with rfl <;> first | rfl | exact absurd hbd (by decide))
              subst t17
              have t18 : b18 = true := ready_nil hr (i := 18) (by simp) (by intro o ho; cases ho; intro e he hbd; replace he : e ∈ #[⟨15, Ground.data⟩, ⟨17, Ground.data⟩] := he; simp only [List.mem_toArray, List.mem_cons, List.not_mem_nil, or_false] at he; rcases he with rfl | rfl <;> first | rfl | exact absurd hbd (by decide))
              subst t18
              have t19 : b19 = true := ready_nil hr (i := 19) (by simp) (by intro o ho; cases ho; intro e he hbd; replace he : e ∈ #[⟨18, Ground.data⟩] := he; simp only [List.mem_toArray, List.mem_cons, List.not_mem_nil, or_false] at he; rcases he with rfl <;> first | rfl | exact absurd hbd (by decide))
              subst t19
              have t20 : b20 = true := ready_nil hr (i := 20) (by simp) (by intro o ho; cases ho; intro e he hbd; replace he : e ∈ #[⟨10, Ground.data⟩, ⟨19, Ground.data⟩] := he; simp only [List.mem_toArray, List.mem_cons, List.not_mem_nil, or_false] at he; rcases he with rfl | rfl <;> first | rfl | exact absurd hbd (by decide))
              subst t20
              exact ⟨rfl, rfl⟩
            case hfin =>
              have hgd : W.grownBy W.drew none := ⟨rfl, rfl, rfl, Nat.le_refl _, fun _ _ _ => rfl⟩
              have hI3 := HI2.out.grown hgd (fun r e => by cases e)
              have HI3 := Lib.hid hI3
              clear hI3
              by_cases h1 : x + y > cij
              · have hpr := HBd.out h1
                have HPr := Lib.hid hpr
                clear hpr
                gi_wp2_with fail
                refine show KeepsAt _ _ _ ∧ Code.ret = Code.ret ∧ PriI _ _ _ _ _ _ _ _ _ _ ∧ _ from ?_
                exact ⟨(KeepsAt.of_grown hgd (fun r e => by cases e)).trans (KeepsAt.of_grown (grownBy_set W.drew (w.heap.size + 1 + 1 + 1) 0 (.bool false)) (fun r e => by have := Option.some.inj e; omega)), rfl, HI3.out.put false, HPr.out⟩
              · gi_wp2_with fail
                refine show KeepsAt _ _ _ ∧ PriI _ _ _ _ _ _ _ _ _ _ ∧ PrOk _ _ _ _ from ?_
                exact ⟨KeepsAt.of_grown hgd (fun r e => by cases e), HI3.out, HNx.out (by omega)⟩
          case stop =>
            rintro D c pre X hD hSp ⟨rfl, hI, hpr⟩ hDf
            have HPr := Lib.hid hpr
            have HI4 := Lib.hid hI
            have HDf := Lib.hid hDf
            clear hpr hI1 hbe hI hDf
            gi_wp2_with fail
            exact pri_leaves rfl [D] _ ⟨by simp, fun D' h' => by rw [List.mem_singleton] at h'; subst h'; exact ⟨by omega, HDf.out⟩⟩ HI4.out (fun Y hY => ⟨ret_bool (by rw [HPr.out]), hY⟩)
          case done =>
            rintro D xs X hD hS ⟨hI, hall⟩ hDf
            subst hS
            have hpr := HGood.out (fun i j hi hj => hall ⟨(i, j), hi, hj⟩ (allPairs_mem hi hj))
            have HPr := Lib.hid hpr
            have HI4 := Lib.hid hI
            have HDf := Lib.hid hDf
            have s3 : X.cell? ⟨w.heap.size + 1 + 1 + 1, 0, none⟩ = some (.bool false) := by simp [World.cell?, hI.b3]
            have f3 : X.frozen? ⟨w.heap.size + 1 + 1 + 1, 0, none⟩ = false := by simp [World.frozen?, hI.b3]
            clear hpr hI1 hbe hall hI hDf
            gi_wp2_with fail
            exact pri_leaves rfl [D] _ ⟨by simp, fun D' h' => by rw [List.mem_singleton] at h'; subst h'; exact ⟨by omega, (Below.heap_setCell _ _ _ _ (by show D' ≠ w.heap.size + 1 + 1 + 1; omega)).trans HDf.out⟩⟩ (HI4.out.put true) (fun Y hY => ⟨ret_bool (by rw [HPr.out]), hY⟩)
    · have hne : ¬ (m3 : Int) = n := by omega
      have hne2 : ((m3 : Int) != n) = true := by rw [bne_iff_ne]; exact hne
      have hres : pricesB C us vs = false := by unfold pricesB; rw [decide_eq_false]; intro h; have := h.2.1; have := Hn.out; have := Hl3.out; omega
      have HRes := Lib.hid hres
      have s3 : X0.cell? ⟨w.heap.size + 1 + 1 + 1, 0, none⟩ = some (.bool false) := by simp [World.cell?, k3]
      have f3 : X0.frozen? ⟨w.heap.size + 1 + 1 + 1, 0, none⟩ = false := by simp [World.frozen?, k3]
      have HB0 := Lib.hid hB0
      have Hk3 := Lib.hid k3
      clear hres k0 k1 k2 k3 hB0 hX0 hn
      gi_wp2_with fail
      (repeat (refine ⟨trivial, ?_⟩; gi_wp2_with fail))
      refine ⟨.bool false, ?_, ret_bool (by rw [HRes.out]), b_next (b_next (b_next (below_alloc _ _) (below_alloc _ _)) (below_alloc _ _)) (below_alloc _ _)⟩
      simp [results, Try.f60, go_sem]
  · have hne : ¬ (m2 : Int) = n := by omega
    have hne2 : ((m2 : Int) != n) = true := by rw [bne_iff_ne]; exact hne
    have hres : pricesB C us vs = false := by unfold pricesB; rw [decide_eq_false]; intro h; have := h.1; have := Hn.out; have := Hl2.out; omega
    have HRes := Lib.hid hres
    have s3 : X0.cell? ⟨w.heap.size + 1 + 1 + 1, 0, none⟩ = some (.bool false) := by simp [World.cell?, k3]
    have f3 : X0.frozen? ⟨w.heap.size + 1 + 1 + 1, 0, none⟩ = false := by simp [World.frozen?, k3]
    have HB0 := Lib.hid hB0
    have Hk3 := Lib.hid k3
    clear hres k0 k1 k2 k3 hB0 hX0 hn
    gi_wp2_with fail
    (repeat (refine ⟨trivial, ?_⟩; gi_wp2_with fail))
    refine ⟨.bool false, ?_, ret_bool (by rw [HRes.out]), b_next (b_next (b_next (below_alloc _ _) (below_alloc _ _)) (below_alloc _ _)) (below_alloc _ _)⟩
    simp [results, Try.f60, go_sem]
end Go.Proofs.Ytambhhjbafefgaa

/- Check. -/
namespace Go.Proofs.Ytambhhjbafefgaa
set_option linter.unusedVariables false
open Go.RowKit

def chkR (C : List (List Int)) (xs us vs : List Int) : Int := if costsB C then (if provesB C xs us vs then 0 else 10) else 2

set_option maxRecDepth 100000 in
set_option maxHeartbeats 4000000 in
theorem Check_both (C : List (List Int)) (xs us vs : List Int) (a a1 a2 a3 : Option Addr) (cap m m2 m3 c1 c2 c3 : Nat) (w : World) (h : Tbl w a C) (hw : costsB C = true) (has : asgB xs C.length = true) (hpr : pricesB C us vs = true)
    (ha : Row w a1 m (intL xs)) (hu : Row w a2 m2 (intL us)) (hv : Row w a3 m3 (intL vs)) :
    Calls Try.prog 24 #[.slice a C.length cap, .slice a1 m c1, .slice a2 m2 c2, .slice a3 m3 c3] w fun e w' => e = .returned (.int .i64 (chkR C xs us vs)) ∧ Below w.heap.size w w' := by
  obtain ⟨hRc, hp⟩ := Rect.of_costs hw
  have hn7 := hRc.n7
  have hr : ∀ row ∈ C, row.length ≤ 1000 := fun row hrow => by have := hRc.len row hrow; omega
  have hl : xs.length = m := by have := ha.1; simpa [intL] using this
  have hl2 : us.length = m2 := by have := hu.1; simpa [intL] using this
  have hl3 : vs.length = m3 := by have := hv.1; simpa [intL] using this
  have hx := has
  unfold asgB at hx
  rw [decide_eq_true_eq] at hx
  have hq := hpr
  unfold pricesB at hq
  rw [decide_eq_true_eq] at hq
  obtain ⟨y, hy⟩ : ∃ y, wayP C xs C.length = y := ⟨_, rfl⟩
  have hR : chkR C xs us vs = if us.sum + vs.sum = y.t then 0 else 10 := by
    unfold chkR provesB; rw [hw, has, hpr, hy]
    by_cases he : us.sum + vs.sum = y.t
    · simp [he]
    · simp [he]
  rw [hR]
  obtain ⟨n, hnn⟩ : ∃ n, C.length = n := ⟨_, rfl⟩
  have hC := fun w' h => isCosts_any a cap C w' h (by omega) hr
  have hA := fun w' h => isAssignment_any a1 m C.length c1 xs w' h hRc.n7 (by omega)
  have hP := fun w' h hu hv => arePrices_any C a a2 a3 cap m2 m3 c2 c3 us vs w' hw h hu hv (by omega) (by omega)
  obtain rfl : n = m := by omega
  obtain rfl : n = m2 := by omega
  obtain rfl : n = m3 := by omega
  have hWy := fun w' h h2 => wayOf_any C a a1 cap n c1 xs w' (by rw [← hnn]; exact hRc) hnn (by rw [← hnn]; exact hx.2.1) h h2
  rw [← hnn, hy] at hWy
  rw [hnn] at hWy
  rw [hw, hnn] at hC
  rw [has, hnn] at hA
  rw [hpr, hnn] at hP
  rw [hnn]
  have hS1 := fun w' h => sum_any a2 n c2 us w' h (by omega) hq.2.2.1
  have hS2 := fun w' h => sum_any a3 n c3 vs w' h (by omega) hq.2.2.2.1
  have hsb := sums_bound us vs n (by omega) (by omega) (fun x hx => hq.2.2.1 x (List.mem_of_mem_take hx)) (fun x hx => hq.2.2.2.1 x (List.mem_of_mem_take hx))
  rw [List.take_of_length_le (by omega), List.take_of_length_le (by omega)] at hsb
  obtain ⟨s1, hs1⟩ : ∃ s, us.sum = s := ⟨_, rfl⟩
  obtain ⟨s2, hs2⟩ : ∃ s, vs.sum = s := ⟨_, rfl⟩
  rw [hs1] at hS1 hsb ⊢
  rw [hs2] at hS2 hsb ⊢
  unfold wayV at hWy
  have HC := Lib.hid hC
  have HA := Lib.hid hA
  have HP := Lib.hid hP
  have HS1 := Lib.hid hS1
  have HS2 := Lib.hid hS2
  have HWy := Lib.hid hWy
  have H := Lib.hid h
  have Ha := Lib.hid ha
  have Hu := Lib.hid hu
  have Hv := Lib.hid hv
  have i1 : IntKind.i64.wrap (s1 + s2) = s1 + s2 := IntWalk.i64_in _ (by omega)
  clear hw hR h hC ha hl hl2 hl3 hu hv hA has hRc hP hpr hWy hy hx hq hS1 hS2 hs1 hs2 hp hr hnn
  have hfl := field_t
  by_cases he : s1 + s2 = y.t
  · have he2 : (s1 + s2 != y.t) = false := by simp [he]
    rw [if_pos he]
    clear he
    go_enter Try.func24, Try.ntmps24
    go_wp2_with fail
    refine (HC.out _ H.out).mono ?_
    rintro e w' ⟨rfl, rfl⟩
    go_wp2_with fail
    refine (HA.out _ Ha.out).mono ?_
    rintro e w1 ⟨rfl, b1⟩
    go_wp2_with fail
    refine (HP.out _ (H.out.below b1) (Hu.out.below b1) (Hv.out.below b1)).mono ?_
    rintro e w2 ⟨rfl, b2⟩
    have b3 := b_next b1 b2
    go_wp2_with fail
    refine (HS1.out _ (Hu.out.below b3)).mono ?_
    rintro e w3 ⟨rfl, rfl⟩
    go_wp2_with fail
    refine (HS2.out _ (Hv.out.below b3)).mono ?_
    rintro e w4 ⟨rfl, rfl⟩
    go_wp2_with fail
    refine (HWy.out _ (H.out.below b3) (Ha.out.below b3)).mono ?_
    rintro e w5 ⟨rfl, b5⟩
    go_wp2_with fail
    go_ret
    exact ⟨rfl, b_next b3 b5⟩
  · have he2 : (s1 + s2 != y.t) = true := by simp [he]
    rw [if_neg he]
    clear he
    go_enter Try.func24, Try.ntmps24
    go_wp2_with fail
    refine (HC.out _ H.out).mono ?_
    rintro e w' ⟨rfl, rfl⟩
    go_wp2_with fail
    refine (HA.out _ Ha.out).mono ?_
    rintro e w1 ⟨rfl, b1⟩
    go_wp2_with fail
    refine (HP.out _ (H.out.below b1) (Hu.out.below b1) (Hv.out.below b1)).mono ?_
    rintro e w2 ⟨rfl, b2⟩
    have b3 := b_next b1 b2
    go_wp2_with fail
    refine (HS1.out _ (Hu.out.below b3)).mono ?_
    rintro e w3 ⟨rfl, rfl⟩
    go_wp2_with fail
    refine (HS2.out _ (Hv.out.below b3)).mono ?_
    rintro e w4 ⟨rfl, rfl⟩
    go_wp2_with fail
    refine (HWy.out _ (H.out.below b3) (Ha.out.below b3)).mono ?_
    rintro e w5 ⟨rfl, b5⟩
    go_wp2_with fail
    go_ret
    exact ⟨rfl, b_next b3 b5⟩

set_option maxRecDepth 100000 in
set_option maxHeartbeats 4000000 in
theorem Check_any (C : List (List Int)) (xs us vs : List Int) (a a1 a2 a3 : Option Addr) (cap m m2 m3 c1 c2 c3 : Nat) (w : World) (h : Tbl w a C) (hn : C.length ≤ 1000) (hr : ∀ row ∈ C, row.length ≤ 1000)
    (ha : Row w a1 m (intL xs)) (hu : Row w a2 m2 (intL us)) (hv : Row w a3 m3 (intL vs)) (hm : m ≤ 1000) (hm2 : m2 ≤ 1000) (hm3 : m3 ≤ 1000) :
    Calls Try.prog 24 #[.slice a C.length cap, .slice a1 m c1, .slice a2 m2 c2, .slice a3 m3 c3] w fun e w' => e = .returned (.int .i64 (chkR C xs us vs)) ∧ Below w.heap.size w w' := by
  have hC := fun w' h => isCosts_any a cap C w' h hn hr
  have HC := Lib.hid hC
  have H := Lib.hid h
  have Ha := Lib.hid ha
  have Hu := Lib.hid hu
  have Hv := Lib.hid hv
  have hl : xs.length = m := by have := ha.1; simpa [intL] using this
  have hl2 : us.length = m2 := by have := hu.1; simpa [intL] using this
  have hl3 : vs.length = m3 := by have := hv.1; simpa [intL] using this
  cases hw : costsB C with
  | false =>
    have hR : chkR C xs us vs = 2 := by unfold chkR; rw [hw]; rfl
    rw [hR]
    have HW := Lib.hid hw
    clear hw hR h hC ha hl hl2 hl3 hu hv
    go_enter Try.func24, Try.ntmps24
    go_wp2_with (go_at_call 53; refine (HC.out _ H.out).mono ?_; rintro e w' ⟨rfl, rfl⟩; rw [HW.out])
    go_ret
    exact ⟨rfl, Below.refl _ _⟩
  | true =>
    obtain ⟨hRc, hp⟩ := Rect.of_costs hw
    have HW := Lib.hid hw
    have HRc := Lib.hid hRc
    have hA := fun w' h => isAssignment_any a1 m C.length c1 xs w' h hRc.n7 hm
    have hP := fun w' h hu hv => arePrices_any C a a2 a3 cap m2 m3 c2 c3 us vs w' hw h hu hv hm2 hm3
    have HA := Lib.hid hA
    have HP := Lib.hid hP
    cases has : asgB xs C.length with
    | false =>
      have hR : chkR C xs us vs = 10 := by unfold chkR provesB; rw [hw, has]; rfl
      rw [hR]
      have Has := Lib.hid has
      clear hw hR h hC ha hl hl2 hl3 hu hv hA has hRc hP
      go_enter Try.func24, Try.ntmps24
      go_wp2_with (first
        | (go_at_call 53; refine (HC.out _ H.out).mono ?_; rintro e w' ⟨rfl, rfl⟩; rw [HW.out])
        | (go_at_call 59; refine (HA.out _ Ha.out).mono ?_; rintro e w1 ⟨rfl, b1⟩; rw [Has.out]))
      go_ret
      exact ⟨rfl, b1⟩
    | true =>
      cases hpr : pricesB C us vs with
      | false =>
        have hR : chkR C xs us vs = 10 := by unfold chkR provesB; rw [hw, has, hpr]; rfl
        rw [hR]
        have Has := Lib.hid has
        have Hpr := Lib.hid hpr
        clear hw hR h hC ha hl hl2 hl3 hu hv hA has hRc hP hpr
        go_enter Try.func24, Try.ntmps24
        go_wp2_with (first
          | (go_at_call 53; refine (HC.out _ H.out).mono ?_; rintro e w' ⟨rfl, rfl⟩; rw [HW.out])
          | (go_at_call 59; refine (HA.out _ Ha.out).mono ?_; rintro e w1 ⟨rfl, b1⟩; rw [Has.out])
          | (go_at_call 60; refine (HP.out _ (H.out.below b1) (Hu.out.below b1) (Hv.out.below b1)).mono ?_; rintro e w2 ⟨rfl, b2⟩; rw [Hpr.out]))
        go_ret
        exact ⟨rfl, b_next b1 b2⟩
      | true =>
        exact Check_both C xs us vs a a1 a2 a3 cap m m2 m3 c1 c2 c3 w h hw has hpr ha hu hv
end Go.Proofs.Ytambhhjbafefgaa

/- The law's sample: what the functions are there. -/
namespace Go.Proofs.Ytambhhjbafefgaa
set_option linter.unusedVariables false
open Go.RowKit

abbrev smp : List (List Int) := [[1, 2], [3, 5]]
set_option maxRecDepth 10000
theorem smp_costs : costsB smp = true := by decide
theorem smp_best : (bestW smp).holes.take 2 = [1, 0] := by decide
theorem smp_bestW : bestW smp = ⟨1, 0, 0, 0, 0, 0, 0, 5⟩ := by decide
theorem smp_proves : provesB smp [1, 0] ((uP smp (bestW smp)).take 2) ((vP smp (bestW smp)).take 2) = true := by decide
theorem smp_slack : slackR smp = ([[1, 0], [0, 1]], 0) := by decide
theorem smp_pay : payR smp = ([0, 1], 0) := by decide
theorem smp_nar : (narW smp).1.holes.take 2 = [1, 0] ∧ (narW smp).2 = 3 := by decide
theorem smp_block : blockB smp 2 [1] = true := by decide

theorem smp_le : ∀ row ∈ smp, row.length ≤ 1000 := by decide
theorem best_smp (a : Option Addr) (w : World) (h : Tbl w a smp) :
    Calls Try.prog 17 #[.slice a 2 2] w fun e w' => ∃ a0 k0 a1 k1 a2 k2 us vs, e = .returned (.tuple #[.slice a0 2 k0, .slice a1 2 k1, .slice a2 2 k2, .int .i64 0]) ∧
      Row w' a0 2 (intL [1, 0]) ∧ Row w' a1 2 (intL us) ∧ Row w' a2 2 (intL vs) ∧ provesB smp [1, 0] us vs = true ∧ Below w.heap.size w w' := by
  refine (show Calls Try.prog 17 #[.slice a 2 2] w _ from Best_yes smp a 2 w h smp_costs).mono ?_
  rintro e w' ⟨r0, r1, r2, rfl, o0, o1, o2, b⟩
  obtain ⟨a0, k0, rfl, q0⟩ := Row.of_own o0
  obtain ⟨a1, k1, rfl, q1⟩ := Row.of_own o1
  obtain ⟨a2, k2, rfl, q2⟩ := Row.of_own o2
  refine ⟨a0, k0, a1, k1, a2, k2, _, _, rfl, ?_, q1, q2, smp_proves, b⟩
  have q0' : Row w' a0 2 (intL ((bestW smp).holes.take 2)) := q0
  rw [smp_best] at q0'
  exact q0'
theorem slack_smp (a : Option Addr) (w : World) (h : Tbl w a smp) :
    Calls Try.prog 36 #[.slice a 2 2] w fun e w' => ∃ sa sk, e = .returned (.tuple #[.slice sa 2 sk, .int .i64 0]) ∧ Tbl w' sa [[1, 0], [0, 1]] ∧ Below w.heap.size w w' := by
  refine (show Calls Try.prog 36 #[.slice a 2 2] w _ from Slack_any smp a 2 w h (by decide) smp_le (by decide) (by decide)).mono ?_
  rintro e w' ⟨v, rfl, hl, b⟩
  rw [smp_slack] at hl ⊢
  obtain ⟨sa, sk, rfl, _, _, ht⟩ := hl.tbl
  exact ⟨sa, sk, rfl, ht, b⟩
theorem nar_smp (a : Option Addr) (w : World) (h : Tbl w a smp) :
    Calls Try.prog 43 #[.slice a 2 2] w fun e w' => ∃ a0 k0 v2, e = .returned (.tuple #[.slice a0 2 k0, .int .i64 3, v2, .int .i64 0]) ∧ Row w' a0 2 (intL [1, 0]) ∧ Below w.heap.size w w' := by
  refine (show Calls Try.prog 43 #[.slice a 2 2] w _ from Narrow_yes smp a 2 w h smp_costs).mono ?_
  rintro e w' ⟨v1, v2, l, rfl, o1, o2, hb, b⟩
  obtain ⟨a0, k0, rfl, q0⟩ := Row.of_own o1
  have q0' : Row w' a0 2 (intL ((narW smp).1.holes.take 2)) := q0
  rw [smp_nar.1] at q0'
  rw [smp_nar.2]
  exact ⟨a0, k0, v2, rfl, q0', b⟩
theorem pay_smp (a : Option Addr) (w : World) (h : Tbl w a smp) :
    Calls Try.prog 38 #[.slice a 2 2] w fun e w' => ∃ a0 k0, e = .returned (.tuple #[.slice a0 2 k0, .int .i64 0]) ∧ Row w' a0 2 (intL [0, 1]) ∧ Below w.heap.size w w' := by
  refine (show Calls Try.prog 38 #[.slice a 2 2] w _ from Payments_any smp a 2 w h (by decide) smp_le (by decide) (by decide)).mono ?_
  rintro e w' ⟨v, rfl, o, b⟩
  rw [smp_pay] at o ⊢
  obtain ⟨a0, k0, rfl, q0⟩ := Row.of_own o
  exact ⟨a0, k0, rfl, q0, b⟩
theorem block_smp (a b : Option Addr) (w : World) (h : Tbl w a smp) (hl : Row w b 1 (intL [1])) :
    Calls Try.prog 44 #[.slice a 2 2, .int .i64 2, .slice b 1 1] w fun e w' => e = .returned (.tuple #[.bool true, .int .i64 0]) ∧ w = w' := by
  refine (show Calls Try.prog 44 #[.slice a 2 2, .int .i64 2, .slice b 1 1] w _ from IsBlock_any smp a b 2 1 1 2 [1] w h (by decide) smp_le hl (by decide)).mono ?_
  rintro e w' ⟨rfl, rfl⟩
  rw [smp_costs, smp_block]
  exact ⟨rfl, rfl⟩
end Go.Proofs.Ytambhhjbafefgaa

/- The law's awake. -/
namespace Go.Proofs.Ytambhhjbafefgaa
set_option linter.unusedVariables false
open Go.RowKit

theorem tbl_lit (w : World) (x y z t : Int) : Tbl (((w.alloc (.cells #[.int .i64 x, .int .i64 y] 3)).alloc (.cells #[.int .i64 z, .int .i64 t] 3)).alloc (.cells #[.slice (some ⟨w.heap.size, 0, none⟩) 2 2, .slice (some ⟨w.heap.size + 1, 0, none⟩) 2 2] 24)) (some ⟨w.heap.size + 1 + 1, 0, none⟩) [[x, y], [z, t]] := by
  have r1 := (Row.built (w := w) 3 [.int .i64 x, .int .i64 y]).below (below_alloc _ (.cells #[.int .i64 z, .int .i64 t] 3))
  have r1 := r1.below (below_alloc _ (.cells #[.slice (some ⟨w.heap.size, 0, none⟩) 2 2, .slice (some ⟨w.heap.size + 1, 0, none⟩) 2 2] 24))
  have r2 := (Row.built (w := w.alloc (.cells #[.int .i64 x, .int .i64 y] 3)) 3 [.int .i64 z, .int .i64 t]).below (below_alloc _ (.cells #[.slice (some ⟨w.heap.size, 0, none⟩) 2 2, .slice (some ⟨w.heap.size + 1, 0, none⟩) 2 2] 24))
  have hb := World.alloc_heap_new ((w.alloc (.cells #[.int .i64 x, .int .i64 y] 3)).alloc (.cells #[.int .i64 z, .int .i64 t] 3)) (.cells #[.slice (some ⟨w.heap.size, 0, none⟩) 2 2, .slice (some ⟨w.heap.size + 1, 0, none⟩) 2 2] 24)
  rw [World.size_alloc, World.size_alloc] at hb
  rw [World.size_alloc] at r2
  generalize ((w.alloc (.cells #[.int .i64 x, .int .i64 y] 3)).alloc (.cells #[.int .i64 z, .int .i64 t] 3)).alloc (.cells #[.slice (some ⟨w.heap.size, 0, none⟩) 2 2, .slice (some ⟨w.heap.size + 1, 0, none⟩) 2 2] 24) = Y at hb r1 r2 ⊢
  refine fun _ => ⟨_, rfl, (Array.getElem?_eq_some_iff.1 hb).1, fun i row hi => ?_⟩
  match i, hi with
  | 0, hi => cases hi; exact ⟨some ⟨w.heap.size, 0, none⟩, 2, by simp [World.cell?, hb], Nat.le_refl _, r1⟩
  | 1, hi => cases hi; exact ⟨some ⟨w.heap.size + 1, 0, none⟩, 2, by simp [World.cell?, hb], Nat.le_refl _, r2⟩
  | k + 2, hi => simp at hi
theorem ints_true (a b : Option Addr) (n ca cb : Nat) (xs : List Int) (w : World) (ha : Row w a n (intL xs)) (hb : Row w b n (intL xs)) (hn : n ≤ 1000) :
    Calls Try.prog 21 #[.slice a n ca, .slice b n cb] w fun e w' => e = .returned (.bool true) ∧ ∃ q, w' = w.drewN q := by
  refine (ints_any a b n n ca cb xs xs w ha hb hn hn).mono ?_
  rintro e w' ⟨rfl, q, rfl⟩
  exact ⟨ret_bool (by simp), q, rfl⟩
theorem tables_true (a b : Option Addr) (ca cb : Nat) (C : List (List Int)) (n : Nat) (hC : C.length = n) (w : World) (hA : Tbl w a C) (hB : Tbl w b C) (hn : n ≤ 1000) (hr : ∀ row ∈ C, row.length ≤ 1000) :
    Calls Try.prog 39 #[.slice a n ca, .slice b n cb] w fun e w' => e = .returned (.bool true) ∧ ∃ q, w' = w.drewN q := by
  subst hC
  refine (tables_any a b ca cb C C w hA hB rfl hn hr hr).mono ?_
  rintro e w' ⟨rfl, q, rfl⟩
  exact ⟨ret_bool (by simp), q, rfl⟩

theorem proves_smp (a a0 a1 a2 : Option Addr) (k0 k1 k2 : Nat) (us vs : List Int) (w : World) (h : Tbl w a smp) (h0 : Row w a0 2 (intL [1, 0])) (h1 : Row w a1 2 (intL us)) (h2 : Row w a2 2 (intL vs)) (hp : provesB smp [1, 0] us vs = true) :
    Calls Try.prog 23 #[.slice a 2 2, .slice a0 2 k0, .slice a1 2 k1, .slice a2 2 k2] w fun e w' => e = .returned (.bool true) ∧ ∃ q, w' = w.drewN q := by
  refine (Proves_any smp a a0 a1 a2 2 2 2 2 2 k0 k1 k2 [1, 0] us vs w (Rect.of_costs smp_costs).1 rfl h h0 h1 h2 (by decide) (by decide) (by decide)).mono ?_
  rintro e w' ⟨rfl, q, rfl⟩
  rw [hp]
  exact ⟨rfl, q, rfl⟩

set_option maxRecDepth 100000 in
set_option maxHeartbeats 4000000 in
theorem awake_any (w : World) : Calls Try.prog 20 #[] w fun e w' => e = .returned (.bool true) ∧ Below w.heap.size w w' := by
  have hT := tbl_lit w 1 2 3 5
  have hB0 := b_next (b_next (below_alloc w (.cells #[.int .i64 1, .int .i64 2] 3)) (below_alloc _ (.cells #[.int .i64 3, .int .i64 5] 3))) (below_alloc _ (.cells #[.slice (some ⟨w.heap.size, 0, none⟩) 2 2, .slice (some ⟨w.heap.size + 1, 0, none⟩) 2 2] 24))
  have HT := Lib.hid hT
  have HB0 := Lib.hid hB0
  clear hT hB0
  go_enter Try.func20, Try.ntmps20
  go_wp2_with fail
  refine (best_smp _ _ HT.out).mono ?_
  rintro e w1 ⟨a0, k0, a1, k1, a2, k2, us, vs, rfl, q0, q1, q2, hpr, b1⟩
  have t1 := HT.out.below b1
  have c1 := b_next HB0.out b1
  go_wp2_with fail
  refine (slack_smp _ _ t1).mono ?_
  rintro e w2 ⟨sa, sk, rfl, s2, b2⟩
  have t2 := t1.below b2
  have c2 := b_next c1 b2
  have q0 := q0.below b2
  have q1 := q1.below b2
  have q2 := q2.below b2
  go_wp2_with fail
  refine (nar_smp _ _ t2).mono ?_
  rintro e w3 ⟨n0, l0, v3, rfl, n3, b3⟩
  have t3 := t2.below b3
  have c3 := b_next c2 b3
  have q0 := q0.below b3
  have q1 := q1.below b3
  have q2 := q2.below b3
  have s2 := s2.below b3
  go_wp2_with fail
  refine (pay_smp _ _ t3).mono ?_
  rintro e w4 ⟨p0, l1, rfl, p4, b4⟩
  have t4 := t3.below b4
  have c4 := b_next c3 b4
  have q0 := q0.below b4
  have q1 := q1.below b4
  have q2 := q2.below b4
  have s2 := s2.below b4
  have n3 := n3.below b4
  clear b1 b2 b3 b4 t1 t2 t3 c1 c2 c3
  go_wp2_with fail
  have hal := below_alloc w4 (.cells #[.int .i64 1] 3)
  have rb := Row.built (w := w4) 3 [.int .i64 1]
  have t4 := t4.below hal
  have c4 := b_next c4 hal
  have q0 := q0.below hal
  have q1 := q1.below hal
  have q2 := q2.below hal
  have s2 := s2.below hal
  have n3 := n3.below hal
  have p4 := p4.below hal
  refine (block_smp _ _ _ t4 rb).mono ?_
  rintro e w5 ⟨rfl, hw5⟩
  rw [hw5] at t4 c4 q0 q1 q2 s2 n3 p4
  clear hw5 hal rb
  have T := Lib.hid t4
  have C4 := Lib.hid c4
  have Q0 := Lib.hid q0
  have Q1 := Lib.hid q1
  have Q2 := Lib.hid q2
  have S2 := Lib.hid s2
  have N3 := Lib.hid n3
  have P4 := Lib.hid p4
  have Pr := Lib.hid hpr
  clear t4 c4 q0 q1 q2 s2 n3 p4 hpr HT HB0
  go_wp2_with fail
  have h5 := below_alloc w5 (.cells #[.int .i64 1, .int .i64 0] 3)
  refine (ints_true _ _ 2 _ _ [1, 0] _ (Q0.out.below h5) (Row.built (w := w5) 3 [.int .i64 1, .int .i64 0]) (by decide)).mono ?_
  rintro e w6 ⟨rfl, n1, rfl⟩
  have h6 := below_drewN h5 n1
  have H6 := Lib.hid h6
  clear h5 h6
  go_wp2_with fail
  refine (proves_smp _ _ _ _ _ _ _ us vs _ (T.out.below H6.out) (Q0.out.below H6.out) (Q1.out.below H6.out) (Q2.out.below H6.out) Pr.out).mono ?_
  rintro e w7 ⟨rfl, n2, rfl⟩
  have h7 := below_drewN H6.out n2
  have H7 := Lib.hid h7
  clear h7
  generalize hW7 : ((w5.alloc (.cells #[.int .i64 1, .int .i64 0] 3)).drewN n1).drewN n2 = W7 at H7
  go_wp2_with fail
  have h8 := b_next (b_next (b_next H7.out (below_alloc W7 (.cells #[.int .i64 1, .int .i64 0] 3))) (below_alloc _ (.cells #[.int .i64 0, .int .i64 1] 3))) (below_alloc _ (.cells #[.slice (some ⟨W7.heap.size, 0, none⟩) 2 2, .slice (some ⟨W7.heap.size + 1, 0, none⟩) 2 2] 24))
  refine (tables_true _ _ _ _ [[1, 0], [0, 1]] 2 rfl _ (S2.out.below h8) (tbl_lit W7 1 0 0 1) (by decide) (by decide)).mono ?_
  rintro e w8 ⟨rfl, n3, rfl⟩
  have h9 := below_drewN h8 n3
  generalize hW8 : World.drewN _ n3 = W8 at h9
  have H9 := Lib.hid h9
  clear h8 h9 hW7
  go_wp2_with fail
  refine (ints_true _ _ 2 _ _ [1, 0] _ (N3.out.below (b_next H9.out (below_alloc W8 (.cells #[.int .i64 1, .int .i64 0] 3)))) (Row.built (w := W8) 3 [.int .i64 1, .int .i64 0]) (by decide)).mono ?_
  rintro e w9 ⟨rfl, n4, rfl⟩
  have h10 := below_drewN (b_next H9.out (below_alloc W8 (.cells #[.int .i64 1, .int .i64 0] 3))) n4
  generalize hW9 : World.drewN _ n4 = W9 at h10
  have H10 := Lib.hid h10
  clear h10 hW8
  go_wp2_with fail
  refine (ints_true _ _ 2 _ _ [0, 1] _ (P4.out.below (b_next H10.out (below_alloc W9 (.cells #[.int .i64 0, .int .i64 1] 3)))) (Row.built (w := W9) 3 [.int .i64 0, .int .i64 1]) (by decide)).mono ?_
  rintro e w10 ⟨rfl, n5, rfl⟩
  have h11 := below_drewN (b_next H10.out (below_alloc W9 (.cells #[.int .i64 0, .int .i64 1] 3))) n5
  generalize hW10 : World.drewN _ n5 = W10 at h11
  have H11 := Lib.hid h11
  clear h11 hW9
  go_wp2_with fail
  go_ret
  exact ⟨rfl, b_next C4.out H11.out⟩
end Go.Proofs.Ytambhhjbafefgaa

/- The law's list. -/
namespace Go.Proofs.Ytambhhjbafefgaa
set_option linter.unusedVariables false
open Go.RowKit

set_option maxRecDepth 100000 in
set_option maxHeartbeats 4000000 in
theorem list_ptr (ad : Addr) (n cap k : Nat) (xs : List Int) (w : World) (hn : n ≤ cap) (hk : k = min n 8) (hl : n ≤ xs.length) (hc : ∀ j, j < n → w.cell? (ad.add j) = some (.int .i64 (xs.getD j 0))) :
    Calls Try.prog 26 #[.slice (some ad) n cap] w fun e w' => ∃ v, e = .returned v ∧ w'.ownsRow w.heap.size 3 1 v k (intL (xs.take k)) ∧ Below w.heap.size w w' := by
  have hm : min (n : Int) 8 = (k : Int) := by omega
  have hk1 : k ≤ n := by omega
  have hk2 : (k : Int) ≤ cap := by omega
  have hk8 : k ≤ 8 := by omega
  have hnews : ∀ j u, (intL (xs.take k))[j]? = some u → w.cell? (ad.add j) = some u := by
    intro j u hj
    have hj2 : j < k := by
      have := (List.getElem?_eq_some_iff.1 hj).1
      rw [intL_length, List.length_take] at this; omega
    rw [hc j (by omega)]
    unfold intL at hj
    rw [List.getElem?_map, List.getElem?_take_of_lt hj2, List.getElem?_eq_getElem (by omega)] at hj
    simp only [Option.map_some, Option.some.injEq] at hj
    rw [← hj, List.getD_eq_getElem?_getD, List.getElem?_eq_getElem (by omega)]; rfl
  have hlen : (intL (xs.take k)).length = k * 1 := by rw [intL_length, List.length_take]; omega
  have hone : ∀ u ∈ intL (xs.take k), u.oneCell' = true := by
    intro u hu
    obtain ⟨x, _, rfl⟩ := List.mem_map.1 hu
    simp [Value.oneCell']
  obtain ⟨i0, hi, hz0, hz1, hz2⟩ := info_parts info_int
  have HN := Lib.hid hnews
  have HL := Lib.hid hlen
  have HO := Lib.hid hone
  clear hc hl hk hnews hlen hone hn
  go_enter Try.func26, Try.ntmps26
  go_wp2_with (at_builtin; refine wpList_append_own _ rfl _ _ 24 rfl w.heap.size 3 i0 (.int .i64 0) 1 8 Try.underlying24 hi hz0 hz1 hz2 rfl (by decide) _ _ _ rfl (World.ownsRow_nil _ _ _ _) ad k cap (intL (xs.take k)) rfl HL.out HN.out HO.out (by unfold maxLen; omega) (by omega) (Nat.le_refl _) ?_; intro v1 w1 hown hgrow _)
  simp only [Nat.zero_add, List.nil_append] at hown
  have hg2 : w.grownBy w1 none := hgrow
  have hB : Below w.heap.size w w1 := ⟨hg2.os, hg2.tape, hg2.output, hg2.size, fun k hk => hg2.block k hk (by simp)⟩
  clear hgrow
  go_wp2_with fail
  go_ret
  exact ⟨v1, rfl, hown, hB⟩

set_option maxRecDepth 100000 in
theorem list_nil (n cap : Nat) (hn : n = 0) (w : World) :
    Calls Try.prog 26 #[.slice none n cap] w fun e w' => ∃ v, e = .returned v ∧ w'.ownsRow w.heap.size 3 1 v 0 (intL []) ∧ Below w.heap.size w w' := by
  subst hn
  go_enter Try.func26, Try.ntmps26
  go_wp2_with fail
  go_ret
  exact ⟨.slice none 0 0, rfl, World.ownsRow_nil _ _ _ _, Below.refl _ _⟩
end Go.Proofs.Ytambhhjbafefgaa

/- The law's table. -/
namespace Go.Proofs.Ytambhhjbafefgaa
set_option linter.unusedVariables false
open Go.RowKit

theorem add_block (ad : Addr) (j : Nat) : (ad.add j).block = ad.block := by unfold Addr.add; split <;> rfl
/-- a row of a table that came in, wherever it lies -/
def RowIn (w : World) (v : Value) (row : List Int) : Prop := (∃ c, v = .slice none 0 c ∧ row = []) ∨ ∃ (ad : Addr) (c : Nat), v = .slice (some ad) row.length c ∧ row.length ≤ c ∧ ∀ j, j < row.length → w.cell? (ad.add j) = some (.int .i64 (row.getD j 0))
theorem RowIn.below {w w' : World} {v : Value} {row : List Int} (h : RowIn w v row) (hb : Below w.heap.size w w') : RowIn w' v row := by
  rcases h with h | ⟨ad, c, hv, hc, hd⟩
  · exact .inl h
  · exact .inr ⟨ad, c, hv, hc, fun j hj => (hb.cell (p := ad.add j) (World.block_lt_of_cell? w _ (hd j hj))).trans (hd j hj)⟩
theorem list_in (v : Value) (row : List Int) (w : World) (h : RowIn w v row) :
    Calls Try.prog 26 #[v] w fun e w' => ∃ r, e = .returned r ∧ w'.ownsRow w.heap.size 3 1 r (row.take 8).length (intL (row.take 8)) ∧ Below w.heap.size w w' := by
  rcases h with ⟨c, rfl, rfl⟩ | ⟨ad, c, rfl, hc, hd⟩
  · exact list_nil 0 c rfl w
  · have h := list_ptr ad row.length c (min row.length 8) row w hc rfl (Nat.le_refl _) hd
    have e1 : row.take (min row.length 8) = row.take 8 := by rw [Nat.min_comm, List.take_eq_take_iff]; omega
    have e2 : (row.take 8).length = min row.length 8 := by rw [List.length_take, Nat.min_comm]
    rw [e1] at h
    rw [e2]
    exact h

/-- what the law makes of a table that came in -/
def cutT (C : List (List Int)) : List (List Int) := (C.take 8).map (·.take 8)
theorem cutT_len (C : List (List Int)) (n : Nat) (h : C.length = n) : (cutT C).length = min n 8 := by unfold cutT; rw [List.length_map, List.length_take, Nat.min_comm, h]
set_option maxRecDepth 100000 in
set_option maxHeartbeats 4000000 in
theorem table_ptr (ad : Addr) (n cap : Nat) (C : List (List Int)) (w : World) (hl : C.length = n) (hc : ∀ i row, C[i]? = some row → ∃ v, w.cell? (ad.add i) = some v ∧ RowIn w v row) :
    Calls Try.prog 16 #[.slice (some ad) n cap] w fun e w' => ∃ v, e = .returned v ∧ Sep w' w.heap.size v (cutT C) ∧ Below w.heap.size w w' := by
  obtain ⟨i1, hj, hy0, hy1, hy2⟩ := info_parts info_ints
  have HC := Lib.hid hc
  have Hl := Lib.hid hl
  clear hc hl
  go_enter Try.func16, Try.ntmps16
  go_wp2
  go_loopw [3, 4] (fun v i wr => ∃ k : Nat, k ≤ n ∧ k ≤ 8 ∧ i = .int .i64 k ∧ Sep wr w.heap.size v ((C.take k).map (·.take 8)) ∧ Below w.heap.size w wr) (fun _ i _ => n - (intOf i).toNat)
  case atStart => exact ⟨0, Nat.zero_le _, by omega, rfl, Sep.nil _ _, Below.refl _ _⟩
  case round =>
    obtain ⟨k, hk, hk8, rfl, hL, hB⟩ := hrel
    have HL := Lib.hid hL
    have HB := Lib.hid hB
    clear hL hB
    by_cases hlt : k < n
    · have hc1 : (k : Int) < n := by omega
      by_cases hl7 : k ≤ 7
      · have hc2 : (k : Int) ≤ 7 := by omega
        obtain ⟨row, hrow⟩ : ∃ row, C[k]? = some row := ⟨_, List.getElem?_eq_getElem (by have := Hl.out; omega)⟩
        obtain ⟨v, cv, hv⟩ := HC.out k row hrow
        have cv2 : wr.cell? (ad.add k) = some v := (HB.out.cell (p := ad.add k) (World.block_lt_of_cell? w _ cv)).trans cv
        have hT : C.take (k + 1) = C.take k ++ [row] := by rw [List.take_add_one, hrow]; rfl
        have HV := Lib.hid (hv.below HB.out)
        have HT := Lib.hid hT
        clear hrow cv hv hT
        go_wp2_with fail
        refine (list_in _ row _ HV.out).mono ?_
        rintro e w1 ⟨r, rfl, ho1, b1⟩
        obtain ⟨a8, c8, rfl, hc8, hR8⟩ := own_slice ho1
        have Ho1 := Lib.hid ho1
        obtain ⟨hs, ho, hl2, hd2, hold⟩ := HL.out.step b1
        have hBw := b_next HB.out b1
        have hll : ((C.take k).map (·.take 8)).length = k := by rw [List.length_map, List.length_take]; have := Hl.out; omega
        obtain ⟨j, hjj⟩ : ∃ j, (row.take 8).length = j := ⟨_, rfl⟩
        have Hjj := Lib.hid hjj
        have Hhl := Lib.hid hl2
        have Hhd := Lib.hid hd2
        have Hold := Lib.hid hold
        have HBw := Lib.hid hBw
        have Hho := Lib.hid ho
        have Hll := Lib.hid hll
        have Hc8 := Lib.hid hc8
        have ho' := (ho.alloc (.cells #[.slice a8 (row.take 8).length c8] 24))
        rw [hll] at ho'
        rw [hjj] at ho' ⊢
        have HO' := Lib.hid ho'
        clear hl2 hd2 hold hR8 hBw ho hll ho1 ho' hc8 b1 cv2 hjj
        go_wp2_with (at_builtin; refine wpList_append_own _ rfl _ _ 22 rfl w.heap.size 24 i1 (.slice none 0 0) 1 24 Try.underlying22 hj hy0 hy1 hy2 rfl (by decide) _ _ _ rfl HO'.out ⟨_, 0, none⟩ 1 1 [.slice a8 j c8] rfl rfl (one_new _ _ _ _ (by simp)) (by simp [Value.oneCell']) (by unfold maxLen; omega) (by omega) (by have := HBw.out.size; simp; omega) ?_; intro v' w6 hown' hgrow _)
        have hLn : Sep w6 w.heap.size v' ((C.take (k + 1)).map (·.take 8)) := by
          rw [HT.out, List.map_append]
          exact Sep.push (wr := wr) (r := .slice a8 (row.take 8).length c8) Hho.out Hhl.out Hhd.out Hold.out Ho1.out HB.out.size hgrow (by rw [Hll.out, Hjj.out]; exact hown')
        have hB6 : Below w.heap.size w w6 := rel_push HBw.out (by have := HBw.out.size; simp; omega) ((Below.refl _ _).alloc HBw.out.size _) Hho.out hgrow
        have HLn := Lib.hid hLn
        have HB6 := Lib.hid hB6
        clear hown' hgrow hLn hB6
        go_wp2
        go_roundw
        case rel => exact ⟨k + 1, by omega, by omega, by go_num, HLn.out, HB6.out⟩
        case measure => simp [intOf]; omega
      · have hc2 : ¬ (k : Int) ≤ 7 := by omega
        go_wp2
        go_ret
        have e : cutT C = (C.take k).map (·.take 8) := by unfold cutT; rw [show k = 8 by omega]
        exact ⟨_, rfl, by rw [e]; exact HL.out, HB.out⟩
    · have hc1 : ¬ (k : Int) < n := by omega
      go_wp2
      go_ret
      have e : cutT C = (C.take k).map (·.take 8) := by unfold cutT; rw [List.take_of_length_le (show C.length ≤ 8 by have := Hl.out; omega), List.take_of_length_le (show C.length ≤ k by have := Hl.out; omega)]
      exact ⟨_, rfl, by rw [e]; exact HL.out, HB.out⟩

set_option maxRecDepth 100000 in
theorem table_nil (cap : Nat) (w : World) :
    Calls Try.prog 16 #[.slice none 0 cap] w fun e w' => ∃ v, e = .returned v ∧ Sep w' w.heap.size v (cutT []) ∧ Below w.heap.size w w' := by
  go_enter Try.func16, Try.ntmps16
  go_wp2
  go_loopw [3, 4] (fun v i wr => v = .slice none 0 0 ∧ i = .int .i64 0 ∧ wr = w) (fun _ _ _ => 0)
  case atStart => exact ⟨rfl, rfl, rfl⟩
  case round =>
    obtain ⟨rfl, rfl, rfl⟩ := hrel
    go_wp2
    go_ret
    exact ⟨_, rfl, Sep.nil _ _, Below.refl _ _⟩

/-- a table that came in -/
def TabIn (w : World) (v : Value) (C : List (List Int)) : Prop :=
  (∃ c, v = .slice none 0 c ∧ C = []) ∨ ∃ (ad : Addr) (n c : Nat), v = .slice (some ad) n c ∧ C.length = n ∧ ∀ i row, C[i]? = some row → ∃ v, w.cell? (ad.add i) = some v ∧ RowIn w v row
theorem TabIn.below {w w' : World} {v : Value} {C : List (List Int)} (h : TabIn w v C) (hb : Below w.heap.size w w') : TabIn w' v C := by
  rcases h with h | ⟨ad, n, c, hv, hl, hd⟩
  · exact .inl h
  · refine .inr ⟨ad, n, c, hv, hl, fun i row hi => ?_⟩
    obtain ⟨v, h1, h2⟩ := hd i row hi
    exact ⟨v, (hb.cell (p := ad.add i) (World.block_lt_of_cell? w _ h1)).trans h1, h2.below hb⟩
theorem table_sep (v : Value) (C : List (List Int)) (w : World) (h : TabIn w v C) :
    Calls Try.prog 16 #[v] w fun e w' => ∃ v, e = .returned v ∧ Sep w' w.heap.size v (cutT C) ∧ Below w.heap.size w w' := by
  rcases h with ⟨c, rfl, rfl⟩ | ⟨ad, n, c, rfl, hl, hd⟩
  · exact table_nil c w
  · exact table_ptr ad n c C w hl hd
theorem table_any (v : Value) (C : List (List Int)) (w : World) (h : TabIn w v C) :
    Calls Try.prog 16 #[v] w fun e w' => ∃ v, e = .returned v ∧ Lines w' w.heap.size v (cutT C) ∧ Below w.heap.size w w' :=
  (table_sep v C w h).mono fun _ _ ⟨v, he, hs, hb⟩ => ⟨v, he, hs.lines, hb⟩
/-- a table of the call's own, as an argument of table -/
theorem tabIn_tbl {w : World} {a : Option Addr} {n cap : Nat} {C : List (List Int)} (h : Tbl w a C) (hn : C.length = n) (hp : 0 < n) : TabIn w (.slice a n cap) C := by
  obtain ⟨g, rfl, hg, hc⟩ := h (by omega)
  refine .inr ⟨⟨g, 0, none⟩, n, cap, rfl, hn, fun i row hi => ?_⟩
  obtain ⟨ra, rc, h1, h2, h3⟩ := hc i row hi
  refine ⟨_, by rw [addr_add, Nat.zero_add]; exact h1, ?_⟩
  by_cases hz : row.length = 0
  · obtain rfl : row = [] := List.eq_nil_of_length_eq_zero hz
    cases ra with
    | none => exact .inl ⟨rc, rfl, rfl⟩
    | some ad => exact .inr ⟨ad, rc, rfl, h2, fun j hj => absurd hj (by simp)⟩
  · obtain ⟨rg, rfl, _, hcell⟩ := h3.2 (by omega)
    exact .inr ⟨⟨rg, 0, none⟩, rc, rfl, h2, fun j hj => by
      rw [addr_add, Nat.zero_add]
      exact hcell j _ (intL_get (by rw [List.getD_eq_getElem?_getD, List.getElem?_eq_getElem hj]; rfl))⟩
theorem cutT_small {C : List (List Int)} (h1 : C.length ≤ 8) (h2 : ∀ row ∈ C, row.length ≤ 8) : cutT C = C := by
  unfold cutT
  rw [List.take_of_length_le h1]
  refine (List.map_congr_left fun row hr => List.take_of_length_le (h2 row hr)).trans (List.map_id' _)
end Go.Proofs.Ytambhhjbafefgaa

/- What a row and a table that came in hold: opened from the reader's data. -/
namespace Go.Proofs.Ytambhhjbafefgaa
set_option linter.unusedVariables false
open Go.RowKit Go.ChangeShapes Go.WideShapes

theorem rowIn_of {H : Type} {enc : TypeId × Value → H} {P : Program} {w : World} {base fuel : Nat} {held : Bool} {t e : TypeId} {v : Value} {x : DataW H × List MemPlace} (ht : P.underlying t = some (.slice e)) (he : P.underlying e = some (.int .i64)) (ce : P.cellsOf e = 1)
    (h : DataW.trod enc P w base (fun _ => true) held fuel t [v] = some x) : ∃ xs, RowIn w v xs := by
  rcases open_ints ht he ce h with ⟨hcs, _⟩ | ⟨a, l, c, zs, hcs, _, hl, hm, hz, _, hcell, hwz⟩
  · simp at hcs
    exact ⟨[], .inl ⟨0, hcs, rfl⟩⟩
  · simp at hcs
    have hz2 : zs.length = c := by simpa using hz
    have hlen : (zs.take l).length = l := by rw [List.length_take]; omega
    refine ⟨zs.take l, .inr ⟨a, c, by rw [hlen]; exact hcs, by rw [hlen]; exact hl, fun j hj => ?_⟩⟩
    rw [hlen] at hj
    rw [hcell j (by omega), List.getD_eq_getElem?_getD, List.getD_eq_getElem?_getD, List.getElem?_take_of_lt hj]
theorem tabIn_of {w : World} {a : Addr} {len cap : Nat} {A : Nat → Option Addr} {L C : Nat → Nat} {Z : Nat → List Int} (hl : len ≤ cap)
    (h : ∀ r, r < cap → w.cell? (a.add r) = some (.slice (A r) (L r) (C r)) ∧ L r ≤ C r ∧ (Z r).length = C r ∧ (A r = none → C r = 0) ∧ ∀ a', A r = some a' → ∀ c, c < C r → w.cell? (a'.add c) = some (.int .i64 ((Z r).getD c 0))) :
    ∃ C, TabIn w (.slice (some a) len cap) C := by
  refine ⟨(List.range len).map fun r => (Z r).take (L r), .inr ⟨a, len, cap, rfl, by simp, fun i row hi => ?_⟩⟩
  rw [List.getElem?_map] at hi
  obtain ⟨r, hr, rfl⟩ := Option.map_eq_some_iff.1 hi
  obtain ⟨h1, h2⟩ := List.getElem?_eq_some_iff.1 hr
  simp at h1 h2
  subst h2
  obtain ⟨c1, c2, c3, c4, c5⟩ := h i (by omega)
  refine ⟨_, c1, ?_⟩
  have hlen : ((Z i).take (L i)).length = L i := by rw [List.length_take]; omega
  cases hA : A i with
  | none =>
    have := c4 hA
    have h0 : L i = 0 := by omega
    exact .inl ⟨C i, by rw [h0], by rw [h0]; rfl⟩
  | some ad =>
    refine .inr ⟨ad, C i, by rw [hlen], by rw [hlen]; exact c2, fun j hj => ?_⟩
    rw [hlen] at hj
    rw [c5 ad hA j (by omega), List.getD_eq_getElem?_getD, List.getD_eq_getElem?_getD, List.getElem?_take_of_lt hj]
end Go.Proofs.Ytambhhjbafefgaa
