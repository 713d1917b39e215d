/- heirsOf: its function of the next nodes. -/
import Derived.Test.YtbbidgdgcbnanaaHeir
namespace Go.Proofs.Ytbbidgdgcbnanaa
set_option linter.unusedVariables false
open Go.RowKit Go.Maps Go.Sort Go.Shelf

/-- to the heir alone where one side moves, to all children elsewhere -/
def nxH (T : Tree) (f : Nat → Int) (wanted : Bool) (i : Nat) : List Nat := if kids T i = [] then [] else if even T i = wanted then [heirN T f i] else kids T i
theorem heirsOf_call (vals : Array Value) (x y z : Value) (hv : vals = #[x, y, z]) (s : Int) (w : World) (h1 : x.oneCell' = true) (h2 : y.oneCell' = true) (h3 : z.oneCell' = true) :
    Calls Try.prog 65 #[.agg vals, .int .i64 s] w fun e w' => e = .returned (.func (.func 96) #[] #[.pointer (some ⟨w.heap.size, 0, none⟩), .pointer (some ⟨w.heap.size + 1, 0, none⟩)]) ∧ w' = (w.alloc (.cells #[x, y, z] 75)).alloc (.cells #[.int .i64 s] 90) := by
  subst hv
  have hmf : ∀ (fn : Fn) (first cap : Array Value) (w : World), (Instr.makeFunc fn first cap).run Try.prog w = .ok (.func fn first cap) w := fun _ _ _ _ => rfl
  go_enter Try.func65, Try.ntmps65
  go_wp2
  go_ret
  exact ⟨rfl, rfl⟩
set_option maxRecDepth 100000 in
set_option maxHeartbeats 4000000 in
theorem heirs_kids (i g cap n B M Bn Bs d : Nat) (s : Int) (ra : Option Addr) (l rc : Nat) (w : World) (hi : i < n) (hn : n ≤ 1000) (hd : d ≤ 1000) (c0 : w.cell? ⟨Bn, 0, none⟩ = some (.slice (some ⟨g, 0, none⟩) n cap)) (c1 : w.cell? ⟨Bn, 1, none⟩ = some (.slice (some ⟨B, 0, none⟩) n n)) (c2 : w.cell? ⟨Bs, 0, none⟩ = some (.int .i64 s))
    (hk : w.cell? ⟨g, i * 2, none⟩ = some (.slice ra l rc)) (hdc : w.cell? ⟨B, i, none⟩ = some (.int .i64 (d : Int))) (hcond : l = 0 ∨ ((d % 2 : Nat) : Int) ≠ s) :
    Calls Try.prog 96 #[.int .i64 i, .pointer (some ⟨Bn, 0, none⟩), .pointer (some ⟨Bs, 0, none⟩)] w fun e w' => e = .returned (.slice ra l rc) ∧ Below w.heap.size w w' := by
  have hgl : g < w.heap.size := World.block_lt_of_cell? _ _ hk
  have hBl : B < w.heap.size := World.block_lt_of_cell? _ _ hdc
  have HL := Lib.hid fun W (hW : Below w.heap.size w W) => isLeaf_cell g i n cap (.slice (some ⟨B, 0, none⟩) n n) ra l rc W hi rfl ((hW.cell (p := ⟨g, i * 2, none⟩) hgl).trans hk) (Nat.lt_of_lt_of_le hgl hW.size)
  have HC := Lib.hid fun W (hW : Below w.heap.size w W) => children_cell g i n cap (.slice (some ⟨B, 0, none⟩) n n) ra l rc W hi rfl (Nat.lt_of_lt_of_le hgl hW.size) ((hW.cell (p := ⟨g, i * 2, none⟩) hgl).trans hk)
  have HM := Lib.hid fun W (hW : Below w.heap.size w W) => mover_cell (.slice (some ⟨g, 0, none⟩) n cap) B i n n d W hi rfl hd (Nat.lt_of_lt_of_le hBl hW.size) ((hW.cell (p := ⟨B, i, none⟩) hBl).trans hdc)
  have k0 := cell_regrown c0
  have k1 := cell_regrown c1
  have k2 := cell_regrown c2
  have Hc0 := Lib.hid fun W (hW : Below w.heap.size w W) => (hW.cell (p := ⟨Bn, 0, none⟩) (World.block_lt_of_cell? _ _ c0)).trans c0
  have Hc1 := Lib.hid fun W (hW : Below w.heap.size w W) => (hW.cell (p := ⟨Bn, 1, none⟩) (World.block_lt_of_cell? _ _ c1)).trans c1
  clear hk hdc c0 c1 c2 hgl hBl
  by_cases hl : l = 0
  · rw [decide_eq_true hl] at HL
    have cL : ∀ dd os, Calls Try.prog 56 #[.agg #[.slice (some ⟨g, 0, none⟩) n cap, .slice (some ⟨B, 0, none⟩) n n], .int .i64 i] (grow (redrawn w dd) os) fun e w'' => e = .returned (.bool true) ∧ ∃ p : Regrown, w'' = grow (redrawn w p.d) p.os := fun dd os => Calls.regrown_of (HL.out _ (below_regrown w dd os))
    clear hcond hl HL HM
    go_enter Try.func96, Try.ntmps96
    go_wp2
    refine wp_region_quiet_below (by kernel_rfl) (by kernel_rfl) ?_
    repeat (quiet_step (exact cL _ _))
    refine wpQuiet_nil ?_
    intro w4 hw4
    obtain ⟨⟨d4, o4⟩, hw4e⟩ := hw4
    have b4 : Below w.heap.size w w4 := by rw [hw4e]; exact below_regrown _ _ _
    clear hw4e k0 k1 k2 cL
    have c0 := Hc0.out _ b4
    have c1 := Hc1.out _ b4
    have HCx := Lib.hid (HC.out _ b4)
    have B4 := Lib.hid b4
    clear b4 HC
    go_wp2_with fail
    refine HCx.out.mono ?_
    rintro e w5 ⟨rfl, hw5⟩
    have B5 : Hid (Below w.heap.size w w5) := by unfold Hid; rw [hw5]; exact b_next B4.out (below_alloc _ _)
    clear hw5 c0 c1 HCx
    go_wp2
    go_ret
    exact ⟨rfl, B5.out⟩
  · rw [decide_eq_false hl] at HL
    have cL : ∀ dd os, Calls Try.prog 56 #[.agg #[.slice (some ⟨g, 0, none⟩) n cap, .slice (some ⟨B, 0, none⟩) n n], .int .i64 i] (grow (redrawn w dd) os) fun e w'' => e = .returned (.bool false) ∧ ∃ p : Regrown, w'' = grow (redrawn w p.d) p.os := fun dd os => Calls.regrown_of (HL.out _ (below_regrown w dd os))
    have hne : ((d % 2 : Nat) : Int) ≠ s := by rcases hcond with h | h; exact absurd h hl; exact h
    obtain ⟨y, hy⟩ : ∃ y, ((d % 2 : Nat) : Int) = y := ⟨_, rfl⟩
    rw [hy] at hne HM
    have cM : ∀ dd os, Calls Try.prog 92 #[.agg #[.slice (some ⟨g, 0, none⟩) n cap, .slice (some ⟨B, 0, none⟩) n n], .int .i64 i] (grow (redrawn w dd) os) fun e w'' => e = .returned (.int .i64 y) ∧ ∃ p : Regrown, w'' = grow (redrawn w p.d) p.os := fun dd os => Calls.regrown_of ((HM.out _ (below_regrown w dd os)).mono fun e w' ⟨h1, h2⟩ => ⟨h1, by rw [h2]; exact below_alloc _ _⟩)
    have hb1 : (y != s) = true := by rw [bne_iff_ne]; exact hne
    have hb2 : (y == s) = false := by rw [beq_eq_false_iff_ne]; exact hne
    clear hcond hl HL HM hy hne
    go_enter Try.func96, Try.ntmps96
    go_wp2
    refine wp_region_quiet_below (by kernel_rfl) (by kernel_rfl) ?_
    repeat (quiet_step (first | with_reducible exact cL _ _ | with_reducible exact cM _ _))
    refine wpQuiet_nil ?_
    intro w4 hw4
    obtain ⟨⟨d4, o4⟩, hw4e⟩ := hw4
    have b4 : Below w.heap.size w w4 := by rw [hw4e]; exact below_regrown _ _ _
    clear hw4e k0 k1 k2 cL cM hb1 hb2
    have c0 := Hc0.out _ b4
    have c1 := Hc1.out _ b4
    have HCx := Lib.hid (HC.out _ b4)
    have B4 := Lib.hid b4
    clear b4 HC
    go_wp2_with fail
    refine HCx.out.mono ?_
    rintro e w5 ⟨rfl, hw5⟩
    have B5 : Hid (Below w.heap.size w w5) := by unfold Hid; rw [hw5]; exact b_next B4.out (below_alloc _ _)
    clear hw5 c0 c1 HCx
    go_wp2
    go_ret
    exact ⟨rfl, B5.out⟩
set_option maxRecDepth 100000 in
set_option maxHeartbeats 4000000 in
theorem heirs_one (i g cap n B M Bn Bs d h : Nat) (ra : Option Addr) (l rc : Nat) (w : World) (hi : i < n) (hn : n ≤ 1000) (hd : d ≤ 1000) (c0 : w.cell? ⟨Bn, 0, none⟩ = some (.slice (some ⟨g, 0, none⟩) n cap)) (c1 : w.cell? ⟨Bn, 1, none⟩ = some (.slice (some ⟨B, 0, none⟩) n n)) (cm : w.cell? ⟨Bn, 2, none⟩ = some (.map (some M))) (c2 : w.cell? ⟨Bs, 0, none⟩ = some (.int .i64 ((d % 2 : Nat) : Int)))
    (hk : w.cell? ⟨g, i * 2, none⟩ = some (.slice ra l rc)) (hdc : w.cell? ⟨B, i, none⟩ = some (.int .i64 (d : Int))) (hl : l ≠ 0)
    (hH : ∀ W, Below w.heap.size w W → Calls Try.prog 57 #[.agg #[.slice (some ⟨g, 0, none⟩) n cap, .slice (some ⟨B, 0, none⟩) n n, .map (some M)], .int .i64 i] W fun e w' => e = .returned (.int .i64 (h : Nat)) ∧ Below W.heap.size W w') :
    Calls Try.prog 96 #[.int .i64 i, .pointer (some ⟨Bn, 0, none⟩), .pointer (some ⟨Bs, 0, none⟩)] w fun e w' => ∃ b, e = .returned (.slice (some ⟨b, 0, none⟩) 1 1) ∧ Row w' (some ⟨b, 0, none⟩) 1 [.int .i64 (h : Nat)] ∧ Below w.heap.size w w' := by
  have hgl : g < w.heap.size := World.block_lt_of_cell? _ _ hk
  have hBl : B < w.heap.size := World.block_lt_of_cell? _ _ hdc
  have HL := Lib.hid fun W (hW : Below w.heap.size w W) => isLeaf_cell g i n cap (.slice (some ⟨B, 0, none⟩) n n) ra l rc W hi rfl ((hW.cell (p := ⟨g, i * 2, none⟩) hgl).trans hk) (Nat.lt_of_lt_of_le hgl hW.size)
  have HM := Lib.hid fun W (hW : Below w.heap.size w W) => mover_cell (.slice (some ⟨g, 0, none⟩) n cap) B i n n d W hi rfl hd (Nat.lt_of_lt_of_le hBl hW.size) ((hW.cell (p := ⟨B, i, none⟩) hBl).trans hdc)
  have k0 := cell_regrown c0
  have k1 := cell_regrown c1
  have k2 := cell_regrown c2
  have Hc0 := Lib.hid fun W (hW : Below w.heap.size w W) => (hW.cell (p := ⟨Bn, 0, none⟩) (World.block_lt_of_cell? _ _ c0)).trans c0
  have Hc1 := Lib.hid fun W (hW : Below w.heap.size w W) => (hW.cell (p := ⟨Bn, 1, none⟩) (World.block_lt_of_cell? _ _ c1)).trans c1
  have Hcm := Lib.hid fun W (hW : Below w.heap.size w W) => (hW.cell (p := ⟨Bn, 2, none⟩) (World.block_lt_of_cell? _ _ cm)).trans cm
  rw [decide_eq_false hl] at HL
  have cL : ∀ dd os, Calls Try.prog 56 #[.agg #[.slice (some ⟨g, 0, none⟩) n cap, .slice (some ⟨B, 0, none⟩) n n], .int .i64 i] (grow (redrawn w dd) os) fun e w'' => e = .returned (.bool false) ∧ ∃ p : Regrown, w'' = grow (redrawn w p.d) p.os := fun dd os => Calls.regrown_of (HL.out _ (below_regrown w dd os))
  have cM : ∀ dd os, Calls Try.prog 92 #[.agg #[.slice (some ⟨g, 0, none⟩) n cap, .slice (some ⟨B, 0, none⟩) n n], .int .i64 i] (grow (redrawn w dd) os) fun e w'' => e = .returned (.int .i64 ((d % 2 : Nat) : Int)) ∧ ∃ p : Regrown, w'' = grow (redrawn w p.d) p.os := fun dd os => Calls.regrown_of ((HM.out _ (below_regrown w dd os)).mono fun e w' ⟨h1, h2⟩ => ⟨h1, by rw [h2]; exact below_alloc _ _⟩)
  generalize ((d % 2 : Nat) : Int) = y at cM k2
  have hb1 : (y != y) = false := by simp
  have HH := Lib.hid hH
  clear hk hdc c0 c1 c2 cm hgl hBl hl HL HM hH
  go_enter Try.func96, Try.ntmps96
  go_wp2
  refine wp_region_quiet_below (by kernel_rfl) (by kernel_rfl) ?_
  repeat (quiet_step (first | with_reducible exact cL _ _ | with_reducible exact cM _ _))
  refine wpQuiet_nil ?_
  intro w4 hw4
  obtain ⟨⟨d4, o4⟩, hw4e⟩ := hw4
  have b4 : Below w.heap.size w w4 := by rw [hw4e]; exact below_regrown _ _ _
  clear hw4e k0 k1 k2 cL cM hb1
  have c0 := Hc0.out _ b4
  have c1 := Hc1.out _ b4
  have c2 := Hcm.out _ b4
  have HCx := Lib.hid (HH.out _ b4)
  have B4 := Lib.hid b4
  clear b4 HH
  go_wp2_with fail
  refine HCx.out.mono ?_
  rintro e w5 ⟨rfl, b5⟩
  have B5 := Lib.hid (b_next B4.out b5)
  clear b5 c0 c1 c2 HCx
  go_wp2
  exact bodyPost_ret (results_tmp rfl _ _ _) rfl ⟨w5.heap.size, rfl, Row.built 3 [.int .i64 (h : Nat)], b_next B5.out (below_alloc _ _)⟩
end Go.Proofs.Ytbbidgdgcbnanaa
