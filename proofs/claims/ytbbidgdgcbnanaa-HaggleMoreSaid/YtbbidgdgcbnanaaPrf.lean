/- shown, Proof, Refute: a smallest list of leaves. -/
import Derived.Test.YtbbidgdgcbnanaaVsm
namespace Go.Proofs.Ytbbidgdgcbnanaa
set_option linter.unusedVariables false
open Go.RowKit Go.Maps Go.Sort Go.Shelf

theorem show_range (T : Tree) (met : Int → Bool) (i : Nat) : 0 ≤ showP T met i ∧ showP T met i ≤ 61 ∧ (showP T met i ≤ 1 ∨ showP T met i = 61) := by
  unfold showP
  cases met (worthOf T i)
  · rw [if_neg (by simp)]; omega
  · rw [if_pos rfl]; omega
/-- d.toShow as a function value -/
theorem show_fn (T : Tree) (g cap : Nat) (dv kv : Value) (hdv : dv.oneCell' = true) (hkv : kv.oneCell' = true) (wanted : Bool) (b : Int) (w : World) (ht : TreeAt w (some ⟨g, 0, none⟩) T) (i : Nat) (W : World) (hi : i < T.length) (hW : Below w.heap.size w W) :
    Calls Try.prog 99 #[.agg #[.slice (some ⟨g, 0, none⟩) T.length cap, dv, .int .i64 (byI wanted), .int .i64 b, kv], .int .i64 i] W fun e w' => e = .returned (.int .i64 (showP T (metB wanted b) i)) ∧ Below W.heap.size W w' := by
  have hb := below_alloc W (.cells #[.slice (some ⟨g, 0, none⟩) T.length cap, dv, .int .i64 (byI wanted), .int .i64 b, kv] 112)
  have HW := Lib.hid fun X (hX : Below (W.alloc (.cells #[.slice (some ⟨g, 0, none⟩) T.length cap, dv, .int .i64 (byI wanted), .int .i64 b, kv] 112)).heap.size (W.alloc (.cells #[.slice (some ⟨g, 0, none⟩) T.length cap, dv, .int .i64 (byI wanted), .int .i64 b, kv] 112)) X) => worth_fn T g cap dv hdv w ht i X hi (b_next (b_next hW hb) hX)
  have HM := Lib.hid fun x X => isMet_any wanted b x X
  have HB := Lib.hid hb
  have hx := heap_alloc_new W (.cells #[.slice (some ⟨g, 0, none⟩) T.length cap, dv, .int .i64 (byI wanted), .int .i64 b, kv] 112)
  have HX := Lib.hid hx
  obtain ⟨y, hy⟩ : ∃ y, byI wanted = y := ⟨_, rfl⟩
  rw [hy] at HW HM HB HX ⊢
  obtain ⟨r, hr⟩ : ∃ r, metB wanted b (worthOf T i) = r := ⟨_, rfl⟩
  have hl : showP T (metB wanted b) i = if r then 1 else 61 := by unfold showP; rw [hr]
  rw [hl]
  have Hr := Lib.hid hr
  have HMr : Hid (∀ X, Calls Try.prog 111 #[.agg #[.int .i64 y, .int .i64 b], .int .i64 (worthOf T i)] X fun e w' => e = .returned (.bool r) ∧ Below X.heap.size X w') := fun X => by rw [← Hr.out]; exact HM.out _ X
  clear ht hW hb hx hy hr HM hl
  generalize worthOf T i = x at HW HMr
  obtain ⟨w1, hw1⟩ : ∃ w1, W.alloc (.cells #[.slice (some ⟨g, 0, none⟩) T.length cap, dv, .int .i64 y, .int .i64 b, kv] 112) = w1 := ⟨_, rfl⟩
  have c2 : w1.cell? ⟨W.heap.size, 2, none⟩ = some (.int .i64 y) := by rw [← hw1]; simp only [World.cell?]; rw [HX.out]; rfl
  have c3 : w1.cell? ⟨W.heap.size, 3, none⟩ = some (.int .i64 b) := by rw [← hw1]; simp only [World.cell?]; rw [HX.out]; rfl
  have c0 : w1.cell? ⟨W.heap.size, 0, none⟩ = some (.slice (some ⟨g, 0, none⟩) T.length cap) := by rw [← hw1]; simp only [World.cell?]; rw [HX.out]; rfl
  have c1 : w1.cell? ⟨W.heap.size, 1, none⟩ = some dv := by rw [← hw1]; simp only [World.cell?]; rw [HX.out]; rfl
  rw [hw1] at HW HB
  have k0 := cell_regrown c0
  have k1 := cell_regrown c1
  have k2 := cell_regrown c2
  have k3 := cell_regrown c3
  have cW : ∀ d os, Calls Try.prog 68 #[.agg #[.slice (some ⟨g, 0, none⟩) T.length cap, dv], .int .i64 i] (grow (redrawn w1 d) os) fun e w'' => e = .returned (.int .i64 x) ∧ ∃ p : Regrown, w'' = grow (redrawn w1 p.d) p.os := fun d os => Calls.regrown_of (HW.out _ (below_regrown w1 d os))
  have cM : ∀ d os, Calls Try.prog 111 #[.agg #[.int .i64 y, .int .i64 b], .int .i64 x] (grow (redrawn w1 d) os) fun e w'' => e = .returned (.bool r) ∧ ∃ p : Regrown, w'' = grow (redrawn w1 p.d) p.os := fun d os => Calls.regrown_of (HMr.out _)
  have Hw1 := Lib.hid hw1
  clear c0 c1 c2 c3 HX hw1 HW HMr
  generalize T.length = n at *
  go_enter Try.func99, Try.ntmps99
  go_wp2
  rw [Hw1.out]
  refine wp_region_quiet_below (by kernel_rfl) (by kernel_rfl) ?_
  repeat (quiet_step (first | exact cW _ _ | exact cM _ _))
  refine wpQuiet_nil ?_
  intro w4 hw4
  obtain ⟨⟨d4, o4⟩, hw4e⟩ := hw4
  have B4 : Hid (Below W.heap.size W w4) := by unfold Hid; rw [hw4e]; exact b_next HB.out (below_regrown _ _ _)
  clear hw4e k0 k1 k2 k3 cW cM
  cases r with
  | true =>
    go_wp2
    go_ret
    exact ⟨rfl, B4.out⟩
  | false =>
    go_wp2
    go_ret
    exact ⟨rfl, B4.out⟩
/-- the costs of what is to be shown -/
def showC (T : Tree) (wanted : Bool) (b : Int) : Nat → Int := costW T (showP T (metB wanted b)) wanted
theorem undrew {X Y : World} {q : Nat} (h : Below (X.drewN q).heap.size (X.drewN q) Y) : Below X.heap.size X Y := ⟨h.os, h.tape, h.output, h.size, h.block⟩
set_option maxRecDepth 100000 in
set_option maxHeartbeats 4000000 in
theorem shown_yes (T : Tree) (hT : treeB T = true) (wanted : Bool) (b : Int) (hb1 : -1000 ≤ b) (hb2 : b ≤ 1000) (hlow : showC T wanted b 0 < 61) (a : Option Addr) (cap : Nat) (w : World) (ht : TreeAt w a T) (hl : ∀ i, (kidsZ T i).length ≤ 1000000) :
    Calls Try.prog 73 #[.slice a T.length cap, .agg #[.int .i64 (byI wanted), .int .i64 b]] w fun e w' => ∃ v, e = .returned (.tuple #[v, .int .i64 0]) ∧ w'.ownsRow w.heap.size 3 1 v (sortN (shownL T (showC T wanted b) wanted)).length (intL (sortN (shownL T (showC T wanted b) wanted))) ∧ Below w.heap.size w w' := by
  have hI := isTree_of hT
  have hn6 := hI.len
  have hn1 := hI.pos
  have hH := costW_heirs hI (showP T (metB wanted b)) wanted
  have hvl := visN_le hI (nx := nxH T (showC T wanted b) wanted) (fun i c hi hc => nxH_kid hH hi hc) (fun i _ => nxH_nodup hI _ _ i) T.length 0 hn1
  have HG := Lib.hid fun W (hW : Below w.heap.size w W) => newGame_yes (cap := cap) hT (ht.below hW) (by omega) hl
  have HB := Lib.hid (isBound_any b)
  rw [decide_eq_true (show -1000 ≤ b ∧ b ≤ 1000 from ⟨hb1, hb2⟩)] at HB
  have HCo := Lib.hid fun (W : World) (g cap' B : Nat) (ht' : TreeAt W (some ⟨g, 0, none⟩) T) (hd' : Deps W B T.length (dep T)) =>
    costs_any T hT wanted b (.slice none 0 0) rfl g cap' B W ht' hd' 99 (.agg #[.slice (some ⟨g, 0, none⟩) T.length cap', .slice (some ⟨B, 0, none⟩) T.length T.length, .int .i64 (byI wanted), .int .i64 b, .slice none 0 0])
      (showP T (metB wanted b)) (fun i => by have := show_range T (metB wanted b) i; rw [wf_iff]; omega) (enters_of Try.func99 (by kernel_rfl) rfl)
      (fun i X hi hX => show_fn T g cap' _ _ rfl rfl wanted b W ht' i X hi hX)
  have HSo := Lib.hid fun (g cap' B M Bn Bs Gb Nb : Nat) (w0 : World) (ht' : TreeAt w0 (some ⟨g, 0, none⟩) T) (hd' : Deps w0 B T.length (dep T)) (hM : NumsAt w0 M T.length 0 (showC T wanted b)) c0 c1 cm c2 g0 g1 n0 => sorted_leaves T hT (showC T wanted b) wanted hH g cap' B M Bn Bs Gb Nb (by omega) w0 ht' hd' hM c0 c1 cm c2 g0 g1 n0
  have Hcw : Hid (costW T (showP T (metB wanted b)) wanted = showC T wanted b) := rfl
  rw [Hcw.out] at HCo
  generalize shownL T (showC T wanted b) wanted = L at HSo ⊢
  generalize showC T wanted b = f at HCo HSo hlow
  obtain ⟨y, hy⟩ : ∃ y, byI wanted = y := ⟨_, rfl⟩
  rw [hy] at HCo HSo ⊢
  generalize T.length = n at *
  have hmf : ∀ (fn : Fn) (first cap : Array Value) (w : World), (Instr.makeFunc fn first cap).run Try.prog w = .ok (.func fn first cap) w := fun _ _ _ _ => rfl
  have B0 := Lib.hid (below_alloc w (.cells #[.int .i64 y, .int .i64 b] 95))
  have X0 := Lib.hid (heap_alloc_new w (.cells #[.int .i64 y, .int .i64 b] 95))
  clear hI hT hH hvl ht hl Hcw hy
  go_enter Try.func73, Try.ntmps73
  go_wp2_with fail
  refine (HG.out _ B0.out).mono ?_
  rintro e w2 ⟨g, cap', B, rfl, ht, hd, b2⟩
  have ba := below_alloc w2 (.cells #[.slice (some ⟨g, 0, none⟩) n cap', .slice (some ⟨B, 0, none⟩) n n] 70)
  have hxc := (ba.block _ (by have := b2.size; have := (Array.getElem?_eq_some_iff.1 X0.out).1; omega)).trans ((b2.block _ (Array.getElem?_eq_some_iff.1 X0.out).1).trans X0.out)
  obtain ⟨p0, p1, -⟩ := two_cells hxc
  have hbx2 := b_next (below_alloc w2 (.cells #[.slice (some ⟨g, 0, none⟩) n cap', .slice (some ⟨B, 0, none⟩) n n] 70)) (below_alloc (w2.alloc (.cells #[.slice (some ⟨g, 0, none⟩) n cap', .slice (some ⟨B, 0, none⟩) n n] 70)) (.cells #[.slice (some ⟨g, 0, none⟩) n cap', .slice (some ⟨B, 0, none⟩) n n, .int .i64 y, .int .i64 b, .slice none 0 0] 112))
  have hgm := (box_next (w := w2) (.cells #[.slice (some ⟨g, 0, none⟩) n cap', .slice (some ⟨B, 0, none⟩) n n] 70) (.cells #[.slice (some ⟨g, 0, none⟩) n cap', .slice (some ⟨B, 0, none⟩) n n, .int .i64 y, .int .i64 b, .slice none 0 0] 112)).1
  have B3 := Lib.hid (b_next (b_next B0.out b2) hbx2)
  have HT3 := Lib.hid (ht.below hbx2)
  have HD3 : Hid (Deps ((w2.alloc (.cells #[.slice (some ⟨g, 0, none⟩) n cap', .slice (some ⟨B, 0, none⟩) n n] 70)).alloc (.cells #[.slice (some ⟨g, 0, none⟩) n cap', .slice (some ⟨B, 0, none⟩) n n, .int .i64 y, .int .i64 b, .slice none 0 0] 112)) B n (dep T)) := World.rowIs.of_block hd (hbx2.block _ hd.lt)
  have Hgm := Lib.hid hgm
  have Hxc := Lib.hid ((hbx2.block _ (by have := b2.size; have := (Array.getElem?_eq_some_iff.1 X0.out).1; omega)).trans ((b2.block _ (Array.getElem?_eq_some_iff.1 X0.out).1).trans X0.out))
  have HCx := Lib.hid (HCo.out _ g cap' B HT3.out HD3.out)
  clear ba hxc hbx2 hgm ht hd b2 HCo HG X0
  go_wp2_with fail
  refine (HB.out _).mono ?_
  rintro e w3 ⟨rfl, hw3⟩
  subst w3
  go_wp2_with fail
  refine HCx.out.mono ?_
  rintro e w4 ⟨rfl, hN, b4⟩
  simp only [World.size_alloc] at hN
  obtain ⟨M, hMe⟩ : ∃ M, w2.heap.size + 1 + 1 + 1 + 1 + 1 + 1 = M := ⟨_, rfl⟩
  have hNM : NumsAt w4 M n 0 f := by rw [← hMe]; exact hN
  have ba := below_alloc w4 (.cells #[.slice (some ⟨g, 0, none⟩) n cap', .slice (some ⟨B, 0, none⟩) n n, .map (some M)] 75)
  have hx5 := heap_alloc_new w4 (.cells #[.slice (some ⟨g, 0, none⟩) n cap', .slice (some ⟨B, 0, none⟩) n n, .map (some M)] 75)
  have hlk : (Instr.lookup 73 (.map (some M)) (.int .i64 0) false).run Try.prog (w4.alloc (.cells #[.slice (some ⟨g, 0, none⟩) n cap', .slice (some ⟨B, 0, none⟩) n n, .map (some M)] 75)) = .ok (.int .i64 (f 0)) (w4.alloc (.cells #[.slice (some ⟨g, 0, none⟩) n cap', .slice (some ⟨B, 0, none⟩) n n, .map (some M)] 75)) := (hNM.below ba).look (j := 0) (Nat.zero_le _) (by omega) (by omega)
  have HN5 := Lib.hid (hNM.below ba)
  have HT5 := Lib.hid ((HT3.out.below b4).below ba)
  have HD5 : Hid (Deps (w4.alloc (.cells #[.slice (some ⟨g, 0, none⟩) n cap', .slice (some ⟨B, 0, none⟩) n n, .map (some M)] 75)) B n (dep T)) := World.rowIs.of_block HD3.out (((ba.block _ (by have := HD3.out.lt; have := b4.size; omega)).trans (b4.block _ HD3.out.lt)))
  have Hgm5 := Lib.hid ((ba.block _ (by have := (Array.getElem?_eq_some_iff.1 Hgm.out).1; have := b4.size; omega)).trans ((b4.block _ (Array.getElem?_eq_some_iff.1 Hgm.out).1).trans Hgm.out))
  have Hxc5 := Lib.hid ((ba.block _ (by have := (Array.getElem?_eq_some_iff.1 Hxc.out).1; have := b4.size; omega)).trans ((b4.block _ (Array.getElem?_eq_some_iff.1 Hxc.out).1).trans Hxc.out))
  have B5 := Lib.hid (b_next (b_next B3.out b4) ba)
  have HX5 := Lib.hid hx5
  have HMe := Lib.hid hMe
  clear hN hNM b4 ba hx5 p0 p1 HCx HT3 HD3 Hgm Hxc B3 B0 HB
  have hl61 : ¬ 61 ≤ f 0 := by omega
  rw [show (((w2.alloc (.cells #[.slice (some ⟨g, 0, none⟩) n cap', .slice (some ⟨B, 0, none⟩) n n] 70)).alloc (.cells #[.slice (some ⟨g, 0, none⟩) n cap', .slice (some ⟨B, 0, none⟩) n n, .int .i64 y, .int .i64 b, .slice none 0 0] 112)).heap.size + 1 + 1 + 1 + 1) = M by rw [← hMe]; simp]
  clear hMe
  go_wp2
  generalize hw5 : w4.alloc (.cells #[.slice (some ⟨g, 0, none⟩) n cap', .slice (some ⟨B, 0, none⟩) n n, .map (some M)] 75) = w5 at HN5 HT5 HD5 Hgm5 Hxc5 B5 HX5 hlk ⊢
  have Hs5 : Hid (w4.heap.size < w5.heap.size) := by unfold Hid; rw [← hw5]; simp
  clear hw5 hlk hl61
  obtain ⟨q0, q1, q2, -⟩ := three_cells HX5.out
  obtain ⟨p0, p1, -⟩ := two_cells Hgm5.out
  obtain ⟨r0, -, -⟩ := two_cells Hxc5.out
  have HK : Hid (∀ X, Below w5.heap.size w5 X → (X.cell? ⟨w2.heap.size, 0, none⟩ = some (.slice (some ⟨g, 0, none⟩) n cap') ∧ X.cell? ⟨w2.heap.size, 1, none⟩ = some (.slice (some ⟨B, 0, none⟩) n n) ∧ X.cell? ⟨w4.heap.size, 0, none⟩ = some (.slice (some ⟨g, 0, none⟩) n cap') ∧ X.cell? ⟨w4.heap.size, 1, none⟩ = some (.slice (some ⟨B, 0, none⟩) n n) ∧ X.cell? ⟨w4.heap.size, 2, none⟩ = some (.map (some M)) ∧ X.cell? ⟨w.heap.size, 0, none⟩ = some (.int .i64 y))) := fun X hX =>
    ⟨(hX.cell (World.block_lt_of_cell? _ _ p0)).trans p0, (hX.cell (World.block_lt_of_cell? _ _ p1)).trans p1, (hX.cell (World.block_lt_of_cell? _ _ q0)).trans q0, (hX.cell (World.block_lt_of_cell? _ _ q1)).trans q1, (hX.cell (World.block_lt_of_cell? _ _ q2)).trans q2, (hX.cell (World.block_lt_of_cell? _ _ r0)).trans r0⟩
  have HSx := Lib.hid fun Bn Bs Gb Nb (X : World) (hX : Below w5.heap.size w5 X) c0 c1 cm c2 g0 g1 n0 => HSo.out g cap' B M Bn Bs Gb Nb X (HT5.out.below hX) (World.rowIs.of_block HD5.out (hX.block _ HD5.out.lt)) (HN5.out.below hX) c0 c1 cm c2 g0 g1 n0
  clear HSo HN5 HT5 HD5 Hgm5 Hxc5 HX5
  go_region_held3 (fun w' => w'.cell? ⟨w2.heap.size, 0, none⟩ = some (.slice (some ⟨g, 0, none⟩) n cap') ∧ w'.cell? ⟨w2.heap.size, 1, none⟩ = some (.slice (some ⟨B, 0, none⟩) n n) ∧ w'.cell? ⟨w4.heap.size, 0, none⟩ = some (.slice (some ⟨g, 0, none⟩) n cap') ∧ w'.cell? ⟨w4.heap.size, 1, none⟩ = some (.slice (some ⟨B, 0, none⟩) n n) ∧ w'.cell? ⟨w4.heap.size, 2, none⟩ = some (.map (some M)) ∧ w'.cell? ⟨w.heap.size, 0, none⟩ = some (.int .i64 y))
    (first | exact ⟨p0, p1, q0, q1, q2, r0⟩ | exact HK.out _ bx1 | exact HK.out _ bx2 | exact HK.out _ bx3)
    (first
      | (go_at_call 65
         refine (heirsOf_call _ _ _ _ rfl _ _ rfl rfl rfl).mono ?_
         rintro e x1 ⟨rfl, hx1⟩
         have bx1 : Below w5.heap.size w5 x1 := by rw [hx1]; exact undrew (four_b _ _)
         have yn1 : x1.heap[w5.heap.size]? = some (.cells #[.slice (some ⟨g, 0, none⟩) n cap', .slice (some ⟨B, 0, none⟩) n n, .map (some M)] 75) := by rw [hx1]; exact (box_next _ _).1
         have ys1 : x1.heap[w5.heap.size + 1]? = some (.cells #[.int .i64 y] 90) := by rw [hx1]; exact (box_next _ _).2
         have yl1 : x1.heap.size = w5.heap.size + 1 + 1 := by rw [hx1]; simp
         clear hx1)
      | (go_at_call 80
         refine ((callsIn_wide (n := 1)).1 (leaves_in _ _ _ _ rfl _ _ 1 _)).mono ?_
         rintro e x2 ⟨rfl, hx2⟩
         have b12 : Below x1.heap.size x1 x2 := by rw [hx2]; exact four_b _ _
         have bx2 := b_next bx1 b12
         have yg2 : x2.heap[x1.heap.size]? = some (.cells #[.slice (some ⟨g, 0, none⟩) n cap', .slice (some ⟨B, 0, none⟩) n n] 70) := by rw [hx2]; exact (box_next _ _).1
         have yf2 : x2.heap[x1.heap.size + 1]? = some (.cells #[.func (.func 96) #[] #[.pointer (some ⟨w5.heap.size, 0, none⟩), .pointer (some ⟨w5.heap.size + 1, 0, none⟩)]] 88) := by rw [hx2]; exact (box_next _ _).2
         have yn2 : x2.cell? ⟨w5.heap.size, 0, none⟩ = some (.slice (some ⟨g, 0, none⟩) n cap') ∧ x2.cell? ⟨w5.heap.size, 1, none⟩ = some (.slice (some ⟨B, 0, none⟩) n n) ∧ x2.cell? ⟨w5.heap.size, 2, none⟩ = some (.map (some M)) := by
           obtain ⟨h1, h2, h3, -⟩ := three_cells ((b12.block _ (by omega)).trans yn1)
           exact ⟨h1, h2, h3⟩
         have ys2 : x2.cell? ⟨w5.heap.size + 1, 0, none⟩ = some (.int .i64 y) := by
           simp only [World.cell?]; rw [(b12.block _ (by omega)).trans ys1]; rfl
         rw [yl1] at yg2 yf2
         have yg2c : x2.cell? ⟨w5.heap.size + 1 + 1, 0, none⟩ = some (.slice (some ⟨g, 0, none⟩) n cap') ∧ x2.cell? ⟨w5.heap.size + 1 + 1, 1, none⟩ = some (.slice (some ⟨B, 0, none⟩) n n) := by
           obtain ⟨h1, h2, -⟩ := two_cells yg2
           exact ⟨h1, h2⟩
         have yf2c : x2.cell? ⟨w5.heap.size + 1 + 1 + 1, 0, none⟩ = some (.func (.func 96) #[] #[.pointer (some ⟨w5.heap.size, 0, none⟩), .pointer (some ⟨w5.heap.size + 1, 0, none⟩)]) := by
           simp only [World.cell?]; rw [yf2]; rfl
         clear hx2)
      | (go_at_call 100
         refine (HSx.out w5.heap.size (w5.heap.size + 1) (w5.heap.size + 1 + 1) (w5.heap.size + 1 + 1 + 1) x2 bx2 yn2.1 yn2.2.1 yn2.2.2 ys2 yg2c.1 yg2c.2 yf2c).mono ?_
         rintro e x3 ⟨v, rfl, ho, b3⟩
         have bx3 := b_next bx2 b3))
  go_wp2_with fail
  have hle : w.heap.size ≤ x2.heap.size := by
    have := B5.out.size; have := bx2.size; have := Hs5.out; have := (below_alloc w (.cells #[.int .i64 y, .int .i64 b] 95)).size; simp at this; omega
  exact bodyPost_ret (results_tmp2 rfl _ _ _) rfl ⟨_, rfl, own_base ho hle, b_next B5.out bx3⟩
end Go.Proofs.Ytbbidgdgcbnanaa
