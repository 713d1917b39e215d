/- The law's tame: a tree out of any parents and worths. -/
import Derived.Test.YtbbidgdgcbnanaaSep
import Derived.Test.YtbbidgdgcbnanaaTmm
import Derived.Test.YtbbidgdgcbnanaaInts
import Derived.Test.YtbbidgdgcbnanaaGame
namespace Go.Proofs.Ytbbidgdgcbnanaa
set_option linter.unusedVariables false
open Go.RowKit

/-- the parent of a node, out of a list -/
def parV (ps : List Int) (i : Nat) : Nat := modV (ps.getD (i - 1) 0) i
theorem parV_lt (ps : List Int) (i : Nat) (hi : 1 ≤ i) : parV ps i < i := modV_lt _ _ hi
/-- the lists of children of the first i nodes -/
def linesP (par : Nat → Nat) (i : Nat) : List (List Int) := (List.range i).map fun k => (kidsP par i k).map fun j : Nat => (j : Int)
theorem intL_snoc (l : List Int) (x : Int) : intL (l ++ [x]) = intL l ++ [.int .i64 x] := by unfold intL; rw [List.map_append]; rfl
theorem linesP_len (par : Nat → Nat) (i : Nat) : (linesP par i).length = i := by simp [linesP]
theorem linesP_at (par : Nat → Nat) {i k : Nat} (h : k < i) : (linesP par i)[k]? = some ((kidsP par i k).map fun j : Nat => (j : Int)) := by
  unfold linesP
  rw [List.getElem?_map, List.getElem?_range h]; rfl
theorem linesP_step {par : Nat → Nat} (hp : ∀ j, 1 ≤ j → par j < j) {i : Nat} (hi : 1 ≤ i) : linesP par (i + 1) = (linesP par i ++ [[]]).set (par i) ((kidsP par i (par i)).map (fun j : Nat => (j : Int)) ++ [(i : Int)]) := by
  have hpi := hp i hi
  apply List.ext_getElem?
  intro k
  by_cases hk : k < i + 1
  · rw [linesP_at par hk, kidsP_step par i k hi]
    by_cases e : par i = k
    · subst e
      rw [if_pos rfl, List.getElem?_set_self (by rw [List.length_append, linesP_len]; simp; omega), List.map_append]; rfl
    · rw [if_neg e, List.append_nil, List.getElem?_set_ne e]
      by_cases hk2 : k < i
      · rw [List.getElem?_append_left (by rw [linesP_len]; exact hk2), linesP_at par hk2]
      · obtain rfl : k = i := by omega
        rw [List.getElem?_append_right (by rw [linesP_len]; exact Nat.le_refl _), linesP_len, Nat.sub_self, kidsP_none par hp (by omega)]; rfl
  · rw [List.getElem?_eq_none (by rw [linesP_len]; omega), List.getElem?_eq_none (by rw [List.length_set, List.length_append, linesP_len]; simp; omega)]
theorem linesP_one (par : Nat → Nat) (hp : ∀ j, 1 ≤ j → par j < j) : linesP par 1 = [[]] := by
  unfold linesP
  rw [show List.range 1 = [0] from rfl, List.map_cons, kidsP_none par hp (by omega)]; rfl
theorem info_move : (Try.prog.info? 62).map (fun i => (i.zero, i.size, i.bytes)) = some (some (.agg #[.slice none 0 0, .int .i64 0]), 2, 32) := by kernel_rfl
/-- the worth of a leaf, out of a list -/
def worV (ws : List Int) (i : Nat) : Int := if i < ws.length then (modV (ws.getD i 0) 201 : Int) - 100 else 0
theorem worV_in (ws : List Int) (i : Nat) : -100 ≤ worV ws i ∧ worV ws i ≤ 100 := by
  unfold worV
  split
  · have := modV_lt (ws.getD i 0) 201 (by omega); omega
  · omega
theorem own_sl2 {w : World} {base n : Nat} {e : TypeId} {v : Value} {xs : List Value} (h : w.ownsRow base e 2 v n xs) : ∃ a c, v = .slice a n c := by
  rcases h.2 with ⟨h1, h2⟩ | ⟨g', c', _, h1, _⟩
  · subst h2; exact ⟨none, 0, h1⟩
  · exact ⟨_, _, h1⟩
theorem two_new (w : World) (x y : Value) (t : TypeId) (n : Nat) (hn : n = w.heap.size) : ∀ j u, [x, y][j]? = some u → (w.alloc (.cells #[x, y] t)).cell? ((⟨n, 0, none⟩ : Addr).add j) = some u := by
  subst hn
  intro j u h
  match j, h with
  | 0, h => simp at h; subst h; rw [addr_add, Nat.zero_add, World.cell?_alloc_at _ _ _ _ rfl]; rfl
  | 1, h => simp at h; subst h; rw [addr_add, World.cell?_alloc_at _ _ _ _ rfl]; rfl
  | j + 2, h => simp at h
/-- the cells of n moves -/
def flatC (cel : Nat → Value) (wt : Nat → Int) : Nat → List Value
  | 0 => []
  | n + 1 => flatC cel wt n ++ [cel n, .int .i64 (wt n)]
theorem flatC_len (cel : Nat → Value) (wt : Nat → Int) : ∀ n, (flatC cel wt n).length = n * 2
  | 0 => rfl
  | n + 1 => by unfold flatC; rw [List.length_append, flatC_len cel wt n]; simp; omega
theorem flatC_get (cel : Nat → Value) (wt : Nat → Int) : ∀ n i, i < n → (flatC cel wt n)[i * 2]? = some (cel i) ∧ (flatC cel wt n)[i * 2 + 1]? = some (.int .i64 (wt i))
  | 0, i, h => by omega
  | n + 1, i, h => by
    unfold flatC
    by_cases e : i < n
    · rw [List.getElem?_append_left (by rw [flatC_len]; omega), List.getElem?_append_left (by rw [flatC_len]; omega)]
      exact flatC_get cel wt n i e
    · obtain rfl : i = n := by omega
      rw [List.getElem?_append_right (by rw [flatC_len]; omega), List.getElem?_append_right (by rw [flatC_len]; omega), flatC_len]
      constructor
      · rw [Nat.sub_self]; rfl
      · rw [show i * 2 + 1 - i * 2 = 1 by omega]; rfl
set_option maxRecDepth 100000 in
set_option maxHeartbeats 4000000 in
theorem tame_any (pa : Option Addr) (pn pc : Nat) (ps : List Int) (wa : Option Addr) (wn wc : Nat) (ws : List Int) (most : Nat) (w : World) (hps : ps.length = pn) (hpr : ∀ j x, ps[j]? = some x → ∃ ad, pa = some ad ∧ w.cell? (ad.add j) = some (.int .i64 x)) (hws : ws.length = wn) (hwr : ∀ j x, ws[j]? = some x → ∃ ad, wa = some ad ∧ w.cell? (ad.add j) = some (.int .i64 x)) (hm : 1 ≤ most) (hm2 : most ≤ 60) :
    Calls Try.prog 50 #[.slice pa pn pc, .slice wa wn wc, .int .i64 most] w fun e w' => ∃ g c, e = .returned (.slice (some ⟨g, 0, none⟩) (min most (pn + 1)) c) ∧ TreeAt w' (some ⟨g, 0, none⟩) (tamT (parV ps) (worV ws) (min most (pn + 1))) ∧ Below w.heap.size w w' := by
  obtain ⟨i0, hi, hz0, hz1, hz2⟩ := info_parts info_ints
  obtain ⟨j0, hj, hy0, hy1, hy2⟩ := info_parts info_int
  obtain ⟨m0, hmm, hx0, hx1, hx2⟩ := info_parts info_move
  have hpar := fun j (h : 1 ≤ j) => parV_lt ps j h
  have Hws := Lib.hid hws
  have Hwr := Lib.hid hwr
  have Hps := Lib.hid hps
  have Hpr := Lib.hid hpr
  have Hpar := Lib.hid hpar
  have Hone := Lib.hid (linesP_one (parV ps) hpar)
  have Hpv : Hid (∀ k x, ps[k]? = some x → parV ps (k + 1) = modV x (k + 1)) := fun k x hx => by
    unfold parV
    rw [Nat.add_sub_cancel, List.getD_eq_getElem?_getD, hx]; rfl
  have Hstep := Lib.hid fun i (h : 1 ≤ i) => linesP_step hpar h
  obtain ⟨par, hpe⟩ : ∃ par, parV ps = par := ⟨_, rfl⟩
  rw [hpe] at Hpar Hone Hpv Hstep ⊢
  clear hps hpr hpar hpe hws hwr
  obtain ⟨N, hN⟩ : ∃ N, min most (pn + 1) = N := ⟨_, rfl⟩
  rw [hN]
  go_enter Try.func50, Try.ntmps50
  go_wp2_with (at_builtin; refine wpList_append_own _ rfl _ _ 103 rfl w.heap.size 27 i0 (.slice none 0 0) 1 24 Try.underlying103 hi hz0 hz1 hz2 rfl (by decide) _ _ _ rfl (World.ownsRow_nil _ w.heap.size 27 1) ⟨_, 0, none⟩ 1 1 [.slice none 0 0] rfl rfl (one_new _ _ _ _ (by simp)) (by simp [Value.oneCell']) (by unfold maxLen; omega) (by omega) (by simp) ?_)
  intro v1 w1 hown1 hgrow1 _
  have hS1 : Sep w1 w.heap.size v1 [[]] := Sep.push (w := w) (wr := w) (line := []) (r := .slice none 0 0) (Ls := []) (hs := []) (World.ownsRow_nil _ _ _ _) (fun i line h => by simp at h) (fun i j u u' b h => by simp at h) (fun i u b h => by simp at h) (World.ownsRow_nil _ _ _ _) (Nat.le_refl _) hgrow1 hown1
  have hB1 : Below w.heap.size w w1 := (below_alloc w _).grown hgrow1 (below_alloc w _).size (fun k e => by cases e)
  have HS1 : Hid (Sep w1 w.heap.size v1 (linesP par 1)) := by unfold Hid; rw [Hone.out]; exact hS1
  have HB1 := Lib.hid hB1
  clear hS1 hB1 hown1 hgrow1 Hone
  go_wp2
  go_loopw [7, 8, 9, 10] (fun v i _ _ wr => ∃ k : Nat, k + 1 ≤ N ∧ i = .int .i64 ((k + 1 : Nat) : Int) ∧ Hid (Sep wr w.heap.size v (linesP par (k + 1))) ∧ Hid (Below w.heap.size w wr)) (fun _ i _ _ _ => N - (intOf i).toNat)
  case atStart => exact ⟨0, by omega, rfl, HS1, HB1⟩
  case round =>
    clear HS1 HB1
    obtain ⟨k, hk, rfl, HS, HB⟩ := hrel
    obtain ⟨hs0, ho0, -, -, -⟩ := HS.out
    rw [linesP_len] at ho0
    obtain ⟨g, cap, hv⟩ := ownsRow_succ ho0
    subst hv
    clear ho0
    by_cases hlt : k + 1 < N
    · have hc1 : ((k + 1 : Nat) : Int) < (most : Int) := by omega
      have hc2 : ((k + 1 : Nat) : Int) ≤ (pn : Int) := by omega
      obtain ⟨x, hx⟩ : ∃ x, ps[k]? = some x := ⟨_, List.getElem?_eq_getElem (by have := Hps.out; omega)⟩
      obtain ⟨ad, hpa, hc⟩ := Hpr.out k x hx
      have hcell := (HB.out.cell (World.block_lt_of_cell? _ _ hc)).trans hc
      have HM := Lib.hid fun W => mod_val x (k + 1) W (by omega) (by omega)
      rw [← Hpv.out k x hx] at HM
      have Hpk := Lib.hid (Hpar.out (k + 1) (by omega))
      have Hst := Lib.hid (Hstep.out (k + 1) (by omega))
      have hat := linesP_at par Hpk.out
      subst hpa
      generalize par (k + 1) = p at HM Hpk Hst hat
      rw [show ((k + 1 : Nat) : Int) = (k : Int) + 1 from rfl] at HM hc1 hc2
      obtain ⟨hs, ho, hl, hd, hold⟩ := HS.out.step (Below.refl wr.heap.size wr)
      have HOl := Lib.hid ho
      rw [linesP_len] at ho
      have HO := Lib.hid ho
      have HL := Lib.hid hl
      have HD := Lib.hid hd
      have HOld := Lib.hid hold
      have Hat := Lib.hid hat
      have Hb0 := Lib.hid HB.out.size
      clear ho hl hd hold hat hx hc HS hs0
      go_wp2_with fail
      refine (HM.out _).mono ?_
      rintro e w4 ⟨rfl, hw4⟩
      subst w4
      clear hcell HM
      go_wp2_with (at_builtin; refine wpList_append_own _ rfl _ _ 103 rfl w.heap.size 27 i0 (.slice none 0 0) 1 24 Try.underlying103 hi hz0 hz1 hz2 rfl (by decide) _ _ _ rfl (HO.out.alloc (.cells #[.slice none 0 0] 27)) ⟨_, 0, none⟩ 1 1 [.slice none 0 0] rfl rfl (one_new _ _ _ _ (by simp)) (by simp [Value.oneCell']) (by unfold maxLen; omega) (by omega) (by have := Hb0.out; simp; omega) ?_)
      intro v2 w6 hown2 hgrow2 _
      have hS6 : Sep w6 w.heap.size v2 (linesP par (k + 1) ++ [[]]) := Sep.push (w := wr) (wr := wr) (line := []) (r := .slice none 0 0) HOl.out HL.out HD.out HOld.out (World.ownsRow_nil _ _ _ _) Hb0.out hgrow2 (by rw [linesP_len]; exact hown2)
      have hB6 : Below w.heap.size w w6 := (HB.out.alloc Hb0.out _).grown hgrow2 (Nat.le_trans Hb0.out (below_alloc wr _).size) (fun k e => (HO.out.lt _ e).1)
      obtain ⟨g2, cap2, hv2⟩ := ownsRow_succ hown2
      subst hv2
      clear hown2 hgrow2 HOl HO HL HD HOld HB
      obtain ⟨hs2, ho2, hl2, hd2, hold2⟩ := hS6.step (Below.refl w6.heap.size w6)
      rw [List.length_append, linesP_len] at ho2
      simp only [List.length_singleton] at ho2
      have hat2 : (linesP par (k + 1) ++ [[]])[p]? = some ((kidsP par (k + 1) p).map fun j : Nat => (j : Int)) := by rw [List.getElem?_append_left (by rw [linesP_len]; exact Hpk.out)]; exact Hat.out
      obtain ⟨u, hu1, hu2⟩ := hl2 p _ hat2
      obtain ⟨ua, uc, hu3, -, -⟩ := own_slice hu2
      subst hu3
      have cu := (ho2.cellAt p (by have := Hpk.out; omega)).trans hu1
      have hp1 : (p : Int) < (k : Int) + 1 + 1 := by have := Hpk.out; omega
      have HO2 := Lib.hid ho2
      have HL2 := Lib.hid hl2
      have HD2 := Lib.hid hd2
      have HU1 := Lib.hid hu1
      have HU2 := Lib.hid hu2
      have HAt2 := Lib.hid hat2
      have HB6 := Lib.hid hB6
      have Hb6 := Lib.hid hB6.size
      clear ho2 hl2 hd2 hu1 hu2 hat2 hB6 hS6 hold2
      have hln : ((kidsP par (k + 1) p).map (fun j : Nat => (j : Int))).length ≤ 1000 := by
        rw [List.length_map]
        unfold kidsP
        have := List.length_filter_le (fun j => decide (1 ≤ j) && decide (par j = p)) (List.range (k + 1))
        rw [List.length_range] at this
        omega
      generalize (kidsP par (k + 1) p).map (fun j : Nat => (j : Int)) = ln at *
      obtain ⟨m, hm⟩ : ∃ m, ln.length = m := ⟨_, rfl⟩
      rw [hm] at cu hln
      have HU2m := Lib.hid HU2.out
      unfold Hid at HU2m
      rw [hm] at HU2m
      have HU3 := Lib.hid HU2m
      have Hm := Lib.hid hm
      clear hm HU2m
      go_wp2_with (at_builtin; refine wpList_append_own_at _ rfl _ _ 27 rfl w.heap.size 3 j0 (.int .i64 0) 1 8 Try.underlying27 hj hy0 hy1 hy2 rfl (by decide) _ _ _ rfl (HU3.out.alloc (.cells #[.int .i64 ((k : Int) + 1)] 3)) ⟨_, 0, none⟩ 1 1 [.int .i64 ((k : Int) + 1)] rfl rfl (one_new _ _ _ _ (by simp)) (by simp [Value.oneCell']) (by unfold maxLen; omega) (by omega) (by have := Hb6.out; simp; omega) ?_)
      intro v3 w9 hown3 hgrow3 _ hblk3
      rw [← Hm.out] at hown3 hgrow3 hblk3
      have htab := table_kept HO2.out HL2.out HU1.out HAt2.out hgrow3
      have cst := htab.cellAt p (by have := Hpk.out; omega)
      rw [HU1.out] at cst
      have cfz := htab.frozenAt p
      have hS9 : Sep (w9.setCell ⟨g2, p, none⟩ v3) w.heap.size (.slice (some ⟨g2, 0, none⟩) (k + 1 + 1) cap2) ((linesP par (k + 1) ++ [[]]).set p (ln ++ [((k + 1 : Nat) : Int)])) :=
        Sep.grow (by rw [List.length_append, linesP_len]; rfl) HO2.out HL2.out HD2.out HU1.out HAt2.out hgrow3 (by rw [List.length_append, intL_snoc]; exact hown3) (by rw [World.size_alloc]; exact hblk3)
      rw [← Hst.out] at hS9
      have hB9 : Below w.heap.size w (w9.setCell ⟨g2, p, none⟩ v3) := (((HB6.out.alloc Hb6.out _).grown hgrow3 (Nat.le_trans Hb6.out (below_alloc w6 _).size) (fun k e => (HU2.out.lt _ e).1))).setCell (p := ⟨g2, p, none⟩) (HO2.out.lt g2 rfl).1 v3
      have HS9 := Lib.hid hS9
      have HB9 := Lib.hid hB9
      obtain ⟨g3, cap3, hv3⟩ := ownsRow_succ hown3
      subst hv3
      clear htab hown3 hgrow3 hblk3 hS9 hB9 cu HO2 HL2 HD2 HU1 HU2 HU3 HAt2 HB6 Hst
      go_wp2
      go_roundw
      case rel => exact ⟨k + 1, by omega, by first | rfl | (congr 1; omega), HS9, HB9⟩
      case measure => simp [intOf]; omega
    · obtain rfl : k + 1 = N := by omega
      have hc1 : ¬ (((k : Int) + 1 < (most : Int)) ∧ ((k : Int) + 1 ≤ (pn : Int))) := by omega
      obtain ⟨hs, ho, hl, -, hold⟩ := HS.out.step (Below.refl wr.heap.size wr)
      rw [linesP_len] at ho
      have HO := Lib.hid ho
      have HL := Lib.hid hl
      clear ho hl hold HS hs0 Hpr Hpar Hpv Hstep
      obtain ⟨w2, rfl⟩ : ∃ w2 : World, w2 = wr := ⟨_, rfl⟩
      obtain ⟨wt, hwt⟩ : ∃ wt : Nat → Int, (fun q => if kidsP par (k + 1) q = [] then worV ws q else 0) = wt := ⟨_, rfl⟩
      have Hwt : Hid (∀ q, wt q = if kidsP par (k + 1) q = [] then worV ws q else 0) := fun q => by rw [← hwt]
      have Hn6 : Hid (k + 1 ≤ 60) := by unfold Hid; omega
      have HWW := Lib.hid HB.out
      clear hwt hN hlt hm2 hi hz0 hz1 hz2 hj hy0 hy1 hy2 i0 j0
      go_wp2
      all_goals
        go_loopw [11, 12, 13] (fun v i _ wr => ∃ (j : Nat) (va : Option Addr) (vc : Nat), j ≤ k + 1 ∧ i = .int .i64 j ∧ v = .slice va j vc ∧ Hid (wr.ownsRow w2.heap.size 62 2 (.slice va j vc) j (flatC (fun q => hs.getD q undef) wt j)) ∧ Hid (Below w2.heap.size w2 wr)) (fun _ i _ _ => k + 1 - (intOf i).toNat)
        case atStart => exact ⟨0, none, 0, Nat.zero_le _, rfl, rfl, World.ownsRow_nil _ _ _ _, Below.refl _ _⟩
        case round =>
          obtain ⟨j, va, vc, hjk, rfl, rfl, HV, HB2⟩ := hrel
          by_cases hlt : j < k + 1
          · have hc : (j : Int) < (k : Int) + 1 := by omega
            obtain ⟨u, hu1, hu2⟩ := HL.out j _ (linesP_at par hlt)
            have Hcel : Hid (hs.getD j undef = u) := by unfold Hid; rw [List.getD_eq_getElem?_getD, hu1]; rfl
            obtain ⟨ua, uc, hu3, -, -⟩ := own_slice hu2
            subst hu3
            have cu := (HB2.out.cell (p := ⟨g, j, none⟩) (HO.out.lt g rfl).2).trans ((HO.out.cellAt j (by omega)).trans hu1)
            have hm0 : ((kidsP par (k + 1) j).map fun j : Nat => (j : Int)).length = 0 ↔ kidsP par (k + 1) j = [] := by rw [List.length_map]; exact List.length_eq_zero_iff
            obtain ⟨m, hm⟩ : ∃ m, ((kidsP par (k + 1) j).map fun j : Nat => (j : Int)).length = m := ⟨_, rfl⟩
            rw [hm] at cu hm0
            rw [hm] at Hcel
            have Hm0 := Lib.hid hm0
            clear hu1 hu2 hm hm0
            have cu2 := ((below_alloc wr (.cells #[.slice ua m uc, .int .i64 0] 62)).cell (p := ⟨g, j, none⟩) (World.block_lt_of_cell? _ _ cu)).trans cu
            have Hb2 := Lib.hid HB2.out.size
            have hj60 : j ≤ 100 := by have := Hn6.out; omega
            by_cases hcond : m = 0 ∧ j < wn
            · obtain ⟨rfl, hjw⟩ := hcond
              have hc4 : (j : Int) < (wn : Int) := by omega
              obtain ⟨x, hx⟩ : ∃ x, ws[j]? = some x := ⟨_, List.getElem?_eq_getElem (by have := Hws.out; omega)⟩
              have Hwj : Hid (wt j = (modV x 201 : Int) - 100) := by
                unfold Hid
                rw [Hwt.out, if_pos (Hm0.out.1 rfl)]
                unfold worV
                rw [if_pos (by rw [Hws.out]; exact hjw), List.getD_eq_getElem?_getD, hx]; rfl
              obtain ⟨ad, hwa, hcx⟩ := Hwr.out j x hx
              have hcx2 := ((HWW.out.trans (HB2.out.mono HWW.out.size)).cell (World.block_lt_of_cell? _ _ hcx)).trans hcx
              have hcx3 := ((below_alloc wr (.cells #[.slice ua 0 uc, .int .i64 0] 62)).cell (World.block_lt_of_cell? _ _ hcx2)).trans hcx2
              subst hwa
              have HM := Lib.hid fun W => mod_val x 201 W (by omega) (by omega)
              have hmr := modV_lt x 201 (by omega)
              generalize modV x 201 = z at HM Hwj hmr
              clear hcx hcx2 hx
              go_wp2_with fail
              refine (HM.out _).mono ?_
              rintro e w4 ⟨rfl, hw4⟩
              subst w4
              go_wp2_with (at_builtin; refine wpList_append_own _ rfl _ _ 22 rfl w2.heap.size 62 m0 (.agg #[.slice none 0 0, .int .i64 0]) 2 32 Try.underlying22 hmm hx0 hx1 hx2 rfl (by decide) _ _ _ rfl ((HV.out.alloc (.cells #[.slice ua 0 uc, .int .i64 ((z : Int) - 100)] 62)).alloc (.cells #[.slice ua 0 uc, .int .i64 ((z : Int) - 100)] 62)) ⟨_, 0, none⟩ 1 1 [.slice ua 0 uc, .int .i64 ((z : Int) - 100)] rfl rfl (two_new _ _ _ _ _ (by simp)) (by simp [Value.oneCell']) (by have := Hn6.out; unfold maxLen; omega) (by have := Hn6.out; omega) (by have := Hb2.out; simp; omega) ?_)
              intro v9 w9 hown9 hgrow9 _
              have hB9 : Below w2.heap.size w2 w9 := (((HB2.out.alloc Hb2.out _).alloc (Nat.le_trans Hb2.out (below_alloc wr _).size) _).grown hgrow9 (by have := Hb2.out; simp; omega) (fun q e => (HV.out.lt _ e).1))
              obtain ⟨a9, c9, hv9⟩ := own_sl2 hown9
              subst hv9
              have hO9 : Hid (w9.ownsRow w2.heap.size 62 2 (.slice a9 (j + 1) c9) (j + 1) (flatC (fun q => hs.getD q undef) wt (j + 1))) := by
                unfold Hid
                show w9.ownsRow _ _ _ _ _ (flatC (fun q => hs.getD q undef) wt j ++ [hs.getD j undef, .int .i64 (wt j)])
                rw [Hcel.out, Hwj.out]; exact hown9
              have HB9 := Lib.hid hB9
              clear hown9 hgrow9 hB9 HV HB2 cu cu2
              go_wp2
              go_roundw
              case rel => exact ⟨j + 1, a9, c9, by omega, by first | rfl | (congr 1; omega), rfl, hO9, HB9⟩
              case measure => simp [intOf]; omega
            · by_cases hm1 : m = 0
              · have hc4 : ¬ ((j : Int) < (wn : Int)) := by omega
                subst hm1
                have Hwj : Hid (wt j = 0) := by
                  unfold Hid
                  rw [Hwt.out, if_pos (Hm0.out.1 rfl)]
                  unfold worV
                  rw [if_neg (by rw [Hws.out]; omega)]
                clear hcond
                go_wp2_with (at_builtin; refine wpList_append_own _ rfl _ _ 22 rfl w2.heap.size 62 m0 (.agg #[.slice none 0 0, .int .i64 0]) 2 32 Try.underlying22 hmm hx0 hx1 hx2 rfl (by decide) _ _ _ rfl ((HV.out.alloc (.cells #[.slice ua 0 uc, .int .i64 0] 62)).alloc (.cells #[.slice ua 0 uc, .int .i64 0] 62)) ⟨_, 0, none⟩ 1 1 [.slice ua 0 uc, .int .i64 0] rfl rfl (two_new _ _ _ _ _ (by simp)) (by simp [Value.oneCell']) (by have := Hn6.out; unfold maxLen; omega) (by have := Hn6.out; omega) (by have := Hb2.out; simp; omega) ?_)
                intro v9 w9 hown9 hgrow9 _
                have hB9 : Below w2.heap.size w2 w9 := (((HB2.out.alloc Hb2.out _).alloc (Nat.le_trans Hb2.out (below_alloc wr _).size) _).grown hgrow9 (by have := Hb2.out; simp; omega) (fun q e => (HV.out.lt _ e).1))
                obtain ⟨a9, c9, hv9⟩ := own_sl2 hown9
                subst hv9
                have hO9 : Hid (w9.ownsRow w2.heap.size 62 2 (.slice a9 (j + 1) c9) (j + 1) (flatC (fun q => hs.getD q undef) wt (j + 1))) := by
                  unfold Hid
                  show w9.ownsRow _ _ _ _ _ (flatC (fun q => hs.getD q undef) wt j ++ [hs.getD j undef, .int .i64 (wt j)])
                  rw [Hcel.out, Hwj.out]; exact hown9
                have HB9 := Lib.hid hB9
                clear hown9 hgrow9 hB9 HV HB2 cu cu2
                go_wp2
                go_roundw
                case rel => exact ⟨j + 1, a9, c9, by omega, by first | rfl | (congr 1; omega), rfl, hO9, HB9⟩
                case measure => simp [intOf]; omega
              · have hc4 : ¬ ((m : Int) = 0) := by omega
                have Hwj : Hid (wt j = 0) := by
                  unfold Hid
                  rw [Hwt.out, if_neg (fun h => hm1 (Hm0.out.2 h))]
                clear hcond
                go_wp2_with (at_builtin; refine wpList_append_own _ rfl _ _ 22 rfl w2.heap.size 62 m0 (.agg #[.slice none 0 0, .int .i64 0]) 2 32 Try.underlying22 hmm hx0 hx1 hx2 rfl (by decide) _ _ _ rfl ((HV.out.alloc (.cells #[.slice ua m uc, .int .i64 0] 62)).alloc (.cells #[.slice ua m uc, .int .i64 0] 62)) ⟨_, 0, none⟩ 1 1 [.slice ua m uc, .int .i64 0] rfl rfl (two_new _ _ _ _ _ (by simp)) (by simp [Value.oneCell']) (by have := Hn6.out; unfold maxLen; omega) (by have := Hn6.out; omega) (by have := Hb2.out; simp; omega) ?_)
                intro v9 w9 hown9 hgrow9 _
                have hB9 : Below w2.heap.size w2 w9 := (((HB2.out.alloc Hb2.out _).alloc (Nat.le_trans Hb2.out (below_alloc wr _).size) _).grown hgrow9 (by have := Hb2.out; simp; omega) (fun q e => (HV.out.lt _ e).1))
                obtain ⟨a9, c9, hv9⟩ := own_sl2 hown9
                subst hv9
                have hO9 : Hid (w9.ownsRow w2.heap.size 62 2 (.slice a9 (j + 1) c9) (j + 1) (flatC (fun q => hs.getD q undef) wt (j + 1))) := by
                  unfold Hid
                  show w9.ownsRow _ _ _ _ _ (flatC (fun q => hs.getD q undef) wt j ++ [hs.getD j undef, .int .i64 (wt j)])
                  rw [Hcel.out, Hwj.out]; exact hown9
                have HB9 := Lib.hid hB9
                clear hown9 hgrow9 hB9 HV HB2 cu cu2
                go_wp2
                go_roundw
                case rel => exact ⟨j + 1, a9, c9, by omega, by first | rfl | (congr 1; omega), rfl, hO9, HB9⟩
                case measure => simp [intOf]; omega
          · obtain rfl : j = k + 1 := by omega
            have hc : ¬ (((k + 1 : Nat) : Int) < (k : Int) + 1) := by omega
            have hV := HV.out
            obtain ⟨g9, c9, hv9⟩ := ownsRow_succ hV
            have hT : Hid (TreeAt wr (some ⟨g9, 0, none⟩) (tamT par (worV ws) (k + 1))) := by
              intro _
              rw [hv9] at hV
              refine ⟨g9, rfl, (hV.lt g9 rfl).2, fun i mv hi => ?_⟩
              have hik : i < k + 1 := by have := (List.getElem?_eq_some_iff.1 hi).1; rw [tamT_len] at this; exact this
              obtain ⟨u, hu1, hu2⟩ := HL.out i _ (linesP_at par hik)
              obtain ⟨ua, uc, hu3, hle, hR⟩ := own_slice hu2
              have hmv : mv = ((kidsP par (k + 1) i).map fun j : Nat => (j : Int), if kidsP par (k + 1) i = [] then worV ws i else 0) := by
                have h1 := nodeAt_get (T := tamT par (worV ws) (k + 1)) (i := i) (by rw [tamT_len]; exact hik)
                rw [tamT_at par (worV ws) hik] at h1
                exact Option.some.inj (hi.symm.trans h1)
              obtain ⟨f1, f2⟩ := flatC_get (fun q => hs.getD q undef) wt (k + 1) i hik
              subst hmv
              refine ⟨ua, uc, (hV.cellAt (i * 2) (by omega)).trans (f1.trans ?_), (hV.cellAt (i * 2 + 1) (by omega)).trans (f2.trans ?_), hle, hR.below HB2.out⟩
              · rw [List.getD_eq_getElem?_getD, hu1]; exact congrArg some hu3
              · rw [Hwt.out]
            have hB9 : Hid (Below w.heap.size w wr) := b_next HWW.out HB2.out
            rw [hv9]
            clear hV HV HB2 hlt
            go_wp2
            go_ret
            exact ⟨g9, ⟨_, rfl⟩, hT.out, hB9.out⟩
end Go.Proofs.Ytbbidgdgcbnanaa
