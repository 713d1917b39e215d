/- ButtonsShifted: adding a number to all costs of a button, and one to those of a hole, adds both to all totals, and changes neither the order of assignments nor Slack, Fixed and the assignment of Best. Conditions: none. -/
import Derived.Test.YtambhhjbafefgaaQh
import Derived.Test.YtambhhjbafefgaaQl
import Derived.Test.YtambhhjbafefgaaQb
import Derived.Test.YtambhhjbafefgaaQe
import Derived.Test.YtambhhjbafefgaaQc
import Derived.Test.YtambhhjbafefgaaQg
import Derived.Test.YtambhhjbafefgaaQj
import Derived.ShutString
/- The law's ButtonsShifted: its walk. -/
namespace Go.Proofs.Ytambhhjbafefgaa
set_option linter.unusedVariables false
open Go.RowKit

/-- the table after x rounds -/
def shf (C : List (List Int)) (i j : Nat) (a b : Int) (x p q : Nat) : Int := cost C p q + (if q = j ∧ p < x then b else 0) + (if p = i ∧ q < x then a else 0)
theorem shf_step (C : List (List Int)) (i j : Nat) (a b : Int) (x p q : Nat) :
    (if p = i ∧ q = x then (if i = x ∧ x = j then shf C i j a b x x j + b else shf C i j a b x i x) + a else if p = x ∧ q = j then shf C i j a b x x j + b else shf C i j a b x p q) = shf C i j a b (x + 1) p q := by
  unfold shf
  by_cases h1 : p = i <;> by_cases h2 : q = x <;> by_cases h3 : p = x <;> by_cases h4 : q = j <;> simp_all <;> split <;> (try split) <;> (try split) <;> omega
theorem shf_bound {C : List (List Int)} {n : Nat} {a b : Int} (hC : ∀ p q, -400 ≤ cost C p q ∧ cost C p q ≤ 400) (ha : -300 ≤ a ∧ a ≤ 300) (hb : -300 ≤ b ∧ b ≤ 300) (i j x p q : Nat) : -1000 ≤ shf C i j a b x p q ∧ shf C i j a b x p q ≤ 1000 := by
  have := hC p q
  unfold shf
  split <;> split <;> omega
theorem tamed_cost {C : List (List Int)} {n : Nat} {m : Int} (h : Tamed n m C) (hm : 0 ≤ m) (i j : Nat) : -m ≤ cost C i j ∧ cost C i j ≤ m := by
  unfold cost
  cases hi : C[i]? with
  | none => rw [List.getD_eq_getElem?_getD (l := C), hi]; simp; omega
  | some row =>
    rw [List.getD_eq_getElem?_getD (l := C), hi, Option.getD_some]
    cases hj : row[j]? with
    | none => rw [List.getD_eq_getElem?_getD, hj]; simp; omega
    | some x => rw [List.getD_eq_getElem?_getD, hj]; exact (h row (List.mem_of_getElem? hi)).2 x (List.mem_of_getElem? hj)
theorem matL_tamed {n : Nat} {m : Int} {f : Nat → Nat → Int} (h : ∀ p q, -m ≤ f p q ∧ f p q ≤ m) : Tamed n m (matL n f) := fun row hrow => by
  obtain ⟨p, _, rfl⟩ := List.mem_map.1 hrow
  exact ⟨by simp, fun x hx => by obtain ⟨q, _, rfl⟩ := List.mem_map.1 hx; exact h p q⟩

set_option maxRecDepth 100000 in
set_option maxHeartbeats 4000000 in
theorem shf_walk (n0 o0 o1 o2 o3 o4 : Int) (tv : Value) (D : List (List Int)) (w : World) (hT : TabIn w tv D) :
    Calls Try.prog 9 #[.int .i64 n0, tv, .agg #[.int .i64 o0, .int .i64 o1, .int .i64 o2, .int .i64 o3, .int .i64 o4]] w fun e w' => e = .returned (.bool true) ∧ Below w.heap.size w w' := by
  have bx := below_alloc w (.cells #[.int .i64 o0, .int .i64 o1, .int .i64 o2, .int .i64 o3, .int .i64 o4] 58)
  have hbx := World.alloc_heap_new w (.cells #[.int .i64 o0, .int .i64 o1, .int .i64 o2, .int .i64 o3, .int .i64 o4] 58)
  have hsz : (w.alloc (.cells #[.int .i64 o0, .int .i64 o1, .int .i64 o2, .int .i64 o3, .int .i64 o4] 58)).heap.size = w.heap.size + 1 := by simp
  generalize hWB : w.alloc (.cells #[.int .i64 o0, .int .i64 o1, .int .i64 o2, .int .i64 o3, .int .i64 o4] 58) = WB at bx hbx hsz
  have HTm := Lib.hid fun n hn => tame_any tv D n 400 WB (hT.below bx) hn (by decide)
  have HW := Lib.hid awake_any
  have Bx := Lib.hid bx
  have Hbx := Lib.hid hbx
  clear hT bx hbx
  go_enter Try.func9, Try.ntmps9
  go_wp2_with fail
  clear hWB
  refine (mod_any n0 6 _ (by decide) (by decide)).mono ?_
  rintro e w1 ⟨⟨r, hr, rfl⟩, rfl⟩
  have hw1 : IntKind.i64.wrap (1 + (r : Int)) = ((1 + r : Nat) : Int) := by rw [IntWalk.i64_in _ (by omega)]; omega
  obtain ⟨n, hn⟩ : ∃ n, 1 + r = n := ⟨_, rfl⟩
  have hn1 : 1 ≤ n := by omega
  have hn7 : n ≤ 7 := by omega
  rw [hn] at hw1
  clear hn
  go_wp2_with fail
  refine (HTm.out n hn7).mono ?_
  rintro e w2 ⟨v, C, rfl, hl, hCl, hCt, b2⟩
  have hcb := costs_of_tamed hCl hCt hn1 hn7 (by decide)
  obtain ⟨a, cap, rfl, hcap, hcm, ht⟩ := hl.tbl
  rw [hCl] at hcap ⊢
  -- the five numbers
  have hb2 := (b2.block _ (by omega)).trans Hbx.out
  have s0 : w2.cell? ⟨w.heap.size, 0, none⟩ = some (.int .i64 o0) := by simp [World.cell?, hb2]
  have s1 : w2.cell? ⟨w.heap.size, 1, none⟩ = some (.int .i64 o1) := by simp [World.cell?, hb2]
  have s2 : w2.cell? ⟨w.heap.size, 2, none⟩ = some (.int .i64 o2) := by simp [World.cell?, hb2]
  have s3 : w2.cell? ⟨w.heap.size, 3, none⟩ = some (.int .i64 o3) := by simp [World.cell?, hb2]
  have hls := (Array.getElem?_eq_some_iff.1 hb2).1
  have hi := modV_lt o0 n hn1
  have hj := modV_lt o1 n hn1
  have ha := modV_lt o2 601 (by decide)
  have hb := modV_lt o3 601 (by decide)
  have h0 := fun W => mod_val o0 n W hn1 (by omega)
  have h1 := fun W => mod_val o1 n W hn1 (by omega)
  have h2 := fun W => mod_val o2 601 W (by decide) (by decide)
  have h3 := fun W => mod_val o3 601 W (by decide) (by decide)
  generalize modV o0 n = i at hi h0
  generalize modV o1 n = j at hj h1
  generalize modV o2 601 = a0 at ha h2
  generalize modV o3 601 = b0 at hb h3
  have wa : IntKind.i64.wrap ((a0 : Int) - 300) = (a0 : Int) - 300 := IntWalk.i64_in _ (by omega)
  have wb : IntKind.i64.wrap ((b0 : Int) - 300) = (b0 : Int) - 300 := IntWalk.i64_in _ (by omega)
  have H0 := Lib.hid h0
  have H1 := Lib.hid h1
  have H2 := Lib.hid h2
  have H3 := Lib.hid h3
  have T2 := Lib.hid ht
  have B2 := Lib.hid (b_next Bx.out b2)
  have X2 := Lib.hid b2
  have Hcb := Lib.hid hcb
  have HCl := Lib.hid hCl
  have HCt := Lib.hid hCt
  have Hb2 := Lib.hid hb2
  clear hl hCl hCt b2 hcb ht h0 h1 h2 h3 hb2
  go_wp2
  go_quiet (first
    | (go_at_call 48; with_reducible exact Calls.quiet_of_same (H0.out _))
    | (go_at_call 48; with_reducible exact Calls.quiet_of_same (H1.out _))
    | (go_at_call 48; with_reducible exact Calls.quiet_of_same (H2.out _))
    | (go_at_call 48; with_reducible exact Calls.quiet_of_same (H3.out _)))
  rename_i nq
  have hT3 := T2.out.drewN nq
  have hB3 := below_drewN B2.out nq
  have hb3 : (w2.drewN nq).heap[w.heap.size]? = _ := Hb2.out
  have hsz3 : w.heap.size < (w2.drewN nq).heap.size := hls
  obtain ⟨av, hav⟩ : ∃ x, (a0 : Int) - 300 = x := ⟨_, rfl⟩
  obtain ⟨bv, hbv⟩ : ∃ x, (b0 : Int) - 300 = x := ⟨_, rfl⟩
  rw [hav, hbv]
  have hav2 : -300 ≤ av ∧ av ≤ 300 := by omega
  have hbv2 : -300 ≤ bv ∧ bv ≤ 300 := by omega
  clear hav hbv wa wb H0 H1 H2 H3 ha hb s0 s1 s2 s3 hls
  generalize w2.drewN nq = w3 at hT3 hB3 hb3 hsz3 ⊢
  have hcst : ∀ p q, -400 ≤ cost C p q ∧ cost C p q ≤ 400 := tamed_cost HCt.out (by decide)
  have hrn : ∀ row ∈ C, row.length = n := fun row h => (HCt.out row h).1
  have hcut : cutT C = matL n (cost C) := (cutT_small (by have := HCl.out; omega) (fun row h => by have := hrn row h; omega)).trans (matL_of HCl.out hrn)
  have Hcut := Lib.hid hcut
  have Hcst := Lib.hid hcst
  have Hrn := Lib.hid hrn
  have T3 := Lib.hid hT3
  have B3 := Lib.hid hB3
  have Hb3 := Lib.hid hb3
  clear T2 B2 X2 Hb2 hT3 hB3 hb3 hcst hrn hcut
  go_wp2_with fail
  refine (table_sep (.slice a n cap) C w3 (tabIn_tbl T3.out HCl.out hn1)).mono ?_
  rintro e w4 ⟨v4, rfl, hs4, b4⟩
  rw [Hcut.out] at hs4
  obtain ⟨g, cg, rb, rc, rfl, hcg, hcgm, hM⟩ := hs4.mat hn1
  have hM0 : MatS w4 w3.heap.size g n rb rc (shf C i j av bv 0) := hM.congr fun p q _ _ => by unfold shf; simp
  have M4 := Lib.hid hM0
  have B4 := Lib.hid b4
  clear hM hM0 b4 hs4
  have hbd := fun x p q => shf_bound (n := n) (a := av) (b := bv) Hcst.out hav2 hbv2 i j x p q
  have Hbd := Lib.hid hbd
  clear hbd
  go_wp2
  go_loopw [13, 14, 15] (fun x _ _ wr => ∃ k, k ≤ n ∧ x = .int .i64 k ∧ MatS wr w3.heap.size g n rb rc (shf C i j av bv k) ∧ Below w3.heap.size w3 wr) (fun x _ _ _ => n - (intOf x).toNat)
  case atStart => exact ⟨0, Nat.zero_le _, rfl, M4.out, B4.out⟩
  case round =>
    obtain ⟨k, hk, rfl, hM, hB⟩ := hrel
    by_cases hlt : k < n
    · have hc : (k : Int) < n := by omega
      have s1 := hM.spine k hlt
      have s2 := hM.spine i hi
      have M5 := Lib.hid hM
      have B5 := Lib.hid hB
      clear hM hB
      go_wp2
      go_quiet (fail)
      have hM := M5.out.drewN nq
      have hB := below_drewN B5.out nq
      clear s1 s2 M5 B5
      generalize wr.drewN nq = W1 at hM hB ⊢
      have c1 := hM.cell hlt hj
      have f1 := hM.frozen hlt j
      have b1 := Hbd.out k k j
      have b2 := Hbd.out k i k
      obtain ⟨y1, hy1⟩ : ∃ x, shf C i j av bv k k j = x := ⟨_, rfl⟩
      rw [hy1] at c1 b1
      have hwz1 : IntKind.i64.wrap (y1 + bv) = y1 + bv := IntWalk.i64_in _ (by omega)
      have hM2 := hM.set hlt j (y1 + bv)
      have hB2 := hB.setCell (p := ⟨rb k, j, none⟩) (hM.base_le hlt).1 (.int .i64 (y1 + bv))
      have c2 := hM2.cell hi hlt
      have f2 := hM2.frozen hi k
      obtain ⟨y2, hy2⟩ : ∃ x, (if i = k ∧ k = j then y1 + bv else shf C i j av bv k i k) = x := ⟨_, rfl⟩
      have b3 : -1300 ≤ y2 ∧ y2 ≤ 1300 := by rw [← hy2]; split <;> omega
      rw [hy2] at c2
      have hwz2 : IntKind.i64.wrap (y2 + av) = y2 + av := IntWalk.i64_in _ (by omega)
      have hM3 := hM2.set hi k (y2 + av)
      have hB3 := hB2.setCell (p := ⟨rb i, k, none⟩) (hM2.base_le hi).1 (.int .i64 (y2 + av))
      have hM4 := hM3.congr (f' := shf C i j av bv (k + 1)) fun p q _ _ => by rw [← hy2, ← hy1]; exact shf_step C i j av bv k p q
      have M6 := Lib.hid hM4
      have B6 := Lib.hid hB3
      clear hM hM2 hM3 hM4 hB hB2 hB3 hy1 hy2 b1 b2 b3
      go_wp2
      go_roundw
      case rel => exact ⟨k + 1, by omega, by go_num, M6.out, B6.out⟩
      case measure => simp [intOf]; omega
    · obtain rfl : k = n := by omega
      have hc : ¬ (k : Int) < k := by omega
      -- the shifted table
      have hcD : ∀ p q, p < k → q < k → cost (matL k (shf C i j av bv k)) p q = cost C p q + (if p = i then av else 0) + (if q = j then bv else 0) := fun p q hp hq => by
        rw [cost_matL _ hp hq]
        unfold shf
        simp only [hp, hq, and_true]
        omega
      have hdb : costsB (matL k (shf C i j av bv k)) = true := costs_of_tamed (matL_length _ _) (matL_tamed (m := 1000) fun p q => Hbd.out k p q) hn1 hn7 (by decide)
      have hsh : Shift C (matL k (shf C i j av bv k)) i j av bv := ⟨by rw [matL_length, HCl.out], fun x y hx hy => hcD x y (by have := HCl.out; omega) (by have := HCl.out; omega)⟩
      have hmv := hsh.moved (by rw [HCl.out]; exact hi) (by rw [HCl.out]; exact hj)
      have hE := hM.tbl
      have hEl := matL_length k (shf C i j av bv k)
      generalize matL k (shf C i j av bv k) = E at hdb hmv hE hEl
      have hb5 := (hB.block _ hsz3).trans Hb3.out
      have s4 : wr.cell? ⟨w.heap.size, 4, none⟩ = some (.int .i64 o4) := by simp [World.cell?, hb5]
      have hT := T3.out.below hB
      have hBB := b_next B3.out hB
      obtain ⟨hRe, _⟩ := Rect.of_costs Hcb.out
      have hfp := facN_pos k
      have hN : facN k = (asgW C).length := by rw [asgW_fac hRe.n7, HCl.out]
      have hN7 := asgW_len hRe.n7
      have hf := fun W => fac_any k W hn7
      have h4 := fun W => mod_val o4 (facN k) W hfp (by omega)
      have hx := modV_lt o4 (facN k) hfp
      generalize modV o4 (facN k) = x at h4 hx
      have hxC : x < (asgW C).length := by omega
      -- what the calls answer
      have hxE : x < (asgW E).length := by rw [← all_len (by omega), hEl, ← HCl.out, all_len hRe.n7]; exact hxC
      have hr1 := item_moved hmv Hcb.out hdb hxC
      have hr2 := bestRow_moved hmv Hcb.out hdb
      have hr3 := slack_moved hmv Hcb.out hdb
      have hr4 := fix_moved hmv Hcb.out hdb
      have hIC := fun a cap w h => Item_yes C a cap x w h Hcb.out hxC
      have hIE := fun a cap w h => Item_yes E a cap x w h hdb hxE
      obtain ⟨hmem, _⟩ := itemW_in hxC
      obtain ⟨hrl, hra, _⟩ := rowW_good hRe.n7 hmem
      rw [show (itemW C x).holes.take C.length = rowW C (itemW C x) from rfl] at hIC
      rw [show (itemW E x).holes.take E.length = rowW E (itemW E x) from rfl, hr1] at hIE
      generalize rowW C (itemW C x) = xs at hrl hra hIC hIE hr1
      have hxm : xs ∈ allL C.length C.length := by
        unfold asgB at hra
        obtain ⟨h1, h2, h3⟩ := of_decide_eq_true hra
        have h4 := allL_mem h3 h2 C.length (by omega)
        rwa [List.take_of_length_le (by omega)] at h4
      have htt := hmv.tot xs hxm
      have htb := wayP_t hRe xs C.length
      have htC : totR C xs = (totL C C.length xs, 0) := by unfold totR; rw [Hcb.out, hra]; rfl
      have htE : totR E xs = (totL E C.length xs, 0) := by unfold totR; rw [hdb, hEl, ← HCl.out, hra]; rfl
      obtain ⟨t, ht⟩ : ∃ t, totL C C.length xs = t := ⟨_, rfl⟩
      have htb2 : -7000 ≤ t ∧ t ≤ 7000 := by rw [← ht]; unfold totL; have := hRe.n7; omega
      rw [ht] at htC htt
      rw [htt] at htE
      have hsrC : slackR C = (slackL C, 0) := by unfold slackR; rw [Hcb.out]; rfl
      have hsrE : slackR E = (slackL C, 0) := by unfold slackR; rw [hdb, hr3]; rfl
      have hfrC : fixR C = (fixL C, 0) := by unfold fixR; rw [Hcb.out]; rfl
      have hfrE : fixR E = (fixL C, 0) := by unfold fixR; rw [hdb, hr4]; rfl
      have hsl : (slackL C).length = k := by simp [slackL, HCl.out]
      have hfl : (fixL C).length = k := by unfold fixL; rw [List.length_map, hsl]
      have hrl1 : ∀ row ∈ slackL C, row.length ≤ 1000 := by
        intro row hrow
        simp only [slackL, List.mem_map, List.mem_range] at hrow
        obtain ⟨i, hi, rfl⟩ := hrow
        rw [slackLine_length, HCl.out]; omega
      have hlC : ∀ row ∈ C, row.length ≤ 1000 := fun row h => by have := Hrn.out row h; omega
      have hlE : ∀ row ∈ E, row.length ≤ 1000 := fun row h => by have := (Rect.of_costs hdb).1.len row h; omega
      have hSC := fun a cap w h h1 h2 => Slack_any C a cap w h (by have := HCl.out; omega) hlC h1 h2
      have hSE := fun a cap w h h1 h2 => Slack_any E a cap w h (by omega) hlE h1 h2
      have hFC := fun a cap w h h1 h2 => Fixed_any C a cap w h (by have := HCl.out; omega) hlC h1 h2
      have hFE := fun a cap w h h1 h2 => Fixed_any E a cap w h (by omega) hlE h1 h2
      have hBC := fun a cap w h => Best_yes C a cap w h Hcb.out
      have hBE := fun a cap w h => Best_yes E a cap w h hdb
      rw [hr2] at hBE
      have hTC := fun a a2 cap m ca w h ha hm => Total_any C xs a a2 cap m ca w h (by have := HCl.out; omega) hlC ha hm
      have hTE := fun a a2 cap m ca w h ha hm => Total_any E xs a a2 cap m ca w h (by omega) hlE ha hm
      have hII := fun zs a1 a2 c1 c2 w h1 h2 => ints_true a1 a2 k c1 c2 zs w h1 h2 (by omega)
      have hTT := fun a b ca cb w hA hB => tables_true a b ca cb (slackL C) k hsl w hA hB (by omega) hrl1
      rw [htC] at hTC
      rw [htE] at hTE
      rw [hsrC] at hSC
      rw [hsrE] at hSE
      rw [hfrC] at hFC
      rw [hfrE] at hFE
      simp only [hfl, HCl.out, hEl] at hSC hSE hFC hFE hBC hBE hTC hTE hIC hIE
      have HIC := Lib.hid hIC
      have HIE := Lib.hid hIE
      have HSC := Lib.hid hSC
      have HSE := Lib.hid hSE
      have HFC := Lib.hid hFC
      have HFE := Lib.hid hFE
      have HBC := Lib.hid hBC
      have HBE := Lib.hid hBE
      have HTC := Lib.hid hTC
      have HTE := Lib.hid hTE
      have HII := Lib.hid hII
      have HTT := Lib.hid hTT
      have Hsl := Lib.hid hsl
      have Hf := Lib.hid hf
      have H4 := Lib.hid h4
      have T := Lib.hid hT
      have E5 := Lib.hid hE
      have B := Lib.hid hBB
      have hw1 : IntKind.i64.wrap (t + av) = t + av := IntWalk.i64_in _ (by omega)
      have hw2 : IntKind.i64.wrap (t + av + bv) = t + (av + bv) := by rw [IntWalk.i64_in _ (by omega)]; omega
      have hw3 : IntKind.i64.wrap (t + (av + bv)) = t + (av + bv) := IntWalk.i64_in _ (by omega)
      clear hM hB hcD hdb hsh hmv hE hEl hb5 hT hBB hRe hfp hN hN7 hf h4 hx hxC hxE hr1 hr2 hr3 hr4 hIC hIE hmem hrl hra hxm htt htb htC htE ht htb2 hsrC hsrE hfrC hfrE hsl hfl hrl1 hlC hlE hSC hSE hFC hFE hBC hBE hTC hTE hII hTT M4 B4 Hbd Hcst Hrn Hcut T3 B3 Hb3 HCt Hcb HCl hav2 hbv2
      go_wp2
      go_quiet (first
        | (go_at_call 50; with_reducible exact Calls.quiet_of_same (Hf.out _))
        | (go_at_call 48; with_reducible exact Calls.quiet_of_same (H4.out _)))
      have hT := T.out.drewN nq
      have hE := E5.out.drewN nq
      have hB := below_drewN B.out nq
      clear T E5 B s4
      generalize wr.drewN nq = w6 at hT hE hB ⊢
      have T := Lib.hid hT
      have E5 := Lib.hid hE
      have B := Lib.hid hB
      clear hT hE hB Hf H4
      go_wp2_with fail
      refine (HIC.out _ _ _ T.out).mono ?_
      rintro e w21 ⟨v20, rfl, ho20, b21⟩
      obtain ⟨aX, cX, rfl, hR20⟩ := Row.of_own ho20
      have T_21 := Lib.hid (T.out.below b21)
      have E5_21 := Lib.hid (E5.out.below b21)
      have X_21 := Lib.hid (hR20)
      have B_21 := Lib.hid (b_next B.out b21)
      clear b21 B T E5 ho20 hR20
      go_wp2_with fail
      refine (HIE.out _ _ _ E5_21.out).mono ?_
      rintro e w22 ⟨v20, rfl, ho20, b22⟩
      obtain ⟨aY, cY, rfl, hR20⟩ := Row.of_own ho20
      have T_22 := Lib.hid (T_21.out.below b22)
      have E5_22 := Lib.hid (E5_21.out.below b22)
      have X_22 := Lib.hid (X_21.out.below b22)
      have Y_22 := Lib.hid (hR20)
      have B_22 := Lib.hid (b_next B_21.out b22)
      clear b22 B_21 T_21 E5_21 X_21 ho20 hR20
      go_wp2_with fail
      refine (HSC.out _ _ _ T_22.out hcap hcm).mono ?_
      rintro e w23 ⟨v20, rfl, hl20, b23⟩
      obtain ⟨aS, cS, rfl, -, -, ht20⟩ := hl20.tbl
      rw [Hsl.out]
      have T_23 := Lib.hid (T_22.out.below b23)
      have E5_23 := Lib.hid (E5_22.out.below b23)
      have X_23 := Lib.hid (X_22.out.below b23)
      have Y_23 := Lib.hid (Y_22.out.below b23)
      have S_23 := Lib.hid (ht20)
      have B_23 := Lib.hid (b_next B_22.out b23)
      clear b23 B_22 T_22 E5_22 X_22 Y_22 hl20 ht20
      go_wp2_with fail
      refine (HSE.out _ _ _ E5_23.out hcg hcgm).mono ?_
      rintro e w24 ⟨v20, rfl, hl20, b24⟩
      obtain ⟨aS2, cS2, rfl, -, -, ht20⟩ := hl20.tbl
      rw [Hsl.out]
      have T_24 := Lib.hid (T_23.out.below b24)
      have E5_24 := Lib.hid (E5_23.out.below b24)
      have X_24 := Lib.hid (X_23.out.below b24)
      have Y_24 := Lib.hid (Y_23.out.below b24)
      have S_24 := Lib.hid (S_23.out.below b24)
      have S2_24 := Lib.hid (ht20)
      have B_24 := Lib.hid (b_next B_23.out b24)
      clear b24 B_23 T_23 E5_23 X_23 Y_23 S_23 hl20 ht20
      go_wp2_with fail
      refine (HFC.out _ _ _ T_24.out hcap hcm).mono ?_
      rintro e w25 ⟨v20, rfl, ho20, b25⟩
      obtain ⟨aU, cU, rfl, hR20⟩ := Row.of_own ho20
      have T_25 := Lib.hid (T_24.out.below b25)
      have E5_25 := Lib.hid (E5_24.out.below b25)
      have X_25 := Lib.hid (X_24.out.below b25)
      have Y_25 := Lib.hid (Y_24.out.below b25)
      have S_25 := Lib.hid (S_24.out.below b25)
      have S2_25 := Lib.hid (S2_24.out.below b25)
      have U_25 := Lib.hid (hR20)
      have B_25 := Lib.hid (b_next B_24.out b25)
      clear b25 B_24 T_24 E5_24 X_24 Y_24 S_24 S2_24 ho20 hR20
      go_wp2_with fail
      refine (HFE.out _ _ _ E5_25.out hcg hcgm).mono ?_
      rintro e w26 ⟨v20, rfl, ho20, b26⟩
      obtain ⟨aV, cV, rfl, hR20⟩ := Row.of_own ho20
      have T_26 := Lib.hid (T_25.out.below b26)
      have E5_26 := Lib.hid (E5_25.out.below b26)
      have X_26 := Lib.hid (X_25.out.below b26)
      have Y_26 := Lib.hid (Y_25.out.below b26)
      have S_26 := Lib.hid (S_25.out.below b26)
      have S2_26 := Lib.hid (S2_25.out.below b26)
      have U_26 := Lib.hid (U_25.out.below b26)
      have V_26 := Lib.hid (hR20)
      have B_26 := Lib.hid (b_next B_25.out b26)
      clear b26 B_25 T_25 E5_25 X_25 Y_25 S_25 S2_25 U_25 ho20 hR20
      go_wp2_with fail
      refine (HBC.out _ _ _ T_26.out).mono ?_
      rintro e w27 ⟨r0, r1, r2, rfl, ho20, ho21, ho22, b27⟩
      obtain ⟨aP, cP, rfl, hR20⟩ := Row.of_own ho20
      have T_27 := Lib.hid (T_26.out.below b27)
      have E5_27 := Lib.hid (E5_26.out.below b27)
      have X_27 := Lib.hid (X_26.out.below b27)
      have Y_27 := Lib.hid (Y_26.out.below b27)
      have S_27 := Lib.hid (S_26.out.below b27)
      have S2_27 := Lib.hid (S2_26.out.below b27)
      have U_27 := Lib.hid (U_26.out.below b27)
      have V_27 := Lib.hid (V_26.out.below b27)
      have P_27 := Lib.hid (hR20)
      have B_27 := Lib.hid (b_next B_26.out b27)
      clear b27 B_26 T_26 E5_26 X_26 Y_26 S_26 S2_26 U_26 V_26 ho20 ho21 ho22 hR20
      go_wp2_with fail
      refine (HBE.out _ _ _ E5_27.out).mono ?_
      rintro e w28 ⟨s0, s1, s2, rfl, ho20, ho21, ho22, b28⟩
      obtain ⟨aR, cR, rfl, hR20⟩ := Row.of_own ho20
      have T_28 := Lib.hid (T_27.out.below b28)
      have E5_28 := Lib.hid (E5_27.out.below b28)
      have X_28 := Lib.hid (X_27.out.below b28)
      have Y_28 := Lib.hid (Y_27.out.below b28)
      have S_28 := Lib.hid (S_27.out.below b28)
      have S2_28 := Lib.hid (S2_27.out.below b28)
      have U_28 := Lib.hid (U_27.out.below b28)
      have V_28 := Lib.hid (V_27.out.below b28)
      have P_28 := Lib.hid (P_27.out.below b28)
      have R_28 := Lib.hid (hR20)
      have B_28 := Lib.hid (b_next B_27.out b28)
      clear b28 B_27 T_27 E5_27 X_27 Y_27 S_27 S2_27 U_27 V_27 P_27 ho20 ho21 ho22 hR20
      go_wp2_with fail
      refine (HII.out _ _ _ _ _ _ X_28.out Y_28.out).mono ?_
      rintro e w29 ⟨rfl, q29, h29⟩
      have T_29x := T_28.out.drewN q29
      rw [← h29] at T_29x
      have T_29 := Lib.hid T_29x
      clear T_29x
      have E5_29x := E5_28.out.drewN q29
      rw [← h29] at E5_29x
      have E5_29 := Lib.hid E5_29x
      clear E5_29x
      have X_29x := X_28.out.drewN q29
      rw [← h29] at X_29x
      have X_29 := Lib.hid X_29x
      clear X_29x
      have S_29x := S_28.out.drewN q29
      rw [← h29] at S_29x
      have S_29 := Lib.hid S_29x
      clear S_29x
      have S2_29x := S2_28.out.drewN q29
      rw [← h29] at S2_29x
      have S2_29 := Lib.hid S2_29x
      clear S2_29x
      have U_29x := U_28.out.drewN q29
      rw [← h29] at U_29x
      have U_29 := Lib.hid U_29x
      clear U_29x
      have V_29x := V_28.out.drewN q29
      rw [← h29] at V_29x
      have V_29 := Lib.hid V_29x
      clear V_29x
      have P_29x := P_28.out.drewN q29
      rw [← h29] at P_29x
      have P_29 := Lib.hid P_29x
      clear P_29x
      have R_29x := R_28.out.drewN q29
      rw [← h29] at R_29x
      have R_29 := Lib.hid R_29x
      clear R_29x
      have B_29x := below_drewN B_28.out q29
      rw [← h29] at B_29x
      have B_29 := Lib.hid B_29x
      clear B_29x h29 B_28 T_28 E5_28 X_28 Y_28 S_28 S2_28 U_28 V_28 P_28 R_28
      go_wp2_with fail
      refine (HTT.out _ _ _ _ _ S_29.out S2_29.out).mono ?_
      rintro e w30 ⟨rfl, q30, h30⟩
      have T_30x := T_29.out.drewN q30
      rw [← h30] at T_30x
      have T_30 := Lib.hid T_30x
      clear T_30x
      have E5_30x := E5_29.out.drewN q30
      rw [← h30] at E5_30x
      have E5_30 := Lib.hid E5_30x
      clear E5_30x
      have X_30x := X_29.out.drewN q30
      rw [← h30] at X_30x
      have X_30 := Lib.hid X_30x
      clear X_30x
      have U_30x := U_29.out.drewN q30
      rw [← h30] at U_30x
      have U_30 := Lib.hid U_30x
      clear U_30x
      have V_30x := V_29.out.drewN q30
      rw [← h30] at V_30x
      have V_30 := Lib.hid V_30x
      clear V_30x
      have P_30x := P_29.out.drewN q30
      rw [← h30] at P_30x
      have P_30 := Lib.hid P_30x
      clear P_30x
      have R_30x := R_29.out.drewN q30
      rw [← h30] at R_30x
      have R_30 := Lib.hid R_30x
      clear R_30x
      have B_30x := below_drewN B_29.out q30
      rw [← h30] at B_30x
      have B_30 := Lib.hid B_30x
      clear B_30x h30 B_29 T_29 E5_29 X_29 S_29 S2_29 U_29 V_29 P_29 R_29
      go_wp2_with fail
      refine (HII.out _ _ _ _ _ _ U_30.out V_30.out).mono ?_
      rintro e w31 ⟨rfl, q31, h31⟩
      have T_31x := T_30.out.drewN q31
      rw [← h31] at T_31x
      have T_31 := Lib.hid T_31x
      clear T_31x
      have E5_31x := E5_30.out.drewN q31
      rw [← h31] at E5_31x
      have E5_31 := Lib.hid E5_31x
      clear E5_31x
      have X_31x := X_30.out.drewN q31
      rw [← h31] at X_31x
      have X_31 := Lib.hid X_31x
      clear X_31x
      have P_31x := P_30.out.drewN q31
      rw [← h31] at P_31x
      have P_31 := Lib.hid P_31x
      clear P_31x
      have R_31x := R_30.out.drewN q31
      rw [← h31] at R_31x
      have R_31 := Lib.hid R_31x
      clear R_31x
      have B_31x := below_drewN B_30.out q31
      rw [← h31] at B_31x
      have B_31 := Lib.hid B_31x
      clear B_31x h31 B_30 T_30 E5_30 X_30 U_30 V_30 P_30 R_30
      go_wp2_with fail
      refine (HII.out _ _ _ _ _ _ P_31.out R_31.out).mono ?_
      rintro e w32 ⟨rfl, q32, h32⟩
      have T_32x := T_31.out.drewN q32
      rw [← h32] at T_32x
      have T_32 := Lib.hid T_32x
      clear T_32x
      have E5_32x := E5_31.out.drewN q32
      rw [← h32] at E5_32x
      have E5_32 := Lib.hid E5_32x
      clear E5_32x
      have X_32x := X_31.out.drewN q32
      rw [← h32] at X_32x
      have X_32 := Lib.hid X_32x
      clear X_32x
      have B_32x := below_drewN B_31.out q32
      rw [← h32] at B_32x
      have B_32 := Lib.hid B_32x
      clear B_32x h32 B_31 T_31 E5_31 X_31 P_31 R_31
      go_wp2_with fail
      refine (HTC.out _ _ _ _ _ _ T_32.out X_32.out (by omega)).mono ?_
      rintro e w33 ⟨rfl, b33⟩
      have T_33 := Lib.hid (T_32.out.below b33)
      have E5_33 := Lib.hid (E5_32.out.below b33)
      have X_33 := Lib.hid (X_32.out.below b33)
      have B_33 := Lib.hid (b_next B_32.out b33)
      clear b33 B_32 T_32 E5_32 X_32 
      go_wp2_with fail
      refine (HTE.out _ _ _ _ _ _ E5_33.out X_33.out (by omega)).mono ?_
      rintro e w34 ⟨rfl, b34⟩
      have T_34 := Lib.hid (T_33.out.below b34)
      have E5_34 := Lib.hid (E5_33.out.below b34)
      have X_34 := Lib.hid (X_33.out.below b34)
      have B_34 := Lib.hid (b_next B_33.out b34)
      clear b34 B_33 T_33 E5_33 X_33 
      go_wp2_with fail
      refine (HW.out _).mono ?_
      rintro e w35 ⟨rfl, b35⟩
      go_wp2
      go_ret
      exact ⟨rfl, b_next B_34.out b35⟩
theorem walk_ButtonsShifted (n0 : Int) (_ : (Lit.int .i64 n0).wf = true) (tv : Value) (D : List (List Int)) (w : World) (hT : TabIn w tv D) (o0 o1 o2 o3 o4 : Int) :
    Calls Try.prog 9 #[.int .i64 n0, tv, .agg #[.int .i64 o0, .int .i64 o1, .int .i64 o2, .int .i64 o3, .int .i64 o4]] w fun e w' => e = .returned (.bool true) ∧ Below w.heap.size w w' :=
  shf_walk n0 o0 o1 o2 o3 o4 tv D w hT
end Go.Proofs.Ytambhhjbafefgaa

/- ButtonsShifted: adding a number to all costs of a button, and one to those of a hole, adds both to all totals, and changes neither the order of assignments nor Slack, Fixed and the assignment of Best. Conditions: none. -/
namespace Go.Proofs.Ytambhhjbafefgaa
set_option linter.unusedVariables false

namespace lawButtonsShifted
open Go.ChangeShapes Go.WideShapes Go.ChangeAt Go.RowKit
open Go.ChangeMaps (open_string shut_string)

theorem own : ownKnob Try.prog.godebug = none := by kernel_rfl
theorem lay : laidOutB Try.prog = true := by kernel_rfl

set_option maxRecDepth 100000 in
set_option maxHeartbeats 3000000 in
theorem lifted (os : Os) (started : os.Started) (H : Type) (enc : TypeId × Value → H) :
    ReturnsInHanded {} Try.checked os 9 .any (Rows.buttonsShiftedSpec.pre6 enc Try.prog Try.f9 Rows.buttonsShiftedRow.domain false) (Rows.buttonsShiftedSpec.post enc Try.prog Try.f9 false true false false) := by
  refine returnsInHanded_of_change (C := Try.checked) own started (by kernel_rfl) Try.func9
    (ChangeSpec.witness6 (enc := enc) (C := Try.checked) false ⟨#[], #[.int .i64 0, .slice none 0 0, .agg #[.int .i64 0, .int .i64 0, .int .i64 0, .int .i64 0, .int .i64 0]], []⟩ 8 (by kernel_rfl) (by kernel_rfl) (by kernel_rfl) (by kernel_rfl)) ?_
  intro W base args ds gs before hval0 hW hcnd _
  have hval : ∀ (j : Nat) t v, Try.f9.params[j]? = some t → args[j]? = some v → Value.okWide Try.prog W .any base t v := hval0
  have hW' := hW
  obtain ⟨p, q, hA0, hV, rfl, hfz, hnd⟩ := hW
  have hA : DataW.TrodAll enc Try.prog W 0 (fun _ => true) true Try.f9.params.toList args.toList ds p := hA0
  rw [Try.params9] at hA hval
  obtain ⟨v0, vs0, d0, ds0, p0, q0, hargs, rfl, rfl, h0, r0⟩ := trodAll_cons hA
  obtain ⟨v1, vs1, d1, ds1, p1, q1, rfl, rfl, rfl, h1, r1⟩ := trodAll_cons r0
  obtain ⟨v2, vs2, d2, ds2, p2, q2, rfl, rfl, rfl, h2, r2⟩ := trodAll_cons r1
  obtain ⟨rfl, rfl, rfl⟩ := trodAll_nil r2
  obtain rfl : args = #[v0, v1, v2] := by cases args; simp_all
  obtain ⟨rfl, rfl⟩ := trodVars_none hV
  obtain ⟨a0, rfl, rfl, rfl, w0⟩ := open_int Try.underlying3 (hval 0 3 v0 rfl rfl) h0
  obtain ⟨a1, len1, cap1, rfl⟩ := okWide_slice Try.underlying22 (hval 1 22 v1 rfl rfl)
  have k1 := h1
  have lt1 : ∀ x ∈ p1, x.block < W.heap.size := by obtain ⟨m, hm⟩ := k1; exact DataW.trod_lt m _ _ _ hm
  obtain ⟨z1, w1⟩ : ∃ C, TabIn W (.slice a1 len1 cap1) C := by
    obtain ⟨fuel, hf⟩ := h1
    rcases Go.Deep.open_int_rows Try.underlying22 Try.underlying24 Try.underlying3 (by kernel_rfl) (by kernel_rfl) hf with ⟨hcs, _⟩ | ⟨x, l, c, A, L, C, Z, hcs, _, hl, hm, _, hr⟩
    · simp [Value.cells] at hcs
      obtain ⟨rfl, rfl, rfl⟩ := hcs
      exact ⟨[], .inl ⟨_, rfl, rfl⟩⟩
    · simp [Value.cells] at hcs
      obtain ⟨rfl, rfl, rfl⟩ := hcs
      exact tabIn_of hl (fun r h => ⟨(hr r h).1, (hr r h).2.1, (hr r h).2.2.2.1, (hr r h).2.2.2.2.2.1, fun a' ha => ((hr r h).2.2.2.2.2.2 a' ha).2⟩)
  obtain ⟨cs2, rfl, hsz2, _⟩ : ∃ cs, v2 = .agg cs ∧ cs.size = Try.prog.cellsOf 58 ∧ Row.okWide Try.prog W .any base 58 cs := by
    have := hval 2 58 v2 rfl rfl
    simpa [Value.okWide, Try.underlying58] using this
  rw [show Try.prog.cellsOf 58 = 5 by kernel_rfl] at hsz2
  obtain ⟨c2_0, c2_1, c2_2, c2_3, c2_4, rfl⟩ := arrayOf5 hsz2
  have k2 := h2
  have lt2 : ∀ x ∈ p2, x.block < W.heap.size := by obtain ⟨m, hm⟩ := k2; exact DataW.trod_lt m _ _ _ hm
  obtain ⟨fuel2, hf2⟩ := h2
  obtain ⟨y2_0, y2_1, y2_2, y2_3, y2_4, m2, _, hy2_0, hy2_1, hy2_2, hy2_3, hy2_4⟩ := trod_arrayOf5 Try.underlying58 (by kernel_rfl) hf2
  obtain ⟨x2_0, e2_0, rfl, _⟩ := DataW.trod_int Try.underlying3 hy2_0
  simp at e2_0
  subst e2_0
  obtain ⟨x2_1, e2_1, rfl, _⟩ := DataW.trod_int Try.underlying3 hy2_1
  simp at e2_1
  subst e2_1
  obtain ⟨x2_2, e2_2, rfl, _⟩ := DataW.trod_int Try.underlying3 hy2_2
  simp at e2_2
  subst e2_2
  obtain ⟨x2_3, e2_3, rfl, _⟩ := DataW.trod_int Try.underlying3 hy2_3
  simp at e2_3
  subst e2_3
  obtain ⟨x2_4, e2_4, rfl, _⟩ := DataW.trod_int Try.underlying3 hy2_4
  simp at e2_4
  subst e2_4
  clear hA0 hval0
  refine (walk_ButtonsShifted a0 w0 _ z1 W w1 x2_0 x2_1 x2_2 x2_3 x2_4).mono fun e W' ⟨he, bel⟩ => ?_
  subst he
  exact ⟨_, rfl, _, _, _, [], _, [], hW', trodAll_mk1 (shut_bool Try.underlying4 _), (trodAll_cons_mk (shut_int Try.underlying3 w0) (trodAll_cons_mk (Below.trod lay (by kernel_rfl) (of_decide_eq_true (by kernel_rfl)) k1 bel lt1) (trodAll_cons_mk (Below.trod lay (by kernel_rfl) (of_decide_eq_true (by kernel_rfl)) k2 bel lt2) trodAll_mk0))), rfl, bel.frame _, fun h => by cases h⟩

theorem over : Rows.buttonsShiftedRow.holds Try.pinned (OpenSpec.ofChange Rows.buttonsShiftedSpec) :=
  OpenClaim.holds_of_wide 9 Try.f9 rfl rfl rfl rfl rfl rfl rfl ⟨rfl, rfl, rfl, rfl, rfl⟩ rfl rfl rfl rfl rfl (by kernel_rfl) Try.func9 (by kernel_rfl)
    (of_decide_eq_true (by kernel_rfl)) (by unfold Func.isWrapper; first | (rw [if_pos (by decide +kernel)]; kernel_rfl) | (rw [if_neg (by decide +kernel)]; exact ⟨rfl, rfl⟩))
    (fun os started H enc _ => lifted os started H enc)

theorem proved : Rows.ButtonsShiftedSaid := over
end lawButtonsShifted
end Go.Proofs.Ytambhhjbafefgaa
