/- ButtonsOwn: results are new memory, and no function changes its arguments. Conditions: none. -/
import Derived.Test.YtambhhjbafefgaaQh
import Derived.Test.YtambhhjbafefgaaQb
import Derived.Test.YtambhhjbafefgaaQe
import Derived.Test.YtambhhjbafefgaaQg
import Derived.Test.YtambhhjbafefgaaQc
import Derived.Test.YtambhhjbafefgaaQj
import Derived.Test.YtambhhjbafefgaaQk
import Derived.ShutString
/- The law's ButtonsOwn: its walk. -/
namespace Go.Proofs.Ytambhhjbafefgaa
set_option linter.unusedVariables false
open Go.RowKit

/-- a row of the call's own, whatever it holds -/
def OwnI (w : World) (base : Nat) (u : Value) (n : Nat) : Prop := ∃ xs, w.ownsRow base 3 1 u n xs
theorem OwnI.grown {w w' : World} {base n : Nat} {u : Value} {row : Option Nat} (h : OwnI w base u n) (hg : w.grownBy w' row) (hne : u.ownBlock = none ∨ u.ownBlock ≠ row) : OwnI w' base u n := by
  obtain ⟨xs, h⟩ := h
  exact ⟨xs, h.kept hg hne⟩
theorem OwnI.below {w w' : World} {base n : Nat} {u : Value} (h : OwnI w base u n) (hb : Below w.heap.size w w') : OwnI w' base u n :=
  h.grown (below_grown hb none) (by cases u.ownBlock <;> simp)
theorem OwnI.drewN {w : World} {base n : Nat} {u : Value} (h : OwnI w base u n) (q : Nat) : OwnI (w.drewN q) base u n := h
theorem Sep.drewN {w : World} {base : Nat} {v : Value} {Ls : List (List Int)} (h : Sep w base v Ls) (q : Nat) : Sep (w.drewN q) base v Ls := h
theorem OwnI.store {w : World} {base n m rb rc : Nat} {u : Value} (h : OwnI w base (.slice (some ⟨rb, 0, none⟩) n rc) n) (k : OwnI w base u m) (j : Nat) (x : Value) : OwnI (w.setCell ⟨rb, j, none⟩ x) base u m := by
  obtain ⟨xs, h⟩ := h
  obtain ⟨s1, s2⟩ := h.stored j x
  obtain ⟨ys, k⟩ := k
  rcases k.2 with ⟨rfl, rfl⟩ | ⟨g, cap, cur, rfl, _⟩
  · exact ⟨ys, k.kept s2 (.inl rfl)⟩
  · by_cases e : g = rb
    · subst e
      exact ⟨_, (k.stored j x).1⟩
    · exact ⟨ys, k.kept s2 (.inr (by simp [Value.ownBlock, e]))⟩
theorem rowIn_own {w : World} {base n : Nat} {v : Value} {xs : List Int} (h : w.ownsRow base 3 1 v n (intL xs)) : RowIn w v xs := by
  have hl : xs.length = n := by have := h.1; rw [intL_length] at this; omega
  subst hl
  obtain ⟨a, cap, rfl, hc, hR⟩ := own_slice h
  by_cases hz : xs.length = 0
  · cases a with
    | none => exact .inl ⟨cap, by rw [hz], List.eq_nil_of_length_eq_zero hz⟩
    | some ad => exact .inr ⟨ad, cap, rfl, hc, fun j hj => by omega⟩
  · obtain ⟨g, rfl, _, hcell⟩ := hR.2 (by omega)
    exact .inr ⟨⟨g, 0, none⟩, cap, rfl, hc, fun j hj => by
      rw [addr_add, Nat.zero_add]
      exact hcell j _ (intL_get (by rw [List.getD_eq_getElem?_getD, List.getElem?_eq_getElem hj]; rfl))⟩
/-- rows that are being overwritten -/
structure Sm (w0 : World) (base base1 g N cap n : Nat) (hs : List Value) (W : World) : Prop where
  spine : W.ownsRow base1 24 1 (.slice (some ⟨g, 0, none⟩) N cap) N hs
  rows : ∀ u ∈ hs, OwnI W base u n
  below : Below base w0 W
theorem Sm.at' {w0 W : World} {base base1 g N cap n : Nat} {hs : List Value} (h : Sm w0 base base1 g N cap n hs W) (hn : 1 ≤ n) {i : Nat} (hi : i < N) : ∃ rb rc, W.cell? ⟨g, i, none⟩ = some (.slice (some ⟨rb, 0, none⟩) n rc) ∧ OwnI W base (.slice (some ⟨rb, 0, none⟩) n rc) n ∧ .slice (some ⟨rb, 0, none⟩) n rc ∈ hs := by
  have hl := h.spine.1
  obtain ⟨u, hu⟩ : ∃ u, hs[i]? = some u := ⟨_, List.getElem?_eq_getElem (by omega)⟩
  have hc := h.spine.cellAt i (by omega)
  have hm := List.mem_of_getElem? hu
  obtain ⟨xs, ho⟩ := h.rows u hm
  obtain ⟨a, rc, rfl, _, hcell⟩ := ownsRow_open ho
  obtain ⟨rb, rfl, _⟩ := hcell (by omega)
  exact ⟨rb, rc, hc.trans hu, ⟨xs, ho⟩, hm⟩
theorem OwnI.cell {W : World} {base rb n rc : Nat} (h : OwnI W base (.slice (some ⟨rb, 0, none⟩) n rc) n) {k : Nat} (hk : k < n) : (∃ u, W.cell? ⟨rb, k, none⟩ = some u) ∧ W.frozen? ⟨rb, k, none⟩ = false := by
  obtain ⟨xs, h⟩ := h
  have hl := h.1
  exact ⟨⟨_, (h.cellAt k (by omega)).trans (List.getElem?_eq_getElem (by omega))⟩, h.frozenAt k⟩
theorem Sm.store {w0 W : World} {base base1 g N cap n rb rc : Nat} {hs : List Value} (h : Sm w0 base base1 g N cap n hs W) (k : OwnI W base (.slice (some ⟨rb, 0, none⟩) n rc) n) (j : Nat) (x : Value) : Sm w0 base base1 g N cap n hs (W.setCell ⟨rb, j, none⟩ x) := by
  obtain ⟨xs, ho⟩ := k
  refine ⟨h.spine.kept (ho.stored j x).2 (.inr fun e => own_apart h.spine ho e rfl), fun u hu => OwnI.store ⟨xs, ho⟩ (h.rows u hu) j x, h.below.setCell (p := ⟨rb, j, none⟩) (ho.lt rb rfl).1 x⟩

set_option maxRecDepth 100000 in
set_option maxHeartbeats 4000000 in
theorem own_walk (n0 : Int) (tv rv : Value) (D : List (List Int)) (l0 : List Int) (w : World) (hT : TabIn w tv D) (hL : RowIn w rv l0) :
    Calls Try.prog 15 #[.int .i64 n0, tv, rv] w fun e w' => e = .returned (.bool true) ∧ Below w.heap.size w w' := by
  obtain ⟨i1, hj, hy0, hy1, hy2⟩ := info_parts info_ints
  have HTm := Lib.hid fun n hn => tame_any tv D n 1000 w hT hn (Nat.le_refl _)
  have HOr := Lib.hid fun n W hn hb => order_any rv l0 n W (hL.below hb) hn
  have HW := Lib.hid awake_any
  clear hT hL
  go_enter Try.func15, Try.ntmps15
  go_wp2_with fail
  refine (mod_any n0 5 _ (by decide) (by decide)).mono ?_
  rintro e w1 ⟨⟨r, hr, rfl⟩, rfl⟩
  have hw1 : IntKind.i64.wrap (1 + (r : Int)) = ((1 + r : Nat) : Int) := by rw [IntWalk.i64_in _ (by omega)]; omega
  obtain ⟨n, hn⟩ : ∃ n, 1 + r = n := ⟨_, rfl⟩
  have hn1 : 1 ≤ n := by omega
  have hn7 : n ≤ 7 := by omega
  rw [hn] at hw1
  clear hn
  go_wp2_with fail
  refine (HTm.out n hn7).mono ?_
  rintro e w2 ⟨v, C, rfl, hl, hCl, hCt, b2⟩
  have hcb := costs_of_tamed hCl hCt hn1 hn7 (by decide)
  obtain ⟨a, cap, rfl, hcap, hcm, ht⟩ := hl.tbl
  rw [hCl] at hcap ⊢
  have T2 := Lib.hid ht
  have B2 := Lib.hid b2
  have Hcb := Lib.hid hcb
  have HCl := Lib.hid hCl
  clear hl b2 hcb ht
  go_wp2_with fail
  refine (HOr.out n _ hn7 B2.out).mono ?_
  rintro e w3 ⟨v3, bs, rfl, ho3, hasg, b3⟩
  have hri := rowIn_own ho3
  obtain ⟨aB, cB, rfl, hR3⟩ := Row.of_own ho3
  have hrn : ∀ row ∈ C, row.length = n := fun row h => (hCt row h).1
  have hcut : cutT C = C := cutT_small (by have := HCl.out; omega) (fun row h => by have := hrn row h; omega)
  have hbl : bs.length = n := by have := ho3.1; rw [intL_length] at this; omega
  have hbs8 : bs.take 8 = bs := List.take_of_length_le (by omega)
  have Hcut := Lib.hid hcut
  have Hrn := Lib.hid hrn
  have Hri := Lib.hid hri
  have Hbs8 := Lib.hid hbs8
  have Hbl := Lib.hid hbl
  have T3 := Lib.hid (T2.out.below b3)
  have R3 := Lib.hid hR3
  have B3 := Lib.hid (b_next B2.out b3)
  clear T2 B2 b3 ho3 hR3 hrn hcut hasg hCt hCl hri hbl hbs8
  go_wp2_with fail
  refine (table_any (.slice a n cap) C w3 (tabIn_tbl T3.out HCl.out hn1)).mono ?_
  rintro e w4 ⟨v4, rfl, hl4, b4⟩
  rw [Hcut.out] at hl4
  obtain ⟨aK, cK, rfl, hcK, hcKm, ht4⟩ := hl4.tbl
  rw [HCl.out] at hcK ⊢
  have T4 := Lib.hid (T3.out.below b4)
  have R4 := Lib.hid (R3.out.below b4)
  have K4 := Lib.hid ht4
  have Hri4 := Lib.hid (Hri.out.below b4)
  have B4 := Lib.hid (b_next B3.out b4)
  clear T3 R3 Hri B3 b4 hl4 ht4
  go_wp2_with fail
  refine (list_in _ bs w4 Hri4.out).mono ?_
  rintro e w5 ⟨v5, rfl, ho5, b5⟩
  rw [Hbs8.out, Hbl.out] at ho5
  obtain ⟨aO, cO, rfl, hR5⟩ := Row.of_own ho5
  have T := Lib.hid (T4.out.below b5)
  have A := Lib.hid (R4.out.below b5)
  have K := Lib.hid (K4.out.below b5)
  have O := Lib.hid hR5
  have B5 := Lib.hid (b_next B4.out b5)
  have T5 := Lib.hid T.out
  have K5 := Lib.hid K.out
  clear T4 R4 K4 Hri4 B4 b5 ho5 hR5
  have B := Lib.hid (Below.refl w5.heap.size w5)
  -- what the calls answer
  obtain ⟨hRe, _⟩ := Rect.of_costs Hcb.out
  have hCl := HCl.out
  have hsr : slackR C = (slackL C, 0) := by unfold slackR; rw [Hcb.out]; rfl
  have hsl : (slackL C).length = n := by simp [slackL, hCl]
  have hrl1 : ∀ row ∈ slackL C, row.length = n := by
    intro row hrow
    simp only [slackL, List.mem_map, List.mem_range] at hrow
    obtain ⟨i, hi, rfl⟩ := hrow
    rw [slackLine_length, hCl]
  have hlC : ∀ row ∈ C, row.length ≤ 1000 := fun row h => by have := Hrn.out row h; omega
  have hA0 : 0 < (asgW C).length := asgW_pos hRe.n7
  have hBe := fun a cap w h => Best_yes C a cap w h Hcb.out
  have hSl := fun a cap w h h1 h2 => Slack_sep C a cap w h (by omega) hlC h1 h2
  have hSa := fun a cap w h h1 h2 => Slack_any C a cap w h (by omega) hlC h1 h2
  have hIt := fun a cap w h => Item_yes C a cap 0 w h Hcb.out hA0
  have hTo := fun a a2 cap m ca w h ha hm => Total_any C bs a a2 cap m ca w h (by omega) hlC ha hm
  have hIx := fun a a2 cap m ca w h ha hm => Index_any C bs a a2 cap m ca w h (by omega) hlC ha hm
  have hIb := fun a b cap cb q l w h hl hq => IsBlock_any C a b cap cb q 0 l w h (by omega) hlC hl hq
  have hCk := fun us vs a a1 a2 a3 cap m m2 m3 c1 c2 c3 w h ha hu hv h1 h2 h3 => Check_any C bs us vs a a1 a2 a3 cap m m2 m3 c1 c2 c3 w h (by omega) hlC ha hu hv h1 h2 h3
  obtain ⟨hs1, hs2⟩ := item_same (C := C) (by omega) (k := 0) hA0
  have hRi := fun a cap w h => refItem_any C a cap C.length 0 _ _ ((itemW C 0).holes.take C.length) w hRe rfl h hs1 hs2
  have hRs := fun a cap w h => refSlack_any C a cap n w (hCl ▸ hRe) hCl Hcb.out h
  have hII := fun zs a1 a2 c1 c2 w h1 h2 => ints_true a1 a2 n c1 c2 zs w h1 h2 (by omega)
  have hTT := fun a b ca cb w hA hB => tables_true a b ca cb (slackL C) n hsl w hA hB (by omega) (fun row h => by have := hrl1 row h; omega)
  have hTC := fun a b ca cb w hA hB => tables_true a b ca cb C n hCl w hA hB (by omega) hlC
  rw [hsr] at hSl hSa
  simp only [cast0, hCl] at hBe hSl hSa hIt hTo hIx hIb hCk hRi
  have HBe := Lib.hid hBe
  have HSl := Lib.hid hSl
  have HSa := Lib.hid hSa
  have HIt := Lib.hid hIt
  have HTo := Lib.hid hTo
  have HIx := Lib.hid hIx
  have HIb := Lib.hid hIb
  have HCk := Lib.hid hCk
  have HRi := Lib.hid hRi
  have HRs := Lib.hid hRs
  have HII := Lib.hid hII
  have HTT := Lib.hid hTT
  have HTC := Lib.hid hTC
  have Hsl := Lib.hid hsl
  have Hrl1 := Lib.hid hrl1
  clear hRe hCl hsr hsl hrl1 hlC hA0 hBe hSl hSa hIt hTo hIx hIb hCk hs1 hs2 hRi hRs hII hTT hTC
  go_wp2_with fail
  refine (HBe.out _ _ _ T.out).mono ?_
  rintro e w21 ⟨r0, r1, r2, rfl, ho20, ho21, ho22, b21⟩
  have oi0 : OwnI w21 w5.heap.size r0 n := ⟨_, ho20⟩
  have oi1 : OwnI w21 w5.heap.size r1 n := ⟨_, ho21⟩
  have oi2 : OwnI w21 w5.heap.size r2 n := ⟨_, ho22⟩
  obtain ⟨aP, cP, rfl, -⟩ := Row.of_own ho20
  obtain ⟨aU, cU, rfl, hU⟩ := Row.of_own ho21
  obtain ⟨aV, cV, rfl, hV⟩ := Row.of_own ho22
  have T_21 := Lib.hid (T.out.below b21)
  have A_21 := Lib.hid (A.out.below b21)
  have K_21 := Lib.hid (K.out.below b21)
  have O_21 := Lib.hid (O.out.below b21)
  have I0_21 := Lib.hid (oi0)
  have I1_21 := Lib.hid (oi1)
  have I2_21 := Lib.hid (oi2)
  have U_21 := Lib.hid (hU)
  have V_21 := Lib.hid (hV)
  have B_21 := Lib.hid (b_next B.out b21)
  clear b21 B T A K O ho20 ho21 ho22 oi0 oi1 oi2 hU hV
  have HZ1 : Hid (w5.heap.size ≤ w21.heap.size) := B_21.out.size
  go_wp2_with fail
  refine (HSl.out _ _ _ T_21.out hcap hcm).mono ?_
  rintro e w22 ⟨v20, rfl, hl20, b22⟩
  obtain ⟨aS, cS, hv20, -, -, -⟩ := hl20.lines.tbl
  subst hv20
  rw [Hsl.out] at hl20 ⊢
  have T_22 := Lib.hid (T_21.out.below b22)
  have A_22 := Lib.hid (A_21.out.below b22)
  have K_22 := Lib.hid (K_21.out.below b22)
  have O_22 := Lib.hid (O_21.out.below b22)
  have I0_22 := Lib.hid (I0_21.out.below b22)
  have I1_22 := Lib.hid (I1_21.out.below b22)
  have I2_22 := Lib.hid (I2_21.out.below b22)
  have U_22 := Lib.hid (U_21.out.below b22)
  have V_22 := Lib.hid (V_21.out.below b22)
  have S_22 := Lib.hid (hl20)
  have B_22 := Lib.hid (b_next B_21.out b22)
  clear b22 B_21 T_21 A_21 K_21 O_21 I0_21 I1_21 I2_21 U_21 V_21 hl20
  have HZ2 : Hid (w5.heap.size ≤ w22.heap.size) := B_22.out.size
  go_wp2_with fail
  refine (HIt.out _ _ _ T_22.out).mono ?_
  rintro e w23 ⟨v20, rfl, ho20, b23⟩
  have oi3 : OwnI w23 w22.heap.size v20 n := ⟨_, ho20⟩
  obtain ⟨aX, cX, rfl, -⟩ := Row.of_own ho20
  have T_23 := Lib.hid (T_22.out.below b23)
  have A_23 := Lib.hid (A_22.out.below b23)
  have K_23 := Lib.hid (K_22.out.below b23)
  have O_23 := Lib.hid (O_22.out.below b23)
  have I0_23 := Lib.hid (I0_22.out.below b23)
  have I1_23 := Lib.hid (I1_22.out.below b23)
  have I2_23 := Lib.hid (I2_22.out.below b23)
  have U_23 := Lib.hid (U_22.out.below b23)
  have V_23 := Lib.hid (V_22.out.below b23)
  have S_23 := Lib.hid (S_22.out.below b23)
  have I3_23 := Lib.hid (oi3)
  have B_23 := Lib.hid (b_next B_22.out b23)
  clear b23 B_22 T_22 A_22 K_22 O_22 I0_22 I1_22 I2_22 U_22 V_22 S_22 ho20 oi3
  go_wp2_with fail
  refine (HTo.out _ _ _ _ _ _ T_23.out A_23.out (by omega)).mono ?_
  rintro e w24 ⟨rfl, b24⟩
  have T_24 := Lib.hid (T_23.out.below b24)
  have A_24 := Lib.hid (A_23.out.below b24)
  have K_24 := Lib.hid (K_23.out.below b24)
  have O_24 := Lib.hid (O_23.out.below b24)
  have I0_24 := Lib.hid (I0_23.out.below b24)
  have I1_24 := Lib.hid (I1_23.out.below b24)
  have I2_24 := Lib.hid (I2_23.out.below b24)
  have U_24 := Lib.hid (U_23.out.below b24)
  have V_24 := Lib.hid (V_23.out.below b24)
  have S_24 := Lib.hid (S_23.out.below b24)
  have I3_24 := Lib.hid (I3_23.out.below b24)
  have B_24 := Lib.hid (b_next B_23.out b24)
  clear b24 B_23 T_23 A_23 K_23 O_23 I0_23 I1_23 I2_23 U_23 V_23 S_23 I3_23 
  go_wp2_with fail
  refine (HIx.out _ _ _ _ _ _ T_24.out A_24.out (by omega)).mono ?_
  rintro e w25 ⟨rfl, b25⟩
  have T_25 := Lib.hid (T_24.out.below b25)
  have A_25 := Lib.hid (A_24.out.below b25)
  have K_25 := Lib.hid (K_24.out.below b25)
  have O_25 := Lib.hid (O_24.out.below b25)
  have I0_25 := Lib.hid (I0_24.out.below b25)
  have I1_25 := Lib.hid (I1_24.out.below b25)
  have I2_25 := Lib.hid (I2_24.out.below b25)
  have U_25 := Lib.hid (U_24.out.below b25)
  have V_25 := Lib.hid (V_24.out.below b25)
  have S_25 := Lib.hid (S_24.out.below b25)
  have I3_25 := Lib.hid (I3_24.out.below b25)
  have B_25 := Lib.hid (b_next B_24.out b25)
  clear b25 B_24 T_24 A_24 K_24 O_24 I0_24 I1_24 I2_24 U_24 V_24 S_24 I3_24 
  go_wp2_with fail
  refine (HIb.out _ _ _ _ _ _ _ T_25.out A_25.out (by omega)).mono ?_
  rintro e w26 ⟨rfl, rfl⟩
  go_wp2_with fail
  refine (HCk.out _ _ _ _ _ _ _ _ _ _ _ _ _ _ T_25.out A_25.out U_25.out V_25.out (by omega) (by omega) (by omega)).mono ?_
  rintro e w27 ⟨rfl, b27⟩
  have T_27 := Lib.hid (T_25.out.below b27)
  have A_27 := Lib.hid (A_25.out.below b27)
  have K_27 := Lib.hid (K_25.out.below b27)
  have O_27 := Lib.hid (O_25.out.below b27)
  have I0_27 := Lib.hid (I0_25.out.below b27)
  have I1_27 := Lib.hid (I1_25.out.below b27)
  have I2_27 := Lib.hid (I2_25.out.below b27)
  have S_27 := Lib.hid (S_25.out.below b27)
  have I3_27 := Lib.hid (I3_25.out.below b27)
  have B_27 := Lib.hid (b_next B_25.out b27)
  clear b27 B_25 T_25 A_25 K_25 O_25 I0_25 I1_25 I2_25 U_25 V_25 S_25 I3_25 
  go_wp2_with fail
  refine (HTC.out _ _ _ _ _ T_27.out K_27.out).mono ?_
  rintro e w28 ⟨rfl, q28, h28⟩
  have T_28x := T_27.out.drewN q28
  rw [← h28] at T_28x
  have T_28 := Lib.hid T_28x
  clear T_28x
  have A_28x := A_27.out.drewN q28
  rw [← h28] at A_28x
  have A_28 := Lib.hid A_28x
  clear A_28x
  have K_28x := K_27.out.drewN q28
  rw [← h28] at K_28x
  have K_28 := Lib.hid K_28x
  clear K_28x
  have O_28x := O_27.out.drewN q28
  rw [← h28] at O_28x
  have O_28 := Lib.hid O_28x
  clear O_28x
  have I0_28x := I0_27.out.drewN q28
  rw [← h28] at I0_28x
  have I0_28 := Lib.hid I0_28x
  clear I0_28x
  have I1_28x := I1_27.out.drewN q28
  rw [← h28] at I1_28x
  have I1_28 := Lib.hid I1_28x
  clear I1_28x
  have I2_28x := I2_27.out.drewN q28
  rw [← h28] at I2_28x
  have I2_28 := Lib.hid I2_28x
  clear I2_28x
  have S_28x := S_27.out.drewN q28
  rw [← h28] at S_28x
  have S_28 := Lib.hid S_28x
  clear S_28x
  have I3_28x := I3_27.out.drewN q28
  rw [← h28] at I3_28x
  have I3_28 := Lib.hid I3_28x
  clear I3_28x
  have B_28x := below_drewN B_27.out q28
  rw [← h28] at B_28x
  have B_28 := Lib.hid B_28x
  clear B_28x h28 B_27 T_27 A_27 K_27 O_27 I0_27 I1_27 I2_27 S_27 I3_27
  go_wp2_with fail
  refine (HII.out _ _ _ _ _ _ A_28.out O_28.out).mono ?_
  rintro e w29 ⟨rfl, q29, h29⟩
  have T_29x := T_28.out.drewN q29
  rw [← h29] at T_29x
  have T_29 := Lib.hid T_29x
  clear T_29x
  have K_29x := K_28.out.drewN q29
  rw [← h29] at K_29x
  have K_29 := Lib.hid K_29x
  clear K_29x
  have I0_29x := I0_28.out.drewN q29
  rw [← h29] at I0_29x
  have I0_29 := Lib.hid I0_29x
  clear I0_29x
  have I1_29x := I1_28.out.drewN q29
  rw [← h29] at I1_29x
  have I1_29 := Lib.hid I1_29x
  clear I1_29x
  have I2_29x := I2_28.out.drewN q29
  rw [← h29] at I2_29x
  have I2_29 := Lib.hid I2_29x
  clear I2_29x
  have S_29x := S_28.out.drewN q29
  rw [← h29] at S_29x
  have S_29 := Lib.hid S_29x
  clear S_29x
  have I3_29x := I3_28.out.drewN q29
  rw [← h29] at I3_29x
  have I3_29 := Lib.hid I3_29x
  clear I3_29x
  have B_29x := below_drewN B_28.out q29
  rw [← h29] at B_29x
  have B_29 := Lib.hid B_29x
  clear B_29x h29 B_28 T_28 A_28 K_28 O_28 I0_28 I1_28 I2_28 S_28 I3_28
  obtain ⟨hs, hso, hsl, -, -⟩ := S_29.out
  rw [Hsl.out] at hso
  obtain ⟨aS', cS', hvS, hlS, hcS⟩ := ownsRow_open hso
  obtain ⟨rfl, rfl⟩ : aS = aS' ∧ cS = cS' := by simpa using hvS
  obtain ⟨gS, rfl, _, hgS, hcell⟩ := hcS (by omega)
  have hrows : ∀ u ∈ hs, OwnI w29 w5.heap.size u n := fun u hu => by
    obtain ⟨i, hi⟩ := List.mem_iff_getElem?.1 hu
    have hil := (List.getElem?_eq_some_iff.1 hi).1
    obtain ⟨u', h1, h2⟩ := hsl i _ (List.getElem?_eq_getElem (show i < (slackL C).length by rw [Hsl.out]; omega))
    obtain rfl : u = u' := Option.some.inj (hi.symm.trans h1)
    rw [Hrl1.out _ (List.getElem_mem _)] at h2
    exact ⟨_, h2.mono HZ1.out⟩
  have hone : ∀ u ∈ hs, u.oneCell' = true := fun u hu => by
    obtain ⟨xs, ho⟩ := hrows u hu
    obtain ⟨a', c', rfl, -⟩ := Row.of_own ho
    simp [Value.oneCell']
  have hal := fun y u (hy : hs[y]? = some u) => (below_alloc w29 (.cells #[.slice aP n cP, .slice aU n cU, .slice aV n cV, .slice aX n cX] 24)).cell (p := ⟨gS, y, none⟩) hgS |>.trans (hcell y u hy)
  have hal2 : ∀ y u, hs[y]? = some u → (w29.alloc (.cells #[.slice aP n cP, .slice aU n cU, .slice aV n cV, .slice aX n cX] 24)).cell? ((⟨gS, 0, none⟩ : Addr).add y) = some u := fun y u hy => by rw [addr_add, Nat.zero_add]; exact hal y u hy
  have hlit := World.ownsRow_lit (base := w29.heap.size) (e := 24) (size := 1) w29 #[.slice aP n cP, .slice aU n cU, .slice aV n cV, .slice aX n cX] 4 (Nat.le_refl _) (by unfold maxLen; omega) rfl
  have Hal2 := Lib.hid hal2
  have Hone := Lib.hid hone
  have Hrows := Lib.hid hrows
  have HlS := Lib.hid hlS
  have Hlit := Lib.hid hlit
  have hncS : n ≤ cS := by
    rcases hso.2 with ⟨h, _⟩ | ⟨g', cap', cur', h, _, _, h4, _⟩
    · simp at h
    · simp at h; omega
  clear hso hsl hvS hcS hcell hrows hone hal hal2 hlit hlS
  go_wp2_with (at_builtin; refine wpList_append_own _ rfl _ _ 22 rfl w29.heap.size 24 i1 (.slice none 0 0) 1 24 Try.underlying22 hj hy0 hy1 hy2 rfl (by decide) _ _ _ rfl Hlit.out ⟨gS, 0, none⟩ n cS hs rfl (by have := HlS.out; omega) Hal2.out Hone.out (by unfold maxLen; omega) (by omega) (by simp) ?_; intro v1 w60 hown1 hgrow1 _)
  have hB60 : Below w29.heap.size w29 w60 := rel_push ((Below.refl _ _).alloc (Nat.le_refl _) _) (by simp) (Below.refl _ _) Hlit.out hgrow1
  have B60 := Lib.hid (b_next B_29.out hB60)
  have hrows : ∀ u ∈ [Value.slice aP n cP, .slice aU n cU, .slice aV n cV, .slice aX n cX] ++ hs, OwnI w60 w5.heap.size u n := fun u hu => by
    rcases List.mem_append.1 hu with h | h
    · simp only [List.mem_cons, List.not_mem_nil, or_false] at h
      rcases h with rfl | rfl | rfl | rfl
      · exact I0_29.out.below hB60
      · exact I1_29.out.below hB60
      · exact I2_29.out.below hB60
      · obtain ⟨xs, h⟩ := I3_29.out.below hB60
        exact ⟨xs, h.mono HZ2.out⟩
    · exact (Hrows.out u h).below hB60
  obtain ⟨gA, cA, hv1⟩ : ∃ gA cA, v1 = .slice (some ⟨gA, 0, none⟩) (4 + n) cA := by
    rcases hown1.2 with ⟨_, h⟩ | ⟨g', cap', cur', h, _⟩
    · omega
    · exact ⟨g', cap', h⟩
  rw [hv1] at hown1 ⊢
  have hSm : Sm w5 w5.heap.size w29.heap.size gA (4 + n) cA n ([.slice aP n cP, .slice aU n cU, .slice aV n cV, .slice aX n cX] ++ hs) w60 := ⟨by simpa using hown1, hrows, B60.out⟩
  generalize [Value.slice aP n cP, .slice aU n cU, .slice aV n cV, .slice aX n cX] ++ hs = all at hSm
  generalize w29.heap.size = base1 at hSm
  obtain ⟨N, hN⟩ : ∃ N, 4 + n = N := ⟨_, rfl⟩
  have hN11 : N ≤ 11 := by omega
  rw [hN] at hSm ⊢
  have SM := Lib.hid hSm
  clear hown1 hgrow1 hB60 hrows hv1 hSm hN Hal2 Hone Hrows HlS Hlit hncS hgS T_29 K_29 I0_29 I1_29 I2_29 S_29 I3_29 B_29
  go_wp2
  go_loopw [20, 21] (fun x _ wr => ∃ i, i ≤ N ∧ x = .int .i64 i ∧ Sm w5 w5.heap.size base1 gA N cA n all wr) (fun x _ _ => N - (intOf x).toNat)
  case atStart => exact ⟨0, Nat.zero_le _, rfl, SM.out⟩
  case round =>
    obtain ⟨i, hi, rfl, hS⟩ := hrel
    by_cases hlt : i < N
    · have hc : (i : Int) < N := by omega
      have HS0 := Lib.hid hS
      clear hS
      go_wp2
      go_loopw [21] (fun y wr => ∃ k, k ≤ n ∧ y = .int .i64 k ∧ Sm w5 w5.heap.size base1 gA N cA n all wr) (fun y _ => n - (intOf y).toNat)
      case atStart => exact ⟨0, Nat.zero_le _, rfl, HS0.out⟩
      case round =>
        clear HS0
        obtain ⟨k, hk, rfl, hS⟩ := hrel
        obtain ⟨rb, rc, hc1, ho, hm⟩ := hS.at' hn1 hlt
        by_cases hlk : k < n
        · have hc2 : (k : Int) < n := by omega
          obtain ⟨⟨u, hu⟩, hf⟩ := ho.cell hlk
          have HS1 := Lib.hid (hS.store ho k (.int .i64 (-7)))
          clear hS ho hm
          go_wp2
          go_roundw
          case rel => exact ⟨k + 1, by omega, by go_num, HS1.out⟩
          case measure => simp [intOf]; omega
        · obtain rfl : k = n := by omega
          have hc2 : ¬ (k : Int) < k := by omega
          have HS1 := Lib.hid hS
          clear hS ho hm
          go_wp2
          go_roundw
          case rel => exact ⟨i + 1, by omega, by go_num, HS1.out⟩
          case measure => simp [intOf]; omega
    · have hc : ¬ (i : Int) < N := by omega
      have T := Lib.hid (T5.out.below hS.below)
      have K := Lib.hid (K5.out.below hS.below)
      have B := Lib.hid (b_next B5.out hS.below)
      clear hS SM
      go_wp2_with fail
      refine (HIt.out _ _ _ T.out).mono ?_
      rintro e w71 ⟨v20, rfl, ho20, b71⟩
      obtain ⟨aY, cY, rfl, hR20⟩ := Row.of_own ho20
      have T_71 := Lib.hid (T.out.below b71)
      have K_71 := Lib.hid (K.out.below b71)
      have Y_71 := Lib.hid (hR20)
      have B_71 := Lib.hid (b_next B.out b71)
      clear b71 B T K ho20 hR20
      go_wp2_with fail
      refine (HSa.out _ _ _ T_71.out hcap hcm).mono ?_
      rintro e w72 ⟨v20, rfl, hl20, b72⟩
      obtain ⟨aZ, cZ, rfl, -, -, ht20⟩ := hl20.tbl
      rw [Hsl.out]
      have T_72 := Lib.hid (T_71.out.below b72)
      have K_72 := Lib.hid (K_71.out.below b72)
      have Y_72 := Lib.hid (Y_71.out.below b72)
      have S_72 := Lib.hid (ht20)
      have B_72 := Lib.hid (b_next B_71.out b72)
      clear b72 B_71 T_71 K_71 Y_71 hl20 ht20
      go_wp2_with fail
      refine (HTC.out _ _ _ _ _ T_72.out K_72.out).mono ?_
      rintro e w73 ⟨rfl, q73, h73⟩
      have K_73x := K_72.out.drewN q73
      rw [← h73] at K_73x
      have K_73 := Lib.hid K_73x
      clear K_73x
      have Y_73x := Y_72.out.drewN q73
      rw [← h73] at Y_73x
      have Y_73 := Lib.hid Y_73x
      clear Y_73x
      have S_73x := S_72.out.drewN q73
      rw [← h73] at S_73x
      have S_73 := Lib.hid S_73x
      clear S_73x
      have B_73x := below_drewN B_72.out q73
      rw [← h73] at B_73x
      have B_73 := Lib.hid B_73x
      clear B_73x h73 B_72 T_72 K_72 Y_72 S_72
      go_wp2_with fail
      refine (HRi.out _ _ _ K_73.out).mono ?_
      rintro e w74 ⟨ra20, rc20, rfl, hR20, b74⟩
      have K_74 := Lib.hid (K_73.out.below b74)
      have Y_74 := Lib.hid (Y_73.out.below b74)
      have S_74 := Lib.hid (S_73.out.below b74)
      have R_74 := Lib.hid (hR20)
      have B_74 := Lib.hid (b_next B_73.out b74)
      clear b74 B_73 K_73 Y_73 S_73 hR20
      go_wp2_with fail
      refine (HII.out _ _ _ _ _ _ Y_74.out R_74.out).mono ?_
      rintro e w75 ⟨rfl, q75, h75⟩
      have K_75x := K_74.out.drewN q75
      rw [← h75] at K_75x
      have K_75 := Lib.hid K_75x
      clear K_75x
      have S_75x := S_74.out.drewN q75
      rw [← h75] at S_75x
      have S_75 := Lib.hid S_75x
      clear S_75x
      have B_75x := below_drewN B_74.out q75
      rw [← h75] at B_75x
      have B_75 := Lib.hid B_75x
      clear B_75x h75 B_74 K_74 Y_74 S_74 R_74
      go_wp2_with fail
      refine (HRs.out _ _ _ K_75.out).mono ?_
      rintro e w76 ⟨v20, rfl, hl20, b76⟩
      obtain ⟨aQ, cQ, rfl, -, -, ht20⟩ := hl20.tbl
      rw [Hsl.out]
      have S_76 := Lib.hid (S_75.out.below b76)
      have Z_76 := Lib.hid (ht20)
      have B_76 := Lib.hid (b_next B_75.out b76)
      clear b76 B_75 K_75 S_75 hl20 ht20
      go_wp2_with fail
      refine (HTT.out _ _ _ _ _ S_76.out Z_76.out).mono ?_
      rintro e w77 ⟨rfl, q77, h77⟩
      have B_77x := below_drewN B_76.out q77
      rw [← h77] at B_77x
      have B_77 := Lib.hid B_77x
      clear B_77x h77 B_76 S_76 Z_76
      go_wp2_with fail
      refine (HW.out _).mono ?_
      rintro e w78 ⟨rfl, b78⟩
      go_wp2
      go_ret
      exact ⟨rfl, b_next B_77.out b78⟩
theorem walk_ButtonsOwn (n0 : Int) (_ : (Lit.int .i64 n0).wf = true) (tv : Value) (D : List (List Int)) (w : World) (hT : TabIn w tv D) (rv : Value) (l : List Int) (hR : RowIn w rv l) :
    Calls Try.prog 15 #[.int .i64 n0, tv, rv] w fun e w' => e = .returned (.bool true) ∧ Below w.heap.size w w' :=
  own_walk n0 tv rv D l w hT hR
end Go.Proofs.Ytambhhjbafefgaa

/- ButtonsOwn: results are new memory, and no function changes its arguments. Conditions: none. -/
namespace Go.Proofs.Ytambhhjbafefgaa
set_option linter.unusedVariables false

namespace lawButtonsOwn
open Go.ChangeShapes Go.WideShapes Go.ChangeAt Go.RowKit
open Go.ChangeMaps (open_string shut_string)

theorem own : ownKnob Try.prog.godebug = none := by kernel_rfl
theorem lay : laidOutB Try.prog = true := by kernel_rfl

set_option maxRecDepth 100000 in
theorem lifted (os : Os) (started : os.Started) (H : Type) (enc : TypeId × Value → H) :
    ReturnsInHanded {} Try.checked os 15 .any (Rows.buttonsOwnSpec.pre6 enc Try.prog Try.f15 Rows.buttonsOwnRow.domain false) (Rows.buttonsOwnSpec.post enc Try.prog Try.f15 false true false false) := by
  refine returnsInHanded_of_change (C := Try.checked) own started (by kernel_rfl) Try.func15
    (ChangeSpec.witness6 (enc := enc) (C := Try.checked) false ⟨#[], #[.int .i64 0, .slice none 0 0, .slice none 0 0], []⟩ 8 (by kernel_rfl) (by kernel_rfl) (by kernel_rfl) (by kernel_rfl)) ?_
  intro W base args ds gs before hval0 hW hcnd _
  have hval : ∀ (j : Nat) t v, Try.f15.params[j]? = some t → args[j]? = some v → Value.okWide Try.prog W .any base t v := hval0
  have hW' := hW
  obtain ⟨p, q, hA0, hV, rfl, hfz, hnd⟩ := hW
  have hA : DataW.TrodAll enc Try.prog W 0 (fun _ => true) true Try.f15.params.toList args.toList ds p := hA0
  rw [Try.params15] at hA hval
  obtain ⟨v0, vs0, d0, ds0, p0, q0, hargs, rfl, rfl, h0, r0⟩ := trodAll_cons hA
  obtain ⟨v1, vs1, d1, ds1, p1, q1, rfl, rfl, rfl, h1, r1⟩ := trodAll_cons r0
  obtain ⟨v2, vs2, d2, ds2, p2, q2, rfl, rfl, rfl, h2, r2⟩ := trodAll_cons r1
  obtain ⟨rfl, rfl, rfl⟩ := trodAll_nil r2
  obtain rfl : args = #[v0, v1, v2] := by cases args; simp_all
  obtain ⟨rfl, rfl⟩ := trodVars_none hV
  obtain ⟨a0, rfl, rfl, rfl, w0⟩ := open_int Try.underlying3 (hval 0 3 v0 rfl rfl) h0
  obtain ⟨a1, len1, cap1, rfl⟩ := okWide_slice Try.underlying22 (hval 1 22 v1 rfl rfl)
  have k1 := h1
  have lt1 : ∀ x ∈ p1, x.block < W.heap.size := by obtain ⟨m, hm⟩ := k1; exact DataW.trod_lt m _ _ _ hm
  obtain ⟨z1, w1⟩ : ∃ C, TabIn W (.slice a1 len1 cap1) C := by
    obtain ⟨fuel, hf⟩ := h1
    rcases Go.Deep.open_int_rows Try.underlying22 Try.underlying24 Try.underlying3 (by kernel_rfl) (by kernel_rfl) hf with ⟨hcs, _⟩ | ⟨x, l, c, A, L, C, Z, hcs, _, hl, hm, _, hr⟩
    · simp [Value.cells] at hcs
      obtain ⟨rfl, rfl, rfl⟩ := hcs
      exact ⟨[], .inl ⟨_, rfl, rfl⟩⟩
    · simp [Value.cells] at hcs
      obtain ⟨rfl, rfl, rfl⟩ := hcs
      exact tabIn_of hl (fun r h => ⟨(hr r h).1, (hr r h).2.1, (hr r h).2.2.2.1, (hr r h).2.2.2.2.2.1, fun a' ha => ((hr r h).2.2.2.2.2.2 a' ha).2⟩)
  obtain ⟨a2, len2, cap2, rfl⟩ := okWide_slice Try.underlying24 (hval 2 24 v2 rfl rfl)
  have k2 := h2
  have lt2 : ∀ x ∈ p2, x.block < W.heap.size := by obtain ⟨m, hm⟩ := k2; exact DataW.trod_lt m _ _ _ hm
  obtain ⟨z2, w2⟩ : ∃ C, RowIn W (.slice a2 len2 cap2) C := by
    obtain ⟨fuel, hf⟩ := h2
    exact rowIn_of Try.underlying24 Try.underlying3 (by kernel_rfl) hf
  clear hA0 hval0
  refine (walk_ButtonsOwn a0 w0 _ z1 W w1 _ z2 w2).mono fun e W' ⟨he, bel⟩ => ?_
  subst he
  exact ⟨_, rfl, _, _, _, [], _, [], hW', trodAll_mk1 (shut_bool Try.underlying4 _), (trodAll_cons_mk (shut_int Try.underlying3 w0) (trodAll_cons_mk (Below.trod lay (by kernel_rfl) (of_decide_eq_true (by kernel_rfl)) k1 bel lt1) (trodAll_cons_mk (Below.trod lay (by kernel_rfl) (of_decide_eq_true (by kernel_rfl)) k2 bel lt2) trodAll_mk0))), rfl, bel.frame _, fun h => by cases h⟩

theorem over : Rows.buttonsOwnRow.holds Try.pinned (OpenSpec.ofChange Rows.buttonsOwnSpec) :=
  OpenClaim.holds_of_wide 15 Try.f15 rfl rfl rfl rfl rfl rfl rfl ⟨rfl, rfl, rfl, rfl, rfl⟩ rfl rfl rfl rfl rfl (by kernel_rfl) Try.func15 (by kernel_rfl)
    (of_decide_eq_true (by kernel_rfl)) (by unfold Func.isWrapper; first | (rw [if_pos (by decide +kernel)]; kernel_rfl) | (rw [if_neg (by decide +kernel)]; exact ⟨rfl, rfl⟩))
    (fun os started H enc _ => lifted os started H enc)

theorem proved : Rows.ButtonsOwnSaid := over
end lawButtonsOwn
end Go.Proofs.Ytambhhjbafefgaa
