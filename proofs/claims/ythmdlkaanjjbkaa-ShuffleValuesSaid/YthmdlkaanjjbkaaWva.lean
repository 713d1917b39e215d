/- The walk of Values. -/
import Derived.Test.YthmdlkaanjjbkaaSpl
import Derived.Test.YthmdlkaanjjbkaaRdv
import Derived.Test.YthmdlkaanjjbkaaRfm
import Derived.Test.YthmdlkaanjjbkaaEqp
namespace Go.Proofs.Ythmdlkaanjjbkaa
set_option linter.unusedVariables false
open Go.RowKit

theorem evalL_red (q : Nat) (x : Int) : ∀ xs : List Int, evalL x (redL q xs) % (q : Int) = evalL x xs % (q : Int)
  | [] => rfl
  | c :: cs => by
    have ih := evalL_red q x cs
    show (c % (q : Int) + x * evalL x (redL q cs)) % (q : Int) = (c + x * evalL x cs) % (q : Int)
    rw [Int.emod_add_emod, Int.add_emod, Int.mul_emod, ih, ← Int.mul_emod, ← Int.add_emod]
theorem valuesL_red (q : Nat) (xs : List Int) : valuesL q (redL q xs) = valuesL q xs := by
  unfold valuesL
  exact List.map_congr_left fun x _ => by rw [polyV_eval, polyV_eval, evalL_red]
theorem shL_congr {m : Nat} (hm : 1 ≤ m) (hm2 : m ≤ 64) {f g : Nat → Int} (h : ∀ x, x < m → f x = g x) (k : Nat) : shL m f k = shL m g k := by
  unfold shL
  have e : ∀ a, okS m f a = okS m g a := fun a => by
    rw [Bool.eq_iff_iff, okS_iff hm2, okS_iff hm2]
    constructor
    · intro h1 x hx
      have := h1 x hx
      rwa [h x hx, h _ (Nat.mod_lt _ (by omega))] at this
    · intro h1 x hx
      rw [h x hx, h _ (Nat.mod_lt _ (by omega))]
      exact h1 x hx
  rw [show okS m f = okS m g from funext e]
theorem redL_in {q : Nat} (hq : 1 ≤ q) (xs : List Int) : ∀ v ∈ redL q xs, 0 ≤ v ∧ v < q := fun v hv => by
  unfold redL at hv
  obtain ⟨x, _, rfl⟩ := List.mem_map.1 hv
  exact ⟨Int.emod_nonneg _ (by omega), Int.emod_lt_of_pos _ (by omega)⟩
theorem poly_ref2 {m : Int} {n : Nat} {xs : List Int} (hm : modB m = true) (hx : xs.length = n) : (decide (n ≤ 12) && remB m xs) = polyB m xs := by
  unfold polyB
  rw [hm, hx, Bool.true_and]
theorem row_pairs {w : World} {g n : Nat} {base : Nat} {pc : Nat} {e : TypeId} {L : List (Nat × Nat)} (h : w.ownsRow base e 2 (.slice (some ⟨g, 0, none⟩) n pc) n (flatF L)) (hn : 0 < n) : Row w (some ⟨g, 0, none⟩) (n * 2) (flatF L) := by
  refine ⟨h.1, fun _ => ?_⟩
  have hlt := h.lt g rfl
  obtain ⟨a, cap, e1, hc⟩ := own_prs h
  cases e1
  obtain ⟨g', e2, hc⟩ := hc hn
  have e3 := (show (some (⟨g, 0, none⟩ : Addr)) = some ⟨g', 0, none⟩ from e2)
  simp only [Option.some.injEq, Addr.mk.injEq, and_true] at e3
  subst e3
  exact ⟨g, rfl, hlt.2, hc⟩
theorem pair_cells {w : World} {g n k p e : Nat} {L : List (Nat × Nat)} (h : Row w (some ⟨g, 0, none⟩) (n * 2) (flatF L)) (hk : k < n) (hpe : L[k]? = some (p, e)) : w.cell? ⟨g, k * 2, none⟩ = some (.int .i64 p) ∧ w.cell? ⟨g, k * 2 + 1, none⟩ = some (.int .i64 e) := by
  obtain ⟨g', e2, _, hc⟩ := h.2 (by omega)
  have e3 := (show (some (⟨g, 0, none⟩ : Addr)) = some ⟨g', 0, none⟩ from e2)
  simp only [Option.some.injEq, Addr.mk.injEq, and_true] at e3
  subst e3
  obtain ⟨f0, f1⟩ := flatF_get hpe
  exact ⟨hc _ _ f0, hc _ _ f1⟩
set_option maxRecDepth 100000 in
set_option maxHeartbeats 4000000 in
theorem values_x (m : Int) (v : Value) (row : List Int) (w : World) (hR : RowIn w v row) (hm : modB m = false) (hp : polyB m (cutL row) = false) : Calls Try.prog 3 #[.int .i64 m, v] w fun e w' => e = .returned (.bool true) ∧ Below w.heap.size w w' := by
  have hcl := cutL_le row
  have hL := list_in v row w hR
  generalize cutL row = P at *
  obtain ⟨n, hn⟩ : ∃ n, P.length = n := ⟨_, rfl⟩
  rw [hn] at hL hcl
  have HL := Lib.hid hL
  have HV := Lib.hid fun a cap W hW => Values_no m a n cap P W hW (by omega) hp
  have HPm := Lib.hid fun a cap W hW => Permutes_no m a n cap P W hW (by omega) hp
  have HSh := Lib.hid fun a cap W hW => Shifts_no m a n cap P W hW (by omega) hp
  have HSp := Lib.hid fun a cap W hW => Split_no m a n cap P W hW (by omega) hp
  have hM := fun w => refModulus_any m w
  rw [hm] at hM
  have HM := Lib.hid hM
  have HA := Lib.hid fun w => awake_any w
  clear hM hR hL hp
  go_enter Try.func3, Try.ntmps3
  go_wp2_with fail
  refine (HL.out).mono ?_
  rintro e w1 ⟨v1, rfl, ho, b1⟩
  have B1 := Lib.hid b1
  clear b1
  obtain ⟨a1, c1, hv, hc1, r1⟩ := own_slice ho
  subst v1
  have RP := Lib.hid r1
  clear ho r1
  go_wp2_with fail
  refine (HV.out _ _ _ RP.out).mono ?_
  rintro e w2 ⟨rfl, hw⟩
  subst w2
  go_wp2_with fail
  refine (HPm.out _ _ _ RP.out).mono ?_
  rintro e w3 ⟨rfl, b3⟩
  have B3 := Lib.hid (b_next B1.out b3)
  clear B1
  replace RP := Lib.hid (RP.out.below b3)
  clear b3
  go_wp2_with fail
  refine (HSh.out _ _ _ RP.out).mono ?_
  rintro e w4 ⟨rfl, hw⟩
  subst w4
  go_wp2_with fail
  refine (HSp.out _ _ _ RP.out).mono ?_
  rintro e w5 ⟨rfl, hw⟩
  subst w5
  go_wp2_with fail
  refine (HM.out _).mono ?_
  rintro e w6 ⟨rfl, hw⟩
  subst w6
  go_wp2_with fail
  refine (HA.out _).mono ?_
  rintro e w7 ⟨rfl, b7⟩
  have B7 := Lib.hid (b_next B3.out b7)
  clear B3
  replace RP := Lib.hid (RP.out.below b7)
  clear b7
  go_wp2
  go_ret
  exact ⟨rfl, B7.out⟩
set_option maxRecDepth 100000 in
set_option maxHeartbeats 4000000 in
theorem values_no (m : Int) (v : Value) (row : List Int) (w : World) (hR : RowIn w v row) (hm : modB m = true) (hp : polyB m (cutL row) = false) : Calls Try.prog 3 #[.int .i64 m, v] w fun e w' => e = .returned (.bool true) ∧ Below w.heap.size w w' := by
  have hcl := cutL_le row
  have hL := list_in v row w hR
  generalize cutL row = P at *
  obtain ⟨n, hn⟩ : ∃ n, P.length = n := ⟨_, rfl⟩
  rw [hn] at hL hcl
  have HL := Lib.hid hL
  have HV := Lib.hid fun a cap W hW => Values_no m a n cap P W hW (by omega) hp
  have HPm := Lib.hid fun a cap W hW => Permutes_no m a n cap P W hW (by omega) hp
  have HSh := Lib.hid fun a cap W hW => Shifts_no m a n cap P W hW (by omega) hp
  have HSp := Lib.hid fun a cap W hW => Split_no m a n cap P W hW (by omega) hp
  have hM := fun w => refModulus_any m w
  rw [hm] at hM
  have hPo := fun a cap W hW => refPoly_any m a n cap P W hW (by omega)
  rw [poly_ref2 hm hn, hp] at hPo
  have HPo := Lib.hid hPo
  clear hPo
  have HM := Lib.hid hM
  have HA := Lib.hid fun w => awake_any w
  clear hM hR hL hp
  go_enter Try.func3, Try.ntmps3
  go_wp2_with fail
  refine (HL.out).mono ?_
  rintro e w1 ⟨v1, rfl, ho, b1⟩
  have B1 := Lib.hid b1
  clear b1
  obtain ⟨a1, c1, hv, hc1, r1⟩ := own_slice ho
  subst v1
  have RP := Lib.hid r1
  clear ho r1
  go_wp2_with fail
  refine (HV.out _ _ _ RP.out).mono ?_
  rintro e w2 ⟨rfl, hw⟩
  subst w2
  go_wp2_with fail
  refine (HPm.out _ _ _ RP.out).mono ?_
  rintro e w3 ⟨rfl, b3⟩
  have B3 := Lib.hid (b_next B1.out b3)
  clear B1
  replace RP := Lib.hid (RP.out.below b3)
  clear b3
  go_wp2_with fail
  refine (HSh.out _ _ _ RP.out).mono ?_
  rintro e w4 ⟨rfl, hw⟩
  subst w4
  go_wp2_with fail
  refine (HSp.out _ _ _ RP.out).mono ?_
  rintro e w5 ⟨rfl, hw⟩
  subst w5
  go_wp2_with fail
  refine (HM.out _).mono ?_
  rintro e w6 ⟨rfl, hw⟩
  subst w6
  go_wp2_with fail
  refine (HPo.out _ _ _ RP.out).mono ?_
  rintro e w7 ⟨rfl, hw⟩
  subst w7
  go_wp2_with fail
  refine (HA.out _).mono ?_
  rintro e w8 ⟨rfl, b8⟩
  have B8 := Lib.hid (b_next B3.out b8)
  clear B3
  replace RP := Lib.hid (RP.out.below b8)
  clear b8
  go_wp2
  go_ret
  exact ⟨rfl, B8.out⟩
set_option maxRecDepth 100000 in
set_option maxHeartbeats 16000000 in
theorem values_yes (m : Nat) (v : Value) (row : List Int) (w : World) (hR : RowIn w v row) (hm : 2 ≤ m) (hm2 : m ≤ 64) (hp : polyB m (cutL row) = true) : Calls Try.prog 3 #[.int .i64 m, v] w fun e w' => e = .returned (.bool true) ∧ Below w.heap.size w w' := by
  have hmb : modB (m : Int) = true := decide_eq_true (by omega)
  have hL := list_in v row w hR
  generalize cutL row = P at *
  have hp12 : P.length ≤ 12 ∧ ∀ x ∈ P, 0 ≤ x ∧ x < m := by
    have h := hp
    unfold polyB at h
    rw [Bool.and_eq_true, Bool.and_eq_true, decide_eq_true_eq] at h
    exact ⟨h.1.2, remB_in h.2⟩
  obtain ⟨hp12, hPin⟩ := hp12
  obtain ⟨n, hn⟩ : ∃ n, P.length = n := ⟨_, rfl⟩
  rw [hn] at hL hp12
  have hFl := valuesL_len m P
  have hFin := valuesL_in (m := m) (by omega) P
  have hV := fun a cap W hW => Values_yes m a n cap P W hW hp
  have hPm := fun a cap W hW => Permutes_yes m a n cap P W hW hp
  have hSh := fun a cap W hW => Shifts_yes m a n cap P W hW hp
  have hSp := fun a cap W hW => Split_yes m a n cap P W hW hp
  have hRv := fun a cap W hW => refValues_any m a n cap P W hW (by omega) hm hm2 hPin
  have hRe := fun a cap W hW => refEqual_any a m cap (valuesL m P) W hW (by omega)
  have hRp := fun W => refParts_any m W (by omega) hm2
  have hRs := fun a cap W hW => refShifts_any m a cap (valuesL m P) W hW hm hm2 hFin
  rw [shL_congr (by omega) hm2 (fun x hx => valuesL_get m P hx) m] at hRs
  have hsle := shL_le m (fun x : Nat => polyV m P x) m
  have hI := fun a b ca cb W h1 h2 => ints_true a b m ca cb (valuesL m P) W h1 h2 (by omega)
  generalize valuesL m P = F at *
  generalize equalR F = R at *
  generalize shL m (fun x : Nat => polyV m P x) m = S at *
  obtain ⟨sl, hsl⟩ : ∃ n, S.length = n := ⟨_, rfl⟩
  rw [hsl] at hSh hRs hsle
  have hI2 := fun a b ca cb W h1 h2 => ints_true a b sl ca cb S W h1 h2 (by omega)
  obtain ⟨q1, q2, q3⟩ := parts_facts ⟨m, by omega⟩ hm
  simp only at q1 q2 q3
  have hspl : (spL m P).length = (partsL m).length := by unfold spL; rw [List.length_map]
  have hsget : ∀ (j : Nat) (pk : Nat × Nat), (partsL m)[j]? = some pk → (spL m P)[j]? = some (valuesL (powN pk.1 pk.2) P) := fun j pk h => by unfold spL; rw [List.getElem?_map, h]; rfl
  have hpk : ∀ (j : Nat) (pk : Nat × Nat), (partsL m)[j]? = some pk → pk.1 ≤ 64 ∧ pk.2 ≤ 6 ∧ 2 ≤ powN pk.1 pk.2 ∧ powN pk.1 pk.2 ≤ 64 := fun j pk h => by
    rw [List.all_eq_true] at q1
    have h4 := q1 pk (List.mem_of_getElem? h)
    unfold partOK at h4
    have h5 := of_decide_eq_true h4
    exact ⟨h5.2.1, h5.2.2.2.1, h5.2.2.2.2.1, h5.2.2.2.2.2⟩
  generalize spL m P = Ls at *
  generalize partsL m = L at *
  obtain ⟨np, hnp⟩ : ∃ n, L.length = n := ⟨_, rfl⟩
  rw [hnp] at hSp hRp hspl q2 q3
  have hPo := fun a cap W hW => refPoly_any m a n cap P W hW (by omega)
  rw [poly_ref2 hmb hn, hp] at hPo
  have hM := fun w => refModulus_any (m : Int) w
  rw [hmb] at hM
  have hRd := fun (q : Nat) (h1 : 2 ≤ q) (h2 : q ≤ 64) a cap W hW => refReduced_any q a n cap P W hW (by omega) h1 h2 (fun x hx => by have := hPin x hx; omega)
  have hRq := fun (q : Nat) (h1 : 2 ≤ q) (h2 : q ≤ 64) a cap W hW => refValues_any q a n cap (redL q P) W hW (by omega) h1 h2 (redL_in (by omega) P)
  simp only [valuesL_red] at hRq
  have hIq := fun (q : Nat) (h2 : q ≤ 64) a b ca cb W h1 h2' => ints_true a b q ca cb (valuesL q P) W h1 h2' (by omega)
  have HL := Lib.hid hL
  have HV := Lib.hid hV
  have HPm := Lib.hid hPm
  have HSh := Lib.hid hSh
  have HSp := Lib.hid hSp
  have HRv := Lib.hid hRv
  have HRe := Lib.hid hRe
  have HRp := Lib.hid hRp
  have HRs := Lib.hid hRs
  have HI := Lib.hid hI
  have HI2 := Lib.hid hI2
  have Hspl := Lib.hid hspl
  have Hsget := Lib.hid hsget
  have Hpk := Lib.hid hpk
  have HPo := Lib.hid hPo
  have HM := Lib.hid hM
  have HRd := Lib.hid hRd
  have HRq := Lib.hid hRq
  have HIq := Lib.hid hIq
  have Hnp := Lib.hid hnp
  have Hn1 := Lib.hid q2
  have HA := Lib.hid (fun w => awake_any w)
  clear hL hV hPm hSh hSp hRv hRe hRp hRs hI hI2 hspl hsget hpk hPo hM hRd hRq hIq hp hPin hFin hFl hsl hnp hn q1 hmb hR hsle
  go_enter Try.func3, Try.ntmps3
  go_wp2_with fail
  refine (HL.out).mono ?_
  rintro e w1 ⟨v1, rfl, ho, b1⟩
  have B1 := Lib.hid b1
  clear b1
  obtain ⟨a1, c1, hv, hc1, r1⟩ := own_slice ho
  subst v1
  have RP := Lib.hid r1
  clear ho r1
  go_wp2_with fail
  refine (HV.out _ _ _ RP.out).mono ?_
  rintro e w2 ⟨v2, rfl, ho, b2⟩
  have B2 := Lib.hid (b_next B1.out b2)
  clear B1
  replace RP := Lib.hid (RP.out.below b2)
  clear b2
  obtain ⟨a2, c2, hv, hc2, r2⟩ := own_slice ho
  subst v2
  have RF := Lib.hid r2
  clear ho r2
  go_wp2_with fail
  refine (HPm.out _ _ _ RP.out).mono ?_
  rintro e w3 ⟨rfl, b3⟩
  have B3 := Lib.hid (b_next B2.out b3)
  clear B2
  replace RP := Lib.hid (RP.out.below b3)
  replace RF := Lib.hid (RF.out.below b3)
  clear b3
  go_wp2_with fail
  refine (HSh.out _ _ _ RP.out).mono ?_
  rintro e w4 ⟨v4, rfl, ho, b4⟩
  have B4 := Lib.hid (b_next B3.out b4)
  clear B3
  replace RP := Lib.hid (RP.out.below b4)
  replace RF := Lib.hid (RF.out.below b4)
  clear b4
  obtain ⟨a3, c3, hv, hc3, r4⟩ := own_slice ho
  subst v4
  have RS := Lib.hid r4
  clear ho r4
  go_wp2_with fail
  refine (HSp.out _ _ _ RP.out).mono ?_
  rintro e wS ⟨pv, fv, rfl, op, hl, bS⟩
  have BS := Lib.hid (b_next B4.out bS)
  replace RP := Lib.hid (RP.out.below bS)
  replace RF := Lib.hid (RF.out.below bS)
  replace RS := Lib.hid (RS.out.below bS)
  obtain ⟨pa, pc, rfl, hpc⟩ := own_prs op
  obtain ⟨g1, rfl, _⟩ := hpc Hn1.out
  have RPa := Lib.hid (row_pairs op Hn1.out)
  obtain ⟨la, lc, hfv, _, _, htb⟩ := hl.tbl
  rw [Hspl.out] at hfv
  subst hfv
  have TL := Lib.hid htb
  clear bS op hl hpc htb B4
  go_wp2_with fail
  refine (HM.out _).mono ?_
  rintro e w6 ⟨rfl, hw⟩
  subst w6
  go_wp2_with fail
  refine (HPo.out _ _ _ RP.out).mono ?_
  rintro e w7 ⟨rfl, hw⟩
  subst w7
  go_wp2_with fail
  refine (HRv.out _ _ _ RP.out).mono ?_
  rintro e w8 ⟨v8, rfl, ho, b8⟩
  have B8 := Lib.hid (b_next BS.out b8)
  clear BS
  replace RP := Lib.hid (RP.out.below b8)
  replace RF := Lib.hid (RF.out.below b8)
  replace RS := Lib.hid (RS.out.below b8)
  replace RPa := Lib.hid (RPa.out.below b8)
  replace TL := Lib.hid (TL.out.below b8)
  clear b8
  obtain ⟨a5, c5, hv, hc5, r8⟩ := own_slice ho
  subst v8
  have RV := Lib.hid r8
  clear ho r8
  go_wp2_with fail
  refine (HRe.out _ _ _ RV.out).mono ?_
  rintro e w9 ⟨rfl, hq⟩
  have b9 := drew_below hq
  clear hq
  have B9 := Lib.hid (b_next B8.out b9)
  clear B8
  replace RP := Lib.hid (RP.out.below b9)
  replace RF := Lib.hid (RF.out.below b9)
  replace RS := Lib.hid (RS.out.below b9)
  replace RPa := Lib.hid (RPa.out.below b9)
  replace TL := Lib.hid (TL.out.below b9)
  replace RV := Lib.hid (RV.out.below b9)
  clear b9
  go_wp2_with fail
  refine (HRp.out _).mono ?_
  rintro e wR ⟨pw, rfl, op, bR⟩
  have BR := Lib.hid (b_next B9.out bR)
  replace RP := Lib.hid (RP.out.below bR)
  replace RF := Lib.hid (RF.out.below bR)
  replace RS := Lib.hid (RS.out.below bR)
  replace RPa := Lib.hid (RPa.out.below bR)
  replace TL := Lib.hid (TL.out.below bR)
  replace RV := Lib.hid (RV.out.below bR)
  obtain ⟨pb, pd, rfl, hpc⟩ := own_prs op
  obtain ⟨g2, rfl, _⟩ := hpc Hn1.out
  have RPw := Lib.hid (row_pairs op Hn1.out)
  clear bR op hpc B9
  go_wp2_with fail
  refine (HI.out _ _ _ _ _ RF.out RV.out).mono ?_
  rintro e w11 ⟨rfl, hq⟩
  have b11 := drew_below hq
  clear hq
  have B11 := Lib.hid (b_next BR.out b11)
  clear BR
  replace RP := Lib.hid (RP.out.below b11)
  replace RF := Lib.hid (RF.out.below b11)
  replace RS := Lib.hid (RS.out.below b11)
  replace RPa := Lib.hid (RPa.out.below b11)
  replace TL := Lib.hid (TL.out.below b11)
  replace RV := Lib.hid (RV.out.below b11)
  replace RPw := Lib.hid (RPw.out.below b11)
  clear b11
  go_wp2_with fail
  refine (HRs.out _ _ _ RV.out).mono ?_
  rintro e w12 ⟨v12, rfl, ho, b12⟩
  have B12 := Lib.hid (b_next B11.out b12)
  clear B11
  replace RP := Lib.hid (RP.out.below b12)
  replace RF := Lib.hid (RF.out.below b12)
  replace RS := Lib.hid (RS.out.below b12)
  replace RPa := Lib.hid (RPa.out.below b12)
  replace TL := Lib.hid (TL.out.below b12)
  replace RV := Lib.hid (RV.out.below b12)
  replace RPw := Lib.hid (RPw.out.below b12)
  clear b12
  obtain ⟨a7, c7, hv, hc7, r12⟩ := own_slice ho
  subst v12
  have RT := Lib.hid r12
  clear ho r12
  go_wp2_with fail
  refine (HI2.out _ _ _ _ _ RS.out RT.out).mono ?_
  rintro e w13 ⟨rfl, hq⟩
  have b13 := drew_below hq
  clear hq
  have B13 := Lib.hid (b_next B12.out b13)
  clear B12
  replace RP := Lib.hid (RP.out.below b13)
  replace RF := Lib.hid (RF.out.below b13)
  replace RS := Lib.hid (RS.out.below b13)
  replace RPa := Lib.hid (RPa.out.below b13)
  replace TL := Lib.hid (TL.out.below b13)
  replace RV := Lib.hid (RV.out.below b13)
  replace RPw := Lib.hid (RPw.out.below b13)
  replace RT := Lib.hid (RT.out.below b13)
  clear b13
  go_wp2
  generalize w13 = WQ at *
  clear HV HPm HSh HSp HM HPo HRv HRe HRp HI HRs HI2 RF RV RS RT HL
  go_loopw [20] (fun i wr => ∃ k : Nat, k ≤ np ∧ i = .int .i64 k ∧ Hid (Below WQ.heap.size WQ wr)) (fun i _ => np - (intOf i).toNat)
  case atStart => exact ⟨0, Nat.zero_le _, rfl, Below.refl _ _⟩
  case round =>
    obtain ⟨k, hk, rfl, HBk⟩ := hrel
    by_cases hlt : k < np
    · have hc : (k : Int) < (np : Int) := by omega
      obtain ⟨⟨p, e⟩, hpe⟩ : ∃ pk, L[k]? = some pk := ⟨_, List.getElem?_eq_getElem (by have := Hnp.out; omega)⟩
      obtain ⟨x1, x2, x3, x4⟩ := Hpk.out k (p, e) hpe
      have hline := Hsget.out k (p, e) hpe
      simp only at x1 x2 x3 x4 hline
      have hPw := fun W => refPower_any p e W x1 x2
      have heq := fun W => eq_pair (p : Int) (e : Int) W (WalkArith.wf_i64 (by omega)) (WalkArith.wf_i64 (by omega))
      generalize powN p e = q at hPw x3 x4 hline
      have hrd := fun a cap W hW => HRd.out q x3 x4 a cap W hW
      have hrq := fun a cap W hW => HRq.out q x3 x4 a cap W hW
      have hiq := fun a b ca cb W h1 h2 => HIq.out q x4 a b ca cb W h1 h2
      have hlen := valuesL_len q P
      generalize valuesL q P = ln at hlen hline hrq hiq
      obtain ⟨d0, d1⟩ := pair_cells (RPw.out.below HBk.out) hlt hpe
      have HPw := Lib.hid hPw
      have HRdq := Lib.hid hrd
      have HRqq := Lib.hid hrq
      have HIqq := Lib.hid hiq
      have Hgo := Lib.hid (And.intro (show k + 1 ≤ np by omega) hlt)
      have hk3 : k ≤ 3 := by omega
      obtain ⟨gl, ra, rc, e1, hgl, c1, _, hrow⟩ := TL.out.row hline
      subst e1
      rw [hlen] at c1 hrow
      have hcells : ∀ W, Below WQ.heap.size WQ W → W.cell? ⟨g1, k * 2, none⟩ = some (.int .i64 p) ∧ W.cell? ⟨g1, k * 2 + 1, none⟩ = some (.int .i64 e) ∧ W.cell? ⟨g2, k * 2, none⟩ = some (.int .i64 p) ∧ W.cell? ⟨g2, k * 2 + 1, none⟩ = some (.int .i64 e) ∧ W.cell? ⟨gl, k, none⟩ = some (.slice ra q rc) := fun W hW => by
        obtain ⟨a0, a1⟩ := pair_cells (RPa.out.below hW) hlt hpe
        obtain ⟨b0, b1⟩ := pair_cells (RPw.out.below hW) hlt hpe
        exact ⟨a0, a1, b0, b1, (hW.cell (p := ⟨gl, k, none⟩) hgl).trans c1⟩
      have HC := Lib.hid hcells
      have HRow := Lib.hid hrow
      clear hPw hrd hrq hiq hlen hline hpe c1 hrow hcells x1 x2 x3 x4 hk hlt hgl
      go_wp2
      go_quiet ((go_at_call 30; with_reducible exact Calls.quiet_of_same (HPw.out _)))
      have HB5 := Lib.hid (below_drewN HBk.out nq)
      generalize wr.drewN nq = W5 at HB5 ⊢
      clear d0 d1 HBk HPw
      obtain ⟨s0, s1, s2, s3, s4⟩ := HC.out W5 HB5.out
      have RP5 := Lib.hid (RP.out.below HB5.out)
      go_wp2_with fail
      go_region_held3 (fun w' => w'.cell? ⟨g1, k * 2, none⟩ = some (.int .i64 p) ∧ w'.cell? ⟨g1, k * 2 + 1, none⟩ = some (.int .i64 e) ∧ w'.cell? ⟨g2, k * 2, none⟩ = some (.int .i64 p) ∧ w'.cell? ⟨g2, k * 2 + 1, none⟩ = some (.int .i64 e) ∧ w'.cell? ⟨gl, k, none⟩ = some (.slice ra q rc))
        (first | exact ⟨s0, s1, s2, s3, s4⟩ | exact HC1.out | exact HC2.out | exact HC3.out)
        (first
          | (go_at_call 31; with_reducible refine (HRdq.out _ _ _ (RP5.out.below (Below.refl _ _).drew)).mono ?_; rintro e' y1 ⟨l0, rfl, o1, z1⟩; have zz := undrew1 z1; have HZ1 := Lib.hid zz; have HC1 := Lib.hid (HC.out y1 (b_next HB5.out zz)); obtain ⟨b1', b2', hb3', -, hb4'⟩ := own_slice o1; subst hb3'; have HR1 := Lib.hid hb4'; clear o1 z1 zz hb4')
          | (go_at_call 25; with_reducible refine (HRqq.out _ _ _ HR1.out).mono ?_; rintro e' y2 ⟨l1, rfl, o2, z2⟩; have zz2 := b_next HZ1.out z2; have HZ2 := Lib.hid zz2; have HC2 := Lib.hid (HC.out y2 (b_next HB5.out zz2)); obtain ⟨b5', b6', hb7', -, hb8'⟩ := own_slice o2; subst hb7'; have HR2 := Lib.hid hb8'; clear o2 z2 zz2 hb8')
          | (go_at_call 28; with_reducible refine (HIqq.out _ _ _ _ _ (HRow.out.below (b_next HB5.out HZ2.out)) HR2.out).mono ?_; rintro e' y3 ⟨rfl, hq3⟩; have zz3 := b_next HZ2.out (drew_below hq3); have HZ3 := Lib.hid zz3; have HC3 := Lib.hid (HC.out y3 (b_next HB5.out zz3)); clear zz3 hq3))
      have HB7 := Lib.hid (b_next HB5.out HZ3.out)
      clear HC1 HC2 HC3 HZ1 HZ2 HZ3 HR1 HR2 HC HRow RP5 HB5 s0 s1 s2 s3 s4 heq
      generalize y3 = W7 at *
      go_wp2
      go_roundw
      case rel => exact ⟨k + 1, Hgo.out.1, by go_num, HB7⟩
      case measure => exact mz_upn Hgo.out.2
    · obtain rfl : k = np := by omega
      have hc : ¬ (k : Int) < (k : Int) := by omega
      have BZ := Lib.hid (b_next B13.out HBk.out)
      clear HBk
      go_wp2_with fail
      refine (HA.out _).mono ?_
      rintro e' w9 ⟨rfl, b9⟩
      have B9 := Lib.hid (b_next BZ.out b9)
      clear b9
      go_wp2
      go_ret
      exact ⟨rfl, B9.out⟩
theorem walk_ShuffleValues (x : Int) (_ : (Lit.int .i64 x).wf = true) (pv : Value) (rp : List Int) (w : World) (hP : RowIn w pv rp) : Calls Try.prog 3 #[.int .i64 x, pv] w fun e w' => e = .returned (.bool true) ∧ Below w.heap.size w w' := by
  cases hm : modB x with
  | false => exact values_x x pv rp w hP hm (by unfold polyB; rw [hm]; rfl)
  | true =>
    cases hp : polyB x (cutL rp) with
    | false => exact values_no x pv rp w hP hm hp
    | true =>
      obtain ⟨k, rfl, hk, hk2⟩ := modB_nat hm
      exact values_yes k pv rp w hP hk hk2 hp
end Go.Proofs.Ythmdlkaanjjbkaa
