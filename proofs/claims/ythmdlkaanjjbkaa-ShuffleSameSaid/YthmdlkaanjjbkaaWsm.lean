/- The walk of Same. -/
import Derived.Test.YthmdlkaanjjbkaaSmm
import Derived.Test.YthmdlkaanjjbkaaWth
import Derived.Test.YthmdlkaanjjbkaaQlasu
namespace Go.Proofs.Ythmdlkaanjjbkaa
set_option linter.unusedVariables false
open Go.RowKit Go.BigFrame

theorem row_of_rowIs {w : World} {b n : Nat} {t : TypeId} {f : Nat → Value} {xs : List Int} (h : w.rowIs b t n f) (hl : xs.length = n) (hx : ∀ j, j < n → f j = .int .i64 (xs.getD j 0)) : Row w (some ⟨b, 0, none⟩) n (intL xs) := by
  refine ⟨by rw [intL_length]; exact hl, fun _ => ⟨b, rfl, h.lt, fun j u hu => ?_⟩⟩
  have hj : j < n := by rw [← hl, ← intL_length]; exact (List.getElem?_eq_some_iff.1 hu).1
  rw [h.cell hj, hx j hj, ← hu]
  exact (intL_get (by rw [List.getD_eq_getElem?_getD, List.getElem?_eq_getElem (by omega)]; rfl)).symm
/-- the next row after z rounds -/
def Bf (c : Int) (m : Nat) (L : List Int) (z j : Nat) : Int := if j < z then (belowD m 0 L j + c * L.getD j 0) % (m : Int) else if j = z then belowD m 0 L j else 0
theorem Bf_zero (c : Int) (m : Nat) (L : List Int) (j : Nat) : Bf c m L 0 j = 0 := by
  unfold Bf
  rw [if_neg (by omega)]
  by_cases h : j = 0
  · subst h; rfl
  · rw [if_neg h]
theorem Bf_next {c : Int} {m : Nat} {L : List Int} {z : Nat} (j : Nat) : Bf c m L (z + 1) j = if j = z then (belowD m 0 L z + c * L.getD z 0) % (m : Int) else if j = z + 1 then L.getD z 0 % (m : Int) else Bf c m L z j := by
  unfold Bf
  by_cases h1 : j = z
  · subst h1; rw [if_pos (by omega), if_pos rfl]
  · rw [if_neg h1]
    by_cases h2 : j = z + 1
    · subst h2
      rw [if_neg (by omega), if_pos rfl, if_pos rfl]
      unfold belowD
      rw [if_neg (by omega), Nat.add_sub_cancel]
    · rw [if_neg h2, if_neg h2]
      by_cases h3 : j < z
      · rw [if_pos (by omega), if_pos h3]
      · rw [if_neg (by omega), if_neg h3, if_neg h1]
theorem Bf_end {c : Int} {m : Nat} (L : List Int) (j : Nat) (hj : j < L.length + 1) : Bf c m L L.length j = (stepA c m 0 L).getD j 0 := by
  obtain ⟨h1, h2⟩ := stepA_get c m L 0 j
  unfold Bf
  by_cases h : j < L.length
  · rw [if_pos h, h1 h]
  · obtain rfl : j = L.length := by omega
    rw [if_neg h, if_pos rfl, h2 rfl]
theorem below_in {m : Nat} (hm : 1 ≤ m) (L : List Int) (z : Nat) : 0 ≤ belowD m 0 L z ∧ belowD m 0 L z < m := by
  unfold belowD
  by_cases h : z = 0
  · rw [if_pos h]; omega
  · rw [if_neg h]; exact ⟨Int.emod_nonneg _ (by omega), Int.emod_lt_of_pos _ (by omega)⟩
theorem getD_in {m : Nat} (hm : 1 ≤ m) {L : List Int} (h : ∀ v ∈ L, 0 ≤ v ∧ v < m) (z : Nat) : 0 ≤ L.getD z 0 ∧ L.getD z 0 < m := by
  rw [List.getD_eq_getElem?_getD]
  rcases Nat.lt_or_ge z L.length with k | k
  · rw [List.getElem?_eq_getElem k]; exact h _ (List.getElem_mem k)
  · rw [List.getElem?_eq_none k]; simp; omega
theorem s1_num {m : Nat} {u y : Int} (hm : 2 ≤ m) (hm2 : m ≤ 64) (hu : 0 ≤ u ∧ u < m) (hy : 0 ≤ y ∧ y < m) : ∃ s r : Int, IntKind.i64.wrap (u + y) = s ∧ Int.tmod s (m : Int) = r ∧ IntKind.i64.wrap r = r ∧ (u + y) % (m : Int) = r := by
  have h1 := Int.emod_nonneg (u + y) (show (m : Int) ≠ 0 by omega)
  have h2 := Int.emod_lt_of_pos (u + y) (show (0 : Int) < m by omega)
  refine ⟨u + y, (u + y) % (m : Int), IntWalk.i64_in _ (by omega), Int.tmod_eq_emod_of_nonneg (by omega), ?_, rfl⟩
  generalize (u + y) % (m : Int) = r at h1 h2 ⊢
  exact IntWalk.i64_in _ (by omega)
theorem s2_num {m n : Nat} {d y : Int} (hm : 2 ≤ m) (hm2 : m ≤ 64) (hn : n ≤ 100) (hd : 0 ≤ d ∧ d < m) (hy : 0 ≤ y ∧ y < m) : ∃ nm cc p s r : Int, Int.tmod (n : Int) (m : Int) = nm ∧ IntKind.i64.wrap nm = nm ∧ IntKind.i64.wrap ((m : Int) - nm) = cc ∧ IntKind.i64.wrap (cc * y) = p ∧ IntKind.i64.wrap (d + p) = s ∧ Int.tmod s (m : Int) = r ∧ IntKind.i64.wrap r = r ∧ (d + ((m : Int) - ((n % m : Nat) : Int)) * y) % (m : Int) = r := by
  have h0 := Nat.mod_lt n (show 0 < m by omega)
  have ht := tmod_nat n m
  generalize n % m = k at h0 ht
  obtain ⟨c, hc⟩ : ∃ c : Int, (m : Int) - (k : Int) = c := ⟨_, rfl⟩
  have hc2 : 1 ≤ c ∧ c ≤ 64 := by omega
  have h1 : c * y ≤ 64 * 64 := Int.mul_le_mul (by omega) (by omega) (by omega) (by omega)
  have h2 : 0 ≤ c * y := Int.mul_nonneg (by omega) (by omega)
  have h3 := Int.emod_nonneg (d + c * y) (show (m : Int) ≠ 0 by omega)
  have h4 := Int.emod_lt_of_pos (d + c * y) (show (0 : Int) < m by omega)
  refine ⟨(k : Int), c, c * y, d + c * y, (d + c * y) % (m : Int), ht, IntWalk.i64_in _ (by omega), by rw [IntWalk.i64_in _ (by omega)]; exact hc, IntWalk.i64_in _ (by omega), IntWalk.i64_in _ (by omega), Int.tmod_eq_emod_of_nonneg (by omega), ?_, by rw [hc]⟩
  generalize (d + c * y) % (m : Int) = r at h3 h4 ⊢
  exact IntWalk.i64_in _ (by omega)
theorem ptr_eq {a b : Nat} (h : (some (⟨a, 0, none⟩ : Addr)) = some ⟨b, 0, none⟩) : a = b := by
  simp only [Option.some.injEq, Addr.mk.injEq, and_true] at h
  exact h
set_option maxRecDepth 100000 in
set_option maxHeartbeats 16000000 in
theorem same_a (x i : Int) (pv qv : Value) (rp rq P Q F C : List Int) (m : Nat) (w : World) (hP : RowIn w pv rp) (hQ : RowIn w qv rq) (hm : 2 ≤ m) (hm2 : m ≤ 64) (w1 : wrap64 (2 + (modV x 63 : Int)) = (m : Int)) (w2 : IntKind.i64.wrap (2 + (modV x 63 : Int)) = (m : Int)) (hPe : tamL m rp = P) (hQe : tamL m rq = Q) (hvP : valuesL m P = F) (hFl : F.length = m) (hFin : ∀ v ∈ F, 0 ≤ v ∧ v < m) (hfF : formR m (fun x => F.getD x 0) = some C) (hCl : C.length ≤ 64) (hsm : sameR m P Q = -1) (hvQ : valuesL m Q = F) :
    Calls Try.prog 14 #[.int .i64 x, pv, qv, .int .i64 i] w fun e w' => e = .returned (.bool true) ∧ Below w.heap.size w w' := by
  have hm1 : 1 ≤ m := by omega
  have hpP := tamL_poly hm hm2 rp
  have hpQ := tamL_poly hm hm2 rq
  obtain ⟨hP12, hPin⟩ := tamL_in hm1 rp
  obtain ⟨hQ12, hQin⟩ := tamL_in hm1 rq
  have hTP := fun W hW => tame_in m pv rp W hm1 hm2 (hP.below hW)
  have hTQ := fun W hW => tame_in m qv rq W hm1 hm2 (hQ.below hW)
  rw [hPe] at hpP hTP hP12 hPin
  rw [hQe] at hpQ hTQ hQ12 hQin
  obtain ⟨pl, hpl⟩ : ∃ n, P.length = n := ⟨_, rfl⟩
  obtain ⟨ql, hql⟩ : ∃ n, Q.length = n := ⟨_, rfl⟩
  obtain ⟨cl, hcl⟩ : ∃ n, C.length = n := ⟨_, rfl⟩
  rw [hpl] at hTP hP12
  rw [hql] at hTQ hQ12
  have hii := modV_lt i 12 (by omega)
  have hX := fun W => mod_val i 12 W (by omega) (by omega)
  generalize modV i 12 = ii at hX hii
  have HM := Lib.hid (mod_val x 63 w (by omega) (by omega))
  have HTP := Lib.hid hTP
  have HTQ := Lib.hid hTQ
  have hSm := fun a b cap c2 W h1 h2 => Same_yes m a b pl cap ql c2 P Q W h1 hpP h2 hpQ
  rw [hsm] at hSm
  have HSm := Lib.hid hSm
  have hVP := fun a cap W hW => Values_yes m a pl cap P W hW hpP
  have hVQ := fun a cap W hW => Values_yes m a ql cap Q W hW hpQ
  rw [hvP] at hVP
  rw [hvQ] at hVQ
  have HVP := Lib.hid hVP
  have HVQ := Lib.hid hVQ
  have hFP := fun a cap W hW => Form_some m a cap F C W hW hm hm2 hFin hfF
  rw [hcl] at hFP hCl
  have HFP := Lib.hid hFP
  have hI1 := fun a b ca cb W h1 h2 => ints_true a b m ca cb F W h1 h2 (by omega)
  have hI2 := fun a b ca cb W h1 h2 => ints_true a b cl ca cb C W h1 h2 (by omega)
  have HI1 := Lib.hid hI1
  have HI2 := Lib.hid hI2
  have g1 : decide ((-1 : Int) ≥ (m : Int)) = false := decide_eq_false (by omega)
  have g2 : decide ((m : Int) ≤ -1) = false := decide_eq_false (by omega)
  clear hI1 hI2
  have HX := Lib.hid hX
  have HRm := Lib.hid fun W => Room_any m ii W hm hm2 (by omega)
  have hmse := more_same hm P ii
  have hmpo := more_poly hm hm2 (P := P) (by omega) hPin hii
  have hSlen : (addM m P (moreN m ii ii)).length = max pl (ii + 1) := by rw [addM_length, moreN_length, hpl]
  have hSget := addM_get m P (moreN m ii ii)
  have hMlen := moreN_length m ii
  have hMin := fun n => moreN_in hm1 ii n
  have hMs : ∀ n, moreN m ii (n + 1) = stepA ((m : Int) - ((n % m : Nat) : Int)) m 0 (moreN m ii n) := fun _ => rfl
  have hM0 : moreN m ii 0 = [((roomN m ii % m : Nat) : Int)] := rfl
  have hrm : roomN m ii ≤ m := Nat.div_le_self _ _
  generalize roomN m ii = rm at HRm hM0 hrm
  obtain ⟨v0, hv0, t1, t2, t3⟩ := rem_all (m := rm) (p := m) (by omega)
  rw [hv0] at hM0
  generalize hSS : addM m P (moreN m ii ii) = S at *
  generalize hMM : moreN m ii = M at *
  have hS2 := fun a b cap c2 W h1 h2 => Same_yes m a b pl cap (max pl (ii + 1)) c2 P S W h1 hpP h2 hmpo
  rw [hmse] at hS2
  have HS2 := Lib.hid hS2
  have HSlen := Lib.hid hSlen
  have HSget := Lib.hid hSget
  have HMlen := Lib.hid hMlen
  have HMin := Lib.hid hMin
  have HMs := Lib.hid hMs
  have HM0 := Lib.hid hM0
  have HPin := Lib.hid hPin
  have HPl := Lib.hid hpl
  have HA := Lib.hid fun w => awake_any w
  have hmake := fun (n : Nat) (h : n ≤ 100) => run_make_row' (P := Try.prog) 22 3 (.int .i64 0) 8 Try.underlying22 info_int rfl .i64 .i64 n (by omega) (by omega)
  have HMk := Lib.hid hmake
  obtain ⟨z1, z2⟩ := zero_no hm
  have Hm0 := Lib.hid (show 0 < m by omega)
  generalize modV x 63 = r at *
  clear hmake hX hTP hTQ hSm hVP hVQ hFP hS2 hSlen hSget hMlen hMin hMs hM0 hPin hQin hpP hpQ hmse hmpo hSS hMM hv0 hPe hQe hvP hvQ hP hQ hpl hql hcl hsm hFl hFin hfF
  go_enter Try.func14, Try.ntmps14
  go_wp2_with fail
  refine (HM.out).mono ?_
  rintro e w1 ⟨rfl, hw⟩
  subst w1
  go_wp2_with fail
  refine (HTP.out _ (Below.refl _ _)).mono ?_
  rintro e w2 ⟨v2, rfl, ho, b2⟩
  have B2 := Lib.hid b2
  clear b2
  obtain ⟨aA, cA, hv, hcA, r2⟩ := own_slice ho
  subst v2
  have RA := Lib.hid r2
  clear ho r2
  go_wp2_with fail
  refine (HTQ.out _ B2.out).mono ?_
  rintro e w3 ⟨v3, rfl, ho, b3⟩
  have B3 := Lib.hid (b_next B2.out b3)
  clear B2
  replace RA := Lib.hid (RA.out.below b3)
  clear b3
  obtain ⟨aB, cB, hv, hcB, r3⟩ := own_slice ho
  subst v3
  have RB := Lib.hid r3
  clear ho r3
  go_wp2_with fail
  refine (HSm.out _ _ _ _ _ RA.out RB.out).mono ?_
  rintro e w4 ⟨rfl, b4⟩
  have B4 := Lib.hid (b_next B3.out b4)
  clear B3
  replace RA := Lib.hid (RA.out.below b4)
  replace RB := Lib.hid (RB.out.below b4)
  clear b4
  go_wp2_with fail
  refine (HVP.out _ _ _ RA.out).mono ?_
  rintro e w5 ⟨v5, rfl, ho, b5⟩
  have B5 := Lib.hid (b_next B4.out b5)
  clear B4
  replace RA := Lib.hid (RA.out.below b5)
  replace RB := Lib.hid (RB.out.below b5)
  clear b5
  obtain ⟨aF, cF, hv, hcF, r5⟩ := own_slice ho
  subst v5
  have RF := Lib.hid r5
  clear ho r5
  go_wp2_with fail
  refine (HVQ.out _ _ _ RB.out).mono ?_
  rintro e w6 ⟨v6, rfl, ho, b6⟩
  have B6 := Lib.hid (b_next B5.out b6)
  clear B5
  replace RA := Lib.hid (RA.out.below b6)
  replace RB := Lib.hid (RB.out.below b6)
  replace RF := Lib.hid (RF.out.below b6)
  clear b6
  obtain ⟨aH, cH, hv, hcH, r6⟩ := own_slice ho
  subst v6
  have RH := Lib.hid r6
  clear ho r6
  clear RB
  go_wp2_with fail
  refine (HFP.out _ _ _ RF.out).mono ?_
  rintro e w7 ⟨v7, rfl, ho, b7⟩
  have B7 := Lib.hid (b_next B6.out b7)
  clear B6
  replace RA := Lib.hid (RA.out.below b7)
  replace RF := Lib.hid (RF.out.below b7)
  replace RH := Lib.hid (RH.out.below b7)
  clear b7
  obtain ⟨aC, cC, hv, hcC, r7⟩ := own_slice ho
  subst v7
  have RC := Lib.hid r7
  clear ho r7
  go_wp2_with fail
  refine (HFP.out _ _ _ RH.out).mono ?_
  rintro e w8 ⟨v8, rfl, ho, b8⟩
  have B8 := Lib.hid (b_next B7.out b8)
  clear B7
  replace RA := Lib.hid (RA.out.below b8)
  replace RF := Lib.hid (RF.out.below b8)
  replace RH := Lib.hid (RH.out.below b8)
  replace RC := Lib.hid (RC.out.below b8)
  clear b8
  obtain ⟨aD, cD, hv, hcD, r8⟩ := own_slice ho
  subst v8
  have RD := Lib.hid r8
  clear ho r8
  go_wp2
  refine wp_region_quiet_lit (by kernel_rfl) (by kernel_rfl) ?_
  simp only [List.append]
  repeat (go_big_quiet_step ((first | (go_at_call 28; with_reducible exact Calls.quiet_of (HI1.out _ _ _ _ _ (RF.out.drewN _) (RH.out.drewN _))) | (go_at_call 28; with_reducible exact Calls.quiet_of (HI2.out _ _ _ _ _ (RC.out.drewN _) (RD.out.drewN _))))))
  refine wpQuiet_nil ?_
  intro wq hwq
  obtain ⟨nq, rfl⟩ := hwq
  replace RA := Lib.hid (RA.out.drewN nq)
  have BX := Lib.hid (below_drewN B8.out nq)
  generalize w8.drewN nq = WX at RA BX ⊢
  clear RF RH RC RD HI1 HI2 HFP HVP HVQ HSm HTP HTQ HM B8 g1 g2
  go_wp2_with fail
  refine (HX.out _).mono ?_
  rintro e wa ⟨rfl, hw⟩
  subst wa
  go_wp2_with fail
  refine (HRm.out _).mono ?_
  rintro e wa ⟨rfl, hw⟩
  subst wa
  have HP12 := Lib.hid hP12
  clear hrm hP12 hQ12 hCl
  go_wp2
  have hrow0 := Row.built (w := WX) 3 [.int .i64 (v0 : Int)]
  have hb0 := below_alloc WX (.cells #[.int .i64 (v0 : Int)] 3)
  have RM0 : Hid (Row (WX.alloc (.cells #[.int .i64 (v0 : Int)] 3)) (some ⟨WX.heap.size, 0, none⟩) 1 (intL (M 0))) := by rw [HM0.out]; exact hrow0
  replace RA := Lib.hid (RA.out.below hb0)
  have B9 := Lib.hid (b_next BX.out hb0)
  generalize WX.heap.size = g0 at *
  generalize WX.alloc (.cells #[.int .i64 (v0 : Int)] 3) = W9 at RM0 RA B9 ⊢
  clear hrow0 hb0 t1 t2 t3 HX HRm HM0 BX
  go_loopw [21, 22] (fun mo nn wr => ∃ (n g c l : Nat), n ≤ ii ∧ l ≤ 12 ∧ Hid (l = n + 1) ∧ nn = .int .i64 n ∧ mo = .slice (some ⟨g, 0, none⟩) l c ∧ Hid (Row wr (some ⟨g, 0, none⟩) l (intL (M n))) ∧ Hid (Below W9.heap.size W9 wr)) (fun _ nn _ => ii - (intOf nn).toNat)
  case atStart => exact ⟨0, g0, 1, 1, Nat.zero_le _, by decide, rfl, rfl, rfl, RM0, Below.refl _ _⟩
  case round =>
    obtain ⟨n, g, c, l, hn, hl12, HL, rfl, rfl, RM, BM⟩ := hrel
    clear RM0
    generalize wr = W1 at *
    by_cases hlt : n < ii
    · have hc : (n : Int) < (ii : Int) := by omega
      obtain ⟨l1, hl1⟩ : ∃ l1, l + 1 = l1 := ⟨_, rfl⟩
      have hmk := HMk.out (l + 1) (by omega)
      rw [hl1] at hmk
      have hmk2 : ∀ w : World, (Instr.makeSlice 22 (.int .i64 ((l : Int) + 1)) (.int .i64 ((l : Int) + 1))).run Try.prog w = .ok (.slice (some ⟨w.heap.size, 0, none⟩) l1 l1) (w.alloc (.cells (madeCells #[.int .i64 0] l1) 3)) := fun w => by
        have := hmk w
        rw [← hl1] at this ⊢
        exact this
      have hl1s := Lib.hid hl1
      have Hlt := Lib.hid hlt
      clear hl1 hmk
      go_wp2
      have hr0 := World.rowIs_made W1 (.int .i64 0) l1 3
      have hb1 := below_alloc W1 (.cells (madeCells #[.int .i64 0] l1) 3)
      have HR0 : Hid ((W1.alloc (.cells (madeCells #[.int .i64 0] l1) 3)).rowIs W1.heap.size 3 l1 (fun j => .int .i64 (Bf ((m : Int) - ((n % m : Nat) : Int)) m (M n) 0 j))) := hr0.congr fun j _ => by rw [Bf_zero]
      have HB1 := Lib.hid hb1
      generalize W1.alloc (.cells (madeCells #[.int .i64 0] l1) 3) = W2 at HR0 HB1 ⊢
      clear hr0 hb1 hmk2
      have hgl : g < W1.heap.size := by
        obtain ⟨g', e1, e2, _⟩ := RM.out.2 (by have := HL.out; omega)
        have := ptr_eq e1
        omega
      have Hgl := Lib.hid hgl
      have Hfs := Lib.hid (HMs.out n)
      generalize hLL : M n = L at *
      generalize hcc : ((m : Int) - ((n % m : Nat) : Int)) = cc at *
      have Hcc := Lib.hid hcc
      have HLl : Hid (L.length = l) := by have h1 := HMlen.out n; rw [hLL] at h1; rw [HL.out]; exact h1
      have HLi : Hid (∀ v ∈ L, 0 ≤ v ∧ v < m) := by rw [← hLL]; exact HMin.out n
      have HLL := Lib.hid hLL
      clear hLL hcc hgl
      go_loopw [24] (fun zz wr => ∃ z : Nat, z ≤ l ∧ zz = .int .i64 z ∧ Hid (wr.rowIs W1.heap.size 3 l1 (fun j => .int .i64 (Bf cc m L z j))) ∧ Hid (Below W1.heap.size W1 wr)) (fun zz _ => l - (intOf zz).toNat)
      case atStart => exact ⟨0, Nat.zero_le _, rfl, HR0, HB1⟩
      case round =>
        clear HR0 HB1
        obtain ⟨z, hz, rfl, HR, HB⟩ := hrel
        by_cases hzl : z < l
        · have hc2 : (z : Int) < (l : Int) := by omega
          have hcyf : ∀ W, Below W1.heap.size W1 W → W.cell? ⟨g, z, none⟩ = some (.int .i64 (L.getD z 0)) := fun W hW => by
            obtain ⟨g', e1, c⟩ := (RM.out.below hW).int hzl
            have e1' := ptr_eq e1
            subst g'
            exact c
          have cy := hcyf wr HB.out
          have Hcy := Lib.hid hcyf
          clear hcyf
          have hyi := getD_in hm1 HLi.out z
          have hdi := below_in hm1 L z
          obtain ⟨z1', hz1'⟩ : ∃ z1, z + 1 = z1 := ⟨_, rfl⟩
          have hz1l : z1' < l1 := by have := hl1s.out; omega
          have hcz := HR.out.cell (i := z) (by have := hl1s.out; omega)
          have hcz1 := HR.out.cell (i := z1') hz1l
          have b1 : Bf cc m L z z = belowD m 0 L z := by unfold Bf; rw [if_neg (by omega), if_pos rfl]
          have b2 : Bf cc m L z z1' = 0 := by unfold Bf; rw [if_neg (by omega), if_neg (by omega)]
          rw [b1] at hcz
          rw [b2] at hcz1
          have hbn := fun j => Bf_next (c := cc) (m := m) (L := L) (z := z) j
          rw [hz1'] at hbn
          obtain ⟨s, d1, n1, n2, n3, n4⟩ := s1_num (u := 0) hm hm2 (by omega) hyi
          rw [Int.zero_add] at n4
          obtain ⟨nm, cd, p, s2, r2, k1, k2, k3, k4, k5, k6, k7, k8⟩ := s2_num (n := n) hm hm2 (by omega) hdi hyi
          rw [Hcc.out] at k8
          rw [n4, k8] at hbn
          have hfz := HR.out.frozen z
          have hfz1 := HR.out.frozen z1'
          generalize L.getD z 0 = y at *
          generalize belowD m 0 L z = d0 at *
          obtain ⟨u0, hu0⟩ : ∃ u : Int, u = 0 := ⟨_, rfl⟩
          rw [← hu0] at hcz1 n1
          have hw := (wrap_nx (k := z) (by omega)).1
          rw [hz1'] at hw
          have hzi : (z : Int) < (l1 : Int) := by omega
          have hz1i : (z1' : Int) < (l1 : Int) := by omega
          have Hbn := Lib.hid hbn
          have Hb1 := Lib.hid b1
          have Hgo := Lib.hid (show z + 1 ≤ l ∧ z < l ∧ z ≠ z1' ∧ z1' = z + 1 by omega)
          clear hbn b1 b2 hyi hdi hz1' n4 k8 hu0 hz1l hzl hz
          go_wp2
          refine wp_region_qlast17 (by kernel_rfl) (by kernel_rfl) (by kernel_rfl) ?_
          repeat (go_big_quiet_step (fail))
          refine wpQuiet_nil ?_
          intro wq hwq
          obtain ⟨nq, rfl⟩ := hwq
          have HRq : Hid ((wr.drewN nq).rowIs W1.heap.size 3 l1 (fun j => .int .i64 (Bf cc m L z j))) := HR.out
          have HBq : Hid (Below W1.heap.size W1 (wr.drewN nq)) := below_drewN HB.out nq
          have hcz1q : (wr.drewN nq).cell? ⟨W1.heap.size, z1', none⟩ = some (.int .i64 u0) := hcz1
          have hfz1q : (wr.drewN nq).frozen? ⟨W1.heap.size, z1', none⟩ = false := hfz1
          have hczq : (wr.drewN nq).cell? ⟨W1.heap.size, z, none⟩ = some (.int .i64 d0) := hcz
          generalize wr.drewN nq = W5 at HRq HBq hcz1q hfz1q hczq ⊢
          clear hcz1 hfz1 hcz hfz cy HR HB
          show Oper.wp _ _ _ _ _ _
          go_simp
          have HR5 := Lib.hid (HRq.out.set z1' (.int .i64 d1))
          have HB5 := Lib.hid (HBq.out.setCell (p := ⟨W1.heap.size, z1', none⟩) (Nat.le_refl _) (.int .i64 d1))
          generalize W5.setCell ⟨W1.heap.size, z1', none⟩ (.int .i64 d1) = W6 at HR5 HB5 ⊢
          clear hcz1q hfz1q hczq HRq HBq
          have cy := Hcy.out W6 HB5.out
          have hcz := HR5.out.cell (i := z) (by have := Hgo.out; have := hl1s.out; omega)
          rw [if_neg Hgo.out.2.2.1, Hb1.out] at hcz
          have hfz := HR5.out.frozen z
          clear n1 n2 n3 hw hz1i
          go_wp2
          refine wp_region_qlast21 (by kernel_rfl) (by kernel_rfl) (by kernel_rfl) ?_
          repeat (go_big_quiet_step (fail))
          refine wpQuiet_nil ?_
          intro wq hwq
          obtain ⟨nq2, rfl⟩ := hwq
          have HRq : Hid ((W6.drewN nq2).rowIs W1.heap.size 3 l1 _) := HR5.out
          have HBq : Hid (Below W1.heap.size W1 (W6.drewN nq2)) := below_drewN HB5.out nq2
          have hczq : (W6.drewN nq2).cell? ⟨W1.heap.size, z, none⟩ = some (.int .i64 d0) := hcz
          have hfzq : (W6.drewN nq2).frozen? ⟨W1.heap.size, z, none⟩ = false := hfz
          generalize W6.drewN nq2 = W7 at HRq HBq hczq hfzq ⊢
          clear hcz hfz cy HR5 HB5
          show Oper.wp _ _ _ _ _ _
          go_simp
          have HR8 := Lib.hid ((HRq.out.set z (.int .i64 r2)).congr (g := fun j => .int .i64 (Bf cc m L z1' j)) fun j _ => by
            rw [Hbn.out j]
            by_cases h1 : j = z
            · rw [if_pos h1, if_pos h1]
            · rw [if_neg h1, if_neg h1]
              by_cases h2 : j = z1'
              · rw [if_pos h2, if_pos h2]
              · rw [if_neg h2, if_neg h2])
          have HB8 := Lib.hid (HBq.out.setCell (p := ⟨W1.heap.size, z, none⟩) (Nat.le_refl _) (.int .i64 r2))
          generalize W7.setCell ⟨W1.heap.size, z, none⟩ (.int .i64 r2) = W8 at HR8 HB8 ⊢
          clear hczq hfzq HRq HBq k1 k2 k3 k4 k5 k6 k7
          go_wp2
          go_roundw
          case rel => exact ⟨z + 1, Hgo.out.1, by go_num, by rw [← Hgo.out.2.2.2]; exact HR8, HB8⟩
          case measure => exact mz_upn Hgo.out.2.1
        · obtain rfl : z = l := by omega
          have hc2 : ¬ (z : Int) < (z : Int) := by omega
          have RN : Hid (Row wr (some ⟨W1.heap.size, 0, none⟩) l1 (intL (M (n + 1)))) := by
            rw [Hfs.out]
            refine row_of_rowIs HR.out (by rw [stepA_length, HLl.out]; exact hl1s.out) fun j hj => ?_
            have h := Bf_end (c := cc) (m := m) L j (by rw [HLl.out]; have := hl1s.out; omega)
            rw [HLl.out] at h
            rw [h]
          have BN := Lib.hid (b_next BM.out HB.out)
          have Hq : Hid (n + 1 ≤ ii ∧ l1 ≤ 12 ∧ l1 = n + 1 + 1 ∧ n < ii) := ⟨Hlt.out, by have := hl1s.out; have := HL.out; have := Hlt.out; omega, by have := hl1s.out; have := HL.out; omega, Hlt.out⟩
          clear HR HB
          go_wp2
          go_roundw
          case rel => exact ⟨n + 1, W1.heap.size, l1, l1, Hq.out.1, Hq.out.2.1, Hq.out.2.2.1, by go_num, rfl, RN, BN⟩
          case measure => exact mz_upn Hq.out.2.2.2
    · obtain rfl : n = ii := by omega
      have hc : ¬ (n : Int) < (n : Int) := by omega
      obtain ⟨sz, hsz⟩ : ∃ s, max pl l = s := ⟨_, rfl⟩
      have hp12 := HP12.out
      have hmax : max (pl : Int) (l : Int) = (sz : Int) := by omega
      have hmk := HMk.out sz (by omega)
      have Hsz := Lib.hid (show pl ≤ sz ∧ l ≤ sz ∧ (sz = pl ∨ sz = l) ∧ sz ≤ 12 by omega)
      have RA1 := Lib.hid (RA.out.below BM.out)
      have B1 := Lib.hid (b_next B9.out BM.out)
      have HMl : Hid ((M n).length = l) := by have h1 := HMlen.out n; unfold Hid; rw [h1]; exact HL.out.symm
      have HMi := Lib.hid (HMin.out n)
      have HSlen2 : Hid (S.length = sz) := by have h1 := HSlen.out; have h2 := HL.out; unfold Hid; rw [h1, ← h2]; exact hsz
      have hL2 := HL.out
      have hS3 := HS2.out
      rw [← hL2, hsz] at hS3
      have HS3 := Lib.hid hS3
      clear hsz hp12 hS3 hL2 HS2 RA B9 HSlen
      go_wp2
      have hr0 := World.rowIs_made W1 (.int .i64 0) sz 3
      have hb1 := below_alloc W1 (.cells (madeCells #[.int .i64 0] sz) 3)
      have HR0 : Hid ((W1.alloc (.cells (madeCells #[.int .i64 0] sz) 3)).rowIs W1.heap.size 3 sz (fun j => .int .i64 (if j < 0 then S.getD j 0 else 0))) := hr0.congr fun j _ => by rw [if_neg (by omega)]
      have HB1 := Lib.hid hb1
      generalize W1.alloc (.cells (madeCells #[.int .i64 0] sz) 3) = W2 at HR0 HB1 ⊢
      clear hr0 hb1 hmk hmax
      generalize hMn : M n = L at *
      go_loopw [26] (fun zz wr => ∃ z : Nat, z ≤ sz ∧ zz = .int .i64 z ∧ Hid (wr.rowIs W1.heap.size 3 sz (fun j => .int .i64 (if j < z then S.getD j 0 else 0))) ∧ Hid (Below W1.heap.size W1 wr)) (fun zz _ => sz - (intOf zz).toNat)
      case atStart => exact ⟨0, Nat.zero_le _, rfl, HR0, HB1⟩
      case round =>
        clear HR0 HB1
        obtain ⟨z, hz, rfl, HR, HB⟩ := hrel
        by_cases hzs : z < sz
        · have hc2 : (z : Int) < (sz : Int) := by omega
          have hcz := HR.out.cell (i := z) hzs
          rw [if_neg (Nat.lt_irrefl z)] at hcz
          have hfz := HR.out.frozen z
          have hnx : ∀ j, (if j < z + 1 then S.getD j 0 else 0) = if j = z then S.getD z 0 else if j < z then S.getD j 0 else 0 := fun j => by
            by_cases h1 : j = z
            · subst h1; rw [if_pos (by omega), if_pos rfl]
            · rw [if_neg h1]
              by_cases h2 : j < z
              · rw [if_pos (by omega), if_pos h2]
              · rw [if_neg (by omega), if_neg h2]
          have Hnx := Lib.hid hnx
          obtain ⟨sg1, sg2⟩ := HSget.out z
          rw [HMl.out] at sg1 sg2
          have hpi := getD_in hm1 HPin.out z
          have hyi := getD_in hm1 HMi.out z
          have Hgo := Lib.hid (And.intro (show z + 1 ≤ sz by omega) hzs)
          by_cases hzl : z < l
          · have hcl : (z : Int) < (l : Int) := by omega
            have hcyf : ∀ W, Below W1.heap.size W1 W → W.cell? ⟨g, z, none⟩ = some (.int .i64 (L.getD z 0)) := fun W hW => by
              obtain ⟨g', e1, c⟩ := (RM.out.below hW).int hzl
              have e1' := ptr_eq e1
              subst g'
              exact c
            have hS := sg1 hzl
            obtain ⟨s, d1, n1, n2, n3, n4⟩ := s1_num hm hm2 hpi hyi
            rw [n4] at hS
            have HS := Lib.hid hS
            have Hcy := Lib.hid hcyf
            clear hcyf sg1 sg2 hS n4 hnx hyi
            generalize L.getD z 0 = y at *
            by_cases hzp : z < pl
            · have hcp : (z : Int) < (pl : Int) := by omega
              obtain ⟨ga, hga, cp⟩ := (RA1.out.below HB.out).int hzp
              generalize P.getD z 0 = p0 at *
              have hga2 := hga
              subst hga2
              clear hga hpi hzp hzl hz hzs
              go_wp2
              have HR5 := Lib.hid (HR.out.set z (.int .i64 p0))
              have HB5 := Lib.hid (HB.out.setCell (p := ⟨W1.heap.size, z, none⟩) (Nat.le_refl _) (.int .i64 p0))
              generalize wr.setCell ⟨W1.heap.size, z, none⟩ (.int .i64 p0) = W5 at HR5 HB5 ⊢
              clear hcz hfz cp HR HB
              have hcz := HR5.out.cell (i := z) Hgo.out.2
              rw [if_pos rfl] at hcz
              have hfz := HR5.out.frozen z
              have cy := Hcy.out W5 HB5.out
              refine wp_region_qlast15 (by kernel_rfl) (by kernel_rfl) (by kernel_rfl) ?_
              repeat (go_big_quiet_step (fail))
              refine wpQuiet_nil ?_
              intro wq hwq
              obtain ⟨nq, rfl⟩ := hwq
              have HRq : Hid ((W5.drewN nq).rowIs W1.heap.size 3 sz _) := HR5.out
              have HBq : Hid (Below W1.heap.size W1 (W5.drewN nq)) := below_drewN HB5.out nq
              have hczq : (W5.drewN nq).cell? ⟨W1.heap.size, z, none⟩ = some (.int .i64 p0) := hcz
              have hfzq : (W5.drewN nq).frozen? ⟨W1.heap.size, z, none⟩ = false := hfz
              generalize W5.drewN nq = W7 at HRq HBq hczq hfzq ⊢
              clear hcz hfz cy HR5 HB5
              show Oper.wp _ _ _ _ _ _
              go_simp
              have HR8 := Lib.hid ((HRq.out.set z (.int .i64 d1)).congr (g := fun j => .int .i64 (if j < z + 1 then S.getD j 0 else 0)) fun j _ => by
                rw [Hnx.out j, HS.out]
                by_cases h1 : j = z
                · rw [if_pos h1, if_pos h1]
                · rw [if_neg h1, if_neg h1, if_neg h1])
              have HB8 := Lib.hid (HBq.out.setCell (p := ⟨W1.heap.size, z, none⟩) (Nat.le_refl _) (.int .i64 d1))
              generalize W7.setCell ⟨W1.heap.size, z, none⟩ (.int .i64 d1) = W8 at HR8 HB8 ⊢
              clear hczq hfzq HRq HBq n1 n2 n3
              go_wp2
              go_roundw
              case rel => exact ⟨z + 1, Hgo.out.1, by go_num, HR8, HB8⟩
              case measure => exact mz_upn Hgo.out.2
            · have hcp : ¬ (z : Int) < (pl : Int) := by omega
              have hp0 : P.getD z 0 = 0 := by rw [List.getD_eq_getElem?_getD, List.getElem?_eq_none (by have := HPl.out; omega)]; rfl
              have hcz2 := hcz
              rw [← hp0] at hcz2
              have HR5 := HR
              have HB5 := HB
              have cy := Hcy.out wr HB5.out
              generalize P.getD z 0 = p0 at *
              clear hcz hpi hzp hzl hz hzs hp0 HR HB
              have hcz := hcz2
              clear hcz2
              generalize wr = W5 at *
              go_wp2
              refine wp_region_qlast15 (by kernel_rfl) (by kernel_rfl) (by kernel_rfl) ?_
              repeat (go_big_quiet_step (fail))
              refine wpQuiet_nil ?_
              intro wq hwq
              obtain ⟨nq, rfl⟩ := hwq
              have HRq : Hid ((W5.drewN nq).rowIs W1.heap.size 3 sz _) := HR5.out
              have HBq : Hid (Below W1.heap.size W1 (W5.drewN nq)) := below_drewN HB5.out nq
              have hczq : (W5.drewN nq).cell? ⟨W1.heap.size, z, none⟩ = some (.int .i64 p0) := hcz
              have hfzq : (W5.drewN nq).frozen? ⟨W1.heap.size, z, none⟩ = false := hfz
              generalize W5.drewN nq = W7 at HRq HBq hczq hfzq ⊢
              clear hcz hfz cy HR5 HB5
              show Oper.wp _ _ _ _ _ _
              go_simp
              have HR8 := Lib.hid ((HRq.out.set z (.int .i64 d1)).congr (g := fun j => .int .i64 (if j < z + 1 then S.getD j 0 else 0)) fun j _ => by
                rw [Hnx.out j, HS.out]
                by_cases h1 : j = z
                · rw [if_pos h1, if_pos h1]
                · rw [if_neg h1, if_neg h1])
              have HB8 := Lib.hid (HBq.out.setCell (p := ⟨W1.heap.size, z, none⟩) (Nat.le_refl _) (.int .i64 d1))
              generalize W7.setCell ⟨W1.heap.size, z, none⟩ (.int .i64 d1) = W8 at HR8 HB8 ⊢
              clear hczq hfzq HRq HBq n1 n2 n3
              go_wp2
              go_roundw
              case rel => exact ⟨z + 1, Hgo.out.1, by go_num, HR8, HB8⟩
              case measure => exact mz_upn Hgo.out.2
          · have hcl : ¬ (z : Int) < (l : Int) := by omega
            have hzp : z < pl := by have := Hsz.out; omega
            have hcp : (z : Int) < (pl : Int) := by omega
            have hS := sg2 (by omega)
            have HS := Lib.hid hS
            obtain ⟨ga, hga, cp⟩ := (RA1.out.below HB.out).int hzp
            generalize P.getD z 0 = p0 at *
            have hga2 := hga
            subst hga2
            have hz12 : z ≤ 12 := by have := Hsz.out; omega
            clear hga hpi hyi hzp hzl hz hzs sg1 sg2 hS hnx
            go_wp2
            have HR8 := Lib.hid ((HR.out.set z (.int .i64 p0)).congr (g := fun j => .int .i64 (if j < z + 1 then S.getD j 0 else 0)) fun j _ => by
              rw [Hnx.out j, HS.out]
              by_cases h1 : j = z
              · rw [if_pos h1, if_pos h1]
              · rw [if_neg h1, if_neg h1])
            have HB8 := Lib.hid (HB.out.setCell (p := ⟨W1.heap.size, z, none⟩) (Nat.le_refl _) (.int .i64 p0))
            generalize wr.setCell ⟨W1.heap.size, z, none⟩ (.int .i64 p0) = W8 at HR8 HB8 ⊢
            clear hcz hfz cp HR HB
            go_roundw
            case rel => exact ⟨z + 1, Hgo.out.1, by go_num, HR8, HB8⟩
            case measure => exact mz_upn Hgo.out.2
        · obtain rfl : z = sz := by omega
          have hc2 : ¬ (z : Int) < (z : Int) := by omega
          have RS : Hid (Row wr (some ⟨W1.heap.size, 0, none⟩) z (intL S)) := row_of_rowIs HR.out HSlen2.out fun j hj => by rw [if_pos hj]
          have RA2 := Lib.hid (RA1.out.below HB.out)
          have BE := Lib.hid (b_next B1.out HB.out)
          clear HR HB
          go_wp2_with fail
          refine (HS3.out _ _ _ _ _ RA2.out RS.out).mono ?_
          rintro e we ⟨rfl, be⟩
          have BF := Lib.hid (b_next BE.out be)
          clear be
          go_wp2_with fail
          refine (HA.out _).mono ?_
          rintro e we2 ⟨rfl, be⟩
          have BG := Lib.hid (b_next BF.out be)
          clear be
          go_wp2
          go_ret
          exact ⟨rfl, BG.out⟩
set_option maxRecDepth 100000 in
set_option maxHeartbeats 16000000 in
theorem same_b (x i : Int) (pv qv : Value) (rp rq P Q F C : List Int) (m : Nat) (w : World) (hP : RowIn w pv rp) (hQ : RowIn w qv rq) (hm : 2 ≤ m) (hm2 : m ≤ 64) (w1 : wrap64 (2 + (modV x 63 : Int)) = (m : Int)) (w2 : IntKind.i64.wrap (2 + (modV x 63 : Int)) = (m : Int)) (hPe : tamL m rp = P) (hQe : tamL m rq = Q) (hvP : valuesL m P = F) (hFl : F.length = m) (hFin : ∀ v ∈ F, 0 ≤ v ∧ v < m) (hfF : formR m (fun x => F.getD x 0) = some C) (hCl : C.length ≤ 64) (H D : List Int) (j : Nat) (hsm : sameR m P Q = (j : Int)) (hjm : j < m) (hFH : F.getD j 0 ≠ H.getD j 0) (hne : F ≠ H) (hCD : C ≠ D) (hvQ : valuesL m Q = H) (hHl : H.length = m) (hHin : ∀ v ∈ H, 0 ≤ v ∧ v < m) (hfH : formR m (fun x => H.getD x 0) = some D) (hDl : D.length ≤ 64) :
    Calls Try.prog 14 #[.int .i64 x, pv, qv, .int .i64 i] w fun e w' => e = .returned (.bool true) ∧ Below w.heap.size w w' := by
  have hm1 : 1 ≤ m := by omega
  have hpP := tamL_poly hm hm2 rp
  have hpQ := tamL_poly hm hm2 rq
  obtain ⟨hP12, hPin⟩ := tamL_in hm1 rp
  obtain ⟨hQ12, hQin⟩ := tamL_in hm1 rq
  have hTP := fun W hW => tame_in m pv rp W hm1 hm2 (hP.below hW)
  have hTQ := fun W hW => tame_in m qv rq W hm1 hm2 (hQ.below hW)
  rw [hPe] at hpP hTP hP12 hPin
  rw [hQe] at hpQ hTQ hQ12 hQin
  obtain ⟨pl, hpl⟩ : ∃ n, P.length = n := ⟨_, rfl⟩
  obtain ⟨ql, hql⟩ : ∃ n, Q.length = n := ⟨_, rfl⟩
  obtain ⟨cl, hcl⟩ : ∃ n, C.length = n := ⟨_, rfl⟩
  obtain ⟨dl, hdl⟩ : ∃ n, D.length = n := ⟨_, rfl⟩
  rw [hpl] at hTP hP12
  rw [hql] at hTQ hQ12
  have hii := modV_lt i 12 (by omega)
  have hX := fun W => mod_val i 12 W (by omega) (by omega)
  generalize modV i 12 = ii at hX hii
  have HM := Lib.hid (mod_val x 63 w (by omega) (by omega))
  have HTP := Lib.hid hTP
  have HTQ := Lib.hid hTQ
  have hSm := fun a b cap c2 W h1 h2 => Same_yes m a b pl cap ql c2 P Q W h1 hpP h2 hpQ
  rw [hsm] at hSm
  have HSm := Lib.hid hSm
  have hVP := fun a cap W hW => Values_yes m a pl cap P W hW hpP
  have hVQ := fun a cap W hW => Values_yes m a ql cap Q W hW hpQ
  rw [hvP] at hVP
  rw [hvQ] at hVQ
  have HVP := Lib.hid hVP
  have HVQ := Lib.hid hVQ
  have hFP := fun a cap W hW => Form_some m a cap F C W hW hm hm2 hFin hfF
  rw [hcl] at hFP hCl
  have HFP := Lib.hid hFP
  have hFQ := fun a cap W hW => Form_some m a cap H D W hW hm hm2 hHin hfH
  rw [hdl] at hFQ hDl
  have HFQ := Lib.hid hFQ
  have hI1 := fun a b ca cb W h1 h2 => ints_any a b m m ca cb F H W h1 h2 (by omega) (by omega)
  have hI2 := fun a b ca cb W h1 h2 => ints_any a b cl dl ca cb C D W h1 h2 (by omega) (by omega)
  rw [decide_eq_false hne] at hI1
  rw [decide_eq_false hCD] at hI2
  have HI1 := Lib.hid hI1
  have HI2 := Lib.hid hI2
  have g1 : decide ((j : Int) < -1) = false := decide_eq_false (by omega)
  have g2 : decide ((j : Int) ≥ (m : Int)) = false := decide_eq_false (by omega)
  have g3 : decide ((m : Int) ≤ (j : Int)) = false := decide_eq_false (by omega)
  have g4 : decide (m ≤ j) = false := decide_eq_false (by omega)
  have g5 : ((j : Int) == -1) = false := by rw [beq_eq_false_iff_ne]; omega
  have g6 : decide ((j : Int) ≥ 0) = true := decide_eq_true (by omega)
  have g7 : decide ((0 : Int) ≤ (j : Int)) = true := decide_eq_true (by omega)
  have g8 : (F.getD j 0 == H.getD j 0) = false := by rw [beq_eq_false_iff_ne]; exact hFH
  have g9 : (j : Int) < (m : Int) := by omega
  have HJ := Lib.hid hjm
  clear hI1 hI2 hFQ hFH hne hCD hjm
  have HX := Lib.hid hX
  have HRm := Lib.hid fun W => Room_any m ii W hm hm2 (by omega)
  have hmse := more_same hm P ii
  have hmpo := more_poly hm hm2 (P := P) (by omega) hPin hii
  have hSlen : (addM m P (moreN m ii ii)).length = max pl (ii + 1) := by rw [addM_length, moreN_length, hpl]
  have hSget := addM_get m P (moreN m ii ii)
  have hMlen := moreN_length m ii
  have hMin := fun n => moreN_in hm1 ii n
  have hMs : ∀ n, moreN m ii (n + 1) = stepA ((m : Int) - ((n % m : Nat) : Int)) m 0 (moreN m ii n) := fun _ => rfl
  have hM0 : moreN m ii 0 = [((roomN m ii % m : Nat) : Int)] := rfl
  have hrm : roomN m ii ≤ m := Nat.div_le_self _ _
  generalize roomN m ii = rm at HRm hM0 hrm
  obtain ⟨v0, hv0, t1, t2, t3⟩ := rem_all (m := rm) (p := m) (by omega)
  rw [hv0] at hM0
  generalize hSS : addM m P (moreN m ii ii) = S at *
  generalize hMM : moreN m ii = M at *
  have hS2 := fun a b cap c2 W h1 h2 => Same_yes m a b pl cap (max pl (ii + 1)) c2 P S W h1 hpP h2 hmpo
  rw [hmse] at hS2
  have HS2 := Lib.hid hS2
  have HSlen := Lib.hid hSlen
  have HSget := Lib.hid hSget
  have HMlen := Lib.hid hMlen
  have HMin := Lib.hid hMin
  have HMs := Lib.hid hMs
  have HM0 := Lib.hid hM0
  have HPin := Lib.hid hPin
  have HPl := Lib.hid hpl
  have HA := Lib.hid fun w => awake_any w
  have hmake := fun (n : Nat) (h : n ≤ 100) => run_make_row' (P := Try.prog) 22 3 (.int .i64 0) 8 Try.underlying22 info_int rfl .i64 .i64 n (by omega) (by omega)
  have HMk := Lib.hid hmake
  obtain ⟨z1, z2⟩ := zero_no hm
  have Hm0 := Lib.hid (show 0 < m by omega)
  generalize modV x 63 = r at *
  clear hmake hX hTP hTQ hSm hVP hVQ hFP hS2 hSlen hSget hMlen hMin hMs hM0 hPin hQin hpP hpQ hmse hmpo hSS hMM hv0 hPe hQe hvP hvQ hP hQ hpl hql hcl hsm hFl hFin hfF hdl hHl hHin hfH
  go_enter Try.func14, Try.ntmps14
  go_wp2_with fail
  refine (HM.out).mono ?_
  rintro e w1 ⟨rfl, hw⟩
  subst w1
  go_wp2_with fail
  refine (HTP.out _ (Below.refl _ _)).mono ?_
  rintro e w2 ⟨v2, rfl, ho, b2⟩
  have B2 := Lib.hid b2
  clear b2
  obtain ⟨aA, cA, hv, hcA, r2⟩ := own_slice ho
  subst v2
  have RA := Lib.hid r2
  clear ho r2
  go_wp2_with fail
  refine (HTQ.out _ B2.out).mono ?_
  rintro e w3 ⟨v3, rfl, ho, b3⟩
  have B3 := Lib.hid (b_next B2.out b3)
  clear B2
  replace RA := Lib.hid (RA.out.below b3)
  clear b3
  obtain ⟨aB, cB, hv, hcB, r3⟩ := own_slice ho
  subst v3
  have RB := Lib.hid r3
  clear ho r3
  go_wp2_with fail
  refine (HSm.out _ _ _ _ _ RA.out RB.out).mono ?_
  rintro e w4 ⟨rfl, b4⟩
  have B4 := Lib.hid (b_next B3.out b4)
  clear B3
  replace RA := Lib.hid (RA.out.below b4)
  replace RB := Lib.hid (RB.out.below b4)
  clear b4
  go_wp2_with fail
  refine (HVP.out _ _ _ RA.out).mono ?_
  rintro e w5 ⟨v5, rfl, ho, b5⟩
  have B5 := Lib.hid (b_next B4.out b5)
  clear B4
  replace RA := Lib.hid (RA.out.below b5)
  replace RB := Lib.hid (RB.out.below b5)
  clear b5
  obtain ⟨aF, cF, hv, hcF, r5⟩ := own_slice ho
  subst v5
  have RF := Lib.hid r5
  clear ho r5
  go_wp2_with fail
  refine (HVQ.out _ _ _ RB.out).mono ?_
  rintro e w6 ⟨v6, rfl, ho, b6⟩
  have B6 := Lib.hid (b_next B5.out b6)
  clear B5
  replace RA := Lib.hid (RA.out.below b6)
  replace RB := Lib.hid (RB.out.below b6)
  replace RF := Lib.hid (RF.out.below b6)
  clear b6
  obtain ⟨aH, cH, hv, hcH, r6⟩ := own_slice ho
  subst v6
  have RH := Lib.hid r6
  clear ho r6
  clear RB
  go_wp2_with fail
  refine (HFP.out _ _ _ RF.out).mono ?_
  rintro e w7 ⟨v7, rfl, ho, b7⟩
  have B7 := Lib.hid (b_next B6.out b7)
  clear B6
  replace RA := Lib.hid (RA.out.below b7)
  replace RF := Lib.hid (RF.out.below b7)
  replace RH := Lib.hid (RH.out.below b7)
  clear b7
  obtain ⟨aC, cC, hv, hcC, r7⟩ := own_slice ho
  subst v7
  have RC := Lib.hid r7
  clear ho r7
  go_wp2_with fail
  refine (HFQ.out _ _ _ RH.out).mono ?_
  rintro e w8 ⟨v8, rfl, ho, b8⟩
  have B8 := Lib.hid (b_next B7.out b8)
  clear B7
  replace RA := Lib.hid (RA.out.below b8)
  replace RF := Lib.hid (RF.out.below b8)
  replace RH := Lib.hid (RH.out.below b8)
  replace RC := Lib.hid (RC.out.below b8)
  clear b8
  obtain ⟨aD, cD, hv, hcD, r8⟩ := own_slice ho
  subst v8
  have RD := Lib.hid r8
  clear ho r8
  have cf := RF.out.int HJ.out
  obtain ⟨gF, hgF, cf⟩ := cf
  have ch := RH.out.int HJ.out
  obtain ⟨gH, hgH, ch⟩ := ch
  subst aF
  subst aH
  generalize F.getD j 0 = yF at cf g8
  generalize H.getD j 0 = yH at ch g8
  go_wp2
  refine wp_region_quiet_lit (by kernel_rfl) (by kernel_rfl) ?_
  simp only [List.append]
  repeat (go_big_quiet_step ((first | (go_at_call 28; with_reducible exact Calls.quiet_of (HI1.out _ _ _ _ _ (RF.out.drewN _) (RH.out.drewN _))) | (go_at_call 28; with_reducible exact Calls.quiet_of (HI2.out _ _ _ _ _ (RC.out.drewN _) (RD.out.drewN _))))))
  refine wpQuiet_nil ?_
  intro wq hwq
  obtain ⟨nq, rfl⟩ := hwq
  replace RA := Lib.hid (RA.out.drewN nq)
  have BX := Lib.hid (below_drewN B8.out nq)
  generalize w8.drewN nq = WX at RA BX ⊢
  clear RF RH RC RD HI1 HI2 HFP HVP HVQ HSm HTP HTQ HM B8 g1 g2 g3 g4 g5 g6 g7 g8 g9 cf ch HFQ HJ
  go_wp2_with fail
  refine (HX.out _).mono ?_
  rintro e wa ⟨rfl, hw⟩
  subst wa
  go_wp2_with fail
  refine (HRm.out _).mono ?_
  rintro e wa ⟨rfl, hw⟩
  subst wa
  have HP12 := Lib.hid hP12
  clear hrm hP12 hQ12 hCl
  go_wp2
  have hrow0 := Row.built (w := WX) 3 [.int .i64 (v0 : Int)]
  have hb0 := below_alloc WX (.cells #[.int .i64 (v0 : Int)] 3)
  have RM0 : Hid (Row (WX.alloc (.cells #[.int .i64 (v0 : Int)] 3)) (some ⟨WX.heap.size, 0, none⟩) 1 (intL (M 0))) := by rw [HM0.out]; exact hrow0
  replace RA := Lib.hid (RA.out.below hb0)
  have B9 := Lib.hid (b_next BX.out hb0)
  generalize WX.heap.size = g0 at *
  generalize WX.alloc (.cells #[.int .i64 (v0 : Int)] 3) = W9 at RM0 RA B9 ⊢
  clear hrow0 hb0 t1 t2 t3 HX HRm HM0 BX
  go_loopw [21, 22] (fun mo nn wr => ∃ (n g c l : Nat), n ≤ ii ∧ l ≤ 12 ∧ Hid (l = n + 1) ∧ nn = .int .i64 n ∧ mo = .slice (some ⟨g, 0, none⟩) l c ∧ Hid (Row wr (some ⟨g, 0, none⟩) l (intL (M n))) ∧ Hid (Below W9.heap.size W9 wr)) (fun _ nn _ => ii - (intOf nn).toNat)
  case atStart => exact ⟨0, g0, 1, 1, Nat.zero_le _, by decide, rfl, rfl, rfl, RM0, Below.refl _ _⟩
  case round =>
    obtain ⟨n, g, c, l, hn, hl12, HL, rfl, rfl, RM, BM⟩ := hrel
    clear RM0
    generalize wr = W1 at *
    by_cases hlt : n < ii
    · have hc : (n : Int) < (ii : Int) := by omega
      obtain ⟨l1, hl1⟩ : ∃ l1, l + 1 = l1 := ⟨_, rfl⟩
      have hmk := HMk.out (l + 1) (by omega)
      rw [hl1] at hmk
      have hmk2 : ∀ w : World, (Instr.makeSlice 22 (.int .i64 ((l : Int) + 1)) (.int .i64 ((l : Int) + 1))).run Try.prog w = .ok (.slice (some ⟨w.heap.size, 0, none⟩) l1 l1) (w.alloc (.cells (madeCells #[.int .i64 0] l1) 3)) := fun w => by
        have := hmk w
        rw [← hl1] at this ⊢
        exact this
      have hl1s := Lib.hid hl1
      have Hlt := Lib.hid hlt
      clear hl1 hmk
      go_wp2
      have hr0 := World.rowIs_made W1 (.int .i64 0) l1 3
      have hb1 := below_alloc W1 (.cells (madeCells #[.int .i64 0] l1) 3)
      have HR0 : Hid ((W1.alloc (.cells (madeCells #[.int .i64 0] l1) 3)).rowIs W1.heap.size 3 l1 (fun j => .int .i64 (Bf ((m : Int) - ((n % m : Nat) : Int)) m (M n) 0 j))) := hr0.congr fun j _ => by rw [Bf_zero]
      have HB1 := Lib.hid hb1
      generalize W1.alloc (.cells (madeCells #[.int .i64 0] l1) 3) = W2 at HR0 HB1 ⊢
      clear hr0 hb1 hmk2
      have hgl : g < W1.heap.size := by
        obtain ⟨g', e1, e2, _⟩ := RM.out.2 (by have := HL.out; omega)
        have := ptr_eq e1
        omega
      have Hgl := Lib.hid hgl
      have Hfs := Lib.hid (HMs.out n)
      generalize hLL : M n = L at *
      generalize hcc : ((m : Int) - ((n % m : Nat) : Int)) = cc at *
      have Hcc := Lib.hid hcc
      have HLl : Hid (L.length = l) := by have h1 := HMlen.out n; rw [hLL] at h1; rw [HL.out]; exact h1
      have HLi : Hid (∀ v ∈ L, 0 ≤ v ∧ v < m) := by rw [← hLL]; exact HMin.out n
      have HLL := Lib.hid hLL
      clear hLL hcc hgl
      go_loopw [24] (fun zz wr => ∃ z : Nat, z ≤ l ∧ zz = .int .i64 z ∧ Hid (wr.rowIs W1.heap.size 3 l1 (fun j => .int .i64 (Bf cc m L z j))) ∧ Hid (Below W1.heap.size W1 wr)) (fun zz _ => l - (intOf zz).toNat)
      case atStart => exact ⟨0, Nat.zero_le _, rfl, HR0, HB1⟩
      case round =>
        clear HR0 HB1
        obtain ⟨z, hz, rfl, HR, HB⟩ := hrel
        by_cases hzl : z < l
        · have hc2 : (z : Int) < (l : Int) := by omega
          have hcyf : ∀ W, Below W1.heap.size W1 W → W.cell? ⟨g, z, none⟩ = some (.int .i64 (L.getD z 0)) := fun W hW => by
            obtain ⟨g', e1, c⟩ := (RM.out.below hW).int hzl
            have e1' := ptr_eq e1
            subst g'
            exact c
          have cy := hcyf wr HB.out
          have Hcy := Lib.hid hcyf
          clear hcyf
          have hyi := getD_in hm1 HLi.out z
          have hdi := below_in hm1 L z
          obtain ⟨z1', hz1'⟩ : ∃ z1, z + 1 = z1 := ⟨_, rfl⟩
          have hz1l : z1' < l1 := by have := hl1s.out; omega
          have hcz := HR.out.cell (i := z) (by have := hl1s.out; omega)
          have hcz1 := HR.out.cell (i := z1') hz1l
          have b1 : Bf cc m L z z = belowD m 0 L z := by unfold Bf; rw [if_neg (by omega), if_pos rfl]
          have b2 : Bf cc m L z z1' = 0 := by unfold Bf; rw [if_neg (by omega), if_neg (by omega)]
          rw [b1] at hcz
          rw [b2] at hcz1
          have hbn := fun j => Bf_next (c := cc) (m := m) (L := L) (z := z) j
          rw [hz1'] at hbn
          obtain ⟨s, d1, n1, n2, n3, n4⟩ := s1_num (u := 0) hm hm2 (by omega) hyi
          rw [Int.zero_add] at n4
          obtain ⟨nm, cd, p, s2, r2, k1, k2, k3, k4, k5, k6, k7, k8⟩ := s2_num (n := n) hm hm2 (by omega) hdi hyi
          rw [Hcc.out] at k8
          rw [n4, k8] at hbn
          have hfz := HR.out.frozen z
          have hfz1 := HR.out.frozen z1'
          generalize L.getD z 0 = y at *
          generalize belowD m 0 L z = d0 at *
          obtain ⟨u0, hu0⟩ : ∃ u : Int, u = 0 := ⟨_, rfl⟩
          rw [← hu0] at hcz1 n1
          have hw := (wrap_nx (k := z) (by omega)).1
          rw [hz1'] at hw
          have hzi : (z : Int) < (l1 : Int) := by omega
          have hz1i : (z1' : Int) < (l1 : Int) := by omega
          have Hbn := Lib.hid hbn
          have Hb1 := Lib.hid b1
          have Hgo := Lib.hid (show z + 1 ≤ l ∧ z < l ∧ z ≠ z1' ∧ z1' = z + 1 by omega)
          clear hbn b1 b2 hyi hdi hz1' n4 k8 hu0 hz1l hzl hz
          go_wp2
          refine wp_region_qlast17 (by kernel_rfl) (by kernel_rfl) (by kernel_rfl) ?_
          repeat (go_big_quiet_step (fail))
          refine wpQuiet_nil ?_
          intro wq hwq
          obtain ⟨nq, rfl⟩ := hwq
          have HRq : Hid ((wr.drewN nq).rowIs W1.heap.size 3 l1 (fun j => .int .i64 (Bf cc m L z j))) := HR.out
          have HBq : Hid (Below W1.heap.size W1 (wr.drewN nq)) := below_drewN HB.out nq
          have hcz1q : (wr.drewN nq).cell? ⟨W1.heap.size, z1', none⟩ = some (.int .i64 u0) := hcz1
          have hfz1q : (wr.drewN nq).frozen? ⟨W1.heap.size, z1', none⟩ = false := hfz1
          have hczq : (wr.drewN nq).cell? ⟨W1.heap.size, z, none⟩ = some (.int .i64 d0) := hcz
          generalize wr.drewN nq = W5 at HRq HBq hcz1q hfz1q hczq ⊢
          clear hcz1 hfz1 hcz hfz cy HR HB
          show Oper.wp _ _ _ _ _ _
          go_simp
          have HR5 := Lib.hid (HRq.out.set z1' (.int .i64 d1))
          have HB5 := Lib.hid (HBq.out.setCell (p := ⟨W1.heap.size, z1', none⟩) (Nat.le_refl _) (.int .i64 d1))
          generalize W5.setCell ⟨W1.heap.size, z1', none⟩ (.int .i64 d1) = W6 at HR5 HB5 ⊢
          clear hcz1q hfz1q hczq HRq HBq
          have cy := Hcy.out W6 HB5.out
          have hcz := HR5.out.cell (i := z) (by have := Hgo.out; have := hl1s.out; omega)
          rw [if_neg Hgo.out.2.2.1, Hb1.out] at hcz
          have hfz := HR5.out.frozen z
          clear n1 n2 n3 hw hz1i
          go_wp2
          refine wp_region_qlast21 (by kernel_rfl) (by kernel_rfl) (by kernel_rfl) ?_
          repeat (go_big_quiet_step (fail))
          refine wpQuiet_nil ?_
          intro wq hwq
          obtain ⟨nq2, rfl⟩ := hwq
          have HRq : Hid ((W6.drewN nq2).rowIs W1.heap.size 3 l1 _) := HR5.out
          have HBq : Hid (Below W1.heap.size W1 (W6.drewN nq2)) := below_drewN HB5.out nq2
          have hczq : (W6.drewN nq2).cell? ⟨W1.heap.size, z, none⟩ = some (.int .i64 d0) := hcz
          have hfzq : (W6.drewN nq2).frozen? ⟨W1.heap.size, z, none⟩ = false := hfz
          generalize W6.drewN nq2 = W7 at HRq HBq hczq hfzq ⊢
          clear hcz hfz cy HR5 HB5
          show Oper.wp _ _ _ _ _ _
          go_simp
          have HR8 := Lib.hid ((HRq.out.set z (.int .i64 r2)).congr (g := fun j => .int .i64 (Bf cc m L z1' j)) fun j _ => by
            rw [Hbn.out j]
            by_cases h1 : j = z
            · rw [if_pos h1, if_pos h1]
            · rw [if_neg h1, if_neg h1]
              by_cases h2 : j = z1'
              · rw [if_pos h2, if_pos h2]
              · rw [if_neg h2, if_neg h2])
          have HB8 := Lib.hid (HBq.out.setCell (p := ⟨W1.heap.size, z, none⟩) (Nat.le_refl _) (.int .i64 r2))
          generalize W7.setCell ⟨W1.heap.size, z, none⟩ (.int .i64 r2) = W8 at HR8 HB8 ⊢
          clear hczq hfzq HRq HBq k1 k2 k3 k4 k5 k6 k7
          go_wp2
          go_roundw
          case rel => exact ⟨z + 1, Hgo.out.1, by go_num, by rw [← Hgo.out.2.2.2]; exact HR8, HB8⟩
          case measure => exact mz_upn Hgo.out.2.1
        · obtain rfl : z = l := by omega
          have hc2 : ¬ (z : Int) < (z : Int) := by omega
          have RN : Hid (Row wr (some ⟨W1.heap.size, 0, none⟩) l1 (intL (M (n + 1)))) := by
            rw [Hfs.out]
            refine row_of_rowIs HR.out (by rw [stepA_length, HLl.out]; exact hl1s.out) fun j hj => ?_
            have h := Bf_end (c := cc) (m := m) L j (by rw [HLl.out]; have := hl1s.out; omega)
            rw [HLl.out] at h
            rw [h]
          have BN := Lib.hid (b_next BM.out HB.out)
          have Hq : Hid (n + 1 ≤ ii ∧ l1 ≤ 12 ∧ l1 = n + 1 + 1 ∧ n < ii) := ⟨Hlt.out, by have := hl1s.out; have := HL.out; have := Hlt.out; omega, by have := hl1s.out; have := HL.out; omega, Hlt.out⟩
          clear HR HB
          go_wp2
          go_roundw
          case rel => exact ⟨n + 1, W1.heap.size, l1, l1, Hq.out.1, Hq.out.2.1, Hq.out.2.2.1, by go_num, rfl, RN, BN⟩
          case measure => exact mz_upn Hq.out.2.2.2
    · obtain rfl : n = ii := by omega
      have hc : ¬ (n : Int) < (n : Int) := by omega
      obtain ⟨sz, hsz⟩ : ∃ s, max pl l = s := ⟨_, rfl⟩
      have hp12 := HP12.out
      have hmax : max (pl : Int) (l : Int) = (sz : Int) := by omega
      have hmk := HMk.out sz (by omega)
      have Hsz := Lib.hid (show pl ≤ sz ∧ l ≤ sz ∧ (sz = pl ∨ sz = l) ∧ sz ≤ 12 by omega)
      have RA1 := Lib.hid (RA.out.below BM.out)
      have B1 := Lib.hid (b_next B9.out BM.out)
      have HMl : Hid ((M n).length = l) := by have h1 := HMlen.out n; unfold Hid; rw [h1]; exact HL.out.symm
      have HMi := Lib.hid (HMin.out n)
      have HSlen2 : Hid (S.length = sz) := by have h1 := HSlen.out; have h2 := HL.out; unfold Hid; rw [h1, ← h2]; exact hsz
      have hL2 := HL.out
      have hS3 := HS2.out
      rw [← hL2, hsz] at hS3
      have HS3 := Lib.hid hS3
      clear hsz hp12 hS3 hL2 HS2 RA B9 HSlen
      go_wp2
      have hr0 := World.rowIs_made W1 (.int .i64 0) sz 3
      have hb1 := below_alloc W1 (.cells (madeCells #[.int .i64 0] sz) 3)
      have HR0 : Hid ((W1.alloc (.cells (madeCells #[.int .i64 0] sz) 3)).rowIs W1.heap.size 3 sz (fun j => .int .i64 (if j < 0 then S.getD j 0 else 0))) := hr0.congr fun j _ => by rw [if_neg (by omega)]
      have HB1 := Lib.hid hb1
      generalize W1.alloc (.cells (madeCells #[.int .i64 0] sz) 3) = W2 at HR0 HB1 ⊢
      clear hr0 hb1 hmk hmax
      generalize hMn : M n = L at *
      go_loopw [26] (fun zz wr => ∃ z : Nat, z ≤ sz ∧ zz = .int .i64 z ∧ Hid (wr.rowIs W1.heap.size 3 sz (fun j => .int .i64 (if j < z then S.getD j 0 else 0))) ∧ Hid (Below W1.heap.size W1 wr)) (fun zz _ => sz - (intOf zz).toNat)
      case atStart => exact ⟨0, Nat.zero_le _, rfl, HR0, HB1⟩
      case round =>
        clear HR0 HB1
        obtain ⟨z, hz, rfl, HR, HB⟩ := hrel
        by_cases hzs : z < sz
        · have hc2 : (z : Int) < (sz : Int) := by omega
          have hcz := HR.out.cell (i := z) hzs
          rw [if_neg (Nat.lt_irrefl z)] at hcz
          have hfz := HR.out.frozen z
          have hnx : ∀ j, (if j < z + 1 then S.getD j 0 else 0) = if j = z then S.getD z 0 else if j < z then S.getD j 0 else 0 := fun j => by
            by_cases h1 : j = z
            · subst h1; rw [if_pos (by omega), if_pos rfl]
            · rw [if_neg h1]
              by_cases h2 : j < z
              · rw [if_pos (by omega), if_pos h2]
              · rw [if_neg (by omega), if_neg h2]
          have Hnx := Lib.hid hnx
          obtain ⟨sg1, sg2⟩ := HSget.out z
          rw [HMl.out] at sg1 sg2
          have hpi := getD_in hm1 HPin.out z
          have hyi := getD_in hm1 HMi.out z
          have Hgo := Lib.hid (And.intro (show z + 1 ≤ sz by omega) hzs)
          by_cases hzl : z < l
          · have hcl : (z : Int) < (l : Int) := by omega
            have hcyf : ∀ W, Below W1.heap.size W1 W → W.cell? ⟨g, z, none⟩ = some (.int .i64 (L.getD z 0)) := fun W hW => by
              obtain ⟨g', e1, c⟩ := (RM.out.below hW).int hzl
              have e1' := ptr_eq e1
              subst g'
              exact c
            have hS := sg1 hzl
            obtain ⟨s, d1, n1, n2, n3, n4⟩ := s1_num hm hm2 hpi hyi
            rw [n4] at hS
            have HS := Lib.hid hS
            have Hcy := Lib.hid hcyf
            clear hcyf sg1 sg2 hS n4 hnx hyi
            generalize L.getD z 0 = y at *
            by_cases hzp : z < pl
            · have hcp : (z : Int) < (pl : Int) := by omega
              obtain ⟨ga, hga, cp⟩ := (RA1.out.below HB.out).int hzp
              generalize P.getD z 0 = p0 at *
              have hga2 := hga
              subst hga2
              clear hga hpi hzp hzl hz hzs
              go_wp2
              have HR5 := Lib.hid (HR.out.set z (.int .i64 p0))
              have HB5 := Lib.hid (HB.out.setCell (p := ⟨W1.heap.size, z, none⟩) (Nat.le_refl _) (.int .i64 p0))
              generalize wr.setCell ⟨W1.heap.size, z, none⟩ (.int .i64 p0) = W5 at HR5 HB5 ⊢
              clear hcz hfz cp HR HB
              have hcz := HR5.out.cell (i := z) Hgo.out.2
              rw [if_pos rfl] at hcz
              have hfz := HR5.out.frozen z
              have cy := Hcy.out W5 HB5.out
              refine wp_region_qlast15 (by kernel_rfl) (by kernel_rfl) (by kernel_rfl) ?_
              repeat (go_big_quiet_step (fail))
              refine wpQuiet_nil ?_
              intro wq hwq
              obtain ⟨nq, rfl⟩ := hwq
              have HRq : Hid ((W5.drewN nq).rowIs W1.heap.size 3 sz _) := HR5.out
              have HBq : Hid (Below W1.heap.size W1 (W5.drewN nq)) := below_drewN HB5.out nq
              have hczq : (W5.drewN nq).cell? ⟨W1.heap.size, z, none⟩ = some (.int .i64 p0) := hcz
              have hfzq : (W5.drewN nq).frozen? ⟨W1.heap.size, z, none⟩ = false := hfz
              generalize W5.drewN nq = W7 at HRq HBq hczq hfzq ⊢
              clear hcz hfz cy HR5 HB5
              show Oper.wp _ _ _ _ _ _
              go_simp
              have HR8 := Lib.hid ((HRq.out.set z (.int .i64 d1)).congr (g := fun j => .int .i64 (if j < z + 1 then S.getD j 0 else 0)) fun j _ => by
                rw [Hnx.out j, HS.out]
                by_cases h1 : j = z
                · rw [if_pos h1, if_pos h1]
                · rw [if_neg h1, if_neg h1, if_neg h1])
              have HB8 := Lib.hid (HBq.out.setCell (p := ⟨W1.heap.size, z, none⟩) (Nat.le_refl _) (.int .i64 d1))
              generalize W7.setCell ⟨W1.heap.size, z, none⟩ (.int .i64 d1) = W8 at HR8 HB8 ⊢
              clear hczq hfzq HRq HBq n1 n2 n3
              go_wp2
              go_roundw
              case rel => exact ⟨z + 1, Hgo.out.1, by go_num, HR8, HB8⟩
              case measure => exact mz_upn Hgo.out.2
            · have hcp : ¬ (z : Int) < (pl : Int) := by omega
              have hp0 : P.getD z 0 = 0 := by rw [List.getD_eq_getElem?_getD, List.getElem?_eq_none (by have := HPl.out; omega)]; rfl
              have hcz2 := hcz
              rw [← hp0] at hcz2
              have HR5 := HR
              have HB5 := HB
              have cy := Hcy.out wr HB5.out
              generalize P.getD z 0 = p0 at *
              clear hcz hpi hzp hzl hz hzs hp0 HR HB
              have hcz := hcz2
              clear hcz2
              generalize wr = W5 at *
              go_wp2
              refine wp_region_qlast15 (by kernel_rfl) (by kernel_rfl) (by kernel_rfl) ?_
              repeat (go_big_quiet_step (fail))
              refine wpQuiet_nil ?_
              intro wq hwq
              obtain ⟨nq, rfl⟩ := hwq
              have HRq : Hid ((W5.drewN nq).rowIs W1.heap.size 3 sz _) := HR5.out
              have HBq : Hid (Below W1.heap.size W1 (W5.drewN nq)) := below_drewN HB5.out nq
              have hczq : (W5.drewN nq).cell? ⟨W1.heap.size, z, none⟩ = some (.int .i64 p0) := hcz
              have hfzq : (W5.drewN nq).frozen? ⟨W1.heap.size, z, none⟩ = false := hfz
              generalize W5.drewN nq = W7 at HRq HBq hczq hfzq ⊢
              clear hcz hfz cy HR5 HB5
              show Oper.wp _ _ _ _ _ _
              go_simp
              have HR8 := Lib.hid ((HRq.out.set z (.int .i64 d1)).congr (g := fun j => .int .i64 (if j < z + 1 then S.getD j 0 else 0)) fun j _ => by
                rw [Hnx.out j, HS.out]
                by_cases h1 : j = z
                · rw [if_pos h1, if_pos h1]
                · rw [if_neg h1, if_neg h1])
              have HB8 := Lib.hid (HBq.out.setCell (p := ⟨W1.heap.size, z, none⟩) (Nat.le_refl _) (.int .i64 d1))
              generalize W7.setCell ⟨W1.heap.size, z, none⟩ (.int .i64 d1) = W8 at HR8 HB8 ⊢
              clear hczq hfzq HRq HBq n1 n2 n3
              go_wp2
              go_roundw
              case rel => exact ⟨z + 1, Hgo.out.1, by go_num, HR8, HB8⟩
              case measure => exact mz_upn Hgo.out.2
          · have hcl : ¬ (z : Int) < (l : Int) := by omega
            have hzp : z < pl := by have := Hsz.out; omega
            have hcp : (z : Int) < (pl : Int) := by omega
            have hS := sg2 (by omega)
            have HS := Lib.hid hS
            obtain ⟨ga, hga, cp⟩ := (RA1.out.below HB.out).int hzp
            generalize P.getD z 0 = p0 at *
            have hga2 := hga
            subst hga2
            have hz12 : z ≤ 12 := by have := Hsz.out; omega
            clear hga hpi hyi hzp hzl hz hzs sg1 sg2 hS hnx
            go_wp2
            have HR8 := Lib.hid ((HR.out.set z (.int .i64 p0)).congr (g := fun j => .int .i64 (if j < z + 1 then S.getD j 0 else 0)) fun j _ => by
              rw [Hnx.out j, HS.out]
              by_cases h1 : j = z
              · rw [if_pos h1, if_pos h1]
              · rw [if_neg h1, if_neg h1])
            have HB8 := Lib.hid (HB.out.setCell (p := ⟨W1.heap.size, z, none⟩) (Nat.le_refl _) (.int .i64 p0))
            generalize wr.setCell ⟨W1.heap.size, z, none⟩ (.int .i64 p0) = W8 at HR8 HB8 ⊢
            clear hcz hfz cp HR HB
            go_roundw
            case rel => exact ⟨z + 1, Hgo.out.1, by go_num, HR8, HB8⟩
            case measure => exact mz_upn Hgo.out.2
        · obtain rfl : z = sz := by omega
          have hc2 : ¬ (z : Int) < (z : Int) := by omega
          have RS : Hid (Row wr (some ⟨W1.heap.size, 0, none⟩) z (intL S)) := row_of_rowIs HR.out HSlen2.out fun j hj => by rw [if_pos hj]
          have RA2 := Lib.hid (RA1.out.below HB.out)
          have BE := Lib.hid (b_next B1.out HB.out)
          clear HR HB
          go_wp2_with fail
          refine (HS3.out _ _ _ _ _ RA2.out RS.out).mono ?_
          rintro e we ⟨rfl, be⟩
          have BF := Lib.hid (b_next BE.out be)
          clear be
          go_wp2_with fail
          refine (HA.out _).mono ?_
          rintro e we2 ⟨rfl, be⟩
          have BG := Lib.hid (b_next BF.out be)
          clear be
          go_wp2
          go_ret
          exact ⟨rfl, BG.out⟩
theorem walk_ShuffleSame (x : Int) (_ : (Lit.int .i64 x).wf = true) (pv : Value) (rp : List Int) (w : World) (hP : RowIn w pv rp) (qv : Value) (rq : List Int) (hQ : RowIn w qv rq) (i : Int) (_ : (Lit.int .i64 i).wf = true) : Calls Try.prog 14 #[.int .i64 x, pv, qv, .int .i64 i] w fun e w' => e = .returned (.bool true) ∧ Below w.heap.size w w' := by
  have hr := modV_lt x 63 (by omega)
  obtain ⟨m, hm⟩ : ∃ m, modV x 63 + 2 = m := ⟨_, rfl⟩
  have hm2 : 2 ≤ m := by omega
  have hm64 : m ≤ 64 := by omega
  have w1 : wrap64 (2 + (modV x 63 : Int)) = (m : Int) := by rw [IntWalk.wrap64_in _ (by omega)]; omega
  have w2 : IntKind.i64.wrap (2 + (modV x 63 : Int)) = (m : Int) := by rw [IntWalk.i64_in _ (by omega)]; omega
  obtain ⟨F, C, hF, hFl, hFin, hfF, hCl, huF⟩ := pol_form hm2 hm64 (tamL m rp)
  obtain ⟨H, D, hH, hHl, hHin, hfH, hDl, huH⟩ := pol_form hm2 hm64 (tamL m rq)
  rcases same_lists hF hH hFl hHl with ⟨h1, h2⟩ | ⟨j, h1, h2, h3, h4⟩
  · subst h2
    exact same_a x i pv qv rp rq _ _ F C m w hP hQ hm2 hm64 w1 w2 rfl rfl hF hFl hFin hfF hCl h1 hH
  · have hCD : C ≠ D := fun e => h4 (by rw [← huF, ← huH, e])
    exact same_b x i pv qv rp rq _ _ F C m w hP hQ hm2 hm64 w1 w2 rfl rfl hF hFl hFin hfF hCl H D j h1 h2 h3 h4 hCD hH hHl hHin hfH hDl
end Go.Proofs.Ythmdlkaanjjbkaa
