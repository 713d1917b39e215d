/- The walk of Closed. -/
import Derived.Test.YthmdlkaanjjbkaaTam
import Derived.Test.YthmdlkaanjjbkaaAft
import Derived.Test.YthmdlkaanjjbkaaComp
namespace Go.Proofs.Ythmdlkaanjjbkaa
set_option linter.unusedVariables false
open Go.RowKit

theorem valuesL_len (m : Nat) (P : List Int) : (valuesL m P).length = m := by simp [valuesL]
theorem valuesL_get (m : Nat) (P : List Int) {x : Nat} (hx : x < m) : (valuesL m P).getD x 0 = polyV m P x := by
  unfold valuesL
  rw [List.getD_eq_getElem?_getD, List.getElem?_map, List.getElem?_range hx]; rfl
theorem polyV_in {m : Nat} (hm : 1 ≤ m) (P : List Int) (x : Int) : 0 ≤ polyV m P x ∧ polyV m P x < m := nestV_range (by omega) _ _ _
theorem valuesL_in {m : Nat} (hm : 1 ≤ m) (P : List Int) : ∀ x ∈ valuesL m P, 0 ≤ x ∧ x < m := fun x hx => by
  unfold valuesL at hx
  obtain ⟨i, _, rfl⟩ := List.mem_map.1 hx
  exact polyV_in hm P _
theorem afterL_get (m : Nat) (F G : List Int) {x : Nat} (hx : x < m) : ((List.range m).map fun x : Nat => G.getD (F.getD x 0).toNat 0).getD x 0 = G.getD (F.getD x 0).toNat 0 := by
  rw [List.getD_eq_getElem?_getD, List.getElem?_map, List.getElem?_range hx]; rfl
theorem after_poly {m : Nat} (hm : 1 ≤ m) (P Q : List Int) {x : Nat} (hx : x < m) : (valuesL m Q).getD ((valuesL m P).getD x 0).toNat 0 = polyV m (compL P Q) x := by
  rw [valuesL_get m P hx, polyV_comp]
  have h := polyV_in hm P x
  rw [valuesL_get m Q (by omega)]
  congr 1
  omega
set_option maxRecDepth 100000 in
set_option maxHeartbeats 4000000 in
theorem closed_walk (x : Int) (pv qv : Value) (rp rq : List Int) (w : World) (hP : RowIn w pv rp) (hQ : RowIn w qv rq) : Calls Try.prog 8 #[.int .i64 x, pv, qv] w fun e w' => e = .returned (.bool true) ∧ Below w.heap.size w w' := by
  have hmv := mod_val x 63 w (by omega) (by omega)
  have hr := modV_lt x 63 (by omega)
  generalize modV x 63 = r at hmv hr
  obtain ⟨m, hmr⟩ : ∃ m, r + 2 = m := ⟨_, rfl⟩
  have hm : 2 ≤ m := by omega
  have hm2 : m ≤ 64 := by omega
  have hm1 : 1 ≤ m := by omega
  have hw1 : IntKind.i64.wrap (2 + (r : Int)) = (m : Int) := by rw [IntWalk.i64_in _ (by omega)]; omega
  have hw2 : wrap64 (2 + (r : Int)) = (m : Int) := by rw [IntWalk.wrap64_in _ (by omega)]; omega
  have hTP := fun W hW => tame_in m pv rp W hm1 hm2 (hP.below hW)
  have hTQ := fun W hW => tame_in m qv rq W hm1 hm2 (hQ.below hW)
  have hpP := tamL_poly hm hm2 rp
  have hpQ := tamL_poly hm hm2 rq
  generalize tamL m rp = P at hTP hpP
  generalize tamL m rq = Q at hTQ hpQ
  have hVP := fun a n cap W hW => Values_yes m a n cap P W hW hpP
  have hVQ := fun a n cap W hW => Values_yes m a n cap Q W hW hpQ
  have hFin := valuesL_in hm1 P
  have hFlen := valuesL_len m P
  have hGin := valuesL_in hm1 Q
  have hap := fun x (hx : x < m) => after_poly hm1 P Q hx
  obtain ⟨lf, hlf, _⟩ := form_of_poly hm hm2 P (f := fun x => (valuesL m P).getD x 0) fun x hx => valuesL_get m P hx
  generalize valuesL m P = F at *
  generalize valuesL m Q = G at *
  obtain ⟨la, hla, hlad⟩ := form_of_poly hm hm2 (compL P Q) (f := fun x => ((List.range m).map fun x : Nat => G.getD (F.getD x 0).toNat 0).getD x 0) fun x hx => (afterL_get m F G hx).trans (hap x hx)
  have hAget := fun x (hx : x < m) => afterL_get m F G hx
  have hAin : ∀ x ∈ ((List.range m).map fun x : Nat => G.getD (F.getD x 0).toNat 0), 0 ≤ x ∧ x < m := fun x hx => by
    obtain ⟨i, hi, rfl⟩ := List.mem_map.1 hx
    rw [hap i (List.mem_range.1 hi)]
    exact polyV_in hm1 _ _
  have hAft := fun fa ga fc gc W hf hg => After_yes m fa ga fc gc F G W hf hg hm hm2 hFin hGin
  generalize ((List.range m).map fun x : Nat => G.getD (F.getD x 0).toNat 0) = A at *
  have hFo := fun a cap W hW => Form_yes m a cap F W hW hm hm2 hFin
  have hAo := fun a cap W hW => Form_yes m a cap A W hW hm hm2 hAin
  have hD := fun w => Degree_any (m : Int) w
  rw [show modB (m : Int) = true from decide_eq_true (by omega), if_pos rfl, Int.toNat_natCast] at hD
  have hFl : F.length = m := hFlen
  have hfx : ∀ i, i < m → ∃ j : Nat, F.getD i 0 = (j : Int) ∧ j < m := fun i hi => by
    have h := hFin (F.getD i 0) (by rw [List.getD_eq_getElem?_getD, List.getElem?_eq_getElem (by omega)]; exact List.getElem_mem _)
    exact ⟨(F.getD i 0).toNat, by omega, by omega⟩
  have HM := Lib.hid hmv
  have HTP := Lib.hid hTP
  have HTQ := Lib.hid hTQ
  have HVP := Lib.hid hVP
  have HVQ := Lib.hid hVQ
  have Hlf := Lib.hid hlf
  have Hla := Lib.hid hla
  have HAget := Lib.hid hAget
  have HAft := Lib.hid hAft
  have HFo := Lib.hid hFo
  have HAo := Lib.hid hAo
  have HD := Lib.hid hD
  have Hfx := Lib.hid hfx
  generalize hdd : degN m = d at *
  have hlad1 : decide ((d : Int) < (la.length : Int)) = false := decide_eq_false (by omega)
  have hlad2 : decide (d < la.length) = false := decide_eq_false (by omega)
  clear hmv hTP hTQ hpP hpQ hVP hVQ hFin hGin hap hlf hla hAget hAin hAft hFo hAo hD hfx hlad hr hmr hdd hP hQ hFl hFlen
  go_enter Try.func8, Try.ntmps8
  go_wp2_with fail
  refine (HM.out).mono ?_
  rintro e w1 ⟨rfl, rfl⟩
  go_wp2_with fail
  refine (HTP.out _ (Below.refl _ _)).mono ?_
  rintro e w2 ⟨tp, rfl, otp, b2⟩
  obtain ⟨a2, c2, hv2, r2⟩ := Row.of_own otp
  subst tp
  have R2 := Lib.hid r2
  have B2 := Lib.hid b2
  clear otp r2 b2
  go_wp2_with fail
  refine (HVP.out _ _ _ _ R2.out).mono ?_
  rintro e w3 ⟨fv, rfl, of, b3⟩
  obtain ⟨a3, c3, hv3, r3⟩ := Row.of_own of
  subst fv
  have R3 := Lib.hid r3
  have B3 := Lib.hid (b_next B2.out b3)
  clear of r3 b3
  go_wp2_with fail
  refine (HTQ.out _ B3.out).mono ?_
  rintro e w4 ⟨tq, rfl, otq, b4⟩
  obtain ⟨a4, c4, hv4, r4⟩ := Row.of_own otq
  subst tq
  have R3b := Lib.hid (R3.out.below b4)
  have R4 := Lib.hid r4
  have B4 := Lib.hid (b_next B3.out b4)
  clear otq r4 b4
  go_wp2_with fail
  refine (HVQ.out _ _ _ _ R4.out).mono ?_
  rintro e w5 ⟨gv, rfl, og, b5⟩
  obtain ⟨a5, c5, hv5, r5⟩ := Row.of_own og
  subst gv
  have R3c := Lib.hid (R3b.out.below b5)
  have R5 := Lib.hid r5
  have B5 := Lib.hid (b_next B4.out b5)
  clear og r5 b5
  go_wp2_with fail
  refine (HAft.out _ _ _ _ _ R3c.out R5.out).mono ?_
  rintro e w6 ⟨av, rfl, oa, b6⟩
  obtain ⟨a6, c6, hv6, r6⟩ := Row.of_own oa
  subst av
  have R6 := Lib.hid r6
  have RF := Lib.hid (R3c.out.below b6)
  have RG := Lib.hid (R5.out.below b6)
  have B6 := Lib.hid (b_next B5.out b6)
  clear oa r6 b6
  go_wp2_with fail
  refine (HFo.out _ _ _ RF.out).mono ?_
  rintro e w7 ⟨⟨hs7, _⟩, b7⟩
  obtain ⟨v7, rfl, o7⟩ := hs7 _ Hlf.out
  obtain ⟨a7, c7, hv7, r7⟩ := Row.of_own o7
  subst v7
  have RA := Lib.hid (R6.out.below b7)
  have RF7 := Lib.hid (RF.out.below b7)
  have RG7 := Lib.hid (RG.out.below b7)
  have B7 := Lib.hid (b_next B6.out b7)
  clear o7 r7 b7 hs7
  go_wp2_with fail
  refine (HAo.out _ _ _ RA.out).mono ?_
  rintro e w8 ⟨⟨hs8, _⟩, b8⟩
  obtain ⟨v8, rfl, o8⟩ := hs8 _ Hla.out
  obtain ⟨a8, c8, hv8, r8⟩ := Row.of_own o8
  subst v8
  have RA8 := Lib.hid (RA.out.below b8)
  have RF8 := Lib.hid (RF7.out.below b8)
  have RG8 := Lib.hid (RG7.out.below b8)
  have B8 := Lib.hid (b_next B7.out b8)
  clear o8 r8 b8 hs8
  go_wp2_with fail
  refine (HD.out _).mono ?_
  rintro e w9 ⟨rfl, b9⟩
  have RA9 := Lib.hid (RA8.out.below b9)
  have RF9 := Lib.hid (RF8.out.below b9)
  have RG9 := Lib.hid (RG8.out.below b9)
  have B9 := Lib.hid (b_next B8.out b9)
  clear b9 HD HAo HFo HAft HVP HVQ HTP HTQ HM
  go_wp2
  go_loopw [19] (fun i wr => ∃ k q : Nat, k ≤ m ∧ i = .int .i64 k ∧ wr = w9.drewN q) (fun i _ => m - (intOf i).toNat)
  case atStart => exact ⟨0, 0, Nat.zero_le _, rfl, rfl⟩
  case round =>
    obtain ⟨k, q, hk, rfl, hw⟩ := hrel
    subst wr
    by_cases hlt : k < m
    · have hc : (k : Int) < (m : Int) := by omega
      obtain ⟨j, hj, hjm⟩ := Hfx.out k hlt
      have hga := HAget.out k hlt
      obtain ⟨g1, rfl, cf⟩ := RF9.out.int hlt
      obtain ⟨g2, rfl, ca⟩ := RA9.out.int hlt
      obtain ⟨g3, rfl, cg⟩ := RG9.out.int hjm
      rw [hj] at hga cf
      rw [hga, Int.toNat_natCast] at ca
      generalize G.getD j 0 = z at ca cg
      have hji : (j : Int) < (m : Int) := by omega
      have hj0 : decide ((j : Int) < 0) = false := decide_eq_false (by omega)
      have hjg : decide ((j : Int) ≥ (m : Int)) = false := decide_eq_false (by omega)
      have hjg2 : decide ((m : Int) ≤ (j : Int)) = false := decide_eq_false (by omega)
      have hjg3 : decide (m ≤ j) = false := decide_eq_false (by omega)
      have hzz : (z != z) = false := by simp
      have hgo : k + 1 ≤ m := by omega
      clear hj hga
      go_wp2
      go_quiet (fail)
      go_wp2
      go_roundw
      case rel => exact ⟨k + 1, _, hgo, by go_num, by first | rfl | exact World.drewN_drewN _ _ _ | trivial⟩
      case measure => exact mz_upn hlt
    · have hc : ¬ (k : Int) < (m : Int) := by omega
      go_wp2_with fail
      refine (awake_any _).mono ?_
      rintro e w10 ⟨rfl, b10⟩
      have B10 := Lib.hid (b_next (below_drewN B9.out q) b10)
      clear b10
      go_wp2
      go_ret
      exact ⟨rfl, B10.out⟩
theorem walk_ShuffleClosed (x : Int) (_ : (Lit.int .i64 x).wf = true) (pv : Value) (rp : List Int) (w : World) (hP : RowIn w pv rp) (qv : Value) (rq : List Int) (hQ : RowIn w qv rq) : Calls Try.prog 8 #[.int .i64 x, pv, qv] w fun e w' => e = .returned (.bool true) ∧ Below w.heap.size w w' := closed_walk x pv qv rp rq w hP hQ
end Go.Proofs.Ythmdlkaanjjbkaa
