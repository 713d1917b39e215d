/- The walk of There. -/
import Derived.Test.YthmdlkaanjjbkaaThm
import Derived.Test.YthmdlkaanjjbkaaRpt
import Derived.Test.YthmdlkaanjjbkaaRfm
import Derived.Test.YthmdlkaanjjbkaaLst
import Derived.Test.YthmdlkaanjjbkaaWcl
import Derived.Test.YthmdlkaanjjbkaaQlast
namespace Go.Proofs.Ythmdlkaanjjbkaa
set_option linter.unusedVariables false
open Go.RowKit

theorem Form_some (m : Nat) (a : Option Addr) (cap : Nat) (xs l : List Int) (w : World) (hr : Row w a m (intL xs)) (hm : 2 ≤ m) (hm2 : m ≤ 64) (hrem : ∀ x ∈ xs, 0 ≤ x ∧ x < m) (hl : formR m (fun x => xs.getD x 0) = some l) :
    Calls Try.prog 32 #[.int .i64 m, .slice a m cap] w fun e w' => ∃ v, e = .returned (.tuple #[v, .int .i64 0]) ∧ w'.ownsRow w.heap.size 3 1 v l.length (intL l) ∧ Below w.heap.size w w' :=
  (Form_yes m a cap xs w hr hm hm2 hrem).mono fun e w' ⟨⟨h1, _⟩, b⟩ => by
    obtain ⟨v, h2, h3⟩ := h1 l hl
    exact ⟨v, h2, h3, b⟩
theorem Form_none (m : Nat) (a : Option Addr) (cap : Nat) (xs : List Int) (w : World) (hr : Row w a m (intL xs)) (hm : 2 ≤ m) (hm2 : m ≤ 64) (hrem : ∀ x ∈ xs, 0 ≤ x ∧ x < m) (hl : formR m (fun x => xs.getD x 0) = none) :
    Calls Try.prog 32 #[.int .i64 m, .slice a m cap] w fun e w' => e = .returned (.tuple #[.slice none 0 0, .int .i64 6]) ∧ Below w.heap.size w w' :=
  (Form_yes m a cap xs w hr hm hm2 hrem).mono fun e w' ⟨⟨_, h1⟩, b⟩ => ⟨h1 hl, b⟩
theorem list_own (m : Nat) (a : Option Addr) (cap : Nat) (xs : List Int) (w : World) (hr : Row w a m (intL xs)) (hc : m ≤ cap) (hm2 : m ≤ 65) :
    Calls Try.prog 17 #[.slice a m cap] w fun e w' => ∃ r, e = .returned r ∧ w'.ownsRow w.heap.size 3 1 r m (intL xs) ∧ Below w.heap.size w w' := by
  have hx : xs.length = m := by have := hr.1; simpa [intL] using this
  have h := list_in _ xs w (RowIn.of_row hr hc)
  have e : cutL xs = xs := List.take_of_length_le (by omega)
  rw [e, hx] at h
  exact h
theorem own_pairs {w : World} {base n : Nat} {e : TypeId} {v : Value} {xs : List Value} (h : w.ownsRow base e 2 v n xs) : ∃ a cap, v = .slice a n cap ∧ (0 < n → ∃ g, a = some ⟨g, 0, none⟩ ∧ ∀ j u, xs[j]? = some u → w.cell? ⟨g, j, none⟩ = some u) := by
  have hcells := fun g (hg : v.ownBlock = some g) => h.cells hg
  rcases h.2 with ⟨rfl, rfl⟩ | ⟨g, cap, cur, rfl, hb, hg, _⟩
  · exact ⟨none, 0, rfl, fun h => absurd h (by omega)⟩
  · refine ⟨_, cap, rfl, fun _ => ⟨g, rfl, fun j u hu => ?_⟩⟩
    have := hcells g rfl j u hu
    rwa [show ((⟨g, 0, none⟩ : Addr).add j) = ⟨g, j, none⟩ from by unfold Addr.add; split <;> simp_all] at this
/-- what the walk wants to know -/
structure ThW (x : Int) (at' by' : Int) (P F C : List Int) (m m1 k y z : Nat) (r2 : Nat) : Prop where
  m2 : 2 ≤ m
  m64 : m ≤ 64
  w1 : wrap64 (2 + (modV x 63 : Int)) = (m : Int)
  w2 : IntKind.i64.wrap (2 + (modV x 63 : Int)) = (m : Int)
  kk : k = modV at' m
  km : k < m
  m1e : m1 + 1 = m
  rr : r2 = modV by' m1
  r2m : r2 < m
  ye : F.getD k 0 = (y : Int)
  ym : y < m
  zz : z = modV ((y + 1 + r2 : Nat) : Int) m
  zm : z < m
  pol : polyB m P = true
  val : valuesL m P = F
  flen : F.length = m
  fin : ∀ v ∈ F, 0 ≤ v ∧ v < m
  frm : formR m (fun x => F.getD x 0) = some C
  cf : formB m C = true
  cd : C.length ≤ 64
  unf : ((List.range m).map fun x : Nat => formV m C x) = F
theorem thW (x at' by' : Int) (row : List Int) : ∃ F C m m1 k y z r2, ThW x at' by' (tamL m row) F C m m1 k y z r2 := by
  have hr := modV_lt x 63 (by omega)
  obtain ⟨m, hm⟩ : ∃ m, modV x 63 + 2 = m := ⟨_, rfl⟩
  have hk := modV_lt at' m (by omega)
  have hr2 := modV_lt by' (m - 1) (by omega)
  have hF : ∀ v ∈ valuesL m (tamL m row), 0 ≤ v ∧ v < m := valuesL_in (by omega) _
  have hl := valuesL_len m (tamL m row)
  have hy := hF ((valuesL m (tamL m row)).getD (modV at' m) 0) (by rw [List.getD_eq_getElem?_getD, List.getElem?_eq_getElem (by omega)]; exact List.getElem_mem _)
  obtain ⟨t1, t2, t3⟩ := trim_form (m := m) (by omega) (by omega) (tamL m row)
  obtain ⟨_, d2, _⟩ := deg_facts ⟨m, by omega⟩ (by show 2 ≤ m; omega)
  simp only at d2
  exact ⟨valuesL m (tamL m row), trimZ (formP m (tamL m row)), m, m - 1, modV at' m, ((valuesL m (tamL m row)).getD (modV at' m) 0).toNat, _, modV by' (m - 1),
    ⟨by omega, by omega, by rw [IntWalk.wrap64_in _ (by omega)]; omega, by rw [IntWalk.i64_in _ (by omega)]; omega, rfl, hk, by omega, rfl, by omega, by omega, by omega, rfl, modV_lt _ m (by omega), tamL_poly (by omega) (by omega) row, rfl, hl, hF,
      formR_trim (by omega) (by omega) _ fun x hx => valuesL_get m _ hx, t1, by omega, List.map_congr_left fun x _ => t3 x⟩⟩
theorem set_in {m k z : Nat} {F : List Int} (h : ∀ v ∈ F, 0 ≤ v ∧ v < m) (hz : z < m) : ∀ v ∈ F.set k (z : Int), 0 ≤ v ∧ v < m := fun v hv => by
  rcases List.mem_or_eq_of_mem_set hv with h1 | h1
  · exact h v h1
  · subst h1; omega
theorem intL_set (F : List Int) (k : Nat) (z : Int) : intL (F.set k z) = (intL F).set k (.int .i64 z) := by
  unfold intL; rw [List.map_set]
theorem parts_one {L : List (Nat × Nat)} (h : L.length = 1) : ∃ p, L = [(p, (L.getD 0 (0, 0)).2)] := by
  match L, h with
  | [q], _ => exact ⟨q.1, rfl⟩
set_option maxRecDepth 100000 in
set_option maxHeartbeats 8000000 in
theorem there_as (x at' by' : Int) (pv : Value) (row F C : List Int) (m m1 k y z r2 : Nat) (L : List (Nat × Nat)) (w : World) (hP : RowIn w pv row) (h : ThW x at' by' (tamL m row) F C m m1 k y z r2) (hL : partsL m = L) (hL3 : L.length ≤ 3) (lc : List Int) (hres : formR m (fun x => (F.set k (z : Int)).getD x 0) = some lc) (hone : ¬ L.length = 1) : Calls Try.prog 13 #[.int .i64 x, pv, .int .i64 at', .int .i64 by'] w fun e w' => e = .returned (.bool true) ∧ Below w.heap.size w w' := by
  obtain ⟨hm, hm2, w1, w2, hkk, hkm, hm1, hrr, hr2m, hye, hym, hzz, hzm, hpol, hval, hfl, hfin, hfrm, hcf, hcd, hunf⟩ := h
  have HM := Lib.hid (mod_val x 63 w (by omega) (by omega))
  have HTP := Lib.hid (tame_in m pv row w (by omega) hm2 hP)
  have HV := Lib.hid fun a n cap W hW => Values_yes m a n cap (tamL m row) W hW hpol
  rw [hval] at HV
  have HFo := Lib.hid fun a cap W hW => Form_some m a cap F C W hW hm hm2 hfin hfrm
  have HU := Lib.hid fun a n cap W hW (hc : n ≤ cap) => Unform_yes m a n cap C W hW hc hm hm2 hcf
  rw [hunf] at HU
  have HI := Lib.hid fun a b ca cb W h1 h2 => ints_true a b m ca cb F W h1 h2 (by omega)
  have HI2 := Lib.hid fun a b ca cb W h1 h2 => ints_true a b C.length ca cb C W h1 h2 (by omega)
  have hFd := fun a cap W hW => refFormed_any m a C.length cap C W hW (by omega) hm hm2
  rw [formed_eq hm hm2, hcf] at hFd
  have HFd := Lib.hid hFd
  have HLi := Lib.hid fun a cap W hW hc => list_own m a cap F W hW hc (by omega)
  have hX := fun W => mod_val at' m W (by omega) (by omega)
  rw [← hkk] at hX
  have HX := Lib.hid hX
  have hB2 := fun W => mod_val by' m1 W (by omega) (by omega)
  rw [← hrr] at hB2
  have HB2 := Lib.hid hB2
  have hZ := fun W => mod_val ((y + 1 + r2 : Nat) : Int) m W (by omega) (by omega)
  rw [← hzz] at hZ
  obtain ⟨s, hs⟩ : ∃ s, y + 1 + r2 = s := ⟨_, rfl⟩
  rw [hs] at hZ
  have HZ := Lib.hid hZ
  have HFc := Lib.hid fun a cap W hW => Form_some m a cap (F.set k (z : Int)) lc W hW hm hm2 (set_in hfin hzm) hres
  have hPt := fun W => refParts_any m W (by omega) hm2
  rw [hL] at hPt
  have HPt := Lib.hid hPt
  have HA := Lib.hid fun w => awake_any w
  have n1 : IntKind.i64.wrap ((y : Int) + 1) = ((y + 1 : Nat) : Int) := by rw [IntWalk.i64_in _ (by omega)]; rfl
  have n2 : IntKind.i64.wrap ((m : Int) - 1) = (m1 : Int) := by rw [IntWalk.i64_in _ (by omega)]; omega
  obtain ⟨y1, hy1⟩ : ∃ y1, y + 1 = y1 := ⟨_, rfl⟩
  rw [hy1] at n1
  have n3 : IntKind.i64.wrap ((y1 : Int) + (r2 : Int)) = (s : Int) := by rw [IntWalk.i64_in _ (by omega)]; omega
  have hki : (k : Int) < (m : Int) := by omega
  have hset := intL_set F k (z : Int)
  have hgk : (intL F)[k]? = some (.int .i64 (y : Int)) := intL_get (by rw [← hye, List.getD_eq_getElem?_getD, List.getElem?_eq_getElem (by omega)]; rfl)
  have Hset := Lib.hid hset
  have Hgk := Lib.hid hgk
  have Hkm := Lib.hid hkm
  have Hm := Lib.hid (show 0 < m by omega)
  generalize modV x 63 = r at *
  generalize F.set k (z : Int) = Fc at *
  generalize tamL m row = P at *
  generalize hcl : C.length = cl at *
  obtain ⟨ll, hll⟩ : ∃ n, L.length = n := ⟨_, rfl⟩
  rw [hll] at HPt
  have hlz : ((ll : Int) == 1) = false := by rw [beq_eq_false_iff_ne]; omega
  generalize hlc : lc.length = nc at *
  clear hX hB2 hZ hFd hPt hset hgk hkk hkm hm1 hrr hr2m hye hym hzz hzm hpol hval hfl hfin hfrm hcf hcd hunf hs hy1 hP hL hL3 hres hcl hlc hone hll
  go_enter Try.func13, Try.ntmps13
  go_wp2_with fail
  refine (HM.out).mono ?_
  rintro e w1 ⟨rfl, hw⟩
  subst w1
  go_wp2_with fail
  refine HTP.out.mono ?_
  rintro e wt ⟨tv, rfl, ot, bt⟩
  have Bt := Lib.hid bt
  obtain ⟨a2, c2, hv, hc2, r2'⟩ := own_slice ot
  subst tv
  have RP := Lib.hid r2'
  clear ot bt r2'
  go_wp2_with fail
  refine (HV.out _ _ _ _ RP.out).mono ?_
  rintro e w3 ⟨v3, rfl, ho, b3⟩
  have B3 := Lib.hid (b_next Bt.out b3)
  clear Bt
  replace RP := Lib.hid (RP.out.below b3)
  clear b3
  obtain ⟨a3, c3, hv, hc3, r3⟩ := own_slice ho
  subst v3
  have RF := Lib.hid r3
  clear ho r3
  clear RP
  go_wp2_with fail
  refine (HFo.out _ _ _ RF.out).mono ?_
  rintro e w4 ⟨v4, rfl, ho, b4⟩
  have B4 := Lib.hid (b_next B3.out b4)
  clear B3
  replace RF := Lib.hid (RF.out.below b4)
  clear b4
  obtain ⟨a4, c4, hv, hc4, r4⟩ := own_slice ho
  subst v4
  have RC := Lib.hid r4
  clear ho r4
  go_wp2_with fail
  refine (HU.out _ _ _ _ RC.out hc4).mono ?_
  rintro e w5 ⟨v5, rfl, ho, b5⟩
  have B5 := Lib.hid (b_next B4.out b5)
  clear B4
  replace RF := Lib.hid (RF.out.below b5)
  replace RC := Lib.hid (RC.out.below b5)
  clear b5
  obtain ⟨a5, c5, hv, hc5, r5⟩ := own_slice ho
  subst v5
  have RU := Lib.hid r5
  clear ho r5
  go_wp2_with fail
  refine (HFo.out _ _ _ RU.out).mono ?_
  rintro e w6 ⟨v6, rfl, ho, b6⟩
  have B6 := Lib.hid (b_next B5.out b6)
  clear B5
  replace RF := Lib.hid (RF.out.below b6)
  replace RC := Lib.hid (RC.out.below b6)
  replace RU := Lib.hid (RU.out.below b6)
  clear b6
  obtain ⟨a6, c6, hv, hc6, r6⟩ := own_slice ho
  subst v6
  have RD := Lib.hid r6
  clear ho r6
  go_wp2_with fail
  refine (HI.out _ _ _ _ _ RU.out RF.out).mono ?_
  rintro e w7 ⟨rfl, hq⟩
  have b7 := drew_below hq
  clear hq
  have B7 := Lib.hid (b_next B6.out b7)
  clear B6
  replace RF := Lib.hid (RF.out.below b7)
  replace RC := Lib.hid (RC.out.below b7)
  replace RU := Lib.hid (RU.out.below b7)
  replace RD := Lib.hid (RD.out.below b7)
  clear b7
  go_wp2_with fail
  refine (HI2.out _ _ _ _ _ RC.out RD.out).mono ?_
  rintro e w8 ⟨rfl, hq⟩
  have b8 := drew_below hq
  clear hq
  have B8 := Lib.hid (b_next B7.out b8)
  clear B7
  replace RF := Lib.hid (RF.out.below b8)
  replace RC := Lib.hid (RC.out.below b8)
  replace RU := Lib.hid (RU.out.below b8)
  replace RD := Lib.hid (RD.out.below b8)
  clear b8
  go_wp2_with fail
  refine (HFd.out _ _ _ RC.out).mono ?_
  rintro e w9 ⟨rfl, hq⟩
  have b9 := drew_below hq
  clear hq
  have B9 := Lib.hid (b_next B8.out b9)
  clear B8
  replace RF := Lib.hid (RF.out.below b9)
  replace RC := Lib.hid (RC.out.below b9)
  replace RU := Lib.hid (RU.out.below b9)
  replace RD := Lib.hid (RD.out.below b9)
  clear b9
  clear RU
  clear RC
  clear RD
  go_wp2_with fail
  refine (HLi.out _ _ _ RF.out hc3).mono ?_
  rintro e wl ⟨lv, rfl, ol, bl⟩
  have hbs := B9.out.size
  have Bl := Lib.hid (b_next B9.out bl)
  obtain ⟨a8, c8, hv, hc8, r8⟩ := own_slice ol
  subst lv
  obtain ⟨g8, rfl, _⟩ := r8.2 Hm.out
  have OL := Lib.hid ol
  have HG := Lib.hid (Nat.le_trans hbs (ol.lt g8 rfl).1)
  clear ol bl r8 hbs RF B9
  go_wp2_with fail
  refine (HX.out _).mono ?_
  rintro e w11 ⟨rfl, hw⟩
  subst w11
  go_wp2_with fail
  have cx := (OL.out.cellAt k (by have := Hkm.out; omega)).trans Hgk.out
  have fx := OL.out.frozenAt k
  refine wp_region_qlast16 (by kernel_rfl) (by kernel_rfl) (by kernel_rfl) ?_
  repeat (go_big_quiet_step ((first | (go_at_call 57; with_reducible exact Calls.quiet_of_same (HB2.out _)) | (go_at_call 57; with_reducible exact Calls.quiet_of_same (HZ.out _)))))
  refine wpQuiet_nil ?_
  intro wq hwq
  obtain ⟨nq, rfl⟩ := hwq
  have OL2 : Hid ((wl.drewN nq).ownsRow _ 3 1 (.slice (some ⟨g8, 0, none⟩) m c8) m (intL F)) := OL.out
  have BL2 : Hid (Below w.heap.size w (wl.drewN nq)) := below_drewN Bl.out nq
  have cy : (wl.drewN nq).cell? ⟨g8, k, none⟩ = some (.int .i64 (y : Int)) := cx
  have fy : (wl.drewN nq).frozen? ⟨g8, k, none⟩ = false := fx
  generalize wl.drewN nq = W5 at OL2 BL2 cy fy ⊢
  clear cx fx OL Bl
  show Oper.wp _ _ _ _ _ _
  go_simp
  have st := (OL2.out.stored k (.int .i64 (z : Int))).1
  rw [← Hset.out] at st
  have bs := BL2.out.setCell (p := ⟨g8, k, none⟩) HG.out (.int .i64 (z : Int))
  generalize W5.setCell ⟨g8, k, none⟩ (.int .i64 (z : Int)) = W6 at st bs ⊢
  obtain ⟨a9, c9, hv9, hc9, r9⟩ := own_slice st
  cases hv9
  have RN := Lib.hid r9
  have B6 := Lib.hid bs
  clear st bs r9 OL2 BL2 cy fy HG
  go_wp2_with fail
  refine (HFc.out _ _ _ RN.out).mono ?_
  rintro e w12 ⟨v12, rfl, ho, b12⟩
  have B12 := Lib.hid (b_next B6.out b12)
  clear B6
  replace RN := Lib.hid (RN.out.below b12)
  clear b12
  obtain ⟨a10, c10, hv, hc10, r12⟩ := own_slice ho
  subst v12
  have RE := Lib.hid r12
  clear ho r12
  go_wp2_with fail
  refine (HPt.out _).mono ?_
  rintro e wp13 ⟨pv13, rfl, op, bp⟩
  have BP13 := Lib.hid (b_next B12.out bp)
  obtain ⟨ap13, cp13, hv, hcp⟩ := own_pairs op
  subst pv13
  clear op bp B12
  clear hcp
  go_wp2_with fail
  refine (HA.out _).mono ?_
  rintro e w14 ⟨rfl, b14⟩
  have B14 := Lib.hid (b_next BP13.out b14)
  clear BP13
  clear b14
  go_wp2
  go_ret
  exact ⟨rfl, B14.out⟩
set_option maxRecDepth 100000 in
set_option maxHeartbeats 8000000 in
theorem there_an (x at' by' : Int) (pv : Value) (row F C : List Int) (m m1 k y z r2 : Nat) (L : List (Nat × Nat)) (w : World) (hP : RowIn w pv row) (h : ThW x at' by' (tamL m row) F C m m1 k y z r2) (hL : partsL m = L) (hL3 : L.length ≤ 3) (hres : formR m (fun x => (F.set k (z : Int)).getD x 0) = none) (hone : ¬ L.length = 1) : Calls Try.prog 13 #[.int .i64 x, pv, .int .i64 at', .int .i64 by'] w fun e w' => e = .returned (.bool true) ∧ Below w.heap.size w w' := by
  obtain ⟨hm, hm2, w1, w2, hkk, hkm, hm1, hrr, hr2m, hye, hym, hzz, hzm, hpol, hval, hfl, hfin, hfrm, hcf, hcd, hunf⟩ := h
  have HM := Lib.hid (mod_val x 63 w (by omega) (by omega))
  have HTP := Lib.hid (tame_in m pv row w (by omega) hm2 hP)
  have HV := Lib.hid fun a n cap W hW => Values_yes m a n cap (tamL m row) W hW hpol
  rw [hval] at HV
  have HFo := Lib.hid fun a cap W hW => Form_some m a cap F C W hW hm hm2 hfin hfrm
  have HU := Lib.hid fun a n cap W hW (hc : n ≤ cap) => Unform_yes m a n cap C W hW hc hm hm2 hcf
  rw [hunf] at HU
  have HI := Lib.hid fun a b ca cb W h1 h2 => ints_true a b m ca cb F W h1 h2 (by omega)
  have HI2 := Lib.hid fun a b ca cb W h1 h2 => ints_true a b C.length ca cb C W h1 h2 (by omega)
  have hFd := fun a cap W hW => refFormed_any m a C.length cap C W hW (by omega) hm hm2
  rw [formed_eq hm hm2, hcf] at hFd
  have HFd := Lib.hid hFd
  have HLi := Lib.hid fun a cap W hW hc => list_own m a cap F W hW hc (by omega)
  have hX := fun W => mod_val at' m W (by omega) (by omega)
  rw [← hkk] at hX
  have HX := Lib.hid hX
  have hB2 := fun W => mod_val by' m1 W (by omega) (by omega)
  rw [← hrr] at hB2
  have HB2 := Lib.hid hB2
  have hZ := fun W => mod_val ((y + 1 + r2 : Nat) : Int) m W (by omega) (by omega)
  rw [← hzz] at hZ
  obtain ⟨s, hs⟩ : ∃ s, y + 1 + r2 = s := ⟨_, rfl⟩
  rw [hs] at hZ
  have HZ := Lib.hid hZ
  have HFc := Lib.hid fun a cap W hW => Form_none m a cap (F.set k (z : Int)) W hW hm hm2 (set_in hfin hzm) hres
  have hPt := fun W => refParts_any m W (by omega) hm2
  rw [hL] at hPt
  have HPt := Lib.hid hPt
  have HA := Lib.hid fun w => awake_any w
  have n1 : IntKind.i64.wrap ((y : Int) + 1) = ((y + 1 : Nat) : Int) := by rw [IntWalk.i64_in _ (by omega)]; rfl
  have n2 : IntKind.i64.wrap ((m : Int) - 1) = (m1 : Int) := by rw [IntWalk.i64_in _ (by omega)]; omega
  obtain ⟨y1, hy1⟩ : ∃ y1, y + 1 = y1 := ⟨_, rfl⟩
  rw [hy1] at n1
  have n3 : IntKind.i64.wrap ((y1 : Int) + (r2 : Int)) = (s : Int) := by rw [IntWalk.i64_in _ (by omega)]; omega
  have hki : (k : Int) < (m : Int) := by omega
  have hset := intL_set F k (z : Int)
  have hgk : (intL F)[k]? = some (.int .i64 (y : Int)) := intL_get (by rw [← hye, List.getD_eq_getElem?_getD, List.getElem?_eq_getElem (by omega)]; rfl)
  have Hset := Lib.hid hset
  have Hgk := Lib.hid hgk
  have Hkm := Lib.hid hkm
  have Hm := Lib.hid (show 0 < m by omega)
  generalize modV x 63 = r at *
  generalize F.set k (z : Int) = Fc at *
  generalize tamL m row = P at *
  generalize hcl : C.length = cl at *
  obtain ⟨ll, hll⟩ : ∃ n, L.length = n := ⟨_, rfl⟩
  rw [hll] at HPt
  have hlz : ((ll : Int) == 1) = false := by rw [beq_eq_false_iff_ne]; omega
  clear hX hB2 hZ hFd hPt hset hgk hkk hkm hm1 hrr hr2m hye hym hzz hzm hpol hval hfl hfin hfrm hcf hcd hunf hs hy1 hP hL hL3 hres hcl hone hll
  go_enter Try.func13, Try.ntmps13
  go_wp2_with fail
  refine (HM.out).mono ?_
  rintro e w1 ⟨rfl, hw⟩
  subst w1
  go_wp2_with fail
  refine HTP.out.mono ?_
  rintro e wt ⟨tv, rfl, ot, bt⟩
  have Bt := Lib.hid bt
  obtain ⟨a2, c2, hv, hc2, r2'⟩ := own_slice ot
  subst tv
  have RP := Lib.hid r2'
  clear ot bt r2'
  go_wp2_with fail
  refine (HV.out _ _ _ _ RP.out).mono ?_
  rintro e w3 ⟨v3, rfl, ho, b3⟩
  have B3 := Lib.hid (b_next Bt.out b3)
  clear Bt
  replace RP := Lib.hid (RP.out.below b3)
  clear b3
  obtain ⟨a3, c3, hv, hc3, r3⟩ := own_slice ho
  subst v3
  have RF := Lib.hid r3
  clear ho r3
  clear RP
  go_wp2_with fail
  refine (HFo.out _ _ _ RF.out).mono ?_
  rintro e w4 ⟨v4, rfl, ho, b4⟩
  have B4 := Lib.hid (b_next B3.out b4)
  clear B3
  replace RF := Lib.hid (RF.out.below b4)
  clear b4
  obtain ⟨a4, c4, hv, hc4, r4⟩ := own_slice ho
  subst v4
  have RC := Lib.hid r4
  clear ho r4
  go_wp2_with fail
  refine (HU.out _ _ _ _ RC.out hc4).mono ?_
  rintro e w5 ⟨v5, rfl, ho, b5⟩
  have B5 := Lib.hid (b_next B4.out b5)
  clear B4
  replace RF := Lib.hid (RF.out.below b5)
  replace RC := Lib.hid (RC.out.below b5)
  clear b5
  obtain ⟨a5, c5, hv, hc5, r5⟩ := own_slice ho
  subst v5
  have RU := Lib.hid r5
  clear ho r5
  go_wp2_with fail
  refine (HFo.out _ _ _ RU.out).mono ?_
  rintro e w6 ⟨v6, rfl, ho, b6⟩
  have B6 := Lib.hid (b_next B5.out b6)
  clear B5
  replace RF := Lib.hid (RF.out.below b6)
  replace RC := Lib.hid (RC.out.below b6)
  replace RU := Lib.hid (RU.out.below b6)
  clear b6
  obtain ⟨a6, c6, hv, hc6, r6⟩ := own_slice ho
  subst v6
  have RD := Lib.hid r6
  clear ho r6
  go_wp2_with fail
  refine (HI.out _ _ _ _ _ RU.out RF.out).mono ?_
  rintro e w7 ⟨rfl, hq⟩
  have b7 := drew_below hq
  clear hq
  have B7 := Lib.hid (b_next B6.out b7)
  clear B6
  replace RF := Lib.hid (RF.out.below b7)
  replace RC := Lib.hid (RC.out.below b7)
  replace RU := Lib.hid (RU.out.below b7)
  replace RD := Lib.hid (RD.out.below b7)
  clear b7
  go_wp2_with fail
  refine (HI2.out _ _ _ _ _ RC.out RD.out).mono ?_
  rintro e w8 ⟨rfl, hq⟩
  have b8 := drew_below hq
  clear hq
  have B8 := Lib.hid (b_next B7.out b8)
  clear B7
  replace RF := Lib.hid (RF.out.below b8)
  replace RC := Lib.hid (RC.out.below b8)
  replace RU := Lib.hid (RU.out.below b8)
  replace RD := Lib.hid (RD.out.below b8)
  clear b8
  go_wp2_with fail
  refine (HFd.out _ _ _ RC.out).mono ?_
  rintro e w9 ⟨rfl, hq⟩
  have b9 := drew_below hq
  clear hq
  have B9 := Lib.hid (b_next B8.out b9)
  clear B8
  replace RF := Lib.hid (RF.out.below b9)
  replace RC := Lib.hid (RC.out.below b9)
  replace RU := Lib.hid (RU.out.below b9)
  replace RD := Lib.hid (RD.out.below b9)
  clear b9
  clear RU
  clear RC
  clear RD
  go_wp2_with fail
  refine (HLi.out _ _ _ RF.out hc3).mono ?_
  rintro e wl ⟨lv, rfl, ol, bl⟩
  have hbs := B9.out.size
  have Bl := Lib.hid (b_next B9.out bl)
  obtain ⟨a8, c8, hv, hc8, r8⟩ := own_slice ol
  subst lv
  obtain ⟨g8, rfl, _⟩ := r8.2 Hm.out
  have OL := Lib.hid ol
  have HG := Lib.hid (Nat.le_trans hbs (ol.lt g8 rfl).1)
  clear ol bl r8 hbs RF B9
  go_wp2_with fail
  refine (HX.out _).mono ?_
  rintro e w11 ⟨rfl, hw⟩
  subst w11
  go_wp2_with fail
  have cx := (OL.out.cellAt k (by have := Hkm.out; omega)).trans Hgk.out
  have fx := OL.out.frozenAt k
  refine wp_region_qlast16 (by kernel_rfl) (by kernel_rfl) (by kernel_rfl) ?_
  repeat (go_big_quiet_step ((first | (go_at_call 57; with_reducible exact Calls.quiet_of_same (HB2.out _)) | (go_at_call 57; with_reducible exact Calls.quiet_of_same (HZ.out _)))))
  refine wpQuiet_nil ?_
  intro wq hwq
  obtain ⟨nq, rfl⟩ := hwq
  have OL2 : Hid ((wl.drewN nq).ownsRow _ 3 1 (.slice (some ⟨g8, 0, none⟩) m c8) m (intL F)) := OL.out
  have BL2 : Hid (Below w.heap.size w (wl.drewN nq)) := below_drewN Bl.out nq
  have cy : (wl.drewN nq).cell? ⟨g8, k, none⟩ = some (.int .i64 (y : Int)) := cx
  have fy : (wl.drewN nq).frozen? ⟨g8, k, none⟩ = false := fx
  generalize wl.drewN nq = W5 at OL2 BL2 cy fy ⊢
  clear cx fx OL Bl
  show Oper.wp _ _ _ _ _ _
  go_simp
  have st := (OL2.out.stored k (.int .i64 (z : Int))).1
  rw [← Hset.out] at st
  have bs := BL2.out.setCell (p := ⟨g8, k, none⟩) HG.out (.int .i64 (z : Int))
  generalize W5.setCell ⟨g8, k, none⟩ (.int .i64 (z : Int)) = W6 at st bs ⊢
  obtain ⟨a9, c9, hv9, hc9, r9⟩ := own_slice st
  cases hv9
  have RN := Lib.hid r9
  have B6 := Lib.hid bs
  clear st bs r9 OL2 BL2 cy fy HG
  go_wp2_with fail
  refine (HFc.out _ _ _ RN.out).mono ?_
  rintro e w12 ⟨rfl, b12⟩
  have B12 := Lib.hid (b_next B6.out b12)
  clear B6
  replace RN := Lib.hid (RN.out.below b12)
  clear b12
  go_wp2_with fail
  refine (HPt.out _).mono ?_
  rintro e wp13 ⟨pv13, rfl, op, bp⟩
  have BP13 := Lib.hid (b_next B12.out bp)
  obtain ⟨ap13, cp13, hv, hcp⟩ := own_pairs op
  subst pv13
  clear op bp B12
  clear hcp
  go_wp2_with fail
  refine (HA.out _).mono ?_
  rintro e w14 ⟨rfl, b14⟩
  have B14 := Lib.hid (b_next BP13.out b14)
  clear BP13
  clear b14
  go_wp2
  go_ret
  exact ⟨rfl, B14.out⟩
set_option maxRecDepth 100000 in
set_option maxHeartbeats 8000000 in
theorem there_b1 (x at' by' : Int) (pv : Value) (row F C : List Int) (m m1 k y z r2 : Nat) (L : List (Nat × Nat)) (w : World) (hP : RowIn w pv row) (h : ThW x at' by' (tamL m row) F C m m1 k y z r2) (hL : partsL m = L) (hL3 : L.length ≤ 3) (lc : List Int) (hres : formR m (fun x => (F.set k (z : Int)).getD x 0) = some lc) (p q : Nat) (hone : L = [(p, q)]) (hq : q = 1) : Calls Try.prog 13 #[.int .i64 x, pv, .int .i64 at', .int .i64 by'] w fun e w' => e = .returned (.bool true) ∧ Below w.heap.size w w' := by
  obtain ⟨hm, hm2, w1, w2, hkk, hkm, hm1, hrr, hr2m, hye, hym, hzz, hzm, hpol, hval, hfl, hfin, hfrm, hcf, hcd, hunf⟩ := h
  have HM := Lib.hid (mod_val x 63 w (by omega) (by omega))
  have HTP := Lib.hid (tame_in m pv row w (by omega) hm2 hP)
  have HV := Lib.hid fun a n cap W hW => Values_yes m a n cap (tamL m row) W hW hpol
  rw [hval] at HV
  have HFo := Lib.hid fun a cap W hW => Form_some m a cap F C W hW hm hm2 hfin hfrm
  have HU := Lib.hid fun a n cap W hW (hc : n ≤ cap) => Unform_yes m a n cap C W hW hc hm hm2 hcf
  rw [hunf] at HU
  have HI := Lib.hid fun a b ca cb W h1 h2 => ints_true a b m ca cb F W h1 h2 (by omega)
  have HI2 := Lib.hid fun a b ca cb W h1 h2 => ints_true a b C.length ca cb C W h1 h2 (by omega)
  have hFd := fun a cap W hW => refFormed_any m a C.length cap C W hW (by omega) hm hm2
  rw [formed_eq hm hm2, hcf] at hFd
  have HFd := Lib.hid hFd
  have HLi := Lib.hid fun a cap W hW hc => list_own m a cap F W hW hc (by omega)
  have hX := fun W => mod_val at' m W (by omega) (by omega)
  rw [← hkk] at hX
  have HX := Lib.hid hX
  have hB2 := fun W => mod_val by' m1 W (by omega) (by omega)
  rw [← hrr] at hB2
  have HB2 := Lib.hid hB2
  have hZ := fun W => mod_val ((y + 1 + r2 : Nat) : Int) m W (by omega) (by omega)
  rw [← hzz] at hZ
  obtain ⟨s, hs⟩ : ∃ s, y + 1 + r2 = s := ⟨_, rfl⟩
  rw [hs] at hZ
  have HZ := Lib.hid hZ
  have HFc := Lib.hid fun a cap W hW => Form_some m a cap (F.set k (z : Int)) lc W hW hm hm2 (set_in hfin hzm) hres
  have hPt := fun W => refParts_any m W (by omega) hm2
  rw [hL] at hPt
  have HPt := Lib.hid hPt
  have HA := Lib.hid fun w => awake_any w
  have n1 : IntKind.i64.wrap ((y : Int) + 1) = ((y + 1 : Nat) : Int) := by rw [IntWalk.i64_in _ (by omega)]; rfl
  have n2 : IntKind.i64.wrap ((m : Int) - 1) = (m1 : Int) := by rw [IntWalk.i64_in _ (by omega)]; omega
  obtain ⟨y1, hy1⟩ : ∃ y1, y + 1 = y1 := ⟨_, rfl⟩
  rw [hy1] at n1
  have n3 : IntKind.i64.wrap ((y1 : Int) + (r2 : Int)) = (s : Int) := by rw [IntWalk.i64_in _ (by omega)]; omega
  have hki : (k : Int) < (m : Int) := by omega
  have hset := intL_set F k (z : Int)
  have hgk : (intL F)[k]? = some (.int .i64 (y : Int)) := intL_get (by rw [← hye, List.getD_eq_getElem?_getD, List.getElem?_eq_getElem (by omega)]; rfl)
  have Hset := Lib.hid hset
  have Hgk := Lib.hid hgk
  have Hkm := Lib.hid hkm
  have Hm := Lib.hid (show 0 < m by omega)
  generalize modV x 63 = r at *
  generalize F.set k (z : Int) = Fc at *
  generalize tamL m row = P at *
  generalize hcl : C.length = cl at *
  subst hone
  have hqq : ((q : Int) == 1) = true := by rw [beq_iff_eq]; omega
  generalize hlc : lc.length = nc at *
  clear hX hB2 hZ hFd hPt hset hgk hkk hkm hm1 hrr hr2m hye hym hzz hzm hpol hval hfl hfin hfrm hcf hcd hunf hs hy1 hP hL hL3 hres hcl hlc hq
  go_enter Try.func13, Try.ntmps13
  go_wp2_with fail
  refine (HM.out).mono ?_
  rintro e w1 ⟨rfl, hw⟩
  subst w1
  go_wp2_with fail
  refine HTP.out.mono ?_
  rintro e wt ⟨tv, rfl, ot, bt⟩
  have Bt := Lib.hid bt
  obtain ⟨a2, c2, hv, hc2, r2'⟩ := own_slice ot
  subst tv
  have RP := Lib.hid r2'
  clear ot bt r2'
  go_wp2_with fail
  refine (HV.out _ _ _ _ RP.out).mono ?_
  rintro e w3 ⟨v3, rfl, ho, b3⟩
  have B3 := Lib.hid (b_next Bt.out b3)
  clear Bt
  replace RP := Lib.hid (RP.out.below b3)
  clear b3
  obtain ⟨a3, c3, hv, hc3, r3⟩ := own_slice ho
  subst v3
  have RF := Lib.hid r3
  clear ho r3
  clear RP
  go_wp2_with fail
  refine (HFo.out _ _ _ RF.out).mono ?_
  rintro e w4 ⟨v4, rfl, ho, b4⟩
  have B4 := Lib.hid (b_next B3.out b4)
  clear B3
  replace RF := Lib.hid (RF.out.below b4)
  clear b4
  obtain ⟨a4, c4, hv, hc4, r4⟩ := own_slice ho
  subst v4
  have RC := Lib.hid r4
  clear ho r4
  go_wp2_with fail
  refine (HU.out _ _ _ _ RC.out hc4).mono ?_
  rintro e w5 ⟨v5, rfl, ho, b5⟩
  have B5 := Lib.hid (b_next B4.out b5)
  clear B4
  replace RF := Lib.hid (RF.out.below b5)
  replace RC := Lib.hid (RC.out.below b5)
  clear b5
  obtain ⟨a5, c5, hv, hc5, r5⟩ := own_slice ho
  subst v5
  have RU := Lib.hid r5
  clear ho r5
  go_wp2_with fail
  refine (HFo.out _ _ _ RU.out).mono ?_
  rintro e w6 ⟨v6, rfl, ho, b6⟩
  have B6 := Lib.hid (b_next B5.out b6)
  clear B5
  replace RF := Lib.hid (RF.out.below b6)
  replace RC := Lib.hid (RC.out.below b6)
  replace RU := Lib.hid (RU.out.below b6)
  clear b6
  obtain ⟨a6, c6, hv, hc6, r6⟩ := own_slice ho
  subst v6
  have RD := Lib.hid r6
  clear ho r6
  go_wp2_with fail
  refine (HI.out _ _ _ _ _ RU.out RF.out).mono ?_
  rintro e w7 ⟨rfl, hq⟩
  have b7 := drew_below hq
  clear hq
  have B7 := Lib.hid (b_next B6.out b7)
  clear B6
  replace RF := Lib.hid (RF.out.below b7)
  replace RC := Lib.hid (RC.out.below b7)
  replace RU := Lib.hid (RU.out.below b7)
  replace RD := Lib.hid (RD.out.below b7)
  clear b7
  go_wp2_with fail
  refine (HI2.out _ _ _ _ _ RC.out RD.out).mono ?_
  rintro e w8 ⟨rfl, hq⟩
  have b8 := drew_below hq
  clear hq
  have B8 := Lib.hid (b_next B7.out b8)
  clear B7
  replace RF := Lib.hid (RF.out.below b8)
  replace RC := Lib.hid (RC.out.below b8)
  replace RU := Lib.hid (RU.out.below b8)
  replace RD := Lib.hid (RD.out.below b8)
  clear b8
  go_wp2_with fail
  refine (HFd.out _ _ _ RC.out).mono ?_
  rintro e w9 ⟨rfl, hq⟩
  have b9 := drew_below hq
  clear hq
  have B9 := Lib.hid (b_next B8.out b9)
  clear B8
  replace RF := Lib.hid (RF.out.below b9)
  replace RC := Lib.hid (RC.out.below b9)
  replace RU := Lib.hid (RU.out.below b9)
  replace RD := Lib.hid (RD.out.below b9)
  clear b9
  clear RU
  clear RC
  clear RD
  go_wp2_with fail
  refine (HLi.out _ _ _ RF.out hc3).mono ?_
  rintro e wl ⟨lv, rfl, ol, bl⟩
  have hbs := B9.out.size
  have Bl := Lib.hid (b_next B9.out bl)
  obtain ⟨a8, c8, hv, hc8, r8⟩ := own_slice ol
  subst lv
  obtain ⟨g8, rfl, _⟩ := r8.2 Hm.out
  have OL := Lib.hid ol
  have HG := Lib.hid (Nat.le_trans hbs (ol.lt g8 rfl).1)
  clear ol bl r8 hbs RF B9
  go_wp2_with fail
  refine (HX.out _).mono ?_
  rintro e w11 ⟨rfl, hw⟩
  subst w11
  go_wp2_with fail
  have cx := (OL.out.cellAt k (by have := Hkm.out; omega)).trans Hgk.out
  have fx := OL.out.frozenAt k
  refine wp_region_qlast16 (by kernel_rfl) (by kernel_rfl) (by kernel_rfl) ?_
  repeat (go_big_quiet_step ((first | (go_at_call 57; with_reducible exact Calls.quiet_of_same (HB2.out _)) | (go_at_call 57; with_reducible exact Calls.quiet_of_same (HZ.out _)))))
  refine wpQuiet_nil ?_
  intro wq hwq
  obtain ⟨nq, rfl⟩ := hwq
  have OL2 : Hid ((wl.drewN nq).ownsRow _ 3 1 (.slice (some ⟨g8, 0, none⟩) m c8) m (intL F)) := OL.out
  have BL2 : Hid (Below w.heap.size w (wl.drewN nq)) := below_drewN Bl.out nq
  have cy : (wl.drewN nq).cell? ⟨g8, k, none⟩ = some (.int .i64 (y : Int)) := cx
  have fy : (wl.drewN nq).frozen? ⟨g8, k, none⟩ = false := fx
  generalize wl.drewN nq = W5 at OL2 BL2 cy fy ⊢
  clear cx fx OL Bl
  show Oper.wp _ _ _ _ _ _
  go_simp
  have st := (OL2.out.stored k (.int .i64 (z : Int))).1
  rw [← Hset.out] at st
  have bs := BL2.out.setCell (p := ⟨g8, k, none⟩) HG.out (.int .i64 (z : Int))
  generalize W5.setCell ⟨g8, k, none⟩ (.int .i64 (z : Int)) = W6 at st bs ⊢
  obtain ⟨a9, c9, hv9, hc9, r9⟩ := own_slice st
  cases hv9
  have RN := Lib.hid r9
  have B6 := Lib.hid bs
  clear st bs r9 OL2 BL2 cy fy HG
  go_wp2_with fail
  refine (HFc.out _ _ _ RN.out).mono ?_
  rintro e w12 ⟨v12, rfl, ho, b12⟩
  have B12 := Lib.hid (b_next B6.out b12)
  clear B6
  replace RN := Lib.hid (RN.out.below b12)
  clear b12
  obtain ⟨a10, c10, hv, hc10, r12⟩ := own_slice ho
  subst v12
  have RE := Lib.hid r12
  clear ho r12
  go_wp2_with fail
  refine (HPt.out _).mono ?_
  rintro e wp13 ⟨pv13, rfl, op, bp⟩
  have BP13 := Lib.hid (b_next B12.out bp)
  obtain ⟨ap13, cp13, hv, hcp⟩ := own_pairs op
  subst pv13
  clear op bp B12
  clear hcp
  go_wp2_with fail
  refine (HPt.out _).mono ?_
  rintro e wp14 ⟨pv14, rfl, op, bp⟩
  have BP14 := Lib.hid (b_next BP13.out bp)
  obtain ⟨ap14, cp14, hv, hcp⟩ := own_pairs op
  subst pv14
  clear op bp BP13
  obtain ⟨gp, rfl, hcl⟩ := hcp Nat.one_pos
  have ce := hcl 1 (.int .i64 (q : Int)) rfl
  clear hcl
  go_wp2_with fail
  refine (HA.out _).mono ?_
  rintro e w15 ⟨rfl, b15⟩
  have B15 := Lib.hid (b_next BP14.out b15)
  clear BP14
  clear b15
  go_wp2
  go_ret
  exact ⟨rfl, B15.out⟩
set_option maxRecDepth 100000 in
set_option maxHeartbeats 8000000 in
theorem there_bs (x at' by' : Int) (pv : Value) (row F C : List Int) (m m1 k y z r2 : Nat) (L : List (Nat × Nat)) (w : World) (hP : RowIn w pv row) (h : ThW x at' by' (tamL m row) F C m m1 k y z r2) (hL : partsL m = L) (hL3 : L.length ≤ 3) (lc : List Int) (hres : formR m (fun x => (F.set k (z : Int)).getD x 0) = some lc) (p q : Nat) (hone : L = [(p, q)]) (hq : ¬ q = 1) : Calls Try.prog 13 #[.int .i64 x, pv, .int .i64 at', .int .i64 by'] w fun e w' => e = .returned (.bool true) ∧ Below w.heap.size w w' := by
  obtain ⟨hm, hm2, w1, w2, hkk, hkm, hm1, hrr, hr2m, hye, hym, hzz, hzm, hpol, hval, hfl, hfin, hfrm, hcf, hcd, hunf⟩ := h
  have HM := Lib.hid (mod_val x 63 w (by omega) (by omega))
  have HTP := Lib.hid (tame_in m pv row w (by omega) hm2 hP)
  have HV := Lib.hid fun a n cap W hW => Values_yes m a n cap (tamL m row) W hW hpol
  rw [hval] at HV
  have HFo := Lib.hid fun a cap W hW => Form_some m a cap F C W hW hm hm2 hfin hfrm
  have HU := Lib.hid fun a n cap W hW (hc : n ≤ cap) => Unform_yes m a n cap C W hW hc hm hm2 hcf
  rw [hunf] at HU
  have HI := Lib.hid fun a b ca cb W h1 h2 => ints_true a b m ca cb F W h1 h2 (by omega)
  have HI2 := Lib.hid fun a b ca cb W h1 h2 => ints_true a b C.length ca cb C W h1 h2 (by omega)
  have hFd := fun a cap W hW => refFormed_any m a C.length cap C W hW (by omega) hm hm2
  rw [formed_eq hm hm2, hcf] at hFd
  have HFd := Lib.hid hFd
  have HLi := Lib.hid fun a cap W hW hc => list_own m a cap F W hW hc (by omega)
  have hX := fun W => mod_val at' m W (by omega) (by omega)
  rw [← hkk] at hX
  have HX := Lib.hid hX
  have hB2 := fun W => mod_val by' m1 W (by omega) (by omega)
  rw [← hrr] at hB2
  have HB2 := Lib.hid hB2
  have hZ := fun W => mod_val ((y + 1 + r2 : Nat) : Int) m W (by omega) (by omega)
  rw [← hzz] at hZ
  obtain ⟨s, hs⟩ : ∃ s, y + 1 + r2 = s := ⟨_, rfl⟩
  rw [hs] at hZ
  have HZ := Lib.hid hZ
  have HFc := Lib.hid fun a cap W hW => Form_some m a cap (F.set k (z : Int)) lc W hW hm hm2 (set_in hfin hzm) hres
  have hPt := fun W => refParts_any m W (by omega) hm2
  rw [hL] at hPt
  have HPt := Lib.hid hPt
  have HA := Lib.hid fun w => awake_any w
  have n1 : IntKind.i64.wrap ((y : Int) + 1) = ((y + 1 : Nat) : Int) := by rw [IntWalk.i64_in _ (by omega)]; rfl
  have n2 : IntKind.i64.wrap ((m : Int) - 1) = (m1 : Int) := by rw [IntWalk.i64_in _ (by omega)]; omega
  obtain ⟨y1, hy1⟩ : ∃ y1, y + 1 = y1 := ⟨_, rfl⟩
  rw [hy1] at n1
  have n3 : IntKind.i64.wrap ((y1 : Int) + (r2 : Int)) = (s : Int) := by rw [IntWalk.i64_in _ (by omega)]; omega
  have hki : (k : Int) < (m : Int) := by omega
  have hset := intL_set F k (z : Int)
  have hgk : (intL F)[k]? = some (.int .i64 (y : Int)) := intL_get (by rw [← hye, List.getD_eq_getElem?_getD, List.getElem?_eq_getElem (by omega)]; rfl)
  have Hset := Lib.hid hset
  have Hgk := Lib.hid hgk
  have Hkm := Lib.hid hkm
  have Hm := Lib.hid (show 0 < m by omega)
  generalize modV x 63 = r at *
  generalize F.set k (z : Int) = Fc at *
  generalize tamL m row = P at *
  generalize hcl : C.length = cl at *
  subst hone
  have hqq : ((q : Int) == 1) = false := by rw [beq_eq_false_iff_ne]; omega
  generalize hlc : lc.length = nc at *
  clear hX hB2 hZ hFd hPt hset hgk hkk hkm hm1 hrr hr2m hye hym hzz hzm hpol hval hfl hfin hfrm hcf hcd hunf hs hy1 hP hL hL3 hres hcl hlc hq
  go_enter Try.func13, Try.ntmps13
  go_wp2_with fail
  refine (HM.out).mono ?_
  rintro e w1 ⟨rfl, hw⟩
  subst w1
  go_wp2_with fail
  refine HTP.out.mono ?_
  rintro e wt ⟨tv, rfl, ot, bt⟩
  have Bt := Lib.hid bt
  obtain ⟨a2, c2, hv, hc2, r2'⟩ := own_slice ot
  subst tv
  have RP := Lib.hid r2'
  clear ot bt r2'
  go_wp2_with fail
  refine (HV.out _ _ _ _ RP.out).mono ?_
  rintro e w3 ⟨v3, rfl, ho, b3⟩
  have B3 := Lib.hid (b_next Bt.out b3)
  clear Bt
  replace RP := Lib.hid (RP.out.below b3)
  clear b3
  obtain ⟨a3, c3, hv, hc3, r3⟩ := own_slice ho
  subst v3
  have RF := Lib.hid r3
  clear ho r3
  clear RP
  go_wp2_with fail
  refine (HFo.out _ _ _ RF.out).mono ?_
  rintro e w4 ⟨v4, rfl, ho, b4⟩
  have B4 := Lib.hid (b_next B3.out b4)
  clear B3
  replace RF := Lib.hid (RF.out.below b4)
  clear b4
  obtain ⟨a4, c4, hv, hc4, r4⟩ := own_slice ho
  subst v4
  have RC := Lib.hid r4
  clear ho r4
  go_wp2_with fail
  refine (HU.out _ _ _ _ RC.out hc4).mono ?_
  rintro e w5 ⟨v5, rfl, ho, b5⟩
  have B5 := Lib.hid (b_next B4.out b5)
  clear B4
  replace RF := Lib.hid (RF.out.below b5)
  replace RC := Lib.hid (RC.out.below b5)
  clear b5
  obtain ⟨a5, c5, hv, hc5, r5⟩ := own_slice ho
  subst v5
  have RU := Lib.hid r5
  clear ho r5
  go_wp2_with fail
  refine (HFo.out _ _ _ RU.out).mono ?_
  rintro e w6 ⟨v6, rfl, ho, b6⟩
  have B6 := Lib.hid (b_next B5.out b6)
  clear B5
  replace RF := Lib.hid (RF.out.below b6)
  replace RC := Lib.hid (RC.out.below b6)
  replace RU := Lib.hid (RU.out.below b6)
  clear b6
  obtain ⟨a6, c6, hv, hc6, r6⟩ := own_slice ho
  subst v6
  have RD := Lib.hid r6
  clear ho r6
  go_wp2_with fail
  refine (HI.out _ _ _ _ _ RU.out RF.out).mono ?_
  rintro e w7 ⟨rfl, hq⟩
  have b7 := drew_below hq
  clear hq
  have B7 := Lib.hid (b_next B6.out b7)
  clear B6
  replace RF := Lib.hid (RF.out.below b7)
  replace RC := Lib.hid (RC.out.below b7)
  replace RU := Lib.hid (RU.out.below b7)
  replace RD := Lib.hid (RD.out.below b7)
  clear b7
  go_wp2_with fail
  refine (HI2.out _ _ _ _ _ RC.out RD.out).mono ?_
  rintro e w8 ⟨rfl, hq⟩
  have b8 := drew_below hq
  clear hq
  have B8 := Lib.hid (b_next B7.out b8)
  clear B7
  replace RF := Lib.hid (RF.out.below b8)
  replace RC := Lib.hid (RC.out.below b8)
  replace RU := Lib.hid (RU.out.below b8)
  replace RD := Lib.hid (RD.out.below b8)
  clear b8
  go_wp2_with fail
  refine (HFd.out _ _ _ RC.out).mono ?_
  rintro e w9 ⟨rfl, hq⟩
  have b9 := drew_below hq
  clear hq
  have B9 := Lib.hid (b_next B8.out b9)
  clear B8
  replace RF := Lib.hid (RF.out.below b9)
  replace RC := Lib.hid (RC.out.below b9)
  replace RU := Lib.hid (RU.out.below b9)
  replace RD := Lib.hid (RD.out.below b9)
  clear b9
  clear RU
  clear RC
  clear RD
  go_wp2_with fail
  refine (HLi.out _ _ _ RF.out hc3).mono ?_
  rintro e wl ⟨lv, rfl, ol, bl⟩
  have hbs := B9.out.size
  have Bl := Lib.hid (b_next B9.out bl)
  obtain ⟨a8, c8, hv, hc8, r8⟩ := own_slice ol
  subst lv
  obtain ⟨g8, rfl, _⟩ := r8.2 Hm.out
  have OL := Lib.hid ol
  have HG := Lib.hid (Nat.le_trans hbs (ol.lt g8 rfl).1)
  clear ol bl r8 hbs RF B9
  go_wp2_with fail
  refine (HX.out _).mono ?_
  rintro e w11 ⟨rfl, hw⟩
  subst w11
  go_wp2_with fail
  have cx := (OL.out.cellAt k (by have := Hkm.out; omega)).trans Hgk.out
  have fx := OL.out.frozenAt k
  refine wp_region_qlast16 (by kernel_rfl) (by kernel_rfl) (by kernel_rfl) ?_
  repeat (go_big_quiet_step ((first | (go_at_call 57; with_reducible exact Calls.quiet_of_same (HB2.out _)) | (go_at_call 57; with_reducible exact Calls.quiet_of_same (HZ.out _)))))
  refine wpQuiet_nil ?_
  intro wq hwq
  obtain ⟨nq, rfl⟩ := hwq
  have OL2 : Hid ((wl.drewN nq).ownsRow _ 3 1 (.slice (some ⟨g8, 0, none⟩) m c8) m (intL F)) := OL.out
  have BL2 : Hid (Below w.heap.size w (wl.drewN nq)) := below_drewN Bl.out nq
  have cy : (wl.drewN nq).cell? ⟨g8, k, none⟩ = some (.int .i64 (y : Int)) := cx
  have fy : (wl.drewN nq).frozen? ⟨g8, k, none⟩ = false := fx
  generalize wl.drewN nq = W5 at OL2 BL2 cy fy ⊢
  clear cx fx OL Bl
  show Oper.wp _ _ _ _ _ _
  go_simp
  have st := (OL2.out.stored k (.int .i64 (z : Int))).1
  rw [← Hset.out] at st
  have bs := BL2.out.setCell (p := ⟨g8, k, none⟩) HG.out (.int .i64 (z : Int))
  generalize W5.setCell ⟨g8, k, none⟩ (.int .i64 (z : Int)) = W6 at st bs ⊢
  obtain ⟨a9, c9, hv9, hc9, r9⟩ := own_slice st
  cases hv9
  have RN := Lib.hid r9
  have B6 := Lib.hid bs
  clear st bs r9 OL2 BL2 cy fy HG
  go_wp2_with fail
  refine (HFc.out _ _ _ RN.out).mono ?_
  rintro e w12 ⟨v12, rfl, ho, b12⟩
  have B12 := Lib.hid (b_next B6.out b12)
  clear B6
  replace RN := Lib.hid (RN.out.below b12)
  clear b12
  obtain ⟨a10, c10, hv, hc10, r12⟩ := own_slice ho
  subst v12
  have RE := Lib.hid r12
  clear ho r12
  go_wp2_with fail
  refine (HPt.out _).mono ?_
  rintro e wp13 ⟨pv13, rfl, op, bp⟩
  have BP13 := Lib.hid (b_next B12.out bp)
  obtain ⟨ap13, cp13, hv, hcp⟩ := own_pairs op
  subst pv13
  clear op bp B12
  clear hcp
  go_wp2_with fail
  refine (HPt.out _).mono ?_
  rintro e wp14 ⟨pv14, rfl, op, bp⟩
  have BP14 := Lib.hid (b_next BP13.out bp)
  obtain ⟨ap14, cp14, hv, hcp⟩ := own_pairs op
  subst pv14
  clear op bp BP13
  obtain ⟨gp, rfl, hcl⟩ := hcp Nat.one_pos
  have ce := hcl 1 (.int .i64 (q : Int)) rfl
  clear hcl
  go_wp2_with fail
  refine (HA.out _).mono ?_
  rintro e w15 ⟨rfl, b15⟩
  have B15 := Lib.hid (b_next BP14.out b15)
  clear BP14
  clear b15
  go_wp2
  go_ret
  exact ⟨rfl, B15.out⟩
set_option maxRecDepth 100000 in
set_option maxHeartbeats 8000000 in
theorem there_bn (x at' by' : Int) (pv : Value) (row F C : List Int) (m m1 k y z r2 : Nat) (L : List (Nat × Nat)) (w : World) (hP : RowIn w pv row) (h : ThW x at' by' (tamL m row) F C m m1 k y z r2) (hL : partsL m = L) (hL3 : L.length ≤ 3) (hres : formR m (fun x => (F.set k (z : Int)).getD x 0) = none) (p q : Nat) (hone : L = [(p, q)]) (hq : ¬ q = 1) : Calls Try.prog 13 #[.int .i64 x, pv, .int .i64 at', .int .i64 by'] w fun e w' => e = .returned (.bool true) ∧ Below w.heap.size w w' := by
  obtain ⟨hm, hm2, w1, w2, hkk, hkm, hm1, hrr, hr2m, hye, hym, hzz, hzm, hpol, hval, hfl, hfin, hfrm, hcf, hcd, hunf⟩ := h
  have HM := Lib.hid (mod_val x 63 w (by omega) (by omega))
  have HTP := Lib.hid (tame_in m pv row w (by omega) hm2 hP)
  have HV := Lib.hid fun a n cap W hW => Values_yes m a n cap (tamL m row) W hW hpol
  rw [hval] at HV
  have HFo := Lib.hid fun a cap W hW => Form_some m a cap F C W hW hm hm2 hfin hfrm
  have HU := Lib.hid fun a n cap W hW (hc : n ≤ cap) => Unform_yes m a n cap C W hW hc hm hm2 hcf
  rw [hunf] at HU
  have HI := Lib.hid fun a b ca cb W h1 h2 => ints_true a b m ca cb F W h1 h2 (by omega)
  have HI2 := Lib.hid fun a b ca cb W h1 h2 => ints_true a b C.length ca cb C W h1 h2 (by omega)
  have hFd := fun a cap W hW => refFormed_any m a C.length cap C W hW (by omega) hm hm2
  rw [formed_eq hm hm2, hcf] at hFd
  have HFd := Lib.hid hFd
  have HLi := Lib.hid fun a cap W hW hc => list_own m a cap F W hW hc (by omega)
  have hX := fun W => mod_val at' m W (by omega) (by omega)
  rw [← hkk] at hX
  have HX := Lib.hid hX
  have hB2 := fun W => mod_val by' m1 W (by omega) (by omega)
  rw [← hrr] at hB2
  have HB2 := Lib.hid hB2
  have hZ := fun W => mod_val ((y + 1 + r2 : Nat) : Int) m W (by omega) (by omega)
  rw [← hzz] at hZ
  obtain ⟨s, hs⟩ : ∃ s, y + 1 + r2 = s := ⟨_, rfl⟩
  rw [hs] at hZ
  have HZ := Lib.hid hZ
  have HFc := Lib.hid fun a cap W hW => Form_none m a cap (F.set k (z : Int)) W hW hm hm2 (set_in hfin hzm) hres
  have hPt := fun W => refParts_any m W (by omega) hm2
  rw [hL] at hPt
  have HPt := Lib.hid hPt
  have HA := Lib.hid fun w => awake_any w
  have n1 : IntKind.i64.wrap ((y : Int) + 1) = ((y + 1 : Nat) : Int) := by rw [IntWalk.i64_in _ (by omega)]; rfl
  have n2 : IntKind.i64.wrap ((m : Int) - 1) = (m1 : Int) := by rw [IntWalk.i64_in _ (by omega)]; omega
  obtain ⟨y1, hy1⟩ : ∃ y1, y + 1 = y1 := ⟨_, rfl⟩
  rw [hy1] at n1
  have n3 : IntKind.i64.wrap ((y1 : Int) + (r2 : Int)) = (s : Int) := by rw [IntWalk.i64_in _ (by omega)]; omega
  have hki : (k : Int) < (m : Int) := by omega
  have hset := intL_set F k (z : Int)
  have hgk : (intL F)[k]? = some (.int .i64 (y : Int)) := intL_get (by rw [← hye, List.getD_eq_getElem?_getD, List.getElem?_eq_getElem (by omega)]; rfl)
  have Hset := Lib.hid hset
  have Hgk := Lib.hid hgk
  have Hkm := Lib.hid hkm
  have Hm := Lib.hid (show 0 < m by omega)
  generalize modV x 63 = r at *
  generalize F.set k (z : Int) = Fc at *
  generalize tamL m row = P at *
  generalize hcl : C.length = cl at *
  subst hone
  have hqq : ((q : Int) == 1) = false := by rw [beq_eq_false_iff_ne]; omega
  clear hX hB2 hZ hFd hPt hset hgk hkk hkm hm1 hrr hr2m hye hym hzz hzm hpol hval hfl hfin hfrm hcf hcd hunf hs hy1 hP hL hL3 hres hcl hq
  go_enter Try.func13, Try.ntmps13
  go_wp2_with fail
  refine (HM.out).mono ?_
  rintro e w1 ⟨rfl, hw⟩
  subst w1
  go_wp2_with fail
  refine HTP.out.mono ?_
  rintro e wt ⟨tv, rfl, ot, bt⟩
  have Bt := Lib.hid bt
  obtain ⟨a2, c2, hv, hc2, r2'⟩ := own_slice ot
  subst tv
  have RP := Lib.hid r2'
  clear ot bt r2'
  go_wp2_with fail
  refine (HV.out _ _ _ _ RP.out).mono ?_
  rintro e w3 ⟨v3, rfl, ho, b3⟩
  have B3 := Lib.hid (b_next Bt.out b3)
  clear Bt
  replace RP := Lib.hid (RP.out.below b3)
  clear b3
  obtain ⟨a3, c3, hv, hc3, r3⟩ := own_slice ho
  subst v3
  have RF := Lib.hid r3
  clear ho r3
  clear RP
  go_wp2_with fail
  refine (HFo.out _ _ _ RF.out).mono ?_
  rintro e w4 ⟨v4, rfl, ho, b4⟩
  have B4 := Lib.hid (b_next B3.out b4)
  clear B3
  replace RF := Lib.hid (RF.out.below b4)
  clear b4
  obtain ⟨a4, c4, hv, hc4, r4⟩ := own_slice ho
  subst v4
  have RC := Lib.hid r4
  clear ho r4
  go_wp2_with fail
  refine (HU.out _ _ _ _ RC.out hc4).mono ?_
  rintro e w5 ⟨v5, rfl, ho, b5⟩
  have B5 := Lib.hid (b_next B4.out b5)
  clear B4
  replace RF := Lib.hid (RF.out.below b5)
  replace RC := Lib.hid (RC.out.below b5)
  clear b5
  obtain ⟨a5, c5, hv, hc5, r5⟩ := own_slice ho
  subst v5
  have RU := Lib.hid r5
  clear ho r5
  go_wp2_with fail
  refine (HFo.out _ _ _ RU.out).mono ?_
  rintro e w6 ⟨v6, rfl, ho, b6⟩
  have B6 := Lib.hid (b_next B5.out b6)
  clear B5
  replace RF := Lib.hid (RF.out.below b6)
  replace RC := Lib.hid (RC.out.below b6)
  replace RU := Lib.hid (RU.out.below b6)
  clear b6
  obtain ⟨a6, c6, hv, hc6, r6⟩ := own_slice ho
  subst v6
  have RD := Lib.hid r6
  clear ho r6
  go_wp2_with fail
  refine (HI.out _ _ _ _ _ RU.out RF.out).mono ?_
  rintro e w7 ⟨rfl, hq⟩
  have b7 := drew_below hq
  clear hq
  have B7 := Lib.hid (b_next B6.out b7)
  clear B6
  replace RF := Lib.hid (RF.out.below b7)
  replace RC := Lib.hid (RC.out.below b7)
  replace RU := Lib.hid (RU.out.below b7)
  replace RD := Lib.hid (RD.out.below b7)
  clear b7
  go_wp2_with fail
  refine (HI2.out _ _ _ _ _ RC.out RD.out).mono ?_
  rintro e w8 ⟨rfl, hq⟩
  have b8 := drew_below hq
  clear hq
  have B8 := Lib.hid (b_next B7.out b8)
  clear B7
  replace RF := Lib.hid (RF.out.below b8)
  replace RC := Lib.hid (RC.out.below b8)
  replace RU := Lib.hid (RU.out.below b8)
  replace RD := Lib.hid (RD.out.below b8)
  clear b8
  go_wp2_with fail
  refine (HFd.out _ _ _ RC.out).mono ?_
  rintro e w9 ⟨rfl, hq⟩
  have b9 := drew_below hq
  clear hq
  have B9 := Lib.hid (b_next B8.out b9)
  clear B8
  replace RF := Lib.hid (RF.out.below b9)
  replace RC := Lib.hid (RC.out.below b9)
  replace RU := Lib.hid (RU.out.below b9)
  replace RD := Lib.hid (RD.out.below b9)
  clear b9
  clear RU
  clear RC
  clear RD
  go_wp2_with fail
  refine (HLi.out _ _ _ RF.out hc3).mono ?_
  rintro e wl ⟨lv, rfl, ol, bl⟩
  have hbs := B9.out.size
  have Bl := Lib.hid (b_next B9.out bl)
  obtain ⟨a8, c8, hv, hc8, r8⟩ := own_slice ol
  subst lv
  obtain ⟨g8, rfl, _⟩ := r8.2 Hm.out
  have OL := Lib.hid ol
  have HG := Lib.hid (Nat.le_trans hbs (ol.lt g8 rfl).1)
  clear ol bl r8 hbs RF B9
  go_wp2_with fail
  refine (HX.out _).mono ?_
  rintro e w11 ⟨rfl, hw⟩
  subst w11
  go_wp2_with fail
  have cx := (OL.out.cellAt k (by have := Hkm.out; omega)).trans Hgk.out
  have fx := OL.out.frozenAt k
  refine wp_region_qlast16 (by kernel_rfl) (by kernel_rfl) (by kernel_rfl) ?_
  repeat (go_big_quiet_step ((first | (go_at_call 57; with_reducible exact Calls.quiet_of_same (HB2.out _)) | (go_at_call 57; with_reducible exact Calls.quiet_of_same (HZ.out _)))))
  refine wpQuiet_nil ?_
  intro wq hwq
  obtain ⟨nq, rfl⟩ := hwq
  have OL2 : Hid ((wl.drewN nq).ownsRow _ 3 1 (.slice (some ⟨g8, 0, none⟩) m c8) m (intL F)) := OL.out
  have BL2 : Hid (Below w.heap.size w (wl.drewN nq)) := below_drewN Bl.out nq
  have cy : (wl.drewN nq).cell? ⟨g8, k, none⟩ = some (.int .i64 (y : Int)) := cx
  have fy : (wl.drewN nq).frozen? ⟨g8, k, none⟩ = false := fx
  generalize wl.drewN nq = W5 at OL2 BL2 cy fy ⊢
  clear cx fx OL Bl
  show Oper.wp _ _ _ _ _ _
  go_simp
  have st := (OL2.out.stored k (.int .i64 (z : Int))).1
  rw [← Hset.out] at st
  have bs := BL2.out.setCell (p := ⟨g8, k, none⟩) HG.out (.int .i64 (z : Int))
  generalize W5.setCell ⟨g8, k, none⟩ (.int .i64 (z : Int)) = W6 at st bs ⊢
  obtain ⟨a9, c9, hv9, hc9, r9⟩ := own_slice st
  cases hv9
  have RN := Lib.hid r9
  have B6 := Lib.hid bs
  clear st bs r9 OL2 BL2 cy fy HG
  go_wp2_with fail
  refine (HFc.out _ _ _ RN.out).mono ?_
  rintro e w12 ⟨rfl, b12⟩
  have B12 := Lib.hid (b_next B6.out b12)
  clear B6
  replace RN := Lib.hid (RN.out.below b12)
  clear b12
  go_wp2_with fail
  refine (HPt.out _).mono ?_
  rintro e wp13 ⟨pv13, rfl, op, bp⟩
  have BP13 := Lib.hid (b_next B12.out bp)
  obtain ⟨ap13, cp13, hv, hcp⟩ := own_pairs op
  subst pv13
  clear op bp B12
  clear hcp
  go_wp2_with fail
  refine (HPt.out _).mono ?_
  rintro e wp14 ⟨pv14, rfl, op, bp⟩
  have BP14 := Lib.hid (b_next BP13.out bp)
  obtain ⟨ap14, cp14, hv, hcp⟩ := own_pairs op
  subst pv14
  clear op bp BP13
  obtain ⟨gp, rfl, hcl⟩ := hcp Nat.one_pos
  have ce := hcl 1 (.int .i64 (q : Int)) rfl
  clear hcl
  go_wp2_with fail
  refine (HA.out _).mono ?_
  rintro e w15 ⟨rfl, b15⟩
  have B15 := Lib.hid (b_next BP14.out b15)
  clear BP14
  clear b15
  go_wp2
  go_ret
  exact ⟨rfl, B15.out⟩
theorem walk_ShuffleThere (x : Int) (_ : (Lit.int .i64 x).wf = true) (pv : Value) (row : List Int) (w : World) (hP : RowIn w pv row) (a : Int) (_ : (Lit.int .i64 a).wf = true) (b : Int) (_ : (Lit.int .i64 b).wf = true) : Calls Try.prog 13 #[.int .i64 x, pv, .int .i64 a, .int .i64 b] w fun e w' => e = .returned (.bool true) ∧ Below w.heap.size w w' := by
  obtain ⟨F, C, m, m1, k, y, z, r2, h⟩ := thW x a b row
  obtain ⟨hl1, hl3⟩ := parts_some ⟨m, by have := h.m64; omega⟩ h.m2
  simp only at hl1 hl3
  obtain ⟨L, hL⟩ : ∃ L, partsL m = L := ⟨_, rfl⟩
  rw [hL] at hl1 hl3
  have hsi := set_in (k := k) h.fin h.zm
  cases hres : formR m (fun x => (F.set k (z : Int)).getD x 0) with
  | some lc =>
    by_cases hone : L.length = 1
    · obtain ⟨p, hp⟩ := parts_one hone
      obtain ⟨q, hq⟩ : ∃ q, (L.getD 0 (0, 0)).2 = q := ⟨_, rfl⟩
      rw [hq] at hp
      by_cases hq1 : q = 1
      · exact there_b1 x a b pv row F C m m1 k y z r2 L w hP h hL hl3 lc hres p q hp hq1
      · exact there_bs x a b pv row F C m m1 k y z r2 L w hP h hL hl3 lc hres p q hp hq1
    · exact there_as x a b pv row F C m m1 k y z r2 L w hP h hL hl3 lc hres hone
  | none =>
    by_cases hone : L.length = 1
    · obtain ⟨p, hp⟩ := parts_one hone
      obtain ⟨q, hq⟩ : ∃ q, (L.getD 0 (0, 0)).2 = q := ⟨_, rfl⟩
      by_cases hq1 : q = 1
      · exfalso
        have hpr : primeB m = true := by
          unfold primeB
          rw [hL, hq, hone, hq1]; rfl
        obtain ⟨l, hl⟩ := form_prime h.m2 h.m64 hpr (f := fun x => (F.set k (z : Int)).getD x 0) fun x hx => hsi _ (by rw [List.getD_eq_getElem?_getD, List.getElem?_eq_getElem (by rw [List.length_set, h.flen]; exact hx)]; exact List.getElem_mem _)
        rw [hl] at hres
        cases hres
      · rw [hq] at hp
        exact there_bn x a b pv row F C m m1 k y z r2 L w hP h hL hl3 hres p q hp hq1
    · exact there_an x a b pv row F C m m1 k y z r2 L w hP h hL hl3 hres hone
end Go.Proofs.Ythmdlkaanjjbkaa
