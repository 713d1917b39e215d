/- The reference's Count. -/
import Derived.Test.YthmdlkaanjjbkaaRroom
import Derived.Test.YthmdlkaanjjbkaaWcn
namespace Go.Proofs.Ythmdlkaanjjbkaa
set_option linter.unusedVariables false
open Go.RowKit

/-- the reference's answer -/
def countB (m : Nat) : Int × Bool := match cntL 1 (limL m) with | some c => (c, true) | none => (0, false)
set_option maxRecDepth 100000 in
set_option maxHeartbeats 4000000 in
theorem refCount_any (m : Nat) (w : World) (hm : 2 ≤ m) (hm2 : m ≤ 64) :
    Calls Try.prog 45 #[.int .i64 m] w fun e w' => e = .returned (.tuple #[.int .i64 (countB m).1, .bool (countB m).2]) ∧ w' = w := by
  obtain ⟨d1, d2, d3, d4, d5⟩ := deg_facts ⟨m, by omega⟩ hm
  simp only at d1 d2
  have hroom : ∀ i, i < degN m → 2 ≤ roomN m i := fun i hi => (d4 ⟨i, by omega⟩ hi).2
  have HR := Lib.hid fun (i : Nat) (hi : i ≤ 100) w => Room_any m i w hm hm2 hi
  have HD := Lib.hid fun w => refDegree_any m w hm hm2
  have hdr := fun k (h : k < degN m) => limL_drop h
  have hll := limL_length m
  have hcb : ∀ o, cntL 1 (limL m) = o → countB m = match o with | some c => (c, true) | none => (0, false) := fun o h => by unfold countB; rw [h]
  generalize degN m = d at *
  generalize limL m = L at *
  generalize countB m = R at hcb ⊢
  have Hroom := Lib.hid hroom
  have Hdr := Lib.hid hdr
  have Hll := Lib.hid hll
  have Hcb := Lib.hid hcb
  have Hm := Lib.hid (And.intro hm (And.intro hm2 d2))
  clear hroom hdr hll hcb d1 d2 d3 d4 d5 hm hm2
  go_enter Try.func45, Try.ntmps45
  go_wp2
  go_loopw [4, 5] (fun o i wr => ∃ (k : Nat) (y : Int), k ≤ d ∧ i = .int .i64 k ∧ o = .int .i64 y ∧ 1 ≤ y ∧ Hid (cntL 1 L = cntL y (L.drop k)) ∧ wr = w) (fun _ i _ => d - (intOf i).toNat)
  case atStart => exact ⟨0, 1, Nat.zero_le _, rfl, rfl, by omega, by unfold Hid; rw [List.drop_zero], rfl⟩
  case round =>
    obtain ⟨k, y, hk, rfl, rfl, hy1, HY, hw⟩ := hrel
    subst wr
    by_cases hlt : k < d
    · have hc : (k : Int) < (d : Int) := by omega
      have hk100 : k ≤ 100 := by have := Hm.out; omega
      have hC := fun w => HR.out k hk100 w
      have hl2 := Hroom.out k hlt
      have hcn := HY.out
      rw [Hdr.out k hlt] at hcn
      generalize roomN m k = l at hC hl2 hcn
      have hun : cntL y ((l : Int) :: L.drop (k + 1)) = if 1152921504606846976 / (l : Int) < y then none else cntL (y * l) (L.drop (k + 1)) := rfl
      rw [hun] at hcn
      have hl0' : ¬ l = 0 := by omega
      obtain ⟨q, hq, q1, q4, q5, hmul⟩ := quo_all hl2 hy1
      rw [hq] at hcn
      have hgo : k + 1 ≤ d := hlt
      have hl0 : ((l : Int) == 0) = false := ne_zero hl0'
      have hl1 : ¬ (l : Int) = 0 := ne_zero2 hl0'
      have HC := Lib.hid hC
      have HCn := Lib.hid hcn
      have Hgo := Lib.hid (And.intro hgo hlt)
      clear hC hun hq hl0' hcn HY hl2 hgo
      by_cases hqy : q < y
      · have hbig : y > q := hqy
        have hr : cntL 1 L = none := by rw [HCn.out, if_pos hqy]
        have hR : R = (0, false) := Hcb.out _ hr
        subst hR
        clear hr hmul hqy hk100 hlt
        go_wp2_with fail
        refine (HD.out _).mono ?_
        rintro e w1 ⟨rfl, hw⟩
        subst w1
        go_wp2_with fail
        refine (HC.out _).mono ?_
        rintro e w1 ⟨rfl, hw⟩
        subst w1
        go_wp2
        go_ret2
        exact ⟨rfl, rfl⟩
      · have hbig : ¬ y > q := hqy
        have hr : cntL 1 L = cntL (y * (l : Int)) (L.drop (k + 1)) := by rw [HCn.out, if_neg hqy]
        obtain ⟨z, hz, z1, z2, z3, z4⟩ := hmul hqy
        rw [hz] at hr
        have HR3 := Lib.hid hr
        clear hz hmul hqy hr hlt
        go_wp2_with fail
        refine (HD.out _).mono ?_
        rintro e w1 ⟨rfl, hw⟩
        subst w1
        go_wp2_with fail
        refine (HC.out _).mono ?_
        rintro e w1 ⟨rfl, hw⟩
        subst w1
        go_wp2_with fail
        refine (HC.out _).mono ?_
        rintro e w1 ⟨rfl, hw⟩
        subst w1
        go_wp2
        go_roundw
        case rel => exact ⟨k + 1, z, Hgo.out.1, by go_num, rfl, z1, HR3, trivial⟩
        case measure => exact mz_upn Hgo.out.2
    · have hkd : k = d := by omega
      subst k
      have hc : ¬ (d : Int) < (d : Int) := by omega
      have hcn := HY.out
      rw [List.drop_of_length_le (by rw [Hll.out]; exact Nat.le_refl _)] at hcn
      have hR : R = (y, true) := Hcb.out _ hcn
      subst hR
      clear hcn HY hk hlt
      go_wp2_with fail
      refine (HD.out _).mono ?_
      rintro e w1 ⟨rfl, hw⟩
      subst w1
      go_wp2
      go_ret2
      exact ⟨rfl, rfl⟩
end Go.Proofs.Ythmdlkaanjjbkaa
