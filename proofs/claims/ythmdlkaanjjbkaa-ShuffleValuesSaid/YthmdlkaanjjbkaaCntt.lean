/- Degree, Count. -/
import Derived.Test.YthmdlkaanjjbkaaVal
namespace Go.Proofs.Ythmdlkaanjjbkaa
set_option linter.unusedVariables false
open Go.RowKit

/-- the product of the numbers, as long as it is not too great -/
def cntL : Int → List Int → Option Int
  | c, [] => some c
  | c, l :: ls => if 1152921504606846976 / l < c then none else cntL (c * l) ls
def countR (m : Nat) : Int × Int := match cntL 1 (limL m) with | some c => (c, 0) | none => (0, 5)
theorem limL_in {m : Nat} (hm : 2 ≤ m) (hm2 : m ≤ 64) : ∀ l ∈ limL m, 2 ≤ l ∧ l ≤ 64 := fun l hl => by
  obtain ⟨d1, d2, d3, d4, d5⟩ := deg_facts ⟨m, by omega⟩ hm
  simp only at d1 d2 d4
  unfold limL at hl
  obtain ⟨i, hi, rfl⟩ := List.mem_map.1 hl
  have hid := List.mem_range.1 hi
  have h1 := (d4 ⟨i, by omega⟩ hid).2
  simp only at h1
  have h2 : roomN m i ≤ m := Nat.div_le_self _ _
  omega
theorem cnt_num {c l : Int} (h1 : 1 ≤ c) (h2 : 2 ≤ l) (h3 : c ≤ 1152921504606846976 / l) : 1 ≤ c * l ∧ c * l ≤ 1152921504606846976 := by
  have e1 : c * l ≤ 1152921504606846976 / l * l := Int.mul_le_mul_of_nonneg_right h3 (by omega)
  have e2 := Int.ediv_mul_le 1152921504606846976 (show l ≠ 0 by omega)
  have e3 : 1 * 1 ≤ c * l := Int.mul_le_mul h1 (by omega) (by omega) (by omega)
  omega
theorem cnt_quo {l : Int} (h2 : 2 ≤ l) : Int.tdiv 1152921504606846976 l = 1152921504606846976 / l ∧ 0 ≤ 1152921504606846976 / l ∧ 1152921504606846976 / l ≤ 1152921504606846976 :=
  ⟨Int.tdiv_eq_ediv_of_nonneg (by omega), Int.ediv_nonneg (by omega) (by omega), Int.ediv_le_self _ (by omega)⟩

set_option maxRecDepth 100000 in
theorem Degree_any (m : Int) (w : World) : Calls Try.prog 43 #[.int .i64 m] w fun e w' => e = .returned (if modB m then .tuple #[.int .i64 (degN m.toNat : Nat), .int .i64 0] else .tuple #[.int .i64 0, .int .i64 2]) ∧ Below w.heap.size w w' := by
  have H1 := Lib.hid fun w => isModulus_any m w
  cases hm : modB m with
  | false =>
    rw [hm] at H1
    rw [if_neg (by decide)]
    clear hm
    go_enter Try.func43, Try.ntmps43
    go_wp2_with fail
    refine (H1.out _).mono ?_
    rintro e w1 ⟨rfl, rfl⟩
    go_wp2
    go_ret2
    exact ⟨rfl, Below.refl _ _⟩
  | true =>
    rw [hm] at H1
    rw [if_pos rfl]
    obtain ⟨k, rfl, hk, hk2⟩ := modB_nat hm
    rw [Int.toNat_natCast]
    have HL := Lib.hid fun w => limitsOf_any k w hk hk2
    clear hm
    go_enter Try.func43, Try.ntmps43
    go_wp2_with fail
    refine (H1.out _).mono ?_
    rintro e w1 ⟨rfl, rfl⟩
    go_wp2_with fail
    refine (HL.out _).mono ?_
    rintro e w2 ⟨v, rfl, ho, b2⟩
    obtain ⟨a5, c5, hv5, -⟩ := Row.of_own ho
    subst hv5
    clear ho
    go_wp2
    go_ret2
    exact ⟨rfl, b2⟩
set_option maxRecDepth 100000 in
set_option maxHeartbeats 4000000 in
theorem Count_yes (m : Nat) (w : World) (hm : 2 ≤ m) (hm2 : m ≤ 64) : Calls Try.prog 44 #[.int .i64 m] w fun e w' => e = .returned (.tuple #[.int .i64 (countR m).1, .int .i64 (countR m).2]) ∧ Below w.heap.size w w' := by
  have h1 := fun w => isModulus_any (m : Int) w
  rw [show modB (m : Int) = true from decide_eq_true (by omega)] at h1
  have H1 := Lib.hid h1
  have HL := Lib.hid fun w => limitsOf_any m w hm hm2
  have hin := limL_in hm hm2
  have hll := limL_length m
  have hd : degN m ≤ 64 := by
    obtain ⟨_, d2, _⟩ := deg_facts ⟨m, by omega⟩ hm
    simp only at d2
    omega
  have hR : ∀ o, cntL 1 (limL m) = o → countR m = match o with | some c => (c, 0) | none => (0, 5) := fun o h => by unfold countR; rw [h]
  generalize countR m = R at hR ⊢
  generalize limL m = L at *
  generalize degN m = d at *
  have HR := Lib.hid hR
  have Hin := Lib.hid hin
  have Hll := Lib.hid hll
  clear hR hin hll h1
  go_enter Try.func44, Try.ntmps44
  go_wp2_with fail
  refine (H1.out _).mono ?_
  rintro e w1 ⟨rfl, rfl⟩
  go_wp2_with fail
  refine (HL.out _).mono ?_
  rintro e w2 ⟨v, rfl, ho, b2⟩
  obtain ⟨a5, c5, hv5, hr5⟩ := Row.of_own ho
  subst hv5
  have Hr := Lib.hid hr5
  have B2 := Lib.hid b2
  clear ho hr5 b2
  go_wp2
  go_loopw [4, 6, 13] (fun c _ i wr => ∃ (k : Nat) (x : Int), k ≤ d ∧ i = .int .i64 k ∧ c = .int .i64 x ∧ 1 ≤ x ∧ x ≤ 1152921504606846976 ∧ Hid (cntL 1 L = cntL x (L.drop k)) ∧ wr = w2) (fun _ _ i _ => d - (intOf i).toNat)
  case atStart => exact ⟨0, 1, Nat.zero_le _, rfl, rfl, by omega, by omega, by unfold Hid; rw [List.drop_zero], rfl⟩
  case round =>
    obtain ⟨k, x, hk, rfl, rfl, hx1, hx2, HC, rfl⟩ := hrel
    by_cases hlt : k < d
    · have hc : (k : Int) < d := by omega
      obtain ⟨l, hl⟩ : ∃ l, L[k]? = some l := ⟨_, List.getElem?_eq_getElem (by have := Hll.out; omega)⟩
      obtain ⟨hl2, hl64⟩ := Hin.out l (List.mem_of_getElem? hl)
      obtain ⟨g, rfl, cg⟩ := Hr.out.int hlt
      rw [List.getD_eq_getElem?_getD, hl] at cg
      simp only [Option.getD_some] at cg
      have hdr : L.drop k = l :: L.drop (k + 1) := by
        rw [List.drop_eq_getElem_cons (by have := Hll.out; omega)]
        congr 1
        exact Option.some.inj ((List.getElem?_eq_getElem _).symm.trans hl)
      have hcn := HC.out
      rw [hdr] at hcn
      have hun : cntL x (l :: L.drop (k + 1)) = if 1152921504606846976 / l < x then none else cntL (x * l) (L.drop (k + 1)) := rfl
      rw [hun] at hcn
      obtain ⟨q1, q2, q3⟩ := cnt_quo hl2
      have hnum := fun h => cnt_num hx1 hl2 h
      generalize hqq : (1152921504606846976 : Int) / l = q at q1 q2 q3 hnum hcn
      have hl0 : ((l : Int) == 0) = false := by rw [beq_eq_false_iff_ne]; omega
      have hl1 : ¬ l = 0 := by omega
      have hwq : wrap64 q = q := IntWalk.wrap64_in _ (by omega)
      have hwq2 : IntKind.i64.wrap q = q := IntWalk.i64_in _ (by omega)
      have HCn := Lib.hid hcn
      clear hcn hun hdr hl hqq HC
      by_cases hb : q < x
      · have hr : cntL 1 L = none := by rw [HCn.out, if_pos hb]
        have hR := HR.out _ hr
        have HR2 := Lib.hid hR
        have hb2 : x > q := hb
        clear hR hr hnum
        go_wp2
        go_ret2
        exact ⟨by rw [HR2.out]; rfl, B2.out⟩
      · have hr : cntL 1 L = cntL (x * l) (L.drop (k + 1)) := by rw [HCn.out, if_neg hb]
        obtain ⟨n1, n2⟩ := hnum (by omega)
        obtain ⟨y, hy⟩ : ∃ y, x * l = y := ⟨_, rfl⟩
        rw [hy] at n1 n2 hr
        have hwy : IntKind.i64.wrap (x * l) = y := by rw [hy]; exact IntWalk.i64_in _ (by omega)
        have hwy6 : wrap64 (x * l) = y := by rw [hy]; exact IntWalk.wrap64_in _ (by omega)
        have HR3 := Lib.hid hr
        have hb2 : ¬ x > q := hb
        clear hr hnum hy
        go_wp2
        go_roundw
        case rel => exact ⟨k + 1, y, hlt, by go_num, rfl, n1, n2, HR3, trivial⟩
        case measure => clear hwy hwy6 q1 hwq hwq2; simp [intOf]; omega
    · obtain rfl : k = d := by omega
      have hc : ¬ (k : Int) < k := by omega
      have hcn := HC.out
      rw [List.drop_of_length_le (by have := Hll.out; omega)] at hcn
      have hR := HR.out _ hcn
      have HR2 := Lib.hid hR
      clear hcn hR HC
      go_wp2
      go_ret2
      exact ⟨by rw [HR2.out]; rfl, B2.out⟩
end Go.Proofs.Ythmdlkaanjjbkaa
