/- The walk of Counts. -/
import Derived.Test.YthmdlkaanjjbkaaAwk
namespace Go.Proofs.Ythmdlkaanjjbkaa
set_option linter.unusedVariables false
open Go.RowKit

theorem limL_drop {m k : Nat} (h : k < degN m) : (limL m).drop k = (roomN m k : Int) :: (limL m).drop (k + 1) := by
  rw [List.drop_eq_getElem_cons (by rw [limL_length]; exact h)]
  congr 1
  have e := List.getElem?_eq_getElem (l := limL m) (show k < (limL m).length by rw [limL_length]; exact h)
  unfold limL at e ⊢
  rw [List.getElem?_map, List.getElem?_range h] at e
  exact (Option.some.inj e).symm
theorem prodP_next (m k : Nat) : prodP m (k + 1) = prodP m k * (k + 1) % m := rfl
theorem prodP_back (m : Nat) {k : Nat} (h : 1 ≤ k) : prodP m k = prodP m (k - 1) * k % m := by
  obtain ⟨j, rfl⟩ : ∃ j, k = j + 1 := ⟨k - 1, by omega⟩
  rfl
theorem prodP_lt {m : Nat} (hm : 2 ≤ m) : ∀ i, prodP m i < m
  | 0 => by show 1 < m; omega
  | i + 1 => Nat.mod_lt _ (by omega)
theorem prod_num {m p k p2 : Nat} (hm : 2 ≤ m) (hm2 : m ≤ 64) (hp : p < m) (hk : k ≤ 65) (h : p * k % m = p2) : p2 < m ∧ ∃ q : Nat, IntKind.i64.wrap ((p : Int) * (k : Int)) = (q : Int) ∧ wrap64 ((p : Int) * (k : Int)) = (q : Int) ∧ Int.tmod (q : Int) (m : Int) = (p2 : Int) ∧ IntKind.i64.wrap (p2 : Int) = (p2 : Int) ∧ wrap64 (p2 : Int) = (p2 : Int) := by
  have h1 : p * k ≤ 64 * 65 := Nat.mul_le_mul (by omega) hk
  have h2 : p * k % m < m := Nat.mod_lt _ (by omega)
  subst h
  refine ⟨h2, p * k, ?_, ?_, (tmod_nat _ _), IntWalk.i64_in _ (by omega), IntWalk.wrap64_in _ (by omega)⟩
  · rw [← Int.natCast_mul]; exact IntWalk.i64_in _ (by omega)
  · rw [← Int.natCast_mul]; exact IntWalk.wrap64_in _ (by omega)
theorem room_num {m g l : Nat} (hm2 : m ≤ 64) (h : m / g = l) : Int.tdiv (m : Int) (g : Int) = (l : Int) ∧ IntKind.i64.wrap (l : Int) = (l : Int) ∧ wrap64 (l : Int) = (l : Int) := by
  have h2 : m / g ≤ m := Nat.div_le_self _ _
  rw [h] at h2
  refine ⟨?_, IntWalk.i64_in _ (by omega), IntWalk.wrap64_in _ (by omega)⟩
  rw [Int.tdiv_eq_ediv_of_nonneg (by omega), ← h]; rfl
theorem gcd_num {m p : Nat} (hm : 2 ≤ m) (hm2 : m ≤ 64) : Nat.gcd m p ≤ 64 ∧ ((Nat.gcd m p : Nat) : Int) ≠ 0 ∧ (((Nat.gcd m p : Nat) : Int) == 0) = false := by
  have h1 := Nat.gcd_pos_of_pos_left p (show 0 < m by omega)
  have h2 := Nat.le_of_dvd (by omega) (Nat.gcd_dvd_left m p)
  refine ⟨by omega, by omega, ?_⟩
  rw [beq_eq_false_iff_ne]; omega
theorem wrap_next {k : Nat} (h : k ≤ 100) : IntKind.i64.wrap ((k : Int) + 1) = ((k + 1 : Nat) : Int) ∧ wrap64 ((k : Int) + 1) = ((k + 1 : Nat) : Int) := ⟨by rw [IntWalk.i64_in _ (by omega)]; rfl, by rw [IntWalk.wrap64_in _ (by omega)]; rfl⟩
theorem mz_up {d k : Nat} (h : k < d) : d - (intOf (.int .i64 ((k + 1 : Nat) : Int))).toNat < d - (intOf (.int .i64 (k : Int))).toNat := by
  show d - ((k + 1 : Nat) : Int).toNat < d - (k : Int).toNat
  omega
theorem ne_cast {a b : Nat} (h : ¬ a = b) : ((a : Int) == (b : Int)) = false := by rw [beq_eq_false_iff_ne]; omega
theorem ne_zero {a : Nat} (h : ¬ a = 0) : ((a : Int) == 0) = false := by rw [beq_eq_false_iff_ne]; omega
theorem ne_zero2 {a : Nat} (h : ¬ a = 0) : ¬ (a : Int) = 0 := by omega
theorem quo_num {l : Int} (h2 : 2 ≤ l) : IntKind.i64.wrap (1152921504606846976 / l) = 1152921504606846976 / l ∧ wrap64 (1152921504606846976 / l) = 1152921504606846976 / l := by
  obtain ⟨_, q2, q3⟩ := cnt_quo h2
  exact ⟨IntWalk.i64_in _ (by omega), IntWalk.wrap64_in _ (by omega)⟩
theorem mul_num {c l : Int} (h1 : 1 ≤ c) (h2 : 2 ≤ l) (h3 : c ≤ 1152921504606846976 / l) : ∃ y, c * l = y ∧ 1 ≤ y ∧ y ≤ 1152921504606846976 ∧ IntKind.i64.wrap (c * l) = y ∧ wrap64 (c * l) = y := by
  obtain ⟨n1, n2⟩ := cnt_num h1 h2 h3
  exact ⟨_, rfl, n1, n2, IntWalk.i64_in _ (by omega), IntWalk.wrap64_in _ (by omega)⟩
theorem quo_all {l : Nat} {y : Int} (hl : 2 ≤ l) (hy : 1 ≤ y) : ∃ q : Int, (1152921504606846976 : Int) / (l : Int) = q ∧ Int.tdiv 1152921504606846976 (l : Int) = q ∧ IntKind.i64.wrap q = q ∧ wrap64 q = q ∧ (¬ q < y → ∃ z, y * (l : Int) = z ∧ 1 ≤ z ∧ z ≤ 1152921504606846976 ∧ IntKind.i64.wrap (y * (l : Int)) = z ∧ wrap64 (y * (l : Int)) = z) := by
  have h2 : (2 : Int) ≤ (l : Int) := by omega
  obtain ⟨q1, _, _⟩ := cnt_quo h2
  obtain ⟨q4, q5⟩ := quo_num h2
  exact ⟨_, rfl, q1, q4, q5, fun h => mul_num hy h2 (Int.not_lt.1 h)⟩
set_option maxRecDepth 100000 in
set_option maxHeartbeats 4000000 in
theorem counts_walk (x : Int) (w : World) : Calls Try.prog 12 #[.int .i64 x] w fun e w' => e = .returned (.bool true) ∧ Below w.heap.size w w' := by
  have hmv := mod_val x 63 w (by omega) (by omega)
  have hr := modV_lt x 63 (by omega)
  generalize modV x 63 = r at hmv hr
  obtain ⟨m, hmr⟩ : ∃ m, r + 2 = m := ⟨_, rfl⟩
  have hm : 2 ≤ m := by omega
  have hm2 : m ≤ 64 := by omega
  have hw1 : IntKind.i64.wrap (2 + (r : Int)) = (m : Int) := by rw [IntWalk.i64_in _ (by omega)]; omega
  have hw2 : wrap64 (2 + (r : Int)) = (m : Int) := by rw [IntWalk.wrap64_in _ (by omega)]; omega
  have hC := fun w => Count_yes m w hm hm2
  have hD := fun w => Degree_any (m : Int) w
  rw [show modB (m : Int) = true from decide_eq_true (by omega), if_pos rfl, Int.toNat_natCast] at hD
  obtain ⟨d1, d2, d3, d4, d5⟩ := deg_facts ⟨m, by omega⟩ hm
  simp only at d1 d2 d3
  have HC := Lib.hid hC
  have HD := Lib.hid hD
  have HM := Lib.hid hmv
  have hd1 : decide (((degN m : Nat) : Int) < 2) = false := decide_eq_false (by omega)
  have hd2 : decide ((m : Int) < ((degN m : Nat) : Int)) = false := decide_eq_false (by omega)
  have hd3 : decide (m < degN m) = false := decide_eq_false (by omega)
  have hroom : ∀ i, i < degN m → 2 ≤ roomN m i := fun i hi => (d4 ⟨i, by omega⟩ hi).2
  have hd4 : ∀ i, i < degN m → ¬ prodP m i = 0 := fun i hi => (d4 ⟨i, by omega⟩ hi).1
  have Hroom := Lib.hid hroom
  have Hd4 := Lib.hid hd4
  have Hd3 := Lib.hid d3
  clear hC hD hmv d3 d4 d5 hmr hr hroom hd4
  generalize hdd : degN m = d at *
  generalize hcc : countR m = R at HC
  have Hcc := Lib.hid hcc
  have Hdd := Lib.hid hdd
  clear hcc hdd
  go_enter Try.func12, Try.ntmps12
  go_wp2_with fail
  refine (HM.out).mono ?_
  rintro e w1 ⟨rfl, rfl⟩
  go_wp2_with fail
  refine (HC.out _).mono ?_
  rintro e w1 ⟨rfl, b1⟩
  have B1 := Lib.hid b1
  clear b1
  go_wp2_with fail
  refine (HD.out _).mono ?_
  rintro e w2 ⟨rfl, b2⟩
  have B2 := Lib.hid (b_next B1.out b2)
  clear b2 HC HD HM B1 hw1 hw2
  go_wp2
  go_loopw [7, 8, 9, 10] (fun c f b i wr => ∃ (k : Nat) (y : Int), k ≤ d ∧ i = .int .i64 k ∧ c = .int .i64 y ∧ f = .int .i64 (prodP m (k - 1) : Nat) ∧ b = .bool false ∧ 1 ≤ y ∧ y ≤ 1152921504606846976 ∧ Hid (cntL 1 (limL m) = cntL y ((limL m).drop k)) ∧ wr = w2) (fun _ _ _ i _ => d - (intOf i).toNat)
  case atStart => exact ⟨0, 1, Nat.zero_le _, rfl, rfl, rfl, rfl, by omega, by omega, by unfold Hid; rw [List.drop_zero], rfl⟩
  case round =>
    obtain ⟨k, y, hk, rfl, rfl, rfl, rfl, hy1, hy2, HY, hw⟩ := hrel
    subst wr
    by_cases hlt : k < d
    · have hc : (k : Int) < (d : Int) := by omega
      have hp := prodP_lt hm (k - 1)
      have hpp : 1 ≤ k → prodP m k = prodP m (k - 1) * k % m := fun h => prodP_back m h
      have hp0 : k = 0 → prodP m k = prodP m (k - 1) := fun h => by subst h; rfl
      generalize prodP m (k - 1) = p at hp hpp hp0
      obtain ⟨p2, hp2⟩ : ∃ p2, prodP m k = p2 := ⟨_, rfl⟩
      obtain ⟨l, hl⟩ : ∃ l, roomN m k = l := ⟨_, rfl⟩
      have hdr := limL_drop (show k < degN m by rw [Hdd.out]; exact hlt)
      rw [hl] at hdr
      have hl2 : 2 ≤ l := by rw [← hl]; exact Hroom.out k hlt
      have hgl : m / Nat.gcd m p2 = l := by rw [← hl, ← hp2]; rfl
      rw [hp2] at hpp hp0
      have hcn := HY.out
      rw [hdr] at hcn
      have hun : cntL y ((l : Int) :: (limL m).drop (k + 1)) = if 1152921504606846976 / (l : Int) < y then none else cntL (y * l) ((limL m).drop (k + 1)) := rfl
      rw [hun] at hcn
      have hk100 : k ≤ 100 := by omega
      have hm0' : ¬ m = 0 := by omega
      have hl0' : ¬ l = 0 := by omega
      have hp64 : p2 ≤ 1000000000000 := by have := prodP_lt hm k; omega
      have hm64 : m ≤ 1000000000000 := by omega
      have hk1' : k = 0 ∨ (1 ≤ k ∧ k ≤ 65 ∧ (k : Int) > 0) := by omega
      have hG := fun w => refGcd_any m p2 hm64 hp64 w
      obtain ⟨q, hq, q1, q4, q5, hmul⟩ := quo_all hl2 hy1
      rw [hq] at hcn
      obtain ⟨n1, n2⟩ := wrap_next hk100
      have hb : ((m : Int) == 0) = false := ne_zero hm0'
      have hm0 : ¬ (m : Int) = 0 := ne_zero2 hm0'
      obtain ⟨g1, g2, g3⟩ := gcd_num (p := p2) hm hm2
      obtain ⟨r1, r2, r3⟩ := room_num hm2 hgl
      generalize Nat.gcd m p2 = g at g1 g2 g3 r1 hG
      have hl0 : ((l : Int) == 0) = false := ne_zero hl0'
      have hl1 : ¬ (l : Int) = 0 := ne_zero2 hl0'
      have HG := Lib.hid hG
      have HCn := Lib.hid hcn
      have Hp2 := Lib.hid hp2
      clear hcn hun hdr hl HY hG hp2 hgl hl2
      have hstep : (p2 = p ∧ k = 0) ∨ (1 ≤ k ∧ k ≤ 65 ∧ (k : Int) > 0) := hk1'.elim (fun h => .inl ⟨hp0 h, h⟩) .inr
      clear hk1' hk100 hm0' hl0' hp64 hm64 hq
      by_cases hqy : q < y
      · have hbig : y > q := hqy
        have hr : cntL 1 (limL m) = none := by rw [HCn.out, if_pos hqy]
        have hR : R = (0, 5) := by rw [← Hcc.out]; unfold countR; rw [hr]
        subst hR
        clear hr hmul
        rcases hstep with ⟨rfl, rfl⟩ | hk1
        · clear hpp hp0 hqy
          go_wp2_with fail
          refine (HG.out _).mono ?_
          rintro e w5 ⟨rfl, hw5⟩
          subst w5
          go_wp2
          clear n1 n2 hb hm0 g1 g2 g3 r1 r2 r3 hl0 hl1 q1 q4 q5 hbig
          go_loopw [8, 12] (fun f i wr => ∃ k : Nat, 1 ≤ k ∧ k ≤ d + 1 ∧ i = .int .i64 k ∧ f = .int .i64 (prodP m (k - 1) : Nat) ∧ wr = w2) (fun _ i _ => d + 1 - (intOf i).toNat)
          case atStart => exact ⟨1, by omega, by omega, rfl, rfl, rfl⟩
          case round =>
            obtain ⟨k, hk1, hk, rfl, rfl, hw⟩ := hrel
            subst wr
            by_cases hlt : k ≤ d
            · have hc : (k : Int) ≤ (d : Int) := by omega
              have hp := prodP_lt hm (k - 1)
              have hpp := prodP_back m hk1
              have hk65 : k ≤ 65 := by omega
              have hk100 : k ≤ 100 := by omega
              have hm0' : ¬ m = 0 := by omega
              have hkd1 : k < d + 1 := by omega
              have hle1 : 1 ≤ k + 1 := by omega
              have hle2 : k + 1 ≤ d + 1 := by omega
              have hkd0 : k = d ∨ k < d := by omega
              generalize prodP m (k - 1) = p at hp hpp
              obtain ⟨p2, hp2⟩ : ∃ p2, prodP m k = p2 := ⟨_, rfl⟩
              rw [hp2] at hpp
              obtain ⟨hp3, q, q1, q2, q3, q4, q5⟩ := prod_num hm hm2 hp hk65 hpp.symm
              obtain ⟨n1, n2⟩ := wrap_next hk100
              have hb : ((m : Int) == 0) = false := ne_zero hm0'
              have hm0 : ¬ (m : Int) = 0 := ne_zero2 hm0'
              rcases hkd0 with hkd | hkd
              · subst hkd
                have hz : p2 = 0 := hp2.symm.trans Hd3.out
                subst hz
                have Hp2 := Lib.hid hp2
                clear hp2 hpp
                go_wp2
                go_roundw
                case rel => exact ⟨k + 1, hle1, hle2, rfl, by rw [Nat.add_sub_cancel, Hp2.out]; rfl, trivial⟩
                case measure => exact mz_up hkd1
              · have hz := Hd4.out k hkd
                rw [hp2] at hz
                have hz1 := ne_zero hz
                have hz2 := ne_cast (Nat.ne_of_lt hkd)
                have Hp2 := Lib.hid hp2
                clear hp2 hpp hz hkd
                go_wp2
                go_roundw
                case rel => exact ⟨k + 1, hle1, hle2, rfl, by rw [Nat.add_sub_cancel, Hp2.out], trivial⟩
                case measure => exact mz_up hkd1
            · have hc : ¬ (k : Int) ≤ (d : Int) := by omega
              go_wp2_with fail
              refine (awake_any _).mono ?_
              rintro e w4 ⟨rfl, b4⟩
              have B4 := Lib.hid (b_next B2.out b4)
              clear b4
              go_wp2
              go_ret
              exact ⟨rfl, B4.out⟩
        · obtain ⟨hk1, hk65, hk0⟩ := hk1
          obtain ⟨hp3, q9, s1, s2, s3, s4, s5⟩ := prod_num hm hm2 hp hk65 (hpp hk1).symm
          clear hpp hp0 hqy
          go_wp2_with fail
          refine (HG.out _).mono ?_
          rintro e w5 ⟨rfl, hw5⟩
          subst w5
          clear s1 s2 s3 s4 s5 hk0 hk65 hp3 hk1
          have HZ := Lib.hid (And.intro hm (And.intro hm2 (And.intro d1 (And.intro d2 (And.intro hlt n2)))))
          clear hk hlt hc n1 n2 hm hm2 d1 d2 hd1 hd2 hd3 hy1 hy2
          go_wp2
          obtain ⟨hm, hm2, d1, d2, hlt, n2⟩ := HZ.out
          clear n2
          clear hb hm0 g1 g2 g3 r1 r2 r3 hl0 hl1 q1 q4 q5 hbig
          go_loopw [8, 12] (fun f i wr => ∃ k : Nat, 1 ≤ k ∧ k ≤ d + 1 ∧ i = .int .i64 k ∧ f = .int .i64 (prodP m (k - 1) : Nat) ∧ wr = w2) (fun _ i _ => d + 1 - (intOf i).toNat)
          case atStart => exact ⟨1, by omega, by omega, rfl, rfl, rfl⟩
          case round =>
            obtain ⟨k, hk1, hk, rfl, rfl, hw⟩ := hrel
            subst wr
            by_cases hlt : k ≤ d
            · have hc : (k : Int) ≤ (d : Int) := by omega
              have hp := prodP_lt hm (k - 1)
              have hpp := prodP_back m hk1
              have hk65 : k ≤ 65 := by omega
              have hk100 : k ≤ 100 := by omega
              have hm0' : ¬ m = 0 := by omega
              have hkd1 : k < d + 1 := by omega
              have hle1 : 1 ≤ k + 1 := by omega
              have hle2 : k + 1 ≤ d + 1 := by omega
              have hkd0 : k = d ∨ k < d := by omega
              generalize prodP m (k - 1) = p at hp hpp
              obtain ⟨p2, hp2⟩ : ∃ p2, prodP m k = p2 := ⟨_, rfl⟩
              rw [hp2] at hpp
              obtain ⟨hp3, q, q1, q2, q3, q4, q5⟩ := prod_num hm hm2 hp hk65 hpp.symm
              obtain ⟨n1, n2⟩ := wrap_next hk100
              have hb : ((m : Int) == 0) = false := ne_zero hm0'
              have hm0 : ¬ (m : Int) = 0 := ne_zero2 hm0'
              rcases hkd0 with hkd | hkd
              · subst hkd
                have hz : p2 = 0 := hp2.symm.trans Hd3.out
                subst hz
                have Hp2 := Lib.hid hp2
                clear hp2 hpp
                go_wp2
                go_roundw
                case rel => exact ⟨k + 1, hle1, hle2, rfl, by rw [Nat.add_sub_cancel, Hp2.out]; rfl, trivial⟩
                case measure => exact mz_up hkd1
              · have hz := Hd4.out k hkd
                rw [hp2] at hz
                have hz1 := ne_zero hz
                have hz2 := ne_cast (Nat.ne_of_lt hkd)
                have Hp2 := Lib.hid hp2
                clear hp2 hpp hz hkd
                go_wp2
                go_roundw
                case rel => exact ⟨k + 1, hle1, hle2, rfl, by rw [Nat.add_sub_cancel, Hp2.out], trivial⟩
                case measure => exact mz_up hkd1
            · have hc : ¬ (k : Int) ≤ (d : Int) := by omega
              go_wp2_with fail
              refine (awake_any _).mono ?_
              rintro e w4 ⟨rfl, b4⟩
              have B4 := Lib.hid (b_next B2.out b4)
              clear b4
              go_wp2
              go_ret
              exact ⟨rfl, B4.out⟩
      · have hbig : ¬ y > q := hqy
        have hr : cntL 1 (limL m) = cntL (y * (l : Int)) ((limL m).drop (k + 1)) := by rw [HCn.out, if_neg hqy]
        obtain ⟨z, hz, z1, z2, z3, z4⟩ := hmul hqy
        rw [hz] at hr
        clear hz hmul hqy
        rcases hstep with ⟨rfl, rfl⟩ | hk1
        · have HR3 := Lib.hid hr
          clear hpp hp0 hr
          go_wp2_with fail
          refine (HG.out _).mono ?_
          rintro e w5 ⟨rfl, hw5⟩
          subst w5
          go_wp2
          go_roundw
          case rel => exact ⟨0 + 1, z, hlt, rfl, rfl, by rw [Nat.add_sub_cancel, Hp2.out], rfl, z1, z2, HR3, trivial⟩
          case measure => exact mz_up hlt
        · obtain ⟨hk1, hk65, hk0⟩ := hk1
          obtain ⟨hp3, q9, s1, s2, s3, s4, s5⟩ := prod_num hm hm2 hp hk65 (hpp hk1).symm
          have HR3 := Lib.hid hr
          clear hpp hp0 hr
          go_wp2_with fail
          refine (HG.out _).mono ?_
          rintro e w5 ⟨rfl, hw5⟩
          subst w5
          clear s1 s2 s3 s4 s5 hk0 hk65 hp3 hk1
          have HZ := Lib.hid (And.intro hm (And.intro hm2 (And.intro d1 (And.intro d2 (And.intro hlt n2)))))
          clear hk hlt hc n1 n2 hm hm2 d1 d2 hd1 hd2 hd3 hy1 hy2
          go_wp2
          obtain ⟨hm, hm2, d1, d2, hlt, n2⟩ := HZ.out
          rw [n2]
          clear n2
          go_roundw
          case rel => exact ⟨k + 1, z, hlt, rfl, rfl, by rw [Nat.add_sub_cancel, Hp2.out], rfl, z1, z2, HR3, trivial⟩
          case measure => exact mz_up hlt
    · have hkd : k = d := by omega
      subst k
      have hc : ¬ (d : Int) < (d : Int) := by omega
      have hcn := HY.out
      rw [List.drop_of_length_le (by rw [limL_length, Hdd.out]; omega)] at hcn
      have hR : R = (y, 0) := by rw [← Hcc.out]; unfold countR; rw [hcn]; rfl
      subst hR
      clear hcn HY
      go_wp2
      go_loopw [8, 12] (fun f i wr => ∃ k : Nat, 1 ≤ k ∧ k ≤ d + 1 ∧ i = .int .i64 k ∧ f = .int .i64 (prodP m (k - 1) : Nat) ∧ wr = w2) (fun _ i _ => d + 1 - (intOf i).toNat)
      case atStart => exact ⟨1, by omega, by omega, rfl, rfl, rfl⟩
      case round =>
        obtain ⟨k, hk1, hk, rfl, rfl, hw⟩ := hrel
        subst wr
        by_cases hlt : k ≤ d
        · have hc : (k : Int) ≤ (d : Int) := by omega
          have hp := prodP_lt hm (k - 1)
          have hpp := prodP_back m hk1
          have hk65 : k ≤ 65 := by omega
          have hk100 : k ≤ 100 := by omega
          have hm0' : ¬ m = 0 := by omega
          have hkd1 : k < d + 1 := by omega
          have hle1 : 1 ≤ k + 1 := by omega
          have hle2 : k + 1 ≤ d + 1 := by omega
          have hkd0 : k = d ∨ k < d := by omega
          generalize prodP m (k - 1) = p at hp hpp
          obtain ⟨p2, hp2⟩ : ∃ p2, prodP m k = p2 := ⟨_, rfl⟩
          rw [hp2] at hpp
          obtain ⟨hp3, q, q1, q2, q3, q4, q5⟩ := prod_num hm hm2 hp hk65 hpp.symm
          obtain ⟨n1, n2⟩ := wrap_next hk100
          have hb : ((m : Int) == 0) = false := ne_zero hm0'
          have hm0 : ¬ (m : Int) = 0 := ne_zero2 hm0'
          rcases hkd0 with hkd | hkd
          · subst hkd
            have hz : p2 = 0 := hp2.symm.trans Hd3.out
            subst hz
            have Hp2 := Lib.hid hp2
            clear hp2 hpp
            go_wp2
            go_roundw
            case rel => exact ⟨k + 1, hle1, hle2, rfl, by rw [Nat.add_sub_cancel, Hp2.out]; rfl, trivial⟩
            case measure => exact mz_up hkd1
          · have hz := Hd4.out k hkd
            rw [hp2] at hz
            have hz1 := ne_zero hz
            have hz2 := ne_cast (Nat.ne_of_lt hkd)
            have Hp2 := Lib.hid hp2
            clear hp2 hpp hz hkd
            go_wp2
            go_roundw
            case rel => exact ⟨k + 1, hle1, hle2, rfl, by rw [Nat.add_sub_cancel, Hp2.out], trivial⟩
            case measure => exact mz_up hkd1
        · have hc : ¬ (k : Int) ≤ (d : Int) := by omega
          go_wp2_with fail
          refine (awake_any _).mono ?_
          rintro e w4 ⟨rfl, b4⟩
          have B4 := Lib.hid (b_next B2.out b4)
          clear b4
          go_wp2
          go_ret
          exact ⟨rfl, B4.out⟩
theorem walk_ShuffleCounts (x : Int) (_ : (Lit.int .i64 x).wf = true) (w : World) : Calls Try.prog 12 #[.int .i64 x] w fun e w' => e = .returned (.bool true) ∧ Below w.heap.size w w' := counts_walk x w
end Go.Proofs.Ythmdlkaanjjbkaa
