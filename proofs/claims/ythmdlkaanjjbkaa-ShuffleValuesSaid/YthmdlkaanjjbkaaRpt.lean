/- Prime powers: the program's partsOf and the reference's Parts; powers. -/
import Derived.Test.YthmdlkaanjjbkaaParts
import Derived.Test.YthmdlkaanjjbkaaRroom
import Derived.Test.YthmdlkaanjjbkaaWcn
namespace Go.Proofs.Ythmdlkaanjjbkaa
set_option linter.unusedVariables false
open Go.RowKit

theorem rem_all {m p : Nat} (hm : m ≤ 64) : ∃ t : Nat, m % p = t ∧ Int.tmod (m : Int) (p : Int) = (t : Int) ∧ IntKind.i64.wrap (t : Int) = (t : Int) ∧ wrap64 (t : Int) = (t : Int) := by
  have h : m % p ≤ 64 := Nat.le_trans (Nat.mod_le _ _) hm
  have h2 := tmod_nat m p
  generalize m % p = t at h h2
  exact ⟨t, rfl, h2, IntWalk.i64_in _ (by omega), IntWalk.wrap64_in _ (by omega)⟩
theorem quo_int {m p d : Nat} (h : m / p = d) (hm : d ≤ 64) : Int.tdiv (m : Int) (p : Int) = (d : Int) ∧ IntKind.i64.wrap (d : Int) = (d : Int) ∧ wrap64 (d : Int) = (d : Int) := by
  have h2 := (Int.ofNat_tdiv m p).symm
  rw [h] at h2
  exact ⟨h2, IntWalk.i64_in _ (by omega), IntWalk.wrap64_in _ (by omega)⟩
theorem strip_round {p K M k g m t : Nat} (hp : 2 ≤ p) (hI : k + (stripN p g m).1 = K ∧ (stripN p g m).2 = M ∧ 1 ≤ m ∧ m < 2 ^ g) (hm : m ≤ 64) (ht : m % p = t) (h0 : t = 0) (hK : K ≤ 7) :
    ∃ d g', m / p = d ∧ d < m ∧ d ≤ 64 ∧ k + 1 ≤ 7 ∧ ((k + 1) + (stripN p g' d).1 = K ∧ (stripN p g' d).2 = M ∧ 1 ≤ d ∧ d < 2 ^ g') := by
  obtain ⟨j1, j2, j3, j4⟩ := hI
  obtain ⟨g, rfl⟩ : ∃ g', g = g' + 1 := by
    cases g with
    | zero => simp at j4; omega
    | succ g => exact ⟨g, rfl⟩
  obtain ⟨e, k1, k2, k3⟩ := strip_yes hp j3 j4 (ht.trans h0)
  rw [e] at j1 j2
  exact ⟨m / p, g, rfl, k3, Nat.le_trans (Nat.le_of_lt k3) hm, by simp only at j1; omega, by simp only at j1; omega, j2, k1, k2⟩
theorem strip_end {p K M k g m t : Nat} (hI : k + (stripN p g m).1 = K ∧ (stripN p g m).2 = M ∧ 1 ≤ m ∧ m < 2 ^ g) (ht : m % p = t) (h0 : ¬ t = 0) : k = K ∧ m = M := by
  obtain ⟨j1, j2, j3, j4⟩ := hI
  rw [strip_no j3 j4 (by rw [ht]; exact h0)] at j1 j2
  exact ⟨j1, j2⟩
theorem nat_zero {t : Nat} (h : t = 0) : ((t : Int) == 0) = true := by rw [beq_iff_eq]; omega
theorem mz_down {a b : Nat} (h : b < a) : (intOf (.int .i64 (b : Int))).toNat < (intOf (.int .i64 (a : Int))).toNat := by
  show (b : Int).toNat < (a : Int).toNat
  omega
theorem mz_up65 {p : Nat} (h : p ≤ 64) : 66 - (intOf (.int .i64 ((p + 1 : Nat) : Int))).toNat < 66 - (intOf (.int .i64 (p : Int))).toNat := by
  show 66 - ((p + 1 : Nat) : Int).toNat < 66 - (p : Int).toNat
  omega
theorem own_drop {w : World} {base n : Nat} {e : TypeId} {size : Nat} {v : Value} {xs : List Value} (h : w.ownsRow base e size v n xs) : ∃ a cap, v = .slice a n cap := by
  rcases h.2 with ⟨rfl, rfl⟩ | ⟨g, cap, cur, rfl, _⟩
  · exact ⟨_, _, rfl⟩
  · exact ⟨_, _, rfl⟩
set_option maxRecDepth 100000 in
set_option maxHeartbeats 4000000 in
theorem refParts_any (m0 : Nat) (w : World) (hm : 1 ≤ m0) (hm2 : m0 ≤ 64) :
    Calls Try.prog 27 #[.int .i64 m0] w fun e w' => ∃ v, e = .returned v ∧ w'.ownsRow w.heap.size 42 2 v (partsL m0).length (flatF (partsL m0)) ∧ Below w.heap.size w w' := by
  obtain ⟨i0, hi, hz0, hz1, hz2⟩ := info_parts info_pair
  have hst0 : PStP 2 m0 := ⟨Nat.le_refl _, hm, hm2, fun d h1 h2 => by omega⟩
  have hp0 : [] ++ partsN (66 - 2) 2 m0 = partsL m0 := partsL_start m0
  generalize partsL m0 = L at *
  have Hst0 := Lib.hid hst0
  have Hp0 := Lib.hid hp0
  clear hst0 hp0
  go_enter Try.func27, Try.ntmps27
  go_wp2
  go_loopw [0, 3, 4] (fun mm v pp wr => ∃ (m p : Nat) (D : List (Nat × Nat)), D.length ≤ p ∧ mm = .int .i64 m ∧ pp = .int .i64 p ∧ Hid (PStP p m) ∧ Hid (D ++ partsN (66 - p) p m = L) ∧ wr.ownsRow w.heap.size 42 2 v D.length (flatF D) ∧ Below w.heap.size w wr) (fun _ _ pp _ => 66 - (intOf pp).toNat)
  case atStart => exact ⟨m0, 2, [], by simp, rfl, rfl, Hst0, Hp0, World.ownsRow_nil _ _ _ _, Below.refl _ _⟩
  case round =>
    clear Hst0 Hp0
    obtain ⟨m, p, D, hDp, rfl, rfl, HS, HL, ho, hB⟩ := hrel
    obtain ⟨a5, c5, hv5⟩ := own_drop ho
    subst hv5
    have HO := Lib.hid ho
    have HB := Lib.hid hB
    clear ho hB
    generalize wr = W1 at *
    by_cases h1 : 1 < m
    · have hg : (m : Int) > 1 := by omega
      have hp2 := HS.out.1
      have hpm := HS.out.le h1
      have hm64 := HS.out.2.2.1
      have hp64 : p ≤ 64 := by omega
      have hnx := HS.out.next
      have hlx := partsN_step HS.out h1
      obtain ⟨g7, hg7, hg8⟩ : ∃ g, g = 7 ∧ m < 2 ^ g := ⟨7, rfl, by show m < 128; omega⟩
      rw [← hg7] at hnx hlx
      obtain ⟨f1, f2, f3, f4⟩ := strip_facts hp2 g7 m (by omega) hg8
      obtain ⟨K, hK⟩ : ∃ K, (stripN p g7 m).1 = K := ⟨_, rfl⟩
      obtain ⟨M, hM⟩ : ∃ M, (stripN p g7 m).2 = M := ⟨_, rfl⟩
      rw [hK, hM] at hlx
      rw [hM] at hnx
      rw [hK] at f4
      have hin : 0 + (stripN p g7 m).1 = K ∧ (stripN p g7 m).2 = M ∧ 1 ≤ m ∧ m < 2 ^ g7 := ⟨by rw [hK, Nat.zero_add], hM, by omega, hg8⟩
      have Hin := Lib.hid hin
      have HK7 : Hid (K ≤ 7) := by rw [← hg7]; exact f4
      have Hnx := Lib.hid hnx
      have Hlx := Lib.hid hlx
      have HpF := Lib.hid (And.intro hp64 hDp)
      have hpz : ((p : Int) == 0) = false := by rw [beq_eq_false_iff_ne]; omega
      have hpz2 : ¬ (p : Int) = 0 := by omega
      have Hp2 := Lib.hid hp2
      clear hnx hlx hK hM hin f1 f2 f3 f4 hg7 hg8 hpm h1 hDp hp64 hp2
      go_wp2
      go_loopw [0, 5] (fun mm kk wr => ∃ (m k g : Nat), mm = .int .i64 m ∧ kk = .int .i64 k ∧ m ≤ 64 ∧ k ≤ 7 ∧ Hid (k + (stripN p g m).1 = K ∧ (stripN p g m).2 = M ∧ 1 ≤ m ∧ m < 2 ^ g) ∧ wr = W1) (fun mm _ _ => (intOf mm).toNat)
      case atStart => exact ⟨m, 0, g7, rfl, rfl, hm64, by omega, Hin, rfl⟩
      case round =>
        clear Hin
        obtain ⟨m, k, g, rfl, rfl, hm64, hk7, HI, hw⟩ := hrel
        subst wr
        obtain ⟨t, ht, t1, t2, t3⟩ := rem_all (p := p) hm64
        by_cases h0 : t = 0
        · have hz := nat_zero h0
          obtain ⟨d, g', hd, hdm, hd64, hk8, hi5⟩ := strip_round Hp2.out HI.out hm64 ht h0 HK7.out
          obtain ⟨d1, d2, d3⟩ := quo_int hd hd64
          have HI2 := Lib.hid hi5
          have Hk3 := Lib.hid hdm
          have Hkm := Lib.hid (And.intro hd64 hk8)
          clear hd ht h0 HI hi5 hdm hd64 hk8
          go_wp2
          go_roundw
          case rel => exact ⟨d, k + 1, g', rfl, by go_num, Hkm.out.1, Hkm.out.2, HI2, trivial⟩
          case measure => exact mz_down Hk3.out
        · have hz := ne_zero h0
          obtain ⟨hk, hmM⟩ := strip_end HI.out ht h0
          subst k m
          clear ht h0 HI
          have hp64 := HpF.out.1
          by_cases hk0 : 0 < K
          · have hkg : (K : Int) > 0 := by omega
            have hlx := Hlx.out
            rw [if_pos hk0] at hlx
            have hl := HL.out
            rw [hlx, ← List.append_assoc] at hl
            have HL2 := Lib.hid hl
            have hfl : flatF (D ++ [(p, K)]) = flatF D ++ [.int .i64 (p : Int), .int .i64 (K : Int)] := by rw [flatF_append]; rfl
            have Hfl := Lib.hid hfl
            have hDl : D.length ≤ 64 := by have := HpF.out; omega
            clear hlx hl HL Hlx hfl hk0
            go_wp2_with (at_builtin; refine wpList_append_own _ rfl _ _ 29 rfl w.heap.size 42 i0 (.agg #[.int .i64 0, .int .i64 0]) 2 16 Try.underlying29 hi hz0 hz1 hz2 rfl (by decide) _ _ _ rfl (HO.out.alloc (.cells #[.int .i64 (p : Int), .int .i64 (K : Int)] 42)) ⟨_, 0, none⟩ 1 1 [.int .i64 (p : Int), .int .i64 (K : Int)] rfl rfl (cells_two_new _ _ _ _ _ (by simp)) (by simp [Value.oneCell']) (by clear t1 t2 t3; unfold maxLen; omega) (by clear t1 t2 t3; omega) (by clear t1 t2 t3; have := HB.out.size; simp; omega) ?_; intro v2 w6 hown2 hgrow2 _
                         obtain ⟨a6, c6, hv6⟩ := own_drop hown2
                         subst hv6
                         have HB6 : Hid (Below w.heap.size w w6) := rel_push HB.out (by clear t1 t2 t3; have := HB.out.size; simp; omega) ((Below.refl _ _).alloc HB.out.size _) HO.out hgrow2
                         have HO6 := Lib.hid hown2
                         clear hown2 hgrow2)
            go_roundw
            case rel => exact ⟨M, p + 1, D ++ [(p, K)], by rw [List.length_append, List.length_singleton]; have := HpF.out; omega, rfl, by go_num, Hnx, HL2, by rw [Hfl.out, List.length_append, List.length_singleton]; exact HO6.out, HB6.out⟩
            case measure => exact mz_up65 HpF.out.1
          · obtain rfl : K = 0 := by omega
            have hlx := Hlx.out
            rw [if_neg (by omega), List.nil_append] at hlx
            have hl := HL.out
            rw [hlx] at hl
            have HL2 := Lib.hid hl
            clear hlx hl HL Hlx hk0
            go_wp2
            go_roundw
            case rel => exact ⟨M, p + 1, D, by have := HpF.out; omega, rfl, by go_num, Hnx, HL2, HO.out, HB.out⟩
            case measure => exact mz_up65 HpF.out.1
    · have hm1 : m = 1 := by have := HS.out.2.1; omega
      subst m
      have hl := HL.out
      rw [partsN_one, List.append_nil] at hl
      subst hl
      clear HL HS h1 hDp
      go_wp2
      go_ret
      exact ⟨_, rfl, HO.out, HB.out⟩
set_option maxRecDepth 100000 in
set_option maxHeartbeats 4000000 in
theorem partsOf_any (m0 : Nat) (w : World) (hm : 1 ≤ m0) (hm2 : m0 ≤ 64) :
    Calls Try.prog 70 #[.int .i64 m0] w fun e w' => ∃ v, e = .returned v ∧ w'.ownsRow w.heap.size 42 2 v (partsL m0).length (flatF (partsL m0)) ∧ Below w.heap.size w w' := by
  obtain ⟨i0, hi, hz0, hz1, hz2⟩ := info_parts info_pair
  have hst0 : PStP 2 m0 := ⟨Nat.le_refl _, hm, hm2, fun d h1 h2 => by omega⟩
  have hp0 : [] ++ partsN (66 - 2) 2 m0 = partsL m0 := partsL_start m0
  generalize partsL m0 = L at *
  have Hst0 := Lib.hid hst0
  have Hp0 := Lib.hid hp0
  clear hst0 hp0
  go_enter Try.func70, Try.ntmps70
  go_wp2
  go_loopw [0, 3, 4] (fun mm v pp wr => ∃ (m p : Nat) (D : List (Nat × Nat)), D.length ≤ p ∧ mm = .int .i64 m ∧ pp = .int .i64 p ∧ Hid (PStP p m) ∧ Hid (D ++ partsN (66 - p) p m = L) ∧ wr.ownsRow w.heap.size 42 2 v D.length (flatF D) ∧ Below w.heap.size w wr) (fun _ _ pp _ => 66 - (intOf pp).toNat)
  case atStart => exact ⟨m0, 2, [], by simp, rfl, rfl, Hst0, Hp0, World.ownsRow_nil _ _ _ _, Below.refl _ _⟩
  case round =>
    clear Hst0 Hp0
    obtain ⟨m, p, D, hDp, rfl, rfl, HS, HL, ho, hB⟩ := hrel
    obtain ⟨a5, c5, hv5⟩ := own_drop ho
    subst hv5
    have HO := Lib.hid ho
    have HB := Lib.hid hB
    clear ho hB
    generalize wr = W1 at *
    by_cases h1 : 1 < m
    · have hg : (m : Int) > 1 := by omega
      have hp2 := HS.out.1
      have hpm := HS.out.le h1
      have hm64 := HS.out.2.2.1
      have hp64 : p ≤ 64 := by omega
      have hnx := HS.out.next
      have hlx := partsN_step HS.out h1
      obtain ⟨g7, hg7, hg8⟩ : ∃ g, g = 7 ∧ m < 2 ^ g := ⟨7, rfl, by show m < 128; omega⟩
      rw [← hg7] at hnx hlx
      obtain ⟨f1, f2, f3, f4⟩ := strip_facts hp2 g7 m (by omega) hg8
      obtain ⟨K, hK⟩ : ∃ K, (stripN p g7 m).1 = K := ⟨_, rfl⟩
      obtain ⟨M, hM⟩ : ∃ M, (stripN p g7 m).2 = M := ⟨_, rfl⟩
      rw [hK, hM] at hlx
      rw [hM] at hnx
      rw [hK] at f4
      have hin : 0 + (stripN p g7 m).1 = K ∧ (stripN p g7 m).2 = M ∧ 1 ≤ m ∧ m < 2 ^ g7 := ⟨by rw [hK, Nat.zero_add], hM, by omega, hg8⟩
      have Hin := Lib.hid hin
      have HK7 : Hid (K ≤ 7) := by rw [← hg7]; exact f4
      have Hnx := Lib.hid hnx
      have Hlx := Lib.hid hlx
      have HpF := Lib.hid (And.intro hp64 hDp)
      have hpz : ((p : Int) == 0) = false := by rw [beq_eq_false_iff_ne]; omega
      have hpz2 : ¬ (p : Int) = 0 := by omega
      have Hp2 := Lib.hid hp2
      clear hnx hlx hK hM hin f1 f2 f3 f4 hg7 hg8 hpm h1 hDp hp64 hp2
      go_wp2
      go_loopw [0, 5] (fun mm kk wr => ∃ (m k g : Nat), mm = .int .i64 m ∧ kk = .int .i64 k ∧ m ≤ 64 ∧ k ≤ 7 ∧ Hid (k + (stripN p g m).1 = K ∧ (stripN p g m).2 = M ∧ 1 ≤ m ∧ m < 2 ^ g) ∧ wr = W1) (fun mm _ _ => (intOf mm).toNat)
      case atStart => exact ⟨m, 0, g7, rfl, rfl, hm64, by omega, Hin, rfl⟩
      case round =>
        clear Hin
        obtain ⟨m, k, g, rfl, rfl, hm64, hk7, HI, hw⟩ := hrel
        subst wr
        obtain ⟨t, ht, t1, t2, t3⟩ := rem_all (p := p) hm64
        by_cases h0 : t = 0
        · have hz := nat_zero h0
          obtain ⟨d, g', hd, hdm, hd64, hk8, hi5⟩ := strip_round Hp2.out HI.out hm64 ht h0 HK7.out
          obtain ⟨d1, d2, d3⟩ := quo_int hd hd64
          have HI2 := Lib.hid hi5
          have Hk3 := Lib.hid hdm
          have Hkm := Lib.hid (And.intro hd64 hk8)
          clear hd ht h0 HI hi5 hdm hd64 hk8
          go_wp2
          go_roundw
          case rel => exact ⟨d, k + 1, g', rfl, by go_num, Hkm.out.1, Hkm.out.2, HI2, trivial⟩
          case measure => exact mz_down Hk3.out
        · have hz := ne_zero h0
          obtain ⟨hk, hmM⟩ := strip_end HI.out ht h0
          subst k m
          clear ht h0 HI
          have hp64 := HpF.out.1
          by_cases hk0 : 0 < K
          · have hkg : (K : Int) > 0 := by omega
            have hlx := Hlx.out
            rw [if_pos hk0] at hlx
            have hl := HL.out
            rw [hlx, ← List.append_assoc] at hl
            have HL2 := Lib.hid hl
            have hfl : flatF (D ++ [(p, K)]) = flatF D ++ [.int .i64 (p : Int), .int .i64 (K : Int)] := by rw [flatF_append]; rfl
            have Hfl := Lib.hid hfl
            have hDl : D.length ≤ 64 := by have := HpF.out; omega
            clear hlx hl HL Hlx hfl hk0
            go_wp2_with (at_builtin; refine wpList_append_own _ rfl _ _ 29 rfl w.heap.size 42 i0 (.agg #[.int .i64 0, .int .i64 0]) 2 16 Try.underlying29 hi hz0 hz1 hz2 rfl (by decide) _ _ _ rfl (HO.out.alloc (.cells #[.int .i64 (p : Int), .int .i64 (K : Int)] 42)) ⟨_, 0, none⟩ 1 1 [.int .i64 (p : Int), .int .i64 (K : Int)] rfl rfl (cells_two_new _ _ _ _ _ (by simp)) (by simp [Value.oneCell']) (by clear t1 t2 t3; unfold maxLen; omega) (by clear t1 t2 t3; omega) (by clear t1 t2 t3; have := HB.out.size; simp; omega) ?_; intro v2 w6 hown2 hgrow2 _
                         obtain ⟨a6, c6, hv6⟩ := own_drop hown2
                         subst hv6
                         have HB6 : Hid (Below w.heap.size w w6) := rel_push HB.out (by clear t1 t2 t3; have := HB.out.size; simp; omega) ((Below.refl _ _).alloc HB.out.size _) HO.out hgrow2
                         have HO6 := Lib.hid hown2
                         clear hown2 hgrow2)
            go_roundw
            case rel => exact ⟨M, p + 1, D ++ [(p, K)], by rw [List.length_append, List.length_singleton]; have := HpF.out; omega, rfl, by go_num, Hnx, HL2, by rw [Hfl.out, List.length_append, List.length_singleton]; exact HO6.out, HB6.out⟩
            case measure => exact mz_up65 HpF.out.1
          · obtain rfl : K = 0 := by omega
            have hlx := Hlx.out
            rw [if_neg (by omega), List.nil_append] at hlx
            have hl := HL.out
            rw [hlx] at hl
            have HL2 := Lib.hid hl
            clear hlx hl HL Hlx hk0
            go_wp2
            go_roundw
            case rel => exact ⟨M, p + 1, D, by have := HpF.out; omega, rfl, by go_num, Hnx, HL2, HO.out, HB.out⟩
            case measure => exact mz_up65 HpF.out.1
    · have hm1 : m = 1 := by have := HS.out.2.1; omega
      subst m
      have hl := HL.out
      rw [partsN_one, List.append_nil] at hl
      subst hl
      clear HL HS h1 hDp
      go_wp2
      go_ret
      exact ⟨_, rfl, HO.out, HB.out⟩
end Go.Proofs.Ythmdlkaanjjbkaa
