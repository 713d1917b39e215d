/- Contract of ref.Within: a string is a subsequence of another one. -/
import Derived.Test.YteejjcipdpojnaaOutmath
namespace Go.Proofs.Yteejjcipdpojnaa
set_option linter.unusedVariables false
open Go.RowKit

/-- x is a subsequence of s: letter by letter, each one as early as it goes -/
def subB : List UInt8 → List UInt8 → Bool
  | [], _ => true
  | _ :: _, [] => false
  | a :: x, b :: s => if a = b then subB x s else subB (a :: x) s

theorem subB_done (x : List UInt8) : subB x [] = decide (x = []) := by cases x <;> simp [subB]
theorem drop_cons (s : ByteArray) (i : Nat) (hi : i < s.size) : s.data.toList.drop i = s[i] :: s.data.toList.drop (i + 1) := by
  have h : i < s.data.toList.length := by rw [data_length]; exact hi
  rw [List.drop_eq_getElem_cons h]; rfl
theorem sub_yes {x s : ByteArray} {k i : Nat} (hk : k < x.size) (hi : i < s.size) (h : ((s[i].toNat : Int) == (x[k].toNat : Int)) = true) : subB (x.data.toList.drop k) (s.data.toList.drop i) = subB (x.data.toList.drop (k + 1)) (s.data.toList.drop (i + 1)) := by
  rw [nat_beq, beq_iff_eq] at h
  rw [drop_cons s i hi, drop_cons x k hk, subB, if_pos h.symm]
theorem sub_no {x s : ByteArray} {k i : Nat} (hk : k < x.size) (hi : i < s.size) (h : ((s[i].toNat : Int) == (x[k].toNat : Int)) = false) : subB (x.data.toList.drop k) (s.data.toList.drop i) = subB (x.data.toList.drop k) (s.data.toList.drop (i + 1)) := by
  rw [nat_beq, beq_eq_false_iff_ne] at h
  rw [drop_cons s i hi, drop_cons x k hk, subB, if_neg (fun e => h e.symm)]

set_option maxHeartbeats 2000000 in
theorem refWithin_any (x s : ByteArray) (w : World) (hx : x.size ≤ maxLen) (hs : s.size ≤ maxLen) :
    Calls Try.prog 50 #[.string x, .string s] w fun e w' => e = .returned (.bool (subB x.data.toList s.data.toList)) ∧ ∃ n, w' = w.drewN n := by
  unfold maxLen at hx hs
  go_enter Try.func50, Try.ntmps50
  go_wp2
  go_loopw [5, 6] (fun u v wr => ∃ k i n : Nat, k ≤ x.size ∧ i ≤ s.size ∧ u = .int .i64 k ∧ v = .int .i64 i ∧ Hid (subB x.data.toList s.data.toList = subB (x.data.toList.drop k) (s.data.toList.drop i)) ∧ wr = w.drewN n)
    (fun _ v _ => s.size - (intOf v).toNat)
  case atStart => exact ⟨0, 0, 0, Nat.zero_le _, Nat.zero_le _, rfl, rfl, rfl, rfl⟩
  case round =>
    obtain ⟨k, i, n, hk, hi, rfl, rfl, HP, rfl⟩ := hrel
    by_cases hlt : i < s.size
    · have h1 : (i : Int) < s.size := by omega
      by_cases hlk : k < x.size
      · have h2 : (k : Int) < x.size := by omega
        cases hq : ((s[i].toNat : Int) == (x[k].toNat : Int)) with
        | true =>
          have Hz := Lib.hid (HP.out.trans (sub_yes hlk hlt hq))
          clear HP
          go_wp2
          go_quiet (fail)
          go_wp2
          go_roundw
          case rel => exact ⟨k + 1, i + 1, _, by omega, by omega, by go_num, by go_num, Hz.out, rfl⟩
          case measure => simp [intOf]; omega
        | false =>
          have Hz := Lib.hid (HP.out.trans (sub_no hlk hlt hq))
          clear HP
          go_wp2
          go_quiet (fail)
          go_wp2
          go_roundw
          case rel => exact ⟨k, i + 1, _, by omega, by omega, by go_num, by go_num, Hz.out, rfl⟩
          case measure => simp [intOf]; omega
      · obtain rfl : k = x.size := by omega
        have h2 : ¬ (x.size : Int) < x.size := by omega
        have hv : subB x.data.toList s.data.toList = true := by
          rw [HP.out, List.drop_of_length_le (by rw [data_length]; omega)]; simp [subB]
        have Hv := Lib.hid hv
        clear hv HP
        go_wp2
        go_ret
        exact ⟨ret_bool (by rw [Hv.out]), n, rfl⟩
    · obtain rfl : i = s.size := by omega
      have h1 : ¬ (s.size : Int) < s.size := by omega
      have hv : subB x.data.toList s.data.toList = decide (k = x.size) := by
        rw [HP.out, List.drop_of_length_le (l := s.data.toList) (by rw [data_length]; omega), subB_done, decide_eq_decide, List.drop_eq_nil_iff, data_length]; omega
      obtain ⟨q, hq⟩ : ∃ q : Bool, ((k : Int) == x.size) = q := ⟨_, rfl⟩
      have hv2 : subB x.data.toList s.data.toList = q := by
        rw [hv, ← hq, Bool.eq_iff_iff, decide_eq_true_eq, beq_iff_eq]; omega
      have Hv := Lib.hid hv2
      clear hv hv2 HP
      go_wp2
      go_ret
      exact ⟨ret_bool (by rw [Hv.out]), n, rfl⟩
end Go.Proofs.Yteejjcipdpojnaa
