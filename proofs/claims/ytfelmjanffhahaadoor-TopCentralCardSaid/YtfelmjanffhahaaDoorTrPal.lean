/- trim.isPalindrome tells whether a string equals its reversal. -/
import Derived.Test.YtfelmjanffhahaaDoorRows
import Derived.Test.YtfelmjanffhahaaDoorTrPlain
import Derived.WalkKit
import Derived.WalkSpells
import Derived.WalkLawsBesides
import Derived.Deep.QuietTactic
import Derived.BigQuiet
import Derived.Handy
import Derived.Lib.Hide
namespace Go.Proofs.YtfelmjanffhahaaDoor.Tr
set_option linter.unusedVariables false
open Go.RowKit

theorem ret_bool {a b : Bool} (h : a = b) : Ending.returned (.bool a) = .returned (.bool b) := by rw [h]
theorem getD_data (s : ByteArray) (k : Nat) (h : k < s.size) : s.data.toList.getD k 0 = s[k] := by
  rw [List.getD_eq_getElem?_getD, List.getElem?_eq_getElem (by simpa using h)]; rfl

theorem data_length (s : ByteArray) : s.data.toList.length = s.size := by rw [Array.length_toList]; rfl
theorem bne_nat (a b : UInt8) : ((a.toNat : Int) != (b.toNat : Int)) = (a != b) := by
  have h : ((a.toNat : Int) = b.toNat) ↔ a = b := by rw [Int.ofNat_inj, UInt8.toNat_inj]
  rw [Bool.eq_iff_iff, bne_iff_ne, bne_iff_ne]; exact not_congr h
theorem pal_part (s : ByteArray) (k m : Nat) (hk : k < s.size) (hms : m < s.size) (hm : m + 1 + k = s.size) (h2 : k < s.size / 2) (h : ((s[k].toNat : Int) != (s[m].toNat : Int)) = true) : pal s.data.toList = false := by
  rw [bne_nat, bne_iff_ne] at h
  refine pal_false_of (k := k) (by rw [data_length]; exact h2) ?_
  rw [data_length, show s.size - 1 - k = m from by omega, getD_data s k hk, getD_data s m hms]
  exact h
theorem pal_same (s : ByteArray) (k m : Nat) (hk : k < s.size) (hms : m < s.size) (hm : m + 1 + k = s.size) (hp : palTo s.data.toList k = true) (h : ((s[k].toNat : Int) != (s[m].toNat : Int)) = false) : palTo s.data.toList (k + 1) = true := by
  rw [bne_nat] at h
  rw [palTo_succ, hp, data_length, show s.size - 1 - k = m from by omega, getD_data s k hk, getD_data s m hms]
  simpa using h

set_option maxHeartbeats 400000 in
theorem isPal (s : ByteArray) (w : World) (hs : s.size ≤ maxLen) :
    Calls Tryd.prog 60 #[.string s] w fun e w' => e = .returned (.bool (pal s.data.toList)) ∧ ∃ n, w' = w.drewN n := by
  unfold maxLen at hs
  go_enter Tryd.func60, Tryd.ntmps60
  go_wp2
  go_loopw [7] (fun i wr => ∃ k n : Nat, k ≤ s.size / 2 ∧ i = .int .i64 k ∧ Hid (palTo s.data.toList k = true) ∧ wr = w.drewN n)
    (fun i _ => s.size - (intOf i).toNat)
  case atStart => exact ⟨0, 0, Nat.zero_le _, rfl, rfl, rfl⟩
  case round =>
    obtain ⟨k, n, hk, rfl, HP, rfl⟩ := hrel
    by_cases hlt : k < s.size / 2
    · have hc : (k : Int) < s.size / 2 := by omega
      obtain ⟨m, hm⟩ : ∃ m : Nat, m + 1 + k = s.size := ⟨s.size - 1 - k, by omega⟩
      have h1 : (m : Int) < s.size := by omega
      have h2 : (k : Int) < s.size := by omega
      have e1 : IntKind.i64.wrap ((s.size : Int) - 1) = (s.size : Int) - 1 := IntWalk.i64_in _ (by omega)
      have e2 : IntKind.i64.wrap ((s.size : Int) - 1 - k) = m := by rw [IntWalk.i64_in _ (by omega)]; omega
      have Hm := Lib.hid hm
      clear hm
      go_wp2
      go_quiet (fail)
      clear e1 e2
      go_wp2
      · go_ret
        exact ⟨ret_bool (pal_part s k m (by omega) (by omega) Hm.out hlt ‹_›).symm, n + nq, World.drewN_drewN _ _ _⟩
      · have hz := pal_same s k m (by omega) (by omega) Hm.out HP.out ‹_›
        go_roundw
        case rel => exact ⟨k + 1, n + nq, by omega, by go_num, hz, rfl⟩
        case measure => simp [intOf]; omega
    · obtain rfl : k = s.size / 2 := by omega
      go_wp2
      go_ret
      exact ⟨ret_bool (by rw [← palTo_half, data_length]; exact HP.out.symm), n, rfl⟩
end Go.Proofs.YtfelmjanffhahaaDoor.Tr
