/- Contracts of the functions of trim and of the reference that only read a string. -/
import Derived.Test.YtfelmjanffhahaaDoorTrPal
import Derived.Lib.Strings
namespace Go.Proofs.YtfelmjanffhahaaDoor.Tr
set_option linter.unusedVariables false
open Go.RowKit

theorem ret_int {k : IntKind} {a b : Int} (h : a = b) : Ending.returned (.int k a) = .returned (.int k b) := by rw [h]

def letterB (c : UInt8) : Bool := 97 ≤ c && c ≤ 100
/-- at most 100 letters a to d -/
def wordB (l : List UInt8) : Bool := decide (l.length ≤ 100) && l.all letterB

theorem take_snoc (s : ByteArray) (k : Nat) (h : k < s.size) : s.data.toList.take (k + 1) = s.data.toList.take k ++ [s[k]] := by
  rw [List.take_succ_eq_append_getElem (by simpa using h)]; rfl

theorem letter_no {c : UInt8} (h : (c.toNat : Int) < 97 ∨ (100 : Int) < c.toNat) : letterB c = false := by
  unfold letterB
  rw [Bool.and_eq_false_iff, decide_eq_false_iff_not, decide_eq_false_iff_not, UInt8.le_iff_toNat_le, UInt8.le_iff_toNat_le]
  simp; omega
theorem letter_yes {c : UInt8} (h1 : ¬ (c.toNat : Int) < 97) (h2 : ¬ (100 : Int) < c.toNat) : letterB c = true := by
  unfold letterB
  rw [Bool.and_eq_true, decide_eq_true_eq, decide_eq_true_eq, UInt8.le_iff_toNat_le, UInt8.le_iff_toNat_le]
  simp; omega
theorem all_part (s : ByteArray) (k : Nat) (hk : k < s.size) (h : letterB s[k] = false) : s.data.toList.all letterB = false := by
  rw [List.all_eq_false]
  exact ⟨s[k], by rw [← getD_data s k hk, List.getD_eq_getElem?_getD, List.getElem?_eq_getElem (by rw [data_length]; exact hk)]; exact List.getElem_mem _, by rw [h]; simp⟩
theorem all_step (s : ByteArray) (k : Nat) (hk : k < s.size) (h : letterB s[k] = true) (hp : (s.data.toList.take k).all letterB = true) : (s.data.toList.take (k + 1)).all letterB = true := by
  rw [take_snoc s k hk, List.all_append, hp]; simp [h]
theorem take_all (s : ByteArray) : s.data.toList.take s.size = s.data.toList := List.take_of_length_le (by rw [data_length]; exact Nat.le_refl _)

set_option maxHeartbeats 400000 in
theorem isWord_long (s : ByteArray) (w : World) (hs : s.size ≤ maxLen) (h : 100 < s.size) :
    Calls Tryd.prog 35 #[.string s] w fun e w' => e = .returned (.bool (wordB s.data.toList)) ∧ w = w' := by
  unfold maxLen at hs
  have h' : (100 : Int) < s.size := by omega
  go_enter Tryd.func35, Tryd.ntmps35
  go_wp2
  go_ret
  exact ⟨ret_bool (by unfold wordB; rw [data_length, decide_eq_false (by omega)]; rfl), rfl⟩

set_option maxHeartbeats 400000 in
theorem isWord_short (s : ByteArray) (w : World) (h : s.size ≤ 100) :
    Calls Tryd.prog 35 #[.string s] w fun e w' => e = .returned (.bool (wordB s.data.toList)) ∧ w = w' := by
  have h' : ¬ (100 : Int) < s.size := by omega
  go_enter Tryd.func35, Tryd.ntmps35
  go_wp2
  go_loop [9] (fun i => ∃ k : Nat, k ≤ s.size ∧ i = .int .i64 k ∧ Hid ((s.data.toList.take k).all letterB = true)) (fun i => s.size - (intOf i).toNat)
  case atStart => exact ⟨0, Nat.zero_le _, rfl, rfl⟩
  case round =>
    obtain ⟨k, hk, rfl, HP⟩ := hrel
    by_cases hlt : k < s.size
    · have hc : (k : Int) < s.size := by omega
      go_wp2
      all_goals first
        | (have hn := letter_no (c := s[k]) (by omega); go_ret; exact ⟨ret_bool (by unfold wordB; rw [all_part s k hlt hn, Bool.and_false]), rfl⟩)
        | (have hy := all_step s k hlt (letter_yes (c := s[k]) (by omega) (by omega)) HP.out
           go_round
           case rel => exact ⟨k + 1, by omega, by go_num, hy⟩
           case measure => simp [intOf]; omega)
    · obtain rfl : k = s.size := by omega
      go_wp2
      go_ret
      exact ⟨ret_bool (by unfold wordB; rw [data_length, decide_eq_true h]; rw [← take_all s, HP.out]; rfl), rfl⟩

/-- isWord reads alone. -/
theorem isWord_any (s : ByteArray) (w : World) (hs : s.size ≤ maxLen) :
    Calls Tryd.prog 35 #[.string s] w fun e w' => e = .returned (.bool (wordB s.data.toList)) ∧ w = w' := by
  by_cases h : s.size ≤ 100
  · exact isWord_short s w h
  · exact isWord_long s w hs (by omega)

/-- the length of the longest palindrome with which a list ends -/
def longEnd : List UInt8 → Nat
  | [] => 0
  | c :: l => if pal (c :: l) then l.length + 1 else longEnd l

theorem longEnd_drop (l : List UInt8) (k : Nat) (hk : k < l.length) : longEnd (l.drop k) = if pal (l.drop k) then l.length - k else longEnd (l.drop (k + 1)) := by
  rw [List.drop_eq_getElem_cons hk, longEnd]
  simp only [List.length_drop]
  rw [show l.length - (k + 1) + 1 = l.length - k from by omega]

theorem longEnd_le : ∀ l : List UInt8, longEnd l ≤ l.length
  | [] => Nat.le_refl _
  | c :: l => by unfold longEnd; split; · simp
                 · have := longEnd_le l; simp; omega

theorem drop_data (s : ByteArray) (k : Nat) : (s.extract k s.size).data.toList = s.data.toList.drop k := by
  rw [Lib.extract_data, List.take_of_length_le]
  rw [List.length_drop, data_length]; exact Nat.le_refl _

set_option maxHeartbeats 400000 in
theorem longestEnd_any (s : ByteArray) (w : World) (hs : s.size ≤ maxLen) :
    Calls Tryd.prog 51 #[.string s] w fun e w' => e = .returned (.int .i64 (longEnd s.data.toList)) ∧ ∃ n, w' = w.drewN n := by
  unfold maxLen at hs
  go_enter Tryd.func51, Tryd.ntmps51
  go_wp2
  go_loopw [6] (fun i wr => ∃ k n : Nat, k ≤ s.size ∧ i = .int .i64 k ∧ Hid (longEnd s.data.toList = longEnd (s.data.toList.drop k)) ∧ wr = w.drewN n) (fun i _ => s.size - (intOf i).toNat)
  case atStart => exact ⟨0, 0, Nat.zero_le _, rfl, rfl, rfl⟩
  case round =>
    obtain ⟨k, n, hk, rfl, HP, rfl⟩ := hrel
    by_cases hlt : k < s.size
    · have hc : (k : Int) < s.size := by omega
      cases hp : pal (s.extract k s.size).data.toList with
      | true =>
        have Hp := Lib.hid hp
        clear hp
        go_wp2_with (go_at_call 60; refine (isPal _ _ (by simp [ByteArray.size_extract, maxLen]; omega)).mono ?_; rintro e w' ⟨rfl, n2, rfl⟩; rw [Hp.out])
        go_ret
        exact ⟨ret_int (by rw [HP.out, longEnd_drop _ k (by rw [data_length]; exact hlt), ← drop_data, Hp.out, data_length]; simp; omega), _, rfl⟩
      | false =>
        have Hp := Lib.hid hp
        clear hp
        go_wp2_with (go_at_call 60; refine (isPal _ _ (by simp [ByteArray.size_extract, maxLen]; omega)).mono ?_; rintro e w' ⟨rfl, n2, rfl⟩; rw [Hp.out])
        have hz : longEnd s.data.toList = longEnd (s.data.toList.drop (k + 1)) := by
          rw [HP.out, longEnd_drop _ k (by rw [data_length]; exact hlt), ← drop_data, Hp.out]; rfl
        go_roundw
        case rel => exact ⟨k + 1, n + n2, by omega, by go_num, hz, rfl⟩
        case measure => simp [intOf]; omega
    · obtain rfl : k = s.size := by omega
      go_wp2
      go_ret
      exact ⟨ret_int (by rw [HP.out, List.drop_of_length_le (by rw [data_length]; exact Nat.le_refl _)]; rfl), n, rfl⟩
end Go.Proofs.YtfelmjanffhahaaDoor.Tr
