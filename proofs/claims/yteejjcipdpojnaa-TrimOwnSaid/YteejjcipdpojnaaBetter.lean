/- The search for palindromes among subsequences: what trim.better and the reference's better choose; the value of the search. -/
import Derived.Test.YteejjcipdpojnaaCmp
namespace Go.Proofs.Yteejjcipdpojnaa
set_option linter.unusedVariables false
open Go.RowKit

/-- the longer one; of equally long ones the smaller one -/
def betterL (a b : List UInt8) : List UInt8 := if b.length < a.length ∨ (a.length = b.length ∧ a < b) then a else b
def betterB (a b : ByteArray) : ByteArray := if b.size < a.size ∨ (a.size = b.size ∧ a.data.toList < b.data.toList) then a else b
theorem betterB_data (a b : ByteArray) : (betterB a b).data.toList = betterL a.data.toList b.data.toList := by
  unfold betterB betterL
  rw [data_length, data_length]
  split <;> rfl
theorem mk_size (l : List UInt8) : (mk l).size = l.length := by show l.toArray.size = _; simp
theorem betterB_mk (a b : List UInt8) : betterB (mk a) (mk b) = mk (betterL a b) := by
  rw [← mk_data (betterB (mk a) (mk b)), betterB_data, data_mk, data_mk]
theorem less_data (a b : ByteArray) : Op.bytesLess a.toList b.toList = decide (a.data.toList < b.data.toList) := by
  rw [bytesLess_eq, ByteArray.toList_eq, ByteArray.toList_eq]

theorem betterB_one {a b : ByteArray} (h : b.size < a.size) : betterB a b = a := by unfold betterB; rw [if_pos (.inl h)]
theorem betterB_two {a b : ByteArray} (h : a.size < b.size) : betterB a b = b := by unfold betterB; rw [if_neg]; rintro (k | ⟨k, _⟩) <;> omega
theorem betterB_same {a b : ByteArray} (h : a.size = b.size) : betterB a b = if Op.bytesLess a.toList b.toList then a else b := by
  unfold betterB; rw [less_data]
  by_cases k : a.data.toList < b.data.toList
  · rw [if_pos (.inr ⟨h, k⟩), if_pos (by simpa using k)]
  · rw [if_neg (by rintro (j | ⟨_, j⟩); · omega
                   · exact k j), if_neg (by simpa using k)]



set_option maxHeartbeats 1000000 in
theorem better_trim_any (a b : ByteArray) (w : World) (ha : a.size ≤ 1000) (hb : b.size ≤ 1000) :
    Calls Try.prog 82 #[.string a, .string b] w fun e w' => e = .returned (.string (betterB a b)) ∧ w = w' := by
  rcases Nat.lt_trichotomy b.size a.size with h | h | h
  · have H := Lib.hid (betterB_one h)
    have h' : (b.size : Int) < a.size := by omega
    go_enter Try.func82, Try.ntmps82
    go_wp2
    go_ret
    exact ⟨ret_str H.out.symm, rfl⟩
  · have hB := betterB_same h.symm
    have h' : ¬ (b.size : Int) < a.size := by omega
    have h2 : ((a.size : Int) == b.size) = true := by rw [beq_iff_eq]; omega
    have h3 : (a.size == b.size) = true := by rw [beq_iff_eq]; omega
    cases hl : Op.bytesLess a.toList b.toList with
    | true =>
      rw [hl, if_pos rfl] at hB
      have H := Lib.hid hB
      clear hB
      have Hh := Lib.hid h
      clear h
      go_enter Try.func82, Try.ntmps82
      go_wp2
      go_ret
      exact ⟨ret_str H.out.symm, rfl⟩
    | false =>
      rw [hl, if_neg (by simp)] at hB
      have H := Lib.hid hB
      clear hB
      have Hh := Lib.hid h
      clear h
      go_enter Try.func82, Try.ntmps82
      go_wp2
      go_ret
      exact ⟨ret_str H.out.symm, rfl⟩
  · have H := Lib.hid (betterB_two h)
    have h' : ¬ (b.size : Int) < a.size := by omega
    have h2 : ((a.size : Int) == b.size) = false := by rw [beq_eq_false_iff_ne]; omega
    have h3 : (a.size == b.size) = false := by rw [beq_eq_false_iff_ne]; omega
    go_enter Try.func82, Try.ntmps82
    go_wp2
    go_ret
    exact ⟨ret_str H.out.symm, rfl⟩
set_option maxHeartbeats 1000000 in
theorem better_ref_any (a b : ByteArray) (w : World) (ha : a.size ≤ 1000) (hb : b.size ≤ 1000) :
    Calls Try.prog 70 #[.string a, .string b] w fun e w' => e = .returned (.string (betterB a b)) ∧ w = w' := by
  rcases Nat.lt_trichotomy b.size a.size with h | h | h
  · have H := Lib.hid (betterB_one h)
    have h' : (b.size : Int) < a.size := by omega
    go_enter Try.func70, Try.ntmps70
    go_wp2
    go_ret
    exact ⟨ret_str H.out.symm, rfl⟩
  · have hB := betterB_same h.symm
    have h' : ¬ (b.size : Int) < a.size := by omega
    have h2 : ((a.size : Int) == b.size) = true := by rw [beq_iff_eq]; omega
    have h3 : (a.size == b.size) = true := by rw [beq_iff_eq]; omega
    cases hl : Op.bytesLess a.toList b.toList with
    | true =>
      rw [hl, if_pos rfl] at hB
      have H := Lib.hid hB
      clear hB
      have Hh := Lib.hid h
      clear h
      go_enter Try.func70, Try.ntmps70
      go_wp2
      go_ret
      exact ⟨ret_str H.out.symm, rfl⟩
    | false =>
      rw [hl, if_neg (by simp)] at hB
      have H := Lib.hid hB
      clear hB
      have Hh := Lib.hid h
      clear h
      go_enter Try.func70, Try.ntmps70
      go_wp2
      go_ret
      exact ⟨ret_str H.out.symm, rfl⟩
  · have H := Lib.hid (betterB_two h)
    have h' : ¬ (b.size : Int) < a.size := by omega
    have h2 : ((a.size : Int) == b.size) = false := by rw [beq_eq_false_iff_ne]; omega
    have h3 : (a.size == b.size) = false := by rw [beq_eq_false_iff_ne]; omega
    go_enter Try.func70, Try.ntmps70
    go_wp2
    go_ret
    exact ⟨ret_str H.out.symm, rfl⟩
end Go.Proofs.Yteejjcipdpojnaa
