/- Contracts of the reference: Word, Palindrome, Reversed, Closure; and of the statements' short. -/
import Derived.Test.YteejjcipdpojnaaRev
namespace Go.Proofs.Yteejjcipdpojnaa
set_option linter.unusedVariables false
open Go.RowKit Go.Sort

set_option maxHeartbeats 1000000 in
theorem refWord_any (s : ByteArray) (w : World) (hs : s.size ≤ 1000) :
    Calls Try.prog 21 #[.string s] w fun e w' => e = .returned (.bool (wordB s.data.toList)) ∧ w = w' := by
  go_enter Try.func21, Try.ntmps21
  go_wp2
  go_loop [3] (fun i => ∃ k : Nat, k ≤ s.size ∧ i = .int .i64 k ∧ Hid ((s.data.toList.take k).all letterB = true)) (fun i => s.size - (intOf i).toNat)
  case atStart => exact ⟨0, Nat.zero_le _, rfl, rfl⟩
  case round =>
    obtain ⟨k, hk, rfl, HP⟩ := hrel
    by_cases hlt : k < s.size
    · have hc : (k : Int) < s.size := by omega
      go_wp2
      all_goals first
        | (have hn := letter_no (c := s[k]) (by omega); go_ret; exact ⟨ret_bool (by unfold wordB; rw [all_part s k hlt hn, Bool.and_false]), rfl⟩)
        | (have hy := all_step s k hlt (letter_yes (c := s[k]) (by omega) (by omega)) HP.out
           go_round
           case rel => exact ⟨k + 1, by omega, by go_num, hy⟩
           case measure => simp [intOf]; omega)
    · obtain rfl : k = s.size := by omega
      by_cases h : s.size ≤ 100
      · have h1 : (s.size : Int) ≤ 100 := by omega
        go_wp2
        go_ret
        exact ⟨ret_bool (by unfold wordB; rw [data_length, decide_eq_true h, ← take_all s, HP.out]; rfl), rfl⟩
      · have h1 : ¬ (s.size : Int) ≤ 100 := by omega
        go_wp2
        go_ret
        exact ⟨ret_bool (by unfold wordB; rw [data_length, decide_eq_false h, Bool.false_and]), rfl⟩

set_option maxHeartbeats 1000000 in
theorem refPal_any (s : ByteArray) (w : World) (hs : s.size ≤ maxLen) :
    Calls Try.prog 49 #[.string s] w fun e w' => e = .returned (.bool (pal s.data.toList)) ∧ ∃ n, w' = w.drewN n := by
  unfold maxLen at hs
  go_enter Try.func49, Try.ntmps49
  go_wp2
  go_loopw [3] (fun i wr => ∃ k n : Nat, k ≤ s.size / 2 ∧ i = .int .i64 k ∧ Hid (palTo s.data.toList k = true) ∧ wr = w.drewN n)
    (fun i _ => s.size - (intOf i).toNat)
  case atStart => exact ⟨0, 0, Nat.zero_le _, rfl, rfl, rfl⟩
  case round =>
    obtain ⟨k, n, hk, rfl, HP, rfl⟩ := hrel
    by_cases hlt : k < s.size / 2
    · have hc : (k : Int) < s.size / 2 := by omega
      obtain ⟨m, hm⟩ : ∃ m : Nat, m + 1 + k = s.size := ⟨s.size - 1 - k, by omega⟩
      have h1 : (m : Int) < s.size := by omega
      have h2 : (k : Int) < s.size := by omega
      have e1 : IntKind.i64.wrap ((s.size : Int) - 1) = (s.size : Int) - 1 := IntWalk.i64_in _ (by omega)
      have e2 : IntKind.i64.wrap ((s.size : Int) - 1 - k) = m := by rw [IntWalk.i64_in _ (by omega)]; omega
      have Hm := Lib.hid hm
      clear hm
      go_wp2
      go_quiet (fail)
      clear e1 e2
      go_wp2
      · go_ret
        exact ⟨ret_bool (pal_part s k m (by omega) (by omega) Hm.out hlt ‹_›).symm, n + nq, World.drewN_drewN _ _ _⟩
      · have hz := pal_same s k m (by omega) (by omega) Hm.out HP.out ‹_›
        go_roundw
        case rel => exact ⟨k + 1, n + nq, by omega, by go_num, hz, rfl⟩
        case measure => simp [intOf]; omega
    · obtain rfl : k = s.size / 2 := by omega
      go_wp2
      go_ret
      exact ⟨ret_bool (by rw [← palTo_half, data_length]; exact HP.out.symm), n, rfl⟩

theorem info_byte : (Try.prog.info? 5).map (fun i => (i.zero, i.size, i.bytes)) = some (some (.int .u8 0), 1, 1) := by kernel_rfl

def byteL (l : List UInt8) : List Value := l.map encB
theorem byteL_snoc (l : List UInt8) (c : UInt8) : byteL (l ++ [c]) = byteL l ++ [.int .u8 (c.toNat : Int)] := by simp [byteL, encB]

theorem rev_take (s : ByteArray) (k m : Nat) (h : m + 1 + k = s.size) (hm : m < s.size) : s.data.toList.reverse.take (k + 1) = s.data.toList.reverse.take k ++ [s[m]] := by
  rw [List.take_succ_eq_append_getElem (by rw [List.length_reverse, data_length]; omega), List.getElem_reverse]
  congr 2
  have : s.data.toList.length - 1 - k = m := by rw [data_length]; omega
  simp only [this]; rfl

theorem row_cells {w : World} {base g cap : Nat} {e : TypeId} {l : List UInt8} (h : w.ownsRow base e 1 (.slice (some ⟨g, 0, none⟩) l.length cap) l.length (byteL l)) :
    ∀ j (hj : j < l.length), w.cell? ((⟨g, 0, none⟩ : Addr).add j) = some (.int .u8 (l[j].toNat : Int)) := fun j hj => h.cells rfl j _ (by simp [byteL, encB, hj])

theorem conv_row (w : World) (base : Nat) (v : Value) (l : List UInt8) (h : w.ownsRow base 5 1 v l.length (byteL l)) :
    (convert 71 9 v).run Try.prog w = .ok (.string ⟨l.toArray⟩) w := by
  rcases h.2 with ⟨rfl, h0⟩ | ⟨g, cap, cur, rfl, _⟩
  · have : l = [] := List.eq_nil_of_length_eq_zero h0
    subst this
    rw [run_convert_bytes_string (P := Try.prog) w _ _ 5 none 0 0 Try.underlying71 Try.underlying5 Try.underlying9]
    rfl
  · exact run_convert_bytes_back w _ _ 5 _ cap l Try.underlying71 Try.underlying5 Try.underlying9 (row_cells h)

set_option maxHeartbeats 1000000 in
theorem refRev_any (s : ByteArray) (w : World) (hs : s.size ≤ 1000) :
    Calls Try.prog 53 #[.string s] w fun e w' => e = .returned (.string (revB s)) ∧ Below w.heap.size w w' := by
  obtain ⟨i0, hi, hz0, hz1, hz2⟩ := info_parts info_byte
  go_enter Try.func53, Try.ntmps53
  go_wp2
  go_loopw [3, 4] (fun v i wr => ∃ k : Nat, k ≤ s.size ∧ i = .int .i64 ((s.size : Int) - 1 - k) ∧ wr.ownsRow w.heap.size 5 1 v k (byteL (s.data.toList.reverse.take k)) ∧ Below w.heap.size w wr) (fun _ i _ => (intOf i + 1).toNat)
  case atStart => exact ⟨0, Nat.zero_le _, by simp, World.ownsRow_nil _ _ _ _, Below.refl _ _⟩
  case round =>
    obtain ⟨k, hk, rfl, hown, hB⟩ := hrel
    by_cases hlt : k < s.size
    · obtain ⟨m, hm⟩ : ∃ m : Nat, m + 1 + k = s.size := ⟨s.size - 1 - k, by omega⟩
      have h1 : (m : Int) < s.size := by omega
      have hmn : m < s.size := by omega
      have em : (s.size : Int) - 1 - k = m := by omega
      have ht := rev_take s k m hm hmn
      have Hm := Lib.hid hm
      have Ht := Lib.hid ht
      clear hm ht
      go_wp2_with (at_builtin; refine wpList_append_own _ rfl _ _ 71 rfl w.heap.size 5 i0 (.int .u8 0) 1 1 Try.underlying71 hi hz0 hz1 hz2 rfl (by decide) _ _ _ rfl (hown.alloc _) ⟨wr.heap.size, 0, none⟩ 1 1 [_] rfl rfl (cell_one_new _ _ _) (by simp [Value.oneCell']) ?c3 ?c4 ?c5 ?_)
      case c3 => unfold maxLen; omega
      case c4 => omega
      case c5 => have := hB.size; simp; omega
      intro v' w1 hown' hgrow _
      have hb1 := rel_push hB (by have := hB.size; simp; omega) ((Below.refl _ wr).alloc hB.size _) hown hgrow
      have h1 : w1.ownsRow w.heap.size 5 1 v' (k + 1) (byteL (s.data.toList.reverse.take (k + 1))) := by
        rw [Ht.out, byteL_snoc]; exact hown'
      clear hown' hgrow hown hB
      go_wp2
      go_roundw
      case rel => exact ⟨k + 1, by omega, congrArg (Value.int .i64) (by have := Hm.out; omega), h1, hb1⟩
      case measure => simp [intOf]; omega
    · have hks : k = s.size := by omega
      rw [List.take_of_length_le (by rw [List.length_reverse, data_length]; omega)] at hown
      have hl : s.data.toList.reverse.length = k := by rw [List.length_reverse, data_length, hks]
      rw [← hl] at hown
      have hkc := conv_row wr w.heap.size _ _ hown
      have hv : revB s = ⟨s.data.toList.reverse.toArray⟩ := rfl
      rw [← hv] at hkc
      clear hv
      have h0 : (s.size : Int) - 1 - k = -1 := by omega
      clear hown hl hks
      go_wp2
      go_ret
      exact ⟨rfl, hB⟩

set_option maxHeartbeats 1000000 in
theorem refClosure_any (s : ByteArray) (w : World) (hs : s.size ≤ 1000) :
    Calls Try.prog 43 #[.string s] w fun e w' => e = .returned (.string (closB s)) ∧ Below w.heap.size w w' := by
  go_enter Try.func43, Try.ntmps43
  go_wp2
  go_loopw [3] (fun i wr => ∃ k n : Nat, k ≤ s.size ∧ i = .int .i64 k ∧ Hid (longEnd s.data.toList = longEnd (s.data.toList.drop k)) ∧ wr = w.drewN n) (fun i _ => s.size - (intOf i).toNat)
  case atStart => exact ⟨0, 0, Nat.zero_le _, rfl, rfl, rfl⟩
  case round =>
    obtain ⟨k, n, hk, rfl, HP, rfl⟩ := hrel
    have hx := extract_size s 0 k
    have hx2 := extract_size s k s.size
    have hc : (k : Int) ≤ s.size := by omega
    have hr := revB_size (s.extract 0 k)
    have hsum : s.size + (revB (s.extract 0 k)).size ≤ 9223372036854775807 := by omega
    clear hr
    cases hp : pal (s.extract k s.size).data.toList with
    | true =>
      have hle : s.size - longEnd s.data.toList = k := by
        by_cases hlt : k < s.size
        · rw [HP.out, longEnd_drop _ k (by rw [data_length]; exact hlt), ← drop_data, hp, data_length, if_pos rfl]; omega
        · rw [HP.out, List.drop_of_length_le (by rw [data_length]; omega)]; simp [longEnd]; omega
      have hcl : closB s = s ++ revB (s.extract 0 k) := by unfold closB; rw [hle]
      have Hcl := Lib.hid hcl
      have Hp := Lib.hid hp
      clear hp hcl hle
      go_wp2_with (first
        | (go_at_call 49; refine (refPal_any _ _ (by unfold maxLen; omega)).mono ?_; rintro e w' ⟨rfl, n2, rfl⟩; rw [Hp.out])
        | (go_at_call 53; refine (refRev_any _ _ (by omega)).mono ?_; rintro e w1 ⟨rfl, hb⟩))
      go_ret
      exact ⟨ret_str Hcl.out.symm, (below_drewN (Below.refl _ w) _).trans hb⟩
    | false =>
      have hlt : k < s.size := by
        rcases Nat.lt_or_ge k s.size with h | h
        · exact h
        · rw [drop_data, List.drop_of_length_le (by rw [data_length]; omega)] at hp; cases hp
      have hz : longEnd s.data.toList = longEnd (s.data.toList.drop (k + 1)) := by
        rw [HP.out, longEnd_drop _ k (by rw [data_length]; exact hlt), ← drop_data, hp]; rfl
      have Hp := Lib.hid hp
      have Hz := Lib.hid hz
      clear hp hz
      go_wp2_with (go_at_call 49; refine (refPal_any _ _ (by unfold maxLen; omega)).mono ?_; rintro e w' ⟨rfl, n2, rfl⟩; rw [Hp.out])
      go_roundw
      case rel => exact ⟨k + 1, n + n2, by omega, by go_num, Hz.out, rfl⟩
      case measure => simp [intOf]; omega

theorem short_any (s : ByteArray) (w : World) (hs : s.size ≤ maxLen) :
    Calls Try.prog 16 #[.string s] w fun e w' => e = .returned (.string (s.extract 0 (min s.size 101))) ∧ w = w' := by
  unfold maxLen at hs
  have e1 : (min (s.size : Int) 101).toNat = min s.size 101 := by omega
  go_enter Try.func16, Try.ntmps16
  go_wp2
  go_ret
  exact ⟨rfl, rfl⟩
end Go.Proofs.Yteejjcipdpojnaa
