/- Contracts of trim.Occurrences, trim.Longest and of the statements' tame. -/
import Derived.Test.YteejjcipdpojnaaLawkit
namespace Go.Proofs.Yteejjcipdpojnaa
set_option linter.unusedVariables false
open Go.RowKit

theorem growAt_sum (l : List UInt8) : ∀ (b e : Nat), growAt l b e ≤ b + e
  | 0, e => by unfold growAt; omega
  | b + 1, e => by
    unfold growAt
    split
    · have := growAt_sum l b (e + 1); omega
    · omega
theorem centerAt_le (l : List UInt8) (c : Nat) : centerAt l c ≤ c + 1 := by
  have := growAt_sum l ((c + 1) / 2) (c / 2 + 1)
  unfold centerAt; omega
theorem centerAt_len (l : List UInt8) (c : Nat) (h : c + 1 < 2 * l.length) : centerAt l c ≤ l.length := growAt_le l _ _ (by omega)

def occTo (l : List UInt8) : Nat → Nat
  | 0 => 0
  | k + 1 => occTo l k + (centerAt l k + 1) / 2
def occL (l : List UInt8) : Nat := occTo l (2 * l.length - 1)
def longTo (l : List UInt8) : Nat → Nat × Nat
  | 0 => (0, 0)
  | k + 1 => if (longTo l k).2 < centerAt l k then ((k + 1 - centerAt l k) / 2, centerAt l k) else longTo l k
def longL (l : List UInt8) : Nat × Nat := longTo l (2 * l.length - 1)
def occR (s : ByteArray) : Int × Int := if wordB s.data.toList then (occL s.data.toList, 0) else (0, 2)
def longR (s : ByteArray) : Int × Int × Int := if wordB s.data.toList then ((longL s.data.toList).1, (longL s.data.toList).2, 0) else (0, 0, 2)

theorem occTo_le (l : List UInt8) : ∀ k, occTo l k ≤ k * (k + 1)
  | 0 => by simp [occTo]
  | k + 1 => by
    have h1 := occTo_le l k
    have h2 := centerAt_le l k
    have h3 : (k + 1) * (k + 1 + 1) = k * (k + 1) + 2 * (k + 1) := by rw [Nat.add_mul, Nat.mul_comm k, Nat.mul_comm k]; rw [Nat.add_mul]; omega
    unfold occTo; omega

theorem centers_get (l : List UInt8) (k : Nat) (hk : k < 2 * l.length - 1) : (centers l)[k]? = some (centerAt l k) := by simp [centers, centersTo, hk]

set_option maxHeartbeats 1000000 in
theorem Occurrences_any (s : ByteArray) (w : World) (hs : s.size ≤ 1000) :
    Calls Try.prog 19 #[.string s] w fun e w' => e = .returned (.tuple #[.int .i64 (occR s).1, .int .i64 (occR s).2]) ∧ Below w.heap.size w w' := by
  cases hw : wordB s.data.toList with
  | false =>
    have hr : occR s = (0, 2) := by unfold occR; rw [hw]; rfl
    have Hr := Lib.hid hr
    have Hw := Lib.hid hw
    clear hr hw
    go_enter Try.func19, Try.ntmps19
    go_wp2_with (go_at_call 54; refine (isWord_any _ _ (by unfold maxLen; omega)).mono ?_; rintro e w' ⟨rfl, rfl⟩; rw [Hw.out])
    go_ret2
    exact ⟨by rw [Hr.out]; rfl, Below.refl _ _⟩
  | true =>
    have hr : occR s = (((occL s.data.toList : Nat) : Int), 0) := by unfold occR; rw [hw]; rfl
    have Hr := Lib.hid hr
    have Hw := Lib.hid hw
    clear hw hr
    go_enter Try.func19, Try.ntmps19
    go_wp2_with (first
      | (go_at_call 54; refine (isWord_any _ _ (by unfold maxLen; omega)).mono ?_; rintro e w' ⟨rfl, rfl⟩; rw [Hw.out])
      | (go_at_call 59; refine (centerLengths_any _ _ hs).mono ?_; rintro e w1 ⟨v, rfl, hown, hB1⟩; obtain ⟨a, cap, rfl, hrow⟩ := Row.of_own hown))
    clear hown
    obtain ⟨n, hn⟩ : ∃ n, 2 * s.size - 1 = n := ⟨_, rfl⟩
    rw [hn] at hrow ⊢
    have Hn := Lib.hid hn
    have hnb : n ≤ 1999 := by omega
    clear hn
    go_loop [4, 13] (fun t i => ∃ k : Nat, k ≤ n ∧ i = .int .i64 k ∧ t = .int .i64 (occTo s.data.toList k)) (fun _ i => n - (intOf i).toNat)
    case atStart => exact ⟨0, Nat.zero_le _, rfl, rfl⟩
    case round =>
      obtain ⟨k, hk, rfl, rfl⟩ := hrel
      have hoc := occTo_le s.data.toList k
      have hoc2 : k * (k + 1) ≤ 1999 * 2000 := Nat.mul_le_mul (by omega) (by omega)
      by_cases hlt : k < n
      · have hc : (k : Int) < n := by omega
        obtain ⟨g, rfl, hcell⟩ := row_int hrow hlt (centers_get _ k (by rw [data_length]; have := Hn.out; omega))
        have hce := centerAt_le s.data.toList k
        have hstep : ((occTo s.data.toList (k + 1) : Nat) : Int) = (occTo s.data.toList k : Int) + ((centerAt s.data.toList k : Int) + 1) / 2 := by
          rw [occTo]; omega
        have Hstep := Lib.hid hstep
        clear hstep
        go_wp2
        go_round
        case rel => exact ⟨k + 1, by omega, by go_num, congrArg (Value.int .i64) Hstep.out.symm⟩
        case measure => simp [intOf]; omega
      · obtain rfl : k = n := by omega
        go_wp2
        go_ret2
        exact ⟨by rw [Hr.out]; unfold occL; rw [data_length, Hn.out]; rfl, hB1⟩

set_option maxHeartbeats 1000000 in
theorem Longest_any (s : ByteArray) (w : World) (hs : s.size ≤ 1000) :
    Calls Try.prog 20 #[.string s] w fun e w' => e = .returned (.tuple #[.int .i64 (longR s).1, .int .i64 (longR s).2.1, .int .i64 (longR s).2.2]) ∧ Below w.heap.size w w' := by
  cases hw : wordB s.data.toList with
  | false =>
    have hr : longR s = (0, 0, 2) := by unfold longR; rw [hw]; rfl
    have Hr := Lib.hid hr
    have Hw := Lib.hid hw
    clear hr hw
    go_enter Try.func20, Try.ntmps20
    go_wp2_with (go_at_call 54; refine (isWord_any _ _ (by unfold maxLen; omega)).mono ?_; rintro e w' ⟨rfl, rfl⟩; rw [Hw.out])
    go_ret3
    exact ⟨by rw [Hr.out]; rfl, Below.refl _ _⟩
  | true =>
    have hr : longR s = ((((longL s.data.toList).1 : Nat) : Int), (((longL s.data.toList).2 : Nat) : Int), 0) := by unfold longR; rw [hw]; rfl
    have Hr := Lib.hid hr
    have Hw := Lib.hid hw
    clear hw hr
    go_enter Try.func20, Try.ntmps20
    go_wp2_with (first
      | (go_at_call 54; refine (isWord_any _ _ (by unfold maxLen; omega)).mono ?_; rintro e w' ⟨rfl, rfl⟩; rw [Hw.out])
      | (go_at_call 59; refine (centerLengths_any _ _ hs).mono ?_; rintro e w1 ⟨v, rfl, hown, hB1⟩; obtain ⟨a, cap, rfl, hrow⟩ := Row.of_own hown))
    clear hown
    obtain ⟨n, hn⟩ : ∃ n, 2 * s.size - 1 = n := ⟨_, rfl⟩
    rw [hn] at hrow ⊢
    have Hn := Lib.hid hn
    have hnb : n ≤ 1999 := by omega
    clear hn
    go_loop [5, 6, 15] (fun p m i => ∃ k x y : Nat, k ≤ n ∧ i = .int .i64 k ∧ p = .int .i64 x ∧ m = .int .i64 y ∧ Hid (longTo s.data.toList k = (x, y))) (fun _ _ i => n - (intOf i).toNat)
    case atStart => exact ⟨0, 0, 0, Nat.zero_le _, rfl, rfl, rfl, rfl⟩
    case round =>
      obtain ⟨k, x, y, hk, rfl, rfl, rfl, HP⟩ := hrel
      by_cases hlt : k < n
      · have hc : (k : Int) < n := by omega
        obtain ⟨g, rfl, hcell⟩ := row_int hrow hlt (centers_get _ k (by rw [data_length]; have := Hn.out; omega))
        have hce := centerAt_le s.data.toList k
        obtain ⟨c, hcc⟩ : ∃ c, centerAt s.data.toList k = c := ⟨_, rfl⟩
        rw [hcc] at hcell hce
        have Hcc := Lib.hid hcc
        clear hcc
        by_cases hgt : y < c
        · have h1 : (y : Int) < c := by omega
          have h2 : (0 : Int) ≤ (k : Int) + 1 - c := by omega
          have hz : longTo s.data.toList (k + 1) = ((k + 1 - c) / 2, c) := by rw [longTo, HP.out, Hcc.out, if_pos hgt]
          have Hz := Lib.hid hz
          clear hz
          go_wp2
          go_round
          case rel => exact ⟨k + 1, (k + 1 - c) / 2, c, by omega, by go_num, congrArg (Value.int .i64) (by omega), rfl, Hz.out⟩
          case measure => simp [intOf]; omega
        · have h1 : ¬ (y : Int) < c := by omega
          have hz : longTo s.data.toList (k + 1) = (x, y) := by rw [longTo, HP.out, Hcc.out, if_neg hgt]
          have Hz := Lib.hid hz
          clear hz
          go_wp2
          go_round
          case rel => exact ⟨k + 1, x, y, by omega, by go_num, rfl, rfl, Hz.out⟩
          case measure => simp [intOf]; omega
      · obtain rfl : k = n := by omega
        go_wp2
        go_ret3
        exact ⟨by rw [Hr.out]; unfold longL; rw [data_length, Hn.out, HP.out]; rfl, hB1⟩

def tameL (l : List UInt8) (m : Nat) : List UInt8 := (l.take m).map fun c => 97 + c % 4
theorem tameL_succ (s : ByteArray) (k : Nat) (h : k < s.size) : tameL s.data.toList (k + 1) = tameL s.data.toList k ++ [97 + s[k] % 4] := by
  unfold tameL; rw [take_snoc s k h]; simp
theorem tame_byte (c : UInt8) : (((97 + c % 4 : UInt8)).toNat : Int) = 97 + (c.toNat : Int) % 4 := by
  have h : c.toNat % 4 < 4 := Nat.mod_lt _ (by decide)
  rw [UInt8.toNat_add, UInt8.toNat_mod]
  show (((97 + c.toNat % 4) % 256 : Nat) : Int) = _
  omega

set_option maxHeartbeats 1000000 in
theorem tame_any (s : ByteArray) (m : Nat) (w : World) (hs : s.size ≤ maxLen) (hm : m ≤ 1000) :
    Calls Try.prog 51 #[.string s, .int .i64 m] w fun e w' => e = .returned (.string (mk (tameL s.data.toList m))) ∧ Below w.heap.size w w' := by
  unfold maxLen at hs
  obtain ⟨i0, hi, hz0, hz1, hz2⟩ := info_parts info_byte
  go_enter Try.func51, Try.ntmps51
  go_wp2
  go_loopw [5, 6] (fun v i wr => ∃ k : Nat, k ≤ s.size ∧ k ≤ m ∧ i = .int .i64 k ∧ wr.ownsRow w.heap.size 5 1 v k (byteL (tameL s.data.toList k)) ∧ Below w.heap.size w wr) (fun _ i _ => m - (intOf i).toNat)
  case atStart => exact ⟨0, Nat.zero_le _, Nat.zero_le _, rfl, by simp [tameL, byteL]; exact World.ownsRow_nil _ _ _ _, Below.refl _ _⟩
  case round =>
    obtain ⟨k, hk, hkm, rfl, hown, hB⟩ := hrel
    by_cases hlt : k < s.size
    · have hc : (k : Int) < s.size := by omega
      by_cases hlm : k < m
      · have hc2 : (k : Int) < m := by omega
        have hb1 := s[k].toNat_lt
        have hsucc := tameL_succ s k hlt
        have htb := tame_byte s[k]
        have Hsucc := Lib.hid hsucc
        have Htb := Lib.hid htb
        clear hsucc htb hb1
        have hb2 : ((s[k].toNat : Nat) : Int) % 4 < 4 := Int.emod_lt_of_pos _ (by decide)
        have hb3 : (0 : Int) ≤ ((s[k].toNat : Nat) : Int) % 4 := Int.emod_nonneg _ (by decide)
        go_wp2_with (at_builtin; refine wpList_append_own _ rfl _ _ 71 rfl w.heap.size 5 i0 (.int .u8 0) 1 1 Try.underlying71 hi hz0 hz1 hz2 rfl (by decide) _ _ _ rfl (hown.alloc _) ⟨wr.heap.size, 0, none⟩ 1 1 [_] rfl rfl (cell_one_new _ _ _) (by simp [Value.oneCell']) ?c3 ?c4 ?c5 ?_)
        case c3 => unfold maxLen; omega
        case c4 => omega
        case c5 => have := hB.size; simp; omega
        intro v' w1 hown' hgrow _
        have hb1 := rel_push hB (by have := hB.size; simp; omega) ((Below.refl _ wr).alloc hB.size _) hown hgrow
        have h1 : w1.ownsRow w.heap.size 5 1 v' (k + 1) (byteL (tameL s.data.toList (k + 1))) := by
          rw [Hsucc.out, byteL_snoc, Htb.out]; exact hown'
        clear hown' hgrow hown hB
        go_wp2
        go_roundw
        case rel => exact ⟨k + 1, by omega, by omega, by go_num, h1, hb1⟩
        case measure => simp [intOf]; omega
      · have hc2 : ¬ (k : Int) < m := by omega
        have hl : (tameL s.data.toList k).length = k := by unfold tameL; rw [List.length_map, List.length_take, data_length]; omega
        have hv : tameL s.data.toList m = tameL s.data.toList k := by rw [show m = k from by omega]
        have Hv := Lib.hid hv
        rw [show wr.ownsRow w.heap.size 5 1 _ k (byteL (tameL s.data.toList k)) = wr.ownsRow w.heap.size 5 1 _ (tameL s.data.toList k).length (byteL (tameL s.data.toList k)) from by rw [hl]] at hown
        have hkc := conv_row wr w.heap.size _ _ hown
        rw [← mk] at hkc
        clear hown hl hv
        go_wp2
        go_ret
        exact ⟨ret_str (by rw [Hv.out]), hB⟩
    · have hc : ¬ (k : Int) < s.size := by omega
      have hl : (tameL s.data.toList k).length = k := by unfold tameL; rw [List.length_map, List.length_take, data_length]; omega
      have hv : tameL s.data.toList m = tameL s.data.toList k := by unfold tameL; rw [List.take_of_length_le (by rw [data_length]; omega), List.take_of_length_le (by rw [data_length]; omega)]
      have Hv := Lib.hid hv
      rw [show wr.ownsRow w.heap.size 5 1 _ k (byteL (tameL s.data.toList k)) = wr.ownsRow w.heap.size 5 1 _ (tameL s.data.toList k).length (byteL (tameL s.data.toList k)) from by rw [hl]] at hown
      have hkc := conv_row wr w.heap.size _ _ hown
      rw [← mk] at hkc
      clear hown hl hv
      go_wp2
      go_ret
      exact ⟨ret_str (by rw [Hv.out]), hB⟩
end Go.Proofs.Yteejjcipdpojnaa
