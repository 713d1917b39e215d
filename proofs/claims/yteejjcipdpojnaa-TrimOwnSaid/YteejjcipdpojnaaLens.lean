/- Contracts of trim.lengthAt, trim.centerLengths and trim.endLengths. -/
import Derived.Test.YteejjcipdpojnaaWord
import Derived.Maps.AppendAt
namespace Go.Proofs.Yteejjcipdpojnaa
set_option linter.unusedVariables false
open Go.RowKit

/-- the length of the longest palindrome that grows out of the letters from b to e - 1 -/
def growAt (l : List UInt8) : Nat → Nat → Nat
  | 0, e => e
  | b + 1, e => if e < l.length ∧ l.getD b 0 = l.getD e 0 then growAt l b (e + 1) else e - (b + 1)

def centerAt (l : List UInt8) (c : Nat) : Nat := growAt l ((c + 1) / 2) (c / 2 + 1)

theorem growAt_yes {l : List UInt8} {b e : Nat} (h1 : e < l.length) (h2 : l.getD b 0 = l.getD e 0) : growAt l (b + 1) e = growAt l b (e + 1) := by
  rw [growAt, if_pos ⟨h1, h2⟩]
theorem growAt_no {l : List UInt8} {b e : Nat} (h2 : ¬ (e < l.length ∧ l.getD b 0 = l.getD e 0)) : growAt l (b + 1) e = e - (b + 1) := by
  rw [growAt, if_neg h2]

theorem growAt_le (l : List UInt8) : ∀ (b e : Nat), e ≤ l.length → growAt l b e ≤ l.length
  | 0, e, h => h
  | b + 1, e, h => by
    unfold growAt; split
    · exact growAt_le l b (e + 1) (by omega)
    · omega

theorem nat_beq (a b : UInt8) : ((a.toNat : Int) == (b.toNat : Int)) = (a == b) := by
  have h : ((a.toNat : Int) = b.toNat) ↔ a = b := by rw [Int.ofNat_inj, UInt8.toNat_inj]
  rw [Bool.eq_iff_iff, beq_iff_eq, beq_iff_eq]; exact h

set_option maxHeartbeats 1000000 in
theorem lengthAt_any (s : ByteArray) (c : Nat) (w : World) (hs : s.size ≤ 1000) (hc : c + 1 < 2 * s.size) :
    Calls Try.prog 78 #[.string s, .int .i64 c] w fun e w' => e = .returned (.int .i64 (centerAt s.data.toList c)) ∧ ∃ n, w' = w.drewN n := by
  go_enter Try.func78, Try.ntmps78
  go_wp2
  go_loopw [5, 6] (fun vb ve wr => ∃ b e n : Nat, b ≤ e ∧ e ≤ s.size ∧ vb = .int .i64 b ∧ ve = .int .i64 e ∧ Hid (centerAt s.data.toList c = growAt s.data.toList b e) ∧ wr = w.drewN n) (fun vb _ _ => (intOf vb).toNat)
  case atStart => exact ⟨(c + 1) / 2, c / 2 + 1, 0, by omega, by omega, by go_num, by go_num, rfl, rfl⟩
  case round =>
    obtain ⟨b, e, n, hbe, he, rfl, rfl, HP, rfl⟩ := hrel
    by_cases hb : b = 0
    · subst hb
      go_wp2
      go_quiet (fail)
      go_wp2
      go_ret
      exact ⟨ret_int (by rw [HP.out]; rfl), _, rfl⟩
    · obtain ⟨m, hm⟩ : ∃ m : Nat, m + 1 = b := ⟨b - 1, by omega⟩
      have hb0 : (0 : Int) < b := by omega
      have hb1 : 0 < b := by omega
      by_cases hlt : e < s.size
      · have h1 : (e : Int) < s.size := by omega
        have h2 : (m : Int) < s.size := by omega
        have e1 : IntKind.i64.wrap ((b : Int) - 1) = m := by rw [IntWalk.i64_in _ (by omega)]; omega
        have Hm := Lib.hid hm
        clear hm
        go_wp2
        go_quiet (fail)
        go_wp2
        · have hx : s.data.toList.getD m 0 = s.data.toList.getD e 0 := by
            rw [getD_data s m (by omega), getD_data s e hlt]; exact beq_iff_eq.1 (nat_beq _ _ ▸ ‹_›)
          have hy : centerAt s.data.toList c = growAt s.data.toList m (e + 1) := by
            have hq := Hm.out
            rw [HP.out, ← hq, growAt_yes (by rw [data_length]; exact hlt) hx]
          go_roundw
          case rel => exact ⟨m, e + 1, n + nq, by have := Hm.out; omega, by omega, rfl, by go_num, hy, rfl⟩
          case measure => have := Hm.out; simp [intOf]; omega
        · have hx : ¬ s.data.toList.getD m 0 = s.data.toList.getD e 0 := by
            rw [getD_data s m (by omega), getD_data s e hlt]; exact beq_eq_false_iff_ne.1 (nat_beq _ _ ▸ ‹_›)
          go_ret
          exact ⟨ret_int (by rw [HP.out, ← Hm.out, growAt_no (fun h => hx h.2)]; have := Hm.out; omega), _, rfl⟩
      · have h1 : ¬ (e : Int) < s.size := by omega
        have hd : decide ((e : Int) < s.size) = false := by simpa using h1
        go_wp2
        go_quiet (fail)
        go_wp2
        go_ret
        exact ⟨ret_int (by rw [HP.out, ← hm, growAt_no (fun h => by rw [data_length] at h; omega)]; omega), _, rfl⟩

def nats (l : List Nat) : List Value := l.map fun n : Nat => Value.int .i64 n
theorem nats_length (l : List Nat) : (nats l).length = l.length := List.length_map _
theorem nats_snoc (l : List Nat) (n : Nat) : nats (l ++ [n]) = nats l ++ [.int .i64 n] := by simp [nats]

def endsTo (l : List UInt8) (k : Nat) : List Nat := (List.range k).map fun j => longEnd (l.take (j + 1))
def ends (l : List UInt8) : List Nat := endsTo l l.length
theorem endsTo_succ (l : List UInt8) (k : Nat) : endsTo l (k + 1) = endsTo l k ++ [longEnd (l.take (k + 1))] := by simp [endsTo, List.range_succ]
theorem endsTo_length (l : List UInt8) (k : Nat) : (endsTo l k).length = k := by simp [endsTo]
def centersTo (l : List UInt8) (k : Nat) : List Nat := (List.range k).map fun c => centerAt l c
def centers (l : List UInt8) : List Nat := centersTo l (2 * l.length - 1)
theorem centersTo_succ (l : List UInt8) (k : Nat) : centersTo l (k + 1) = centersTo l k ++ [centerAt l k] := by simp [centersTo, List.range_succ]
theorem centersTo_length (l : List UInt8) (k : Nat) : (centersTo l k).length = k := by simp [centersTo]

theorem info_int : (Try.prog.info? 3).map (fun i => (i.zero, i.size, i.bytes)) = some (some (.int .i64 0), 1, 8) := by kernel_rfl

theorem take_data (s : ByteArray) (k : Nat) : (s.extract 0 k).data.toList = s.data.toList.take k := by
  rw [Lib.extract_data]; simp

theorem rel_push {w wr wx w1 : World} {base : Nat} {e : TypeId} {v : Value} {k : Nat} {xs : List Value} (hB : Below base w wr) (hb : base ≤ wx.heap.size) (hx : Below base wr wx) (hown : wr.ownsRow base e 1 v k xs)
    (hg : wx.grownBy w1 v.ownBlock) : Below base w w1 :=
  (hB.trans hx).grown hg hb (fun j hj => (hown.lt j hj).1)

set_option maxHeartbeats 1000000 in
theorem endLengths_any (s : ByteArray) (w : World) (hs : s.size ≤ 1000) :
    Calls Try.prog 55 #[.string s] w fun e w' => ∃ v, e = .returned v ∧ w'.ownsRow w.heap.size 3 1 v s.size (nats (ends s.data.toList)) ∧ Below w.heap.size w w' := by
  obtain ⟨i0, hi, hz0, hz1, hz2⟩ := info_parts info_int
  go_enter Try.func55, Try.ntmps55
  go_wp2
  go_loopw [3, 7] (fun v i wr => ∃ k : Nat, k ≤ s.size ∧ i = .int .i64 k ∧ wr.ownsRow w.heap.size 3 1 v k (nats (endsTo s.data.toList k)) ∧ Below w.heap.size w wr) (fun _ i _ => s.size - (intOf i).toNat)
  case atStart => exact ⟨0, Nat.zero_le _, rfl, World.ownsRow_nil _ _ _ _, Below.refl _ _⟩
  case round =>
    obtain ⟨k, hk, rfl, hown, hB⟩ := hrel
    by_cases hlt : k < s.size
    · have hc : (k : Int) < s.size := by omega
      go_wp2_with (first
        | (go_at_call 71; refine (longestEnd_any _ _ (by simp [ByteArray.size_extract, maxLen]; omega)).mono ?_; rintro e w' ⟨rfl, n2, rfl⟩)
        | (at_builtin; refine wpList_append_own _ rfl _ _ 27 rfl w.heap.size 3 i0 (.int .i64 0) 1 8 Try.underlying27 hi hz0 hz1 hz2 rfl (by decide) _ _ _ rfl (World.ownsRow.alloc (w := wr.drewN n2) hown _) ⟨wr.heap.size, 0, none⟩ 1 1 [_] rfl rfl (cell_one_new _ _ _) (by simp [Value.oneCell']) ?c3 ?c4 ?c5 ?_))
      case c3 => unfold maxLen; omega
      case c4 => omega
      case c5 => have := hB.size; simp; omega
      intro v' w1 hown' hgrow _
      have hb1 := rel_push hB (by have := hB.size; simp; omega) ((below_drewN (Below.refl _ wr) n2).alloc hB.size _) hown hgrow
      have h1 : w1.ownsRow w.heap.size 3 1 v' (k + 1) (nats (endsTo s.data.toList (k + 1))) := by
        rw [endsTo_succ, nats_snoc]; exact hown'
      clear hown' hgrow hown hB
      go_wp2
      go_roundw
      case rel => exact ⟨k + 1, by omega, by go_num, h1, hb1⟩
      case measure => simp [intOf]; omega
    · obtain rfl : k = s.size := by omega
      go_wp2
      go_ret
      exact ⟨_, rfl, by unfold ends; rw [data_length]; exact hown, hB⟩

set_option maxHeartbeats 1000000 in
theorem centerLengths_any (s : ByteArray) (w : World) (hs : s.size ≤ 1000) :
    Calls Try.prog 59 #[.string s] w fun e w' => ∃ v, e = .returned v ∧ w'.ownsRow w.heap.size 3 1 v (2 * s.size - 1) (nats (centers s.data.toList)) ∧ Below w.heap.size w w' := by
  obtain ⟨i0, hi, hz0, hz1, hz2⟩ := info_parts info_int
  go_enter Try.func59, Try.ntmps59
  go_wp2
  go_loopw [3, 9] (fun v i wr => ∃ k : Nat, k ≤ 2 * s.size - 1 ∧ i = .int .i64 k ∧ wr.ownsRow w.heap.size 3 1 v k (nats (centersTo s.data.toList k)) ∧ Below w.heap.size w wr) (fun _ i _ => 2 * s.size - (intOf i).toNat)
  case atStart => exact ⟨0, Nat.zero_le _, rfl, World.ownsRow_nil _ _ _ _, Below.refl _ _⟩
  case round =>
    obtain ⟨k, hk, rfl, hown, hB⟩ := hrel
    by_cases hlt : k < 2 * s.size - 1
    · have hc : (k : Int) < 2 * s.size - 1 := by omega
      go_wp2_with (first
        | (go_at_call 78; refine (lengthAt_any _ _ _ hs (by omega)).mono ?_; rintro e w' ⟨rfl, n2, rfl⟩)
        | (at_builtin; refine wpList_append_own _ rfl _ _ 27 rfl w.heap.size 3 i0 (.int .i64 0) 1 8 Try.underlying27 hi hz0 hz1 hz2 rfl (by decide) _ _ _ rfl (World.ownsRow.alloc (w := wr.drewN n2) hown _) ⟨wr.heap.size, 0, none⟩ 1 1 [_] rfl rfl (cell_one_new _ _ _) (by simp [Value.oneCell']) ?c3 ?c4 ?c5 ?_))
      case c3 => unfold maxLen; omega
      case c4 => omega
      case c5 => have := hB.size; simp; omega
      intro v' w1 hown' hgrow _
      have hb1 := rel_push hB (by have := hB.size; simp; omega) ((below_drewN (Below.refl _ wr) n2).alloc hB.size _) hown hgrow
      have h1 : w1.ownsRow w.heap.size 3 1 v' (k + 1) (nats (centersTo s.data.toList (k + 1))) := by
        rw [centersTo_succ, nats_snoc]; exact hown'
      clear hown' hgrow hown hB
      go_wp2
      go_roundw
      case rel => exact ⟨k + 1, by omega, by go_num, h1, hb1⟩
      case measure => simp [intOf]; omega
    · have hc : ¬ (k : Int) < 2 * s.size - 1 := by omega
      go_wp2
      go_ret
      exact ⟨_, rfl, by unfold centers; rw [data_length, show 2 * s.size - 1 = k from by omega]; exact hown, hB⟩
end Go.Proofs.Yteejjcipdpojnaa
