/- Contracts of the reference's Centers, Occurrences and Longest. -/
import Derived.Test.YteejjcipdpojnaaCen
import Derived.Test.YteejjcipdpojnaaRefa
namespace Go.Proofs.Yteejjcipdpojnaa
set_option linter.unusedVariables false
open Go.RowKit

set_option maxRecDepth 100000 in
set_option maxHeartbeats 4000000 in
theorem refCenters_any (s : ByteArray) (w : World) (hs : s.size ≤ 1000) :
    Calls Try.prog 27 #[.string s] w fun e w' => ∃ v, e = .returned v ∧ w'.ownsRow w.heap.size 3 1 v (2 * s.size - 1) (nats (centers s.data.toList)) ∧ Below w.heap.size w w' := by
  obtain ⟨i0, hi, hz0, hz1, hz2⟩ := info_parts info_int
  go_enter Try.func27, Try.ntmps27
  go_wp2
  go_loopw [3, 4] (fun v i wr => ∃ k : Nat, k ≤ 2 * s.size - 1 ∧ i = .int .i64 k ∧ wr.ownsRow w.heap.size 3 1 v k (nats (centersTo s.data.toList k)) ∧ Below w.heap.size w wr) (fun _ i _ => 2 * s.size - (intOf i).toNat)
  case atStart => exact ⟨0, Nat.zero_le _, rfl, World.ownsRow_nil _ _ _ _, Below.refl _ _⟩
  case round =>
    obtain ⟨k, hk, rfl, hown, hB⟩ := hrel
    by_cases hlt : k < 2 * s.size - 1
    · have hc : (k : Int) < 2 * s.size - 1 := by omega
      go_wp2
      go_loopw [5, 6] (fun vb vj wx => ∃ b j n : Nat, b ≤ j + 1 ∧ j + 1 ≤ s.size ∧ vb = .int .i64 b ∧ vj = .int .i64 j ∧ Hid (centerAt s.data.toList k = growAt s.data.toList b (j + 1)) ∧ wx = wr.drewN n) (fun vb _ _ => (intOf vb).toNat)
      case atStart => exact ⟨(k + 1) / 2, k / 2, 0, by omega, by omega, by go_num, by go_num, rfl, rfl⟩
      case round =>
        obtain ⟨b, j, n, hbe, he, rfl, rfl, HP, rfl⟩ := hrel
        by_cases hb : b = 0
        · subst hb
          go_wp2
          go_quiet (fail)
          have hv : (j : Int) - (0 : Nat) + 1 = ((centerAt s.data.toList k : Nat) : Int) := by rw [HP.out]; unfold growAt; omega
          have Hv := Lib.hid hv
          clear hv
          go_wp2_with (at_builtin; first
            | refine wpList_append_own _ rfl _ _ 27 rfl w.heap.size 3 i0 (.int .i64 0) 1 8 Try.underlying27 hi hz0 hz1 hz2 rfl (by decide) _ _ _ rfl (World.ownsRow.alloc (w := wr.drewN (n + nq)) hown _) ⟨wr.heap.size, 0, none⟩ 1 1 [_] rfl rfl (cell_one_new _ _ _) (by simp [Value.oneCell']) ?c3 ?c4 ?c5 ?_
            | refine wpList_append_own _ rfl _ _ 27 rfl w.heap.size 3 i0 (.int .i64 0) 1 8 Try.underlying27 hi hz0 hz1 hz2 rfl (by decide) _ _ _ rfl (World.ownsRow.alloc (w := (wr.drewN n).drewN nq) hown _) ⟨wr.heap.size, 0, none⟩ 1 1 [_] rfl rfl (cell_one_new _ _ _) (by simp [Value.oneCell']) ?c3 ?c4 ?c5 ?_)
          case c3 => unfold maxLen; omega
          case c4 => omega
          case c5 => have := hB.size; simp; omega
          intro v' w1 hown' hgrow _
          have hb1 := rel_push hB (by have := hB.size; simp; omega) ((below_drewN (Below.refl _ wr) (n + nq)).alloc hB.size _) hown hgrow
          have h1 : w1.ownsRow w.heap.size 3 1 v' (k + 1) (nats (centersTo s.data.toList (k + 1))) := by
            rw [centersTo_succ, nats_snoc, ← Hv.out]; exact hown'
          clear hown' hgrow hown hB
          go_wp2
          go_roundw
          case rel => exact ⟨k + 1, by omega, by go_num, h1, hb1⟩
          case measure => simp [intOf]; omega
        · obtain ⟨m, hm⟩ : ∃ m : Nat, m + 1 = b := ⟨b - 1, by omega⟩
          have hb0 : (0 : Int) < b := by omega
          have hb1 : 0 < b := by omega
          by_cases hlt2 : j + 1 < s.size
          · have h1 : (j : Int) + 1 < s.size := by omega
            have h2 : (m : Int) < s.size := by omega
            have e1 : IntKind.i64.wrap ((b : Int) - 1) = m := by rw [IntWalk.i64_in _ (by omega)]; omega
            obtain ⟨e, he'⟩ : ∃ e : Nat, j + 1 = e := ⟨_, rfl⟩
            have e2 : IntKind.i64.wrap ((j : Int) + 1) = e := by rw [IntWalk.i64_in _ (by omega)]; omega
            have h3 : (e : Int) < s.size := by omega
            have hen : e < s.size := by omega
            have Hm := Lib.hid hm
            have He := Lib.hid he'
            clear hm he' h1
            cases hq : ((s[m].toNat : Int) == (s[e].toNat : Int)) with
            | true =>
              have hy : centerAt s.data.toList k = growAt s.data.toList m (e + 1) := by
                have hq2 := Hm.out
                rw [HP.out, ← hq2, He.out, growAt_yes (by rw [data_length]; exact hen) (by rw [getD_data s m (by omega), getD_data s e hen]; exact beq_iff_eq.1 (nat_beq _ _ ▸ hq))]
              go_wp2
              go_quiet (fail)
              go_wp2
              go_roundw
              case rel => exact ⟨m, e, n + nq, by have := Hm.out; have := He.out; omega, by omega, by first | rfl | exact congrArg (Value.int .i64) e1, by first | rfl | exact congrArg (Value.int .i64) e2, hy, by first | rfl | exact World.drewN_drewN _ _ _⟩
              case measure => have := Hm.out; simp [intOf]; omega
            | false =>
              have hx : ¬ s.data.toList.getD m 0 = s.data.toList.getD e 0 := by
                rw [getD_data s m (by omega), getD_data s e hen]; exact beq_eq_false_iff_ne.1 (nat_beq _ _ ▸ hq)
              have hcv : centerAt s.data.toList k = e - b := by
                rw [HP.out, ← Hm.out, He.out, growAt_no (fun h => hx h.2)]
              go_wp2
              go_quiet (fail)
              have hv : (j : Int) - b + 1 = ((centerAt s.data.toList k : Nat) : Int) := by rw [hcv]; have := He.out; omega
              have Hv := Lib.hid hv
              clear hv
              go_wp2_with (at_builtin; first
                | refine wpList_append_own _ rfl _ _ 27 rfl w.heap.size 3 i0 (.int .i64 0) 1 8 Try.underlying27 hi hz0 hz1 hz2 rfl (by decide) _ _ _ rfl (World.ownsRow.alloc (w := wr.drewN (n + nq)) hown _) ⟨wr.heap.size, 0, none⟩ 1 1 [_] rfl rfl (cell_one_new _ _ _) (by simp [Value.oneCell']) ?c3 ?c4 ?c5 ?_
                | refine wpList_append_own _ rfl _ _ 27 rfl w.heap.size 3 i0 (.int .i64 0) 1 8 Try.underlying27 hi hz0 hz1 hz2 rfl (by decide) _ _ _ rfl (World.ownsRow.alloc (w := (wr.drewN n).drewN nq) hown _) ⟨wr.heap.size, 0, none⟩ 1 1 [_] rfl rfl (cell_one_new _ _ _) (by simp [Value.oneCell']) ?c3 ?c4 ?c5 ?_)
              case c3 => unfold maxLen; omega
              case c4 => omega
              case c5 => have := hB.size; simp; omega
              intro v' w1 hown' hgrow _
              have hb1 := rel_push hB (by have := hB.size; simp; omega) ((below_drewN (Below.refl _ wr) (n + nq)).alloc hB.size _) hown hgrow
              have h1 : w1.ownsRow w.heap.size 3 1 v' (k + 1) (nats (centersTo s.data.toList (k + 1))) := by
                rw [centersTo_succ, nats_snoc, ← Hv.out]; exact hown'
              clear hown' hgrow hown hB
              go_wp2
              go_roundw
              case rel => exact ⟨k + 1, by omega, by go_num, h1, hb1⟩
              case measure => simp [intOf]; omega
          · have h1 : ¬ (j : Int) + 1 < s.size := by omega
            have hd : decide ((j : Int) + 1 < s.size) = false := by simpa using h1
            have hcv : centerAt s.data.toList k = j + 1 - b := by
              rw [HP.out, ← hm, growAt_no (fun h => by rw [data_length] at h; omega)]
            go_wp2
            go_quiet (fail)
            have hv : (j : Int) - b + 1 = ((centerAt s.data.toList k : Nat) : Int) := by rw [hcv]; omega
            have Hv := Lib.hid hv
            clear hv
            go_wp2_with (at_builtin; first
              | refine wpList_append_own _ rfl _ _ 27 rfl w.heap.size 3 i0 (.int .i64 0) 1 8 Try.underlying27 hi hz0 hz1 hz2 rfl (by decide) _ _ _ rfl (World.ownsRow.alloc (w := wr.drewN (n + nq)) hown _) ⟨wr.heap.size, 0, none⟩ 1 1 [_] rfl rfl (cell_one_new _ _ _) (by simp [Value.oneCell']) ?c3 ?c4 ?c5 ?_
              | refine wpList_append_own _ rfl _ _ 27 rfl w.heap.size 3 i0 (.int .i64 0) 1 8 Try.underlying27 hi hz0 hz1 hz2 rfl (by decide) _ _ _ rfl (World.ownsRow.alloc (w := (wr.drewN n).drewN nq) hown _) ⟨wr.heap.size, 0, none⟩ 1 1 [_] rfl rfl (cell_one_new _ _ _) (by simp [Value.oneCell']) ?c3 ?c4 ?c5 ?_)
            case c3 => unfold maxLen; omega
            case c4 => omega
            case c5 => have := hB.size; simp; omega
            intro v' w1 hown' hgrow _
            have hb1 := rel_push hB (by have := hB.size; simp; omega) ((below_drewN (Below.refl _ wr) (n + nq)).alloc hB.size _) hown hgrow
            have h1 : w1.ownsRow w.heap.size 3 1 v' (k + 1) (nats (centersTo s.data.toList (k + 1))) := by
              rw [centersTo_succ, nats_snoc, ← Hv.out]; exact hown'
            clear hown' hgrow hown hB
            go_wp2
            go_roundw
            case rel => exact ⟨k + 1, by omega, by go_num, h1, hb1⟩
            case measure => simp [intOf]; omega
    · have hc : ¬ (k : Int) < 2 * s.size - 1 := by omega
      go_wp2
      go_ret
      exact ⟨_, rfl, by unfold centers; rw [data_length, show 2 * s.size - 1 = k from by omega]; exact hown, hB⟩

/-- a palindrome from x to y, counted -/
def ind (l : List UInt8) (x y : Nat) : Nat := if x < y ∧ pal ((l.take y).drop x) = true then 1 else 0
def sumN (f : Nat → Nat) : Nat → Nat
  | 0 => 0
  | n + 1 => sumN f n + f n
theorem sumN_le (f : Nat → Nat) (m : Nat) (h : ∀ i, f i ≤ m) : ∀ n, sumN f n ≤ n * m
  | 0 => by simp [sumN]
  | n + 1 => by
    have h1 := sumN_le f m h n
    have h2 := h n
    rw [sumN, Nat.add_mul]; omega
theorem ind_le (l : List UInt8) (x y : Nat) : ind l x y ≤ 1 := by unfold ind; split <;> omega
def rowN (l : List UInt8) (x k : Nat) : Nat := sumN (ind l x) k
theorem rowN_le (l : List UInt8) (x k : Nat) : rowN l x k ≤ k := by have := sumN_le (ind l x) 1 (ind_le l x) k; unfold rowN; omega
theorem rowN_start (l : List UInt8) (x : Nat) : ∀ k, k ≤ x + 1 → rowN l x k = 0
  | 0, _ => rfl
  | k + 1, h => by
    have := rowN_start l x k (by omega)
    unfold rowN at this ⊢
    rw [sumN, this]
    unfold ind
    rw [if_neg (by omega)]
def occN (l : List UInt8) (k : Nat) : Nat := sumN (fun x => rowN l x (l.length + 1)) k
theorem occN_le (l : List UInt8) (k : Nat) : occN l k ≤ k * (l.length + 1) := sumN_le _ _ (fun i => rowN_le l i _) k

set_option maxRecDepth 100000 in
set_option maxHeartbeats 4000000 in
theorem refOcc_any (s : ByteArray) (w : World) (hs : s.size ≤ 1000) :
    Calls Try.prog 28 #[.string s] w fun e w' => e = .returned (.int .i64 (occN s.data.toList s.size : Nat)) ∧ ∃ n, w' = w.drewN n := by
  have hb : ∀ k, k ≤ 1000 → occN s.data.toList k ≤ 1001000 := fun k hk => by
    have h1 := occN_le s.data.toList k
    rw [data_length] at h1
    have h2 : k * (s.size + 1) ≤ 1000 * 1001 := Nat.mul_le_mul hk (by omega)
    omega
  have Hb := Lib.hid hb
  clear hb
  go_enter Try.func28, Try.ntmps28
  go_wp2
  go_loopw [3, 4] (fun v i wr => ∃ k c n : Nat, k ≤ s.size ∧ i = .int .i64 k ∧ v = .int .i64 c ∧ Hid (c = occN s.data.toList k) ∧ wr = w.drewN n) (fun _ i _ => s.size - (intOf i).toNat)
  case atStart => exact ⟨0, 0, 0, Nat.zero_le _, rfl, rfl, rfl, rfl⟩
  case round =>
    obtain ⟨k, c, n, hk, rfl, rfl, HP, rfl⟩ := hrel
    have hcb : c ≤ 1001000 := by rw [HP.out]; exact Hb.out k (by omega)
    by_cases hlt : k < s.size
    · have hc : (k : Int) < s.size := by omega
      go_wp2
      go_loopw [3, 5] (fun v i wx => ∃ j d m : Nat, k + 1 ≤ j ∧ j ≤ s.size + 1 ∧ i = .int .i64 j ∧ v = .int .i64 d ∧ Hid (d = c + rowN s.data.toList k j) ∧ wx = w.drewN m) (fun _ i _ => s.size + 1 - (intOf i).toNat)
      case atStart => exact ⟨k + 1, c, n, Nat.le_refl _, by omega, by go_num, rfl, by show c = c + _; rw [rowN_start _ _ _ (Nat.le_refl _)]; rfl, rfl⟩
      case round =>
        obtain ⟨j, d, m, hkj, hj, rfl, rfl, HQ, rfl⟩ := hrel
        have hdb : d ≤ 1003000 := by have := rowN_le s.data.toList k j; rw [HQ.out]; omega
        by_cases hlt2 : j ≤ s.size
        · have hc2 : (j : Int) ≤ s.size := by omega
          have z1 : (k : Int) ≤ j := by omega
          have hx : (s.extract k j).size ≤ 1000 := by rw [ByteArray.size_extract]; omega
          cases hp : pal (s.extract k j).data.toList with
          | true =>
            have hz : d + 1 = c + rowN s.data.toList k (j + 1) := by
              have : rowN s.data.toList k (j + 1) = rowN s.data.toList k j + ind s.data.toList k j := rfl
              rw [this, HQ.out]
              unfold ind
              rw [if_pos ⟨by omega, by rw [← part_data]; exact hp⟩]; omega
            have Hz := Lib.hid hz
            have Hp := Lib.hid hp
            clear hz hp
            go_wp2_with (go_at_call 49; refine (refPal_any _ _ (by unfold maxLen; omega)).mono ?_; rintro e w' ⟨rfl, n1, rfl⟩; rw [Hp.out])
            go_roundw
            case rel => exact ⟨j + 1, d + 1, m + n1, by omega, by omega, by go_num, by go_num, Hz.out, by first | rfl | exact World.drewN_drewN _ _ _⟩
            case measure => simp [intOf]; omega
          | false =>
            have hz : d = c + rowN s.data.toList k (j + 1) := by
              have : rowN s.data.toList k (j + 1) = rowN s.data.toList k j + ind s.data.toList k j := rfl
              rw [this, HQ.out]
              unfold ind
              rw [if_neg (fun h => by have h2 := h.2; rw [← part_data, hp] at h2; cases h2)]; omega
            have Hz := Lib.hid hz
            have Hp := Lib.hid hp
            clear hz hp
            go_wp2_with (go_at_call 49; refine (refPal_any _ _ (by unfold maxLen; omega)).mono ?_; rintro e w' ⟨rfl, n1, rfl⟩; rw [Hp.out])
            go_roundw
            case rel => exact ⟨j + 1, d, m + n1, by omega, by omega, by go_num, rfl, Hz.out, by first | rfl | exact World.drewN_drewN _ _ _⟩
            case measure => simp [intOf]; omega
        · obtain rfl : j = s.size + 1 := by omega
          have hc2 : ¬ ((s.size + 1 : Nat) : Int) ≤ s.size := by omega
          have hz : d = occN s.data.toList (k + 1) := by
            rw [HQ.out, HP.out]
            show _ = occN s.data.toList k + rowN s.data.toList k (s.data.toList.length + 1)
            rw [data_length]
          have Hz := Lib.hid hz
          clear hz
          go_wp2
          go_roundw
          case rel => exact ⟨k + 1, d, m, by omega, by go_num, rfl, Hz.out, rfl⟩
          case measure => simp [intOf]; omega
    · obtain rfl : k = s.size := by omega
      go_wp2
      go_ret
      exact ⟨ret_int (by rw [HP.out]), n, rfl⟩
end Go.Proofs.Yteejjcipdpojnaa
