/- The reference's Longest; the numbers of the reference are those of the centers. -/
import Derived.Test.YteejjcipdpojnaaRcen
namespace Go.Proofs.Yteejjcipdpojnaa
set_option linter.unusedVariables false
open Go.RowKit

/-! ### sums -/
theorem sumN_congr {f g : Nat → Nat} : ∀ n, (∀ i, i < n → f i = g i) → sumN f n = sumN g n
  | 0, _ => rfl
  | n + 1, h => by rw [sumN, sumN, sumN_congr n (fun i hi => h i (by omega)), h n (by omega)]
theorem sumN_add (f g : Nat → Nat) : ∀ n, sumN (fun i => f i + g i) n = sumN f n + sumN g n
  | 0 => rfl
  | n + 1 => by simp only [sumN]; rw [sumN_add f g n]; omega
theorem sumN_zero : ∀ n, sumN (fun _ => 0) n = 0
  | 0 => rfl
  | n + 1 => by rw [sumN, sumN_zero n]
theorem sumN_comm (f : Nat → Nat → Nat) (m : Nat) : ∀ n, sumN (fun x => sumN (fun y => f x y) m) n = sumN (fun y => sumN (fun x => f x y) n) m
  | 0 => by simp only [sumN]; exact (sumN_zero m).symm
  | n + 1 => by
    simp only [sumN]
    rw [sumN_comm f m n, ← sumN_add]
theorem sumN_one (k a : Nat) : ∀ n, sumN (fun i => if i = k then a else 0) n = if k < n then a else 0
  | 0 => by simp [sumN]
  | n + 1 => by
    rw [sumN, sumN_one k a n]
    by_cases h1 : n = k
    · rw [if_neg (by omega), if_pos h1, if_pos (by omega)]; omega
    · rw [if_neg h1]
      by_cases h2 : k < n
      · rw [if_pos h2, if_pos (by omega)]; rfl
      · rw [if_neg h2, if_neg (by omega)]
theorem sumN_mid (a b : Nat) : ∀ n, sumN (fun i => if a ≤ i ∧ i < b then 1 else 0) n = min b n - a
  | 0 => by simp [sumN]
  | n + 1 => by
    rw [sumN, sumN_mid a b n]
    by_cases h : a ≤ n ∧ n < b
    · rw [if_pos h]; omega
    · rw [if_neg h]; omega

theorem occTo_sum (l : List UInt8) : ∀ k, occTo l k = sumN (fun c => (centerAt l c + 1) / 2) k
  | 0 => rfl
  | k + 1 => by rw [occTo, sumN, occTo_sum l k]
theorem ind_pal (l : List UInt8) (x y : Nat) (hxy : x < y) (hy : y ≤ l.length) : ind l x y = if y - x ≤ centerAt l (x + y - 1) then 1 else 0 := by
  unfold ind
  have h1 := palAt_iff l x y (by omega) hy
  have h2 := center_iff l x y (x + y - 1) hxy hy (by omega)
  by_cases h : y - x ≤ centerAt l (x + y - 1)
  · rw [if_pos h, if_pos ⟨hxy, h1.2 (h2.2 h)⟩]
  · rw [if_neg h, if_neg (fun k => h (h2.1 (h1.1 k.2)))]
theorem ind_none (l : List UInt8) (x y : Nat) (h : ¬ x < y) : ind l x y = 0 := by unfold ind; rw [if_neg (fun k => h k.1)]

theorem occ_center (l : List UInt8) (c : Nat) (hc : c + 1 < 2 * l.length) : sumN (fun x => if c + 1 - x < l.length + 1 then ind l x (c + 1 - x) else 0) l.length = (centerAt l c + 1) / 2 := by
  obtain ⟨x0, h1, h2, _⟩ := center_at l c hc
  have hcong : sumN (fun x => if c + 1 - x < l.length + 1 then ind l x (c + 1 - x) else 0) l.length = sumN (fun i => if x0 ≤ i ∧ i < c / 2 + 1 then 1 else 0) l.length := by
    refine sumN_congr _ fun x hx => ?_
    by_cases ha : x < c + 1 - x
    · by_cases hb : c + 1 - x < l.length + 1
      · rw [if_pos hb, ind_pal l x (c + 1 - x) ha (by omega), show x + (c + 1 - x) - 1 = c from by omega]
        by_cases hd : c + 1 - x - x ≤ centerAt l c
        · rw [if_pos hd, if_pos (by omega)]
        · rw [if_neg hd, if_neg (by omega)]
      · rw [if_neg hb, if_neg (by omega)]
    · rw [ind_none l x (c + 1 - x) ha]
      rw [if_neg (show ¬ (x0 ≤ x ∧ x < c / 2 + 1) from by omega)]
      split <;> rfl
  rw [hcong, sumN_mid]
  omega
theorem occ_eq (l : List UInt8) : occN l l.length = occL l := by
  unfold occN occL
  rw [occTo_sum]
  have h1 : sumN (fun x => rowN l x (l.length + 1)) l.length = sumN (fun x => sumN (fun y => sumN (fun c => if c = x + y - 1 then ind l x y else 0) (2 * l.length - 1)) (l.length + 1)) l.length := by
    refine sumN_congr _ fun x hx => ?_
    unfold rowN
    refine sumN_congr _ fun y hy => ?_
    rw [sumN_one]
    by_cases h : x < y
    · rw [if_pos (by omega)]
    · rw [ind_none l x y h]; split <;> rfl
  have h2 : sumN (fun x => sumN (fun y => sumN (fun c => if c = x + y - 1 then ind l x y else 0) (2 * l.length - 1)) (l.length + 1)) l.length = sumN (fun x => sumN (fun c => sumN (fun y => if c = x + y - 1 then ind l x y else 0) (l.length + 1)) (2 * l.length - 1)) l.length :=
    sumN_congr _ fun x _ => sumN_comm (fun y c => if c = x + y - 1 then ind l x y else 0) (2 * l.length - 1) (l.length + 1)
  rw [h1, h2, sumN_comm (fun x c => sumN (fun y => if c = x + y - 1 then ind l x y else 0) (l.length + 1)) (2 * l.length - 1) l.length]
  refine sumN_congr _ fun c hc => ?_
  rw [← occ_center l c (by omega)]
  refine sumN_congr _ fun x _ => ?_
  rw [← sumN_one (c + 1 - x) (ind l x (c + 1 - x)) (l.length + 1)]
  refine sumN_congr _ fun y _ => ?_
  by_cases h : y = c + 1 - x
  · subst h
    rw [if_pos rfl]
    by_cases hx : x ≤ c + 1
    · rw [if_pos (by omega)]
    · rw [ind_none l x (c + 1 - x) (by omega)]; split <;> rfl
  · rw [if_neg h]
    by_cases hc2 : c = x + y - 1
    · rw [if_pos hc2, ind_none l x y (by omega)]
    · rw [if_neg hc2]

/-! ### the longest one -/
structure LInv (l : List UInt8) (i j at' most : Nat) : Prop where
  a : ∀ x y, (x < i ∨ (x = i ∧ y < j)) → x < y → y ≤ l.length → pal ((l.take y).drop x) = true → y - x ≤ most
  b : (most = 0 ∧ at' = 0) ∨ (0 < most ∧ at' + most ≤ l.length ∧ at' ≤ i ∧ pal ((l.take (at' + most)).drop at') = true)
  c : ∀ x y, x < at' → x < y → y ≤ l.length → pal ((l.take y).drop x) = true → y - x < most
theorem LInv.start (l : List UInt8) : LInv l 0 1 0 0 :=
  ⟨fun x y h hxy => by omega, .inl ⟨rfl, rfl⟩, fun _ _ h => absurd h (Nat.not_lt_zero _)⟩
theorem LInv.skip {l : List UInt8} {i j at' most : Nat} (h : LInv l i j at' most) (hs : j - i ≤ most ∨ pal ((l.take j).drop i) = false) : LInv l i (j + 1) at' most := by
  refine ⟨fun x y hxy h1 h2 h3 => ?_, h.b, h.c⟩
  by_cases e : x = i ∧ y = j
  · obtain ⟨rfl, rfl⟩ := e
    rcases hs with hs | hs
    · exact hs
    · rw [hs] at h3; cases h3
  · exact h.a x y (by omega) h1 h2 h3
theorem LInv.take {l : List UInt8} {i j at' most : Nat} (h : LInv l i j at' most) (hj : j ≤ l.length) (hm : most < j - i) (hp : pal ((l.take j).drop i) = true) : LInv l i (j + 1) i (j - i) := by
  refine ⟨fun x y hxy h1 h2 h3 => ?_, .inr ⟨by omega, by omega, Nat.le_refl _, by rw [show i + (j - i) = j from by omega]; exact hp⟩, fun x y hx h1 h2 h3 => ?_⟩
  · by_cases e : x = i ∧ y = j
    · obtain ⟨rfl, rfl⟩ := e; exact Nat.le_refl _
    · have := h.a x y (by omega) h1 h2 h3; omega
  · have := h.a x y (by omega) h1 h2 h3; omega
theorem LInv.next {l : List UInt8} {i at' most : Nat} (h : LInv l i (l.length + 1) at' most) : LInv l (i + 1) (i + 2) at' most :=
  ⟨fun x y hxy h1 h2 h3 => h.a x y (by omega) h1 h2 h3, by rcases h.b with h | ⟨h1, h2, h3, h4⟩; exact .inl h; exact .inr ⟨h1, h2, by omega, h4⟩, h.c⟩
theorem longL_first (l : List UInt8) (x y : Nat) (hx : x < (longL l).1) (hxy : x < y) (hy : y ≤ l.length) (hp : PalAt l x y) : y - x < (longL l).2 := by
  rcases longTo_mem l (2 * l.length - 1) with h | ⟨c, hc, h0, h1, h2, h3⟩
  · have : (longL l).1 = 0 := by unfold longL; rw [h]
    omega
  · have hle := longL_max l x y hxy hy hp
    obtain ⟨x0, g1, g2, _⟩ := center_at l c (by omega)
    change _ = (longL l).2 at h1
    have hat : (longL l).1 = (c + 1 - (longL l).2) / 2 := h2
    by_cases e : y - x = (longL l).2
    · have h4 := h3 (x + y - 1) (by omega)
      have h5 := (center_iff l x y (x + y - 1) hxy hy (by omega)).1 hp
      change _ < (longL l).2 at h4
      omega
    · omega
theorem LInv.final {l : List UInt8} {j at' most : Nat} (h : LInv l l.length j at' most) : longL l = (at', most) := by
  obtain ⟨e1, e2, e3⟩ := longL_at l
  have up : ∀ x y, x < y → y ≤ l.length → pal ((l.take y).drop x) = true → y - x ≤ most := fun x y h1 h2 h3 => h.a x y (by omega) h1 h2 h3
  have hmost : (longL l).2 = most := by
    refine Nat.le_antisymm ?_ ?_
    · rcases Nat.eq_zero_or_pos (longL l).2 with h0 | h0
      · omega
      · have := up (longL l).1 ((longL l).1 + (longL l).2) (by omega) e1 ((palAt_iff l _ _ (by omega) e1).2 e2)
        omega
    · rcases h.b with ⟨h0, _⟩ | ⟨h0, h1, _, h3⟩
      · omega
      · have := longL_max l at' (at' + most) (by omega) h1 ((palAt_iff l _ _ (by omega) h1).1 h3)
        omega
  have hat : (longL l).1 = at' := by
    rcases Nat.lt_trichotomy (longL l).1 at' with hl | hl | hl
    · rcases Nat.eq_zero_or_pos most with h0 | h0
      · rcases h.b with ⟨_, h1⟩ | ⟨h1, _⟩ <;> omega
      · have := h.c (longL l).1 ((longL l).1 + (longL l).2) hl (by omega) e1 ((palAt_iff l _ _ (by omega) e1).2 e2)
        omega
    · exact hl
    · rcases h.b with ⟨h0, h1⟩ | ⟨h0, h1, _, h3⟩
      · have h4 : (longL l).2 = 0 := by omega
        have : l = [] := by
          rcases Classical.em (l = []) with h5 | h5
          · exact h5
          · have := e3 h5; omega
        subst this
        simp at e1
        omega
      · have := longL_first l at' (at' + most) hl (by omega) h1 ((palAt_iff l _ _ (by omega) h1).1 h3)
        omega
  rw [← hmost, ← hat]

set_option maxRecDepth 100000 in
set_option maxHeartbeats 4000000 in
theorem refLongest_any (s : ByteArray) (w : World) (hs : s.size ≤ 1000) :
    Calls Try.prog 23 #[.string s] w fun e w' => e = .returned (.tuple #[.int .i64 ((longL s.data.toList).1 : Nat), .int .i64 ((longL s.data.toList).2 : Nat)]) ∧ ∃ n, w' = w.drewN n := by
  have hln : s.data.toList.length = s.size := data_length s
  have Hln := Lib.hid hln
  clear hln
  go_enter Try.func23, Try.ntmps23
  go_wp2
  go_loopw [4, 5, 6] (fun u v i wr => ∃ k p m n : Nat, k ≤ s.size ∧ m ≤ s.size ∧ i = .int .i64 k ∧ u = .int .i64 p ∧ v = .int .i64 m ∧ Hid (LInv s.data.toList k (k + 1) p m) ∧ wr = w.drewN n) (fun _ _ i _ => s.size - (intOf i).toNat)
  case atStart => exact ⟨0, 0, 0, 0, Nat.zero_le _, Nat.zero_le _, rfl, rfl, rfl, LInv.start _, rfl⟩
  case round =>
    obtain ⟨k, p, m, n, hk, hm, rfl, rfl, rfl, HP, rfl⟩ := hrel
    by_cases hlt : k < s.size
    · have hc : (k : Int) < s.size := by omega
      go_wp2
      go_loopw [4, 5, 7] (fun u v i wx => ∃ j p m n : Nat, k + 1 ≤ j ∧ j ≤ s.size + 1 ∧ m ≤ s.size ∧ i = .int .i64 j ∧ u = .int .i64 p ∧ v = .int .i64 m ∧ Hid (LInv s.data.toList k j p m) ∧ wx = w.drewN n) (fun _ _ i _ => s.size + 1 - (intOf i).toNat)
      case atStart => exact ⟨k + 1, p, m, n, Nat.le_refl _, by omega, hm, by go_num, rfl, rfl, HP, rfl⟩
      case round =>
        clear HP hm
        obtain ⟨j, p, m, n, hkj, hj, hm, rfl, rfl, rfl, HP, rfl⟩ := hrel
        by_cases hlt2 : j ≤ s.size
        · have hc2 : (j : Int) ≤ s.size := by omega
          have z1 : (k : Int) ≤ j := by omega
          have hx : (s.extract k j).size ≤ 1000 := by rw [ByteArray.size_extract]; omega
          by_cases hgt : m < j - k
          · have hg : (m : Int) < (j : Int) - k := by omega
            cases hp : pal (s.extract k j).data.toList with
            | true =>
              have hz : LInv s.data.toList k (j + 1) k (j - k) := HP.out.take (by rw [Hln.out]; exact hlt2) hgt (by rw [← part_data]; exact hp)
              have Hz := Lib.hid hz
              have Hp := Lib.hid hp
              clear hz hp
              go_wp2_with (go_at_call 49; refine (refPal_any _ _ (by unfold maxLen; omega)).mono ?_; rintro e w' ⟨rfl, n1, rfl⟩; rw [Hp.out])
              go_roundw
              case rel => exact ⟨j + 1, k, j - k, n + n1, by omega, by omega, by omega, by go_num, rfl, congrArg (Value.int .i64) (by omega), Hz.out, by first | rfl | exact World.drewN_drewN _ _ _⟩
              case measure => simp [intOf]; omega
            | false =>
              have hz : LInv s.data.toList k (j + 1) p m := HP.out.skip (.inr (by rw [← part_data]; exact hp))
              have Hz := Lib.hid hz
              have Hp := Lib.hid hp
              clear hz hp
              go_wp2_with (go_at_call 49; refine (refPal_any _ _ (by unfold maxLen; omega)).mono ?_; rintro e w' ⟨rfl, n1, rfl⟩; rw [Hp.out])
              go_roundw
              case rel => exact ⟨j + 1, p, m, n + n1, by omega, by omega, hm, by go_num, rfl, rfl, Hz.out, by first | rfl | exact World.drewN_drewN _ _ _⟩
              case measure => simp [intOf]; omega
          · have hg : ¬ (m : Int) < (j : Int) - k := by omega
            have hz : LInv s.data.toList k (j + 1) p m := HP.out.skip (.inl (by omega))
            have Hz := Lib.hid hz
            clear hz
            go_wp2
            go_roundw
            case rel => exact ⟨j + 1, p, m, n, by omega, by omega, hm, by go_num, rfl, rfl, Hz.out, rfl⟩
            case measure => simp [intOf]; omega
        · obtain rfl : j = s.size + 1 := by omega
          have hc2 : ¬ ((s.size + 1 : Nat) : Int) ≤ s.size := by omega
          have hz : LInv s.data.toList (k + 1) (k + 2) p m := by
            have := HP.out
            rw [← Hln.out] at this
            exact this.next
          have Hz := Lib.hid hz
          clear hz
          go_wp2
          go_roundw
          case rel => exact ⟨k + 1, p, m, n, by omega, hm, by go_num, rfl, rfl, Hz.out, rfl⟩
          case measure => simp [intOf]; omega
    · obtain rfl : k = s.size := by omega
      have hz : longL s.data.toList = (p, m) := by
        have := HP.out
        rw [← Hln.out] at this
        exact this.final
      have Hz := Lib.hid hz
      clear hz
      go_wp2
      go_ret2
      exact ⟨by rw [Hz.out]; rfl, n, rfl⟩
end Go.Proofs.Yteejjcipdpojnaa
