/- The statements' text and three; the gap of a central word lies in the row of its Den. -/
import Derived.Test.YtfelmjanffhahaaDoorTrMid
import Derived.Test.YtfelmjanffhahaaDoorSizem
import Derived.Test.YtfelmjanffhahaaDoorBefore
import Derived.Test.YtfelmjanffhahaaDoorRflw
namespace Go.Proofs.YtfelmjanffhahaaDoor.Tr
open Go.RowKit Go.Shelf
set_option linter.unusedVariables false

/-- two letters for any byte -/
def txL (l : List UInt8) (m : Nat) : List UInt8 := (l.take m).map fun c => 97 + c % 2
theorem txL_succ (s : ByteArray) (k : Nat) (h : k < s.size) : txL s.data.toList (k + 1) = txL s.data.toList k ++ [97 + s[k] % 2] := by
  unfold txL; rw [take_snoc s k h]; simp
theorem tx_byte (c : UInt8) : (((97 + c % 2 : UInt8)).toNat : Int) = 97 + (c.toNat : Int) % 2 := by
  have h : c.toNat % 2 < 2 := Nat.mod_lt _ (by decide)
  rw [UInt8.toNat_add, UInt8.toNat_mod]
  show (((97 + c.toNat % 2) % 256 : Nat) : Int) = _
  omega
theorem tx_letters (l : List UInt8) (m : Nat) : ∀ c ∈ txL l m, c = 97 ∨ c = 98 := by
  intro c hc
  obtain ⟨x, _, rfl⟩ := List.mem_map.1 hc
  have h := tx_byte x
  have h1 := Int.emod_nonneg (x.toNat : Int) (b := 2) (by decide)
  have h2 := Int.emod_lt_of_pos (x.toNat : Int) (b := 2) (by decide)
  rcases (show (x.toNat : Int) % 2 = 0 ∨ (x.toNat : Int) % 2 = 1 by omega) with e | e
  · left; rw [← UInt8.toNat_inj]; show _ = 97; omega
  · right; rw [← UInt8.toNat_inj]; show _ = 98; omega

set_option maxRecDepth 100000 in
set_option maxHeartbeats 2000000 in
theorem text_any (s : ByteArray) (w : World) (hs : s.size ≤ maxLen) :
    Calls Tryd.prog 15 #[.string s, .int .u8 97, .int .i64 12, .int .i64 2] w fun e w' => e = .returned (.string (mk (txL s.data.toList 12))) ∧ Below w.heap.size w w' := by
  unfold maxLen at hs
  obtain ⟨i0, hi, hz0, hz1, hz2⟩ := info_parts info_byte
  go_enter Tryd.func15, Tryd.ntmps15
  go_wp2
  go_loopw [9, 10] (fun v i wr => ∃ k : Nat, k ≤ s.size ∧ k ≤ 12 ∧ i = .int .i64 k ∧ wr.ownsRow w.heap.size 5 1 v k (byteL (txL s.data.toList k)) ∧ Below w.heap.size w wr) (fun _ i _ => 12 - (intOf i).toNat)
  case atStart => exact ⟨0, Nat.zero_le _, Nat.zero_le _, rfl, by simp [txL, byteL]; exact World.ownsRow_nil _ _ _ _, Below.refl _ _⟩
  case round =>
    obtain ⟨k, hk, hkm, rfl, hown, hB⟩ := hrel
    by_cases hlt : k < s.size
    · have hc : (k : Int) < s.size := by omega
      by_cases hlm : k < 12
      · have hc2 : (k : Int) < 12 := by omega
        have hb1 := s[k].toNat_lt
        have hsucc := txL_succ s k hlt
        have htb := tx_byte s[k]
        have Hsucc := Lib.hid hsucc
        have Htb := Lib.hid htb
        clear hsucc htb
        have hb2 : ((s[k].toNat : Nat) : Int) % 2 < 2 := Int.emod_lt_of_pos _ (by decide)
        have hb3 : (0 : Int) ≤ ((s[k].toNat : Nat) : Int) % 2 := Int.emod_nonneg _ (by decide)
        have j0 : IntKind.i64.wrap ((s[k].toNat : Nat) : Int) = (s[k].toNat : Nat) := IntWalk.i64_in _ (by omega)
        have j1 : Int.tmod ((s[k].toNat : Nat) : Int) 2 = ((s[k].toNat : Nat) : Int) % 2 := Int.tmod_eq_emod_of_nonneg (by omega)
        clear hb1
        go_wp2_with (at_builtin; refine wpList_append_own _ rfl _ _ 59 rfl w.heap.size 5 i0 (.int .u8 0) 1 1 Tryd.underlying59 hi hz0 hz1 hz2 rfl (by decide) _ _ _ rfl (hown.alloc _) ⟨wr.heap.size, 0, none⟩ 1 1 [_] rfl rfl (cell_one_new _ _ _) (by simp [Value.oneCell']) ?c3 ?c4 ?c5 ?_)
        case c3 => unfold maxLen; omega
        case c4 => omega
        case c5 => have := hB.size; simp; omega
        intro v' w1 hown' hgrow _
        have hb1 := rel_push hB (by have := hB.size; simp; omega) ((Below.refl _ wr).alloc hB.size _) hown hgrow
        have h1 : w1.ownsRow w.heap.size 5 1 v' (k + 1) (byteL (txL s.data.toList (k + 1))) := by
          rw [Hsucc.out, byteL_snoc, Htb.out]
          exact hown'
        clear hown' hgrow hown hB
        go_wp2
        go_roundw
        case rel => exact ⟨k + 1, by omega, by omega, by go_num, h1, hb1⟩
        case measure => simp [intOf]; omega
      · have hc2 : ¬ (k : Int) < 12 := by omega
        obtain rfl : k = 12 := by omega
        have hl : (txL s.data.toList 12).length = 12 := by unfold txL; rw [List.length_map, List.length_take, data_length]; omega
        rw [show wr.ownsRow w.heap.size 5 1 _ 12 (byteL (txL s.data.toList 12)) = wr.ownsRow w.heap.size 5 1 _ (txL s.data.toList 12).length (byteL (txL s.data.toList 12)) from by rw [hl]] at hown
        have hkc := conv_row wr w.heap.size _ _ hown
        rw [← mk] at hkc
        clear hown hl
        go_wp2
        go_ret
        exact ⟨rfl, hB⟩
    · have hc : ¬ (k : Int) < s.size := by omega
      have hl : (txL s.data.toList k).length = k := by unfold txL; rw [List.length_map, List.length_take, data_length]; omega
      have hv : txL s.data.toList 12 = txL s.data.toList k := by unfold txL; rw [List.take_of_length_le (by rw [data_length]; omega), List.take_of_length_le (by rw [data_length]; omega)]
      have Hv := Lib.hid hv
      rw [show wr.ownsRow w.heap.size 5 1 _ k (byteL (txL s.data.toList k)) = wr.ownsRow w.heap.size 5 1 _ (txL s.data.toList k).length (byteL (txL s.data.toList k)) from by rw [hl]] at hown
      have hkc := conv_row wr w.heap.size _ _ hown
      rw [← mk] at hkc
      clear hown hl hv
      go_wp2
      go_ret
      exact ⟨ret_str (by rw [Hv.out]), hB⟩

theorem three_tower : towerR ⟨#[97, 98]⟩ = (⟨#[97, 98, 97]⟩, 0) := by
  have h : towerL [97, 98] = some [97, 98, 97] := by decide +kernel
  unfold towerR
  rw [show (⟨#[97, 98]⟩ : ByteArray).data.toList = [97, 98] from rfl, h]
  rfl
theorem three_follow : flwR [76, 82] = ((2, 5), 0) := by decide +kernel

set_option maxRecDepth 100000 in
set_option maxHeartbeats 2000000 in
theorem three_any (w : World) : Calls Tryd.prog 17 #[] w fun e w' => e = .returned (.bool true) ∧ Below w.heap.size w w' := by
  have h1 := fun w => Tower_any ⟨#[97, 98]⟩ w (by decide)
  rw [three_tower] at h1
  have h2 := fun w => Follow_any ⟨#[76, 82]⟩ w (by decide)
  rw [show (⟨#[76, 82]⟩ : ByteArray).data.toList = [76, 82] from rfl] at h2
  unfold flwV at h2
  rw [three_follow] at h2
  simp only at h1 h2
  have H1 := Lib.hid h1
  have H2 := Lib.hid h2
  clear h1 h2
  go_enter Tryd.func17, Tryd.ntmps17
  go_wp2_with fail
  refine (H1.out _).mono ?_
  rintro e w1 ⟨rfl, b1⟩
  have HB1 := Lib.hid b1
  clear b1
  go_wp2_with fail
  refine (H2.out _).mono ?_
  rintro e w2 ⟨rfl, b2⟩
  have HB2 := Lib.hid (b_next (b_next HB1.out b2) (below_alloc w2 (.cells #[.int .i64 2, .int .i64 5] 23)))
  have T2 := Two.new w2 23 2 5
  clear b2
  obtain ⟨c0, c1, _, _⟩ := T2.cells
  go_wp2_with fail
  go_ret
  exact ⟨rfl, HB2.out⟩

theorem near1 {N a b e f p : Nat} (e2 : p * b = a * N + 1) (k2 : p * f = e * N + 1) (k1 : a * f < e * b) (k3 : f ≤ N) (b1 : 1 ≤ b) : False := by
  have m1 : N * (a * f + 1) ≤ N * (e * b) := Nat.mul_le_mul_left _ k1
  have m2 : p * b * f = N * (a * f) + f := by rw [e2, Nat.add_mul, Nat.one_mul, Nat.mul_comm a N, Nat.mul_assoc]
  have m3 : p * b * f = N * (e * b) + b := by rw [Nat.mul_right_comm, k2, Nat.add_mul, Nat.one_mul, Nat.mul_comm e N, Nat.mul_assoc]
  rw [Nat.mul_add, Nat.mul_one] at m1
  omega
/-- The gap's ends are next to the fraction in the row of its Den. -/
theorem mid_row {t : List UInt8} {g : G} (h : Mid t g) : ∃ K, fr (g.b + g.d) K = (g.a + g.c, g.b + g.d) ∧ 1 ≤ K ∧ K + 1 < len (g.b + g.d) ∧ fr (g.b + g.d) (K - 1) = (g.a, g.b) ∧ fr (g.b + g.d) (K + 1) = (g.c, g.d) ∧ Nat.gcd (g.a + g.c) (g.b + g.d) = 1 := by
  obtain ⟨a, b, c, d⟩ := g
  obtain ⟨_, _, b1, d1, _, _, _, _, _, det, l1, l2⟩ := h
  simp only at *
  obtain ⟨N, hN⟩ : ∃ N, b + d = N := ⟨_, rfl⟩
  obtain ⟨p, hp⟩ : ∃ p, a + c = p := ⟨_, rfl⟩
  have e1 : c * N = p * d + 1 := by rw [← hN, ← hp, Nat.mul_add, Nat.add_mul, det]; omega
  have e2 : p * b = a * N + 1 := by rw [← hN, ← hp, Nat.mul_add, Nat.add_mul, det]; omega
  rw [hN, hp]
  have gcd_of : ∀ x y u v : Nat, x * u = y * v + 1 → Nat.gcd x y = 1 := by
    intro x y u v h
    have h1 : Nat.gcd x y ∣ x * u := Nat.dvd_trans (Nat.gcd_dvd_left x y) (Nat.dvd_mul_right _ _)
    have h2 : Nat.gcd x y ∣ y * v := Nat.dvd_trans (Nat.gcd_dvd_right x y) (Nat.dvd_mul_right _ _)
    rw [h] at h1
    exact Nat.dvd_one.1 ((Nat.dvd_add_right h2).1 h1)
  have g1 : Nat.gcd p N = 1 := gcd_of p N b a (by rw [e2, Nat.mul_comm])
  have g2 : Nat.gcd a b = 1 := by rw [Nat.gcd_comm]; exact gcd_of b a c d (by rw [Nat.mul_comm, det])
  have g3 : Nat.gcd c d = 1 := gcd_of c d b a (by rw [det, Nat.mul_comm])
  have hN1 : 1 ≤ N := by omega
  obtain ⟨K, hK, fK⟩ := low_fr (N := N) hN1 (x := (p, N)) ⟨hN1, Nat.le_refl _, by simp only; omega, g1⟩
  obtain ⟨I, hI, fI⟩ := low_fr (N := N) hN1 (x := (a, b)) ⟨b1, by simp only; omega, l1, g2⟩
  obtain ⟨J, hJ, fJ⟩ := low_fr (N := N) hN1 (x := (c, d)) ⟨d1, by simp only; omega, l2, g3⟩
  have lt : ∀ i j, fr N i = fr N j ∨ i < j ∨ j < i := fun i j => by
    rcases Nat.lt_trichotomy i j with h | h | h
    · exact .inr (.inl h)
    · exact .inl (by rw [h])
    · exact .inr (.inr h)
  have hIK : I < K := by
    rcases Nat.lt_trichotomy I K with h | h | h
    · exact h
    · exfalso
      rw [h, fK] at fI
      have : N = b := (Prod.mk.inj fI).2
      omega
    · exfalso
      have := fr_lt (n := N) hN1 I h
      rw [fK, fI] at this
      simp only at this
      have : p * b < a * N := this
      omega
  have hKJ : K < J := by
    rcases Nat.lt_trichotomy K J with h | h | h
    · exact h
    · exfalso
      rw [← h, fK] at fJ
      have : N = d := (Prod.mk.inj fJ).2
      omega
    · exfalso
      have := fr_lt (n := N) hN1 K h
      rw [fK, fJ] at this
      simp only at this
      have : c * N < p * d := this
      omega
  have hI1 : I = K - 1 := by
    rcases Nat.lt_or_ge I (K - 1) with h | h
    · exfalso
      have k1 := fr_lt (n := N) hN1 (K - 1) h
      have k2 := fr_det hN1 (K - 1)
      rw [show K - 1 + 1 = K from by omega, fK] at k2
      rw [fI] at k1
      have k3 := (fr_pos hN1 (K - 1)).2
      generalize fr N (K - 1) = z at k1 k2 k3
      obtain ⟨e, f⟩ := z
      simp only at k1 k2 k3
      exact near1 e2 k2 k1 k3 b1
    · omega
  have hJ1 : J = K + 1 := by
    rcases Nat.lt_or_ge (K + 1) J with h | h
    · exfalso
      have k1 := fr_lt (n := N) hN1 J h
      have k2 := fr_det hN1 K
      rw [fK] at k2
      rw [fJ] at k1
      have k3 := (fr_pos hN1 (K + 1)).2
      generalize fr N (K + 1) = z at k1 k2 k3
      obtain ⟨e, f⟩ := z
      simp only at k1 k2 k3
      have m1 : N * (e * d + 1) ≤ N * (c * f) := Nat.mul_le_mul_left _ k1
      have m2 : c * N * f = p * (d * f) + f := by rw [e1, Nat.add_mul, Nat.one_mul, Nat.mul_assoc]
      have m3 : e * N * d = p * (d * f) + d := by rw [k2, Nat.add_mul, Nat.one_mul, Nat.mul_assoc, Nat.mul_comm f d]
      have m4 : c * N * f = N * (c * f) := by rw [Nat.mul_comm c N, Nat.mul_assoc]
      have m5 : e * N * d = N * (e * d) := by rw [Nat.mul_comm e N, Nat.mul_assoc]
      rw [Nat.mul_add, Nat.mul_one] at m1
      omega
    · omega
  exact ⟨K, fK, by omega, by omega, by rw [← hI1]; exact fI, by rw [← hJ1]; exact fJ, g1⟩
end Go.Proofs.YtfelmjanffhahaaDoor.Tr
