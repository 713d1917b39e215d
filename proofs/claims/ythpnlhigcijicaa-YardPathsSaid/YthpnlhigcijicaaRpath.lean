/- Path of the reference. -/
import Derived.Test.YthpnlhigcijicaaPath
namespace Go.Proofs.Ythpnlhigcijicaa
set_option linter.unusedVariables false
open Go.RowKit Go.Shelf Go.Maps

def pthB (p q : Nat) : ByteArray × Bool := if (pth (q - p) p).length ≤ 200 then (⟨(pth (q - p) p).toArray⟩, true) else (ByteArray.empty, false)

set_option maxRecDepth 100000 in
set_option maxHeartbeats 4000000 in
theorem refPath_any (p q : Nat) (hp1 : 1 ≤ p) (hpq : p < q) (h2 : q ≤ 1000000) (hgcd : Nat.gcd p q = 1) (w : World) :
    Calls Try.prog 42 #[frV (p, q)] w fun e w' => e = .returned (.tuple #[.string (pthB p q).1, .bool (pthB p q).2]) ∧ Below w.heap.size w w' := by
  obtain ⟨i0, hi, hz0, hz1, hz2⟩ := info_parts info_byte
  have HG := Lib.hid hgcd
  clear hgcd
  unfold frV
  simp only
  have ht0 := Two.new w 26 p q
  have hB0 := below_alloc w (.cells #[.int .i64 p, .int .i64 q] 26)
  go_enter Try.func42, Try.ntmps42
  go_wp2_with fail
  go_loopw [4, 5, 6, 7, 8] (fun xa xb xc xd x wr => ∃ (a b c d u v : Nat) (pre : List UInt8), xa = .int .i64 a ∧ xb = .int .i64 b ∧ xc = .int .i64 c ∧ xd = .int .i64 d ∧ Hid (InGap p q ⟨a, b, c, d⟩ u v) ∧ Hid (pth (q - p) p = pre ++ pth u v) ∧ pre.length ≤ 200 ∧ Two wr w.heap.size 26 p q ∧
    wr.ownsRow (w.heap.size + 1) 5 1 x pre.length (byteL pre) ∧ Below w.heap.size w wr) (fun _ _ _ _ x wr => 201 - (match x with | .slice _ n _ => n | _ => 0))
  case atStart => exact ⟨0, 1, 1, 1, q - p, p, [], rfl, rfl, rfl, rfl, InGap.first hp1 hpq, rfl, by simp, ht0, World.ownsRow_nil _ _ _ _, hB0⟩
  case round =>
    clear ht0 hB0
    obtain ⟨a, b, c, d, u, v, pre, rfl, rfl, rfl, rfl, HI, HP, hpl, ht2, hown, hB⟩ := hrel
    have hsm := HI.out.small
    simp only at hsm
    obtain ⟨m1, hm1⟩ : ∃ m, a + c = m := ⟨_, rfl⟩
    obtain ⟨m2, hm2⟩ : ∃ m, b + d = m := ⟨_, rfl⟩
    have W1 : Hid (wrap64 ((a : Int) + c) = m1) := wadd hm1 (by omega)
    have W2 : Hid (wrap64 ((b : Int) + d) = m2) := wadd hm2 (by omega)
    rw [hm1, hm2] at hsm
    obtain ⟨ad, cap, rfl, _, _⟩ := ownsRow_open hown
    have hne2 : ∀ k, (Value.slice ad pre.length cap).ownBlock = some k → w.heap.size + 1 ≤ k := fun k e => (hown.lt k e).1
    have hne3 : ∀ k, (Value.slice ad pre.length cap).ownBlock = some k → k < wr.heap.size := fun k e => (hown.lt k e).2
    have HNe2 := Lib.hid hne2
    have HNe3 := Lib.hid hne3
    have htm := Two.new wr 26 m1 m2
    have Htm := Lib.hid htm
    have ht3 := ht2.alloc (.cells #[.int .i64 m1, .int .i64 m2] 26)
    have Ht3 := Lib.hid ht3
    have HO := Lib.hid (hown.alloc (.cells #[.int .i64 m1, .int .i64 m2] 26))
    have HB := Lib.hid (b_next hB (below_alloc wr (.cells #[.int .i64 m1, .int .i64 m2] 26)))
    obtain ⟨c0, c1, _, _⟩ := ht3.cells
    obtain ⟨d0, d1, _, _⟩ := htm.cells
    obtain ⟨c2, c3, _, _⟩ := ht2.cells
    have hs0 := ht2.lt
    clear ht2 hown hB hne2 hne3 ht3 htm
    by_cases huv : u = v
    · obtain ⟨g1, g2⟩ := HI.out.one HG.out huv
      simp only at g1 g2
      obtain rfl : m1 = p := by omega
      obtain rfl : m2 = q := by omega
      have hpe : pth (m2 - m1) m1 = pre := by rw [HP.out, huv, pth_eq, List.append_nil]
      have hR : pthB m1 m2 = (⟨pre.toArray⟩, true) := by unfold pthB; rw [hpe, if_pos hpl]
      have HR := Lib.hid hR
      have hkc := conv_row _ _ _ _ HO.out
      have w1 := W1.out
      have w2 := W2.out
      clear g1 g2 hm1 hm2 hpe hR huv
      go_wp2_with fail
      go_ret2
      exact ⟨by rw [HR.out]; rfl, HB.out⟩
    · have hnf : ¬ (m1 = p ∧ m2 = q) := fun e => huv (HI.out.less.2 (by simp only; omega) (by simp only; omega))
      have hsplit : (((m1 : Int) == p) = false ∧ ¬ (m1 : Int) = p) ∨ (((m1 : Int) == p) = true ∧ ((m2 : Int) == q) = false) := by
        by_cases e : m1 = p
        · exact .inr ⟨by rw [beq_iff_eq]; omega, by rw [beq_eq_false_iff_ne]; omega⟩
        · exact .inl ⟨by rw [beq_eq_false_iff_ne]; omega, by omega⟩
      have Huv := Lib.hid huv
      have Hm1 := Lib.hid hm1
      have Hm2 := Lib.hid hm2
      clear huv hm1 hm2 hnf
      rcases hsplit with ⟨k1, k2⟩ | ⟨k1, k2⟩
      all_goals
        by_cases hfull : pre.length = 200
        · have hR : pthB p q = (ByteArray.empty, false) := by
            unfold pthB; rw [if_neg]
            rw [HP.out, List.length_append]
            have := pth_ne HI.out.u1 HI.out.v1 Huv.out
            omega
          have HR := Lib.hid hR
          have hfc : ((pre.length : Int) == 200) = true := by rw [beq_iff_eq]; omega
          clear hR
          have w1 := W1.out
          have w2 := W2.out
          go_wp2_with fail
          go_ret2
          exact ⟨by rw [HR.out]; rfl, HB.out⟩
        · have hfc : ((pre.length : Int) == 200) = false := by rw [beq_eq_false_iff_ne]; omega
          have hl := fun w => refLess_any (p, q) (m1, m2) ⟨by simp only; omega, by simp only; omega⟩ ⟨by simp only; omega, by simp only; omega⟩ w
          rw [show lessF (p, q) (m1, m2) = decide (v < u) from by
            have := HI.out.less.1
            simp only [Hm1.out, Hm2.out] at this
            unfold lessF; simp only; exact decide_eq_decide.2 this] at hl
          unfold frV at hl
          simp only at hl
          have hu1 := HI.out.u1
          have hv1 := HI.out.v1
          have hne := Huv.out
          by_cases hvu : v < u
          · rw [decide_eq_true hvu] at hl
            have hI := HI.out.left hvu
            simp only [Hm1.out, Hm2.out] at hI
            have hP : pth (q - p) p = (pre ++ [76]) ++ pth (u - v) v := by rw [HP.out, pth_lt hv1 hvu, List.append_assoc]; rfl
            have HL := Lib.hid hl
            have HI2 := Lib.hid hI
            have HP2 := Lib.hid hP
            clear hl hI hP hu1 hv1 hne hvu
            have w1 := W1.out
            have w2 := W2.out
            go_wp2_with fail
            clear w1 w2
            refine (HL.out _).mono ?_
            rintro e x3 ⟨rfl, b5⟩
            have HT3 := Lib.hid (Ht3.out.below b5)
            have HM3 := Lib.hid (Htm.out.below b5)
            have HO3 := Lib.hid (own_below HO.out b5)
            have HB3 := Lib.hid (b_next HB.out b5)
            clear b5
            go_wp2_with (at_builtin; refine wpList_append_own_at _ rfl _ _ 87 rfl (w.heap.size + 1) 5 i0 (.int .u8 0) 1 1 Try.underlying87 hi hz0 hz1 hz2 rfl (by decide) _ _ _ rfl (HO3.out.alloc _) ⟨x3.heap.size, 0, none⟩ 1 1 [_] rfl rfl (cell_one_new _ _ _) (by simp [Value.oneCell']) (by unfold maxLen; omega) (by omega) (by have := HT3.out.lt; simp; omega) ?_)
            intro v' w4 hown' hgrow _ hblk
            have ht4 := (HT3.out.alloc _).kept hgrow (fun e => by have := HNe2.out _ e.symm; omega)
            have hm4 := (HM3.out.alloc _).kept hgrow (fun e => by have := HNe3.out _ e.symm; omega)
            have hb4 : Below w.heap.size w w4 := ((HB3.out.alloc HB3.out.size _).grown hgrow (by have := HB3.out.size; simp; omega) (fun k e => by have := HNe2.out k e; omega))
            have hown4 : w4.ownsRow (w.heap.size + 1) 5 1 v' (pre ++ [76]).length (byteL (pre ++ [76])) := by rw [byteL_snoc, List.length_append]; exact hown'
            obtain ⟨l0, l1, _, _⟩ := hm4.cells
            have HT4 := Lib.hid ht4
            have HB4 := Lib.hid hb4
            have HO4 := Lib.hid hown4
            clear hown' hgrow hblk ht4 hm4 hb4 hown4
            go_wp2_with fail
            obtain ⟨ad', cap', rfl, _, _⟩ := ownsRow_open HO4.out
            go_roundw
            case rel => exact ⟨a, b, m1, m2, u - v, v, pre ++ [76], rfl, rfl, rfl, rfl, HI2.out, HP2.out, by rw [List.length_append]; simp; omega, HT4.out, HO4.out, HB4.out⟩
            case measure => simp only [List.length_append, List.length_cons, List.length_nil]; omega
          · rw [decide_eq_false hvu] at hl
            have huv2 : u < v := by omega
            have hI := HI.out.right huv2
            simp only [Hm1.out, Hm2.out] at hI
            have hP : pth (q - p) p = (pre ++ [82]) ++ pth u (v - u) := by rw [HP.out, pth_gt hu1 huv2, List.append_assoc]; rfl
            have HL := Lib.hid hl
            have HI2 := Lib.hid hI
            have HP2 := Lib.hid hP
            clear hl hI hP hu1 hv1 hne hvu huv2
            have w1 := W1.out
            have w2 := W2.out
            go_wp2_with fail
            clear w1 w2
            refine (HL.out _).mono ?_
            rintro e x3 ⟨rfl, b5⟩
            have HT3 := Lib.hid (Ht3.out.below b5)
            have HM3 := Lib.hid (Htm.out.below b5)
            have HO3 := Lib.hid (own_below HO.out b5)
            have HB3 := Lib.hid (b_next HB.out b5)
            clear b5
            go_wp2_with (at_builtin; refine wpList_append_own_at _ rfl _ _ 87 rfl (w.heap.size + 1) 5 i0 (.int .u8 0) 1 1 Try.underlying87 hi hz0 hz1 hz2 rfl (by decide) _ _ _ rfl (HO3.out.alloc _) ⟨x3.heap.size, 0, none⟩ 1 1 [_] rfl rfl (cell_one_new _ _ _) (by simp [Value.oneCell']) (by unfold maxLen; omega) (by omega) (by have := HT3.out.lt; simp; omega) ?_)
            intro v' w4 hown' hgrow _ hblk
            have ht4 := (HT3.out.alloc _).kept hgrow (fun e => by have := HNe2.out _ e.symm; omega)
            have hm4 := (HM3.out.alloc _).kept hgrow (fun e => by have := HNe3.out _ e.symm; omega)
            have hb4 : Below w.heap.size w w4 := ((HB3.out.alloc HB3.out.size _).grown hgrow (by have := HB3.out.size; simp; omega) (fun k e => by have := HNe2.out k e; omega))
            have hown4 : w4.ownsRow (w.heap.size + 1) 5 1 v' (pre ++ [82]).length (byteL (pre ++ [82])) := by rw [byteL_snoc, List.length_append]; exact hown'
            obtain ⟨l0, l1, _, _⟩ := hm4.cells
            have HT4 := Lib.hid ht4
            have HB4 := Lib.hid hb4
            have HO4 := Lib.hid hown4
            clear hown' hgrow hblk ht4 hm4 hb4 hown4
            go_wp2_with fail
            obtain ⟨ad', cap', rfl, _, _⟩ := ownsRow_open HO4.out
            go_roundw
            case rel => exact ⟨m1, m2, c, d, u, v - u, pre ++ [82], rfl, rfl, rfl, rfl, HI2.out, HP2.out, by rw [List.length_append]; simp; omega, HT4.out, HO4.out, HB4.out⟩
            case measure => simp only [List.length_append, List.length_cons, List.length_nil]; omega
end Go.Proofs.Ythpnlhigcijicaa
