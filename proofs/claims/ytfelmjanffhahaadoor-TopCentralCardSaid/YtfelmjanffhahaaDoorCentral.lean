/- TopCentral: the tower of a word of a and b has as many letters as the Den, minus 2, of the fraction with its path, as many b as the Num, minus 1, and the Dens of the fractions beside it as periods. Conditions: the row's own (the listed tables of Go's library read as the program's text lays them; the card ties them). -/
import Derived.Test.YtfelmjanffhahaaDoorTrTop
import Derived.Test.YtfelmjanffhahaaDoorFlw
import Derived.Test.YtfelmjanffhahaaDoorRows
import Derived.Test.YtfelmjanffhahaaDoorCards
import Derived.Test.YtfelmjanffhahaaDoorTie
import Derived.ProofKit
import Derived.OpenShut
import Derived.ShutString
import Derived.ChangeOld
import Derived.LaidMore
import Derived.Lay
import Derived.SevenTiedAt
import Derived.Stop.Joined
import Derived.Lib.SmallJoins
namespace Go.Proofs.YtfelmjanffhahaaDoor
set_option linter.unusedVariables false
open Go.RowKit Go.Shelf

theorem gow_ok : ∀ (l : List UInt8) (g : G), g.a < g.b → g.c ≤ g.d → 1 ≤ g.c → (Tr.gow g l).a < (Tr.gow g l).b ∧ (Tr.gow g l).c ≤ (Tr.gow g l).d ∧ 1 ≤ (Tr.gow g l).c
  | [], g, h1, h2, h3 => ⟨h1, h2, h3⟩
  | x :: l, g, h1, h2, h3 => by
    rw [Tr.gow_cons]
    refine gow_ok l _ ?_ ?_ ?_
    all_goals (unfold goG; split <;> simp only <;> omega)
theorem mapsnoc {l : List UInt8} {k : Nat} {c : UInt8} (hc : l[k]? = some c) : (l.take (k + 1)).map Tr.lrC = (l.take k).map Tr.lrC ++ [Tr.lrC c] := by
  obtain ⟨hk, rfl⟩ := List.getElem?_eq_some_iff.1 hc
  rw [List.take_succ_eq_append_getElem hk, List.map_append]; rfl
theorem cb_snoc {l : List UInt8} {k : Nat} {c : UInt8} (hc : l[k]? = some c) : Tr.cb (l.take (k + 1)) = Tr.cb (l.take k) + if c = 98 then 1 else 0 := by
  obtain ⟨hk, rfl⟩ := List.getElem?_eq_some_iff.1 hc
  rw [List.take_succ_eq_append_getElem hk, Tr.cb_app]
  congr 1
  unfold Tr.cb
  rw [List.countP_singleton]
  by_cases h : l[k] = 98 <;> simp [h]
theorem cb_le (l : List UInt8) : Tr.cb l ≤ l.length := List.countP_le_length
theorem u8_is {c : UInt8} {n : Nat} (hn : n < 256) : (c = UInt8.ofNat n → ((c.toNat : Int) == (n : Int)) = true) ∧ (¬ c = UInt8.ofNat n → ((c.toNat : Int) == (n : Int)) = false) := by
  have h1 : (UInt8.ofNat n).toNat = n := by rw [UInt8.toNat_ofNat']; exact Nat.mod_eq_of_lt hn
  refine ⟨fun h => by rw [h, h1, beq_iff_eq], fun h => ?_⟩
  rw [beq_eq_false_iff_ne]
  intro e
  exact h (UInt8.toNat_inj.1 (by rw [h1]; omega))
theorem u8_eq_ne {x y : UInt8} (h : x = y) : ((x.toNat : Int) != (y.toNat : Int)) = false := by subst h; simp

set_option maxRecDepth 100000 in
set_option maxHeartbeats 40000000 in
theorem walk_TopCentral (a0 : ByteArray) (ha : a0.size ≤ maxLen) (w : World) :
    Calls Tryd.prog 5 #[.string a0] w fun e w' => e = .returned (.bool true) ∧ Below w.heap.size w w' := by
  have hTx := fun w => Tr.text_any a0 w ha
  have hlet := Tr.tx_letters a0.data.toList 12
  have hlen : (Tr.txL a0.data.toList 12).length ≤ 12 := by unfold Tr.txL; rw [List.length_map, List.length_take]; omega
  generalize Tr.txL a0.data.toList 12 = l at hTx hlet hlen
  obtain ⟨x, hx⟩ : ∃ x, Tr.mk l = x := ⟨_, rfl⟩
  have hxl : x.data.toList = l := by rw [← hx]; exact Tr.data_mk l
  have hxs : x.size = l.length := by rw [← sdata_length, hxl]
  rw [hx] at hTx
  obtain ⟨ok1, ok2, ok3⟩ := gow_ok l g01 (by decide) (by decide) (by decide)
  have hflw : flw g01 (l.map Tr.lrC) = some (Tr.gow g01 l) := Tr.flw_gow l g01 (by
    have h1 : 2 ^ l.length ≤ 2 ^ 12 := Nat.pow_le_pow_right (by decide) hlen
    have h2 : (g01.b + g01.d) * 2 ^ l.length ≤ (g01.b + g01.d) * 2 ^ 12 := Nat.mul_le_mul_left _ h1
    have h3 : (g01.b + g01.d) * 2 ^ 12 = 8192 := rfl
    omega)
  have hway : wayB (l.map Tr.lrC) = true := by
    unfold wayB
    rw [List.length_map, decide_eq_true (by omega), Bool.true_and, List.all_eq_true]
    intro c hc
    obtain ⟨y, _, rfl⟩ := List.mem_map.1 hc
    unfold Tr.lrC
    split <;> rfl
  have hword : Tr.wordB l = true := by
    unfold Tr.wordB
    rw [decide_eq_true (by omega), Bool.true_and, List.all_eq_true]
    intro c hc
    rcases hlet c hc with rfl | rfl <;> rfl
  have htm := Tr.tower_mid l [] g01 Tr.Mid.nil hlet (by decide)
  have hTw := fun w => Tr.Tower_any x w (by omega)
  unfold Tr.towerR at hTw
  rw [hxl, hword] at hTw
  unfold Tr.towerL at hTw
  have hFv : flwV (l.map Tr.lrC) = .tuple #[.agg #[.int .i64 (((Tr.gow g01 l).a + (Tr.gow g01 l).c : Nat) : Int), .int .i64 (((Tr.gow g01 l).b + (Tr.gow g01 l).d : Nat) : Int)], .int .i64 0] := by
    unfold flwV flwR; rw [hway, hflw]; rfl
  generalize Tr.gow g01 l = g at ok1 ok2 ok3 hflw htm hFv
  obtain ⟨p, hp⟩ : ∃ p, g.a + g.c = p := ⟨_, rfl⟩
  obtain ⟨q, hq⟩ : ∃ q, g.b + g.d = q := ⟨_, rfl⟩
  rw [hp, hq] at hFv
  rw [hq] at htm
  have hp1 : 1 ≤ p := by omega
  have hpq : p < q := by omega
  have hqs : q ≤ 1000000 := by
    have h := flw_small _ _ _ (by decide) (by decide) (by decide) (by decide) hflw
    omega
  have HTx := Lib.hid hTx
  have HFv := Lib.hid hFv
  have Hxl := Lib.hid hxl
  have Hlet := Lib.hid hlet
  have Htm := Lib.hid htm
  have HTw := Lib.hid hTw
  have H3 := Lib.hid Tr.three_any
  clear hTx hFv hxl hlet htm hTw hflw hway hword hx ok1 ok2 ok3
  have f1 : ¬ (p : Int) < 1 := by omega
  have f2 : ¬ (q : Int) ≤ p := by omega
  have i1 : IntKind.i64.wrap ((q : Int) - 2) = ((q - 2 : Nat) : Int) := by rw [IntWalk.i64_in _ (by omega)]; omega
  obtain ⟨q2, hq2⟩ : ∃ z, q - 2 = z := ⟨_, rfl⟩
  rw [hq2] at i1
  go_enter Tryd.func5, Tryd.ntmps5
  go_wp2_with fail
  refine (HTx.out _).mono ?_
  rintro e w1 ⟨rfl, b1⟩
  have HB1 := Lib.hid b1
  clear b1
  go_wp2_with fail
  go_loopw [4, 5] (fun s i wr => ∃ (k : Nat) (y : ByteArray), k ≤ x.size ∧ s = .string y ∧ i = .int .i64 k ∧ Hid (y.data.toList = (l.take k).map Tr.lrC) ∧ wr = w1) (fun _ i _ => x.size - (intOf i).toNat)
  case atStart => exact ⟨0, ByteArray.empty, Nat.zero_le _, rfl, rfl, rfl, rfl⟩
  case round =>
    obtain ⟨k, y, hk, rfl, rfl, HY, rfl⟩ := hrel
    by_cases hlt : k < x.size
    · have hc : (k : Int) < x.size := by omega
      have hget := sget x k hlt
      rw [Hxl.out] at hget
      have hys : y.size ≤ 12 := by rw [← sdata_length, HY.out, List.length_map, List.length_take]; omega
      have iz : IntKind.i64.wrap ((k : Int) + 1) = ((k + 1 : Nat) : Int) := iadd rfl (by omega)
      have hsn := mapsnoc hget
      by_cases h97 : x[k] = 97
      · have g1 := (u8_is (c := x[k]) (n := 97) (by decide)).1 h97
        have hz1 : y.size + (⟨#[76]⟩ : ByteArray).size ≤ 9223372036854775807 := by rw [show (⟨#[76]⟩ : ByteArray).size = 1 from rfl]; omega
        have HY2 : Hid ((y ++ ⟨#[76]⟩).data.toList = (l.take (k + 1)).map Tr.lrC) := by
          unfold Hid
          rw [hsn, h97, Tr.append_data, HY.out]; rfl
        clear hsn hget h97
        go_wp2
        go_roundw
        case rel => exact ⟨k + 1, _, by omega, rfl, by go_num, HY2, trivial⟩
        case measure => simp [intOf]; omega
      · have g1 := (u8_is (c := x[k]) (n := 97) (by decide)).2 h97
        have hz1 : y.size + (⟨#[82]⟩ : ByteArray).size ≤ 9223372036854775807 := by rw [show (⟨#[82]⟩ : ByteArray).size = 1 from rfl]; omega
        have HY2 : Hid ((y ++ ⟨#[82]⟩).data.toList = (l.take (k + 1)).map Tr.lrC) := by
          unfold Hid
          rw [hsn, Tr.append_data, HY.out]
          unfold Tr.lrC
          rw [if_neg h97]
        clear hsn hget h97
        go_wp2
        go_roundw
        case rel => exact ⟨k + 1, _, by omega, rfl, by go_num, HY2, trivial⟩
        case measure => simp [intOf]; omega
    · obtain rfl : k = x.size := by omega
      have hY := HY.out
      rw [List.take_of_length_le (by omega)] at hY
      have hF := fun w => Follow_any y w (by rw [← sdata_length, hY, List.length_map]; unfold maxLen; omega)
      rw [hY, HFv.out] at hF
      have HF := Lib.hid hF
      clear hY hF HY
      go_wp2_with fail
      refine (HF.out _).mono ?_
      rintro e w2 ⟨rfl, b2⟩
      have T2 := Lib.hid (Two.new w2 23 (p : Int) (q : Int))
      have HB2 := Lib.hid (b_next (b_next HB1.out b2) (below_alloc w2 (.cells #[.int .i64 p, .int .i64 q] 23)))
      clear b2 HB1
      generalize hW2 : w2.alloc (.cells #[.int .i64 (p : Int), .int .i64 (q : Int)] 23) = W2 at T2 HB2
      go_wp2_with fail
      by_cases h102 : 102 < q
      · have ht := Htm.out.1 h102
        have hT := fun w => HTw.out w
        rw [ht] at hT
        simp only [if_true] at hT
        have HT := Lib.hid hT
        have f3 : (100 : Int) < q2 := by omega
        clear ht hT Htm HTw hq2
        refine (HT.out _).mono ?_
        rintro e w3 ⟨rfl, b3⟩
        have T3 := Lib.hid (T2.out.below b3)
        have HB3 := Lib.hid (b_next HB2.out b3)
        clear b3
        obtain ⟨c0, c1, _, _⟩ := T3.out.cells
        go_wp2_with fail
        refine (H3.out _).mono ?_
        rintro e w4 ⟨rfl, b4⟩
        have HB4 := b_next HB3.out b4
        go_wp2_with fail
        go_ret
        exact ⟨rfl, HB4⟩
      · obtain ⟨t, ht, hM⟩ := Htm.out.2 (by omega)
        have hT := fun w => HTw.out w
        rw [ht] at hT
        simp only [if_true] at hT
        obtain ⟨tb, htb⟩ : ∃ z, Tr.mk t = z := ⟨_, rfl⟩
        have htl : tb.data.toList = t := by rw [← htb]; exact Tr.data_mk t
        rw [htb] at hT
        have hts : tb.size = q2 := by rw [← sdata_length, htl]; have := hM.len; omega
        have f3 : ¬ (100 : Int) < q2 := by omega
        have HT := Lib.hid hT
        have Htl := Lib.hid htl
        have HM := Lib.hid hM
        have hq100 : q2 ≤ 100 := by omega
        clear ht hT Htm HTw htl hM htb
        refine (HT.out _).mono ?_
        rintro e w3 ⟨rfl, b3⟩
        have T3 := Lib.hid (T2.out.below b3)
        have HB3 := Lib.hid (b_next HB2.out b3)
        clear b3 T2 HB2 hW2
        obtain ⟨c0, c1, _, _⟩ := T3.out.cells
        go_wp2_with fail
        obtain ⟨K, r1, r2, r3, r4, r5, r6⟩ := Tr.mid_row HM.out
        have hMb := HM.out.b1
        have hMd := HM.out.d1
        have hnt := HM.out.nt
        have hl1 := HM.out.lt1
        have hl2 := HM.out.lt2
        have hperB := HM.out.perB
        have hperD := HM.out.perD
        obtain ⟨a, b, c, d⟩ := g
        simp only at r1 r3 r4 r5 r6 hMb hMd hnt hl1 hl2 hperB hperD hp hq
        rw [hp, hq] at r1
        rw [hq] at r3 r4 r5
        rw [hp, hq] at r6
        rw [hp] at hnt
        have hvp : validB p q = true := valid_of (by omega) (by omega) (by omega) r6
        have hBf : ∀ w : World, Calls Tryd.prog 18 #[.int .i64 (q : Int), .agg #[.int .i64 (p : Int), .int .i64 (q : Int)]] w fun e w' => e = .returned (.tuple #[.agg #[.int .i64 (a : Int), .int .i64 (b : Int)], .int .i64 0]) ∧ Below w.heap.size w w' := fun w => by
          refine (Before_yes q p q (by omega) (by omega) hvp w).mono ?_
          rintro e w' ⟨⟨k, hk, rfl⟩, hb⟩
          rw [← r1] at hk
          have := below_fr (by omega) (by omega) hk
          subst this
          rw [before_fr r2, r4]
          exact ⟨rfl, hb⟩
        have hNx : ∀ w : World, Calls Tryd.prog 19 #[.int .i64 (q : Int), .agg #[.int .i64 (p : Int), .int .i64 (q : Int)]] w fun e w' => e = .returned (.tuple #[.agg #[.int .i64 (c : Int), .int .i64 (d : Int)], .int .i64 0]) ∧ Below w.heap.size w w' := fun w => by
          refine (Next_yes q p q (by omega) (by omega) hvp w).mono ?_
          rintro e w' ⟨⟨r, hr, rfl⟩, hb⟩
          rw [← r1] at hr
          have := next_fr (by omega) r3 hr
          subst this
          rw [r5]
          exact ⟨rfl, hb⟩
        have HBf := Lib.hid hBf
        have HNx := Lib.hid hNx
        have HpB := Lib.hid hperB
        have HpD := Lib.hid hperD
        have Hnt := Lib.hid hnt
        clear r1 r2 r3 r4 r5 r6 hvp hBf hNx hperB hperD hnt HM
        have hbq : b ≤ q := by omega
        have hdq : d ≤ q := by omega
        go_loopw [10, 11] (fun s i wr => ∃ k : Nat, k ≤ q2 ∧ s = .int .i64 (Tr.cb (t.take k) : Nat) ∧ i = .int .i64 k ∧ wr = w3) (fun _ i _ => q2 - (intOf i).toNat)
        case atStart => exact ⟨0, Nat.zero_le _, rfl, rfl, rfl⟩
        case round =>
          obtain ⟨k, hk, rfl, rfl, rfl⟩ := hrel
          by_cases hlt2 : k < q2
          · have hc2 : (k : Int) < tb.size := by omega
            have hc3 : k < tb.size := by omega
            have hget := sget tb k hc3
            rw [Htl.out] at hget
            have iz : IntKind.i64.wrap ((k : Int) + 1) = ((k + 1 : Nat) : Int) := iadd rfl (by omega)
            have hcb := cb_snoc hget
            have hcl : Tr.cb (t.take k) ≤ 100 := by
              have := cb_le (t.take k)
              rw [List.length_take] at this
              omega
            by_cases h98 : tb[k] = 98
            · have g1 := (u8_is (c := tb[k]) (n := 98) (by decide)).1 h98
              rw [if_pos h98] at hcb
              generalize Tr.cb (t.take k) = S at hcb hcl ⊢
              have iy : IntKind.i64.wrap ((S : Int) + 1) = ((S + 1 : Nat) : Int) := iadd rfl (by omega)
              obtain ⟨S2, hS2⟩ : ∃ z, S + 1 = z := ⟨_, rfl⟩
              rw [hS2] at iy hcb
              have HS := Lib.hid hcb
              clear hcb hcl hget h98 hS2
              go_wp2
              go_roundw
              case rel => exact ⟨k + 1, by omega, by rw [HS.out], by go_num, trivial⟩
              case measure => simp [intOf]; omega
            · have g1 := (u8_is (c := tb[k]) (n := 98) (by decide)).2 h98
              rw [if_neg h98, Nat.add_zero] at hcb
              have HS := Lib.hid hcb
              clear hcb hcl hget h98
              go_wp2
              go_roundw
              case rel => exact ⟨k + 1, by omega, by rw [HS.out]; rfl, by go_num, trivial⟩
              case measure => simp [intOf]; omega
          · obtain rfl : k = q2 := by omega
            have htk : t.take k = t := List.take_of_length_le (by rw [← Htl.out, sdata_length]; omega)
            rw [htk]
            have hcl : Tr.cb t + 1 = p := Hnt.out
            generalize Tr.cb t = S at hcl ⊢
            have i3 : IntKind.i64.wrap ((p : Int) - 1) = S := by rw [IntWalk.i64_in _ (by omega)]; omega
            have i4 : min (q : Int) 300 = q := by omega
            have i5 : IntKind.i64.wrap ((b : Int) + d) = q := iadd hq (by omega)
            have f4 : ¬ (b : Int) < 1 := by omega
            have f5 : ¬ (d : Int) < 1 := by omega
            have f6 : (tb.size : Int) = k := by omega
            have hq2' : q - 2 = k := hq2
            clear htk hcl
            go_wp2_with fail
            refine (HBf.out _).mono ?_
            rintro e w4 ⟨rfl, b4⟩
            have T4 := Lib.hid ((T3.out.below b4).alloc (.cells #[.int .i64 a, .int .i64 b] 23))
            have P4 := Lib.hid (Two.new w4 23 (a : Int) (b : Int))
            have HB4 := Lib.hid (b_next (b_next HB3.out b4) (below_alloc w4 (.cells #[.int .i64 a, .int .i64 b] 23)))
            clear b4 c0 c1 T3 HB3
            generalize hW4 : w4.alloc (.cells #[.int .i64 (a : Int), .int .i64 (b : Int)] 23) = W4 at T4 P4 HB4
            obtain ⟨c0, c1, _, _⟩ := T4.out.cells
            obtain ⟨d0, d1, _, _⟩ := P4.out.cells
            go_wp2_with fail
            refine (HNx.out _).mono ?_
            rintro e w5 ⟨rfl, b5⟩
            have T5 := Lib.hid ((T4.out.below b5).alloc (.cells #[.int .i64 c, .int .i64 d] 23))
            have P5 := Lib.hid ((P4.out.below b5).alloc (.cells #[.int .i64 c, .int .i64 d] 23))
            have Q5 := Lib.hid (Two.new w5 23 (c : Int) (d : Int))
            have HB5 := Lib.hid (b_next (b_next HB4.out b5) (below_alloc w5 (.cells #[.int .i64 c, .int .i64 d] 23)))
            clear b5 c0 c1 d0 d1 T4 P4 HB4 hW4
            generalize hW5 : w5.alloc (.cells #[.int .i64 (c : Int), .int .i64 (d : Int)] 23) = W5 at T5 P5 Q5 HB5
            obtain ⟨c0, c1, _, _⟩ := T5.out.cells
            obtain ⟨d0, d1, _, _⟩ := P5.out.cells
            obtain ⟨e0, e1, _, _⟩ := Q5.out.cells
            go_wp2_with fail
            have F6 := Lib.hid f6
            clear f6 f4 f5 i1 i3 i4 i5 f1 f2 f3
            go_loopw [16] (fun i wr => ∃ z m : Nat, z ≤ k ∧ i = .int .i64 z ∧ wr = W5.drewN m) (fun i _ => k - (intOf i).toNat)
            case atStart => exact ⟨0, 0, Nat.zero_le _, rfl, rfl⟩
            case round =>
              obtain ⟨z, m, hz, rfl, rfl⟩ := hrel
              by_cases hlt3 : z < k
              · have hc2 : (z : Int) < tb.size := by omega
                have hc3 : z < tb.size := by omega
                have hzt : z < t.length := by rw [← Htl.out, sdata_length]; exact hc3
                have iz : IntKind.i64.wrap ((z : Int) + 1) = ((z + 1 : Nat) : Int) := iadd rfl (by omega)
                have hgz := sget tb z hc3
                rw [Htl.out] at hgz
                have ib := fun h : b ≤ z => show IntKind.i64.wrap ((z : Int) - b) = ((z - b : Nat) : Int) by rw [IntWalk.i64_in _ (by omega)]; omega
                have id := fun h : d ≤ z => show IntKind.i64.wrap ((z : Int) - d) = ((z - d : Nat) : Int) by rw [IntWalk.i64_in _ (by omega)]; omega
                have nb : ∀ h : b ≤ z, ∀ h2 : z - b < tb.size, ((tb[z].toNat : Int) != (tb[z - b].toNat : Int)) = false := fun h h2 => by
                  refine u8_eq_ne ?_
                  have h3 := HpB.out z hzt h
                  have h4 := sget tb (z - b) h2
                  rw [Htl.out] at h4
                  rw [List.getD_eq_getElem?_getD, List.getD_eq_getElem?_getD, hgz, h4] at h3
                  simpa using h3
                have nd : ∀ h : d ≤ z, ∀ h2 : z - d < tb.size, ((tb[z].toNat : Int) != (tb[z - d].toNat : Int)) = false := fun h h2 => by
                  refine u8_eq_ne ?_
                  have h3 := HpD.out z hzt h
                  have h4 := sget tb (z - d) h2
                  rw [Htl.out] at h4
                  rw [List.getD_eq_getElem?_getD, List.getD_eq_getElem?_getD, hgz, h4] at h3
                  simpa using h3
                by_cases hb : b ≤ z
                · have hbi : decide ((b : Int) ≤ z) = true := decide_eq_true (by omega)
                  have hib := ib hb
                  have hnb := nb hb (by omega)
                  obtain ⟨zb, hzb⟩ : ∃ y, z - b = y := ⟨_, rfl⟩
                  have hzb2 : (zb : Int) < tb.size := by omega
                  have hzb3 : zb < tb.size := by omega
                  have hzb4 : (zb : Int) < k := by omega
                  have hzb5 : zb < k := by omega
                  have hnb2 : ((tb[z].toNat : Int) != (tb[zb].toNat : Int)) = false := by subst hzb; exact hnb
                  rw [hzb] at hib
                  clear hnb ib nb hgz hzb
                  by_cases hd : d ≤ z
                  · have hdi : decide ((d : Int) ≤ z) = true := decide_eq_true (by omega)
                    have hid := id hd
                    have hnd := nd hd (by omega)
                    obtain ⟨zd, hzd⟩ : ∃ y, z - d = y := ⟨_, rfl⟩
                    have hzd2 : (zd : Int) < tb.size := by omega
                    have hzd3 : zd < tb.size := by omega
                    have hzd4 : (zd : Int) < k := by omega
                    have hzd5 : zd < k := by omega
                    have hnd2 : ((tb[z].toNat : Int) != (tb[zd].toNat : Int)) = false := by subst hzd; exact hnd
                    rw [hzd] at hid
                    clear hnd id nd hzd
                    go_wp2_with fail
                    go_quiet (fail)
                    go_wp2_with fail
                    go_roundw
                    case rel => exact ⟨z + 1, m + nq, by omega, by go_num, by first | rfl | exact World.drewN_drewN _ _ _⟩
                    case measure => simp [intOf]; omega
                  · have hdi : decide ((d : Int) ≤ z) = false := decide_eq_false (by omega)
                    clear id nd
                    go_wp2_with fail
                    go_quiet (fail)
                    go_wp2_with fail
                    go_roundw
                    case rel => exact ⟨z + 1, m + nq, by omega, by go_num, by first | rfl | exact World.drewN_drewN _ _ _⟩
                    case measure => simp [intOf]; omega
                · have hbi : decide ((b : Int) ≤ z) = false := decide_eq_false (by omega)
                  clear ib nb
                  by_cases hd : d ≤ z
                  · have hdi : decide ((d : Int) ≤ z) = true := decide_eq_true (by omega)
                    have hid := id hd
                    have hnd := nd hd (by omega)
                    obtain ⟨zd, hzd⟩ : ∃ y, z - d = y := ⟨_, rfl⟩
                    have hzd2 : (zd : Int) < tb.size := by omega
                    have hzd3 : zd < tb.size := by omega
                    have hzd4 : (zd : Int) < k := by omega
                    have hzd5 : zd < k := by omega
                    have hnd2 : ((tb[z].toNat : Int) != (tb[zd].toNat : Int)) = false := by subst hzd; exact hnd
                    rw [hzd] at hid
                    clear hnd id nd hzd
                    go_wp2_with fail
                    go_quiet (fail)
                    go_wp2_with fail
                    go_roundw
                    case rel => exact ⟨z + 1, m + nq, by omega, by go_num, by first | rfl | exact World.drewN_drewN _ _ _⟩
                    case measure => simp [intOf]; omega
                  · have hdi : decide ((d : Int) ≤ z) = false := decide_eq_false (by omega)
                    clear id nd
                    go_wp2_with fail
                    go_quiet (fail)
                    go_wp2_with fail
                    go_roundw
                    case rel => exact ⟨z + 1, m + nq, by omega, by go_num, by first | rfl | exact World.drewN_drewN _ _ _⟩
                    case measure => simp [intOf]; omega
              · obtain rfl : z = k := by omega
                have f6 := F6.out
                go_wp2_with fail
                refine (H3.out _).mono ?_
                rintro e w6 ⟨rfl, b6⟩
                have HB6 := b_next (below_drewN HB5.out m) b6
                go_wp2_with fail
                go_ret
                exact ⟨rfl, HB6⟩

namespace lawTopCentral
open Go.ChangeShapes Go.WideShapes Go.ChangeAt Go.RowKit
open Go.ChangeMaps (open_string shut_string)

theorem own : ownKnob Tryd.prog.godebug = none := by kernel_rfl
theorem lay : laidOutB Tryd.prog = true := by kernel_rfl

theorem met (os : Os) (args : Array Value) : laidMetH Tryd.prog Rows.topCentralRow.laid ((World.laidAll Tryd.prog os Rows.topCentralRow.laid).forCall (fun _ _ => 0) ⟨#[], args, []⟩).memory := by
  rw [MakeChecks.laidMetH_plain _ _ _ (by kernel_rfl)]; exact laidMet_laidAll _ (by kernel_rfl) (by kernel_rfl)

set_option maxRecDepth 100000 in
theorem lifted (os : Os) (started : os.Started) (H : Type) (enc : TypeId × Value → H) :
    ReturnsInHanded {} Tryd.checked os 5 .any (fun w args => (Rows.topCentralSpec.pre enc Tryd.prog Tryd.f5 Rows.topCentralRow.domain false w args ∧ laidMetH Tryd.prog Rows.topCentralRow.laid w) ∧ sizedMet enc Tryd.prog Tryd.f5 (OpenSpec.ofChange Rows.topCentralSpec) false w args)
      (Rows.topCentralSpec.post enc Tryd.prog Tryd.f5 false true false false) := by
  refine returnsInHanded_of_change_and (C := Tryd.checked) (X := fun w _ => laidMetH Tryd.prog Rows.topCentralRow.laid w) (fun _ _ _ hh h => h.of_heap hh) own started (by kernel_rfl) Tryd.func5
    (ChangeSpec.witness_shaped (enc := enc) (C := Tryd.checked) (os := os) (X := fun w _ => laidMetH Tryd.prog Rows.topCentralRow.laid w) false (World.laidAll Tryd.prog os Rows.topCentralRow.laid) #[.string ByteArray.empty] 8 (World.laidAll_os _ _ _)
      (World.shaped_of_ZipB (by kernel_rfl) (by kernel_rfl)) (by kernel_rfl) (by kernel_rfl) (by kernel_rfl)
      (met os _)) ?_
  intro W base args ds gs before hval0 hW hcnd _ hL _
  have hval : ∀ (j : Nat) t v, Tryd.f5.params[j]? = some t → args[j]? = some v → Value.okWide Tryd.prog W .any base t v := hval0
  have hW' := hW
  obtain ⟨p, q, hA0, hV, rfl, hfz, hnd⟩ := hW
  have hA : DataW.TrodAll enc Tryd.prog W 0 (fun _ => true) true Tryd.f5.params.toList args.toList ds p := hA0
  rw [Tryd.params5] at hA hval
  obtain ⟨v0, vs0, d0, ds0, p0, q0, hargs, rfl, rfl, h0, r0⟩ := trodAll_cons hA
  obtain ⟨rfl, rfl, rfl⟩ := trodAll_nil r0
  obtain rfl : args = #[v0] := by cases args; simp_all
  obtain ⟨rfl, rfl⟩ := trodVars_none hV
  obtain ⟨a0, rfl, rfl, rfl, w0⟩ := open_string Tryd.underlying9 (hval 0 9 v0 rfl rfl) h0
  simp only [List.append_nil] at hW'
  clear hA0 hval0
  refine (walk_TopCentral a0 w0 W).mono fun e W' ⟨he, bel⟩ => ?_
  subst he
  exact ⟨_, rfl, _, _, _, [], _, [], hW', trodAll_mk1 (shut_bool Tryd.underlying4 _), (trodAll_cons_mk (shut_string Tryd.underlying9 w0) trodAll_mk0), rfl, bel.frame _, fun h => by cases h⟩

theorem over : Rows.topCentralRow.holds Tryd.pinned (OpenSpec.ofChange Rows.topCentralSpec) :=
  OpenClaim.holds_of_wide 5 Tryd.f5 rfl rfl rfl rfl rfl rfl rfl ⟨rfl, rfl, rfl, rfl, rfl⟩ rfl rfl rfl rfl rfl (by kernel_rfl) Tryd.func5 (by kernel_rfl)
    (of_decide_eq_true (by kernel_rfl)) (by unfold Func.isWrapper; first | (rw [if_pos (by decide +kernel)]; kernel_rfl) | (rw [if_neg (by decide +kernel)]; exact ⟨rfl, rfl⟩))
    (fun os started H enc _ => lifted os started H enc)

theorem proved : Rows.TopCentralCardSaid :=
  Claim7.holds_tied_plain_at .later [] [.data, .pinned] true (true, "c082d0eb591b72ebbf6abfb91f4b2d7b982960650fbf65d5be28a7a1f6187b41") false over (fun _ h => by cases h) (by kernel_rfl) (fun _ h => by cases h) topCentral_row_tie rfl ⟨rfl, rfl⟩ (by kernel_rfl) rfl
    (fun f fn hf hfn => by
      obtain rfl : f = 5 := Option.some.inj ((show Tryd.prog.funcNamed "galloon/galloontop.TopCentral" = some 5 by kernel_rfl).symm.trans hf) |>.symm
      obtain rfl : fn = Tryd.f5 := (Option.some.inj (Tryd.func5.symm.trans hfn)).symm
      exact ⟨by kernel_rfl, fun j t ht => by
        rw [Tryd.params5] at ht
        have hm : t ∈ [9] := by simpa using Array.mem_of_getElem? ht
        have hall : ([9].all fun u => !Tryd.prog.wantsStandIn u) = true := by kernel_rfl
        exact (show Tryd.prog.wantsStandIn t = false by simpa using List.all_eq_true.1 hall t hm)⟩)
    (by kernel_rfl)
end lawTopCentral
end Go.Proofs.YtfelmjanffhahaaDoor
