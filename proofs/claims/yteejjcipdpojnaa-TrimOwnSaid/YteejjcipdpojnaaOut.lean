/- Contract of trim.Outer: a palindrome around the word, letter by letter from the outside. -/
import Derived.Test.YteejjcipdpojnaaOuter
import Derived.Test.YteejjcipdpojnaaLawkit
import Derived.Deep.RegionWith
namespace Go.Proofs.Yteejjcipdpojnaa
set_option linter.unusedVariables false
open Go.RowKit Go.Maps

/-- the palindrome that Outer lays around the d letters from b on -/
def outAt (l : List UInt8) : Nat → Nat → List UInt8
  | 0, _ => []
  | 1, b => [l.getD b 0]
  | d + 2, b =>
    if l.getD b 0 = l.getD (b + d + 1) 0 then l.getD b 0 :: (outAt l d (b + 1) ++ [l.getD b 0])
    else if (innerAt l (d + 1) b).length ≤ (innerAt l (d + 1) (b + 1)).length then l.getD b 0 :: (outAt l (d + 1) (b + 1) ++ [l.getD b 0])
    else l.getD (b + d + 1) 0 :: (outAt l (d + 1) b ++ [l.getD (b + d + 1) 0])
def outL (l : List UInt8) : List UInt8 := outAt l l.length 0
theorem out_step {l H X : List UInt8} {c : UInt8} {A B : List UInt8} (h : A = H ++ (B ++ H.reverse)) (hB : B = c :: (X ++ [c])) : A = (H ++ [c]) ++ (X ++ (H ++ [c]).reverse) := by
  rw [h, hB]; simp
theorem extract_data1 (s : ByteArray) (b : Nat) (hb : b < s.size) : (s.extract b (b + 1)).data.toList = [s.data.toList.getD b 0] := by rw [extract_mk1 s b hb, data_mk]
/-- Outer's two results -/
def outR (s : ByteArray) : ByteArray × Int := if wordB s.data.toList then (mk (outL s.data.toList), 0) else (⟨#[]⟩, 2)

set_option maxRecDepth 100000 in
set_option maxHeartbeats 8000000 in
theorem Outer_any (s : ByteArray) (w : World) (hs : s.size ≤ 1000) :
    Calls Try.prog 47 #[.string s] w fun e w' => e = .returned (.tuple #[.string (outR s).1, .int .i64 (outR s).2]) ∧ Below w.heap.size w w' := by
  cases hw : wordB s.data.toList with
  | false =>
    have hr : outR s = (⟨#[]⟩, 2) := by unfold outR; rw [hw]; rfl
    have Hr := Lib.hid hr
    have Hw := Lib.hid hw
    clear hr hw
    go_enter Try.func47, Try.ntmps47
    go_wp2_with (go_at_call 54; refine (isWord_any _ _ (by unfold maxLen; omega)).mono ?_; rintro e w' ⟨rfl, rfl⟩; rw [Hw.out])
    go_ret2
    exact ⟨by rw [Hr.out]; rfl, Below.refl _ _⟩
  | true =>
    have h100 := word_size hw
    have hr : outR s = (mk (outAt s.data.toList s.size 0), 0) := by unfold outR outL; rw [hw, data_length]; rfl
    have Hr := Lib.hid hr
    have Hw := Lib.hid hw
    clear hr hw
    go_enter Try.func47, Try.ntmps47
    go_wp2_with (first
      | (go_at_call 54; refine (isWord_any _ _ (by unfold maxLen; omega)).mono ?_; rintro e w' ⟨rfl, rfl⟩; rw [Hw.out])
      | (go_at_call 68; refine (innerSearch_any s _).mono ?_; rintro e w1 ⟨Bw, Bm, Bf, M, rfl, hF, hB, hM⟩))
    have h0 : Hid (outAt s.data.toList s.size 0 = ([] : List UInt8) ++ (outAt s.data.toList s.size 0 ++ ([] : List UInt8).reverse)) := by
      show _ = _; simp
    go_loopw [5, 6, 7] (fun h x y wr => ∃ (b d e : Nat) (L : List (Nat × Nat)) (hb : ByteArray), e = b + d ∧ e ≤ s.size ∧ x = .int .i64 b ∧ y = .int .i64 e ∧ h = .string hb ∧ hb.size + d ≤ s.size ∧ Found s Bw Bm Bf M wr L ∧ w1.grownBy wr (some M) ∧ Hid (outAt s.data.toList s.size 0 = hb.data.toList ++ (outAt s.data.toList d b ++ hb.data.toList.reverse))) (fun _ x y _ => (intOf y).toNat - (intOf x).toNat)
    case atStart => exact ⟨0, s.size, s.size, [], ⟨#[]⟩, by omega, Nat.le_refl _, rfl, rfl, rfl, (show 0 + s.size ≤ s.size by omega), hF, World.grownBy.refl _ _, h0⟩
    case round =>
      clear h0
      obtain ⟨b, d, e, L, hb, he, hes, rfl, rfl, rfl, hsz, hF', hG, HP⟩ := hrel
      by_cases hd : d < 2
      · have h1 : ¬ (1 : Int) < (e : Int) - b := by omega
        have h2 : (b : Int) ≤ e := by omega
        have h3 : (e : Int) ≤ s.size := by omega
        have hx : (s.extract b e).size ≤ d := by rw [ByteArray.size_extract]; omega
        have hv : hb ++ s.extract b e ++ revB hb = mk (outAt s.data.toList s.size 0) := by
          rw [← mk_data (hb ++ s.extract b e ++ revB hb), append_data, append_data, revB_data, HP.out, List.append_assoc]
          congr 3
          match d, hd with
          | 0, _ => rw [show e = b from by omega, extract_mk0, data_mk]; rfl
          | 1, _ => rw [he, extract_data1 s b (by omega)]; rfl
        have hr1 := revB_size hb
        have hs1 : hb.size + (s.extract b e).size ≤ 9223372036854775807 := by omega
        have hs2 : hb.size + (s.extract b e).size + (revB hb).size ≤ 9223372036854775807 := by omega
        have hs3 : hb.size + (min e s.size - b) ≤ 9223372036854775807 := by omega
        have hs4 : hb.size + (min e s.size - b) + (revB hb).size ≤ 9223372036854775807 := by omega
        have hs5 : hb.size + (e - b) ≤ 9223372036854775807 := by omega
        have hs6 : hb.size + (e - b) + (revB hb).size ≤ 9223372036854775807 := by omega
        have Hv := Lib.hid hv
        have HBB := Lib.hid (grown_below hB hM hG)
        clear hv he HP hF' hF hr1
        go_wp2
        go_region_with (first
            | (go_at_call 69; refine (reversed_any _ _ (by omega)).mono ?_; rintro e' w2 ⟨rfl, hb2⟩))
        all_goals go_wp2
        all_goals go_ret2
        all_goals exact ⟨by rw [Hv.out, Hr.out]; rfl, by first | exact b_next HBB.out (((Below.refl _ wr).drew).trans hb2) | exact (b_next HBB.out (((Below.refl _ wr).drew).trans hb2)).drew | exact b_next HBB.out hb2⟩
      · obtain ⟨d', rfl⟩ : ∃ d', d = d' + 2 := ⟨d - 2, by omega⟩
        obtain ⟨m, hm⟩ : ∃ m : Nat, m + 1 = e := ⟨e - 1, by omega⟩
        have hm2 : b + d' + 1 = m := by omega
        have h1 : (1 : Int) < (e : Int) - b := by omega
        have hb1 : (b : Int) < s.size := by omega
        have hm1 : (m : Int) < s.size := by omega
        have hbn : b < s.size := by omega
        have hmn : m < s.size := by omega
        have hb2 : (b : Int) + 1 ≤ s.size := by omega
        have e1 : IntKind.i64.wrap ((e : Int) - 1) = m := by rw [IntWalk.i64_in _ (by omega)]; omega
        have hl1 : (s.extract b (b + 1)).size = 1 := by rw [ByteArray.size_extract]; omega
        have hl2 : (s.extract m e).size = 1 := by rw [ByteArray.size_extract]; omega
        have hs1 : hb.size + (s.extract b (b + 1)).size ≤ 9223372036854775807 := by omega
        have hs2 : hb.size + (s.extract m e).size ≤ 9223372036854775807 := by omega
        have hfn := hF'.fn
        have HF' := Lib.hid hF'
        have He := Lib.hid he
        have Hm := Lib.hid hm
        clear hF' hF he hm
        cases hq : ((s[b].toNat : Int) == (s[m].toNat : Int)) with
        | true =>
          have hn : outAt s.data.toList (d' + 2) b = s.data.toList.getD b 0 :: (outAt s.data.toList d' (b + 1) ++ [s.data.toList.getD b 0]) := by
            rw [outAt, if_pos (by rw [hm2, getD_data s b hbn, getD_data s m hmn]; exact beq_iff_eq.1 (nat_beq _ _ ▸ hq))]
          have HN := Lib.hid (out_step (l := s.data.toList) HP.out hn)
          clear HP hn
          go_wp2
          go_quiet (fail)
          go_wp2
          go_roundw
          case rel => exact ⟨b + 1, d', m, L, hb ++ s.extract b (b + 1), by omega, by omega, by go_num, congrArg (Value.int .i64) (by first | exact e1 | (have := Hm.out; omega)), rfl, by rw [ByteArray.size_append]; omega, HF'.out.drawn _, hG.trans grown_drawn, by rw [append_data, extract_data1 s b hbn]; exact HN.out⟩
          case measure => have := Hm.out; simp [intOf]; omega
        | false =>
          have hne : ¬ s.data.toList.getD b 0 = s.data.toList.getD (b + d' + 1) 0 := by
            rw [hm2, getD_data s b hbn, getD_data s m hmn]; exact beq_eq_false_iff_ne.1 (nat_beq _ _ ▸ hq)
          have hlen := innerAt_len s.data.toList
          have hz1 := hlen (d' + 1) (b + 1)
          have hz2 := hlen (d' + 1) b
          have hzz1 := mk_size (innerAt s.data.toList (d' + 1) (b + 1))
          have hzz2 := mk_size (innerAt s.data.toList (d' + 1) b)
          by_cases hc : (innerAt s.data.toList (d' + 1) b).length ≤ (innerAt s.data.toList (d' + 1) (b + 1)).length
          · have hn : outAt s.data.toList (d' + 2) b = s.data.toList.getD b 0 :: (outAt s.data.toList (d' + 1) (b + 1) ++ [s.data.toList.getD b 0]) := by
              rw [outAt, if_neg hne, if_pos hc]
            have HN := Lib.hid (out_step (l := s.data.toList) HP.out hn)
            have hc2 : ((mk (innerAt s.data.toList (d' + 1) b)).size : Int) ≤ (mk (innerAt s.data.toList (d' + 1) (b + 1))).size := by omega
            clear HP hn hlen hc hz1 hz2 hzz1 hzz2 hne
            go_wp2
            go_quiet (fail)
            go_wp2_with fail
            refine (search_any s h100 Bw Bm Bf M (d' + 1) (b + 1) e _ _ _ L (by omega) rfl (by have := He.out; omega) (by omega) (HF'.out.drawn _)).mono ?_
            rintro e' W1 ⟨rfl, L1, hF1, _, hG1⟩
            go_wp2_with fail
            refine (search_any s h100 Bw Bm Bf M (d' + 1) b m _ _ _ L1 rfl rfl (by omega) (by omega) hF1).mono ?_
            rintro e' W2 ⟨rfl, L2, hF2, _, hG2⟩
            have HG := Lib.hid (((hG.trans grown_drawn).trans hG1).trans hG2)
            have HF2 := Lib.hid hF2
            clear hF1 hF2 hG hG1 hG2
            go_wp2_with fail
            go_roundw
            case rel => exact ⟨b + 1, d' + 1, e, L2, hb ++ s.extract b (b + 1), by have := He.out; omega, hes, by go_num, rfl, rfl, by rw [ByteArray.size_append]; omega, HF2.out, HG.out, by rw [append_data, extract_data1 s b hbn]; exact HN.out⟩
            case measure => simp [intOf]; omega
          · have hn : outAt s.data.toList (d' + 2) b = s.data.toList.getD (b + d' + 1) 0 :: (outAt s.data.toList (d' + 1) b ++ [s.data.toList.getD (b + d' + 1) 0]) := by
              rw [outAt, if_neg hne, if_neg hc]
            have HN := Lib.hid (out_step (l := s.data.toList) HP.out hn)
            have hc2 : ¬ ((mk (innerAt s.data.toList (d' + 1) b)).size : Int) ≤ (mk (innerAt s.data.toList (d' + 1) (b + 1))).size := by omega
            have he1 : (e : Int) ≤ s.size := by omega
            have he2 : (m : Int) ≤ e := by have := Hm.out; omega
            clear HP hn hlen hc hz1 hz2 hzz1 hzz2 hne
            go_wp2
            go_quiet (fail)
            go_wp2_with fail
            refine (search_any s h100 Bw Bm Bf M (d' + 1) (b + 1) e _ _ _ L (by omega) rfl (by have := He.out; omega) (by omega) (HF'.out.drawn _)).mono ?_
            rintro e' W1 ⟨rfl, L1, hF1, _, hG1⟩
            go_wp2_with fail
            refine (search_any s h100 Bw Bm Bf M (d' + 1) b m _ _ _ L1 rfl rfl (by omega) (by omega) hF1).mono ?_
            rintro e' W2 ⟨rfl, L2, hF2, _, hG2⟩
            have HG := Lib.hid (((hG.trans grown_drawn).trans hG1).trans hG2)
            have HF2 := Lib.hid hF2
            clear hF1 hF2 hG hG1 hG2
            go_wp2_with fail
            go_roundw
            case rel => exact ⟨b, d' + 1, m, L2, hb ++ s.extract m e, by omega, by omega, rfl, by first | rfl | exact congrArg (Value.int .i64) e1 | go_num, rfl, by rw [ByteArray.size_append]; omega, HF2.out, HG.out, by rw [append_data, show e = m + 1 from Hm.out.symm, extract_data1 s m hmn, ← hm2]; exact HN.out⟩
            case measure => have := Hm.out; simp [intOf]; omega
end Go.Proofs.Yteejjcipdpojnaa
