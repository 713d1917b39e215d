/- Follow of the program. -/
import Derived.Test.YtfelmjanffhahaaDoorQuad
import Derived.Test.YtfelmjanffhahaaDoorFlm
import Derived.Test.YtfelmjanffhahaaDoorShelft
import Derived.Shelf.Strings.SlTrimAscii
import Derived.Lib.Strings
namespace Go.Proofs.YtfelmjanffhahaaDoor
set_option linter.unusedVariables false
open Go.RowKit Go.Shelf

theorem sdata_length (s : ByteArray) : s.data.toList.length = s.size := by simp
theorem sget (s : ByteArray) (k : Nat) (h : k < s.size) : s.data.toList[k]? = some s[k] := by
  rw [List.getElem?_eq_getElem (by rw [sdata_length]; exact h)]; rfl
theorem stake_all (s : ByteArray) : s.data.toList.take s.size = s.data.toList := List.take_of_length_le (by rw [sdata_length]; exact Nat.le_refl _)
theorem u8_76 {c : UInt8} : (c = 76 → ((c.toNat : Int) == 76) = true) ∧ (¬ c = 76 → ((c.toNat : Int) == 76) = false) := by
  refine ⟨fun h => by subst h; rfl, fun h => ?_⟩
  rw [beq_eq_false_iff_ne]
  intro e
  exact h (UInt8.toNat_inj.1 (by show c.toNat = 76; omega))

theorem field1 (x y : Int) (w : World) : (Instr.field 23 (Value.agg #[.int .i64 x, .int .i64 y]) 1).run Tryd.prog w = .ok (.int .i64 y) w := by rfl

theorem flw_put {w w5 : World} {b B : Nat} {t u : TypeId} {a1 b1 c1 d1 p q : Int} {a b' c d : Int} (hq : Quad w5 B t a1 b1 c1 d1) (ht : Two w5 b u p q) (hbB : b ≠ B) (hB : w.heap.size ≤ B) (hb : Below w.heap.size w w5) :
    let W := (((w5.setCell ⟨B, 0, none⟩ (.int .i64 a)).setCell ⟨B, 1, none⟩ (.int .i64 b')).setCell ⟨B, 2, none⟩ (.int .i64 c)).setCell ⟨B, 3, none⟩ (.int .i64 d)
    Quad W B t a b' c d ∧ Two W b u p q ∧ Below w.heap.size w W := by
  intro W
  have hg := set4_grown w5 B (.int .i64 a) (.int .i64 b') (.int .i64 c) (.int .i64 d)
  exact ⟨hq.set _ _ _ _, ht.kept hg (fun e => hbB (Option.some.inj e)), hb.grown hg hb.size (fun k e => by have := Option.some.inj e; omega)⟩

set_option maxRecDepth 100000 in
set_option maxHeartbeats 1000000 in
theorem trim_any (s : ByteArray) (w : World) (hs : s.size ≤ 200) :
    Calls Tryd.prog 20 #[.string s, .string ⟨#[76, 82]⟩] w fun e w' => e = .returned (.string ⟨(Lib.trimS s.data.toList [76, 82]).toArray⟩) ∧ Below w.heap.size w w' :=
  Any.strings_Trim_laid Tryd.lays160 (by kernel_rfl) s ⟨#[76, 82]⟩ w (by omega) (by decide) (ascii_of_all (by decide))

set_option maxRecDepth 100000 in
set_option maxHeartbeats 4000000 in
theorem Follow_long (s : ByteArray) (w : World) (hs : s.size ≤ maxLen) (h : 200 < s.size) :
    Calls Tryd.prog 6 #[.string s] w fun e w' => e = .returned (.tuple #[.agg #[.int .i64 0, .int .i64 0], .int .i64 2]) ∧ Below w.heap.size w w' := by
  unfold maxLen at hs
  have h' : (200 : Int) < s.size := by omega
  go_enter Tryd.func6, Tryd.ntmps6
  go_wp2_with fail
  exact bodyPost_ret (v := .tuple #[.agg #[.int .i64 0, .int .i64 0], .int .i64 2]) (by simp [results, Tryd.results6, go_sem]) rfl ⟨rfl, below_alloc _ _⟩

set_option maxRecDepth 100000 in
set_option maxHeartbeats 4000000 in
theorem Follow_bad (s : ByteArray) (w : World) (hs : s.size ≤ 200) (h : wayB s.data.toList = false) :
    Calls Tryd.prog 6 #[.string s] w fun e w' => e = .returned (.tuple #[.agg #[.int .i64 0, .int .i64 0], .int .i64 2]) ∧ Below w.heap.size w w' := by
  have h' : ¬ (200 : Int) < s.size := by omega
  obtain ⟨t, ht⟩ : ∃ t, Lib.trimS s.data.toList [76, 82] = t := ⟨_, rfl⟩
  have hne : t ≠ [] := by
    intro e
    have := (trim_lr s.data.toList).1 (ht.trans e)
    unfold wayB at h
    rw [this, Bool.and_true, decide_eq_false_iff_not, sdata_length] at h
    omega
  have HT0 := fun w => trim_any s w hs
  rw [ht] at HT0
  have HT := Lib.hid HT0
  have hie : t.isEmpty = false := by
    cases t with
    | nil => exact absurd rfl hne
    | cons _ _ => rfl
  clear HT0 ht
  go_enter Tryd.func6, Tryd.ntmps6
  go_wp2_with fail
  refine (HT.out _).mono ?_
  rintro e w1 ⟨rfl, b1⟩
  have T1 := (Two.new w 23 0 0).below b1
  have hB1 := b_next (below_alloc w _) b1
  clear b1
  obtain ⟨k0, k1, k2, k3⟩ := T1.cells
  go_wp2_with fail
  have VB := ((hB1.setCell (p := ⟨w.heap.size, 0, none⟩) (Nat.le_refl _) (.int .i64 0)).setCell (p := ⟨w.heap.size, 1, none⟩) (Nat.le_refl _) (.int .i64 0))
  have T0 := (T1.set0 0).set1 0
  obtain ⟨k0, k1, _, _⟩ := T0.cells
  exact bodyPost_ret (v := .tuple #[.agg #[.int .i64 0, .int .i64 0], .int .i64 2]) (by simp [results, Tryd.results6, go_sem, k0, k1]) rfl ⟨rfl, VB⟩

def flwV (l : List UInt8) : Value := .tuple #[.agg #[.int .i64 (flwR l).1.1, .int .i64 (flwR l).1.2], .int .i64 (flwR l).2]

set_option maxRecDepth 100000 in
set_option maxHeartbeats 4000000 in
theorem Follow_good (s : ByteArray) (w : World) (hs : s.size ≤ 200) (h : wayB s.data.toList = true) :
    Calls Tryd.prog 6 #[.string s] w fun e w' => e = .returned (flwV s.data.toList) ∧ Below w.heap.size w w' := by
  have h' : ¬ (200 : Int) < s.size := by omega
  have ht : Lib.trimS s.data.toList [76, 82] = [] := (trim_lr s.data.toList).2 (by unfold wayB at h; rw [Bool.and_eq_true] at h; exact h.2)
  have HT0 := fun w => trim_any s w hs
  rw [ht] at HT0
  have HT := Lib.hid HT0
  have HW := Lib.hid widest_any
  have Hw := Lib.hid h
  clear HT0 ht h
  go_enter Tryd.func6, Tryd.ntmps6
  go_wp2_with fail
  refine (HT.out _).mono ?_
  rintro e w1 ⟨rfl, b1⟩
  have T1 := Lib.hid ((Two.new w 23 0 0).below b1)
  have HB1 := Lib.hid (b_next (below_alloc w _) b1)
  clear b1
  go_wp2_with fail
  refine (HW.out _).mono ?_
  rintro e w2 ⟨rfl, b2⟩
  have T2 := Lib.hid (T1.out.below b2)
  have HB2 := Lib.hid (b_next HB1.out b2)
  clear b2
  have hlt2 : w.heap.size < w2.heap.size := T2.out.lt
  have hq0 := Quad.new w2 45 0 1 1 1
  have ht0 := T2.out.alloc (.cells #[.int .i64 0, .int .i64 1, .int .i64 1, .int .i64 1] 45)
  have hB0 := b_next HB2.out (below_alloc w2 (.cells #[.int .i64 0, .int .i64 1, .int .i64 1, .int .i64 1] 45))
  go_wp2_with fail
  go_loopw [5, 18] (fun x y wr => ∃ (k a b c d : Nat), y = .int .i64 k ∧ k ≤ s.size ∧ Hid (flw g01 (s.data.toList.take k) = some ⟨a, b, c, d⟩) ∧ Quad wr w2.heap.size 45 a b c d ∧ Two wr w.heap.size 23 0 0 ∧ Below w.heap.size w wr) (fun _ y _ => s.size - (intOf y).toNat)
  case atStart => exact ⟨0, 0, 1, 1, 1, rfl, Nat.zero_le _, by unfold Hid; rfl, hq0, ht0, hB0⟩
  case round =>
    clear hq0 ht0 hB0
    obtain ⟨k, a, b, c, d, rfl, hk, HF, hq, ht, hB⟩ := hrel
    have hsm := flw_small _ g01 _ (by decide) (by decide) (by decide) (by decide) HF.out
    simp only at hsm
    have hsmall : Small 10000000 ⟨a, b, c, d⟩ := ⟨by simp only; omega, by simp only; omega, by simp only; omega, by simp only; omega⟩
    have HSm := Lib.hid hsmall
    have Hq := Lib.hid hq
    have Ht := Lib.hid ht
    have HB := Lib.hid hB
    clear hsmall hq ht hB
    by_cases hlt : k < s.size
    · have hc : (k : Int) < s.size := by omega
      have hget := sget s k hlt
      have hstep := flw_take hget HF.out
      by_cases h76 : s[k] = 76
      · have g1 := u8_76.1 h76
        have hf := fun w => left_any ⟨a, b, c, d⟩ HSm.out w
        unfold gapV leftG at hf
        simp only at hf
        have hst : goG ⟨a, b, c, d⟩ s[k] = ⟨a, b, a + c, b + d⟩ := by unfold goG; rw [if_pos h76]
        rw [hst] at hstep
        simp only at hstep
        obtain ⟨m1, hm1⟩ : ∃ m, a + c = m := ⟨_, rfl⟩
        obtain ⟨m2, hm2⟩ : ∃ m, b + d = m := ⟨_, rfl⟩
        rw [hm1, hm2] at hstep hf
        rw [hm2] at hsm
        have hs2 : Small 10000000 ⟨a, b, m1, m2⟩ := ⟨by simp only; omega, by simp only; omega, by simp only; omega, by simp only; omega⟩
        have hm := fun w => middle_any ⟨a, b, m1, m2⟩ hs2 w
        unfold frV midG gapV at hm
        simp only at hm
        obtain ⟨n1, hn1⟩ : ∃ m, a + m1 = m := ⟨_, rfl⟩
        obtain ⟨n2, hn2⟩ : ∃ m, b + m2 = m := ⟨_, rfl⟩
        rw [hn2] at hstep
        rw [hn1, hn2] at hm
        have HL := Lib.hid hf
        have HM := Lib.hid hm
        have HS := Lib.hid hstep
        obtain ⟨⟨d0, d1, d2, d3⟩, _, _, _, _⟩ := Hq.out.cells
        clear hf hm hstep hst hm1 hm2 hn1 hn2 hs2 hget h76
        go_wp2_with fail
        refine (HL.out _).mono ?_
        rintro e w5 ⟨rfl, b5⟩
        have Hq5 := Lib.hid (Hq.out.below b5)
        have Ht5 := Lib.hid (Ht.out.below b5)
        have HB5 := Lib.hid (b_next HB.out b5)
        clear b5 d0 d1 d2 d3
        obtain ⟨⟨d0, d1, d2, d3⟩, d4, d5, d6, d7⟩ := Hq5.out.cells
        go_wp2_with fail
        obtain ⟨hz1, hz2, hz3⟩ := flw_put (a := a) (b' := b) (c := m1) (d := m2) Hq5.out Ht5.out (by omega) (by omega) HB5.out
        refine (HM.out _).mono ?_
        rintro e w6 ⟨rfl, b6⟩
        have Hq6 := Lib.hid (hz1.below b6)
        have Ht6 := Lib.hid (hz2.below b6)
        have HB6 := Lib.hid (b_next hz3 b6)
        clear b6 hz1 hz2 hz3 d0 d1 d2 d3 d4 d5 d6 d7
        have hfd := fun w => field1 (n1 : Int) (n2 : Int) w
        by_cases hbig : 1000000 < n2
        · have hbig' : (1000000 : Int) < n2 := by omega
          have hn : flwR s.data.toList = ((0, 0), 5) := by
            have := HS.out
            rw [if_pos hbig] at this
            unfold flwR
            rw [Hw.out, flw_take_none this]; rfl
          have HN := Lib.hid hn
          clear hn
          obtain ⟨k0, k1, k2, k3⟩ := Ht6.out.cells
          go_wp2_with fail
          have VB := ((HB6.out.setCell (p := ⟨w.heap.size, 0, none⟩) (Nat.le_refl _) (.int .i64 0)).setCell (p := ⟨w.heap.size, 1, none⟩) (Nat.le_refl _) (.int .i64 0))
          have T0 := (Ht6.out.set0 0).set1 0
          obtain ⟨k0, k1, _, _⟩ := T0.cells
          exact bodyPost_ret (v := .tuple #[.agg #[.int .i64 0, .int .i64 0], .int .i64 5]) (by simp [results, Tryd.results6, go_sem, k0, k1]) rfl ⟨by rw [flwV, HN.out]; rfl, VB⟩
        · have hbig' : ¬ (1000000 : Int) < n2 := by omega
          have hn := HS.out
          rw [if_neg hbig] at hn
          have HN := Lib.hid hn
          clear hn
          go_wp2_with fail
          go_roundw
          case rel => exact ⟨k + 1, a, b, m1, m2, rfl, by omega, HN.out, Hq6.out, Ht6.out, HB6.out⟩
          case measure => simp [intOf]; omega
      · have g1 := u8_76.2 h76
        have hf := fun w => right_any ⟨a, b, c, d⟩ HSm.out w
        unfold gapV rightG at hf
        simp only at hf
        have hst : goG ⟨a, b, c, d⟩ s[k] = ⟨a + c, b + d, c, d⟩ := by unfold goG; rw [if_neg h76]
        rw [hst] at hstep
        simp only at hstep
        obtain ⟨m1, hm1⟩ : ∃ m, a + c = m := ⟨_, rfl⟩
        obtain ⟨m2, hm2⟩ : ∃ m, b + d = m := ⟨_, rfl⟩
        rw [hm1, hm2] at hstep hf
        rw [hm2] at hsm
        have hs2 : Small 10000000 ⟨m1, m2, c, d⟩ := ⟨by simp only; omega, by simp only; omega, by simp only; omega, by simp only; omega⟩
        have hm := fun w => middle_any ⟨m1, m2, c, d⟩ hs2 w
        unfold frV midG gapV at hm
        simp only at hm
        obtain ⟨n1, hn1⟩ : ∃ m, m1 + c = m := ⟨_, rfl⟩
        obtain ⟨n2, hn2⟩ : ∃ m, m2 + d = m := ⟨_, rfl⟩
        rw [hn2] at hstep
        rw [hn1, hn2] at hm
        have HL := Lib.hid hf
        have HM := Lib.hid hm
        have HS := Lib.hid hstep
        obtain ⟨⟨d0, d1, d2, d3⟩, _, _, _, _⟩ := Hq.out.cells
        clear hf hm hstep hst hm1 hm2 hn1 hn2 hs2 hget h76
        go_wp2_with fail
        refine (HL.out _).mono ?_
        rintro e w5 ⟨rfl, b5⟩
        have Hq5 := Lib.hid (Hq.out.below b5)
        have Ht5 := Lib.hid (Ht.out.below b5)
        have HB5 := Lib.hid (b_next HB.out b5)
        clear b5 d0 d1 d2 d3
        obtain ⟨⟨d0, d1, d2, d3⟩, d4, d5, d6, d7⟩ := Hq5.out.cells
        go_wp2_with fail
        obtain ⟨hz1, hz2, hz3⟩ := flw_put (a := m1) (b' := m2) (c := c) (d := d) Hq5.out Ht5.out (by omega) (by omega) HB5.out
        refine (HM.out _).mono ?_
        rintro e w6 ⟨rfl, b6⟩
        have Hq6 := Lib.hid (hz1.below b6)
        have Ht6 := Lib.hid (hz2.below b6)
        have HB6 := Lib.hid (b_next hz3 b6)
        clear b6 hz1 hz2 hz3 d0 d1 d2 d3 d4 d5 d6 d7
        have hfd := fun w => field1 (n1 : Int) (n2 : Int) w
        by_cases hbig : 1000000 < n2
        · have hbig' : (1000000 : Int) < n2 := by omega
          have hn : flwR s.data.toList = ((0, 0), 5) := by
            have := HS.out
            rw [if_pos hbig] at this
            unfold flwR
            rw [Hw.out, flw_take_none this]; rfl
          have HN := Lib.hid hn
          clear hn
          obtain ⟨k0, k1, k2, k3⟩ := Ht6.out.cells
          go_wp2_with fail
          have VB := ((HB6.out.setCell (p := ⟨w.heap.size, 0, none⟩) (Nat.le_refl _) (.int .i64 0)).setCell (p := ⟨w.heap.size, 1, none⟩) (Nat.le_refl _) (.int .i64 0))
          have T0 := (Ht6.out.set0 0).set1 0
          obtain ⟨k0, k1, _, _⟩ := T0.cells
          exact bodyPost_ret (v := .tuple #[.agg #[.int .i64 0, .int .i64 0], .int .i64 5]) (by simp [results, Tryd.results6, go_sem, k0, k1]) rfl ⟨by rw [flwV, HN.out]; rfl, VB⟩
        · have hbig' : ¬ (1000000 : Int) < n2 := by omega
          have hn := HS.out
          rw [if_neg hbig] at hn
          have HN := Lib.hid hn
          clear hn
          go_wp2_with fail
          go_roundw
          case rel => exact ⟨k + 1, m1, m2, c, d, rfl, by omega, HN.out, Hq6.out, Ht6.out, HB6.out⟩
          case measure => simp [intOf]; omega
    · obtain rfl : k = s.size := by omega
      have hF := HF.out
      rw [stake_all] at hF
      have hm := fun w => middle_any ⟨a, b, c, d⟩ HSm.out w
      unfold frV midG gapV at hm
      simp only at hm
      have hn : flwR s.data.toList = ((a + c, b + d), 0) := by
        unfold flwR
        rw [Hw.out, hF]; rfl
      obtain ⟨m1, hm1⟩ : ∃ m, a + c = m := ⟨_, rfl⟩
      obtain ⟨m2, hm2⟩ : ∃ m, b + d = m := ⟨_, rfl⟩
      rw [hm1, hm2] at hm hn
      have HM := Lib.hid hm
      have HN := Lib.hid hn
      obtain ⟨⟨d0, d1, d2, d3⟩, _, _, _, _⟩ := Hq.out.cells
      clear hF hm hn HF hm1 hm2
      go_wp2_with fail
      refine (HM.out _).mono ?_
      rintro e w5 ⟨rfl, b5⟩
      have Ht5 := Lib.hid (Ht.out.below b5)
      have HB5 := Lib.hid (b_next HB.out b5)
      clear b5
      obtain ⟨k0, k1, k2, k3⟩ := Ht5.out.cells
      go_wp2_with fail
      have VB := ((HB5.out.setCell (p := ⟨w.heap.size, 0, none⟩) (Nat.le_refl _) (.int .i64 (m1 : Int))).setCell (p := ⟨w.heap.size, 1, none⟩) (Nat.le_refl _) (.int .i64 (m2 : Int)))
      have T0 := (Ht5.out.set0 (m1 : Int)).set1 (m2 : Int)
      obtain ⟨k0, k1, _, _⟩ := T0.cells
      exact bodyPost_ret (v := .tuple #[.agg #[.int .i64 (m1 : Int), .int .i64 (m2 : Int)], .int .i64 0]) (by simp [results, Tryd.results6, go_sem, k0, k1]) rfl ⟨by rw [flwV, HN.out], VB⟩

theorem Follow_any (s : ByteArray) (w : World) (hs : s.size ≤ maxLen) :
    Calls Tryd.prog 6 #[.string s] w fun e w' => e = .returned (flwV s.data.toList) ∧ Below w.heap.size w w' := by
  by_cases h : 200 < s.size
  · have hw : flwV s.data.toList = .tuple #[.agg #[.int .i64 0, .int .i64 0], .int .i64 2] := by
      unfold flwV flwR wayB
      rw [sdata_length, decide_eq_false (by omega)]; rfl
    rw [hw]; exact Follow_long s w hs h
  · cases hw : wayB s.data.toList with
    | false =>
      have hv : flwV s.data.toList = .tuple #[.agg #[.int .i64 0, .int .i64 0], .int .i64 2] := by
        unfold flwV flwR
        rw [hw]; rfl
      rw [hv]; exact Follow_bad s w (by omega) hw
    | true => exact Follow_good s w (by omega) hw
end Go.Proofs.YtfelmjanffhahaaDoor
