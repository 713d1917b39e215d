/- Path of the program. -/
import Derived.Test.YtfelmjanffhahaaDoorQuad
import Derived.Test.YtfelmjanffhahaaDoorGap
import Derived.Deep.AppendLies
namespace Go.Proofs.YtfelmjanffhahaaDoor
set_option linter.unusedVariables false
open Go.RowKit Go.Shelf Go.Maps

theorem below_row {w w' : World} (h : Below w.heap.size w w') (row : Option Nat) : w.grownBy w' row := ⟨h.1, h.2, h.3, h.4, fun k hk _ => h.5 k hk⟩
theorem own_below {w w' : World} {base size n : Nat} {e : TypeId} {v : Value} {xs : List Value} (h : w.ownsRow base e size v n xs) (hb : Below w.heap.size w w') : w'.ownsRow base e size v n xs :=
  h.kept (below_row hb none) (by generalize v.ownBlock = q; cases q <;> simp)
theorem path_end {w w2 w5 : World} {B n : Nat} {v : Value} {l : List UInt8} {p q : Int} {a b c d : Int} (ht : Two w5 w.heap.size 23 p q) (h2 : w.heap.size < w2.heap.size) (hB2 : w2.heap.size ≤ B) (hown : w5.ownsRow w2.heap.size 5 1 v n (byteL l)) (hne : v.ownBlock ≠ some B) (hb : Below w.heap.size w w5) :
    let W := ((((w5.setCell ⟨B, 0, none⟩ (.int .i64 a)).setCell ⟨B, 1, none⟩ (.int .i64 b)).setCell ⟨B, 2, none⟩ (.int .i64 c)).setCell ⟨B, 3, none⟩ (.int .i64 d)).alloc (.cells #[.int .i64 a, .int .i64 b, .int .i64 c, .int .i64 d] 45)
    Quad W w5.heap.size 45 a b c d ∧ Two W w.heap.size 23 p q ∧ W.ownsRow w2.heap.size 5 1 v n (byteL l) ∧ v.ownBlock ≠ some w5.heap.size ∧ Below w.heap.size w W := by
  intro W
  have hg := set4_grown w5 B (.int .i64 a) (.int .i64 b) (.int .i64 c) (.int .i64 d)
  have hlt := hown.lt
  refine ⟨?_, ?_, ?_, ?_, ?_⟩
  · have h := Quad.new ((((w5.setCell ⟨B, 0, none⟩ (.int .i64 a)).setCell ⟨B, 1, none⟩ (.int .i64 b)).setCell ⟨B, 2, none⟩ (.int .i64 c)).setCell ⟨B, 3, none⟩ (.int .i64 d)) 45 a b c d
    simpa using h
  · exact Two.alloc (ht.kept hg (fun e => by have := Option.some.inj e; omega)) _
  · exact (hown.kept hg (.inr hne)).alloc _
  · exact fun e => by have := (hlt _ e).2; omega
  · exact (hb.grown hg hb.size (fun k e => by have := Option.some.inj e; omega)).alloc (Nat.le_trans hb.size hg.size) _
theorem pth_ne {u v : Nat} (hu : 1 ≤ u) (hv : 1 ≤ v) (h : u ≠ v) : 1 ≤ (pth u v).length := by
  rcases Nat.lt_or_gt_of_ne h with e | e
  · rw [pth_gt hu e]; simp
  · rw [pth_lt hv e]; simp
def pthR (p q : Nat) : ByteArray × Int := if (pth (q - p) p).length ≤ 200 then (⟨(pth (q - p) p).toArray⟩, 0) else (ByteArray.empty, 5)

set_option maxRecDepth 100000 in
set_option maxHeartbeats 4000000 in
theorem Path_yes (p q : Nat) (hv : validB p q = true) (hq : 2 ≤ q) (w : World) :
    Calls Tryd.prog 13 #[frV (p, q)] w fun e w' => e = .returned (.tuple #[.string (pthR p q).1, .int .i64 (pthR p q).2]) ∧ Below w.heap.size w w' := by
  obtain ⟨p', q', e1, e2, h1, h2, hp, hgcd⟩ := valid_nat hv
  obtain rfl : p = p' := by omega
  obtain rfl : q = q' := by omega
  clear e1 e2
  have hV := fun w => isValid_any p q w
  rw [hv] at hV
  have HV := Lib.hid hV
  have hW := widest_any
  have HW := Lib.hid hW
  obtain ⟨i0, hi, hz0, hz1, hz2⟩ := info_parts info_byte
  have HG := Lib.hid hgcd
  clear hV hv hW hgcd
  have hp1 : 1 ≤ p := by
    rcases Nat.eq_zero_or_pos p with e | e
    · have := HG.out; rw [e, Nat.gcd_zero_left] at this; omega
    · exact e
  have hpq : p < q := by
    rcases Nat.lt_or_eq_of_le hp with e | e
    · exact e
    · have := HG.out; rw [e, Nat.gcd_self] at this; omega
  have hq1 : ¬ (q : Int) = 1 := by omega
  have hqb : ((q : Int) == 1) = false := by simpa using hq1
  unfold frV
  simp only
  go_enter Tryd.func13, Tryd.ntmps13
  go_wp2_with fail
  refine (HV.out _).mono ?_
  rintro e w1 ⟨rfl, b1⟩
  have t1 := (Two.new w 23 p q).below b1
  obtain ⟨c0, c1, _, _⟩ := t1.cells
  have T1 := Lib.hid t1
  have HB1 := Lib.hid (b_next (below_alloc w _) b1)
  clear b1 t1
  go_wp2_with fail
  refine (HW.out _).mono ?_
  rintro e w2 ⟨rfl, b2⟩
  have T2 := Lib.hid (T1.out.below b2)
  have HB2 := Lib.hid (b_next HB1.out b2)
  clear b2 c0 c1
  go_wp2_with fail
  have hq0 := Quad.new w2 45 0 1 1 1
  have hlt2 : w.heap.size < w2.heap.size := T2.out.lt
  have ht0 := T2.out.alloc (.cells #[.int .i64 0, .int .i64 1, .int .i64 1, .int .i64 1] 45)
  have hB0 := b_next HB2.out (below_alloc w2 (.cells #[.int .i64 0, .int .i64 1, .int .i64 1, .int .i64 1] 45))
  go_loopw [4, 5] (fun x y wr => ∃ (B a b c d u v : Nat) (pre : List UInt8), y = .pointer (some ⟨B, 0, none⟩) ∧ w2.heap.size ≤ B ∧ Hid (InGap p q ⟨a, b, c, d⟩ u v) ∧ Hid (pth (q - p) p = pre ++ pth u v) ∧ pre.length ≤ 200 ∧ Quad wr B 45 a b c d ∧ Two wr w.heap.size 23 p q ∧
    wr.ownsRow w2.heap.size 5 1 x pre.length (byteL pre) ∧ x.ownBlock ≠ some B ∧ Below w.heap.size w wr) (fun x _ wr => 201 - (match x with | .slice _ n _ => n | _ => 0))
  case atStart => exact ⟨_, 0, 1, 1, 1, q - p, p, [], rfl, Nat.le_refl _, InGap.first hp1 hpq, rfl, by simp, hq0, ht0, World.ownsRow_nil _ _ _ _, by simp [Value.ownBlock], hB0⟩
  case round =>
    clear hq0 ht0 hB0
    obtain ⟨B, a, b, c, d, u, v, pre, rfl, hBB, HI, HP, hpl, hq4, ht2, hown, hne, hB⟩ := hrel
    have hsm := HI.out.small
    simp only at hsm
    have hsmall : Small 10000000 ⟨a, b, c, d⟩ := ⟨by simp only; omega, by simp only; omega, by simp only; omega, by simp only; omega⟩
    have hM := fun w => middle_any ⟨a, b, c, d⟩ hsmall w
    have HSm := Lib.hid hsmall
    clear hsmall
    unfold frV midG gapV at hM
    simp only at hM
    obtain ⟨m1, hm1⟩ : ∃ m, a + c = m := ⟨_, rfl⟩
    obtain ⟨m2, hm2⟩ : ∃ m, b + d = m := ⟨_, rfl⟩
    rw [hm1, hm2] at hM hsm
    have HM := Lib.hid hM
    have Hq4 := Lib.hid hq4
    have Ht2 := Lib.hid ht2
    have Hown := Lib.hid hown
    have HB := Lib.hid hB
    obtain ⟨⟨d0, d1, d2, d3⟩, _⟩ := hq4.cells
    obtain ⟨c0, c1, _, _⟩ := ht2.cells
    obtain ⟨ad, cap, rfl, _, _⟩ := ownsRow_open hown
    have hne2 : ∀ k, (Value.slice ad pre.length cap).ownBlock = some k → w2.heap.size ≤ k := fun k e => (hown.lt k e).1
    have HNe := Lib.hid hne
    have HNe2 := Lib.hid hne2
    clear hM hq4 ht2 hown hB hne hne2
    by_cases huv : u = v
    · obtain ⟨g1, g2⟩ := HI.out.one HG.out huv
      simp only at g1 g2
      obtain rfl : m1 = p := by omega
      obtain rfl : m2 = q := by omega
      clear g1 g2 hm1 hm2
      have Huv := Lib.hid huv
      clear huv
      go_wp2_with fail
      go_region_held3 (fun w' => w'.cell? ⟨w.heap.size, 0, none⟩ = some (.int .i64 m1) ∧ w'.cell? ⟨w.heap.size, 1, none⟩ = some (.int .i64 m2) ∧ w'.cell? ⟨B, 0, none⟩ = some (.int .i64 a) ∧ w'.cell? ⟨B, 1, none⟩ = some (.int .i64 b) ∧ w'.cell? ⟨B, 2, none⟩ = some (.int .i64 c) ∧ w'.cell? ⟨B, 3, none⟩ = some (.int .i64 d))
        (first | exact ⟨c0, c1, d0, d1, d2, d3⟩ | exact ⟨f0, f1, e0, e1, e2, e3⟩)
        (first | (go_at_call 24; refine (HM.out _).mono ?_; rintro e x1 ⟨rfl, b1⟩; have b2 := undrew1 b1; have HQ := Lib.hid (Hq4.out.below b2); have HT := Lib.hid (Ht2.out.below b2); obtain ⟨⟨e0, e1, e2, e3⟩, _⟩ := HQ.out.cells; obtain ⟨f0, f1, _, _⟩ := HT.out.cells))
      have hown1 := own_below Hown.out b2
      have hpe : pth (m2 - m1) m1 = pre := by rw [HP.out, Huv.out, pth_eq, List.append_nil]
      have hR : pthR m1 m2 = (⟨pre.toArray⟩, 0) := by unfold pthR; rw [hpe, if_pos hpl]
      have HR := Lib.hid hR
      have hkc := conv_row x1 _ _ _ hown1
      have HB2 := Lib.hid (b_next HB.out b2)
      clear hown1 hpe hR e0 e1 e2 e3 f0 f1 d0 d1 d2 d3 c0 c1
      go_wp2_with fail
      go_ret2
      exact ⟨by rw [HR.out]; rfl, HB2.out⟩
    · have hnf : ¬ (m1 = p ∧ m2 = q) := fun e => huv (HI.out.less.2 (by simp only; omega) (by simp only; omega))
      have hsplit : (((m1 : Int) == p) = false ∧ ¬ (m1 : Int) = p) ∨ (((m1 : Int) == p) = true ∧ ((m2 : Int) == q) = false) := by
        by_cases e : m1 = p
        · exact .inr ⟨by rw [beq_iff_eq]; omega, by rw [beq_eq_false_iff_ne]; omega⟩
        · exact .inl ⟨by rw [beq_eq_false_iff_ne]; omega, by omega⟩
      have Huv := Lib.hid huv
      have Hm1 := Lib.hid hm1
      have Hm2 := Lib.hid hm2
      clear huv hm1 hm2 hnf
      rcases hsplit with ⟨k1, k2⟩ | ⟨k1, k2⟩
      all_goals go_wp2_with fail
      all_goals go_region_held3 (fun w' => w'.cell? ⟨w.heap.size, 0, none⟩ = some (.int .i64 p) ∧ w'.cell? ⟨w.heap.size, 1, none⟩ = some (.int .i64 q) ∧ w'.cell? ⟨B, 0, none⟩ = some (.int .i64 a) ∧ w'.cell? ⟨B, 1, none⟩ = some (.int .i64 b) ∧ w'.cell? ⟨B, 2, none⟩ = some (.int .i64 c) ∧ w'.cell? ⟨B, 3, none⟩ = some (.int .i64 d))
        (first | exact ⟨c0, c1, d0, d1, d2, d3⟩ | exact ⟨f0, f1, e0, e1, e2, e3⟩)
        (first | (go_at_call 24; refine (HM.out _).mono ?_; rintro e x1 ⟨rfl, b1⟩; have b2 := undrew1 b1; have HQ := Lib.hid (Hq4.out.below b2); have HT := Lib.hid (Ht2.out.below b2); obtain ⟨⟨e0, e1, e2, e3⟩, _⟩ := HQ.out.cells; obtain ⟨f0, f1, _, _⟩ := HT.out.cells))
      all_goals
        have HO1 := Lib.hid (own_below Hown.out b2)
        have HBx := Lib.hid (b_next HB.out b2)
        clear d0 d1 d2 d3 c0 c1 b1 b2 k1 k2
        by_cases hfull : pre.length = 200
        · have hR : pthR p q = (ByteArray.empty, 5) := by
            unfold pthR; rw [if_neg]
            rw [HP.out, List.length_append]
            have := pth_ne HI.out.u1 HI.out.v1 Huv.out
            omega
          have HR := Lib.hid hR
          have hfc : ((pre.length : Int) == 200) = true := by rw [beq_iff_eq]; omega
          clear hR
          go_wp2_with fail
          go_ret2
          exact ⟨by rw [HR.out]; rfl, HBx.out⟩
        · have hfc : ((pre.length : Int) == 200) = false := by rw [beq_eq_false_iff_ne]; omega
          have hl := fun w => isLess_any (p, q) (m1, m2) ⟨by simp only; omega, by simp only; omega⟩ ⟨by simp only; omega, by simp only; omega⟩ w
          rw [show lessF (p, q) (m1, m2) = decide (v < u) from by
            have := HI.out.less.1
            simp only [Hm1.out, Hm2.out] at this
            unfold lessF; simp only; exact decide_eq_decide.2 this] at hl
          unfold frV at hl
          simp only at hl
          have hu1 := HI.out.u1
          have hv1 := HI.out.v1
          have hne := Huv.out
          by_cases hvu : v < u
          · rw [decide_eq_true hvu] at hl
            have hf := fun w => left_any ⟨a, b, c, d⟩ HSm.out w
            unfold gapV leftG at hf
            simp only [Hm1.out, Hm2.out] at hf
            have hI := HI.out.left hvu
            simp only [Hm1.out, Hm2.out] at hI
            have hP : pth (q - p) p = (pre ++ [76]) ++ pth (u - v) v := by rw [HP.out, pth_lt hv1 hvu, List.append_assoc]; rfl
            have HL := Lib.hid hl
            have HF := Lib.hid hf
            have HI2 := Lib.hid hI
            have HP2 := Lib.hid hP
            clear hl hf hI hP hu1 hv1 hne hvu
            go_wp2_with fail
            go_region_held3 (fun w' => w'.cell? ⟨w.heap.size, 0, none⟩ = some (.int .i64 p) ∧ w'.cell? ⟨w.heap.size, 1, none⟩ = some (.int .i64 q) ∧ w'.cell? ⟨B, 0, none⟩ = some (.int .i64 a) ∧ w'.cell? ⟨B, 1, none⟩ = some (.int .i64 b) ∧ w'.cell? ⟨B, 2, none⟩ = some (.int .i64 c) ∧ w'.cell? ⟨B, 3, none⟩ = some (.int .i64 d))
              (first | exact ⟨f0, f1, e0, e1, e2, e3⟩ | exact ⟨g0, g1, h0, h1, h2, h3⟩ | exact ⟨j0, j1, k0, k1, k2, k3⟩)
              (first
                 | (go_at_call 24; refine (HM.out _).mono ?_; rintro e x2 ⟨rfl, b3⟩; have b4 := undrew1 b3; have HQ2 := Lib.hid (HQ.out.below b4); have HT2 := Lib.hid (HT.out.below b4); have HO2 := Lib.hid (own_below HO1.out b4); have HB2 := Lib.hid (b_next HBx.out b4); obtain ⟨⟨h0, h1, h2, h3⟩, _⟩ := HQ2.out.cells; obtain ⟨g0, g1, _, _⟩ := HT2.out.cells)
                 | (go_at_call 34; refine (HL.out _).mono ?_; rintro e x3 ⟨rfl, b5⟩; have HQ3 := Lib.hid (HQ2.out.below b5); have HT3 := Lib.hid (HT2.out.below b5); have HO3 := Lib.hid (own_below HO2.out b5); have HB3 := Lib.hid (b_next HB2.out b5); obtain ⟨⟨k0, k1, k2, k3⟩, _⟩ := HQ3.out.cells; obtain ⟨j0, j1, _, _⟩ := HT3.out.cells))
            go_wp2_with (at_builtin; refine wpList_append_own_at _ rfl _ _ 59 rfl w2.heap.size 5 i0 (.int .u8 0) 1 1 Tryd.underlying59 hi hz0 hz1 hz2 rfl (by decide) _ _ _ rfl (HO3.out.alloc _) ⟨x3.heap.size, 0, none⟩ 1 1 [_] rfl rfl (cell_one_new _ _ _) (by simp [Value.oneCell']) (by unfold maxLen; omega) (by omega) (by have := HQ3.out.lt; simp; omega) ?_)
            intro v' w4 hown' hgrow _ hblk
            have hs3 := HQ3.out.lt
            have hq4 := (HQ3.out.alloc _).kept hgrow (fun e => HNe.out e.symm)
            have ht4 := (HT3.out.alloc _).kept hgrow (fun e => by have := HNe2.out _ e.symm; omega)
            have hne4 : v'.ownBlock ≠ some B := by
              rcases hblk with e | e
              · rw [e]; exact HNe.out
              · rw [e]; intro e2; have := Option.some.inj e2; omega
            have hb4 : Below w.heap.size w w4 := ((HB3.out.alloc HB3.out.size _).grown hgrow (by have := HB3.out.size; simp; omega) (fun k e => by have := HNe2.out k e; omega))
            have hown4 : w4.ownsRow w2.heap.size 5 1 v' (pre ++ [76]).length (byteL (pre ++ [76])) := by rw [byteL_snoc, List.length_append]; exact hown'
            obtain ⟨⟨l0, l1, l2, l3⟩, _⟩ := hq4.cells
            have HQ4 := Lib.hid hq4
            have HT4 := Lib.hid ht4
            have HN4 := Lib.hid hne4
            have HB4 := Lib.hid hb4
            have HO4 := Lib.hid hown4
            clear hown' hgrow hblk hq4 ht4 hne4 hb4 hown4
            go_wp2_with fail
            refine (HF.out _).mono ?_
            rintro e w5 ⟨rfl, b6⟩
            have HQ5 := Lib.hid (HQ4.out.below b6)
            have HT5 := Lib.hid (HT4.out.below b6)
            have HB5 := Lib.hid (b_next HB4.out b6)
            have HO5 := Lib.hid (own_below HO4.out b6)
            obtain ⟨⟨o0, o1, o2, o3⟩, o4, o5, o6, o7⟩ := HQ5.out.cells
            clear b6
            go_wp2_with fail
            obtain ⟨z1, z2, z3, z4, z5⟩ := path_end (a := a) (b := b) (c := m1) (d := m2) HT5.out hlt2 hBB HO5.out HN4.out HB5.out
            obtain ⟨ad', cap', rfl, _, _⟩ := ownsRow_open HO5.out
            go_roundw
            case rel => exact ⟨w5.heap.size, a, b, m1, m2, u - v, v, pre ++ [76], rfl, by have := HQ5.out.lt; omega, HI2.out, HP2.out, by rw [List.length_append]; simp; omega, z1, z2, z3, z4, z5⟩
            case measure => simp only [List.length_append, List.length_cons, List.length_nil]; omega
          · rw [decide_eq_false hvu] at hl
            have huv2 : u < v := by omega
            have hf := fun w => right_any ⟨a, b, c, d⟩ HSm.out w
            unfold gapV rightG at hf
            simp only [Hm1.out, Hm2.out] at hf
            have hI := HI.out.right huv2
            simp only [Hm1.out, Hm2.out] at hI
            have hP : pth (q - p) p = (pre ++ [82]) ++ pth u (v - u) := by rw [HP.out, pth_gt hu1 huv2, List.append_assoc]; rfl
            have HL := Lib.hid hl
            have HF := Lib.hid hf
            have HI2 := Lib.hid hI
            have HP2 := Lib.hid hP
            clear hl hf hI hP hu1 hv1 hne hvu huv2
            go_wp2_with fail
            go_region_held3 (fun w' => w'.cell? ⟨w.heap.size, 0, none⟩ = some (.int .i64 p) ∧ w'.cell? ⟨w.heap.size, 1, none⟩ = some (.int .i64 q) ∧ w'.cell? ⟨B, 0, none⟩ = some (.int .i64 a) ∧ w'.cell? ⟨B, 1, none⟩ = some (.int .i64 b) ∧ w'.cell? ⟨B, 2, none⟩ = some (.int .i64 c) ∧ w'.cell? ⟨B, 3, none⟩ = some (.int .i64 d))
              (first | exact ⟨f0, f1, e0, e1, e2, e3⟩ | exact ⟨g0, g1, h0, h1, h2, h3⟩ | exact ⟨j0, j1, k0, k1, k2, k3⟩)
              (first
                 | (go_at_call 24; refine (HM.out _).mono ?_; rintro e x2 ⟨rfl, b3⟩; have b4 := undrew1 b3; have HQ2 := Lib.hid (HQ.out.below b4); have HT2 := Lib.hid (HT.out.below b4); have HO2 := Lib.hid (own_below HO1.out b4); have HB2 := Lib.hid (b_next HBx.out b4); obtain ⟨⟨h0, h1, h2, h3⟩, _⟩ := HQ2.out.cells; obtain ⟨g0, g1, _, _⟩ := HT2.out.cells)
                 | (go_at_call 34; refine (HL.out _).mono ?_; rintro e x3 ⟨rfl, b5⟩; have HQ3 := Lib.hid (HQ2.out.below b5); have HT3 := Lib.hid (HT2.out.below b5); have HO3 := Lib.hid (own_below HO2.out b5); have HB3 := Lib.hid (b_next HB2.out b5); obtain ⟨⟨k0, k1, k2, k3⟩, _⟩ := HQ3.out.cells; obtain ⟨j0, j1, _, _⟩ := HT3.out.cells))
            go_wp2_with (at_builtin; refine wpList_append_own_at _ rfl _ _ 59 rfl w2.heap.size 5 i0 (.int .u8 0) 1 1 Tryd.underlying59 hi hz0 hz1 hz2 rfl (by decide) _ _ _ rfl (HO3.out.alloc _) ⟨x3.heap.size, 0, none⟩ 1 1 [_] rfl rfl (cell_one_new _ _ _) (by simp [Value.oneCell']) (by unfold maxLen; omega) (by omega) (by have := HQ3.out.lt; simp; omega) ?_)
            intro v' w4 hown' hgrow _ hblk
            have hs3 := HQ3.out.lt
            have hq4 := (HQ3.out.alloc _).kept hgrow (fun e => HNe.out e.symm)
            have ht4 := (HT3.out.alloc _).kept hgrow (fun e => by have := HNe2.out _ e.symm; omega)
            have hne4 : v'.ownBlock ≠ some B := by
              rcases hblk with e | e
              · rw [e]; exact HNe.out
              · rw [e]; intro e2; have := Option.some.inj e2; omega
            have hb4 : Below w.heap.size w w4 := ((HB3.out.alloc HB3.out.size _).grown hgrow (by have := HB3.out.size; simp; omega) (fun k e => by have := HNe2.out k e; omega))
            have hown4 : w4.ownsRow w2.heap.size 5 1 v' (pre ++ [82]).length (byteL (pre ++ [82])) := by rw [byteL_snoc, List.length_append]; exact hown'
            obtain ⟨⟨l0, l1, l2, l3⟩, _⟩ := hq4.cells
            have HQ4 := Lib.hid hq4
            have HT4 := Lib.hid ht4
            have HN4 := Lib.hid hne4
            have HB4 := Lib.hid hb4
            have HO4 := Lib.hid hown4
            clear hown' hgrow hblk hq4 ht4 hne4 hb4 hown4
            go_wp2_with fail
            refine (HF.out _).mono ?_
            rintro e w5 ⟨rfl, b6⟩
            have HQ5 := Lib.hid (HQ4.out.below b6)
            have HT5 := Lib.hid (HT4.out.below b6)
            have HB5 := Lib.hid (b_next HB4.out b6)
            have HO5 := Lib.hid (own_below HO4.out b6)
            obtain ⟨⟨o0, o1, o2, o3⟩, o4, o5, o6, o7⟩ := HQ5.out.cells
            clear b6
            go_wp2_with fail
            obtain ⟨z1, z2, z3, z4, z5⟩ := path_end (a := m1) (b := m2) (c := c) (d := d) HT5.out hlt2 hBB HO5.out HN4.out HB5.out
            obtain ⟨ad', cap', rfl, _, _⟩ := ownsRow_open HO5.out
            go_roundw
            case rel => exact ⟨w5.heap.size, m1, m2, c, d, u, v - u, pre ++ [82], rfl, by have := HQ5.out.lt; omega, HI2.out, HP2.out, by rw [List.length_append]; simp; omega, z1, z2, z3, z4, z5⟩
            case measure => simp only [List.length_append, List.length_cons, List.length_nil]; omega

set_option maxRecDepth 100000 in
set_option maxHeartbeats 4000000 in
theorem Path_no (p q : Int) (hv : (validB p q && !(q == 1)) = false) (w : World) :
    Calls Tryd.prog 13 #[.agg #[.int .i64 p, .int .i64 q]] w fun e w' => e = .returned (.tuple #[.string ByteArray.empty, .int .i64 2]) ∧ Below w.heap.size w w' := by
  have hV := fun w => isValid_any p q w
  cases h : validB p q with
  | false =>
    rw [h] at hV
    have HV := Lib.hid hV
    clear hV h hv
    go_enter Tryd.func13, Tryd.ntmps13
    go_wp2_with fail
    refine (HV.out _).mono ?_
    rintro e w1 ⟨rfl, b1⟩
    have HB1 := Lib.hid (b_next (below_alloc w _) b1)
    clear b1
    go_wp2_with fail
    go_ret2
    exact ⟨rfl, HB1.out⟩
  | true =>
    have hq : (q == 1) = true := by rw [h, Bool.true_and, Bool.not_eq_false'] at hv; exact hv
    obtain rfl : q = 1 := by simpa using hq
    rw [h] at hV
    have HV := Lib.hid hV
    clear hV h hv hq
    go_enter Tryd.func13, Tryd.ntmps13
    go_wp2_with fail
    refine (HV.out _).mono ?_
    rintro e w1 ⟨rfl, b1⟩
    obtain ⟨c0, c1⟩ := arg_below b1
    have HB1 := Lib.hid (b_next (below_alloc w _) b1)
    clear b1
    go_wp2_with fail
    go_ret2
    exact ⟨rfl, HB1.out⟩
end Go.Proofs.YtfelmjanffhahaaDoor
