/- Results of trim are new memory: TrimOwn. -/
import Derived.Test.YteejjcipdpojnaaSmash
import Derived.Test.YteejjcipdpojnaaRpals
import Derived.Test.YteejjcipdpojnaaFew
import Derived.Test.YteejjcipdpojnaaParts
import Derived.Test.YteejjcipdpojnaaOutmath
namespace Go.Proofs.Yteejjcipdpojnaa
set_option linter.unusedVariables false
open Go.RowKit

theorem own_drawn2 {w : World} {base n : Nat} {e : TypeId} {v : Value} {xs : List Value} (h : w.ownsRow base e 1 v n xs) (i j : Nat) : ((w.drewN i).drewN j).ownsRow base e 1 v n xs := h
theorem apart {v v' : Value} {x y z : Nat} (h : ∀ k, v.ownBlock = some k → x ≤ k ∧ k < y) (h' : ∀ k, v'.ownBlock = some k → z ≤ k) (hyz : y ≤ z) : (∀ k j, v.ownBlock = some k → v'.ownBlock = some j → k ≠ j) ∧ ∀ k j, v'.ownBlock = some k → v.ownBlock = some j → k ≠ j :=
  ⟨fun k j hk hj => by have := h k hk; have := h' j hj; omega, fun k j hk hj => by have := h' k hk; have := h j hj; omega⟩

set_option maxRecDepth 100000 in
set_option maxHeartbeats 16000000 in
theorem walk_TrimOwn (a : ByteArray) (ha : a.size ≤ maxLen) (w : World) :
    Calls Try.prog 15 #[.string a] w fun e w' => e = .returned (.bool true) ∧ Below w.heap.size w w' := by
  obtain ⟨s, hs⟩ : ∃ s, mk (tameL a.data.toList 40) = s := ⟨_, rfl⟩
  have hw : wordB s.data.toList = true := by rw [← hs, data_mk]; exact tame_word2 _ _ (by omega)
  have hsz : s.size ≤ 40 := by rw [← hs, mk_size]; unfold tameL; rw [List.length_map, List.length_take]; omega
  obtain ⟨l, hl⟩ : ∃ l, s.data.toList = l := ⟨_, rfl⟩
  have hll : l.length = s.size := by rw [← hl, data_length]
  obtain ⟨p, hp⟩ : ∃ p, palsL l = p := ⟨_, rfl⟩
  obtain ⟨np, hnp⟩ : ∃ n, p.length = n := ⟨_, rfl⟩
  have hnl : np ≤ l.length := by rw [← hnp, ← hp]; exact sortS_len_le l l.length
  have RP : Hid (palsR s = (p, 0)) := by unfold palsR; rw [hw, hl, hp]; rfl
  obtain ⟨m, hm⟩ : ∃ m, 2 * s.size - 1 = m := ⟨_, rfl⟩
  obtain ⟨cs, hcs⟩ : ∃ c, centers l = c := ⟨_, rfl⟩
  have hcsl : cs.length = m := by rw [← hcs, ← hm, ← hll]; exact centersTo_length _ _
  have RC : Hid (centersR s = (cs, 0)) := by unfold centersR; rw [hw, hl, hcs]; rfl
  obtain ⟨f, hf⟩ : ∃ f, partsL l = f := ⟨_, rfl⟩
  obtain ⟨nf, hnf⟩ : ∃ n, f.length = n := ⟨_, rfl⟩
  have RF : Hid (fewR s = (f, 0)) := by unfold fewR; rw [hw, hl, hf]; rfl
  have hfl : nf ≤ 40 := by rw [← hnf, ← hf, partsL_length]; have := fewAt_le l l.length; omega
  have hfs : ∀ x ∈ f, x.length ≤ 100 := fun x hx => by rw [← hf] at hx; have := partsL_small l x hx; omega
  have hnp1 : np ≤ 1000 := by omega
  have hm1 : m ≤ 1000 := by omega
  have h100 : s.size ≤ 100 := by omega
  have H := Lib.hid hs
  have HL := Lib.hid hl
  have LP := Lib.hid hnp
  have LC := Lib.hid hcsl
  have LF := Lib.hid hnf
  have HP := Lib.hid hp
  have HC := Lib.hid hcs
  have HM := Lib.hid hm
  have HFS := Lib.hid hfs
  clear hs hl hll hw hp hnp hnl hm hcs hcsl hf hnf hfs
  go_enter Try.func15, Try.ntmps15
  go_wp2_with fail
  refine (tame_any a 40 _ ha (by omega)).mono ?_
  rintro e w1 ⟨rfl, b1⟩
  rw [H.out]
  go_wp2_with fail
  refine (Palindromes_any s _ (by omega)).mono ?_
  rintro e w2 ⟨v2, rfl, o2, b2⟩
  rw [RP.out] at o2
  rw [RP.out]
  simp only [LP.out] at o2
  obtain ⟨a2, c2, rfl, q2⟩ := Row.of_own o2
  have L2 := Lib.hid o2.lt
  clear q2
  have O2 := Lib.hid o2
  clear o2
  go_wp2_with fail
  refine (Centers_any s _ (by omega)).mono ?_
  rintro e w3 ⟨v3, rfl, o3, b3⟩
  rw [RC.out] at o3
  rw [RC.out]
  simp only [LC.out] at o3
  obtain ⟨a3, c3, rfl, q3⟩ := Row.of_own o3
  have L3 := Lib.hid o3.lt
  clear q3
  have O3 := Lib.hid o3
  clear o3
  go_wp2_with fail
  refine (Fewest_any s _ (by omega)).mono ?_
  rintro e w4 ⟨v4, rfl, o4, b4⟩
  rw [RF.out] at o4
  rw [RF.out]
  simp only [LF.out] at o4
  obtain ⟨a4, c4, rfl, q4⟩ := Row.of_own o4
  have L4 := Lib.hid o4.lt
  have O4 := Lib.hid o4
  clear o4
  have Q4 := Lib.hid q4
  clear q4
  go_wp2_with fail
  refine (few_row a4 nf c4 f _ Q4.out (by omega) HFS.out).mono ?_
  rintro e w5 ⟨v5, rfl, o5, b5⟩
  obtain ⟨a5, c5, rfl, q5⟩ := Row.of_own o5
  have L5 := Lib.hid o5.lt
  have O5 := Lib.hid o5
  have Q45 := Lib.hid (Q4.out.below b5)
  have Q5 := Lib.hid q5
  clear o5 q5
  go_wp2_with fail
  refine (Check_any s a4 nf c4 f _ (by omega) (by omega) (fun x hx => by have := HFS.out x hx; omega) Q45.out).mono ?_
  rintro e w6 ⟨rfl, n6, rfl⟩
  go_wp2_with fail
  refine (texts_any a4 a5 nf nf c4 c5 f f _ (Q45.out.drewN n6) (Q5.out.drewN n6) (by omega) (by omega)).mono ?_
  rintro e w7 ⟨rfl, n7, hw7⟩
  rw [decide_eq_true rfl]
  have P2 : Hid (w7.ownsRow w1.heap.size 9 1 (.slice a2 np c2) np (strs p)) := by rw [hw7]; exact own_drawn2 (own_below (own_below (own_below O2.out b3) b4) b5) n6 n7
  have P3 : Hid (w7.ownsRow w2.heap.size 3 1 (.slice a3 m c3) m (nats cs)) := by rw [hw7]; exact own_drawn2 (own_below (own_below O3.out b4) b5) n6 n7
  have P4 : Hid (w7.ownsRow w3.heap.size 9 1 (.slice a4 nf c4) nf (strs f)) := by rw [hw7]; exact own_drawn2 (own_below O4.out b5) n6 n7
  have P5 : Hid (w7.ownsRow w4.heap.size 9 1 (.slice a5 nf c5) nf (strs f)) := by rw [hw7]; exact own_drawn2 O5.out n6 n7
  have HB : Hid (Below w.heap.size w w7) := by rw [hw7]; exact below_drewN (below_drewN (b_next (b_next (b_next (b_next b1 b2) b3) b4) b5) n6) n7
  have z1 := b1.size
  have z2 := b2.size
  have z3 := b3.size
  have z4 := b4.size
  have z5 := b5.size
  have Z1 : Hid (w.heap.size ≤ w1.heap.size ∧ w1.heap.size ≤ w2.heap.size ∧ w2.heap.size ≤ w3.heap.size ∧ w3.heap.size ≤ w4.heap.size) := ⟨z1, z2, z3, z4⟩
  have S23 := Lib.hid (apart L2.out (fun k hk => (L3.out k hk).1) (Nat.le_refl _))
  have S24 := Lib.hid (apart L2.out (fun k hk => (L4.out k hk).1) z3)
  have S34 := Lib.hid (apart L3.out (fun k hk => (L4.out k hk).1) (Nat.le_refl _))
  have S25 := Lib.hid (apart L2.out (fun k hk => (L5.out k hk).1) (Nat.le_trans z3 z4))
  have S35 := Lib.hid (apart L3.out (fun k hk => (L5.out k hk).1) z4)
  have S45 := Lib.hid (apart L4.out (fun k hk => (L5.out k hk).1) (Nat.le_refl _))
  have B2 : Hid (w.heap.size ≤ w1.heap.size) := z1
  have B3 : Hid (w.heap.size ≤ w2.heap.size) := Nat.le_trans z1 z2
  have B4 : Hid (w.heap.size ≤ w3.heap.size) := Nat.le_trans B3.out z3
  clear hw7 z1 z2 z3 z4 z5 b1 b2 b3 b4 b5 O2 O3 O4 O5 Q4 Q45 Q5 L2 L3 L4 L5 Z1
  go_wp2_with fail
  go_loopw [11] (fun i wr => ∃ k : Nat, k ≤ np ∧ i = .int .i64 k ∧ Smashed w1.heap.size 9 a2 np c2 w7 wr) (fun i _ => np - (intOf i).toNat)
  case atStart => exact ⟨0, Nat.zero_le _, rfl, Smashed.start P2.out⟩
  case round =>
    obtain ⟨k, hk, rfl, hS⟩ := hrel
    by_cases hlt : k < np
    · have hc : (k : Int) < np := by omega
      obtain ⟨g, rfl, ⟨u, hcell⟩, hfr⟩ := hS.cell k hlt
      have hS' := hS.store k (.string ⟨#[120]⟩)
      clear hS
      go_wp2
      go_roundw
      case rel => exact ⟨k + 1, by omega, by go_num, hS'⟩
      case measure => simp [intOf]; omega
    · have hc : ¬ (k : Int) < np := by omega
      have R3 : Hid (wr.ownsRow w2.heap.size 3 1 (.slice a3 m c3) m (nats cs)) := hS.other P3.out (fun k j hk hj => S23.out.2 k j hk hj)
      have R4 : Hid (wr.ownsRow w3.heap.size 9 1 (.slice a4 nf c4) nf (strs f)) := hS.other P4.out (fun k j hk hj => S24.out.2 k j hk hj)
      have R5 : Hid (wr.ownsRow w4.heap.size 9 1 (.slice a5 nf c5) nf (strs f)) := hS.other P5.out (fun k j hk hj => S25.out.2 k j hk hj)
      have HB1 := Lib.hid (hS.below HB.out B2.out)
      obtain ⟨w8, hw8⟩ : ∃ w8 : World, w8 = wr := ⟨_, rfl⟩
      subst hw8
      clear hS
      go_wp2
      go_loopw [12] (fun i wr => ∃ k : Nat, k ≤ m ∧ i = .int .i64 k ∧ Smashed w2.heap.size 3 a3 m c3 w8 wr) (fun i _ => m - (intOf i).toNat)
      case atStart => exact ⟨0, Nat.zero_le _, rfl, Smashed.start R3.out⟩
      case round =>
        obtain ⟨k, hk, rfl, hS⟩ := hrel
        by_cases hlt : k < m
        · have hc : (k : Int) < m := by omega
          obtain ⟨g, rfl, ⟨u, hcell⟩, hfr⟩ := hS.cell k hlt
          have hS' := hS.store k (.int .i64 (-7))
          clear hS
          go_wp2
          go_roundw
          case rel => exact ⟨k + 1, by omega, by go_num, hS'⟩
          case measure => simp [intOf]; omega
        · have hc : ¬ (k : Int) < m := by omega
          have T4 : Hid (wr.ownsRow w3.heap.size 9 1 (.slice a4 nf c4) nf (strs f)) := hS.other R4.out (fun k j hk hj => S34.out.2 k j hk hj)
          have T5 : Hid (wr.ownsRow w4.heap.size 9 1 (.slice a5 nf c5) nf (strs f)) := hS.other R5.out (fun k j hk hj => S35.out.2 k j hk hj)
          have HB2 := Lib.hid (hS.below HB1.out B3.out)
          obtain ⟨w9, hw9⟩ : ∃ w9 : World, w9 = wr := ⟨_, rfl⟩
          subst hw9
          clear hS
          go_wp2
          go_loopw [13] (fun i wr => ∃ k : Nat, k ≤ nf ∧ i = .int .i64 k ∧ Smashed w3.heap.size 9 a4 nf c4 w9 wr) (fun i _ => nf - (intOf i).toNat)
          case atStart => exact ⟨0, Nat.zero_le _, rfl, Smashed.start T4.out⟩
          case round =>
            obtain ⟨k, hk, rfl, hS⟩ := hrel
            by_cases hlt : k < nf
            · have hc : (k : Int) < nf := by omega
              obtain ⟨g, rfl, ⟨u, hcell⟩, hfr⟩ := hS.cell k hlt
              have hS' := hS.store k (.string ⟨#[120]⟩)
              clear hS
              go_wp2
              go_roundw
              case rel => exact ⟨k + 1, by omega, by go_num, hS'⟩
              case measure => simp [intOf]; omega
            · have hc : ¬ (k : Int) < nf := by omega
              have U5 : Hid (wr.ownsRow w4.heap.size 9 1 (.slice a5 nf c5) nf (strs f)) := hS.other T5.out (fun k j hk hj => S45.out.2 k j hk hj)
              have HB3 := Lib.hid (hS.below HB2.out B4.out)
              obtain ⟨w10, hw10⟩ : ∃ w10 : World, w10 = wr := ⟨_, rfl⟩
              subst hw10
              clear hS R3 R4 R5 T4 T5 S23 S24 S25 S34 S35 S45 P2 P3 P4 P5 HB HB1 HB2
              obtain ⟨a5', c5', hv5, q5⟩ := Row.of_own U5.out
              obtain ⟨rfl, rfl⟩ : a5 = a5' ∧ c5 = c5' := by simpa using hv5
              have Q5 := Lib.hid q5
              clear hv5 q5
              go_wp2_with fail
              refine (Palindromes_any s _ (by omega)).mono ?_
              rintro e w11 ⟨v11, rfl, o11, b11⟩
              rw [RP.out] at o11
              rw [RP.out]
              simp only [LP.out] at o11
              obtain ⟨a11, c11, rfl, q11⟩ := Row.of_own o11
              clear o11
              go_wp2_with fail
              refine (Centers_any s _ (by omega)).mono ?_
              rintro e w12 ⟨v12, rfl, o12, b12⟩
              rw [RC.out] at o12
              rw [RC.out]
              simp only [LC.out] at o12
              obtain ⟨a12, c12, rfl, q12⟩ := Row.of_own o12
              clear o12
              go_wp2_with fail
              refine (Fewest_any s _ (by omega)).mono ?_
              rintro e w13 ⟨v13, rfl, o13, b13⟩
              rw [RF.out] at o13
              rw [RF.out]
              simp only [LF.out] at o13
              obtain ⟨a13, c13, rfl, q13⟩ := Row.of_own o13
              clear o13
              go_wp2_with fail
              refine (refPals_any s _ h100).mono ?_
              rintro e w14 ⟨a14, c14, rfl, q14, b14⟩
              rw [HL.out, HP.out] at q14
              rw [HL.out, HP.out]
              simp only [LP.out] at q14 ⊢
              go_wp2_with fail
              refine (texts_any _ _ _ _ _ _ _ _ _ (((q11.below b12).below b13).below b14) q14 hnp1 hnp1).mono ?_
              rintro e w' ⟨rfl, n15, rfl⟩
              rw [decide_eq_true rfl]
              go_wp2_with fail
              refine (refCenters_any s _ (by omega)).mono ?_
              rintro e w16 ⟨v16, rfl, o16, b16⟩
              rw [HL.out, HC.out, HM.out] at o16
              obtain ⟨a16, c16, rfl, q16⟩ := Row.of_own o16
              clear o16
              have q12' := Row.below (w := w14.drewN n15) (Row.drewN ((q12.below b13).below b14) n15) b16
              rw [nats_intL] at q12' q16
              go_wp2_with fail
              refine (ints_any _ _ _ _ _ _ _ _ _ q12' q16 hm1 hm1).mono ?_
              rintro e w' ⟨rfl, n17, rfl⟩
              rw [decide_eq_true rfl]
              have q13' := Row.below (w := w14.drewN n15) (Row.drewN (q13.below b14) n15) b16
              have q5' := Row.below (w := w14.drewN n15) (Row.drewN ((((Q5.out.below b11).below b12).below b13).below b14) n15) b16
              go_wp2_with fail
              refine (texts_any _ _ _ _ _ _ _ _ _ (q13'.drewN n17) (q5'.drewN n17) (by omega) (by omega)).mono ?_
              rintro e w' ⟨rfl, n18, rfl⟩
              rw [decide_eq_true rfl]
              go_wp2_with fail
              refine (awake_any _).mono ?_
              rintro e w19 ⟨rfl, b19⟩
              have hB14 := b_next (b_next (b_next (b_next HB3.out b11) b12) b13) b14
              have hB16 := b_next (below_drewN hB14 n15) b16
              have HBx := Lib.hid (b_next (below_drewN hB16 (n17 + n18)) b19)
              clear hB14 hB16 b11 b12 b13 b14 b16 b19 q11 q12 q13 q14 q16 q12' q13' q5'
              go_wp2
              go_ret
              exact ⟨rfl, HBx.out⟩


namespace lawTrimOwn
open Go.ChangeShapes Go.WideShapes Go.ChangeAt Go.RowKit
open Go.ChangeMaps (open_string shut_string)

theorem own : ownKnob Try.prog.godebug = none := by kernel_rfl
theorem lay : laidOutB Try.prog = true := by kernel_rfl

set_option maxRecDepth 100000 in
theorem lifted (os : Os) (started : os.Started) (H : Type) (enc : TypeId × Value → H) :
    ReturnsInHanded {} Try.checked os 15 .any (Rows.trimOwnSpec.pre6 enc Try.prog Try.f15 Rows.trimOwnRow.domain false) (Rows.trimOwnSpec.post enc Try.prog Try.f15 false true false false) := by
  refine returnsInHanded_of_change (C := Try.checked) own started (by kernel_rfl) Try.func15
    (ChangeSpec.witness6 (enc := enc) (C := Try.checked) false ⟨#[], #[.string ByteArray.empty], []⟩ 8 (by kernel_rfl) (by kernel_rfl) (by kernel_rfl) (by kernel_rfl)) ?_
  intro W base args ds gs before hval0 hW hcnd _
  have hval : ∀ (j : Nat) t v, Try.f15.params[j]? = some t → args[j]? = some v → Value.okWide Try.prog W .any base t v := hval0
  have hW' := hW
  obtain ⟨p, q, hA0, hV, rfl, hfz, hnd⟩ := hW
  have hA : DataW.TrodAll enc Try.prog W 0 (fun _ => true) true Try.f15.params.toList args.toList ds p := hA0
  rw [Try.params15] at hA hval
  obtain ⟨v0, vs0, d0, ds0, p0, q0, hargs, rfl, rfl, h0, r0⟩ := trodAll_cons hA
  obtain ⟨rfl, rfl, rfl⟩ := trodAll_nil r0
  obtain rfl : args = #[v0] := by cases args; simp_all
  obtain ⟨rfl, rfl⟩ := trodVars_none hV
  obtain ⟨a0, rfl, rfl, rfl, w0⟩ := open_string Try.underlying9 (hval 0 9 v0 rfl rfl) h0
  simp only [List.append_nil] at hW'
  clear hA0 hval0
  refine (walk_TrimOwn a0 w0 W).mono fun e W' ⟨he, bel⟩ => ?_
  subst he
  exact ⟨_, rfl, _, _, _, [], _, [], hW', trodAll_mk1 (shut_bool Try.underlying4 _), (trodAll_cons_mk (shut_string Try.underlying9 w0) trodAll_mk0), rfl, bel.frame _, fun h => by cases h⟩

theorem over : Rows.trimOwnRow.holds Try.pinned (OpenSpec.ofChange Rows.trimOwnSpec) :=
  OpenClaim.holds_of_wide 15 Try.f15 rfl rfl rfl rfl rfl rfl rfl ⟨rfl, rfl, rfl, rfl, rfl⟩ rfl rfl rfl rfl rfl (by kernel_rfl) Try.func15 (by kernel_rfl)
    (of_decide_eq_true (by kernel_rfl)) (by unfold Func.isWrapper; first | (rw [if_pos (by decide +kernel)]; kernel_rfl) | (rw [if_neg (by decide +kernel)]; exact ⟨rfl, rfl⟩))
    (fun os started H enc _ => lifted os started H enc)

theorem proved : Rows.TrimOwnSaid := over
end lawTrimOwn
end Go.Proofs.Yteejjcipdpojnaa
