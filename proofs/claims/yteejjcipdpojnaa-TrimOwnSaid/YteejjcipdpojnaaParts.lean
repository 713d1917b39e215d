/- The fewest parts are palindromes that are the word, and as many as the reference says: TrimParts. -/
import Derived.Test.YteejjcipdpojnaaRefp
import Derived.Test.YteejjcipdpojnaaChecks
namespace Go.Proofs.Yteejjcipdpojnaa
set_option linter.unusedVariables false
open Go.RowKit

theorem begTo_pal {l : List UInt8} {e k : Nat} {x : Beg e} (h : x ∈ begTo l e k) : pal ((l.take e).drop x.1) = true := by
  unfold begTo at h
  obtain ⟨b, _, hb⟩ := List.mem_filterMap.1 h
  by_cases h1 : b < e
  · rw [dif_pos h1] at hb
    by_cases h2 : pal ((l.take e).drop b) = true
    · rw [if_pos h2] at hb
      have := Option.some.inj hb
      rw [← this]; exact h2
    · rw [if_neg h2] at hb; cases hb
  · rw [dif_neg h1] at hb; cases hb
theorem fewFold_inv {f : Nat → Nat} {p : Nat × Nat → Prop} : ∀ (xs : List Nat) (a : Nat × Nat), p a → (∀ x, x ∈ xs → p (f x + 1, x)) → p (xs.foldl (fewStep f) a)
  | [], _, h, _ => h
  | x :: xs, a, h, hx => by
    rw [List.foldl_cons]
    refine fewFold_inv xs _ ?_ fun y hy => hx y (by simp [hy])
    unfold fewStep; split
    · exact hx x (by simp)
    · exact h
theorem single_pal (l : List UInt8) (k : Nat) (hk : k < l.length) : pal ((l.take (k + 1)).drop k) = true := by
  rw [List.take_succ_eq_append_getElem hk, List.drop_append_of_le_length (by simp; omega), List.drop_of_length_le (by simp; omega)]
  simp [pal]
/-- the last part is a palindrome, and the rest has one part fewer -/
theorem fewAt_last (l : List UInt8) (e : Nat) (h0 : 0 < e) (he : e ≤ l.length) : pal ((l.take e).drop (fewAt l e).2) = true ∧ (fewAt l e).1 = (fewAt l (fewAt l e).2).1 + 1 := by
  obtain ⟨k, rfl⟩ : ∃ k, e = k + 1 := ⟨e - 1, by omega⟩
  rw [fewAt_succ]
  unfold fewAcc
  refine fewFold_inv (p := fun a => pal ((l.take (k + 1)).drop a.2) = true ∧ a.1 = (fewAt l a.2).1 + 1) _ _ ⟨single_pal l k (by omega), rfl⟩ fun x hx => ?_
  obtain ⟨y, hy, rfl⟩ := List.mem_map.1 hx
  exact ⟨begTo_pal hy, rfl⟩
theorem partsGo_length (l : List UInt8) : ∀ (f e : Nat), e ≤ f → e ≤ l.length → (partsGo l f e).length = (fewAt l e).1
  | 0, e, h, _ => by obtain rfl : e = 0 := by omega
                     rfl
  | f + 1, e, h, he => by
    unfold partsGo
    by_cases h0 : e = 0
    · subst h0; rfl
    · rw [if_neg h0, List.length_cons, partsGo_length l f _ (by have := fewAt_lt l (e := e) (by omega); omega) (by have := fewAt_lt l (e := e) (by omega); omega)]
      exact (fewAt_last l e (by omega) he).2.symm
theorem partsGo_small (l : List UInt8) : ∀ (f e : Nat) (x : List UInt8), x ∈ partsGo l f e → x.length ≤ l.length
  | 0, _, _, h => by cases h
  | f + 1, e, x, h => by
    unfold partsGo at h
    by_cases h0 : e = 0
    · rw [if_pos h0] at h; cases h
    · rw [if_neg h0] at h
      rcases List.mem_cons.1 h with rfl | h
      · rw [List.length_drop, List.length_take]; omega
      · exact partsGo_small l f _ x h
theorem prefix_of_append (u v : List UInt8) : Lib.hasPrefix (u ++ v) u = true := by
  show u.isPrefixOf (u ++ v) = true
  exact List.isPrefixOf_iff_prefix.2 (List.prefix_append u v)
theorem partsB_append : ∀ (ps : List (List UInt8)) (u x : List UInt8), partsB u ps = true → pal x = true → x ≠ [] → partsB (u ++ x) (ps ++ [x]) = true
  | [], u, x, h, hp, hx => by
    have hu : u = [] := by simpa [partsB] using h
    subst hu
    have h1 := prefix_of_append x []
    rw [List.append_nil] at h1
    cases x with
    | nil => exact absurd rfl hx
    | cons a t => simp [partsB, hp, h1]
  | p :: ps, u, x, h, hp, hx => by
    simp only [partsB, Bool.and_eq_true] at h
    obtain ⟨⟨⟨h1, h2⟩, h3⟩, h4⟩ := h
    obtain ⟨t, rfl⟩ : ∃ t, u = p ++ t := by
      obtain ⟨t, ht⟩ := List.isPrefixOf_iff_prefix.1 (show p.isPrefixOf u = true from h2)
      exact ⟨t, ht.symm⟩
    have h5 := partsB_append ps t x (by simpa using h4) hp hx
    have h6 := prefix_of_append p (t ++ x)
    rw [List.cons_append, List.append_assoc]
    simp only [partsB, Bool.and_eq_true]
    exact ⟨⟨⟨h1, h6⟩, h3⟩, by simpa using h5⟩
theorem partsGo_ok (l : List UInt8) : ∀ (f e : Nat), e ≤ f → e ≤ l.length → partsB (l.take e) (partsGo l f e).reverse = true
  | 0, e, h, _ => by obtain rfl : e = 0 := by omega
                     rfl
  | f + 1, e, h, he => by
    unfold partsGo
    by_cases h0 : e = 0
    · subst h0; simp [partsB]
    · have hlt := fewAt_lt l (e := e) (by omega)
      rw [if_neg h0, List.reverse_cons]
      have h1 := partsGo_ok l f (fewAt l e).2 (by omega) (by omega)
      have h2 := partsB_append _ _ _ h1 (fewAt_last l e (by omega) he).1 (fun h => by have := congrArg List.length h; rw [List.length_drop, List.length_take] at this; simp at this; omega)
      rwa [show l.take (fewAt l e).2 ++ (l.take e).drop (fewAt l e).2 = l.take e from by
        have := List.take_append_drop (fewAt l e).2 (l.take e)
        rwa [List.take_take, Nat.min_eq_left (by omega)] at this] at h2
theorem partsL_ok (l : List UInt8) : partsB l (partsL l) = true := by
  have := partsGo_ok l l.length l.length (Nat.le_refl _) (Nat.le_refl _)
  rwa [List.take_length] at this
theorem partsL_length (l : List UInt8) : (partsL l).length = (fewAt l l.length).1 := by
  unfold partsL; rw [List.length_reverse]; exact partsGo_length l _ _ (Nat.le_refl _) (Nat.le_refl _)
theorem partsL_small (l : List UInt8) (x : List UInt8) (h : x ∈ partsL l) : x.length ≤ l.length := partsGo_small l _ _ x (List.mem_reverse.1 h)

set_option maxRecDepth 100000 in
set_option maxHeartbeats 8000000 in
theorem walk_TrimParts (a : ByteArray) (ha : a.size ≤ maxLen) (w : World) :
    Calls Try.prog 5 #[.string a] w fun e w' => e = .returned (.bool true) ∧ Below w.heap.size w w' := by
  obtain ⟨s, hs⟩ : ∃ s, a.extract 0 (min a.size 101) = s := ⟨_, rfl⟩
  have hsz := short_size a
  rw [hs] at hsz
  have H := Lib.hid hs
  cases hw : wordB s.data.toList with
  | false =>
    have r1 : fewR s = ([], 2) := by unfold fewR; rw [hw]; rfl
    have r2 : waysR s = (0, 2) := by unfold waysR; rw [hw]; rfl
    have R1 := Lib.hid r1
    have R2 := Lib.hid r2
    have Hw := Lib.hid hw
    clear hs r1 r2 hw
    go_enter Try.func5, Try.ntmps5
    go_wp2_with (first
      | (go_at_call 16; refine (short_any _ _ ha).mono ?_; rintro e w' ⟨rfl, rfl⟩; rw [H.out])
      | (go_at_call 33; refine (Fewest_any _ _ (by omega)).mono ?_; rintro e w1 ⟨v, rfl, o1, b1⟩; rw [R1.out] at o1; rw [R1.out]; obtain ⟨a1, c1, rfl, q1⟩ := Row.of_own o1; clear o1 q1)
      | (go_at_call 34; refine (Ways_any _ _ (by omega)).mono ?_; rintro e w2 ⟨rfl, b2⟩; rw [R2.out])
      | (go_at_call 21; refine (refWord_any _ _ (by omega)).mono ?_; rintro e w' ⟨rfl, rfl⟩; rw [Hw.out])
      | (go_at_call 22; refine (awake_any _).mono ?_; rintro e w4 ⟨rfl, b4⟩))
    go_ret
    exact ⟨rfl, b_next (b_next b1 b2) b4⟩
  | true =>
    have h100 := word_size hw
    obtain ⟨l, hl⟩ : ∃ l, s.data.toList = l := ⟨_, rfl⟩
    have hll : l.length = s.size := by rw [← hl, data_length]
    have r1 : fewR s = (partsL l, 0) := by unfold fewR; rw [hw, ← hl]; rfl
    have hpok := partsL_ok l
    have hple := partsL_length l
    have hfl := fewAt_le l l.length
    have hsm : ∀ x ∈ partsL l, x.length ≤ 1000 := fun x hx => by have := partsL_small l x hx; omega
    have r3 : checkR s (partsL l) = 0 := by unfold checkR; rw [hw, hl, hpok]; rfl
    have r4 : partsB s.data.toList (partsL l) = true := by rw [hl]; exact hpok
    obtain ⟨n, hn⟩ : ∃ n, (fewAt l l.length).1 = n := ⟨_, rfl⟩
    have r5 : (fewAt s.data.toList s.size).1 = n := by rw [hl, ← hll]; exact hn
    rw [hn] at hple hfl
    obtain ⟨t, ht⟩ : ∃ t, wayAt s.data.toList s.size = t := ⟨_, rfl⟩
    obtain ⟨p, hp⟩ : ∃ p, partsL l = p := ⟨_, rfl⟩
    rw [hp] at r1 r3 r4 hple hsm
    have hn1000 : n ≤ 1000 := by omega
    have R1 := Lib.hid r1
    have R3 := Lib.hid r3
    have R4 := Lib.hid r4
    have R5 := Lib.hid r5
    have Hw := Lib.hid hw
    have Hsm := Lib.hid hsm
    have Hple := Lib.hid hple
    have Ht := Lib.hid ht
    by_cases hgt : t ≤ 1152921504606846976
    · have r2 : waysR s = (t, 0) := by unfold waysR; rw [hw, if_pos rfl, ht, if_pos hgt]
      have r6 : decide (wayAt s.data.toList s.size ≤ 1152921504606846976) = true := by rw [ht, decide_eq_true hgt]
      have r7 : min (wayAt s.data.toList s.size) wayMost = t := by rw [ht]; unfold wayMost; omega
      have R2 := Lib.hid r2
      have R6 := Lib.hid r6
      have R7 := Lib.hid r7
      clear hs r1 r2 r3 r4 r5 r6 r7 hw hsm hple ht hp hn hll hl hpok
      go_enter Try.func5, Try.ntmps5
      go_wp2_with (first
        | (go_at_call 16; refine (short_any _ _ ha).mono ?_; rintro e w' ⟨rfl, rfl⟩; rw [H.out])
        | (go_at_call 33; refine (Fewest_any _ _ (by omega)).mono ?_; rintro e w1 ⟨v, rfl, o1, b1⟩; rw [R1.out] at o1; rw [R1.out]; simp only [Hple.out] at o1; obtain ⟨a1, c1, rfl, q1⟩ := Row.of_own o1; clear o1)
        | (go_at_call 34; refine (Ways_any _ _ (by omega)).mono ?_; rintro e w2 ⟨rfl, b2⟩; rw [R2.out]; have q2 := q1.below b2)
        | (go_at_call 21; refine (refWord_any _ _ (by omega)).mono ?_; rintro e w' ⟨rfl, rfl⟩; rw [Hw.out])
        | (go_at_call 35; refine (refParts_any _ _ _ _ _ _ (by omega) hn1000 Hsm.out q2).mono ?_; rintro e w3 ⟨rfl, b3⟩; rw [R4.out]; have q3 := q2.below b3)
        | (go_at_call 36; refine (refFewest_any _ _ (by omega)).mono ?_; rintro e w4 ⟨rfl, b4⟩; rw [R5.out]; have q4 := q3.below b4)
        | (go_at_call 37; refine (Check_any _ _ _ _ _ _ (by omega) hn1000 Hsm.out q4).mono ?_; rintro e w5 ⟨rfl, n5, rfl⟩; rw [R3.out])
        | (go_at_call 38; refine (refWays_any _ _ (by omega)).mono ?_; rintro e w6 ⟨rfl, b6⟩; rw [R6.out, R7.out])
        | (go_at_call 22; refine (awake_any _).mono ?_; rintro e w7 ⟨rfl, b7⟩))
      go_ret
      exact ⟨rfl, b_next (b_next (below_drewN (b_next (b_next (b_next b1 b2) b3) b4) n5) b6) b7⟩
    · have r2 : waysR s = (0, 5) := by unfold waysR; rw [hw, if_pos rfl, ht, if_neg hgt]
      have r6 : decide (wayAt s.data.toList s.size ≤ 1152921504606846976) = false := by rw [ht, decide_eq_false hgt]
      have R2 := Lib.hid r2
      have R6 := Lib.hid r6
      clear hs r1 r2 r3 r4 r5 r6 hw hsm hple ht hp hn hll hl hpok
      go_enter Try.func5, Try.ntmps5
      go_wp2_with (first
        | (go_at_call 16; refine (short_any _ _ ha).mono ?_; rintro e w' ⟨rfl, rfl⟩; rw [H.out])
        | (go_at_call 33; refine (Fewest_any _ _ (by omega)).mono ?_; rintro e w1 ⟨v, rfl, o1, b1⟩; rw [R1.out] at o1; rw [R1.out]; simp only [Hple.out] at o1; obtain ⟨a1, c1, rfl, q1⟩ := Row.of_own o1; clear o1)
        | (go_at_call 34; refine (Ways_any _ _ (by omega)).mono ?_; rintro e w2 ⟨rfl, b2⟩; rw [R2.out]; have q2 := q1.below b2)
        | (go_at_call 21; refine (refWord_any _ _ (by omega)).mono ?_; rintro e w' ⟨rfl, rfl⟩; rw [Hw.out])
        | (go_at_call 35; refine (refParts_any _ _ _ _ _ _ (by omega) hn1000 Hsm.out q2).mono ?_; rintro e w3 ⟨rfl, b3⟩; rw [R4.out]; have q3 := q2.below b3)
        | (go_at_call 36; refine (refFewest_any _ _ (by omega)).mono ?_; rintro e w4 ⟨rfl, b4⟩; rw [R5.out]; have q4 := q3.below b4)
        | (go_at_call 37; refine (Check_any _ _ _ _ _ _ (by omega) hn1000 Hsm.out q4).mono ?_; rintro e w5 ⟨rfl, n5, rfl⟩; rw [R3.out])
        | (go_at_call 38; refine (refWays_any _ _ (by omega)).mono ?_; rintro e w6 ⟨rfl, b6⟩; rw [R6.out])
        | (go_at_call 22; refine (awake_any _).mono ?_; rintro e w7 ⟨rfl, b7⟩))
      go_ret
      exact ⟨rfl, b_next (b_next (below_drewN (b_next (b_next (b_next b1 b2) b3) b4) n5) b6) b7⟩


namespace lawTrimParts
open Go.ChangeShapes Go.WideShapes Go.ChangeAt Go.RowKit
open Go.ChangeMaps (open_string shut_string)

theorem own : ownKnob Try.prog.godebug = none := by kernel_rfl
theorem lay : laidOutB Try.prog = true := by kernel_rfl

set_option maxRecDepth 100000 in
theorem lifted (os : Os) (started : os.Started) (H : Type) (enc : TypeId × Value → H) :
    ReturnsInHanded {} Try.checked os 5 .any (Rows.trimPartsSpec.pre6 enc Try.prog Try.f5 Rows.trimPartsRow.domain false) (Rows.trimPartsSpec.post enc Try.prog Try.f5 false true false false) := by
  refine returnsInHanded_of_change (C := Try.checked) own started (by kernel_rfl) Try.func5
    (ChangeSpec.witness6 (enc := enc) (C := Try.checked) false ⟨#[], #[.string ByteArray.empty], []⟩ 8 (by kernel_rfl) (by kernel_rfl) (by kernel_rfl) (by kernel_rfl)) ?_
  intro W base args ds gs before hval0 hW hcnd _
  have hval : ∀ (j : Nat) t v, Try.f5.params[j]? = some t → args[j]? = some v → Value.okWide Try.prog W .any base t v := hval0
  have hW' := hW
  obtain ⟨p, q, hA0, hV, rfl, hfz, hnd⟩ := hW
  have hA : DataW.TrodAll enc Try.prog W 0 (fun _ => true) true Try.f5.params.toList args.toList ds p := hA0
  rw [Try.params5] at hA hval
  obtain ⟨v0, vs0, d0, ds0, p0, q0, hargs, rfl, rfl, h0, r0⟩ := trodAll_cons hA
  obtain ⟨rfl, rfl, rfl⟩ := trodAll_nil r0
  obtain rfl : args = #[v0] := by cases args; simp_all
  obtain ⟨rfl, rfl⟩ := trodVars_none hV
  obtain ⟨a0, rfl, rfl, rfl, w0⟩ := open_string Try.underlying9 (hval 0 9 v0 rfl rfl) h0
  simp only [List.append_nil] at hW'
  clear hA0 hval0
  refine (walk_TrimParts a0 w0 W).mono fun e W' ⟨he, bel⟩ => ?_
  subst he
  exact ⟨_, rfl, _, _, _, [], _, [], hW', trodAll_mk1 (shut_bool Try.underlying4 _), (trodAll_cons_mk (shut_string Try.underlying9 w0) trodAll_mk0), rfl, bel.frame _, fun h => by cases h⟩

theorem over : Rows.trimPartsRow.holds Try.pinned (OpenSpec.ofChange Rows.trimPartsSpec) :=
  OpenClaim.holds_of_wide 5 Try.f5 rfl rfl rfl rfl rfl rfl rfl ⟨rfl, rfl, rfl, rfl, rfl⟩ rfl rfl rfl rfl rfl (by kernel_rfl) Try.func5 (by kernel_rfl)
    (of_decide_eq_true (by kernel_rfl)) (by unfold Func.isWrapper; first | (rw [if_pos (by decide +kernel)]; kernel_rfl) | (rw [if_neg (by decide +kernel)]; exact ⟨rfl, rfl⟩))
    (fun os started H enc _ => lifted os started H enc)

theorem proved : Rows.TrimPartsSaid := over
end lawTrimParts
end Go.Proofs.Yteejjcipdpojnaa
