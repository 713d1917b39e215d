/- Towers are palindromes and rich, their bases are the words: TrimTowers. -/
import Derived.Test.YteejjcipdpojnaaTow
import Derived.Test.YteejjcipdpojnaaSubs
import Derived.Test.YteejjcipdpojnaaOccs
import Derived.Test.YteejjcipdpojnaaMod
namespace Go.Proofs.Yteejjcipdpojnaa
set_option linter.unusedVariables false
open Go.RowKit

theorem towers_math (l t : List UInt8) (hl : l.all letterB = true) (h : towerL l = some t) (k : Nat) :
    pal t = true ∧ richL t = -1 ∧ wordB t = true ∧ baseL t = some l ∧ closL t = t ∧
    ∃ u, towerL (l.take k) = some u ∧ u.length ≤ t.length ∧ t.take u.length = u ∧ t.drop (t.length - u.length) = u := by
  have n0 : pal [] = true := rfl
  obtain ⟨a1, a2, a3, a4, _⟩ := tower_facts l [] t n0 new_nil fresh_nil (by simp) rfl hl h
  refine ⟨a1, rich_fresh t a2, by unfold wordB; rw [a4, decide_eq_true a3]; rfl, ?_, closL_self a1, ?_⟩
  · have := base_tower l [] [] t t.length h (by simp)
    rw [List.nil_append] at this; exact this
  · have hs := tower_split (l.take k) (l.drop k) []
    rw [List.take_append_drop] at hs
    unfold towerL at h ⊢
    rw [h] at hs
    cases hu : towerGo [] (l.take k) with
    | none => rw [hu] at hs; cases hs
    | some u =>
      rw [hu] at hs
      obtain ⟨r, hr⟩ := tower_ext _ _ _ (show towerGo u (l.drop k) = some t from hs.symm)
      obtain ⟨b1, _⟩ := tower_facts (l.take k) [] u n0 new_nil fresh_nil (by simp) rfl (by
        rw [List.all_eq_true] at hl ⊢; exact fun x hx => hl x (List.mem_of_mem_take hx)) hu
      have e1 : t.take u.length = u := by rw [hr, List.take_left]
      have e2 : u.length ≤ t.length := by rw [hr, List.length_append]; omega
      refine ⟨u, rfl, e2, e1, ?_⟩
      have p1 := pal_rev a1
      have p2 := pal_rev b1
      have := congrArg List.reverse e1
      rw [List.reverse_take, p1, p2] at this
      exact this

set_option maxRecDepth 100000 in
set_option maxHeartbeats 8000000 in
theorem walk_TrimTowers (a : ByteArray) (ha : a.size ≤ maxLen) (n : Int) (hn : (Lit.int .i64 n).wf = true) (w : World) :
    Calls Try.prog 10 #[.string a, .int .i64 n] w fun e w' => e = .returned (.bool true) ∧ Below w.heap.size w w' := by
  obtain ⟨s, hs⟩ : ∃ s, mk (tameL a.data.toList 12) = s := ⟨_, rfl⟩
  have hw : wordB s.data.toList = true := by rw [← hs, data_mk]; exact tame_word2 _ _ (by omega)
  have hsz : s.size ≤ 12 := by rw [← hs, mk_size]; unfold tameL; rw [List.length_map, List.length_take]; omega
  have hall : s.data.toList.all letterB = true := by unfold wordB at hw; rw [Bool.and_eq_true] at hw; exact hw.2
  obtain ⟨hk0, hk1⟩ := modI_range n (s.size + 1) (by omega)
  obtain ⟨k, hk⟩ : ∃ k : Nat, modI n (s.size + 1) = k := ⟨(modI n (s.size + 1)).toNat, by omega⟩
  rw [hk] at hk0 hk1
  have hks : k ≤ s.size := by omega
  obtain ⟨q, hq⟩ : ∃ q, s.extract 0 k = q := ⟨_, rfl⟩
  have hqd : q.data.toList = s.data.toList.take k := by rw [← hq, part_data, List.drop_zero]
  have hwq : wordB q.data.toList = true := by
    rw [hqd]; exact word_sub (List.take_sublist _ _) hw
  have hqs : q.size ≤ 100 := word_size hwq
  have H := Lib.hid hs
  have HK := Lib.hid hk
  have HQ := Lib.hid hq
  cases ht : towerL s.data.toList with
  | none =>
    have r1 : towerR s = (⟨#[]⟩, 5) := by unfold towerR; rw [hw, ht]; rfl
    have R1 := Lib.hid r1
    clear hs hw hall hk hq hqd hwq ht r1 hk1
    go_enter Try.func10, Try.ntmps10
    go_wp2_with fail
    refine (tame_any a 12 _ ha (by omega)).mono ?_
    rintro e w1 ⟨rfl, b1⟩
    rw [H.out]
    go_wp2_with fail
    refine (Tower_any s _ (by omega)).mono ?_
    rintro e w2 ⟨rfl, b2⟩
    rw [R1.out]
    go_wp2_with fail
    refine (mod_any n _ _ hn (by omega) (by omega)).mono ?_
    rintro e w' ⟨rfl, rfl⟩
    rw [HK.out]
    go_wp2_with fail
    rw [HQ.out]
    refine (Tower_any q _ (by omega)).mono ?_
    rintro e w3 ⟨rfl, b3⟩
    go_wp2_with (go_at_call 22; refine (awake_any _).mono ?_; rintro e w4 ⟨rfl, b4⟩)
    go_ret
    exact ⟨rfl, b_next (b_next (b_next b1 b2) b3) b4⟩
  | some t =>
    obtain ⟨m1, m2, m3, m4, m5, u, m6, m7, m8, m9⟩ := towers_math s.data.toList t hall ht k
    obtain ⟨T, hT⟩ : ∃ T, mk t = T := ⟨_, rfl⟩
    obtain ⟨U, hU⟩ : ∃ U, mk u = U := ⟨_, rfl⟩
    have hTd : T.data.toList = t := by rw [← hT, data_mk]
    have hTs : T.size = t.length := by rw [← hT, mk_size]
    have hUs : U.size = u.length := by rw [← hU, mk_size]
    have hT100 : T.size ≤ 100 := word_size (by rw [hTd]; exact m3)
    have r1 : towerR s = (T, 0) := by unfold towerR; rw [hw, ht, ← hT]; rfl
    have r2 : towerR q = (U, 0) := by unfold towerR; rw [hwq, hqd, m6, ← hU]; rfl
    have r3 : richR T = (-1, 0) := by unfold richR; rw [hTd, m3, m2]; rfl
    have r4 : baseR T = (s, 0) := by unfold baseR; rw [hTd, m3, m4, if_pos rfl]; show (mk s.data.toList, (0 : Int)) = _; rw [mk_data]
    have hcl : closB T = T := by rw [← mk_data (closB T), closB_data, hTd, m5, hT]
    have r5 : closureR T = (T, 0) := by unfold closureR; rw [hTd, m3, hcl, if_pos rfl, if_neg (by omega)]
    have r6 : pal T.data.toList = true := by rw [hTd]; exact m1
    have hle : U.size ≤ T.size := by omega
    have e1 : T.extract 0 U.size = U := by rw [← mk_data (T.extract 0 U.size), part_data, List.drop_zero, hTd, hUs, m8, hU]
    have e2 : T.extract (T.size - U.size) T.size = U := by rw [← mk_data (T.extract (T.size - U.size) T.size), part_data, hTd, hUs, hTs, List.take_length, m9, hU]
    have R1 := Lib.hid r1
    have R2 := Lib.hid r2
    have R3 := Lib.hid r3
    have R4 := Lib.hid r4
    have R5 := Lib.hid r5
    have R6 := Lib.hid r6
    have E1 := Lib.hid e1
    have E2 := Lib.hid e2
    clear hs hw hall hk hq hqd hwq ht r1 r2 r3 r4 r5 r6 e1 e2 m1 m2 m3 m4 m5 m6 m7 m8 m9 hT hU hTd hTs hUs hcl hk1
    go_enter Try.func10, Try.ntmps10
    go_wp2_with fail
    refine (tame_any a 12 _ ha (by omega)).mono ?_
    rintro e w1 ⟨rfl, b1⟩
    rw [H.out]
    go_wp2_with fail
    refine (Tower_any s _ (by omega)).mono ?_
    rintro e w2 ⟨rfl, b2⟩
    rw [R1.out]
    go_wp2_with fail
    refine (mod_any n _ _ hn (by omega) (by omega)).mono ?_
    rintro e w' ⟨rfl, rfl⟩
    rw [HK.out]
    go_wp2_with fail
    rw [HQ.out]
    refine (Tower_any q _ (by omega)).mono ?_
    rintro e w3 ⟨rfl, b3⟩
    rw [R2.out]
    go_wp2_with fail
    refine (Rich_any T _ (by omega)).mono ?_
    rintro e w4 ⟨rfl, b4⟩
    rw [R3.out]
    go_wp2_with fail
    refine (Base_any T _ (by omega)).mono ?_
    rintro e w5 ⟨rfl, b5⟩
    rw [R4.out]
    go_wp2_with fail
    refine (Closure_any T _ (by omega)).mono ?_
    rintro e w6 ⟨rfl, b6⟩
    rw [R5.out]
    go_wp2_with fail
    refine (refPal_any T _ (by unfold maxLen; omega)).mono ?_
    rintro e w' ⟨rfl, n7, rfl⟩
    rw [R6.out]
    have e1 : (T.extract 0 U.size).toList = U.toList := by rw [E1.out]
    have e2 : (T.extract (T.size - U.size) T.size).toList = U.toList := by rw [E2.out]
    go_wp2_with fail
    refine (awake_any _).mono ?_
    rintro e w8 ⟨rfl, b8⟩
    go_wp2
    go_ret
    exact ⟨rfl, b_next (below_drewN (b_next (b_next (b_next (b_next (b_next b1 b2) b3) b4) b5) b6) n7) b8⟩


namespace lawTrimTowers
open Go.ChangeShapes Go.WideShapes Go.ChangeAt Go.RowKit
open Go.ChangeMaps (open_string shut_string)

theorem own : ownKnob Try.prog.godebug = none := by kernel_rfl
theorem lay : laidOutB Try.prog = true := by kernel_rfl

set_option maxRecDepth 100000 in
theorem lifted (os : Os) (started : os.Started) (H : Type) (enc : TypeId × Value → H) :
    ReturnsInHanded {} Try.checked os 10 .any (Rows.trimTowersSpec.pre6 enc Try.prog Try.f10 Rows.trimTowersRow.domain false) (Rows.trimTowersSpec.post enc Try.prog Try.f10 false true false false) := by
  refine returnsInHanded_of_change (C := Try.checked) own started (by kernel_rfl) Try.func10
    (ChangeSpec.witness6 (enc := enc) (C := Try.checked) false ⟨#[], #[.string ByteArray.empty, .int .i64 0], []⟩ 8 (by kernel_rfl) (by kernel_rfl) (by kernel_rfl) (by kernel_rfl)) ?_
  intro W base args ds gs before hval0 hW hcnd _
  have hval : ∀ (j : Nat) t v, Try.f10.params[j]? = some t → args[j]? = some v → Value.okWide Try.prog W .any base t v := hval0
  have hW' := hW
  obtain ⟨p, q, hA0, hV, rfl, hfz, hnd⟩ := hW
  have hA : DataW.TrodAll enc Try.prog W 0 (fun _ => true) true Try.f10.params.toList args.toList ds p := hA0
  rw [Try.params10] at hA hval
  obtain ⟨v0, vs0, d0, ds0, p0, q0, hargs, rfl, rfl, h0, r0⟩ := trodAll_cons hA
  obtain ⟨v1, vs1, d1, ds1, p1, q1, rfl, rfl, rfl, h1, r1⟩ := trodAll_cons r0
  obtain ⟨rfl, rfl, rfl⟩ := trodAll_nil r1
  obtain rfl : args = #[v0, v1] := by cases args; simp_all
  obtain ⟨rfl, rfl⟩ := trodVars_none hV
  obtain ⟨a0, rfl, rfl, rfl, w0⟩ := open_string Try.underlying9 (hval 0 9 v0 rfl rfl) h0
  obtain ⟨a1, rfl, rfl, rfl, w1⟩ := open_int Try.underlying3 (hval 1 3 v1 rfl rfl) h1
  simp only [List.append_nil] at hW'
  clear hA0 hval0
  refine (walk_TrimTowers a0 w0 a1 w1 W).mono fun e W' ⟨he, bel⟩ => ?_
  subst he
  exact ⟨_, rfl, _, _, _, [], _, [], hW', trodAll_mk1 (shut_bool Try.underlying4 _), (trodAll_cons_mk (shut_string Try.underlying9 w0) (trodAll_cons_mk (shut_int Try.underlying3 w1) trodAll_mk0)), rfl, bel.frame _, fun h => by cases h⟩

theorem over : Rows.trimTowersRow.holds Try.pinned (OpenSpec.ofChange Rows.trimTowersSpec) :=
  OpenClaim.holds_of_wide 10 Try.f10 rfl rfl rfl rfl rfl rfl rfl ⟨rfl, rfl, rfl, rfl, rfl⟩ rfl rfl rfl rfl rfl (by kernel_rfl) Try.func10 (by kernel_rfl)
    (of_decide_eq_true (by kernel_rfl)) (by unfold Func.isWrapper; first | (rw [if_pos (by decide +kernel)]; kernel_rfl) | (rw [if_neg (by decide +kernel)]; exact ⟨rfl, rfl⟩))
    (fun os started H enc _ => lifted os started H enc)

theorem proved : Rows.TrimTowersSaid := over
end lawTrimTowers
end Go.Proofs.Yteejjcipdpojnaa
