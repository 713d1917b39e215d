/- Contract of the reference's insert. -/
import Derived.Test.YteejjcipdpojnaaRlong
import Derived.Test.YteejjcipdpojnaaLists
namespace Go.Proofs.Yteejjcipdpojnaa
set_option linter.unusedVariables false
open Go.RowKit

theorem info_str2 : (Try.prog.info? 9).map (fun i => (i.zero, i.size, i.bytes)) = some (some (.string ⟨#[]⟩), 1, 16) := by kernel_rfl
theorem insertS_less {x y : List UInt8} {r : List (List UInt8)} (h : ltE y x = true) : insertS x (y :: r) = y :: insertS x r := by rw [insertS, if_pos h]
theorem insertS_same {x y : List UInt8} {r : List (List UInt8)} (h : ltE y x = false) (e : y = x) : insertS x (y :: r) = y :: r := by rw [insertS, if_neg (by rw [h]; decide), if_pos e]
theorem insertS_more {x y : List UInt8} {r : List (List UInt8)} (h : ltE y x = false) (e : y ≠ x) : insertS x (y :: r) = x :: y :: r := by rw [insertS, if_neg (by rw [h]; decide), if_neg e]
theorem drop_get {ss : List (List UInt8)} {k : Nat} {y : List UInt8} (h : ss[k]? = some y) : ss.drop k = y :: ss.drop (k + 1) ∧ ss.take (k + 1) = ss.take k ++ [y] := by
  obtain ⟨hk, rfl⟩ := List.getElem?_eq_some_iff.1 h
  exact ⟨List.drop_eq_getElem_cons hk, by rw [List.take_succ_eq_append_getElem hk]⟩
theorem addr_row (g k : Nat) : ((⟨g, 0, none⟩ : Addr).add k) = ⟨g, k, none⟩ := by unfold Addr.add; split <;> simp_all
theorem addr_row2 (g k j : Nat) : ((⟨g, k, none⟩ : Addr).add j) = ⟨g, k + j, none⟩ := by unfold Addr.add; split <;> simp_all

theorem wpList_append_nothing {P : Program} {w : World} {ops : Array Oper} {rest : List Oper} {o : Oper} {a : Act} {Q : Exit → Act → World → Prop} (hgd : o.guard = none) (s x : Operand) (t : TypeId)
    (ho : o.op = .call { callee := .builtin .append, args := #[s, x], argTypes := #[t, t] }) (base : Nat) (e : TypeId) (i : TypeInfo) (size : Nat) (ht : P.underlying t = some (.slice e)) (hi : P.info? e = some i)
    (v : Value) (n : Nat) (xs : List Value) (hs : a.eval s = v) (hown : w.ownsRow base e size v n xs) (hx : a.eval x = .slice none 0 0) (h : wpList P ops Q rest (a.put o.dst v) w) : wpList P ops Q (o :: rest) a w := by
  refine wpList_plain hgd fun K hK' => ?_
  have hr := run_append_owned_none (P := P) (w := w) base t o.type e i size ht hi v n xs hown
  unfold Oper.wp execOp
  simp only [ho, resolve, invoke, builtin, Sem.run_bind, Sem.run_pure, Result.andThen_ok, List.map_toArray, List.map_cons, List.map_nil, hs, hx, hr]
  exact hK' _ _ h

theorem enc_data2 (s : ByteArray) : encStr s.data.toList = .string s := by unfold encStr; rw [show (⟨s.data.toList.toArray⟩ : ByteArray) = s from mk_data s]
theorem own_one {w : World} {base n : Nat} {e : TypeId} {v : Value} {xs : List Value} (h : w.ownsRow base e 1 v n xs) : ∃ a cap, v = .slice a n cap ∧ Row w a n xs ∧ n ≤ cap := by
  have hr := Row.of_own h
  rcases h.2 with ⟨rfl, rfl⟩ | ⟨g, cap, cur, rfl, _, _, hc, _⟩
  · obtain ⟨a, cap, hv, hr⟩ := hr; exact ⟨a, cap, hv, hr, Nat.zero_le _⟩
  · obtain ⟨a, cap', hv, hr⟩ := hr
    refine ⟨_, cap, rfl, ?_, hc⟩
    have := (Value.slice.inj hv).1
    rw [this]; exact hr
set_option maxRecDepth 100000 in
set_option maxHeartbeats 4000000 in
/-- into a list that is empty -/
theorem refInsert_nil (x : ByteArray) (w : World) (hx : x.size ≤ 1000) :
    Calls Try.prog 60 #[.slice none 0 0, .string x] w fun e w' => ∃ a' cap', e = .returned (.slice a' 1 cap') ∧ Row w' a' 1 (strs [x.data.toList]) ∧ 1 ≤ cap' ∧ Below w.heap.size w w' := by
  obtain ⟨i0, hi, hz0, hz1, hz2⟩ := info_parts info_str2
  go_enter Try.func60, Try.ntmps60
  go_wp2
  go_loop [5] (fun u => u = .int .i64 0) (fun _ => 0)
  case atStart => rfl
  case round =>
    subst hrel
    have h0 := World.ownsRow_nil w w.heap.size 9 1
    go_wp2_with (first
      | (at_builtin; refine wpList_append_nothing rfl _ _ 23 rfl w.heap.size 9 i0 1 Try.underlying23 hi _ _ _ rfl h0 rfl ?_)
      | (at_builtin; refine wpList_append_own _ rfl _ _ 23 rfl w.heap.size 9 i0 (.string ⟨#[]⟩) 1 16 Try.underlying23 hi hz0 hz1 hz2 rfl (by decide) _ _ _ rfl (h0.alloc _) ⟨w.heap.size, 0, none⟩ 1 1 [_] rfl rfl (cell_one_new _ _ _) (by simp [Value.oneCell']) ?c3 ?c4 ?c5 ?_))
    case c3 => unfold maxLen; omega
    intro v1 w1 hown1 hgrow1 _
    have hB1 : Below w.heap.size w w1 := ((Below.refl _ w).alloc (Nat.le_refl _) _).grown hgrow1 (by simp) (fun q e => by simp [Value.ownBlock] at e)
    go_wp2_with (at_builtin; refine wpList_append_nothing rfl _ _ 23 rfl w.heap.size 9 i0 1 Try.underlying23 hi _ _ _ rfl hown1 rfl ?_)
    go_ret
    obtain ⟨g, cap, hv, hr⟩ := own_one hown1
    exact ⟨_, _, by rw [hv]; rfl, by rw [show strs [x.data.toList] = [.string x] from by simp [strs, enc_data2]]; exact hr.1, hr.2, hB1⟩
theorem own_strs {w : World} {base n : Nat} {e : TypeId} {v : Value} {xs : List Value} (h : w.ownsRow base e 1 v n xs) {zs : List (List UInt8)} (hx : xs = strs zs) : ∃ a cap, v = .slice a zs.length cap ∧ Row w a zs.length (strs zs) ∧ zs.length ≤ cap := by
  obtain ⟨a, cap, hv, hr, hc⟩ := own_one h
  subst hx
  have hn : zs.length = n := by have := hr.1; simpa [strs] using this
  subst hn
  exact ⟨a, cap, hv, hr, hc⟩
theorem strs_one {ss : List (List UInt8)} : ∀ u ∈ strs ss, u.oneCell' = true := by
  intro u hu
  obtain ⟨y, _, rfl⟩ := List.mem_map.1 hu
  rfl
theorem strs_take {w : World} {g k : Nat} {ss : List (List UInt8)} (h : ∀ j y, ss[j]? = some y → w.cell? ⟨g, j, none⟩ = some (encStr y)) {j : Nat} {u : Value} (hu : (strs (ss.take k))[j]? = some u) : w.cell? ⟨g, j, none⟩ = some u := by
  unfold strs at hu
  rw [List.getElem?_map] at hu
  obtain ⟨y, hy, rfl⟩ := Option.map_eq_some_iff.1 hu
  rw [List.getElem?_take] at hy
  split at hy
  · exact h j y hy
  · cases hy
theorem strs_drop {w : World} {g k : Nat} {ss : List (List UInt8)} (h : ∀ j y, ss[j]? = some y → w.cell? ⟨g, j, none⟩ = some (encStr y)) {j : Nat} {u : Value} (hu : (strs (ss.drop k))[j]? = some u) : w.cell? ⟨g, k + j, none⟩ = some u := by
  unfold strs at hu
  rw [List.getElem?_map] at hu
  obtain ⟨y, hy, rfl⟩ := Option.map_eq_some_iff.1 hu
  rw [List.getElem?_drop] at hy
  exact h (k + j) y hy

set_option maxRecDepth 100000 in
set_option maxHeartbeats 8000000 in
/-- into a list that is not -/
theorem refInsert_some (g n cap : Nat) (ss : List (List UInt8)) (x : ByteArray) (w : World) (hcells : ∀ j y, ss[j]? = some y → w.cell? ⟨g, j, none⟩ = some (encStr y)) (hg : g < w.heap.size) (hl : ss.length = n) (hn0 : 0 < n) (hnc : n ≤ cap) (hn : n ≤ 20000) (hx : x.size ≤ 1000) :
    Calls Try.prog 60 #[.slice (some ⟨g, 0, none⟩) n cap, .string x] w fun e w' => ∃ a' cap', e = .returned (.slice a' (insertS x.data.toList ss).length cap') ∧ Row w' a' (insertS x.data.toList ss).length (strs (insertS x.data.toList ss)) ∧ (insertS x.data.toList ss).length ≤ cap' ∧ Below w.heap.size w w' := by
  obtain ⟨i0, hi, hz0, hz1, hz2⟩ := info_parts info_str2
  have HCE := Lib.hid hcells
  clear hcells
  go_enter Try.func60, Try.ntmps60
  go_wp2
  go_loop [5] (fun u => ∃ k : Nat, k ≤ n ∧ u = .int .i64 k ∧ Hid (insertS x.data.toList ss = ss.take k ++ insertS x.data.toList (ss.drop k))) (fun u => n - (intOf u).toNat)
  case atStart => exact ⟨0, Nat.zero_le _, rfl, rfl⟩
  case round =>
    obtain ⟨k, hk, rfl, HP⟩ := hrel
    by_cases hlt : k < n
    · have hc : (k : Int) < n := by omega
      obtain ⟨y, hy⟩ : ∃ y, ss[k]? = some y := ⟨_, List.getElem?_eq_getElem (by omega)⟩
      have hcy := HCE.out k y hy
      obtain ⟨hd, ht⟩ := drop_get hy
      obtain ⟨yb, hyb⟩ : ∃ yb, mk y = yb := ⟨_, rfl⟩
      have hyd : yb.data.toList = y := by rw [← hyb, data_mk]
      have hcb : w.cell? ⟨g, k, none⟩ = some (.string yb) := by rw [hcy, ← hyb]; rfl
      have hyl : y.length = yb.size := by rw [← hyd, data_length]
      have hxl : x.data.toList.length = x.size := data_length x
      cases hlt2 : ltE y x.data.toList with
      | true =>
        have hz : insertS x.data.toList ss = ss.take (k + 1) ++ insertS x.data.toList (ss.drop (k + 1)) := by
          rw [HP.out, hd, insertS_less hlt2, ht]; simp
        have Hz := Lib.hid hz
        have hor : yb.size < x.size ∨ (yb.size = x.size ∧ y < x.data.toList) := by
          unfold ltE at hlt2
          rw [hyl, hxl] at hlt2
          simpa using hlt2
        rcases hor with h1 | ⟨h1, h2⟩
        · have h1' : (yb.size : Int) < x.size := by omega
          clear hz hd ht hlt2 hyd hyl hxl hyb HP hcy
          go_wp2
          go_round
          case rel => exact ⟨k + 1, by omega, by go_num, Hz.out⟩
          case measure => simp [intOf]; omega
        · have h1' : ¬ (yb.size : Int) < x.size := by omega
          have h1e : ((yb.size : Int) == x.size) = true := by rw [beq_iff_eq]; omega
          have h1n : (yb.size == x.size) = true := by rw [beq_iff_eq]; exact h1
          have h3 : Op.bytesLess yb.toList x.toList = true := by rw [less_data, hyd, decide_eq_true h2]
          have H1 := Lib.hid h1
          clear hz hd ht hlt2 hyd hyl hxl hyb HP hcy h1 h2
          go_wp2
          go_round
          case rel => exact ⟨k + 1, by omega, by go_num, Hz.out⟩
          case measure => simp [intOf]; omega
      | false =>
        have hor : x.size < yb.size ∨ (yb.size = x.size ∧ ¬ y < x.data.toList) := by
          unfold ltE at hlt2
          rw [hyl, hxl] at hlt2
          rcases Nat.lt_trichotomy yb.size x.size with h | h | h
          · simp [h] at hlt2
          · right; refine ⟨h, fun k => ?_⟩; simp [h, k] at hlt2
          · exact .inl h
        by_cases he : y = x.data.toList
        · have hz : insertS x.data.toList ss = ss := by
            rw [HP.out, hd, insertS_same hlt2 he, ← hd]; exact List.take_append_drop k ss
          have hyx : yb = x := by rw [← mk_data yb, hyd, he, mk_data]
          subst hyx
          have Hz := Lib.hid hz
          have h1' : ¬ (yb.size : Int) < yb.size := by omega
          have h3 : Op.bytesLess yb.toList yb.toList = false := by rw [less_data, decide_eq_false]; exact List.lt_irrefl _
          clear hz hd ht hlt2 hyd hyl hxl hyb HP hcy hor he
          go_wp2
          go_ret
          exact ⟨_, cap, by rw [Hz.out, hl]; rfl, ⟨by rw [Hz.out]; simp [strs], fun _ => ⟨g, rfl, hg, fun j u hu => by rw [Hz.out] at hu; exact strs_take (k := ss.length) HCE.out (by rw [List.take_length]; exact hu)⟩⟩, by rw [Hz.out, hl]; exact hnc, Below.refl _ _⟩
        · have hz : insertS x.data.toList ss = ss.take k ++ [x.data.toList] ++ ss.drop k := by
            rw [HP.out, hd, insertS_more hlt2 he]; simp
          have Hz := Lib.hid hz
          have hne : (yb.toList == x.toList) = false := by
            rw [beq_eq_false_iff_ne, ByteArray.toList_eq, ByteArray.toList_eq, hyd]; exact he
          rcases hor with h1 | ⟨h1, h2⟩
          · have h1' : ¬ (yb.size : Int) < x.size := by omega
            have h1e : ((yb.size : Int) == x.size) = false := by rw [beq_eq_false_iff_ne]; omega
            have h1n : (yb.size == x.size) = false := by rw [beq_eq_false_iff_ne]; omega
            clear hz hd ht hlt2 hyd hyl hxl hyb HP hcy he
            have h0 := World.ownsRow_nil w w.heap.size 9 1
            have hkn : (k : Int) ≤ n := by omega
            have hkc : (k : Int) ≤ cap := by omega
            have hHC1 : ∀ j u, (strs (ss.take k))[j]? = some u → w.cell? ⟨g, j, none⟩ = some u := fun j u hu => strs_take HCE.out hu
            have HC1 := Lib.hid hHC1
            clear hHC1
            go_wp2_with (at_builtin; refine wpList_append_own _ rfl _ _ 23 rfl w.heap.size 9 i0 (.string ⟨#[]⟩) 1 16 Try.underlying23 hi hz0 hz1 hz2 rfl (by decide) _ _ _ rfl h0 ⟨g, 0, none⟩ k cap (strs (ss.take k)) rfl (by unfold strs; rw [List.length_map, List.length_take]; omega) (by intro j u hu; rw [addr_row]; exact HC1.out j u hu) strs_one (by unfold maxLen; omega) (by omega) (by first | omega | (simp; done) | (simp; omega)) ?_)
            intro v1 w1 hown1 hgrow1 _
            have hB1 : Below w.heap.size w w1 := (Below.refl _ w).grown hgrow1 (Nat.le_refl _) (fun q e => by simp [Value.ownBlock] at e)
            try rw [Nat.zero_add] at hown1
            try rw [List.nil_append] at hown1
            have hB1s := hB1.size
            go_wp2_with (at_builtin; refine wpList_append_own _ rfl _ _ 23 rfl w.heap.size 9 i0 (.string ⟨#[]⟩) 1 16 Try.underlying23 hi hz0 hz1 hz2 rfl (by decide) _ _ _ rfl (hown1.alloc _) ⟨w1.heap.size, 0, none⟩ 1 1 [_] rfl rfl (cell_one_new _ _ _) (by simp [Value.oneCell']) (by unfold maxLen; omega) (by omega) (by first | omega | (simp; done) | (simp; omega)) ?_)
            intro v2 w2 hown2 hgrow2 _
            have hB2 : Below w.heap.size w w2 := rel_push hB1 (by simp; omega) ((Below.refl _ w1).alloc hB1.size _) hown1 hgrow2
            have hB2s := hB2.size
            have hHC2 : ∀ j u, (strs (ss.drop k))[j]? = some u → w.cell? ⟨g, k + j, none⟩ = some u := fun j u hu => strs_drop HCE.out hu
            have HC2 := Lib.hid hHC2
            clear hHC2
            by_cases hck : cap = k
            · have hnk : n = k := by omega
              subst hck
              have hdn : ss.drop cap = [] := List.drop_of_length_le (by omega)
              go_wp2_with (at_builtin; refine wpList_append_own _ rfl _ _ 23 rfl w.heap.size 9 i0 (.string ⟨#[]⟩) 1 16 Try.underlying23 hi hz0 hz1 hz2 rfl (by decide) _ _ _ rfl hown2 ⟨g, 0, none⟩ _ _ [] rfl (by simp) (fun j u hu => by simp at hu) (fun u hu => by simp at hu) (by unfold maxLen; omega) (by omega) (by omega) ?_)
              intro v3 w3 hown3 hgrow3 _
              have hB3 : Below w.heap.size w w3 := hB2.grown hgrow3 hB2.size (fun q e => (hown2.lt q e).1)
              go_wp2
              go_ret
              obtain ⟨a', cap', hv, hr, hc'⟩ := own_strs hown3 (zs := insertS x.data.toList ss) (by rw [Hz.out, hdn]; simp [strs, enc_data2])
              exact ⟨a', cap', by rw [hv]; rfl, hr, hc', hB3⟩
            · have hck' : ¬ (cap : Int) = k := by omega
              go_wp2_with (at_builtin; refine wpList_append_own _ rfl _ _ 23 rfl w.heap.size 9 i0 (.string ⟨#[]⟩) 1 16 Try.underlying23 hi hz0 hz1 hz2 rfl (by decide) _ _ _ rfl hown2 ⟨g, k, none⟩ (n - k) (cap - k) (strs (ss.drop k)) rfl (by unfold strs; rw [List.length_map, List.length_drop]; omega) (by intro j u hu; rw [addr_row2, hB2.cell (p := ⟨g, k + j, none⟩) hg]; exact HC2.out j u hu) strs_one (by unfold maxLen; omega) (by omega) (by first | omega | (simp; done) | (simp; omega)) ?_)
              intro v3 w3 hown3 hgrow3 _
              have hB3 : Below w.heap.size w w3 := hB2.grown hgrow3 hB2.size (fun q e => (hown2.lt q e).1)
              go_wp2
              go_ret
              obtain ⟨a', cap', hv, hr, hc'⟩ := own_strs hown3 (zs := insertS x.data.toList ss) (by rw [Hz.out]; simp [strs, enc_data2])
              exact ⟨a', cap', by rw [hv]; rfl, hr, hc', hB3⟩
          · have h1' : ¬ (yb.size : Int) < x.size := by omega
            have h1e : ((yb.size : Int) == x.size) = true := by rw [beq_iff_eq]; omega
            have h1n : (yb.size == x.size) = true := by rw [beq_iff_eq]; exact h1
            have h3 : Op.bytesLess yb.toList x.toList = false := by rw [less_data, hyd, decide_eq_false h2]
            have H1 := Lib.hid h1
            clear hz hd ht hlt2 hyd hyl hxl hyb HP hcy he h1 h2
            have h0 := World.ownsRow_nil w w.heap.size 9 1
            have hkn : (k : Int) ≤ n := by omega
            have hkc : (k : Int) ≤ cap := by omega
            have hHC1 : ∀ j u, (strs (ss.take k))[j]? = some u → w.cell? ⟨g, j, none⟩ = some u := fun j u hu => strs_take HCE.out hu
            have HC1 := Lib.hid hHC1
            clear hHC1
            go_wp2_with (at_builtin; refine wpList_append_own _ rfl _ _ 23 rfl w.heap.size 9 i0 (.string ⟨#[]⟩) 1 16 Try.underlying23 hi hz0 hz1 hz2 rfl (by decide) _ _ _ rfl h0 ⟨g, 0, none⟩ k cap (strs (ss.take k)) rfl (by unfold strs; rw [List.length_map, List.length_take]; omega) (by intro j u hu; rw [addr_row]; exact HC1.out j u hu) strs_one (by unfold maxLen; omega) (by omega) (by first | omega | (simp; done) | (simp; omega)) ?_)
            intro v1 w1 hown1 hgrow1 _
            have hB1 : Below w.heap.size w w1 := (Below.refl _ w).grown hgrow1 (Nat.le_refl _) (fun q e => by simp [Value.ownBlock] at e)
            try rw [Nat.zero_add] at hown1
            try rw [List.nil_append] at hown1
            have hB1s := hB1.size
            go_wp2_with (at_builtin; refine wpList_append_own _ rfl _ _ 23 rfl w.heap.size 9 i0 (.string ⟨#[]⟩) 1 16 Try.underlying23 hi hz0 hz1 hz2 rfl (by decide) _ _ _ rfl (hown1.alloc _) ⟨w1.heap.size, 0, none⟩ 1 1 [_] rfl rfl (cell_one_new _ _ _) (by simp [Value.oneCell']) (by unfold maxLen; omega) (by omega) (by first | omega | (simp; done) | (simp; omega)) ?_)
            intro v2 w2 hown2 hgrow2 _
            have hB2 : Below w.heap.size w w2 := rel_push hB1 (by simp; omega) ((Below.refl _ w1).alloc hB1.size _) hown1 hgrow2
            have hB2s := hB2.size
            have hHC2 : ∀ j u, (strs (ss.drop k))[j]? = some u → w.cell? ⟨g, k + j, none⟩ = some u := fun j u hu => strs_drop HCE.out hu
            have HC2 := Lib.hid hHC2
            clear hHC2
            by_cases hck : cap = k
            · have hnk : n = k := by omega
              subst hck
              have hdn : ss.drop cap = [] := List.drop_of_length_le (by omega)
              go_wp2_with (at_builtin; refine wpList_append_own _ rfl _ _ 23 rfl w.heap.size 9 i0 (.string ⟨#[]⟩) 1 16 Try.underlying23 hi hz0 hz1 hz2 rfl (by decide) _ _ _ rfl hown2 ⟨g, 0, none⟩ _ _ [] rfl (by simp) (fun j u hu => by simp at hu) (fun u hu => by simp at hu) (by unfold maxLen; omega) (by omega) (by omega) ?_)
              intro v3 w3 hown3 hgrow3 _
              have hB3 : Below w.heap.size w w3 := hB2.grown hgrow3 hB2.size (fun q e => (hown2.lt q e).1)
              go_wp2
              go_ret
              obtain ⟨a', cap', hv, hr, hc'⟩ := own_strs hown3 (zs := insertS x.data.toList ss) (by rw [Hz.out, hdn]; simp [strs, enc_data2])
              exact ⟨a', cap', by rw [hv]; rfl, hr, hc', hB3⟩
            · have hck' : ¬ (cap : Int) = k := by omega
              go_wp2_with (at_builtin; refine wpList_append_own _ rfl _ _ 23 rfl w.heap.size 9 i0 (.string ⟨#[]⟩) 1 16 Try.underlying23 hi hz0 hz1 hz2 rfl (by decide) _ _ _ rfl hown2 ⟨g, k, none⟩ (n - k) (cap - k) (strs (ss.drop k)) rfl (by unfold strs; rw [List.length_map, List.length_drop]; omega) (by intro j u hu; rw [addr_row2, hB2.cell (p := ⟨g, k + j, none⟩) hg]; exact HC2.out j u hu) strs_one (by unfold maxLen; omega) (by omega) (by first | omega | (simp; done) | (simp; omega)) ?_)
              intro v3 w3 hown3 hgrow3 _
              have hB3 : Below w.heap.size w w3 := hB2.grown hgrow3 hB2.size (fun q e => (hown2.lt q e).1)
              go_wp2
              go_ret
              obtain ⟨a', cap', hv, hr, hc'⟩ := own_strs hown3 (zs := insertS x.data.toList ss) (by rw [Hz.out]; simp [strs, enc_data2])
              exact ⟨a', cap', by rw [hv]; rfl, hr, hc', hB3⟩
    · have hc : ¬ (k : Int) < n := by omega
      have hz : insertS x.data.toList ss = ss.take k ++ [x.data.toList] ++ ss.drop k := by
        rw [HP.out, List.drop_of_length_le (by omega)]; simp [insertS]
      have Hz := Lib.hid hz
      clear hz HP
      have h0 := World.ownsRow_nil w w.heap.size 9 1
      have hkn : (k : Int) ≤ n := by omega
      have hkc : (k : Int) ≤ cap := by omega
      have hHC1 : ∀ j u, (strs (ss.take k))[j]? = some u → w.cell? ⟨g, j, none⟩ = some u := fun j u hu => strs_take HCE.out hu
      have HC1 := Lib.hid hHC1
      clear hHC1
      go_wp2_with (at_builtin; refine wpList_append_own _ rfl _ _ 23 rfl w.heap.size 9 i0 (.string ⟨#[]⟩) 1 16 Try.underlying23 hi hz0 hz1 hz2 rfl (by decide) _ _ _ rfl h0 ⟨g, 0, none⟩ k cap (strs (ss.take k)) rfl (by unfold strs; rw [List.length_map, List.length_take]; omega) (by intro j u hu; rw [addr_row]; exact HC1.out j u hu) strs_one (by unfold maxLen; omega) (by omega) (by first | omega | (simp; done) | (simp; omega)) ?_)
      intro v1 w1 hown1 hgrow1 _
      have hB1 : Below w.heap.size w w1 := (Below.refl _ w).grown hgrow1 (Nat.le_refl _) (fun q e => by simp [Value.ownBlock] at e)
      try rw [Nat.zero_add] at hown1
      try rw [List.nil_append] at hown1
      have hB1s := hB1.size
      go_wp2_with (at_builtin; refine wpList_append_own _ rfl _ _ 23 rfl w.heap.size 9 i0 (.string ⟨#[]⟩) 1 16 Try.underlying23 hi hz0 hz1 hz2 rfl (by decide) _ _ _ rfl (hown1.alloc _) ⟨w1.heap.size, 0, none⟩ 1 1 [_] rfl rfl (cell_one_new _ _ _) (by simp [Value.oneCell']) (by unfold maxLen; omega) (by omega) (by first | omega | (simp; done) | (simp; omega)) ?_)
      intro v2 w2 hown2 hgrow2 _
      have hB2 : Below w.heap.size w w2 := rel_push hB1 (by simp; omega) ((Below.refl _ w1).alloc hB1.size _) hown1 hgrow2
      have hB2s := hB2.size
      have hHC2 : ∀ j u, (strs (ss.drop k))[j]? = some u → w.cell? ⟨g, k + j, none⟩ = some u := fun j u hu => strs_drop HCE.out hu
      have HC2 := Lib.hid hHC2
      clear hHC2
      by_cases hck : cap = k
      · have hnk : n = k := by omega
        subst hck
        have hdn : ss.drop cap = [] := List.drop_of_length_le (by omega)
        go_wp2_with (at_builtin; refine wpList_append_own _ rfl _ _ 23 rfl w.heap.size 9 i0 (.string ⟨#[]⟩) 1 16 Try.underlying23 hi hz0 hz1 hz2 rfl (by decide) _ _ _ rfl hown2 ⟨g, 0, none⟩ _ _ [] rfl (by simp) (fun j u hu => by simp at hu) (fun u hu => by simp at hu) (by unfold maxLen; omega) (by omega) (by omega) ?_)
        intro v3 w3 hown3 hgrow3 _
        have hB3 : Below w.heap.size w w3 := hB2.grown hgrow3 hB2.size (fun q e => (hown2.lt q e).1)
        go_wp2
        go_ret
        obtain ⟨a', cap', hv, hr, hc'⟩ := own_strs hown3 (zs := insertS x.data.toList ss) (by rw [Hz.out, hdn]; simp [strs, enc_data2])
        exact ⟨a', cap', by rw [hv]; rfl, hr, hc', hB3⟩
      · have hck' : ¬ (cap : Int) = k := by omega
        go_wp2_with (at_builtin; refine wpList_append_own _ rfl _ _ 23 rfl w.heap.size 9 i0 (.string ⟨#[]⟩) 1 16 Try.underlying23 hi hz0 hz1 hz2 rfl (by decide) _ _ _ rfl hown2 ⟨g, k, none⟩ (n - k) (cap - k) (strs (ss.drop k)) rfl (by unfold strs; rw [List.length_map, List.length_drop]; omega) (by intro j u hu; rw [addr_row2, hB2.cell (p := ⟨g, k + j, none⟩) hg]; exact HC2.out j u hu) strs_one (by unfold maxLen; omega) (by omega) (by first | omega | (simp; done) | (simp; omega)) ?_)
        intro v3 w3 hown3 hgrow3 _
        have hB3 : Below w.heap.size w w3 := hB2.grown hgrow3 hB2.size (fun q e => (hown2.lt q e).1)
        go_wp2
        go_ret
        obtain ⟨a', cap', hv, hr, hc'⟩ := own_strs hown3 (zs := insertS x.data.toList ss) (by rw [Hz.out]; simp [strs, enc_data2])
        exact ⟨a', cap', by rw [hv]; rfl, hr, hc', hB3⟩
end Go.Proofs.Yteejjcipdpojnaa
