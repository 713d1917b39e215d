/- Contracts of the closure of trim.innerSearch, of trim.Inner and trim.Outer. -/
import Derived.Test.YteejjcipdpojnaaMemo
namespace Go.Proofs.Yteejjcipdpojnaa
set_option linter.unusedVariables false
open Go.RowKit Go.Maps

theorem nodup_len : ∀ (n : Nat) (L : List Nat), L.Nodup → (∀ x ∈ L, x < n) → L.length ≤ n
  | 0, L, _, h => by
    cases L with
    | nil => exact Nat.le_refl _
    | cons x _ => exact absurd (h x (by simp)) (by omega)
  | n + 1, L, hn, h => by
    by_cases hm : n ∈ L
    · have h1 := List.length_erase_of_mem hm
      have h2 := nodup_len n (L.erase n) (hn.erase n) (fun x hx => by
        have h3 := (hn.mem_erase_iff).1 hx
        have h4 := h x h3.2
        have h5 := h3.1
        omega)
      omega
    · have h2 := nodup_len n L hn (fun x hx => by
        have h4 := h x hx
        have h5 : x ≠ n := fun e => hm (e ▸ hx)
        omega)
      omega

theorem pairs_len (L : List (Nat × Nat)) (hn : L.Nodup) (hs : ∀ q ∈ L, Small q) : L.length ≤ 1002001 := by
  have h := nodup_len 1002001 (L.map fun q => q.1 * 1001 + q.2) (by
    unfold List.Nodup
    rw [List.pairwise_map]
    refine List.Pairwise.imp_of_mem ?_ hn
    intro a b ha hb hne e
    have h1 := hs a ha
    have h2 := hs b hb
    unfold Small at h1 h2
    exact hne (Prod.ext (by omega) (by omega))) (by
    intro x hx
    obtain ⟨q, hq, rfl⟩ := List.mem_map.1 hx
    have h1 := hs q hq
    unfold Small at h1
    omega)
  rwa [List.length_map] at h

/-- the search's closure as it lies in memory, and what it has found -/
structure Found (s : ByteArray) (Bw Bm Bf M : Nat) (W : World) (L : List (Nat × Nat)) : Prop where
  word : W.cell? ⟨Bw, 0, none⟩ = some (.string s)
  map : W.cell? ⟨Bm, 0, none⟩ = some (.map (some M))
  fn : W.cell? ⟨Bf, 0, none⟩ = some (.func (.func 81) #[] #[.pointer (some ⟨Bw, 0, none⟩), .pointer (some ⟨Bm, 0, none⟩), .pointer (some ⟨Bf, 0, none⟩)])
  own : W.ownsMap Try.prog 79 (plainElem Try.prog 9) M L.length (memoOf s.data.toList L)
  small : ∀ q ∈ L, Small q
  nodup : L.Nodup

theorem cell_not_map {W : World} {B M n : Nat} {v : Value} {k : TypeId} {R : Value → Option (DataW Unit × List MemPlace)} {D : DataW Unit} (h : W.cell? ⟨B, 0, none⟩ = some v) (hm : W.ownsMap Try.prog k R M n D) : some B ≠ some M := by
  rintro ⟨⟩
  obtain ⟨es, clock, hb, _⟩ := hm
  simp [World.cell?, hb] at h

theorem Found.grown {s : ByteArray} {Bw Bm Bf M : Nat} {W W' : World} {L L' : List (Nat × Nat)} (h : Found s Bw Bm Bf M W L) (hg : W.grownBy W' (some M))
    (ho : W'.ownsMap Try.prog 79 (plainElem Try.prog 9) M L'.length (memoOf s.data.toList L')) (hs : ∀ q ∈ L', Small q) (hn : L'.Nodup) : Found s Bw Bm Bf M W' L' :=
  ⟨hg.cell h.word (cell_not_map h.word h.own), hg.cell h.map (cell_not_map h.map h.own), hg.cell h.fn (cell_not_map h.fn h.own), ho, hs, hn⟩

theorem Found.drawn {s : ByteArray} {Bw Bm Bf M : Nat} {W : World} {L : List (Nat × Nat)} (h : Found s Bw Bm Bf M W L) (n : Nat) : Found s Bw Bm Bf M (W.drewN n) L :=
  ⟨h.word, h.map, h.fn, h.own, h.small, h.nodup⟩

theorem grown_drawn {W : World} {n : Nat} {row : Option Nat} : W.grownBy (W.drewN n) row := ⟨rfl, rfl, rfl, Nat.le_refl _, fun _ _ _ => rfl⟩

/-- what a search leaves: its value; more found, of no greater width -/
def Searched (s : ByteArray) (Bw Bm Bf M d b : Nat) (W : World) (L : List (Nat × Nat)) (e : Ending) (W' : World) : Prop :=
  e = .returned (.string (mk (innerAt s.data.toList d b))) ∧ ∃ L', Found s Bw Bm Bf M W' L' ∧ (∀ q ∈ L', q ∈ L ∨ q.2 - q.1 ≤ d) ∧ W.grownBy W' (some M)

theorem extract_mk0 (s : ByteArray) (b : Nat) : s.extract b b = mk [] := by
  rw [← mk_data (s.extract b b), Lib.extract_data, Nat.sub_self, List.take_zero]
theorem extract_mk1 (s : ByteArray) (b : Nat) (hb : b < s.size) : s.extract b (b + 1) = mk [s.data.toList.getD b 0] := by
  rw [← mk_data (s.extract b (b + 1)), letter_data s b hb]

theorem searched_store {s : ByteArray} {Bw Bm Bf M d b e d1 : Nat} {W W1 w2 : World} {L L1 : List (Nat × Nat)} {r : ByteArray} (hF1 : Found s Bw Bm Bf M W1 L1) (hsm : Small (b, e)) (hnot : (b, e) ∉ L)
    (he : e = b + d) (hd : d1 < d) (hL1 : ∀ q ∈ L1, q ∈ L ∨ q.2 - q.1 ≤ d1) (hG1 : W.grownBy W1 (some M)) (hg2 : W1.grownBy w2 (some M)) (hr : r = mk (innerAt s.data.toList d b))
    (hM2 : w2.ownsMap Try.prog 79 (plainElem Try.prog 9) M (L1.length + 1) ((memoOf s.data.toList L1).put (keyLit (b, e)) (.lit (.string r.data.toList)))) :
    Searched s Bw Bm Bf M d b W L (.returned (.string r)) w2 := by
  refine ⟨ret_str hr, L1 ++ [(b, e)], hF1.grown hg2 ?_ ?_ ?_, ?_, hG1.trans hg2⟩
  · rw [memoOf_snoc, List.length_append, List.length_singleton]
    rw [hr, data_mk, show d = e - b from by omega] at hM2
    exact hM2
  · intro q hq
    rcases List.mem_append.1 hq with h | h
    · exact hF1.small q h
    · rw [List.mem_singleton.1 h]; exact hsm
  · rw [List.nodup_append]
    refine ⟨hF1.nodup, by simp, ?_⟩
    intro q hq q' hq' e'
    rw [List.mem_singleton.1 hq'] at e'
    rw [e'] at hq
    rcases hL1 _ hq with h | h
    · exact hnot h
    · simp only at h; omega
  · intro q hq
    rcases List.mem_append.1 hq with h | h
    · rcases hL1 q h with k | k
      · exact .inl k
      · exact .inr (by omega)
    · rw [List.mem_singleton.1 h]; exact .inr (by simp only; omega)

set_option maxRecDepth 100000 in
set_option maxHeartbeats 2000000 in
theorem search_any (s : ByteArray) (hs : s.size ≤ 100) (Bw Bm Bf M : Nat) (d : Nat) : ∀ (b e : Nat) (x y : Int) (W : World) (L : List (Nat × Nat)), x = b → y = e → e = b + d → e ≤ s.size → Found s Bw Bm Bf M W L →
    Calls Try.prog 81 #[.int .i64 x, .int .i64 y, .pointer (some ⟨Bw, 0, none⟩), .pointer (some ⟨Bm, 0, none⟩), .pointer (some ⟨Bf, 0, none⟩)] W (Searched s Bw Bm Bf M d b W L) := by
  induction d using Nat.strongRecOn with
  | _ d ih =>
    intro b e x y W L hx hy he hes hF
    subst hx hy
    have hw := hF.word
    have hmp := hF.map
    have hfn := hF.fn
    have hsm : Small (b, e) := ⟨by omega, by omega⟩
    by_cases hd : d < 2
    · have h1 : (e : Int) - b < 2 := by omega
      have h2 : (b : Int) ≤ e := by omega
      have h3 : (e : Int) ≤ s.size := by omega
      have hr : s.extract b e = mk (innerAt s.data.toList d b) := by
        match d, hd with
        | 0, _ => rw [show e = b from by omega, extract_mk0]; rfl
        | 1, _ => rw [he, extract_mk1 s b (by omega)]; rfl
      have Hr := Lib.hid hr
      have HF := Lib.hid hF
      have He := Lib.hid he
      clear hr hF he ih
      go_enter Try.func81, Try.ntmps81
      go_wp2_with fail
      go_ret
      exact ⟨ret_str Hr.out, L, HF.out, fun q hq => .inl hq, World.grownBy.refl _ _⟩
    · have h1 : ¬ (e : Int) - b < 2 := by omega
      cases hc : L.contains (b, e) with
      | true =>
        have Hc := Lib.hid hc
        have HF := Lib.hid hF
        have He := Lib.hid he
        have Hsm := Lib.hid hF.small
        have hown := hF.own
        clear hc hF he ih
        go_enter Try.func81, Try.ntmps81
        go_wp2_with (at_lookup; refine wpList_lookup_memo s.data.toList L (b, e) hsm Hsm.out _ rfl _ _ rfl M _ rfl hown rfl true (mk (innerAt s.data.toList (e - b) b)) Hc.out rfl ?_)
        go_ret
        exact ⟨ret_str (by rw [show e - b = d from by have := He.out; omega]), L, HF.out, fun q hq => .inl hq, World.grownBy.refl _ _⟩
      | false =>
        have hnot : (b, e) ∉ L := fun h => by rw [List.contains_iff_mem.2 h] at hc; cases hc
        obtain ⟨d', rfl⟩ : ∃ d', d = d' + 2 := ⟨d - 2, by omega⟩
        obtain ⟨m, hm⟩ : ∃ m : Nat, m + 1 = e := ⟨e - 1, by omega⟩
        have hm2 : b + d' + 1 = m := by omega
        have hb1 : (b : Int) < s.size := by omega
        have hm1 : (m : Int) < s.size := by omega
        have hbn : b < s.size := by omega
        have hmn : m < s.size := by omega
        have hb2 : (b : Int) + 1 ≤ s.size := by omega
        have hd98 : d' ≤ 98 := by omega
        have e1 : IntKind.i64.wrap ((e : Int) - 1) = m := by rw [IntWalk.i64_in _ (by omega)]; omega
        have Hnot := Lib.hid hnot
        have Hc := Lib.hid hc
        have He := Lib.hid he
        have Hm := Lib.hid hm
        have Hm2 := Lib.hid hm2
        have Hsm := Lib.hid hF.small
        have hown := hF.own
        have HF := Lib.hid hF
        clear hc hF he hm hm2 hnot
        have hlen := innerAt_len s.data.toList
        have hl1 : (s.extract b (b + 1)).size ≤ 1 := by rw [ByteArray.size_extract]; omega
        cases hq : ((s[b].toNat : Int) == (s[m].toNat : Int)) with
        | true =>
          have hval : s.extract b (b + 1) ++ mk (innerAt s.data.toList d' (b + 1)) ++ s.extract b (b + 1) = mk (innerAt s.data.toList (d' + 2) b) := by
            rw [extract_mk1 s b hbn, innerAt, if_pos (by rw [Hm2.out, getD_data s b hbn, getD_data s m hmn]; exact beq_iff_eq.1 (nat_beq _ _ ▸ hq))]
            unfold mk; rw [ByteArray.mk_append_mk, ByteArray.mk_append_mk]; rfl
          have hz : (mk (innerAt s.data.toList d' (b + 1))).size ≤ 100 := by rw [mk_size]; have := hlen d' (b + 1); omega
          have hs1 : (s.extract b (b + 1)).size + (mk (innerAt s.data.toList d' (b + 1))).size ≤ 9223372036854775807 := by omega
          have hs2 : (s.extract b (b + 1)).size + (mk (innerAt s.data.toList d' (b + 1))).size + (s.extract b (b + 1)).size ≤ 9223372036854775807 := by omega
          have Hs3 := Lib.hid (show (s.extract b (b + 1) ++ mk (innerAt s.data.toList d' (b + 1)) ++ s.extract b (b + 1)).size ≤ maxLen from by rw [ByteArray.size_append, ByteArray.size_append]; unfold maxLen; omega)
          have Hval := Lib.hid hval
          have Hih := Lib.hid (ih d' (by omega) (b + 1) m)
          clear hval ih hlen
          go_enter Try.func81, Try.ntmps81
          go_wp2_with (at_lookup; refine wpList_lookup_memo s.data.toList L (b, e) hsm Hsm.out _ rfl _ _ rfl M _ rfl hown rfl false ⟨#[]⟩ Hc.out rfl ?_)
          go_quiet (fail)
          clear e1
          go_wp2_with (first
            | (go_at_call 81; refine (Hih.out _ _ _ L (by omega) (by have := Hm.out; omega) (by have := Hm2.out; omega) (by omega) (HF.out.drawn _)).mono ?_; rintro e' W1 ⟨rfl, L1, hF1, hL1, hG1⟩; have hmp1 := hF1.map; have hown1 := hF1.own; have hb1001 := pairs_len L1 hF1.nodup hF1.small)
            | (at_mapUpdate; refine wpList_mapUpdate_own _ rfl _ _ _ 78 rfl 79 9 keyed79 Try.underlying78 _ M _ _ rfl hown1 (by unfold maxLen; omega) _ _ _ rfl rfl (keyLit_key hsm) _ [] (plainElem_string Try.underlying9 Hs3.out) ?_; intro w2 hM2 hg2))
          go_ret
          exact searched_store hF1 hsm Hnot.out He.out (by omega) hL1 (grown_drawn.trans hG1) hg2 Hval.out hM2
        | false =>
          have hval : betterB (mk (innerAt s.data.toList (d' + 1) (b + 1))) (mk (innerAt s.data.toList (d' + 1) b)) = mk (innerAt s.data.toList (d' + 2) b) := by
            rw [betterB_mk, innerAt, if_neg (by rw [Hm2.out, getD_data s b hbn, getD_data s m hmn]; exact beq_eq_false_iff_ne.1 (nat_beq _ _ ▸ hq))]
          have hz1 : (mk (innerAt s.data.toList (d' + 1) (b + 1))).size ≤ 1000 := by rw [mk_size]; have := hlen (d' + 1) (b + 1); omega
          have hz2 : (mk (innerAt s.data.toList (d' + 1) b)).size ≤ 1000 := by rw [mk_size]; have := hlen (d' + 1) b; omega
          have Hs3 := Lib.hid (show (betterB (mk (innerAt s.data.toList (d' + 1) (b + 1))) (mk (innerAt s.data.toList (d' + 1) b))).size ≤ maxLen from by
            rw [hval, mk_size]; have := hlen (d' + 2) b; unfold maxLen; omega)
          have Hval := Lib.hid hval
          have Hih1 := Lib.hid (ih (d' + 1) (by omega) (b + 1) e)
          have Hih2 := Lib.hid (ih (d' + 1) (by omega) b m)
          have e2 : IntKind.i64.wrap ((b : Int) + 1) = (b : Int) + 1 := IntWalk.i64_in _ (by omega)
          clear hval ih hlen
          go_enter Try.func81, Try.ntmps81
          go_wp2_with (at_lookup; refine wpList_lookup_memo s.data.toList L (b, e) hsm Hsm.out _ rfl _ _ rfl M _ rfl hown rfl false ⟨#[]⟩ Hc.out rfl ?_)
          go_quiet (fail)
          go_wp2_with fail
          go_region_held3 (fun w' => w'.cell? ⟨Bf, 0, none⟩ = some (.func (.func 81) #[] #[.pointer (some ⟨Bw, 0, none⟩), .pointer (some ⟨Bm, 0, none⟩), .pointer (some ⟨Bf, 0, none⟩)])) (first | exact hF2.fn | exact hF1.fn | exact hfn)
            (first
              | (go_at_call 81; refine (Hih2.out _ _ _ L1 (by omega) (by omega) (by have := Hm2.out; omega) (by omega) hF1).mono ?_; rintro e' W2 ⟨rfl, L2, hF2, hL2, hG2⟩)
              | (go_at_call 81; refine (Hih1.out _ _ _ L (by omega) (by omega) (by have := He.out; omega) (by omega) (HF.out.drawn _)).mono ?_; rintro e' W1 ⟨rfl, L1, hF1, hL1, hG1⟩)
              | (go_at_call 82; refine (better_trim_any _ _ _ hz1 hz2).mono ?_; rintro e' W3 ⟨rfl, rfl⟩))
          have hmp2 := hF2.map
          have hown2 := hF2.own
          have hb1001 := pairs_len L2 hF2.nodup hF2.small
          have HL : Hid (∀ q ∈ L2, q ∈ L ∨ q.2 - q.1 ≤ d' + 1) := fun q hq => by
            rcases hL2 q hq with h | h
            · exact hL1 q h
            · exact .inr h
          clear hL1 hL2 e1 e2
          go_wp2_with (at_mapUpdate; refine wpList_mapUpdate_own _ rfl _ _ _ 78 rfl 79 9 keyed79 Try.underlying78 _ M _ _ rfl hown2 (by unfold maxLen; omega) _ _ _ rfl rfl (keyLit_key hsm) _ [] (plainElem_string Try.underlying9 Hs3.out) ?_; intro w2 hM2 hg2)
          go_ret
          exact searched_store hF2 hsm Hnot.out He.out (by omega) HL.out ((grown_drawn.trans hG1).trans hG2) hg2 Hval.out hM2
end Go.Proofs.Yteejjcipdpojnaa
