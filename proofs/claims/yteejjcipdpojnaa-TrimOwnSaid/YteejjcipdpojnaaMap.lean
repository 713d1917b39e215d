/- Contracts of trim.Ends, trim.Centers, trim.Occurrences, trim.Longest and trim.Rich. -/
import Derived.Test.YteejjcipdpojnaaRev
import Derived.Maps.OwnOps
import Derived.Maps.OwnSet
namespace Go.Proofs.Yteejjcipdpojnaa
set_option linter.unusedVariables false
open Go.RowKit Go.Maps

/-! ### a slice that the call owns, read -/
theorem ownsRow_open {w : World} {base n : Nat} {e : TypeId} {v : Value} {xs : List Value} (h : w.ownsRow base e 1 v n xs) :
    ∃ a cap, v = .slice a n cap ∧ xs.length = n ∧ (0 < n → ∃ g, a = some ⟨g, 0, none⟩ ∧ base ≤ g ∧ g < w.heap.size ∧ ∀ j u, xs[j]? = some u → w.cell? ⟨g, j, none⟩ = some u) := by
  have hlen := h.1
  have hcells := fun g (hg : v.ownBlock = some g) => h.cells hg
  rcases h.2 with ⟨rfl, rfl⟩ | ⟨g, cap, cur, rfl, hb, hg, _⟩
  · exact ⟨none, 0, rfl, by omega, fun h => absurd h (by omega)⟩
  · refine ⟨_, cap, rfl, by omega, fun _ => ⟨g, rfl, hb, (Array.getElem?_eq_some_iff.1 hg).1, fun j u hu => ?_⟩⟩
    have := hcells g rfl j u hu
    rwa [show ((⟨g, 0, none⟩ : Addr).add j) = ⟨g, j, none⟩ from by unfold Addr.add; split <;> simp_all] at this

theorem ownsRow_below {w w' : World} {base n : Nat} {e : TypeId} {v : Value} {xs : List Value} (h : w.ownsRow base e 1 v n xs) (hb : Below w.heap.size w w') : w'.ownsRow base e 1 v n xs :=
  h.kept (row := none) ⟨hb.os, hb.tape, hb.output, hb.size, fun k hk _ => hb.block k hk⟩ (by cases hv : v.ownBlock <;> simp)

/-! ### a set of strings as a map to bool -/
abbrev boolSet (ss : List (List UInt8)) : DataW Unit := setOf (.lit (.bool true)) (ss.map Lit.string)

theorem boolSet_snoc (ss : List (List UInt8)) (x : List UInt8) : boolSet (ss ++ [x]) = (boolSet ss).put (.string x) (.lit (.bool true)) := by
  unfold boolSet; rw [List.map_append, List.map_singleton, setOf_snoc]

theorem boolSet_isMap (ss : List (List UInt8)) : IsMap (boolSet ss) :=
  (tidy_setOf _ _ (fun x hx => by obtain ⟨y, _, rfl⟩ := List.mem_map.1 hx; trivial)).isMap

theorem snoc_rec {α : Type} {p : List α → Prop} (h0 : p []) (h1 : ∀ l x, p l → p (l ++ [x])) : ∀ l, p l := by
  intro l
  rw [← List.reverse_reverse l]
  induction l.reverse with
  | nil => exact h0
  | cons x r ih => rw [List.reverse_cons]; exact h1 _ _ ih

theorem boolSet_at (x : List UInt8) (ss : List (List UInt8)) : (boolSet ss).atKey (.string x) (.lit (.bool false)) = .lit (.bool (ss.contains x)) := by
  refine snoc_rec (p := fun ss => (boolSet ss).atKey (.string x) (.lit (.bool false)) = .lit (.bool (ss.contains x))) rfl ?_ ss
  intro l y ih
  rw [boolSet_snoc]
  by_cases h : x = y
  · subst h
    rw [atKey_put_same (boolSet_isMap l) (show WideAt.IsKeyLit (.string x) from trivial)]
    simp
  · rw [atKey_put_other (fun e => h (by cases e; rfl)), ih]
    simp [h]

theorem plainElem_bool_inv {P : Program} {e : TypeId} {H : Type} (he : P.underlying e = some .bool) {v : Value} {z : DataW H × List MemPlace} (h : plainElem P e v = some z) : ∃ c, v = .bool c ∧ z = (.lit (.bool c), []) := by
  unfold plainElem at h
  rw [he] at h
  cases v <;> simp at h
  exact ⟨_, rfl, h.symm⟩

theorem wpList_lookup_set {P : Program} (w : World) {ops : Array Oper} {rest : List Oper} {o : Oper} {a : Act} {Q : Exit → Act → World → Prop}
    (hg : o.guard = none) (m x : Operand) (t : TypeId) (hop : o.op = Op.lookup t m x false)
    (k e : TypeId) (hk : P.underlying k = some .string) (ht : P.underlying t = some (.map k e)) (he : P.underlying e = some .bool) (hz : (zeroValue e).run P w = .ok (.bool false) w) (b n : Nat) (ss : List (List UInt8))
    (hm : a.eval m = .map (some b)) (hown : w.ownsMap P k (plainElem P e) b n (boolSet ss)) (key : ByteArray) (hx : a.eval x = .string key) (hlen : key.size ≤ maxLen)
    (c : Bool) (hc : ss.contains key.data.toList = c)
    (hK : wpList P ops Q rest (a.put o.dst (.bool c)) w) :
    wpList P ops Q (o :: rest) a w := by
  refine wpList_plain hg fun K' hK' => ?_
  obtain ⟨v, ps, hrun, hv⟩ := hown.lookup (string_keyed hk) ht hz (plainElem_bool he false) (WideMaps.keyOf_string_mk hk hlen)
  obtain ⟨c', rfl, hc'⟩ := plainElem_bool_inv he hv
  rw [boolSet_at, hc] at hc'
  have hcc : c' = c := by simpa using (congrArg Prod.fst hc').symm
  subst hcc
  unfold Oper.wp
  simp [execOp, hop, hm, hx, hrun, Result.andThen]
  exact hK' _ _ hK

/-! ### Rich -/
/-- the longest palindrome that ends at k -/
def palEnd (l : List UInt8) (k : Nat) : List UInt8 := (l.take (k + 1)).drop (k + 1 - longEnd (l.take (k + 1)))
def palEnds (l : List UInt8) (k : Nat) : List (List UInt8) := (List.range k).map (palEnd l)
theorem palEnds_succ (l : List UInt8) (k : Nat) : palEnds l (k + 1) = palEnds l k ++ [palEnd l k] := by simp [palEnds, List.range_succ]
/-- the first position from k on at which an older palindrome ends, or -1 -/
def richGo (l : List UInt8) : Nat → Nat → Int
  | 0, _ => -1
  | f + 1, k => if (palEnds l k).contains (palEnd l k) then (k : Int) else richGo l f (k + 1)
def richL (l : List UInt8) : Int := richGo l l.length 0
def richR (s : ByteArray) : Int × Int := if wordB s.data.toList then (richL s.data.toList, 0) else (0, 2)

theorem palEnd_data (s : ByteArray) (k m : Nat) (hm : longEnd (s.data.toList.take (k + 1)) = m) : (s.extract (k + 1 - m) (k + 1)).data.toList = palEnd s.data.toList k := by
  unfold palEnd
  rw [Lib.extract_data, hm, List.drop_take]

theorem ends_at (l : List UInt8) (k : Nat) (hk : k < l.length) : (nats (ends l))[k]? = some (.int .i64 (longEnd (l.take (k + 1)) : Nat)) := by
  simp [nats, ends, endsTo, hk]

theorem zeroBool (w : World) : (zeroValue 4).run Try.prog w = .ok (.bool false) w := by kernel_rfl

set_option maxHeartbeats 1000000 in
theorem Rich_any (s : ByteArray) (w : World) (hs : s.size ≤ 1000) :
    Calls Try.prog 30 #[.string s] w fun e w' => e = .returned (.tuple #[.int .i64 (richR s).1, .int .i64 (richR s).2]) ∧ Below w.heap.size w w' := by
  cases hw : wordB s.data.toList with
  | false =>
    have hr : richR s = (0, 2) := by unfold richR; rw [hw]; rfl
    have Hr := Lib.hid hr
    have Hw := Lib.hid hw
    clear hr hw
    go_enter Try.func30, Try.ntmps30
    go_wp2_with (go_at_call 54; refine (isWord_any _ _ (by unfold maxLen; omega)).mono ?_; rintro e w' ⟨rfl, rfl⟩; rw [Hw.out])
    go_ret2
    exact ⟨by rw [Hr.out]; rfl, Below.refl _ _⟩
  | true =>
    have Hw := Lib.hid hw
    clear hw
    have hmm := @run_makeMap Try.prog
    have hM := World.ownsMap_made (H := Unit) w Try.prog 9 (plainElem Try.prog 4)
    go_enter Try.func30, Try.ntmps30
    go_wp2_with (first
      | (go_at_call 54; refine (isWord_any _ _ (by unfold maxLen; omega)).mono ?_; rintro e w' ⟨rfl, rfl⟩; rw [Hw.out])
      | (go_at_call 55; refine (endLengths_any _ _ hs).mono ?_; rintro e w1 ⟨v, rfl, hown, hB1⟩; obtain ⟨a, cap, rfl, hlen, hcl⟩ := ownsRow_open hown))
    have hM1 := hM.kept ⟨hB1.os, hB1.tape, hB1.output, hB1.size, fun k hk _ => hB1.block k hk⟩ (row := none) (by simp)
    have hcg : ∀ k, k < s.size → ∃ g, a = some ⟨g, 0, none⟩ ∧ w.heap.size + 1 ≤ g ∧ g < w1.heap.size ∧ w1.cell? ⟨g, k, none⟩ = some (.int .i64 (longEnd (s.data.toList.take (k + 1)) : Nat)) := by
      intro k hk
      obtain ⟨g, rfl, hg1, hg2, hg3⟩ := hcl (by omega)
      exact ⟨g, rfl, by simpa using hg1, hg2, hg3 k _ (ends_at _ k (by rw [data_length]; exact hk))⟩
    have hBW : ∀ wr, w1.grownBy wr (some w.heap.size) → Below w.heap.size w wr := fun wr hG =>
      (((Below.refl w.heap.size w).alloc (Nat.le_refl _) (.map #[] 0)).trans (hB1.mono (by simp))).grown hG (by have := hB1.size; simp at this; omega) (fun j e => by cases e; exact Nat.le_refl _)
    have HBW := Lib.hid hBW
    clear hBW
    have HC := Lib.hid hcg
    clear hcg hcl hown hM
    go_loopw [15] (fun i wr => ∃ k : Nat, k ≤ s.size ∧ i = .int .i64 k ∧ wr.ownsMap Try.prog 9 (plainElem Try.prog 4) w.heap.size k (boolSet (palEnds s.data.toList k)) ∧ w1.grownBy wr (some w.heap.size) ∧ Hid (richL s.data.toList = richGo s.data.toList (s.size - k) k)) (fun i _ => s.size - (intOf i).toNat)
    case atStart => exact ⟨0, Nat.zero_le _, rfl, hM1, ⟨rfl, rfl, rfl, Nat.le_refl _, fun _ _ _ => rfl⟩, by unfold Hid richL; rw [data_length]; rfl⟩
    case round =>
      obtain ⟨k, hk, rfl, hMk, hG, HP⟩ := hrel
      by_cases hlt : k < s.size
      · have hc : (k : Int) < s.size := by omega
        obtain ⟨g, rfl, hg1, hg2, hcell⟩ := HC.out k hlt
        have hle := longEnd_le (s.data.toList.take (k + 1))
        rw [List.length_take] at hle
        obtain ⟨m, hm⟩ : ∃ m, longEnd (s.data.toList.take (k + 1)) = m := ⟨_, rfl⟩
        rw [hm] at hcell hle
        have hce := hG.cell hcell (by simp; omega)
        have h0 : (0 : Int) ≤ (k : Int) + 1 - m := by omega
        have h1 : (k : Int) + 1 - m ≤ (k : Int) + 1 := by omega
        have e3 : ((k : Int) + 1 - m).toNat = k + 1 - m := by omega
        have hpd := palEnd_data s k m hm
        have Hm := Lib.hid hm
        have Hpd := Lib.hid hpd
        clear hm hpd hcell
        have hlen : (s.extract (k + 1 - m) (k + 1)).size ≤ maxLen := by rw [ByteArray.size_extract]; unfold maxLen; omega
        cases hb : (palEnds s.data.toList k).contains (palEnd s.data.toList k) with
        | true =>
          have Hb := Lib.hid hb
          clear hb
          go_wp2_with (at_lookup; refine wpList_lookup_set _ rfl _ _ 56 rfl 9 4 Try.underlying9 Try.underlying56 Try.underlying4 (zeroBool _) w.heap.size k _ rfl hMk _ rfl hlen true (by rw [Hpd.out]; exact Hb.out) ?_)
          go_ret2
          exact ⟨by unfold richR; rw [Hw.out, if_pos rfl, HP.out, show s.size - k = (s.size - k - 1) + 1 from by omega, richGo, Hb.out]; rfl, HBW.out _ hG⟩
        | false =>
          have hz : richL s.data.toList = richGo s.data.toList (s.size - (k + 1)) (k + 1) := by
            rw [HP.out, show s.size - k = (s.size - (k + 1)) + 1 from by omega, richGo, hb]; rfl
          have Hb := Lib.hid hb
          have Hz := Lib.hid hz
          clear hb hz
          go_wp2_with (first
            | (at_lookup; refine wpList_lookup_set _ rfl _ _ 56 rfl 9 4 Try.underlying9 Try.underlying56 Try.underlying4 (zeroBool _) w.heap.size k _ rfl hMk _ rfl hlen false (by rw [Hpd.out]; exact Hb.out) ?_)
            | (at_mapUpdate; refine wpList_mapUpdate_own _ rfl _ _ _ 56 rfl 9 4 (string_keyed Try.underlying9) Try.underlying56 _ w.heap.size k _ rfl hMk (by unfold maxLen; omega) _ _ _ rfl rfl (WideMaps.keyOf_string_mk Try.underlying9 hlen) _ [] (plainElem_bool Try.underlying4 true) ?_; intro w2 hM2 hg2))
          rw [Hpd.out, ← boolSet_snoc, ← palEnds_succ] at hM2
          go_roundw
          case rel => exact ⟨k + 1, by omega, by go_num, hM2, hG.trans hg2, Hz.out⟩
          case measure => simp [intOf]; omega
      · obtain rfl : k = s.size := by omega
        go_wp2
        go_ret2
        exact ⟨by unfold richR; rw [Hw.out, if_pos rfl, HP.out, Nat.sub_self]; rfl, HBW.out _ hG⟩
end Go.Proofs.Yteejjcipdpojnaa
