/- Check of trim is what the reference says, for every string and list: TrimChecks. -/
import Derived.Test.YteejjcipdpojnaaLawkit
import Derived.SliceStrings
namespace Go.Proofs.Yteejjcipdpojnaa
set_option linter.unusedVariables false
open Go.RowKit

/-- non-empty palindromes that, one after the other, are the list -/
def partsB : List UInt8 → List (List UInt8) → Bool
  | rest, [] => rest.isEmpty
  | rest, p :: ps => !p.isEmpty && Lib.hasPrefix rest p && pal p && partsB (rest.drop p.length) ps

theorem partsB_drop {l : List UInt8} {xs : List (List UInt8)} {k : Nat} {x : List UInt8} (hx : xs[k]? = some x) : partsB l (xs.drop k) = (!x.isEmpty && Lib.hasPrefix l x && pal x && partsB (l.drop x.length) (xs.drop (k + 1))) := by
  obtain ⟨hk, rfl⟩ := List.getElem?_eq_some_iff.1 hx
  rw [List.drop_eq_getElem_cons hk, partsB]

theorem row_str {w : World} {a : Option Addr} {n k : Nat} {l : List (List UInt8)} {x : List UInt8} (h : Row w a n (strs l)) (hk : k < n) (hx : l[k]? = some x) : ∃ g, a = some ⟨g, 0, none⟩ ∧ w.cell? ⟨g, k, none⟩ = some (.string (mk x)) := by
  obtain ⟨g, rfl, _, hc⟩ := h.2 (by omega)
  exact ⟨g, rfl, hc k _ (by simp [strs, hx, mk])⟩
theorem strs_len {w : World} {a : Option Addr} {n : Nat} {l : List (List UInt8)} (h : Row w a n (strs l)) : l.length = n := by have := h.1; simpa [strs] using this

theorem mk_toList (x : List UInt8) : (mk x).toList = x := by rw [ByteArray.toList_eq, data_mk]
theorem isEmpty_mk (x : List UInt8) : (mk x).toList.isEmpty = x.isEmpty := by rw [mk_toList]

def checkR (s : ByteArray) (xs : List (List UInt8)) : Int := if wordB s.data.toList then (if partsB s.data.toList xs then 0 else 10) else 2

set_option maxRecDepth 100000 in
set_option maxHeartbeats 4000000 in
theorem Check_any (s : ByteArray) (a : Option Addr) (n cap : Nat) (xs : List (List UInt8)) (w : World) (hs : s.size ≤ 1000) (hn : n ≤ 1000) (hsmall : ∀ x ∈ xs, x.length ≤ 1000) (hrow : Row w a n (strs xs)) :
    Calls Try.prog 37 #[.string s, .slice a n cap] w fun e w' => e = .returned (.int .i64 (checkR s xs)) ∧ ∃ q, w' = w.drewN q := by
  cases hw : wordB s.data.toList with
  | false =>
    have hr : checkR s xs = 2 := by unfold checkR; rw [hw]; rfl
    have Hr := Lib.hid hr
    have Hw := Lib.hid hw
    clear hr hw
    go_enter Try.func37, Try.ntmps37
    go_wp2_with (go_at_call 54; refine (isWord_any _ _ (by unfold maxLen; omega)).mono ?_; rintro e w' ⟨rfl, rfl⟩; rw [Hw.out])
    go_ret
    exact ⟨ret_int Hr.out.symm, 0, rfl⟩
  | true =>
    have hr : checkR s xs = if partsB s.data.toList xs then 0 else 10 := by unfold checkR; rw [hw]; rfl
    have hlen := strs_len hrow
    have HL := Lib.hid hlen
    have Hr := Lib.hid hr
    have Hw := Lib.hid hw
    have Hsm := Lib.hid hsmall
    clear hw hr hlen hsmall
    go_enter Try.func37, Try.ntmps37
    go_wp2_with (go_at_call 54; refine (isWord_any _ _ (by unfold maxLen; omega)).mono ?_; rintro e w' ⟨rfl, rfl⟩; rw [Hw.out])
    go_loopw [5, 14] (fun v i wr => ∃ (r : ByteArray) (k q : Nat), k ≤ n ∧ i = .int .i64 k ∧ v = .string r ∧ r.size ≤ 1000 ∧ Hid (partsB s.data.toList xs = partsB r.data.toList (xs.drop k)) ∧ wr = w.drewN q) (fun _ i _ => n - (intOf i).toNat)
    case atStart => exact ⟨s, 0, 0, Nat.zero_le _, rfl, rfl, hs, rfl, rfl⟩
    case round =>
      obtain ⟨r, k, q, hk, rfl, rfl, hr1, HP, rfl⟩ := hrel
      by_cases hlt : k < n
      · have hc : (k : Int) < n := by omega
        obtain ⟨x, hx⟩ : ∃ x, xs[k]? = some x := ⟨_, List.getElem?_eq_getElem (by have := HL.out; omega)⟩
        have hxl : x.length ≤ 1000 := Hsm.out x (List.mem_of_getElem? hx)
        obtain ⟨g, rfl, hcell⟩ := row_str hrow hlt hx
        have hd := partsB_drop (l := r.data.toList) hx
        have hsz := mk_size x
        have hszle : (mk x).size ≤ 1000 := by omega
        have cP := fun (w : World) => Any.strings_HasPrefix Try.lays99 r (mk x) w
        change ∀ w, Calls Try.prog 65 _ _ _ at cP
        have hpa := fun (w : World) => isPal (mk x) w (by unfold maxLen; omega)
        simp only [data_mk] at cP hpa
        have HcP := Lib.hid cP
        have Hpa := Lib.hid hpa
        have Hd := Lib.hid hd
        have HR := Lib.hid hrow
        clear hx hd cP hpa hsz hrow
        cases hE : x.isEmpty with
        | true =>
          have h1 : (mk x).toList.isEmpty = true := by rw [isEmpty_mk, hE]
          have h2 : ((mk x).toList == []) = true := by rw [mk_toList]; cases x <;> simp_all
          have HE := Lib.hid hE
          clear hE
          go_wp2
          go_ret
          exact ⟨ret_int (by rw [Hr.out, HP.out, Hd.out, HE.out]; rfl), _, rfl⟩
        | false =>
          have h1 : (mk x).toList.isEmpty = false := by rw [isEmpty_mk, hE]
          have h2 : ((mk x).toList == []) = false := by rw [mk_toList]; cases x <;> simp_all
          have HE := Lib.hid hE
          clear hE
          cases hp : Lib.hasPrefix r.data.toList x with
          | false =>
            have Hp := Lib.hid hp
            clear hp
            go_wp2_with (go_at_call 65; refine (HcP.out _).mono ?_; rintro e w2 ⟨rfl, hw2⟩; subst hw2; rw [Hp.out])
            go_ret
            exact ⟨ret_int (by rw [Hr.out, HP.out, Hd.out, HE.out, Hp.out]; rfl), _, rfl⟩
          | true =>
            have hle := prefix_len hp
            rw [data_length] at hle
            have hsz2 : (mk x).size ≤ r.size := by rw [mk_size]; exact hle
            have hle2 : ((mk x).size : Int) ≤ r.size := by omega
            have Hp := Lib.hid hp
            clear hp
            cases hpal : pal x with
            | false =>
              have Hpal := Lib.hid hpal
              clear hpal
              go_wp2_with (first
                | (go_at_call 65; refine (HcP.out _).mono ?_; rintro e w2 ⟨rfl, hw2⟩; subst hw2; rw [Hp.out])
                | (go_at_call 66; refine (Hpa.out _).mono ?_; rintro e w2 ⟨rfl, n2, rfl⟩; rw [Hpal.out]))
              go_ret
              exact ⟨ret_int (by rw [Hr.out, HP.out, Hd.out, HE.out, Hp.out, Hpal.out]; rfl), _, rfl⟩
            | true =>
              have Hpal := Lib.hid hpal
              clear hpal
              have hxr := extract_size r (mk x).size r.size
              go_wp2_with (first
                | (go_at_call 65; refine (HcP.out _).mono ?_; rintro e w2 ⟨rfl, hw2⟩; subst hw2; rw [Hp.out])
                | (go_at_call 66; refine (Hpa.out _).mono ?_; rintro e w2 ⟨rfl, n2, rfl⟩; rw [Hpal.out]))
              have hz : partsB s.data.toList xs = partsB (r.extract (mk x).size r.size).data.toList (xs.drop (k + 1)) := by
                rw [HP.out, Hd.out, HE.out, Hp.out, Hpal.out, drop_data, mk_size]; rfl
              go_roundw
              case rel => exact ⟨_, k + 1, _, by omega, by go_num, rfl, by omega, hz, rfl⟩
              case measure => simp [intOf]; omega
      · obtain rfl : k = n := by omega
        have hend : partsB s.data.toList xs = r.data.toList.isEmpty := by rw [HP.out, List.drop_of_length_le (by have := HL.out; omega)]; rfl
        cases hE : r.data.toList.isEmpty with
        | true =>
          have h1 : r.toList.isEmpty = true := by rw [ByteArray.toList_eq, hE]
          have h2 : r.toList = [] := by rw [ByteArray.toList_eq]; exact List.isEmpty_iff.1 hE
          have HE := Lib.hid hE
          have HEnd := Lib.hid hend
          clear hE hend
          go_wp2
          go_ret
          exact ⟨ret_int (by rw [Hr.out, HEnd.out, HE.out]; rfl), _, rfl⟩
        | false =>
          have h1 : r.toList.isEmpty = false := by rw [ByteArray.toList_eq, hE]
          have HE := Lib.hid hE
          have HEnd := Lib.hid hend
          clear hE hend
          go_wp2
          go_ret
          exact ⟨ret_int (by rw [Hr.out, HEnd.out, HE.out]; rfl), _, rfl⟩

theorem hasPrefix_iff (l p : List UInt8) : Lib.hasPrefix l p = true ↔ l.take p.length = p := by
  unfold Lib.hasPrefix
  rw [List.isPrefixOf_iff_prefix, List.prefix_iff_eq_take]
  exact ⟨fun h => h.symm, fun h => h.symm⟩

set_option maxRecDepth 100000 in
set_option maxHeartbeats 4000000 in
theorem refParts_any (s : ByteArray) (a : Option Addr) (n cap : Nat) (xs : List (List UInt8)) (w : World) (hs : s.size ≤ 1000) (hn : n ≤ 1000) (hsmall : ∀ x ∈ xs, x.length ≤ 1000) (hrow : Row w a n (strs xs)) :
    Calls Try.prog 35 #[.string s, .slice a n cap] w fun e w' => e = .returned (.bool (partsB s.data.toList xs)) ∧ Below w.heap.size w w' := by
  have hlen := strs_len hrow
  have HL := Lib.hid hlen
  have Hsm := Lib.hid hsmall
  clear hlen hsmall
  go_enter Try.func35, Try.ntmps35
  go_wp2
  go_loopw [5, 6] (fun v i wr => ∃ (at' k : Nat), k ≤ n ∧ i = .int .i64 k ∧ v = .int .i64 at' ∧ at' ≤ s.size ∧ Hid (partsB s.data.toList xs = partsB (s.data.toList.drop at') (xs.drop k)) ∧ Row wr a n (strs xs) ∧ Below w.heap.size w wr) (fun _ i _ => n - (intOf i).toNat)
  case atStart => exact ⟨0, 0, Nat.zero_le _, rfl, rfl, Nat.zero_le _, rfl, hrow, Below.refl _ _⟩
  case round =>
    clear hrow
    obtain ⟨at', k, hk, rfl, rfl, hat, HP, hrow, hB⟩ := hrel
    by_cases hlt : k < n
    · have hc : (k : Int) < n := by omega
      obtain ⟨x, hx⟩ : ∃ x, xs[k]? = some x := ⟨_, List.getElem?_eq_getElem (by have := HL.out; omega)⟩
      have hxl : x.length ≤ 1000 := Hsm.out x (List.mem_of_getElem? hx)
      obtain ⟨g, rfl, hcell⟩ := row_str hrow hlt hx
      have hd := partsB_drop (l := s.data.toList.drop at') hx
      have hsz := mk_size x
      have hszle : (mk x).size ≤ 1000 := by omega
      have hpa := fun (w : World) => refPal_any (mk x) w (by unfold maxLen; omega)
      simp only [data_mk] at hpa
      obtain ⟨rem, hrem⟩ : ∃ rem : Nat, at' + rem = s.size := ⟨s.size - at', by omega⟩
      have e1 : IntKind.i64.wrap ((s.size : Int) - at') = rem := by rw [IntWalk.i64_in _ (by omega)]; omega
      obtain ⟨b, hb⟩ : ∃ b : Nat, at' + (mk x).size = b := ⟨_, rfl⟩
      have e2 : IntKind.i64.wrap ((at' : Int) + (mk x).size) = b := by rw [IntWalk.i64_in _ (by omega)]; omega
      have Hpa := Lib.hid hpa
      have Hd := Lib.hid hd
      have HR := Lib.hid hrow
      have Hsz := Lib.hid hsz
      have Hb := Lib.hid hb
      have Hrem := Lib.hid hrem
      clear hx hd hpa hrow
      by_cases hE : x = []
      · have h0 : (mk x).size = 0 := by rw [hsz, hE]; rfl
        have H := Lib.hid hE
        clear hE hsz hb hrem
        go_wp2
        go_quiet (fail)
        go_wp2
        go_ret
        exact ⟨ret_bool (by rw [HP.out, Hd.out, H.out]; rfl), below_drewN hB _⟩
      · have hE2 : x.isEmpty = false := by cases x <;> simp_all
        have hpos : 0 < x.length := List.length_pos_iff.2 hE
        have h1 : (((mk x).size : Int) == 0) = false := by rw [beq_eq_false_iff_ne]; omega
        have h2 : ((mk x).size == 0) = false := by rw [beq_eq_false_iff_ne]; omega
        have h3 : ¬ (mk x).size = 0 := by omega
        have HE := Lib.hid hE2
        have H3 := Lib.hid h3
        clear hE hE2 h3
        by_cases hgt : rem < (mk x).size
        · have h4 : (rem : Int) < (mk x).size := by omega
          have hnp : Lib.hasPrefix (s.data.toList.drop at') x = false := by
            cases h : Lib.hasPrefix (s.data.toList.drop at') x with
            | false => rfl
            | true => have := prefix_len h; rw [List.length_drop, data_length] at this; omega
          have Hnp := Lib.hid hnp
          clear hnp hsz hb hrem
          go_wp2
          go_quiet (fail)
          go_wp2
          go_ret
          exact ⟨ret_bool (by rw [HP.out, Hd.out, HE.out, Hnp.out]; rfl), below_drewN hB _⟩
        · have h4 : ¬ (rem : Int) < (mk x).size := by omega
          have h5 : decide ((rem : Int) < (mk x).size) = false := by simpa using h4
          have h6 : decide (rem < (mk x).size) = false := by simpa using hgt
          have h7 : (at' : Int) ≤ b := by omega
          have h8 : (b : Int) ≤ s.size := by omega
          have hex : (s.extract at' b).data.toList = (s.data.toList.drop at').take x.length := by rw [Lib.extract_data, show b - at' = x.length from by omega]
          cases hq : ((s.extract at' b).toList == (mk x).toList) with
          | false =>
            have hnp : Lib.hasPrefix (s.data.toList.drop at') x = false := by
              cases h : Lib.hasPrefix (s.data.toList.drop at') x with
              | false => rfl
              | true =>
                rw [hasPrefix_iff, ← hex] at h
                rw [ByteArray.toList_eq, h, mk_toList] at hq; simp at hq
            have Hnp := Lib.hid hnp
            clear hnp hex hsz hb hrem hgt
            go_wp2
            go_quiet (fail)
            go_wp2
            go_ret
            exact ⟨ret_bool (by rw [HP.out, Hd.out, HE.out, Hnp.out]; rfl), below_drewN hB _⟩
          | true =>
            have hyp : Lib.hasPrefix (s.data.toList.drop at') x = true := by
              rw [hasPrefix_iff, ← hex]
              rw [ByteArray.toList_eq, mk_toList] at hq
              exact beq_iff_eq.1 hq
            have Hyp := Lib.hid hyp
            clear hyp hex hsz hb hrem hgt
            cases hpal : pal x with
            | false =>
              have Hpal := Lib.hid hpal
              clear hpal
              go_wp2
              go_quiet ((go_at_call 49; refine Calls.quiet_of (v := .bool false) ?_; rw [← Hpal.out]; exact Hpa.out _))
              go_wp2
              go_ret
              exact ⟨ret_bool (by rw [HP.out, Hd.out, HE.out, Hyp.out, Hpal.out]; rfl), below_drewN hB _⟩
            | true =>
              have Hpal := Lib.hid hpal
              clear hpal
              go_wp2
              go_quiet ((go_at_call 49; refine Calls.quiet_of (v := .bool true) ?_; rw [← Hpal.out]; exact Hpa.out _))
              clear e1 e2
              go_wp2
              have hz : partsB s.data.toList xs = partsB (s.data.toList.drop b) (xs.drop (k + 1)) := by
                rw [HP.out, Hd.out, HE.out, Hyp.out, Hpal.out, List.drop_drop, show at' + x.length = b from by have := Hb.out; have := Hsz.out; omega]; rfl
              go_roundw
              case rel => exact ⟨b, k + 1, by omega, by go_num, by have := Hb.out; go_num, by omega, hz, HR.out, below_drewN hB _⟩
              case measure => simp [intOf]; omega
    · obtain rfl : k = n := by omega
      have hxe : xs.drop k = [] := List.drop_of_length_le (by have := HL.out; omega)
      have hend : partsB s.data.toList xs = (s.data.toList.drop at').isEmpty := by rw [HP.out, hxe]; rfl
      clear hxe
      by_cases hE : at' = s.size
      · have h1 : ((at' : Int) == s.size) = true := by rw [beq_iff_eq]; omega
        have h2 : (at' == s.size) = true := by rw [beq_iff_eq]; omega
        have HE := Lib.hid hE
        have HEnd := Lib.hid hend
        clear hE hend
        go_wp2
        go_ret
        exact ⟨ret_bool (by rw [HEnd.out, List.drop_of_length_le (by rw [data_length]; have := HE.out; omega)]; rfl), hB⟩
      · have h1 : ((at' : Int) == s.size) = false := by rw [beq_eq_false_iff_ne]; omega
        have h2 : (at' == s.size) = false := by rw [beq_eq_false_iff_ne]; omega
        have hF : (s.data.toList.drop at').isEmpty = false := by
          cases h : (s.data.toList.drop at').isEmpty with
          | false => rfl
          | true =>
            have := congrArg List.length (List.isEmpty_iff.1 h)
            rw [List.length_drop, data_length, List.length_nil] at this; omega
        have HF := Lib.hid hF
        have HE := Lib.hid hE
        have HEnd := Lib.hid hend
        clear hE hend hF
        go_wp2
        go_ret
        exact ⟨ret_bool (by rw [HEnd.out, HF.out]), hB⟩

theorem addr_add (b off k : Nat) : (⟨b, off, none⟩ : Addr).add k = ⟨b, off + k, none⟩ := by unfold Addr.add; split <;> simp_all

theorem info_str : (Try.prog.info? 9).map (fun i => (i.zero, i.size, i.bytes)) = some (some (.string ⟨#[]⟩), 1, 16) := by kernel_rfl

/-- a list of strings that came in -/
def IsStrs (w : World) (a : Option Addr) (len cap : Nat) (zs : List ByteArray) : Prop :=
  (a = none ∧ len = 0 ∧ cap = 0 ∧ zs = []) ∨
  ∃ x, a = some x ∧ len ≤ cap ∧ cap ≤ maxLen ∧ zs.length = cap ∧ (∀ i, i < zs.length → w.cell? (x.add i) = some (.string (zs.getD i ByteArray.empty))) ∧ ∀ s ∈ zs, s.size ≤ maxLen

/-- a copy: at most 101 strings of at most 101 bytes -/
def fewL (zs : List ByteArray) (len k : Nat) : List (List UInt8) := ((zs.take len).take k).map fun z => z.data.toList.take 101
theorem fewL_succ (zs : List ByteArray) (len k : Nat) (z : ByteArray) (hk : k < len) (hz : zs[k]? = some z) : fewL zs len (k + 1) = fewL zs len k ++ [z.data.toList.take 101] := by
  unfold fewL
  have : (zs.take len)[k]? = some z := by rw [List.getElem?_take_of_lt hk]; exact hz
  rw [List.take_add_one, this]; simp
theorem short_mk (z : ByteArray) : z.extract 0 (min z.size 101) = mk (z.data.toList.take 101) := by
  rw [← mk_data (z.extract 0 (min z.size 101)), take_data]
  congr 1
  rcases Nat.le_total z.size 101 with h | h
  · rw [Nat.min_eq_left h, List.take_of_length_le (by rw [data_length]; omega), List.take_of_length_le (by rw [data_length]; omega)]
  · rw [Nat.min_eq_right h]

set_option maxRecDepth 100000 in
set_option maxHeartbeats 4000000 in
theorem few_any (a : Option Addr) (len cap : Nat) (zs : List ByteArray) (w : World) (h : IsStrs w a len cap zs) :
    Calls Try.prog 39 #[.slice a len cap] w fun e w' => ∃ v, e = .returned v ∧ w'.ownsRow w.heap.size 9 1 v (min len 101) (strs (fewL zs len (min len 101))) ∧ Below w.heap.size w w' := by
  rcases h with ⟨rfl, rfl, rfl, rfl⟩ | ⟨x, rfl, hl, hm, hz, hcell, hwz⟩
  · go_enter Try.func39, Try.ntmps39
    go_wp2
    go_rounds 1
    go_ret
    exact ⟨_, rfl, World.ownsRow_nil _ _ _ _, Below.refl _ _⟩
  · obtain ⟨i0, hi, hz0, hz1, hz2⟩ := info_parts info_str
    have hlm : len ≤ 9223372036854775807 := by unfold maxLen at hm; omega
    have HC := Lib.hid hcell
    have HW := Lib.hid hwz
    have HZ := Lib.hid hz
    clear hcell hwz hz hm
    go_enter Try.func39, Try.ntmps39
    go_wp2
    go_loopw [3, 4] (fun v i wr => ∃ k : Nat, k ≤ min len 101 ∧ i = .int .i64 k ∧ wr.ownsRow w.heap.size 9 1 v k (strs (fewL zs len k)) ∧ Below w.heap.size w wr) (fun _ i _ => 101 - (intOf i).toNat)
    case atStart => exact ⟨0, Nat.zero_le _, rfl, by simp [fewL, strs]; exact World.ownsRow_nil _ _ _ _, Below.refl _ _⟩
    case round =>
      obtain ⟨k, hk, rfl, hown, hB⟩ := hrel
      by_cases hlt : k < len
      · by_cases h101 : k ≤ 100
        · have hc : (k : Int) < len := by omega
          have hc2 : (k : Int) ≤ 100 := by omega
          obtain ⟨z, hzk⟩ : ∃ z, zs[k]? = some z := ⟨_, List.getElem?_eq_getElem (by have := HZ.out; omega)⟩
          have hzs : z.size ≤ maxLen := HW.out z (List.mem_of_getElem? hzk)
          have hc0 := HC.out k (by have := HZ.out; omega)
          rw [List.getD_eq_getElem?_getD, hzk, Option.getD_some] at hc0
          obtain ⟨b, off, spot⟩ := x
          have hspot : spot = none := by simpa [Addr.add] using World.cell?_spot (HC.out 0 (by have := HZ.out; omega))
          subst hspot
          rw [addr_add] at hc0
          have hb := World.block_lt_of_cell? _ _ hc0
          have hcw : wr.cell? ⟨b, off + k, none⟩ = some (.string z) := (hB.cell (p := ⟨b, off + k, none⟩) hb).trans hc0
          have hsucc := fewL_succ zs len k z hlt hzk
          have hsm := short_mk z
          have Hsucc := Lib.hid hsucc
          have Hsm := Lib.hid hsm
          clear hsucc hsm hzk hc0 hb
          go_wp2_with (first
            | (go_at_call 16; refine (short_any _ _ hzs).mono ?_; rintro e w' ⟨rfl, rfl⟩; rw [Hsm.out])
            | (at_builtin; refine wpList_append_own _ rfl _ _ 23 rfl w.heap.size 9 i0 (.string ⟨#[]⟩) 1 16 Try.underlying23 hi hz0 hz1 hz2 rfl (by decide) _ _ _ rfl (hown.alloc _) ⟨wr.heap.size, 0, none⟩ 1 1 [_] rfl rfl (cell_one_new _ _ _) (by simp [Value.oneCell']) ?c3 ?c4 ?c5 ?_))
          case c3 => unfold maxLen; omega
          case c4 => omega
          case c5 => have := hB.size; simp; omega
          intro v' w1 hown' hgrow _
          have hb1 := rel_push hB (by have := hB.size; simp; omega) ((Below.refl _ wr).alloc hB.size _) hown hgrow
          have h1 : w1.ownsRow w.heap.size 9 1 v' (k + 1) (strs (fewL zs len (k + 1))) := by
            rw [Hsucc.out]; unfold strs at hown' ⊢; rw [List.map_append]; exact hown'
          clear hown' hgrow hown hB
          go_wp2
          go_roundw
          case rel => exact ⟨k + 1, by omega, by go_num, h1, hb1⟩
          case measure => simp [intOf]; omega
        · have hc : (k : Int) < len := by omega
          have hc2 : ¬ (k : Int) ≤ 100 := by omega
          have hk2 : min len 101 = k := by omega
          have HK := Lib.hid hk2
          clear hk2
          go_wp2
          go_ret
          exact ⟨_, rfl, by rw [HK.out]; exact hown, hB⟩
      · have hc : ¬ (k : Int) < len := by omega
        have hk2 : min len 101 = k := by omega
        have HK := Lib.hid hk2
        clear hk2
        go_wp2
        go_ret
        exact ⟨_, rfl, by rw [HK.out]; exact hown, hB⟩

theorem fewL_small (zs : List ByteArray) (len k : Nat) : ∀ x ∈ fewL zs len k, x.length ≤ 1000 := by
  intro x hx
  obtain ⟨z, _, rfl⟩ := List.mem_map.1 hx
  rw [List.length_take]; omega

set_option maxRecDepth 100000 in
set_option maxHeartbeats 8000000 in
theorem walk_TrimChecks (a : ByteArray) (ha : a.size ≤ maxLen) (p : Option Addr) (len cap : Nat) (zs : List ByteArray) (w : World) (hp : IsStrs w p len cap zs) :
    Calls Try.prog 6 #[.string a, .slice p len cap] w fun e w' => e = .returned (.bool true) ∧ Below w.heap.size w w' := by
  obtain ⟨s, hs⟩ : ∃ s, a.extract 0 (min a.size 101) = s := ⟨_, rfl⟩
  have hsz := short_size a
  rw [hs] at hsz
  have hF := fun w h => few_any p len cap zs w h
  have hn : min len 101 ≤ 1000 := by omega
  obtain ⟨xs, hxs⟩ : ∃ xs, fewL zs len (min len 101) = xs := ⟨_, rfl⟩
  have hsm := fewL_small zs len (min len 101)
  rw [hxs] at hsm hF
  obtain ⟨n, hnn⟩ : ∃ n, min len 101 = n := ⟨_, rfl⟩
  rw [hnn] at hF hn
  have H := Lib.hid hs
  have HF := Lib.hid hF
  have Hsm := Lib.hid hsm
  have Hp := Lib.hid hp
  clear hs hF hsm hxs hnn hp
  cases hw : wordB s.data.toList with
  | false =>
    have r1 : checkR s xs = 2 := by unfold checkR; rw [hw]; rfl
    have R1 := Lib.hid r1
    have Hw := Lib.hid hw
    clear r1 hw
    go_enter Try.func6, Try.ntmps6
    go_wp2_with (first
      | (go_at_call 16; refine (short_any _ _ ha).mono ?_; rintro e w' ⟨rfl, rfl⟩; rw [H.out])
      | (go_at_call 39; refine (HF.out _ Hp.out).mono ?_; rintro e w1 ⟨v, rfl, o1, b1⟩; obtain ⟨a1, c1, rfl, q1⟩ := Row.of_own o1; clear o1)
      | (go_at_call 37; refine (Check_any s a1 n c1 xs _ (by omega) hn Hsm.out q1).mono ?_; rintro e w2 ⟨rfl, n2, rfl⟩; rw [R1.out])
      | (go_at_call 21; refine (refWord_any _ _ (by omega)).mono ?_; rintro e w' ⟨rfl, rfl⟩; rw [Hw.out])
      | (go_at_call 22; refine (awake_any _).mono ?_; rintro e w3 ⟨rfl, b3⟩))
    go_ret
    exact ⟨rfl, b_next (below_drewN b1 n2) b3⟩
  | true =>
    have r1 : checkR s xs = if partsB s.data.toList xs then 0 else 10 := by unfold checkR; rw [hw]; rfl
    have Hw := Lib.hid hw
    clear hw
    cases hpb : partsB s.data.toList xs with
    | false =>
      rw [hpb, if_neg (by simp)] at r1
      have R1 := Lib.hid r1
      have HPb := Lib.hid hpb
      clear r1 hpb
      go_enter Try.func6, Try.ntmps6
      go_wp2_with (first
        | (go_at_call 16; refine (short_any _ _ ha).mono ?_; rintro e w' ⟨rfl, rfl⟩; rw [H.out])
        | (go_at_call 39; refine (HF.out _ Hp.out).mono ?_; rintro e w1 ⟨v, rfl, o1, b1⟩; obtain ⟨a1, c1, rfl, q1⟩ := Row.of_own o1; clear o1)
        | (go_at_call 37; refine (Check_any s a1 n c1 xs _ (by omega) hn Hsm.out q1).mono ?_; rintro e w2 ⟨rfl, n2, rfl⟩; rw [R1.out])
        | (go_at_call 21; refine (refWord_any _ _ (by omega)).mono ?_; rintro e w' ⟨rfl, rfl⟩; rw [Hw.out])
        | (go_at_call 35; refine (refParts_any s a1 n c1 xs _ (by omega) hn Hsm.out (q1.drewN n2)).mono ?_; rintro e w4 ⟨rfl, b4⟩; rw [HPb.out])
        | (go_at_call 22; refine (awake_any _).mono ?_; rintro e w3 ⟨rfl, b3⟩))
      go_ret
      exact ⟨rfl, b_next (b_next (below_drewN b1 n2) b4) b3⟩
    | true =>
      rw [hpb, if_pos rfl] at r1
      have R1 := Lib.hid r1
      have HPb := Lib.hid hpb
      clear r1 hpb
      go_enter Try.func6, Try.ntmps6
      go_wp2_with (first
        | (go_at_call 16; refine (short_any _ _ ha).mono ?_; rintro e w' ⟨rfl, rfl⟩; rw [H.out])
        | (go_at_call 39; refine (HF.out _ Hp.out).mono ?_; rintro e w1 ⟨v, rfl, o1, b1⟩; obtain ⟨a1, c1, rfl, q1⟩ := Row.of_own o1; clear o1)
        | (go_at_call 37; refine (Check_any s a1 n c1 xs _ (by omega) hn Hsm.out q1).mono ?_; rintro e w2 ⟨rfl, n2, rfl⟩; rw [R1.out])
        | (go_at_call 21; refine (refWord_any _ _ (by omega)).mono ?_; rintro e w' ⟨rfl, rfl⟩; rw [Hw.out])
        | (go_at_call 35; refine (refParts_any s a1 n c1 xs _ (by omega) hn Hsm.out (q1.drewN n2)).mono ?_; rintro e w4 ⟨rfl, b4⟩; rw [HPb.out])
        | (go_at_call 22; refine (awake_any _).mono ?_; rintro e w3 ⟨rfl, b3⟩))
      go_ret
      exact ⟨rfl, b_next (b_next (below_drewN b1 n2) b4) b3⟩

namespace lawTrimChecks
open Go.ChangeShapes Go.WideShapes Go.ChangeAt Go.RowKit
open Go.ChangeMaps (open_string shut_string)

theorem own : ownKnob Try.prog.godebug = none := by kernel_rfl
theorem lay : laidOutB Try.prog = true := by kernel_rfl

set_option maxRecDepth 100000 in
theorem lifted (os : Os) (started : os.Started) (H : Type) (enc : TypeId × Value → H) :
    ReturnsInHanded {} Try.checked os 6 .any (Rows.trimChecksSpec.pre6 enc Try.prog Try.f6 Rows.trimChecksRow.domain false) (Rows.trimChecksSpec.post enc Try.prog Try.f6 false true false false) := by
  refine returnsInHanded_of_change (C := Try.checked) own started (by kernel_rfl) Try.func6
    (ChangeSpec.witness6 (enc := enc) (C := Try.checked) false ⟨#[], #[.string ByteArray.empty, .slice none 0 0], []⟩ 8 (by kernel_rfl) (by kernel_rfl) (by kernel_rfl) (by kernel_rfl)) ?_
  intro W base args ds gs before hval0 hW hcnd _
  have hval : ∀ (j : Nat) t v, Try.f6.params[j]? = some t → args[j]? = some v → Value.okWide Try.prog W .any base t v := hval0
  have hW' := hW
  obtain ⟨p, q, hA0, hV, rfl, hfz, hnd⟩ := hW
  have hA : DataW.TrodAll enc Try.prog W 0 (fun _ => true) true Try.f6.params.toList args.toList ds p := hA0
  rw [Try.params6] at hA hval
  obtain ⟨v0, vs0, d0, ds0, p0, q0, hargs, rfl, rfl, h0, r0⟩ := trodAll_cons hA
  obtain ⟨v1, vs1, d1, ds1, p1, q1, rfl, rfl, rfl, h1, r1⟩ := trodAll_cons r0
  obtain ⟨rfl, rfl, rfl⟩ := trodAll_nil r1
  obtain rfl : args = #[v0, v1] := by cases args; simp_all
  obtain ⟨rfl, rfl⟩ := trodVars_none hV
  obtain ⟨a0, rfl, rfl, rfl, w0⟩ := open_string Try.underlying9 (hval 0 9 v0 rfl rfl) h0
  obtain ⟨a1, len1, cap1, rfl⟩ := okWide_slice Try.underlying23 (hval 1 23 v1 rfl rfl)
  have k1 := h1
  have lt1 : ∀ x ∈ p1, x.block < W.heap.size := by obtain ⟨m, hm⟩ := k1; exact DataW.trod_lt m _ _ _ hm
  obtain ⟨z1, w1⟩ : ∃ zs, IsStrs W a1 len1 cap1 zs := by
    obtain ⟨fuel, hf⟩ := h1
    rcases open_strings Try.underlying23 Try.underlying9 (by kernel_rfl) hf with ⟨hcs, _⟩ | ⟨x, l, c, zs, hcs, _, hl, hm, hz, _, hcell, hwz⟩
    · simp [Value.cells] at hcs
      obtain ⟨rfl, rfl, rfl⟩ := hcs
      exact ⟨[], .inl ⟨rfl, rfl, rfl, rfl⟩⟩
    · simp [Value.cells] at hcs
      obtain ⟨rfl, rfl, rfl⟩ := hcs
      exact ⟨zs, .inr ⟨_, rfl, hl, hm, by simpa using hz, hcell, hwz⟩⟩
  clear hA0 hval0
  refine (walk_TrimChecks a0 w0 a1 len1 cap1 z1 W w1).mono fun e W' ⟨he, bel⟩ => ?_
  subst he
  exact ⟨_, rfl, _, _, _, [], _, [], hW', trodAll_mk1 (shut_bool Try.underlying4 _), (trodAll_cons_mk (shut_string Try.underlying9 w0) (trodAll_cons_mk (Below.trod lay (by kernel_rfl) (of_decide_eq_true (by kernel_rfl)) k1 bel lt1) trodAll_mk0)), rfl, bel.frame _, fun h => by cases h⟩

theorem over : Rows.trimChecksRow.holds Try.pinned (OpenSpec.ofChange Rows.trimChecksSpec) :=
  OpenClaim.holds_of_wide 6 Try.f6 rfl rfl rfl rfl rfl rfl rfl ⟨rfl, rfl, rfl, rfl, rfl⟩ rfl rfl rfl rfl rfl (by kernel_rfl) Try.func6 (by kernel_rfl)
    (of_decide_eq_true (by kernel_rfl)) (by unfold Func.isWrapper; first | (rw [if_pos (by decide +kernel)]; kernel_rfl) | (rw [if_neg (by decide +kernel)]; exact ⟨rfl, rfl⟩))
    (fun os started H enc _ => lifted os started H enc)

theorem proved : Rows.TrimChecksSaid := over
end lawTrimChecks
end Go.Proofs.Yteejjcipdpojnaa
