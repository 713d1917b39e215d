/- Contract of the reference's Palindromes; the program's list is the same. -/
import Derived.Test.YteejjcipdpojnaaRins
import Derived.Test.YteejjcipdpojnaaRefa
namespace Go.Proofs.Yteejjcipdpojnaa
set_option linter.unusedVariables false
open Go.RowKit

/-- the palindromes from x that end before k, and all that begin before k -/
def visRow (l : List UInt8) (x : Nat) : Nat → List (List UInt8)
  | 0 => []
  | k + 1 => if x < k ∧ pal ((l.take k).drop x) = true then visRow l x k ++ [(l.take k).drop x] else visRow l x k
def visAll (l : List UInt8) : Nat → List (List UInt8)
  | 0 => []
  | k + 1 => visAll l k ++ visRow l k (l.length + 1)
theorem visRow_start (l : List UInt8) (x : Nat) : ∀ k, k ≤ x + 1 → visRow l x k = []
  | 0, _ => rfl
  | k + 1, h => by rw [visRow, if_neg (fun a => by have := a.1; omega), visRow_start l x k (by omega)]
theorem visRow_len (l : List UInt8) (x : Nat) : ∀ k, (visRow l x k).length ≤ k
  | 0 => Nat.le_refl _
  | k + 1 => by
    have := visRow_len l x k
    rw [visRow]; split
    · rw [List.length_append]; simp; omega
    · omega
theorem visAll_len (l : List UInt8) : ∀ k, (visAll l k).length ≤ k * (l.length + 1)
  | 0 => by simp [visAll]
  | k + 1 => by
    have h1 := visAll_len l k
    have h2 := visRow_len l k (l.length + 1)
    rw [visAll, List.length_append, Nat.add_mul]; omega
theorem visRow_mem (l : List UInt8) (x : Nat) (z : List UInt8) : ∀ k, z ∈ visRow l x k ↔ ∃ y, y < k ∧ x < y ∧ pal ((l.take y).drop x) = true ∧ z = (l.take y).drop x
  | 0 => by simp [visRow]
  | k + 1 => by
    have ih := visRow_mem l x z k
    rw [visRow]
    split
    · rename_i h
      rw [List.mem_append, ih]
      constructor
      · rintro (⟨y, h1, h2⟩ | h1)
        · exact ⟨y, by omega, h2⟩
        · exact ⟨k, by omega, h.1, h.2, by simpa using h1⟩
      · rintro ⟨y, h1, h2, h3, h4⟩
        by_cases e : y = k
        · subst e; right; simp [h4]
        · exact .inl ⟨y, by omega, h2, h3, h4⟩
    · rename_i h
      rw [ih]
      constructor
      · rintro ⟨y, h1, h2⟩; exact ⟨y, by omega, h2⟩
      · rintro ⟨y, h1, h2, h3, h4⟩
        by_cases e : y = k
        · subst e; exact absurd ⟨h2, h3⟩ h
        · exact ⟨y, by omega, h2, h3, h4⟩
theorem visAll_mem (l : List UInt8) (z : List UInt8) : ∀ k, z ∈ visAll l k ↔ ∃ x y, x < k ∧ y ≤ l.length ∧ x < y ∧ pal ((l.take y).drop x) = true ∧ z = (l.take y).drop x
  | 0 => by simp [visAll]
  | k + 1 => by
    rw [visAll, List.mem_append, visAll_mem l z k, visRow_mem]
    constructor
    · rintro (⟨x, y, h1, h2⟩ | ⟨y, h1, h2⟩)
      · exact ⟨x, y, by omega, h2⟩
      · exact ⟨k, y, by omega, by omega, h2⟩
    · rintro ⟨x, y, h1, h2, h3⟩
      by_cases e : x = k
      · subst e; exact .inr ⟨y, by omega, h3⟩
      · exact .inl ⟨x, y, by omega, h2, h3⟩
theorem insertS_le (x : List UInt8) : ∀ l, (insertS x l).length ≤ l.length + 1 := insertS_len x
theorem sortS_le (ss : List (List UInt8)) : (sortS ss).length ≤ ss.length := by
  have h : ∀ (xs acc : List (List UInt8)), (xs.foldl (fun r x => insertS x r) acc).length ≤ acc.length + xs.length := by
    intro xs
    induction xs with
    | nil => intro acc; simp
    | cons x xs ih =>
      intro acc
      have h1 := ih (insertS x acc)
      have h2 := insertS_le x acc
      rw [List.foldl_cons, List.length_cons]
      omega
  have := h ss []
  simpa [sortS] using this

/-- a palindrome that occurs is the longest one at the end where it occurs first -/
theorem pal_first (l : List UInt8) : ∀ (b a : Nat), a < b → b ≤ l.length → PalAt l a b → ∃ k, k < l.length ∧ (l.take b).drop a = palEnd l k := by
  intro b
  induction b using Nat.strongRecOn with
  | _ b ih =>
    intro a hab hb hp
    have hL := longEnd_ge l a (b - 1) (by omega) (by omega) (by rwa [show b - 1 + 1 = b from by omega])
    obtain ⟨hQ, h1, h2⟩ := longEnd_palAt l (b - 1) (by omega)
    rw [show b - 1 + 1 = b from by omega] at hL hQ h1 h2
    by_cases e : longEnd (l.take b) = b - a
    · refine ⟨b - 1, by omega, ?_⟩
      unfold palEnd
      rw [show b - 1 + 1 = b from by omega, e, show b - (b - a) = a from by omega]
    · -- its mirror image at the beginning of the longest one
      obtain ⟨q, hq⟩ : ∃ q, b - longEnd (l.take b) = q := ⟨_, rfl⟩
      rw [hq] at hQ
      have hql : q + (b - a) < b := by omega
      have hq1 : ∀ t, t < b - a → l.getD (q + t) 0 = l.getD (a + t) 0 := by
        intro t ht
        have e1 := hQ (q + t) (by omega) (by omega)
        have e2 := hp (a + t) (by omega) (by omega)
        rw [e1, e2]
        congr 1
        omega
      have hseg : (l.take (q + (b - a))).drop q = (l.take b).drop a := by
        refine List.ext_getElem (by rw [List.length_drop, List.length_drop, List.length_take, List.length_take]; omega) fun t ht1 ht2 => ?_
        rw [List.length_drop, List.length_take] at ht1
        have := hq1 t (by omega)
        rw [List.getD_eq_getElem?_getD, List.getD_eq_getElem?_getD, List.getElem?_eq_getElem (by omega), List.getElem?_eq_getElem (by omega)] at this
        simpa using this
      have hp2 : PalAt l q (q + (b - a)) := by
        refine (palAt_iff l q (q + (b - a)) (by omega) (by omega)).1 ?_
        rw [hseg]
        exact (palAt_iff l a b (by omega) hb).2 hp
      obtain ⟨k, hk, hk2⟩ := ih (q + (b - a)) hql q (by omega) (by omega) hp2
      exact ⟨k, hk, by rw [← hseg]; exact hk2⟩
theorem palsL_mem (l z : List UInt8) : z ∈ palsL l ↔ ∃ x y, x < y ∧ y ≤ l.length ∧ pal ((l.take y).drop x) = true ∧ z = (l.take y).drop x := by
  unfold palsL
  rw [mem_sortS]
  unfold palEnds
  rw [List.mem_map]
  constructor
  · rintro ⟨k, hk, rfl⟩
    have hk := List.mem_range.1 hk
    obtain ⟨hQ, h1, h2⟩ := longEnd_palAt l k hk
    exact ⟨k + 1 - longEnd (l.take (k + 1)), k + 1, by omega, by omega, (palAt_iff l _ _ (by omega) (by omega)).2 hQ, rfl⟩
  · rintro ⟨x, y, h1, h2, h3, rfl⟩
    obtain ⟨k, hk, hk2⟩ := pal_first l y x h1 h2 ((palAt_iff l x y (by omega) h2).1 h3)
    exact ⟨k, List.mem_range.2 hk, hk2.symm⟩
theorem pals_eq (l : List UInt8) : sortS (visAll l l.length) = palsL l := by
  refine strict_unique (strict_sortS _) (strict_sortS _) fun z => ?_
  rw [mem_sortS, visAll_mem]
  have := palsL_mem l z
  unfold palsL at this ⊢
  rw [this]
  constructor
  · rintro ⟨x, y, _, h2, h3, h4, h5⟩; exact ⟨x, y, h3, h2, h4, h5⟩
  · rintro ⟨x, y, h1, h2, h3, h4⟩; exact ⟨x, y, by omega, h2, h1, h3, h4⟩

set_option maxRecDepth 100000 in
set_option maxHeartbeats 8000000 in
theorem refPals_any (s : ByteArray) (w : World) (hs : s.size ≤ 100) :
    Calls Try.prog 25 #[.string s] w fun e w' => ∃ a cap, e = .returned (.slice a (palsL s.data.toList).length cap) ∧ Row w' a (palsL s.data.toList).length (strs (palsL s.data.toList)) ∧ Below w.heap.size w w' := by
  have hln : s.data.toList.length = s.size := data_length s
  have hb : ∀ k, k ≤ 100 → (visAll s.data.toList k).length ≤ 10100 := fun k hk => by
    have h1 := visAll_len s.data.toList k
    rw [hln] at h1
    have h2 : k * (s.size + 1) ≤ 100 * 101 := Nat.mul_le_mul hk (by omega)
    omega
  have Hb := Lib.hid hb
  have Hln := Lib.hid hln
  clear hb hln
  go_enter Try.func25, Try.ntmps25
  go_wp2
  go_loopw [3, 4] (fun v i wr => ∃ (k n : Nat) (a : Option Addr) (cap : Nat) (ss : List (List UInt8)), k ≤ s.size ∧ i = .int .i64 k ∧ v = .slice a n cap ∧ Hid (ss = sortS (visAll s.data.toList k)) ∧ Row wr a n (strs ss) ∧ n ≤ cap ∧ (n = 0 → a = none ∧ cap = 0) ∧ Below w.heap.size w wr) (fun _ i _ => s.size - (intOf i).toNat)
  case atStart => exact ⟨0, 0, none, 0, [], Nat.zero_le _, rfl, rfl, rfl, ⟨rfl, fun h => absurd h (Nat.lt_irrefl _)⟩, Nat.le_refl _, fun _ => ⟨rfl, rfl⟩, Below.refl _ _⟩
  case round =>
    obtain ⟨k, n, a, cap, ss, hk, rfl, rfl, HP, hrow, hnc, hnil, hB⟩ := hrel
    by_cases hlt : k < s.size
    · have hc : (k : Int) < s.size := by omega
      go_wp2
      go_loopw [3, 5] (fun v i wx => ∃ (j n : Nat) (a : Option Addr) (cap : Nat) (ss : List (List UInt8)), k + 1 ≤ j ∧ j ≤ s.size + 1 ∧ i = .int .i64 j ∧ v = .slice a n cap ∧ Hid (ss = sortS (visAll s.data.toList k ++ visRow s.data.toList k j)) ∧ Row wx a n (strs ss) ∧ n ≤ cap ∧ (n = 0 → a = none ∧ cap = 0) ∧ Below w.heap.size w wx) (fun _ i _ => s.size + 1 - (intOf i).toNat)
      case atStart => exact ⟨k + 1, n, a, cap, ss, Nat.le_refl _, by omega, by go_num, rfl, by rw [visRow_start _ _ _ (Nat.le_refl _), List.append_nil]; exact HP, hrow, hnc, hnil, hB⟩
      case round =>
        clear HP hrow hnc hnil hB
        obtain ⟨j, n, a, cap, ss, hkj, hj, rfl, rfl, HP, hrow, hnc, hnil, hB⟩ := hrel
        by_cases hlt2 : j ≤ s.size
        · have hc2 : (j : Int) ≤ s.size := by omega
          have z1 : (k : Int) ≤ j := by omega
          have hx : (s.extract k j).size ≤ 1000 := by rw [ByteArray.size_extract]; omega
          cases hp : pal (s.extract k j).data.toList with
          | true =>
            have hv : visRow s.data.toList k (j + 1) = visRow s.data.toList k j ++ [(s.extract k j).data.toList] := by
              rw [visRow, if_pos ⟨by omega, by rw [← part_data]; exact hp⟩, part_data]
            have hz : insertS (s.extract k j).data.toList ss = sortS (visAll s.data.toList k ++ visRow s.data.toList k (j + 1)) := by
              rw [hv, ← List.append_assoc, sortS_snoc, HP.out]
            have hlen : ss.length = n := by have := hrow.1; simpa [strs] using this
            have hn20 : n ≤ 20000 := by
              have h1 := sortS_le (visAll s.data.toList k ++ visRow s.data.toList k j)
              rw [← HP.out, List.length_append] at h1
              have h2 := Hb.out k (by omega)
              have h3 := visRow_len s.data.toList k j
              omega
            have hpos : 0 < (insertS (s.extract k j).data.toList ss).length := by
              have : (s.extract k j).data.toList ∈ insertS (s.extract k j).data.toList ss := (mem_insertS _ _ _).2 (.inl rfl)
              exact List.length_pos_of_mem this
            have Hz := Lib.hid hz
            have Hp := Lib.hid hp
            have Hpos := Lib.hid hpos
            clear hz hp hv HP hpos
            rcases Nat.eq_zero_or_pos n with h0 | h0
            · obtain ⟨rfl, rfl⟩ := hnil h0
              subst h0
              have hss : ss = [] := List.eq_nil_of_length_eq_zero hlen
              subst hss
              have Hrow := Lib.hid hrow
              clear hrow hnil hlen
              go_wp2_with (first
                | (go_at_call 49; refine (refPal_any _ _ (by unfold maxLen; omega)).mono ?_; rintro e w' ⟨rfl, n1, rfl⟩; rw [Hp.out])
                | (go_at_call 60; refine (refInsert_nil _ _ hx).mono ?_; rintro e w2 ⟨a', cap', rfl, hr2, hc2', hb2⟩))
              go_roundw
              case rel => exact ⟨j + 1, 1, a', cap', [(s.extract k j).data.toList], by omega, by omega, by go_num, rfl, Hz.out, hr2, hc2', fun h => by omega, b_next (below_drewN hB n1) hb2⟩
              case measure => simp [intOf]; omega
            · obtain ⟨zs, hzs⟩ : ∃ zs, insertS (s.extract k j).data.toList ss = zs := ⟨_, rfl⟩
              have Hzs := Lib.hid hzs
              have Hz2 : Hid (zs = sortS (visAll s.data.toList k ++ visRow s.data.toList k (j + 1))) := by rw [← hzs]; exact Hz
              have Hpos2 : Hid (0 < zs.length) := by rw [← hzs]; exact Hpos
              clear hzs
              obtain ⟨g, rfl, hgl, hgc⟩ := hrow.2 h0
              have hcells : ∀ i y, ss[i]? = some y → wr.cell? ⟨g, i, none⟩ = some (encStr y) := fun i y hy => hgc i _ (by simp [strs, hy])
              have HCE := Lib.hid hcells
              clear hcells hgc hrow hnil
              go_wp2_with (first
                | (go_at_call 49; refine (refPal_any _ _ (by unfold maxLen; omega)).mono ?_; rintro e w' ⟨rfl, n1, rfl⟩; rw [Hp.out])
                | (go_at_call 60; refine (refInsert_some g n cap ss (s.extract k j) (wr.drewN n1) HCE.out hgl hlen h0 hnc hn20 hx).mono ?_; rintro e w2 ⟨a', cap', he, hr2, hc2', hb2⟩; rw [Hzs.out] at he hr2 hc2'; subst he))
              go_roundw
              case rel => exact ⟨j + 1, _, a', cap', _, by omega, by omega, by go_num, rfl, Hz2.out, hr2, hc2', fun h => by have := Hpos2.out; omega, b_next (below_drewN hB n1) hb2⟩
              case measure => simp [intOf]; omega
          | false =>
            have hz : ss = sortS (visAll s.data.toList k ++ visRow s.data.toList k (j + 1)) := by
              rw [visRow, if_neg (fun h => by have h2 := h.2; rw [← part_data, hp] at h2; cases h2)]; exact HP.out
            have Hz := Lib.hid hz
            have Hp := Lib.hid hp
            have Hrow := Lib.hid hrow
            have Hnil := Lib.hid hnil
            clear hz hp HP hrow hnil
            go_wp2_with (go_at_call 49; refine (refPal_any _ _ (by unfold maxLen; omega)).mono ?_; rintro e w' ⟨rfl, n1, rfl⟩; rw [Hp.out])
            go_roundw
            case rel => exact ⟨j + 1, n, a, cap, ss, by omega, by omega, by go_num, rfl, Hz.out, Hrow.out, hnc, Hnil.out, below_drewN hB n1⟩
            case measure => simp [intOf]; omega
        · obtain rfl : j = s.size + 1 := by omega
          have hc2 : ¬ ((s.size + 1 : Nat) : Int) ≤ s.size := by omega
          have hz : ss = sortS (visAll s.data.toList (k + 1)) := by
            rw [HP.out, visAll, Hln.out]
          have Hz := Lib.hid hz
          have Hrow := Lib.hid hrow
          have Hnil := Lib.hid hnil
          clear hz HP hrow hnil
          go_wp2
          go_roundw
          case rel => exact ⟨k + 1, n, a, cap, ss, by omega, by go_num, rfl, Hz.out, Hrow.out, hnc, Hnil.out, hB⟩
          case measure => simp [intOf]; omega
    · obtain rfl : k = s.size := by omega
      have hz : ss = palsL s.data.toList := by rw [HP.out, ← pals_eq, Hln.out]
      have hlen : ss.length = n := by have := hrow.1; simpa [strs] using this
      subst hz
      subst hlen
      have Hrow := Lib.hid hrow
      clear hrow HP hnil
      go_wp2
      go_ret
      exact ⟨a, cap, rfl, Hrow.out, hB⟩
end Go.Proofs.Yteejjcipdpojnaa
