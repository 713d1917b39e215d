/- Texts of buttons, joined: Allp, All, Allm, Bef, Kpr, Vstr, Asvr, Lsti. -/
import Derived.Test.YtambhhjbafefgaaQa
import Derived.Test.YtambhhjbafefgaaQb
import Derived.Test.YtambhhjbafefgaaQd
import Derived.Test.YtambhhjbafefgaaQc
/- All assignments in lexicographic order, as the reference lists them: mathematics. -/
namespace Go.Proofs.Ytambhhjbafefgaa
set_option linter.unusedVariables false
/-- the beginnings of assignments that one more button makes of a beginning -/
def extL (n : Nat) (a : List Int) : List (List Int) := ((List.range n).filter fun j : Nat => !decide ((j : Int) ∈ a)).map fun j : Nat => a ++ [(j : Int)]
/-- the beginnings with i buttons, in lexicographic order -/
def allL (n : Nat) : Nat → List (List Int)
  | 0 => [[]]
  | i + 1 => (allL n i).flatMap (extL n)
/-- the beginnings with m buttons more -/
def allF (n : Nat) : Nat → List Int → List (List Int)
  | 0, a => [a]
  | m + 1, a => (extL n a).flatMap (allF n m)
theorem flatMap_one {α : Type} (l : List α) : (l.flatMap fun a => [a]) = l := by induction l with
  | nil => rfl
  | cons x l ih => rw [List.flatMap_cons, ih]; rfl
theorem allL_add (n i : Nat) : ∀ m, allL n (i + m) = (allL n i).flatMap (allF n m) := by
  intro m
  induction m generalizing i with
  | zero => show allL n i = (allL n i).flatMap fun a => [a]; rw [flatMap_one]
  | succ m ih =>
    rw [show i + (m + 1) = (i + 1) + m by omega, ih]
    show ((allL n i).flatMap (extL n)).flatMap (allF n m) = _
    rw [List.flatMap_assoc]; rfl
theorem allL_eq (n : Nat) : allL n n = allF n n [] := by
  have := allL_add n 0 n
  rw [Nat.zero_add] at this
  rw [this]
  show [[]].flatMap (allF n n) = _
  simp
theorem extL_len (n : Nat) (a : List Int) : (extL n a).length ≤ n := by
  unfold extL
  rw [List.length_map]
  have := List.length_filter_le (fun j : Nat => !decide ((j : Int) ∈ a)) (List.range n)
  rwa [List.length_range] at this
theorem flatMap_len {α β : Type} (f : α → List β) (n : Nat) : ∀ l : List α, (∀ a ∈ l, (f a).length ≤ n) → (l.flatMap f).length ≤ l.length * n := by
  intro l
  induction l with
  | nil => intro _; simp
  | cons x l ih =>
    intro h
    rw [List.flatMap_cons, List.length_append, List.length_cons, Nat.add_mul]
    have h1 := h x (by simp)
    have h2 := ih fun a ha => h a (by simp [ha])
    omega
theorem allL_len (n : Nat) (hn : n ≤ 7) : ∀ i, (allL n i).length ≤ 7 ^ i := by
  intro i
  induction i with
  | zero => simp [allL]
  | succ i ih =>
    have := flatMap_len (extL n) n (allL n i) (fun a _ => extL_len n a)
    have h2 : (allL n i).length * n ≤ 7 ^ i * 7 := Nat.mul_le_mul ih hn
    rw [Nat.pow_succ]
    show ((allL n i).flatMap (extL n)).length ≤ _
    omega
theorem allL_row (n : Nat) : ∀ i, ∀ a ∈ allL n i, a.length = i ∧ ∀ x ∈ a, 0 ≤ x ∧ x < n := by
  intro i
  induction i with
  | zero =>
    intro a ha
    simp [allL] at ha
    subst ha
    simp
  | succ i ih =>
    intro a ha
    obtain ⟨b, hb, hab⟩ := List.mem_flatMap.1 (show a ∈ (allL n i).flatMap (extL n) from ha)
    unfold extL at hab
    obtain ⟨j, hj, rfl⟩ := List.mem_map.1 hab
    have hj2 := (List.mem_filter.1 hj).1
    rw [List.mem_range] at hj2
    obtain ⟨h1, h2⟩ := ih b hb
    refine ⟨by simp [h1], fun x hx => ?_⟩
    rcases List.mem_append.1 hx with h | h
    · exact h2 x h
    · simp at h; omega
end Go.Proofs.Ytambhhjbafefgaa

/- The reference's All. -/
namespace Go.Proofs.Ytambhhjbafefgaa
set_option linter.unusedVariables false
open Go.RowKit

theorem Lines.base_le {w : World} {b b' : Nat} {v : Value} {L : List (List Int)} (h : Lines w b v L) (hb : b' ≤ b) : Lines w b' v L := by
  obtain ⟨hs, ho, hl, h0⟩ := h
  exact ⟨hs, own_base ho hb, hl, h0⟩
theorem lines_one (w : World) : Lines (w.alloc (.cells #[.slice none 0 0] 24)) w.heap.size (.slice (some ⟨w.heap.size, 0, none⟩) 1 1) [[]] :=
  ⟨[.slice none 0 0], World.ownsRow_lit (size := 1) w #[.slice none 0 0] 1 (Nat.le_refl _) (by decide) rfl, (fun i line hi => by
    have h := (List.getElem?_eq_some_iff.1 hi).1
    have h0 : i = 0 := by simp at h; omega
    subst h0
    simp at hi
    subst hi
    exact ⟨none, 0, rfl, Nat.le_refl _, rfl, fun h => absurd h (by decide)⟩), fun h => by cases h⟩
/-- the rows that m holes more make of a row -/
def extTo (a : List Int) (m : Nat) : List (List Int) := ((List.range m).filter fun j : Nat => !decide ((j : Int) ∈ a)).map fun j : Nat => a ++ [(j : Int)]
theorem extTo_succ (a : List Int) (m : Nat) : extTo a (m + 1) = extTo a m ++ (if (m : Int) ∈ a then [] else [a ++ [(m : Int)]]) := by
  unfold extTo
  rw [List.range_succ, List.filter_append, List.map_append]
  congr 1
  by_cases h : (m : Int) ∈ a <;> simp [h]
theorem extTo_len (a : List Int) (m : Nat) : (extTo a m).length ≤ m := by
  unfold extTo
  rw [List.length_map]
  have := List.length_filter_le (fun j : Nat => !decide ((j : Int) ∈ a)) (List.range m)
  rwa [List.length_range] at this
theorem pre_len (n : Nat) (L : List (List Int)) (k : Nat) (hk : k ≤ L.length) : ((L.take k).flatMap (extL n)).length ≤ k * n := by
  have := flatMap_len (extL n) n (L.take k) (fun a _ => extL_len n a)
  rwa [List.length_take, Nat.min_eq_left hk] at this

theorem beq_dec (x m : Int) : (x == m) = decide (m = x) := by
  rw [Bool.eq_iff_iff, beq_iff_eq, decide_eq_true_eq]; exact ⟨fun h => h.symm, fun h => h.symm⟩

set_option maxRecDepth 100000 in
set_option maxHeartbeats 4000000 in
theorem All_any (n : Nat) (hn : n ≤ 7) (w : World) :
    Calls Try.prog 33 #[.int .i64 n] w fun e w' => ∃ v, e = .returned v ∧ Lines w' w.heap.size v (allL n n) ∧ Below w.heap.size w w' := by
  obtain ⟨i0, hi, hz0, hz1, hz2⟩ := info_parts info_int
  obtain ⟨i1, hj, hy0, hy1, hy2⟩ := info_parts info_ints
  go_enter Try.func33, Try.ntmps33
  go_wp2
  go_loopw [3, 4] (fun v i wr => ∃ k : Nat, k ≤ n ∧ i = .int .i64 k ∧ Lines wr w.heap.size v (allL n k) ∧ Below w.heap.size w wr) (fun _ i _ => n - (intOf i).toNat)
  case atStart => exact ⟨0, Nat.zero_le _, rfl, lines_one w, below_alloc _ _⟩
  case round =>
    obtain ⟨k, hk, rfl, hL, hB⟩ := hrel
    generalize wr = W1 at *
    by_cases hlt : k < n
    · have hc1 : (k : Int) < n := by omega
      obtain ⟨a, cap, rfl, hcap, hcm, ht⟩ := hL.tbl
      have hlen := allL_len n hn k
      have hrows := allL_row n k
      have h7 : (7 : Nat) ^ k ≤ 7 ^ 7 := Nat.pow_le_pow_right (by decide) (by omega)
      have hnext : allL n (k + 1) = (allL n k).flatMap (extL n) := rfl
      generalize hAL : allL n k = L at *
      obtain ⟨c, hcl⟩ : ∃ c, L.length = c := ⟨_, rfl⟩
      rw [hcl] at hcap hlen ⊢
      have hc7 : c ≤ 823543 := Nat.le_trans hlen h7
      have HB := Lib.hid hB
      have HT := Lib.hid ht
      have HR := Lib.hid hrows
      have HC := Lib.hid hcl
      have HN := Lib.hid hnext
      clear hB ht hrows hcl hnext hL h7 hlen hAL
      go_wp2
      go_loopw [5, 6] (fun nx i2 w2 => ∃ k2 : Nat, k2 ≤ c ∧ i2 = .int .i64 k2 ∧ Lines w2 W1.heap.size nx ((L.take k2).flatMap (extL n)) ∧ Below W1.heap.size W1 w2) (fun _ i _ => c - (intOf i).toNat)
      case atStart => exact ⟨0, Nat.zero_le _, rfl, Lines.nil _ _, Below.refl _ _⟩
      case round =>
        obtain ⟨k2, hk2, rfl, hL2, hB2⟩ := hrel
        generalize wr = W2 at *
        by_cases hlt2 : k2 < c
        · have hc2 : (k2 : Int) < c := by omega
          obtain ⟨row, hrow⟩ : ∃ row, L[k2]? = some row := ⟨_, List.getElem?_eq_getElem (by have := HC.out; omega)⟩
          obtain ⟨hrl, hrb⟩ := HR.out row (List.mem_of_getElem? hrow)
          have hpl := pre_len n L k2 (by have := HC.out; omega)
          have hT2 : (L.take (k2 + 1)).flatMap (extL n) = (L.take k2).flatMap (extL n) ++ extTo row n := by
            rw [List.take_add_one, hrow, List.flatMap_append]
            show _ ++ [row].flatMap (extL n) = _
            rw [List.flatMap_cons, List.flatMap_nil, List.append_nil]; rfl
          generalize hPre : (L.take k2).flatMap (extL n) = Pre at *
          obtain ⟨p, hp⟩ : ∃ p, Pre.length = p := ⟨_, rfl⟩
          rw [hp] at hpl
          have hp7 : p ≤ 5764801 := by
            have : k2 * n ≤ 823543 * 7 := Nat.mul_le_mul (by omega) hn
            omega
          obtain ⟨g, ra, rc, ha, hg, c1, hrc, R1⟩ := HT.out.row hrow
          subst ha
          rw [hrl] at c1 hrc R1
          have HT2 := Lib.hid hT2
          have HP := Lib.hid hp
          have HB2 := Lib.hid hB2
          have HL2 := Lib.hid hL2
          have HR1 := Lib.hid R1
          have Hrl := Lib.hid hrl
          have Hg := Lib.hid hg
          have HC1 := Lib.hid c1
          clear hrl hrb hpl hT2 hp hB2 hL2 hrow hPre R1 hg c1
          go_wp2
          go_loopw [5, 7] (fun nx j w3 => ∃ m : Nat, m ≤ n ∧ j = .int .i64 m ∧ Lines w3 W1.heap.size nx (Pre ++ extTo row m) ∧ Below W1.heap.size W1 w3) (fun _ j _ => n - (intOf j).toNat)
          case atStart => exact ⟨0, Nat.zero_le _, rfl, by simpa [extTo] using HL2.out, HB2.out⟩
          case round =>
            obtain ⟨m, hm, rfl, hL3, hB3⟩ := hrel
            generalize wr = W3 at *
            by_cases hlt3 : m < n
            · have hc3 : (m : Int) < n := by omega
              have cr := (hB3.cell (p := ⟨g, k2, none⟩) Hg.out).trans HC1.out
              have hR3 := HR1.out.below hB3
              have HL3 := Lib.hid hL3
              have HB3 := Lib.hid hB3
              have HR3 := Lib.hid hR3
              clear hL3 hB3 hR3
              go_wp2
              go_loopw [8, 9] (fun tk x w4 => ∃ y : Nat, y ≤ k ∧ tk = .bool (decide ((m : Int) ∈ row.take y)) ∧ x = .int .i64 y ∧ w4 = W3) (fun _ x _ => k - (intOf x).toNat)
              case atStart => exact ⟨0, Nat.zero_le _, by simp, rfl, rfl⟩
              case round =>
                obtain ⟨y, hy, rfl, rfl, hw4⟩ := hrel
                have hw5 := hw4.symm
                clear hw4
                subst hw5
                by_cases hlt4 : y < k
                · have hc4 : (y : Int) < k := by omega
                  obtain ⟨x, hx⟩ : ∃ x, row[y]? = some x := ⟨_, List.getElem?_eq_getElem (by have := Hrl.out; omega)⟩
                  obtain ⟨g3, rfl, cx⟩ := HR3.out.int hlt4
                  rw [List.getD_eq_getElem?_getD, hx] at cx
                  simp only [Option.getD_some] at cx
                  have hT : row.take (y + 1) = row.take y ++ [x] := by rw [List.take_add_one, hx]; rfl
                  obtain ⟨bb, hbb⟩ : ∃ b, decide ((m : Int) ∈ row.take y) = b := ⟨_, rfl⟩
                  obtain ⟨b2, hb2⟩ : ∃ b, (x == (m : Int)) = b := ⟨_, rfl⟩
                  have hN : decide ((m : Int) ∈ row.take (y + 1)) = (bb || b2) := by
                    rw [hT, ← hbb, ← hb2]
                    simp only [List.mem_append, List.mem_singleton, Bool.decide_or]
                    congr 1
                    exact (beq_dec x m).symm
                  have HN4 := Lib.hid hN
                  rw [hbb]
                  clear hx hT hbb hN
                  cases bb with
                  | true =>
                    clear hb2
                    go_wp2
                    go_roundw
                    case rel => exact ⟨y + 1, by omega, by rw [HN4.out]; rfl, by go_num, trivial⟩
                    case measure => simp [intOf]; omega
                  | false =>
                    go_wp2
                    go_roundw
                    case rel => exact ⟨y + 1, by omega, by rw [HN4.out]; rfl, by go_num, trivial⟩
                    case measure => simp [intOf]; omega
                · obtain rfl : y = k := by omega
                  have hc4 : ¬ (y : Int) < y := by omega
                  have htk : row.take y = row := List.take_of_length_le (by have := Hrl.out; omega)
                  rw [htk]
                  clear htk
                  by_cases hmem : (m : Int) ∈ row
                  · rw [decide_eq_true hmem]
                    have Hmem := Lib.hid hmem
                    clear hmem
                    go_wp2
                    go_roundw
                    case rel =>
                      refine ⟨m + 1, by omega, by go_num, ?_, HB3.out⟩
                      rw [extTo_succ, if_pos Hmem.out, List.append_nil]; exact HL3.out
                    case measure => simp [intOf]; omega
                  · rw [decide_eq_false hmem]
                    have Hmem := Lib.hid hmem
                    clear hmem
                    cases hra : ra with
                    | none =>
                      subst hra
                      obtain rfl : y = 0 := by
                        rcases Nat.eq_zero_or_pos y with h | h
                        · exact h
                        · obtain ⟨g9, h9, _⟩ := HR3.out.2 h; cases h9
                      obtain rfl : row = [] := List.length_eq_zero_iff.1 Hrl.out
                      have HO5 : Hid (W3.ownsRow W3.heap.size 3 1 (.slice none 0 0) 0 (intL [])) := World.ownsRow_nil _ _ _ _
                      have HB5 := Lib.hid (Below.refl W3.heap.size W3)
                      go_wp2_with (first
                        | (at_builtin; refine wpList_append_own _ rfl _ _ 24 rfl W3.heap.size 3 i0 (.int .i64 0) 1 8 Try.underlying24 hi hz0 hz1 hz2 rfl (by decide) _ _ _ rfl (HO5.out.alloc (.cells #[.int .i64 m] 3)) ⟨_, 0, none⟩ 1 1 [.int .i64 m] rfl rfl (one_new _ _ _ _ (by simp)) (by simp [Value.oneCell']) (by unfold maxLen; omega) (by omega) (by have := HB5.out.size; first | (simp; done) | (simp; omega)) ?_; intro v2 w6 hown2 hgrow2 _
                           have hB6 : Below W3.heap.size W3 w6 := rel_push HB5.out (by have := HB5.out.size; first | (simp; done) | (simp; omega)) ((Below.refl _ _).alloc HB5.out.size _) HO5.out hgrow2
                           obtain ⟨a8, c8, rfl, hc8, hR8⟩ := own_slice hown2
                           obtain ⟨hs, ho, hl2, h0⟩ := HL3.out.below hB6
                           have ho' := (ho.alloc (.cells #[.slice a8 (0 + 1) c8] 24))
                           obtain ⟨q, hq⟩ : ∃ q, (Pre ++ extTo ([] : List Int) m).length = q := ⟨_, rfl⟩
                           have hq2 : q ≤ 5764801 + 7 := by have := extTo_len ([] : List Int) m; rw [List.length_append, HP.out] at hq; omega
                           rw [hq] at ho'
                           have Hq := Lib.hid hq
                           have Hhl := Lib.hid hl2
                           have Hh0 := Lib.hid h0
                           have HR8 := Lib.hid hR8
                           have HB6 := Lib.hid hB6
                           have Hho := Lib.hid ho
                           have Hc8 := Lib.hid hc8
                           have HO' := Lib.hid ho'
                           clear hl2 h0 hR8 hB6 ho ho' hc8 hown2 hgrow2 hq)
                        | (at_builtin; refine wpList_append_own _ rfl _ _ 22 rfl W1.heap.size 24 i1 (.slice none 0 0) 1 24 Try.underlying22 hj hy0 hy1 hy2 rfl (by decide) _ _ _ rfl HO'.out ⟨_, 0, none⟩ 1 1 [.slice a8 (0 + 1) c8] rfl rfl (one_new _ _ _ _ (by simp)) (by simp [Value.oneCell']) (by unfold maxLen; omega) (by omega) (by have := HB3.out.size; have := HB6.out.size; first | (simp; done) | (simp; omega)) ?_; intro v3 w7 hown3 hgrow3 _))
                      have hrow' : (([] : List Int) ++ [(m : Int)]).length = 0 + 1 := by rw [List.length_append, Hrl.out]; rfl
                      have hLn : Lines w7 W1.heap.size v3 (Pre ++ extTo ([] : List Int) (m + 1)) := by
                        rw [extTo_succ, if_neg Hmem.out, ← List.append_assoc]
                        refine Lines.push (o := .cells #[.slice a8 (0 + 1) c8] 24) (rc := c8) (ra := a8) Hho.out Hhl.out Hh0.out ?_ ?_ ?_ ?_
                        · rw [hrow']
                          have := HR8.out
                          unfold intL at this ⊢
                          rw [List.map_append]; exact this
                        · rw [hrow']; exact Hc8.out
                        · exact hgrow3
                        · rw [hrow', Hq.out]; exact hown3
                      have hB7 : Below W1.heap.size W1 w7 := by
                        refine rel_push (wr := w6) (wx := w6.alloc (.cells #[.slice a8 (0 + 1) c8] 24)) (b_next HB3.out HB6.out) (by have := HB3.out.size; have := HB6.out.size; first | (simp; done) | (simp; omega)) ((Below.refl _ _).alloc (by have := HB3.out.size; have := HB6.out.size; omega) _) Hho.out hgrow3
                      have HLn := Lib.hid hLn
                      have HB7 := Lib.hid hB7
                      clear hown3 hgrow3 hLn hB7
                      go_wp2
                      go_roundw
                      case rel => exact ⟨m + 1, by omega, by go_num, HLn.out, HB7.out⟩
                      case measure => simp [intOf]; omega
                    | some ad =>
                      subst hra
                      have hnews : ∀ j u, (intL row)[j]? = some u → W3.cell? (ad.add j) = some u := by
                        intro j u hu
                        have hj9 := (List.getElem?_eq_some_iff.1 hu).1
                        rw [intL_length, Hrl.out] at hj9
                        obtain ⟨g9, h9, _, h8⟩ := HR3.out.2 (by omega)
                        rw [Option.some.injEq] at h9
                        rw [h9, addr_add, Nat.zero_add]
                        exact h8 j u hu
                      have hlen1 : (intL row).length = y * 1 := by rw [intL_length, Hrl.out, Nat.mul_one]
                      have hone : ∀ u ∈ intL row, u.oneCell' = true := by
                        intro u hu
                        obtain ⟨x, _, rfl⟩ := List.mem_map.1 hu
                        simp [Value.oneCell']
                      have HNw := Lib.hid hnews
                      have HLn1 := Lib.hid hlen1
                      have HOn := Lib.hid hone
                      clear hnews hlen1 hone
                      go_wp2_with (first
                        | (at_builtin; refine wpList_append_own _ rfl _ _ 24 rfl W3.heap.size 3 i0 (.int .i64 0) 1 8 Try.underlying24 hi hz0 hz1 hz2 rfl (by decide) _ _ _ rfl (World.ownsRow_nil _ _ _ _) ad y rc (intL row) rfl HLn1.out HNw.out HOn.out (by unfold maxLen; omega) (by omega) (Nat.le_refl _) ?_; intro v1 w5 hown1 hgrow1 _
                           rw [Nat.zero_add, List.nil_append] at hown1
                           have hg5 : W3.grownBy w5 none := hgrow1
                           have HB5 : Hid (Below W3.heap.size W3 w5) := ⟨hg5.os, hg5.tape, hg5.output, hg5.size, fun j hj => hg5.block j hj (by simp)⟩
                           have HO5 := Lib.hid hown1
                           clear hown1 hgrow1 hg5)
                        | (at_builtin; refine wpList_append_own _ rfl _ _ 24 rfl W3.heap.size 3 i0 (.int .i64 0) 1 8 Try.underlying24 hi hz0 hz1 hz2 rfl (by decide) _ _ _ rfl (HO5.out.alloc (.cells #[.int .i64 m] 3)) ⟨_, 0, none⟩ 1 1 [.int .i64 m] rfl rfl (one_new _ _ _ _ (by simp)) (by simp [Value.oneCell']) (by unfold maxLen; omega) (by omega) (by have := HB5.out.size; first | (simp; done) | (simp; omega)) ?_; intro v2 w6 hown2 hgrow2 _
                           have hB6 : Below W3.heap.size W3 w6 := rel_push HB5.out (by have := HB5.out.size; first | (simp; done) | (simp; omega)) ((Below.refl _ _).alloc HB5.out.size _) HO5.out hgrow2
                           obtain ⟨a8, c8, rfl, hc8, hR8⟩ := own_slice hown2
                           obtain ⟨hs, ho, hl2, h0⟩ := HL3.out.below hB6
                           have ho' := (ho.alloc (.cells #[.slice a8 (y + 1) c8] 24))
                           obtain ⟨q, hq⟩ : ∃ q, (Pre ++ extTo row m).length = q := ⟨_, rfl⟩
                           have hq2 : q ≤ 5764801 + 7 := by have := extTo_len row m; rw [List.length_append, HP.out] at hq; omega
                           rw [hq] at ho'
                           have Hq := Lib.hid hq
                           have Hhl := Lib.hid hl2
                           have Hh0 := Lib.hid h0
                           have HR8 := Lib.hid hR8
                           have HB6 := Lib.hid hB6
                           have Hho := Lib.hid ho
                           have Hc8 := Lib.hid hc8
                           have HO' := Lib.hid ho'
                           clear hl2 h0 hR8 hB6 ho ho' hc8 hown2 hgrow2 hq)
                        | (at_builtin; refine wpList_append_own _ rfl _ _ 22 rfl W1.heap.size 24 i1 (.slice none 0 0) 1 24 Try.underlying22 hj hy0 hy1 hy2 rfl (by decide) _ _ _ rfl HO'.out ⟨_, 0, none⟩ 1 1 [.slice a8 (y + 1) c8] rfl rfl (one_new _ _ _ _ (by simp)) (by simp [Value.oneCell']) (by unfold maxLen; omega) (by omega) (by have := HB3.out.size; have := HB6.out.size; first | (simp; done) | (simp; omega)) ?_; intro v3 w7 hown3 hgrow3 _))
                      have hrow' : (row ++ [(m : Int)]).length = y + 1 := by rw [List.length_append, Hrl.out]; rfl
                      have hLn : Lines w7 W1.heap.size v3 (Pre ++ extTo row (m + 1)) := by
                        rw [extTo_succ, if_neg Hmem.out, ← List.append_assoc]
                        refine Lines.push (o := .cells #[.slice a8 (y + 1) c8] 24) (rc := c8) (ra := a8) Hho.out Hhl.out Hh0.out ?_ ?_ ?_ ?_
                        · rw [hrow']
                          have := HR8.out
                          unfold intL at this ⊢
                          rw [List.map_append]; exact this
                        · rw [hrow']; exact Hc8.out
                        · exact hgrow3
                        · rw [hrow', Hq.out]; exact hown3
                      have hB7 : Below W1.heap.size W1 w7 := by
                        refine rel_push (wr := w6) (wx := w6.alloc (.cells #[.slice a8 (y + 1) c8] 24)) (b_next HB3.out HB6.out) (by have := HB3.out.size; have := HB6.out.size; first | (simp; done) | (simp; omega)) ((Below.refl _ _).alloc (by have := HB3.out.size; have := HB6.out.size; omega) _) Hho.out hgrow3
                      have HLn := Lib.hid hLn
                      have HB7 := Lib.hid hB7
                      clear hown3 hgrow3 hLn hB7
                      go_wp2
                      go_roundw
                      case rel => exact ⟨m + 1, by omega, by go_num, HLn.out, HB7.out⟩
                      case measure => simp [intOf]; omega
            · obtain rfl : m = n := by omega
              have hc3 : ¬ (m : Int) < m := by omega
              go_wp2
              go_roundw
              case rel => exact ⟨k2 + 1, by omega, by go_num, by rw [HT2.out]; exact hL3, hB3⟩
              case measure => simp [intOf]; omega
        · obtain rfl : k2 = c := by omega
          have hc2 : ¬ (k2 : Int) < k2 := by omega
          go_wp2
          go_roundw
          case rel =>
            refine ⟨k + 1, by omega, by go_num, ?_, b_next HB.out hB2⟩
            rw [HN.out]
            rw [List.take_of_length_le (by have := HC.out; omega)] at hL2
            exact hL2.base_le HB.out.size
          case measure => simp [intOf]; omega
    · obtain rfl : k = n := by omega
      have hc1 : ¬ (k : Int) < k := by omega
      go_wp2
      go_ret
      exact ⟨_, rfl, hL, hB⟩
end Go.Proofs.Ytambhhjbafefgaa

/- All assignments, as the program visits them and as the reference lists them: the same: mathematics. -/
namespace Go.Proofs.Ytambhhjbafefgaa
set_option linter.unusedVariables false
theorem put_take (x : Way) (b : Nat) (h k : Int) (hb : b < 7) : (x.put b h k).holes.take (b + 1) = x.holes.take b ++ [h] := by
  rcases lt7 hb with rfl | rfl | rfl | rfl | rfl | rfl | rfl <;> rfl
theorem bit_or (T h j : Nat) : (T ||| 1 <<< h).testBit j = (T.testBit j || decide (h = j)) := by
  rw [Nat.testBit_or, Nat.one_shiftLeft, Nat.testBit_two_pow]
theorem flatMap_skip {α β : Type} (p : α → Bool) (f : α → List β) (l : List α) : (l.flatMap fun a => if p a then [] else f a) = (l.filter fun a => !p a).flatMap f := by
  induction l with
  | nil => rfl
  | cons x l ih =>
    rw [List.flatMap_cons, ih, List.filter_cons]
    cases p x <;> simp
theorem flatMap_congr' {α β : Type} {f g : α → List β} : ∀ {l : List α}, (∀ a ∈ l, f a = g a) → l.flatMap f = l.flatMap g
  | [], _ => rfl
  | x :: l, h => by rw [List.flatMap_cons, List.flatMap_cons, h x (by simp), flatMap_congr' fun a ha => h a (by simp [ha])]
theorem visW_rows {C : List (List Int)} (hn : C.length ≤ 7) : ∀ (m b T : Nat) (x : Way), b + m = C.length → (∀ j, j < C.length → T.testBit j = decide ((j : Int) ∈ x.holes.take b)) → (visW C m b T x).map (fun y => y.holes.take C.length) = allF C.length m (x.holes.take b) := by
  intro m
  induction m with
  | zero =>
    intro b T x hb _
    obtain rfl : b = C.length := by omega
    rfl
  | succ m ih =>
    intro b T x hb hT
    show ((List.range C.length).flatMap fun h => if T.testBit h then [] else visW C m (b + 1) (T ||| 1 <<< h) (x.put b h (cost C b h))).map _ = (extL C.length (x.holes.take b)).flatMap (allF C.length m)
    rw [flatMap_skip, List.map_flatMap]
    unfold extL
    rw [List.flatMap_map]
    have hf : (List.range C.length).filter (fun a => !T.testBit a) = (List.range C.length).filter (fun j : Nat => !decide ((j : Int) ∈ x.holes.take b)) :=
      List.filter_congr fun j hj => by rw [hT j (List.mem_range.1 hj)]
    rw [hf]
    refine flatMap_congr' fun h hh => ?_
    have hh2 := List.mem_range.1 (List.mem_filter.1 hh).1
    rw [← put_take x b h (cost C b h) (by omega)]
    refine ih (b + 1) _ _ (by omega) fun j hj => ?_
    rw [bit_or, hT j hj, put_take x b h _ (by omega)]
    simp only [List.mem_append, List.mem_singleton, Bool.decide_or]
    congr 1
    exact decide_eq_decide.2 ⟨fun e => by omega, fun e => by omega⟩
theorem asgW_rows {C : List (List Int)} (hn : C.length ≤ 7) : (asgW C).map (fun y => y.holes.take C.length) = allL C.length C.length := by
  rw [allL_eq]
  exact visW_rows hn C.length 0 0 Way.zero (by omega) (fun j _ => by simp)
theorem visW_way {C : List (List Int)} (hn : C.length ≤ 7) : ∀ (m b T : Nat) (x : Way), b + m = C.length → (∀ xs : List Int, xs.take b = x.holes.take b → wayP C xs b = x) → ∀ y ∈ visW C m b T x, wayP C (y.holes.take C.length) C.length = y := by
  intro m
  induction m with
  | zero =>
    intro b T x hb hx y hy
    obtain rfl : b = C.length := by omega
    obtain rfl : y = x := by simpa [visW] using hy
    exact hx _ (by rw [List.take_take, Nat.min_self])
  | succ m ih =>
    intro b T x hb hx y hy
    obtain ⟨h, hh, hy2⟩ := List.mem_flatMap.1 (show y ∈ (List.range C.length).flatMap fun h => if T.testBit h then [] else visW C m (b + 1) (T ||| 1 <<< h) (x.put b h (cost C b h)) from hy)
    split at hy2
    · cases hy2
    · refine ih (b + 1) _ _ (by omega) (fun xs hxs => ?_) y hy2
      rw [put_take x b h _ (by omega)] at hxs
      have hl : (x.holes.take b).length = b := by rw [List.length_take]; show min b 7 = b; omega
      have h1 : xs.take b = x.holes.take b := by
        have := congrArg (List.take b) hxs
        rw [List.take_take, Nat.min_eq_left (by omega), List.take_append_of_le_length (by omega), List.take_take, Nat.min_self] at this
        exact this
      have h2 : xs.getD b 0 = h := by
        have := congrArg (fun l => l[b]?) hxs
        simp only [List.getElem?_take_of_lt (show b < b + 1 by omega)] at this
        rw [List.getElem?_append_right (by omega), hl, Nat.sub_self] at this
        rw [List.getD_eq_getElem?_getD, this]; rfl
      show (wayP C xs b).put b (xs.getD b 0) (cost C b (xs.getD b 0).toNat) = _
      rw [hx xs h1, h2]; rfl
theorem asgW_way {C : List (List Int)} (hn : C.length ≤ 7) : ∀ y ∈ asgW C, wayP C (y.holes.take C.length) C.length = y :=
  visW_way hn C.length 0 0 Way.zero (by omega) (fun xs _ => rfl)
end Go.Proofs.Ytambhhjbafefgaa

/- The reference's before: lexicographic order. -/
namespace Go.Proofs.Ytambhhjbafefgaa
set_option linter.unusedVariables false
open Go.RowKit

theorem cmpL_diff : ∀ (k : Nat) (xs ys : List Int) (x y : Int), xs.take k = ys.take k → xs[k]? = some x → ys[k]? = some y → x ≠ y → cmpL xs ys = Lib.compareInt x y := by
  intro k
  induction k with
  | zero =>
    intro xs ys x y _ hx hy hne
    cases xs with
    | nil => cases hx
    | cons a xs =>
      cases ys with
      | nil => cases hy
      | cons b ys =>
        simp at hx hy
        subst hx hy
        unfold cmpL
        rw [if_neg hne]
  | succ k ih =>
    intro xs ys x y ht hx hy hne
    cases xs with
    | nil => cases hx
    | cons a xs =>
      cases ys with
      | nil => cases hy
      | cons b ys =>
        rw [List.take_succ_cons, List.take_succ_cons, List.cons.injEq] at ht
        unfold cmpL
        rw [if_pos ht.1]
        exact ih xs ys x y ht.2 (by simpa using hx) (by simpa using hy) hne
theorem cmpInt_neg (x y : Int) (h : x ≠ y) : decide (Lib.compareInt x y < 0) = decide (x < y) := by
  unfold Lib.compareInt
  repeat' split
  all_goals (apply decide_eq_decide.2; omega)
/-- the first list is lexicographically smaller -/
def befB (xs ys : List Int) : Bool := decide (cmpL xs ys < 0)

set_option maxRecDepth 100000 in
set_option maxHeartbeats 4000000 in
theorem before_any (a a2 : Option Addr) (n c1 c2 : Nat) (xs ys : List Int) (w : World) (h1 : Row w a n (intL xs)) (h2 : Row w a2 n (intL ys)) (hn : n ≤ 1000) :
    Calls Try.prog 70 #[.slice a n c1, .slice a2 n c2] w fun e w' => e = .returned (.bool (befB xs ys)) ∧ ∃ q, w' = w.drewN q := by
  have hl : xs.length = n := by have := h1.1; simpa [intL] using this
  have hl2 : ys.length = n := by have := h2.1; simpa [intL] using this
  have H1 := Lib.hid h1
  have H2 := Lib.hid h2
  have Hl := Lib.hid hl
  have Hl2 := Lib.hid hl2
  clear h1 h2 hl hl2
  go_enter Try.func70, Try.ntmps70
  go_wp2
  go_loopw [5] (fun i wr => ∃ k q : Nat, k ≤ n ∧ i = .int .i64 k ∧ Hid (xs.take k = ys.take k) ∧ wr = w.drewN q) (fun i _ => n - (intOf i).toNat)
  case atStart => exact ⟨0, 0, Nat.zero_le _, rfl, (by unfold Hid; simp), rfl⟩
  case round =>
    obtain ⟨k, q, hk, rfl, HE, rfl⟩ := hrel
    by_cases hlt : k < n
    · have hc : (k : Int) < n := by omega
      obtain ⟨x, hx⟩ : ∃ x, xs[k]? = some x := ⟨_, List.getElem?_eq_getElem (by have := Hl.out; omega)⟩
      obtain ⟨y, hy⟩ : ∃ y, ys[k]? = some y := ⟨_, List.getElem?_eq_getElem (by have := Hl2.out; omega)⟩
      obtain ⟨g1, rfl, hg1⟩ := H1.out.int hlt
      obtain ⟨g2, rfl, hg2⟩ := H2.out.int hlt
      rw [List.getD_eq_getElem?_getD, hx] at hg1
      rw [List.getD_eq_getElem?_getD, hy] at hg2
      simp only [Option.getD_some] at hg1 hg2
      have Hx := Lib.hid hx
      have Hy := Lib.hid hy
      clear hx hy
      by_cases hxy : x = y
      · have hb : (x != y) = false := by simp [hxy]
        have Hxy := Lib.hid hxy
        clear hxy
        go_wp2
        go_quiet (fail)
        go_wp2
        go_roundw
        case rel =>
          refine ⟨k + 1, _, by omega, by go_num, ?_, rfl⟩
          show xs.take (k + 1) = ys.take (k + 1)
          rw [List.take_add_one, List.take_add_one, HE.out, Hx.out, Hy.out, Hxy.out]
        case measure => simp [intOf]; omega
      · have hb : (x != y) = true := by simp [hxy]
        have hr : befB xs ys = decide (x < y) := by
          unfold befB
          rw [cmpL_diff k xs ys x y HE.out Hx.out Hy.out hxy]
          exact cmpInt_neg x y hxy
        have Hr := Lib.hid hr
        clear hxy hr
        go_wp2
        go_quiet (fail)
        go_wp2
        go_quiet (fail)
        go_wp2
        go_ret
        exact ⟨ret_bool Hr.out.symm, _, (congrArg (World.drewN · _) (World.drewN_drewN _ _ _)).trans (World.drewN_drewN _ _ _)⟩
    · obtain rfl : k = n := by omega
      have hc : ¬ (k : Int) < k := by omega
      have hr : befB xs ys = false := by
        have h := HE.out
        rw [List.take_of_length_le (by rw [Hl.out]; exact Nat.le_refl _), List.take_of_length_le (by rw [Hl2.out]; exact Nat.le_refl _)] at h
        unfold befB
        rw [h, cmpL_self]; rfl
      go_wp2
      go_ret
      exact ⟨rfl, _, rfl⟩
end Go.Proofs.Ytambhhjbafefgaa

/- The law for a range over a function, where the round lays a box for what it is handed and appends to a list of the caller's own (the variable at B1). -/
namespace Go.Proofs.Ytambhhjbafefgaa
set_option linter.unusedVariables false
open Go.RowKit

/-- block k is the row of the list variable at B1 -/
def Own1 (B1 : Nat) (X : World) (k : Nat) : Prop := ∃ a n c, X.cell? ⟨B1, 0, none⟩ = some (.slice (some a) n c) ∧ a.block = k
theorem Own1.back {B1 k : Nat} {W W' : World} (hB : B1 < W.heap.size) (hg : W.grownBy W' none) (h : Own1 B1 W' k) : Own1 B1 W k := by
  obtain ⟨a, n, c, h1, h2⟩ := h
  exact ⟨a, n, c, by rw [← h1]; simp only [World.cell?, hg.block B1 hB (by simp)], h2⟩
theorem Own1.congr {B1 k : Nat} {W W' : World} (h : Own1 B1 W k) (he : W'.heap[B1]? = W.heap[B1]?) : Own1 B1 W' k := by
  obtain ⟨a, n, c, h1, h2⟩ := h
  exact ⟨a, n, c, by rw [← h1]; simp only [World.cell?, he], h2⟩
/-- whatever lies from T on, but the list's row, lies as it lay -/
structure KeepsR (T B1 : Nat) (W W' : World) : Prop where
  size : W.heap.size ≤ W'.heap.size
  same : ∀ (k : Nat) (o : Obj), T ≤ k → ¬ Own1 B1 W k → W.heap[k]? = some o → W'.heap[k]? = some o ∧ ¬ Own1 B1 W' k
theorem KeepsR.refl (T B1 : Nat) (W : World) : KeepsR T B1 W W := ⟨Nat.le_refl _, fun _ _ _ hn h => ⟨h, hn⟩⟩
theorem KeepsR.trans {T B1 : Nat} {A B C : World} (h : KeepsR T B1 A B) (k : KeepsR T B1 B C) : KeepsR T B1 A C :=
  ⟨Nat.le_trans h.size k.size, fun i o hi hn ho => k.same i o hi (h.same i o hi hn ho).2 (h.same i o hi hn ho).1⟩
theorem KeepsR.of_grown {T B1 : Nat} {W W' : World} (hB : B1 < T) (h : W.grownBy W' none) : KeepsR T B1 W W' :=
  ⟨h.size, fun k o hk hn ho => ⟨(h.block k (Array.getElem?_eq_some_iff.1 ho).1 (by simp)).trans ho, fun hw => hn (hw.back (by have := (Array.getElem?_eq_some_iff.1 ho).1; omega) h)⟩⟩
theorem KeepsR.block {T B1 : Nat} {W W' : World} (h : KeepsR T B1 W W') {k : Nat} {o : Obj} (hk : T ≤ k) (hn : ¬ Own1 B1 W k) (ho : W.heap[k]? = some o) : W'.heap[k]? = some o := (h.same k o hk hn ho).1

/-- it bears new blocks -/
def BearsN {β : Type} (J : β → World → Prop) : Prop := ∀ s W W', J s W → W.grownBy W' none → J s W'
theorem BearsN.new {β : Type} {J : β → World → Prop} (h : BearsN J) {s : β} {W : World} (o : Obj) (hs : J s W) : J s (W.alloc o) := h s W _ hs (World.grownBy_alloc W o none)
/-- it bears new blocks, and turns of blocks from B on that are no cells -/
def BearsR {β : Type} (B : Nat) (J : β → World → Prop) : Prop :=
  ∀ s W W' row, J s W → W.grownBy W' row → (∀ r, row = some r → B ≤ r ∧ ∃ o : Obj, W.heap[r]? = some o ∧ o.isCells = false) → J s W'
theorem BearsR.put {β : Type} {B : Nat} {J : β → World → Prop} (h : BearsR B J) {s : β} {W : World} {l : Nat} {o0 : Obj} (o : Obj) (hs : J s W) (hl : B ≤ l) (h0 : W.heap[l]? = some o0) (hc : o0.isCells = false) : J s (W.putObj l o) :=
  h s W _ (some l) hs (grownBy_putObj' W l o) (fun r e => by cases e; exact ⟨hl, o0, h0, hc⟩)
theorem BearsR.new {β : Type} {B : Nat} {J : β → World → Prop} (h : BearsR B J) {s : β} {W : World} (o : Obj) (hs : J s W) : J s (W.alloc o) :=
  h s W _ none hs (World.grownBy_alloc W o none) (fun r e => by cases e)
/-- the list's row is cells -/
def RowCells (B1 : Nat) (X : World) : Prop := ∀ k, Own1 B1 X k → ∃ cs t fr, X.heap[k]? = some (.cells cs t fr)
theorem RowCells.lt {B1 k : Nat} {X : World} (h : RowCells B1 X) (ho : Own1 B1 X k) : k < X.heap.size := by
  obtain ⟨cs, t, fr, h⟩ := h k ho
  exact (Array.getElem?_eq_some_iff.1 h).1
theorem RowCells.not {B1 k : Nat} {X : World} {o : Obj} (h : RowCells B1 X) (ho : X.heap[k]? = some o) (hc : o.isCells = false) : ¬ Own1 B1 X k := fun hk => by
  obtain ⟨cs, t, fr, h⟩ := h k hk
  rw [ho] at h
  cases h
  cases hc

/-- how a round may end -/
def roundEndsR {α : Type} (T B1 : Nat) (I : List α → World → Prop) (Ix : Code → List α → World → Prop) (xs : List α) (W : World) : Exit → Act → World → Prop
  | .normal, _, W' => KeepsR T B1 W W' ∧ I xs W'
  | .ret, _, W' => KeepsR T B1 W W' ∧ Ix .ret xs W'
  | .exit i, _, W' => KeepsR T B1 W W' ∧ Ix (.exit i) xs W'
  | .goto t, _, W' => KeepsR T B1 W W' ∧ Ix (.goto t) xs W'
  | _, _, _ => False

variable {F : Fence} {n : Nat} {P : Program}

/-- an iterator that calls yield for what S says, or for a part of it, as long as the rounds keep Φ and the list's row is cells -/
def VisitsR {α : Type} (F : Fence) (n : Nat) (P : Program) (gf : Nat) (lb : Array Value) (encs : α → Array Value) (T B1 : Nat) (S Sp : List α → Prop) (N : Nat) (Φ : World → Prop) (W : World) : Prop :=
  ∀ (l : Nat) (J Jx : List α → World → Prop), BearsN J → BearsN Jx → (∀ pre X, J pre X → Φ X) → (∀ pre X, J pre X → RowCells B1 X) →
    (∀ pre x X, J pre X → pre.length < N → YieldAt F (n - 1) P l (encs x) X fun e X' =>
      (e = .returned (.bool true) ∧ J (pre ++ [x]) X' ∧ KeepsR T B1 X X') ∨ (e = .returned (.bool false) ∧ Jx (pre ++ [x]) X')) →
    J [] W → CallsIn F n P gf (#[.func (.yield l) #[] #[]] ++ lb) W fun e W' => (∃ v, e = .returned v) ∧ ((∃ xs, S xs ∧ J xs W') ∨ (∃ pre, Sp pre ∧ Jx pre W'))

theorem range_visits_boxR {α : Type} {g : Operand} {ps : Array Tmp} {assign body : Code} {Q : Exit → Act → World → Prop} {a : Act} {w : World}
    (hro : F.round = none) (h1 : 1 ≤ n) {gf : Nat} {lb : Array Value} (hg : a.eval g = .func (.func gf) #[] lb) (hFg : F.fn gf) (eg : ∀ args w, (callFunc gf args).run P w = .ok (.enter gf args) w)
    {encs : α → Array Value} {T B1 : Nat} (hBT : B1 < T) {S Sp : List α → Prop} {N : Nat} (hT : T ≤ w.heap.size) {Φ : World → Prop} (hseq : ∀ W, w.grownBy W none → VisitsR F (n - 1) P gf lb encs T B1 S Sp N Φ W) (hps : ∀ x, (encs x).size = ps.size)
    (I : List α → World → Prop) (Ix : Code → List α → World → Prop) (hI : BearsR w.heap.size I) (hIx : ∀ c, BearsR w.heap.size (Ix c)) (hΦ : ∀ pre X, I pre X → Φ X) (hRC : ∀ pre X, I pre X → RowCells B1 X) (h0 : I [] w) (ob : α → Obj) (a₁ : α → Nat → Act)
    (hassign : ∀ (l : Nat) (x : α) (W : World) (K : Act → World → Prop), K (a₁ x W.heap.size) (W.alloc (ob x)) →
      assign.wpIn (F.inRound l) (n - 1 - 1) P (Exit.then K (fun _ _ _ => False)) { tmps := (ps.zip (encs x)).foldl (fun t (p, v) => t.setIfInBounds p v) a.tmps, defers := [] } W)
    (hbody : ∀ (l : Nat) (pre : List α) (x : α) (B : Nat) (W : World), I pre W → W.heap[B]? = some (ob x) → w.heap.size ≤ B → pre.length < N → body.wpIn (F.inRound l) (n - 1 - 1) P (roundEndsR T B1 I Ix (pre ++ [x]) W) (a₁ x B) W)
    (hdone : ∀ (D : Nat) (xs : List α) (W : World), w.heap.size ≤ D → S xs → I xs W → W.heap[D]? = some (.deferred (some [])) → Q .normal { a with defers := { target := .collected D, args := #[] } :: a.defers } W)
    (hstop : ∀ (D : Nat) (c : Code) (pre : List α) (W : World), w.heap.size ≤ D → Sp pre → Ix c pre W → W.heap[D]? = some (.deferred (some [])) → c.wpIn F n P Q { a with defers := { target := .collected D, args := #[] } :: a.defers } W) :
    (Code.rangeFunc g ps assign body).wpIn F n P Q a w := by
  refine wpIn_rangeFunc (fun fn hfn => ?_)
  rw [hro]
  -- the two blocks of the loop: D for the deferred calls, L for its record
  obtain ⟨D, hD⟩ : ∃ D, w.heap.size = D := ⟨_, rfl⟩
  obtain ⟨rec, hrec⟩ : ∃ rec : LoopState → Option Code → Loop, rec = fun st jump => { state := st, pending := jump, fn, tmps := a.tmps, params := ps, assign, body, defers := D } := ⟨_, rfl⟩
  obtain ⟨V, hV⟩ : ∃ V, (w.alloc (.deferred (some []))).alloc (.loop (rec .ready none)) = V := ⟨_, rfl⟩
  have vs : V.heap.size = D + 1 + 1 := by rw [← hV, ← hD]; simp
  have vL : V.heap[D + 1]? = some (.loop (rec .ready none)) := by
    rw [← hV, ← hD]; have h := World.alloc_heap_new (w.alloc (.deferred (some []))) (.loop (rec .ready none)); rwa [World.size_alloc] at h
  have vD : V.heap[D]? = some (.deferred (some [])) := by
    rw [← hV, ← hD]; exact (Below.heap_alloc _ _ _ (by simp)).trans (World.alloc_heap_new w _)
  have vg : w.grownBy V none := by
    rw [← hV]
    have k1 := World.grownBy_alloc w (.deferred (some [])) none
    have k2 := World.grownBy_alloc (w.alloc (.deferred (some []))) (.loop (rec .ready none)) none
    exact k1.trans k2
  have vI : I [] V := by rw [← hV]; exact hI.new _ (hI.new _ h0)
  rw [hD] at hI hIx hT
  -- what holds between two rounds, and behind the last one
  let J : List α → World → Prop := fun pre W => I pre W ∧ W.heap[D + 1]? = some (.loop (rec .ready none)) ∧ W.heap[D]? = some (.deferred (some []))
  let Jx : List α → World → Prop := fun pre W => ∃ c, Ix c pre W ∧ W.heap[D + 1]? = some (.loop (rec .done (some c))) ∧ W.heap[D]? = some (.deferred (some []))
  have far : ∀ {A B : World} {row : Option Nat} {k : Nat} {o : Obj}, k < V.heap.size → A.grownBy B row → (∀ r, row = some r → V.heap.size ≤ r) → A.heap[k]? = some o → B.heap[k]? = some o := fun hk hg hr ho =>
    (hg.block _ (Array.getElem?_eq_some_iff.1 ho).1 (fun e => by have := hr _ e.symm; omega)).trans ho
  have bJ : BearsN J := fun s A B hs hg' => ⟨hI s A B none hs.1 hg' (fun r e => by cases e), far (Nat.lt_of_lt_of_le (Array.getElem?_eq_some_iff.1 vL).1 (Nat.le_refl _)) hg' (fun r e => by cases e) hs.2.1, far (Array.getElem?_eq_some_iff.1 vD).1 hg' (fun r e => by cases e) hs.2.2⟩
  have bJx : BearsN Jx := fun s A B ⟨c, hc, hl, hk⟩ hg' => ⟨c, hIx c s A B none hc hg' (fun r e => by cases e), far (Array.getElem?_eq_some_iff.1 vL).1 hg' (fun r e => by cases e) hl, far (Array.getElem?_eq_some_iff.1 vD).1 hg' (fun r e => by cases e) hk⟩
  refine ⟨D + 1, [{ target := .collected D, args := #[] }], V, { target := .fn (.func gf) lb, args := #[.func (.yield (D + 1)) #[] #[]] }, V, gf, #[.func (.yield (D + 1)) #[] #[]] ++ lb, V, ?_, ?_, ?_, ?_, fun _ => h1, ?_⟩
  · rw [← hV, hrec, ← hD]; exact run_enterLoop_outer _ _ _ _ _
  · simp only [resolve, hg]; simp [go_sem]
  · intro f hf; simp [Target.leads] at hf; subst hf; exact hFg
  · simp [invoke, go_sem, eg]
  refine (hseq V vg (D + 1) J Jx bJ bJx (fun pre X h => hΦ pre X h.1) (fun pre X h => hRC pre X h.1) ?_ ⟨vI, vL, vD⟩).mono ?_
  · rintro pre x W ⟨hi, hl, hk⟩ hlen
    have hlt : D + 1 < W.heap.size := (Array.getElem?_eq_some_iff.1 hl).1
    have hy := run_yield (P := P) (args := encs x) hl (by rw [hrec]; exact hps x)
    rw [hrec] at hy
    refine ⟨fn, _, assign, body, hy, roundIn_of_wpIn hfn (hassign _ x W _ ⟨_, run_beginRound ((Below.heap_alloc W (ob x) (D + 1) hlt).trans hl) (by rw [hrec]), ?_⟩)⟩
    obtain ⟨W2, hW2⟩ : ∃ W2, (W.alloc (ob x)).putObj (D + 1) (.loop { rec .ready none with state := .busy }) = W2 := ⟨_, rfl⟩
    have l2 : W2.heap[D + 1]? = some (.loop { rec .ready none with state := .busy }) := by rw [← hW2]; exact World.putObj_heap_same (by simp; omega)
    have k2 : W2.heap[D]? = some (.deferred (some [])) := by rw [← hW2]; exact (World.putObj_heap_other (by omega)).trans ((Below.heap_alloc W (ob x) D (by omega)).trans hk)
    have i2 : I pre W2 := by rw [← hW2]; exact hI.put _ (hI.new _ hi) (by omega) ((Below.heap_alloc W (ob x) (D + 1) hlt).trans hl) rfl
    have oth2 : ∀ k, k ≠ D + 1 → k < W.heap.size → W2.heap[k]? = W.heap[k]? := fun k hne hk => by rw [← hW2]; exact (World.putObj_heap_other hne).trans (Below.heap_alloc W (ob x) k hk)
    have s2 : W2.heap.size = W.heap.size + 1 := by rw [← hW2]; simp
    have x2 : W2.heap[W.heap.size]? = some (ob x) := by rw [← hW2]; exact (World.putObj_heap_other (by omega)).trans (World.alloc_heap_new W (ob x))
    -- the end of a round, whichever way it is left
    have fin : ∀ (jump : Option Code) (W3 : World), KeepsR T B1 W2 W3 → ∃ W4, (Instr.endRound (D + 1) jump).run P W3 = .ok (.bool jump.isNone) W4 ∧ W4 = W3.putObj (D + 1) (.loop (rec (if jump.isNone then .ready else .done) jump)) ∧
        W4.heap[D + 1]? = some (.loop (rec (if jump.isNone then .ready else .done) jump)) ∧ W4.heap[D]? = some (.deferred (some [])) := fun jump W3 hk3 => by
      have hl3 := (hk3.same _ _ (by omega) ((hRC _ _ i2).not l2 rfl) l2).1
      have hrun := run_endRound (P := P) jump hl3
      rw [hrec] at hrun ⊢
      exact ⟨_, hrun, rfl, World.putObj_heap_same (Array.getElem?_eq_some_iff.1 hl3).1, (World.putObj_heap_other (by omega)).trans (hk3.same _ _ (by omega) ((hRC _ _ i2).not k2 rfl) k2).1⟩
    rw [hW2]
    refine wpIn_mono (hbody _ pre x W.heap.size W2 i2 x2 (by omega) hlen) ?_
    intro e a3 W3 hp
    have left : ∀ c, KeepsR T B1 W2 W3 → Ix c (pre ++ [x]) W3 → ∃ v W4, (Instr.endRound (D + 1) (some c)).run P W3 = .ok v W4 ∧ ((Ending.returned v = .returned (.bool true) ∧ J (pre ++ [x]) W4 ∧ KeepsR T B1 W W4) ∨ (Ending.returned v = .returned (.bool false) ∧ Jx (pre ++ [x]) W4)) := fun c hk3 hi3 => by
      obtain ⟨W4, hr, rfl, hl4, hk4⟩ := fin (some c) W3 hk3
      exact ⟨_, _, hr, .inr ⟨rfl, c, (hIx c).put _ hi3 (by omega) (hk3.same _ _ (by omega) ((hRC _ _ i2).not l2 rfl) l2).1 rfl, hl4, hk4⟩⟩
    cases e with
    | normal =>
      obtain ⟨hk3, hi3⟩ := hp
      obtain ⟨W4, hr, rfl, hl4, hk4⟩ := fin none W3 hk3
      have hi4 := hI.put (.loop (rec (if (none : Option Code).isNone then .ready else .done) none)) hi3 (by omega) (hk3.same _ _ (by omega) ((hRC _ _ i2).not l2 rfl) l2).1 rfl
      refine ⟨_, _, hr, .inl ⟨rfl, ⟨hi4, hl4, hk4⟩, ?_⟩⟩
      refine ⟨by have := hk3.size; simp; omega, fun k o hT' hn ho => ?_⟩
      by_cases hkl : k = D + 1
      · subst hkl
        rw [hl] at ho
        cases ho
        exact ⟨hl4, (hRC _ _ hi4).not hl4 rfl⟩
      · have hkW := (Array.getElem?_eq_some_iff.1 ho).1
        obtain ⟨h3, h4⟩ := hk3.same k o hT' (fun hw => hn (hw.congr (oth2 B1 (by omega) (by omega)).symm)) ((oth2 k hkl hkW).trans ho)
        exact ⟨(World.putObj_heap_other hkl).trans h3, fun hw => h4 (hw.congr (World.putObj_heap_other (by omega)).symm)⟩
    | ret => exact left .ret hp.1 hp.2
    | exit i => exact left (.exit i) hp.1 hp.2
    | goto t => exact left (.goto t) hp.1 hp.2
    | panic c => exact hp.elim
    | outgrown => exact hp.elim
  · rintro e W2 ⟨⟨v, rfl⟩, (⟨xs, hS, hi, hl, hk⟩ | ⟨pre, hSp, c, hi, hl, hk⟩)⟩
    all_goals
      have hend := run_endLoop (P := P) hl (by rw [hrec]; simp)
      rw [hrec] at hend
    · exact ⟨none, _, hend, hdone D xs _ (by omega) hS (hI.put _ hi (by omega) hl rfl) ((World.putObj_heap_other (by omega)).trans hk)⟩
    · exact ⟨some c, _, hend, hstop D c pre _ (by omega) hSp ((hIx c).put _ hi (by omega) hl rfl) ((World.putObj_heap_other (by omega)).trans hk)⟩
end Go.Proofs.Ytambhhjbafefgaa

/- visit, where the round appends to a list of the caller's own. -/
namespace Go.Proofs.Ytambhhjbafefgaa
set_option linter.unusedVariables false
open Go.RowKit Go.Shelf
attribute [local go_sem] Oper.semAt_some

set_option maxRecDepth 100000 in
set_option maxHeartbeats 4000000 in
theorem visit_inR (C : List (List Int)) (g cap : Nat) (ra : Nat → Option Addr) (rc : Nat → Nat) (hR : Rect C C.length) (l T0 B1 M : Nat) (hBT : B1 < T0) (J Jx : List Way → World → Prop) (hJ : BearsN J) (hJO : ∀ pre W, J pre W → RowCells B1 W) (hJT : ∀ pre W, J pre W → TblF W g ra rc C)
    (hY : ∀ m pre (x : Way) W, J pre W → pre.length < M → (∀ i, i < C.length → ∃ j : Nat, j < C.length ∧ x.at i = j) → YieldAt Fence.wide m Try.prog l #[wayV x] W fun e W' =>
      (e = .returned (.bool true) ∧ J (pre ++ [x]) W' ∧ KeepsR T0 B1 W W') ∨ (e = .returned (.bool false) ∧ Jx (pre ++ [x]) W')) :
    ∀ (m b T : Nat) (x : Way) (n : Nat) (pre : List Way) (W : World), b + m = C.length → T < 128 → (-1000 * b ≤ x.t ∧ x.t ≤ 1000 * b) → (∀ i, i < b → ∃ j : Nat, j < C.length ∧ x.at i = j) → J pre W → T0 ≤ W.heap.size → pre.length + (visW C m b T x).length ≤ M →
      CallsIn Fence.wide n Try.prog 97 #[.slice (some ⟨g, 0, none⟩) C.length cap, .agg #[.int .i64 b, .int .i64 T], wayV x, .func (.yield l) #[] #[]] W fun e W' =>
        (e = .returned (.bool true) ∧ J (pre ++ visW C m b T x) W' ∧ KeepsR T0 B1 W W') ∨ (e = .returned (.bool false) ∧ ∃ q, q <+: visW C m b T x ∧ Jx (pre ++ q) W') := by
  intro m
  induction m with
  | zero =>
    intro b T x n pre W hb hT hx hxo hj hT0 hM
    obtain rfl : b = C.length := by omega
    have hj1 := hJ.new (.cells #[.int .i64 (C.length : Int), .int .i64 (T : Int)] 98) hj
    have hj2 := hJ.new (.cells (wayA x) 70) hj1
    have hk : KeepsR T0 B1 W ((W.alloc (.cells #[.int .i64 (C.length : Int), .int .i64 (T : Int)] 98)).alloc (.cells (wayA x) 70)) :=
      (KeepsR.of_grown hBT (World.grownBy_alloc W _ none)).trans (KeepsR.of_grown hBT (World.grownBy_alloc _ _ none))
    obtain ⟨fn, tmps, assign, body, hy, hR⟩ := hY (n - 1) pre x _ hj2 (by have : (visW C 0 C.length T x).length = 1 := rfl; omega) hxo
    unfold wayA at hy hR hk
    unfold wayV at hy ⊢
    clear hY hJ hJT hj hj1 hj2
    refine callsIn_of_wp Try.func97 rfl trivial ?_ rfl
    simp only [Try.ntmps97, List.size_toArray, List.length_cons, List.length_nil, Nat.reduceAdd, Nat.reduceSub, Array.replicate_succ, Array.replicate_zero, List.push_toArray, List.append_toArray, List.nil_append, List.cons_append]
    gi_wp2_with fail
    refine ⟨fun h => (by cases h), ?_⟩
    refine hR.mono ?_
    rintro e W2 (⟨rfl, hJ2, hk2⟩ | ⟨rfl, hx2⟩)
    · gi_wp2
      go_ret
      exact .inl ⟨rfl, hJ2, hk.trans hk2⟩
    · gi_wp2
      go_ret
      exact .inr ⟨rfl, [x], List.prefix_refl _, hx2⟩
  | succ m ih =>
    intro b T x n pre W hb hT hx hxo hj hT0 hM
    have hn7 := hR.n7
    have hbN : b < C.length := by omega
    obtain ⟨row, hrow⟩ : ∃ row, C[b]? = some row := ⟨_, List.getElem?_eq_getElem hbN⟩
    have hrl := hR.len row (List.mem_of_getElem? hrow)
    have hj1 := hJ.new (.cells #[.int .i64 (b : Int), .int .i64 (T : Int)] 98) hj
    have hj2 := hJ.new (.cells (wayA x) 70) hj1
    have hk : KeepsR T0 B1 W ((W.alloc (.cells #[.int .i64 (b : Int), .int .i64 (T : Int)] 98)).alloc (.cells (wayA x) 70)) :=
      (KeepsR.of_grown hBT (World.grownBy_alloc W _ none)).trans (KeepsR.of_grown hBT (World.grownBy_alloc _ _ none))
    have hs1 : ((W.alloc (.cells #[.int .i64 (b : Int), .int .i64 (T : Int)] 98)).alloc (.cells (wayA x) 70)).heap[W.heap.size]? = some (.cells #[.int .i64 (b : Int), .int .i64 (T : Int)] 98 (0, 0)) :=
      (Below.heap_alloc _ _ _ (by simp)).trans (World.alloc_heap_new W _)
    have hs2 : ((W.alloc (.cells #[.int .i64 (b : Int), .int .i64 (T : Int)] 98)).alloc (.cells (wayA x) 70)).heap[W.heap.size + 1]? = some (.cells (wayA x) 70 (0, 0)) := by
      have h := World.alloc_heap_new (W.alloc (.cells #[.int .i64 (b : Int), .int .i64 (T : Int)] 98)) (.cells (wayA x) 70)
      rwa [World.size_alloc] at h
    have hgX : W.grownBy ((W.alloc (.cells #[.int .i64 (b : Int), .int .i64 (T : Int)] 98)).alloc (.cells (wayA x) 70)) none := (World.grownBy_alloc W _ none).trans (World.grownBy_alloc _ _ none)
    have hnX : ∀ k, W.heap.size ≤ k → ¬ Own1 B1 ((W.alloc (.cells #[.int .i64 (b : Int), .int .i64 (T : Int)] 98)).alloc (.cells (wayA x) 70)) k := fun k hk ho => by
      have := (hJO pre W hj).lt (ho.back (by omega) hgX)
      omega
    clear hgX
    have hbne : ((b : Int) == C.length) = false := by rw [beq_eq_false_iff_ne]; omega
    have hl0 : ((W.alloc (.cells #[.int .i64 (b : Int), .int .i64 (T : Int)] 98)).alloc (.cells (wayA x) 70)).heap.size = W.heap.size + 2 := by simp
    refine callsIn_of_wp Try.func97 rfl trivial ?_ rfl
    simp only [Try.ntmps97, List.size_toArray, List.length_cons, List.length_nil, Nat.reduceAdd, Nat.reduceSub, Array.replicate_succ, Array.replicate_zero, List.push_toArray, List.append_toArray, List.nil_append, List.cons_append]
    unfold wayV
    have hdef : wayA x = #[.int .i64 x.a, .int .i64 x.b, .int .i64 x.c, .int .i64 x.d, .int .i64 x.e, .int .i64 x.f, .int .i64 x.g, .int .i64 x.t] := rfl
    generalize hX : ((W.alloc (.cells #[.int .i64 (b : Int), .int .i64 (T : Int)] 98)).alloc (.cells (wayA x) 70)) = X at hj2 hk hs1 hs2 hl0 hnX
    rw [hdef] at hX
    obtain ⟨htg, htf⟩ := hJT pre X hj2
    obtain ⟨tc1, tc2, tc3⟩ := htf b row hrow
    rw [hrl] at tc1 tc2 tc3
    obtain ⟨g2, hra, _⟩ := tc3.int (k := 0) (by omega)
    rw [hra] at tc1
    have Hra := Lib.hid hra
    clear hra
    have sc0 : X.cell? ⟨W.heap.size, 0, none⟩ = some (.int .i64 b) := by simp [World.cell?, hs1]
    have sc1 : X.cell? ⟨W.heap.size, 1, none⟩ = some (.int .i64 T) := by simp [World.cell?, hs1]
    have Hk := Lib.hid hk
    have Hn1 := Lib.hid (hnX W.heap.size (Nat.le_refl _))
    have Hn2 := Lib.hid (hnX (W.heap.size + 1) (by omega))
    have HJO := Lib.hid hJO
    clear hnX hJO
    have Hs1 := Lib.hid hs1
    have Hs2 := Lib.hid hs2
    have HJT := Lib.hid hJT
    have HY := Lib.hid hY
    have Hih := Lib.hid ih
    have HR := Lib.hid hR
    have HM := Lib.hid hM
    have Hrow := Lib.hid hrow
    have HJ := Lib.hid hJ
    have Hxo := Lib.hid hxo
    have hbN' : (b : Int) < C.length := by omega
    clear hj hj1 hk hs1 hs2 htf hJT hY ih hR hM hrow tc3 hdef hJ hxo
    gi_wp2_with fail
    gi_loopw [26] (fun i wr => ∃ k : Nat, k ≤ C.length ∧ i = .int .i64 k ∧ J (pre ++ visTo C m b T x k) wr ∧ KeepsR T0 B1 X wr) (fun i _ => C.length - (intOf i).toNat)
    case atStart => exact ⟨0, Nat.zero_le _, rfl, by simpa [visTo] using hj2, KeepsR.refl _ _ _⟩
    case round =>
      obtain ⟨k, hk, rfl, hj, hks⟩ := hrel
      by_cases hlt : k < C.length
      · have hc : (k : Int) < C.length := by omega
        have hs1 := hks.block (by omega) Hn1.out Hs1.out
        have hs2 := hks.block (by omega) Hn2.out Hs2.out
        obtain ⟨ug, uf⟩ := HJT.out _ wr hj
        obtain ⟨uc1, uc2, uc3⟩ := uf b row Hrow.out
        rw [hrl] at uc1 uc2 uc3
        rw [Hra.out] at uc1 uc3
        obtain ⟨g3, hra3, ccost⟩ := uc3.int hlt
        obtain rfl : g2 = g3 := by injection hra3 with e; injection e
        clear hra3
        have hcost : row.getD k 0 = cost C b k := by unfold cost; rw [List.getD_eq_getElem?_getD (l := C), Hrow.out]; rfl
        rw [hcost] at ccost
        have hcb := HR.out.cost row (List.mem_of_getElem? Hrow.out)
        have hcb2 := getD_bound hcb k
        rw [hcost] at hcb2
        have sc0 : wr.cell? ⟨W.heap.size, 0, none⟩ = some (.int .i64 b) := by simp [World.cell?, hs1]
        have sc1 : wr.cell? ⟨W.heap.size, 1, none⟩ = some (.int .i64 T) := by simp [World.cell?, hs1]
        obtain ⟨cc, hCC⟩ : ∃ cc, cost C b k = cc := ⟨_, rfl⟩
        rw [hCC] at ccost hcb2
        have hvs := visTo_succ C m b T x k
        rw [hCC] at hvs
        gi_wp2_with fail
        refine ⟨trivial, (fun h => by cases h), ?_⟩
        refine (callsIn_wide.2 (isTaken_any b T k hT (by omega) _)).mono ?_
        rintro e w1 ⟨rfl, b1⟩
        have hg1 := gr_of b1 none
        have hj1 := HJ.out _ _ _ hj hg1
        have hk1 := hks.trans (KeepsR.of_grown hBT hg1)
        have hs1' := hk1.block (by omega) Hn1.out Hs1.out
        have hs2' := hk1.block (by omega) Hn2.out Hs2.out
        clear hj hks hs1 hs2 sc0 sc1 b1 hg1 uf uc1 uc2 uc3 ccost ug
        have sc0 : w1.cell? ⟨W.heap.size, 0, none⟩ = some (.int .i64 b) := by simp [World.cell?, hs1']
        have sc1 : w1.cell? ⟨W.heap.size, 1, none⟩ = some (.int .i64 T) := by simp [World.cell?, hs1']
        cases htb : T.testBit k with
        | true =>
          rw [htb] at hvs
          simp only [if_true, List.append_nil] at hvs
          have Hvs := Lib.hid hvs
          clear hvs
          gi_wp2_with fail
          go_roundw
          case rel => exact ⟨k + 1, by omega, by go_num, by rw [Hvs.out]; exact hj1, hk1⟩
          case measure => simp [intOf]; omega
        | false =>
          rw [htb] at hvs
          simp only [Bool.false_eq_true, if_false] at hvs
          have Hvs := Lib.hid hvs
          clear hvs
          obtain ⟨a0, a1, a2, a3, a4, a5, a6, a7⟩ := at8_lit hs2'
          have hwi := with_any x b (by omega) k cc w1 (by omega) (by omega)
          unfold wayV at hwi
          obtain ⟨y, hy⟩ : ∃ y, x.put b k cc = y := ⟨_, rfl⟩
          rw [hy] at hwi Hvs
          have hyt : y.t = x.t + cc := by rw [← hy]; exact put_t x b k cc
          have hyo : ∀ i, i < b + 1 → ∃ j : Nat, j < C.length ∧ y.at i = j := fun i hi => by
            rw [← hy]
            by_cases e : i = b
            · subst e; exact ⟨k, hlt, put_at x (by omega) _ _⟩
            · rw [put_ne x (by omega) (by omega) e]; exact Hxo.out i (by omega)
          have Hyo := Lib.hid hyo
          clear hyo
          gi_wp2_with fail
          refine ⟨trivial, (fun h => by cases h), ?_⟩
          refine (callsIn_wide.2 hwi).mono ?_
          rintro e w2 ⟨rfl, b2⟩
          have hg2 := gr_of b2 none
          have hj2 := HJ.out _ _ _ hj1 hg2
          have hk2 := hk1.trans (KeepsR.of_grown hBT hg2)
          have hj3 := HJ.out.new (.cells (wayA y) 70) hj2
          have hk3 : KeepsR T0 B1 X (w2.alloc (.cells (wayA y) 70)) := hk2.trans (KeepsR.of_grown hBT (World.grownBy_alloc _ _ none))
          have hs1'' := hk3.block (by omega) Hn1.out Hs1.out
          have hs3 := World.alloc_heap_new w2 (.cells (wayA y) 70)
          have hw2 : X.heap.size ≤ w2.heap.size := hk2.size
          have hn3 : ¬ Own1 B1 (w2.alloc (.cells (wayA y) 70)) w2.heap.size := fun ho => by
            have := (HJO.out _ _ hj2).lt (ho.back (by omega) (World.grownBy_alloc w2 _ none))
            omega
          have hdef2 : wayA y = #[.int .i64 y.a, .int .i64 y.b, .int .i64 y.c, .int .i64 y.d, .int .i64 y.e, .int .i64 y.f, .int .i64 y.g, .int .i64 y.t] := rfl
          generalize hX3 : w2.alloc (.cells (wayA y) 70) = X3 at hj3 hk3 hs1'' hs3 hn3
          rw [hdef2] at hX3
          clear hj2 hk2 hg2 b2 hj1 hk1 hs1' hs2' a0 a1 a2 a3 a4 a5 a6 a7 sc0 sc1 hwi hdef2
          have Hyt := Lib.hid hyt
          clear hyt
          gi_wp2_with fail
          obtain ⟨pre2, hpre2⟩ : ∃ z, pre ++ visTo C m b T x k = z := ⟨_, rfl⟩
          obtain ⟨c', hc'⟩ : ∃ z, b + 1 = z := ⟨_, rfl⟩
          obtain ⟨T', hT'⟩ : ∃ z, T ||| 1 <<< k = z := ⟨_, rfl⟩
          have hyo := Hyo.out
          rw [hc'] at hyo
          clear Hyo
          have Hyo := Lib.hid hyo
          clear hyo
          have hvs9 := Hvs.out
          rw [hc', hT'] at hvs9
          clear Hvs
          have Hvs := Lib.hid hvs9
          clear hvs9
          obtain ⟨LL, hLL⟩ : ∃ z, visW C m c' T' y = z := ⟨_, rfl⟩
          have hlen2 : pre2.length + LL.length ≤ M := by
            have h1 := HM.out
            rw [visW_succ] at h1
            have h2 := (visTo_prefix C m b T x (show k + 1 ≤ C.length from hlt)).length_le
            rw [Hvs.out, List.length_append, hLL] at h2
            rw [← hpre2, List.length_append]
            omega
          have hvs2 : pre ++ visTo C m b T x (k + 1) = pre2 ++ LL := by rw [Hvs.out, ← hpre2, ← hLL, List.append_assoc]
          have hvp : ∀ q, q <+: LL → ∃ q', q' <+: visW C (m + 1) b T x ∧ pre ++ q' = pre2 ++ q := fun q hq => by
            refine ⟨visTo C m b T x k ++ q, ?_, by rw [← hpre2, List.append_assoc]⟩
            rw [visW_succ]
            have h2 := visTo_prefix C m b T x (show k + 1 ≤ C.length from hlt)
            rw [Hvs.out, hLL] at h2
            exact List.IsPrefix.trans ((List.prefix_append_right_inj _).2 hq) h2
          rw [hpre2] at hj3
          have HLL := Lib.hid hLL
          have Hvs2 := Lib.hid hvs2
          have Hvp := Lib.hid hvp
          have hmo : Try.prog.follows .mixedOrders = true := by kernel_rfl
          have hnx := fun w => next_any b T k (by omega) hT (by omega) w
          rw [hc', hT'] at hnx
          have hT2 : T' < 128 := by rw [← hT']; exact or_lt ⟨T, hT⟩ ⟨k, by omega⟩
          have hih := fun Y (h1 : J pre2 Y) (h2 : KeepsR T0 B1 X Y) => Hih.out c' T' y (n - 1) pre2 Y (by omega) hT2 (by have := Hyt.out; omega) Hyo.out h1 (by have := h2.size; omega) (by rw [HLL.out]; exact hlen2)
          rw [hLL] at hih
          unfold wayV at hih
          have HIH := Lib.hid hih
          have HNX := Lib.hid hnx
          have HS1 := Lib.hid (fun Y (h : KeepsR T0 B1 X Y) => h.block (by omega) Hn1.out Hs1.out)
          have HS3 : Hid (∀ Y, J pre2 Y ∧ KeepsR T0 B1 X Y → KeepsR T0 B1 X3 Y → Y.heap[w2.heap.size]? = some (.cells (wayA y) 70 (0, 0))) := fun Y _ h => h.block (by omega) hn3 hs3
          clear hpre2 hLL hvs2 hvp hnx hih hlen2 Hih HY Hvs hT' hc'
          refine region_inv hmo (fun L a Y => ∃ (b0 b1 b2 b3 b4 b5 b6 b7 rb : Bool), L = #[b0, b1, b2, b3, b4, b5, b6, b7] ∧ a = { tmps := #[.slice (some ⟨g, 0, none⟩) C.length cap, .agg #[.int .i64 (b : Int), .int .i64 (T : Int)], .agg #[.int .i64 x.a, .int .i64 x.b, .int .i64 x.c, .int .i64 x.d, .int .i64 x.e, .int .i64 x.f, .int .i64 x.g, .int .i64 x.t], .func (.yield l) #[] #[], undef, .pointer (some ⟨W.heap.size, 0, none⟩), .pointer (some ⟨W.heap.size + 1, 0, none⟩), undef, u8, .int .i64 (k : Int), .int .i64 cc, .pointer (some ⟨w2.heap.size, 0, none⟩), .pointer (some ⟨W.heap.size, 0, none⟩), .int .i64 (b : Int), .slice (some ⟨g, 0, none⟩) C.length cap, .int .i64 (C.length : Int), .bool false, undef, undef, undef, .slice (some ⟨g, 0, none⟩) C.length cap, .pointer (some ⟨W.heap.size, 0, none⟩), .int .i64 (b : Int), .pointer (some ⟨g, b, none⟩), .slice (some ⟨g2, 0, none⟩) C.length (rc b), .int .i64 (C.length : Int), .int .i64 (k : Int), .bool true, .int .i64 (k : Int), .pointer (some ⟨g2, k, none⟩), .int .i64 cc, .agg #[.int .i64 (b : Int), .int .i64 (T : Int)], .int .i64 (k : Int), .bool false, .agg #[.int .i64 x.a, .int .i64 x.b, .int .i64 x.c, .int .i64 x.d, .int .i64 x.e, .int .i64 x.f, .int .i64 x.g, .int .i64 x.t], .pointer (some ⟨W.heap.size, 0, none⟩), .int .i64 (b : Int), .int .i64 (k : Int), .agg #[.int .i64 (b : Int), .int .i64 (k : Int)], .int .i64 cc, .agg #[.int .i64 y.a, .int .i64 y.b, .int .i64 y.c, .int .i64 y.d, .int .i64 y.e, .int .i64 y.f, .int .i64 y.g, .int .i64 y.t], pk b0 (.slice (some ⟨g, 0, none⟩) C.length cap) u41, pk b1 (.agg #[.int .i64 (b : Int), .int .i64 (T : Int)]) u42, pk b2 (.int .i64 (k : Int)) u43, pk b3 (.agg #[.int .i64 (c' : Int), .int .i64 (T' : Int)]) u44, pk b4 (.agg #[.int .i64 y.a, .int .i64 y.b, .int .i64 y.c, .int .i64 y.d, .int .i64 y.e, .int .i64 y.f, .int .i64 y.g, .int .i64 y.t]) u45, pk b5 (.func (.yield l) #[] #[]) u46, pk b6 (.bool rb) u47, pk b7 (.bool (!rb)) u48, u49], defers := [] } ∧ (b6 = false → J pre2 Y ∧ KeepsR T0 B1 X Y ∧ KeepsR T0 B1 X3 Y) ∧ (b6 = true → (b0 = true ∧ b1 = true ∧ b2 = true ∧ b3 = true ∧ b4 = true ∧ b5 = true) ∧ ((rb = true ∧ J (pre2 ++ LL) Y ∧ KeepsR T0 B1 X Y ∧ KeepsR T0 B1 X3 Y) ∨ (rb = false ∧ ∃ q, q <+: LL ∧ Jx (pre2 ++ q) Y))) ∧ (b7 = true → b6 = true) ∧ (b3 = true → b1 = true ∧ b2 = true)) ?h0 ?hstep ?hdone
          case h0 =>
            have hgd : X3.grownBy X3.drew none := ⟨rfl, rfl, rfl, Nat.le_refl _, fun _ _ _ => rfl⟩
            exact ⟨false, false, false, false, false, false, false, false, false, rfl, rfl, fun _ => ⟨HJ.out _ _ _ hj3 hgd, hk3.trans (KeepsR.of_grown hBT hgd), KeepsR.of_grown hBT hgd⟩, (fun h => by cases h), (fun h => by cases h), (fun h => by cases h)⟩
          case hstep =>
            rintro L a Y ⟨b0, b1, b2, b3, b4, b5, b6, b7, rb, rfl, rfl, hF, hT6, hC7, hC3⟩ i hi
            obtain ⟨hun, o', ho, hdeps⟩ := mem_ready.1 hi
            clear hi
            have hi : i < 8 := (Array.getElem?_eq_some_iff.1 ho).1
            have hor : i = 0 ∨ i = 1 ∨ i = 2 ∨ i = 3 ∨ i = 4 ∨ i = 5 ∨ i = 6 ∨ i = 7 := by omega
            clear hi
            rcases hor with rfl | rfl | rfl | rfl | rfl | rfl | rfl | rfl
            · have hb0 : b0 = false := hun
              cases ho
              clear hun hdeps
              have e6 : b6 = false := by
                cases h : b6 with
                | false => rfl
                | true => exact absurd ((hT6 h).1.1) (by rw [hb0]; decide)
              have e7 : b7 = false := by
                cases h : b7 with
                | false => rfl
                | true => rw [hC7 h] at e6; cases e6
              obtain ⟨hJ6, hK6, hK7⟩ := hF e6
              subst hb0 e6 e7
              dsimp only
              refine wpOpIn_step rfl (fun K' hK => ?_)
              go_simp
              exact hK _ _ ⟨true, b1, b2, b3, b4, b5, false, false, rb, rfl, rfl, fun _ => ⟨hJ6, hK6, hK7⟩, (fun h => by cases h), (fun h => by cases h), hC3⟩
            · have hb0 : b1 = false := hun
              cases ho
              clear hun hdeps
              have e6 : b6 = false := by
                cases h : b6 with
                | false => rfl
                | true => exact absurd ((hT6 h).1.2.1) (by rw [hb0]; decide)
              have e7 : b7 = false := by
                cases h : b7 with
                | false => rfl
                | true => rw [hC7 h] at e6; cases e6
              obtain ⟨hJ6, hK6, hK7⟩ := hF e6
              have hs := HS1.out Y hK6
              have sc0 : Y.cell? ⟨W.heap.size, 0, none⟩ = some (.int .i64 b) := by simp [World.cell?, hs]
              have sc1 : Y.cell? ⟨W.heap.size, 1, none⟩ = some (.int .i64 T) := by simp [World.cell?, hs]
              clear hs
              subst hb0 e6 e7
              dsimp only
              refine wpOpIn_step rfl (fun K' hK => ?_)
              go_simp
              exact hK _ _ ⟨b0, true, b2, b3, b4, b5, false, false, rb, rfl, rfl, fun _ => ⟨hJ6, hK6, hK7⟩, (fun h => by cases h), (fun h => by cases h), fun h => ⟨rfl, (hC3 h).2⟩⟩
            · have hb0 : b2 = false := hun
              cases ho
              clear hun hdeps
              have e6 : b6 = false := by
                cases h : b6 with
                | false => rfl
                | true => exact absurd ((hT6 h).1.2.2.1) (by rw [hb0]; decide)
              have e7 : b7 = false := by
                cases h : b7 with
                | false => rfl
                | true => rw [hC7 h] at e6; cases e6
              obtain ⟨hJ6, hK6, hK7⟩ := hF e6
              subst hb0 e6 e7
              dsimp only
              refine wpOpIn_step rfl (fun K' hK => ?_)
              go_simp
              exact hK _ _ ⟨b0, b1, true, b3, b4, b5, false, false, rb, rfl, rfl, fun _ => ⟨hJ6, hK6, hK7⟩, (fun h => by cases h), (fun h => by cases h), fun h => ⟨(hC3 h).1, rfl⟩⟩
            · have hb0 : b3 = false := hun
              cases ho
              have d1 : b1 = true := hdeps ⟨1, Ground.data⟩ (by simp) rfl
              have d2 : b2 = true := hdeps ⟨2, Ground.data⟩ (by simp) rfl
              clear hun hdeps
              have e6 : b6 = false := by
                cases h : b6 with
                | false => rfl
                | true => exact absurd ((hT6 h).1.2.2.2.1) (by rw [hb0]; decide)
              have e7 : b7 = false := by
                cases h : b7 with
                | false => rfl
                | true => rw [hC7 h] at e6; cases e6
              obtain ⟨hJ6, hK6, hK7⟩ := hF e6
              subst hb0 d1 d2 e6 e7
              dsimp only
              refine wpOpIn_step rfl (fun K' hK => ?_)
              simp only [pk_true]
              go_simp
              refine ⟨trivial, (fun h => by cases h), ?_⟩
              refine (callsIn_wide.2 (HNX.out _)).mono ?_
              rintro e w5 ⟨rfl, z⟩
              have hgz := gr_of z none
              exact hK _ _ ⟨b0, true, true, true, b4, b5, false, false, rb, rfl, rfl, fun _ => ⟨HJ.out _ _ _ hJ6 hgz, hK6.trans (KeepsR.of_grown hBT hgz), hK7.trans (KeepsR.of_grown hBT hgz)⟩, (fun h => by cases h), (fun h => by cases h), fun _ => ⟨rfl, rfl⟩⟩
            · have hb0 : b4 = false := hun
              cases ho
              clear hun hdeps
              have e6 : b6 = false := by
                cases h : b6 with
                | false => rfl
                | true => exact absurd ((hT6 h).1.2.2.2.2.1) (by rw [hb0]; decide)
              have e7 : b7 = false := by
                cases h : b7 with
                | false => rfl
                | true => rw [hC7 h] at e6; cases e6
              obtain ⟨hJ6, hK6, hK7⟩ := hF e6
              have hs := HS3.out Y ⟨hJ6, hK6⟩ hK7
              obtain ⟨a0, a1, a2, a3, a4, a5, a6, a7⟩ := at8_lit hs
              clear hs
              subst hb0 e6 e7
              dsimp only
              refine wpOpIn_step rfl (fun K' hK => ?_)
              go_simp
              exact hK _ _ ⟨b0, b1, b2, b3, true, b5, false, false, rb, rfl, rfl, fun _ => ⟨hJ6, hK6, hK7⟩, (fun h => by cases h), (fun h => by cases h), hC3⟩
            · have hb0 : b5 = false := hun
              cases ho
              clear hun hdeps
              have e6 : b6 = false := by
                cases h : b6 with
                | false => rfl
                | true => exact absurd ((hT6 h).1.2.2.2.2.2) (by rw [hb0]; decide)
              have e7 : b7 = false := by
                cases h : b7 with
                | false => rfl
                | true => rw [hC7 h] at e6; cases e6
              obtain ⟨hJ6, hK6, hK7⟩ := hF e6
              subst hb0 e6 e7
              dsimp only
              refine wpOpIn_step rfl (fun K' hK => ?_)
              go_simp
              exact hK _ _ ⟨b0, b1, b2, b3, b4, true, false, false, rb, rfl, rfl, fun _ => ⟨hJ6, hK6, hK7⟩, (fun h => by cases h), (fun h => by cases h), hC3⟩
            · have hb0 : b6 = false := hun
              cases ho
              have d0 : b0 = true := hdeps ⟨0, Ground.data⟩ (by simp) rfl
              have d3 : b3 = true := hdeps ⟨3, Ground.data⟩ (by simp) rfl
              have d4 : b4 = true := hdeps ⟨4, Ground.data⟩ (by simp) rfl
              have d5 : b5 = true := hdeps ⟨5, Ground.data⟩ (by simp) rfl
              clear hun hdeps
              obtain ⟨hJ6, hK6, hK7⟩ := hF hb0
              have e7 : b7 = false := by
                cases h : b7 with
                | false => rfl
                | true => rw [hC7 h] at hb0; cases hb0
              subst hb0 d0 d3 d4 d5 e7
              have t1 : b1 = true := (hC3 rfl).1
              have t2 : b2 = true := (hC3 rfl).2
              subst t1 t2
              dsimp only
              refine wpOpIn_step rfl (fun K' hK => ?_)
              simp only [pk_true]
              go_simp
              refine ⟨trivial, (fun h => by cases h), ?_⟩
              refine (HIH.out _ hJ6 hK6).mono ?_
              rintro e w5 (⟨rfl, z1, z2⟩ | ⟨rfl, q, z1, z2⟩)
              · exact hK _ _ ⟨true, true, true, true, true, true, true, false, true, rfl, rfl, (fun h => by cases h), fun _ => ⟨⟨rfl, rfl, rfl, rfl, rfl, rfl⟩, .inl ⟨rfl, z1, hK6.trans z2, hK7.trans z2⟩⟩, fun _ => rfl, fun _ => ⟨rfl, rfl⟩⟩
              · exact hK _ _ ⟨true, true, true, true, true, true, true, false, false, rfl, rfl, (fun h => by cases h), fun _ => ⟨⟨rfl, rfl, rfl, rfl, rfl, rfl⟩, .inr ⟨rfl, q, z1, z2⟩⟩, fun _ => rfl, fun _ => ⟨rfl, rfl⟩⟩
            · have hb0 : b7 = false := hun
              cases ho
              have d6 : b6 = true := hdeps ⟨6, Ground.data⟩ (by simp) rfl
              clear hun hdeps
              have hT7 := hT6
              subst hb0 d6
              obtain ⟨s0, s1, s2, s3, s4, s5⟩ := (hT7 rfl).1
              subst s0 s1 s2 s3 s4 s5
              dsimp only
              refine wpOpIn_step rfl (fun K' hK => ?_)
              simp only [pk_true]
              go_simp
              exact hK _ _ ⟨true, true, true, true, true, true, true, true, rb, rfl, rfl, (fun h => by cases h), fun _ => ⟨⟨rfl, rfl, rfl, rfl, rfl, rfl⟩, (hT7 rfl).2⟩, fun _ => rfl, fun _ => ⟨rfl, rfl⟩⟩
          case hdone =>
            rintro L a Y ⟨b0, b1, b2, b3, b4, b5, b6, b7, rb, rfl, rfl, hF, hT6, hC7, _⟩ hr
            have t0 : b0 = true := ready_nil hr (i := 0) (by simp) (by intro o ho; cases ho; intro e he hbd; replace he : e ∈ #[] := he; simp at he)
            subst t0
            have t1 : b1 = true := ready_nil hr (i := 1) (by simp) (by intro o ho; cases ho; intro e he hbd; replace he : e ∈ #[] := he; simp at he)
            subst t1
            have t2 : b2 = true := ready_nil hr (i := 2) (by simp) (by intro o ho; cases ho; intro e he hbd; replace he : e ∈ #[] := he; simp at he)
            subst t2
            have t3 : b3 = true := ready_nil hr (i := 3) (by simp) (by intro o ho; cases ho; intro e he hbd; replace he : e ∈ #[⟨1, Ground.data⟩, ⟨2, Ground.data⟩] := he; simp only [List.mem_toArray, List.mem_cons, List.not_mem_nil, or_false] at he; rcases he with rfl | rfl <;> first | rfl | exact absurd hbd (by decide))
            subst t3
            have t4 : b4 = true := ready_nil hr (i := 4) (by simp) (by intro o ho; cases ho; intro e he hbd; replace he : e ∈ #[] := he; simp at he)
            subst t4
            have t5 : b5 = true := ready_nil hr (i := 5) (by simp) (by intro o ho; cases ho; intro e he hbd; replace he : e ∈ #[] := he; simp at he)
            subst t5
            have t6 : b6 = true := ready_nil hr (i := 6) (by simp) (by intro o ho; cases ho; intro e he hbd; replace he : e ∈ #[⟨0, Ground.data⟩, ⟨3, Ground.data⟩, ⟨4, Ground.data⟩, ⟨5, Ground.data⟩, ⟨3, Ground.chain⟩] := he; simp only [List.mem_toArray, List.mem_cons, List.not_mem_nil, or_false] at he; rcases he with rfl | rfl | rfl | rfl | rfl <;> first | rfl | exact absurd hbd (by decide))
            subst t6
            have t7 : b7 = true := ready_nil hr (i := 7) (by simp) (by intro o ho; cases ho; intro e he hbd; replace he : e ∈ #[⟨6, Ground.data⟩] := he; simp only [List.mem_toArray, List.mem_cons, List.not_mem_nil, or_false] at he; rcases he with rfl <;> first | rfl | exact absurd hbd (by decide))
            subst t7
            simp only [pk_true]
            rcases (hT6 rfl).2 with ⟨rfl, hj6, hk6, _⟩ | ⟨rfl, q, hq, hx⟩
            · gi_wp2_with fail
              go_roundw
              case rel => exact ⟨k + 1, by omega, by go_num, by rw [Hvs2.out]; exact hj6, hk6⟩
              case measure => simp [intOf]; omega
            · gi_wp2_with fail
              go_ret
              obtain ⟨q', h1, h2⟩ := Hvp.out q hq
              exact .inr ⟨rfl, q', h1, by rw [h2]; exact hx⟩
      · obtain rfl : k = C.length := by omega
        gi_wp2_with fail
        go_ret
        rw [visW_succ]
        exact .inl ⟨rfl, hj, Hk.out.trans hks⟩
end Go.Proofs.Ytambhhjbafefgaa

/- The iterator assignments, where the round appends to a list of the caller's own. -/
namespace Go.Proofs.Ytambhhjbafefgaa
set_option linter.unusedVariables false
open Go.RowKit Go.Shelf
attribute [local go_sem] Oper.semAt_some

set_option maxRecDepth 100000 in
set_option maxHeartbeats 4000000 in
theorem asg_visitsR (C : List (List Int)) (g cap : Nat) (ra : Nat → Option Addr) (rc : Nat → Nat) (hR : Rect C C.length) (n Be T B1 : Nat) (hBT : B1 < T) (W : World) (hT : T ≤ W.heap.size) (hBe : W.cell? ⟨Be, 0, none⟩ = some (.slice (some ⟨g, 0, none⟩) C.length cap)) :
    VisitsR Fence.wide n Try.prog 96 #[.pointer (some ⟨Be, 0, none⟩)] (fun x : OkW C => #[wayV x.1]) T B1 (fun ys => valW ys = asgW C) (fun pre => valW pre <+: asgW C) (asgW C).length (fun X => TblF X g ra rc C) W := by
  intro l J Jx hJ hJx hΦ hRC hY h0
  have hv := visit_inR C g cap ra rc hR l T B1 (asgW C).length hBT (fun l X => ∃ l' : List (OkW C), valW l' = l ∧ J l' X) (fun l X => ∃ l' : List (OkW C), valW l' = l ∧ Jx l' X)
    (fun s A B ⟨l', e, hj⟩ hg => ⟨l', e, hJ l' A B hj hg⟩) (fun pre X ⟨l', _, hj⟩ => hRC l' X hj) (fun pre X ⟨l', _, hj⟩ => hΦ l' X hj)
    (fun m pre x X ⟨l', e, hj⟩ hl hx => by
      refine YieldAt.anyDepth rfl m (YieldAt.mono (hY l' ⟨x, hx⟩ X hj (by rw [← e] at hl; simpa [valW] using hl)) ?_)
      rintro e' X' (⟨h1, h2, h3⟩ | ⟨h1, h2⟩)
      · exact .inl ⟨h1, ⟨_, by rw [valW_snoc, e], h2⟩, h3⟩
      · exact .inr ⟨h1, ⟨_, by rw [valW_snoc, e], h2⟩⟩)
    C.length 0 0 Way.zero (n - 1) [] W (by omega) (by omega) (by simp [Way.zero]) (fun i hi => absurd hi (by omega)) ⟨[], rfl, h0⟩ hT (by simp [asgW])
  rw [List.nil_append] at hv
  have HV := Lib.hid hv
  clear hv hY hJ hJx hΦ hRC h0
  refine callsIn_of_wp Try.func96 rfl trivial ?_ rfl
  simp only [Try.ntmps96, List.size_toArray, List.length_cons, List.length_nil, Nat.reduceAdd, Nat.reduceSub, Array.replicate_succ, Array.replicate_zero, List.push_toArray, List.append_toArray, List.nil_append, List.cons_append]
  gi_wp2_with fail
  refine ⟨trivial, (fun h => by cases h), ?_⟩
  refine (HV.out).mono ?_
  rintro e W2 (⟨rfl, ⟨l', he, hj⟩, _⟩ | ⟨rfl, q, hq, ⟨l', he, hx⟩⟩)
  · gi_wp2
    go_end0
    exact ⟨⟨_, rfl⟩, .inl ⟨_, he, hj⟩⟩
  · gi_wp2
    go_end0
    exact ⟨⟨_, rfl⟩, .inr ⟨l', by rw [he]; exact hq, hx⟩⟩
end Go.Proofs.Ytambhhjbafefgaa

/- A list variable of the caller's own that the rounds of a range over a function append to. -/
namespace Go.Proofs.Ytambhhjbafefgaa
set_option linter.unusedVariables false
open Go.RowKit

theorem ownsRow_bears {W W' : World} {row : Option Nat} {base : Nat} {e : TypeId} {size : Nat} {v : Value} {k : Nat} {xs : List Value} (h : W.ownsRow base e size v k xs) (hg : W.grownBy W' row)
    (hr : ∀ r, row = some r → ∃ o : Obj, W.heap[r]? = some o ∧ o.isCells = false) : W'.ownsRow base e size v k xs := by
  refine World.ownsRow.kept h hg ?_
  rcases h.2 with ⟨rfl, _⟩ | ⟨g, cap, cur, rfl, _, hc, _⟩
  · exact .inl rfl
  · refine .inr fun e => ?_
    obtain ⟨o, h1, h2⟩ := hr g (e.symm.trans (by simp [Value.ownBlock]))
    rw [hc] at h1; cases h1; cases h2
theorem boxed_bears {W W' : World} {row : Option Nat} {B : Nat} {t : TypeId} {v : Value} (h : Boxed W B t v) (hg : W.grownBy W' row) (hr : ∀ r, row = some r → ∃ o : Obj, W.heap[r]? = some o ∧ o.isCells = false) : Boxed W' B t v :=
  h.kept hg (fun e => by
    obtain ⟨o, h1, h2⟩ := hr B e.symm
    rw [show W.heap[B]? = _ from h] at h1; cases h1; cases h2)
/-- the list at B1 holds what s says -/
def LstI {β : Type} (w : World) (B1 base : Nat) (tl te : TypeId) (sz : Nat) (ln : β → Nat) (cs : β → List Value) (s : β) (X : World) : Prop :=
  ∃ v, Boxed X B1 tl v ∧ X.ownsRow base te sz v (ln s) (cs s) ∧ Below w.heap.size w X
section
variable {β : Type} {w : World} {B1 base : Nat} {tl te : TypeId} {sz : Nat} {ln : β → Nat} {cs : β → List Value}
theorem bears_lst {B : Nat} (hB : w.heap.size ≤ B) : BearsR B (LstI w B1 base tl te sz ln cs) := by
  rintro s W W' row ⟨v, h1, h2, h3⟩ hg hr
  exact ⟨v, boxed_bears h1 hg (fun r e => (hr r e).2), ownsRow_bears h2 hg (fun r e => (hr r e).2), h3.grown hg h3.size (fun k e => by have := (hr k e).1; omega)⟩
theorem LstI.cells {s : β} {X : World} (h : LstI w B1 base tl te sz ln cs s X) : RowCells B1 X := by
  obtain ⟨v, hb, ho, _⟩ := h
  rintro k ⟨a, n, c, h1, rfl⟩
  rw [hb.cell] at h1
  simp only [Option.some.injEq] at h1
  subst h1
  rcases ho.2 with ⟨h, _⟩ | ⟨g, cap, cur, h, _, hc, _⟩
  · cases h
  · simp only [Value.slice.injEq, Option.some.injEq] at h
    rw [h.1]
    exact ⟨_, _, _, hc⟩
theorem lst_same {s s' : β} {W W' : World} (h : LstI w B1 base tl te sz ln cs s W) (hg : W.grownBy W' none) (h1 : ln s' = ln s) (h2 : cs s' = cs s) : LstI w B1 base tl te sz ln cs s' W' := by
  obtain ⟨v, hb, ho, hx⟩ := h
  exact ⟨v, hb.kept hg (by simp), by rw [h1, h2]; exact ho.kept hg (by cases v.ownBlock <;> simp), hx.grown hg hx.size (fun k e => by cases e)⟩
theorem lst_step {s s' : β} {T k m : Nat} {W W8 w9 : World} {v v' : Value} {xs news : List Value} (hBT : B1 < T) (hne : tl ≠ te) (hbw : w.heap.size ≤ B1) (hbb : w.heap.size ≤ base) (Hb : Boxed W B1 tl v) (Hown : W.ownsRow base te sz v k xs) (HX : Below w.heap.size w W)
    (hg8 : W.grownBy W8 none) (ho9 : w9.ownsRow base te sz v' (k + m) (xs ++ news)) (hg9 : W8.grownBy w9 v.ownBlock) (hblk : v'.ownBlock = v.ownBlock ∨ v'.ownBlock = some W8.heap.size) (h1 : ln s' = k + m) (h2 : cs s' = xs ++ news) :
    KeepsR T B1 W (w9.setCell ⟨B1, 0, none⟩ v') ∧ LstI w B1 base tl te sz ln cs s' (w9.setCell ⟨B1, 0, none⟩ v') := by
  have Hb8 := Hb.kept hg8 (by simp)
  have Hown8 := Hown.kept hg8 (by cases v.ownBlock <;> simp)
  have hnr := Boxed.not_row Hb8 hne Hown8
  have hn9 := Hb8.kept hg9 hnr
  have hnr9 := Boxed.not_row hn9 hne ho9
  have hX9 : Below w.heap.size w w9 := (HX.grown hg8 HX.size (fun k e => by cases e)).grown hg9 (Nat.le_trans HX.size hg8.size) (fun j e => by have := (Hown.lt j e).1; omega)
  refine ⟨⟨by have := hg8.size; have := hg9.size; simp; omega, fun i o hi hn ho => ?_⟩, v', hn9.set v', ?_, hX9.setCell (p := ⟨B1, 0, none⟩) hbw v'⟩
  · have hil := (Array.getElem?_eq_some_iff.1 ho).1
    have hnv : v.ownBlock ≠ some i := fun e => by
      refine hn ?_
      rcases Hown.2 with ⟨rfl, _⟩ | ⟨g, cap, cur, rfl, _⟩
      · cases e
      · simp only [Value.ownBlock, Option.some.injEq] at e
        exact ⟨_, _, _, Hb.cell, e⟩
    have h8 := (hg8.block i hil (by simp)).trans ho
    have h9 := (hg9.block i (by have := hg8.size; omega) hnv.symm).trans h8
    refine ⟨(Below.heap_setCell _ _ _ _ (by show i ≠ B1; omega)).trans h9, ?_⟩
    rintro ⟨a, n, c, e1, e2⟩
    rw [(hn9.set v').cell] at e1
    simp only [Option.some.injEq] at e1
    subst e1
    simp only [Value.ownBlock, e2] at hblk
    rcases hblk with h | h
    · exact hnv h.symm
    · have := hg8.size; simp at h; omega
  · rw [h1, h2]
    exact World.ownsRow.kept ho9 (grownBy_setCell' w9 B1 v') (by cases h : v'.ownBlock with | none => exact .inl rfl | some g => exact .inr (by rw [h] at hnr9; exact fun e => hnr9 e.symm))
end
end Go.Proofs.Ytambhhjbafefgaa
