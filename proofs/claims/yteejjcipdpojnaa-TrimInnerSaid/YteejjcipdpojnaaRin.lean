/- Contract of the reference's Inner: a table of rows of its own. -/
import Derived.Test.YteejjcipdpojnaaBest
import Derived.Test.YteejjcipdpojnaaChecks
import Derived.Deep.OwnRows
namespace Go.Proofs.Yteejjcipdpojnaa
set_option linter.unusedVariables false
open Go.RowKit

theorem info_strs : (Try.prog.info? 23).map (fun i => (i.zero, i.size, i.bytes)) = some (some (.slice none 0 0), 1, 24) := by kernel_rfl

def rowV (N : Nat) (g : Nat → Nat) (i : Nat) : Value := .slice (some ⟨g i, 0, none⟩) N N

/-- the table while its rows are laid -/
structure Tb (w wr : World) (N k : Nat) (v : Value) (g : Nat → Nat) : Prop where
  below : Below w.heap.size w wr
  own : wr.ownsRow w.heap.size 23 1 v k ((List.range k).map (rowV N g))
  rows : ∀ i, i < k → wr.rowIs (g i) 9 N (fun _ => .string ⟨#[]⟩)
  least : ∀ i, i < k → w.heap.size ≤ g i
  inj : ∀ i j, i < k → j < k → g i = g j → i = j

theorem Tb.start (w : World) (N : Nat) : Tb w w N 0 (.slice none 0 0) (fun _ => 0) :=
  ⟨Below.refl _ _, World.ownsRow_nil _ _ _ _, fun _ h => absurd h (Nat.not_lt_zero _), fun _ h => absurd h (Nat.not_lt_zero _), fun _ _ h => absurd h (Nat.not_lt_zero _)⟩

theorem Tb.step {w wr w1 : World} {N k : Nat} {v v' : Value} {g : Nat → Nat} (h : Tb w wr N k v g) (X : Obj)
    (hown : w1.ownsRow w.heap.size 23 1 v' (k + 1) ((List.range k).map (rowV N g) ++ [.slice (some ⟨wr.heap.size, 0, none⟩) N N]))
    (hg : ((wr.alloc (.cells (madeCells #[.string ⟨#[]⟩] N) 9)).alloc X).grownBy w1 v.ownBlock) : ∃ g', Tb w w1 N (k + 1) v' g' := by
  have hb := h.below.size
  have hlt : ∀ i, i < k → g i < wr.heap.size := fun i hi => (h.rows i hi).lt
  have hvb : ∀ q, v.ownBlock = some q → q < wr.heap.size := fun q hq => (h.own.lt q hq).2
  -- v's own row holds rows, not strings
  have hap : ∀ i, i < k → some (g i) ≠ v.ownBlock := by
    intro i hi e
    rcases h.own.2 with ⟨rfl, _⟩ | ⟨q, cap, cur, rfl, _, hq, _⟩
    · simp [Value.ownBlock] at e
    · simp [Value.ownBlock] at e
      obtain ⟨c, hc, _⟩ := h.rows i hi
      rw [e, hq] at hc
      simp at hc
  have hsz : ((wr.alloc (.cells (madeCells #[.string ⟨#[]⟩] N) 9)).alloc X).heap.size = wr.heap.size + 2 := by simp
  refine ⟨fun i => if i = k then wr.heap.size else g i, ?_, ?_, ?_, ?_, ?_⟩
  · exact (((h.below.alloc hb _).alloc (by simp; omega) _)).grown hg (by rw [hsz]; omega) (fun q hq => (h.own.lt q hq).1)
  · rw [List.range_succ, List.map_append]
    have e : (List.range k).map (rowV N fun i => if i = k then wr.heap.size else g i) = (List.range k).map (rowV N g) := by
      refine List.map_congr_left fun i hi => ?_
      have := List.mem_range.1 hi
      simp only [rowV]; rw [if_neg (by omega)]
    rw [e]
    simpa [rowV] using hown
  · intro i hi
    by_cases e : i = k
    · subst e
      simp only [if_true]
      have h1 := (World.rowIs_made wr (.string ⟨#[]⟩) N 9).alloc X
      exact h1.of_block (hg.block _ (by rw [hsz]; omega) (fun e => by have := hvb _ e.symm; omega))
    · simp only [if_neg e]
      have h1 := ((h.rows i (by omega)).alloc (.cells (madeCells #[.string ⟨#[]⟩] N) 9)).alloc X
      exact h1.of_block (hg.block _ (by have := hlt i (by omega); rw [hsz]; omega) (hap i (by omega)))
  · intro i hi
    by_cases e : i = k
    · simp only [if_pos e]; omega
    · simp only [if_neg e]; exact h.least i (by omega)
  · intro i j hi hj e
    by_cases ei : i = k <;> by_cases ej : j = k
    · omega
    · simp only [if_pos ei, if_neg ej] at e
      have := hlt j (by omega); omega
    · simp only [if_neg ei, if_pos ej] at e
      have := hlt i (by omega); omega
    · simp only [if_neg ei, if_neg ej] at e
      exact h.inj i j (by omega) (by omega) e

/-- the table, its rows laid -/
structure Tab (w wr : World) (N B : Nat) (g : Nat → Nat) (T : Nat → Nat → ByteArray) : Prop where
  below : Below w.heap.size w wr
  head : ∀ i, i < N → wr.cell? ⟨B, i, none⟩ = some (.slice (some ⟨g i, 0, none⟩) N N)
  rows : ∀ i, i < N → wr.rowIs (g i) 9 N (fun j => .string (T i j))
  least : ∀ i, i < N → w.heap.size ≤ g i
  apart : ∀ i, i < N → B ≠ g i
  inj : ∀ i j, i < N → j < N → g i = g j → i = j

theorem Tb.tab {w wr : World} {N : Nat} {v : Value} {g : Nat → Nat} (hN : 0 < N) (h : Tb w wr N N v g) : ∃ B cap, v = .slice (some ⟨B, 0, none⟩) N cap ∧ Tab w wr N B g (fun _ _ => ⟨#[]⟩) := by
  rcases h.own.2 with ⟨_, h0⟩ | ⟨q, cap, cur, hv, _, hq, _⟩
  · omega
  · refine ⟨q, cap, hv, h.below, ?_, h.rows, h.least, ?_, h.inj⟩
    · intro i hi
      have := h.own.cells (g := q) (by rw [hv]; rfl) i (rowV N g i) (by simp [hi])
      rwa [show ((⟨q, 0, none⟩ : Addr).add i) = ⟨q, i, none⟩ from by unfold Addr.add; split <;> simp_all] at this
    · intro i hi e
      obtain ⟨c, hc, _⟩ := h.rows i hi
      rw [← e, hq] at hc
      simp at hc

theorem Tab.set {w wr : World} {N B : Nat} {g : Nat → Nat} {T : Nat → Nat → ByteArray} (h : Tab w wr N B g T) {i : Nat} (hi : i < N) (j : Nat) (x : ByteArray) :
    Tab w (wr.setCell ⟨g i, j, none⟩ (.string x)) N B g (fun a b => if a = i ∧ b = j then x else T a b) := by
  refine ⟨h.below.setCell (h.least i hi) _, ?_, ?_, h.least, h.apart, h.inj⟩
  · intro a ha
    rw [World.cell?_setCell_other _ _ _ _ (fun e => by have := congrArg Addr.block e; simp at this; exact h.apart i hi this.symm)]
    exact h.head a ha
  · intro a ha
    by_cases e : a = i
    · subst e
      refine ((h.rows a ha).set j _).congr fun b _ => ?_
      by_cases e2 : b = j
      · simp [e2]
      · simp [e2]
    · refine ((h.rows a ha).setOther (fun k => e (h.inj a i ha hi k)) _).congr fun b _ => ?_
      simp [e]
theorem Tab.drawn {w wr : World} {N B : Nat} {g : Nat → Nat} {T : Nat → Nat → ByteArray} (h : Tab w wr N B g T) (q : Nat) : Tab w (wr.drewN q) N B g T :=
  ⟨below_drewN h.below q, h.head, h.rows, h.least, h.apart, h.inj⟩

/-- all shorter parts are told -/
def Told (l : List UInt8) (n k : Nat) (T : Nat → Nat → ByteArray) : Prop := ∀ a b, a ≤ b → b ≤ n → b - a < k → T a b = mk (innerAt l (b - a) a)
/-- and of the parts of k letters those that begin before i -/
def Toldi (l : List UInt8) (n k i : Nat) (T : Nat → Nat → ByteArray) : Prop := Told l n k T ∧ ∀ a, a < i → a + k ≤ n → T a (a + k) = mk (innerAt l k a)

theorem told_start (l : List UInt8) (n : Nat) : Told l n 1 (fun _ _ => ⟨#[]⟩) := by
  intro a b h1 _ h3
  rw [show b - a = 0 from by omega]; rfl
theorem told_next {l : List UInt8} {n k i : Nat} {T : Nat → Nat → ByteArray} (h : Toldi l n k i T) (hi : n < i + k) : Told l n (k + 1) T := by
  intro a b h1 h2 h3
  by_cases e : b - a < k
  · exact h.1 a b h1 h2 e
  · have e2 : b = a + k := by omega
    subst e2
    rw [h.2 a (by omega) h2, Nat.add_sub_cancel_left]
theorem toldi_next {l : List UInt8} {n k i : Nat} {T : Nat → Nat → ByteArray} {x : ByteArray} (h : Toldi l n k i T) (hk : 1 ≤ k) (hx : x = mk (innerAt l k i)) {j : Nat} (hj : i + k = j) :
    Toldi l n k (i + 1) (fun a b => if a = i ∧ b = j then x else T a b) := by
  subst hj
  refine ⟨fun a b h1 h2 h3 => ?_, fun a h1 h2 => ?_⟩
  · show (if a = i ∧ b = i + k then x else T a b) = _
    rw [if_neg (by omega)]; exact h.1 a b h1 h2 h3
  · show (if a = i ∧ a + k = i + k then x else T a (a + k)) = _
    by_cases e : a = i
    · subst e; rw [if_pos ⟨rfl, rfl⟩, hx]
    · rw [if_neg (by omega)]; exact h.2 a (by omega) h2

theorem inner_keep (l : List UInt8) (d b : Nat) (h : b + d + 2 ≤ l.length) (he : l.getD b 0 = l.getD (b + d + 1) 0) :
    betterL (betterL (innerAt l (d + 1) (b + 1)) (innerAt l (d + 1) b)) (l.getD b 0 :: (innerAt l d (b + 1) ++ [l.getD b 0])) = innerAt l (d + 2) b := by
  have e : l.getD b 0 :: (innerAt l d (b + 1) ++ [l.getD b 0]) = innerAt l (d + 2) b := by rw [innerAt, if_pos he]
  rw [e]
  refine better_keep ?_
  rcases (betterL_len (innerAt l (d + 1) (b + 1)) (innerAt l (d + 1) b)).2.2 with k | k <;> rw [k]
  · refine inner_best l (d + 2) b _ (by omega) (innerAt_pal _ _ _) ?_
    rw [seg_first l (d + 1) b (by omega)]
    exact (innerAt_sub l (d + 1) (b + 1) (by omega)).cons _
  · refine inner_best l (d + 2) b _ (by omega) (innerAt_pal _ _ _) ?_
    rw [seg_last l (d + 1) b (by omega)]
    exact (innerAt_sub l (d + 1) b (by omega)).trans (List.sublist_append_left _ _)

set_option maxRecDepth 100000 in
set_option maxHeartbeats 8000000 in
theorem refInner_any (s : ByteArray) (w : World) (hs : s.size ≤ 100) :
    Calls Try.prog 48 #[.string s] w fun e w' => e = .returned (.string (mk (innerL s.data.toList))) ∧ Below w.heap.size w w' := by
  obtain ⟨N, hN⟩ : ∃ N, s.size + 1 = N := ⟨_, rfl⟩
  have eN : IntKind.i64.wrap ((s.size : Int) + 1) = N := by rw [IntWalk.i64_in _ (by omega)]; omega
  have hmk := run_make_row' (P := Try.prog) 23 9 (.string ⟨#[]⟩) 16 Try.underlying23 info_str rfl .i64 .i64 N (by omega) (by omega)
  obtain ⟨i0, hi, hz0, hz1, hz2⟩ := info_parts info_strs
  have HN := Lib.hid hN
  have hN1 : N ≤ 101 := by omega
  clear hN
  go_enter Try.func48, Try.ntmps48
  go_wp2
  go_loopw [4, 5] (fun v i wr => ∃ k : Nat, k ≤ N ∧ i = .int .i64 k ∧ ∃ g, Tb w wr N k v g) (fun _ i _ => N - (intOf i).toNat)
  case atStart => exact ⟨0, Nat.zero_le _, rfl, _, Tb.start w N⟩
  case round =>
    obtain ⟨k, hk, rfl, g, hT⟩ := hrel
    by_cases hlt : k < N
    · have hc : (k : Int) ≤ s.size := by have := HN.out; omega
      have hown := hT.own
      have hsz := hT.below.size
      go_wp2_with (at_builtin; refine wpList_append_own _ rfl _ _ 69 rfl w.heap.size 23 i0 (.slice none 0 0) 1 24 Try.underlying69 hi hz0 hz1 hz2 rfl (by decide) _ _ _ rfl ((hown.alloc _).alloc _) ⟨wr.heap.size + 1, 0, none⟩ 1 1 [.slice (some ⟨wr.heap.size, 0, none⟩) N N] rfl rfl ?c2 (by simp [Value.oneCell']) ?c3 ?c4 ?c5 ?_)
      case c2 => intro j u hu; have := cell_one_new (wr.alloc (.cells (madeCells #[.string ⟨#[]⟩] N) 9)) (.slice (some ⟨wr.heap.size, 0, none⟩) N N) 23 j u hu; simpa using this
      case c3 => unfold maxLen; omega
      case c4 => omega
      case c5 => simp; omega
      intro v' w1 hown' hgrow _
      obtain ⟨g', hT'⟩ := hT.step _ hown' hgrow
      clear hown' hgrow hown hsz hT
      go_wp2
      go_roundw
      case rel => exact ⟨k + 1, by omega, by go_num, g', hT'⟩
      case measure => simp [intOf]; omega
    · obtain rfl : k = N := by omega
      have hc : ¬ (k : Int) ≤ s.size := by have := HN.out; omega
      obtain ⟨B, cap, rfl, hTab⟩ := hT.tab (by have := HN.out; omega)
      clear hT hmk
      go_wp2
      clear hc
      go_loopw [6] (fun u wr => ∃ q : Nat, 1 ≤ q ∧ q ≤ k ∧ u = .int .i64 q ∧ ∃ T, Tab w wr k B g T ∧ Hid (Told s.data.toList s.size q T)) (fun u _ => k - (intOf u).toNat)
      case atStart => exact ⟨1, Nat.le_refl _, by have := HN.out; omega, rfl, _, hTab, told_start _ _⟩
      case round =>
        clear hTab
        obtain ⟨q, hq1, hqk, rfl, T, hTab, HT⟩ := hrel
        by_cases hlt2 : q < k
        · have hc : (q : Int) ≤ s.size := by have := HN.out; omega
          go_wp2
          go_loopw [7] (fun u wr => ∃ i : Nat, i + q ≤ k ∧ u = .int .i64 i ∧ ∃ T, Tab w wr k B g T ∧ Hid (Toldi s.data.toList s.size q i T)) (fun u _ => k - (intOf u).toNat)
          case atStart => exact ⟨0, by omega, rfl, T, hTab, ⟨HT.out, fun a h _ => absurd h (Nat.not_lt_zero _)⟩⟩
          case round =>
            clear hTab HT
            obtain ⟨i, hiq, rfl, T, hTab, HT⟩ := hrel
            have eiq : IntKind.i64.wrap ((i : Int) + q) = ((i + q : Nat) : Int) := by rw [IntWalk.i64_in _ (by omega)]; omega
            by_cases hlt3 : i + q < k
            · obtain ⟨j, hj⟩ : ∃ j, i + q = j := ⟨_, rfl⟩
              obtain ⟨m, hm⟩ : ∃ m, m + 1 = j := ⟨j - 1, by omega⟩
              obtain ⟨i1, hi1⟩ : ∃ i1, i + 1 = i1 := ⟨_, rfl⟩
              rw [hj] at eiq
              have hc3 : (j : Int) ≤ s.size := by have := HN.out; omega
              have e1 : IntKind.i64.wrap ((i : Int) + 1) = i1 := by rw [IntWalk.i64_in _ (by omega)]; omega
              have e2 : IntKind.i64.wrap ((j : Int) - 1) = m := by rw [IntWalk.i64_in _ (by omega)]; omega
              have b1 : (i1 : Int) < k := by omega
              have b2 : (j : Int) < k := by omega
              have b3 : (i : Int) < k := by omega
              have b4 : (m : Int) < k := by omega
              have c1 := hTab.head i1 (by omega)
              have c2 := hTab.head i (by omega)
              have t1 := HT.out.1 i1 j (by omega) (by have := HN.out; omega) (by omega)
              have t2 := HT.out.1 i m (by omega) (by have := HN.out; omega) (by omega)
              rw [show j - i1 = q - 1 from by omega] at t1
              rw [show m - i = q - 1 from by omega] at t2
              have c3 := (hTab.rows i1 (by omega)).cell (i := j) (by omega)
              have c4 := (hTab.rows i (by omega)).cell (i := m) (by omega)
              simp only [t1] at c3
              simp only [t2] at c4
              have hz1 : (mk (innerAt s.data.toList (q - 1) i1)).size ≤ 1000 := by rw [mk_size]; have := innerAt_len s.data.toList (q - 1) i1; omega
              have hz2 : (mk (innerAt s.data.toList (q - 1) i)).size ≤ 1000 := by rw [mk_size]; have := innerAt_len s.data.toList (q - 1) i; omega
              have hbt : ∀ w, Calls Try.prog 70 #[.string (mk (innerAt s.data.toList (q - 1) i1)), .string (mk (innerAt s.data.toList (q - 1) i))] w fun e w' => e = .returned (.string (mk (betterL (innerAt s.data.toList (q - 1) i1) (innerAt s.data.toList (q - 1) i)))) ∧ w' = w := fun w =>
                (better_ref_any _ _ w hz1 hz2).mono fun _ _ h => ⟨by rw [← betterB_mk]; exact h.1, h.2.symm⟩
              have Hbt := Lib.hid hbt
              have Hj := Lib.hid hj
              have Hm := Lib.hid hm
              have Hi1 := Lib.hid hi1
              have Hlt3 := Lib.hid hlt3
              clear hbt hz1 hz2 t1 t2 hj hm hi1 hlt3
              go_wp2
              go_quiet ((go_at_call 70; exact Calls.quiet_of_same (Hbt.out _)))
              obtain ⟨wx, hwx⟩ : ∃ wx, wr.drewN nq = wx := ⟨_, rfl⟩
              have hTx : Tab w wx k B g T := hwx ▸ hTab.drawn nq
              rw [hwx]
              clear hwx hTab c1 c2 c3 c4
              have c2 := hTx.head i (by omega)
              have c5 := (hTx.rows i (by omega)).cell (i := j) (by omega)
              have c6 := (hTx.rows i (by omega)).frozen j
              by_cases hq : q = 1
              · have hqi : ((q : Int) == 1) = true := by rw [beq_iff_eq]; omega
                have hx : s.extract i j = mk (innerAt s.data.toList q i) := by
                  have := Hj.out
                  rw [show j = i + 1 from by omega, extract_mk1 s i (by have := HN.out; omega), hq]; rfl
                have d1 : (i : Int) ≤ j := by have := Hj.out; omega
                have d2 : (j : Int) ≤ s.size := by have := HN.out; omega
                have HT2 := Lib.hid (toldi_next HT.out hq1 hx Hj.out)
                have HTx := Lib.hid hTx
                have Hq := Lib.hid hq
                clear hq hx HT hTx hq1
                go_wp2
                go_roundw
                case rel => exact ⟨i + 1, by have := Hj.out; have := Hlt3.out; omega, congrArg (Value.int .i64) (by have := Hi1.out; omega), _, HTx.out.set (by omega) j _, HT2.out⟩
                case measure => have := Hi1.out; simp [intOf]; omega
              · have hqi : ((q : Int) == 1) = false := by rw [beq_eq_false_iff_ne]; omega
                obtain ⟨d, hd⟩ : ∃ d, d + 2 = q := ⟨q - 2, by omega⟩
                have hmi : m = i + d + 1 := by have := Hm.out; have := Hj.out; omega
                have d1 : (i : Int) < s.size := by have := Hm.out; have := Hj.out; omega
                have d2 : (m : Int) < s.size := by have := Hm.out; have := Hj.out; omega
                have n1 : i < s.size := by omega
                have n2 : m < s.size := by omega
                have hdl : i + d + 2 ≤ s.data.toList.length := by rw [data_length]; omega
                cases hs2 : ((s[i].toNat : Int) == (s[m].toNat : Int)) with
                | true =>
                  have he : s.data.toList.getD i 0 = s.data.toList.getD (i + d + 1) 0 := by
                    rw [← hmi, getD_data s i n1, getD_data s m n2]; exact beq_iff_eq.1 (nat_beq _ _ ▸ hs2)
                  have d3 : (i : Int) ≤ i1 := by have := Hi1.out; omega
                  have d4 : (i1 : Int) ≤ s.size := by have := Hi1.out; omega
                  have c1 := hTx.head i1 (by omega)
                  have t1 := HT.out.1 i1 m (by have := Hi1.out; omega) (by omega) (by have := Hi1.out; omega)
                  rw [show m - i1 = d from by have := Hi1.out; omega] at t1
                  have c3 := (hTx.rows i1 (by omega)).cell (i := m) (by omega)
                  simp only [t1] at c3
                  have hl1 : (s.extract i i1).size = 1 := by have := Hi1.out; rw [ByteArray.size_extract]; omega
                  have hl2 : (mk (innerAt s.data.toList d i1)).size ≤ 100 := by rw [mk_size]; have := innerAt_len s.data.toList d i1; omega
                  have hcat : s.extract i i1 ++ mk (innerAt s.data.toList d i1) ++ s.extract i i1 = mk (s.data.toList.getD i 0 :: (innerAt s.data.toList d i1 ++ [s.data.toList.getD i 0])) := by
                    rw [show i1 = i + 1 from Hi1.out.symm, extract_mk1 s i n1]
                    unfold mk; rw [ByteArray.mk_append_mk, ByteArray.mk_append_mk]; rfl
                  have s1 : (s.extract i i1).size + (mk (innerAt s.data.toList d i1)).size ≤ 9223372036854775807 := by omega
                  have s2 : (s.extract i i1).size + (mk (innerAt s.data.toList d i1)).size + (s.extract i i1).size ≤ 9223372036854775807 := by omega
                  have hz1 : (mk (betterL (innerAt s.data.toList (q - 1) i1) (innerAt s.data.toList (q - 1) i))).size ≤ 1000 := by
                    rw [mk_size]
                    have := innerAt_len s.data.toList (q - 1) i1
                    have := innerAt_len s.data.toList (q - 1) i
                    rcases (betterL_len (innerAt s.data.toList (q - 1) i1) (innerAt s.data.toList (q - 1) i)).2.2 with h | h <;> rw [h] <;> omega
                  have hz2 : (s.extract i i1 ++ mk (innerAt s.data.toList d i1) ++ s.extract i i1).size ≤ 1000 := by rw [ByteArray.size_append, ByteArray.size_append]; omega
                  have hkeep : betterB (mk (betterL (innerAt s.data.toList (q - 1) i1) (innerAt s.data.toList (q - 1) i))) (s.extract i i1 ++ mk (innerAt s.data.toList d i1) ++ s.extract i i1) = mk (innerAt s.data.toList q i) := by
                    rw [hcat, betterB_mk, ← hd, show d + 2 - 1 = d + 1 from rfl, show i1 = i + 1 from Hi1.out.symm, inner_keep _ d i hdl he]
                  have hbt : ∀ w, Calls Try.prog 70 #[.string (mk (betterL (innerAt s.data.toList (q - 1) i1) (innerAt s.data.toList (q - 1) i))), .string (s.extract i i1 ++ mk (innerAt s.data.toList d i1) ++ s.extract i i1)] w fun e w' => e = .returned (.string (mk (innerAt s.data.toList q i))) ∧ w' = w := fun w =>
                    (better_ref_any _ _ w hz1 hz2).mono fun _ _ h => ⟨by rw [← hkeep]; exact h.1, h.2.symm⟩
                  have Hbt2 := Lib.hid hbt
                  have HT2 := Lib.hid (toldi_next HT.out hq1 rfl Hj.out)
                  clear hbt hkeep hz1 hz2 hcat hdl he hmi hd hq HT hq1 c1 c2 c3 c5 c6
                  go_wp2
                  go_quiet (fail)
                  obtain ⟨wy, hwy⟩ : ∃ wy, wx.drewN nq = wy := ⟨_, rfl⟩
                  have hTy : Tab w wy k B g T := hwy ▸ hTx.drawn nq
                  rw [hwy]
                  clear hwy hTx
                  have c1 := hTy.head i1 (by omega)
                  have c2 := hTy.head i (by omega)
                  have c3 := (hTy.rows i1 (by omega)).cell (i := m) (by omega)
                  have c5 := (hTy.rows i (by omega)).cell (i := j) (by omega)
                  have c6 := (hTy.rows i (by omega)).frozen j
                  simp only [t1] at c3
                  have HTy := Lib.hid hTy
                  clear t1 hTy
                  go_wp2
                  go_quiet ((go_at_call 70; exact Calls.quiet_of_same (Hbt2.out _)))
                  go_wp2
                  go_roundw
                  case rel => exact ⟨i + 1, by have := Hj.out; have := Hlt3.out; omega, congrArg (Value.int .i64) (by have := Hi1.out; omega), _, (HTy.out.drawn _).set (by omega) j _, HT2.out⟩
                  case measure => have := Hi1.out; simp [intOf]; omega
                | false =>
                  have hx : mk (betterL (innerAt s.data.toList (q - 1) i1) (innerAt s.data.toList (q - 1) i)) = mk (innerAt s.data.toList q i) := by
                    rw [← hd, show d + 2 - 1 = d + 1 from rfl, show i1 = i + 1 from Hi1.out.symm, innerAt, if_neg (by rw [← hmi, getD_data s i n1, getD_data s m n2]; exact beq_eq_false_iff_ne.1 (nat_beq _ _ ▸ hs2))]
                  have HT2 := Lib.hid (toldi_next HT.out hq1 hx Hj.out)
                  have HTx := Lib.hid hTx
                  clear hx hdl hmi hd hq hTx HT hq1
                  go_wp2
                  go_quiet (fail)
                  go_wp2
                  go_roundw
                  case rel => exact ⟨i + 1, by have := Hj.out; have := Hlt3.out; omega, congrArg (Value.int .i64) (by have := Hi1.out; omega), _, (HTx.out.drawn _).set (by omega) j _, HT2.out⟩
                  case measure => have := Hi1.out; simp [intOf]; omega
            · have hc3 : ¬ ((i + q : Nat) : Int) ≤ s.size := by have := HN.out; omega
              go_wp2
              go_roundw
              case rel => exact ⟨q + 1, by omega, by omega, by go_num, T, hTab, told_next HT.out (by have := HN.out; omega)⟩
              case measure => simp [intOf]; omega
        · have hc : ¬ (q : Int) ≤ s.size := by have := HN.out; omega
          obtain rfl : q = k := by omega
          have h1 := hTab.head 0 (by omega)
          have h2 := (hTab.rows 0 (by omega)).cell (i := s.size) (by have := HN.out; omega)
          have h3 : (0 : Int) < (q : Int) := by omega
          have h4 : (s.size : Int) < (q : Int) := by have := HN.out; omega
          have hr := HT.out 0 s.size (Nat.zero_le _) (Nat.le_refl _) (by have := HN.out; omega)
          have Hr := Lib.hid hr
          clear hr
          have hB := hTab.below
          go_wp2
          go_ret
          exact ⟨ret_str (by rw [Hr.out, Nat.sub_zero]; unfold innerL; rw [data_length]), hB⟩
end Go.Proofs.Yteejjcipdpojnaa
