/- Texts of buttons, joined: Concat, Without, Lines, Slack, Sep, Slackb, Slackc, Pay, Ones, Block, Mem, Bfor, Pairs, Lists. -/
import Derived.Test.YtambhhjbafefgaaQa
import Derived.Test.YtambhhjbafefgaaShelfb
import Derived.Laws.OwnMore
import Derived.Deep.Onto
import Derived.Deep.OwnRows
import Derived.Deep.AppendLies
import Derived.RangeFuncNested
import Derived.RangeFuncBound
import Derived.RangeFuncCalls
import Derived.RangeFuncLeaves
import Derived.RangeFuncBox
import Derived.RangeFuncFrom
import Derived.Shelf.Abstract
import Derived.Shelf.RegionOpen
import Derived.OwnWalkIn
import Derived.TacticsInMore
import Derived.LoopNIn
import Derived.LoopIn
/- slices.Concat of two lists of rows; without. -/
namespace Go.Proofs.Ytambhhjbafefgaa
set_option linter.unusedVariables false
open Go.RowKit

theorem addr_add (b off k : Nat) : (⟨b, off, none⟩ : Addr).add k = ⟨b, off + k, none⟩ := by unfold Addr.add; split <;> simp_all

theorem grow_any (n : Nat) (w : World) (hn : n ≤ 2000) :
    Calls Try.prog 109 #[.slice none 0 0, .int .i64 n] w fun e w' => ∃ v, e = .returned v ∧ w'.ownsRow w.heap.size 24 1 v 0 [] ∧ Below w.heap.size w w' := by
  by_cases h : n = 0
  · subst h
    exact (Any8.slices_Grow_room Try.growT none 0 0 0 w (by omega) (by omega) (by omega) (by omega)).mono fun e w' ⟨he, hw⟩ => by
      subst hw
      exact ⟨_, he, World.ownsRow_nil _ _ _ _, Below.refl _ _⟩
  · obtain ⟨i0, hi, hz0, hz1, hz2⟩ := info_parts info_ints
    have hg := grownCap_ge w (0 + n) 0 24
    have hm := grownCap_le_maxLen w (0 + n) 0 24 (by unfold maxLen; omega)
    refine (Any8.slices_Grow_grow Try.growT i0 (.slice none 0 0) hi hz0 (by omega) none 0 0 n [] w (by omega) (by omega) (by rw [hz2]; omega) (by omega) (by simp) (fun _ => rfl) (fun a ha => by cases ha)).mono ?_
    intro e w' hew
    obtain ⟨he, hw⟩ := hew
    subst hw
    refine ⟨_, he, ?_, ((Below.refl _ _).drew).alloc (Nat.le_refl _) _⟩
    refine World.ownsRow_made w.drew _ _ (Nat.le_refl _) hm ?_
    simp only [Array.size_append, size_zeroCells]
    simp [Value.cells]
    show n + (grownCap w n 0 24 - n) = grownCap w n 0 24
    rw [Nat.zero_add] at hg
    omega

set_option maxRecDepth 100000 in
set_option maxHeartbeats 4000000 in
theorem concat_any (g A1 o1 A2 o2 n1 n2 c1 c2 : Nat) (vs1 vs2 : List Value) (w : World) (h0 : w.cell? ⟨g, 0, none⟩ = some (.slice (some ⟨A1, o1, none⟩) n1 c1)) (h1 : w.cell? ⟨g, 1, none⟩ = some (.slice (some ⟨A2, o2, none⟩) n2 c2))
    (k1 : vs1.length = n1) (k2 : vs2.length = n2) (hA1 : A1 < w.heap.size) (hA2 : A2 < w.heap.size) (hc1 : ∀ j u, vs1[j]? = some u → w.cell? ⟨A1, o1 + j, none⟩ = some u) (hc2 : ∀ j u, vs2[j]? = some u → w.cell? ⟨A2, o2 + j, none⟩ = some u)
    (one1 : ∀ u ∈ vs1, u.oneCell' = true) (one2 : ∀ u ∈ vs2, u.oneCell' = true) (hn1 : n1 ≤ 1000) (hn2 : n2 ≤ 1000) :
    Calls Try.prog 92 #[.slice (some ⟨g, 0, none⟩) 2 2] w fun e w' => ∃ v, e = .returned v ∧ w'.ownsRow w.heap.size 24 1 v (n1 + n2) (vs1 ++ vs2) ∧ Below w.heap.size w w' := by
  have hg := World.block_lt_of_cell? _ _ h0
  obtain ⟨i0, hi, hz0, hz1, hz2⟩ := info_parts info_ints
  have K1 := Lib.hid k1
  have K2 := Lib.hid k2
  have HC1 := Lib.hid hc1
  have HC2 := Lib.hid hc2
  have O1 := Lib.hid one1
  have O2 := Lib.hid one2
  have HG := Lib.hid (grow_any (n1 + n2))
  have H0 := Lib.hid h0
  have H1 := Lib.hid h1
  clear k1 k2 hc1 hc2 one1 one2
  go_enter Try.func92, Try.ntmps92
  go_wp2
  refine wp_loop_rounds 3 ?_
  rw [rounds_succ]
  go_wp2_with fail
  rw [rounds_succ]
  go_wp2_with fail
  rw [rounds_succ]
  go_wp2_with fail
  have e0 : (n1 : Int) + n2 = ((n1 + n2 : Nat) : Int) := by omega
  rw [e0]
  refine (HG.out _ (by omega)).mono ?_
  rintro e w1 ⟨v0, rfl, hown0, b1⟩
  have q0 : w1.cell? ⟨g, 0, none⟩ = some (.slice (some ⟨A1, o1, none⟩) n1 c1) := (b1.cell (p := ⟨g, 0, none⟩) hg).trans H0.out
  have q1 : w1.cell? ⟨g, 1, none⟩ = some (.slice (some ⟨A2, o2, none⟩) n2 c2) := (b1.cell (p := ⟨g, 1, none⟩) hg).trans H1.out
  clear h0 h1 e0
  go_wp2
  refine wp_loop_rounds 3 ?_
  rw [rounds_succ]
  go_wp2_with (at_builtin; refine wpList_append_own _ rfl _ _ 22 rfl w.heap.size 24 i0 (.slice none 0 0) 1 24 Try.underlying22 hi hz0 hz1 hz2 rfl (by decide) _ _ _ rfl hown0 ⟨A1, o1, none⟩ n1 c1 vs1 rfl (by rw [K1.out, Nat.mul_one]) (fun j u hu => by rw [addr_add]; exact (b1.cell (p := ⟨A1, o1 + j, none⟩) hA1).trans (HC1.out j u hu)) O1.out (by unfold maxLen; omega) (by omega) b1.size ?_; intro v1 w2 hown1 hgr1 _)
  simp only [Nat.zero_add, List.nil_append] at hown1
  have b2 : Below w.heap.size w w2 := b1.grown hgr1 b1.size (fun j e => (hown0.lt j e).1)
  have p1 : w2.cell? ⟨g, 1, none⟩ = some (.slice (some ⟨A2, o2, none⟩) n2 c2) := (b2.cell (p := ⟨g, 1, none⟩) hg).trans H1.out
  clear q0 q1 hgr1
  rw [rounds_succ]
  go_wp2_with (at_builtin; refine wpList_append_own _ rfl _ _ 22 rfl w.heap.size 24 i0 (.slice none 0 0) 1 24 Try.underlying22 hi hz0 hz1 hz2 rfl (by decide) _ _ _ rfl hown1 ⟨A2, o2, none⟩ n2 c2 vs2 rfl (by rw [K2.out, Nat.mul_one]) (fun j u hu => by rw [addr_add]; exact (b2.cell (p := ⟨A2, o2 + j, none⟩) hA2).trans (HC2.out j u hu)) O2.out (by unfold maxLen; omega) (by omega) b2.size ?_; intro v2 w3 hown2 hgr2 _)
  have b3 : Below w.heap.size w w3 := b2.grown hgr2 b2.size (fun j e => (hown1.lt j e).1)
  clear hgr2
  rw [rounds_succ]
  go_wp2
  go_ret
  exact ⟨v2, rfl, hown2, b3⟩
end Go.Proofs.Ytambhhjbafefgaa

/- without: the costs of all buttons but one. -/
namespace Go.Proofs.Ytambhhjbafefgaa
set_option linter.unusedVariables false
open Go.RowKit

theorem slice_from (g n cap k : Nat) (hk : k ≤ n) (hn : n ≤ cap) (hc : cap ≤ 9223372036854775807) : ∃ ad : Addr, ad.block = g ∧ ad.spot = none ∧ (k < n → ad = ⟨g, k, none⟩) ∧
    ∀ w : World, (Instr.sliceAt 22 (.slice (some ⟨g, 0, none⟩) n cap) (some (.int .i64 k)) none none).run Try.prog w = .ok (.slice (some ad) (n - k) (cap - k)) w := by
  by_cases h : k = cap
  · refine ⟨⟨g, 0, none⟩, rfl, rfl, fun hh => by omega, fun w => ?_⟩
    have h0 : (0 : Int) ≤ (k : Int) := by omega
    have h1 : (k : Int) ≤ (n : Int) := by omega
    simp [Instr.sliceAt, go_sem, h0, h1]
    omega
  · refine ⟨⟨g, k, none⟩, rfl, rfl, fun _ => rfl, fun w => ?_⟩
    have h0 : (0 : Int) ≤ (k : Int) := by omega
    have h1 : (k : Int) ≤ (n : Int) := by omega
    simp [Instr.sliceAt, go_sem, h0, h1]
    omega

/-- the headers of a table's rows -/
def heads (w : World) (g n : Nat) : List Value := (List.range n).map fun i => (w.cell? ⟨g, i, none⟩).getD undef
theorem heads_length (w : World) (g n : Nat) : (heads w g n).length = n := by simp [heads]
theorem heads_get (w : World) (g n i : Nat) (hi : i < n) : (heads w g n)[i]? = some ((w.cell? ⟨g, i, none⟩).getD undef) := by simp [heads, hi]
theorem heads_row {w : World} {g : Nat} {C : List (List Int)} (h : ∀ i row, C[i]? = some row → ∃ ra rc, w.cell? ⟨g, i, none⟩ = some (.slice ra row.length rc) ∧ row.length ≤ rc ∧ Row w ra row.length (intL row)) {i : Nat} {u : Value} (hu : (heads w g C.length)[i]? = some u) :
    w.cell? ⟨g, i, none⟩ = some u ∧ u.oneCell' = true := by
  obtain ⟨hi, _⟩ := List.getElem?_eq_some_iff.1 hu
  rw [heads_length] at hi
  rw [heads_get _ _ _ _ hi, Option.some.injEq] at hu
  obtain ⟨ra, rc, h1, _⟩ := h i (C[i]) (List.getElem?_eq_getElem hi)
  rw [h1, Option.getD_some] at hu
  subst hu
  exact ⟨h1, by simp [Value.oneCell']⟩

theorem tbl_erase {w w' : World} {g b : Nat} {C : List (List Int)} {v : Value} {base : Nat} (hg : g < w.heap.size) (h : ∀ i row, C[i]? = some row → ∃ ra rc, w.cell? ⟨g, i, none⟩ = some (.slice ra row.length rc) ∧ row.length ≤ rc ∧ Row w ra row.length (intL row)) (hb : b < C.length)
    (ho : w'.ownsRow base 24 1 v (b + (C.length - (b + 1))) ((heads w g C.length).take b ++ (heads w g C.length).drop (b + 1))) (hB : Below w.heap.size w w') :
    ∃ a cap, v = .slice a (C.eraseIdx b).length cap ∧ (C.eraseIdx b).length ≤ cap ∧ Tbl w' a (C.eraseIdx b) := by
  have hlen : (C.eraseIdx b).length = b + (C.length - (b + 1)) := by rw [List.length_eraseIdx]; rw [if_pos hb]; omega
  have hcap : ∀ a cap, v = .slice a (b + (C.length - (b + 1))) cap → b + (C.length - (b + 1)) ≤ cap := by
    intro a cap hv
    rcases ho.2 with ⟨h1, h2⟩ | ⟨g', cap', cur, h1, _, _, h4, _⟩
    · rw [h2]; exact Nat.zero_le _
    · rw [h1] at hv; cases hv; exact h4
  obtain ⟨a, cap, hv, hR⟩ := Row.of_own ho
  refine ⟨a, cap, by rw [hlen]; exact hv, by rw [hlen]; exact hcap a cap hv, ?_⟩
  intro hp
  obtain ⟨g2, ha, hg2, hc⟩ := hR.2 (by omega)
  refine ⟨g2, ha, hg2, fun i row hi => ?_⟩
  have key : ∃ j : Nat, C[j]? = some row ∧ ((heads w g C.length).take b ++ (heads w g C.length).drop (b + 1))[i]? = (heads w g C.length)[j]? := by
    rw [List.getElem?_eraseIdx] at hi
    by_cases hib : i < b
    · rw [if_pos hib] at hi
      refine ⟨i, hi, ?_⟩
      rw [List.getElem?_append_left (by rw [List.length_take, heads_length]; omega), List.getElem?_take_of_lt hib]
    · rw [if_neg hib] at hi
      refine ⟨i + 1, hi, ?_⟩
      rw [List.getElem?_append_right (by rw [List.length_take, heads_length]; omega), List.length_take, heads_length, List.getElem?_drop]
      congr 1; omega
  obtain ⟨j, hj, hij⟩ := key
  obtain ⟨ra, rc, h1, h2, h3⟩ := h j row hj
  have hjl : j < C.length := by obtain ⟨k, _⟩ := List.getElem?_eq_some_iff.1 hj; exact k
  rw [heads_get _ _ _ _ hjl, h1, Option.getD_some] at hij
  exact ⟨ra, rc, hc i _ hij, h2, h3.below hB⟩

set_option maxRecDepth 100000 in
set_option maxHeartbeats 4000000 in
theorem without_any (C : List (List Int)) (a : Option Addr) (cap b : Nat) (w : World) (h : Tbl w a C) (hcap : C.length ≤ cap) (hcm : cap ≤ maxLen) (hn : C.length ≤ 7) (hb : b < C.length) :
    Calls Try.prog 74 #[.slice a C.length cap, .int .i64 b] w fun e w' => ∃ a' cap', e = .returned (.slice a' (C.eraseIdx b).length cap') ∧ (C.eraseIdx b).length ≤ cap' ∧ Tbl w' a' (C.eraseIdx b) ∧ Below w.heap.size w w' := by
  obtain ⟨g, rfl, hg, hrows⟩ := h (by omega)
  unfold maxLen at hcm
  have E := fun v w1 ho hB => tbl_erase (w' := w1) (v := v) (base := w.heap.size) hg hrows hb ho hB
  obtain ⟨n, hnn⟩ : ∃ n, C.length = n := ⟨_, rfl⟩
  have hd1 : ∀ j u, ((heads w g n).take b)[j]? = some u → (heads w g n)[j]? = some u := fun j u hu => by
    obtain ⟨hj, _⟩ := List.getElem?_eq_some_iff.1 hu
    rw [List.length_take] at hj
    rwa [List.getElem?_take_of_lt (by omega)] at hu
  have hd2 : ∀ j u, ((heads w g n).drop (b + 1))[j]? = some u → (heads w g n)[b + 1 + j]? = some u := fun j u hu => by rwa [List.getElem?_drop] at hu
  have hrow := fun i u hu => heads_row (w := w) (g := g) (C := C) hrows (i := i) (u := u) hu
  have hl1 : ((heads w g n).take b).length = b := by rw [List.length_take, heads_length]; omega
  have hl2 : ((heads w g n).drop (b + 1)).length = n - (b + 1) := by rw [List.length_drop, heads_length]
  have hone1 : ∀ u ∈ (heads w g n).take b, u.oneCell' = true := fun u hu => by
    obtain ⟨j, hj⟩ := List.getElem?_of_mem hu; rw [hnn] at hrow; exact (hrow _ u (hd1 j u hj)).2
  have hone2 : ∀ u ∈ (heads w g n).drop (b + 1), u.oneCell' = true := fun u hu => by
    obtain ⟨j, hj⟩ := List.getElem?_of_mem hu; rw [hnn] at hrow; exact (hrow _ u (hd2 j u hj)).2
  rw [hnn] at hrow hcap hn hb ⊢
  have hE := E
  rw [hnn] at hE
  have h0 : (0 : Int) ≤ (b : Int) := by omega
  have h1 : (b : Int) ≤ (cap : Int) := by omega
  have h2 : (0 : Int) ≤ (b : Int) + 1 := by omega
  have h3 : (b : Int) + 1 ≤ (n : Int) := by omega
  have h4 : (n : Int) ≤ (cap : Int) := by omega
  have HE := Lib.hid hE
  have HRow := Lib.hid hrow
  have HD1 := Lib.hid hd1
  have HD2 := Lib.hid hd2
  have HL1 := Lib.hid hl1
  have HL2 := Lib.hid hl2
  have HO1 := Lib.hid hone1
  have HO2 := Lib.hid hone2
  clear E hE hrow hd1 hd2 hl1 hl2 hone1 hone2 hrows h hnn
  obtain ⟨ad, had1, had2, had3, hsl⟩ := slice_from g n cap (b + 1) (by omega) hcap (by omega)
  have e1 : ((b + 1 : Nat) : Int) = (b : Int) + 1 := by omega
  rw [e1] at hsl
  obtain ⟨A2, o2, sp⟩ := ad
  simp only at had1 had2
  subst had1 had2
  have e9 : IntKind.i64.wrap ((b : Int) + 1) = (b : Int) + 1 := IntWalk.i64_in _ (by omega)
  have hC := concat_any w.heap.size A2 0 A2 o2 b (n - (b + 1)) cap (cap - (b + 1)) ((heads w A2 n).take b) ((heads w A2 n).drop (b + 1)) ((w.alloc (.cells #[.slice (some ⟨A2, 0, none⟩) b cap, .slice (some ⟨A2, o2, none⟩) (n - (b + 1)) (cap - (b + 1))] 22)).drew)
    (by rw [World.cell?_drew, World.cell?_alloc_at _ _ _ _ rfl]; rfl) (by rw [World.cell?_drew, World.cell?_alloc_at _ _ _ _ rfl]; rfl) HL1.out HL2.out (by simp; omega) (by simp; omega)
    (fun j u hu => by rw [Nat.zero_add]; exact ((below_alloc w _).drew.cell (p := ⟨A2, j, none⟩) hg).trans (HRow.out _ u (HD1.out j u hu)).1)
    (fun j u hu => by
      have hj : j < n - (b + 1) := by obtain ⟨hj, _⟩ := List.getElem?_eq_some_iff.1 hu; rw [HL2.out] at hj; exact hj
      have := had3 (by omega)
      have ho : o2 = b + 1 := by simpa using this
      subst ho
      exact ((below_alloc w _).drew.cell (p := ⟨A2, b + 1 + j, none⟩) hg).trans (HRow.out _ u (HD2.out j u hu)).1)
    HO1.out HO2.out (by omega) (by omega)
  have HC := Lib.hid hC
  clear had3 e1 hC
  go_enter Try.func74, Try.ntmps74
  go_wp2
  go_region_held3 (fun w' => True) (trivial)
    (first | (go_at_call 92; refine HC.out.mono ?_; rintro e w1 ⟨v, rfl, ho, hB⟩))
  all_goals
    have hB1 : Below w.heap.size w w1 := b_next (below_alloc w (.cells #[.slice (some ⟨A2, 0, none⟩) b cap, .slice (some ⟨A2, o2, none⟩) (n - (b + 1)) (cap - (b + 1))] 22)) (undrew hB)
    obtain ⟨a', cap', rfl, hc1, hT⟩ := HE.out v w1 (own_base ho (by simp)) hB1
    have HT := Lib.hid hT
    have HB1 := Lib.hid hB1
    have HC1 := Lib.hid hc1
    clear ho hB hT hB1 hc1
    go_wp2
    go_ret
    exact ⟨a', cap', rfl, HC1.out, HT.out, HB1.out⟩
end Go.Proofs.Ytambhhjbafefgaa

/- A table that the call itself builds, line by line. -/
namespace Go.Proofs.Ytambhhjbafefgaa
set_option linter.unusedVariables false
open Go.RowKit

/-- v is a list of the call's own whose elements are the lines Ls -/
def Lines (w : World) (base : Nat) (v : Value) (Ls : List (List Int)) : Prop :=
  ∃ hs, w.ownsRow base 24 1 v Ls.length hs ∧ (∀ (i : Nat) line, Ls[i]? = some line → ∃ ra rc, hs[i]? = some (.slice ra line.length rc) ∧ line.length ≤ rc ∧ Row w ra line.length (intL line)) ∧ (Ls = [] → v.ownBlock = none)
theorem Lines.nil (w : World) (base : Nat) : Lines w base (.slice none 0 0) [] := ⟨[], World.ownsRow_nil _ _ _ _, (fun i line h => by simp at h), fun _ => rfl⟩
theorem Row.kept {w w' : World} {ra : Option Addr} {line : List Int} {row : Option Nat} (h : Row w ra line.length (intL line)) (hg : w.grownBy w' row) (hne : ∀ g, 0 < line.length → ra = some ⟨g, 0, none⟩ → some g ≠ row) : Row w' ra line.length (intL line) :=
  ⟨h.1, fun hn => by
    obtain ⟨g, h1, h3, h4⟩ := h.2 hn
    exact ⟨g, h1, Nat.lt_of_lt_of_le h3 hg.size, fun j u hu => hg.cell (h4 j u hu) (hne g hn h1)⟩⟩
theorem Row.first {w : World} {g : Nat} {line : List Int} (h : Row w (some ⟨g, 0, none⟩) line.length (intL line)) (hn : 0 < line.length) : ∃ x, w.cell? ⟨g, 0, none⟩ = some (.int .i64 x) := by
  obtain ⟨g', h1, _, h4⟩ := h.2 hn
  obtain rfl : g = g' := by simpa using h1
  exact ⟨_, h4 0 _ (intL_get (List.getElem?_eq_getElem hn))⟩
theorem Lines.apart {w : World} {base : Nat} {v : Value} {Ls : List (List Int)} {hs : List Value} (ho : w.ownsRow base 24 1 v Ls.length hs) (hl : ∀ (i : Nat) line, Ls[i]? = some line → ∃ ra rc, hs[i]? = some (.slice ra line.length rc) ∧ line.length ≤ rc ∧ Row w ra line.length (intL line)) (h0 : Ls = [] → v.ownBlock = none)
    {line : List Int} {g : Nat} (hR : Row w (some ⟨g, 0, none⟩) line.length (intL line)) (hn : 0 < line.length) : v.ownBlock ≠ some g := by
  intro hv
  by_cases he : Ls = []
  · rw [h0 he] at hv; cases hv
  · have hp : 0 < Ls.length := List.length_pos_iff.2 he
    obtain ⟨ra, rc, h1, _⟩ := hl 0 _ (List.getElem?_eq_getElem hp)
    have hc := ho.cells hv 0 _ h1
    rw [addr_add, Nat.zero_add] at hc
    obtain ⟨x, hx⟩ := hR.first hn
    rw [hx] at hc
    cases hc
theorem Lines.kept {w w' : World} {base : Nat} {v : Value} {Ls : List (List Int)} {row : Option Nat} (h : Lines w base v Ls) (hg : w.grownBy w' row) (h1 : v.ownBlock = none ∨ v.ownBlock ≠ row) (h2 : ∀ g x, w.cell? ⟨g, 0, none⟩ = some (.int .i64 x) → some g ≠ row) : Lines w' base v Ls := by
  obtain ⟨hs, ho, hl, h0⟩ := h
  refine ⟨hs, ho.kept hg h1, fun i line hi => ?_, h0⟩
  obtain ⟨ra, rc, a1, a2, a3⟩ := hl i line hi
  refine ⟨ra, rc, a1, a2, a3.kept hg fun g hn hra => ?_⟩
  subst hra
  obtain ⟨x, hx⟩ := a3.first hn
  exact h2 g x hx
theorem Lines.below {w w' : World} {base : Nat} {v : Value} {Ls : List (List Int)} (h : Lines w base v Ls) (hb : Below w.heap.size w w') : Lines w' base v Ls :=
  h.kept (below_grown hb none) (by cases v.ownBlock <;> simp) (fun g x _ => by simp)
theorem Lines.map {w w' : World} {base M n : Nat} {v : Value} {Ls : List (List Int)} {k : TypeId} {R : Value → Option (DataW Unit × List MemPlace)} {D : DataW Unit} (h : Lines w base v Ls) (hm : w.ownsMap Try.prog k R M n D) (hg : w.grownBy w' (some M)) : Lines w' base v Ls :=
  h.kept hg (by
    cases hv : v.ownBlock with
    | none => exact .inl rfl
    | some j =>
      right; intro e; rw [Option.some.injEq] at e; subst e
      obtain ⟨hs, ho, _⟩ := h
      obtain ⟨es, clock, hb1, _⟩ := hm
      rcases ho.2 with ⟨rfl, _⟩ | ⟨g, cap, cur, rfl, _, hg', _⟩
      · simp [Value.ownBlock] at hv
      · simp only [Value.ownBlock, Option.some.injEq] at hv
        subst hv
        rw [hb1] at hg'
        cases hg') (fun g x hx => cell_not_map hx hm)
theorem Lines.push {w w1 : World} {base rc : Nat} {v v' : Value} {Ls : List (List Int)} {hs : List Value} {line : List Int} {ra : Option Addr} {o : Obj} (ho : w.ownsRow base 24 1 v Ls.length hs)
    (hl : ∀ (i : Nat) line, Ls[i]? = some line → ∃ ra rc, hs[i]? = some (.slice ra line.length rc) ∧ line.length ≤ rc ∧ Row w ra line.length (intL line)) (h0 : Ls = [] → v.ownBlock = none)
    (hR : Row w ra line.length (intL line)) (hrc : line.length ≤ rc) (hg : (w.alloc o).grownBy w1 v.ownBlock) (ho' : w1.ownsRow base 24 1 v' (Ls.length + 1) (hs ++ [.slice ra line.length rc])) : Lines w1 base v' (Ls ++ [line]) := by
  have hk : ∀ {ra : Option Addr} {line : List Int}, Row w ra line.length (intL line) → Row w1 ra line.length (intL line) := fun {ra line} h => by
    refine (h.below (below_alloc w o)).kept hg fun g hn hra => ?_
    subst hra
    exact (Lines.apart ho hl h0 h hn).symm
  refine ⟨hs ++ [.slice ra line.length rc], by rw [List.length_append]; exact ho', fun i l hi => ?_, fun he => by simp at he⟩
  have hlen : hs.length = Ls.length := by have := ho.1; omega
  by_cases hil : i < Ls.length
  · rw [List.getElem?_append_left hil] at hi
    obtain ⟨r1, r2, a1, a2, a3⟩ := hl i l hi
    exact ⟨r1, r2, by rw [List.getElem?_append_left (by omega)]; exact a1, a2, hk a3⟩
  · rw [List.getElem?_append_right (by omega)] at hi
    have hi0 : i - Ls.length = 0 := by
      obtain ⟨h1, _⟩ := List.getElem?_eq_some_iff.1 hi
      simp at h1; omega
    rw [hi0] at hi
    simp at hi
    subst hi
    refine ⟨ra, rc, ?_, hrc, hk hR⟩
    rw [List.getElem?_append_right (by omega), show i - hs.length = 0 from by omega]; rfl
theorem Lines.tbl {w : World} {base : Nat} {v : Value} {C : List (List Int)} (h : Lines w base v C) : ∃ a cap, v = .slice a C.length cap ∧ C.length ≤ cap ∧ cap ≤ maxLen ∧ Tbl w a C := by
  obtain ⟨hs, ho, hl, h0⟩ := h
  have hc := fun g (hg : v.ownBlock = some g) => ho.cells hg
  rcases ho.2 with ⟨rfl, hn⟩ | ⟨g, cap, cur, rfl, _, hg, h4, h5, _⟩
  · exact ⟨none, 0, by rw [hn], by rw [hn]; exact Nat.le_refl _, Nat.zero_le _, fun hp => by omega⟩
  · refine ⟨_, cap, rfl, h4, h5, fun _ => ⟨g, rfl, (Array.getElem?_eq_some_iff.1 hg).1, fun i row hi => ?_⟩⟩
    obtain ⟨ra, rc, a1, a2, a3⟩ := hl i row hi
    have := hc g rfl i _ a1
    rw [addr_add, Nat.zero_add] at this
    exact ⟨ra, rc, this, a2, a3⟩
end Go.Proofs.Ytambhhjbafefgaa

/- slackOf. -/
namespace Go.Proofs.Ytambhhjbafefgaa
set_option linter.unusedVariables false
open Go.RowKit Go.Maps

def slackLine (C : List (List Int)) (i : Nat) : List Int := (List.range C.length).map fun j => (C.getD i []).getD j 0 + (firstW (C.eraseIdx i) (C.length - 1) (1 <<< j)).t - (bestW C).t
def slackL (C : List (List Int)) : List (List Int) := (List.range C.length).map (slackLine C)
theorem slackLine_length (C : List (List Int)) (i : Nat) : (slackLine C i).length = C.length := by simp [slackLine]

theorem Rect.erase {C : List (List Int)} {m : Nat} (h : Rect C m) (i : Nat) : Rect (C.eraseIdx i) m :=
  ⟨Nat.le_trans (List.length_eraseIdx_le C i) h.n7, h.m7, fun row hr => h.len row (List.mem_of_mem_eraseIdx hr), fun row hr => h.cost row (List.mem_of_mem_eraseIdx hr)⟩
theorem own_not_map {w : World} {base n size M N : Nat} {e : TypeId} {v : Value} {xs : List Value} {k : TypeId} {R : Value → Option (DataW Unit × List MemPlace)} {D : DataW Unit} (h : w.ownsRow base e size v n xs) (hm : w.ownsMap Try.prog k R M N D) : v.ownBlock ≠ some M := by
  intro hv
  obtain ⟨es, clock, hb1, _⟩ := hm
  rcases h.2 with ⟨rfl, _⟩ | ⟨g, cap, cur, rfl, _, hg', _⟩
  · simp [Value.ownBlock] at hv
  · simp only [Value.ownBlock, Option.some.injEq] at hv
    subst hv
    rw [hb1] at hg'
    cases hg'
theorem own_slice {w : World} {base n : Nat} {e : TypeId} {v : Value} {xs : List Value} (h : w.ownsRow base e 1 v n xs) : ∃ a cap, v = .slice a n cap ∧ n ≤ cap ∧ Row w a n xs := by
  obtain ⟨a, cap, hv, hr⟩ := Row.of_own h
  rcases h.2 with ⟨h1, h2⟩ | ⟨g, cap', cur, h1, _, _, hc, _⟩
  · exact ⟨a, cap, hv, by omega, hr⟩
  · rw [h1] at hv
    cases hv
    exact ⟨_, _, h1, hc, hr⟩

structure SlackSt (C' : List (List Int)) (a' : Option Addr) (M' : Nat) (w3 : World) (line : List Int) (j : Nat) (v : Value) (L' : List (Nat × Nat)) (wr : World) : Prop where
  own : wr.ownsRow w3.heap.size 3 1 v j (intL (line.take j))
  found : Found C' a' M' wr L'
  grown : w3.grownBy wr (some M')
  lt : M' < w3.heap.size
theorem SlackSt.below {C' : List (List Int)} {a' : Option Addr} {M' j : Nat} {w3 wr w1 : World} {line : List Int} {v : Value} {L' : List (Nat × Nat)} (h : SlackSt C' a' M' w3 line j v L' wr) (hb : Below wr.heap.size wr w1) : SlackSt C' a' M' w3 line j v L' w1 :=
  ⟨h.own.kept (below_grown hb none) (by cases v.ownBlock <;> simp), h.found.below hb, grown_below h.grown (hb.mono h.grown.size), h.lt⟩
theorem SlackSt.searched {C' : List (List Int)} {a' : Option Addr} {M' j : Nat} {w3 wr w1 : World} {line : List Int} {v : Value} {L' L'' : List (Nat × Nat)} (h : SlackSt C' a' M' w3 line j v L' wr) (hF : Found C' a' M' w1 L'') (hg : wr.grownBy w1 (some M')) : SlackSt C' a' M' w3 line j v L'' w1 :=
  ⟨h.own.kept hg (by
    have := own_not_map h.own h.found.own
    cases hv : v.ownBlock with
    | none => exact .inl rfl
    | some q => right; rw [hv] at this; exact this), hF, grown_trans h.grown hg, h.lt⟩
theorem SlackSt.nextA {C' : List (List Int)} {a' : Option Addr} {M' j : Nat} {w3 wr : World} {line : List Int} {v : Value} {L' : List (Nat × Nat)} (h : SlackSt C' a' M' w3 line j v L' wr) : SlackSt C' a' M' w3 line j v L' wr.drew := h.below ((Below.refl _ _).drew)
theorem SlackSt.nextB {C' : List (List Int)} {a' : Option Addr} {M' j : Nat} {w3 wr : World} {line : List Int} {v : Value} {L' : List (Nat × Nat)} (h : SlackSt C' a' M' w3 line j v L' wr) (o : Obj) : SlackSt C' a' M' w3 line j v L' (wr.alloc o).drew := h.below ((below_alloc _ _).drew)
/-- a block that is newer than the line's -/
theorem SlackSt.stored {C' : List (List Int)} {a' : Option Addr} {M' j P : Nat} {w3 wr : World} {line : List Int} {v : Value} {L' : List (Nat × Nat)} (h : SlackSt C' a' M' w3 line j v L' wr) (cs : Array Value) (hP : w3.heap.size ≤ P) (hv : ∀ q, v.ownBlock = some q → q < P) {L0 : List (Nat × Nat)} (hF : Found C' a' M' w3 L0) : SlackSt C' a' M' w3 line j v L' (wr.setRow P cs) := by
  have hg : wr.grownBy (wr.setRow P cs) (some P) := ⟨rfl, rfl, rfl, by rw [setRow_size]; exact Nat.le_refl _, fun i _ hi => setRow_other _ _ _ _ (fun e => hi (by rw [e]))⟩
  have hB : Below w3.heap.size wr (wr.setRow P cs) := below_setRow (Below.refl _ _) hP _
  have hG := grown_below h.grown hB
  exact ⟨h.own.kept hg (by
    cases hq : v.ownBlock with
    | none => exact .inl rfl
    | some q => right; intro e; rw [Option.some.injEq] at e; have := hv q hq; omega), h.found.besides hB h.lt (hF.tbl.grown hF.own hG), hG, h.lt⟩
theorem SlackSt.push {C' : List (List Int)} {a' : Option Addr} {M' j : Nat} {w3 wx w5 : World} {line : List Int} {v v' : Value} {L' L0 : List (Nat × Nat)} {x : Int} (h : SlackSt C' a' M' w3 line j v L' wx) (hF : Found C' a' M' w3 L0) (hx : line[j]? = some x)
    (ho : w5.ownsRow w3.heap.size 3 1 v' (j + 1) (intL (line.take j) ++ [.int .i64 x])) (hg : wx.grownBy w5 v.ownBlock) : SlackSt C' a' M' w3 line (j + 1) v' L' w5 := by
  have hB : Below w3.heap.size wx w5 := (Below.refl _ _).grown hg h.grown.size (fun q e => (h.own.lt q e).1)
  have hG := grown_below h.grown hB
  refine ⟨?_, h.found.besides hB h.lt (hF.tbl.grown hF.own hG), hG, h.lt⟩
  rw [List.take_add_one, hx]
  show w5.ownsRow w3.heap.size 3 1 v' (j + 1) (intL (line.take j ++ [x]))
  unfold intL at ho ⊢
  rw [List.map_append]; exact ho

theorem shl_fin : ∀ j : Fin 7, wrap64 (2 ^ j.1) = ((1 <<< j.1 : Nat) : Int) := by decide +kernel
theorem shl_lt : ∀ j : Fin 7, 1 <<< j.1 < 128 := by decide +kernel
theorem fits_one (n j : Nat) (hn : 0 < n) : Fits (1 <<< j) (n - 1) n := by
  have h := (show Fits 0 ((n - 1) + 1) n from fits_zero _ _ (by omega)).next j
  rwa [Nat.zero_or] at h
end Go.Proofs.Ytambhhjbafefgaa

/- A table that the call itself built, its rows own and apart. -/
namespace Go.Proofs.Ytambhhjbafefgaa
set_option linter.unusedVariables false
open Go.RowKit

theorem own_apart {w : World} {base base' n m : Nat} {v u : Value} {xs ys : List Value} (h : w.ownsRow base 24 1 v n xs) (k : w.ownsRow base' 3 1 u m ys) {b : Nat} (hv : v.ownBlock = some b) (hu : u.ownBlock = some b) : False := by
  rcases h.2 with ⟨rfl, _⟩ | ⟨g, cap, cur, rfl, _, hg, _⟩
  · simp [Value.ownBlock] at hv
  · rcases k.2 with ⟨rfl, _⟩ | ⟨g', cap', cur', rfl, _, hg', _⟩
    · simp [Value.ownBlock] at hu
    · simp only [Value.ownBlock, Option.some.injEq] at hv hu
      subst hv
      subst hu
      rw [hg] at hg'
      simp at hg'
theorem own_of_rowIs {w : World} {b n base : Nat} {t : TypeId} {f : Nat → Value} (h : w.rowIs b t n f) (hb : base ≤ b) (hn : n ≤ maxLen) : w.ownsRow base t 1 (.slice (some ⟨b, 0, none⟩) n n) n ((List.range n).map f) := by
  obtain ⟨c, h1, h2, h3⟩ := h
  refine ⟨by simp, .inr ⟨b, n, c, rfl, hb, h1, Nat.le_refl _, hn, by omega, ?_⟩⟩
  refine List.ext_getElem? fun i => ?_
  rw [Nat.mul_one]
  by_cases hi : i < n
  · rw [List.getElem?_take_of_lt hi, List.getElem?_map, List.getElem?_range hi]
    simpa using h3 i hi
  · rw [List.getElem?_eq_none (by simp; omega), List.getElem?_eq_none (by simp; omega)]

/-- v is a list of the call's own whose elements are the lines Ls, each in a block of its own -/
def Sep (w : World) (base : Nat) (v : Value) (Ls : List (List Int)) : Prop :=
  ∃ hs, w.ownsRow base 24 1 v Ls.length hs ∧ (∀ (i : Nat) line, Ls[i]? = some line → ∃ u, hs[i]? = some u ∧ w.ownsRow base 3 1 u line.length (intL line)) ∧
    (∀ (i j : Nat) u u' b, hs[i]? = some u → hs[j]? = some u' → u.ownBlock = some b → u'.ownBlock = some b → i = j) ∧ (Ls = [] → v.ownBlock = none)
theorem Sep.nil (w : World) (base : Nat) : Sep w base (.slice none 0 0) [] := ⟨[], World.ownsRow_nil _ _ _ _, (fun i line h => by simp at h), (fun i j u u' b h => by simp at h), fun _ => rfl⟩
theorem Sep.lines {w : World} {base : Nat} {v : Value} {Ls : List (List Int)} (h : Sep w base v Ls) : Lines w base v Ls := by
  obtain ⟨hs, ho, hl, _, h0⟩ := h
  refine ⟨hs, ho, fun i line hi => ?_, h0⟩
  obtain ⟨u, h1, h2⟩ := hl i line hi
  obtain ⟨a, cap, rfl, hc, hR⟩ := own_slice h2
  exact ⟨a, cap, h1, hc, hR⟩
theorem Sep.below {w w' : World} {base : Nat} {v : Value} {Ls : List (List Int)} (h : Sep w base v Ls) (hb : Below w.heap.size w w') : Sep w' base v Ls := by
  obtain ⟨hs, ho, hl, hd, h0⟩ := h
  have hg := below_grown hb none
  refine ⟨hs, ho.kept hg (by cases v.ownBlock <;> simp), fun i line hi => ?_, hd, h0⟩
  obtain ⟨u, h1, h2⟩ := hl i line hi
  exact ⟨u, h1, h2.kept hg (by cases u.ownBlock <;> simp)⟩
theorem Sep.push {w wr w1 : World} {base : Nat} {v v' r : Value} {Ls : List (List Int)} {line : List Int} {o : Obj} {hs : List Value} (ho : w.ownsRow base 24 1 v Ls.length hs)
    (hl : ∀ (i : Nat) line, Ls[i]? = some line → ∃ u, hs[i]? = some u ∧ w.ownsRow base 3 1 u line.length (intL line)) (hd : ∀ (i j : Nat) u u' b, hs[i]? = some u → hs[j]? = some u' → u.ownBlock = some b → u'.ownBlock = some b → i = j)
    (hold : ∀ (i : Nat) u b, hs[i]? = some u → u.ownBlock = some b → b < wr.heap.size) (hr : w.ownsRow wr.heap.size 3 1 r line.length (intL line)) (hbase : base ≤ wr.heap.size)
    (hg : (w.alloc o).grownBy w1 v.ownBlock) (ho' : w1.ownsRow base 24 1 v' (Ls.length + 1) (hs ++ [r])) : Sep w1 base v' (Ls ++ [line]) := by
  have hk : ∀ {base' m : Nat} {u : Value} {ys : List Value}, w.ownsRow base' 3 1 u m ys → w1.ownsRow base' 3 1 u m ys := fun {base' m u ys} k => by
    refine (k.alloc o).kept hg ?_
    cases hu : u.ownBlock with
    | none => exact .inl rfl
    | some b =>
      right
      intro e
      exact own_apart ho k e.symm hu
  have hlen : hs.length = Ls.length := by have := ho.1; omega
  have hat : ∀ (i : Nat) u, (hs ++ [r])[i]? = some u → (i < Ls.length ∧ hs[i]? = some u) ∨ (i = Ls.length ∧ u = r) := fun i u hi => by
    by_cases hil : i < Ls.length
    · rw [List.getElem?_append_left (by omega)] at hi
      exact .inl ⟨hil, hi⟩
    · have h1 := (List.getElem?_eq_some_iff.1 hi).1
      rw [List.length_append, hlen] at h1
      simp only [List.length_singleton] at h1
      obtain rfl : i = Ls.length := by omega
      rw [List.getElem?_append_right (by omega), hlen, Nat.sub_self] at hi
      simp at hi
      exact .inr ⟨rfl, hi.symm⟩
  refine ⟨hs ++ [r], by rw [List.length_append]; exact ho', fun i l hi => ?_, fun i j u u' b hi hj hu hu' => ?_, fun he => by simp at he⟩
  · by_cases hil : i < Ls.length
    · rw [List.getElem?_append_left hil] at hi
      obtain ⟨u, h1, h2⟩ := hl i l hi
      exact ⟨u, by rw [List.getElem?_append_left (by omega)]; exact h1, hk h2⟩
    · have h1 := (List.getElem?_eq_some_iff.1 hi).1
      rw [List.length_append] at h1
      simp only [List.length_singleton] at h1
      obtain rfl : i = Ls.length := by omega
      rw [List.getElem?_append_right (Nat.le_refl _), Nat.sub_self] at hi
      simp at hi
      subst hi
      exact ⟨r, by rw [List.getElem?_append_right (by omega), hlen, Nat.sub_self]; rfl, (hk hr).mono hbase⟩
  · rcases hat i u hi with ⟨i1, i2⟩ | ⟨i1, rfl⟩ <;> rcases hat j u' hj with ⟨j1, j2⟩ | ⟨j1, rfl⟩
    · exact hd i j u u' b i2 j2 hu hu'
    · have := hold i u b i2 hu
      have := (hr.lt b hu').1
      omega
    · have := hold j u' b j2 hu'
      have := (hr.lt b hu).1
      omega
    · omega
theorem Sep.step {wr w1 : World} {base : Nat} {v : Value} {Ls : List (List Int)} (h : Sep wr base v Ls) (hb : Below wr.heap.size wr w1) :
    ∃ hs, w1.ownsRow base 24 1 v Ls.length hs ∧ (∀ (i : Nat) line, Ls[i]? = some line → ∃ u, hs[i]? = some u ∧ w1.ownsRow base 3 1 u line.length (intL line)) ∧
      (∀ (i j : Nat) u u' b, hs[i]? = some u → hs[j]? = some u' → u.ownBlock = some b → u'.ownBlock = some b → i = j) ∧ ∀ (i : Nat) u b, hs[i]? = some u → u.ownBlock = some b → b < wr.heap.size := by
  obtain ⟨hs, ho, hl, hd, _⟩ := h
  have hg := below_grown hb none
  have hlen : hs.length = Ls.length := by have := ho.1; omega
  refine ⟨hs, ho.kept hg (by cases v.ownBlock <;> simp), fun i line hi => ?_, hd, fun i u b hi hu => ?_⟩
  · obtain ⟨u, h1, h2⟩ := hl i line hi
    exact ⟨u, h1, h2.kept hg (by cases u.ownBlock <;> simp)⟩
  · have h1 := (List.getElem?_eq_some_iff.1 hi).1
    obtain ⟨u', h2, h3⟩ := hl i _ (List.getElem?_eq_getElem (by omega))
    obtain rfl : u = u' := Option.some.inj (hi.symm.trans h2)
    exact (h3.lt b hu).2

theorem Sep.stepG {wr w1 : World} {base : Nat} {v : Value} {Ls : List (List Int)} {row : Option Nat} (h : Sep wr base v Ls) (hg : wr.grownBy w1 row) (h1 : v.ownBlock = none ∨ v.ownBlock ≠ row) (h2 : ∀ base' n u xs, wr.ownsRow base' 3 1 u n xs → u.ownBlock = none ∨ u.ownBlock ≠ row) :
    ∃ hs, w1.ownsRow base 24 1 v Ls.length hs ∧ (∀ (i : Nat) line, Ls[i]? = some line → ∃ u, hs[i]? = some u ∧ w1.ownsRow base 3 1 u line.length (intL line)) ∧
      (∀ (i j : Nat) u u' b, hs[i]? = some u → hs[j]? = some u' → u.ownBlock = some b → u'.ownBlock = some b → i = j) ∧ ∀ (i : Nat) u b, hs[i]? = some u → u.ownBlock = some b → b < wr.heap.size := by
  obtain ⟨hs, ho, hl, hd, _⟩ := h
  have hlen : hs.length = Ls.length := by have := ho.1; omega
  refine ⟨hs, ho.kept hg h1, fun i line hi => ?_, hd, fun i u b hi hu => ?_⟩
  · obtain ⟨u, h3, h4⟩ := hl i line hi
    exact ⟨u, h3, h4.kept hg (h2 _ _ _ _ h4)⟩
  · have h3 := (List.getElem?_eq_some_iff.1 hi).1
    obtain ⟨u', h4, h5⟩ := hl i _ (List.getElem?_eq_getElem (by omega))
    obtain rfl : u = u' := Option.some.inj (hi.symm.trans h4)
    exact (h5.lt b hu).2
theorem Sep.stepM {wr w1 : World} {base M n : Nat} {v : Value} {Ls : List (List Int)} {k : TypeId} {R : Value → Option (DataW Unit × List MemPlace)} {D : DataW Unit} (h : Sep wr base v Ls) (hm : wr.ownsMap Try.prog k R M n D) (hg : wr.grownBy w1 (some M)) :
    ∃ hs, w1.ownsRow base 24 1 v Ls.length hs ∧ (∀ (i : Nat) line, Ls[i]? = some line → ∃ u, hs[i]? = some u ∧ w1.ownsRow base 3 1 u line.length (intL line)) ∧
      (∀ (i j : Nat) u u' b, hs[i]? = some u → hs[j]? = some u' → u.ownBlock = some b → u'.ownBlock = some b → i = j) ∧ ∀ (i : Nat) u b, hs[i]? = some u → u.ownBlock = some b → b < wr.heap.size :=
  h.stepG hg (.inr (by obtain ⟨hs, ho, _⟩ := h; exact own_not_map ho hm)) (fun _ _ _ _ k => .inr (own_not_map k hm))

/-- one row of such a table: what can be read, and what a store does -/
theorem Sep.row {w : World} {base : Nat} {v : Value} {Ls : List (List Int)} (h : Sep w base v Ls) {i : Nat} {line : List Int} (hi : Ls[i]? = some line) (hp : 0 < line.length) :
    ∃ g cap rb rc, v = .slice (some ⟨g, 0, none⟩) Ls.length cap ∧ w.cell? ⟨g, i, none⟩ = some (.slice (some ⟨rb, 0, none⟩) line.length rc) ∧ base ≤ rb ∧ (∀ j, j < line.length → w.cell? ⟨rb, j, none⟩ = some (.int .i64 (line.getD j 0))) ∧
      (∀ j, w.frozen? ⟨rb, j, none⟩ = false) ∧ (∀ j z, Sep (w.setCell ⟨rb, j, none⟩ (.int .i64 z)) base v (Ls.set i (line.set j z))) ∧ ∀ j z, w.grownBy (w.setCell ⟨rb, j, none⟩ (.int .i64 z)) (some rb) := by
  obtain ⟨hs, ho, hl, hd, h0⟩ := h
  have hil := (List.getElem?_eq_some_iff.1 hi).1
  obtain ⟨u, h1, h2⟩ := hl i line hi
  obtain ⟨a, cap, rfl, hlen, hcell⟩ := ownsRow_open ho
  obtain ⟨g, rfl, hbg, hgs, hc⟩ := hcell (by omega)
  obtain ⟨a2, rc, rfl, hlen2, hcell2⟩ := ownsRow_open h2
  obtain ⟨rb, rfl, hbr, hrs, hc2⟩ := hcell2 hp
  have hst := fun j z => h2.stored j (.int .i64 z)
  refine ⟨g, cap, rb, rc, rfl, hc i _ h1, hbr, fun j hj => ?_, fun j => h2.frozenAt j, fun j z => ?_, fun j z => (hst j z).2⟩
  · exact hc2 j _ (intL_get (by rw [List.getD_eq_getElem?_getD, List.getElem?_eq_getElem hj]; rfl))
  · obtain ⟨s1, s2⟩ := hst j z
    refine ⟨hs, ?_, fun i' l hi' => ?_, hd, fun he => by rw [List.set_eq_nil_iff] at he; exact h0 he⟩
    · rw [List.length_set]
      refine ho.kept s2 ?_
      right
      intro e
      exact own_apart ho h2 e rfl
    · rw [List.getElem?_set] at hi'
      by_cases e : i = i'
      · subst e
        rw [if_pos rfl, if_pos hil, Option.some.injEq] at hi'
        subst hi'
        refine ⟨_, h1, ?_⟩
        rw [List.length_set]
        have e2 : intL (line.set j z) = (intL line).set j (.int .i64 z) := by unfold intL; rw [List.map_set]
        rw [e2]
        exact s1
      · rw [if_neg e] at hi'
        obtain ⟨u', h3, h4⟩ := hl i' l hi'
        refine ⟨u', h3, h4.kept s2 ?_⟩
        cases hu : u'.ownBlock with
        | none => exact .inl rfl
        | some b =>
          right
          intro e3
          rw [Option.some.injEq] at e3
          subst e3
          exact e (hd i i' _ u' b h1 h3 rfl hu)

/-- n rows of n numbers -/
def matL (n : Nat) (f : Nat → Nat → Int) : List (List Int) := (List.range n).map fun p => (List.range n).map (f p)
theorem matL_length (n : Nat) (f : Nat → Nat → Int) : (matL n f).length = n := by simp [matL]
theorem matL_get {n : Nat} (f : Nat → Nat → Int) {p : Nat} (hp : p < n) : (matL n f)[p]? = some ((List.range n).map (f p)) := by unfold matL; rw [List.getElem?_map, List.getElem?_range hp]; rfl
theorem rowL_get {n : Nat} (f : Nat → Int) {q : Nat} (hq : q < n) : ((List.range n).map f).getD q 0 = f q := by rw [List.getD_eq_getElem?_getD, List.getElem?_map, List.getElem?_range hq]; rfl
theorem rowL_set (n : Nat) (f : Nat → Int) (j : Nat) (z : Int) : ((List.range n).map f).set j z = (List.range n).map fun q => if q = j then z else f q := by
  refine List.ext_getElem? fun i => ?_
  rw [List.getElem?_set, List.getElem?_map, List.getElem?_map, List.length_map, List.length_range]
  by_cases hi : i < n
  · rw [List.getElem?_range hi]
    by_cases e : j = i
    · subst e
      rw [if_pos rfl, if_pos hi]; simp
    · rw [if_neg e]
      simp only [Option.map_some]
      rw [if_neg (fun h => e h.symm)]
  · rw [List.getElem?_eq_none (by simp; omega)]
    by_cases e : j = i
    · subst e
      rw [if_pos rfl, if_neg hi]; rfl
    · rw [if_neg e]; rfl
theorem matL_set (n : Nat) (f : Nat → Nat → Int) (i j : Nat) (z : Int) : (matL n f).set i (((List.range n).map (f i)).set j z) = matL n fun p q => if p = i ∧ q = j then z else f p q := by
  refine List.ext_getElem? fun p => ?_
  rw [List.getElem?_set, matL_length, rowL_set]
  by_cases hp : p < n
  · rw [matL_get _ hp, matL_get _ hp]
    by_cases e : i = p
    · subst e
      rw [if_pos rfl, if_pos hp]
      congr 1
      refine List.map_congr_left fun q _ => ?_
      by_cases e2 : q = j
      · rw [if_pos e2, if_pos ⟨rfl, e2⟩]
      · rw [if_neg e2, if_neg (fun h => e2 h.2)]
    · rw [if_neg e]
      congr 1
      refine List.map_congr_left fun q _ => ?_
      rw [if_neg (fun h => e h.1.symm)]
  · rw [List.getElem?_eq_none (l := matL n fun p q => if p = i ∧ q = j then z else f p q) (by rw [matL_length]; omega)]
    by_cases e : i = p
    · subst e
      rw [if_pos rfl, if_neg hp]
    · rw [if_neg e, List.getElem?_eq_none (by rw [matL_length]; omega)]
theorem matL_of {n : Nat} {C : List (List Int)} (hl : C.length = n) (hr : ∀ row ∈ C, row.length = n) : C = matL n (cost C) := by
  refine List.ext_getElem? fun p => ?_
  by_cases hp : p < n
  · rw [matL_get _ hp]
    obtain ⟨row, hrow⟩ : ∃ row, C[p]? = some row := ⟨_, List.getElem?_eq_getElem (by omega)⟩
    rw [hrow]
    have hrl := hr row (List.mem_of_getElem? hrow)
    congr 1
    refine List.ext_getElem? fun q => ?_
    by_cases hq : q < n
    · rw [List.getElem?_map, List.getElem?_range hq]
      unfold cost
      rw [List.getElem?_eq_getElem (show q < row.length by omega)]
      simp [List.getD_eq_getElem?_getD, hrow, hrl, hq]
    · rw [List.getElem?_eq_none (by omega), List.getElem?_eq_none (by simp; omega)]
  · rw [List.getElem?_eq_none (by omega), List.getElem?_eq_none (by rw [matL_length]; omega)]
theorem cost_matL {n : Nat} (f : Nat → Nat → Int) {p q : Nat} (hp : p < n) (hq : q < n) : cost (matL n f) p q = f p q := by
  unfold cost
  rw [List.getD_eq_getElem?_getD (l := matL n f), matL_get _ hp, Option.getD_some, rowL_get _ hq]
theorem matL_congr {n : Nat} {f g : Nat → Nat → Int} (h : ∀ p q, p < n → q < n → f p q = g p q) : matL n f = matL n g :=
  List.map_congr_left fun p hp => List.map_congr_left fun q hq => h p q (List.mem_range.1 hp) (List.mem_range.1 hq)

/-- a square table whose rows lie in blocks of their own: the blocks named -/
structure MatS (w : World) (base g n : Nat) (rb rc : Nat → Nat) (f : Nat → Nat → Int) : Prop where
  spine : ∀ i, i < n → w.cell? ⟨g, i, none⟩ = some (.slice (some ⟨rb i, 0, none⟩) n (rc i))
  row : ∀ i, i < n → w.ownsRow base 3 1 (.slice (some ⟨rb i, 0, none⟩) n (rc i)) n (intL ((List.range n).map (f i)))
  inj : ∀ i j, i < n → j < n → rb i = rb j → i = j
  ne : ∀ i, i < n → rb i ≠ g
  lt : g < w.heap.size
  ge : base ≤ g
theorem Sep.mat {w : World} {base n : Nat} {v : Value} {f : Nat → Nat → Int} (h : Sep w base v (matL n f)) (hn : 0 < n) : ∃ g cap rb rc, v = .slice (some ⟨g, 0, none⟩) n cap ∧ n ≤ cap ∧ cap ≤ maxLen ∧ MatS w base g n rb rc f := by
  obtain ⟨hs, ho, hl, hd, _⟩ := h
  rw [matL_length] at ho
  obtain ⟨a, cap, rfl, hcap, hcm, _⟩ : ∃ a cap, v = .slice a n cap ∧ n ≤ cap ∧ cap ≤ maxLen ∧ True := by
    rcases ho.2 with ⟨rfl, h0⟩ | ⟨g, cap, cur, rfl, _, _, h4, h5, _⟩
    · omega
    · exact ⟨_, cap, rfl, h4, h5, trivial⟩
  obtain ⟨a', cap', hv, hlen, hcell⟩ := ownsRow_open ho
  obtain ⟨rfl, rfl⟩ : a = a' ∧ cap = cap' := by simpa using hv
  obtain ⟨g, rfl, hbg, hgs, hc⟩ := hcell hn
  have hex : ∀ i, ∃ p : Nat × Nat, i < n → hs[i]? = some (.slice (some ⟨p.1, 0, none⟩) n p.2) ∧ w.ownsRow base 3 1 (.slice (some ⟨p.1, 0, none⟩) n p.2) n (intL ((List.range n).map (f i))) := fun i => by
    by_cases hi : i < n
    · obtain ⟨u, h1, h2⟩ := hl i _ (matL_get f hi)
      simp only [List.length_map, List.length_range] at h2
      obtain ⟨a2, rc, rfl, _, hcell2⟩ := ownsRow_open h2
      obtain ⟨rb, rfl, _⟩ := hcell2 hn
      exact ⟨(rb, rc), fun _ => ⟨h1, h2⟩⟩
    · exact ⟨(0, 0), fun h => absurd h hi⟩
  obtain ⟨p, hp⟩ := Classical.axiomOfChoice hex
  refine ⟨g, cap, fun i => (p i).1, fun i => (p i).2, rfl, hcap, hcm, fun i hi => hc i _ (hp i hi).1, fun i hi => (hp i hi).2, fun i j hi hj e => ?_, fun i hi e => ?_, hgs, hbg⟩
  · exact hd i j _ _ _ (hp i hi).1 (hp j hj).1 rfl (by show some (p j).1 = some (p i).1; rw [e])
  · exact own_apart ho (hp i hi).2 rfl (by show some (p i).1 = some g; rw [e])
theorem MatS.congr {w : World} {base g n : Nat} {rb rc : Nat → Nat} {f f' : Nat → Nat → Int} (h : MatS w base g n rb rc f) (e : ∀ p q, p < n → q < n → f p q = f' p q) : MatS w base g n rb rc f' :=
  ⟨h.spine, fun i hi => by rw [← show (List.range n).map (f i) = (List.range n).map (f' i) from List.map_congr_left fun q hq => e i q hi (List.mem_range.1 hq)]; exact h.row i hi, h.inj, h.ne, h.lt, h.ge⟩
theorem MatS.cell {w : World} {base g n : Nat} {rb rc : Nat → Nat} {f : Nat → Nat → Int} (h : MatS w base g n rb rc f) {i j : Nat} (hi : i < n) (hj : j < n) : w.cell? ⟨rb i, j, none⟩ = some (.int .i64 (f i j)) := by
  rw [(h.row i hi).cellAt j (by omega)]
  exact intL_get (by rw [List.getElem?_map, List.getElem?_range hj]; rfl)
theorem MatS.frozen {w : World} {base g n : Nat} {rb rc : Nat → Nat} {f : Nat → Nat → Int} (h : MatS w base g n rb rc f) {i : Nat} (hi : i < n) (j : Nat) : w.frozen? ⟨rb i, j, none⟩ = false := (h.row i hi).frozenAt j
theorem MatS.base_le {w : World} {base g n : Nat} {rb rc : Nat → Nat} {f : Nat → Nat → Int} (h : MatS w base g n rb rc f) {i : Nat} (hi : i < n) : base ≤ rb i ∧ rb i < w.heap.size := (h.row i hi).lt _ rfl
theorem MatS.grown {w w' : World} {base g n : Nat} {rb rc : Nat → Nat} {f : Nat → Nat → Int} {row : Option Nat} (h : MatS w base g n rb rc f) (hg : w.grownBy w' row) (h1 : some g ≠ row) (h2 : ∀ i, i < n → some (rb i) ≠ row) : MatS w' base g n rb rc f :=
  ⟨fun i hi => hg.cell (h.spine i hi) h1, fun i hi => (h.row i hi).kept hg (.inr (h2 i hi)), h.inj, h.ne, Nat.lt_of_lt_of_le h.lt hg.size, h.ge⟩
theorem MatS.below {w w' : World} {base g n : Nat} {rb rc : Nat → Nat} {f : Nat → Nat → Int} (h : MatS w base g n rb rc f) (hb : Below w.heap.size w w') : MatS w' base g n rb rc f :=
  h.grown (below_grown hb none) (by simp) (fun i _ => by simp)
theorem MatS.drewN {w : World} {base g n : Nat} {rb rc : Nat → Nat} {f : Nat → Nat → Int} (h : MatS w base g n rb rc f) (q : Nat) : MatS (w.drewN q) base g n rb rc f :=
  ⟨h.spine, h.row, h.inj, h.ne, h.lt, h.ge⟩
theorem MatS.set {w : World} {base g n : Nat} {rb rc : Nat → Nat} {f : Nat → Nat → Int} (h : MatS w base g n rb rc f) {i : Nat} (hi : i < n) (j : Nat) (z : Int) :
    MatS (w.setCell ⟨rb i, j, none⟩ (.int .i64 z)) base g n rb rc (fun p q => if p = i ∧ q = j then z else f p q) := by
  obtain ⟨s1, s2⟩ := (h.row i hi).stored j (.int .i64 z)
  refine ⟨fun k hk => s2.cell (h.spine k hk) (fun e => h.ne i hi (Option.some.inj e).symm), fun k hk => ?_, h.inj, h.ne, Nat.lt_of_lt_of_le h.lt s2.size, h.ge⟩
  by_cases e : k = i
  · subst e
    have e2 : intL ((List.range n).map fun q => if k = k ∧ q = j then z else f k q) = (intL ((List.range n).map (f k))).set j (.int .i64 z) := by
      unfold intL
      rw [← List.map_set, rowL_set]
      simp
    rw [e2]
    exact s1
  · rw [show (List.range n).map (fun q => if k = i ∧ q = j then z else f k q) = (List.range n).map (f k) from List.map_congr_left fun q _ => if_neg fun h => e h.1]
    exact (h.row k hk).kept s2 (.inr fun e2 => e (h.inj k i hk hi (Option.some.inj e2)))
theorem MatS.tbl {w : World} {base g n : Nat} {rb rc : Nat → Nat} {f : Nat → Nat → Int} (h : MatS w base g n rb rc f) : Tbl w (some ⟨g, 0, none⟩) (matL n f) := fun _ => by
  refine ⟨g, rfl, h.lt, fun i row hi => ?_⟩
  have hil := (List.getElem?_eq_some_iff.1 hi).1
  rw [matL_length] at hil
  rw [matL_get f hil, Option.some.injEq] at hi
  subst hi
  obtain ⟨a, cap, hv, hc, hR⟩ := own_slice (h.row i hil)
  obtain ⟨rfl, rfl⟩ : some (⟨rb i, 0, none⟩ : Addr) = a ∧ rc i = cap := by simpa using hv
  refine ⟨_, rc i, by rw [List.length_map, List.length_range]; exact h.spine i hil, by rw [List.length_map, List.length_range]; exact hc, by rw [List.length_map, List.length_range]; exact hR⟩
end Go.Proofs.Ytambhhjbafefgaa

/- slackOf: the walk. -/
namespace Go.Proofs.Ytambhhjbafefgaa
set_option linter.unusedVariables false
open Go.RowKit Go.Maps

theorem field_t (x0 x1 x2 x3 x4 x5 x6 x7 : Int) (w : World) : (Instr.field 70 (.agg #[.int .i64 x0, .int .i64 x1, .int .i64 x2, .int .i64 x3, .int .i64 x4, .int .i64 x5, .int .i64 x6, .int .i64 x7]) 1).run Try.prog w = .ok (.int .i64 x7) w := by kernel_rfl

theorem one_new (w : World) (x : Value) (t : TypeId) (n : Nat) (hn : n = w.heap.size) : ∀ j u, [x][j]? = some u → (w.alloc (.cells #[x] t)).cell? ((⟨n, 0, none⟩ : Addr).add j) = some u := by
  subst hn; exact cell_one_new w x t
theorem shl_fin2 : ∀ j : Fin 7, IntKind.i64.wrap (2 ^ j.1) = ((1 <<< j.1 : Nat) : Int) := by decide +kernel
theorem cast0 : ((0 : Nat) : Int) = 0 := rfl
theorem SlackSt.box {C' : List (List Int)} {a' : Option Addr} {M' j B : Nat} {w3 wr : World} {line : List Int} {v u0 u1 : Value} {L' L0 : List (Nat × Nat)} (h : SlackSt C' a' M' w3 line j v L' wr) (hF : Found C' a' M' w3 L0) (b0 : w3.cell? ⟨B, 0, none⟩ = some u0) (b1 : w3.cell? ⟨B, 1, none⟩ = some u1) :
    wr.cell? ⟨B, 0, none⟩ = some u0 ∧ wr.cell? ⟨B, 1, none⟩ = some u1 := ⟨h.grown.cell b0 (cell_not_map b0 hF.own), h.grown.cell b1 (cell_not_map b1 hF.own)⟩

set_option maxRecDepth 100000 in
set_option maxHeartbeats 8000000 in
theorem slackOf_sep (C : List (List Int)) (a : Option Addr) (cap n : Nat) (w : World) (hR : Rect C n) (hn : C.length = n) (hn1 : 0 < n) (h : Tbl w a C) (hcap : n ≤ cap) (hcm : cap ≤ maxLen) :
    Calls Try.prog 71 #[.slice a n cap] w fun e w' => ∃ v, e = .returned v ∧ Sep w' w.heap.size v (slackL C) ∧ Below w.heap.size w w' := by
  have hn7 := hR.n7
  rw [hn] at hn7
  obtain ⟨t0, ht0⟩ : ∃ t, (bestW C).t = t := ⟨_, rfl⟩
  have hF1 := fun w' h => firstOf_any C a cap n w' hR (by omega) h
  have hbt := firstW_t hR C.length 0
  have htb : -7000 ≤ t0 ∧ t0 ≤ 7000 := by rw [← ht0]; unfold bestW; omega
  unfold wayV at hF1
  simp only [ht0] at hF1
  rw [hn] at hF1
  obtain ⟨htb1, htb2⟩ := htb
  have HF1 := Lib.hid hF1
  have H := Lib.hid h
  have HR := Lib.hid hR
  have HN := Lib.hid hn
  have HT0 := Lib.hid ht0
  have HCM := Lib.hid hcm
  have hfl := field_t
  obtain ⟨i0, hi, hz0, hz1, hz2⟩ := info_parts info_int
  obtain ⟨i1, hj, hy0, hy1, hy2⟩ := info_parts info_ints
  clear hF1 h hR hn ht0 hcm hbt
  go_enter Try.func71, Try.ntmps71
  go_wp2_with fail
  refine (HF1.out _ H.out).mono ?_
  rintro e w1 ⟨rfl, b1⟩
  go_wp2_with fail
  go_loopw [4, 17] (fun v i wr => ∃ k : Nat, k ≤ n ∧ i = .int .i64 k ∧ Sep wr w.heap.size v ((List.range k).map (slackLine C)) ∧ Below w.heap.size w wr) (fun _ i _ => n - (intOf i).toNat)
  case atStart => exact ⟨0, Nat.zero_le _, rfl, Sep.nil _ _, b1⟩
  case round =>
    obtain ⟨k, hk, rfl, hL, hB⟩ := hrel
    by_cases hlt : k < n
    · have hc : (k : Int) < n := by omega
      obtain ⟨row, hrow⟩ : ∃ row, C[k]? = some row := ⟨_, List.getElem?_eq_getElem (by have := HN.out; omega)⟩
      have hrm := HR.out.len row (List.mem_of_getElem? hrow)
      have hT := H.out.below hB
      obtain ⟨g, ra, rc, hga, hg, hcell, hrc, hRow⟩ := hT.row hrow
      subst hga
      rw [hrm] at hcell hRow hrc
      have hW := fun w' h => without_any C (some ⟨g, 0, none⟩) cap k w' h (by have := HN.out; omega) HCM.out (by have := HN.out; omega) (by have := HN.out; omega)
      rw [HN.out] at hW
      obtain ⟨C', hC'⟩ : ∃ C', C.eraseIdx k = C' := ⟨_, rfl⟩
      have hCl : C'.length = n - 1 := by rw [← hC', List.length_eraseIdx, if_pos (by have := HN.out; omega), HN.out]
      have hR' : Rect C' n := by rw [← hC']; exact HR.out.erase k
      rw [hC'] at hW
      have hNS := fun a' cap' w' h => newSearch_any C' a' cap' w' h
      have HW := Lib.hid hW
      have HNS := Lib.hid hNS
      have HC' := Lib.hid hC'
      have HCl := Lib.hid hCl
      have HR' := Lib.hid hR'
      have HT := Lib.hid hT
      have HRow := Lib.hid hRow
      have Hrow := Lib.hid hrow
      have Hrm := Lib.hid hrm
      have HL := Lib.hid hL
      have HB := Lib.hid hB
      clear hW hNS hC' hCl hR' hT hRow hrow hrm hL hB
      obtain ⟨wo, hwo⟩ : ∃ wo : World, wo = wr := ⟨_, rfl⟩
      subst hwo
      go_wp2_with fail
      refine (HW.out _ HT.out).mono ?_
      rintro e w2 ⟨a', cap', rfl, hc1, hT2, b2⟩
      go_wp2_with fail
      refine (HNS.out a' cap' _ hT2).mono ?_
      rintro e w3 ⟨M', rfl, hF3, hM3, b3⟩
      go_wp2_with fail
      generalize hw4 : w3.alloc (.cells #[.slice a' C'.length cap', .map (some M')] 93) = w4
      have hB34 : Below w3.heap.size w3 w4 := by rw [← hw4]; exact below_alloc _ _
      have hb0 : w4.cell? ⟨w3.heap.size, 0, none⟩ = some (.slice a' C'.length cap') := by rw [← hw4, World.cell?_alloc_at _ _ _ _ rfl]; rfl
      have hb1 : w4.cell? ⟨w3.heap.size, 1, none⟩ = some (.map (some M')) := by rw [← hw4, World.cell?_alloc_at _ _ _ _ rfl]; rfl
      have hF4 := hF3.below hB34
      have hM4 : M' < w4.heap.size := hF4.own.lt
      have hrow4 := ((HRow.out.below b2).below b3).below hB34
      have hL4 := ((HL.out.below b2).below b3).below hB34
      have hB4 := b_next (b_next (b_next HB.out b2) b3) hB34
      have hM0 : w.heap.size ≤ M' := Nat.le_trans (Nat.le_trans HB.out.size b2.size) hM3
      have hst : SlackSt C' a' M' w4 (slackLine C k) 0 (.slice none 0 0) [] w4 := ⟨World.ownsRow_nil _ _ _ _, hF4, ⟨rfl, rfl, rfl, Nat.le_refl _, fun _ _ _ => rfl⟩, hM4⟩
      have HF4 := Lib.hid hF4
      have HR4 := Lib.hid hrow4
      have HL4 := Lib.hid hL4
      have HB4 := Lib.hid hB4
      have Hb0 := Lib.hid hb0
      have Hb1 := Lib.hid hb1
      have Hst := Lib.hid hst
      have Hp : Hid (w3.heap.size < w4.heap.size) := by rw [← hw4]; show _ < _; simp
      clear hw4 hB34 hb0 hb1 hF4 hM4 hrow4 hL4 hB4 hst b2 b3 hF3 hM3 hT2 hc1 HL HB HT HRow HW HNS
      go_loopw [8, 28] (fun v i wr => ∃ (j : Nat) (L' : List (Nat × Nat)), j ≤ n ∧ i = .int .i64 j ∧ SlackSt C' a' M' w4 (slackLine C k) j v L' wr) (fun _ i _ => n - (intOf i).toNat)
      case atStart => exact ⟨0, [], Nat.zero_le _, rfl, Hst.out⟩
      case round =>
        obtain ⟨j, L', hj2, rfl, hS⟩ := hrel
        by_cases hlj : j < n
        · have hcj : (j : Int) < n := by omega
          obtain ⟨g2, rfl, cj⟩ := (HR4.out.grown HF4.out.own hS.grown).int hlj
          have s0 := hS.grown.cell Hb0.out (cell_not_map Hb0.out HF4.out.own)
          have s1 := hS.grown.cell Hb1.out (cell_not_map Hb1.out HF4.out.own)
          obtain ⟨r, hr⟩ : ∃ r, firstW C' (n - 1) (1 <<< j) = r := ⟨_, rfl⟩
          have ht := firstW_t HR'.out (n - 1) (1 <<< j)
          rw [hr] at ht
          have hcost := getD_bound (HR.out.cost row (List.mem_of_getElem? Hrow.out)) j
          have hx : (slackLine C k)[j]? = some (row.getD j 0 + r.t - t0) := by
            unfold slackLine
            rw [List.getElem?_map, List.getElem?_range (by rw [HN.out]; exact hlj), Option.map_some, HT0.out, HC'.out, HN.out, hr, List.getD_eq_getElem?_getD (l := C), Hrow.out, Option.getD_some]
          obtain ⟨c, hcc⟩ : ∃ c, row.getD j 0 = c := ⟨_, rfl⟩
          rw [hcc] at cj hcost hx
          have e1 := shl_fin2 ⟨j, by omega⟩
          simp only at e1
          have hf := fun L' W' h => first_any C' a' cap' n M' HR'.out (n - 1) 0 (1 <<< j) L' W' (by have := HCl.out; omega) (fits_one n j hn1) (shl_lt ⟨j, by omega⟩) h
          unfold Searched wayV stV at hf
          simp only [hr, cast0] at hf
          have Hf := Lib.hid hf
          have Hx := Lib.hid hx
          have HS := Lib.hid hS
          have hd1 : -7000 ≤ r.t := by omega
          have hd2 : r.t ≤ 7000 := by omega
          obtain ⟨hcost1, hcost2⟩ := hcost
          clear hf hr ht hx hcc hS
          go_wp2_with fail
          go_region_held3 (fun w' => w'.cell? ⟨w3.heap.size, 0, none⟩ = some (.slice a' C'.length cap') ∧ w'.cell? ⟨w3.heap.size, 1, none⟩ = some (.map (some M')))
            (first | (with_reducible exact HS.out.nextA.box HF4.out Hb0.out Hb1.out) | (with_reducible exact (HS.out.nextB _).box HF4.out Hb0.out Hb1.out) | (with_reducible exact HS5.out.box HF4.out Hb0.out Hb1.out) | (with_reducible exact (HS5.out.below (below_alloc _ _)).box HF4.out Hb0.out Hb1.out) | ((rw [store8 r hz]); exact (HS5.out.stored (wayA r) HS.out.grown.size (fun q hq => (HS.out.own.lt q hq).2) HF4.out).box HF4.out Hb0.out Hb1.out))
            (first
              | (go_at_call 75; refine (Hf.out L' _ ?_).mono ?_; (first | (with_reducible exact HS.out.nextA.found) | (with_reducible exact (HS.out.nextB _).found)); rintro e w5 ⟨rfl, L2, hF5, hL5, hG5⟩; first
                | ((with_reducible have HS5 := Lib.hid (SlackSt.searched (HS.out.nextB _) hF5 hG5)); have hz : w5.heap[wr.heap.size]? = some (.cells (wayA Way.zero) 70 (0, 0)) := (hG5.block wr.heap.size (by simp) (by intro e; rw [Option.some.injEq] at e; have := HS.out.lt; have := HS.out.grown.size; omega)).trans (heap_alloc_new wr _); obtain ⟨⟨z0, z1, z2, z3, z4, z5, z6, z7⟩, y0, y1, y2, y3, y4, y5, y6, y7⟩ := zero8 hz)
                | (have HS5 := Lib.hid (SlackSt.searched HS.out.nextA hF5 hG5))))
          all_goals first
            | (rw [store8 r hz]; have HX := Lib.hid (HS5.out.stored (wayA r) HS.out.grown.size (fun q hq => (HS.out.own.lt q hq).2) HF4.out); obtain ⟨q0, q1, q2, q3, q4, q5, q6, q7⟩ := at8_lit (setRow_heap _ _ _ (wayA r) _ _ hz); clear hz z0 z1 z2 z3 z4 z5 z6 z7 y0 y1 y2 y3 y4 y5 y6 y7)
            | (have HX := Lib.hid (HS5.out.below (below_alloc _ (.cells (wayA r) 70))); obtain ⟨q0, q1, q2, q3, q4, q5, q6, q7⟩ := at8_lit (heap_alloc_new w5 (.cells (wayA r) 70)))
          all_goals
            have HX1 := Lib.hid (HX.out.below (below_alloc _ (.cells #[.int .i64 (c + r.t - t0)] 3)))
            clear s0 s1 e1 q0 q1 q2 q3 q4 q5 q6
            go_wp2_with (at_builtin; refine wpList_append_own _ rfl _ _ 24 rfl w4.heap.size 3 i0 (.int .i64 0) 1 8 Try.underlying24 hi hz0 hz1 hz2 rfl (by decide) _ _ _ rfl HX1.out.own ⟨_, 0, none⟩ 1 1 [.int .i64 (c + r.t - t0)] rfl rfl (one_new _ _ _ _ (by simp)) (by simp [Value.oneCell']) (by unfold maxLen; omega) (by omega) HX1.out.grown.size ?_; intro v' w6 hown' hgrow _)
            have HN' := Lib.hid (HX1.out.push HF4.out Hx.out hown' hgrow)
            clear hown' hgrow
            go_wp2_with fail
            go_roundw
            case rel => exact ⟨j + 1, L2, by omega, by go_num, HN'.out⟩
            case measure => simp [intOf]; omega
        · obtain rfl : j = n := by omega
          have hcj : ¬ (j : Int) < j := by omega
          have hown := hS.own
          rw [List.take_of_length_le (by rw [slackLine_length, HN.out]; exact Nat.le_refl _)] at hown
          obtain ⟨a8, c8, rfl, hc8, hR8⟩ := own_slice hown
          have hBw : Below w.heap.size w wr := HB4.out.grown hS.grown HB4.out.size (fun q e => by cases e; exact hM0)
          obtain ⟨hs, ho, hl, hd2, hold⟩ := HL4.out.stepM HF4.out.own hS.grown
          have Hown := Lib.hid hown
          have hll : ((List.range k).map (slackLine C)).length = k := by simp
          have Hhl := Lib.hid hl
          have Hhd := Lib.hid hd2
          have Hold := Lib.hid hold
          have HBw := Lib.hid hBw
          have Hho := Lib.hid ho
          have Hll := Lib.hid hll
          have Hc8 := Lib.hid hc8
          have ho' := (ho.alloc (.cells #[.slice a8 j c8] 24))
          rw [hll] at ho'
          have HO' := Lib.hid ho'
          clear hl hd2 hold hR8 hBw ho hll hS hown ho' hc8
          go_wp2_with (at_builtin; refine wpList_append_own _ rfl _ _ 22 rfl w.heap.size 24 i1 (.slice none 0 0) 1 24 Try.underlying22 hj hy0 hy1 hy2 rfl (by decide) _ _ _ rfl HO'.out ⟨_, 0, none⟩ 1 1 [.slice a8 j c8] rfl rfl (one_new _ _ _ _ (by simp)) (by simp [Value.oneCell']) (by unfold maxLen; omega) (by omega) (by have := HBw.out.size; simp; omega) ?_; intro v' w6 hown' hgrow _)
          have hlen8 : (slackLine C k).length = j := by rw [slackLine_length, HN.out]
          have hLn : Sep w6 w.heap.size v' ((List.range (k + 1)).map (slackLine C)) := by
            rw [List.range_succ, List.map_append]
            exact Sep.push (wr := w4) (r := .slice a8 j c8) Hho.out Hhl.out Hhd.out Hold.out (by rw [hlen8]; exact Hown.out) HB4.out.size hgrow (by rw [Hll.out]; exact hown')
          have hB6 : Below w.heap.size w w6 := rel_push HBw.out (by have := HBw.out.size; simp; omega) ((Below.refl _ _).alloc HBw.out.size _) Hho.out hgrow
          have HLn := Lib.hid hLn
          have HB6 := Lib.hid hB6
          clear hown' hgrow hlen8 hLn hB6
          go_wp2
          go_roundw
          case rel => exact ⟨k + 1, by omega, by go_num, HLn.out, HB6.out⟩
          case measure => simp [intOf]; omega
    · obtain rfl : k = n := by omega
      have hc : ¬ (k : Int) < k := by omega
      go_wp2
      go_ret
      exact ⟨_, rfl, by unfold slackL; rw [HN.out]; exact hL, hB⟩
theorem slackOf_any (C : List (List Int)) (a : Option Addr) (cap n : Nat) (w : World) (hR : Rect C n) (hn : C.length = n) (hn1 : 0 < n) (h : Tbl w a C) (hcap : n ≤ cap) (hcm : cap ≤ maxLen) :
    Calls Try.prog 71 #[.slice a n cap] w fun e w' => ∃ v, e = .returned v ∧ Lines w' w.heap.size v (slackL C) ∧ Below w.heap.size w w' :=
  (slackOf_sep C a cap n w hR hn hn1 h hcap hcm).mono fun _ _ ⟨v, he, hs, hb⟩ => ⟨v, he, hs.lines, hb⟩
end Go.Proofs.Ytambhhjbafefgaa

/- Slack. -/
namespace Go.Proofs.Ytambhhjbafefgaa
set_option linter.unusedVariables false
open Go.RowKit

theorem Rect.of_costs {C : List (List Int)} (h : costsB C = true) : Rect C C.length ∧ 0 < C.length := by
  unfold costsB at h
  rw [Bool.and_eq_true, decide_eq_true_eq, List.all_eq_true] at h
  obtain ⟨⟨h1, h2⟩, h3⟩ := h
  refine ⟨⟨h2, h2, fun row hr => ?_, fun row hr => ?_⟩, h1⟩
  · have := h3 row hr; unfold rowB at this; rw [decide_eq_true_eq] at this; exact this.1
  · have := h3 row hr; unfold rowB at this; rw [decide_eq_true_eq] at this; exact this.2

/-- Slack's two results -/
def slackR (C : List (List Int)) : List (List Int) × Int := if costsB C then (slackL C, 0) else ([], 2)

set_option maxRecDepth 100000 in
set_option maxHeartbeats 2000000 in
theorem Slack_sep (C : List (List Int)) (a : Option Addr) (cap : Nat) (w : World) (h : Tbl w a C) (hn : C.length ≤ 1000) (hr : ∀ row ∈ C, row.length ≤ 1000) (hcap : C.length ≤ cap) (hcm : cap ≤ maxLen) :
    Calls Try.prog 36 #[.slice a C.length cap] w fun e w' => ∃ v, e = .returned (.tuple #[v, .int .i64 (slackR C).2]) ∧ Sep w' w.heap.size v (slackR C).1 ∧ Below w.heap.size w w' := by
  have hC := fun w' h => isCosts_any a cap C w' h hn hr
  have HC := Lib.hid hC
  have H := Lib.hid h
  clear hC
  cases hw : costsB C with
  | false =>
    have hR : slackR C = ([], 2) := by unfold slackR; rw [hw]; rfl
    have HR := Lib.hid hR
    have HW := Lib.hid hw
    clear hw hR h
    go_enter Try.func36, Try.ntmps36
    go_wp2_with (go_at_call 53; refine (HC.out _ H.out).mono ?_; rintro e w' ⟨rfl, rfl⟩; rw [HW.out])
    go_ret2
    exact ⟨_, by rw [HR.out]; rfl, by rw [HR.out]; exact Sep.nil _ _, Below.refl _ _⟩
  | true =>
    obtain ⟨hRc, hp⟩ := Rect.of_costs hw
    have hR : slackR C = (slackL C, 0) := by unfold slackR; rw [hw]; rfl
    have hS := fun w' h => slackOf_sep C a cap C.length w' hRc rfl hp h hcap hcm
    have HS := Lib.hid hS
    have HR := Lib.hid hR
    have HW := Lib.hid hw
    clear hw hR h hS hRc
    go_enter Try.func36, Try.ntmps36
    go_wp2_with (first
      | (go_at_call 53; refine (HC.out _ H.out).mono ?_; rintro e w' ⟨rfl, rfl⟩; rw [HW.out])
      | (go_at_call 71; refine (HS.out _ H.out).mono ?_; rintro e w1 ⟨v, rfl, hL, hB⟩))
    go_ret2
    exact ⟨v, by rw [HR.out]; rfl, by rw [HR.out]; exact hL, hB⟩
theorem Slack_any (C : List (List Int)) (a : Option Addr) (cap : Nat) (w : World) (h : Tbl w a C) (hn : C.length ≤ 1000) (hr : ∀ row ∈ C, row.length ≤ 1000) (hcap : C.length ≤ cap) (hcm : cap ≤ maxLen) :
    Calls Try.prog 36 #[.slice a C.length cap] w fun e w' => ∃ v, e = .returned (.tuple #[v, .int .i64 (slackR C).2]) ∧ Lines w' w.heap.size v (slackR C).1 ∧ Below w.heap.size w w' :=
  (Slack_sep C a cap w h hn hr hcap hcm).mono fun _ _ ⟨v, he, hs, hb⟩ => ⟨v, he, hs.lines, hb⟩
end Go.Proofs.Ytambhhjbafefgaa

/- Payments. -/
namespace Go.Proofs.Ytambhhjbafefgaa
set_option linter.unusedVariables false
open Go.RowKit Go.Maps

theorem put_at (x : Way) {i : Nat} (hi : i < 7) (h k : Int) : (x.put i h k).at i = h := by
  rcases lt7 hi with rfl | rfl | rfl | rfl | rfl | rfl | rfl <;> rfl
theorem put_ne (x : Way) {i j : Nat} (hi : i < 7) (hj : j < 7) (hne : j ≠ i) (h k : Int) : (x.put i h k).at j = x.at j := by
  rcases lt7 hi with rfl | rfl | rfl | rfl | rfl | rfl | rfl <;> rcases lt7 hj with rfl | rfl | rfl | rfl | rfl | rfl | rfl <;> first | rfl | exact absurd rfl hne
theorem firstW_at {C : List (List Int)} {m : Nat} (h : Rect C m) : ∀ (f T : Nat), f ≤ C.length → Fits T f m → ∀ i, C.length - f ≤ i → i < C.length → ∃ j : Nat, j < m ∧ (firstW C f T).at i = j
  | 0, _, _, _, i, h1, h2 => by omega
  | f + 1, T, hf, hfit, i, h1, h2 => by
    have h7 := h.n7
    have hrow : (C.getD (C.length - (f + 1)) []).length = m := by
      rw [List.getD_eq_getElem?_getD, List.getElem?_eq_getElem (by omega)]
      exact h.len _ (List.getElem_mem _)
    obtain ⟨j0, hj0, ht0⟩ := hfit.some
    have hp := waysOf_pos (firstW C f) (C.length - (f + 1)) T (C.getD (C.length - (f + 1)) []) hj0 ht0
    rw [firstW, hrow]
    have hm := minW_mem _ (List.length_pos_iff.1 hp)
    generalize minW (waysOf (firstW C f) (C.length - (f + 1)) T (C.getD (C.length - (f + 1)) []) m) = y at hm ⊢
    unfold waysOf at hm
    rw [List.mem_filterMap] at hm
    obtain ⟨j, hj, hjy⟩ := hm
    rw [List.mem_range] at hj
    split at hjy
    · cases hjy
    · rw [Option.some.injEq] at hjy
      subst hjy
      by_cases hib : i = C.length - (f + 1)
      · exact ⟨j, hj, by rw [hib]; exact put_at _ (by omega) _ _⟩
      · rw [put_ne _ (by omega) (by omega) hib]
        exact firstW_at h f _ (by omega) (hfit.next j) i (by omega) h2

def payOne (C : List (List Int)) (k : Nat) : Int := (bestW C).t - (C.getD k []).getD ((bestW C).at k).toNat 0 - (firstW (C.eraseIdx k) (C.length - 1) 0).t
def payL (C : List (List Int)) : List Int := (List.range C.length).map (payOne C)
def payR (C : List (List Int)) : List Int × Int := if costsB C then (payL C, 0) else ([], 2)

theorem at_cell {w : World} {B : Nat} {x : Way} (h : w.heap[B]? = some (.cells (wayA x) 70 (0, 0))) {k : Nat} (hk : k < 7) : w.cell? ⟨B, k, none⟩ = some (.int .i64 (x.at k)) := by
  rw [cell_of_row w B k _ _ _ h]
  rcases lt7 hk with rfl | rfl | rfl | rfl | rfl | rfl | rfl <;> rfl

set_option maxRecDepth 100000 in
set_option maxHeartbeats 8000000 in
theorem Payments_yes (C : List (List Int)) (a : Option Addr) (cap n : Nat) (w : World) (hR : Rect C n) (hn : C.length = n) (hn1 : 0 < n) (hw : costsB C = true) (h : Tbl w a C) (hr : ∀ row ∈ C, row.length ≤ 1000) (hcap : n ≤ cap) (hcm : cap ≤ maxLen) :
    Calls Try.prog 38 #[.slice a n cap] w fun e w' => ∃ v, e = .returned (.tuple #[v, .int .i64 0]) ∧ w'.ownsRow w.heap.size 3 1 v n (intL (payL C)) ∧ Below w.heap.size w w' := by
  have hn7 := hR.n7
  have hC := fun w' h => isCosts_any a cap C w' h (by omega) hr
  rw [hn] at hn7 hC
  obtain ⟨B0, hB0⟩ : ∃ t, bestW C = t := ⟨_, rfl⟩
  have hF1 := fun w' h => firstOf_any C a cap n w' hR (by omega) h
  have hbt := firstW_t hR C.length 0
  have htb : -7000 ≤ B0.t ∧ B0.t ≤ 7000 := by rw [← hB0]; unfold bestW; omega
  have hat := firstW_at hR C.length 0 (Nat.le_refl _) (fits_zero _ _ (by omega))
  rw [show firstW C C.length 0 = B0 from hB0] at hat
  rw [hB0] at hF1
  unfold wayV at hF1
  rw [hn] at hF1 hat
  obtain ⟨htb1, htb2⟩ := htb
  have HF1 := Lib.hid hF1
  have H := Lib.hid h
  have HR := Lib.hid hR
  have HN := Lib.hid hn
  have HB0 := Lib.hid hB0
  have HCM := Lib.hid hcm
  have HAT := Lib.hid hat
  have HC := Lib.hid hC
  have HW0 := Lib.hid hw
  obtain ⟨i0, hi, hz0, hz1, hz2⟩ := info_parts info_int
  clear hF1 h hR hn hB0 hcm hbt hat hC hw hr
  go_enter Try.func38, Try.ntmps38
  go_wp2_with (first
    | (go_at_call 53; refine (HC.out _ H.out).mono ?_; rintro e w' ⟨rfl, rfl⟩; rw [HW0.out])
    | (go_at_call 54; refine (HF1.out _ H.out).mono ?_; rintro e w1 ⟨rfl, b1⟩))
  generalize hw4 : w1.alloc (.cells #[.int .i64 B0.a, .int .i64 B0.b, .int .i64 B0.c, .int .i64 B0.d, .int .i64 B0.e, .int .i64 B0.f, .int .i64 B0.g, .int .i64 B0.t] 70) = w4
  have hb0 : w4.heap[w1.heap.size]? = some (.cells (wayA B0) 70 (0, 0)) := by rw [← hw4]; exact heap_alloc_new _ _
  have hB4 : Below w.heap.size w w4 := by rw [← hw4]; exact b_next b1 (below_alloc _ _)
  have hp4 : w1.heap.size < w4.heap.size := by rw [← hw4]; simp
  have Hb0 := Lib.hid hb0
  have HB4 := Lib.hid hB4
  have Hp4 := Lib.hid hp4
  have Hp1 := Lib.hid b1.size
  clear hw4 hb0 hB4 hp4 b1
  have hpl : (payL C).length = n := by unfold payL; rw [List.length_map, List.length_range, HN.out]
  have Hpl := Lib.hid hpl
  clear hpl
  go_loopw [5, 16] (fun v i wr => ∃ k : Nat, k ≤ n ∧ i = .int .i64 k ∧ wr.ownsRow w4.heap.size 3 1 v k (intL ((payL C).take k)) ∧ Below w4.heap.size w4 wr) (fun _ i _ => n - (intOf i).toNat)
  case atStart => exact ⟨0, Nat.zero_le _, rfl, World.ownsRow_nil _ _ _ _, Below.refl _ _⟩
  case round =>
    obtain ⟨k, hk, rfl, hown, hB⟩ := hrel
    by_cases hlt : k < n
    · have hc : (k : Int) < n := by omega
      obtain ⟨row, hrow⟩ : ∃ row, C[k]? = some row := ⟨_, List.getElem?_eq_getElem (by have := HN.out; omega)⟩
      have hrm := HR.out.len row (List.mem_of_getElem? hrow)
      have hT := (H.out.below HB4.out).below hB
      obtain ⟨g, ra, rc, hga, hg, hcell0, hrc, hRow⟩ := H.out.row hrow
      subst hga
      have hcell : wr.cell? ⟨g, k, none⟩ = some (.slice ra row.length rc) := (hB.cell (p := ⟨g, k, none⟩) (Nat.lt_of_lt_of_le hg HB4.out.size)).trans ((HB4.out.cell (p := ⟨g, k, none⟩) hg).trans hcell0)
      clear hcell0
      rw [hrm] at hcell hRow hrc
      obtain ⟨j, hj, hat⟩ := HAT.out k (by omega) (by omega)
      have hW := fun w' h => without_any C (some ⟨g, 0, none⟩) cap k w' h (by have := HN.out; omega) HCM.out (by have := HN.out; omega) (by have := HN.out; omega)
      rw [HN.out] at hW
      obtain ⟨C', hC'⟩ : ∃ C', C.eraseIdx k = C' := ⟨_, rfl⟩
      have hCl : C'.length = n - 1 := by rw [← hC', List.length_eraseIdx, if_pos (by have := HN.out; omega), HN.out]
      have hR' : Rect C' n := by rw [← hC']; exact HR.out.erase k
      rw [hC'] at hW
      have hNS := fun a' cap' w' h => newSearch_any C' a' cap' w' h
      obtain ⟨r, hr⟩ : ∃ r, firstW C' (n - 1) 0 = r := ⟨_, rfl⟩
      have ht := firstW_t hR' (n - 1) 0
      rw [hr] at ht
      have hcost := getD_bound (HR.out.cost row (List.mem_of_getElem? hrow)) j
      have hx : (payL C)[k]? = some (B0.t - row.getD j 0 - r.t) := by
        unfold payL
        rw [List.getElem?_map, List.getElem?_range (by rw [HN.out]; exact hlt), Option.map_some]
        unfold payOne
        rw [HB0.out, hC', HN.out, hr, hat, List.getD_eq_getElem?_getD (l := C), hrow, Option.getD_some, Int.toNat_natCast]
      obtain ⟨g2, rfl, cj⟩ := hRow.int hj
      obtain ⟨c, hcc⟩ : ∃ c, row.getD j 0 = c := ⟨_, rfl⟩
      rw [hcc] at cj hcost hx
      have hf := fun a' cap' M' W' h => first_any C' a' cap' n M' hR' (n - 1) 0 0 [] W' (by omega) (fits_zero _ _ (by omega)) (by omega) h
      unfold Searched wayV stV at hf
      simp only [hr, cast0] at hf
      have hg2 := World.block_lt_of_cell? _ _ cj
      have hd1 : -7000 ≤ r.t := by omega
      have hd2 : r.t ≤ 7000 := by omega
      obtain ⟨hcost1, hcost2⟩ := hcost
      have Hf := Lib.hid hf
      have HW := Lib.hid hW
      have HNS := Lib.hid hNS
      have HT := Lib.hid hT
      have Hx := Lib.hid hx
      have Hat := Lib.hid hat
      have Hcj := Lib.hid cj
      have Hown := Lib.hid hown
      have HB := Lib.hid hB
      have Hg2 := Lib.hid hg2
      clear hf hW hNS hC' hCl hR' hT hRow hrow hrm hr ht hcc hx hat cj hown hB hg2
      go_wp2_with fail
      refine (HW.out _ HT.out).mono ?_
      rintro e w2 ⟨a', cap', rfl, hc1, hT2, b2⟩
      go_wp2_with fail
      refine (HNS.out a' cap' _ hT2).mono ?_
      rintro e w3 ⟨M', rfl, hF3, hM3, b3⟩
      go_wp2_with fail
      refine (Hf.out a' cap' M' _ hF3).mono ?_
      rintro e w7 ⟨rfl, L2, hF7, hL7, hG7⟩
      go_wp2_with fail
      generalize hwx : w7.alloc (.cells #[.int .i64 r.a, .int .i64 r.b, .int .i64 r.c, .int .i64 r.d, .int .i64 r.e, .int .i64 r.f, .int .i64 r.g, .int .i64 r.t] 70) = wx
      have b7 : Below wr.heap.size wr w7 := (b_next b2 b3).grown hG7 (b_next b2 b3).size (fun q e => by cases e; exact Nat.le_trans b2.size hM3)
      have bx : Below wr.heap.size wr wx := by rw [← hwx]; exact b_next b7 (below_alloc _ _)
      have hB0x : wx.heap[w1.heap.size]? = some (.cells (wayA B0) 70 (0, 0)) := (bx.block _ (Nat.lt_of_lt_of_le Hp4.out HB.out.size)).trans ((HB.out.block _ Hp4.out).trans Hb0.out)
      have s0 : wx.cell? ⟨w1.heap.size, 7, none⟩ = some (.int .i64 B0.t) := (at8_lit hB0x).2.2.2.2.2.2.2
      have s1 : wx.cell? ⟨w1.heap.size, k, none⟩ = some (.int .i64 j) := by rw [at_cell hB0x (by omega), Hat.out]
      have s2 : wx.cell? ⟨g2, j, none⟩ = some (.int .i64 c) := (bx.cell (p := ⟨g2, j, none⟩) (Nat.lt_of_lt_of_le (Nat.lt_of_lt_of_le Hg2.out HB4.out.size) HB.out.size)).trans ((HB.out.cell (p := ⟨g2, j, none⟩) (Nat.lt_of_lt_of_le Hg2.out HB4.out.size)).trans ((HB4.out.cell (p := ⟨g2, j, none⟩) Hg2.out).trans Hcj.out))
      have s3 : wx.cell? ⟨w7.heap.size, 7, none⟩ = some (.int .i64 r.t) := by rw [← hwx]; exact (at8_lit (heap_alloc_new w7 (.cells (wayA r) 70))).2.2.2.2.2.2.2
      have hownx : wx.ownsRow w4.heap.size 3 1 _ k (intL ((payL C).take k)) := Hown.out.kept (below_grown bx none) (by generalize hq : Value.ownBlock _ = q; cases q <;> simp)
      have hc7 : (k : Int) < 7 := by omega
      have hjn : (j : Int) < n := by omega
      obtain ⟨x, hxv⟩ : ∃ x, B0.t - c - r.t = x := ⟨_, rfl⟩
      have e1 : IntKind.i64.wrap (B0.t - c) = B0.t - c := IntWalk.i64_in _ (by omega)
      have e2 : IntKind.i64.wrap (B0.t - c - r.t) = x := by rw [← hxv]; exact IntWalk.i64_in _ (by omega)
      have hwz : w7.heap.size < wx.heap.size := by rw [← hwx]; simp
      have HS3 : Hid (wx.cell? ⟨w7.heap.size, 7, none⟩ = some (.int .i64 r.t)) := s3
      have hlt4 := Hown.out.lt
      have hfar : ∀ (w9 : World) (o : Obj) (p : Addr) (u : Value), (wx.alloc o).drew.grownBy w9 u5.ownBlock → wx.cell? p = some u → (p.block < w4.heap.size ∨ wr.heap.size ≤ p.block) → w9.cell? p = some u := fun w9 o p u hg hp hne =>
        hg.cell (((below_alloc wx o).drew.cell (World.block_lt_of_cell? _ _ hp)).trans hp) (fun e => by have := hlt4 _ e.symm; omega)
      have Hfar := Lib.hid hfar
      have HO := Lib.hid (hownx.alloc (.cells #[.int .i64 x] 3))
      have HN1 := Lib.hid (cell_one_new wx (.int .i64 x) 3)
      have HBs : Hid (w4.heap.size ≤ (wx.alloc (.cells #[.int .i64 x] 3)).drew.heap.size) := Nat.le_trans HB.out.size (Nat.le_trans bx.size (by show wx.heap.size ≤ (wx.alloc _).heap.size; simp))
      have HBx := Lib.hid bx
      have Hwr7 := Lib.hid b7.size
      have Hxv := Lib.hid hxv
      have S0 := Lib.hid s0
      have S1 := Lib.hid s1
      have S2 := Lib.hid s2
      have hg4 : Hid (g2 < w4.heap.size ∨ wr.heap.size ≤ g2) := .inl (Nat.lt_of_lt_of_le Hg2.out HB4.out.size)
      clear hlt4 hfar hownx bx b7 hxv hB0x hwx hG7 hF7 hL7 b2 b3 hT2 hF3 hM3
      go_region_held3 (fun w' => w'.cell? ⟨w1.heap.size, 7, none⟩ = some (.int .i64 B0.t) ∧ w'.cell? ⟨w1.heap.size, k, none⟩ = some (.int .i64 j) ∧ w'.cell? ⟨g2, j, none⟩ = some (.int .i64 c) ∧ w'.cell? ⟨w7.heap.size, 7, none⟩ = some (.int .i64 r.t))
        (first | exact ⟨s0, s1, s2, s3⟩ | exact ⟨Hfar.out _ _ _ _ hgr9 S0.out (.inl Hp4.out), Hfar.out _ _ _ _ hgr9 S1.out (.inl Hp4.out), Hfar.out _ _ _ _ hgr9 S2.out hg4.out, Hfar.out _ _ _ _ hgr9 HS3.out (.inr Hwr7.out)⟩ | exact ⟨((below_alloc wx _).drew.cell (World.block_lt_of_cell? _ _ S0.out)).trans S0.out, ((below_alloc wx _).drew.cell (World.block_lt_of_cell? _ _ S1.out)).trans S1.out, ((below_alloc wx _).drew.cell (World.block_lt_of_cell? _ _ S2.out)).trans S2.out, ((below_alloc wx _).drew.cell (World.block_lt_of_cell? _ _ HS3.out)).trans HS3.out⟩)
        (first | (refine step_append_lies _ rfl _ _ 24 rfl w4.heap.size 3 i0 (.int .i64 0) 1 8 Try.underlying24 hi hz0 hz1 hz2 rfl (by decide) _ k (intL ((payL C).take k)) rfl HO.out ⟨wx.heap.size, 0, none⟩ 1 1 [.int .i64 x] rfl rfl HN1.out (by simp [Value.oneCell']) (by omega) (by unfold maxLen; omega) (by omega) HBs.out _ rfl ?_; intro g9 c9 w9 hown9 hgr9 _ _))
      have hfin : w9.ownsRow w4.heap.size 3 1 (.slice (some ⟨g9, 0, none⟩) (k + 1) c9) (k + 1) (intL ((payL C).take (k + 1))) := by
        rw [List.take_add_one, Hx.out, Hxv.out]
        show w9.ownsRow w4.heap.size 3 1 (.slice (some ⟨g9, 0, none⟩) (k + 1) c9) (k + 1) (intL ((payL C).take k ++ [x]))
        unfold intL at hown9 ⊢
        rw [List.map_append]; exact hown9
      have hB9 : Below w4.heap.size w4 w9 := ((HB.out.trans (HBx.out.mono HB.out.size)).trans (((below_alloc wx _).drew).mono (Nat.le_trans HB.out.size HBx.out.size))).grown hgr9 HBs.out (fun q e => (Hown.out.lt q e).1)
      have HFin := Lib.hid hfin
      have HB9 := Lib.hid hB9
      clear hown9 hgr9 hfin hB9 s0 s1 s2 s3
      go_wp2_with fail
      go_roundw
      case rel => exact ⟨k + 1, by omega, by go_num, HFin.out, HB9.out⟩
      case measure => simp [intOf]; omega
    · obtain rfl : k = n := by omega
      have hc : ¬ (k : Int) < k := by omega
      go_wp2
      go_ret2
      exact ⟨_, rfl, own_base (by rw [List.take_of_length_le (by rw [Hpl.out]; exact Nat.le_refl _)] at hown; exact hown) (Nat.le_trans Hp1.out (Nat.le_of_lt Hp4.out)), b_next HB4.out hB⟩

set_option maxRecDepth 100000 in
set_option maxHeartbeats 2000000 in
theorem Payments_any (C : List (List Int)) (a : Option Addr) (cap : Nat) (w : World) (h : Tbl w a C) (hn : C.length ≤ 1000) (hr : ∀ row ∈ C, row.length ≤ 1000) (hcap : C.length ≤ cap) (hcm : cap ≤ maxLen) :
    Calls Try.prog 38 #[.slice a C.length cap] w fun e w' => ∃ v, e = .returned (.tuple #[v, .int .i64 (payR C).2]) ∧ w'.ownsRow w.heap.size 3 1 v (payR C).1.length (intL (payR C).1) ∧ Below w.heap.size w w' := by
  cases hw : costsB C with
  | false =>
    have hC := fun w' h => isCosts_any a cap C w' h hn hr
    have HC := Lib.hid hC
    have H := Lib.hid h
    have hR : payR C = ([], 2) := by unfold payR; rw [hw]; rfl
    have HR := Lib.hid hR
    have HW := Lib.hid hw
    clear hw hR h hC
    go_enter Try.func38, Try.ntmps38
    go_wp2_with (go_at_call 53; refine (HC.out _ H.out).mono ?_; rintro e w' ⟨rfl, rfl⟩; rw [HW.out])
    go_ret2
    exact ⟨_, by rw [HR.out]; rfl, by rw [HR.out]; exact World.ownsRow_nil _ _ _ _, Below.refl _ _⟩
  | true =>
    obtain ⟨hRc, hp⟩ := Rect.of_costs hw
    have hR : payR C = (payL C, 0) := by unfold payR; rw [hw]; rfl
    rw [hR]
    refine (Payments_yes C a cap C.length w hRc rfl hp hw h hr hcap hcm).mono fun e w' hh => ?_
    obtain ⟨v, he, ho, hb⟩ := hh
    exact ⟨v, he, by rw [show (payL C).length = C.length from by simp [payL]]; exact ho, hb⟩
end Go.Proofs.Ytambhhjbafefgaa

/- math/bits.OnesCount of a set of seven. -/
namespace Go.Proofs.Ytambhhjbafefgaa
set_option linter.unusedVariables false
open Go.RowKit

set_option maxRecDepth 100000 in
set_option maxHeartbeats 2000000 in
theorem ones64 (x : Nat) (hx : x < 128) (w : World) :
    Calls Try.prog 111 #[.int .u64 x] w fun e w' => e = .returned (.int .i64 ((List.range 7).countP (x.testBit ·) : Nat)) ∧ w' = w := by
  go_enter Try.func111, Try.ntmps111
  go_wp2
  go_ret
  refine ⟨ret_int ?_, rfl⟩
  clear w
  revert x
  decide +kernel

set_option maxRecDepth 100000 in
set_option maxHeartbeats 1000000 in
theorem ones_any (x : Nat) (hx : x < 128) (w : World) :
    Calls Try.prog 99 #[.int .u64 x] w fun e w' => e = .returned (.int .i64 ((List.range 7).countP (x.testBit ·) : Nat)) ∧ w' = w := by
  have h := Lib.hid (ones64 x hx)
  go_enter Try.func99, Try.ntmps99
  go_wp2_with (go_at_call 111; refine (h.out _).mono ?_; rintro e w' ⟨rfl, rfl⟩)
  go_ret
  exact ⟨rfl, rfl⟩
end Go.Proofs.Ytambhhjbafefgaa

/- isBlock, IsBlock. -/
namespace Go.Proofs.Ytambhhjbafefgaa
set_option linter.unusedVariables false
open Go.RowKit

/-- the holes at most wd among the first k of a row, besides m -/
def maskTo (wd : Int) (row : List Int) (m : Nat) : Nat → Nat
  | 0 => m
  | k + 1 => if row.getD k 0 ≤ wd then maskTo wd row m k ||| 1 <<< k else maskTo wd row m k
def lastOf (l : List Int) (k : Nat) : Int := if k = 0 then -1 else l.getD (k - 1) 0
def okAt (n : Nat) (l : List Int) (i : Nat) : Bool := decide (lastOf l i < l.getD i 0 ∧ l.getD i 0 < n)
def maskAt (C : List (List Int)) (wd : Int) (l : List Int) : Nat → Nat
  | 0 => 0
  | k + 1 => maskTo wd (C.getD (l.getD k 0).toNat []) (maskAt C wd l k) C.length
def cnt7 (m : Nat) : Nat := (List.range 7).countP (m.testBit ·)
def blockB (C : List (List Int)) (wd : Int) (l : List Int) : Bool := (List.range l.length).all (okAt C.length l) && decide (cnt7 (maskAt C wd l l.length) < l.length)

theorem maskTo_lt (wd : Int) (row : List Int) {m : Nat} (hm : m < 128) : ∀ k, k ≤ 7 → maskTo wd row m k < 128
  | 0, _ => hm
  | k + 1, hk => by
    have ih := maskTo_lt wd row hm k (by omega)
    rw [maskTo]
    split
    · exact or_lt ⟨_, ih⟩ ⟨k, by omega⟩
    · exact ih
theorem maskAt_lt (C : List (List Int)) (wd : Int) (l : List Int) (hn : C.length ≤ 7) : ∀ k, maskAt C wd l k < 128
  | 0 => by show 0 < 128; omega
  | k + 1 => maskTo_lt wd _ (maskAt_lt C wd l hn k) _ hn
theorem cnt7_le (m : Nat) : cnt7 m ≤ 7 := by unfold cnt7; exact Nat.le_trans List.countP_le_length (by simp)

theorem lastOf_succ (l : List Int) (k : Nat) : lastOf l (k + 1) = l.getD k 0 := by unfold lastOf; simp
theorem ok_ge (n : Nat) (l : List Int) (k : Nat) (h : ∀ i, i < k → okAt n l i = true) : -1 ≤ lastOf l k ∧ (0 < k → 0 ≤ lastOf l k ∧ lastOf l k < n) := by
  induction k with
  | zero => exact ⟨by unfold lastOf; simp, fun hh => absurd hh (by omega)⟩
  | succ k ih =>
    have h1 := ih (fun i hi => h i (by omega))
    have h2 := h k (by omega)
    unfold okAt at h2
    rw [decide_eq_true_eq] at h2
    rw [lastOf_succ]
    omega
theorem u64_small : ∀ x : Fin 128, IntKind.u64.wrap ((x.1 : Nat) : Int) = ((x.1 : Nat) : Int) := by decide +kernel

set_option maxRecDepth 100000 in
set_option maxHeartbeats 8000000 in
theorem isBlock_any (C : List (List Int)) (a b : Option Addr) (cap cb n q : Nat) (wd : Int) (l : List Int) (w : World) (hR : Rect C n) (hn : C.length = n) (h : Tbl w a C) (hl : Row w b q (intL l)) (hq : q ≤ 1000) :
    Calls Try.prog 79 #[.slice a n cap, .int .i64 wd, .slice b q cb] w fun e w' => e = .returned (.bool (blockB C wd l)) ∧ w = w' := by
  have hn7 := hR.n7
  rw [hn] at hn7
  have hll : l.length = q := by rw [← intL_length]; exact hl.1
  have HL := Lib.hid hl
  have HLL := Lib.hid hll
  have H := Lib.hid h
  have HR := Lib.hid hR
  have HN := Lib.hid hn
  have hbl : blockB C wd l = ((List.range q).all (okAt n l) && decide (cnt7 (maskAt C wd l q) < q)) := by unfold blockB; rw [hll, hn]
  have HBL := Lib.hid hbl
  have hml := fun k => maskAt_lt C wd l (by omega) k
  have HML := Lib.hid hml
  clear hl hll h hR hn hbl hml
  go_enter Try.func79, Try.ntmps79
  go_wp2
  go_loop [7, 8, 15] (fun t s i => ∃ k : Nat, k ≤ q ∧ i = .int .i64 k ∧ t = .int .i64 (maskAt C wd l k : Nat) ∧ s = .int .i64 (lastOf l k) ∧ Hid (∀ i, i < k → okAt n l i = true)) (fun _ _ i => q - (intOf i).toNat)
  case atStart => exact ⟨0, Nat.zero_le _, rfl, rfl, rfl, fun i hi => absurd hi (by omega)⟩
  case round =>
    obtain ⟨k, hk, rfl, rfl, rfl, HP⟩ := hrel
    by_cases hlt : k < q
    · have hc : (k : Int) < q := by omega
      obtain ⟨g, rfl, cx⟩ := HL.out.int hlt
      have hge := ok_ge n l k HP.out
      obtain ⟨x, hx⟩ : ∃ x, l.getD k 0 = x := ⟨_, rfl⟩
      obtain ⟨y, hy⟩ : ∃ y, lastOf l k = y := ⟨_, rfl⟩
      rw [hx] at cx
      rw [hy] at hge ⊢
      obtain ⟨hge1, _⟩ := hge
      have hok : okAt n l k = decide (y < x ∧ x < n) := by unfold okAt; rw [hx, hy]
      have HOK := Lib.hid hok
      have HX := Lib.hid hx
      have HY := Lib.hid hy
      clear hok hx
      by_cases h1 : y < x
      · by_cases h2 : x < n
        · obtain ⟨xn, hxn⟩ : ∃ xn : Nat, x = xn := ⟨x.toNat, by omega⟩
          subst hxn
          obtain ⟨row, hrow⟩ : ∃ row, C[xn]? = some row := ⟨_, List.getElem?_eq_getElem (by have := HN.out; omega)⟩
          have hrm := HR.out.len row (List.mem_of_getElem? hrow)
          obtain ⟨g2, ra, rc, hga, hg2, hcell, hrc, hRow⟩ := H.out.row hrow
          subst hga
          rw [hrm] at hcell hRow hrc
          obtain ⟨m0, hm0⟩ : ∃ m, maskAt C wd l k = m := ⟨_, rfl⟩
          have hm0l := HML.out k
          rw [hm0] at hm0l ⊢
          have hnext : maskAt C wd l (k + 1) = maskTo wd row m0 n := by
            rw [maskAt, HX.out, Int.toNat_natCast, List.getD_eq_getElem?_getD, hrow, Option.getD_some, hm0, HN.out]
          have HNX := Lib.hid hnext
          have HRow := Lib.hid hRow
          have hP2 : Hid (∀ i, i < k + 1 → okAt n l i = true) := fun i hi => by
            by_cases hik : i = k
            · rw [hik, HOK.out, decide_eq_true ⟨h1, h2⟩]
            · exact HP.out i (by omega)
          have Hrm := Lib.hid hrm
          have hx0 : (0 : Int) ≤ (xn : Int) := by omega
          have hy1 : ¬ (xn : Int) ≤ y := by omega
          have hy2 : ¬ (n : Int) ≤ xn := by omega
          clear hrow hrm hRow hnext hm0 HOK hy
          go_wp2_with fail
          go_loop [7, 34] (fun t i => ∃ j m : Nat, j ≤ n ∧ i = .int .i64 j ∧ t = .int .i64 m ∧ Hid (maskTo wd row m0 j = m)) (fun _ i => n - (intOf i).toNat)
          case atStart => exact ⟨0, m0, Nat.zero_le _, rfl, rfl, rfl⟩
          case round =>
            obtain ⟨j, m, hj, rfl, rfl, HM⟩ := hrel
            by_cases hlj : j < n
            · have hcj : (j : Int) < n := by omega
              obtain ⟨g3, rfl, cj⟩ := HRow.out.int hlj
              obtain ⟨c, hcc⟩ : ∃ c, row.getD j 0 = c := ⟨_, rfl⟩
              rw [hcc] at cj
              have hm1 := maskTo_lt wd row hm0l j (by omega)
              rw [HM.out] at hm1
              by_cases hcw : c ≤ wd
              · have ho := or_fin ⟨m, hm1⟩ ⟨j, by omega⟩
                simp only at ho
                have HN2 : Hid (maskTo wd row m0 (j + 1) = m ||| 1 <<< j) := by unfold Hid; rw [maskTo, HM.out, hcc, if_pos hcw]
                clear hcc
                go_wp2
                go_round
                case rel => exact ⟨j + 1, m ||| 1 <<< j, by omega, by go_num, rfl, HN2.out⟩
                case measure => simp [intOf]; omega
              · have HN2 : Hid (maskTo wd row m0 (j + 1) = m) := by unfold Hid; rw [maskTo, HM.out, hcc, if_neg hcw]
                clear hcc
                go_wp2
                go_round
                case rel => exact ⟨j + 1, m, by omega, by go_num, rfl, HN2.out⟩
                case measure => simp [intOf]; omega
            · obtain rfl : j = n := by omega
              have hcj : ¬ (j : Int) < j := by omega
              go_wp2
              go_round
              case rel => exact ⟨k + 1, by omega, by go_num, by rw [HNX.out, HM.out], by rw [lastOf_succ, HX.out], hP2.out⟩
              case measure => simp [intOf]; omega
        · have hy1 : ¬ x ≤ y := by omega
          have hy2 : (n : Int) ≤ x := by omega
          clear hy
          go_wp2
          go_ret
          exact ⟨ret_bool (by
            rw [HBL.out]
            have : (List.range q).all (okAt n l) = false := all_part (k := k) (x := k) (by rw [List.getElem?_range hlt]) (by rw [HOK.out, decide_eq_false]; omega)
            rw [this]; rfl), rfl⟩
      · have hy1 : x ≤ y := by omega
        clear hy
        go_wp2
        go_ret
        exact ⟨ret_bool (by
          rw [HBL.out]
          have : (List.range q).all (okAt n l) = false := all_part (k := k) (x := k) (by rw [List.getElem?_range hlt]) (by rw [HOK.out, decide_eq_false]; omega)
          rw [this]; rfl), rfl⟩
    · obtain rfl : k = q := by omega
      have hc : ¬ (k : Int) < k := by omega
      obtain ⟨m, hm⟩ : ∃ m, maskAt C wd l k = m := ⟨_, rfl⟩
      have hml := HML.out k
      rw [hm] at hml ⊢
      have hu := u64_small ⟨m, hml⟩
      simp only at hu
      have hO := fun w' => ones_any m hml w'
      obtain ⟨cn, hcn⟩ : ∃ cn, (List.range 7).countP (m.testBit ·) = cn := ⟨_, rfl⟩
      rw [hcn] at hO
      have HO := Lib.hid hO
      have HCN : Hid (cnt7 m = cn) := hcn
      have HM := Lib.hid hm
      have hall : (List.range k).all (okAt n l) = true := by rw [List.all_eq_true]; intro i hi; exact HP.out i (List.mem_range.1 hi)
      have HA := Lib.hid hall
      clear hO hcn hm hall
      go_wp2_with (go_at_call 99; refine (HO.out _).mono ?_; rintro e w' ⟨rfl, rfl⟩)
      go_ret
      exact ⟨ret_bool (by rw [HBL.out, HA.out, HM.out, HCN.out, Bool.true_and]), rfl⟩
end Go.Proofs.Ytambhhjbafefgaa

/- IsBlock, members, blockFor, widthOf. -/
namespace Go.Proofs.Ytambhhjbafefgaa
set_option linter.unusedVariables false
open Go.RowKit

set_option maxRecDepth 100000 in
set_option maxHeartbeats 2000000 in
theorem IsBlock_any (C : List (List Int)) (a b : Option Addr) (cap cb q : Nat) (wd : Int) (l : List Int) (w : World) (h : Tbl w a C) (hn : C.length ≤ 1000) (hr : ∀ row ∈ C, row.length ≤ 1000) (hl : Row w b q (intL l)) (hq : q ≤ 1000) :
    Calls Try.prog 44 #[.slice a C.length cap, .int .i64 wd, .slice b q cb] w fun e w' => e = .returned (.tuple #[.bool (costsB C && blockB C wd l), .int .i64 (if costsB C then 0 else 2)]) ∧ w = w' := by
  have hC := fun w' h => isCosts_any a cap C w' h hn hr
  have HC := Lib.hid hC
  have H := Lib.hid h
  have HL := Lib.hid hl
  clear hC
  cases hw : costsB C with
  | false =>
    have HW := Lib.hid hw
    clear hw h hl
    go_enter Try.func44, Try.ntmps44
    go_wp2_with (go_at_call 53; refine (HC.out _ H.out).mono ?_; rintro e w' ⟨rfl, rfl⟩; rw [HW.out])
    go_ret2
    exact ⟨rfl, rfl⟩
  | true =>
    obtain ⟨hRc, hp⟩ := Rect.of_costs hw
    have hB := fun w' h hl => isBlock_any C a b cap cb C.length q wd l w' hRc rfl h hl hq
    obtain ⟨t, ht⟩ : ∃ t, blockB C wd l = t := ⟨_, rfl⟩
    rw [ht] at hB ⊢
    have HB := Lib.hid hB
    have HW := Lib.hid hw
    clear hw h hB hRc hl ht
    go_enter Try.func44, Try.ntmps44
    go_wp2_with (first
      | (go_at_call 53; refine (HC.out _ H.out).mono ?_; rintro e w' ⟨rfl, rfl⟩; rw [HW.out])
      | (go_at_call 79; refine (HB.out _ H.out HL.out).mono ?_; rintro e w' ⟨rfl, rfl⟩))
    go_ret2
    exact ⟨rfl, rfl⟩

def memTo (s k : Nat) : List Int := ((List.range k).filter (s.testBit ·)).map fun i : Nat => (i : Int)
def membersL (s : Nat) : List Int := memTo s (Lib.bitLen s)
theorem memTo_succ (s k : Nat) : memTo s (k + 1) = memTo s k ++ if s.testBit k then [(k : Int)] else [] := by
  unfold memTo
  rw [List.range_succ, List.filter_append, List.map_append]
  congr 1
  rw [List.filter_cons]
  cases s.testBit k <;> rfl
theorem memTo_le (s : Nat) : ∀ k, (memTo s k).length ≤ k := fun k => by unfold memTo; rw [List.length_map]; exact Nat.le_trans (List.length_filter_le _ _) (by simp)
theorem bitLen_le : ∀ s : Fin 128, Lib.bitLen s.1 ≤ 7 := by decide +kernel

set_option maxRecDepth 100000 in
set_option maxHeartbeats 4000000 in
theorem members_any (s : Nat) (hs : s < 128) (w : World) :
    Calls Try.prog 98 #[.int .i64 s] w fun e w' => ∃ v, e = .returned v ∧ w'.ownsRow w.heap.size 3 1 v (membersL s).length (intL (membersL s)) ∧ Below w.heap.size w w' := by
  have hu := u64_small ⟨s, hs⟩
  simp only at hu
  have hbl := bitLen_le ⟨s, by omega⟩
  simp only at hbl
  obtain ⟨B, hB⟩ : ∃ B, Lib.bitLen s = B := ⟨_, rfl⟩
  have hL := fun w' => Any.bits_Len Try.lays125 s w' (by omega) (by omega)
  simp only [Int.toNat_natCast, hB] at hL
  rw [hB] at hbl
  have HL := Lib.hid hL
  have HB := Lib.hid hB
  obtain ⟨i0, hi, hz0, hz1, hz2⟩ := info_parts info_int
  clear hL hB
  go_enter Try.func98, Try.ntmps98
  go_wp2_with (go_at_call 107; refine (HL.out _).mono ?_; rintro e w' ⟨rfl, rfl⟩)
  go_loopw [3, 8] (fun v i wr => ∃ k : Nat, k ≤ B ∧ i = .int .i64 k ∧ wr.ownsRow w'.heap.size 3 1 v (memTo s k).length (intL (memTo s k)) ∧ Below w'.heap.size w' wr) (fun _ i _ => B - (intOf i).toNat)
  case atStart => exact ⟨0, Nat.zero_le _, rfl, World.ownsRow_nil _ _ _ _, Below.refl _ _⟩
  case round =>
    obtain ⟨k, hk, rfl, hown, hBe⟩ := hrel
    by_cases hlt : k < B
    · have hc : (k : Int) < B := by omega
      have ha := and_fin ⟨s, hs⟩ ⟨k, by omega⟩
      simp only at ha
      have hml := memTo_le s k
      have hsucc := memTo_succ s k
      cases htb : s.testBit k with
      | false =>
        rw [htb] at ha
        rw [htb, if_neg (by simp), List.append_nil] at hsucc
        have HS := Lib.hid hsucc
        clear hsucc htb
        go_wp2
        go_roundw
        case rel => exact ⟨k + 1, by omega, by go_num, by rw [HS.out]; exact hown, hBe⟩
        case measure => simp [intOf]; omega
      | true =>
        rw [htb] at ha
        rw [htb, if_pos rfl] at hsucc
        have HS := Lib.hid hsucc
        have hc3 : Hid ((memTo s k).length + 1 ≤ maxLen) := by unfold Hid maxLen; omega
        have hc4 : Hid (((memTo s k).length + 1) * 8 ≤ 140737488355328) := by unfold Hid; omega
        have HO := Lib.hid (hown.alloc (.cells #[.int .i64 k] 3))
        have HBe := Lib.hid hBe
        have Hown := Lib.hid hown
        clear hsucc htb hml hown hBe
        go_wp2_with (at_builtin; refine wpList_append_own _ rfl _ _ 24 rfl w'.heap.size 3 i0 (.int .i64 0) 1 8 Try.underlying24 hi hz0 hz1 hz2 rfl (by decide) _ _ _ rfl HO.out ⟨wr.heap.size, 0, none⟩ 1 1 [.int .i64 k] rfl rfl (cell_one_new _ _ _) (by simp [Value.oneCell']) hc3.out hc4.out (by have := HBe.out.size; simp; omega) ?_; intro v' w5 hown' hgrow _)
        have hB5 := rel_push HBe.out (by have := HBe.out.size; simp; omega) ((Below.refl _ wr).alloc HBe.out.size (.cells #[.int .i64 k] 3)) Hown.out hgrow
        have ho5 : w5.ownsRow w'.heap.size 3 1 v' (memTo s (k + 1)).length (intL (memTo s (k + 1))) := by
          rw [HS.out, List.length_append]
          unfold intL at hown' ⊢
          rw [List.map_append]; exact hown'
        have HB5 := Lib.hid hB5
        have HO5 := Lib.hid ho5
        clear hown' hgrow hB5 ho5
        go_wp2
        go_roundw
        case rel => exact ⟨k + 1, by omega, by go_num, HO5.out, HB5.out⟩
        case measure => simp [intOf]; omega
    · obtain rfl : k = B := by omega
      have hc : ¬ (k : Int) < k := by omega
      go_wp2
      go_ret
      exact ⟨_, rfl, by unfold membersL; rw [HB.out]; exact hown, hBe⟩
end Go.Proofs.Ytambhhjbafefgaa

/- blockFor, widthOf. -/
namespace Go.Proofs.Ytambhhjbafefgaa
set_option linter.unusedVariables false
open Go.RowKit

theorem two_pow7 : ∀ n : Fin 8, wrap64 (2 ^ n.1) = ((2 ^ n.1 : Nat) : Int) ∧ 2 ^ n.1 ≤ 128 := by decide +kernel
def BlockRes (C : List (List Int)) (wd : Int) (l : List Int) : Prop := blockB C wd l = true ∨ (l = [] ∧ ∀ s, s < 2 ^ C.length → blockB C wd (membersL s) = false)

def BlockPost (C : List (List Int)) (wd : Int) (w : World) (e : Ending) (w' : World) : Prop := ∃ v l, e = .returned v ∧ w'.ownsRow w.heap.size 3 1 v l.length (intL l) ∧ BlockRes C wd l ∧ Below w.heap.size w w'

set_option maxRecDepth 100000 in
set_option maxHeartbeats 4000000 in
theorem blockFor_any (C : List (List Int)) (a : Option Addr) (cap n : Nat) (wd : Int) (w : World) (hR : Rect C n) (hn : C.length = n) (h : Tbl w a C) :
    Calls Try.prog 78 #[.slice a n cap, .int .i64 wd] w (BlockPost C wd w) := by
  have hn7 := hR.n7
  rw [hn] at hn7
  obtain ⟨hp1, hp2⟩ := two_pow7 ⟨n, by omega⟩
  simp only at hp1 hp2
  obtain ⟨N, hN⟩ : ∃ N, 2 ^ n = N := ⟨_, rfl⟩
  have hp0 : wrap64 (2 ^ n) = (N : Int) := by rw [← hN]; exact hp1
  rw [hN] at hp2
  have hB := fun b cb q l w' h hl hq => isBlock_any C a b cap cb n q wd l w' hR hn h hl hq
  have HB := Lib.hid hB
  have H := Lib.hid h
  have HN : Hid (∀ s, s < 2 ^ C.length → s < N) := fun s hs => by rw [← hN, ← hn]; exact hs
  clear hB h hR hn hp1 hN
  go_enter Try.func78, Try.ntmps78
  go_wp2
  rw [hp0]
  clear hp0
  go_loopw [10] (fun i wr => ∃ k : Nat, k ≤ N ∧ i = .int .i64 k ∧ Below w.heap.size w wr ∧ Hid (∀ s, s < k → blockB C wd (membersL s) = false)) (fun i _ => N - (intOf i).toNat)
  case atStart => exact ⟨0, Nat.zero_le _, rfl, Below.refl _ _, fun s hs => absurd hs (by omega)⟩
  case round =>
    obtain ⟨k, hk, rfl, hBe, HP⟩ := hrel
    by_cases hlt : k < N
    · have hc : (k : Int) < N := by omega
      have hml : (membersL k).length ≤ 7 := Nat.le_trans (memTo_le _ _) (bitLen_le ⟨k, by omega⟩)
      obtain ⟨l, hl⟩ : ∃ l, membersL k = l := ⟨_, rfl⟩
      have hM := fun w' => members_any k (by omega) w'
      rw [hl] at hM hml
      have HM := Lib.hid hM
      have Hl := Lib.hid hl
      have HBe := Lib.hid hBe
      clear hM hl hBe
      cases hbb : blockB C wd l with
      | true =>
        have HBB := Lib.hid hbb
        clear hbb
        go_wp2_with (first
          | (go_at_call 98; refine (HM.out _).mono ?_; rintro e w1 ⟨v, rfl, ho, b1⟩; obtain ⟨ra, rc, rfl, hrc, hRw⟩ := own_slice ho; have HO := Lib.hid ho; have HRw := Lib.hid hRw; have Hb1 := Lib.hid b1; clear ho hRw b1 hrc)
          | (go_at_call 79; refine (HB.out _ _ _ _ _ (H.out.below (b_next HBe.out Hb1.out)) HRw.out (by omega)).mono ?_; rintro e w' ⟨rfl, rfl⟩; rw [HBB.out]))
        go_ret
        exact ⟨_, l, rfl, own_base HO.out HBe.out.size, .inl HBB.out, b_next HBe.out Hb1.out⟩
      | false =>
        have HBB := Lib.hid hbb
        have HP2 : Hid (∀ s, s < k + 1 → blockB C wd (membersL s) = false) := fun s hs => by
          by_cases e : s = k
          · rw [e, Hl.out]; exact hbb
          · exact HP.out s (by omega)
        clear hbb
        go_wp2_with (first
          | (go_at_call 98; refine (HM.out _).mono ?_; rintro e w1 ⟨v, rfl, ho, b1⟩; obtain ⟨ra, rc, rfl, hrc, hRw⟩ := own_slice ho; have HO := Lib.hid ho; have HRw := Lib.hid hRw; have Hb1 := Lib.hid b1; clear ho hRw b1 hrc)
          | (go_at_call 79; refine (HB.out _ _ _ _ _ (H.out.below (b_next HBe.out Hb1.out)) HRw.out (by omega)).mono ?_; rintro e w' ⟨rfl, rfl⟩; rw [HBB.out]))
        go_roundw
        case rel => exact ⟨k + 1, by omega, by go_num, b_next HBe.out Hb1.out, HP2.out⟩
        case measure => simp [intOf]; omega
    · obtain rfl : k = N := by omega
      have hc : ¬ (k : Int) < k := by omega
      go_wp2
      go_ret
      exact ⟨_, [], rfl, World.ownsRow_nil _ _ _ _, .inr ⟨rfl, fun s hs => HP.out s (HN.out s hs)⟩, hBe⟩

/-- the width of a way -/
def widthTo (C : List (List Int)) (x : Way) : Nat → Int
  | 0 => -1000
  | k + 1 => max (widthTo C x k) ((C.getD k []).getD (x.at k).toNat 0)

set_option maxRecDepth 100000 in
set_option maxHeartbeats 4000000 in
theorem widthOf_any (C : List (List Int)) (a : Option Addr) (cap n : Nat) (x : Way) (w : World) (hR : Rect C n) (hn : C.length = n) (hx : ∀ i, i < n → ∃ j : Nat, j < n ∧ x.at i = j) (h : Tbl w a C) :
    Calls Try.prog 77 #[.slice a n cap, wayV x] w fun e w' => e = .returned (.int .i64 (widthTo C x n)) ∧ Below w.heap.size w w' := by
  have hn7 := hR.n7
  rw [hn] at hn7
  have H := Lib.hid h
  have HR := Lib.hid hR
  have HN := Lib.hid hn
  have HX := Lib.hid hx
  clear h hR hn hx
  unfold wayV
  go_enter Try.func77, Try.ntmps77
  go_wp2
  generalize hw4 : w.alloc (.cells #[.int .i64 x.a, .int .i64 x.b, .int .i64 x.c, .int .i64 x.d, .int .i64 x.e, .int .i64 x.f, .int .i64 x.g, .int .i64 x.t] 70) = w4
  have hb0 : w4.heap[w.heap.size]? = some (.cells (wayA x) 70 (0, 0)) := by rw [← hw4]; exact heap_alloc_new _ _
  have hB4 : Below w.heap.size w w4 := by rw [← hw4]; exact below_alloc _ _
  have Hb0 := Lib.hid hb0
  have HB4 := Lib.hid hB4
  clear hw4 hb0 hB4
  go_loop [5, 10] (fun t i => ∃ k : Nat, k ≤ n ∧ i = .int .i64 k ∧ t = .int .i64 (widthTo C x k)) (fun _ i => n - (intOf i).toNat)
  case atStart => exact ⟨0, Nat.zero_le _, rfl, rfl⟩
  case round =>
    obtain ⟨k, hk, rfl, rfl⟩ := hrel
    by_cases hlt : k < n
    · have hc : (k : Int) < n := by omega
      obtain ⟨row, hrow⟩ : ∃ row, C[k]? = some row := ⟨_, List.getElem?_eq_getElem (by have := HN.out; omega)⟩
      have hrm := HR.out.len row (List.mem_of_getElem? hrow)
      obtain ⟨g, ra, rc, hga, hg, hcell, hrc, hRow⟩ := (H.out.below HB4.out).row hrow
      subst hga
      rw [hrm] at hcell hRow hrc
      obtain ⟨j, hj, hat⟩ := HX.out k hlt
      obtain ⟨g2, rfl, cj⟩ := hRow.int hj
      have s1 : w4.cell? ⟨w.heap.size, k, none⟩ = some (.int .i64 j) := by rw [at_cell Hb0.out (by omega), hat]
      obtain ⟨c, hcc⟩ : ∃ c, row.getD j 0 = c := ⟨_, rfl⟩
      have hnext : widthTo C x (k + 1) = max (widthTo C x k) c := by
        rw [widthTo, hat, Int.toNat_natCast, List.getD_eq_getElem?_getD (l := C), hrow, Option.getD_some, hcc]
      rw [hcc] at cj
      have HNX := Lib.hid hnext
      have hjn : (j : Int) < n := by omega
      have hc7 : (k : Int) < 7 := by omega
      clear hrow hrm hRow hnext hat hcc
      go_wp2
      go_round
      case rel => exact ⟨k + 1, by omega, by go_num, by rw [HNX.out]⟩
      case measure => simp [intOf]; omega
    · obtain rfl : k = n := by omega
      have hc : ¬ (k : Int) < k := by omega
      go_wp2
      go_ret
      exact ⟨rfl, HB4.out⟩
end Go.Proofs.Ytambhhjbafefgaa

/- The contract of the iterator pairs: all pairs, row by row. -/
namespace Go.Proofs.Ytambhhjbafefgaa
set_option linter.unusedVariables false
open Go.RowKit Go.Shelf
attribute [local go_sem] Oper.semAt_some

/-- a button and a hole -/
abbrev Pr (n : Nat) := { p : Nat × Nat // p.1 < n ∧ p.2 < n }
/-- the first k pairs -/
def pairsTo (n k : Nat) : List (Pr n) := (List.range k).filterMap fun t => if h : t / n < n ∧ t % n < n then some ⟨(t / n, t % n), h⟩ else none
def allPairs (n : Nat) : List (Pr n) := pairsTo n (n * n)
theorem pairsTo_succ {n i j : Nat} (hi : i < n) (hj : j < n) : pairsTo n (i * n + j + 1) = pairsTo n (i * n + j) ++ [⟨(i, j), hi, hj⟩] := by
  unfold pairsTo
  rw [List.range_succ, List.filterMap_append]
  have h1 : (i * n + j) / n = i := by rw [Nat.add_comm, Nat.add_mul_div_right _ _ (by omega), Nat.div_eq_of_lt hj]; omega
  have h2 : (i * n + j) % n = j := by rw [Nat.add_comm, Nat.add_mul_mod_self_right, Nat.mod_eq_of_lt hj]
  congr 1
  simp only [List.filterMap_cons, List.filterMap_nil]
  have h : (i * n + j) / n < n ∧ (i * n + j) % n < n := by rw [h1, h2]; exact ⟨hi, hj⟩
  rw [dif_pos h]
  simp only
  congr 1
  exact Subtype.ext (Prod.ext h1 h2)
theorem pairsTo_len (n k : Nat) : (pairsTo n k).length ≤ k := by
  unfold pairsTo
  exact Nat.le_trans (List.length_filterMap_le _ _) (by simp)
theorem pairsTo_prefix (n k f : Nat) : pairsTo n k <+: pairsTo n (k + f) := by
  unfold pairsTo
  rw [List.range_add, List.filterMap_append]
  exact List.prefix_append _ _

def Kept1 (Be : Nat) (A B : World) : Prop := B.heap[Be]? = A.heap[Be]?
theorem kept1_t {Be : Nat} {A B C : World} (h : Kept1 Be A B) (k : Kept1 Be B C) : Kept1 Be A C := Eq.trans k h
theorem kept1_b {Be : Nat} {w : World} (h1 : Be < w.heap.size) (W : World) (l : Nat) (o o' : Obj) (hl : w.heap.size ≤ l) (_ : W.heap[l]? = some o) (_ : o.isCells = false) (_ : o.isWalk = false) : Kept1 Be W (W.putObj l o') :=
  World.putObj_heap_other (by omega)
theorem drewN_grown {W : World} {n : Nat} {row : Option Nat} : W.grownBy (W.drewN n) row := ⟨rfl, rfl, rfl, Nat.le_refl _, fun _ _ _ => rfl⟩

set_option maxRecDepth 100000 in
set_option maxHeartbeats 4000000 in
theorem pairs1_in (n : Nat) (hn : 1 ≤ n) (N : Nat) (hN : N ≤ 7) (l Be : Nat) (J Jx : List (Pr N) → World → Prop)
    (W0 : Nat) (hJ : AbidesFrom W0 J)
    (hY : ∀ pre x W, J pre W → pre.length < N * N → YieldAt Fence.wide (n - 1) Try.prog l #[.agg #[.int .i64 x.1.1, .int .i64 x.1.2]] W fun e' W' =>
      (e' = .returned (.bool true) ∧ J (pre ++ [x]) W' ∧ Kept1 Be W W') ∨ (e' = .returned (.bool false) ∧ Jx (pre ++ [x]) W'))
    (W : World) (hBe : W.cell? ⟨Be, 0, none⟩ = some (.int .i64 N)) (h0 : J [] W) :
    CallsIn Fence.wide n Try.prog 102 #[.func (.yield l) #[] #[], .pointer (some ⟨Be, 0, none⟩)] W fun e' W' => (∃ v, e' = .returned v) ∧
      ((∃ ys, ys = allPairs N ∧ J ys W') ∨ (∃ pre, pre <+: allPairs N ∧ Jx pre W')) := by
  refine callsIn_of_wp Try.func102 rfl trivial ?_ rfl
  simp only [Try.ntmps102, List.size_toArray, List.length_cons, List.length_nil, Nat.reduceAdd, Nat.reduceSub, Array.replicate_succ, Array.replicate_zero, List.push_toArray, List.append_toArray, List.nil_append, List.cons_append]
  gi_wp2
  gi_loopw [6] (fun p wr => ∃ i : Nat, i ≤ N ∧ p = .int .i64 i ∧ J (pairsTo N (i * N)) wr ∧ wr.cell? ⟨Be, 0, none⟩ = some (.int .i64 N))
    (fun p _ => N - (intOf p).toNat)
  case atStart => exact ⟨0, Nat.zero_le _, rfl, by rw [Nat.zero_mul]; exact h0, hBe⟩
  case round =>
    clear h0 hBe
    obtain ⟨i, hi, rfl, hJs, hBe⟩ := hrel
    by_cases hlt : i < N
    · have hc : (i : Int) < N := by omega
      obtain ⟨wo, hwo⟩ : ∃ wo : World, wo = wr := ⟨_, rfl⟩
      subst hwo
      gi_wp2
      gi_loopw [10] (fun p wr => ∃ j : Nat, j ≤ N ∧ p = .int .i64 j ∧ J (pairsTo N (i * N + j)) wr ∧ wr.cell? ⟨Be, 0, none⟩ = some (.int .i64 N))
        (fun p _ => N - (intOf p).toNat)
      case atStart => exact ⟨0, Nat.zero_le _, rfl, hJs, hBe⟩
      case round =>
        clear hJs hBe
        obtain ⟨j, hj, rfl, hJs, hBe⟩ := hrel
        by_cases hlj : j < N
        · have hcj : (j : Int) < N := by omega
          have hsn := pairsTo_succ hlt hlj
          have hlen : (pairsTo N (i * N + j)).length < N * N := by
            have h1 := pairsTo_len N (i * N + j)
            have h2 : i * N + N ≤ N * N := by rw [← Nat.succ_mul]; exact Nat.mul_le_mul_right N hlt
            omega
          have hpre := pairsTo_prefix N (i * N + j + 1) (N * N - (i * N + j + 1))
          rw [show i * N + j + 1 + (N * N - (i * N + j + 1)) = N * N from by
            have h2 : i * N + N ≤ N * N := by rw [← Nat.succ_mul]; exact Nat.mul_le_mul_right N hlt
            omega] at hpre
          have Hsn := Lib.hid hsn
          have Hpre := Lib.hid hpre
          obtain ⟨fn, tmps, assign, body, hy, hR⟩ := hY _ ⟨(i, j), hlt, hlj⟩ wr hJs hlen
          clear hsn hlen hpre
          gi_wp2
          refine hR.mono ?_
          rintro e' W3 (⟨rfl, hJ3, hk3⟩ | ⟨rfl, hJx3⟩)
          · have hBe3 : W3.cell? ⟨Be, 0, none⟩ = some (.int .i64 N) := (World.cell?_of_block (a := ⟨Be, 0, none⟩) hk3).trans hBe
            gi_wp2
            go_roundw
            case rel => exact ⟨j + 1, by omega, by go_num, by rw [← Nat.add_assoc, Hsn.out]; exact hJ3, hBe3⟩
            case measure => simp [intOf]; omega
          · gi_wp2
            refine bodyPost_ret (results_none rfl _ _ _) rfl ?_
            exact ⟨⟨_, rfl⟩, .inr ⟨_, by rw [← Hsn.out]; exact Hpre.out, hJx3⟩⟩
        · obtain rfl : j = N := by omega
          have hcj : ¬ (j : Int) < j := by omega
          gi_wp2
          go_roundw
          case rel => exact ⟨i + 1, by omega, by go_num, by rw [Nat.succ_mul]; exact hJs, hBe⟩
          case measure => simp [intOf]; omega
    · obtain rfl : i = N := by omega
      have hc : ¬ (i : Int) < i := by omega
      gi_wp2
      go_end0
      exact ⟨⟨_, rfl⟩, .inl hJs⟩

set_option maxHeartbeats 1000000 in
theorem pairs_in (n : Nat) (N : Nat) (w : World) :
    CallsIn Fence.wide n Try.prog 81 #[.int .i64 N] w fun e' w' => e' = .returned (.func (.func 102) #[] #[.pointer (some ⟨w.heap.size, 0, none⟩)]) ∧
      w' = w.alloc (.cells #[.int .i64 N] 3) := by
  refine callsIn_of_wp Try.func81 rfl trivial ?_ rfl
  simp only [Try.ntmps81, List.size_toArray, List.length_cons, List.length_nil, Nat.reduceAdd, Nat.reduceSub, Array.replicate_succ, Array.replicate_zero, List.push_toArray, List.append_toArray, List.nil_append, List.cons_append]
  gi_wp2
  go_ret
  exact ⟨rfl, rfl⟩

theorem pairs_stops (n : Nat) (hn : 1 ≤ n) (N : Nat) (hN : N ≤ 7) (Be : Nat) (w : World) (hle : Be < w.heap.size) (hBe : w.cell? ⟨Be, 0, none⟩ = some (.int .i64 N)) :
    SeqStopsK Fence.wide n Try.prog 102 #[.pointer (some ⟨Be, 0, none⟩)] (fun x : Pr N => #[Value.agg #[.int .i64 x.1.1, .int .i64 x.1.2]]) (Kept1 Be) (fun ys => ys = allPairs N) (fun pre => pre <+: allPairs N) (N * N) w := fun l J Jx W hW hJ _ hY hj =>
  pairs1_in n hn N hN l Be J Jx W.heap.size hJ hY W ((hW.cell (p := ⟨Be, 0, none⟩) hle).trans hBe) hj
end Go.Proofs.Ytambhhjbafefgaa

/- The statements' own comparisons of lists and tables. -/
namespace Go.Proofs.Ytambhhjbafefgaa
set_option linter.unusedVariables false
open Go.RowKit

theorem take_ext {α : Type} {xs ys : List α} {k : Nat} {x y : α} (hx : xs[k]? = some x) (hy : ys[k]? = some y) : xs.take (k + 1) = ys.take (k + 1) ↔ xs.take k = ys.take k ∧ x = y := by
  rw [List.take_add_one, List.take_add_one, hx, hy]
  constructor
  · intro h
    have := List.append_inj' h (by simp)
    exact ⟨this.1, by simpa using this.2⟩
  · rintro ⟨h, rfl⟩; rw [h]

set_option maxHeartbeats 1000000 in
theorem ints_any (a b : Option Addr) (n m ca cb : Nat) (xs ys : List Int) (w : World) (ha : Row w a n (intL xs)) (hb : Row w b m (intL ys)) (hn : n ≤ 1000) (hm : m ≤ 1000) :
    Calls Try.prog 21 #[.slice a n ca, .slice b m cb] w fun e w' => e = .returned (.bool (decide (xs = ys))) ∧ ∃ q, w' = w.drewN q := by
  have hx : xs.length = n := by have := ha.1; simpa [intL] using this
  have hy : ys.length = m := by have := hb.1; simpa [intL] using this
  by_cases hnm : n = m
  · subst hnm
    have Hx := Lib.hid hx
    have Hy := Lib.hid hy
    have Ha := Lib.hid ha
    have Hb := Lib.hid hb
    clear hx hy ha hb
    go_enter Try.func21, Try.ntmps21
    go_wp2
    go_loopw [5] (fun i wr => ∃ k q : Nat, k ≤ n ∧ i = .int .i64 k ∧ Hid (xs.take k = ys.take k) ∧ wr = w.drewN q) (fun i _ => n - (intOf i).toNat)
    case atStart => exact ⟨0, 0, Nat.zero_le _, rfl, rfl, rfl⟩
    case round =>
      obtain ⟨k, q, hk, rfl, HP, rfl⟩ := hrel
      by_cases hlt : k < n
      · have hc : (k : Int) < n := by omega
        obtain ⟨x, hx⟩ : ∃ x, xs[k]? = some x := ⟨_, List.getElem?_eq_getElem (by have := Hx.out; omega)⟩
        obtain ⟨y, hy⟩ : ∃ y, ys[k]? = some y := ⟨_, List.getElem?_eq_getElem (by have := Hy.out; omega)⟩
        obtain ⟨g1, rfl, _, hg1⟩ := Ha.out.2 (by omega)
        obtain ⟨g2, rfl, _, hg2⟩ := Hb.out.2 (by omega)
        have c1 := hg1 k (Value.int .i64 x) (by simp [intL, hx])
        have c2 := hg2 k (Value.int .i64 y) (by simp [intL, hy])
        have hT := take_ext hx hy
        have HT := Lib.hid hT
        clear hx hy hg1 hg2 hT
        by_cases hxy : x = y
        · subst hxy
          go_wp2
          go_quiet (fail)
          go_wp2
          have hz := HT.out.2 ⟨HP.out, by trivial⟩
          go_roundw
          case rel => exact ⟨k + 1, _, by omega, by go_num, hz, rfl⟩
          case measure => simp [intOf]; omega
        · have h1 : (x == y) = false := by simp [hxy]
          have h2 : (x != y) = true := by simp [hxy]
          have Hxy := Lib.hid hxy
          clear hxy
          go_wp2
          go_quiet (fail)
          go_wp2
          go_ret
          exact ⟨ret_bool (by rw [decide_eq_false]; intro e; exact Hxy.out (HT.out.1 (by rw [e])).2), _, World.drewN_drewN _ _ _⟩
      · obtain rfl : k = n := by omega
        go_wp2
        go_ret
        exact ⟨ret_bool (by rw [decide_eq_true]; have h := HP.out; rwa [List.take_of_length_le (by have := Hx.out; omega), List.take_of_length_le (by have := Hy.out; omega)] at h), _, rfl⟩
  · have h1 : ¬ (n : Int) = m := by omega
    have h2 : ((n : Int) == m) = false := by rw [beq_eq_false_iff_ne]; exact h1
    have hne : ¬ xs = ys := fun e => hnm (by rw [← hx, ← hy, e])
    have Hne := Lib.hid hne
    clear hne h1 hx hy ha hb
    have Hnm := Lib.hid hnm
    clear hnm
    go_enter Try.func21, Try.ntmps21
    go_wp2
    go_ret
    exact ⟨ret_bool (by rw [decide_eq_false Hne.out]), 0, rfl⟩

theorem quiet_plus {P : Program} {f : FuncId} {args : Array Value} {w : World} {q n : Nat} {v : Value} (h : Calls P f args (w.drewN (q + n)) fun e w' => e = .returned v ∧ ∃ m, w' = (w.drewN (q + n)).drewN m) :
    Calls P f args (w.drewN (q + n)) fun e w'' => e = .returned v ∧ ∃ m, w'' = w.drewN (q + m) :=
  h.mono fun _ _ ⟨he, m, hm⟩ => ⟨he, n + m, by rw [hm, World.drewN_drewN, Nat.add_assoc]⟩

set_option maxRecDepth 100000 in
set_option maxHeartbeats 2000000 in
theorem tables_any (a b : Option Addr) (ca cb : Nat) (C D : List (List Int)) (w : World) (hA : Tbl w a C) (hB : Tbl w b D) (hl : C.length = D.length) (hn : C.length ≤ 1000) (hr : ∀ row ∈ C, row.length ≤ 1000) (hr2 : ∀ row ∈ D, row.length ≤ 1000) :
    Calls Try.prog 39 #[.slice a C.length ca, .slice b D.length cb] w fun e w' => e = .returned (.bool (decide (C = D))) ∧ ∃ q, w' = w.drewN q := by
  obtain ⟨n, hnn⟩ : ∃ n, C.length = n := ⟨_, rfl⟩
  have hD : D.length = n := by omega
  rw [hnn, hD]
  rw [hnn] at hn
  have HA := Lib.hid hA
  have HB := Lib.hid hB
  have HC := Lib.hid hnn
  have HD := Lib.hid hD
  have HR := Lib.hid hr
  have HR2 := Lib.hid hr2
  clear hA hB hnn hD hr hr2 hl
  go_enter Try.func39, Try.ntmps39
  go_wp2
  go_loopw [5] (fun i wr => ∃ k q : Nat, k ≤ n ∧ i = .int .i64 k ∧ Hid (C.take k = D.take k) ∧ wr = w.drewN q) (fun i _ => n - (intOf i).toNat)
  case atStart => exact ⟨0, 0, Nat.zero_le _, rfl, rfl, rfl⟩
  case round =>
    obtain ⟨k, q, hk, rfl, HP, rfl⟩ := hrel
    by_cases hlt : k < n
    · have hc : (k : Int) < n := by omega
      obtain ⟨x, hx⟩ : ∃ x, C[k]? = some x := ⟨_, List.getElem?_eq_getElem (by have := HC.out; omega)⟩
      obtain ⟨y, hy⟩ : ∃ y, D[k]? = some y := ⟨_, List.getElem?_eq_getElem (by have := HD.out; omega)⟩
      obtain ⟨g1, r1, rc1, rfl, _, c1, _, R1⟩ := HA.out.row hx
      obtain ⟨g2, r2, rc2, rfl, _, c2, _, R2⟩ := HB.out.row hy
      have hT := take_ext hx hy
      have HT := Lib.hid hT
      have hI := fun (W' : World) (hW : ∃ p, W' = w.drewN p) => ints_any r1 r2 x.length y.length rc1 rc2 x y W' (by obtain ⟨p, rfl⟩ := hW; exact R1.drewN p) (by obtain ⟨p, rfl⟩ := hW; exact R2.drewN p) (HR.out x (List.mem_of_getElem? hx)) (HR2.out y (List.mem_of_getElem? hy))
      clear hx hy hT R1 R2
      by_cases hxy : x = y
      · subst hxy
        rw [decide_eq_true rfl] at hI
        have HI := Lib.hid hI
        clear hI
        go_wp2
        go_quiet ((go_at_call 21; exact quiet_plus (HI.out _ ⟨_, rfl⟩)))
        go_wp2
        have hz := HT.out.2 ⟨HP.out, by trivial⟩
        go_roundw
        case rel => exact ⟨k + 1, _, by omega, by go_num, hz, rfl⟩
        case measure => simp [intOf]; omega
      · rw [decide_eq_false hxy] at hI
        have HI := Lib.hid hI
        have Hxy := Lib.hid hxy
        clear hI hxy
        go_wp2
        go_quiet ((go_at_call 21; exact quiet_plus (HI.out _ ⟨_, rfl⟩)))
        go_wp2
        go_ret
        exact ⟨ret_bool (by rw [decide_eq_false]; intro e; exact Hxy.out (HT.out.1 (by rw [e])).2), _, World.drewN_drewN _ _ _⟩
    · obtain rfl : k = n := by omega
      have hc : ¬ (k : Int) < k := by omega
      go_wp2
      go_ret
      exact ⟨ret_bool (by rw [decide_eq_true]; have h := HP.out; rwa [List.take_of_length_le (by have := HC.out; omega), List.take_of_length_le (by have := HD.out; omega)] at h), _, rfl⟩
end Go.Proofs.Ytambhhjbafefgaa
