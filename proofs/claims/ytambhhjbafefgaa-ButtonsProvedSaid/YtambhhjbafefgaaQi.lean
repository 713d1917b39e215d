/- Texts of buttons, joined: Hall, Rwid, Rblk, Nwm. -/
import Derived.Test.YtambhhjbafefgaaQa
import Derived.Test.YtambhhjbafefgaaQf
import Derived.Test.YtambhhjbafefgaaQc
import Derived.Test.YtambhhjbafefgaaQd
import Derived.Test.YtambhhjbafefgaaQb
import Derived.Test.YtambhhjbafefgaaQh
/- Hall's theorem: mathematics. -/
namespace Go.Proofs.Ytambhhjbafefgaa
set_option linter.unusedVariables false

theorem countP_orH {α : Type} (p q : α → Bool) (l : List α) : l.countP (fun x => p x || q x) = l.countP p + l.countP (fun x => !p x && q x) := by
  induction l with
  | nil => rfl
  | cons a l ih =>
    rw [List.countP_cons, List.countP_cons, List.countP_cons, ih]
    cases p a <;> cases q a <;> simp <;> omega
/-- every set of buttons has enough holes -/
def HallC (N : Nat → Nat → Bool) (bs hs : List Nat) : Prop := ∀ p : Nat → Bool, bs.countP p ≤ hs.countP fun h => bs.any fun b => p b && N b h
/-- the buttons go into different holes -/
def Matched (N : Nat → Nat → Bool) (bs hs : List Nat) : Prop := ∃ f : Nat → Nat, (∀ b ∈ bs, f b ∈ hs ∧ N b (f b) = true) ∧ ∀ b ∈ bs, ∀ b' ∈ bs, f b = f b' → b = b'
theorem any_congrH {α : Type} {l : List α} {p q : α → Bool} (h : ∀ x ∈ l, p x = q x) : l.any p = l.any q := by
  induction l with
  | nil => rfl
  | cons a l ih => rw [List.any_cons, List.any_cons, h a (by simp), ih fun x hx => h x (by simp [hx])]
theorem countP_erase_le (p : Nat → Bool) (l : List Nat) (h : Nat) : l.countP p ≤ (l.erase h).countP p + 1 := by
  by_cases hm : h ∈ l
  · have := (List.perm_cons_erase hm).countP_eq p
    rw [this, List.countP_cons]
    split <;> omega
  · rw [List.erase_of_not_mem hm]; omega
theorem hall (N : Nat → Nat → Bool) : ∀ (m : Nat) (bs hs : List Nat), bs.length ≤ m → bs.Nodup → hs.Nodup → HallC N bs hs → Matched N bs hs := by
  intro m
  induction m with
  | zero =>
    intro bs hs hl _ _ _
    obtain rfl : bs = [] := List.length_eq_zero_iff.1 (by omega)
    exact ⟨fun _ => 0, by simp, by simp⟩
  | succ m ih =>
    intro bs hs hl hnb hnh hH
    cases bs with
    | nil => exact ⟨fun _ => 0, by simp, by simp⟩
    | cons b bs =>
      have hbn : b ∉ bs := (List.nodup_cons.1 hnb).1
      have hnb' : bs.Nodup := (List.nodup_cons.1 hnb).2
      have hl' : bs.length ≤ m := by simp at hl; omega
      -- H, without b
      have hH' : ∀ p : Nat → Bool, bs.countP p ≤ hs.countP fun h => bs.any fun x => p x && N x h := fun p => by
        have h1 := hH fun x => !decide (x = b) && p x
        have h2 : (b :: bs).countP (fun x => !decide (x = b) && p x) = bs.countP p := by
          rw [List.countP_cons]
          simp only [decide_true, Bool.not_true, Bool.false_and, Bool.false_eq_true, if_false, Nat.add_zero]
          exact List.countP_congr fun x hx => by
            have : x ≠ b := fun e => hbn (e ▸ hx)
            rw [decide_eq_false this]; simp
        have h3 : (fun h => (b :: bs).any fun x => (!decide (x = b) && p x) && N x h) = fun h => bs.any fun x => p x && N x h := by
          funext h
          rw [List.any_cons]
          simp only [decide_true, Bool.not_true, Bool.false_and, Bool.false_or]
          exact any_congrH fun x hx => by
            have : x ≠ b := fun e => hbn (e ▸ hx)
            rw [decide_eq_false this]; simp
        rw [h2, h3] at h1
        exact h1
      by_cases hA : ∀ p : Nat → Bool, (∃ x ∈ bs, p x = true) → bs.countP p < hs.countP fun h => bs.any fun x => p x && N x h
      · -- b takes any hole
        have h1 := hH fun x => decide (x = b)
        have h2 : 1 ≤ (b :: bs).countP fun x => decide (x = b) := by rw [List.countP_cons]; simp
        have h3 : 0 < hs.countP fun h => (b :: bs).any fun x => decide (x = b) && N x h := by omega
        obtain ⟨h, hh, hN⟩ := List.countP_pos_iff.1 h3
        have hNb : N b h = true := by
          obtain ⟨x, _, hx⟩ := List.any_eq_true.1 hN
          rw [Bool.and_eq_true, decide_eq_true_eq] at hx
          exact hx.1 ▸ hx.2
        obtain ⟨f, hf1, hf2⟩ := ih bs (hs.erase h) hl' hnb' (hnh.erase h) fun p => by
          by_cases he : ∃ x ∈ bs, p x = true
          · have h4 := hA p he
            have h5 := countP_erase_le (fun h => bs.any fun x => p x && N x h) hs h
            omega
          · have : bs.countP p = 0 := List.countP_eq_zero.2 fun x hx hp => he ⟨x, hx, hp⟩
            omega
        refine ⟨fun x => if x = b then h else f x, fun x hx => ?_, fun x hx y hy e => ?_⟩
        · by_cases e : x = b
          · subst e; simp only [if_true]; exact ⟨hh, hNb⟩
          · simp only [if_neg e]
            rcases List.mem_cons.1 hx with h' | h'
            · exact absurd h' e
            · exact ⟨List.mem_of_mem_erase (hf1 x h').1, (hf1 x h').2⟩
        · have hne : ∀ z ∈ bs, f z ≠ h := fun z hz e => by
            have := (hf1 z hz).1
            rw [e] at this
            exact (List.Nodup.not_mem_erase hnh) this
          simp only at e
          rcases List.mem_cons.1 hx with rfl | hx'
          · rcases List.mem_cons.1 hy with rfl | hy'
            · rfl
            · have hyb : y ≠ x := fun e => hbn (e ▸ hy')
              rw [if_pos rfl, if_neg hyb] at e
              exact absurd e.symm (hne y hy')
          · have hxb : x ≠ b := fun e => hbn (e ▸ hx')
            rw [if_neg hxb] at e
            rcases List.mem_cons.1 hy with rfl | hy'
            · rw [if_pos rfl] at e
              exact absurd e (hne x hx')
            · have hyb : y ≠ b := fun e => hbn (e ▸ hy')
              rw [if_neg hyb] at e
              exact hf2 x hx' y hy' e
      · -- a tight set
        obtain ⟨p, hp0⟩ := Classical.not_forall.1 hA
        obtain ⟨⟨z, hz, hpz⟩, hp1⟩ := Classical.not_imp.1 hp0
        obtain ⟨NS, hNS⟩ : ∃ NS : Nat → Bool, NS = fun h => bs.any fun x => p x && N x h := ⟨_, rfl⟩
        rw [← hNS] at hp1
        have hS : (bs.filter p).length = bs.countP p := List.countP_eq_length_filter.symm
        have hR : (bs.filter fun x => !p x).length + (bs.filter p).length = bs.length := by
          have := List.length_eq_countP_add_countP p (l := bs)
          rw [← List.countP_eq_length_filter, ← List.countP_eq_length_filter]
          have h2 : bs.countP (fun x => !p x) = bs.countP (fun x => decide ¬p x = true) := by congr 1; funext x; simp
          omega
        have hSpos : 0 < (bs.filter p).length := List.length_pos_iff.2 (fun e => by have : z ∈ bs.filter p := List.mem_filter.2 ⟨hz, hpz⟩; rw [e] at this; cases this)
        obtain ⟨f1, hf1, hf1'⟩ := ih (bs.filter p) (hs.filter NS) (by omega) (hnb'.filter p) (hnh.filter NS) fun q => by
          have h1 := hH' fun x => p x && q x
          rw [List.countP_filter, List.countP_filter]
          have h2 : bs.countP (fun x => p x && q x) = bs.countP (fun x => q x && p x) := by congr 1; funext x; exact Bool.and_comm _ _
          rw [h2] at h1
          refine Nat.le_trans h1 (List.countP_mono_left fun h _ hh => ?_)
          obtain ⟨x, hx, hx2⟩ := List.any_eq_true.1 hh
          rw [Bool.and_eq_true, Bool.and_eq_true] at hx2
          rw [Bool.and_eq_true, hNS]
          exact ⟨List.any_eq_true.2 ⟨x, List.mem_filter.2 ⟨hx, hx2.1.1⟩, by rw [hx2.1.2, hx2.2]; rfl⟩, List.any_eq_true.2 ⟨x, hx, by rw [hx2.1.1, hx2.2]; rfl⟩⟩
        have hbf : b ∉ bs.filter fun x => !p x := fun h => hbn (List.mem_filter.1 h).1
        obtain ⟨f2, hf2, hf2'⟩ := ih (b :: bs.filter fun x => !p x) (hs.filter fun h => !NS h) (by rw [List.length_cons]; omega) (List.nodup_cons.2 ⟨hbf, hnb'.filter _⟩) (hnh.filter _) fun q => by
          have h1 := hH fun x => (decide (x ≠ b) && p x) || q x
          rw [countP_orH] at h1
          have h2 : (b :: bs).countP (fun x => decide (x ≠ b) && p x) = bs.countP p := by
            rw [List.countP_cons]
            simp only [ne_eq, not_true, decide_false, Bool.false_and, Bool.false_eq_true, if_false, Nat.add_zero]
            exact List.countP_congr fun x hx => by
              have : x ≠ b := fun e => hbn (e ▸ hx)
              simp [this]
          have h3 : (b :: bs).countP (fun x => !(decide (x ≠ b) && p x) && q x) = (b :: bs.filter fun x => !p x).countP q := by
            rw [List.countP_cons, List.countP_cons, List.countP_filter]
            congr 1
            · exact List.countP_congr fun x hx => by
                have : x ≠ b := fun e => hbn (e ▸ hx)
                simp [this, Bool.and_comm]
            · simp
          have h4 : (hs.countP fun h => (b :: bs).any fun x => ((decide (x ≠ b) && p x) || q x) && N x h) = hs.countP NS + (hs.filter fun h => !NS h).countP fun h => (b :: bs.filter fun x => !p x).any fun x => q x && N x h := by
            rw [List.countP_filter]
            have h5 := countP_orH NS (fun h => (b :: bs.filter fun x => !p x).any fun x => q x && N x h) hs
            have h6 : hs.countP (fun h => !NS h && (b :: bs.filter fun x => !p x).any fun x => q x && N x h) = hs.countP (fun h => ((b :: bs.filter fun x => !p x).any fun x => q x && N x h) && !NS h) := by congr 1; funext h; exact Bool.and_comm _ _
            rw [← h6, ← h5]
            refine List.countP_congr fun h _ => ?_
            rw [List.any_eq_true, Bool.or_eq_true, hNS, List.any_eq_true, List.any_eq_true]
            constructor
            · rintro ⟨x, hx, hx2⟩
              rw [Bool.and_eq_true, Bool.or_eq_true] at hx2
              by_cases hxp : x ∈ bs ∧ p x = true
              · exact .inl ⟨x, hxp.1, by rw [hxp.2, hx2.2]; rfl⟩
              · rcases hx2.1 with h7 | h7
                · rw [Bool.and_eq_true, decide_eq_true_eq] at h7
                  rcases List.mem_cons.1 hx with h8 | h8
                  · exact absurd h8 h7.1
                  · exact absurd ⟨h8, h7.2⟩ hxp
                · refine .inr ⟨x, ?_, by rw [h7, hx2.2]; rfl⟩
                  rcases List.mem_cons.1 hx with h8 | h8
                  · exact List.mem_cons.2 (.inl h8)
                  · refine List.mem_cons.2 (.inr (List.mem_filter.2 ⟨h8, ?_⟩))
                    cases h9 : p x with
                    | true => exact absurd ⟨h8, h9⟩ hxp
                    | false => rfl
            · rintro (⟨x, hx, hx2⟩ | ⟨x, hx, hx2⟩)
              · rw [Bool.and_eq_true] at hx2
                have hxb : x ≠ b := fun e => hbn (e ▸ hx)
                exact ⟨x, List.mem_cons.2 (.inr hx), by rw [decide_eq_true hxb, hx2.1, hx2.2]; rfl⟩
              · rw [Bool.and_eq_true] at hx2
                refine ⟨x, ?_, by rw [hx2.1, hx2.2, Bool.or_true]; rfl⟩
                rcases List.mem_cons.1 hx with h8 | h8
                · exact List.mem_cons.2 (.inl h8)
                · exact List.mem_cons.2 (.inr (List.mem_filter.1 h8).1)
          rw [h2, h3, h4] at h1
          omega
        refine ⟨fun x => if x ∈ bs.filter p then f1 x else f2 x, ?_, ?_⟩
        · intro x hx
          simp only
          by_cases hxS : x ∈ bs.filter p
          · rw [if_pos hxS]
            exact ⟨(List.mem_filter.1 (hf1 x hxS).1).1, (hf1 x hxS).2⟩
          · rw [if_neg hxS]
            have hxR : x ∈ b :: bs.filter fun x => !p x := by
              rcases List.mem_cons.1 hx with h8 | h8
              · exact List.mem_cons.2 (.inl h8)
              · refine List.mem_cons.2 (.inr (List.mem_filter.2 ⟨h8, ?_⟩))
                cases h9 : p x with
                | true => exact absurd (List.mem_filter.2 ⟨h8, h9⟩) hxS
                | false => rfl
            exact ⟨(List.mem_filter.1 (hf2 x hxR).1).1, (hf2 x hxR).2⟩
        · have hin : ∀ x ∈ b :: bs, x ∉ bs.filter p → x ∈ b :: bs.filter fun x => !p x := fun x hx hxS => by
            rcases List.mem_cons.1 hx with h8 | h8
            · exact List.mem_cons.2 (.inl h8)
            · refine List.mem_cons.2 (.inr (List.mem_filter.2 ⟨h8, ?_⟩))
              cases h9 : p x with
              | true => exact absurd (List.mem_filter.2 ⟨h8, h9⟩) hxS
              | false => rfl
          have hdis : ∀ x ∈ bs.filter p, ∀ y ∈ b :: bs.filter (fun x => !p x), f1 x ≠ f2 y := fun x hx y hy e => by
            have h1 := (List.mem_filter.1 (hf1 x hx).1).2
            have h2 := (List.mem_filter.1 (hf2 y hy).1).2
            rw [← e, h1] at h2
            cases h2
          intro x hx y hy e
          simp only at e
          by_cases hxS : x ∈ bs.filter p
          · rw [if_pos hxS] at e
            by_cases hyS : y ∈ bs.filter p
            · rw [if_pos hyS] at e
              exact hf1' x hxS y hyS e
            · rw [if_neg hyS] at e
              exact absurd e (hdis x hxS y (hin y hy hyS))
          · rw [if_neg hxS] at e
            by_cases hyS : y ∈ bs.filter p
            · rw [if_pos hyS] at e
              exact absurd e.symm (hdis y hyS x (hin x hx hxS))
            · rw [if_neg hyS] at e
              exact hf2' x (hin x hx hxS) y (hin y hy hyS) e
end Go.Proofs.Ytambhhjbafefgaa

/- The reference's Width and Narrow. -/
namespace Go.Proofs.Ytambhhjbafefgaa
set_option linter.unusedVariables false
open Go.RowKit

/-- the width of a row, so far -/
def wdL (C : List (List Int)) (r : List Int) : Nat → Int
  | 0 => -1000
  | k + 1 => max (wdL C r k) ((C.getD k []).getD (r.getD k 0).toNat 0)
theorem wdL_mono (C : List (List Int)) (r : List Int) {i j : Nat} (h : i ≤ j) : wdL C r i ≤ wdL C r j := by
  induction j with
  | zero => obtain rfl : i = 0 := by omega
            exact Int.le_refl _
  | succ j ih =>
    by_cases e : i = j + 1
    · subst e; exact Int.le_refl _
    · have := ih (by omega)
      show wdL C r i ≤ max (wdL C r j) _
      omega

set_option maxRecDepth 100000 in
set_option maxHeartbeats 4000000 in
theorem refWidth_any (C : List (List Int)) (a a2 : Option Addr) (cap n ca : Nat) (r : List Int) (w : World) (hR : Rect C n) (hn : C.length = n) (h1 : 1 ≤ n) (hx : ∀ x ∈ r, 0 ≤ x ∧ x < n) (h : Tbl w a C) (ha : Row w a2 n (intL r)) :
    Calls Try.prog 46 #[.slice a n cap, .slice a2 n ca] w fun e w' => e = .returned (.int .i64 (wdL C r n)) ∧ ∃ q, w' = w.drewN q := by
  have hl : r.length = n := by have := ha.1; simpa [intL] using this
  have hn7 := hR.m7
  -- a read of the cost of the pair k, r k
  have hrd : ∀ k, k < n → ∃ g1 g ra rc g2 j c, a2 = some ⟨g1, 0, none⟩ ∧ w.cell? ⟨g1, k, none⟩ = some (.int .i64 ((j : Nat) : Int)) ∧ a = some ⟨g, 0, none⟩ ∧ w.cell? ⟨g, k, none⟩ = some (.slice ra n rc) ∧ ra = some ⟨g2, 0, none⟩ ∧ j < n ∧ w.cell? ⟨g2, j, none⟩ = some (.int .i64 c) ∧ -1000 ≤ c ∧ c ≤ 1000 ∧ (C.getD k []).getD (r.getD k 0).toNat 0 = c := by
    intro k hk
    obtain ⟨x, hxk⟩ : ∃ x, r[k]? = some x := ⟨_, List.getElem?_eq_getElem (by omega)⟩
    obtain ⟨j, rfl⟩ : ∃ j : Nat, x = j := ⟨x.toNat, by have := hx x (List.mem_of_getElem? hxk); omega⟩
    have hj := hx j (List.mem_of_getElem? hxk)
    obtain ⟨g1, h1, hg1⟩ := ha.int hk
    have hgx : r.getD k 0 = j := by rw [List.getD_eq_getElem?_getD, hxk]; rfl
    rw [hgx] at hg1
    obtain ⟨row, hrow⟩ : ∃ row, C[k]? = some row := ⟨_, List.getElem?_eq_getElem (by omega)⟩
    obtain ⟨g, ra, rc, h2, hg, c1, _, R1⟩ := h.row hrow
    have hrl : row.length = n := hR.len row (List.mem_of_getElem? hrow)
    rw [hrl] at c1 R1
    obtain ⟨g2, h3, c2⟩ := R1.int (show j < n from by omega)
    have hcc := getD_bound (hR.cost row (List.mem_of_getElem? hrow)) j
    refine ⟨g1, g, ra, rc, g2, j, _, h1, hg1, h2, c1, h3, by omega, c2, hcc.1, hcc.2, ?_⟩
    rw [hgx, List.getD_eq_getElem?_getD (l := C), hrow]
    rfl
  have hin : ∀ k, -1000 ≤ wdL C r k ∧ (k ≤ n → wdL C r k ≤ 1000) := by
    intro k
    induction k with
    | zero => exact ⟨Int.le_refl _, fun _ => by show (-1000 : Int) ≤ 1000; omega⟩
    | succ k ih =>
      refine ⟨by unfold wdL; have := ih.1; omega, fun hk => ?_⟩
      obtain ⟨_, _, _, _, _, _, c, _, _, _, _, _, _, _, _, h5, h6⟩ := hrd k (by omega)
      have := ih.2 (by omega)
      unfold wdL
      rw [h6]
      omega
  have HRd := Lib.hid hrd
  have HIn := Lib.hid hin
  obtain ⟨g1, g, ra, rc, g2, j, c0, rfl, d1, rfl, d2, rfl, hj, d3, hc1, hc2, he⟩ := hrd 0 (by omega)
  have He := Lib.hid he
  have z1 : (0 : Int) < n := by omega
  have z2 : (j : Int) < n := by omega
  clear hrd hin hR hn hx h ha hl he
  go_enter Try.func46, Try.ntmps46
  go_wp2
  go_quiet (fail)
  go_wp2
  clear d1 d2 d3 z2 hj
  go_loopw [5, 6] (fun t i wr => ∃ k q : Nat, k ≤ n ∧ t = .int .i64 (max c0 (wdL C r k)) ∧ i = .int .i64 k ∧ wr = w.drewN q) (fun _ i _ => n - (intOf i).toNat)
  case atStart => exact ⟨0, _, Nat.zero_le _, by rw [show wdL C r 0 = -1000 from rfl, Int.max_eq_left hc1], rfl, rfl⟩
  case round =>
    obtain ⟨k, q, hk, rfl, rfl, rfl⟩ := hrel
    by_cases hlt : k < n
    · have hc : (k : Int) < n := by omega
      obtain ⟨g1', g', ra', rc', g2', j', c, e1, d1, e2, d2, e3, hj', d3, hc1', hc2', he⟩ := HRd.out k hlt
      simp only [Option.some.injEq, Addr.mk.injEq, and_true] at e1 e2
      subst e1 e2 e3
      have z2 : (j' : Int) < n := by omega
      have hnx : max c0 (wdL C r (k + 1)) = max (max c0 (wdL C r k)) c := by
        rw [show wdL C r (k + 1) = max (wdL C r k) ((C.getD k []).getD (r.getD k 0).toNat 0) from rfl, he]; omega
      obtain ⟨s, hs⟩ : ∃ s, max c0 (wdL C r k) = s := ⟨_, rfl⟩
      rw [hs] at hnx ⊢
      have Hn := Lib.hid hnx
      clear hnx hs he
      go_wp2
      go_quiet (fail)
      go_wp2
      go_roundw
      case rel => exact ⟨k + 1, _, by omega, by rw [Hn.out], by go_num, rfl⟩
      case measure => simp [intOf]; omega
    · obtain rfl : k = n := by omega
      have hc : ¬ (k : Int) < k := by omega
      have hfin : max c0 (wdL C r k) = wdL C r k := by
        have h2 := wdL_mono C r h1
        have h3 : c0 ≤ wdL C r 1 := by
          rw [show wdL C r 1 = max (-1000) ((C.getD 0 []).getD (r.getD 0 0).toNat 0) from rfl, He.out]; omega
        omega
      rw [hfin]
      go_wp2
      go_ret
      exact ⟨rfl, _, rfl⟩
/-- the narrower one of two rows -/
def nrStep (C : List (List Int)) (n : Nat) (b r : List Int) : List Int := if wdL C r n < wdL C b n then r else b

set_option maxRecDepth 100000 in
set_option maxHeartbeats 4000000 in
theorem refNarrow_any (C : List (List Int)) (a : Option Addr) (cap n : Nat) (w : World) (r0 : List Int) (hR : Rect C n) (hn : C.length = n) (h1 : 1 ≤ n) (h : Tbl w a C) (h0 : (allL n n)[0]? = some r0) :
    Calls Try.prog 45 #[.slice a n cap] w fun e w' => ∃ ra rc, e = .returned (.slice ra n rc) ∧ Row w' ra n (intL ((allL n n).foldl (nrStep C n) r0)) ∧ Below w.heap.size w w' := by
  have hn7 := hR.m7
  have hA := fun W => All_any n hn7 W
  have hlen := allL_len n hn7 n
  have h7 : (7 : Nat) ^ n ≤ 7 ^ 7 := Nat.pow_le_pow_right (by decide) hn7
  have hrows := allL_row n n
  generalize allL n n = L at *
  obtain ⟨c, hcl⟩ : ∃ c, L.length = c := ⟨_, rfl⟩
  have hc7 : c ≤ 823543 := by omega
  have hc0 : 0 < c := by rw [← hcl]; exact (List.getElem?_eq_some_iff.1 h0).1
  have hW := fun (r : List Int) (hr : ∀ x : Int, x ∈ r → 0 ≤ x ∧ x < (n : Int)) a3 rc W h ha => refWidth_any C a a3 cap n rc r W hR hn h1 hr h ha
  have HA := Lib.hid hA
  have HWd := Lib.hid hW
  have HR := Lib.hid hrows
  have H := Lib.hid h
  have HC := Lib.hid hcl
  have H0 := Lib.hid h0
  clear hA hW hrows hlen h7 h hR hcl h0
  go_enter Try.func45, Try.ntmps45
  go_wp2_with fail
  refine (HA.out _).mono ?_
  rintro e w1 ⟨v, rfl, hl, b1⟩
  obtain ⟨a9, cap9, rfl, hcap9, hcm9, ht9⟩ := hl.tbl
  have H1 := Lib.hid (H.out.below b1)
  have B1 := Lib.hid b1
  have HT9 := Lib.hid ht9
  clear hl b1 ht9
  rw [HC.out] at hcap9 ⊢
  obtain ⟨hrl0, hrb0⟩ := HR.out r0 (List.mem_of_getElem? H0.out)
  obtain ⟨g0, ra0, rc0, rfl, hg0, c10, hrc0, R0⟩ := HT9.out.row H0.out
  rw [hrl0] at c10 hrc0 R0
  have HR0 := Lib.hid R0
  have HRb0 := Lib.hid hrb0
  have HRl0 := Lib.hid hrl0
  have z1 : (0 : Int) < c := by omega
  clear R0 hrb0 hrl0
  go_wp2
  go_loopw [4, 5] (fun b i wr => ∃ (k q : Nat) (ra : Option Addr) (rc : Nat), k ≤ c ∧ b = .slice ra n rc ∧ i = .int .i64 k ∧ Hid (Row w1 ra n (intL ((L.take k).foldl (nrStep C n) r0)) ∧ (∀ x ∈ (L.take k).foldl (nrStep C n) r0, 0 ≤ x ∧ x < n)) ∧ wr = w1.drewN q) (fun _ i _ => c - (intOf i).toNat)
  case atStart => exact ⟨0, 0, ra0, rc0, Nat.zero_le _, rfl, rfl, ⟨HR0.out, HRb0.out⟩, rfl⟩
  case round =>
    obtain ⟨k, q, rb, cb, hk, rfl, rfl, HI, rfl⟩ := hrel
    by_cases hlt : k < c
    · have hc1 : (k : Int) < c := by omega
      obtain ⟨r, hr⟩ : ∃ r, L[k]? = some r := ⟨_, List.getElem?_eq_getElem (by have := HC.out; omega)⟩
      have hrm := List.mem_of_getElem? hr
      obtain ⟨hrl, hrb⟩ := HR.out r hrm
      obtain ⟨g, ra, rc, hg9, hg, c1, hrc, R1⟩ := HT9.out.row hr
      simp only [Option.some.injEq, Addr.mk.injEq, and_true] at hg9
      subst hg9
      rw [hrl] at c1 hrc R1
      have hT : (L.take (k + 1)).foldl (nrStep C n) r0 = nrStep C n ((L.take k).foldl (nrStep C n) r0) r := by rw [List.take_add_one, hr, List.foldl_append]; rfl
      obtain ⟨b, hb⟩ : ∃ b, (L.take k).foldl (nrStep C n) r0 = b := ⟨_, rfl⟩
      have hI := HI.out
      rw [hb] at hI hT
      have hw1 := HWd.out r hrb ra rc
      have hw2 := HWd.out b hI.2 rb cb
      rw [show nrStep C n b r = if wdL C r n < wdL C b n then r else b from rfl] at hT
      obtain ⟨x, hx⟩ : ∃ x, wdL C r n = x := ⟨_, rfl⟩
      obtain ⟨y, hy⟩ : ∃ y, wdL C b n = y := ⟨_, rfl⟩
      rw [hx] at hw1 hT
      rw [hy] at hw2 hT
      have HW1 := Lib.hid hw1
      have HW2 := Lib.hid hw2
      have HR1 := Lib.hid R1
      have HRb := Lib.hid hI.1
      have HIb := Lib.hid hI.2
      have HT := Lib.hid hT
      have Hrb := Lib.hid hrb
      clear hr hrm hrb hrl R1 hT hb hI hw1 hw2 hx hy HI
      go_wp2_with fail
      refine (HW1.out _ (H1.out.drewN q) (HR1.out.drewN q)).mono ?_
      rintro e w3 ⟨rfl, q3, rfl⟩
      go_wp2_with fail
      refine (HW2.out _ (H1.out.drewN _) (HRb.out.drewN _)).mono ?_
      rintro e w4 ⟨rfl, q4, rfl⟩
      have hT := HT.out
      by_cases hxy : x < y
      · rw [if_pos hxy] at hT
        have HT2 := Lib.hid hT
        clear hT
        go_wp2
        go_roundw
        case rel => exact ⟨k + 1, _, ra, rc, by omega, rfl, by go_num, ⟨by rw [HT2.out]; exact HR1.out, by rw [HT2.out]; exact Hrb.out⟩, rfl⟩
        case measure => simp [intOf]; omega
      · rw [if_neg hxy] at hT
        have HT2 := Lib.hid hT
        clear hT
        go_wp2
        go_roundw
        case rel => exact ⟨k + 1, _, rb, cb, by omega, rfl, by go_num, ⟨by rw [HT2.out]; exact HRb.out, by rw [HT2.out]; exact HIb.out⟩, rfl⟩
        case measure => simp [intOf]; omega
    · obtain rfl : k = c := by omega
      have hc1 : ¬ (k : Int) < k := by omega
      have htk : L.take k = L := List.take_of_length_le (by have := HC.out; omega)
      have hI := HI.out
      rw [htk] at hI
      have HI2 := Lib.hid hI
      clear hI HI htk
      go_wp2
      go_ret
      exact ⟨rb, ⟨cb, rfl⟩, HI2.out.1.drewN _, below_drewN B1.out _⟩
end Go.Proofs.Ytambhhjbafefgaa

/- The reference's Block. -/
namespace Go.Proofs.Ytambhhjbafefgaa
set_option linter.unusedVariables false
open Go.RowKit

/-- how many holes the buttons of a list may have -/
def nbrB (C : List (List Int)) (wd : Int) (l : List Int) (k j : Nat) : Bool := (List.range k).any fun i => decide ((C.getD (l.getD i 0).toNat []).getD j 0 ≤ wd)
theorem nbrB_succ (C : List (List Int)) (wd : Int) (l : List Int) (k j : Nat) : nbrB C wd l (k + 1) j = (nbrB C wd l k j || decide ((C.getD (l.getD k 0).toNat []).getD j 0 ≤ wd)) := by
  unfold nbrB; rw [List.range_succ, List.any_append]; simp
def okL (n : Nat) (l : List Int) (k : Nat) : Bool := (List.range k).all (okAt n l)
theorem okL_succ (n : Nat) (l : List Int) (k : Nat) : okL n l (k + 1) = (okL n l k && okAt n l k) := by
  unfold okL; rw [List.range_succ, List.all_append]; simp
theorem maskTo_bit (wd : Int) (row : List Int) (m j : Nat) : ∀ k, (maskTo wd row m k).testBit j = (m.testBit j || (decide (j < k) && decide (row.getD j 0 ≤ wd))) := by
  intro k
  induction k with
  | zero => simp [maskTo]
  | succ k ih =>
    unfold maskTo
    by_cases h : row.getD k 0 ≤ wd
    · rw [if_pos h, Nat.testBit_or, Nat.one_shiftLeft, Nat.testBit_two_pow, ih]
      by_cases e : k = j
      · subst e
        rw [decide_eq_true h]
        simp
      · have h2 : decide (j < k + 1) = decide (j < k) := decide_eq_decide.2 (by omega)
        rw [h2, decide_eq_false e, Bool.or_false]
    · rw [if_neg h, ih]
      by_cases e : k = j
      · subst e
        rw [decide_eq_false h]
        simp
      · have h2 : decide (j < k + 1) = decide (j < k) := decide_eq_decide.2 (by omega)
        rw [h2]
theorem maskAt_bit (C : List (List Int)) (wd : Int) (l : List Int) (j : Nat) : ∀ k, (maskAt C wd l k).testBit j = (decide (j < C.length) && nbrB C wd l k j) := by
  intro k
  induction k with
  | zero => simp [maskAt, nbrB]
  | succ k ih =>
    unfold maskAt
    rw [maskTo_bit, ih, nbrB_succ]
    cases decide (j < C.length) <;> simp
theorem countP_range_lt (p : Nat → Bool) {n m : Nat} (h : n ≤ m) : (List.range m).countP (fun j => decide (j < n) && p j) = (List.range n).countP p := by
  obtain ⟨d, rfl⟩ := Nat.exists_eq_add_of_le h
  rw [List.range_add, List.countP_append]
  have h1 : (List.range n).countP (fun j => decide (j < n) && p j) = (List.range n).countP p := List.countP_congr fun j hj => by
    rw [decide_eq_true (List.mem_range.1 hj), Bool.true_and]
  have h2 : ((List.range d).map (n + ·)).countP (fun j => decide (j < n) && p j) = 0 := by
    rw [List.countP_eq_zero]
    intro j hj
    obtain ⟨i, _, rfl⟩ := List.mem_map.1 hj
    rw [decide_eq_false (by omega)]
    simp
  omega
theorem okL_nonneg (n : Nat) (l : List Int) : ∀ k, okL n l k = true → ∀ i, i < k → 0 ≤ l.getD i 0 ∧ l.getD i 0 < n := by
  intro k
  induction k with
  | zero => intro _ i hi; omega
  | succ k ih =>
    intro h i hi
    rw [okL_succ, Bool.and_eq_true] at h
    by_cases e : i < k
    · exact ih h.1 i e
    · obtain rfl : i = k := by omega
      have h2 := h.2
      unfold okAt at h2
      rw [decide_eq_true_eq] at h2
      have h3 : -1 ≤ lastOf l i := by
        unfold lastOf
        by_cases e0 : i = 0
        · rw [if_pos e0]; omega
        · rw [if_neg e0]
          have := (ih h.1 (i - 1) (by omega)).1
          omega
      omega
/-- blocks, by counting -/
theorem blockB_eq {C : List (List Int)} (hn : C.length ≤ 7) (wd : Int) (l : List Int) : blockB C wd l = (okL C.length l l.length && decide ((List.range C.length).countP (nbrB C wd l l.length) < l.length)) := by
  unfold blockB okL cnt7
  congr 2
  rw [show ((List.range 7).countP fun j => (maskAt C wd l l.length).testBit j) = (List.range 7).countP (fun j => decide (j < C.length) && nbrB C wd l l.length j) from List.countP_congr fun j _ => by rw [maskAt_bit], countP_range_lt _ hn]

set_option maxRecDepth 100000 in
set_option maxHeartbeats 4000000 in
theorem refBlock_any (C : List (List Int)) (a a2 : Option Addr) (cap n ca m : Nat) (wd : Int) (l : List Int) (w : World) (hR : Rect C n) (hn : C.length = n) (h : Tbl w a C) (ha : Row w a2 m (intL l)) (hm : m ≤ 1000) :
    Calls Try.prog 47 #[.slice a n cap, .int .i64 wd, .slice a2 m ca] w fun e w' => e = .returned (.bool (blockB C wd l)) ∧ ∃ q, w' = w.drewN q := by
  have hl : l.length = m := by have := ha.1; simpa [intL] using this
  have hn7 := hR.m7
  have hbe := blockB_eq (C := C) (by omega) wd l
  rw [hl, hn] at hbe
  have HR := Lib.hid hR
  have HN := Lib.hid hn
  have H := Lib.hid h
  have Ha := Lib.hid ha
  have Hl := Lib.hid hl
  have Hbe := Lib.hid hbe
  clear hR hn h ha hl hbe
  go_enter Try.func47, Try.ntmps47
  go_wp2
  go_loopw [8] (fun i wr => ∃ k q : Nat, k ≤ m ∧ i = .int .i64 k ∧ Hid (okL n l k = true) ∧ wr = w.drewN q) (fun i _ => m - (intOf i).toNat)
  case atStart => exact ⟨0, 0, Nat.zero_le _, rfl, rfl, rfl⟩
  case round =>
    obtain ⟨k, q, hk, rfl, HP, rfl⟩ := hrel
    by_cases hlt : k < m
    · have hc : (k : Int) < m := by omega
      obtain ⟨x, hx⟩ : ∃ x, l.getD k 0 = x := ⟨_, rfl⟩
      obtain ⟨g1, rfl, hg1⟩ := Ha.out.int hlt
      rw [hx] at hg1
      have hS := okL_succ n l k
      rw [HP.out, Bool.true_and] at hS
      have hbad : okAt n l k = false → blockB C wd l = false := fun h => by
        rw [Hbe.out]
        have : okL n l m = false := by
          unfold okL
          rw [List.all_eq_false]
          exact ⟨k, List.mem_range.2 hlt, by rw [h]; simp⟩
        rw [this, Bool.false_and]
      have Hbad := Lib.hid hbad
      have HS := Lib.hid hS
      have Hx := Lib.hid hx
      clear hx hS hbad
      have hlast : -1 ≤ lastOf l k := by
        unfold lastOf
        by_cases e0 : k = 0
        · rw [if_pos e0]; omega
        · rw [if_neg e0]
          have := (okL_nonneg n l k HP.out (k - 1) (by omega)).1
          omega
      have hok : okAt n l k = decide (lastOf l k < x ∧ x < n) := by unfold okAt; rw [Hx.out]
      by_cases h0 : x < 0
      · have hb := Hbad.out (by rw [hok]; exact decide_eq_false (by omega))
        have Hb := Lib.hid hb
        have d0 : decide (x < 0) = true := decide_eq_true h0
        clear hb hok hlast h0
        go_wp2
        go_quiet (fail)
        go_wp2
        go_ret
        exact ⟨ret_bool Hb.out.symm, _, World.drewN_drewN _ _ _⟩
      · have d0 : decide (x < 0) = false := decide_eq_false h0
        by_cases h1 : (n : Int) ≤ x
        · have hb := Hbad.out (by rw [hok]; exact decide_eq_false (by omega))
          have Hb := Lib.hid hb
          have d1 : decide ((n : Int) ≤ x) = true := decide_eq_true h1
          clear hb hok hlast h0 h1
          go_wp2
          go_quiet (fail)
          go_wp2
          go_ret
          exact ⟨ret_bool Hb.out.symm, _, World.drewN_drewN _ _ _⟩
        · have d1 : decide ((n : Int) ≤ x) = false := decide_eq_false h1
          by_cases hk0 : k = 0
          · subst hk0
            have hlo : lastOf l 0 = -1 := rfl
            have hS := HS.out
            rw [hok, hlo, decide_eq_true (by omega)] at hS
            have HS2 := Lib.hid hS
            clear hok hlast hS hlo h0 h1
            go_wp2
            go_quiet (fail)
            go_wp2
            go_roundw
            case rel => exact ⟨1, _, by omega, by go_num, HS2.out, rfl⟩
            case measure => simp [intOf]; omega
          · obtain ⟨k', hkk⟩ : ∃ k', k = k' + 1 := ⟨k - 1, by omega⟩
            obtain ⟨y, hy⟩ : ∃ y, l.getD k' 0 = y := ⟨_, rfl⟩
            obtain ⟨g2, hg, hg2⟩ := Ha.out.int (show k' < m by omega)
            simp only [Option.some.injEq, Addr.mk.injEq, and_true] at hg
            subst hg
            rw [hy] at hg2
            have hlo : lastOf l k = y := by unfold lastOf; rw [if_neg hk0, hkk, Nat.add_sub_cancel, hy]
            rw [hlo] at hok hlast
            have hw1 : IntKind.i64.wrap ((k : Int) - 1) = (k' : Int) := by rw [IntWalk.i64_in _ (by omega)]; omega
            have dk : decide (0 < k) = true := decide_eq_true (by omega)
            have hkm : (k' : Int) < m := by omega
            by_cases hyx : x ≤ y
            · have hb := Hbad.out (by rw [hok]; exact decide_eq_false (by omega))
              have Hb := Lib.hid hb
              have dy : decide (x ≤ y) = true := decide_eq_true hyx
              clear hb hok hlast hlo hy hyx h0 h1 hk0 hkk
              go_wp2
              go_quiet (fail)
              go_wp2
              go_ret
              exact ⟨ret_bool Hb.out.symm, _, World.drewN_drewN _ _ _⟩
            · have hS := HS.out
              rw [hok, decide_eq_true (by omega)] at hS
              have HS2 := Lib.hid hS
              have dy : decide (x ≤ y) = false := decide_eq_false hyx
              clear hok hlast hS hlo hy hyx h0 h1 hk0 hkk
              go_wp2
              go_quiet (fail)
              go_wp2
              go_roundw
              case rel => exact ⟨k + 1, _, by omega, by go_num, HS2.out, rfl⟩
              case measure => simp [intOf]; omega
    · obtain rfl : k = m := by omega
      have hc : ¬ (k : Int) < k := by omega
      have hnn := okL_nonneg n l k HP.out
      have Hnn := Lib.hid hnn
      clear hnn
      go_wp2
      go_loopw [9, 10] (fun hs j wr => ∃ jj q : Nat, jj ≤ n ∧ hs = .int .i64 ((List.range jj).countP (nbrB C wd l k) : Nat) ∧ j = .int .i64 jj ∧ wr = w.drewN q) (fun _ j _ => n - (intOf j).toNat)
      case atStart => exact ⟨0, q, Nat.zero_le _, rfl, rfl, rfl⟩
      case round =>
        obtain ⟨j, q, hj, rfl, rfl, rfl⟩ := hrel
        by_cases hlt2 : j < n
        · have hc2 : (j : Int) < n := by omega
          have hcs : (List.range (j + 1)).countP (nbrB C wd l k) = (List.range j).countP (nbrB C wd l k) + if nbrB C wd l k j then 1 else 0 := by
            rw [List.range_succ, List.countP_append, List.countP_cons, List.countP_nil, Nat.zero_add]
          have hcl := List.countP_le_length (p := nbrB C wd l k) (l := List.range j)
          rw [List.length_range] at hcl
          obtain ⟨h, hh⟩ : ∃ h, (List.range j).countP (nbrB C wd l k) = h := ⟨_, rfl⟩
          rw [hh] at hcs hcl ⊢
          have Hcs := Lib.hid hcs
          clear hcs hh
          go_wp2
          go_loopw [11, 12] (fun s i wr => ∃ ii : Nat, ii ≤ k ∧ s = .bool (nbrB C wd l ii j) ∧ i = .int .i64 ii ∧ wr = w.drewN q) (fun _ i _ => k - (intOf i).toNat)
          case atStart => exact ⟨0, Nat.zero_le _, rfl, rfl, rfl⟩
          case round =>
            obtain ⟨i, hi, rfl, rfl, rfl⟩ := hrel
            by_cases hlt3 : i < k
            · have hc3 : (i : Int) < k := by omega
              obtain ⟨g1, rfl, hg1⟩ := Ha.out.int hlt3
              obtain ⟨x, hx⟩ : ∃ x, l.getD i 0 = x := ⟨_, rfl⟩
              have hxn := Hnn.out i hlt3
              rw [hx] at hg1 hxn
              obtain ⟨b, rfl⟩ : ∃ b : Nat, x = b := ⟨x.toNat, by omega⟩
              obtain ⟨row, hrow⟩ : ∃ row, C[b]? = some row := ⟨_, List.getElem?_eq_getElem (by have := HN.out; omega)⟩
              obtain ⟨g, ra, rc, rfl, hg, c1, _, R1⟩ := H.out.row hrow
              have hrl : row.length = n := HR.out.len row (List.mem_of_getElem? hrow)
              rw [hrl] at c1 R1
              obtain ⟨g2, rfl, c2⟩ := R1.int hlt2
              obtain ⟨c, hcv⟩ : ∃ c, row.getD j 0 = c := ⟨_, rfl⟩
              rw [hcv] at c2
              have hv : (C.getD (l.getD i 0).toNat []).getD j 0 = c := by rw [hx, Int.toNat_natCast, List.getD_eq_getElem?_getD (l := C), hrow]; exact hcv
              have hS : nbrB C wd l (i + 1) j = (nbrB C wd l i j || decide (c ≤ wd)) := by rw [nbrB_succ]; congr 1; exact decide_eq_decide.2 (by rw [hv])
              clear hv
              obtain ⟨s, hs⟩ : ∃ s, nbrB C wd l i j = s := ⟨_, rfl⟩
              rw [hs] at hS ⊢
              have hbn : (b : Int) < n := hxn.2
              have HS := Lib.hid hS
              clear hS hs hx hrow hrl R1 hcv hg hxn
              cases s with
              | true =>
                go_wp2
                go_roundw
                case rel => exact ⟨i + 1, by omega, by rw [HS.out]; rfl, by go_num, trivial⟩
                case measure => simp [intOf]; omega
              | false =>
                go_wp2
                go_roundw
                case rel => exact ⟨i + 1, by omega, by rw [HS.out]; rfl, by go_num, trivial⟩
                case measure => simp [intOf]; omega
            · obtain rfl : i = k := by omega
              have hc3 : ¬ (i : Int) < i := by omega
              have hcs := Hcs.out
              obtain ⟨s, hs⟩ : ∃ s, nbrB C wd l i j = s := ⟨_, rfl⟩
              rw [hs] at hcs ⊢
              cases s with
              | true =>
                rw [if_pos rfl] at hcs
                have Hc2 := Lib.hid hcs
                clear hcs hs
                go_wp2
                go_roundw
                case rel => exact ⟨j + 1, q, by omega, by rw [Hc2.out]; simp, by go_num, rfl⟩
                case measure => simp [intOf]; omega
              | false =>
                rw [if_neg (by simp), Nat.add_zero] at hcs
                have Hc2 := Lib.hid hcs
                clear hcs hs
                go_wp2
                go_roundw
                case rel => exact ⟨j + 1, q, by omega, by rw [Hc2.out]; rfl, by go_num, rfl⟩
                case measure => simp [intOf]; omega
        · obtain rfl : j = n := by omega
          have hc2 : ¬ (j : Int) < j := by omega
          have hbe := Hbe.out
          rw [HP.out, Bool.true_and] at hbe
          obtain ⟨h, hh⟩ : ∃ h, (List.range j).countP (nbrB C wd l k) = h := ⟨_, rfl⟩
          rw [hh] at hbe ⊢
          have Hb2 := Lib.hid hbe
          clear hbe hh
          by_cases hk0 : (k : Int) > 0
          · go_wp2
            go_ret
            refine ⟨ret_bool ?_, _, rfl⟩
            first
              | (rw [Hb2.out]; done)
              | (rw [Hb2.out]; exact decide_eq_decide.2 ⟨fun h => by omega, fun h => by omega⟩)
          · go_wp2
            go_ret
            refine ⟨ret_bool ?_, _, rfl⟩
            rw [Hb2.out, decide_eq_false (by omega)]
end Go.Proofs.Ytambhhjbafefgaa

/- There is a block below the smallest width; program and reference find the same narrowest assignment: mathematics. -/
namespace Go.Proofs.Ytambhhjbafefgaa
set_option linter.unusedVariables false

theorem mask_of (p : Nat → Bool) : ∀ n, ∃ s, s < 2 ^ n ∧ ∀ i, s.testBit i = (decide (i < n) && p i) := by
  intro n
  induction n with
  | zero => exact ⟨0, by decide, fun i => by simp⟩
  | succ n ih =>
    obtain ⟨s, h1, h2⟩ := ih
    have h3 : (2 : Nat) ^ n < 2 ^ (n + 1) := Nat.pow_lt_pow_right (by decide) (by omega)
    cases hp : p n with
    | true =>
      refine ⟨s ||| 1 <<< n, Nat.or_lt_two_pow (Nat.lt_trans h1 h3) (by rw [Nat.one_shiftLeft]; exact h3), fun i => ?_⟩
      rw [bit_or, h2 i]
      by_cases e : n = i
      · subst e; simp [hp]
      · rw [decide_eq_false e, Bool.or_false]
        congr 1
        exact decide_eq_decide.2 (by omega)
    | false =>
      refine ⟨s, Nat.lt_trans h1 h3, fun i => ?_⟩
      rw [h2 i]
      by_cases e : n = i
      · subst e; simp [hp]
      · congr 1
        exact decide_eq_decide.2 (by omega)
theorem members7 : ∀ s : Fin 128, membersL s.1 = ((List.range 7).filter fun j => s.1.testBit j).map fun j : Nat => (j : Int) := by decide +kernel
theorem range_filter_lt (p : Nat → Bool) {n m : Nat} (h : n ≤ m) : (List.range m).filter (fun j => decide (j < n) && p j) = (List.range n).filter p := by
  obtain ⟨d, rfl⟩ := Nat.exists_eq_add_of_le h
  rw [List.range_add, List.filter_append]
  have h1 : (List.range n).filter (fun j => decide (j < n) && p j) = (List.range n).filter p := List.filter_congr fun j hj => by
    rw [decide_eq_true (List.mem_range.1 hj), Bool.true_and]
  have h2 : ((List.range d).map (n + ·)).filter (fun j => decide (j < n) && p j) = [] := by
    rw [List.filter_eq_nil_iff]
    intro j hj
    obtain ⟨i, _, rfl⟩ := List.mem_map.1 hj
    rw [decide_eq_false (by omega)]
    simp
  rw [h1, h2, List.append_nil]
theorem any_getD (g : Int → Bool) (l : List Int) : ((List.range l.length).any fun i => g (l.getD i 0)) = l.any g := by
  rw [Bool.eq_iff_iff, List.any_eq_true, List.any_eq_true]
  constructor
  · rintro ⟨i, hi, h⟩
    rw [List.mem_range] at hi
    exact ⟨l[i], List.getElem_mem hi, by rwa [List.getD_eq_getElem?_getD, List.getElem?_eq_getElem hi] at h⟩
  · rintro ⟨x, hx, h⟩
    obtain ⟨i, hi, rfl⟩ := List.getElem_of_mem hx
    exact ⟨i, List.mem_range.2 hi, by rwa [List.getD_eq_getElem?_getD, List.getElem?_eq_getElem hi]⟩
/-- a set of buttons as a list -/
def setL (n : Nat) (p : Nat → Bool) : List Int := ((List.range n).filter p).map fun j : Nat => (j : Int)
theorem setL_ok (n : Nat) (p : Nat → Bool) : okL n (setL n p) (setL n p).length = true := by
  unfold okL
  rw [List.all_eq_true]
  intro i hi
  rw [List.mem_range] at hi
  have hl : (setL n p).length = ((List.range n).filter p).length := List.length_map _
  obtain ⟨R, hR⟩ : ∃ R, (List.range n).filter p = R := ⟨_, rfl⟩
  have hs : R.Pairwise (· < ·) := by rw [← hR]; exact List.Pairwise.filter _ List.pairwise_lt_range
  have hm : ∀ x ∈ R, x < n := fun x hx => by rw [← hR] at hx; exact List.mem_range.1 (List.mem_filter.1 hx).1
  have hd : setL n p = R.map fun j : Nat => (j : Int) := by unfold setL; rw [hR]
  rw [hR] at hl
  have hg : ∀ k, k < R.length → (setL n p).getD k 0 = ((R.getD k 0 : Nat) : Int) := fun k hk => by
    rw [hd, List.getD_eq_getElem?_getD, List.getD_eq_getElem?_getD, List.getElem?_map, List.getElem?_eq_getElem hk]; rfl
  have hgR : ∀ k (hk : k < R.length), R.getD k 0 = R[k] := fun k hk => by rw [List.getD_eq_getElem?_getD, List.getElem?_eq_getElem hk]; rfl
  unfold okAt
  rw [decide_eq_true_eq, hg i (by omega), hgR i (by omega)]
  have h2 := hm _ (List.getElem_mem (show i < R.length by omega))
  refine ⟨?_, by omega⟩
  unfold lastOf
  by_cases e : i = 0
  · rw [if_pos e]; omega
  · rw [if_neg e, hg (i - 1) (by omega), hgR (i - 1) (by omega)]
    have := List.pairwise_iff_getElem.1 hs (i - 1) i (by omega) (by omega) (by omega)
    omega
theorem setL_nbr (C : List (List Int)) (wd : Int) (n : Nat) (p : Nat → Bool) (j : Nat) : nbrB C wd (setL n p) (setL n p).length j = (List.range n).any fun b => p b && decide (cost C b j ≤ wd) := by
  unfold nbrB
  rw [any_getD (fun b => decide ((C.getD b.toNat []).getD j 0 ≤ wd))]
  unfold setL
  rw [List.any_map, List.any_filter]
  rfl
theorem allL_mem {n : Nat} {a : List Int} (h1 : a.Nodup) (h2 : ∀ x ∈ a, 0 ≤ x ∧ x < n) : ∀ i, i ≤ a.length → a.take i ∈ allL n i := by
  intro i
  induction i with
  | zero => intro _; simp [allL]
  | succ i ih =>
    intro hi
    obtain ⟨x, hx⟩ : ∃ x, a[i]? = some x := ⟨_, List.getElem?_eq_getElem (by omega)⟩
    have hT : a.take (i + 1) = a.take i ++ [x] := by rw [List.take_add_one, hx]; rfl
    have hb := h2 x (List.mem_of_getElem? hx)
    have hni : x ∉ a.take i := by
      have := h1.sublist (List.take_sublist (i + 1) a)
      rw [hT, List.nodup_append] at this
      exact fun h => this.2.2 x h x (by simp) rfl
    show a.take (i + 1) ∈ (allL n i).flatMap (extL n)
    refine List.mem_flatMap.2 ⟨a.take i, ih (by omega), ?_⟩
    rw [hT]
    unfold extL
    refine List.mem_map.2 ⟨x.toNat, List.mem_filter.2 ⟨List.mem_range.2 (by omega), ?_⟩, by rw [show ((x.toNat : Nat) : Int) = x by omega]⟩
    rw [show ((x.toNat : Nat) : Int) = x by omega, decide_eq_false hni]; rfl
theorem widthTo_eq (C : List (List Int)) (x : Way) : ∀ k, k ≤ C.length → widthTo C x k = wdL C (rowW C x) k := by
  intro k
  induction k with
  | zero => intro _; rfl
  | succ k ih =>
    intro hk
    show max (widthTo C x k) ((C.getD k []).getD (x.at k).toNat 0) = max (wdL C (rowW C x) k) ((C.getD k []).getD ((rowW C x).getD k 0).toNat 0)
    rw [ih (by omega)]
    have : (rowW C x).getD k 0 = x.at k := by
      unfold rowW Way.at
      rw [List.getD_eq_getElem?_getD, List.getD_eq_getElem?_getD, List.getElem?_take_of_lt hk]
    rw [this]
theorem no_block {C : List (List Int)} (hw : costsB C = true) {wd : Int} (h : ∀ s, s < 2 ^ C.length → blockB C wd (membersL s) = false) : ∃ x ∈ asgW C, widthTo C x C.length ≤ wd := by
  obtain ⟨hR, hp⟩ := Rect.of_costs hw
  have hn7 := hR.n7
  obtain ⟨n, hn⟩ : ∃ n, C.length = n := ⟨_, rfl⟩
  have hH : HallC (fun i j => decide (cost C i j ≤ wd)) (List.range n) (List.range n) := fun p => by
    obtain ⟨s, h1, h2⟩ := mask_of p n
    have h3 := h s (by rw [hn]; exact h1)
    have hs7 : s < 128 := Nat.lt_of_lt_of_le h1 (show 2 ^ n ≤ 2 ^ 7 from Nat.pow_le_pow_right (by decide) (by omega))
    have h4 : membersL s = setL n p := by
      have := members7 ⟨s, hs7⟩
      simp only at this
      rw [this]
      unfold setL
      rw [← range_filter_lt p (show n ≤ 7 by omega)]
      congr 1
      exact List.filter_congr fun j _ => h2 j
    rw [h4, blockB_eq hn7, hn, setL_ok, Bool.true_and] at h3
    have h5 := of_decide_eq_false h3
    have h6 : (setL n p).length = (List.range n).countP p := by unfold setL; rw [List.length_map, List.countP_eq_length_filter]
    have h7 : (List.range n).countP (nbrB C wd (setL n p) (setL n p).length) = (List.range n).countP fun j => (List.range n).any fun b => p b && decide (cost C b j ≤ wd) := by
      congr 1; funext j; exact setL_nbr C wd n p j
    rw [h7] at h5
    have h9 : (List.range n).countP p ≤ (List.range n).countP fun j => (List.range n).any fun b => p b && decide (cost C b j ≤ wd) := by omega
    exact h9
  obtain ⟨f, hf1, hf2⟩ := hall _ n _ _ (by rw [List.length_range]; exact Nat.le_refl _) List.nodup_range List.nodup_range hH
  have hxl : ((List.range n).map fun b => (f b : Int)).length = n := by rw [List.length_map, List.length_range]
  have hxn : ((List.range n).map fun b => (f b : Int)).Nodup := by
    refine List.Pairwise.map _ (R := fun a b => a ∈ List.range n ∧ b ∈ List.range n ∧ a ≠ b) (fun a b hab e => hab.2.2 (hf2 a hab.1 b hab.2.1 (by omega))) ?_
    exact (List.nodup_range (n := n)).imp_of_mem fun ha hb h => ⟨ha, hb, h⟩
  have hxr : ∀ x ∈ (List.range n).map (fun b => (f b : Int)), 0 ≤ x ∧ x < n := fun x hx => by
    obtain ⟨b, hb, rfl⟩ := List.mem_map.1 hx
    have := List.mem_range.1 (hf1 b hb).1
    omega
  have hm := allL_mem hxn hxr n (by omega)
  rw [List.take_of_length_le (by omega)] at hm
  have hmm : (List.range n).map (fun b => (f b : Int)) ∈ (asgW C).map fun y => y.holes.take C.length := by rw [asgW_rows hn7, hn]; exact hm
  obtain ⟨x, hx, hxe⟩ := List.mem_map.1 hmm
  refine ⟨x, hx, ?_⟩
  rw [widthTo_eq C x _ (Nat.le_refl _), show rowW C x = (List.range n).map fun b => (f b : Int) from hxe, hn]
  have hc : ∀ k, k < n → (C.getD k []).getD (((List.range n).map fun b => (f b : Int)).getD k 0).toNat 0 ≤ wd := fun k hk => by
    rw [List.getD_eq_getElem?_getD (l := (List.range n).map fun b => (f b : Int)), List.getElem?_map, List.getElem?_range hk]
    have := (hf1 k (List.mem_range.2 hk)).2
    have h8 := of_decide_eq_true this
    simpa [cost] using h8
  have h0 : -1000 ≤ wd := by
    have h1 := hc 0 (by omega)
    obtain ⟨row, hrow⟩ : ∃ row, C[0]? = some row := ⟨_, List.getElem?_eq_getElem hp⟩
    have h2 := getD_bound (hR.cost row (List.mem_of_getElem? hrow)) ((((List.range n).map fun b => (f b : Int)).getD 0 0).toNat)
    rw [List.getD_eq_getElem?_getD (l := C), hrow] at h1
    simp only [Option.getD_some] at h1
    omega
  have hall : ∀ k, k ≤ n → wdL C ((List.range n).map fun b => (f b : Int)) k ≤ wd := by
    intro k
    induction k with
    | zero => intro _; exact h0
    | succ k ih =>
      intro hk
      have h1 := ih (by omega)
      have h2 := hc k (by omega)
      show max _ _ ≤ wd
      omega
  exact hall n (Nat.le_refl _)
theorem narL_min (C : List (List Int)) : ∀ (l : List Way) (s : Way × Int), (l.foldl (narStep C) s).2 ≤ s.2 ∧ ∀ x ∈ l, (l.foldl (narStep C) s).2 ≤ widthTo C x C.length := by
  intro l
  induction l with
  | nil => intro s; exact ⟨Int.le_refl _, fun x hx => by cases hx⟩
  | cons a l ih =>
    intro s
    rw [List.foldl_cons]
    obtain ⟨h1, h2⟩ := ih (narStep C s a)
    have h3 : (narStep C s a).2 ≤ s.2 ∧ (narStep C s a).2 ≤ widthTo C a C.length := by
      unfold narStep
      by_cases h : widthTo C a C.length < s.2
      · rw [if_pos h]; exact ⟨Int.le_of_lt h, Int.le_refl _⟩
      · rw [if_neg h]; exact ⟨Int.le_refl _, by omega⟩
    refine ⟨by omega, fun x hx => ?_⟩
    rcases List.mem_cons.1 hx with rfl | h
    · omega
    · exact h2 x h
theorem nar_fold (C : List (List Int)) : ∀ (l : List Way) (x : Way), ∃ y, (y = x ∨ y ∈ l) ∧ l.foldl (narStep C) (x, widthTo C x C.length) = (y, widthTo C y C.length) ∧ rowW C y = (l.map (rowW C)).foldl (nrStep C C.length) (rowW C x) := by
  intro l
  induction l with
  | nil => intro x; exact ⟨x, .inl rfl, rfl, rfl⟩
  | cons a l ih =>
    intro x
    rw [List.foldl_cons, List.map_cons, List.foldl_cons]
    have e1 := widthTo_eq C x _ (Nat.le_refl _)
    have e2 := widthTo_eq C a _ (Nat.le_refl _)
    unfold narStep nrStep
    rw [← e1, ← e2]
    simp only
    by_cases h : widthTo C a C.length < widthTo C x C.length
    · rw [if_pos h, if_pos h]
      obtain ⟨y, h1, h2⟩ := ih a
      exact ⟨y, .inr (by rcases h1 with rfl | h1 <;> simp [*]), h2⟩
    · rw [if_neg h, if_neg h]
      obtain ⟨y, h1, h2⟩ := ih x
      exact ⟨y, by rcases h1 with rfl | h1 <;> simp [*], h2⟩
/-- what the narrowest assignment is -/
theorem nar_same {C : List (List Int)} (hw : costsB C = true) : ∃ r0, (allL C.length C.length)[0]? = some r0 ∧ rowW C (narW C).1 = (allL C.length C.length).foldl (nrStep C C.length) r0 ∧ (narW C).2 = widthTo C (narW C).1 C.length ∧ (narW C).1 ∈ asgW C ∧ ∀ x ∈ asgW C, (narW C).2 ≤ widthTo C x C.length := by
  obtain ⟨hR, hp⟩ := Rect.of_costs hw
  have hn7 := hR.n7
  have hpos := asgW_pos hn7
  have hrows := asgW_rows hn7
  cases hA : asgW C with
  | nil => rw [hA] at hpos; simp at hpos
  | cons x l =>
    rw [hA, List.map_cons] at hrows
    have h1 : narW C = l.foldl (narStep C) (x, widthTo C x C.length) := by
      unfold narW narL
      rw [hA, List.foldl_cons]
      congr 1
      unfold narStep
      rw [if_pos (by have := (width_in hR x C.length).2; simp only; omega)]
    obtain ⟨y, hy0, hy1, hy2⟩ := nar_fold C l x
    have hmin := narL_min C (x :: l) (Way.zero, 1001)
    refine ⟨rowW C x, by rw [← hrows]; rfl, ?_, ?_, ?_, ?_⟩
    · rw [h1, hy1, ← hrows, List.foldl_cons]
      simp only
      rw [hy2]
      have : nrStep C C.length (rowW C x) (x.holes.take C.length) = rowW C x := by
        unfold nrStep
        split
        · rfl
        · rfl
      rw [this]; rfl
    · rw [h1, hy1]
    · rw [h1, hy1]
      rcases hy0 with rfl | h <;> simp [*]
    · intro z hz
      have := hmin.2 z hz
      unfold narW narL
      rw [hA]; exact this
theorem nar_block {C : List (List Int)} (hw : costsB C = true) {l : List Int} (h : BlockRes C ((narW C).2 - 1) l) : blockB C ((narW C).2 - 1) l = true := by
  rcases h with h | ⟨_, h⟩
  · exact h
  · obtain ⟨x, hx, h1⟩ := no_block hw h
    obtain ⟨_, _, _, _, _, h2⟩ := nar_same hw
    have := h2 x hx
    omega
end Go.Proofs.Ytambhhjbafefgaa
