/- Texts of buttons, joined: Bfm, Bfc, Bft, Bfs, Prm, Shm, Pvm. -/
import Derived.Test.YtambhhjbafefgaaQd
import Derived.Test.YtambhhjbafefgaaQa
import Derived.Test.YtambhhjbafefgaaQk
import Derived.Test.YtambhhjbafefgaaQi
import Derived.Test.YtambhhjbafefgaaQe
import Derived.Test.YtambhhjbafefgaaQh
/- Walks over holes: a walk without a negative circle has a short one that is no heavier: mathematics. -/
namespace Go.Proofs.Ytambhhjbafefgaa
set_option linter.unusedVariables false

/-- the weight of a walk, its end first -/
def wtL (W : Nat → Nat → Int) : List Nat → Int
  | [] => 0
  | [_] => 0
  | h :: g :: l => W g h + wtL W (g :: l)
theorem wtL_cut (W : Nat → Nat → Int) : ∀ (a : List Nat) (h g : Nat) (c : List Nat), wtL W (h :: (a ++ g :: c)) = wtL W (h :: (a ++ [g])) + wtL W (g :: c) := by
  intro a
  induction a with
  | nil =>
    intro h g c
    show W g h + wtL W (g :: c) = W g h + wtL W [g] + wtL W (g :: c)
    show W g h + wtL W (g :: c) = W g h + 0 + wtL W (g :: c)
    omega
  | cons x a ih =>
    intro h g c
    show W x h + wtL W (x :: (a ++ g :: c)) = W x h + wtL W (x :: (a ++ [g])) + wtL W (g :: c)
    rw [ih x g c]; omega
/-- no circle is negative -/
def NoNeg (W : Nat → Nat → Int) (n : Nat) : Prop := ∀ (h : Nat) (a : List Nat), (h :: a).Nodup → (∀ x ∈ h :: a, x < n) → 0 ≤ wtL W (h :: (a ++ [h]))
theorem walk_short {W : Nat → Nat → Int} {n : Nat} (hW : NoNeg W n) : ∀ (t : List Nat) (h : Nat), (∀ x ∈ h :: t, x < n) → ∃ t', (h :: t').Nodup ∧ (∀ x ∈ h :: t', x < n) ∧ wtL W (h :: t') ≤ wtL W (h :: t) := by
  intro t
  induction t with
  | nil => intro h hb; exact ⟨[], by simp, hb, Int.le_refl _⟩
  | cons g t ih =>
    intro h hb
    obtain ⟨t', h1, h2, h3⟩ := ih g (fun x hx => hb x (List.mem_cons.2 (.inr hx)))
    have hbh : h < n := hb h (by simp)
    have h4 : wtL W (h :: g :: t') ≤ wtL W (h :: g :: t) := by
      show W g h + wtL W (g :: t') ≤ W g h + wtL W (g :: t)
      omega
    by_cases hm : h ∈ g :: t'
    · obtain ⟨a, c, he, hna⟩ := List.append_of_mem hm |>.elim fun a ha => ha.elim fun c he => (show ∃ a c, g :: t' = a ++ h :: c ∧ True from ⟨a, c, he, trivial⟩)
      rw [he] at h1 h2
      have hc : (h :: c).Nodup := (List.nodup_append.1 h1).2.1
      have ha : (h :: a).Nodup := by
        obtain ⟨h5, _, h7⟩ := List.nodup_append.1 h1
        exact List.nodup_cons.2 ⟨fun hx => h7 h hx h (by simp) rfl, h5⟩
      have h5 := hW h a ha (fun x hx => by
        rcases List.mem_cons.1 hx with rfl | hx
        · exact hbh
        · exact h2 x (by simp [hx]))
      refine ⟨c, hc, fun x hx => h2 x (List.mem_append.2 (.inr hx)), ?_⟩
      rw [he, wtL_cut] at h4
      omega
    · exact ⟨g :: t', List.nodup_cons.2 ⟨hm, h1⟩, fun x hx => by
        rcases List.mem_cons.1 hx with rfl | hx
        · exact hbh
        · exact h2 x hx, h4⟩
/-- what relaxing keeps: each price is a walk's weight -/
def Reached (W : Nat → Nat → Int) (n : Nat) (v : Nat → Int) : Prop := ∀ h, h < n → ∃ l, (∀ x ∈ h :: l, x < n) ∧ v h = wtL W (h :: l)
/-- after k rounds: no price is above a walk of at most k steps -/
def Under (W : Nat → Nat → Int) (n k : Nat) (v : Nat → Int) : Prop := ∀ h l, (∀ x ∈ h :: l, x < n) → l.length ≤ k → v h ≤ wtL W (h :: l)
theorem prices_fit {W : Nat → Nat → Int} {n : Nat} {v : Nat → Int} (hW : NoNeg W n) (h1 : Reached W n v) (h2 : Under W n n v) {g h : Nat} (hg : g < n) (hh : h < n) : v h ≤ v g + W g h := by
  obtain ⟨l, hl, he⟩ := h1 g hg
  obtain ⟨t, ht1, ht2, ht3⟩ := walk_short hW (g :: l) h (fun x hx => by
    rcases List.mem_cons.1 hx with rfl | hx
    · exact hh
    · exact hl x hx)
  have h5 := nodup_len n _ ht1 ht2
  have h6 := h2 h t ht2 (by simp at h5; omega)
  have h7 : wtL W (h :: g :: l) = W g h + wtL W (g :: l) := rfl
  omega
/-- one limit -/
def rlxF (W : Nat → Nat → Int) (v : Nat → Int) (g h : Nat) : Nat → Int := fun x => if x = h then min (v h) (v g + W g h) else v x
theorem rlxF_le (W : Nat → Nat → Int) (v : Nat → Int) (g h x : Nat) : rlxF W v g h x ≤ v x := by
  unfold rlxF
  split
  · rename_i e; subst e; omega
  · exact Int.le_refl _
theorem Reached.rlx {W : Nat → Nat → Int} {n : Nat} {v : Nat → Int} (hv : Reached W n v) {g h : Nat} (hg : g < n) (hh : h < n) : Reached W n (rlxF W v g h) := by
  intro x hx
  unfold rlxF
  by_cases e : x = h
  · subst e
    rw [if_pos rfl]
    obtain ⟨l1, h1, e1⟩ := hv x hx
    obtain ⟨l2, h2, e2⟩ := hv g hg
    by_cases hle : v x ≤ v g + W g x
    · exact ⟨l1, h1, by omega⟩
    · refine ⟨g :: l2, fun y hy => ?_, ?_⟩
      · rcases List.mem_cons.1 hy with rfl | hy
        · exact hx
        · exact h2 y hy
      · show _ = W g x + wtL W (g :: l2)
        omega
  · rw [if_neg e]
    exact hv x hx
theorem fold_rlx_le (W : Nat → Nat → Int) : ∀ (ps : List (Nat × Nat)) (v : Nat → Int) (x : Nat), ps.foldl (fun v p => rlxF W v p.1 p.2) v x ≤ v x := by
  intro ps
  induction ps with
  | nil => intro v x; exact Int.le_refl _
  | cons p ps ih =>
    intro v x
    exact Int.le_trans (ih _ x) (rlxF_le W v p.1 p.2 x)
theorem fold_rlx_hit (W : Nat → Nat → Int) : ∀ (ps : List (Nat × Nat)) (v : Nat → Int) (g h : Nat), (g, h) ∈ ps → ps.foldl (fun v p => rlxF W v p.1 p.2) v h ≤ v g + W g h := by
  intro ps
  induction ps with
  | nil => intro v g h hm; cases hm
  | cons p ps ih =>
    intro v g h hm
    rw [List.foldl_cons]
    rcases List.mem_cons.1 hm with rfl | hm
    · refine Int.le_trans (fold_rlx_le W ps _ h) ?_
      show (if h = h then min (v h) (v g + W g h) else v h) ≤ _
      rw [if_pos rfl]; omega
    · have h1 := ih (rlxF W v p.1 p.2) g h hm
      have h2 := rlxF_le W v p.1 p.2 g
      omega
/-- a round over all pairs -/
theorem Under.round {W : Nat → Nat → Int} {n k : Nat} {v : Nat → Int} (hv : Under W n k v) (ps : List (Nat × Nat)) (hps : ∀ g h, g < n → h < n → (g, h) ∈ ps) : Under W n (k + 1) (ps.foldl (fun v p => rlxF W v p.1 p.2) v) := by
  intro h l hb hl
  cases l with
  | nil => exact Int.le_trans (fold_rlx_le W ps v h) (hv h [] hb (Nat.zero_le _))
  | cons g l =>
    have h1 := fold_rlx_hit W ps v g h (hps g h (hb g (by simp)) (hb h (by simp)))
    have h2 := hv g l (fun x hx => hb x (List.mem_cons.2 (.inr hx))) (by simp at hl; omega)
    have h3 : wtL W (h :: g :: l) = W g h + wtL W (g :: l) := rfl
    omega
end Go.Proofs.Ytambhhjbafefgaa

/- A cheapest assignment leaves no negative circle: mathematics. -/
namespace Go.Proofs.Ytambhhjbafefgaa
set_option linter.unusedVariables false

theorem tot_set (C : List (List Int)) (r : List Int) (i : Nat) (x : Int) (hi : i < r.length) : ∀ k, (wayP C (r.set i x) k).t = (wayP C r k).t + if i < k then cost C i x.toNat - cost C i (r.getD i 0).toNat else 0 := by
  intro k
  induction k with
  | zero => rw [if_neg (by omega)]; show Way.zero.t = Way.zero.t + 0; omega
  | succ k ih =>
    have e1 : (wayP C (r.set i x) (k + 1)).t = (wayP C (r.set i x) k).t + cost C k ((r.set i x).getD k 0).toNat := put_t _ _ _ _
    have e2 : (wayP C r (k + 1)).t = (wayP C r k).t + cost C k (r.getD k 0).toNat := put_t _ _ _ _
    rw [e1, e2, ih, getD_set]
    by_cases h : i = k
    · subst h
      rw [if_neg (Nat.lt_irrefl i), if_pos (show i = i ∧ i < r.length from ⟨rfl, hi⟩), if_pos (Nat.lt_succ_self i)]; omega
    · rw [if_neg (show ¬(i = k ∧ i < r.length) from fun e => h e.1)]
      by_cases h2 : i < k
      · rw [if_pos h2, if_pos (show i < k + 1 by omega)]; omega
      · rw [if_neg h2, if_neg (show ¬ i < k + 1 by omega)]; omega
def PermR (n : Nat) (r : List Int) : Prop := r.length = n ∧ r.Nodup ∧ ∀ x ∈ r, 0 ≤ x ∧ x < n
theorem PermR.mem {n : Nat} {r : List Int} (h : PermR n r) : r ∈ allL n n := by
  have := allL_mem h.2.1 h.2.2 n (by rw [h.1]; exact Nat.le_refl _)
  rwa [List.take_of_length_le (by rw [h.1]; exact Nat.le_refl _)] at this
theorem PermR.swap {n : Nat} {r : List Int} (h : PermR n r) {i k : Nat} {x y : Int} (hx : r[i]? = some x) (hy : r[k]? = some y) : PermR n ((r.set i y).set k x) := by
  obtain ⟨h1, h2, h3⟩ := h
  have hi := (List.getElem?_eq_some_iff.1 hx).1
  have hk := (List.getElem?_eq_some_iff.1 hy).1
  have hs : ∀ p, ((r.set i y).set k x)[p]? = r[if p = k then i else if p = i then k else p]? := by
    intro p
    rw [List.getElem?_set, List.getElem?_set, List.length_set]
    by_cases e : p = k
    · rw [if_pos e.symm, if_pos e, hx, if_pos (by omega)]
    · rw [if_neg (fun h => e h.symm), if_neg e]
      by_cases e2 : p = i
      · rw [if_pos e2.symm, if_pos e2, hy, if_pos (by omega)]
      · rw [if_neg (fun h => e2 h.symm), if_neg e2]
  have hl : ((r.set i y).set k x).length = n := by simp [h1]
  refine ⟨hl, ?_, fun z hz => ?_⟩
  · refine List.pairwise_iff_getElem.2 fun p q hp hq hpq he => ?_
    have h4 : ((r.set i y).set k x)[p]? = ((r.set i y).set k x)[q]? := by rw [List.getElem?_eq_getElem hp, List.getElem?_eq_getElem hq, he]
    rw [hs p, hs q] at h4
    have h5 := (List.getElem?_inj (i := if p = k then i else if p = i then k else p) (by split <;> (try split) <;> omega) h2).1 h4
    split at h5 <;> split at h5 <;> (try split at h5) <;> (try split at h5) <;> omega
  · obtain ⟨p, hp⟩ := List.mem_iff_getElem?.1 hz
    rw [hs p] at hp
    exact h3 z (List.mem_of_getElem? hp)
theorem PermR.find {n : Nat} {r : List Int} (h : PermR n r) (x : Nat) (hx : x < n) : ∃ i, i < n ∧ r[i]? = some (x : Int) := by
  have h1 := mem_count n r h.2.1 h.2.2
  rw [h.1] at h1
  have h2 := List.countP_eq_length.1 (show (List.range n).countP (fun j : Nat => decide ((j : Int) ∈ r)) = (List.range n).length by rw [h1, List.length_range]) x (List.mem_range.2 hx)
  obtain ⟨i, hi⟩ := List.mem_iff_getElem?.1 (of_decide_eq_true h2)
  exact ⟨i, by have := (List.getElem?_eq_some_iff.1 hi).1; rw [h.1] at this; exact this, hi⟩
/-- what a button saves or loses by another hole -/
def exW (C : List (List Int)) (ix : Nat → Nat) (g h : Nat) : Int := cost C (ix g) h - cost C (ix g) g
theorem chain {C : List (List Int)} {n : Nat} {ix : Nat → Nat} {bh : Nat} (hbh : bh < n) : ∀ (a : List Nat) (f : Nat) (rr : List Int), PermR n rr → rr[bh]? = some (f : Int) → (∀ x ∈ a, rr[ix x]? = some (x : Int)) → (f :: a).Nodup →
    ∃ rr' l, PermR n rr' ∧ (f :: a).getLast? = some l ∧ rr'[bh]? = some (l : Int) ∧ (wayP C rr' n).t - cost C bh l = (wayP C rr n).t - cost C bh f + wtL (exW C ix) (f :: a) := by
  intro a
  induction a with
  | nil =>
    intro f rr h1 h2 h3 h4
    refine ⟨rr, f, h1, rfl, h2, ?_⟩
    show _ = _ + (0 : Int)
    omega
  | cons g a ih =>
    intro f rr h1 h2 h3 h4
    have hg := h3 g (by simp)
    obtain ⟨h5, h6⟩ := List.nodup_cons.1 h4
    have hgl := (List.getElem?_eq_some_iff.1 hg).1
    have hbl := (List.getElem?_eq_some_iff.1 h2).1
    have hne : bh ≠ ix g := fun e => by
      rw [← e, h2] at hg
      have : f = g := Int.ofNat.inj (Option.some.inj hg)
      exact h5 (by simp [this])
    have hp := h1.swap h2 hg
    have hb : ((rr.set bh (g : Int)).set (ix g) (f : Int))[bh]? = some (g : Int) := by
      rw [List.getElem?_set_ne (fun e => hne e.symm), List.getElem?_set_self hbl]
    have ho : ∀ x ∈ a, ((rr.set bh (g : Int)).set (ix g) (f : Int))[ix x]? = some (x : Int) := by
      intro x hx
      have hxx := h3 x (by simp [hx])
      have n1 : ix g ≠ ix x := fun e => by
        rw [← e, hg] at hxx
        have : g = x := Int.ofNat.inj (Option.some.inj hxx)
        exact (List.nodup_cons.1 h6).1 (this ▸ hx)
      have n2 : bh ≠ ix x := fun e => by
        rw [← e, h2] at hxx
        have : f = x := Int.ofNat.inj (Option.some.inj hxx)
        exact h5 (by simp [this, hx])
      rw [List.getElem?_set_ne n1, List.getElem?_set_ne n2]; exact hxx
    obtain ⟨rr', l, k1, k2, k3, k4⟩ := ih g _ hp hb ho h6
    have hrl := h1.1
    have e1 := tot_set C (rr.set bh (g : Int)) (ix g) (f : Int) (by rw [List.length_set]; exact hgl) n
    have e2 := tot_set C rr bh (g : Int) hbl n
    have d1 : rr.getD bh 0 = (f : Int) := by rw [List.getD_eq_getElem?_getD, h2]; rfl
    have d2 : (rr.set bh (g : Int)).getD (ix g) 0 = (g : Int) := by rw [List.getD_eq_getElem?_getD, List.getElem?_set_ne hne, hg]; rfl
    rw [if_pos (by omega), d2, Int.toNat_natCast, Int.toNat_natCast] at e1
    rw [if_pos hbh, d1, Int.toNat_natCast, Int.toNat_natCast] at e2
    refine ⟨rr', l, k1, by rw [List.getLast?_cons_cons]; exact k2, k3, ?_⟩
    have e3 : wtL (exW C ix) (f :: g :: a) = (cost C (ix g) f - cost C (ix g) g) + wtL (exW C ix) (g :: a) := rfl
    omega
theorem wtL_last (W : Nat → Nat → Int) : ∀ (a : List Nat) (f h l : Nat), (f :: a).getLast? = some l → wtL W (f :: (a ++ [h])) = wtL W (f :: a) + W h l := by
  intro a
  induction a with
  | nil =>
    intro f h l hl
    obtain rfl : f = l := by simpa using hl
    show W h f + 0 = 0 + W h f
    omega
  | cons g a ih =>
    intro f h l hl
    rw [List.getLast?_cons_cons] at hl
    show W g f + wtL W (g :: (a ++ [h])) = W g f + wtL W (g :: a) + W h l
    rw [ih g h l hl]; omega
/-- a cheapest assignment leaves no negative circle -/
theorem no_neg {C : List (List Int)} (hw : costsB C = true) {r : List Int} (hr : PermR C.length r) (hb : totL C C.length r = (bestW C).t) {ix : Nat → Nat} (hix : ∀ x, x < C.length → ix x < C.length ∧ r[ix x]? = some (x : Int)) : NoNeg (exW C ix) C.length := by
  intro h a hnd hbd
  obtain ⟨hh1, hh2⟩ := hix h (hbd h (by simp))
  obtain ⟨rr, l, k1, k2, k3, k4⟩ := chain (C := C) hh1 a h r hr hh2 (fun x hx => (hix x (hbd x (by simp [hx]))).2) hnd
  have h5 := (best_tot hw).2 rr k1.mem
  have h6 : totL C C.length rr = (wayP C rr C.length).t := rfl
  have h7 : totL C C.length r = (wayP C r C.length).t := rfl
  rw [wtL_last _ a h h l k2]
  have h8 : exW C ix h l = cost C (ix h) l - cost C (ix h) h := rfl
  omega
end Go.Proofs.Ytambhhjbafefgaa

/- The prices fit the costs: mathematics. -/
namespace Go.Proofs.Ytambhhjbafefgaa
set_option linter.unusedVariables false

theorem mem_prsL {n i j : Nat} (hi : i < n) (hj : j < n) : (i, j) ∈ prsL n := by
  have h1 : (⟨(i, j), hi, hj⟩ : Pr n) ∈ pairsTo n (i * n + j + 1) := by rw [pairsTo_succ hi hj]; simp
  have h2 : i * n + j + 1 ≤ n * n := by
    have : (i + 1) * n ≤ n * n := Nat.mul_le_mul_right n hi
    rw [Nat.succ_mul] at this; omega
  obtain ⟨f, hf⟩ := Nat.exists_eq_add_of_le h2
  have h3 := (pairsTo_prefix n (i * n + j + 1) f).subset h1
  rw [← hf] at h3
  exact List.mem_map.2 ⟨_, h3, rfl⟩
theorem prsL_in {n : Nat} {p : Nat × Nat} (h : p ∈ prsL n) : p.1 < n ∧ p.2 < n := by
  obtain ⟨q, _, rfl⟩ := List.mem_map.1 h
  exact q.2
/-- prices as a function -/
def fnP (v : List Int) : Nat → Int := fun h => v.getD h 0
theorem rlx_fn {C : List (List Int)} {x : Way} {ix : Nat → Nat} {n : Nat} (hn : n ≤ 7) (hix : ∀ b, b < n → ix (x.at b).toNat = b) {v : List Int} (hv : v.length = 7) {p : Nat × Nat} (hp : p.1 < n ∧ p.2 < n) : fnP (rlx C x v p) = rlxF (exW C ix) (fnP v) (x.at p.1).toNat p.2 := by
  funext h
  unfold fnP rlx rlxF exW
  rw [getD_set, hix p.1 hp.1]
  by_cases e : h = p.2
  · subst e
    rw [if_pos ⟨rfl, by omega⟩, if_pos rfl]
    show _ = min (v.getD p.2 0) (v.getD (x.at p.1).toNat 0 + _)
    omega
  · rw [if_neg (fun h => e h.1.symm), if_neg e]
theorem rlxs_fn {C : List (List Int)} {x : Way} {ix : Nat → Nat} {n : Nat} (hn : n ≤ 7) (hix : ∀ b, b < n → ix (x.at b).toNat = b) : ∀ (l : List (Nat × Nat)) (v : List Int), v.length = 7 → (∀ p ∈ l, p.1 < n ∧ p.2 < n) →
    (rlxs C x v l).length = 7 ∧ fnP (rlxs C x v l) = (l.map fun p => ((x.at p.1).toNat, p.2)).foldl (fun v p => rlxF (exW C ix) v p.1 p.2) (fnP v) := by
  intro l
  induction l with
  | nil => intro v hv _; exact ⟨hv, rfl⟩
  | cons p l ih =>
    intro v hv hl
    have h1 : (rlx C x v p).length = 7 := by unfold rlx; rw [List.length_set]; exact hv
    obtain ⟨h2, h3⟩ := ih (rlx C x v p) h1 (fun q hq => hl q (by simp [hq]))
    refine ⟨h2, ?_⟩
    have h4 := rlx_fn (C := C) hn hix hv (hl p (by simp))
    rw [h4] at h3
    exact h3
theorem fold_reached {W : Nat → Nat → Int} {n : Nat} : ∀ (ps : List (Nat × Nat)) (v : Nat → Int), (∀ p ∈ ps, p.1 < n ∧ p.2 < n) → Reached W n v → Reached W n (ps.foldl (fun v p => rlxF W v p.1 p.2) v) := by
  intro ps
  induction ps with
  | nil => intro v _ h; exact h
  | cons p ps ih =>
    intro v hp h
    exact ih _ (fun q hq => hp q (by simp [hq])) (h.rlx (hp p (by simp)).1 (hp p (by simp)).2)
theorem zero7_get (h : Nat) : fnP zero7 h = 0 := by
  show zero7.getD h 0 = 0
  unfold zero7
  match h with
  | 0 | 1 | 2 | 3 | 4 | 5 | 6 => rfl
  | h + 7 => rfl
theorem rnds_fit {C : List (List Int)} {x : Way} {ix : Nat → Nat} (hn : C.length ≤ 7) (hix : ∀ b, b < C.length → ix (x.at b).toNat = b) (hat : ∀ b, b < C.length → (x.at b).toNat < C.length) (hown : ∀ g, g < C.length → ix g < C.length ∧ (x.at (ix g)).toNat = g) :
    ∀ k, (rnds C x k).length = 7 ∧ Reached (exW C ix) C.length (fnP (rnds C x k)) ∧ Under (exW C ix) C.length k (fnP (rnds C x k)) := by
  intro k
  induction k with
  | zero =>
    refine ⟨rfl, fun h hh => ⟨[], by simpa using hh, zero7_get h⟩, fun h l _ hl => ?_⟩
    obtain rfl : l = [] := List.length_eq_zero_iff.1 (by omega)
    show fnP zero7 h ≤ 0
    rw [zero7_get]; exact Int.le_refl _
  | succ k ih =>
    obtain ⟨h1, h2, h3⟩ := ih
    obtain ⟨h4, h5⟩ := rlxs_fn (C := C) hn hix (prsL C.length) (rnds C x k) h1 (fun p hp => prsL_in hp)
    refine ⟨h4, ?_, ?_⟩
    · show Reached _ _ (fnP (rlxs C x (rnds C x k) (prsL C.length)))
      rw [h5]
      refine fold_reached _ _ (fun p hp => ?_) h2
      obtain ⟨q, hq, rfl⟩ := List.mem_map.1 hp
      exact ⟨hat q.1 (prsL_in hq).1, (prsL_in hq).2⟩
    · show Under _ _ (k + 1) (fnP (rlxs C x (rnds C x k) (prsL C.length)))
      rw [h5]
      refine h3.round _ (fun g h hg hh => List.mem_map.2 ⟨(ix g, h), mem_prsL (hown g hg).1 hh, ?_⟩)
      show ((x.at (ix g)).toNat, h) = (g, h)
      rw [(hown g hg).2]
/-- the prices of a cheapest assignment fit the costs -/
theorem best_fit {C : List (List Int)} (hw : costsB C = true) {b h : Nat} (hb : b < C.length) (hh : h < C.length) : (vP C (bestW C)).getD h 0 ≤ (vP C (bestW C)).getD ((bestW C).at b).toNat 0 + (cost C b h - cost C b ((bestW C).at b).toNat) := by
  obtain ⟨hR, hp⟩ := Rect.of_costs hw
  have hn7 := hR.n7
  obtain ⟨r, hr⟩ : ∃ r, (bestW C).holes.take C.length = r := ⟨_, rfl⟩
  have hmem : r ∈ allL C.length C.length := by rw [← hr, ← asgW_rows hn7]; exact List.mem_map.2 ⟨_, (best_min hw).1, rfl⟩
  have hP : PermR C.length r := allL_good _ _ r hmem
  have htot : totL C C.length r = (bestW C).t := by
    unfold totL
    rw [← hr, asgW_way hn7 _ (best_min hw).1]
  have hget : ∀ i, i < C.length → r[i]? = some ((bestW C).at i) := fun i hi => by
    have h1 := best_at (C := C) hi
    rw [hr] at h1
    rw [← h1, List.getD_eq_getElem?_getD, List.getElem?_eq_getElem (by rw [hP.1]; exact hi)]; rfl
  have hat : ∀ i, i < C.length → 0 ≤ (bestW C).at i ∧ (bestW C).at i < C.length := fun i hi => hP.2.2 _ (List.mem_of_getElem? (hget i hi))
  have hex : ∀ x, ∃ i, x < C.length → i < C.length ∧ r[i]? = some (x : Int) := fun x => by
    by_cases hx : x < C.length
    · obtain ⟨i, h1, h2⟩ := hP.find x hx
      exact ⟨i, fun _ => ⟨h1, h2⟩⟩
    · exact ⟨0, fun h => absurd h hx⟩
  obtain ⟨ix, hix⟩ := Classical.axiomOfChoice hex
  have hown : ∀ g, g < C.length → ix g < C.length ∧ ((bestW C).at (ix g)).toNat = g := fun g hg => by
    obtain ⟨h1, h2⟩ := hix g hg
    rw [hget _ h1] at h2
    have := Option.some.inj h2
    exact ⟨h1, by omega⟩
  have hixo : ∀ b, b < C.length → ix ((bestW C).at b).toNat = b := fun b hb => by
    have h0 := hat b hb
    obtain ⟨h1, h2⟩ := hix ((bestW C).at b).toNat (by omega)
    have h3 := hget b hb
    rw [show (((bestW C).at b).toNat : Int) = (bestW C).at b by omega] at h2
    exact (List.getElem?_inj (by rw [hP.1]; exact h1) hP.2.1).1 (h2.trans h3.symm)
  obtain ⟨_, k2, k3⟩ := rnds_fit hn7 hixo (fun b hb => by have := hat b hb; omega) hown C.length
  have hb0 := hat b hb
  have hf := prices_fit (no_neg hw hP htot hix) k2 k3 (g := ((bestW C).at b).toNat) (h := h) (by omega) hh
  unfold exW at hf
  rw [hixo b hb] at hf
  exact hf
end Go.Proofs.Ytambhhjbafefgaa

/- The prices prove the total: mathematics. -/
namespace Go.Proofs.Ytambhhjbafefgaa
set_option linter.unusedVariables false

theorem uTo_get (C : List (List Int)) (x : Way) (v : List Int) : ∀ k, k ≤ 7 → ∀ i, (uTo C x v k).getD i 0 = if i < k then cost C i (x.at i).toNat - v.getD (x.at i).toNat 0 else 0 := by
  intro k
  induction k with
  | zero => intro _ i; rw [if_neg (by omega)]; exact zero7_get i
  | succ k ih =>
    intro hk i
    rw [uTo, getD_set, ih (by omega), uTo_len]
    by_cases e : k = i
    · subst e
      rw [if_pos ⟨rfl, by omega⟩, if_pos (by omega)]
    · rw [if_neg (fun h => e h.1)]
      by_cases h : i < k
      · rw [if_pos h, if_pos (by omega)]
      · rw [if_neg h, if_neg (by omega)]
/-- the sum of a function over the first k numbers -/
def sumTo (f : Nat → Int) : Nat → Int
  | 0 => 0
  | k + 1 => sumTo f k + f k
theorem take_sum (l : List Int) : ∀ k, k ≤ l.length → (l.take k).sum = sumTo (fun i => l.getD i 0) k := by
  intro k
  induction k with
  | zero => intro _; rfl
  | succ k ih =>
    intro hk
    rw [List.take_add_one, List.getElem?_eq_getElem (by omega), Option.toList, List.sum_append, ih (by omega)]
    show _ + ([l[k]] : List Int).sum = sumTo _ k + l.getD k 0
    rw [List.getD_eq_getElem?_getD, List.getElem?_eq_getElem (by omega)]
    simp
theorem sumTo_add (f g : Nat → Int) : ∀ k, sumTo (fun i => f i + g i) k = sumTo f k + sumTo g k
  | 0 => rfl
  | k + 1 => by
    have := sumTo_add f g k
    show sumTo (fun i => f i + g i) k + (f k + g k) = sumTo f k + f k + (sumTo g k + g k)
    omega
theorem sumTo_congr {f g : Nat → Int} : ∀ k, (∀ i, i < k → f i = g i) → sumTo f k = sumTo g k
  | 0, _ => rfl
  | k + 1, h => by
    show sumTo f k + f k = sumTo g k + g k
    rw [sumTo_congr k (fun i hi => h i (by omega)), h k (by omega)]
theorem sumTo_zero : ∀ k, sumTo (fun _ => 0) k = 0
  | 0 => rfl
  | k + 1 => by
    show sumTo (fun _ => 0) k + 0 = 0
    rw [sumTo_zero k]; rfl
theorem sumTo_swap (F : Nat → Nat → Int) (m : Nat) : ∀ k, sumTo (fun i => sumTo (fun j => F i j) m) k = sumTo (fun j => sumTo (fun i => F i j) k) m
  | 0 => by
    show (0 : Int) = sumTo (fun _ => 0) m
    rw [sumTo_zero]
  | k + 1 => by
    show sumTo (fun i => sumTo (fun j => F i j) m) k + sumTo (fun j => F k j) m = sumTo (fun j => sumTo (fun i => F i j) k + F k j) m
    rw [sumTo_add, sumTo_swap F m k]
theorem sumTo_one (v : Nat → Int) (a : Nat) : ∀ m, sumTo (fun j => if j = a then v j else 0) m = if a < m then v a else 0
  | 0 => rfl
  | m + 1 => by
    show sumTo (fun j => if j = a then v j else 0) m + (if m = a then v m else 0) = _
    rw [sumTo_one v a m]
    by_cases h : m = a
    · subst h
      rw [if_neg (by omega), if_pos rfl, if_pos (by omega)]; omega
    · rw [if_neg h]
      by_cases h2 : a < m
      · rw [if_pos h2, if_pos (by omega)]; omega
      · rw [if_neg h2, if_neg (by omega)]; rfl
/-- a sum over all holes, by their buttons -/
theorem sumTo_perm {n : Nat} (v : Nat → Int) (own ix : Nat → Nat) (h1 : ∀ b, b < n → own b < n ∧ ix (own b) = b) (h2 : ∀ g, g < n → ix g < n ∧ own (ix g) = g) : sumTo (fun b => v (own b)) n = sumTo v n := by
  have e1 : sumTo (fun b => v (own b)) n = sumTo (fun b => sumTo (fun g => if g = own b then v g else 0) n) n := sumTo_congr n fun b hb => by
    rw [sumTo_one v (own b) n, if_pos (h1 b hb).1]
  have e2 : sumTo v n = sumTo (fun g => sumTo (fun b => if g = own b then v g else 0) n) n := sumTo_congr n fun g hg => by
    have e3 : sumTo (fun b => if g = own b then v g else 0) n = sumTo (fun b => if b = ix g then (fun _ => v g) b else 0) n := sumTo_congr n fun b hb => by
      by_cases e : g = own b
      · rw [if_pos e, if_pos (by rw [e, (h1 b hb).2])]
      · rw [if_neg e, if_neg (fun h => e (by rw [h, (h2 g hg).2]))]
    rw [e3, sumTo_one (fun _ => v g) (ix g) n, if_pos (h2 g hg).1]
  rw [e1, e2, sumTo_swap]
theorem wayP_sum (C : List (List Int)) (r : List Int) : ∀ k, (wayP C r k).t = sumTo (fun i => cost C i (r.getD i 0).toNat) k
  | 0 => rfl
  | k + 1 => by
    have e : (wayP C r (k + 1)).t = (wayP C r k).t + cost C k (r.getD k 0).toNat := put_t _ _ _ _
    rw [e, wayP_sum C r k]; rfl
theorem best_own {C : List (List Int)} (hw : costsB C = true) : PermR C.length ((bestW C).holes.take C.length) ∧ ∃ ix : Nat → Nat, (∀ b, b < C.length → ((bestW C).at b).toNat < C.length ∧ ix ((bestW C).at b).toNat = b) ∧ ∀ g, g < C.length → ix g < C.length ∧ ((bestW C).at (ix g)).toNat = g := by
  obtain ⟨hR, hp⟩ := Rect.of_costs hw
  have hn7 := hR.n7
  obtain ⟨r, hr⟩ : ∃ r, (bestW C).holes.take C.length = r := ⟨_, rfl⟩
  have hmem : r ∈ allL C.length C.length := by rw [← hr, ← asgW_rows hn7]; exact List.mem_map.2 ⟨_, (best_min hw).1, rfl⟩
  have hP : PermR C.length r := allL_good _ _ r hmem
  have hget : ∀ i, i < C.length → r[i]? = some ((bestW C).at i) := fun i hi => by
    have h1 := best_at (C := C) hi
    rw [hr] at h1
    rw [← h1, List.getD_eq_getElem?_getD, List.getElem?_eq_getElem (by rw [hP.1]; exact hi)]; rfl
  have hat : ∀ i, i < C.length → 0 ≤ (bestW C).at i ∧ (bestW C).at i < C.length := fun i hi => hP.2.2 _ (List.mem_of_getElem? (hget i hi))
  have hex : ∀ x, ∃ i, x < C.length → i < C.length ∧ r[i]? = some (x : Int) := fun x => by
    by_cases hx : x < C.length
    · obtain ⟨i, h1, h2⟩ := hP.find x hx
      exact ⟨i, fun _ => ⟨h1, h2⟩⟩
    · exact ⟨0, fun h => absurd h hx⟩
  obtain ⟨ix, hix⟩ := Classical.axiomOfChoice hex
  rw [hr]
  refine ⟨hP, ix, fun b hb => ?_, fun g hg => ?_⟩
  · have h0 := hat b hb
    obtain ⟨h1, h2⟩ := hix ((bestW C).at b).toNat (by omega)
    have h3 := hget b hb
    rw [show (((bestW C).at b).toNat : Int) = (bestW C).at b by omega] at h2
    exact ⟨by omega, (List.getElem?_inj (by rw [hP.1]; exact h1) hP.2.1).1 (h2.trans h3.symm)⟩
  · obtain ⟨h1, h2⟩ := hix g hg
    rw [hget _ h1] at h2
    have := Option.some.inj h2
    exact ⟨h1, by omega⟩
theorem getD_take {l : List Int} {n i : Nat} (hi : i < n) : (l.take n).getD i 0 = l.getD i 0 := by
  rw [List.getD_eq_getElem?_getD, List.getElem?_take_of_lt hi, ← List.getD_eq_getElem?_getD]
/-- the prices prove the cheapest assignment -/
theorem best_proves {C : List (List Int)} (hw : costsB C = true) : provesB C ((bestW C).holes.take C.length) ((uP C (bestW C)).take C.length) ((vP C (bestW C)).take C.length) = true := by
  obtain ⟨hR, hp⟩ := Rect.of_costs hw
  have hn7 := hR.n7
  have hcb : CB C := fun i j => getD_bound (hR.rowD i) j
  obtain ⟨hP, ix, ho1, ho2⟩ := best_own hw
  have hv := rnds_pb (x := bestW C) hcb hn7 C.length
  have hvl : (vP C (bestW C)).length = 7 := hv.1
  have hvb : ∀ i, -686000 ≤ (vP C (bestW C)).getD i 0 ∧ (vP C (bestW C)).getD i 0 ≤ 0 := fun i => by
    have h := hv.2 i
    have e : (rnds C (bestW C) C.length) = vP C (bestW C) := rfl
    rw [e] at h; omega
  have hul : (uP C (bestW C)).length = 7 := uTo_len C _ _ _
  have hug : ∀ i, i < C.length → (uP C (bestW C)).getD i 0 = cost C i ((bestW C).at i).toNat - (vP C (bestW C)).getD ((bestW C).at i).toNat 0 := fun i hi => by
    have := uTo_get C (bestW C) (vP C (bestW C)) C.length hn7 i
    rw [if_pos hi] at this
    exact this
  have hfit := fun b h hb hh => best_fit hw (b := b) (h := h) hb hh
  have hat : ∀ i, i < C.length → ((bestW C).holes.take C.length).getD i 0 = (bestW C).at i := fun i hi => best_at hi
  generalize uP C (bestW C) = us at *
  generalize vP C (bestW C) = vs at *
  have hlu : (us.take C.length).length = C.length := by rw [List.length_take]; omega
  have hlv : (vs.take C.length).length = C.length := by rw [List.length_take]; omega
  have hmemu : ∀ x ∈ us.take C.length, ∃ i, i < C.length ∧ x = us.getD i 0 := fun x hx => by
    obtain ⟨i, hi⟩ := List.mem_iff_getElem?.1 hx
    have hil := (List.getElem?_eq_some_iff.1 hi).1
    refine ⟨i, by omega, ?_⟩
    rw [← getD_take (n := C.length) (by omega), List.getD_eq_getElem?_getD, hi]; rfl
  have hmemv : ∀ x ∈ vs.take C.length, ∃ i, i < C.length ∧ x = vs.getD i 0 := fun x hx => by
    obtain ⟨i, hi⟩ := List.mem_iff_getElem?.1 hx
    have hil := (List.getElem?_eq_some_iff.1 hi).1
    refine ⟨i, by omega, ?_⟩
    rw [← getD_take (n := C.length) (by omega), List.getD_eq_getElem?_getD, hi]; rfl
  have hpb : pricesB C (us.take C.length) (vs.take C.length) = true := by
    unfold pricesB
    refine decide_eq_true ⟨hlu, hlv, fun x hx => ?_, fun x hx => ?_, fun i hi j hj => ?_⟩
    · obtain ⟨i, hi, rfl⟩ := hmemu x hx
      have h1 := hcb i ((bestW C).at i).toNat
      have h2 := hvb ((bestW C).at i).toNat
      rw [hug i hi]; omega
    · obtain ⟨i, hi, rfl⟩ := hmemv x hx
      have h2 := hvb i
      omega
    · rw [getD_take hi, getD_take hj, hug i hi]
      have := hfit i j hi hj
      omega
  have hsum : (us.take C.length).sum + (vs.take C.length).sum = (wayP C ((bestW C).holes.take C.length) C.length).t := by
    rw [take_sum us _ (by omega), take_sum vs _ (by omega), wayP_sum]
    have e1 : sumTo (fun i => us.getD i 0 + vs.getD ((bestW C).at i).toNat 0) C.length = sumTo (fun i => cost C i (((bestW C).holes.take C.length).getD i 0).toNat) C.length := sumTo_congr _ fun i hi => by
      rw [hug i hi, hat i hi]; omega
    have e2 := sumTo_perm (fun j => vs.getD j 0) (fun b => ((bestW C).at b).toNat) ix ho1 ho2
    rw [← e1, sumTo_add, e2]
  unfold provesB asgB
  rw [hpb, decide_eq_true hsum, decide_eq_true ⟨hP.1, hP.2.2, hP.2.1⟩]
  rfl
end Go.Proofs.Ytambhhjbafefgaa

/- What ButtonsProved asks of slacks and payments: mathematics. -/
namespace Go.Proofs.Ytambhhjbafefgaa
set_option linter.unusedVariables false

theorem slack_at {C : List (List Int)} {i j : Nat} (hj : j < C.length) : (slackLine C i).getD j 0 = cost C i j + (firstW (C.eraseIdx i) (C.length - 1) (1 <<< j)).t - (bestW C).t := by
  unfold slackLine
  rw [List.getD_eq_getElem?_getD, List.getElem?_map, List.getElem?_range hj]; rfl
theorem slack_nonneg {C : List (List Int)} (hw : costsB C = true) {i j : Nat} (hi : i < C.length) (hj : j < C.length) : 0 ≤ (slackLine C i).getD j 0 := by
  obtain ⟨⟨r, h1, _, h3⟩, _⟩ := slack_tot hw hi hj
  have h5 := (best_tot hw).2 r h1
  rw [slack_at hj]; omega
theorem slack_le {C : List (List Int)} (hw : costsB C = true) {i j : Nat} (hi : i < C.length) (hj : j < C.length) {b : List Int} (hb : b ∈ allL C.length C.length) (hbj : b[i]? = some (j : Int)) : (slackLine C i).getD j 0 ≤ totL C C.length b - (bestW C).t := by
  have h4 := (slack_tot hw hi hj).2 b hb hbj
  rw [slack_at hj]; omega
theorem slack_own {C : List (List Int)} (hw : costsB C = true) {i : Nat} (hi : i < C.length) : (slackLine C i).getD ((bestW C).at i).toNat 0 = 0 := by
  obtain ⟨hP, ix, ho, _⟩ := best_own hw
  obtain ⟨hR, hp⟩ := Rect.of_costs hw
  obtain ⟨h1, _⟩ := ho i hi
  have hb := hP.mem
  have h3 : ((bestW C).holes.take C.length)[i]? = some ((bestW C).at i) := by
    have h := best_at (C := C) hi
    rw [← h, List.getD_eq_getElem?_getD, List.getElem?_eq_getElem (by rw [hP.1]; exact hi)]; rfl
  have h4 := hP.2.2 _ (List.mem_of_getElem? h3)
  have h5 := slack_le hw hi h1 hb (by rw [h3]; congr 1; omega)
  have h6 := slack_nonneg hw hi h1
  have h7 : totL C C.length ((bestW C).holes.take C.length) = (bestW C).t := by
    unfold totL
    rw [asgW_way hR.n7 _ (best_min hw).1]
  omega
theorem pay_nonneg {C : List (List Int)} (hw : costsB C = true) {i : Nat} (hi : i < C.length) : 0 ≤ payOne C i := by
  obtain ⟨hP, _⟩ := best_own hw
  rw [pay_at hw hi hP.mem, lst_all hw hi hP.mem]
  have := (rest_tot hw hi).2 _ hP.mem
  omega
theorem sumTo_le {f g : Nat → Int} : ∀ k, (∀ i, i < k → g i ≤ f i) → sumTo g k ≤ sumTo f k
  | 0, _ => Int.le_refl _
  | k + 1, h => by
    have h1 := sumTo_le k (fun i hi => h i (by omega))
    have h2 := h k (by omega)
    show sumTo g k + g k ≤ sumTo f k + f k
    omega
theorem sumTo_le_at {f g : Nat → Int} (i : Nat) : ∀ k, i < k → (∀ i, i < k → g i ≤ f i) → sumTo g k + (f i - g i) ≤ sumTo f k
  | 0, hi, _ => absurd hi (by omega)
  | k + 1, hi, h => by
    show sumTo g k + g k + (f i - g i) ≤ sumTo f k + f k
    by_cases e : i = k
    · subst e
      have h1 := sumTo_le i (fun j hj => h j (by omega))
      omega
    · have h1 := sumTo_le_at i k (by omega) (fun j hj => h j (by omega))
      have h2 := h k (by omega)
      omega
/-- the only 0 of a row that has one at j -/
theorem fixZ_own (row : List Int) (j : Nat) (hz : row.getD j 0 = 0) : ∀ n, j < n → (1 < cntZ row n ∨ (cntZ row n = 1 ∧ lastZ row n = j))
  | 0, h => absurd h (by omega)
  | n + 1, h => by
    have hl : lastZ row (n + 1) = if row.getD n 0 = 0 then (n : Int) else lastZ row n := rfl
    have hc : cntZ row (n + 1) = if row.getD n 0 = 0 then cntZ row n + 1 else cntZ row n := rfl
    rw [hl, hc]
    by_cases e : j = n
    · subst e
      rw [if_pos hz, if_pos hz]
      by_cases h2 : cntZ row j = 0
      · exact .inr ⟨by omega, rfl⟩
      · exact .inl (by omega)
    · have ih := fixZ_own row j hz n (by omega)
      by_cases h2 : row.getD n 0 = 0
      · rw [if_pos h2, if_pos h2]
        exact .inl (by omega)
      · rw [if_neg h2, if_neg h2]
        exact ih
theorem fix_own {C : List (List Int)} (hw : costsB C = true) {i : Nat} (hi : i < C.length) : onlyZ (slackLine C i) = -1 ∨ onlyZ (slackLine C i) = (((bestW C).at i).toNat : Int) := by
  obtain ⟨_, ix, ho, _⟩ := best_own hw
  have h := fixZ_own (slackLine C i) _ (slack_own hw hi) (slackLine C i).length (by rw [slackLine_length]; exact (ho i hi).1)
  rw [only_eq]
  unfold fixZ
  rcases h with h | ⟨h1, h2⟩
  · exact .inl (if_pos h)
  · rw [if_neg (by omega), h2]
    exact .inr rfl
theorem perm_own {n : Nat} {r : List Int} (hP : PermR n r) : ∃ ix : Nat → Nat, (∀ b, b < n → (r.getD b 0).toNat < n ∧ ix (r.getD b 0).toNat = b) ∧ ∀ g, g < n → ix g < n ∧ (r.getD (ix g) 0).toNat = g := by
  have hget : ∀ i, i < n → r[i]? = some (r.getD i 0) := fun i hi => by
    rw [List.getD_eq_getElem?_getD, List.getElem?_eq_getElem (by rw [hP.1]; exact hi)]; rfl
  have hat : ∀ i, i < n → 0 ≤ r.getD i 0 ∧ r.getD i 0 < n := fun i hi => hP.2.2 _ (List.mem_of_getElem? (hget i hi))
  have hex : ∀ x, ∃ i, x < n → i < n ∧ r[i]? = some (x : Int) := fun x => by
    by_cases hx : x < n
    · obtain ⟨i, h1, h2⟩ := hP.find x hx
      exact ⟨i, fun _ => ⟨h1, h2⟩⟩
    · exact ⟨0, fun h => absurd h hx⟩
  obtain ⟨ix, hix⟩ := Classical.axiomOfChoice hex
  refine ⟨ix, fun b hb => ?_, fun g hg => ?_⟩
  · have h0 := hat b hb
    obtain ⟨h1, h2⟩ := hix (r.getD b 0).toNat (by omega)
    have h3 := hget b hb
    rw [show ((r.getD b 0).toNat : Int) = r.getD b 0 by omega] at h2
    exact ⟨by omega, (List.getElem?_inj (by rw [hP.1]; exact h1) hP.2.1).1 (h2.trans h3.symm)⟩
  · obtain ⟨h1, h2⟩ := hix g hg
    rw [hget _ h1] at h2
    have := Option.some.inj h2
    exact ⟨h1, by omega⟩
/-- prices that prove a total leave no more room than the slack -/
theorem slack_price {C : List (List Int)} (hw : costsB C = true) {i j : Nat} (hi : i < C.length) (hj : j < C.length) {us vs : List Int} (hu : us.length = C.length) (hv : vs.length = C.length) (hfit : ∀ i, i < C.length → ∀ j, j < C.length → us.getD i 0 + vs.getD j 0 ≤ cost C i j) (hsum : us.sum + vs.sum = (bestW C).t) :
    cost C i j - us.getD i 0 - vs.getD j 0 ≤ (slackLine C i).getD j 0 := by
  obtain ⟨⟨r, h1, h2, h3⟩, _⟩ := slack_tot hw hi hj
  have hP : PermR C.length r := allL_good _ _ r h1
  obtain ⟨ix, ho1, ho2⟩ := perm_own hP
  have hrj : (r.getD i 0).toNat = j := by
    rw [(getD_some (by rw [hP.1]; exact hi) (j : Int)).2 h2, Int.toNat_natCast]
  have e1 : totL C C.length r = sumTo (fun k => cost C k (r.getD k 0).toNat) C.length := wayP_sum C r C.length
  have e2 := sumTo_le_at (f := fun k => cost C k (r.getD k 0).toNat) (g := fun k => us.getD k 0 + vs.getD (r.getD k 0).toNat 0) i C.length hi (fun k hk => hfit k hk _ (ho1 k hk).1)
  have e3 := sumTo_perm (fun j => vs.getD j 0) (fun b => (r.getD b 0).toNat) ix ho1 ho2
  have e4 := take_sum us C.length (by omega)
  have e5 := take_sum vs C.length (by omega)
  rw [List.take_of_length_le (by omega)] at e4 e5
  rw [sumTo_add, e3, ← e4, ← e5, hsum] at e2
  simp only [hrj] at e2
  rw [← e1] at e2
  rw [slack_at hj]
  omega
end Go.Proofs.Ytambhhjbafefgaa

/- Tables whose totals differ by one number: the same order, slacks and cheapest assignment. -/
namespace Go.Proofs.Ytambhhjbafefgaa
set_option linter.unusedVariables false

theorem cnt_two {α : Type} (T : α → Int) {s t : Int} (h : s < t) : ∀ l : List α, l.countP (fun r => decide (T r < s)) + l.countP (fun r => decide (T r = s)) ≤ l.countP (fun r => decide (T r < t))
  | [] => by simp
  | x :: l => by
    have ih := cnt_two T h l
    simp only [List.countP_cons, decide_eq_true_eq]
    split <;> split <;> split <;> omega
theorem pick_lt {α : Type} {T : α → Int} {l : List α} {s t : Int} {k k1 k2 : Nat} {x y : α} (h1 : l.countP (fun r => decide (T r < s)) + k1 = k) (h2 : (l.filter fun r => decide (T r = s))[k1]? = some x)
    (h3 : l.countP (fun r => decide (T r < t)) + k2 = k) (h : s < t) : False := by
  have h4 := cnt_two T h l
  have h5 := (List.getElem?_eq_some_iff.1 h2).1
  rw [← List.countP_eq_length_filter] at h5
  omega
theorem pick_one {α : Type} {T : α → Int} {l : List α} {s t : Int} {k k1 k2 : Nat} {x y : α} (h1 : l.countP (fun r => decide (T r < s)) + k1 = k) (h2 : (l.filter fun r => decide (T r = s))[k1]? = some x)
    (h3 : l.countP (fun r => decide (T r < t)) + k2 = k) (h4 : (l.filter fun r => decide (T r = t))[k2]? = some y) : x = y ∧ s = t := by
  rcases Int.lt_trichotomy s t with h | rfl | h
  · exact (pick_lt (y := y) h1 h2 h3 h).elim
  · obtain rfl : k1 = k2 := by omega
    exact ⟨Option.some.inj (h2.symm.trans h4), rfl⟩
  · exact (pick_lt (y := x) h3 h4 h1 h).elim

/-- the totals of D are those of C, and s more -/
structure Moved (C D : List (List Int)) (s : Int) : Prop where
  len : D.length = C.length
  tot : ∀ r ∈ allL C.length C.length, totL D C.length r = totL C C.length r + s

theorem best_moved {C D : List (List Int)} {s : Int} (h : Moved C D s) (hC : costsB C = true) (hD : costsB D = true) : (bestW D).t = (bestW C).t + s := by
  obtain ⟨⟨r, h1, h2⟩, h3⟩ := best_tot hC
  obtain ⟨⟨r', h4, h5⟩, h6⟩ := best_tot hD
  rw [h.len] at h4 h5 h6
  have e1 := h.tot r h1
  have e2 := h.tot r' h4
  have e3 := h3 r' h4
  have e4 := h6 r h1
  omega
theorem fold_congr {α β : Type} (f g : β → α → β) : ∀ (l : List α) (s : β), (∀ x ∈ l, ∀ s, f s x = g s x) → l.foldl f s = l.foldl g s
  | [], _, _ => rfl
  | x :: l, s, h => by
    rw [List.foldl_cons, List.foldl_cons, h x (by simp) s]
    exact fold_congr f g l _ fun y hy s => h y (by simp [hy]) s
theorem slack_moved {C D : List (List Int)} {s : Int} (h : Moved C D s) (hC : costsB C = true) (hD : costsB D = true) : slackL D = slackL C := by
  unfold slackL
  rw [h.len]
  refine List.map_congr_left fun i hi => ?_
  rw [List.mem_range] at hi
  rw [slackLine_eq hC hi, slackLine_eq hD (by rw [h.len]; exact hi), h.len]
  refine List.map_congr_left fun j _ => ?_
  unfold rslE
  rw [h.len]
  refine fold_congr _ _ _ _ fun r hr m => ?_
  rw [h.tot r hr, best_moved h hC hD, show totL C C.length r + s - ((bestW C).t + s) = totL C C.length r - (bestW C).t by omega]
theorem fix_moved {C D : List (List Int)} {s : Int} (h : Moved C D s) (hC : costsB C = true) (hD : costsB D = true) : fixL D = fixL C := by
  unfold fixL
  rw [slack_moved h hC hD]
theorem item_moved {C D : List (List Int)} {s : Int} (h : Moved C D s) (hC : costsB C = true) (hD : costsB D = true) {k : Nat} (hk : k < (asgW C).length) : rowW D (itemW D k) = rowW C (itemW C k) := by
  obtain ⟨hR, _⟩ := Rect.of_costs hC
  have hkD : k < (asgW D).length := by rw [← all_len (by rw [h.len]; exact hR.n7), h.len, all_len hR.n7]; exact hk
  obtain ⟨a1, a2⟩ := item_same (C := C) hR.n7 hk
  obtain ⟨b1, b2⟩ := item_same (C := D) (by rw [h.len]; exact hR.n7) hkD
  rw [h.len] at b1 b2
  have e1 : (allL C.length C.length).countP (fun r => decide (totL D C.length r < totK D k)) = (allL C.length C.length).countP fun r => decide (totL C C.length r < totK D k - s) :=
    List.countP_congr fun r hr => by
      simp only [decide_eq_true_eq]
      rw [h.tot r hr]; omega
  have e2 : (allL C.length C.length).filter (fun r => decide (totL D C.length r = totK D k)) = (allL C.length C.length).filter fun r => decide (totL C C.length r = totK D k - s) :=
    List.filter_congr fun r hr => by
      rw [h.tot r hr, decide_eq_decide]; omega
  rw [e1] at b1
  rw [e2] at b2
  have := (pick_one a1 a2 b1 b2).1
  unfold rowW
  rw [h.len]
  exact this.symm
theorem bestRow_moved {C D : List (List Int)} {s : Int} (h : Moved C D s) (hC : costsB C = true) (hD : costsB D = true) : (bestW D).holes.take D.length = (bestW C).holes.take C.length := by
  obtain ⟨hR, _⟩ := Rect.of_costs hC
  rw [best_item hC, best_item hD]
  exact item_moved h hC hD (asgW_pos hR.n7)

/-- a in the row i, b in the column j -/
structure Shift (C D : List (List Int)) (i j : Nat) (a b : Int) : Prop where
  len : D.length = C.length
  at' : ∀ x y, x < C.length → y < C.length → cost D x y = cost C x y + (if x = i then a else 0) + (if y = j then b else 0)

theorem Shift.moved {C D : List (List Int)} {i j : Nat} {a b : Int} (h : Shift C D i j a b) (hi : i < C.length) (hj : j < C.length) : Moved C D (a + b) := by
  refine ⟨h.len, fun r hr => ?_⟩
  have hP : PermR C.length r := allL_good _ _ r hr
  obtain ⟨ix, ho1, ho2⟩ := perm_own hP
  have e1 : totL C C.length r = sumTo (fun k => cost C k (r.getD k 0).toNat) C.length := wayP_sum C r C.length
  have e2 : totL D C.length r = sumTo (fun k => cost D k (r.getD k 0).toNat) C.length := wayP_sum D r C.length
  have e3 := sumTo_perm (fun y => if y = j then b else 0) (fun k => (r.getD k 0).toNat) ix ho1 ho2
  have e4 := sumTo_one (fun _ => b) j C.length
  have e5 := sumTo_one (fun _ => a) i C.length
  rw [if_pos hj] at e4
  rw [if_pos hi] at e5
  have e6 : sumTo (fun k => cost D k (r.getD k 0).toNat) C.length = sumTo (fun k => (cost C k (r.getD k 0).toNat + (if k = i then a else 0)) + (if (r.getD k 0).toNat = j then b else 0)) C.length :=
    sumTo_congr _ fun k hk => h.at' k _ hk (ho1 k hk).1
  rw [e2, e6, sumTo_add, sumTo_add, ← e1, e5, e3, e4]
  omega
end Go.Proofs.Ytambhhjbafefgaa

/- What ButtonsProved checks at each pair: mathematics. -/
namespace Go.Proofs.Ytambhhjbafefgaa
set_option linter.unusedVariables false

/-- all that the prices of Best promise -/
theorem price_facts {C : List (List Int)} (hw : costsB C = true) :
    asgB ((bestW C).holes.take C.length) C.length = true ∧ pricesB C ((uP C (bestW C)).take C.length) ((vP C (bestW C)).take C.length) = true ∧
      ((uP C (bestW C)).take C.length).sum + ((vP C (bestW C)).take C.length).sum = (bestW C).t ∧ wayP C ((bestW C).holes.take C.length) C.length = bestW C := by
  have h := best_proves hw
  obtain ⟨hR, _⟩ := Rect.of_costs hw
  have hwy := asgW_way hR.n7 _ (best_min hw).1
  unfold provesB at h
  rw [Bool.and_eq_true, Bool.and_eq_true, decide_eq_true_eq] at h
  exact ⟨h.1.1, h.1.2, by rw [h.2, hwy], hwy⟩

structure PrvAt (C : List (List Int)) (us vs bs : List Int) (d : Int) : Prop where
  own : ∀ i, i < C.length → ∃ ai : Nat, ai < C.length ∧ ((bestW C).holes.take C.length).getD i 0 = ai ∧ (slackLine C i).getD ai 0 = 0 ∧ (onlyZ (slackLine C i) = -1 ∨ onlyZ (slackLine C i) = (ai : Int)) ∧ us.getD i 0 + vs.getD ai 0 = cost C i ai
  pay : ∀ i, i < C.length → 0 ≤ payOne C i
  zero : ∀ i j, i < C.length → j < C.length → (slackLine C i).getD j 0 = 0 → us.getD i 0 + vs.getD j 0 = cost C i j
  ge : ∀ i j, i < C.length → j < C.length → 0 ≤ (slackLine C i).getD j 0 ∧ cost C i j - us.getD i 0 - vs.getD j 0 ≤ (slackLine C i).getD j 0
  le : ∀ i j, i < C.length → j < C.length → bs.getD i 0 = (j : Int) → (slackLine C i).getD j 0 ≤ d
  cnt : ∀ i, i < C.length → (1 < cntZ (slackLine C i) C.length ↔ onlyZ (slackLine C i) = -1)

theorem prv_at {C : List (List Int)} (hw : costsB C = true) {bs : List Int} (hb : asgB bs C.length = true) :
    PrvAt C ((uP C (bestW C)).take C.length) ((vP C (bestW C)).take C.length) bs (totL C C.length bs - (bestW C).t) ∧ (bestW C).t ≤ totL C C.length bs := by
  obtain ⟨hR, hp⟩ := Rect.of_costs hw
  obtain ⟨_, hpr, hsum, _⟩ := price_facts hw
  unfold pricesB at hpr
  obtain ⟨hul, hvl, _, _, hfit⟩ := of_decide_eq_true hpr
  have hbm : bs ∈ allL C.length C.length := by
    unfold asgB at hb
    obtain ⟨h1, h2, h3⟩ := of_decide_eq_true hb
    have h4 := allL_mem h3 h2 C.length (by omega)
    rwa [List.take_of_length_le (by omega)] at h4
  have hbl : bs.length = C.length := (allL_good _ _ bs hbm).1
  obtain ⟨_, ix, ho, _⟩ := best_own hw
  have hge : ∀ i j, i < C.length → j < C.length → 0 ≤ (slackLine C i).getD j 0 ∧ cost C i j - ((uP C (bestW C)).take C.length).getD i 0 - ((vP C (bestW C)).take C.length).getD j 0 ≤ (slackLine C i).getD j 0 :=
    fun i j hi hj => ⟨slack_nonneg hw hi hj, slack_price hw hi hj hul hvl hfit hsum⟩
  have hzero : ∀ i j, i < C.length → j < C.length → (slackLine C i).getD j 0 = 0 → ((uP C (bestW C)).take C.length).getD i 0 + ((vP C (bestW C)).take C.length).getD j 0 = cost C i j := fun i j hi hj h => by
    have h1 := (hge i j hi hj).2
    have h2 := hfit i hi j hj
    omega
  refine ⟨⟨fun i hi => ?_, fun i hi => pay_nonneg hw hi, hzero, hge, fun i j hi hj h => ?_, fun i hi => ?_⟩, (best_tot hw).2 bs hbm⟩
  · obtain ⟨j, hj, hat⟩ := bestW_ok hR i hi
    have h0 := slack_own hw hi
    have h1 := fix_own hw hi
    rw [hat, Int.toNat_natCast] at h0 h1
    exact ⟨j, hj, by rw [best_at hi, hat], h0, h1, hzero i j hi hj h0⟩
  · have h3 : bs[i]? = some (j : Int) := (getD_some (by omega) _).1 h
    exact slack_le hw hi hj hbm h3
  · have h := fixZ_own (slackLine C i) _ (slack_own hw hi) (slackLine C i).length (by rw [slackLine_length]; exact (ho i hi).1)
    rw [slackLine_length] at h
    rw [only_eq, slackLine_length]
    unfold fixZ
    rcases h with h | ⟨h1, h2⟩
    · rw [if_pos h]; exact ⟨fun _ => rfl, fun _ => h⟩
    · rw [if_neg (by omega), h2]
      exact ⟨fun h => by omega, fun h => by omega⟩

/-- the same, with the numbers that the law reads -/
structure PrvN (n : Nat) (C : List (List Int)) (es us vs xs ps bs : List Int) (d : Int) : Prop where
  own : ∀ i, i < n → ∃ ai : Nat, ai < n ∧ es.getD i 0 = ai ∧ (slackLine C i).getD ai 0 = 0 ∧ us.getD i 0 + vs.getD ai 0 = cost C i ai ∧ ((xs.getD i 0 = -1 ∧ 1 < cntZ (slackLine C i) n) ∨ (xs.getD i 0 = ai ∧ ¬ 1 < cntZ (slackLine C i) n))
  pay : ∀ i, i < n → 0 ≤ ps.getD i 0
  pair : ∀ i j, i < n → j < n → 0 ≤ (slackLine C i).getD j 0 ∧ cost C i j - us.getD i 0 - vs.getD j 0 ≤ (slackLine C i).getD j 0 ∧ ((slackLine C i).getD j 0 = 0 → us.getD i 0 + vs.getD j 0 = cost C i j) ∧ (bs.getD i 0 = (j : Int) → (slackLine C i).getD j 0 ≤ d)
  bound : ∀ i, -1000000 ≤ us.getD i 0 ∧ us.getD i 0 ≤ 1000000 ∧ -1000000 ≤ vs.getD i 0 ∧ vs.getD i 0 ≤ 1000000
theorem prv_n {C : List (List Int)} {n : Nat} (hw : costsB C = true) (hn : C.length = n) {bs : List Int} (hb : asgB bs n = true) :
    PrvN n C ((bestW C).holes.take n) ((uP C (bestW C)).take n) ((vP C (bestW C)).take n) (fixL C) (payL C) bs (totL C n bs - (bestW C).t) ∧ (bestW C).t ≤ totL C n bs := by
  subst hn
  obtain ⟨h, hle⟩ := prv_at hw hb
  obtain ⟨_, hpr, _, _⟩ := price_facts hw
  unfold pricesB at hpr
  obtain ⟨_, _, hu, hv, _⟩ := of_decide_eq_true hpr
  have hx : ∀ i, i < C.length → (fixL C).getD i 0 = onlyZ (slackLine C i) := fun i hi => by
    unfold fixL slackL
    rw [List.getD_eq_getElem?_getD, List.getElem?_map, List.getElem?_map, List.getElem?_range hi]; rfl
  have hbd : ∀ (l : List Int) (i : Nat), (∀ x ∈ l, -1000000 ≤ x ∧ x ≤ 1000000) → -1000000 ≤ l.getD i 0 ∧ l.getD i 0 ≤ 1000000 := fun l i hl => by
    rw [List.getD_eq_getElem?_getD]
    cases he : l[i]? with
    | none => exact ⟨by simp, by simp⟩
    | some x => exact hl x (List.mem_of_getElem? he)
  refine ⟨⟨fun i hi => ?_, fun i hi => ?_, fun i j hi hj => ⟨(h.ge i j hi hj).1, (h.ge i j hi hj).2, h.zero i j hi hj, h.le i j hi hj⟩, fun i => ?_⟩, hle⟩
  · obtain ⟨ai, h1, h2, h3, h4, h5⟩ := h.own i hi
    have h6 := h.cnt i hi
    refine ⟨ai, h1, h2, h3, h5, ?_⟩
    rw [hx i hi]
    rcases h4 with h4 | h4
    · exact .inl ⟨h4, h6.2 h4⟩
    · exact .inr ⟨h4, fun h7 => by have := h6.1 h7; omega⟩
  · unfold payL
    rw [List.getD_eq_getElem?_getD, List.getElem?_map, List.getElem?_range hi]
    exact h.pay i hi
  · have h1 := hbd _ i hu
    have h2 := hbd _ i hv
    exact ⟨h1.1, h1.2, h2.1, h2.2⟩
/-- the cells of a row, of a table -/
theorem Row.all {w : World} {a : Option Addr} {n : Nat} {xs : List Int} (h : Row w a n (intL xs)) (hp : 0 < n) : ∃ g, a = some ⟨g, 0, none⟩ ∧ ∀ k, k < n → w.cell? ⟨g, k, none⟩ = some (.int .i64 (xs.getD k 0)) := by
  obtain ⟨g, rfl, _, hc⟩ := h.2 hp
  have hl := h.1
  rw [intL_length] at hl
  exact ⟨g, rfl, fun k hk => hc k _ (intL_get (by rw [List.getD_eq_getElem?_getD, List.getElem?_eq_getElem (by omega)]; rfl))⟩
theorem Tbl.all {w : World} {a : Option Addr} {n : Nat} {C : List (List Int)} (h : Tbl w a C) (hn : C.length = n) (hr : ∀ row ∈ C, row.length = n) (hp : 0 < n) :
    ∃ g, a = some ⟨g, 0, none⟩ ∧ ∀ k, k < n → ∃ rb rc, w.cell? ⟨g, k, none⟩ = some (.slice (some ⟨rb, 0, none⟩) n rc) ∧ ∀ j, j < n → w.cell? ⟨rb, j, none⟩ = some (.int .i64 (cost C k j)) := by
  obtain ⟨g, rfl, _, hc⟩ := h (by omega)
  refine ⟨g, rfl, fun k hk => ?_⟩
  obtain ⟨row, hrow⟩ : ∃ row, C[k]? = some row := ⟨_, List.getElem?_eq_getElem (by omega)⟩
  obtain ⟨ra, rc, h1, h2, h3⟩ := hc k row hrow
  rw [hr row (List.mem_of_getElem? hrow)] at h1 h3
  obtain ⟨rb, rfl, h4⟩ := h3.all hp
  refine ⟨rb, rc, h1, fun j hj => ?_⟩
  rw [h4 j hj]
  unfold cost
  rw [List.getD_eq_getElem?_getD (l := C), hrow]; rfl
theorem cost_slack {C : List (List Int)} {k : Nat} (hk : k < C.length) (j : Nat) : cost (slackL C) k j = (slackLine C k).getD j 0 := by
  unfold cost slackL
  rw [List.getD_eq_getElem?_getD (l := (List.range C.length).map (slackLine C)), List.getElem?_map, List.getElem?_range hk]; rfl
end Go.Proofs.Ytambhhjbafefgaa
