/- A table that the call itself built, its rows own and apart. -/
import Derived.Test.YtbbidgdgcbnanaaApp
import Derived.Test.YtbbidgdgcbnanaaFold
import Derived.Laws.OwnMore
import Derived.Deep.Onto
namespace Go.Proofs.Ytbbidgdgcbnanaa
set_option linter.unusedVariables false
open Go.RowKit

theorem own_apart {w : World} {base base' n m : Nat} {v u : Value} {xs ys : List Value} (h : w.ownsRow base 27 1 v n xs) (k : w.ownsRow base' 3 1 u m ys) {b : Nat} (hv : v.ownBlock = some b) (hu : u.ownBlock = some b) : False := by
  rcases h.2 with ⟨rfl, _⟩ | ⟨g, cap, cur, rfl, _, hg, _⟩
  · simp [Value.ownBlock] at hv
  · rcases k.2 with ⟨rfl, _⟩ | ⟨g', cap', cur', rfl, _, hg', _⟩
    · simp [Value.ownBlock] at hu
    · simp only [Value.ownBlock, Option.some.injEq] at hv hu
      subst hv
      subst hu
      rw [hg] at hg'
      simp at hg'
/-- v is a list of the call's own whose elements are the lines Ls, each in a block of its own -/
def Sep (w : World) (base : Nat) (v : Value) (Ls : List (List Int)) : Prop :=
  ∃ hs, w.ownsRow base 27 1 v Ls.length hs ∧ (∀ (i : Nat) line, Ls[i]? = some line → ∃ u, hs[i]? = some u ∧ w.ownsRow base 3 1 u line.length (intL line)) ∧
    (∀ (i j : Nat) u u' b, hs[i]? = some u → hs[j]? = some u' → u.ownBlock = some b → u'.ownBlock = some b → i = j) ∧ (Ls = [] → v.ownBlock = none)
theorem Sep.nil (w : World) (base : Nat) : Sep w base (.slice none 0 0) [] := ⟨[], World.ownsRow_nil _ _ _ _, (fun i line h => by simp at h), (fun i j u u' b h => by simp at h), fun _ => rfl⟩
theorem Sep.below {w w' : World} {base : Nat} {v : Value} {Ls : List (List Int)} (h : Sep w base v Ls) (hb : Below w.heap.size w w') : Sep w' base v Ls := by
  obtain ⟨hs, ho, hl, hd, h0⟩ := h
  have hg := grown_none hb none
  refine ⟨hs, ho.kept hg (by cases v.ownBlock <;> simp), fun i line hi => ?_, hd, h0⟩
  obtain ⟨u, h1, h2⟩ := hl i line hi
  exact ⟨u, h1, h2.kept hg (by cases u.ownBlock <;> simp)⟩
theorem Sep.push {w wr w1 : World} {base : Nat} {v v' r : Value} {Ls : List (List Int)} {line : List Int} {o : Obj} {hs : List Value} (ho : w.ownsRow base 27 1 v Ls.length hs)
    (hl : ∀ (i : Nat) line, Ls[i]? = some line → ∃ u, hs[i]? = some u ∧ w.ownsRow base 3 1 u line.length (intL line)) (hd : ∀ (i j : Nat) u u' b, hs[i]? = some u → hs[j]? = some u' → u.ownBlock = some b → u'.ownBlock = some b → i = j)
    (hold : ∀ (i : Nat) u b, hs[i]? = some u → u.ownBlock = some b → b < wr.heap.size) (hr : w.ownsRow wr.heap.size 3 1 r line.length (intL line)) (hbase : base ≤ wr.heap.size)
    (hg : (w.alloc o).grownBy w1 v.ownBlock) (ho' : w1.ownsRow base 27 1 v' (Ls.length + 1) (hs ++ [r])) : Sep w1 base v' (Ls ++ [line]) := by
  have hk : ∀ {base' m : Nat} {u : Value} {ys : List Value}, w.ownsRow base' 3 1 u m ys → w1.ownsRow base' 3 1 u m ys := fun {base' m u ys} k => by
    refine (k.alloc o).kept hg ?_
    cases hu : u.ownBlock with
    | none => exact .inl rfl
    | some b =>
      right
      intro e
      exact own_apart ho k e.symm hu
  have hlen : hs.length = Ls.length := by have := ho.1; omega
  have hat : ∀ (i : Nat) u, (hs ++ [r])[i]? = some u → (i < Ls.length ∧ hs[i]? = some u) ∨ (i = Ls.length ∧ u = r) := fun i u hi => by
    by_cases hil : i < Ls.length
    · rw [List.getElem?_append_left (by omega)] at hi
      exact .inl ⟨hil, hi⟩
    · have h1 := (List.getElem?_eq_some_iff.1 hi).1
      rw [List.length_append, hlen] at h1
      simp only [List.length_singleton] at h1
      obtain rfl : i = Ls.length := by omega
      rw [List.getElem?_append_right (by omega), hlen, Nat.sub_self] at hi
      simp at hi
      exact .inr ⟨rfl, hi.symm⟩
  refine ⟨hs ++ [r], by rw [List.length_append]; exact ho', fun i l hi => ?_, fun i j u u' b hi hj hu hu' => ?_, fun he => by simp at he⟩
  · by_cases hil : i < Ls.length
    · rw [List.getElem?_append_left hil] at hi
      obtain ⟨u, h1, h2⟩ := hl i l hi
      exact ⟨u, by rw [List.getElem?_append_left (by omega)]; exact h1, hk h2⟩
    · have h1 := (List.getElem?_eq_some_iff.1 hi).1
      rw [List.length_append] at h1
      simp only [List.length_singleton] at h1
      obtain rfl : i = Ls.length := by omega
      rw [List.getElem?_append_right (Nat.le_refl _), Nat.sub_self] at hi
      simp at hi
      subst hi
      exact ⟨r, by rw [List.getElem?_append_right (by omega), hlen, Nat.sub_self]; rfl, (hk hr).mono hbase⟩
  · rcases hat i u hi with ⟨i1, i2⟩ | ⟨i1, rfl⟩ <;> rcases hat j u' hj with ⟨j1, j2⟩ | ⟨j1, rfl⟩
    · exact hd i j u u' b i2 j2 hu hu'
    · have := hold i u b i2 hu
      have := (hr.lt b hu').1
      omega
    · have := hold j u' b j2 hu'
      have := (hr.lt b hu).1
      omega
    · omega
theorem Sep.step {wr w1 : World} {base : Nat} {v : Value} {Ls : List (List Int)} (h : Sep wr base v Ls) (hb : Below wr.heap.size wr w1) :
    ∃ hs, w1.ownsRow base 27 1 v Ls.length hs ∧ (∀ (i : Nat) line, Ls[i]? = some line → ∃ u, hs[i]? = some u ∧ w1.ownsRow base 3 1 u line.length (intL line)) ∧
      (∀ (i j : Nat) u u' b, hs[i]? = some u → hs[j]? = some u' → u.ownBlock = some b → u'.ownBlock = some b → i = j) ∧ ∀ (i : Nat) u b, hs[i]? = some u → u.ownBlock = some b → b < wr.heap.size := by
  obtain ⟨hs, ho, hl, hd, _⟩ := h
  have hg := grown_none hb none
  have hlen : hs.length = Ls.length := by have := ho.1; omega
  refine ⟨hs, ho.kept hg (by cases v.ownBlock <;> simp), fun i line hi => ?_, hd, fun i u b hi hu => ?_⟩
  · obtain ⟨u, h1, h2⟩ := hl i line hi
    exact ⟨u, h1, h2.kept hg (by cases u.ownBlock <;> simp)⟩
  · have h1 := (List.getElem?_eq_some_iff.1 hi).1
    obtain ⟨u', h2, h3⟩ := hl i _ (List.getElem?_eq_getElem (by omega))
    obtain rfl : u = u' := Option.some.inj (hi.symm.trans h2)
    exact (h3.lt b hu).2

theorem Sep.base_le {w : World} {b b' : Nat} {v : Value} {L : List (List Int)} (h : Sep w b v L) (hb : b' ≤ b) : Sep w b' v L := by
  obtain ⟨hs, ho, hl, hd, h0⟩ := h
  refine ⟨hs, ho.mono hb, fun i line hi => ?_, hd, h0⟩
  obtain ⟨u, h1, h2⟩ := hl i line hi
  exact ⟨u, h1, h2.mono hb⟩
theorem table_kept {w w1 : World} {base p n g cap : Nat} {o : Obj} {Ls : List (List Int)} {hs : List Value} {u : Value} {line : List Int} (ho : w.ownsRow base 27 1 (.slice (some ⟨g, 0, none⟩) n cap) n hs)
    (hl : ∀ (i : Nat) line, Ls[i]? = some line → ∃ u, hs[i]? = some u ∧ w.ownsRow base 3 1 u line.length (intL line)) (hp : hs[p]? = some u) (hpl : Ls[p]? = some line) (hg : (w.alloc o).grownBy w1 u.ownBlock) : w1.ownsRow base 27 1 (.slice (some ⟨g, 0, none⟩) n cap) n hs := by
  obtain ⟨u0, e0, hu⟩ := hl p line hpl
  obtain rfl : u = u0 := Option.some.inj (hp.symm.trans e0)
  exact (ho.alloc o).kept hg (by
    cases h : u.ownBlock with
    | none => right; simp [Value.ownBlock]
    | some b => right; intro e; exact own_apart ho hu (b := b) e h)
/-- one line of the table is grown, and stored -/
theorem Sep.grow {w w1 : World} {base p n g cap : Nat} {o : Obj} {Ls : List (List Int)} {hs : List Value} {u u' : Value} {line more : List Int} (hlen : Ls.length = n) (ho : w.ownsRow base 27 1 (.slice (some ⟨g, 0, none⟩) n cap) n hs)
    (hl : ∀ (i : Nat) line, Ls[i]? = some line → ∃ u, hs[i]? = some u ∧ w.ownsRow base 3 1 u line.length (intL line)) (hd : ∀ (i j : Nat) u u' b, hs[i]? = some u → hs[j]? = some u' → u.ownBlock = some b → u'.ownBlock = some b → i = j)
    (hp : hs[p]? = some u) (hpl : Ls[p]? = some line) (hg : (w.alloc o).grownBy w1 u.ownBlock) (ho' : w1.ownsRow base 3 1 u' more.length (intL more)) (hblk : u'.ownBlock = u.ownBlock ∨ u'.ownBlock = some (w.alloc o).heap.size) :
    Sep (w1.setCell ⟨g, p, none⟩ u') base (.slice (some ⟨g, 0, none⟩) n cap) (Ls.set p more) := by
  have hlh : hs.length = n := by have := ho.1; omega
  have hpn : p < n := by have := (List.getElem?_eq_some_iff.1 hp).1; omega
  obtain ⟨u0, e0, hu⟩ := hl p line hpl
  obtain rfl : u = u0 := Option.some.inj (hp.symm.trans e0)
  have htab : w1.ownsRow base 27 1 (.slice (some ⟨g, 0, none⟩) n cap) n hs := (ho.alloc o).kept hg (by
    cases h : u.ownBlock with
    | none => right; simp [Value.ownBlock]
    | some b => right; intro e; exact own_apart ho hu (b := b) e h)
  have hgu : some g ≠ u'.ownBlock := fun e => own_apart htab ho' (b := g) rfl e.symm
  refine ⟨hs.set p u', ?_, fun i l hi => ?_, fun i j v v' b hi hj hv hv' => ?_, fun he => ?_⟩
  · have := (htab.stored p u').1
    rw [List.length_set, hlen]
    exact this
  · by_cases hip : i = p
    · subst hip
      rw [List.getElem?_set_self (by omega)] at hi
      obtain rfl := Option.some.inj hi
      refine ⟨u', by rw [List.getElem?_set_self (by omega)], ho'.kept (grownBy_set w1 g i u') ?_⟩
      cases h : u'.ownBlock with
      | none => exact .inl rfl
      | some b => right; rw [h] at hgu; exact fun e => hgu e.symm
    · rw [List.getElem?_set_ne (fun e => hip e.symm)] at hi
      obtain ⟨v, h1, h2⟩ := hl i l hi
      refine ⟨v, by rw [List.getElem?_set_ne (fun e => hip e.symm)]; exact h1, ((h2.alloc o).kept hg ?_).kept (grownBy_set w1 g p u') ?_⟩
      · cases hv : v.ownBlock with
        | none => exact .inl rfl
        | some b => right; intro e; exact hip (hd i p v u b h1 hp hv e.symm)
      · cases hv : v.ownBlock with
        | none => exact .inl rfl
        | some b => right; intro e; exact own_apart ho h2 (b := b) e.symm hv
  · have key : ∀ (i : Nat) v b, i ≠ p → hs[i]? = some v → v.ownBlock = some b → u'.ownBlock = some b → False := by
      intro i v b hip h1 hv hu'
      rcases hblk with h | h
      · rw [hu'] at h; exact hip (hd i p v u b h1 hp hv h.symm)
      · have h1' := (List.getElem?_eq_some_iff.1 h1).1
        obtain ⟨v0, h3, h4⟩ := hl i _ (List.getElem?_eq_getElem (by omega))
        obtain rfl : v = v0 := Option.some.inj (h1.symm.trans h3)
        have := (h4.lt b hv).2
        rw [hu'] at h
        have := Option.some.inj h
        simp at this
        omega
    by_cases hip : i = p
    · by_cases hjp : j = p
      · omega
      · subst hip
        rw [List.getElem?_set_self (by omega)] at hi
        rw [List.getElem?_set_ne (fun e => hjp e.symm)] at hj
        obtain rfl := Option.some.inj hi
        exact absurd hv (fun h => key j v' b hjp hj hv' h)
    · rw [List.getElem?_set_ne (fun e => hip e.symm)] at hi
      by_cases hjp : j = p
      · subst hjp
        rw [List.getElem?_set_self (by omega)] at hj
        obtain rfl := Option.some.inj hj
        exact absurd hv' (fun h => key i v b hip hi hv h)
      · rw [List.getElem?_set_ne (fun e => hjp e.symm)] at hj
        exact hd i j v v' b hi hj hv hv'
  · have h2 := congrArg List.length he
    rw [List.length_set, hlen] at h2
    simp at h2; omega
end Go.Proofs.Ytbbidgdgcbnanaa
