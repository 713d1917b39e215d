/- search: what the search gives and visits (mathematics), and the memory of its visits. -/
import Derived.Test.YtbbidgdgcbnanaaApp
import Derived.Test.YtbbidgdgcbnanaaCst
import Derived.Test.YtbbidgdgcbnanaaFold
namespace Go.Proofs.Ytbbidgdgcbnanaa
set_option linter.unusedVariables false
open Go.RowKit Go.Shelf Go.Sort

/-- a node's replies one after another, until one is enough -/
def scanN (go : Nat → Int → Int × List Nat) (stop : Int → Bool) (op : Int → Int → Int) : List Nat → Int → Int × List Nat
  | [], b => (b, [])
  | c :: l, b => if stop (op b (go c b).1) = true then (op b (go c b).1, (go c b).2) else ((scanN go stop op l (op b (go c b).1)).1, (go c b).2 ++ (scanN go stop op l (op b (go c b).1)).2)
/-- the search: what it gives, and the leaves that it visits -/
def abN (T : Tree) : Nat → Nat → Int → Int → Int × List Nat
  | 0, _, _, _ => (0, [])
  | F + 1, i, lo, hi =>
    if kids T i = [] then (worthOf T i, [i])
    else if even T i = true then scanN (fun c b => abN T F c b hi) (fun b => decide (hi ≤ b)) max (kids T i) lo
    else scanN (fun c b => abN T F c lo b) (fun b => decide (b ≤ lo)) min (kids T i) hi
theorem scan_step (go : Nat → Int → Int × List Nat) (stop : Int → Bool) (op : Int → Int → Int) {l : List Nat} {k c : Nat} (hc : l[k]? = some c) (b : Int) :
    scanN go stop op (l.drop k) b = if stop (op b (go c b).1) = true then (op b (go c b).1, (go c b).2) else ((scanN go stop op (l.drop (k + 1)) (op b (go c b).1)).1, (go c b).2 ++ (scanN go stop op (l.drop (k + 1)) (op b (go c b).1)).2) := by
  obtain ⟨hk, rfl⟩ := List.getElem?_eq_some_iff.1 hc
  rw [List.drop_eq_getElem_cons hk]
  rfl
theorem scan_len {T : Tree} (go : Nat → Int → Int × List Nat) (stop : Int → Bool) (op : Int → Int → Int) : ∀ (l : List Nat) (b : Int), (∀ c ∈ l, 0 ≤ leavesN T c ∧ ∀ x, ((go c x).2.length : Int) ≤ leavesN T c) → ((scanN go stop op l b).2.length : Int) ≤ (l.map (leavesN T)).sum
  | [], b, _ => by simp [scanN]
  | c :: l, b, h => by
    have h1 := (h c List.mem_cons_self).2 b
    have h2 := scan_len go stop op l (op b (go c b).1) fun d hd => h d (List.mem_cons_of_mem _ hd)
    have h3 : 0 ≤ (l.map (leavesN T)).sum := by
      have : ∀ l : List Nat, (∀ d ∈ l, 0 ≤ leavesN T d) → 0 ≤ (l.map (leavesN T)).sum := by
        intro l
        induction l with
        | nil => intro _; simp
        | cons d l ih => intro hl; have := hl d List.mem_cons_self; have := ih fun e he => hl e (List.mem_cons_of_mem _ he); simp; omega
      exact this l fun d hd => (h d (List.mem_cons_of_mem _ hd)).1
    rw [List.map_cons, List.sum_cons]
    unfold scanN
    by_cases e : stop (op b (go c b).1) = true
    · rw [if_pos e]; show ((go c b).2.length : Int) ≤ _; omega
    · rw [if_neg e]
      show (((go c b).2 ++ (scanN go stop op l (op b (go c b).1)).2).length : Int) ≤ _
      rw [List.length_append]; omega
theorem ab_len {T : Tree} (h : IsTree T) : ∀ (F i : Nat) (lo hi : Int), i < T.length → ((abN T F i lo hi).2.length : Int) ≤ leavesN T i
  | 0, i, lo, hi, hi' => by have := leavesN_pos h i hi'; show ((0 : Nat) : Int) ≤ _; omega
  | F + 1, i, lo, hi, hi' => by
    rw [leavesN_eq h hi']
    unfold abN
    by_cases e : kids T i = []
    · rw [if_pos e, if_pos e]; simp
    · rw [if_neg e, if_neg e]
      have hk : ∀ c ∈ kids T i, c < T.length ∧ 0 ≤ leavesN T c := fun c hc => ⟨(h.kid hc).2.1, by have := leavesN_pos h c (h.kid hc).2.1; omega⟩
      by_cases e2 : even T i = true
      · rw [if_pos e2]; exact scan_len _ _ _ _ _ fun c hc => ⟨(hk c hc).2, fun x => ab_len h F c x hi (hk c hc).1⟩
      · rw [if_neg e2]; exact scan_len _ _ _ _ _ fun c hc => ⟨(hk c hc).2, fun x => ab_len h F c lo x (hk c hc).1⟩
/-- in X the search, made in w0, has visited xs -/
structure SrcI (w0 : World) (g cap B n : Nat) (xs : List Nat) (X : World) : Prop where
  below : Below w0.heap.size w0 X
  box : ∃ v, X.heap[w0.heap.size]? = some (.cells #[.slice (some ⟨g, 0, none⟩) n cap, .slice (some ⟨B, 0, none⟩) n n, v] 82) ∧ X.ownsRow (w0.heap.size + 1) 3 1 v xs.length (natL xs)
theorem SrcI.lt {w0 : World} {g cap B n : Nat} {xs : List Nat} {X : World} (h : SrcI w0 g cap B n xs X) : w0.heap.size < X.heap.size := by
  obtain ⟨v, h1, -⟩ := h.box
  exact (Array.getElem?_eq_some_iff.1 h1).1
theorem SrcI.next {w0 : World} {g cap B n : Nat} {xs : List Nat} {X Y : World} (h : SrcI w0 g cap B n xs X) (hb : Below X.heap.size X Y) : SrcI w0 g cap B n xs Y := by
  obtain ⟨v, h1, h2⟩ := h.box
  exact ⟨b_next h.below hb, v, (hb.block _ (Array.getElem?_eq_some_iff.1 h1).1).trans h1, h2.kept (grown_none hb none) (by cases v.ownBlock <;> simp)⟩
theorem SrcI.cells {w0 : World} {g cap B n : Nat} {xs : List Nat} {X : World} (h : SrcI w0 g cap B n xs X) : X.cell? ⟨w0.heap.size, 0, none⟩ = some (.slice (some ⟨g, 0, none⟩) n cap) ∧ X.cell? ⟨w0.heap.size, 1, none⟩ = some (.slice (some ⟨B, 0, none⟩) n n) := by
  obtain ⟨v, h1, -⟩ := h.box
  obtain ⟨c0, c1, -⟩ := three_cells h1
  exact ⟨c0, c1⟩
theorem box3_not_row {W : World} {S : Nat} {x y z : Value} {t e : TypeId} (h : W.heap[S]? = some (.cells #[x, y, z] t (0, 0))) (hte : t ≠ e) {base size k : Nat} {v : Value} {xs : List Value} (hr : W.ownsRow base e size v k xs) : some S ≠ v.ownBlock := by
  rcases hr.2 with ⟨rfl, _⟩ | ⟨g, cap, cur, rfl, _, hgb, _⟩
  · simp [Value.ownBlock]
  · intro e'
    obtain rfl : S = g := by simpa [Value.ownBlock] using e'
    have := h.symm.trans hgb
    simp at this
    exact hte this.2
theorem src_push {w0 : World} {g cap B n i : Nat} {xs : List Nat} {W W8 w9 : World} {v v' : Value} (hx : Below w0.heap.size w0 W) (hbx : W.heap[w0.heap.size]? = some (.cells #[.slice (some ⟨g, 0, none⟩) n cap, .slice (some ⟨B, 0, none⟩) n n, v] 82)) (hown : W.ownsRow (w0.heap.size + 1) 3 1 v xs.length (natL xs))
    (hg8 : W.grownBy W8 none) (ho9 : w9.ownsRow (w0.heap.size + 1) 3 1 v' (xs.length + 1) (natL xs ++ [.int .i64 (i : Int)])) (hg9 : W8.grownBy w9 v.ownBlock) :
    w9.heap[w0.heap.size]? = some (.cells #[.slice (some ⟨g, 0, none⟩) n cap, .slice (some ⟨B, 0, none⟩) n n, v] 82) ∧ SrcI w0 g cap B n (xs ++ [i]) (w9.setCell ⟨w0.heap.size, 2, none⟩ v') := by
  have hlt := (Array.getElem?_eq_some_iff.1 hbx).1
  have h8 := (hg8.block _ hlt (by simp)).trans hbx
  have hown8 := hown.kept hg8 (by cases v.ownBlock <;> simp)
  have h9 := (hg9.block _ (Array.getElem?_eq_some_iff.1 h8).1 (box3_not_row h8 (by decide) hown8)).trans h8
  have hn9 := box3_not_row h9 (by decide) ho9
  refine ⟨h9, ?_, v', by simp [World.setCell, Array.getElem?_modify, h9], ?_⟩
  · have hb8 : Below w0.heap.size w0 W8 := hx.grown hg8 hx.size (fun k e => by cases e)
    have hb9 : Below w0.heap.size w0 w9 := hb8.grown hg9 hb8.size (fun k e => by have := (hown.lt k e).1; omega)
    exact hb9.setCell (p := ⟨w0.heap.size, 2, none⟩) (Nat.le_refl _) v'
  · rw [List.length_append, List.length_singleton, natL_snoc]
    exact ho9.kept (grownBy_set w9 _ _ _) (by cases h : v'.ownBlock with | none => exact .inl rfl | some q => exact .inr (by rw [h] at hn9; exact fun e => hn9 e.symm))
end Go.Proofs.Ytbbidgdgcbnanaa
