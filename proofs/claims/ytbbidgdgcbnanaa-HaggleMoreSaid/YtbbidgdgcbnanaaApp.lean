/- slices.AppendSeq, slices.Collect, slices.Sorted over an iterator that is never left early. -/
import Derived.Test.YtbbidgdgcbnanaaLvs
import Derived.Test.YtbbidgdgcbnanaaShelf
import Derived.Shelf.SortM.Plain
import Derived.Shelf.SortM.SortNone
import Derived.Maps.OwnIn
import Derived.Sort.OwnSortedInts
namespace Go.Proofs.Ytbbidgdgcbnanaa
set_option linter.unusedVariables false
open Go.RowKit Go.Shelf Go.Sort
attribute [local go_sem] Oper.semAt_some

theorem own_base {w : World} {base base' n size : Nat} {e : TypeId} {v : Value} {xs : List Value} (h : w.ownsRow base e size v n xs) (hb : base' ≤ base) : w.ownsRow base' e size v n xs := by
  refine ⟨h.1, ?_⟩
  rcases h.2 with k | ⟨g, cap, cur, hv, h1, k⟩
  · exact .inl k
  · exact .inr ⟨g, cap, cur, hv, Nat.le_trans hb h1, k⟩
theorem addr_add (b off k : Nat) : (⟨b, off, none⟩ : Addr).add k = ⟨b, off + k, none⟩ := by unfold Addr.add; split <;> simp_all
theorem one_new (w : World) (x : Value) (t : TypeId) (n : Nat) (hn : n = w.heap.size) : ∀ j u, [x][j]? = some u → (w.alloc (.cells #[x] t)).cell? ((⟨n, 0, none⟩ : Addr).add j) = some u := by
  subst hn
  intro j u h
  match j, h with
  | 0, h =>
    simp at h
    subst h
    rw [addr_add, Nat.zero_add, World.cell?_alloc_at _ _ _ _ rfl]; rfl
  | j + 1, h => simp at h
theorem own_kept {w : World} {b n sz D : Nat} {e : TypeId} {v : Value} {xs : List Value} (h : w.ownsRow b e sz v n xs) (hD : w.heap[D]? = some (.deferred (some []))) : (w.putObj D (.deferred none)).ownsRow b e sz v n xs :=
  ownsRow_bears h (grownBy_putObj' w D _) (fun r e => by cases e; exact ⟨_, hD, rfl⟩)
theorem info_intF : (Try.prog.info? 3).map (fun i => (i.zero, i.size, i.bytes)) = some (some (.int .i64 0), 1, 8) := by kernel_rfl
theorem natL_snoc (l : List Nat) (x : Nat) : natL (l ++ [x]) = natL l ++ [.int .i64 (x : Int)] := by unfold natL intL; rw [List.map_append, List.map_append]; rfl
set_option maxRecDepth 100000 in
set_option maxHeartbeats 4000000 in
theorem appendSeq_any (n : Nat) (gf : Nat) (lb : Array Value) (eg : ∀ args w, (callFunc gf args).run Try.prog w = .ok (.enter gf args) w) (S : List Nat → Prop) (N : Nat) (hN : N ≤ 1000000) (w : World) (Φ : World → Prop) (hΦ : ∀ X, Below w.heap.size w X → Φ X)
    (hseq : ∀ k X, 1 ≤ k → w.heap.size + 1 ≤ X.heap.size → VisitsA Fence.wide k Try.prog gf lb (fun x : Fin n => #[.int .i64 (x.val : Nat)]) (w.heap.size + 1) w.heap.size (fun ys => S (valF ys)) N Φ X) :
    Calls Try.prog 105 #[.slice none 0 0, .func (.func gf) #[] lb] w fun e w' => ∃ v, e = .returned v ∧ ∃ xs, S xs ∧ xs.length ≤ N ∧ w'.ownsRow w.heap.size 3 1 v xs.length (natL xs) ∧ Below w.heap.size w w' := by
  refine (callsIn_wide (n := 6)).1 ?_
  obtain ⟨i0, hi, hz0, hz1, hz2⟩ := info_parts info_intF
  refine callsIn_of_wp_marks Try.func105 rfl trivial ?_ rfl
  simp only [Try.ntmps105, List.size_toArray, List.length_cons, List.length_nil, Nat.reduceAdd, Nat.reduceSub, Array.replicate_succ, Array.replicate_zero, List.push_toArray, List.append_toArray, List.nil_append, List.cons_append]
  gi_wp2_with fail
  generalize hW3 : w.alloc (.cells #[.slice none 0 0] 27) = W3
  have hsz : W3.heap.size = w.heap.size + 1 := by rw [← hW3]; simp
  have hI0 : LstI w w.heap.size (w.heap.size + 1) 27 3 1 (fun l : List (Fin n) => (valF l).length) (fun l => natL (valF l)) [] W3 ∧ True := by
    rw [← hW3]
    exact ⟨⟨.slice none 0 0, Boxed.new w _ _, World.ownsRow_nil _ _ _ _, below_alloc _ _⟩, trivial⟩
  clear hW3
  refine range_visits_A (α := Fin n) rfl (by omega) (gf := gf) (lb := lb) rfl trivial eg
    (encs := fun x : Fin n => #[.int .i64 (x.val : Nat)]) (T := w.heap.size + 1) (B1 := w.heap.size) (by omega) (S := fun ys => S (valF ys)) (N := N) (by omega) (Φ := Φ)
    (fun X hX => hseq _ X (by omega) (by have := hX.size; omega)) (fun _ => rfl)
    (fun pre X => LstI w w.heap.size (w.heap.size + 1) 27 3 1 (fun l : List (Fin n) => (valF l).length) (fun l => natL (valF l)) pre X ∧ pre.length ≤ N)
    (fun s A B row hs hg hr => ⟨bears_lst (by omega) s A B row hs.1 hg hr, hs.2⟩)
    (fun pre X h => hΦ X (by obtain ⟨⟨v, _, _, hx⟩, _⟩ := h; exact hx)) (fun pre X h => h.1.cells) ⟨hI0.1, by simp⟩
    (fun x => { tmps := #[.slice none 0 0, .func (.func gf) #[] lb, .pointer (some ⟨w.heap.size, 0, none⟩), undef, .slice none 0 0, .int .i64 (x.val : Nat), .func (.func gf) #[] lb, .int .i64 (x.val : Nat), undef, undef, undef, undef, undef], defers := [] }) ?assign ?body ?done
  case assign =>
    intro l x W K hK
    gi_wp2
    exact hK
  case body =>
    rintro l pre x W ⟨⟨v, hb, hown, hX⟩, hpl⟩ hlen
    have c0 := hb.cell
    simp only [valF_len] at hown
    obtain ⟨k, hk⟩ : ∃ k, pre.length = k := ⟨_, rfl⟩
    rw [hk] at hown hlen
    have Hb := Lib.hid hb
    have Hown := Lib.hid hown
    have HX := Lib.hid hX
    have Hk := Lib.hid hk
    have Hown5 := Lib.hid (hown.alloc (.cells #[.int .i64 (x.val : Nat)] 3))
    have hX5 := hX.size
    obtain ⟨a, cap, hv, -⟩ := Row.of_own hown
    subst hv
    obtain ⟨z, hz⟩ : ∃ z : Nat, x.val = z := ⟨_, rfl⟩
    have Hz := Lib.hid hz
    rw [hz] at Hown5 ⊢
    clear hb hown hX hk hI0 hz hpl
    gi_wp2_with (first | (gi_at_builtin; refine stopL ?_) | gi_in)
    unfold stopP
    refine wpListIn_append_own_at _ rfl _ _ 27 rfl (w.heap.size + 1) 3 i0 (.int .i64 0) 1 8 Try.underlying27 hi hz0 hz1 hz2 rfl (by decide) _ _ _ rfl Hown5.out ⟨W.heap.size, 0, none⟩ 1 1 [.int .i64 (z : Int)] rfl rfl (one_new _ _ _ _ rfl) (by simp [Value.oneCell']) (by unfold maxLen; omega) (by omega) (by simp; omega) ?_
    intro v' w9 hown' hgrow _ hblk
    have hg8 : W.grownBy (W.alloc (.cells #[.int .i64 (z : Int)] 3)) none := World.grownBy_alloc _ _ none
    have hb9 := (Hb.out.alloc (.cells #[.int .i64 (z : Int)] 3)).kept hgrow (Boxed.not_row (Hb.out.alloc _) (by decide) Hown5.out)
    have c9 := hb9.cell
    have f9 := hb9.frozen
    have l9 := hb9.lt
    have hst := lst_step (s := pre) (s' := pre ++ [x]) (T := w.heap.size + 1) (ln := fun l : List (Fin n) => (valF l).length) (cs := fun l => natL (valF l)) (by omega) (by decide) (by omega) (by omega) Hb.out Hown.out HX.out hg8 hown' hgrow hblk (by rw [valF_snoc, List.length_append, valF_len, Hk.out]; rfl) (by rw [valF_snoc, natL_snoc, Hz.out])
    have HST := Lib.hid hst
    have hlen2 : Hid ((pre ++ [x]).length ≤ N) := by unfold Hid; rw [List.length_append, Hk.out]; simp; omega
    obtain ⟨av, cv, hv'⟩ : ∃ av cv, v' = .slice av (k + 1) cv := by
      rcases hown'.2 with ⟨_, h⟩ | ⟨g', cap', cur, h, _⟩
      · omega
      · exact ⟨_, _, h⟩
    subst hv'
    clear hb9 hown' hgrow hblk hst hg8
    gi_wp2
    exact ⟨HST.out.1, HST.out.2, hlen2.out⟩
  case done =>
    rintro D xs X hD hS ⟨⟨v, hb, hown, hX⟩, hlN⟩ hDf
    have c0 := hb.cell
    have Hown := Lib.hid hown
    have HX := Lib.hid hX
    have HDf := Lib.hid hDf
    have HS := Lib.hid hS
    have hDl : w.heap.size + 1 ≤ D := by omega
    have HlN := Lib.hid hlN
    clear hown hX hDf hD hb hI0 hS hlN
    gi_wp2
    refine leaves_one (by simp) (n₀ := w.heap.size) (Φ := fun Y => Y.ownsRow w.heap.size 3 1 v (valF xs).length (natL (valF xs)) ∧ Below w.heap.size w Y) ?_ ?_ D X (by omega) HDf.out ⟨own_base Hown.out (by omega), HX.out⟩
    · rintro Y D' ⟨h1, h2⟩ hD' hk
      exact ⟨own_kept h1 hk, h2.grown (grownBy_putObj' Y D' _) h2.size (fun q e => by cases e; omega)⟩
    · rintro Y ⟨h1, h2⟩
      refine ⟨v, ?_, v, rfl, valF xs, HS.out, by rw [valF_len]; exact HlN.out, h1, h2⟩
      simp [results, Try.f105, go_sem]
set_option maxRecDepth 100000 in
set_option maxHeartbeats 1000000 in
theorem collect_any (n : Nat) (gf : Nat) (lb : Array Value) (eg : ∀ args w, (callFunc gf args).run Try.prog w = .ok (.enter gf args) w) (S : List Nat → Prop) (N : Nat) (hN : N ≤ 1000000) (w : World) (Φ : World → Prop) (hΦ : ∀ X, Below w.heap.size w X → Φ X)
    (hseq : ∀ k X, 1 ≤ k → w.heap.size + 1 ≤ X.heap.size → VisitsA Fence.wide k Try.prog gf lb (fun x : Fin n => #[.int .i64 (x.val : Nat)]) (w.heap.size + 1) w.heap.size (fun ys => S (valF ys)) N Φ X) :
    Calls Try.prog 82 #[.func (.func gf) #[] lb] w fun e w' => ∃ v, e = .returned v ∧ ∃ xs, S xs ∧ xs.length ≤ N ∧ w'.ownsRow w.heap.size 3 1 v xs.length (natL xs) ∧ Below w.heap.size w w' := by
  have HA := Lib.hid (appendSeq_any n gf lb eg S N hN w Φ hΦ hseq)
  clear hseq hΦ
  go_enter Try.func82, Try.ntmps82
  go_wp2_with fail
  refine HA.out.mono ?_
  rintro e w1 ⟨v, rfl, xs, h1, h2, h3, h4⟩
  have H := Lib.hid (And.intro h1 (And.intro h2 (And.intro h3 h4)))
  clear h1 h2 h3 h4 HA
  go_wp2
  go_ret
  exact ⟨_, rfl, xs, H.out⟩
theorem sort_own {w : World} {base n : Nat} {v : Value} {zs : List Int} (h : w.ownsRow base 3 1 v n (intL zs)) (hn : n ≤ 1000000) :
    Calls Try.prog 112 #[v] w fun e w' => e = .returned (.tuple #[]) ∧ w'.ownsRow base 3 1 v n (intL (zs.mergeSort fun x y => decide (x ≤ y))) ∧ w.grownBy w' v.ownBlock := by
  have hl : zs.length = n := by have := h.1; simpa [intL] using this
  rcases h.2 with ⟨rfl, h0⟩ | ⟨gb, cp, cur, rfl, hgb, hcur, h4, h5, h6, h7⟩
  · obtain rfl : zs = [] := List.eq_nil_of_length_eq_zero (by omega)
    subst h0
    refine (AnyM.slices_Sort_int_none Try.sortA none 0 w : Calls Try.prog 112 _ _ _).mono ?_
    rintro e w' ⟨rfl, rfl⟩
    exact ⟨rfl, by rw [List.mergeSort_nil]; exact World.ownsRow_nil _ _ _ _, World.grownBy.refl _ _⟩
  · subst hl
    have hh := holds_of_blockI hcur (ss := zs) (by rw [← Nat.mul_one zs.length]; exact h7)
    refine (AnyM.slices_Sort_int Try.sortA gb 0 cp zs w hh (Array.getElem?_eq_some_iff.1 hcur).1 (by omega) : Calls Try.prog 112 _ _ _).mono ?_
    rintro e w' ⟨rfl, m, os, rfl⟩
    refine ⟨rfl, ?_, grownBy_sortedI _⟩
    have := ownsRow_sortedI (w := w) (base := base) (g := gb) (cap := cp) (n := m) (os := os) (ts := zs.mergeSort fun x y => decide (x ≤ y)) (ss := zs) (by rw [List.length_mergeSort]) hgb hcur h4 h5 h6
    exact this
/-- the numbers of a list in ascending order -/
def sortN (xs : List Nat) : List Int := (xs.map fun c : Nat => (c : Int)).mergeSort fun x y => decide (x ≤ y)
theorem sortN_len (xs : List Nat) : (sortN xs).length = xs.length := by unfold sortN; rw [List.length_mergeSort, List.length_map]
set_option maxRecDepth 100000 in
set_option maxHeartbeats 1000000 in
theorem sorted_any (n : Nat) (gf : Nat) (lb : Array Value) (eg : ∀ args w, (callFunc gf args).run Try.prog w = .ok (.enter gf args) w) (S : List Nat → Prop) (N : Nat) (hN : N ≤ 1000000) (w : World) (Φ : World → Prop) (hΦ : ∀ X, Below w.heap.size w X → Φ X)
    (hseq : ∀ k X, 1 ≤ k → w.heap.size + 1 ≤ X.heap.size → VisitsA Fence.wide k Try.prog gf lb (fun x : Fin n => #[.int .i64 (x.val : Nat)]) (w.heap.size + 1) w.heap.size (fun ys => S (valF ys)) N Φ X) :
    Calls Try.prog 100 #[.func (.func gf) #[] lb] w fun e w' => ∃ v, e = .returned v ∧ ∃ xs, S xs ∧ w'.ownsRow w.heap.size 3 1 v xs.length (intL (sortN xs)) ∧ Below w.heap.size w w' := by
  have HA := Lib.hid (collect_any n gf lb eg S N hN w Φ hΦ hseq)
  clear hseq hΦ
  go_enter Try.func100, Try.ntmps100
  go_wp2_with fail
  refine HA.out.mono ?_
  rintro e w1 ⟨v, rfl, xs, h1, h2, h3, h4⟩
  have HS := Lib.hid (sort_own (w := w1) (base := w.heap.size) (n := xs.length) (v := v) (zs := xs.map fun c : Nat => (c : Int)) h3 (by omega))
  have HSx := Lib.hid h1
  have HB := Lib.hid h4
  have Hlt := Lib.hid fun g (hg : v.ownBlock = some g) => (h3.lt g hg).1
  clear h1 h2 h3 h4 HA
  go_wp2_with fail
  refine HS.out.mono ?_
  rintro e w2 ⟨rfl, o2, g2⟩
  have HO := Lib.hid o2
  have HB2 : Hid (Below w.heap.size w w2) := HB.out.grown g2 HB.out.size (fun j e => Hlt.out j e)
  clear o2 g2 HS HB Hlt
  go_wp2
  go_ret
  exact ⟨_, rfl, xs, HSx.out, HO.out, HB2.out⟩
end Go.Proofs.Ytbbidgdgcbnanaa
