/- Texts, joined: Nest, Tabl, Ptab, Val, Fat, Teq, Cntt, Newt, Formm. -/
import Derived.Test.YtndbjojjaapeaaaQa
import Derived.Deep.WholeRow
import Derived.Deep.OwnRows
import Derived.Laws.CopyOwn
import Derived.Deep.Onto
import Derived.DeepKeys
/- nested: a range over the positions from the last one to the first one. -/
namespace Go.Proofs.Ytndbjojjaapeaaa
set_option linter.unusedVariables false
open Go.RowKit Go.Shelf
attribute [local go_sem] Oper.semAt_some

/-- what nested has behind the positions pre -/
def nestW {n : Nat} (m : Int) (f : Nat → Int) (xs : List Int) (pre : List (Fin n)) : Int := pre.foldl (fun v x => (xs.getD x.val 0 + f x.val * v) % m) 0
theorem nestW_snoc {n : Nat} (m : Int) (f : Nat → Int) (xs : List Int) (pre : List (Fin n)) (x : Fin n) : nestW m f xs (pre ++ [x]) = (xs.getD x.val 0 + f x.val * nestW m f xs pre) % m := by simp [nestW, List.foldl_append]
theorem nestV_from (m : Int) (f : Nat → Int) (xs : List Int) : ∀ (k i : Nat), i + k = xs.length → nestV m f i (xs.drop i) = ((List.range' i k).foldr (fun j v => (xs.getD j 0 + f j * v) % m) 0)
  | 0, i, h => by rw [List.drop_of_length_le (by omega)]; rfl
  | k + 1, i, h => by
    rw [List.drop_eq_getElem_cons (by omega), List.range'_succ, List.foldr_cons, ← nestV_from m f xs k (i + 1) (by omega)]
    show (xs[i] + _) % m = _
    rw [List.getD_eq_getElem?_getD, List.getElem?_eq_getElem (by omega)]; rfl
theorem nestW_all {n : Nat} (m : Int) (f : Nat → Int) {xs : List Int} (hx : xs.length = n) : nestW m f xs (allD n) = nestV m f 0 xs := by
  have h := nestV_from m f xs n 0 (by omega)
  rw [List.drop_zero] at h
  rw [h]
  unfold nestW allD
  rw [List.foldl_reverse]
  have e : (List.finRange n).map Fin.val = List.range' 0 n := by
    refine List.ext_getElem (by simp) fun i h1 h2 => by simp
  rw [← e, List.foldr_map]
theorem nestW_range {n : Nat} {m : Int} (hm : 0 < m) (f : Nat → Int) (xs : List Int) : ∀ pre : List (Fin n), 0 ≤ nestW m f xs pre ∧ nestW m f xs pre < m := by
  intro pre
  by_cases h : pre = []
  · subst h; exact ⟨Int.le_refl _, hm⟩
  · rw [← List.dropLast_concat_getLast h, nestW_snoc]
    exact ⟨Int.emod_nonneg _ (by omega), Int.emod_lt_of_pos _ hm⟩
/-- a block of one cell -/
def Box1 (X : World) (B : Nat) (t : TypeId) (v : Value) : Prop := X.heap[B]? = some (.cells #[v] t (0, 0))
theorem Box1.cell {X : World} {B : Nat} {t : TypeId} {v : Value} (h : Box1 X B t v) : X.cell? ⟨B, 0, none⟩ = some v := by simp [World.cell?, show X.heap[B]? = _ from h]
theorem Box1.frozen {X : World} {B : Nat} {t : TypeId} {v : Value} (h : Box1 X B t v) : X.frozen? ⟨B, 0, none⟩ = false := by simp [World.frozen?, show X.heap[B]? = _ from h]
theorem Box1.lt {X : World} {B : Nat} {t : TypeId} {v : Value} (h : Box1 X B t v) : B < X.heap.size := (Array.getElem?_eq_some_iff.1 h).1
theorem Box1.new (W : World) (t : TypeId) (v : Value) : Box1 (W.alloc (.cells #[v] t)) W.heap.size t v := heap_alloc_new W _
theorem Box1.grown {X Y : World} {B : Nat} {t : TypeId} {v : Value} {row : Option Nat} (h : Box1 X B t v) (hg : X.grownBy Y row) (hne : some B ≠ row) : Box1 Y B t v := (hg.block B h.lt hne).trans h
theorem Box1.below {X Y : World} {B : Nat} {t : TypeId} {v : Value} (h : Box1 X B t v) (hb : Below X.heap.size X Y) : Box1 Y B t v := (hb.block B h.lt).trans h
theorem Box1.set {X : World} {B : Nat} {t : TypeId} {v : Value} (h : Box1 X B t v) (u : Value) : Box1 (X.setCell ⟨B, 0, none⟩ u) B t u := by
  have := heap_setCell_same X B 0 #[v] t u h
  simpa [Box1] using this
theorem Box1.far {X : World} {B B' o : Nat} {t : TypeId} {v u : Value} (h : Box1 X B t v) (hne : B ≠ B') : Box1 (X.setCell ⟨B', o, none⟩ u) B t v := (heap_setCell_other X ⟨B', o, none⟩ B u hne).trans h

/-- between two rounds of nested -/
structure NesI (w : World) (m gF : Nat) (caps : Array Value) (v : Int) (X : World) : Prop where
  below : Below w.heap.size w X
  b0 : Box1 X w.heap.size 52 (.func (.func gF) #[] caps)
  b1 : Box1 X (w.heap.size + 1) 3 (.int .i64 m)
  b2 : Box1 X (w.heap.size + 1 + 1) 52 (.func (.func 97) #[] #[.pointer (some ⟨w.heap.size + 1, 0, none⟩)])
  b3 : Box1 X (w.heap.size + 1 + 1 + 1) 3 (.int .i64 v)
theorem NesI.next {w X Y : World} {m gF : Nat} {caps : Array Value} {v : Int} (h : NesI w m gF caps v X) (hb : Below X.heap.size X Y) : NesI w m gF caps v Y :=
  ⟨b_next h.below hb, h.b0.below hb, h.b1.below hb, h.b2.below hb, h.b3.below hb⟩
theorem NesI.grown {w X Y : World} {m gF : Nat} {caps : Array Value} {v : Int} {row : Option Nat} (h : NesI w m gF caps v X) (hg : X.grownBy Y row) (hr : ∀ k, row = some k → w.heap.size + 4 ≤ k) : NesI w m gF caps v Y :=
  ⟨h.below.grown hg h.below.size (fun k e => by have := hr k e; omega), h.b0.grown hg (fun e => by have := hr _ e.symm; omega), h.b1.grown hg (fun e => by have := hr _ e.symm; omega), h.b2.grown hg (fun e => by have := hr _ e.symm; omega), h.b3.grown hg (fun e => by have := hr _ e.symm; omega)⟩
theorem NesI.set {w X : World} {m gF : Nat} {caps : Array Value} {v : Int} (h : NesI w m gF caps v X) (u : Int) : NesI w m gF caps u (X.setCell ⟨w.heap.size + 1 + 1 + 1, 0, none⟩ (.int .i64 u)) :=
  ⟨h.below.setCell (p := ⟨w.heap.size + 1 + 1 + 1, 0, none⟩) (by simp <;> omega) _, h.b0.far (by omega), h.b1.far (by omega), h.b2.far (by omega), h.b3.set _⟩
theorem grown_of_below {X Y : World} {row : Option Nat} (h : Below X.heap.size X Y) : X.grownBy Y row := ⟨h.os, h.tape, h.output, h.size, fun k hk _ => h.block k hk⟩
theorem keeps_below {T : Nat} {X Y : World} (h : Below X.heap.size X Y) : KeepsAt T X Y := KeepsAt.of_grown (row := none) (grown_of_below h) (by simp)
theorem keeps_set {T B o : Nat} {X : World} (v : Value) (h : B < T) : KeepsAt T X (X.setCell ⟨B, o, none⟩ v) :=
  KeepsAt.of_grown (row := some B) ⟨rfl, rfl, rfl, by simp, fun k _ hk => Below.heap_setCell _ _ _ _ (by show k ≠ B; exact fun e => hk (by rw [e]))⟩ (fun r e => by cases e; exact h)
set_option maxRecDepth 100000 in
set_option maxHeartbeats 4000000 in
theorem nested_any (m : Nat) (a : Option Addr) (n cap : Nat) (xs : List Int) (gF : Nat) (caps : Array Value) (f : Nat → Int) (w : World) (hr : Row w a n (intL xs)) (hn : n ≤ 100) (hm : 1 ≤ m) (hm2 : m ≤ 64)
    (hxs : ∀ x ∈ xs, -1000 ≤ x ∧ x ≤ 1000) (hfr : ∀ i, i < n → -1000 ≤ f i ∧ f i ≤ 1000) (eg : ∀ args w, (callFunc gF args).run Try.prog w = .ok (.enter gF args) w)
    (hF : ∀ (i : Nat) (W : World), i < n → Below w.heap.size w W → Calls Try.prog gF (#[.int .i64 i] ++ caps) W fun e w' => e = .returned (.int .i64 (f i)) ∧ Below W.heap.size W w') :
    Calls Try.prog 93 #[.int .i64 m, .slice a n cap, .func (.func gF) #[] caps] w fun e w' => e = .returned (.int .i64 (nestV m f 0 xs)) ∧ Below w.heap.size w w' := by
  refine (callsIn_wide (n := 6)).1 ?_
  have hx : xs.length = n := by have := hr.1; simpa [intL] using this
  have hmo := fun W => modulo_any m W
  have hmx : Try.prog.follows .mixedOrders = true := by kernel_rfl
  have hW4 : NesI w m gF caps 0 (((((w.alloc (.cells #[.func (.func gF) #[] caps] 52)).alloc (.cells #[.int .i64 m] 3)).alloc (.cells #[.func (.func 97) #[] #[.pointer (some ⟨w.heap.size + 1, 0, none⟩)]] 52)).alloc (.cells #[.int .i64 0] 3)).alloc (.cells #[.slice a n cap] 22)) := by
    have c0 := Box1.new w 52 (.func (.func gF) #[] caps)
    have b0 := below_alloc w (.cells #[.func (.func gF) #[] caps] 52)
    have hs0 : (w.alloc (.cells #[.func (.func gF) #[] caps] 52)).heap.size = w.heap.size + 1 := by simp
    generalize w.alloc (.cells #[.func (.func gF) #[] caps] 52) = w1 at c0 b0 hs0 ⊢
    have c1 := Box1.new w1 3 (.int .i64 m)
    have b1 := below_alloc w1 (.cells #[.int .i64 m] 3)
    have hs1 : (w1.alloc (.cells #[.int .i64 m] 3)).heap.size = w.heap.size + 1 + 1 := by simp [hs0]
    generalize w1.alloc (.cells #[.int .i64 m] 3) = w2 at c1 b1 hs1 ⊢
    have c2 := Box1.new w2 52 (.func (.func 97) #[] #[.pointer (some ⟨w.heap.size + 1, 0, none⟩)])
    have b2 := below_alloc w2 (.cells #[.func (.func 97) #[] #[.pointer (some ⟨w.heap.size + 1, 0, none⟩)]] 52)
    have hs2 : (w2.alloc (.cells #[.func (.func 97) #[] #[.pointer (some ⟨w.heap.size + 1, 0, none⟩)]] 52)).heap.size = w.heap.size + 1 + 1 + 1 := by simp [hs1]
    generalize w2.alloc (.cells #[.func (.func 97) #[] #[.pointer (some ⟨w.heap.size + 1, 0, none⟩)]] 52) = w3 at c2 b2 hs2 ⊢
    have c3 := Box1.new w3 3 (.int .i64 0)
    have b3 := below_alloc w3 (.cells #[.int .i64 0] 3)
    generalize w3.alloc (.cells #[.int .i64 0] 3) = w4 at c3 b3 ⊢
    have b4 := below_alloc w4 (.cells #[.slice a n cap] 22)
    rw [hs0] at c1
    rw [hs1] at c2
    rw [hs2] at c3
    exact ⟨b_next (b_next (b_next (b_next b0 b1) b2) b3) b4, (((c0.below b1).below b2).below b3).below b4, ((c1.below b2).below b3).below b4, (c2.below b3).below b4, c3.below b4⟩
  have A3 := Box1.new ((((w.alloc (.cells #[.func (.func gF) #[] caps] 52)).alloc (.cells #[.int .i64 m] 3)).alloc (.cells #[.func (.func 97) #[] #[.pointer (some ⟨w.heap.size + 1, 0, none⟩)]] 52)).alloc (.cells #[.int .i64 0] 3)) 22 (.slice a n cap)
  simp only [World.size_alloc] at A3
  have a3 := A3.cell
  have HM := Lib.hid hmo
  have Hr := Lib.hid hr
  have Hx := Lib.hid hx
  have HF := Lib.hid hF
  have Hxs := Lib.hid hxs
  have Hfr := Lib.hid hfr
  clear hmo hr hx hF hxs hfr A3
  refine callsIn_of_wp_marks Try.func93 rfl trivial ?_ rfl
  simp only [Try.ntmps93, List.size_toArray, List.length_cons, List.length_nil, Nat.reduceAdd, Nat.reduceSub, Array.replicate_succ, Array.replicate_zero, List.push_toArray, List.append_toArray, List.nil_append, List.cons_append]
  gi_wp2_with (first
    | (refine ⟨trivial, ?_⟩; gi_at_call 66; refine (callsIn_wide.2 (HM.out _)).mono ?_; rintro e w1 ⟨rfl, rfl⟩)
    | (refine ⟨trivial, ?_⟩; gi_at_call 104; refine (back_in _ _ _ _ _).mono ?_; rintro e w' ⟨rfl, rfl⟩))
  have HW4 := Lib.hid hW4
  clear hW4
  refine range_visits_k (α := Fin n) rfl (by omega) (gf := 108) (lb := #[.pointer (some ⟨w.heap.size + 1 + 1 + 1 + 1, 0, none⟩)]) rfl trivial (enters_of Try.func108 (by kernel_rfl) rfl)
    (encs := fun x : Fin n => #[.int .i64 (x.val : Nat), .int .i64 (xs.getD x.val 0)]) (T := w.heap.size + 1 + 1 + 1 + 1) (S := fun ys => ys = allD n) (Sp := fun pre => pre <+: allD n) (N := n) (Kp := fun X => Row X a n (intL xs)) (by simp)
    (fun W hW => back1_visits 5 (by omega) a n cap xs Hx.out (by omega) (w.heap.size + 1 + 1 + 1 + 1) _ W (Nat.le_refl _) ((World.cell?_of_block (a := ⟨w.heap.size + 1 + 1 + 1 + 1, 0, none⟩) (hW.block _ (World.block_lt_of_cell? _ _ a3) (by simp))).trans a3)) (fun _ => rfl)
    (fun pre X => NesI w m gF caps (nestW m f xs pre) X) (fun _ _ _ => False) (fun s W W' row hs hg hr => hs.grown hg (fun k e => by have := hr k e; simp at this; omega)) (fun c s W W' row hs hg hr => hs)
    HW4.out (fun pre X h => Hr.out.below h.below)
    (fun x => { tmps := #[.int .i64 m, .slice a n cap, .func (.func gF) #[] caps, undef, undef, .pointer (some ⟨w.heap.size, 0, none⟩), .int .i64 0, .pointer (some ⟨w.heap.size + 1 + 1, 0, none⟩), .pointer (some ⟨w.heap.size + 1 + 1 + 1, 0, none⟩), .int .i64 (x.val : Nat), .int .i64 (xs.getD x.val 0), .int .i64 m, .func (.func 97) #[] #[.pointer (some ⟨w.heap.size + 1, 0, none⟩)], .slice a n cap, .func (.func 108) #[] #[.pointer (some ⟨w.heap.size + 1 + 1 + 1 + 1, 0, none⟩)], .int .i64 (x.val : Nat), .int .i64 (xs.getD x.val 0), undef, undef, undef, undef, undef, undef, undef, undef, undef, undef], defers := [] }) ?assign ?body ?done ?stop
  case assign =>
    intro l x W K hK
    generalize xs.getD x.val 0 = z at hK ⊢
    gi_wp2
    exact hK
  case body =>
    intro l pre x W hI hlen
    have hsn := nestW_snoc m f xs pre x
    have hv := nestW_range (show (0 : Int) < m by omega) f xs pre
    have hfi := Hfr.out x.val x.2
    have hz : -1000 ≤ xs.getD x.val 0 ∧ xs.getD x.val 0 ≤ 1000 := Hxs.out _ (by rw [List.getD_eq_getElem?_getD, List.getElem?_eq_getElem (by have := Hx.out; have := x.2; omega)]; exact List.getElem_mem _)
    have hFx := fun W hb => HF.out x.val W x.2 hb
    obtain ⟨v, hve⟩ : ∃ v, nestW m f xs pre = v := ⟨_, rfl⟩
    rw [hve] at hsn hv hI
    generalize xs.getD x.val 0 = z at hsn hz ⊢
    generalize f x.val = fi at hsn hfi hFx
    obtain ⟨v2, hv2⟩ : ∃ v', (z + fi * v) % (m : Int) = v' := ⟨_, rfl⟩
    rw [hv2] at hsn
    obtain ⟨pr, hpr⟩ : ∃ p, fi * v = p := ⟨_, rfl⟩
    have hpb : -100000 ≤ pr ∧ pr ≤ 100000 := by
      have e1 : fi * v ≤ 1000 * v := Int.mul_le_mul_of_nonneg_right hfi.2 hv.1
      have e2 : (-1000) * v ≤ fi * v := Int.mul_le_mul_of_nonneg_right hfi.1 hv.1
      omega
    obtain ⟨sm, hsm⟩ : ∃ p, z + pr = p := ⟨_, rfl⟩
    have hw1 : IntKind.i64.wrap (fi * v) = pr := by rw [hpr]; exact IntWalk.i64_in _ (by omega)
    have hw2 : IntKind.i64.wrap (z + pr) = sm := by rw [hsm]; exact IntWalk.i64_in _ (by omega)
    have hw3 : wrap64 (fi * v) = pr := by rw [hpr]; exact IntWalk.wrap64_in _ (by omega)
    have hw4 : wrap64 (z + pr) = sm := by rw [hsm]; exact IntWalk.wrap64_in _ (by omega)
    rw [hpr, hsm] at hv2
    have hRm := fun W hB => rem_any sm m (w.heap.size + 1) W hB hm (by omega) (by omega)
    rw [hv2] at hRm
    have Hsn := Lib.hid hsn
    have HFx := Lib.hid hFx
    have HRm := Lib.hid hRm
    have HI := Lib.hid hI
    clear hFx hRm hI hsn hve hv hfi hz hpb hpr hsm hv2 a3 HW4
    gi_wp2
    refine region_inv hmx (fun L A X => ∃ b0 b1 b2 b3 b4 b5 b6 b7 b8 b9 : Bool, L = #[b0, b1, b2, b3, b4, b5, b6, b7, b8, b9] ∧ A = { tmps := #[.int .i64 m, .slice a n cap, .func (.func gF) #[] caps, undef, undef, .pointer (some ⟨w.heap.size, 0, none⟩), .int .i64 0, .pointer (some ⟨w.heap.size + 1 + 1, 0, none⟩), .pointer (some ⟨w.heap.size + 1 + 1 + 1, 0, none⟩), .int .i64 (x.val : Nat), .int .i64 z, .int .i64 m, .func (.func 97) #[] #[.pointer (some ⟨w.heap.size + 1, 0, none⟩)], .slice a n cap, .func (.func 108) #[] #[.pointer (some ⟨w.heap.size + 1 + 1 + 1 + 1, 0, none⟩)], .int .i64 (x.val : Nat), .int .i64 z, pk b0 (.func (.func 97) #[] #[.pointer (some ⟨w.heap.size + 1, 0, none⟩)]) undef, pk b1 (.int .i64 z) undef, pk b2 (.func (.func gF) #[] caps) undef, pk b3 (.int .i64 (x.val : Nat)) undef, pk b4 (.int .i64 fi) undef, pk b5 (.int .i64 v) undef, pk b6 (.int .i64 pr) undef, pk b7 (.int .i64 sm) undef, pk b8 (.int .i64 v2) undef, undef], defers := [] } ∧ KeepsAt (w.heap.size + 1 + 1 + 1 + 1) W X ∧ (b9 = false → NesI w m gF caps v X) ∧ (b9 = true → NesI w m gF caps v2 X) ∧ (b9 = true → b0 = true ∧ b1 = true ∧ b2 = true ∧ b3 = true ∧ b4 = true ∧ b5 = true ∧ b6 = true ∧ b7 = true ∧ b8 = true)) ?h0 ?hstep ?hdone
    case h0 => exact ⟨false, false, false, false, false, false, false, false, false, false, rfl, rfl, keeps_below (below_drewN (Below.refl _ _) 1), fun _ => HI.out.next (below_drewN (Below.refl _ _) 1), fun h => (by cases h), fun h => by cases h⟩
    case hstep =>
      rintro L a X ⟨b0, b1, b2, b3, b4, b5, b6, b7, b8, b9, rfl, rfl, hK, h8, h9, hz⟩ i hi
      have HK := Lib.hid hK
      have H8 := Lib.hid h8
      have H9 := Lib.hid h9
      have HZ := Lib.hid hz
      clear hK h8 h9 hz
      obtain ⟨hun, o, ho, hdeps⟩ := mem_ready.1 hi
      clear hi
      have hi : i < 10 := (Array.getElem?_eq_some_iff.1 ho).1
      have hor : i = 0 ∨ i = 1 ∨ i = 2 ∨ i = 3 ∨ i = 4 ∨ i = 5 ∨ i = 6 ∨ i = 7 ∨ i = 8 ∨ i = 9 := by omega
      clear hi
      rcases hor with rfl | rfl | rfl | rfl | rfl | rfl | rfl | rfl | rfl | rfl
      · have hb : b0 = false := hun
        cases ho
        clear hun hdeps
        subst hb
        have hbx := fun h => H8.out h
        obtain rfl : b9 = false := by cases hb9 : b9 with | false => rfl | true => exact absurd (HZ.out hb9) (by simp)
        have hN := H8.out rfl
        have e0 := hN.b0.cell
        have e1 := hN.b1.cell
        have e2 := hN.b2.cell
        have e3 := hN.b3.cell
        have e3f := hN.b3.frozen
        clear hbx hN
        try dsimp only
        refine wpOpIn_step rfl (fun K' hK => ?_)
        go_simp
        exact hK _ _ ⟨true, b1, b2, b3, b4, b5, b6, b7, b8, false, rfl, rfl, HK.out, H8.out, fun h => (by cases h), fun h => by cases h⟩
      · have hb : b1 = false := hun
        cases ho
        clear hun hdeps
        subst hb
        obtain rfl : b9 = false := by cases hb9 : b9 with | false => rfl | true => exact absurd (HZ.out hb9) (by simp)
        try dsimp only
        refine wpOpIn_step rfl (fun K' hK => ?_)
        go_simp
        exact hK _ _ ⟨b0, true, b2, b3, b4, b5, b6, b7, b8, false, rfl, rfl, HK.out, H8.out, fun h => (by cases h), fun h => by cases h⟩
      · have hb : b2 = false := hun
        cases ho
        clear hun hdeps
        subst hb
        have hbx := fun h => H8.out h
        obtain rfl : b9 = false := by cases hb9 : b9 with | false => rfl | true => exact absurd (HZ.out hb9) (by simp)
        have hN := H8.out rfl
        have e0 := hN.b0.cell
        have e1 := hN.b1.cell
        have e2 := hN.b2.cell
        have e3 := hN.b3.cell
        have e3f := hN.b3.frozen
        clear hbx hN
        try dsimp only
        refine wpOpIn_step rfl (fun K' hK => ?_)
        go_simp
        exact hK _ _ ⟨b0, b1, true, b3, b4, b5, b6, b7, b8, false, rfl, rfl, HK.out, H8.out, fun h => (by cases h), fun h => by cases h⟩
      · have hb : b3 = false := hun
        cases ho
        clear hun hdeps
        subst hb
        obtain rfl : b9 = false := by cases hb9 : b9 with | false => rfl | true => exact absurd (HZ.out hb9) (by simp)
        try dsimp only
        refine wpOpIn_step rfl (fun K' hK => ?_)
        go_simp
        exact hK _ _ ⟨b0, b1, b2, true, b4, b5, b6, b7, b8, false, rfl, rfl, HK.out, H8.out, fun h => (by cases h), fun h => by cases h⟩
      · have hb : b4 = false := hun
        cases ho
        have d2 : b2 = true := hdeps ⟨2, Ground.data⟩ (by simp) rfl
        have d3 : b3 = true := hdeps ⟨3, Ground.data⟩ (by simp) rfl
        clear hun hdeps
        subst hb d2 d3
        have hbx := fun h => H8.out h
        obtain rfl : b9 = false := by cases hb9 : b9 with | false => rfl | true => exact absurd (HZ.out hb9) (by simp)
        have hN := H8.out rfl
        have e0 := hN.b0.cell
        have e1 := hN.b1.cell
        have e2 := hN.b2.cell
        have e3 := hN.b3.cell
        have e3f := hN.b3.frozen
        clear hbx hN
        try dsimp only
        refine wpOpIn_step rfl (fun K' hK => ?_)
        simp only [pk_true]
        go_simp
        refine ⟨trivial, ?_⟩
        refine (CallsIn.inRound _ (callsIn_wide.2 (HFx.out _ (H8.out rfl).below))).mono ?_
        rintro e w2 ⟨rfl, zb⟩
        exact hK _ _ ⟨b0, b1, true, true, true, b5, b6, b7, b8, false, rfl, rfl, HK.out.trans (keeps_below zb), fun h => (H8.out h).next zb, fun h => (by cases h), fun h => by cases h⟩
      · have hb : b5 = false := hun
        cases ho
        clear hun hdeps
        subst hb
        have hbx := fun h => H8.out h
        obtain rfl : b9 = false := by cases hb9 : b9 with | false => rfl | true => exact absurd (HZ.out hb9) (by simp)
        have hN := H8.out rfl
        have e0 := hN.b0.cell
        have e1 := hN.b1.cell
        have e2 := hN.b2.cell
        have e3 := hN.b3.cell
        have e3f := hN.b3.frozen
        clear hbx hN
        try dsimp only
        refine wpOpIn_step rfl (fun K' hK => ?_)
        go_simp
        exact hK _ _ ⟨b0, b1, b2, b3, b4, true, b6, b7, b8, false, rfl, rfl, HK.out, H8.out, fun h => (by cases h), fun h => by cases h⟩
      · have hb : b6 = false := hun
        cases ho
        have d4 : b4 = true := hdeps ⟨4, Ground.data⟩ (by simp) rfl
        have d5 : b5 = true := hdeps ⟨5, Ground.data⟩ (by simp) rfl
        clear hun hdeps
        subst hb d4 d5
        obtain rfl : b9 = false := by cases hb9 : b9 with | false => rfl | true => exact absurd (HZ.out hb9) (by simp)
        try dsimp only
        refine wpOpIn_step rfl (fun K' hK => ?_)
        simp only [pk_true]
        go_simp
        exact hK _ _ ⟨b0, b1, b2, b3, true, true, true, b7, b8, false, rfl, rfl, HK.out, H8.out, fun h => (by cases h), fun h => by cases h⟩
      · have hb : b7 = false := hun
        cases ho
        have d1 : b1 = true := hdeps ⟨1, Ground.data⟩ (by simp) rfl
        have d6 : b6 = true := hdeps ⟨6, Ground.data⟩ (by simp) rfl
        clear hun hdeps
        subst hb d1 d6
        obtain rfl : b9 = false := by cases hb9 : b9 with | false => rfl | true => exact absurd (HZ.out hb9) (by simp)
        try dsimp only
        refine wpOpIn_step rfl (fun K' hK => ?_)
        simp only [pk_true]
        go_simp
        exact hK _ _ ⟨b0, true, b2, b3, b4, b5, true, true, b8, false, rfl, rfl, HK.out, H8.out, fun h => (by cases h), fun h => by cases h⟩
      · have hb : b8 = false := hun
        cases ho
        have d0 : b0 = true := hdeps ⟨0, Ground.data⟩ (by simp) rfl
        have d7 : b7 = true := hdeps ⟨7, Ground.data⟩ (by simp) rfl
        have d4 : b4 = true := hdeps ⟨4, Ground.chain⟩ (by simp) rfl
        clear hun hdeps
        subst hb d0 d7 d4
        have hbx := fun h => H8.out h
        obtain rfl : b9 = false := by cases hb9 : b9 with | false => rfl | true => exact absurd (HZ.out hb9) (by simp)
        have hN := H8.out rfl
        have e0 := hN.b0.cell
        have e1 := hN.b1.cell
        have e2 := hN.b2.cell
        have e3 := hN.b3.cell
        have e3f := hN.b3.frozen
        clear hbx hN
        try dsimp only
        refine wpOpIn_step rfl (fun K' hK => ?_)
        simp only [pk_true]
        go_simp
        refine ⟨trivial, ?_⟩
        refine (CallsIn.inRound _ (callsIn_wide.2 (HRm.out _ e1))).mono ?_
        rintro e w2 ⟨rfl, q, rfl⟩
        exact hK _ _ ⟨true, b1, b2, b3, true, b5, b6, true, true, false, rfl, rfl, HK.out.trans (keeps_below (below_drewN (Below.refl _ _) q)), fun h => (H8.out h).next (below_drewN (Below.refl _ _) q), fun h => (by cases h), fun h => by cases h⟩
      · have hb : b9 = false := hun
        cases ho
        have d8 : b8 = true := hdeps ⟨8, Ground.data⟩ (by simp) rfl
        have d0 : b0 = true := hdeps ⟨0, Ground.phase⟩ (by simp) rfl
        have d1 : b1 = true := hdeps ⟨1, Ground.phase⟩ (by simp) rfl
        have d2 : b2 = true := hdeps ⟨2, Ground.phase⟩ (by simp) rfl
        have d3 : b3 = true := hdeps ⟨3, Ground.phase⟩ (by simp) rfl
        have d4 : b4 = true := hdeps ⟨4, Ground.phase⟩ (by simp) rfl
        have d5 : b5 = true := hdeps ⟨5, Ground.phase⟩ (by simp) rfl
        have d6 : b6 = true := hdeps ⟨6, Ground.phase⟩ (by simp) rfl
        have d7 : b7 = true := hdeps ⟨7, Ground.phase⟩ (by simp) rfl
        clear hun hdeps
        subst hb d8 d0 d1 d2 d3 d4 d5 d6 d7
        have hbx := fun h => H8.out h
        have hN := H8.out rfl
        have e0 := hN.b0.cell
        have e1 := hN.b1.cell
        have e2 := hN.b2.cell
        have e3 := hN.b3.cell
        have e3f := hN.b3.frozen
        clear hbx hN
        try dsimp only
        refine wpOpIn_step rfl (fun K' hK => ?_)
        simp only [pk_true]
        go_simp
        exact hK _ _ ⟨true, true, true, true, true, true, true, true, true, true, rfl, rfl, HK.out.trans (keeps_set _ (by omega)), fun h => (by cases h), fun _ => (H8.out rfl).set v2, fun _ => ⟨rfl, rfl, rfl, rfl, rfl, rfl, rfl, rfl, rfl⟩⟩
    case hdone =>
      rintro L a X ⟨b0, b1, b2, b3, b4, b5, b6, b7, b8, b9, rfl, rfl, hK, h8, h9, _⟩ hr
      have t0 : b0 = true := ready_nil hr (i := 0) (by simp) (by intro o ho; cases ho; intro e he hbd; replace he : e ∈ #[] := he; simp at he)
      subst t0
      have t1 : b1 = true := ready_nil hr (i := 1) (by simp) (by intro o ho; cases ho; intro e he hbd; replace he : e ∈ #[] := he; simp at he)
      subst t1
      have t2 : b2 = true := ready_nil hr (i := 2) (by simp) (by intro o ho; cases ho; intro e he hbd; replace he : e ∈ #[] := he; simp at he)
      subst t2
      have t3 : b3 = true := ready_nil hr (i := 3) (by simp) (by intro o ho; cases ho; intro e he hbd; replace he : e ∈ #[] := he; simp at he)
      subst t3
      have t4 : b4 = true := ready_nil hr (i := 4) (by simp) (by intro o ho; cases ho; intro e he hbd; replace he : e ∈ #[⟨2, Ground.data⟩, ⟨3, Ground.data⟩] := he; simp only [List.mem_toArray, List.mem_cons, List.not_mem_nil, or_false] at he; rcases he with rfl | rfl <;> rfl)
      subst t4
      have t5 : b5 = true := ready_nil hr (i := 5) (by simp) (by intro o ho; cases ho; intro e he hbd; replace he : e ∈ #[] := he; simp at he)
      subst t5
      have t6 : b6 = true := ready_nil hr (i := 6) (by simp) (by intro o ho; cases ho; intro e he hbd; replace he : e ∈ #[⟨4, Ground.data⟩, ⟨5, Ground.data⟩] := he; simp only [List.mem_toArray, List.mem_cons, List.not_mem_nil, or_false] at he; rcases he with rfl | rfl <;> rfl)
      subst t6
      have t7 : b7 = true := ready_nil hr (i := 7) (by simp) (by intro o ho; cases ho; intro e he hbd; replace he : e ∈ #[⟨1, Ground.data⟩, ⟨6, Ground.data⟩] := he; simp only [List.mem_toArray, List.mem_cons, List.not_mem_nil, or_false] at he; rcases he with rfl | rfl <;> rfl)
      subst t7
      have t8 : b8 = true := ready_nil hr (i := 8) (by simp) (by intro o ho; cases ho; intro e he hbd; replace he : e ∈ #[⟨0, Ground.data⟩, ⟨7, Ground.data⟩, ⟨4, Ground.chain⟩] := he; simp only [List.mem_toArray, List.mem_cons, List.not_mem_nil, or_false] at he; rcases he with rfl | rfl | rfl <;> rfl)
      subst t8
      have t9 : b9 = true := ready_nil hr (i := 9) (by simp) (by intro o ho; cases ho; intro e he hbd; replace he : e ∈ #[⟨8, Ground.data⟩, ⟨8, Ground.chain⟩, ⟨0, Ground.phase⟩, ⟨1, Ground.phase⟩, ⟨2, Ground.phase⟩, ⟨3, Ground.phase⟩, ⟨4, Ground.phase⟩, ⟨5, Ground.phase⟩, ⟨6, Ground.phase⟩, ⟨7, Ground.phase⟩, ⟨8, Ground.phase⟩] := he; simp only [List.mem_toArray, List.mem_cons, List.not_mem_nil, or_false] at he; rcases he with rfl | rfl | rfl | rfl | rfl | rfl | rfl | rfl | rfl | rfl | rfl <;> rfl)
      subst t9
      have HN9 := Lib.hid (h9 rfl)
      clear h8 h9
      gi_wp2
      unfold roundEnds
      refine ⟨hK, ?_⟩
      show NesI w m gF caps (nestW m f xs (pre ++ [x])) X
      rw [Hsn.out]
      exact HN9.out
  case done =>
    rintro D ys W hD rfl hI hK
    rw [nestW_all _ _ Hx.out] at hI
    have e3 := hI.b3.cell
    have HI := Lib.hid hI
    have HK := Lib.hid hK
    have hDl : w.heap.size + 1 + 1 + 1 + 1 ≤ D := by have := hD; simp at this; omega
    clear hI hK hD a3 HW4
    gi_wp2
    refine leaves_one (by simp) (n₀ := w.heap.size) (Φ := fun X => Below w.heap.size w X) ?_ ?_ D W (by omega) HK.out HI.out.below
    · intro X D2 hX h0 _
      exact hX.grown (grownBy_putObj' X D2 _) hX.size (fun q e => by cases e; omega)
    · intro X hX
      refine ⟨.int .i64 (nestV m f 0 xs), ?_, rfl, hX⟩
      simp [results, Try.f93, go_sem]
  case stop =>
    rintro D c pre W hD hpre h hK
    exact h.elim
end Go.Proofs.Ytndbjojjaapeaaa

/- Tables of 64 numbers, by value. -/
namespace Go.Proofs.Ytndbjojjaapeaaa
set_option linter.unusedVariables false
open Go.RowKit

/-- the values of f below m, and 0 behind them -/
def tabL (f : Nat → Int) (m : Nat) : List Int := (List.range 64).map fun x => if x < m then f x else 0
def tabA (f : Nat → Int) (m : Nat) : Array Value := (intL (tabL f m)).toArray

theorem tabL_length (f : Nat → Int) (m : Nat) : (tabL f m).length = 64 := by simp [tabL]
theorem tabL_get (f : Nat → Int) (m : Nat) {x : Nat} (hx : x < 64) : (tabL f m).getD x 0 = if x < m then f x else 0 := by
  unfold tabL
  rw [List.getD_eq_getElem?_getD, List.getElem?_map, List.getElem?_range hx]; rfl
/-- a block that holds a table -/
def Tb (X : World) (B : Nat) (f : Nat → Int) (m : Nat) : Prop := X.rowIs B 69 64 fun x => .int .i64 (if x < m then f x else 0)
theorem Tb.zero {X : World} {B : Nat} (f : Nat → Int) (h : X.rowIs B 69 64 fun _ => .int .i64 0) : Tb X B f 0 := h.congr fun i _ => by rw [if_neg (by omega)]
theorem Tb.next {X : World} {B k : Nat} {f : Nat → Int} (h : Tb X B f k) : Tb (X.setCell ⟨B, k, none⟩ (.int .i64 (f k))) B f (k + 1) :=
  (h.set k (.int .i64 (f k))).congr fun j _ => by
    by_cases e : j = k
    · subst e; rw [if_pos rfl, if_pos (by omega)]
    · rw [if_neg e]
      by_cases h2 : j < k
      · rw [if_pos h2, if_pos (by omega)]
      · rw [if_neg h2, if_neg (by omega)]
theorem rowIs_below {X Y : World} {B n : Nat} {t : TypeId} {f : Nat → Value} (h : X.rowIs B t n f) (hb : Below X.heap.size X Y) : Y.rowIs B t n f := h.of_block (hb.block B h.lt)
def zeroA : Array Value := (List.replicate 64 (Value.int .i64 0)).toArray
theorem zeroA_get {i : Nat} (hi : i < 64) : zeroA[i]? = some (.int .i64 0) := by unfold zeroA; rw [List.getElem?_toArray, List.getElem?_replicate, if_pos hi]
theorem zeroA_size : zeroA.size = 64 := by unfold zeroA; rw [List.size_toArray, List.length_replicate]
theorem tabA_size (f : Nat → Int) (m : Nat) : (tabA f m).size = 64 := by simp [tabA, intL_length, tabL_length]
theorem tabA_one (f : Nat → Int) (m : Nat) : (tabA f m).all (·.oneCell') = true := by
  rw [Array.all_eq_true]
  intro i hi
  simp only [tabA, intL, List.getElem_toArray, List.getElem_map]
  rfl
theorem info_table0 : (Try.prog.info? 69).map (·.size) = some 64 := by kernel_rfl
theorem info_table (T : Array Value) (h : T.size = 64) : (Try.prog.info? 69).map (·.size) = some T.size := by rw [h]; exact info_table0
theorem rowIs_cells {X : World} {B : Nat} (h : X.rowIs B 69 64 fun _ => .int .i64 0) : X.heap[B]? = some (.cells zeroA 69 (0, 0)) := by
  obtain ⟨c, h1, h2, h3⟩ := h
  rw [h1]
  congr 2
  apply Array.ext_getElem?
  intro i
  by_cases hi : i < 64
  · rw [h3 i hi]; exact (zeroA_get hi).symm
  · rw [Array.getElem?_eq_none (by omega), Array.getElem?_eq_none (by rw [zeroA_size]; omega)]
theorem zeros64 (W : World) : (W.alloc (.cells zeroA 69)).rowIs W.heap.size 69 64 (fun _ => .int .i64 0) :=
  ⟨_, heap_alloc_new W _, zeroA_size, fun i hi => zeroA_get hi⟩
theorem start_tab (w : World) (f : Nat → Int) (X : Array Value) (h : X = zeroA) :
    ((w.alloc (.cells X 69)).alloc (.cells X 69)).rowIs w.heap.size 69 64 (fun _ => .int .i64 0) ∧
      Tb ((w.alloc (.cells X 69)).alloc (.cells X 69)) (w.heap.size + 1) f 0 ∧ Below w.heap.size w ((w.alloc (.cells X 69)).alloc (.cells X 69)) := by
  subst h
  have z1 := zeros64 w
  have z2 := zeros64 (w.alloc (.cells zeroA 69))
  have hs : (w.alloc (.cells zeroA 69)).heap.size = w.heap.size + 1 := by simp
  rw [hs] at z2
  exact ⟨rowIs_below z1 (below_alloc _ _), Tb.zero f z2, b_next (below_alloc _ _) (below_alloc _ _)⟩
theorem tb_cells {X : World} {B m : Nat} {f : Nat → Int} (h : Tb X B f m) : X.heap[B]? = some (.cells (tabA f m) 69 (0, 0)) := by
  obtain ⟨c, h1, h2, h3⟩ := h
  rw [h1]
  congr 2
  apply Array.ext_getElem?
  intro i
  by_cases hi : i < 64
  · rw [h3 i hi]
    unfold tabA
    rw [List.getElem?_toArray]
    exact (intL_get (by unfold tabL; rw [List.getElem?_map, List.getElem?_range hi]; rfl)).symm
  · rw [Array.getElem?_eq_none (by omega), Array.getElem?_eq_none (by simp [tabA, intL_length, tabL_length]; omega)]

set_option maxRecDepth 100000 in
set_option maxHeartbeats 4000000 in
theorem tabulated_any (m : Nat) (gF : Nat) (caps : Array Value) (f : Nat → Int) (w : World) (hm2 : m ≤ 64) (eg : ∀ args w, (callFunc gF args).run Try.prog w = .ok (.enter gF args) w)
    (hF : ∀ (i : Nat) (W : World), i < m → Below w.heap.size w W → Calls Try.prog gF (#[.int .i64 i] ++ caps) W fun e w' => e = .returned (.int .i64 (f i)) ∧ Below W.heap.size W w') :
    Calls Try.prog 67 #[.int .i64 m, .func (.func gF) #[] caps] w fun e w' => e = .returned (.agg (tabA f m)) ∧ Below w.heap.size w w' := by
  have HF := Lib.hid hF
  obtain ⟨T, hT⟩ : ∃ T, tabA f m = T := ⟨_, rfl⟩
  have hTs : T.size = 64 := by rw [← hT]; exact tabA_size f m
  have hTo : T.all (·.oneCell') = true := by rw [← hT]; exact tabA_one f m
  rw [hT]
  have HTm := Lib.hid hT
  clear hF hT
  go_enter Try.func67, Try.ntmps67
  go_wp2
  go_loopw [6, 8] (fun _ i wr => ∃ k, k ≤ m ∧ i = .int .i64 k ∧ wr.rowIs w.heap.size 69 64 (fun _ => .int .i64 0) ∧ Tb wr (w.heap.size + 1) f k ∧ Below w.heap.size w wr) (fun _ i _ => m - (intOf i).toNat)
  case atStart =>
    obtain ⟨z1, z2, z3⟩ := start_tab w f _ rfl
    exact ⟨0, Nat.zero_le _, rfl, z1, z2, z3⟩
  case round =>
    obtain ⟨k, hk, rfl, hZ, hT, hB⟩ := hrel
    by_cases hlt : k < m
    · have hc : (k : Int) < m := by omega
      have HZ := Lib.hid hZ
      have HT := Lib.hid hT
      have HB := Lib.hid hB
      have hFk := HF.out k wr hlt hB
      have HFk := Lib.hid hFk
      clear hZ hT hB hFk
      go_wp2
      refine HFk.out.mono ?_
      rintro e w1 ⟨rfl, b1⟩
      have hT := rowIs_below HT.out b1
      have hZ := rowIs_below HZ.out b1
      have hB := b_next HB.out b1
      have ck := hT.cell (i := k) (by omega)
      have fk := hT.frozen k
      have hT2 := Tb.next hT
      have hZ2 := hZ.setOther (a := ⟨w.heap.size + 1, k, none⟩) (by show w.heap.size ≠ w.heap.size + 1; omega) (.int .i64 (f k))
      have hB2 := hB.setCell (p := ⟨w.heap.size + 1, k, none⟩) (by show w.heap.size ≤ w.heap.size + 1; omega) (.int .i64 (f k))
      have T2 := Lib.hid hT2
      have Z2 := Lib.hid hZ2
      have B2 := Lib.hid hB2
      clear hT hZ hB hT2 hZ2 hB2 b1
      go_wp2
      go_roundw
      case rel => exact ⟨k + 1, by omega, by go_num, Z2.out, T2.out, B2.out⟩
      case measure => simp [intOf]; omega
    · obtain rfl : k = m := by omega
      have hc : ¬ (k : Int) < k := by omega
      have hcs := tb_cells hT
      have HZ := Lib.hid hZ
      have HB := Lib.hid hB
      clear hZ hT hB
      rw [HTm.out] at hcs
      have hzr := rowIs_cells HZ.out
      have HT := Lib.hid hcs
      have HZr := Lib.hid hzr
      clear hcs hzr
      go_wp2_with (refine wpList_load_row (o := ⟨some 17, .load 69 (.tmp 5), _, _, _, _⟩) rfl 69 (.tmp 5) rfl (w.heap.size + 1) rfl 69 T (0, 0) _ HT.out Try.underlying69 rfl (info_table T hTs) ?_; refine wpList_store_row (o := ⟨none, .store 69 (.tmp 4) (.tmp 17), _, _, _, _⟩) rfl 69 (.tmp 4) (.tmp 17) rfl w.heap.size T rfl rfl 69 zeroA HZr.out (info_table T hTs) (zeroA_size.trans hTs.symm) hTo ?_)
      exact bodyPost_ret (v := .agg T) (results_cell_row rfl _ _ w.heap.size 69 T (0, 0) _ rfl (setRow_heap _ _ _ _ _ _ HZr.out) Try.underlying69 rfl (info_table T hTs)) rfl ⟨rfl, below_setRow HB.out (Nat.le_refl _) _⟩
end Go.Proofs.Ytndbjojjaapeaaa

/- A polynomial's table, and its values as a list. -/
namespace Go.Proofs.Ytndbjojjaapeaaa
set_option linter.unusedVariables false
open Go.RowKit

/-- the innermost function: x itself -/
theorem self_any (i x : Int) (B : Nat) (w : World) (hB : w.cell? ⟨B, 0, none⟩ = some (.int .i64 x)) : Calls Try.prog 94 #[.int .i64 i, .pointer (some ⟨B, 0, none⟩)] w fun e w' => e = .returned (.int .i64 x) ∧ w' = w := by
  go_enter Try.func94, Try.ntmps94
  go_wp2
  go_ret
  exact ⟨rfl, rfl⟩

set_option maxRecDepth 100000 in
set_option maxHeartbeats 4000000 in
theorem at_any (x : Nat) (m : Nat) (B1 B2 : Nat) (a : Option Addr) (n cap : Nat) (xs : List Int) (w : World) (h1 : w.cell? ⟨B1, 0, none⟩ = some (.int .i64 m)) (h2 : w.cell? ⟨B2, 0, none⟩ = some (.slice a n cap)) (hr : Row w a n (intL xs)) (hn : n ≤ 100)
    (hm : 1 ≤ m) (hm2 : m ≤ 64) (hx : x ≤ 100) (hxs : ∀ x ∈ xs, -1000 ≤ x ∧ x ≤ 1000) :
    Calls Try.prog 92 #[.int .i64 x, .pointer (some ⟨B1, 0, none⟩), .pointer (some ⟨B2, 0, none⟩)] w fun e w' => e = .returned (.int .i64 (polyV m xs x)) ∧ Below w.heap.size w w' := by
  have hmf : ∀ (fn : Fn) (first cap : Array Value) (w : World), (Instr.makeFunc fn first cap).run Try.prog w = .ok (.func fn first cap) w := fun _ _ _ _ => rfl
  have b0 := below_alloc w (.cells #[.int .i64 x] 3)
  have hN : Calls Try.prog 93 #[.int .i64 m, .slice a n cap, .func (.func 94) #[] #[.pointer (some ⟨w.heap.size, 0, none⟩)]] (w.alloc (.cells #[.int .i64 x] 3)) fun e w' => e = .returned (.int .i64 (polyV m xs x)) ∧ Below (w.alloc (.cells #[.int .i64 x] 3)).heap.size (w.alloc (.cells #[.int .i64 x] 3)) w' := by
    refine nested_any m a n cap xs _ _ (fun _ => (x : Int)) _ (hr.below b0) hn hm hm2 hxs (fun i _ => by omega) (enters_of Try.func94 (by kernel_rfl) rfl) fun i W _ hW => ?_
    have hc := (Box1.new w 3 (.int .i64 x)).below hW
    exact (self_any i x w.heap.size W hc.cell).mono fun e w' ⟨he, hw⟩ => ⟨he, by rw [hw]; exact Below.refl _ _⟩
  have HN := Lib.hid hN
  have B0 := Lib.hid b0
  have c1 := (b0.cell (p := ⟨B1, 0, none⟩) (World.block_lt_of_cell? w _ h1)).trans h1
  have c2 := (b0.cell (p := ⟨B2, 0, none⟩) (World.block_lt_of_cell? w _ h2)).trans h2
  clear hN b0 h1 h2 hr
  go_enter Try.func92, Try.ntmps92
  go_wp2_with fail
  refine HN.out.mono ?_
  rintro e w1 ⟨rfl, b1⟩
  go_wp2
  go_ret
  exact ⟨rfl, b_next B0.out b1⟩
theorem start3 (w : World) (m : Nat) (v : Value) (X : Array Value) (h : X = zeroA) :
    Below w.heap.size w (((w.alloc (.cells #[.int .i64 m] 3)).alloc (.cells #[v] 22)).alloc (.cells X 69)) ∧
      Box1 (((w.alloc (.cells #[.int .i64 m] 3)).alloc (.cells #[v] 22)).alloc (.cells X 69)) w.heap.size 3 (.int .i64 m) ∧
      Box1 (((w.alloc (.cells #[.int .i64 m] 3)).alloc (.cells #[v] 22)).alloc (.cells X 69)) (w.heap.size + 1) 22 v ∧
      (((w.alloc (.cells #[.int .i64 m] 3)).alloc (.cells #[v] 22)).alloc (.cells X 69)).heap[w.heap.size + 1 + 1]? = some (.cells zeroA 69 (0, 0)) := by
  subst h
  have c0 := Box1.new w 3 (.int .i64 m)
  have b0 := below_alloc w (.cells #[.int .i64 m] 3)
  have s0 : (w.alloc (.cells #[.int .i64 m] 3)).heap.size = w.heap.size + 1 := by simp
  generalize w.alloc (.cells #[.int .i64 m] 3) = w1 at c0 b0 s0 ⊢
  have c1 := Box1.new w1 22 v
  have b1 := below_alloc w1 (.cells #[v] 22)
  have s1 : (w1.alloc (.cells #[v] 22)).heap.size = w.heap.size + 1 + 1 := by simp [s0]
  rw [s0] at c1
  generalize w1.alloc (.cells #[v] 22) = w2 at c1 b1 s1 ⊢
  have b2 := below_alloc w2 (.cells zeroA 69)
  have c2 := heap_alloc_new w2 (.cells zeroA 69)
  rw [s1] at c2
  exact ⟨b_next (b_next b0 b1) b2, (c0.below b1).below b2, c1.below b2, c2⟩

set_option maxRecDepth 100000 in
set_option maxHeartbeats 4000000 in
theorem polyTable_any (m : Nat) (a : Option Addr) (n cap : Nat) (xs : List Int) (w : World) (hr : Row w a n (intL xs)) (hn : n ≤ 100) (hm : 1 ≤ m) (hm2 : m ≤ 64) (hxs : ∀ x ∈ xs, -1000 ≤ x ∧ x ≤ 1000) :
    Calls Try.prog 63 #[.int .i64 m, .slice a n cap] w fun e w' => e = .returned (.agg (tabA (fun x => polyV m xs x) m)) ∧ Below w.heap.size w w' := by
  have hmf : ∀ (fn : Fn) (first cap : Array Value) (w : World), (Instr.makeFunc fn first cap).run Try.prog w = .ok (.func fn first cap) w := fun _ _ _ _ => rfl
  have hT : ∀ W : World, Below w.heap.size w W → Box1 W w.heap.size 3 (.int .i64 m) → Box1 W (w.heap.size + 1) 22 (.slice a n cap) →
      Calls Try.prog 67 #[.int .i64 m, .func (.func 92) #[] #[.pointer (some ⟨w.heap.size, 0, none⟩), .pointer (some ⟨w.heap.size + 1, 0, none⟩)]] W fun e w' => e = .returned (.agg (tabA (fun x => polyV m xs x) m)) ∧ Below W.heap.size W w' := fun W hW k1 k2 => by
    refine tabulated_any m _ _ (fun x => polyV m xs x) W hm2 (enters_of Try.func92 (by kernel_rfl) rfl) fun i X hi hX => ?_
    exact at_any i m _ _ a n cap xs X (k1.below hX).cell (k2.below hX).cell ((hr.below hW).below hX) hn hm hm2 (by omega) hxs
  have HT := Lib.hid hT
  obtain ⟨T, hTT⟩ : ∃ T, tabA (fun x => polyV m xs x) m = T := ⟨_, rfl⟩
  have hTs : T.size = 64 := by rw [← hTT]; exact tabA_size _ m
  have hTo : T.all (·.oneCell') = true := by rw [← hTT]; exact tabA_one _ m
  rw [hTT] at HT ⊢
  clear hT hr hTT hxs
  go_enter Try.func63, Try.ntmps63
  go_wp2_with fail
  obtain ⟨b3, k0, k1, k2⟩ := start3 w m (.slice a n cap) _ rfl
  refine (HT.out _ b3 k0 k1).mono ?_
  rintro e w1 ⟨rfl, b4⟩
  have k3 := (b4.block _ (Array.getElem?_eq_some_iff.1 k2).1).trans k2
  have K3 := Lib.hid k3
  have B3 := Lib.hid (b_next b3 b4)
  clear k0 k1 k2 k3 b3 b4
  go_wp2_with (refine wpList_store_row (o := ⟨none, .store 69 (.tmp 4) (.tmp 7), _, _, _, _⟩) rfl 69 (.tmp 4) (.tmp 7) rfl (w.heap.size + 1 + 1) T rfl rfl 69 zeroA K3.out (info_table T hTs) (zeroA_size.trans hTs.symm) hTo ?_)
  exact bodyPost_ret (v := .agg T) (results_cell_row rfl _ _ (w.heap.size + 1 + 1) 69 T (0, 0) _ rfl (setRow_heap _ _ _ _ _ _ K3.out) Try.underlying69 rfl (info_table T hTs)) rfl ⟨rfl, below_setRow B3.out (by omega) _⟩

theorem lt65 {n : Nat} (hn : n ≤ 64) : n = 0 ∨ n = 1 ∨ n = 2 ∨ n = 3 ∨ n = 4 ∨ n = 5 ∨ n = 6 ∨ n = 7 ∨ n = 8 ∨ n = 9 ∨ n = 10 ∨ n = 11 ∨ n = 12 ∨ n = 13 ∨ n = 14 ∨ n = 15 ∨ n = 16 ∨ n = 17 ∨ n = 18 ∨ n = 19 ∨ n = 20 ∨ n = 21 ∨ n = 22 ∨ n = 23 ∨ n = 24 ∨ n = 25 ∨ n = 26 ∨ n = 27 ∨ n = 28 ∨ n = 29 ∨ n = 30 ∨ n = 31 ∨ n = 32 ∨ n = 33 ∨ n = 34 ∨ n = 35 ∨ n = 36 ∨ n = 37 ∨ n = 38 ∨ n = 39 ∨ n = 40 ∨ n = 41 ∨ n = 42 ∨ n = 43 ∨ n = 44 ∨ n = 45 ∨ n = 46 ∨ n = 47 ∨ n = 48 ∨ n = 49 ∨ n = 50 ∨ n = 51 ∨ n = 52 ∨ n = 53 ∨ n = 54 ∨ n = 55 ∨ n = 56 ∨ n = 57 ∨ n = 58 ∨ n = 59 ∨ n = 60 ∨ n = 61 ∨ n = 62 ∨ n = 63 ∨ n = 64 := by omega
theorem slice_table (b n : Nat) (hn : n ≤ 64) (w : World) : (Instr.sliceAt 69 (.pointer (some ⟨b, 0, none⟩)) none (some (.int .i64 n)) none).run Try.prog w = .ok (.slice (some ⟨b, 0, none⟩) n 64) w := by
  rcases lt65 hn with rfl | rfl | rfl | rfl | rfl | rfl | rfl | rfl | rfl | rfl | rfl | rfl | rfl | rfl | rfl | rfl | rfl | rfl | rfl | rfl | rfl | rfl | rfl | rfl | rfl | rfl | rfl | rfl | rfl | rfl | rfl | rfl | rfl | rfl | rfl | rfl | rfl | rfl | rfl | rfl | rfl | rfl | rfl | rfl | rfl | rfl | rfl | rfl | rfl | rfl | rfl | rfl | rfl | rfl | rfl | rfl | rfl | rfl | rfl | rfl | rfl | rfl | rfl | rfl | rfl <;> kernel_rfl


/-- the values as a list of its own -/
theorem list_any (m : Nat) (f : Nat → Int) (w : World) (hm : m ≤ 64) :
    Calls Try.prog 64 #[.agg (tabA f m), .int .i64 m] w fun e w' => ∃ v, e = .returned v ∧ w'.ownsRow w.heap.size 3 1 v m (intL ((List.range m).map f)) ∧ Below w.heap.size w w' := by
  obtain ⟨T, hTT⟩ : ∃ T, tabA f m = T := ⟨_, rfl⟩
  have hb := below_alloc w (.cells T 69)
  have hcl : Calls Try.prog 95 #[.slice (some ⟨w.heap.size, 0, none⟩) m 64] (w.alloc (.cells T 69)) fun e w' => ∃ v, e = .returned v ∧ w'.ownsRow w.heap.size 3 1 v m (intL ((List.range m).map f)) ∧ Below w.heap.size w w' := by
    have h := Any.slices_Clone_int Try.laysNm215 w.heap.size 0 m 64 (tabL f m) (w.alloc (.cells T 69)) (by rw [tabL_length]; omega) (by omega) (fun j hj => by
      rw [Nat.zero_add, cell_of_row _ _ j T _ (0, 0) (heap_alloc_new w _), ← hTT]
      unfold tabA
      rw [List.getElem?_toArray]
      exact intL_get (by rw [List.getD_eq_getElem?_getD, List.getElem?_eq_getElem hj]; rfl))
    refine h.mono ?_
    rintro e w1 ⟨r, rfl, hown, _, hB⟩
    have e1 : (tabL f m).take m = (List.range m).map f := by
      unfold tabL
      rw [← List.map_take, List.take_range, Nat.min_eq_left hm]
      exact List.map_congr_left fun x hx => if_pos (List.mem_range.1 hx)
    rw [e1] at hown
    exact ⟨r, rfl, hown.mono (by simp), b_next hb hB⟩
  have hsl := fun W => slice_table w.heap.size m hm W
  have HC := Lib.hid hcl
  rw [hTT]
  clear hcl hTT hb
  go_enter Try.func64, Try.ntmps64
  go_wp2_with fail
  refine HC.out.mono ?_
  rintro e w1 ⟨v, rfl, ho, hB⟩
  have HO := Lib.hid ho
  have HB := Lib.hid hB
  obtain ⟨a', cap', hv, _⟩ := ownsRow_open HO.out
  subst hv
  clear ho hB
  go_wp2
  go_ret
  exact ⟨_, rfl, HO.out, HB.out⟩
end Go.Proofs.Ytndbjojjaapeaaa

/- Values, limits, Degree, Count. -/
namespace Go.Proofs.Ytndbjojjaapeaaa
set_option linter.unusedVariables false
open Go.RowKit

theorem addr_add (b off k : Nat) : (⟨b, off, none⟩ : Addr).add k = ⟨b, off + k, none⟩ := by unfold Addr.add; split <;> simp_all

theorem own_base2 {w : World} {b base n : Nat} {v : Value} {xs : List Value} (h : w.ownsRow base 3 1 v n xs) (hb : b ≤ base) : w.ownsRow b 3 1 v n xs := h.mono hb
theorem one_new (w : World) (x : Value) (t : TypeId) (n : Nat) (hn : n = w.heap.size) : ∀ j u, [x][j]? = some u → (w.alloc (.cells #[x] t)).cell? ((⟨n, 0, none⟩ : Addr).add j) = some u := by
  subst hn
  intro j u h
  match j, h with
  | 0, h =>
    simp at h
    subst h
    rw [addr_add, Nat.zero_add, World.cell?_alloc_at _ _ _ _ rfl]; rfl
  | j + 1, h => simp at h
def valuesL (m : Nat) (xs : List Int) : List Int := (List.range m).map fun x : Nat => polyV m xs x
theorem modB_nat {m : Int} (h : modB m = true) : ∃ k : Nat, m = k ∧ 2 ≤ k ∧ k ≤ 64 := by
  unfold modB at h
  obtain ⟨h1, h2⟩ := of_decide_eq_true h
  exact ⟨m.toNat, by omega, by omega, by omega⟩
theorem remB_in {m : Int} {xs : List Int} (h : remB m xs = true) : ∀ x ∈ xs, 0 ≤ x ∧ x < m := fun x hx => by
  unfold remB at h
  rw [List.all_eq_true] at h
  exact of_decide_eq_true (h x hx)

set_option maxRecDepth 100000 in
theorem Values_no (m : Int) (a : Option Addr) (n cap : Nat) (xs : List Int) (w : World) (hr : Row w a n (intL xs)) (hn : n ≤ 1000) (hp : polyB m xs = false) :
    Calls Try.prog 18 #[.int .i64 m, .slice a n cap] w fun e w' => e = .returned (.tuple #[.slice none 0 0, .int .i64 2]) ∧ w' = w := by
  have h := isPoly_any m a n cap xs w hr hn
  rw [hp] at h
  have H := Lib.hid h
  clear h hr hp
  go_enter Try.func18, Try.ntmps18
  go_wp2_with fail
  refine H.out.mono ?_
  rintro e w1 ⟨rfl, rfl⟩
  go_wp2
  go_ret2
  exact ⟨rfl, rfl⟩
set_option maxRecDepth 100000 in
set_option maxHeartbeats 4000000 in
theorem Values_yes (m : Nat) (a : Option Addr) (n cap : Nat) (xs : List Int) (w : World) (hr : Row w a n (intL xs)) (hp : polyB m xs = true) :
    Calls Try.prog 18 #[.int .i64 m, .slice a n cap] w fun e w' => ∃ v, e = .returned (.tuple #[v, .int .i64 0]) ∧ w'.ownsRow w.heap.size 3 1 v m (intL (valuesL m xs)) ∧ Below w.heap.size w w' := by
  have hx : xs.length = n := by have := hr.1; simpa [intL] using this
  have hp2 := hp
  unfold polyB at hp2
  rw [Bool.and_eq_true, Bool.and_eq_true, decide_eq_true_eq] at hp2
  obtain ⟨⟨h1, h2⟩, h3⟩ := hp2
  obtain ⟨k, hk, hk2, hk64⟩ := modB_nat h1
  obtain rfl : m = k := by omega
  have hin := remB_in h3
  have h := fun W hW => isPoly_any m a n cap xs W hW (by omega)
  rw [hp] at h
  have ht := fun W hW => polyTable_any m a n cap xs W hW (by omega) (by omega) hk64 (fun x hx => by have := hin x hx; omega)
  have hl := fun W => list_any m (fun x : Nat => polyV m xs x) W hk64
  have H := Lib.hid h
  have HT := Lib.hid ht
  have HL := Lib.hid hl
  have Hr := Lib.hid hr
  clear h ht hl hr hp h1 h2 h3 hin hk hx
  go_enter Try.func18, Try.ntmps18
  go_wp2_with fail
  refine (H.out _ Hr.out).mono ?_
  rintro e w1 ⟨rfl, rfl⟩
  go_wp2_with fail
  refine (HT.out _ Hr.out).mono ?_
  rintro e w2 ⟨rfl, b2⟩
  have B2 := Lib.hid b2
  clear b2
  go_wp2_with fail
  refine (HL.out _).mono ?_
  rintro e w3 ⟨v, rfl, ho, b3⟩
  have hO := own_base2 ho B2.out.size
  have HO := Lib.hid hO
  have B3 := Lib.hid (b_next B2.out b3)
  obtain ⟨a', cap', hv, _⟩ := ownsRow_open HO.out
  subst hv
  clear ho hO b3
  go_wp2
  go_ret2
  exact ⟨.slice a' m cap', rfl, HO.out, B3.out⟩

theorem lim_num (p q k : Nat) (hp : p ≤ 64) (hq : q ≤ 64) (hk : k ≤ 64) : wrap64 (q : Int) = q ∧ IntKind.i64.wrap (q : Int) = q ∧ ∃ p2, p * (k + 1) = p2 ∧ p2 ≤ 5000 ∧ IntKind.i64.wrap ((p : Int) * ((k : Int) + 1)) = (p2 : Int) ∧ wrap64 ((p : Int) * ((k : Int) + 1)) = (p2 : Int) := by
  have e : (p : Int) * ((k : Int) + 1) = ((p * (k + 1) : Nat) : Int) := by rw [Int.natCast_mul]; rfl
  rw [e]
  obtain ⟨p2, hp2⟩ : ∃ p2, p * (k + 1) = p2 := ⟨_, rfl⟩
  have hb : p2 ≤ 5000 := by
    rw [← hp2]
    exact Nat.le_trans (Nat.mul_le_mul hp (show k + 1 ≤ 65 by omega)) (by decide)
  refine ⟨IntWalk.wrap64_in _ (by omega), IntWalk.i64_in _ (by omega), p2, hp2, hb, ?_, ?_⟩
  · rw [hp2]; exact IntWalk.i64_in _ (by omega)
  · rw [hp2]; exact IntWalk.wrap64_in _ (by omega)
def lenV : Value → Nat
  | .slice _ n _ => n
  | _ => 0
theorem limL_length (m : Nat) : (limL m).length = degN m := by simp [limL]
theorem limL_take (m k : Nat) (h : k < degN m) : (limL m).take (k + 1) = (limL m).take k ++ [(roomN m k : Int)] := by
  rw [List.take_add_one]
  unfold limL
  rw [List.getElem?_map, List.getElem?_range h]; rfl

set_option maxRecDepth 100000 in
set_option maxHeartbeats 4000000 in
theorem limitsOf_any (m : Nat) (w : World) (hm : 2 ≤ m) (hm2 : m ≤ 64) :
    Calls Try.prog 73 #[.int .i64 m] w fun e w' => ∃ v, e = .returned v ∧ w'.ownsRow w.heap.size 3 1 v (degN m) (intL (limL m)) ∧ Below w.heap.size w w' := by
  obtain ⟨i0, hi, hz0, hz1, hz2⟩ := info_parts info_int
  obtain ⟨d1, d2, d3, d4, d5⟩ := deg_facts ⟨m, by omega⟩ hm
  simp only at d1 d2 d3 d4 d5
  have hpr : ∀ k, prodP m k < m := fun k => by rw [prodP_fact hm]; exact Nat.mod_lt _ (by omega)
  have hlt := limL_take m
  have hll := limL_length m
  have hne : ∀ k, k < degN m → prodP m k ≠ 0 := fun k hk => (d4 ⟨k, by omega⟩ hk).1
  have hrm : ∀ k, roomN m k = m / Nat.gcd m (prodP m k) := fun _ => rfl
  have hstep : ∀ k, prodP m (k + 1) = prodP m k * (k + 1) % m := fun _ => rfl
  have hp0 : prodP m 0 = 1 := rfl
  generalize prodP m = pr at *
  generalize roomN m = rm at *
  generalize degN m = d at *
  generalize limL m = L at *
  have hc0 := Box1.new w 3 (.int .i64 m)
  have hb0 := below_alloc w (.cells #[.int .i64 m] 3)
  have hM := modulo_any m w
  have HM := Lib.hid hM
  have Hlt := Lib.hid hlt
  have Hll := Lib.hid hll
  have Hne := Lib.hid hne
  have Hpr := Lib.hid hpr
  have Hrm := Lib.hid hrm
  have Hst := Lib.hid hstep
  have C0 := Lib.hid hc0
  have B0 := Lib.hid hb0
  clear hM hlt hll hne hpr hrm hstep hc0 hb0 d4 d5
  go_enter Try.func73, Try.ntmps73
  go_wp2_with fail
  refine HM.out.mono ?_
  rintro e w0 ⟨rfl, rfl⟩
  generalize hw1 : w.alloc (.cells #[.int .i64 m] 3) = w1 at C0 B0 ⊢
  clear hw1
  go_wp2
  go_loopw [4, 5] (fun v p wr => ∃ k, k ≤ d ∧ p = .int .i64 (pr k : Nat) ∧ wr.ownsRow w1.heap.size 3 1 v k (intL (L.take k)) ∧ Below w1.heap.size w1 wr) (fun v _ _ => d - lenV v)
  case atStart => exact ⟨0, Nat.zero_le _, by rw [hp0]; rfl, World.ownsRow_nil _ _ _ _, Below.refl _ _⟩
  case round =>
    obtain ⟨k, hk, rfl, ho, hB⟩ := hrel
    obtain ⟨a5, c5, hv5, -⟩ := Row.of_own ho
    subst hv5
    obtain ⟨p, hp⟩ : ∃ p, pr k = p := ⟨_, rfl⟩
    have hpm := Hpr.out k
    rw [hp] at hpm ⊢
    by_cases hlt : k < d
    · have hpn := Hne.out k hlt
      rw [hp] at hpn
      have hc : ((p : Int) != 0) = true := by rw [bne_iff_ne]; omega
      have hD := fun W => divisor_any m p (by omega) (by omega) W
      have hgp : 0 < Nat.gcd m p := Nat.gcd_pos_of_pos_left _ (by omega)
      have hgm : Nat.gcd m p ≤ m := Nat.gcd_le_left _ (by omega)
      have hq := Hrm.out k
      rw [hp] at hq
      generalize Nat.gcd m p = g at hD hgp hgm hq
      have hqm : m / g ≤ m := Nat.div_le_self _ _
      rw [← hq] at hqm
      have hd1 : Int.tdiv (m : Int) g = ((rm k : Nat) : Int) := by rw [hq]; exact (Int.ofNat_tdiv m g).symm
      have hTk := Hlt.out k hlt
      have hpx := Hst.out k
      rw [hp] at hpx
      generalize hqk : rm k = q at hqm hd1 hTk
      have hg0 : ((g : Int) == 0) = false := by rw [beq_eq_false_iff_ne]; omega
      have hg1 : ¬ (g : Int) = 0 := by omega
      have hg2 : ¬ g = 0 := by omega
      have hk64 : k ≤ 64 := by omega
      have hnum := lim_num p q k (by omega) (by omega) hk64
      have HN := Lib.hid hnum
      clear hnum
      have hRm := fun (p2 : Nat) (h : p2 ≤ 5000) W hB => rem_any p2 m w.heap.size W hB (by clear hd1; omega) (by clear hd1; omega) (by clear hd1; omega)
      obtain ⟨hwq, hwq2, p2, hp2, hp2b, hwp, hwp6⟩ := HN.out
      clear HN
      have hRm := hRm p2 hp2b
      rw [hp2] at hpx
      have HD := Lib.hid hD
      have HRm := Lib.hid hRm
      have HTk := Lib.hid hTk
      have Hpx := Lib.hid hpx
      have HO := Lib.hid ho
      have HB := Lib.hid hB
      clear hD hRm hTk hpx ho hB hp hpn hq hqk hp2
      go_wp2_with fail
      refine (HD.out _).mono ?_
      rintro e w2 ⟨rfl, qd, hw2⟩
      have HO2 : Hid (w2.ownsRow w1.heap.size 3 1 (.slice a5 k c5) k (intL (L.take k))) := by rw [hw2]; exact HO.out
      have HB2 : Hid (Below w1.heap.size w1 w2) := by rw [hw2]; exact below_drewN HB.out qd
      clear hw2
      go_wp2_with (at_builtin; refine wpList_append_own _ rfl _ _ 22 rfl w1.heap.size 3 i0 (.int .i64 0) 1 8 Try.underlying22 hi hz0 hz1 hz2 rfl (by decide) _ _ _ rfl (HO2.out.alloc (.cells #[.int .i64 q] 3)) ⟨_, 0, none⟩ 1 1 [.int .i64 q] rfl rfl (one_new _ _ _ _ (by simp)) (by simp [Value.oneCell']) (by clear hwp hwp6 hd1 hwq hwq2; unfold maxLen; omega) (by clear hwp hwp6 hd1 hwq hwq2; omega) (by clear hwp hwp6 hd1 hwq hwq2; have := HB2.out.size; simp; omega) ?_; intro v2 w6 hown2 hgrow2 _
                   obtain ⟨a6, c6, hv6, -⟩ := Row.of_own hown2
                   subst hv6
                   have HB6 : Hid (Below w1.heap.size w1 w6) := rel_push HB2.out (by clear hwp hwp6 hd1 hwq hwq2; have := HB2.out.size; simp; omega) ((Below.refl _ _).alloc HB2.out.size _) HO2.out hgrow2
                   have HO6 := Lib.hid hown2
                   clear hown2 hgrow2)
      have hcell := (C0.out.below HB6.out).cell
      refine (HRm.out _ hcell).mono ?_
      rintro e w7 ⟨rfl, q7, rfl⟩
      go_wp2
      go_roundw
      case rel =>
        refine ⟨k + 1, hlt, by rw [Hpx.out, Int.natCast_emod], ?_, below_drewN HB6.out q7⟩
        rw [HTk.out]
        unfold intL
        rw [List.map_append]
        exact HO6.out
      case measure => clear hwp hwp6 hd1 hwq hwq2; simp [lenV]; omega
    · obtain rfl : k = d := by omega
      rw [d3] at hp
      subst hp
      rw [List.take_of_length_le (by have := Hll.out; omega)] at ho
      have HO := Lib.hid (own_base2 ho (show w.heap.size ≤ w1.heap.size from B0.out.size))
      have HB := Lib.hid (b_next B0.out hB)
      clear ho hB
      go_wp2
      go_ret
      exact ⟨_, rfl, HO.out, HB.out⟩
end Go.Proofs.Ytndbjojjaapeaaa

/- The values of forms, their tables. -/
namespace Go.Proofs.Ytndbjojjaapeaaa
set_option linter.unusedVariables false
open Go.RowKit

/-- x - i -/
theorem sub_any (i x B : Nat) (w : World) (hi : i ≤ 1000) (hx : x ≤ 1000) (hB : w.cell? ⟨B, 0, none⟩ = some (.int .i64 x)) : Calls Try.prog 98 #[.int .i64 i, .pointer (some ⟨B, 0, none⟩)] w fun e w' => e = .returned (.int .i64 ((x : Int) - i)) ∧ w' = w := by
  have h1 : IntKind.i64.wrap ((x : Int) - i) = (x : Int) - i := IntWalk.i64_in _ (by omega)
  have h2 : wrap64 ((x : Int) - i) = (x : Int) - i := IntWalk.wrap64_in _ (by omega)
  go_enter Try.func98, Try.ntmps98
  go_wp2
  go_ret
  exact ⟨rfl, rfl⟩
set_option maxRecDepth 100000 in
set_option maxHeartbeats 4000000 in
theorem formAt_any (x m : Nat) (a : Option Addr) (n cap : Nat) (xs : List Int) (w : World) (hr : Row w a n (intL xs)) (hn : n ≤ 100) (hm : 1 ≤ m) (hm2 : m ≤ 64) (hx : x ≤ 100) (hxs : ∀ x ∈ xs, -1000 ≤ x ∧ x ≤ 1000) :
    Calls Try.prog 74 #[.int .i64 m, .slice a n cap, .int .i64 x] w fun e w' => e = .returned (.int .i64 (formV m xs x)) ∧ Below w.heap.size w w' := by
  have hmf : ∀ (fn : Fn) (first cap : Array Value) (w : World), (Instr.makeFunc fn first cap).run Try.prog w = .ok (.func fn first cap) w := fun _ _ _ _ => rfl
  have b0 := below_alloc w (.cells #[.int .i64 x] 3)
  have hN : Calls Try.prog 93 #[.int .i64 m, .slice a n cap, .func (.func 98) #[] #[.pointer (some ⟨w.heap.size, 0, none⟩)]] (w.alloc (.cells #[.int .i64 x] 3)) fun e w' => e = .returned (.int .i64 (formV m xs x)) ∧ Below (w.alloc (.cells #[.int .i64 x] 3)).heap.size (w.alloc (.cells #[.int .i64 x] 3)) w' := by
    refine nested_any m a n cap xs _ _ (fun i => (x : Int) - i) _ (hr.below b0) hn hm hm2 hxs (fun i _ => by omega) (enters_of Try.func98 (by kernel_rfl) rfl) fun i W hi hW => ?_
    have hc := (Box1.new w 3 (.int .i64 x)).below hW
    exact (sub_any i x w.heap.size W (by omega) (by omega) hc.cell).mono fun e w' ⟨he, hw⟩ => ⟨he, by rw [hw]; exact Below.refl _ _⟩
  have HN := Lib.hid hN
  have B0 := Lib.hid b0
  clear hN b0 hr
  go_enter Try.func74, Try.ntmps74
  go_wp2_with fail
  refine HN.out.mono ?_
  rintro e w1 ⟨rfl, b1⟩
  go_wp2
  go_ret
  exact ⟨rfl, b_next B0.out b1⟩
set_option maxRecDepth 100000 in
theorem fat_any (x : Nat) (m : Nat) (B1 B2 : Nat) (a : Option Addr) (n cap : Nat) (xs : List Int) (w : World) (h1 : w.cell? ⟨B1, 0, none⟩ = some (.int .i64 m)) (h2 : w.cell? ⟨B2, 0, none⟩ = some (.slice a n cap)) (hr : Row w a n (intL xs)) (hn : n ≤ 100)
    (hm : 1 ≤ m) (hm2 : m ≤ 64) (hx : x ≤ 100) (hxs : ∀ x ∈ xs, -1000 ≤ x ∧ x ≤ 1000) :
    Calls Try.prog 99 #[.int .i64 x, .pointer (some ⟨B1, 0, none⟩), .pointer (some ⟨B2, 0, none⟩)] w fun e w' => e = .returned (.int .i64 (formV m xs x)) ∧ Below w.heap.size w w' := by
  have HF := Lib.hid (formAt_any x m a n cap xs w hr hn hm hm2 hx hxs)
  clear hr
  go_enter Try.func99, Try.ntmps99
  go_wp2_with fail
  refine HF.out.mono ?_
  rintro e w1 ⟨rfl, b1⟩
  go_wp2
  go_ret
  exact ⟨rfl, b1⟩
set_option maxRecDepth 100000 in
set_option maxHeartbeats 4000000 in
theorem formTable_any (m : Nat) (a : Option Addr) (n cap : Nat) (xs : List Int) (w : World) (hr : Row w a n (intL xs)) (hn : n ≤ 100) (hm : 1 ≤ m) (hm2 : m ≤ 64) (hxs : ∀ x ∈ xs, -1000 ≤ x ∧ x ≤ 1000) :
    Calls Try.prog 75 #[.int .i64 m, .slice a n cap] w fun e w' => e = .returned (.agg (tabA (fun x => formV m xs x) m)) ∧ Below w.heap.size w w' := by
  have hmf : ∀ (fn : Fn) (first cap : Array Value) (w : World), (Instr.makeFunc fn first cap).run Try.prog w = .ok (.func fn first cap) w := fun _ _ _ _ => rfl
  have hT : ∀ W : World, Below w.heap.size w W → Box1 W w.heap.size 3 (.int .i64 m) → Box1 W (w.heap.size + 1) 22 (.slice a n cap) →
      Calls Try.prog 67 #[.int .i64 m, .func (.func 99) #[] #[.pointer (some ⟨w.heap.size, 0, none⟩), .pointer (some ⟨w.heap.size + 1, 0, none⟩)]] W fun e w' => e = .returned (.agg (tabA (fun x => formV m xs x) m)) ∧ Below W.heap.size W w' := fun W hW k1 k2 => by
    refine tabulated_any m _ _ (fun x => formV m xs x) W hm2 (enters_of Try.func99 (by kernel_rfl) rfl) fun i X hi hX => ?_
    exact fat_any i m _ _ a n cap xs X (k1.below hX).cell (k2.below hX).cell ((hr.below hW).below hX) hn hm hm2 (by omega) hxs
  have HT := Lib.hid hT
  obtain ⟨T, hTT⟩ : ∃ T, tabA (fun x => formV m xs x) m = T := ⟨_, rfl⟩
  have hTs : T.size = 64 := by rw [← hTT]; exact tabA_size _ m
  have hTo : T.all (·.oneCell') = true := by rw [← hTT]; exact tabA_one _ m
  rw [hTT] at HT ⊢
  clear hT hr hTT hxs
  go_enter Try.func75, Try.ntmps75
  go_wp2_with fail
  obtain ⟨b3, k0, k1, k2⟩ := start3 w m (.slice a n cap) _ rfl
  refine (HT.out _ b3 k0 k1).mono ?_
  rintro e w1 ⟨rfl, b4⟩
  have k3 := (b4.block _ (Array.getElem?_eq_some_iff.1 k2).1).trans k2
  have K3 := Lib.hid k3
  have B3 := Lib.hid (b_next b3 b4)
  clear k0 k1 k2 k3 b3 b4
  go_wp2_with (refine wpList_store_row (o := ⟨none, .store 69 (.tmp 4) (.tmp 7), _, _, _, _⟩) rfl 69 (.tmp 4) (.tmp 7) rfl (w.heap.size + 1 + 1) T rfl rfl 69 zeroA K3.out (info_table T hTs) (zeroA_size.trans hTs.symm) hTo ?_)
  exact bodyPost_ret (v := .agg T) (results_cell_row rfl _ _ (w.heap.size + 1 + 1) 69 T (0, 0) _ rfl (setRow_heap _ _ _ _ _ _ K3.out) Try.underlying69 rfl (info_table T hTs)) rfl ⟨rfl, below_setRow B3.out (by omega) _⟩

end Go.Proofs.Ytndbjojjaapeaaa

/- Two tables are compared. -/
namespace Go.Proofs.Ytndbjojjaapeaaa
set_option linter.unusedVariables false
open Go.RowKit

theorem mapM_some {α β : Type} (f : α → Option β) (g : α → β) : ∀ l : List α, (∀ x ∈ l, f x = some (g x)) → l.mapM f = some (l.map g)
  | [], _ => rfl
  | x :: l, h => by
    rw [List.mapM_cons, h x (by simp), mapM_some f g l fun y hy => h y (by simp [hy])]
    rfl
theorem flat_one {α β : Type} (g : α → β) : ∀ l : List α, (l.map fun x => [g x]).flatten = l.map g
  | [] => rfl
  | x :: l => by
    rw [List.map_cons, List.flatten_cons, flat_one g l]; rfl
theorem lits_int (D : Nat) (x : Int) (h : (Lit.int .i64 x).wf = true) : Try.prog.keyLits (D + 1) 3 [.int .i64 x] = some [.int .i64 x] := by
  unfold Program.keyLits
  rw [Try.underlying3]
  simp [h]
set_option maxRecDepth 100000 in
theorem lits_tab (D : Nat) (xs : List Int) (hl : xs.length = 64) (hw : ∀ x ∈ xs, (Lit.int .i64 x).wf = true) : Try.prog.keyLits (D + 2) 69 (intL xs) = some (xs.map (Lit.int .i64)) := by
  unfold Program.keyLits
  rw [Try.underlying69]
  have e1 : Try.prog.cellsOf 69 = 64 := by kernel_rfl
  have e2 : Try.prog.cellsOf 3 = 1 := by kernel_rfl
  simp only [e1, e2]
  rw [if_pos (by rw [intL_length, hl])]
  have hm := mapM_some (fun i => Try.prog.keyLits (D + 1) 3 (((intL xs).drop (i * 1)).take 1)) (fun i => [Lit.int .i64 (xs.getD i 0)]) (List.range 64) fun i hi => by
    have hil := List.mem_range.1 hi
    have e : ((intL xs).drop (i * 1)).take 1 = [.int .i64 (xs.getD i 0)] := by
      rw [Nat.mul_one, List.drop_eq_getElem_cons (by rw [intL_length]; omega)]
      unfold intL
      simp [List.getD_eq_getElem?_getD, List.getElem?_eq_getElem (show i < xs.length by omega)]
    rw [e]
    exact lits_int D _ (hw _ (by rw [List.getD_eq_getElem?_getD, List.getElem?_eq_getElem (by omega)]; exact List.getElem_mem _))
  rw [hm, Option.map_some, flat_one]
  congr 1
  refine List.ext_getElem? fun i => ?_
  rw [List.getElem?_map, List.getElem?_map]
  by_cases hi : i < 64
  · rw [List.getElem?_range hi, List.getElem?_eq_getElem (show i < xs.length by omega)]
    simp [List.getD_eq_getElem?_getD, List.getElem?_eq_getElem (show i < xs.length by omega)]
  · rw [List.getElem?_eq_none (by simp; omega), List.getElem?_eq_none (by omega)]; rfl
theorem formed_tab (xs : List Int) (hl : xs.length = 64) : (Value.agg (intL xs).toArray).formed Try.prog 69 = true := by
  unfold Value.formed
  rw [Try.underlying69]
  have e1 : Try.prog.cellsOf 69 = 64 := by kernel_rfl
  simp [e1, intL_length, hl]
theorem map_lit_inj : ∀ (xs ys : List Int), xs.map (Lit.int .i64) = ys.map (Lit.int .i64) → xs = ys
  | [], [], _ => rfl
  | [], y :: ys, h => by simp at h
  | x :: xs, [], h => by simp at h
  | x :: xs, y :: ys, h => by
    simp only [List.map_cons, List.cons.injEq, Lit.int.injEq, true_and] at h
    rw [h.1, map_lit_inj xs ys h.2]

set_option maxRecDepth 100000 in
theorem eq_tab (xs ys : List Int) (w : World) (hx : xs.length = 64) (hy : ys.length = 64) (hwx : ∀ x ∈ xs, (Lit.int .i64 x).wf = true) (hwy : ∀ x ∈ ys, (Lit.int .i64 x).wf = true) :
    (Op.equalIn 10000 69 (.agg (intL xs).toArray) (.agg (intL ys).toArray)).run Try.prog w = .ok (decide (xs = ys)) w := by
  obtain ⟨r, h1, h2⟩ := run_equalIn_deep (P := Try.prog) 9998 2 69 (by kernel_rfl) w 2 2 (.agg (intL xs).toArray) (.agg (intL ys).toArray) _ _ (formed_tab xs hx) (formed_tab ys hy) (lits_tab 0 xs hx hwx) (lits_tab 0 ys hy hwy)
  rw [h1]
  congr 1
  rw [Bool.eq_iff_iff, h2, decide_eq_true_eq]
  exact ⟨map_lit_inj xs ys, fun h => by rw [h]⟩

/-- a list as a table -/
theorem copy_tab (xs : List Int) (m : Nat) (hl : xs.length = m) (hm : m ≤ 64) : (zeroA.toList.take 0 ++ (intL xs ++ zeroA.toList.drop (0 + (intL xs).length))).toArray = tabA (fun x => xs.getD x 0) m := by
  unfold tabA
  congr 1
  refine List.ext_getElem? fun i => ?_
  rw [List.take_zero, List.nil_append, Nat.zero_add, intL_length]
  by_cases hi : i < 64
  · have e : (intL (tabL (fun x => xs.getD x 0) m))[i]? = some (.int .i64 (if i < m then xs.getD i 0 else 0)) :=
      intL_get (by unfold tabL; rw [List.getElem?_map, List.getElem?_range hi]; rfl)
    rw [e]
    by_cases h : i < m
    · rw [if_pos h, List.getElem?_append_left (by rw [intL_length]; omega)]
      exact intL_get (by rw [List.getD_eq_getElem?_getD, List.getElem?_eq_getElem (by omega)]; rfl)
    · rw [if_neg h, List.getElem?_append_right (by rw [intL_length]; omega), intL_length, List.getElem?_drop]
      have := zeroA_get (i := i) hi
      rw [← Array.getElem?_toList] at this
      rw [show xs.length + (i - xs.length) = i by omega]
      exact this
  · rw [List.getElem?_eq_none (by simp [intL_length, zeroA_size]; omega), List.getElem?_eq_none (by rw [intL_length, tabL_length]; omega)]
abbrev X64 : Array Value := #[.int .i64 0, .int .i64 0, .int .i64 0, .int .i64 0, .int .i64 0, .int .i64 0, .int .i64 0, .int .i64 0, .int .i64 0, .int .i64 0, .int .i64 0, .int .i64 0, .int .i64 0, .int .i64 0, .int .i64 0, .int .i64 0, .int .i64 0, .int .i64 0, .int .i64 0, .int .i64 0, .int .i64 0, .int .i64 0, .int .i64 0, .int .i64 0, .int .i64 0, .int .i64 0, .int .i64 0, .int .i64 0, .int .i64 0, .int .i64 0, .int .i64 0, .int .i64 0, .int .i64 0, .int .i64 0, .int .i64 0, .int .i64 0, .int .i64 0, .int .i64 0, .int .i64 0, .int .i64 0, .int .i64 0, .int .i64 0, .int .i64 0, .int .i64 0, .int .i64 0, .int .i64 0, .int .i64 0, .int .i64 0, .int .i64 0, .int .i64 0, .int .i64 0, .int .i64 0, .int .i64 0, .int .i64 0, .int .i64 0, .int .i64 0, .int .i64 0, .int .i64 0, .int .i64 0, .int .i64 0, .int .i64 0, .int .i64 0, .int .i64 0, .int .i64 0]
theorem X64_zero : X64 = zeroA := by unfold zeroA; rfl
theorem start_two (w : World) (X : Array Value) (h : X = zeroA) :
    ((w.alloc (.cells X 69)).alloc (.cells X 69)).heap[w.heap.size]? = some (.cells zeroA 69 (0, 0)) ∧
      ((w.alloc (.cells X 69)).alloc (.cells X 69)).heap[w.heap.size + 1]? = some (.cells zeroA 69 (0, 0)) ∧
      Below w.heap.size w ((w.alloc (.cells X 69)).alloc (.cells X 69)) := by
  subst h
  exact ⟨heap_alloc2_old w _ _, heap_alloc2_new w _ _, b_next (below_alloc _ _) (below_alloc _ _)⟩
theorem slice_all (b : Nat) (w : World) : (Instr.sliceAt 69 (.pointer (some ⟨b, 0, none⟩)) none none none).run Try.prog w = .ok (.slice (some ⟨b, 0, none⟩) 64 64) w := by kernel_rfl
theorem info_int1 : (Try.prog.info? 3).map (·.size) = some 1 := by kernel_rfl
set_option maxRecDepth 100000 in
set_option maxHeartbeats 4000000 in
theorem tableOf_any (m : Nat) (a : Option Addr) (cap : Nat) (xs : List Int) (w : World) (hr : Row w a m (intL xs)) (hm : 1 ≤ m) (hm2 : m ≤ 64) :
    Calls Try.prog 76 #[.slice a m cap] w fun e w' => e = .returned (.agg (tabA (fun x => xs.getD x 0) m)) ∧ Below w.heap.size w w' := by
  have hx : xs.length = m := by have := hr.1; simpa [intL] using this
  obtain ⟨g, rfl, hg, hc⟩ := hr.2 (by omega)
  have hct := copy_tab xs m hx hm2
  obtain ⟨T, hT⟩ : ∃ T, tabA (fun x => xs.getD x 0) m = T := ⟨_, rfl⟩
  have hTs : T.size = 64 := by rw [← hT]; exact tabA_size _ m
  have hTo : T.all (·.oneCell') = true := by rw [← hT]; exact tabA_one _ m
  rw [hT] at hct ⊢
  have hsl := slice_all
  have Hct := Lib.hid hct
  have Hc := Lib.hid hc
  have Hx := Lib.hid hx
  clear hct hT hr hc hx
  go_enter Try.func76, Try.ntmps76
  go_wp2_with (first
    | (refine wpList_copy_own (o := ⟨some 6, .call { callee := .builtin .copy, args := #[.tmp 4, .tmp 5], argTypes := #[22, 22] }, _, _, _, _⟩) rfl (.tmp 4) (.tmp 5) 22 22 rfl 3 Try.underlying22 info_int1 (w.heap.size + 1) 0 64 64 ⟨g, 0, none⟩ m cap rfl rfl zeroA 69 (start_two w _ X64_zero).2.1 (intL xs) (by rw [intL_length, Hx.out]; exact (Nat.min_eq_left hm2).symm) (fun j v hv => by rw [addr_add, Nat.zero_add]; exact ((start_two w _ X64_zero).2.2.cell (p := ⟨g, j, none⟩) hg).trans (Hc.out j v hv)) (by rw [intL_length, Hx.out, zeroA_size]; omega) (fun v hv => by obtain ⟨x, _, rfl⟩ := List.mem_map.1 hv; rfl) ?_
       rw [Hct.out]
       have hz := start_two w _ X64_zero
       generalize (w.alloc (.cells X64 69)).alloc (.cells X64 69) = W at hz ⊢
       have h1 := (setRow_other W (w.heap.size + 1) w.heap.size T (by omega)).trans hz.1
       have h2 := setRow_heap W (w.heap.size + 1) zeroA T 69 (0, 0) hz.2.1
       have h3 := below_setRow hz.2.2 (show w.heap.size ≤ w.heap.size + 1 by omega) T
       generalize W.setRow (w.heap.size + 1) T = W2 at h1 h2 h3 ⊢
       have H1 := Lib.hid h1
       have H2 := Lib.hid h2
       have H3 := Lib.hid h3
       clear hz h1 h2 h3)
    | (refine wpList_load_row (o := ⟨some 7, .load 69 (.tmp 3), _, _, _, _⟩) rfl 69 (.tmp 3) rfl (w.heap.size + 1) rfl 69 T (0, 0) _ H2.out Try.underlying69 rfl (info_table T hTs) ?_; refine wpList_store_row (o := ⟨none, .store 69 (.tmp 2) (.tmp 7), _, _, _, _⟩) rfl 69 (.tmp 2) (.tmp 7) rfl w.heap.size T rfl rfl 69 zeroA H1.out (info_table T hTs) (zeroA_size.trans hTs.symm) hTo ?_))
  exact bodyPost_ret (v := .agg T) (results_cell_row rfl _ _ w.heap.size 69 T (0, 0) _ rfl (setRow_heap _ _ _ _ _ _ H1.out) Try.underlying69 rfl (info_table T hTs)) rfl ⟨rfl, below_setRow H3.out (Nat.le_refl _) _⟩
end Go.Proofs.Ytndbjojjaapeaaa

/- Degree, Count. -/
namespace Go.Proofs.Ytndbjojjaapeaaa
set_option linter.unusedVariables false
open Go.RowKit

/-- the product of the numbers, as long as it is not too great -/
def cntL : Int → List Int → Option Int
  | c, [] => some c
  | c, l :: ls => if 1152921504606846976 / l < c then none else cntL (c * l) ls
def countR (m : Nat) : Int × Int := match cntL 1 (limL m) with | some c => (c, 0) | none => (0, 5)
theorem limL_in {m : Nat} (hm : 2 ≤ m) (hm2 : m ≤ 64) : ∀ l ∈ limL m, 2 ≤ l ∧ l ≤ 64 := fun l hl => by
  obtain ⟨d1, d2, d3, d4, d5⟩ := deg_facts ⟨m, by omega⟩ hm
  simp only at d1 d2 d4
  unfold limL at hl
  obtain ⟨i, hi, rfl⟩ := List.mem_map.1 hl
  have hid := List.mem_range.1 hi
  have h1 := (d4 ⟨i, by omega⟩ hid).2
  simp only at h1
  have h2 : roomN m i ≤ m := Nat.div_le_self _ _
  omega
theorem cnt_num {c l : Int} (h1 : 1 ≤ c) (h2 : 2 ≤ l) (h3 : c ≤ 1152921504606846976 / l) : 1 ≤ c * l ∧ c * l ≤ 1152921504606846976 := by
  have e1 : c * l ≤ 1152921504606846976 / l * l := Int.mul_le_mul_of_nonneg_right h3 (by omega)
  have e2 := Int.ediv_mul_le 1152921504606846976 (show l ≠ 0 by omega)
  have e3 : 1 * 1 ≤ c * l := Int.mul_le_mul h1 (by omega) (by omega) (by omega)
  omega
theorem cnt_quo {l : Int} (h2 : 2 ≤ l) : Int.tdiv 1152921504606846976 l = 1152921504606846976 / l ∧ 0 ≤ 1152921504606846976 / l ∧ 1152921504606846976 / l ≤ 1152921504606846976 :=
  ⟨Int.tdiv_eq_ediv_of_nonneg (by omega), Int.ediv_nonneg (by omega) (by omega), Int.ediv_le_self _ (by omega)⟩

set_option maxRecDepth 100000 in
theorem Degree_any (m : Int) (w : World) : Calls Try.prog 43 #[.int .i64 m] w fun e w' => e = .returned (if modB m then .tuple #[.int .i64 (degN m.toNat : Nat), .int .i64 0] else .tuple #[.int .i64 0, .int .i64 2]) ∧ Below w.heap.size w w' := by
  have H1 := Lib.hid fun w => isModulus_any m w
  cases hm : modB m with
  | false =>
    rw [hm] at H1
    rw [if_neg (by decide)]
    clear hm
    go_enter Try.func43, Try.ntmps43
    go_wp2_with fail
    refine (H1.out _).mono ?_
    rintro e w1 ⟨rfl, rfl⟩
    go_wp2
    go_ret2
    exact ⟨rfl, Below.refl _ _⟩
  | true =>
    rw [hm] at H1
    rw [if_pos rfl]
    obtain ⟨k, rfl, hk, hk2⟩ := modB_nat hm
    rw [Int.toNat_natCast]
    have HL := Lib.hid fun w => limitsOf_any k w hk hk2
    clear hm
    go_enter Try.func43, Try.ntmps43
    go_wp2_with fail
    refine (H1.out _).mono ?_
    rintro e w1 ⟨rfl, rfl⟩
    go_wp2_with fail
    refine (HL.out _).mono ?_
    rintro e w2 ⟨v, rfl, ho, b2⟩
    obtain ⟨a5, c5, hv5, -⟩ := Row.of_own ho
    subst hv5
    clear ho
    go_wp2
    go_ret2
    exact ⟨rfl, b2⟩
set_option maxRecDepth 100000 in
set_option maxHeartbeats 4000000 in
theorem Count_yes (m : Nat) (w : World) (hm : 2 ≤ m) (hm2 : m ≤ 64) : Calls Try.prog 44 #[.int .i64 m] w fun e w' => e = .returned (.tuple #[.int .i64 (countR m).1, .int .i64 (countR m).2]) ∧ Below w.heap.size w w' := by
  have h1 := fun w => isModulus_any (m : Int) w
  rw [show modB (m : Int) = true from decide_eq_true (by omega)] at h1
  have H1 := Lib.hid h1
  have HL := Lib.hid fun w => limitsOf_any m w hm hm2
  have hin := limL_in hm hm2
  have hll := limL_length m
  have hd : degN m ≤ 64 := by
    obtain ⟨_, d2, _⟩ := deg_facts ⟨m, by omega⟩ hm
    simp only at d2
    omega
  have hR : ∀ o, cntL 1 (limL m) = o → countR m = match o with | some c => (c, 0) | none => (0, 5) := fun o h => by unfold countR; rw [h]
  generalize countR m = R at hR ⊢
  generalize limL m = L at *
  generalize degN m = d at *
  have HR := Lib.hid hR
  have Hin := Lib.hid hin
  have Hll := Lib.hid hll
  clear hR hin hll h1
  go_enter Try.func44, Try.ntmps44
  go_wp2_with fail
  refine (H1.out _).mono ?_
  rintro e w1 ⟨rfl, rfl⟩
  go_wp2_with fail
  refine (HL.out _).mono ?_
  rintro e w2 ⟨v, rfl, ho, b2⟩
  obtain ⟨a5, c5, hv5, hr5⟩ := Row.of_own ho
  subst hv5
  have Hr := Lib.hid hr5
  have B2 := Lib.hid b2
  clear ho hr5 b2
  go_wp2
  go_loopw [4, 6, 13] (fun c _ i wr => ∃ (k : Nat) (x : Int), k ≤ d ∧ i = .int .i64 k ∧ c = .int .i64 x ∧ 1 ≤ x ∧ x ≤ 1152921504606846976 ∧ Hid (cntL 1 L = cntL x (L.drop k)) ∧ wr = w2) (fun _ _ i _ => d - (intOf i).toNat)
  case atStart => exact ⟨0, 1, Nat.zero_le _, rfl, rfl, by omega, by omega, by unfold Hid; rw [List.drop_zero], rfl⟩
  case round =>
    obtain ⟨k, x, hk, rfl, rfl, hx1, hx2, HC, rfl⟩ := hrel
    by_cases hlt : k < d
    · have hc : (k : Int) < d := by omega
      obtain ⟨l, hl⟩ : ∃ l, L[k]? = some l := ⟨_, List.getElem?_eq_getElem (by have := Hll.out; omega)⟩
      obtain ⟨hl2, hl64⟩ := Hin.out l (List.mem_of_getElem? hl)
      obtain ⟨g, rfl, cg⟩ := Hr.out.int hlt
      rw [List.getD_eq_getElem?_getD, hl] at cg
      simp only [Option.getD_some] at cg
      have hdr : L.drop k = l :: L.drop (k + 1) := by
        rw [List.drop_eq_getElem_cons (by have := Hll.out; omega)]
        congr 1
        exact Option.some.inj ((List.getElem?_eq_getElem _).symm.trans hl)
      have hcn := HC.out
      rw [hdr] at hcn
      have hun : cntL x (l :: L.drop (k + 1)) = if 1152921504606846976 / l < x then none else cntL (x * l) (L.drop (k + 1)) := rfl
      rw [hun] at hcn
      obtain ⟨q1, q2, q3⟩ := cnt_quo hl2
      have hnum := fun h => cnt_num hx1 hl2 h
      generalize hqq : (1152921504606846976 : Int) / l = q at q1 q2 q3 hnum hcn
      have hl0 : ((l : Int) == 0) = false := by rw [beq_eq_false_iff_ne]; omega
      have hl1 : ¬ l = 0 := by omega
      have hwq : wrap64 q = q := IntWalk.wrap64_in _ (by omega)
      have hwq2 : IntKind.i64.wrap q = q := IntWalk.i64_in _ (by omega)
      have HCn := Lib.hid hcn
      clear hcn hun hdr hl hqq HC
      by_cases hb : q < x
      · have hr : cntL 1 L = none := by rw [HCn.out, if_pos hb]
        have hR := HR.out _ hr
        have HR2 := Lib.hid hR
        have hb2 : x > q := hb
        clear hR hr hnum
        go_wp2
        go_ret2
        exact ⟨by rw [HR2.out]; rfl, B2.out⟩
      · have hr : cntL 1 L = cntL (x * l) (L.drop (k + 1)) := by rw [HCn.out, if_neg hb]
        obtain ⟨n1, n2⟩ := hnum (by omega)
        obtain ⟨y, hy⟩ : ∃ y, x * l = y := ⟨_, rfl⟩
        rw [hy] at n1 n2 hr
        have hwy : IntKind.i64.wrap (x * l) = y := by rw [hy]; exact IntWalk.i64_in _ (by omega)
        have hwy6 : wrap64 (x * l) = y := by rw [hy]; exact IntWalk.wrap64_in _ (by omega)
        have HR3 := Lib.hid hr
        have hb2 : ¬ x > q := hb
        clear hr hnum hy
        go_wp2
        go_roundw
        case rel => exact ⟨k + 1, y, hlt, by go_num, rfl, n1, n2, HR3, trivial⟩
        case measure => clear hwy hwy6 q1 hwq hwq2; simp [intOf]; omega
    · obtain rfl : k = d := by omega
      have hc : ¬ (k : Int) < k := by omega
      have hcn := HC.out
      rw [List.drop_of_length_le (by have := Hll.out; omega)] at hcn
      have hR := HR.out _ hcn
      have HR2 := Lib.hid hR
      clear hcn hR HC
      go_wp2
      go_ret2
      exact ⟨by rw [HR2.out]; rfl, B2.out⟩
end Go.Proofs.Ytndbjojjaapeaaa

/- A polynomial's function has a form: mathematics. -/
namespace Go.Proofs.Ytndbjojjaapeaaa
set_option linter.unusedVariables false

def sumZ (g : Nat → Int) : Nat → Int
  | 0 => 0
  | k + 1 => sumZ g k + g k
theorem sumZ_congr {g h : Nat → Int} : ∀ k, (∀ j, j < k → g j = h j) → sumZ g k = sumZ h k
  | 0, _ => rfl
  | k + 1, e => by
    show sumZ g k + g k = sumZ h k + h k
    rw [sumZ_congr k (fun j hj => e j (by omega)), e k (by omega)]
theorem sumZ_add (g h : Nat → Int) : ∀ k, sumZ (fun j => g j + h j) k = sumZ g k + sumZ h k
  | 0 => rfl
  | k + 1 => by
    show sumZ _ k + (g k + h k) = sumZ g k + g k + (sumZ h k + h k)
    rw [sumZ_add g h k]; omega
theorem sumZ_mul (c : Int) (g : Nat → Int) : ∀ k, sumZ (fun j => c * g j) k = c * sumZ g k
  | 0 => by simp [sumZ]
  | k + 1 => by
    show sumZ _ k + c * g k = c * (sumZ g k + g k)
    rw [sumZ_mul c g k, Int.mul_add]
theorem sumZ_shift (g : Nat → Int) : ∀ k, sumZ g (k + 1) = g 0 + sumZ (fun j => g (j + 1)) k
  | 0 => by show (0 : Int) + g 0 = g 0 + 0; omega
  | k + 1 => by
    show sumZ g (k + 1) + g (k + 1) = g 0 + (sumZ (fun j => g (j + 1)) k + g (k + 1))
    rw [sumZ_shift g k]; omega
theorem sumZ_more {g : Nat → Int} {k : Nat} : ∀ d, (∀ j, k ≤ j → g j = 0) → sumZ g (k + d) = sumZ g k
  | 0, _ => rfl
  | d + 1, h => by
    show sumZ g (k + d) + g (k + d) = sumZ g k
    rw [sumZ_more d h, h (k + d) (by omega)]; omega
theorem termsP_sum (f : Nat → Int) (cs : List Int) : ∀ k, termsP f cs k = sumZ (fun j => cs.getD j 0 * prodF f j) k
  | 0 => rfl
  | k + 1 => by
    show termsP f cs k + _ = sumZ _ k + _
    rw [termsP_sum f cs k]

/-- the coefficients for x (x - 1) .. -/
def newtF : List Int → Nat → Int
  | [], _ => 0
  | c :: cs, j => (if j = 0 then c else newtF cs (j - 1)) + j * newtF cs j
theorem newtF_zero : ∀ (cs : List Int) (j : Nat), cs.length ≤ j → newtF cs j = 0
  | [], _, _ => rfl
  | c :: cs, j, h => by
    rw [List.length_cons] at h
    unfold newtF
    rw [if_neg (by omega), newtF_zero cs (j - 1) (by omega), newtF_zero cs j (by omega)]; simp
theorem desc_mul (x j : Nat) : (x : Int) * (desc x j : Int) = (desc x (j + 1) : Int) + j * (desc x j : Int) := by
  show _ = ((desc x j * (x - j) : Nat) : Int) + _
  by_cases h : j ≤ x
  · rw [Int.natCast_mul, Int.ofNat_sub h, Int.mul_comm, ← Int.mul_comm (desc x j : Int) (j : Int), ← Int.mul_add]
    congr 1; omega
  · rw [desc_zero x j (by omega)]; simp
theorem newt_eval (x : Nat) : ∀ (cs : List Int) (N : Nat), cs.length ≤ N → sumP (fun _ => (x : Int)) 0 cs = sumZ (fun j => newtF cs j * (desc x j : Int)) N := by
  have key : ∀ (cs : List Int) (i : Nat), sumP (fun _ => (x : Int)) i cs = sumP (fun _ => (x : Int)) 0 cs := by
    intro cs
    induction cs with
    | nil => intro i; rfl
    | cons c cs ih => intro i; show c + _ * sumP _ (i + 1) cs = c + _ * sumP _ 1 cs; rw [ih (i + 1), ih 1]
  intro cs
  induction cs with
  | nil =>
    intro N _
    have : sumZ (fun j => newtF [] j * (desc x j : Int)) N = sumZ (fun _ => 0) N := sumZ_congr _ fun j _ => by simp [newtF]
    rw [this]
    have h0 := sumZ_more (g := fun _ => 0) (k := 0) N (fun _ _ => rfl)
    rw [Nat.zero_add] at h0
    rw [h0]; rfl
  | cons c cs ih =>
    intro N hN
    rw [List.length_cons] at hN
    obtain ⟨M, rfl⟩ : ∃ M, N = M + 1 := ⟨N - 1, by omega⟩
    show c + (x : Int) * sumP _ 1 cs = _
    rw [key cs 1, ih M (by omega), ← sumZ_mul]
    have e1 : sumZ (fun j => (x : Int) * (newtF cs j * (desc x j : Int))) M = sumZ (fun j => newtF cs j * (desc x (j + 1) : Int)) M + sumZ (fun j => (j : Int) * newtF cs j * (desc x j : Int)) M := by
      rw [← sumZ_add]
      refine sumZ_congr _ fun j _ => ?_
      have := desc_mul x j
      rw [Int.mul_left_comm, this, Int.mul_add, Int.mul_left_comm, ← Int.mul_assoc]
    have e2 : sumZ (fun j => (j : Int) * newtF cs j * (desc x j : Int)) (M + 1) = sumZ (fun j => (j : Int) * newtF cs j * (desc x j : Int)) M := by
      show _ + (M : Int) * newtF cs M * (desc x M : Int) = _
      rw [newtF_zero cs M (by omega)]; simp
    have e3 : sumZ (fun j => newtF (c :: cs) j * (desc x j : Int)) (M + 1) = sumZ (fun j => (if j = 0 then c else newtF cs (j - 1)) * (desc x j : Int)) (M + 1) + sumZ (fun j => (j : Int) * newtF cs j * (desc x j : Int)) (M + 1) := by
      rw [← sumZ_add]
      refine sumZ_congr _ fun j _ => ?_
      show ((if j = 0 then c else newtF cs (j - 1)) + j * newtF cs j) * _ = _
      rw [Int.add_mul]
    have e4 : sumZ (fun j => (if j = 0 then c else newtF cs (j - 1)) * (desc x j : Int)) (M + 1) = c + sumZ (fun j => newtF cs j * (desc x (j + 1) : Int)) M := by
      rw [sumZ_shift]
      simp [desc]
    rw [e1, e3, e2, e4]; omega
/-- j! divides x (x - 1) .. (x - j + 1) -/
theorem fact_dvd : ∀ (n k : Nat), fact k ∣ desc n k
  | _, 0 => Nat.dvd_refl 1
  | 0, k + 1 => by rw [desc_zero 0 (k + 1) (by omega)]; exact Nat.dvd_zero _
  | n + 1, k + 1 => by
    rw [desc_step]
    by_cases h : k ≤ n
    · have e : (n + 1) * desc n k = desc n (k + 1) + (k + 1) * desc n k := by
        show _ = desc n k * (n - k) + _
        rw [Nat.mul_comm (desc n k), ← Nat.add_mul]
        congr 1; omega
      rw [e]
      exact Nat.dvd_add (fact_dvd n (k + 1)) (Nat.mul_dvd_mul (Nat.dvd_refl _) (fact_dvd n k))
    · rw [desc_zero n k (by omega)]; simp
theorem fact_pos : ∀ n, 0 < fact n
  | 0 => by decide
  | n + 1 => Nat.mul_pos (by omega) (fact_pos n)
theorem fact_dvd_le {a b : Nat} (h : a ≤ b) : fact a ∣ fact b := by
  induction b with
  | zero =>
    have e : a = 0 := by omega
    rw [e]; exact Nat.dvd_refl _
  | succ b ih =>
    by_cases e : a = b + 1
    · subst e; exact Nat.dvd_refl _
    · exact Nat.dvd_trans (ih (by omega)) ⟨b + 1, Nat.mul_comm _ _⟩
theorem room_fact {m : Nat} (hm : 2 ≤ m) (i : Nat) : roomN m i = m / Nat.gcd m (fact i) := by
  unfold roomN
  rw [prodP_fact hm, Nat.gcd_comm m (fact i % m), ← Nat.gcd_rec m (fact i)]
theorem room_dvd {m : Nat} (hm : 2 ≤ m) (x j : Nat) : m ∣ roomN m j * desc x j := by
  rw [room_fact hm]
  obtain ⟨b, hb⟩ := fact_dvd x j
  have h1 := Nat.gcd_dvd_left m (fact j)
  have h2 := Nat.gcd_dvd_right m (fact j)
  obtain ⟨c, hc⟩ := h2
  refine ⟨c * b, ?_⟩
  rw [hb, ← Nat.mul_assoc, ← Nat.mul_assoc]
  congr 1
  have h3 := Nat.div_mul_cancel h1
  have h4 : m / m.gcd (fact j) * fact j = m / m.gcd (fact j) * (m.gcd (fact j) * c) := by rw [← hc]
  rw [h4, ← Nat.mul_assoc, h3]
/-- the form of a polynomial -/
def formP (m : Nat) (p : List Int) : List Int := (List.range (degN m)).map fun j => newtF p j % (roomN m j : Int)
theorem formP_length (m : Nat) (p : List Int) : (formP m p).length = degN m := by simp [formP]
theorem formP_get {m : Nat} (p : List Int) {j : Nat} (hj : j < degN m) : (formP m p).getD j 0 = newtF p j % (roomN m j : Int) := by
  unfold formP
  rw [List.getD_eq_getElem?_getD, List.getElem?_map, List.getElem?_range hj]; rfl
theorem emod_sumZ {m : Int} {g h : Nat → Int} : ∀ k, (∀ j, j < k → g j % m = h j % m) → sumZ g k % m = sumZ h k % m
  | 0, _ => rfl
  | k + 1, e => by
    show (sumZ g k + g k) % m = (sumZ h k + h k) % m
    rw [Int.add_emod, emod_sumZ k (fun j hj => e j (by omega)), e k (by omega), ← Int.add_emod]
theorem room_term {m : Nat} (hm : 2 ≤ m) (a : Int) (x j : Nat) : (a % (roomN m j : Int)) * (desc x j : Int) % (m : Int) = a * (desc x j : Int) % (m : Int) := by
  have h1 := Int.emod_add_mul_ediv a (roomN m j : Int)
  obtain ⟨c, hc⟩ := room_dvd hm x j
  have h2 : a * (desc x j : Int) = (a % (roomN m j : Int)) * (desc x j : Int) + (m : Int) * ((c : Int) * (a / (roomN m j : Int))) := by
    have h3 : ((roomN m j : Nat) : Int) * (desc x j : Int) = (m : Int) * (c : Int) := by rw [← Int.natCast_mul, hc, Int.natCast_mul]
    calc a * (desc x j : Int) = (a % (roomN m j : Int) + (roomN m j : Int) * (a / (roomN m j : Int))) * (desc x j : Int) := by rw [h1]
      _ = (a % (roomN m j : Int)) * (desc x j : Int) + ((roomN m j : Int) * (desc x j : Int)) * (a / (roomN m j : Int)) := by rw [Int.add_mul, Int.mul_right_comm]
      _ = _ := by rw [h3, Int.mul_assoc]
  rw [h2, Int.add_mul_emod_self_left]
/-- a polynomial's function is that of its form -/
theorem poly_form {m : Nat} (hm : 2 ≤ m) (h64 : m ≤ 64) (p : List Int) (x : Nat) : polyV m p x = valV m (formP m p) x (degN m) := by
  obtain ⟨_, _, h3, _, _⟩ := deg_facts ⟨m, by omega⟩ hm
  simp only at h3
  rw [prodP_fact hm] at h3
  have hd : m ∣ fact (degN m) := Nat.dvd_of_mod_eq_zero h3
  unfold polyV
  rw [nestV_sum, newt_eval x p (degN m + p.length) (by omega), valV_terms hm, termsP_sum]
  have e1 : sumZ (fun j => newtF p j * (desc x j : Int)) (degN m + p.length) % (m : Int) = sumZ (fun j => (if j < degN m then newtF p j * (desc x j : Int) else 0)) (degN m + p.length) % (m : Int) := by
    refine emod_sumZ _ fun j _ => ?_
    by_cases h : j < degN m
    · rw [if_pos h]
    · rw [if_neg h]
      obtain ⟨c, hc⟩ := Nat.dvd_trans hd (Nat.dvd_trans (fact_dvd_le (show degN m ≤ j by omega)) (fact_dvd x j))
      rw [hc, Int.natCast_mul, Int.mul_left_comm, Int.mul_emod_right]; rfl
  rw [e1, sumZ_more (k := degN m) p.length (fun j h => if_neg (by omega))]
  refine emod_sumZ _ fun j hj => ?_
  rw [if_pos hj, formP_get p hj, prodF_desc, room_term hm]
end Go.Proofs.Ytndbjojjaapeaaa

/- How a form is found: mathematics. -/
namespace Go.Proofs.Ytndbjojjaapeaaa
set_option linter.unusedVariables false

/-- the first number from c on, below c + k, that serves -/
def pickF (P : Nat → Bool) : Nat → Nat → Option Nat
  | 0, _ => none
  | k + 1, c => if P c then some c else pickF P k (c + 1)
theorem pickF_some {P : Nat → Bool} {c0 : Nat} : ∀ (k c : Nat), P c0 = true → c ≤ c0 → c0 < c + k → (∀ c', P c' = true → c' < c + k → c' = c0) → pickF P k c = some c0
  | 0, c, _, h1, h2, _ => by omega
  | k + 1, c, h0, h1, h2, h3 => by
    unfold pickF
    by_cases h : P c = true
    · rw [if_pos h, h3 c h (by omega)]
    · rw [if_neg h]
      refine pickF_some k (c + 1) h0 ?_ (by omega) (fun c' h4 h5 => h3 c' h4 (by omega))
      by_cases e : c = c0
      · subst e; exact absurd h0 h
      · omega
theorem pickF_is {P : Nat → Bool} {c0 : Nat} : ∀ (k c : Nat), pickF P k c = some c0 → P c0 = true ∧ c ≤ c0 ∧ c0 < c + k
  | 0, c, h => by simp [pickF] at h
  | k + 1, c, h => by
    unfold pickF at h
    by_cases hp : P c = true
    · rw [if_pos hp, Option.some.injEq] at h
      subst h
      exact ⟨hp, Nat.le_refl _, by omega⟩
    · rw [if_neg hp] at h
      obtain ⟨h1, h2, h3⟩ := pickF_is k (c + 1) h
      exact ⟨h1, by omega, by omega⟩
/-- whether c at i makes the value at i right -/
def fitB (m : Nat) (pre : List Int) (i : Nat) (fi : Int) (c : Nat) : Bool := decide ((valV m pre i i + (c : Int) * (prodP m i : Int)) % (m : Int) = fi)
def pickN (m : Nat) (pre : List Int) (i : Nat) (fi : Int) : Option Nat := pickF (fitB m pre i fi) (roomN m i) 0
/-- the first i numbers of the form -/
def formS (m : Nat) (f : Nat → Int) : Nat → Option (List Int)
  | 0 => some []
  | i + 1 => (formS m f i).bind fun pre => (pickN m pre i (f i)).map fun c : Nat => pre ++ [(c : Int)]
theorem formS_length {m : Nat} {f : Nat → Int} : ∀ {i : Nat} {l : List Int}, formS m f i = some l → l.length = i
  | 0, l, h => by simp [formS] at h; simp [h]
  | i + 1, l, h => by
    unfold formS at h
    cases hp : formS m f i with
    | none => rw [hp] at h; simp at h
    | some pre =>
      rw [hp, Option.bind_some] at h
      cases hc : pickN m pre i (f i) with
      | none => rw [hc] at h; simp at h
      | some c =>
        rw [hc, Option.map_some, Option.some.injEq] at h
        subst h
        rw [List.length_append, formS_length hp]; rfl
theorem valV_take (m : Nat) (a b : List Int) (x : Nat) : ∀ k, (∀ j, j < k → a.getD j 0 = b.getD j 0) → valV m a x k = valV m b x k
  | 0, _ => rfl
  | k + 1, h => by
    show (valV m a x k + a.getD k 0 * _) % _ = (valV m b x k + b.getD k 0 * _) % _
    rw [valV_take m a b x k (fun j hj => h j (by omega)), h k (by omega)]
theorem valV_range {m : Nat} (hm : 0 < m) (a : List Int) (x : Nat) : ∀ k, 0 ≤ valV m a x k ∧ valV m a x k < m
  | 0 => ⟨Int.le_refl _, by show (0 : Int) < m; omega⟩
  | k + 1 => ⟨Int.emod_nonneg _ (by omega), Int.emod_lt_of_pos _ (by omega)⟩
theorem gcd_prod_dvd {m : Nat} (hm : 2 ≤ m) (i : Nat) {c d : Nat} {v : Int} (h : (v + (c : Int) * (prodP m i : Int)) % (m : Int) = (v + (d : Int) * (prodP m i : Int)) % (m : Int)) (hle : c ≤ d) : roomN m i ∣ d - c := by
  have h1 : (m : Int) ∣ ((d - c : Nat) : Int) * (prodP m i : Int) := by
    have h2 := Int.emod_emod_of_dvd (v + (d : Int) * (prodP m i : Int)) (Int.dvd_refl (m : Int))
    have h3 : (m : Int) ∣ (v + (d : Int) * (prodP m i : Int)) - (v + (c : Int) * (prodP m i : Int)) := Int.dvd_of_emod_eq_zero (by rw [Int.sub_emod, h, Int.sub_self]; rfl)
    have h4 : (v + (d : Int) * (prodP m i : Int)) - (v + (c : Int) * (prodP m i : Int)) = ((d - c : Nat) : Int) * (prodP m i : Int) := by
      rw [Int.ofNat_sub hle, Int.sub_mul]; omega
    rwa [h4] at h3
  have h2 : m ∣ (d - c) * prodP m i := by
    rw [← Int.natCast_mul] at h1
    exact Int.natCast_dvd_natCast.1 h1
  unfold roomN
  have hg : 0 < m.gcd (prodP m i) := Nat.gcd_pos_of_pos_left _ (by omega)
  have hc := Nat.coprime_div_gcd_div_gcd (m := m) (n := prodP m i) hg
  obtain ⟨k, hk⟩ := h2
  have h3 : m / m.gcd (prodP m i) ∣ (d - c) * (prodP m i / m.gcd (prodP m i)) := by
    refine ⟨k, ?_⟩
    have e1 := Nat.div_mul_cancel (Nat.gcd_dvd_left m (prodP m i))
    have e2 := Nat.div_mul_cancel (Nat.gcd_dvd_right m (prodP m i))
    apply Nat.eq_of_mul_eq_mul_right hg
    rw [Nat.mul_assoc, e2, hk, Nat.mul_right_comm, e1]
  exact hc.dvd_of_dvd_mul_right h3
theorem fit_one {m : Nat} (hm : 2 ≤ m) {pre : List Int} {i : Nat} {fi : Int} {c d : Nat} (h1 : fitB m pre i fi c = true) (h2 : fitB m pre i fi d = true) (hc : c < roomN m i) (hd : d < roomN m i) : c = d := by
  unfold fitB at h1 h2
  rw [decide_eq_true_eq] at h1 h2
  rcases Nat.le_total c d with h | h
  · have h3 := gcd_prod_dvd hm i (h1.trans h2.symm) h
    have h4 := Nat.eq_zero_of_dvd_of_lt h3 (by omega)
    omega
  · have h3 := gcd_prod_dvd hm i (h2.trans h1.symm) h
    have h4 := Nat.eq_zero_of_dvd_of_lt h3 (by omega)
    omega
/-- the search finds a number that serves -/
theorem pick_some {m : Nat} (hm : 2 ≤ m) {pre : List Int} {i : Nat} {fi : Int} {c : Nat} (h : fitB m pre i fi c = true) (hc : c < roomN m i) : pickN m pre i fi = some c :=
  pickF_some _ _ h (Nat.zero_le _) (by omega) fun c' h1 h2 => fit_one hm h1 h (by omega) hc
theorem getD_snoc (l : List Int) (x : Int) (j : Nat) : (l ++ [x]).getD j 0 = if j < l.length then l.getD j 0 else if j = l.length then x else 0 := by
  rw [List.getD_eq_getElem?_getD, List.getD_eq_getElem?_getD]
  by_cases h : j < l.length
  · rw [if_pos h, List.getElem?_append_left h]
  · rw [if_neg h, List.getElem?_append_right (by omega)]
    by_cases e : j = l.length
    · subst e; simp
    · rw [if_neg e, List.getElem?_eq_none (by simp; omega)]; rfl
theorem getD_take (l : List Int) (i j : Nat) (h : j < i) : (l.take i).getD j 0 = l.getD j 0 := by
  rw [List.getD_eq_getElem?_getD, List.getD_eq_getElem?_getD, List.getElem?_take_of_lt h]
/-- what lies behind x changes no value at x -/
theorem valV_more {m : Nat} (hm : 2 ≤ m) (a : List Int) (x : Nat) : ∀ d, valV m a x (x + 1 + d) = valV m a x (x + 1)
  | 0 => rfl
  | d + 1 => by
    show (valV m a x (x + 1 + d) + _ * (fallN m x (x + 1 + d) : Int)) % (m : Int) = _
    rw [valV_more hm a x d, fallN_desc hm, desc_zero x _ (by omega)]
    simp only [Nat.zero_mod, Int.natCast_zero, Int.mul_zero, Int.add_zero]
    have := valV_range (by omega : 0 < m) a x (x + 1)
    exact Int.emod_eq_of_lt this.1 this.2
theorem valV_at {m : Nat} (hm : 2 ≤ m) (a : List Int) (i : Nat) : valV m a i (i + 1) = (valV m a i i + a.getD i 0 * (prodP m i : Int)) % (m : Int) := by
  show (valV m a i i + a.getD i 0 * (fallN m i i : Int)) % (m : Int) = _
  rw [fallN_prodP hm]
/-- the form of a function that a form makes -/
theorem formS_form {m : Nat} (hm : 2 ≤ m) {f : Nat → Int} {l : List Int} {d : Nat} (hl : l.length = d) (hr : ∀ i, i < d → 0 ≤ l.getD i 0 ∧ l.getD i 0 < roomN m i) (hf : ∀ i, i < d → f i = valV m l i d) :
    ∀ i, i ≤ d → formS m f i = some (l.take i)
  | 0, _ => by simp [formS]
  | i + 1, h => by
    unfold formS
    rw [formS_form hm hl hr hf i (by omega), Option.bind_some]
    obtain ⟨h1, h2⟩ := hr i (by omega)
    obtain ⟨c, hc⟩ : ∃ c : Nat, l.getD i 0 = c := ⟨(l.getD i 0).toNat, by omega⟩
    have hfit : fitB m (l.take i) i (f i) c = true := by
      unfold fitB
      rw [decide_eq_true_eq, hf i (by omega)]
      obtain ⟨e, he⟩ : ∃ e, d = i + 1 + e := ⟨d - (i + 1), by omega⟩
      rw [he, valV_more hm, valV_at hm, hc, valV_take m (l.take i) l i i (fun j hj => getD_take l i j hj)]
    rw [pick_some hm hfit (by omega), Option.map_some, List.take_add_one]
    congr 2
    rw [List.getElem?_eq_getElem (by omega)]
    have : l.getD i 0 = l[i] := by rw [List.getD_eq_getElem?_getD, List.getElem?_eq_getElem (by omega)]; rfl
    rw [← this, hc]; rfl
theorem roomN_pos {m : Nat} (hm : 2 ≤ m) (i : Nat) : 1 ≤ roomN m i := by
  unfold roomN
  exact Nat.div_pos (Nat.le_of_dvd (by omega) (Nat.gcd_dvd_left _ _)) (Nat.gcd_pos_of_pos_left _ (by omega))
theorem formS_poly {m : Nat} (hm : 2 ≤ m) (h64 : m ≤ 64) (p : List Int) : formS m (fun x => polyV m p x) (degN m) = some (formP m p) := by
  have h := formS_form hm (f := fun x => polyV m p x) (formP_length m p) (fun i hi => by
    rw [formP_get p hi]
    have := roomN_pos hm i
    exact ⟨Int.emod_nonneg _ (by omega), Int.emod_lt_of_pos _ (by omega)⟩) (fun i _ => poly_form hm h64 p i) (degN m) (Nat.le_refl _)
  rwa [List.take_of_length_le (by rw [formP_length]; exact Nat.le_refl _)] at h
/-- whether a form makes a function -/
def makesB (m : Nat) (f : Nat → Int) (l : List Int) : Bool := (List.range m).all fun x => decide (valV m l x l.length = f x)
def trimZ (l : List Int) : List Int := (l.reverse.dropWhile fun x => decide (x = 0)).reverse
/-- Form's answer -/
def formR (m : Nat) (f : Nat → Int) : Option (List Int) := (formS m f (degN m)).bind fun l => if makesB m f l then some (trimZ l) else none
theorem formR_poly {m : Nat} (hm : 2 ≤ m) (h64 : m ≤ 64) (p : List Int) : formR m (fun x => polyV m p x) = some (trimZ (formP m p)) := by
  unfold formR
  rw [formS_poly hm h64, Option.bind_some, if_pos]
  unfold makesB
  rw [List.all_eq_true]
  intro x _
  rw [decide_eq_true_eq, formP_length]
  exact (poly_form hm h64 p x).symm
end Go.Proofs.Ytndbjojjaapeaaa
