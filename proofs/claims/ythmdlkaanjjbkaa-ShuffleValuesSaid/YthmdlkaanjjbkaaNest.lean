/- nested: a range over the positions from the last one to the first one. -/
import Derived.Test.YthmdlkaanjjbkaaBack
import Derived.Test.YthmdlkaanjjbkaaSimple
import Derived.Test.YthmdlkaanjjbkaaRinv
import Derived.Test.YthmdlkaanjjbkaaMarks
namespace Go.Proofs.Ythmdlkaanjjbkaa
set_option linter.unusedVariables false
open Go.RowKit Go.Shelf
attribute [local go_sem] Oper.semAt_some

/-- what nested has behind the positions pre -/
def nestW {n : Nat} (m : Int) (f : Nat → Int) (xs : List Int) (pre : List (Fin n)) : Int := pre.foldl (fun v x => (xs.getD x.val 0 + f x.val * v) % m) 0
theorem nestW_snoc {n : Nat} (m : Int) (f : Nat → Int) (xs : List Int) (pre : List (Fin n)) (x : Fin n) : nestW m f xs (pre ++ [x]) = (xs.getD x.val 0 + f x.val * nestW m f xs pre) % m := by simp [nestW, List.foldl_append]
theorem nestV_from (m : Int) (f : Nat → Int) (xs : List Int) : ∀ (k i : Nat), i + k = xs.length → nestV m f i (xs.drop i) = ((List.range' i k).foldr (fun j v => (xs.getD j 0 + f j * v) % m) 0)
  | 0, i, h => by rw [List.drop_of_length_le (by omega)]; rfl
  | k + 1, i, h => by
    rw [List.drop_eq_getElem_cons (by omega), List.range'_succ, List.foldr_cons, ← nestV_from m f xs k (i + 1) (by omega)]
    show (xs[i] + _) % m = _
    rw [List.getD_eq_getElem?_getD, List.getElem?_eq_getElem (by omega)]; rfl
theorem nestW_all {n : Nat} (m : Int) (f : Nat → Int) {xs : List Int} (hx : xs.length = n) : nestW m f xs (allD n) = nestV m f 0 xs := by
  have h := nestV_from m f xs n 0 (by omega)
  rw [List.drop_zero] at h
  rw [h]
  unfold nestW allD
  rw [List.foldl_reverse]
  have e : (List.finRange n).map Fin.val = List.range' 0 n := by
    refine List.ext_getElem (by simp) fun i h1 h2 => by simp
  rw [← e, List.foldr_map]
theorem nestW_range {n : Nat} {m : Int} (hm : 0 < m) (f : Nat → Int) (xs : List Int) : ∀ pre : List (Fin n), 0 ≤ nestW m f xs pre ∧ nestW m f xs pre < m := by
  intro pre
  by_cases h : pre = []
  · subst h; exact ⟨Int.le_refl _, hm⟩
  · rw [← List.dropLast_concat_getLast h, nestW_snoc]
    exact ⟨Int.emod_nonneg _ (by omega), Int.emod_lt_of_pos _ hm⟩
/-- a block of one cell -/
def Box1 (X : World) (B : Nat) (t : TypeId) (v : Value) : Prop := X.heap[B]? = some (.cells #[v] t (0, 0))
theorem Box1.cell {X : World} {B : Nat} {t : TypeId} {v : Value} (h : Box1 X B t v) : X.cell? ⟨B, 0, none⟩ = some v := by simp [World.cell?, show X.heap[B]? = _ from h]
theorem Box1.frozen {X : World} {B : Nat} {t : TypeId} {v : Value} (h : Box1 X B t v) : X.frozen? ⟨B, 0, none⟩ = false := by simp [World.frozen?, show X.heap[B]? = _ from h]
theorem Box1.lt {X : World} {B : Nat} {t : TypeId} {v : Value} (h : Box1 X B t v) : B < X.heap.size := (Array.getElem?_eq_some_iff.1 h).1
theorem Box1.new (W : World) (t : TypeId) (v : Value) : Box1 (W.alloc (.cells #[v] t)) W.heap.size t v := heap_alloc_new W _
theorem Box1.grown {X Y : World} {B : Nat} {t : TypeId} {v : Value} {row : Option Nat} (h : Box1 X B t v) (hg : X.grownBy Y row) (hne : some B ≠ row) : Box1 Y B t v := (hg.block B h.lt hne).trans h
theorem Box1.below {X Y : World} {B : Nat} {t : TypeId} {v : Value} (h : Box1 X B t v) (hb : Below X.heap.size X Y) : Box1 Y B t v := (hb.block B h.lt).trans h
theorem Box1.set {X : World} {B : Nat} {t : TypeId} {v : Value} (h : Box1 X B t v) (u : Value) : Box1 (X.setCell ⟨B, 0, none⟩ u) B t u := by
  have := heap_setCell_same X B 0 #[v] t u h
  simpa [Box1] using this
theorem Box1.far {X : World} {B B' o : Nat} {t : TypeId} {v u : Value} (h : Box1 X B t v) (hne : B ≠ B') : Box1 (X.setCell ⟨B', o, none⟩ u) B t v := (heap_setCell_other X ⟨B', o, none⟩ B u hne).trans h

/-- between two rounds of nested -/
structure NesI (w : World) (m gF : Nat) (caps : Array Value) (v : Int) (X : World) : Prop where
  below : Below w.heap.size w X
  b0 : Box1 X w.heap.size 52 (.func (.func gF) #[] caps)
  b1 : Box1 X (w.heap.size + 1) 3 (.int .i64 m)
  b2 : Box1 X (w.heap.size + 1 + 1) 52 (.func (.func 97) #[] #[.pointer (some ⟨w.heap.size + 1, 0, none⟩)])
  b3 : Box1 X (w.heap.size + 1 + 1 + 1) 3 (.int .i64 v)
theorem NesI.next {w X Y : World} {m gF : Nat} {caps : Array Value} {v : Int} (h : NesI w m gF caps v X) (hb : Below X.heap.size X Y) : NesI w m gF caps v Y :=
  ⟨b_next h.below hb, h.b0.below hb, h.b1.below hb, h.b2.below hb, h.b3.below hb⟩
theorem NesI.grown {w X Y : World} {m gF : Nat} {caps : Array Value} {v : Int} {row : Option Nat} (h : NesI w m gF caps v X) (hg : X.grownBy Y row) (hr : ∀ k, row = some k → w.heap.size + 4 ≤ k) : NesI w m gF caps v Y :=
  ⟨h.below.grown hg h.below.size (fun k e => by have := hr k e; omega), h.b0.grown hg (fun e => by have := hr _ e.symm; omega), h.b1.grown hg (fun e => by have := hr _ e.symm; omega), h.b2.grown hg (fun e => by have := hr _ e.symm; omega), h.b3.grown hg (fun e => by have := hr _ e.symm; omega)⟩
theorem NesI.set {w X : World} {m gF : Nat} {caps : Array Value} {v : Int} (h : NesI w m gF caps v X) (u : Int) : NesI w m gF caps u (X.setCell ⟨w.heap.size + 1 + 1 + 1, 0, none⟩ (.int .i64 u)) :=
  ⟨h.below.setCell (p := ⟨w.heap.size + 1 + 1 + 1, 0, none⟩) (by simp <;> omega) _, h.b0.far (by omega), h.b1.far (by omega), h.b2.far (by omega), h.b3.set _⟩
theorem grown_of_below {X Y : World} {row : Option Nat} (h : Below X.heap.size X Y) : X.grownBy Y row := ⟨h.os, h.tape, h.output, h.size, fun k hk _ => h.block k hk⟩
theorem keeps_below {T : Nat} {X Y : World} (h : Below X.heap.size X Y) : KeepsAt T X Y := KeepsAt.of_grown (row := none) (grown_of_below h) (by simp)
theorem keeps_set {T B o : Nat} {X : World} (v : Value) (h : B < T) : KeepsAt T X (X.setCell ⟨B, o, none⟩ v) :=
  KeepsAt.of_grown (row := some B) ⟨rfl, rfl, rfl, by simp, fun k _ hk => Below.heap_setCell _ _ _ _ (by show k ≠ B; exact fun e => hk (by rw [e]))⟩ (fun r e => by cases e; exact h)
set_option maxRecDepth 100000 in
set_option maxHeartbeats 4000000 in
theorem nested_any (m : Nat) (a : Option Addr) (n cap : Nat) (xs : List Int) (gF : Nat) (caps : Array Value) (f : Nat → Int) (w : World) (hr : Row w a n (intL xs)) (hn : n ≤ 100) (hm : 1 ≤ m) (hm2 : m ≤ 64)
    (hxs : ∀ x ∈ xs, -1000 ≤ x ∧ x ≤ 1000) (hfr : ∀ i, i < n → -1000 ≤ f i ∧ f i ≤ 1000) (eg : ∀ args w, (callFunc gF args).run Try.prog w = .ok (.enter gF args) w)
    (hF : ∀ (i : Nat) (W : World), i < n → Below w.heap.size w W → Calls Try.prog gF (#[.int .i64 i] ++ caps) W fun e w' => e = .returned (.int .i64 (f i)) ∧ Below W.heap.size W w') :
    Calls Try.prog 93 #[.int .i64 m, .slice a n cap, .func (.func gF) #[] caps] w fun e w' => e = .returned (.int .i64 (nestV m f 0 xs)) ∧ Below w.heap.size w w' := by
  refine (callsIn_wide (n := 6)).1 ?_
  have hx : xs.length = n := by have := hr.1; simpa [intL] using this
  have hmo := fun W => modulo_any m W
  have hmx : Try.prog.follows .mixedOrders = true := by kernel_rfl
  have hW4 : NesI w m gF caps 0 (((((w.alloc (.cells #[.func (.func gF) #[] caps] 52)).alloc (.cells #[.int .i64 m] 3)).alloc (.cells #[.func (.func 97) #[] #[.pointer (some ⟨w.heap.size + 1, 0, none⟩)]] 52)).alloc (.cells #[.int .i64 0] 3)).alloc (.cells #[.slice a n cap] 22)) := by
    have c0 := Box1.new w 52 (.func (.func gF) #[] caps)
    have b0 := below_alloc w (.cells #[.func (.func gF) #[] caps] 52)
    have hs0 : (w.alloc (.cells #[.func (.func gF) #[] caps] 52)).heap.size = w.heap.size + 1 := by simp
    generalize w.alloc (.cells #[.func (.func gF) #[] caps] 52) = w1 at c0 b0 hs0 ⊢
    have c1 := Box1.new w1 3 (.int .i64 m)
    have b1 := below_alloc w1 (.cells #[.int .i64 m] 3)
    have hs1 : (w1.alloc (.cells #[.int .i64 m] 3)).heap.size = w.heap.size + 1 + 1 := by simp [hs0]
    generalize w1.alloc (.cells #[.int .i64 m] 3) = w2 at c1 b1 hs1 ⊢
    have c2 := Box1.new w2 52 (.func (.func 97) #[] #[.pointer (some ⟨w.heap.size + 1, 0, none⟩)])
    have b2 := below_alloc w2 (.cells #[.func (.func 97) #[] #[.pointer (some ⟨w.heap.size + 1, 0, none⟩)]] 52)
    have hs2 : (w2.alloc (.cells #[.func (.func 97) #[] #[.pointer (some ⟨w.heap.size + 1, 0, none⟩)]] 52)).heap.size = w.heap.size + 1 + 1 + 1 := by simp [hs1]
    generalize w2.alloc (.cells #[.func (.func 97) #[] #[.pointer (some ⟨w.heap.size + 1, 0, none⟩)]] 52) = w3 at c2 b2 hs2 ⊢
    have c3 := Box1.new w3 3 (.int .i64 0)
    have b3 := below_alloc w3 (.cells #[.int .i64 0] 3)
    generalize w3.alloc (.cells #[.int .i64 0] 3) = w4 at c3 b3 ⊢
    have b4 := below_alloc w4 (.cells #[.slice a n cap] 22)
    rw [hs0] at c1
    rw [hs1] at c2
    rw [hs2] at c3
    exact ⟨b_next (b_next (b_next (b_next b0 b1) b2) b3) b4, (((c0.below b1).below b2).below b3).below b4, ((c1.below b2).below b3).below b4, (c2.below b3).below b4, c3.below b4⟩
  have A3 := Box1.new ((((w.alloc (.cells #[.func (.func gF) #[] caps] 52)).alloc (.cells #[.int .i64 m] 3)).alloc (.cells #[.func (.func 97) #[] #[.pointer (some ⟨w.heap.size + 1, 0, none⟩)]] 52)).alloc (.cells #[.int .i64 0] 3)) 22 (.slice a n cap)
  simp only [World.size_alloc] at A3
  have a3 := A3.cell
  have HM := Lib.hid hmo
  have Hr := Lib.hid hr
  have Hx := Lib.hid hx
  have HF := Lib.hid hF
  have Hxs := Lib.hid hxs
  have Hfr := Lib.hid hfr
  clear hmo hr hx hF hxs hfr A3
  refine callsIn_of_wp_marks Try.func93 rfl trivial ?_ rfl
  simp only [Try.ntmps93, List.size_toArray, List.length_cons, List.length_nil, Nat.reduceAdd, Nat.reduceSub, Array.replicate_succ, Array.replicate_zero, List.push_toArray, List.append_toArray, List.nil_append, List.cons_append]
  gi_wp2_with (first
    | (refine ⟨trivial, ?_⟩; gi_at_call 66; refine (callsIn_wide.2 (HM.out _)).mono ?_; rintro e w1 ⟨rfl, rfl⟩)
    | (refine ⟨trivial, ?_⟩; gi_at_call 104; refine (back_in _ _ _ _ _).mono ?_; rintro e w' ⟨rfl, rfl⟩))
  have HW4 := Lib.hid hW4
  clear hW4
  refine range_visits_k (α := Fin n) rfl (by omega) (gf := 108) (lb := #[.pointer (some ⟨w.heap.size + 1 + 1 + 1 + 1, 0, none⟩)]) rfl trivial (enters_of Try.func108 (by kernel_rfl) rfl)
    (encs := fun x : Fin n => #[.int .i64 (x.val : Nat), .int .i64 (xs.getD x.val 0)]) (T := w.heap.size + 1 + 1 + 1 + 1) (S := fun ys => ys = allD n) (Sp := fun pre => pre <+: allD n) (N := n) (Kp := fun X => Row X a n (intL xs)) (by simp)
    (fun W hW => back1_visits 5 (by omega) a n cap xs Hx.out (by omega) (w.heap.size + 1 + 1 + 1 + 1) _ W (Nat.le_refl _) ((World.cell?_of_block (a := ⟨w.heap.size + 1 + 1 + 1 + 1, 0, none⟩) (hW.block _ (World.block_lt_of_cell? _ _ a3) (by simp))).trans a3)) (fun _ => rfl)
    (fun pre X => NesI w m gF caps (nestW m f xs pre) X) (fun _ _ _ => False) (fun s W W' row hs hg hr => hs.grown hg (fun k e => by have := hr k e; simp at this; omega)) (fun c s W W' row hs hg hr => hs)
    HW4.out (fun pre X h => Hr.out.below h.below)
    (fun x => { tmps := #[.int .i64 m, .slice a n cap, .func (.func gF) #[] caps, undef, undef, .pointer (some ⟨w.heap.size, 0, none⟩), .int .i64 0, .pointer (some ⟨w.heap.size + 1 + 1, 0, none⟩), .pointer (some ⟨w.heap.size + 1 + 1 + 1, 0, none⟩), .int .i64 (x.val : Nat), .int .i64 (xs.getD x.val 0), .int .i64 m, .func (.func 97) #[] #[.pointer (some ⟨w.heap.size + 1, 0, none⟩)], .slice a n cap, .func (.func 108) #[] #[.pointer (some ⟨w.heap.size + 1 + 1 + 1 + 1, 0, none⟩)], .int .i64 (x.val : Nat), .int .i64 (xs.getD x.val 0), undef, undef, undef, undef, undef, undef, undef, undef, undef, undef], defers := [] }) ?assign ?body ?done ?stop
  case assign =>
    intro l x W K hK
    generalize xs.getD x.val 0 = z at hK ⊢
    gi_wp2
    exact hK
  case body =>
    intro l pre x W hI hlen
    have hsn := nestW_snoc m f xs pre x
    have hv := nestW_range (show (0 : Int) < m by omega) f xs pre
    have hfi := Hfr.out x.val x.2
    have hz : -1000 ≤ xs.getD x.val 0 ∧ xs.getD x.val 0 ≤ 1000 := Hxs.out _ (by rw [List.getD_eq_getElem?_getD, List.getElem?_eq_getElem (by have := Hx.out; have := x.2; omega)]; exact List.getElem_mem _)
    have hFx := fun W hb => HF.out x.val W x.2 hb
    obtain ⟨v, hve⟩ : ∃ v, nestW m f xs pre = v := ⟨_, rfl⟩
    rw [hve] at hsn hv hI
    generalize xs.getD x.val 0 = z at hsn hz ⊢
    generalize f x.val = fi at hsn hfi hFx
    obtain ⟨v2, hv2⟩ : ∃ v', (z + fi * v) % (m : Int) = v' := ⟨_, rfl⟩
    rw [hv2] at hsn
    obtain ⟨pr, hpr⟩ : ∃ p, fi * v = p := ⟨_, rfl⟩
    have hpb : -100000 ≤ pr ∧ pr ≤ 100000 := by
      have e1 : fi * v ≤ 1000 * v := Int.mul_le_mul_of_nonneg_right hfi.2 hv.1
      have e2 : (-1000) * v ≤ fi * v := Int.mul_le_mul_of_nonneg_right hfi.1 hv.1
      omega
    obtain ⟨sm, hsm⟩ : ∃ p, z + pr = p := ⟨_, rfl⟩
    have hw1 : IntKind.i64.wrap (fi * v) = pr := by rw [hpr]; exact IntWalk.i64_in _ (by omega)
    have hw2 : IntKind.i64.wrap (z + pr) = sm := by rw [hsm]; exact IntWalk.i64_in _ (by omega)
    have hw3 : wrap64 (fi * v) = pr := by rw [hpr]; exact IntWalk.wrap64_in _ (by omega)
    have hw4 : wrap64 (z + pr) = sm := by rw [hsm]; exact IntWalk.wrap64_in _ (by omega)
    rw [hpr, hsm] at hv2
    have hRm := fun W hB => rem_any sm m (w.heap.size + 1) W hB hm (by omega) (by omega)
    rw [hv2] at hRm
    have Hsn := Lib.hid hsn
    have HFx := Lib.hid hFx
    have HRm := Lib.hid hRm
    have HI := Lib.hid hI
    clear hFx hRm hI hsn hve hv hfi hz hpb hpr hsm hv2 a3 HW4
    gi_wp2
    refine region_inv hmx (fun L A X => ∃ b0 b1 b2 b3 b4 b5 b6 b7 b8 b9 : Bool, L = #[b0, b1, b2, b3, b4, b5, b6, b7, b8, b9] ∧ A = { tmps := #[.int .i64 m, .slice a n cap, .func (.func gF) #[] caps, undef, undef, .pointer (some ⟨w.heap.size, 0, none⟩), .int .i64 0, .pointer (some ⟨w.heap.size + 1 + 1, 0, none⟩), .pointer (some ⟨w.heap.size + 1 + 1 + 1, 0, none⟩), .int .i64 (x.val : Nat), .int .i64 z, .int .i64 m, .func (.func 97) #[] #[.pointer (some ⟨w.heap.size + 1, 0, none⟩)], .slice a n cap, .func (.func 108) #[] #[.pointer (some ⟨w.heap.size + 1 + 1 + 1 + 1, 0, none⟩)], .int .i64 (x.val : Nat), .int .i64 z, pk b0 (.func (.func 97) #[] #[.pointer (some ⟨w.heap.size + 1, 0, none⟩)]) undef, pk b1 (.int .i64 z) undef, pk b2 (.func (.func gF) #[] caps) undef, pk b3 (.int .i64 (x.val : Nat)) undef, pk b4 (.int .i64 fi) undef, pk b5 (.int .i64 v) undef, pk b6 (.int .i64 pr) undef, pk b7 (.int .i64 sm) undef, pk b8 (.int .i64 v2) undef, undef], defers := [] } ∧ KeepsAt (w.heap.size + 1 + 1 + 1 + 1) W X ∧ (b9 = false → NesI w m gF caps v X) ∧ (b9 = true → NesI w m gF caps v2 X) ∧ (b9 = true → b0 = true ∧ b1 = true ∧ b2 = true ∧ b3 = true ∧ b4 = true ∧ b5 = true ∧ b6 = true ∧ b7 = true ∧ b8 = true)) ?h0 ?hstep ?hdone
    case h0 => exact ⟨false, false, false, false, false, false, false, false, false, false, rfl, rfl, keeps_below (below_drewN (Below.refl _ _) 1), fun _ => HI.out.next (below_drewN (Below.refl _ _) 1), fun h => (by cases h), fun h => by cases h⟩
    case hstep =>
      rintro L a X ⟨b0, b1, b2, b3, b4, b5, b6, b7, b8, b9, rfl, rfl, hK, h8, h9, hz⟩ i hi
      have HK := Lib.hid hK
      have H8 := Lib.hid h8
      have H9 := Lib.hid h9
      have HZ := Lib.hid hz
      clear hK h8 h9 hz
      obtain ⟨hun, o, ho, hdeps⟩ := mem_ready.1 hi
      clear hi
      have hi : i < 10 := (Array.getElem?_eq_some_iff.1 ho).1
      have hor : i = 0 ∨ i = 1 ∨ i = 2 ∨ i = 3 ∨ i = 4 ∨ i = 5 ∨ i = 6 ∨ i = 7 ∨ i = 8 ∨ i = 9 := by omega
      clear hi
      rcases hor with rfl | rfl | rfl | rfl | rfl | rfl | rfl | rfl | rfl | rfl
      · have hb : b0 = false := hun
        cases ho
        clear hun hdeps
        subst hb
        have hbx := fun h => H8.out h
        obtain rfl : b9 = false := by cases hb9 : b9 with | false => rfl | true => exact absurd (HZ.out hb9) (by simp)
        have hN := H8.out rfl
        have e0 := hN.b0.cell
        have e1 := hN.b1.cell
        have e2 := hN.b2.cell
        have e3 := hN.b3.cell
        have e3f := hN.b3.frozen
        clear hbx hN
        try dsimp only
        refine wpOpIn_step rfl (fun K' hK => ?_)
        go_simp
        exact hK _ _ ⟨true, b1, b2, b3, b4, b5, b6, b7, b8, false, rfl, rfl, HK.out, H8.out, fun h => (by cases h), fun h => by cases h⟩
      · have hb : b1 = false := hun
        cases ho
        clear hun hdeps
        subst hb
        obtain rfl : b9 = false := by cases hb9 : b9 with | false => rfl | true => exact absurd (HZ.out hb9) (by simp)
        try dsimp only
        refine wpOpIn_step rfl (fun K' hK => ?_)
        go_simp
        exact hK _ _ ⟨b0, true, b2, b3, b4, b5, b6, b7, b8, false, rfl, rfl, HK.out, H8.out, fun h => (by cases h), fun h => by cases h⟩
      · have hb : b2 = false := hun
        cases ho
        clear hun hdeps
        subst hb
        have hbx := fun h => H8.out h
        obtain rfl : b9 = false := by cases hb9 : b9 with | false => rfl | true => exact absurd (HZ.out hb9) (by simp)
        have hN := H8.out rfl
        have e0 := hN.b0.cell
        have e1 := hN.b1.cell
        have e2 := hN.b2.cell
        have e3 := hN.b3.cell
        have e3f := hN.b3.frozen
        clear hbx hN
        try dsimp only
        refine wpOpIn_step rfl (fun K' hK => ?_)
        go_simp
        exact hK _ _ ⟨b0, b1, true, b3, b4, b5, b6, b7, b8, false, rfl, rfl, HK.out, H8.out, fun h => (by cases h), fun h => by cases h⟩
      · have hb : b3 = false := hun
        cases ho
        clear hun hdeps
        subst hb
        obtain rfl : b9 = false := by cases hb9 : b9 with | false => rfl | true => exact absurd (HZ.out hb9) (by simp)
        try dsimp only
        refine wpOpIn_step rfl (fun K' hK => ?_)
        go_simp
        exact hK _ _ ⟨b0, b1, b2, true, b4, b5, b6, b7, b8, false, rfl, rfl, HK.out, H8.out, fun h => (by cases h), fun h => by cases h⟩
      · have hb : b4 = false := hun
        cases ho
        have d2 : b2 = true := hdeps ⟨2, Ground.data⟩ (by simp) rfl
        have d3 : b3 = true := hdeps ⟨3, Ground.data⟩ (by simp) rfl
        clear hun hdeps
        subst hb d2 d3
        have hbx := fun h => H8.out h
        obtain rfl : b9 = false := by cases hb9 : b9 with | false => rfl | true => exact absurd (HZ.out hb9) (by simp)
        have hN := H8.out rfl
        have e0 := hN.b0.cell
        have e1 := hN.b1.cell
        have e2 := hN.b2.cell
        have e3 := hN.b3.cell
        have e3f := hN.b3.frozen
        clear hbx hN
        try dsimp only
        refine wpOpIn_step rfl (fun K' hK => ?_)
        simp only [pk_true]
        go_simp
        refine ⟨trivial, ?_⟩
        refine (CallsIn.inRound _ (callsIn_wide.2 (HFx.out _ (H8.out rfl).below))).mono ?_
        rintro e w2 ⟨rfl, zb⟩
        exact hK _ _ ⟨b0, b1, true, true, true, b5, b6, b7, b8, false, rfl, rfl, HK.out.trans (keeps_below zb), fun h => (H8.out h).next zb, fun h => (by cases h), fun h => by cases h⟩
      · have hb : b5 = false := hun
        cases ho
        clear hun hdeps
        subst hb
        have hbx := fun h => H8.out h
        obtain rfl : b9 = false := by cases hb9 : b9 with | false => rfl | true => exact absurd (HZ.out hb9) (by simp)
        have hN := H8.out rfl
        have e0 := hN.b0.cell
        have e1 := hN.b1.cell
        have e2 := hN.b2.cell
        have e3 := hN.b3.cell
        have e3f := hN.b3.frozen
        clear hbx hN
        try dsimp only
        refine wpOpIn_step rfl (fun K' hK => ?_)
        go_simp
        exact hK _ _ ⟨b0, b1, b2, b3, b4, true, b6, b7, b8, false, rfl, rfl, HK.out, H8.out, fun h => (by cases h), fun h => by cases h⟩
      · have hb : b6 = false := hun
        cases ho
        have d4 : b4 = true := hdeps ⟨4, Ground.data⟩ (by simp) rfl
        have d5 : b5 = true := hdeps ⟨5, Ground.data⟩ (by simp) rfl
        clear hun hdeps
        subst hb d4 d5
        obtain rfl : b9 = false := by cases hb9 : b9 with | false => rfl | true => exact absurd (HZ.out hb9) (by simp)
        try dsimp only
        refine wpOpIn_step rfl (fun K' hK => ?_)
        simp only [pk_true]
        go_simp
        exact hK _ _ ⟨b0, b1, b2, b3, true, true, true, b7, b8, false, rfl, rfl, HK.out, H8.out, fun h => (by cases h), fun h => by cases h⟩
      · have hb : b7 = false := hun
        cases ho
        have d1 : b1 = true := hdeps ⟨1, Ground.data⟩ (by simp) rfl
        have d6 : b6 = true := hdeps ⟨6, Ground.data⟩ (by simp) rfl
        clear hun hdeps
        subst hb d1 d6
        obtain rfl : b9 = false := by cases hb9 : b9 with | false => rfl | true => exact absurd (HZ.out hb9) (by simp)
        try dsimp only
        refine wpOpIn_step rfl (fun K' hK => ?_)
        simp only [pk_true]
        go_simp
        exact hK _ _ ⟨b0, true, b2, b3, b4, b5, true, true, b8, false, rfl, rfl, HK.out, H8.out, fun h => (by cases h), fun h => by cases h⟩
      · have hb : b8 = false := hun
        cases ho
        have d0 : b0 = true := hdeps ⟨0, Ground.data⟩ (by simp) rfl
        have d7 : b7 = true := hdeps ⟨7, Ground.data⟩ (by simp) rfl
        have d4 : b4 = true := hdeps ⟨4, Ground.chain⟩ (by simp) rfl
        clear hun hdeps
        subst hb d0 d7 d4
        have hbx := fun h => H8.out h
        obtain rfl : b9 = false := by cases hb9 : b9 with | false => rfl | true => exact absurd (HZ.out hb9) (by simp)
        have hN := H8.out rfl
        have e0 := hN.b0.cell
        have e1 := hN.b1.cell
        have e2 := hN.b2.cell
        have e3 := hN.b3.cell
        have e3f := hN.b3.frozen
        clear hbx hN
        try dsimp only
        refine wpOpIn_step rfl (fun K' hK => ?_)
        simp only [pk_true]
        go_simp
        refine ⟨trivial, ?_⟩
        refine (CallsIn.inRound _ (callsIn_wide.2 (HRm.out _ e1))).mono ?_
        rintro e w2 ⟨rfl, q, rfl⟩
        exact hK _ _ ⟨true, b1, b2, b3, true, b5, b6, true, true, false, rfl, rfl, HK.out.trans (keeps_below (below_drewN (Below.refl _ _) q)), fun h => (H8.out h).next (below_drewN (Below.refl _ _) q), fun h => (by cases h), fun h => by cases h⟩
      · have hb : b9 = false := hun
        cases ho
        have d8 : b8 = true := hdeps ⟨8, Ground.data⟩ (by simp) rfl
        have d0 : b0 = true := hdeps ⟨0, Ground.phase⟩ (by simp) rfl
        have d1 : b1 = true := hdeps ⟨1, Ground.phase⟩ (by simp) rfl
        have d2 : b2 = true := hdeps ⟨2, Ground.phase⟩ (by simp) rfl
        have d3 : b3 = true := hdeps ⟨3, Ground.phase⟩ (by simp) rfl
        have d4 : b4 = true := hdeps ⟨4, Ground.phase⟩ (by simp) rfl
        have d5 : b5 = true := hdeps ⟨5, Ground.phase⟩ (by simp) rfl
        have d6 : b6 = true := hdeps ⟨6, Ground.phase⟩ (by simp) rfl
        have d7 : b7 = true := hdeps ⟨7, Ground.phase⟩ (by simp) rfl
        clear hun hdeps
        subst hb d8 d0 d1 d2 d3 d4 d5 d6 d7
        have hbx := fun h => H8.out h
        have hN := H8.out rfl
        have e0 := hN.b0.cell
        have e1 := hN.b1.cell
        have e2 := hN.b2.cell
        have e3 := hN.b3.cell
        have e3f := hN.b3.frozen
        clear hbx hN
        try dsimp only
        refine wpOpIn_step rfl (fun K' hK => ?_)
        simp only [pk_true]
        go_simp
        exact hK _ _ ⟨true, true, true, true, true, true, true, true, true, true, rfl, rfl, HK.out.trans (keeps_set _ (by omega)), fun h => (by cases h), fun _ => (H8.out rfl).set v2, fun _ => ⟨rfl, rfl, rfl, rfl, rfl, rfl, rfl, rfl, rfl⟩⟩
    case hdone =>
      rintro L a X ⟨b0, b1, b2, b3, b4, b5, b6, b7, b8, b9, rfl, rfl, hK, h8, h9, _⟩ hr
      have t0 : b0 = true := ready_nil hr (i := 0) (by simp) (by intro o ho; cases ho; intro e he hbd; replace he : e ∈ #[] := he; simp at he)
      subst t0
      have t1 : b1 = true := ready_nil hr (i := 1) (by simp) (by intro o ho; cases ho; intro e he hbd; replace he : e ∈ #[] := he; simp at he)
      subst t1
      have t2 : b2 = true := ready_nil hr (i := 2) (by simp) (by intro o ho; cases ho; intro e he hbd; replace he : e ∈ #[] := he; simp at he)
      subst t2
      have t3 : b3 = true := ready_nil hr (i := 3) (by simp) (by intro o ho; cases ho; intro e he hbd; replace he : e ∈ #[] := he; simp at he)
      subst t3
      have t4 : b4 = true := ready_nil hr (i := 4) (by simp) (by intro o ho; cases ho; intro e he hbd; replace he : e ∈ #[⟨2, Ground.data⟩, ⟨3, Ground.data⟩] := he; simp only [List.mem_toArray, List.mem_cons, List.not_mem_nil, or_false] at he; rcases he with rfl | rfl <;> rfl)
      subst t4
      have t5 : b5 = true := ready_nil hr (i := 5) (by simp) (by intro o ho; cases ho; intro e he hbd; replace he : e ∈ #[] := he; simp at he)
      subst t5
      have t6 : b6 = true := ready_nil hr (i := 6) (by simp) (by intro o ho; cases ho; intro e he hbd; replace he : e ∈ #[⟨4, Ground.data⟩, ⟨5, Ground.data⟩] := he; simp only [List.mem_toArray, List.mem_cons, List.not_mem_nil, or_false] at he; rcases he with rfl | rfl <;> rfl)
      subst t6
      have t7 : b7 = true := ready_nil hr (i := 7) (by simp) (by intro o ho; cases ho; intro e he hbd; replace he : e ∈ #[⟨1, Ground.data⟩, ⟨6, Ground.data⟩] := he; simp only [List.mem_toArray, List.mem_cons, List.not_mem_nil, or_false] at he; rcases he with rfl | rfl <;> rfl)
      subst t7
      have t8 : b8 = true := ready_nil hr (i := 8) (by simp) (by intro o ho; cases ho; intro e he hbd; replace he : e ∈ #[⟨0, Ground.data⟩, ⟨7, Ground.data⟩, ⟨4, Ground.chain⟩] := he; simp only [List.mem_toArray, List.mem_cons, List.not_mem_nil, or_false] at he; rcases he with rfl | rfl | rfl <;> rfl)
      subst t8
      have t9 : b9 = true := ready_nil hr (i := 9) (by simp) (by intro o ho; cases ho; intro e he hbd; replace he : e ∈ #[⟨8, Ground.data⟩, ⟨8, Ground.chain⟩, ⟨0, Ground.phase⟩, ⟨1, Ground.phase⟩, ⟨2, Ground.phase⟩, ⟨3, Ground.phase⟩, ⟨4, Ground.phase⟩, ⟨5, Ground.phase⟩, ⟨6, Ground.phase⟩, ⟨7, Ground.phase⟩, ⟨8, Ground.phase⟩] := he; simp only [List.mem_toArray, List.mem_cons, List.not_mem_nil, or_false] at he; rcases he with rfl | rfl | rfl | rfl | rfl | rfl | rfl | rfl | rfl | rfl | rfl <;> rfl)
      subst t9
      have HN9 := Lib.hid (h9 rfl)
      clear h8 h9
      gi_wp2
      unfold roundEnds
      refine ⟨hK, ?_⟩
      show NesI w m gF caps (nestW m f xs (pre ++ [x])) X
      rw [Hsn.out]
      exact HN9.out
  case done =>
    rintro D ys W hD rfl hI hK
    rw [nestW_all _ _ Hx.out] at hI
    have e3 := hI.b3.cell
    have HI := Lib.hid hI
    have HK := Lib.hid hK
    have hDl : w.heap.size + 1 + 1 + 1 + 1 ≤ D := by have := hD; simp at this; omega
    clear hI hK hD a3 HW4
    gi_wp2
    refine leaves_one (by simp) (n₀ := w.heap.size) (Φ := fun X => Below w.heap.size w X) ?_ ?_ D W (by omega) HK.out HI.out.below
    · intro X D2 hX h0 _
      exact hX.grown (grownBy_putObj' X D2 _) hX.size (fun q e => by cases e; omega)
    · intro X hX
      refine ⟨.int .i64 (nestV m f 0 xs), ?_, rfl, hX⟩
      simp [results, Try.f93, go_sem]
  case stop =>
    rintro D c pre W hD hpre h hK
    exact h.elim
end Go.Proofs.Ythmdlkaanjjbkaa
