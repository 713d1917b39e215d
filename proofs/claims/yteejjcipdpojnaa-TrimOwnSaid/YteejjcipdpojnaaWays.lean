/- The number of lists of palindromes that are the word: the contract of trim.Ways. -/
import Derived.Test.YteejjcipdpojnaaLastp
import Derived.Test.YteejjcipdpojnaaLens
import Derived.RangeFuncFrom
namespace Go.Proofs.Yteejjcipdpojnaa
set_option linter.unusedVariables false
open Go.RowKit Go.Shelf
attribute [local go_sem] Oper.semAt_some

/-- the numbers of ways of all beginnings of at most k letters -/
def waysTo (l : List UInt8) : Nat → List Nat
  | 0 => [1]
  | k + 1 => waysTo l k ++ [((begs l (k + 1)).map fun x => (waysTo l k).getD x.1 0).sum]
def wayAt (l : List UInt8) (k : Nat) : Nat := (waysTo l k).getD k 0
theorem waysTo_length (l : List UInt8) : ∀ k, (waysTo l k).length = k + 1
  | 0 => rfl
  | k + 1 => by unfold waysTo; rw [List.length_append, waysTo_length l k]; rfl
theorem waysTo_get (l : List UInt8) (j : Nat) : ∀ f, (waysTo l (j + f)).getD j 0 = wayAt l j
  | 0 => rfl
  | f + 1 => by
    rw [← Nat.add_assoc, waysTo, ← waysTo_get l j f, List.getD_eq_getElem?_getD, List.getElem?_append_left (by rw [waysTo_length]; omega), List.getD_eq_getElem?_getD]
theorem waysTo_at (l : List UInt8) {j k : Nat} (h : j ≤ k) : (waysTo l k).getD j 0 = wayAt l j := by
  have := waysTo_get l j (k - j)
  rwa [show j + (k - j) = k from by omega] at this
/-- the sum of the ways before the beginnings -/
def sumWays {e : Nat} (l : List UInt8) (pre : List (Beg e)) : Nat := (pre.map fun x => wayAt l x.1).sum
theorem sumWays_snoc {e : Nat} (l : List UInt8) (pre : List (Beg e)) (x : Beg e) : sumWays l (pre ++ [x]) = sumWays l pre + wayAt l x.1 := by simp [sumWays]
theorem sumWays_prefix {e : Nat} (l : List UInt8) {pre xs : List (Beg e)} (h : pre <+: xs) : sumWays l pre ≤ sumWays l xs := by
  obtain ⟨t, rfl⟩ := h
  simp [sumWays]
theorem wayAt_succ (l : List UInt8) (k : Nat) : wayAt l (k + 1) = sumWays l (begs l (k + 1)) := by
  have h : wayAt l (k + 1) = ((begs l (k + 1)).map fun x => (waysTo l k).getD x.1 0).sum := by
    show (waysTo l k ++ [_]).getD (k + 1) 0 = _
    rw [List.getD_eq_getElem?_getD, List.getElem?_append_right (by rw [waysTo_length]; omega), waysTo_length, Nat.sub_self]; rfl
  rw [h]
  unfold sumWays
  congr 1
  refine List.map_congr_left fun x _ => ?_
  exact waysTo_at l (by have := x.2; omega)
theorem waysTo_succ (l : List UInt8) (k : Nat) : waysTo l (k + 1) = waysTo l k ++ [wayAt l (k + 1)] := by
  have h : waysTo l (k + 1) = waysTo l k ++ [((begs l (k + 1)).map fun x => (waysTo l k).getD x.1 0).sum] := rfl
  rw [h, wayAt_succ]
  unfold sumWays
  congr 3
  refine List.map_congr_left fun x _ => ?_
  exact waysTo_at l (by have := x.2; omega)
theorem begs_last (l : List UInt8) (k : Nat) (hk : k < l.length) : begs l (k + 1) = begTo l (k + 1) k ++ [⟨k, Nat.lt_succ_self k⟩] := by
  unfold begs
  refine begTo_yes (Nat.lt_succ_self k) ?_
  rw [List.take_succ_eq_append_getElem hk, List.drop_append_of_le_length (by simp; omega), List.drop_of_length_le (by simp; omega)]
  simp [pal]
theorem wayAt_mono (l : List UInt8) (k : Nat) (hk : k < l.length) : wayAt l k ≤ wayAt l (k + 1) := by
  rw [wayAt_succ, begs_last l k hk, sumWays_snoc]; exact Nat.le_add_left _ _
theorem wayAt_mono' (l : List UInt8) (k : Nat) : ∀ f, k + f ≤ l.length → wayAt l k ≤ wayAt l (k + f)
  | 0, _ => Nat.le_refl _
  | f + 1, h => Nat.le_trans (wayAt_mono' l k f (by omega)) (wayAt_mono l (k + f) (by omega))

/-- a block for deferred calls, as a range over a function leaves it -/
def markD (D : Nat) : Deferred := { target := .collected D, args := #[] }
/-- the blocks of the ranges that have ended lie open -/
def Marks (n₀ : Nat) (Ds : List Nat) (W : World) : Prop := Ds.Nodup ∧ ∀ D, D ∈ Ds → n₀ ≤ D ∧ W.heap[D]? = some (.deferred (some []))
theorem leaves_marks {F : Fence} {n : Nat} {P : Program} {fn : Func} {tmps : Array Value} {R : Ending → World → Prop} {u : FrameMode} (hu : u ≠ .run) {n₀ : Nat} {Φ : World → Prop}
    (hΦ : ∀ W D, Φ W → n₀ ≤ D → W.heap[D]? = some (.deferred (some [])) → Φ (W.putObj D (.deferred none))) (hend : ∀ W, Φ W → LeavesInM F n P fn tmps R [] u W) :
    ∀ Ds W, Marks n₀ Ds W → Φ W → LeavesInM F n P fn tmps R (Ds.map markD) u W
  | [], W, _, h => hend W h
  | D :: Ds, W, hM, h => by
    have hD := hM.2 D (by simp)
    refine ⟨hu, .inl ⟨D, _, rfl, run_takeDeferred hD.2, ?_⟩⟩
    refine leaves_marks hu hΦ hend Ds _ ⟨(List.nodup_cons.1 hM.1).2, fun D' h' => ⟨(hM.2 D' (by simp [h'])).1, ?_⟩⟩ (hΦ W D h hD.1 hD.2)
    rw [World.putObj_heap_other (by rintro rfl; exact (List.nodup_cons.1 hM.1).1 h')]
    exact (hM.2 D' (by simp [h'])).2
theorem Marks.push {n₀ : Nat} {Ds : List Nat} {W W' : World} (h : Marks n₀ Ds W) {D : Nat} (hD : W.heap.size ≤ D) (h0 : n₀ ≤ D) (hW : ∀ D, D ∈ Ds → W'.heap[D]? = some (.deferred (some []))) (hK : W'.heap[D]? = some (.deferred (some []))) : Marks n₀ (D :: Ds) W' := by
  refine ⟨List.nodup_cons.2 ⟨fun hm => ?_, h.1⟩, fun D' h' => ?_⟩
  · have := (Array.getElem?_eq_some_iff.1 (h.2 D hm).2).1; omega
  · rcases List.mem_cons.1 h' with rfl | h'
    · exact ⟨h0, hK⟩
    · exact ⟨(h.2 D' h').1, hW D' h'⟩

/-- Ways' two results -/
def waysR (s : ByteArray) : Nat × Int := if wordB s.data.toList then (if wayAt s.data.toList s.size ≤ 1152921504606846976 then (wayAt s.data.toList s.size, 0) else (0, 5)) else (0, 2)

/-- what holds at the head of Ways' loop; all its blocks lie below N -/
structure WSt (N : Nat) (w W : World) (l : List UInt8) (k g cap : Nat) (Ds : List Nat) : Prop where
  below : Below w.heap.size w W
  size : N ≤ W.heap.size
  nlt : w.heap.size + 1 + 1 + 1 < N
  glt : w.heap.size + 1 + 1 ≤ g ∧ g < N
  dlt : ∀ D, D ∈ Ds → D < N
  r0 : Boxed W w.heap.size 3 (.int .i64 0)
  r1 : Boxed W (w.heap.size + 1) 24 (.int .i64 0)
  bw : Boxed W (w.heap.size + 1 + 1 + 1) 27 (.slice (some ⟨g, 0, none⟩) (k + 1 : Nat) cap)
  row : W.ownsRow (w.heap.size + 1 + 1) 3 1 (.slice (some ⟨g, 0, none⟩) (k + 1 : Nat) cap) (k + 1) (nats (waysTo l k))
  marks : Marks w.heap.size Ds W
  few : ∀ j, j ≤ k → wayAt l j ≤ 1152921504606846976
theorem WSt.kept {N : Nat} {w W W' : World} {l : List UInt8} {k g cap : Nat} {Ds : List Nat} (h : WSt N w W l k g cap Ds) {row : Option Nat} (hg : W.grownBy W' row) (hr : ∀ r, row = some r → N ≤ r) : WSt N w W' l k g cap Ds := by
  have hne : ∀ q, q < N → some q ≠ row := fun q hq e => by have := hr q e.symm; omega
  have hn := h.nlt
  refine ⟨h.below.grown hg (by have := h.size; omega) (fun q e => by have := hr q e; omega), Nat.le_trans h.size hg.size, h.nlt, h.glt, h.dlt, h.r0.kept hg (hne _ (by omega)), h.r1.kept hg (hne _ (by omega)), h.bw.kept hg (hne _ (by omega)), h.row.kept hg (.inr (by show some g ≠ row; exact hne _ h.glt.2)), ⟨h.marks.1, fun D hD => ⟨(h.marks.2 D hD).1, ?_⟩⟩, h.few⟩
  rw [hg.block D (Array.getElem?_eq_some_iff.1 (h.marks.2 D hD).2).1 (hne _ (h.dlt D hD))]
  exact (h.marks.2 D hD).2

theorem drew_grown {W : World} {row : Option Nat} : W.grownBy W.drew row := ⟨rfl, rfl, rfl, Nat.le_refl _, fun _ _ _ => rfl⟩
theorem waysTo_nat (l : List UInt8) {j k : Nat} (h : j ≤ k) : (nats (waysTo l k))[j]? = some (.int .i64 (wayAt l j)) := by
  have h1 := waysTo_at l h
  have h2 : j < (waysTo l k).length := by rw [waysTo_length]; omega
  rw [List.getD_eq_getElem?_getD, List.getElem?_eq_getElem h2] at h1
  simp only [nats, List.getElem?_map, List.getElem?_eq_getElem h2, Option.map_some]
  simp only [Option.getD_some] at h1
  rw [h1]

/-- the function's leaving: the marks are taken, then the two cells are the results -/
theorem leaves_ways {w : World} {n : Nat} {tmps : Array Value} {u : FrameMode} {v0 v1 : Int} {R : Ending → World → Prop} (hu : u = .returning) (h2 : tmps[2]? = some (.pointer (some ⟨w.heap.size, 0, none⟩))) (h3 : tmps[3]? = some (.pointer (some ⟨w.heap.size + 1, 0, none⟩)))
    (Ds : List Nat) (X : World) (hM : Marks w.heap.size Ds X) (hX : Boxed X w.heap.size 3 (.int .i64 v0) ∧ Boxed X (w.heap.size + 1) 24 (.int .i64 v1) ∧ Below w.heap.size w X)
    (hR : ∀ Y, Below w.heap.size w Y → R (.returned (.tuple #[.int .i64 v0, .int .i64 v1])) Y) :
    LeavesInM Fence.wide n Try.prog Try.f34 tmps R (Ds.map markD) u X := by
  subst hu
  refine leaves_marks (by simp) (n₀ := w.heap.size) (Φ := fun X => Boxed X w.heap.size 3 (.int .i64 v0) ∧ Boxed X (w.heap.size + 1) 24 (.int .i64 v1) ∧ Below w.heap.size w X) ?_ ?_ Ds X hM hX
  · intro Y D h hD hk
    have ne : ∀ B t v, Boxed Y B t v → some B ≠ some D := fun B t v hb e => by
      have hb' : Y.heap[B]? = _ := hb
      rw [Option.some.inj e, hk] at hb'; cases hb'
    exact ⟨h.1.kept (grownBy_putObj' Y D _) (ne _ _ _ h.1), h.2.1.kept (grownBy_putObj' Y D _) (ne _ _ _ h.2.1), h.2.2.grown (grownBy_putObj' Y D _) h.2.2.size (fun q e => by cases e; exact hD)⟩
  · intro Y h
    refine ⟨.tuple #[.int .i64 v0, .int .i64 v1], ?_, hR Y h.2.2⟩
    simp [results, Try.f34, go_sem, h.1.cell, h.2.1.cell, h2, h3]

set_option maxRecDepth 100000 in
set_option maxHeartbeats 4000000 in
theorem Ways_any (s : ByteArray) (w : World) (hs : s.size ≤ 1000) :
    Calls Try.prog 34 #[.string s] w fun e w' => e = .returned (.tuple #[.int .i64 (waysR s).1, .int .i64 (waysR s).2]) ∧ Below w.heap.size w w' := by
  refine (callsIn_wide (n := 6)).1 ?_
  cases hw : wordB s.data.toList with
  | false =>
    have hr : waysR s = (0, 2) := by unfold waysR; rw [hw]; rfl
    have Hr := Lib.hid hr
    have Hw := Lib.hid hw
    clear hr hw
    refine callsIn_of_wp_marks Try.func34 rfl trivial ?_ rfl
    simp only [Try.ntmps34, List.size_toArray, List.length_cons, List.length_nil, Nat.reduceAdd, Nat.reduceSub, Array.replicate_succ, Array.replicate_zero, List.push_toArray, List.append_toArray, List.nil_append, List.cons_append]
    gi_wp2_with (refine ⟨trivial, ?_⟩; gi_at_call 54; refine (callsIn_wide.2 (isWord_any _ _ (by unfold maxLen; omega))).mono ?_; rintro e w' ⟨rfl, rfl⟩; rw [Hw.out])
    have b0 := ((Boxed.new w 3 (.int .i64 0)).alloc (.cells #[.int .i64 2] 24)).cell
    have b1 := (Boxed.new (w.alloc (.cells #[.int .i64 0] 3)) 24 (.int .i64 2)).cell
    rw [World.size_alloc] at b1
    refine ⟨.tuple #[.int .i64 0, .int .i64 2], ?_, ?_, ?_⟩
    · simp [results, Try.f34, go_sem, b0, b1]
    · rw [Hr.out]; rfl
    · exact ((Below.refl _ w).alloc (Nat.le_refl _) _).alloc (by simp) _
  | true =>
    have Hw := Lib.hid hw
    clear hw
    refine callsIn_of_wp_marks Try.func34 rfl trivial ?_ rfl
    simp only [Try.ntmps34, List.size_toArray, List.length_cons, List.length_nil, Nat.reduceAdd, Nat.reduceSub, Array.replicate_succ, Array.replicate_zero, List.push_toArray, List.append_toArray, List.nil_append, List.cons_append]
    gi_wp2_with (refine ⟨trivial, ?_⟩; gi_at_call 54; refine (callsIn_wide.2 (isWord_any _ _ (by unfold maxLen; omega))).mono ?_; rintro e w' ⟨rfl, rfl⟩; rw [Hw.out])
    refine wpIn_loop (fun a' W => ∃ u5 u6 u7 u14 u15 u16 u17 u18 u19 u20 u21 u22 u23 u24 u25 u26 u27 u28 u29 u30 u31 u32 u33 u34 : Value, ∃ ds : List Deferred, (∃ (k g cap : Nat) (Ds : List Nat), k ≤ s.size ∧ u14 = .int .i64 k ∧ ds = Ds.map markD ∧ WSt W.heap.size w W s.data.toList k g cap Ds) ∧ a' = { tmps := #[.string s, undef, .pointer (some ⟨w.heap.size, 0, none⟩), .pointer (some ⟨w.heap.size + 1, 0, none⟩), .pointer (some ⟨w.heap.size + 1 + 1 + 1, 0, none⟩), u5, u6, u7, .string s, .bool true, .bool false, .slice (some ⟨w.heap.size + 1 + 1, 0, none⟩) 1 1, .string s, .int .i64 s.size, u14, u15, u16, u17, u18, u19, u20, u21, u22, u23, u24, u25, u26, u27, u28, u29, u30, u31, u32, u33, u34, undef, undef, undef, undef, undef], defers := ds }) (fun a' _ => s.size - (intOf (a'.tmps.getD 14 undef)).toNat) ?_ ?_
    · (repeat apply Exists.intro)
      refine ⟨?_, rfl⟩
      refine ⟨0, w.heap.size + 1 + 1, 1, [], Nat.zero_le _, rfl, rfl, ?_⟩
      have hB := ((((Below.refl _ w).alloc (Nat.le_refl _) (.cells #[.int .i64 0] 3)).alloc (by simp) (.cells #[.int .i64 0] 24)).alloc (by simp; omega) (.cells #[.int .i64 1] 3)).alloc (by simp; omega) (.cells #[.slice (some ⟨w.heap.size + 1 + 1, 0, none⟩) 1 1] 27)
      have b0 := (((Boxed.new w 3 (.int .i64 0)).alloc (.cells #[.int .i64 0] 24)).alloc (.cells #[.int .i64 1] 3)).alloc (.cells #[.slice (some ⟨w.heap.size + 1 + 1, 0, none⟩) 1 1] 27)
      have b1 := ((Boxed.new (w.alloc (.cells #[.int .i64 0] 3)) 24 (.int .i64 0)).alloc (.cells #[.int .i64 1] 3)).alloc (.cells #[.slice (some ⟨w.heap.size + 1 + 1, 0, none⟩) 1 1] 27)
      have b3 := Boxed.new (((w.alloc (.cells #[.int .i64 0] 3)).alloc (.cells #[.int .i64 0] 24)).alloc (.cells #[.int .i64 1] 3)) 27 (.slice (some ⟨w.heap.size + 1 + 1, 0, none⟩) 1 1)
      have hr := (World.ownsRow_lit (base := w.heap.size + 1 + 1) (e := 3) (size := 1) ((w.alloc (.cells #[.int .i64 0] 3)).alloc (.cells #[.int .i64 0] 24)) #[.int .i64 1] 1 (by simp) (by unfold maxLen; omega) rfl).alloc (.cells #[.slice (some ⟨w.heap.size + 1 + 1, 0, none⟩) 1 1] 27)
      simp only [World.size_alloc] at b1 b3 hr
      exact ⟨hB, Nat.le_refl _, by simp, ⟨by omega, by simp⟩, fun _ h => (by cases h), b0, b1, b3, hr, ⟨List.nodup_nil, fun _ h => (by cases h)⟩, fun j hj => by rw [show j = 0 from by omega]; show (1 : Nat) ≤ 1152921504606846976; decide⟩
    · intro _ W hinv
      obtain ⟨u5, u6, u7, u14, u15, u16, u17, u18, u19, u20, u21, u22, u23, u24, u25, u26, u27, u28, u29, u30, u31, u32, u33, u34, ds, ⟨k, g, cap, Ds, hk, rfl, rfl, hS⟩, rfl⟩ := hinv
      dsimp only
      by_cases hlt : k < s.size
      · have hc : (k : Int) < s.size := by omega
        gi_wp2_with (refine ⟨trivial, ?_⟩; gi_at_call 64; refine (lastParts_in _ s (k + 1) _).mono ?_; rintro e w' ⟨rfl, rfl⟩)
        have bt := ((Boxed.new W 3 (.int .i64 0)).alloc (.cells #[.string s] 9)).alloc (.cells #[.int .i64 ((k : Int) + 1)] 3)
        have bw := (Boxed.new (W.alloc (.cells #[.int .i64 0] 3)) 9 (.string s)).alloc (.cells #[.int .i64 ((k : Int) + 1)] 3)
        have be := Boxed.new ((W.alloc (.cells #[.int .i64 0] 3)).alloc (.cells #[.string s] 9)) 3 (.int .i64 ((k : Int) + 1))
        simp only [World.size_alloc] at bw be
        have hS3 := ((hS.kept (World.grownBy_alloc W (.cells #[.int .i64 0] 3) none) (fun _ e => by cases e)).kept (World.grownBy_alloc _ (.cells #[.string s] 9) none) (fun _ e => by cases e)).kept (World.grownBy_alloc _ (.cells #[.int .i64 ((k : Int) + 1)] 3) none) (fun _ e => by cases e)
        have hdlt := hS.dlt
        have hnlt := hS.nlt
        have hglt := hS.glt
        refine wpIn_rangeFunc_ownF rfl (by omega) (gf := 79) (lb := #[.pointer (some ⟨W.heap.size + 1 + 1, 0, none⟩), .pointer (some ⟨W.heap.size + 1, 0, none⟩)]) rfl trivial (enters_of Try.func79 (by kernel_rfl) rfl)
          (last_stops (6 - 1) (by omega) s hs (k + 1) hlt (W.heap.size + 1 + 1) (W.heap.size + 1) _ (by simp) (by simp <;> omega) be.cell bw.cell) (fun h k => kept2_t h k) (kept2_b (by simp) (by simp <;> omega)) (Below.refl _ _) (fun _ => rfl)
          (fun pre X => (Boxed X W.heap.size 3 (.int .i64 (sumWays s.data.toList pre : Nat)) ∧ sumWays s.data.toList pre ≤ 1152921504606846976) ∧ WSt W.heap.size w X s.data.toList k g cap Ds)
          (fun c pre X => (c = .ret ∧ 1152921504606846976 < sumWays s.data.toList pre) ∧ Boxed X w.heap.size 3 (.int .i64 0) ∧ Boxed X (w.heap.size + 1) 24 (.int .i64 5) ∧ Below w.heap.size w X ∧ Marks w.heap.size Ds X)
          ?hI ?hIx ⟨⟨bt, by simp [sumWays]⟩, hS3⟩
          (fun x => { tmps := #[.string s, undef, .pointer (some ⟨w.heap.size, 0, none⟩), .pointer (some ⟨w.heap.size + 1, 0, none⟩), .pointer (some ⟨w.heap.size + 1 + 1 + 1, 0, none⟩), .int .i64 k, .pointer (some ⟨W.heap.size, 0, none⟩), .int .i64 x.1, .string s, .bool true, .bool false, .slice (some ⟨w.heap.size + 1 + 1, 0, none⟩) 1 1, .string s, .int .i64 s.size, .int .i64 k, .bool true, .int .i64 k, .string s, .int .i64 k, .int .i64 ((k : Int) + 1), .func (.func 79) #[] #[.pointer (some ⟨W.heap.size + 1 + 1, 0, none⟩), .pointer (some ⟨W.heap.size + 1, 0, none⟩)], .int .i64 x.1, u22, u23, u24, u25, u26, u27, u28, u29, u30, u31, u32, u33, u34, undef, undef, undef, undef, undef], defers := [] }) ?assign ?body ?done ?stop
        case hI =>
          exact fun pre X Y row h hg hr => ⟨⟨h.1.1.kept hg (fun e => by have := (hr _ e.symm).1; simp at this; omega), h.1.2⟩, h.2.kept hg (fun r e => by have := (hr r e).1; simp at this; omega)⟩
        case hIx =>
          exact fun c pre X Y row h hg hr => ⟨h.1, h.2.1.kept hg (fun e => by have := (hr _ e.symm).1; simp at this; omega), h.2.2.1.kept hg (fun e => by have := (hr _ e.symm).1; simp at this; omega),
            h.2.2.2.1.grown hg h.2.2.2.1.size (fun q e => by have := (hr _ e).1; simp at this; omega), h.2.2.2.2.1, fun D hD => ⟨(h.2.2.2.2.2 D hD).1, (hg.block D (Array.getElem?_eq_some_iff.1 (h.2.2.2.2.2 D hD).2).1 (fun e => by have h1 := (hr _ e.symm).1; have := hdlt D hD; simp at h1; omega)).trans (h.2.2.2.2.2 D hD).2⟩⟩
        case assign =>
          intro l' x X K hK
          gi_wp2
          exact hK
        case body =>
          rintro l' pre x X ⟨⟨hb, hle⟩, hX⟩ _
          have c4 := hX.bw.cell
          have cb := hb.cell
          have fb := hb.frozen
          have cx : X.cell? ⟨g, x.1, none⟩ = some (.int .i64 (wayAt s.data.toList x.1)) := by
            rw [hX.row.cellAt x.1 (by have := x.2; omega)]; exact waysTo_nat _ (by have := x.2; omega)
          have hx : (x.1 : Int) < ((k + 1 : Nat) : Int) := by have := x.2; omega
          have hfew := hX.few x.1 (by have := x.2; omega)
          have c0 := hX.r0.cell
          have c1 := hX.r1.cell
          have f0 := hX.r0.frozen
          have f1 := hX.r1.frozen
          have hadd : IntKind.i64.wrap ((sumWays s.data.toList pre : Int) + wayAt s.data.toList x.1) = ((sumWays s.data.toList (pre ++ [x]) : Nat) : Int) := by
            rw [IntWalk.i64_in _ (by omega), sumWays_snoc]; omega
          obtain ⟨t, ht⟩ : ∃ t, sumWays s.data.toList (pre ++ [x]) = t := ⟨_, rfl⟩
          rw [ht] at hadd
          have Ht := Lib.hid ht
          clear ht
          dsimp only
          have hmx : Try.prog.follows .mixedOrders = true := by kernel_rfl
          have hne1 : W.heap.size + 1 + 1 ≠ W.heap.size := by omega
          have hne2 : W.heap.size + 1 ≠ W.heap.size := by omega
          have hX2 := (hX.kept (grownBy_setCell' X W.heap.size (.int .i64 t)) (fun r e => by cases e; exact Nat.le_refl _)).kept (drew_grown (row := none)) (fun r e => by cases e)
          have hb2 : Boxed (X.setCell ⟨W.heap.size, 0, none⟩ (.int .i64 t)).drew W.heap.size 3 (.int .i64 t) := (hb.set (.int .i64 t)).kept (drew_grown (row := none)) (by simp)
          have hko : KeepsOthers X (X.setCell ⟨W.heap.size, 0, none⟩ (.int .i64 t)).drew := (KeepsOthers.setCell _ _ _).trans (KeepsOthers.drew _)
          by_cases hgt : 1152921504606846976 < t
          · have hgz : (1152921504606846976 : Int) < t := by omega
            have g3 := hX.kept (grownBy_setCell' X W.heap.size (.int .i64 t)) (fun r e => by cases e; exact Nat.le_refl _)
            have q0 := ((g3.r0.set (.int .i64 0)).other (B' := w.heap.size + 1) (by omega) (.int .i64 5)).kept (drew_grown (row := none)) (by simp)
            have q1 := ((g3.r1.other (B' := w.heap.size) (by omega) (.int .i64 0)).set (.int .i64 5)).kept (drew_grown (row := none)) (by simp)
            have qk := (((KeepsOthers.setCell X ⟨W.heap.size, 0, none⟩ (.int .i64 t)).trans (KeepsOthers.setCell _ ⟨w.heap.size, 0, none⟩ (.int .i64 0))).trans (KeepsOthers.setCell _ ⟨w.heap.size + 1, 0, none⟩ (.int .i64 5))).trans (KeepsOthers.drew _)
            have qb := ((g3.below.setCell (p := ⟨w.heap.size, 0, none⟩) (Nat.le_refl _) (.int .i64 0)).setCell (p := ⟨w.heap.size + 1, 0, none⟩) (by simp) (.int .i64 5)).drew
            gi_wp2
            gi_region_with_o (fail)
            all_goals gi_wp2
            all_goals exact ⟨qk, ⟨rfl, by rw [Ht.out]; exact hgt⟩, q0, q1, qb, hX.marks.1, fun D hD => ⟨(hX.marks.2 D hD).1, qk.same D _ (hX.marks.2 D hD).2 rfl⟩⟩
          · have hgz : ¬ (1152921504606846976 : Int) < t := by omega
            gi_wp2
            gi_region_with_o (fail)
            all_goals gi_wp2
            all_goals exact ⟨hko, ⟨Below.heap_setCell _ _ _ _ hne1, Below.heap_setCell _ _ _ _ hne2⟩, ⟨by rw [Ht.out]; exact hb2, by rw [Ht.out]; omega⟩, hX2⟩
        case done =>
          rintro D ys X hD rfl ⟨⟨hb, hle⟩, hX⟩ hK
          have hsum := wayAt_succ s.data.toList k
          rw [← hsum] at hb hle
          have c4 := hX.bw.cell
          have cb := hb.cell
          have hXs := hX.size
          simp only [World.size_alloc] at hD
          obtain ⟨t, ht⟩ : ∃ t, wayAt s.data.toList (k + 1) = t := ⟨_, rfl⟩
          rw [ht] at hb hle cb
          have Ht := Lib.hid ht
          have hkt : k + 1 + 1 ≤ 1001 := by omega
          clear ht hsum
          obtain ⟨i0, hi, hz0, hz1, hz2⟩ := info_parts info_int
          gi_wp2_with (gi_at_builtin; refine wpListIn_append_own _ rfl _ _ 27 rfl (w.heap.size + 1 + 1) 3 i0 (.int .i64 0) 1 8 Try.underlying27 hi hz0 hz1 hz2 rfl (by decide) _ _ _ rfl (hX.row.alloc _) ⟨X.heap.size, 0, none⟩ 1 1 [.int .i64 t] rfl rfl (cell_one_new _ _ _) (by simp [Value.oneCell']) (by unfold maxLen; omega) (by omega) (by simp; omega) ?_; intro v' w1 hown' hgrow _; obtain ⟨g', cap', rfl⟩ := ownsRow_succ hown'; obtain ⟨hv1, hv2, hr2, hk2, hb2⟩ := hX.bw.appended (by decide) hX.row (by omega) (by omega) hown' hgrow; have hc1 := hv1.cell; have hf1 := hv1.frozen)
          have hbb := hb2.mono (B' := w.heap.size) (by omega)
          have hlt1 := (hr2.lt g' rfl)
          have hsz2 := hb2.size
          have hmk : ∀ D', D' ∈ D :: Ds → (w1.setCell ⟨w.heap.size + 1 + 1 + 1, 0, none⟩ (.slice (some ⟨g', 0, none⟩) (k + 1 + 1 : Nat) cap')).heap[D']? = some (.deferred (some [])) := by
            intro D' h'
            rcases List.mem_cons.1 h' with rfl | h'
            · exact hk2.same _ _ hK rfl
            · exact hk2.same _ _ (hX.marks.2 D' h').2 rfl
          have hM2 : Marks w.heap.size (D :: Ds) (w1.setCell ⟨w.heap.size + 1 + 1 + 1, 0, none⟩ (.slice (some ⟨g', 0, none⟩) (k + 1 + 1 : Nat) cap')) :=
            hS.marks.push (by omega) (by omega) (fun D' h' => hmk D' (by simp [h'])) (hmk D (by simp))
          have hS' : WSt (w1.setCell ⟨w.heap.size + 1 + 1 + 1, 0, none⟩ (.slice (some ⟨g', 0, none⟩) (k + 1 + 1 : Nat) cap')).heap.size w (w1.setCell ⟨w.heap.size + 1 + 1 + 1, 0, none⟩ (.slice (some ⟨g', 0, none⟩) (k + 1 + 1 : Nat) cap')) s.data.toList (k + 1) g' cap' (D :: Ds) := by
            refine ⟨hX.below.trans hbb, Nat.le_refl _, by omega, hlt1, fun D' h' => (Array.getElem?_eq_some_iff.1 (hmk D' h')).1, (hb2.block _ (by omega)).trans hX.r0, (hb2.block _ (by omega)).trans hX.r1, hv2, ?_, hM2, ?_⟩
            · rw [waysTo_succ, Ht.out]; unfold nats; rw [List.map_append]; exact hr2
            · intro j hj
              by_cases e : j = k + 1
              · rw [e, Ht.out]; exact hle
              · exact hX.few j (by omega)
          refine ⟨?_, ?_⟩
          · (repeat apply Exists.intro)
            exact ⟨⟨k + 1, g', cap', D :: Ds, by omega, by go_num, rfl, hS'⟩, rfl⟩
          · simp [intOf]; omega
        case stop =>
          rintro D c pre X hD hpre ⟨⟨rfl, hgt⟩, h0, h1, hB, hM⟩ hK
          have hsum := wayAt_succ s.data.toList k
          have hp := sumWays_prefix s.data.toList hpre
          have hmono := wayAt_mono' s.data.toList (k + 1) (s.size - (k + 1)) (by rw [data_length]; omega)
          rw [show k + 1 + (s.size - (k + 1)) = s.size from by omega] at hmono
          have hr : waysR s = (0, 5) := by unfold waysR; rw [Hw.out, if_pos rfl, if_neg (by omega)]
          have Hr := Lib.hid hr
          clear hr hsum hp hmono
          simp only [World.size_alloc] at hD
          gi_wp2
          exact leaves_ways rfl rfl rfl (D :: Ds) X (hS.marks.push (by omega) (by omega) (fun D' h' => (hM.2 D' h').2) hK) ⟨h0, h1, hB⟩ (fun Y hY => ⟨by rw [Hr.out]; rfl, hY⟩)
      · have hks : k = s.size := by omega
        have hc : ¬ (k : Int) < s.size := by omega
        have c0 := hS.r0.cell
        have c1 := hS.r1.cell
        have f0 := hS.r0.frozen
        have f1 := hS.r1.frozen
        have c3 := hS.bw.cell
        have c4 := (hS.row.cellAt s.size (by omega)).trans (waysTo_nat s.data.toList (k := k) (by omega))
        have hcz : (s.size : Int) < ((k + 1 : Nat) : Int) := by omega
        have hr : waysR s = (wayAt s.data.toList s.size, 0) := by unfold waysR; rw [Hw.out, if_pos rfl, if_pos (hS.few s.size (by omega))]
        have Hr := Lib.hid hr
        have Hks := Lib.hid hks
        clear hr hks
        obtain ⟨t, ht⟩ : ∃ t, wayAt s.data.toList s.size = t := ⟨_, rfl⟩
        rw [ht] at c4
        have Ht := Lib.hid ht
        clear ht
        have q0 := ((hS.r0.set (.int .i64 t)).other (B' := w.heap.size + 1) (by omega) (.int .i64 0))
        have q1 := ((hS.r1.other (B' := w.heap.size) (by omega) (.int .i64 t)).set (.int .i64 0))
        have qk := (KeepsOthers.setCell W ⟨w.heap.size, 0, none⟩ (.int .i64 t)).trans (KeepsOthers.setCell _ ⟨w.heap.size + 1, 0, none⟩ (.int .i64 0))
        have qb := ((hS.below.setCell (p := ⟨w.heap.size, 0, none⟩) (Nat.le_refl _) (.int .i64 t)).setCell (p := ⟨w.heap.size + 1, 0, none⟩) (by simp) (.int .i64 0))
        gi_wp2
        exact leaves_ways rfl rfl rfl Ds _ ⟨hS.marks.1, fun D hD => ⟨(hS.marks.2 D hD).1, qk.same D _ (hS.marks.2 D hD).2 rfl⟩⟩ ⟨q0, q1, qb⟩ (fun Y hY => ⟨by rw [Hr.out, Ht.out], hY⟩)
end Go.Proofs.Yteejjcipdpojnaa
