/- slices.AppendSeq and slices.Collect over the keys of a set of fractions. -/
import Derived.Test.YtelipknnfagnjaaSetf
import Derived.Test.YtelipknnfagnjaaRow
import Derived.Test.YtelipknnfagnjaaSize
import Derived.Test.YtelipknnfagnjaaNext
namespace Go.Proofs.Ytelipknnfagnjaa
set_option linter.unusedVariables false
open Go.RowKit Go.Maps Go.Shelf
attribute [local go_sem] Oper.semAt_some

theorem ownsRow_bears {W W' : World} {row : Option Nat} {base : Nat} {e : TypeId} {size : Nat} {v : Value} {k : Nat} {xs : List Value} (h : W.ownsRow base e size v k xs) (hg : W.grownBy W' row)
    (hr : ∀ r, row = some r → ∃ o : Obj, W.heap[r]? = some o ∧ o.isCells = false) : W'.ownsRow base e size v k xs := by
  refine World.ownsRow.kept h hg ?_
  rcases h.2 with ⟨rfl, _⟩ | ⟨g, cap, cur, rfl, _, hc, _⟩
  · exact .inl rfl
  · refine .inr fun e => ?_
    obtain ⟨o, h1, h2⟩ := hr g (e.symm.trans (by simp [Value.ownBlock]))
    rw [hc] at h1; cases h1; cases h2
theorem boxed_bears {W W' : World} {row : Option Nat} {B : Nat} {t : TypeId} {v : Value} (h : Boxed W B t v) (hg : W.grownBy W' row) (hr : ∀ r, row = some r → ∃ o : Obj, W.heap[r]? = some o ∧ o.isCells = false) : Boxed W' B t v :=
  h.kept hg (fun e => by
    obtain ⟨o, h1, h2⟩ := hr B e.symm
    rw [show W.heap[B]? = _ from h] at h1; cases h1; cases h2)

/-- what AppendSeq has collected -/
def AppI (w : World) (pre : List (Nat × Nat)) (X : World) : Prop :=
  ∃ v, Boxed X w.heap.size 31 v ∧ X.ownsRow (w.heap.size + 1) 26 2 v pre.length (flatF pre) ∧ Below w.heap.size w X
theorem bears_appI {w : World} {B : Nat} (hB : w.heap.size < B) : BearsW B (AppI w) := by
  rintro s W W' row ⟨v, h1, h2, h3⟩ hg hr
  exact ⟨v, boxed_bears h1 hg (fun r e => (hr r e).2), ownsRow_bears h2 hg (fun r e => (hr r e).2), h3.grown hg h3.size (fun k e => by have := (hr k e).1; omega)⟩

theorem app_step {w W w9 : World} {v v' : Value} {pre : List (Nat × Nat)} {x : Nat × Nat} (Hb : Boxed W w.heap.size 31 v) (Hown : W.ownsRow (w.heap.size + 1) 26 2 v pre.length (flatF pre)) (HX : Below w.heap.size w W)
    (ho9 : w9.ownsRow (w.heap.size + 1) 26 2 v' (pre.length + 1) (flatF pre ++ [.int .i64 (x.1 : Nat), .int .i64 (x.2 : Nat)]))
    (hg9 : (W.alloc (.cells #[.int .i64 (x.1 : Nat), .int .i64 (x.2 : Nat)] 26)).grownBy w9 v.ownBlock) :
    KeepsN W (w9.setCell ⟨w.heap.size, 0, none⟩ v') ∧ AppI w (pre ++ [x]) (w9.setCell ⟨w.heap.size, 0, none⟩ v') := by
  have hnr := Boxed.not_row (Hb.alloc (.cells #[.int .i64 (x.1 : Nat), .int .i64 (x.2 : Nat)] 26)) (by decide) (Hown.alloc (.cells #[.int .i64 (x.1 : Nat), .int .i64 (x.2 : Nat)] 26))
  have hn9 := (Hb.alloc (.cells #[.int .i64 (x.1 : Nat), .int .i64 (x.2 : Nat)] 26)).kept hg9 hnr
  have hnr9 := Boxed.not_row hn9 (by decide) ho9
  have hk1 : KeepsN W w9 := by
    refine (KeepsN.of_grown (World.grownBy_alloc W (.cells #[.int .i64 (x.1 : Nat), .int .i64 (x.2 : Nat)] 26) none) (fun r e => by cases e)).trans (KeepsN.of_grown hg9 fun r e => ?_)
    rcases (Hown.alloc (.cells #[.int .i64 (x.1 : Nat), .int .i64 (x.2 : Nat)] 26)).2 with ⟨rfl, _⟩ | ⟨g, cap, cur, rfl, _, hc, _⟩
    · cases e
    · simp [Value.ownBlock] at e
      subst e
      exact ⟨_, hc, rfl⟩
  have hX9 : Below w.heap.size w w9 := (HX.alloc HX.size _).grown hg9 (by have := HX.size; simp; omega) (fun j e => by have := (Hown.lt j e).1; omega)
  refine ⟨hk1.trans (KeepsN.of_grown (grownBy_setCell' w9 w.heap.size v') (fun r e => by cases e; exact ⟨_, hn9, rfl⟩)), v', hn9.set v', ?_, hX9.setCell (p := ⟨w.heap.size, 0, none⟩) (Nat.le_refl _) v'⟩
  have := World.ownsRow.kept ho9 (grownBy_setCell' w9 w.heap.size v') (by cases h : v'.ownBlock with | none => exact .inl rfl | some g => exact .inr (by rw [h] at hnr9; exact fun e => hnr9 e.symm))
  rw [List.length_append, List.length_singleton, flatF_append]
  exact this

def stopP (p : Prop) : Prop := p
theorem stopL {p : Prop} (h : stopP p) : p := h
set_option maxRecDepth 100000 in
set_option maxHeartbeats 4000000 in
theorem appendSeq_in (n : Nat) (hn : 1 ≤ n) (gf : Nat) (lb : Array Value) (eg : ∀ args w, (callFunc gf args).run Try.prog w = .ok (.enter gf args) w) (S : List (Nat × Nat) → Prop) (NN : Nat) (hNN : NN ≤ 100000) (w : World)
    (hseq : ∀ W, (w.alloc (.cells #[.slice none 0 0] 31)).grownBy W none → VisitsW Fence.wide (n - 1) Try.prog gf lb (fun x : Nat × Nat => #[frV x]) S NN W) :
    CallsIn Fence.wide n Try.prog 80 #[.slice none 0 0, .func (.func gf) #[] lb] w fun e w' =>
      ∃ v xs, e = .returned v ∧ S xs ∧ w'.ownsRow (w.heap.size + 1) 26 2 v xs.length (flatF xs) ∧ Below w.heap.size w w' := by
  obtain ⟨i0, hi, hz0, hz1, hz2⟩ := info_parts info_frac
  refine callsIn_of_wp_marks Try.func80 rfl trivial ?_ rfl
  simp only [Try.ntmps80, List.size_toArray, List.length_cons, List.length_nil, Nat.reduceAdd, Nat.reduceSub, Array.replicate_succ, Array.replicate_zero, List.push_toArray, List.append_toArray, List.nil_append, List.cons_append]
  have hB0 := Boxed.new w 31 (.slice none 0 0)
  have hBl := below_alloc w (.cells #[.slice none 0 0] 31)
  gi_wp2
  refine range_visits_w (α := Nat × Nat) rfl (by omega) (gf := gf) (lb := lb) rfl trivial eg (encs := fun x : Nat × Nat => #[frV x]) (S := S) (N := NN) hseq (fun _ => rfl)
    (AppI w) (bears_appI (by simp)) ⟨_, hB0, World.ownsRow_nil _ _ _ _, hBl⟩
    (fun x => .cells #[.int .i64 (x.1 : Nat), .int .i64 (x.2 : Nat)] 26)
    (fun x B => { tmps := #[.slice none 0 0, .func (.func gf) #[] lb, .pointer (some ⟨w.heap.size, 0, none⟩), undef, .slice none 0 0, .pointer (some ⟨B, 0, none⟩), .func (.func gf) #[] lb, frV x, undef, undef, undef, undef, undef], defers := [] }) ?assign ?body ?done
  case assign =>
    intro l x W K hK
    unfold frV at hK ⊢
    gi_wp2
    exact hK
  case body =>
    rintro l pre x B W ⟨v, hb, hown, hX⟩ hbx hB2 hlen
    have hbt : Two W B 26 x.1 x.2 := hbx
    obtain ⟨t0, t1, _, _⟩ := hbt.cells
    have c0 := hb.cell
    have f0 := hb.frozen
    have hlb := hb.lt
    have hlt := hbt.lt
    have Hb := Lib.hid hb
    have HX := Lib.hid hX
    have Hown := Lib.hid hown
    have hB3 : w.heap.size + 1 ≤ B := by simpa using hB2
    clear hbx hbt hb hX hown hB0 hBl hB2
    unfold frV
    gi_wp2_with (first | (gi_at_builtin; refine stopL ?_) | gi_in)
    unfold stopP
    refine wpListIn_append_own_at _ rfl _ _ 31 rfl (w.heap.size + 1) 26 i0 (.agg #[.int .i64 0, .int .i64 0]) 2 16 Try.underlying31 hi hz0 hz1 hz2 rfl (by decide) _ _ _ rfl (Hown.out.alloc _) ⟨W.heap.size, 0, none⟩ 1 1 [.int .i64 (x.1 : Nat), .int .i64 (x.2 : Nat)] rfl rfl (cells_two_new _ _ _ _) (by simp [Value.oneCell']) (by unfold maxLen; omega) (by omega) (by simp; omega) ?_
    intro v' w9 hown' hgrow _ hblk
    have hnr := Boxed.not_row (Hb.out.alloc (.cells #[.int .i64 (x.1 : Nat), .int .i64 (x.2 : Nat)] 26)) (by decide) (Hown.out.alloc (.cells #[.int .i64 (x.1 : Nat), .int .i64 (x.2 : Nat)] 26))
    have hb9 := (Hb.out.alloc (.cells #[.int .i64 (x.1 : Nat), .int .i64 (x.2 : Nat)] 26)).kept hgrow hnr
    have c9 := hb9.cell
    have f9 := hb9.frozen
    have l9 := hb9.lt
    have HF := Lib.hid (app_step Hb.out Hown.out HX.out hown' hgrow)
    obtain ⟨av, cv, hv'⟩ : ∃ av cv, v' = .slice av (pre.length + 1) cv := by
      rcases hown'.2 with ⟨_, h⟩ | ⟨g', cap', cur, h, _⟩
      · omega
      · exact ⟨_, _, h⟩
    subst hv'
    clear hb9 hown' hgrow hblk hnr
    gi_wp2
    exact HF.out
  case done =>
    rintro D xs W hD hS ⟨v, hb, hown, hX⟩ hK
    have c0 := hb.cell
    have Hown := Lib.hid hown
    have HX := Lib.hid hX
    have HK := Lib.hid hK
    have HS := Lib.hid hS
    have hDl : w.heap.size + 1 ≤ D := by simpa using hD
    clear hown hX hK hS hB0 hBl hD hb
    gi_wp2
    refine leaves_one (by simp) (n₀ := w.heap.size + 1) (Φ := fun X => X.ownsRow (w.heap.size + 1) 26 2 v xs.length (flatF xs) ∧ Below w.heap.size w X) ?_ ?_ D W (by omega) HK.out ⟨Hown.out, HX.out⟩
    · rintro Y D' ⟨h1, h2⟩ hD' hk
      exact ⟨ownsRow_bears h1 (grownBy_putObj' Y D' _) (fun r e => by cases e; exact ⟨_, hk, rfl⟩), h2.grown (grownBy_putObj' Y D' _) h2.size (fun q e => by cases e; omega)⟩
    · rintro Y ⟨h1, h2⟩
      refine ⟨v, ?_, v, xs, rfl, HS.out, h1, h2⟩
      simp [results, Try.f80, go_sem]

set_option maxRecDepth 100000 in
theorem collect_in (n : Nat) (hn : 2 ≤ n) (gf : Nat) (lb : Array Value) (eg : ∀ args w, (callFunc gf args).run Try.prog w = .ok (.enter gf args) w) (S : List (Nat × Nat) → Prop) (NN : Nat) (hNN : NN ≤ 100000) (w : World)
    (hseq : ∀ W, (w.alloc (.cells #[.slice none 0 0] 31)).grownBy W none → VisitsW Fence.wide (n - 1 - 1) Try.prog gf lb (fun x : Nat × Nat => #[frV x]) S NN W) :
    CallsIn Fence.wide n Try.prog 74 #[.func (.func gf) #[] lb] w fun e w' =>
      ∃ v xs, e = .returned v ∧ S xs ∧ w'.ownsRow (w.heap.size + 1) 26 2 v xs.length (flatF xs) ∧ Below w.heap.size w w' := by
  have hA := appendSeq_in (n - 1) (by omega) gf lb eg S NN hNN w hseq
  refine callsIn_of_wp Try.func74 rfl trivial ?_ rfl
  simp only [Try.ntmps74, List.size_toArray, List.length_cons, List.length_nil, Nat.reduceAdd, Nat.reduceSub, Array.replicate_succ, Array.replicate_zero, List.push_toArray, List.append_toArray, List.nil_append, List.cons_append]
  gi_wp2_with (refine ⟨trivial, fun _ => by omega, ?_⟩; gi_at_call 80; refine hA.mono ?_; rintro e w' ⟨v, xs, rfl, hS, hown, hb⟩)
  go_ret
  exact ⟨_, xs, rfl, hS, hown, hb⟩

theorem keys_in (n b : Nat) (w : World) :
    CallsIn Fence.wide n Try.prog 64 #[.map (some b)] w fun e' w' => e' = .returned (.func (.func 76) #[] #[.pointer (some ⟨w.heap.size, 0, none⟩)]) ∧
      w' = w.alloc (.cells #[.map (some b)] 78) := by
  refine callsIn_of_wp Try.func64 rfl trivial ?_ rfl
  simp only [Try.ntmps64, List.size_toArray, List.length_cons, List.length_nil, Nat.reduceAdd, Nat.reduceSub, Array.replicate_succ, Array.replicate_zero, List.push_toArray, List.append_toArray, List.nil_append, List.cons_append]
  gi_wp2
  go_ret
  exact ⟨rfl, rfl⟩
end Go.Proofs.Ytelipknnfagnjaa
