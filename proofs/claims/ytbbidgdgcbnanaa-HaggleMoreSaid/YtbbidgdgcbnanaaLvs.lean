/- leaves: its iterator. -/
import Derived.Test.YtbbidgdgcbnanaaRea
import Derived.Test.YtbbidgdgcbnanaaKpa
namespace Go.Proofs.Ytbbidgdgcbnanaa
set_option linter.unusedVariables false
open Go.RowKit Go.Shelf
attribute [local go_sem] Oper.semAt_some

theorem leafF_snoc (lf : Nat → Bool) {n : Nat} (l : List (Fin n)) (x : Fin n) : leafF lf (l ++ [x]) = leafF lf l ++ if lf x.val then [x] else [] := by
  unfold leafF
  rw [List.filter_append, List.filter_cons, List.filter_nil]
theorem leafF_len (lf : Nat → Bool) {n : Nat} (l : List (Fin n)) : (leafF lf l).length ≤ l.length := List.length_filter_le _ _
theorem leafF_val (lf : Nat → Bool) {n : Nat} (l : List (Fin n)) : valF (leafF lf l) = (valF l).filter lf := by
  unfold leafF valF
  rw [List.filter_map]; rfl
theorem not_own {B1 b : Nat} {X Y : World} {row : Option Nat} (hB : B1 < X.heap.size) (hg : X.grownBy Y row) (hr : row ≠ some B1) (h : ¬ Own1 B1 X b) : ¬ Own1 B1 Y b := fun hy => h (hy.congr (by rw [hg.block B1 hB (fun e => hr e.symm)]))
set_option maxRecDepth 100000 in
set_option maxHeartbeats 4000000 in
theorem leaves_visits (nx : Nat → List Nat) (lf : Nat → Bool) (n : Nat) (hn0 : 0 < n) (hn : n ≤ 1000) (hnx : ∀ i c, i < n → c ∈ nx i → i < c ∧ c < n) (hnl : ∀ i, i < n → (nx i).length ≤ 1000) (nF : Nat) (lb : Array Value) (eg : ∀ args w, (callFunc nF args).run Try.prog w = .ok (.enter nF args) w)
    (Φ : World → Prop) (hN : Nexts nx n nF lb Φ) (tv dv : Value) (hLf : ∀ i X, i < n → Φ X → Calls Try.prog 56 #[.agg #[tv, dv], .int .i64 (i : Nat)] X fun e w' => e = .returned (.bool (lf i)) ∧ Below X.heap.size X w')
    (k : Nat) (hk : 1 ≤ k) (T B1 Gb Nb : Nat) (hBT : B1 < T) (W : World) (hTW : T ≤ W.heap.size) (hG : ∀ X, Φ X → X.cell? ⟨Gb, 0, none⟩ = some tv ∧ X.cell? ⟨Gb, 1, none⟩ = some dv) (hNb : ∀ X, Φ X → X.cell? ⟨Nb, 0, none⟩ = some (.func (.func nF) #[] lb)) :
    VisitsA Fence.wide k Try.prog 103 #[.pointer (some ⟨Nb, 0, none⟩), .pointer (some ⟨Gb, 0, none⟩)] (fun x : Fin n => #[.int .i64 (x.val : Nat)]) T B1 (fun ys => valF ys = (visN nx n 0).filter lf) (visN nx n 0).length Φ W := by
  intro l J hJ hΦ hRC hY h0
  have hj1 := hJ.new (.cells #[.func (.yield l) #[] #[]] 40) h0
  have hbx := Boxed.new W 40 (.func (.yield l) #[] #[])
  have hno : ¬ Own1 B1 (W.alloc (.cells #[.func (.yield l) #[] #[]] 40)) W.heap.size := fun ho => by
    have := (hRC _ _ h0).lt (ho.back (by omega) (World.grownBy_alloc W _ none))
    omega
  have hs1 : (W.alloc (.cells #[.func (.yield l) #[] #[]] 40)).heap.size = W.heap.size + 1 := by simp
  have hnb := hNb _ (hΦ _ _ hj1)
  refine callsIn_of_wp_marks Try.func103 rfl trivial ?_ rfl
  simp only [Try.ntmps103, List.size_toArray, List.length_cons, List.length_nil, Nat.reduceAdd, Nat.reduceSub, Array.replicate_succ, Array.replicate_zero, List.push_toArray, List.append_toArray, List.nil_append, List.cons_append]
  obtain ⟨b, hb⟩ : ∃ b, W.alloc (.cells #[.func (.yield l) #[] #[]] 40) = b := ⟨_, rfl⟩
  have Hj1 := Lib.hid hj1
  have Hbx := Lib.hid hbx
  have Hno := Lib.hid hno
  have Hs1 := Lib.hid hs1
  clear hj1 hbx hno hs1 h0 hb b
  gi_wp2_with fail
  refine ⟨trivial, ?_⟩
  refine (reached_in nF lb _ _).mono ?_
  rintro e w' ⟨rfl, rfl⟩
  gi_wp2_with fail
  generalize hW2 : (W.alloc (.cells #[.func (.yield l) #[] #[]] 40)).alloc (.cells #[.func (.func nF) #[] lb] 88) = W2
  have hg2 : (W.alloc (.cells #[.func (.yield l) #[] #[]] 40)).grownBy W2 none := by rw [← hW2]; exact World.grownBy_alloc _ _ none
  have hs2 : W2.heap.size = W.heap.size + 1 + 1 := by rw [← hW2]; simp
  have hBe : W2.cell? ⟨W.heap.size + 1, 0, none⟩ = some (.func (.func nF) #[] lb) := by
    have := Boxed.new (W.alloc (.cells #[.func (.yield l) #[] #[]] 40)) 88 (.func (.func nF) #[] lb)
    rw [Hs1.out] at this
    rw [← hW2]
    exact this.cell
  have HI0 : Hid (J (leafF lf []) W2 ∧ Boxed W2 W.heap.size 40 (.func (.yield l) #[] #[]) ∧ ¬ Own1 B1 W2 W.heap.size) :=
    ⟨hJ.toN _ _ _ Hj1.out hg2, Hbx.out.kept hg2 (by simp), not_own (by rw [Hs1.out]; omega) hg2 (by simp) Hno.out⟩
  clear hW2 Hj1 Hbx Hno hg2 hnb Hs1
  refine range_visits_R (α := Fin n) rfl hk (gf := 94) (lb := #[.pointer (some ⟨W.heap.size + 1, 0, none⟩)]) rfl trivial (enters_of Try.func94 (by kernel_rfl) rfl)
    (encs := fun x : Fin n => #[.int .i64 (x.val : Nat)]) (T := T) (B1 := B1) hBT (S := fun ys => valF ys = visN nx n 0) (Sp := fun pre => valF pre <+: visN nx n 0) (N := (visN nx n 0).length) (by omega) (Φ := Φ)
    (fun X hX => reached_visits nx n hn0 hn hnx hnl nF lb eg Φ hN _ T B1 (W.heap.size + 1) X ((World.cell?_of_block (a := ⟨W.heap.size + 1, 0, none⟩) (hX.block _ (by show W.heap.size + 1 < W2.heap.size; omega) (by simp))).trans hBe)) (fun _ => rfl)
    (fun pre X => J (leafF lf pre) X ∧ Boxed X W.heap.size 40 (.func (.yield l) #[] #[]) ∧ ¬ Own1 B1 X W.heap.size)
    (fun _ _ _ => False)
    (fun s A B row hs hg hr => ⟨hJ _ A B row hs.1 hg (fun r e => ⟨by have := (hr r e).1; omega, (hr r e).2⟩), boxed_bears hs.2.1 hg (fun r e => (hr r e).2), not_own (by have := hs.2.1.lt; omega) hg (fun e => by have := (hr _ e).1; omega) hs.2.2⟩)
    (fun _ _ _ _ _ h _ _ => h)
    (fun pre X h => hΦ _ _ h.1) (fun pre X h => hRC _ _ h.1) HI0.out
    (fun x => { tmps := #[.func (.yield l) #[] #[], .pointer (some ⟨Nb, 0, none⟩), .pointer (some ⟨Gb, 0, none⟩), .pointer (some ⟨W.heap.size, 0, none⟩), .int .i64 (x.val : Nat), .func (.func nF) #[] lb, .func (.func 94) #[] #[.pointer (some ⟨W.heap.size + 1, 0, none⟩)], .int .i64 (x.val : Nat), undef, undef, undef, undef, undef, undef, undef, undef, undef], defers := [] }) ?assign ?body ?done ?stop
  case assign =>
    intro l2 x X K hK
    gi_wp2
    exact hK
  case body =>
    rintro l2 pre x X ⟨hj, hbx, hno⟩ hlen
    obtain ⟨cg0, cg1⟩ := hG _ (hΦ _ _ hj)
    have hlf := hLf x.val X x.2 (hΦ _ _ hj)
    have hsn := leafF_snoc lf pre x
    have HLf := Lib.hid hlf
    have Hsn := Lib.hid hsn
    have Hj := Lib.hid hj
    have Hbx := Lib.hid hbx
    have Hno := Lib.hid hno
    have HYx := Lib.hid fun X hj' => hY (leafF lf pre) x X hj' (Nat.lt_of_le_of_lt (leafF_len lf pre) hlen)
    clear hlf hsn hj hbx hno hY HI0 hBe
    gi_wp2_with fail
    refine ⟨trivial, (fun h => by cases h), ?_⟩
    refine (CallsIn.inRound _ (callsIn_wide.2 HLf.out)).mono ?_
    rintro e X5 ⟨rfl, z⟩
    have hg5 : X.grownBy X5 none := ⟨z.os, z.tape, z.output, z.size, fun k hk _ => z.block k hk⟩
    have hj5 := hJ.toN _ _ _ Hj.out hg5
    have hb5 := Hbx.out.kept hg5 (by simp)
    have hn5 := not_own (by have := Hbx.out.lt; omega) hg5 (by simp) Hno.out
    have hk5 := KeepsR.of_grown (T := T) hBT hg5
    have Hj5 := Lib.hid hj5
    have Hb5 := Lib.hid hb5
    have Hn5 := Lib.hid hn5
    have Hk5 := Lib.hid hk5
    clear z hg5 hj5 hb5 hn5 hk5 cg0 cg1 HLf Hj Hbx Hno
    have cy := Hb5.out.cell
    obtain ⟨r, hr⟩ : ∃ r, lf x.val = r := ⟨_, rfl⟩
    rw [hr] at Hsn ⊢
    cases r with
    | true =>
      obtain ⟨fn, tmps, assign, body, hy, hR⟩ := HYx.out X5 Hj5.out
      have HR := Lib.hid hR
      clear hR HYx hr
      gi_wp2_with fail
      refine ⟨(fun h => by cases h), ?_⟩
      refine RoundIn.mono (RoundIn.anyDepth (F := Fence.wide.inRound l2) rfl HR.out) ?_
      rintro e X6 ⟨rfl, hj6, hk6⟩
      have he : leafF lf (pre ++ [x]) = leafF lf pre ++ [x] := by have := Hsn.out; simpa using this
      have hb6 : X6.heap[W.heap.size]? = some (.cells #[.func (.yield l) #[] #[]] 40 (0, 0)) ∧ ¬ Own1 B1 X6 W.heap.size := hk6.same _ _ hTW Hn5.out Hb5.out
      have Hk6 := Lib.hid (Hk5.out.trans hk6)
      have Hj6 := Lib.hid hj6
      have Hb6 := Lib.hid hb6
      have He := Lib.hid he
      clear hk6 hj6 hb6 he HR hy Hsn
      gi_wp2_with fail
      refine show KeepsR _ _ _ _ ∧ _ from ⟨Hk6.out, by rw [He.out]; exact Hj6.out, Hb6.out.1, Hb6.out.2⟩
    | false =>
      have he : leafF lf (pre ++ [x]) = leafF lf pre := by rw [Hsn.out]; simp
      have He := Lib.hid he
      clear he HYx hr cy
      gi_wp2_with fail
      refine ⟨fun f h => (by cases h), ?_⟩
      gi_wp2_with fail
      refine show KeepsR _ _ _ _ ∧ _ from ⟨Hk5.out, by rw [He.out]; exact Hj5.out, Hb5.out, Hn5.out⟩
  case stop =>
    rintro D c pre X hD hSp hF hDf
    exact hF.elim
  case done =>
    rintro D xs X hD hS ⟨hj, hb, hn⟩ hDf
    have HS : Hid (valF (leafF lf xs) = (visN nx n 0).filter lf) := by unfold Hid; rw [leafF_val, hS]
    have Hj := Lib.hid hj
    have HDf := Lib.hid hDf
    have hDl : W.heap.size ≤ D := by omega
    clear hj hDf hD hb hn hS HI0 hBe hY
    gi_wp2
    refine leaves_one (by simp) (n₀ := W.heap.size) (Φ := fun Y => J (leafF lf xs) Y) ?_ ?_ D X hDl HDf.out Hj.out
    · rintro Y D' h1 hD' hk
      exact hJ.put _ h1 hD' hk rfl
    · rintro Y h1
      refine ⟨.tuple #[], ?_, ⟨_, rfl⟩, _, HS.out, h1⟩
      simp [results, Try.f103, go_sem]
end Go.Proofs.Ytbbidgdgcbnanaa
