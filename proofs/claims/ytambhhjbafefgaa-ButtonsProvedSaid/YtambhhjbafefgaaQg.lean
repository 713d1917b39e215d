/- Texts of buttons, joined: Ths, Idx, Ridx, Idxm, Wix, Cnt, Thi, Srt, Itm, Itp, Ritm. -/
import Derived.Test.YtambhhjbafefgaaQd
import Derived.Test.YtambhhjbafefgaaQf
import Derived.Maps.OwnIn
import Derived.Test.YtambhhjbafefgaaQc
import Derived.Test.YtambhhjbafefgaaQe
import Derived.Test.YtambhhjbafefgaaShelfc
import Derived.Sort.OwnSortedInts
import Derived.Deep.OwnRows
/- those: the assignments that a function wants. -/
namespace Go.Proofs.Ytambhhjbafefgaa
set_option linter.unusedVariables false
open Go.RowKit Go.Shelf Go.Maps
attribute [local go_sem] Oper.semAt_some

theorem asgW_len {C : List (List Int)} (hn : C.length ≤ 7) : (asgW C).length ≤ 823543 := by
  have h1 := congrArg List.length (asgW_rows hn)
  rw [List.length_map] at h1
  have h2 := allL_len C.length hn C.length
  have h3 : (7 : Nat) ^ C.length ≤ 7 ^ 7 := Nat.pow_le_pow_right (by decide) hn
  omega
theorem wants_snoc {C : List (List Int)} (Pr : Way → Bool) (l : List (OkW C)) (x : OkW C) : (valW (l ++ [x])).filter Pr = (valW l).filter Pr ++ if Pr x.1 then [x.1] else [] := by
  rw [valW_snoc, List.filter_append, List.filter_cons, List.filter_nil]
def stopP (p : Prop) : Prop := p
theorem stopL {p : Prop} (h : stopP p) : p := h

set_option maxRecDepth 100000 in
set_option maxHeartbeats 4000000 in
theorem those_Within (C : List (List Int)) (a : Option Addr) (cap q : Nat) (Pr : Way → Bool) (w : World) (h : Tbl w a C) (hcC : costsB C = true)
    (hF : ∀ (x : Way) (W : World), Below w.heap.size w W → Calls Try.prog 67 #[wayV x, .pointer (some ⟨q, 0, none⟩)] W fun e W' => e = .returned (.bool (Pr x)) ∧ Below W.heap.size W W') :
    Calls Try.prog 64 #[.slice a C.length cap, .func (.func 67) #[] #[.pointer (some ⟨q, 0, none⟩)]] w fun e w' => ∃ v, e = .returned v ∧
      w'.ownsRow w.heap.size 70 8 v ((asgW C).filter Pr).length (waysC ((asgW C).filter Pr)) ∧ Below w.heap.size w w' := by
  refine (callsIn_wide (n := 6)).1 ?_
  obtain ⟨i0, hi, hz0, hz1, hz2⟩ := info_parts info_wayF
  obtain ⟨hR, hp⟩ := Rect.of_costs hcC
  have hn7 := hR.n7
  have hAL := asgW_len hn7
  obtain ⟨g, ra, rc, rfl, hFt⟩ := TblF.of h hp
  have HF := Lib.hid hF
  have HR := Lib.hid hR
  have HFw := Lib.hid hFt
  clear h hF hFt hcC
  refine callsIn_of_wp_marks Try.func64 rfl trivial ?_ rfl
  simp only [Try.ntmps64, List.size_toArray, List.length_cons, List.length_nil, Nat.reduceAdd, Nat.reduceSub, Array.replicate_succ, Array.replicate_zero, List.push_toArray, List.append_toArray, List.nil_append, List.cons_append]
  gi_wp2_with fail
  refine ⟨trivial, ?_⟩
  refine (assignments_in _ _ _ _ _).mono ?_
  rintro e w' ⟨rfl, rfl⟩
  gi_wp2_with fail
  generalize hW3 : (((w.alloc (.cells #[.func (.func 67) #[] #[.pointer (some ⟨q, 0, none⟩)]] 87)).alloc (.cells #[.slice none 0 0] 85)).alloc (.cells #[.slice (some ⟨g, 0, none⟩) C.length cap] 22)) = W3
  have hsz : W3.heap.size = w.heap.size + 3 := by rw [← hW3]; simp
  have hBe : W3.cell? ⟨w.heap.size + 1 + 1, 0, none⟩ = some (.slice (some ⟨g, 0, none⟩) C.length cap) := by
    rw [← hW3, World.cell?_alloc_at _ _ _ _ (by simp only [World.size_alloc])]; rfl
  have hI0 : LstI w (w.heap.size + 1) (w.heap.size + 2) 85 70 8 (fun l : List (OkW C) => ((valW l).filter Pr).length) (fun l => waysC ((valW l).filter Pr)) [] W3 ∧ Boxed W3 w.heap.size 87 (.func (.func 67) #[] #[.pointer (some ⟨q, 0, none⟩)]) := by
    rw [← hW3]
    refine ⟨⟨.slice none 0 0, ?_, World.ownsRow_nil _ _ _ _, b_next (b_next (below_alloc _ _) (below_alloc _ _)) (below_alloc _ _)⟩, ((Boxed.new w _ _).alloc _).alloc _⟩
    have h := Boxed.new (w.alloc (.cells #[.func (.func 67) #[] #[.pointer (some ⟨q, 0, none⟩)]] 87)) 85 (.slice none 0 0)
    rw [World.size_alloc] at h
    exact h.alloc _
  have HF0 : Hid (∀ X, Below w.heap.size w X → TblF X g ra rc C) := fun X h => HFw.out.below h
  clear hW3 HFw
  refine range_visits_boxR (α := OkW C) rfl (by omega) (gf := 96) (lb := #[.pointer (some ⟨w.heap.size + 1 + 1, 0, none⟩)]) rfl trivial (enters_of Try.func96 (by kernel_rfl) rfl)
    (encs := fun x : OkW C => #[wayV x.1]) (T := w.heap.size + 3) (B1 := w.heap.size + 1) (by omega) (S := fun ys => valW ys = asgW C) (Sp := fun pre => valW pre <+: asgW C) (N := (asgW C).length) (by omega)
    (fun W hW => asg_visitsR C g cap ra rc HR.out _ (w.heap.size + 1 + 1) (w.heap.size + 3) (w.heap.size + 1) (by omega) W (by have := hW.size; omega) ((World.cell?_of_block (a := ⟨w.heap.size + 1 + 1, 0, none⟩) (hW.block _ (by show w.heap.size + 1 + 1 < W3.heap.size; omega) (by simp))).trans hBe)) (fun _ => rfl)
    (fun pre X => LstI w (w.heap.size + 1) (w.heap.size + 2) 85 70 8 (fun l : List (OkW C) => ((valW l).filter Pr).length) (fun l => waysC ((valW l).filter Pr)) pre X ∧ Boxed X w.heap.size 87 (.func (.func 67) #[] #[.pointer (some ⟨q, 0, none⟩)]))
    (fun _ _ _ => False) (fun s A B row hs hg hr => ⟨bears_lst (by omega) s A B row hs.1 hg hr, boxed_bears hs.2 hg (fun r e => (hr r e).2)⟩) (fun _ _ _ _ _ h _ _ => h)
    (fun pre X h => HF0.out X (by obtain ⟨⟨v, _, _, hx⟩, _⟩ := h; exact hx)) (fun pre X h => h.1.cells) hI0
    (fun x => .cells (wayA x.1) 70)
    (fun x B => { tmps := #[.slice (some ⟨g, 0, none⟩) C.length cap, .func (.func 67) #[] #[.pointer (some ⟨q, 0, none⟩)], undef, .pointer (some ⟨w.heap.size, 0, none⟩), .slice none 0 0, .pointer (some ⟨w.heap.size + 1, 0, none⟩), .pointer (some ⟨B, 0, none⟩), .slice (some ⟨g, 0, none⟩) C.length cap, .func (.func 96) #[] #[.pointer (some ⟨w.heap.size + 1 + 1, 0, none⟩)], wayV x.1, undef, undef, undef, undef, undef, undef, undef, undef], defers := [] }) ?assign ?body ?done ?stop
  case assign =>
    intro l x W K hK
    unfold wayV at hK ⊢
    unfold wayA at hK
    gi_wp2
    exact hK
  case body =>
    rintro l pre x B W ⟨⟨v, hb, hown, hX⟩, hf⟩ hbx hB2 hlen
    obtain ⟨x, hx⟩ := x
    simp only at hbx
    obtain ⟨a0, a1, a2, a3, a4, a5, a6, a7⟩ := at8_lit hbx
    have c0 := hf.cell
    have hcl := HF.out x W hX
    have hws := wants_snoc Pr pre ⟨x, hx⟩
    simp only at hws
    have hlp : ((valW pre).filter Pr).length ≤ 823543 := by
      have h1 := List.length_filter_le Pr (valW pre)
      have h2 : (valW pre).length = pre.length := by simp [valW]
      omega
    obtain ⟨k, hk⟩ : ∃ k, ((valW pre).filter Pr).length = k := ⟨_, rfl⟩
    simp only [hk] at hown
    rw [hk] at hlp
    have HCl := Lib.hid hcl
    have Hb := Lib.hid hb
    have Hown := Lib.hid hown
    have HX := Lib.hid hX
    have Hf := Lib.hid hf
    have Hbx := Lib.hid hbx
    have Hws := Lib.hid hws
    have Hk := Lib.hid hk
    have hWs : B < W.heap.size := (Array.getElem?_eq_some_iff.1 hbx).1
    unfold wayV at HCl
    clear hcl hb hown hX hf hbx hws hk hI0 hBe
    unfold wayV
    gi_wp2_with fail
    refine ⟨trivial, ?_⟩
    refine (CallsIn.inRound _ (callsIn_wide.2 HCl.out)).mono ?_
    rintro e w5 ⟨rfl, z⟩
    have hg5 := gr_of z none
    have hb5 := Hb.out.kept hg5 (by simp)
    have d0 := hb5.cell
    have hbx5 := (z.block _ hWs).trans Hbx.out
    obtain ⟨a0, a1, a2, a3, a4, a5, a6, a7⟩ := at8_lit hbx5
    have Hg5 := Lib.hid hg5
    have Hb5 := Lib.hid hb5
    clear hg5 hb5 hbx5 z
    obtain ⟨p, hp'⟩ : ∃ p, Pr x = p := ⟨_, rfl⟩
    rw [hp']
    cases p with
    | true =>
      have hws := Hws.out
      rw [hp', if_pos rfl] at hws
      have HWS := Lib.hid hws
      clear hws hp'
      have hdef : wayA x = #[.int .i64 x.a, .int .i64 x.b, .int .i64 x.c, .int .i64 x.d, .int .i64 x.e, .int .i64 x.f, .int .i64 x.g, .int .i64 x.t] := rfl
      have hw := way_new w5 x 70
      rw [hdef] at hw
      have HW := Lib.hid hw
      have Hown5 := Lib.hid ((Hown.out.kept Hg5.out (by cases v.ownBlock <;> simp)).alloc (.cells #[.int .i64 x.a, .int .i64 x.b, .int .i64 x.c, .int .i64 x.d, .int .i64 x.e, .int .i64 x.f, .int .i64 x.g, .int .i64 x.t] 70))
      have hs5 := Hg5.out.size
      have hX5 := HX.out.size
      clear hw hdef
      gi_wp2_with (first | (gi_at_builtin; refine stopL ?_) | gi_in)
      unfold stopP
      refine wpListIn_append_own_at _ rfl _ _ 85 rfl (w.heap.size + 2) 70 i0 (.agg #[.int .i64 0, .int .i64 0, .int .i64 0, .int .i64 0, .int .i64 0, .int .i64 0, .int .i64 0, .int .i64 0]) 8 64 Try.underlying85 hi hz0 hz1 hz2 rfl (by decide) _ _ _ rfl Hown5.out ⟨w5.heap.size, 0, none⟩ 1 1 (wayC x) rfl rfl HW.out (wayC_one x) (by unfold maxLen; omega) (by omega) (by simp; omega) ?_
      intro v' w9 hown' hgrow _ hblk
      have hg8 : W.grownBy (w5.alloc (.cells #[.int .i64 x.a, .int .i64 x.b, .int .i64 x.c, .int .i64 x.d, .int .i64 x.e, .int .i64 x.f, .int .i64 x.g, .int .i64 x.t] 70)) none := Hg5.out.trans (World.grownBy_alloc _ _ none)
      have hb9 := (Hb5.out.alloc (.cells #[.int .i64 x.a, .int .i64 x.b, .int .i64 x.c, .int .i64 x.d, .int .i64 x.e, .int .i64 x.f, .int .i64 x.g, .int .i64 x.t] 70)).kept hgrow (Boxed.not_row (Hb5.out.alloc _) (by decide) Hown5.out)
      have c9 := hb9.cell
      have f9 := hb9.frozen
      have l9 := hb9.lt
      have hst := lst_step (s := pre) (s' := pre ++ [⟨x, hx⟩]) (T := w.heap.size + 3) (ln := fun l : List (OkW C) => ((valW l).filter Pr).length) (cs := fun l => waysC ((valW l).filter Pr)) (by omega) (by decide) (by omega) (by omega) Hb.out Hown.out HX.out hg8 hown' hgrow hblk (by rw [HWS.out, List.length_append, Hk.out]; rfl) (by rw [HWS.out, waysC_snoc])
      have hff := (((Hf.out.kept Hg5.out (by simp)).alloc (.cells #[.int .i64 x.a, .int .i64 x.b, .int .i64 x.c, .int .i64 x.d, .int .i64 x.e, .int .i64 x.f, .int .i64 x.g, .int .i64 x.t] 70)).kept hgrow (Boxed.not_row ((Hf.out.kept Hg5.out (by simp)).alloc _) (by decide) Hown5.out)).other (B' := w.heap.size + 1) (by omega) v'
      have HST := Lib.hid hst
      have HFF := Lib.hid hff
      obtain ⟨av, cv, hv'⟩ : ∃ av cv, v' = .slice av (k + 1) cv := by
        rcases hown'.2 with ⟨_, h⟩ | ⟨g', cap', cur, h, _⟩
        · omega
        · exact ⟨_, _, h⟩
      subst hv'
      clear hb9 hown' hgrow hblk hst hff hg8
      gi_wp2
      exact ⟨HST.out.1, HST.out.2, HFF.out⟩
    | false =>
      have hws := Hws.out
      rw [hp', if_neg (by simp), List.append_nil] at hws
      have HWS := Lib.hid hws
      clear hws hp'
      gi_wp2_with fail
      refine show KeepsR _ _ _ _ ∧ _ from ?_
      refine ⟨KeepsR.of_grown (by omega) Hg5.out, lst_same (s := pre) (s' := pre ++ [⟨x, hx⟩]) ⟨v, Hb.out, by rw [Hk.out]; exact Hown.out, HX.out⟩ Hg5.out (by rw [HWS.out]) (by rw [HWS.out]), Hf.out.kept Hg5.out (by simp)⟩
  case stop =>
    rintro D c pre X hD hSp hF hDf
    exact hF.elim
  case done =>
    rintro D xs X hD hS ⟨⟨v, hb, hown, hX⟩, hf⟩ hDf
    have c0 := hb.cell
    simp only [hS] at hown
    have Hown := Lib.hid hown
    have HX := Lib.hid hX
    have HDf := Lib.hid hDf
    have hDl : w.heap.size + 2 ≤ D := by omega
    clear hown hX hDf hD hb hf hI0 hBe hS
    gi_wp2
    refine leaves_one (by simp) (n₀ := w.heap.size) (Φ := fun Y => Y.ownsRow w.heap.size 70 8 v ((asgW C).filter Pr).length (waysC ((asgW C).filter Pr)) ∧ Below w.heap.size w Y) ?_ ?_ D X (by omega) HDf.out ⟨own_base Hown.out (by omega), HX.out⟩
    · rintro Y D' ⟨h1, h2⟩ hD' hk
      exact ⟨own_kept h1 hk, h2.grown (grownBy_putObj' Y D' _) h2.size (fun q e => by cases e; omega)⟩
    · rintro Y ⟨h1, h2⟩
      refine ⟨v, ?_, v, rfl, h1, h2⟩
      simp [results, Try.f64, go_sem]
set_option maxRecDepth 100000 in
set_option maxHeartbeats 4000000 in
theorem those_Index (C : List (List Int)) (a : Option Addr) (cap q : Nat) (Pr : Way → Bool) (w : World) (h : Tbl w a C) (hcC : costsB C = true)
    (hF : ∀ (x : Way) (W : World), Below w.heap.size w W → Calls Try.prog 68 #[wayV x, .pointer (some ⟨q, 0, none⟩)] W fun e W' => e = .returned (.bool (Pr x)) ∧ Below W.heap.size W W') :
    Calls Try.prog 64 #[.slice a C.length cap, .func (.func 68) #[] #[.pointer (some ⟨q, 0, none⟩)]] w fun e w' => ∃ v, e = .returned v ∧
      w'.ownsRow w.heap.size 70 8 v ((asgW C).filter Pr).length (waysC ((asgW C).filter Pr)) ∧ Below w.heap.size w w' := by
  refine (callsIn_wide (n := 6)).1 ?_
  obtain ⟨i0, hi, hz0, hz1, hz2⟩ := info_parts info_wayF
  obtain ⟨hR, hp⟩ := Rect.of_costs hcC
  have hn7 := hR.n7
  have hAL := asgW_len hn7
  obtain ⟨g, ra, rc, rfl, hFt⟩ := TblF.of h hp
  have HF := Lib.hid hF
  have HR := Lib.hid hR
  have HFw := Lib.hid hFt
  clear h hF hFt hcC
  refine callsIn_of_wp_marks Try.func64 rfl trivial ?_ rfl
  simp only [Try.ntmps64, List.size_toArray, List.length_cons, List.length_nil, Nat.reduceAdd, Nat.reduceSub, Array.replicate_succ, Array.replicate_zero, List.push_toArray, List.append_toArray, List.nil_append, List.cons_append]
  gi_wp2_with fail
  refine ⟨trivial, ?_⟩
  refine (assignments_in _ _ _ _ _).mono ?_
  rintro e w' ⟨rfl, rfl⟩
  gi_wp2_with fail
  generalize hW3 : (((w.alloc (.cells #[.func (.func 68) #[] #[.pointer (some ⟨q, 0, none⟩)]] 87)).alloc (.cells #[.slice none 0 0] 85)).alloc (.cells #[.slice (some ⟨g, 0, none⟩) C.length cap] 22)) = W3
  have hsz : W3.heap.size = w.heap.size + 3 := by rw [← hW3]; simp
  have hBe : W3.cell? ⟨w.heap.size + 1 + 1, 0, none⟩ = some (.slice (some ⟨g, 0, none⟩) C.length cap) := by
    rw [← hW3, World.cell?_alloc_at _ _ _ _ (by simp only [World.size_alloc])]; rfl
  have hI0 : LstI w (w.heap.size + 1) (w.heap.size + 2) 85 70 8 (fun l : List (OkW C) => ((valW l).filter Pr).length) (fun l => waysC ((valW l).filter Pr)) [] W3 ∧ Boxed W3 w.heap.size 87 (.func (.func 68) #[] #[.pointer (some ⟨q, 0, none⟩)]) := by
    rw [← hW3]
    refine ⟨⟨.slice none 0 0, ?_, World.ownsRow_nil _ _ _ _, b_next (b_next (below_alloc _ _) (below_alloc _ _)) (below_alloc _ _)⟩, ((Boxed.new w _ _).alloc _).alloc _⟩
    have h := Boxed.new (w.alloc (.cells #[.func (.func 68) #[] #[.pointer (some ⟨q, 0, none⟩)]] 87)) 85 (.slice none 0 0)
    rw [World.size_alloc] at h
    exact h.alloc _
  have HF0 : Hid (∀ X, Below w.heap.size w X → TblF X g ra rc C) := fun X h => HFw.out.below h
  clear hW3 HFw
  refine range_visits_boxR (α := OkW C) rfl (by omega) (gf := 96) (lb := #[.pointer (some ⟨w.heap.size + 1 + 1, 0, none⟩)]) rfl trivial (enters_of Try.func96 (by kernel_rfl) rfl)
    (encs := fun x : OkW C => #[wayV x.1]) (T := w.heap.size + 3) (B1 := w.heap.size + 1) (by omega) (S := fun ys => valW ys = asgW C) (Sp := fun pre => valW pre <+: asgW C) (N := (asgW C).length) (by omega)
    (fun W hW => asg_visitsR C g cap ra rc HR.out _ (w.heap.size + 1 + 1) (w.heap.size + 3) (w.heap.size + 1) (by omega) W (by have := hW.size; omega) ((World.cell?_of_block (a := ⟨w.heap.size + 1 + 1, 0, none⟩) (hW.block _ (by show w.heap.size + 1 + 1 < W3.heap.size; omega) (by simp))).trans hBe)) (fun _ => rfl)
    (fun pre X => LstI w (w.heap.size + 1) (w.heap.size + 2) 85 70 8 (fun l : List (OkW C) => ((valW l).filter Pr).length) (fun l => waysC ((valW l).filter Pr)) pre X ∧ Boxed X w.heap.size 87 (.func (.func 68) #[] #[.pointer (some ⟨q, 0, none⟩)]))
    (fun _ _ _ => False) (fun s A B row hs hg hr => ⟨bears_lst (by omega) s A B row hs.1 hg hr, boxed_bears hs.2 hg (fun r e => (hr r e).2)⟩) (fun _ _ _ _ _ h _ _ => h)
    (fun pre X h => HF0.out X (by obtain ⟨⟨v, _, _, hx⟩, _⟩ := h; exact hx)) (fun pre X h => h.1.cells) hI0
    (fun x => .cells (wayA x.1) 70)
    (fun x B => { tmps := #[.slice (some ⟨g, 0, none⟩) C.length cap, .func (.func 68) #[] #[.pointer (some ⟨q, 0, none⟩)], undef, .pointer (some ⟨w.heap.size, 0, none⟩), .slice none 0 0, .pointer (some ⟨w.heap.size + 1, 0, none⟩), .pointer (some ⟨B, 0, none⟩), .slice (some ⟨g, 0, none⟩) C.length cap, .func (.func 96) #[] #[.pointer (some ⟨w.heap.size + 1 + 1, 0, none⟩)], wayV x.1, undef, undef, undef, undef, undef, undef, undef, undef], defers := [] }) ?assign ?body ?done ?stop
  case assign =>
    intro l x W K hK
    unfold wayV at hK ⊢
    unfold wayA at hK
    gi_wp2
    exact hK
  case body =>
    rintro l pre x B W ⟨⟨v, hb, hown, hX⟩, hf⟩ hbx hB2 hlen
    obtain ⟨x, hx⟩ := x
    simp only at hbx
    obtain ⟨a0, a1, a2, a3, a4, a5, a6, a7⟩ := at8_lit hbx
    have c0 := hf.cell
    have hcl := HF.out x W hX
    have hws := wants_snoc Pr pre ⟨x, hx⟩
    simp only at hws
    have hlp : ((valW pre).filter Pr).length ≤ 823543 := by
      have h1 := List.length_filter_le Pr (valW pre)
      have h2 : (valW pre).length = pre.length := by simp [valW]
      omega
    obtain ⟨k, hk⟩ : ∃ k, ((valW pre).filter Pr).length = k := ⟨_, rfl⟩
    simp only [hk] at hown
    rw [hk] at hlp
    have HCl := Lib.hid hcl
    have Hb := Lib.hid hb
    have Hown := Lib.hid hown
    have HX := Lib.hid hX
    have Hf := Lib.hid hf
    have Hbx := Lib.hid hbx
    have Hws := Lib.hid hws
    have Hk := Lib.hid hk
    have hWs : B < W.heap.size := (Array.getElem?_eq_some_iff.1 hbx).1
    unfold wayV at HCl
    clear hcl hb hown hX hf hbx hws hk hI0 hBe
    unfold wayV
    gi_wp2_with fail
    refine ⟨trivial, ?_⟩
    refine (CallsIn.inRound _ (callsIn_wide.2 HCl.out)).mono ?_
    rintro e w5 ⟨rfl, z⟩
    have hg5 := gr_of z none
    have hb5 := Hb.out.kept hg5 (by simp)
    have d0 := hb5.cell
    have hbx5 := (z.block _ hWs).trans Hbx.out
    obtain ⟨a0, a1, a2, a3, a4, a5, a6, a7⟩ := at8_lit hbx5
    have Hg5 := Lib.hid hg5
    have Hb5 := Lib.hid hb5
    clear hg5 hb5 hbx5 z
    obtain ⟨p, hp'⟩ : ∃ p, Pr x = p := ⟨_, rfl⟩
    rw [hp']
    cases p with
    | true =>
      have hws := Hws.out
      rw [hp', if_pos rfl] at hws
      have HWS := Lib.hid hws
      clear hws hp'
      have hdef : wayA x = #[.int .i64 x.a, .int .i64 x.b, .int .i64 x.c, .int .i64 x.d, .int .i64 x.e, .int .i64 x.f, .int .i64 x.g, .int .i64 x.t] := rfl
      have hw := way_new w5 x 70
      rw [hdef] at hw
      have HW := Lib.hid hw
      have Hown5 := Lib.hid ((Hown.out.kept Hg5.out (by cases v.ownBlock <;> simp)).alloc (.cells #[.int .i64 x.a, .int .i64 x.b, .int .i64 x.c, .int .i64 x.d, .int .i64 x.e, .int .i64 x.f, .int .i64 x.g, .int .i64 x.t] 70))
      have hs5 := Hg5.out.size
      have hX5 := HX.out.size
      clear hw hdef
      gi_wp2_with (first | (gi_at_builtin; refine stopL ?_) | gi_in)
      unfold stopP
      refine wpListIn_append_own_at _ rfl _ _ 85 rfl (w.heap.size + 2) 70 i0 (.agg #[.int .i64 0, .int .i64 0, .int .i64 0, .int .i64 0, .int .i64 0, .int .i64 0, .int .i64 0, .int .i64 0]) 8 64 Try.underlying85 hi hz0 hz1 hz2 rfl (by decide) _ _ _ rfl Hown5.out ⟨w5.heap.size, 0, none⟩ 1 1 (wayC x) rfl rfl HW.out (wayC_one x) (by unfold maxLen; omega) (by omega) (by simp; omega) ?_
      intro v' w9 hown' hgrow _ hblk
      have hg8 : W.grownBy (w5.alloc (.cells #[.int .i64 x.a, .int .i64 x.b, .int .i64 x.c, .int .i64 x.d, .int .i64 x.e, .int .i64 x.f, .int .i64 x.g, .int .i64 x.t] 70)) none := Hg5.out.trans (World.grownBy_alloc _ _ none)
      have hb9 := (Hb5.out.alloc (.cells #[.int .i64 x.a, .int .i64 x.b, .int .i64 x.c, .int .i64 x.d, .int .i64 x.e, .int .i64 x.f, .int .i64 x.g, .int .i64 x.t] 70)).kept hgrow (Boxed.not_row (Hb5.out.alloc _) (by decide) Hown5.out)
      have c9 := hb9.cell
      have f9 := hb9.frozen
      have l9 := hb9.lt
      have hst := lst_step (s := pre) (s' := pre ++ [⟨x, hx⟩]) (T := w.heap.size + 3) (ln := fun l : List (OkW C) => ((valW l).filter Pr).length) (cs := fun l => waysC ((valW l).filter Pr)) (by omega) (by decide) (by omega) (by omega) Hb.out Hown.out HX.out hg8 hown' hgrow hblk (by rw [HWS.out, List.length_append, Hk.out]; rfl) (by rw [HWS.out, waysC_snoc])
      have hff := (((Hf.out.kept Hg5.out (by simp)).alloc (.cells #[.int .i64 x.a, .int .i64 x.b, .int .i64 x.c, .int .i64 x.d, .int .i64 x.e, .int .i64 x.f, .int .i64 x.g, .int .i64 x.t] 70)).kept hgrow (Boxed.not_row ((Hf.out.kept Hg5.out (by simp)).alloc _) (by decide) Hown5.out)).other (B' := w.heap.size + 1) (by omega) v'
      have HST := Lib.hid hst
      have HFF := Lib.hid hff
      obtain ⟨av, cv, hv'⟩ : ∃ av cv, v' = .slice av (k + 1) cv := by
        rcases hown'.2 with ⟨_, h⟩ | ⟨g', cap', cur, h, _⟩
        · omega
        · exact ⟨_, _, h⟩
      subst hv'
      clear hb9 hown' hgrow hblk hst hff hg8
      gi_wp2
      exact ⟨HST.out.1, HST.out.2, HFF.out⟩
    | false =>
      have hws := Hws.out
      rw [hp', if_neg (by simp), List.append_nil] at hws
      have HWS := Lib.hid hws
      clear hws hp'
      gi_wp2_with fail
      refine show KeepsR _ _ _ _ ∧ _ from ?_
      refine ⟨KeepsR.of_grown (by omega) Hg5.out, lst_same (s := pre) (s' := pre ++ [⟨x, hx⟩]) ⟨v, Hb.out, by rw [Hk.out]; exact Hown.out, HX.out⟩ Hg5.out (by rw [HWS.out]) (by rw [HWS.out]), Hf.out.kept Hg5.out (by simp)⟩
  case stop =>
    rintro D c pre X hD hSp hF hDf
    exact hF.elim
  case done =>
    rintro D xs X hD hS ⟨⟨v, hb, hown, hX⟩, hf⟩ hDf
    have c0 := hb.cell
    simp only [hS] at hown
    have Hown := Lib.hid hown
    have HX := Lib.hid hX
    have HDf := Lib.hid hDf
    have hDl : w.heap.size + 2 ≤ D := by omega
    clear hown hX hDf hD hb hf hI0 hBe hS
    gi_wp2
    refine leaves_one (by simp) (n₀ := w.heap.size) (Φ := fun Y => Y.ownsRow w.heap.size 70 8 v ((asgW C).filter Pr).length (waysC ((asgW C).filter Pr)) ∧ Below w.heap.size w Y) ?_ ?_ D X (by omega) HDf.out ⟨own_base Hown.out (by omega), HX.out⟩
    · rintro Y D' ⟨h1, h2⟩ hD' hk
      exact ⟨own_kept h1 hk, h2.grown (grownBy_putObj' Y D' _) h2.size (fun q e => by cases e; omega)⟩
    · rintro Y ⟨h1, h2⟩
      refine ⟨v, ?_, v, rfl, h1, h2⟩
      simp [results, Try.f64, go_sem]
end Go.Proofs.Ytambhhjbafefgaa

/- Index and Within. -/
namespace Go.Proofs.Ytambhhjbafefgaa
set_option linter.unusedVariables false
open Go.RowKit

set_option maxRecDepth 100000 in
set_option maxHeartbeats 4000000 in
theorem within1_any (x : Way) (q : Nat) (m : Int) (w : World) (hq : w.cell? ⟨q, 0, none⟩ = some (.int .i64 m)) :
    Calls Try.prog 67 #[wayV x, .pointer (some ⟨q, 0, none⟩)] w fun e w' => e = .returned (.bool (decide (x.t ≤ m))) ∧ Below w.heap.size w w' := by
  have hlt := World.block_lt_of_cell? w _ hq
  unfold wayV
  go_enter Try.func67, Try.ntmps67
  go_wp2
  go_ret
  exact ⟨rfl, below_alloc _ _⟩

set_option maxRecDepth 100000 in
set_option maxHeartbeats 4000000 in
theorem index1_any (x y : Way) (q : Nat) (w : World) (hq : w.heap[q]? = some (.cells (wayA y) 70 (0, 0))) :
    Calls Try.prog 68 #[wayV x, .pointer (some ⟨q, 0, none⟩)] w fun e w' => e = .returned (.bool (decide (ordW x y < 0))) ∧ Below w.heap.size w w' := by
  have hlt : q < w.heap.size := (Array.getElem?_eq_some_iff.1 hq).1
  obtain ⟨a0, a1, a2, a3, a4, a5, a6, a7⟩ := at8_lit hq
  have hI := fun w' => inOrder_any x y w'
  unfold wayV at hI ⊢
  have HI := Lib.hid hI
  clear hI hq
  go_enter Try.func68, Try.ntmps68
  go_wp2_with fail
  refine (HI.out _).mono ?_
  rintro e w5 ⟨rfl, b⟩
  go_wp2
  go_ret
  exact ⟨rfl, b_next (below_alloc _ _) b⟩

/-- how many assignments have at most a total -/
def witR (C : List (List Int)) (m : Int) : Int × Int := if costsB C then (((((asgW C).filter fun x => decide (x.t ≤ m)).length : Nat) : Int), 0) else (0, 2)
/-- how many assignments come before one -/
def idxR (C : List (List Int)) (xs : List Int) : Int × Int := if costsB C && asgB xs C.length then (((((asgW C).filter fun x => decide (ordW x (wayP C xs C.length) < 0)).length : Nat) : Int), 0) else (0, 2)

set_option maxRecDepth 100000 in
set_option maxHeartbeats 4000000 in
theorem Within_any (C : List (List Int)) (a : Option Addr) (cap : Nat) (m : Int) (w : World) (h : Tbl w a C) (hn : C.length ≤ 1000) (hr : ∀ row ∈ C, row.length ≤ 1000) :
    Calls Try.prog 31 #[.slice a C.length cap, .int .i64 m] w fun e w' => e = .returned (.tuple #[.int .i64 (witR C m).1, .int .i64 (witR C m).2]) ∧ Below w.heap.size w w' := by
  have hC := fun w' h => isCosts_any a cap C w' h hn hr
  have HC := Lib.hid hC
  have ba := below_alloc w (.cells #[.int .i64 m] 3)
  have H := Lib.hid (h.below ba)
  have Ba := Lib.hid ba
  cases hw : costsB C with
  | false =>
    have hR : witR C m = (0, 2) := by unfold witR; rw [hw]; rfl
    rw [hR]
    have HW := Lib.hid hw
    clear hw hR h hC ba
    go_enter Try.func31, Try.ntmps31
    go_wp2_with (go_at_call 53; refine (HC.out _ H.out).mono ?_; rintro e w' ⟨rfl, rfl⟩; rw [HW.out])
    go_ret2
    exact ⟨rfl, Ba.out⟩
  | true =>
    have hT := fun W h hF => those_Within C a cap w.heap.size (fun x => decide (x.t ≤ m)) W h hw hF
    obtain ⟨L, hL⟩ : ∃ L, (asgW C).filter (fun x => decide (x.t ≤ m)) = L := ⟨_, rfl⟩
    have hR : witR C m = (((L.length : Nat) : Int), 0) := by unfold witR; rw [hw, hL]; rfl
    rw [hR]
    rw [hL] at hT
    have HT := Lib.hid hT
    have HW := Lib.hid hw
    have hbx := Boxed.new w 3 (.int .i64 m)
    have Hbx := Lib.hid hbx
    clear hw hR h hC ba hT hL hbx
    go_enter Try.func31, Try.ntmps31
    go_wp2_with (go_at_call 53; refine (HC.out _ H.out).mono ?_; rintro e w' ⟨rfl, rfl⟩; rw [HW.out])
    go_wp2_with fail
    refine (HT.out _ H.out (fun x W hW => within1_any x w.heap.size m W ((hW.cell (p := ⟨w.heap.size, 0, none⟩) (by simp)).trans Hbx.out.cell))).mono ?_
    rintro e w1 ⟨v, rfl, hown, b⟩
    obtain ⟨av, cv, rfl, _⟩ := Ways.of_own hown
    clear hown
    go_wp2
    go_ret2
    exact ⟨rfl, b_next Ba.out b⟩

set_option maxRecDepth 100000 in
set_option maxHeartbeats 4000000 in
theorem Index_any (C : List (List Int)) (xs : List Int) (a a2 : Option Addr) (cap m ca : Nat) (w : World) (h : Tbl w a C) (hn : C.length ≤ 1000) (hr : ∀ row ∈ C, row.length ≤ 1000) (ha : Row w a2 m (intL xs)) (hm : m ≤ 1000) :
    Calls Try.prog 34 #[.slice a C.length cap, .slice a2 m ca] w fun e w' => e = .returned (.tuple #[.int .i64 (idxR C xs).1, .int .i64 (idxR C xs).2]) ∧ Below w.heap.size w w' := by
  have hC := fun w' h => isCosts_any a cap C w' h hn hr
  have HC := Lib.hid hC
  have H := Lib.hid h
  have Ha := Lib.hid ha
  have hl : xs.length = m := by have := ha.1; simpa [intL] using this
  cases hw : costsB C with
  | false =>
    have hR : idxR C xs = (0, 2) := by unfold idxR; rw [hw]; rfl
    rw [hR]
    have HW := Lib.hid hw
    clear hw hR h hC ha hl
    go_enter Try.func34, Try.ntmps34
    go_wp2_with (go_at_call 53; refine (HC.out _ H.out).mono ?_; rintro e w' ⟨rfl, rfl⟩; rw [HW.out])
    go_ret2
    exact ⟨rfl, Below.refl _ _⟩
  | true =>
    obtain ⟨hRc, hp⟩ := Rect.of_costs hw
    have HW := Lib.hid hw
    cases has : asgB xs C.length with
    | false =>
      have hR : idxR C xs = (0, 2) := by unfold idxR; rw [hw, has]; rfl
      rw [hR]
      have hA := fun w' h => isAssignment_any a2 m C.length ca xs w' h hRc.n7 hm
      have HA := Lib.hid hA
      have Has := Lib.hid has
      clear hw hR h hC ha hl hA has hRc
      go_enter Try.func34, Try.ntmps34
      go_wp2_with (first
        | (go_at_call 53; refine (HC.out _ H.out).mono ?_; rintro e w' ⟨rfl, rfl⟩; rw [HW.out])
        | (go_at_call 59; refine (HA.out _ Ha.out).mono ?_; rintro e w1 ⟨rfl, b1⟩; rw [Has.out]))
      go_ret2
      exact ⟨rfl, b1⟩
    | true =>
      have hA := fun w' h => isAssignment_any a2 m C.length ca xs w' h hRc.n7 hm
      have hx := has
      unfold asgB at hx
      rw [decide_eq_true_eq] at hx
      obtain ⟨y, hy⟩ : ∃ y, wayP C xs C.length = y := ⟨_, rfl⟩
      obtain rfl : C.length = m := by omega
      have hWy := fun w' h h2 => wayOf_any C a a2 cap C.length ca xs w' hRc rfl hx.2.1 h h2
      rw [hy] at hWy
      unfold wayV at hWy
      have hT := fun q W h hF => those_Index C a cap q (fun x => decide (ordW x y < 0)) W h hw hF
      obtain ⟨L, hL⟩ : ∃ L, (asgW C).filter (fun x => decide (ordW x y < 0)) = L := ⟨_, rfl⟩
      have hR : idxR C xs = (((L.length : Nat) : Int), 0) := by unfold idxR; rw [hw, has, hy, hL]; rfl
      rw [hR]
      rw [hL] at hT
      have HT := Lib.hid hT
      have HA := Lib.hid hA
      have Has := Lib.hid has
      have HWy := Lib.hid hWy
      clear hw hR h hC ha hl hA has hRc hWy hy hx hT hL
      go_enter Try.func34, Try.ntmps34
      go_wp2_with (first
        | (go_at_call 53; refine (HC.out _ H.out).mono ?_; rintro e w' ⟨rfl, rfl⟩; rw [HW.out])
        | (go_at_call 59; refine (HA.out _ Ha.out).mono ?_; rintro e w1 ⟨rfl, b1⟩; rw [Has.out]))
      go_wp2_with (go_at_call 62; refine (HWy.out _ (H.out.below b1) (Ha.out.below b1)).mono ?_; rintro e w2 ⟨rfl, b2⟩)
      go_wp2_with fail
      have ba := below_alloc w2 (.cells (wayA y) 70)
      have hn2 := heap_alloc_new w2 (.cells (wayA y) 70)
      refine (HT.out w2.heap.size _ (((H.out.below b1).below b2).below ba) (fun x W hW => index1_any x y w2.heap.size W ((hW.block _ (by simp)).trans hn2))).mono ?_
      rintro e w3 ⟨v, rfl, hown, b⟩
      obtain ⟨av, cv, rfl, _⟩ := Ways.of_own hown
      clear hown hn2
      go_wp2
      go_ret2
      exact ⟨rfl, b_next b1 (b_next b2 (b_next ba b))⟩
end Go.Proofs.Ytambhhjbafefgaa

/- The reference's Index and Within. -/
namespace Go.Proofs.Ytambhhjbafefgaa
set_option linter.unusedVariables false
open Go.RowKit

theorem countP_take {α : Type} (p : α → Bool) (l : List α) (k : Nat) (x : α) (h : l[k]? = some x) : (l.take (k + 1)).countP p = (l.take k).countP p + if p x then 1 else 0 := by
  rw [List.take_add_one, h, List.countP_append]
  show _ + [x].countP p = _
  rw [List.countP_cons, List.countP_nil, Nat.zero_add]
/-- it comes before -/
def befR (C : List (List Int)) (n : Nat) (t : Int) (xs r : List Int) : Bool := decide ((wayP C r n).t < t) || (decide ((wayP C r n).t = t) && befB r xs)

set_option maxRecDepth 100000 in
set_option maxHeartbeats 4000000 in
theorem refIndex_any (C : List (List Int)) (a a2 : Option Addr) (cap n ca : Nat) (xs : List Int) (w : World) (hR : Rect C n) (hn : C.length = n) (hx : ∀ x ∈ xs, 0 ≤ x ∧ x < n) (h : Tbl w a C) (ha : Row w a2 n (intL xs)) :
    Calls Try.prog 35 #[.slice a n cap, .slice a2 n ca] w fun e w' => e = .returned (.int .i64 ((allL n n).countP (befR C n (wayP C xs n).t xs))) ∧ Below w.heap.size w w' := by
  have hn7 := hR.m7
  have hA := fun W => All_any n hn7 W
  have hlen := allL_len n hn7 n
  have h7 : (7 : Nat) ^ n ≤ 7 ^ 7 := Nat.pow_le_pow_right (by decide) hn7
  have hrows := allL_row n n
  generalize allL n n = L at *
  obtain ⟨c, hcl⟩ : ∃ c, L.length = c := ⟨_, rfl⟩
  have hc7 : c ≤ 823543 := by omega
  have hT0 := fun W h ha => refTotal_any C a a2 cap n ca xs W hR hn hx h ha
  have hT := fun r (hr : r ∈ L) a3 rc W h ha => refTotal_any C a a3 cap n rc r W hR hn (hrows r hr).2 h ha
  have hB := fun r (_ : r ∈ L) a3 rc W h1 => before_any a3 a2 n rc ca r xs W h1
  obtain ⟨t, ht⟩ : ∃ t, (wayP C xs n).t = t := ⟨_, rfl⟩
  rw [ht] at hT0 ⊢
  have HA := Lib.hid hA
  have HT0 := Lib.hid hT0
  have HT := Lib.hid hT
  have HBf := Lib.hid hB
  have HR := Lib.hid hrows
  have H := Lib.hid h
  have Ha := Lib.hid ha
  have HC := Lib.hid hcl
  clear hA hT0 hT hB hrows hlen h7 hx h ha hR ht hcl
  go_enter Try.func35, Try.ntmps35
  go_wp2_with fail
  refine (HA.out _).mono ?_
  rintro e w1 ⟨v, rfl, hl, b1⟩
  obtain ⟨a9, cap9, rfl, hcap9, hcm9, ht9⟩ := hl.tbl
  have H1 := Lib.hid (H.out.below b1)
  have Ha1 := Lib.hid (Ha.out.below b1)
  have B1 := Lib.hid b1
  have HT9 := Lib.hid ht9
  clear hl b1 ht9
  rw [HC.out] at hcap9 ⊢
  go_wp2_with fail
  refine (HT0.out _ H1.out Ha1.out).mono ?_
  rintro e w2 ⟨rfl, q2, rfl⟩
  go_wp2
  go_loopw [7, 8] (fun m i wr => ∃ k q : Nat, k ≤ c ∧ m = .int .i64 ((L.take k).countP (befR C n t xs)) ∧ i = .int .i64 k ∧ wr = w1.drewN q) (fun _ i _ => c - (intOf i).toNat)
  case atStart => exact ⟨0, q2, Nat.zero_le _, by simp, rfl, rfl⟩
  case round =>
    obtain ⟨k, q, hk, rfl, rfl, rfl⟩ := hrel
    by_cases hlt : k < c
    · have hc1 : (k : Int) < c := by omega
      obtain ⟨r, hr⟩ : ∃ r, L[k]? = some r := ⟨_, List.getElem?_eq_getElem (by have := HC.out; omega)⟩
      have hrm := List.mem_of_getElem? hr
      obtain ⟨hrl, hrb⟩ := HR.out r hrm
      obtain ⟨g, ra, rc, rfl, hg, c1, hrc, R1⟩ := HT9.out.row hr
      rw [hrl] at c1 hrc R1
      have hcnt := countP_take (befR C n t xs) L k r hr
      obtain ⟨m, hm⟩ : ∃ m, (L.take k).countP (befR C n t xs) = m := ⟨_, rfl⟩
      have hmk : m ≤ 823543 := by rw [← hm]; refine Nat.le_trans List.countP_le_length ?_; rw [List.length_take]; omega
      rw [hm] at hcnt ⊢
      obtain ⟨s, hs⟩ : ∃ s, (wayP C r n).t = s := ⟨_, rfl⟩
      have hTr := HT.out r hrm ra rc
      rw [hs] at hTr
      have hBr := HBf.out r hrm ra rc
      have hbr : befR C n t xs r = (decide (s < t) || (decide (s = t) && befB r xs)) := by unfold befR; rw [hs]
      rw [hbr] at hcnt
      have HTr := Lib.hid hTr
      have HBr := Lib.hid hBr
      have HR1 := Lib.hid R1
      have Hcnt := Lib.hid hcnt
      clear hr hrm hrb hrl R1 hTr hBr hbr hcnt hm hs
      go_wp2_with fail
      refine (HTr.out _ (H1.out.drewN q) (HR1.out.drewN q)).mono ?_
      rintro e w3 ⟨rfl, q3, rfl⟩
      have hcnt := Hcnt.out
      by_cases hst : s < t
      · rw [decide_eq_true hst, Bool.true_or, if_pos rfl] at hcnt
        have Hc3 := Lib.hid hcnt
        clear hcnt
        go_wp2
        go_roundw
        case rel => exact ⟨k + 1, _, by omega, by rw [Hc3.out]; go_num, by go_num, rfl⟩
        case measure => simp [intOf]; omega
      · by_cases he : s = t
        · obtain ⟨b, hb⟩ : ∃ b, befB r xs = b := ⟨_, rfl⟩
          rw [decide_eq_false hst, decide_eq_true he, Bool.false_or, Bool.true_and, hb] at hcnt
          have Hc3 := Lib.hid hcnt
          have hbr := HBr.out
          rw [hb] at hbr
          have HBr2 := Lib.hid hbr
          clear hcnt hb hbr
          subst he
          go_wp2_with fail
          refine (HBr2.out _ (HR1.out.drewN _) (Ha1.out.drewN _) (by omega)).mono ?_
          rintro e w4 ⟨rfl, q4, rfl⟩
          cases b with
          | true =>
            go_wp2
            go_roundw
            case rel => exact ⟨k + 1, _, by omega, by rw [Hc3.out]; go_num, by go_num, rfl⟩
            case measure => simp [intOf]; omega
          | false =>
            go_wp2
            go_roundw
            case rel => exact ⟨k + 1, _, by omega, by rw [Hc3.out]; go_num, by go_num, rfl⟩
            case measure => simp [intOf]; omega
        · rw [decide_eq_false hst, decide_eq_false he, Bool.false_or, Bool.false_and, if_neg (by simp)] at hcnt
          have Hc3 := Lib.hid hcnt
          have he2 : ((s : Int) == t) = false := by simp [he]
          clear hcnt he
          go_wp2
          go_roundw
          case rel => exact ⟨k + 1, _, by omega, by rw [Hc3.out]; go_num, by go_num, rfl⟩
          case measure => simp [intOf]; omega
    · obtain rfl : k = c := by omega
      have hc1 : ¬ (k : Int) < k := by omega
      have htk : L.take k = L := List.take_of_length_le (by have := HC.out; omega)
      rw [htk]
      go_wp2
      go_ret
      exact ⟨rfl, below_drewN B1.out q⟩

/-- its total is at most that -/
def witP (C : List (List Int)) (n : Nat) (m : Int) (r : List Int) : Bool := decide ((wayP C r n).t ≤ m)

set_option maxRecDepth 100000 in
set_option maxHeartbeats 4000000 in
theorem refWithin_any (C : List (List Int)) (a : Option Addr) (cap n : Nat) (mm : Int) (w : World) (hR : Rect C n) (hn : C.length = n) (h : Tbl w a C) :
    Calls Try.prog 32 #[.slice a n cap, .int .i64 mm] w fun e w' => e = .returned (.int .i64 ((allL n n).countP (witP C n mm))) ∧ Below w.heap.size w w' := by
  have hn7 := hR.m7
  have hA := fun W => All_any n hn7 W
  have hlen := allL_len n hn7 n
  have h7 : (7 : Nat) ^ n ≤ 7 ^ 7 := Nat.pow_le_pow_right (by decide) hn7
  have hrows := allL_row n n
  generalize allL n n = L at *
  obtain ⟨c, hcl⟩ : ∃ c, L.length = c := ⟨_, rfl⟩
  have hc7 : c ≤ 823543 := by omega
  have hT := fun r (hr : r ∈ L) a3 rc W h ha => refTotal_any C a a3 cap n rc r W hR hn (hrows r hr).2 h ha
  have HA := Lib.hid hA
  have HT := Lib.hid hT
  have HR := Lib.hid hrows
  have H := Lib.hid h
  have HC := Lib.hid hcl
  clear hA hT hrows hlen h7 h hR hcl
  go_enter Try.func32, Try.ntmps32
  go_wp2_with fail
  refine (HA.out _).mono ?_
  rintro e w1 ⟨v, rfl, hl, b1⟩
  obtain ⟨a9, cap9, rfl, hcap9, hcm9, ht9⟩ := hl.tbl
  have H1 := Lib.hid (H.out.below b1)
  have B1 := Lib.hid b1
  have HT9 := Lib.hid ht9
  clear hl b1 ht9
  rw [HC.out] at hcap9 ⊢
  go_wp2
  go_loopw [6, 7] (fun m i wr => ∃ k q : Nat, k ≤ c ∧ m = .int .i64 ((L.take k).countP (witP C n mm)) ∧ i = .int .i64 k ∧ wr = w1.drewN q) (fun _ i _ => c - (intOf i).toNat)
  case atStart => exact ⟨0, 0, Nat.zero_le _, by simp, rfl, rfl⟩
  case round =>
    obtain ⟨k, q, hk, rfl, rfl, rfl⟩ := hrel
    by_cases hlt : k < c
    · have hc1 : (k : Int) < c := by omega
      obtain ⟨r, hr⟩ : ∃ r, L[k]? = some r := ⟨_, List.getElem?_eq_getElem (by have := HC.out; omega)⟩
      have hrm := List.mem_of_getElem? hr
      obtain ⟨hrl, hrb⟩ := HR.out r hrm
      obtain ⟨g, ra, rc, rfl, hg, c1, hrc, R1⟩ := HT9.out.row hr
      rw [hrl] at c1 hrc R1
      have hcnt := countP_take (witP C n mm) L k r hr
      obtain ⟨m, hm⟩ : ∃ m, (L.take k).countP (witP C n mm) = m := ⟨_, rfl⟩
      have hmk : m ≤ 823543 := by rw [← hm]; refine Nat.le_trans List.countP_le_length ?_; rw [List.length_take]; omega
      rw [hm] at hcnt ⊢
      obtain ⟨s, hs⟩ : ∃ s, (wayP C r n).t = s := ⟨_, rfl⟩
      have hTr := HT.out r hrm ra rc
      rw [hs] at hTr
      have hbr : witP C n mm r = decide (s ≤ mm) := by unfold witP; rw [hs]
      rw [hbr] at hcnt
      have HTr := Lib.hid hTr
      have HR1 := Lib.hid R1
      have Hcnt := Lib.hid hcnt
      clear hr hrm hrb hrl R1 hTr hbr hcnt hm hs
      go_wp2_with fail
      refine (HTr.out _ (H1.out.drewN q) (HR1.out.drewN q)).mono ?_
      rintro e w3 ⟨rfl, q3, rfl⟩
      have hcnt := Hcnt.out
      by_cases hst : s ≤ mm
      · rw [decide_eq_true hst, if_pos rfl] at hcnt
        have Hc3 := Lib.hid hcnt
        clear hcnt
        go_wp2
        go_roundw
        case rel => exact ⟨k + 1, _, by omega, by rw [Hc3.out]; go_num, by go_num, rfl⟩
        case measure => simp [intOf]; omega
      · rw [decide_eq_false hst, if_neg (by simp)] at hcnt
        have Hc3 := Lib.hid hcnt
        clear hcnt
        go_wp2
        go_roundw
        case rel => exact ⟨k + 1, _, by omega, by rw [Hc3.out]; go_num, by go_num, rfl⟩
        case measure => simp [intOf]; omega
    · obtain rfl : k = c := by omega
      have hc1 : ¬ (k : Int) < k := by omega
      have htk : L.take k = L := List.take_of_length_le (by have := HC.out; omega)
      rw [htk]
      go_wp2
      go_ret
      exact ⟨rfl, below_drewN B1.out q⟩
end Go.Proofs.Ytambhhjbafefgaa

/- The numbers of assignments that come before one, or are at most as expensive, program and reference: the same. -/
namespace Go.Proofs.Ytambhhjbafefgaa
set_option linter.unusedVariables false
open Go.RowKit

theorem put_holes (x : Way) (b : Nat) (h k : Int) (hb : b < 7) : (x.put b h k).holes = x.holes.set b h := by
  rcases lt7 hb with rfl | rfl | rfl | rfl | rfl | rfl | rfl <;> rfl
theorem wayP_holes (C : List (List Int)) (xs : List Int) (hl : xs.length ≤ 7) : ∀ k, k ≤ xs.length → (wayP C xs k).holes = xs.take k ++ List.replicate (7 - k) 0 := by
  intro k
  induction k with
  | zero => intro _; rfl
  | succ k ih =>
    intro hk
    show ((wayP C xs k).put k (xs.getD k 0) _).holes = _
    rw [put_holes _ _ _ _ (by omega), ih (by omega), List.set_append, if_neg (by rw [List.length_take]; omega)]
    have h1 : k - (xs.take k).length = 0 := by rw [List.length_take]; omega
    have h2 : 7 - k = (7 - (k + 1)) + 1 := by omega
    obtain ⟨x, hx⟩ : ∃ x, xs[k]? = some x := ⟨_, List.getElem?_eq_getElem (by omega)⟩
    rw [h1, h2, List.replicate_succ, List.set_cons_zero, List.take_add_one, List.getD_eq_getElem?_getD, hx]
    simp
theorem cmpL_append : ∀ (xs ys zs : List Int), xs.length = ys.length → cmpL (xs ++ zs) (ys ++ zs) = cmpL xs ys := by
  intro xs
  induction xs with
  | nil =>
    intro ys zs h
    cases ys with
    | nil => exact cmpL_self zs
    | cons y ys => cases h
  | cons x xs ih =>
    intro ys zs h
    cases ys with
    | nil => cases h
    | cons y ys =>
      show (if x = y then cmpL (xs ++ zs) (ys ++ zs) else _) = (if x = y then cmpL xs ys else _)
      rw [ih ys zs (by simpa using h)]
theorem ord_bef {C : List (List Int)} (hn : C.length ≤ 7) {y : Way} (hy : y ∈ asgW C) {xs : List Int} (hl : xs.length = C.length) : decide (ordW y (wayP C xs C.length) < 0) = befR C C.length (wayP C xs C.length).t xs (y.holes.take C.length) := by
  have hw := asgW_way hn y hy
  have h1 : (y.holes.take C.length).length = C.length := by rw [List.length_take]; show min _ 7 = _; omega
  have e1 := wayP_holes C (y.holes.take C.length) (by omega) C.length (by omega)
  have e2 := wayP_holes C xs (by omega) C.length (by omega)
  rw [hw, List.take_of_length_le (by omega)] at e1
  rw [List.take_of_length_le (by omega)] at e2
  unfold befR befB ordW
  rw [hw]
  by_cases ht : y.t = (wayP C xs C.length).t
  · have h3 : ¬ y.t < (wayP C xs C.length).t := by omega
    rw [if_pos ht, decide_eq_true ht, decide_eq_false h3, Bool.false_or, Bool.true_and, e2]
    rw [show cmpL y.holes (xs ++ List.replicate (7 - C.length) 0) = cmpL (y.holes.take C.length ++ List.replicate (7 - C.length) 0) (xs ++ List.replicate (7 - C.length) 0) from congrArg (fun z => cmpL z _) e1, cmpL_append _ _ _ (by omega)]
  · rw [if_neg ht, decide_eq_false ht, Bool.false_and, Bool.or_false]
    exact cmpInt_neg _ _ ht
theorem countP_filter_len {α : Type} (p : α → Bool) (l : List α) : (l.filter p).length = l.countP p := List.countP_eq_length_filter.symm
theorem idx_same {C : List (List Int)} (hn : C.length ≤ 7) {xs : List Int} (hl : xs.length = C.length) :
    ((asgW C).filter fun x => decide (ordW x (wayP C xs C.length) < 0)).length = (allL C.length C.length).countP (befR C C.length (wayP C xs C.length).t xs) := by
  rw [countP_filter_len, ← asgW_rows hn, List.countP_map]
  exact List.countP_congr fun y hy => by rw [ord_bef hn hy hl]; rfl
theorem wit_same {C : List (List Int)} (hn : C.length ≤ 7) (m : Int) :
    ((asgW C).filter fun x => decide (x.t ≤ m)).length = (allL C.length C.length).countP (witP C C.length m) := by
  rw [countP_filter_len, ← asgW_rows hn, List.countP_map]
  refine List.countP_congr fun y hy => ?_
  show _ ↔ witP C C.length m (y.holes.take C.length) = true
  unfold witP
  rw [asgW_way hn y hy]
end Go.Proofs.Ytambhhjbafefgaa

/- The law's ButtonsIndexes: its walk. -/
namespace Go.Proofs.Ytambhhjbafefgaa
set_option linter.unusedVariables false
open Go.RowKit

/-- the law's table of what came in -/
def TableC (w : World) (tv : Value) (C : List (List Int)) : Prop := ∀ W, Below w.heap.size w W → Calls Try.prog 16 #[tv] W fun e w' => ∃ v, e = .returned v ∧ Lines w' W.heap.size v C ∧ Below W.heap.size W w'
/-- the law's list of what came in -/
def ListC (w : World) (rv : Value) (xs : List Int) : Prop := ∀ W, Below w.heap.size w W → Calls Try.prog 26 #[rv] W fun e w' => ∃ v, e = .returned v ∧ w'.ownsRow W.heap.size 3 1 v xs.length (intL xs) ∧ Below W.heap.size W w'
theorem TabIn.tableC {w : World} {tv : Value} {C : List (List Int)} (h : TabIn w tv C) : TableC w tv (cutT C) := fun W hb => table_any tv C W (h.below hb)
theorem RowIn.listC {w : World} {rv : Value} {xs : List Int} (h : RowIn w rv xs) : ListC w rv (xs.take 8) := fun W hb => list_in rv xs W (h.below hb)
theorem cutT_rows (C : List (List Int)) : (cutT C).length ≤ 8 ∧ ∀ row ∈ cutT C, row.length ≤ 8 := by
  refine ⟨by unfold cutT; rw [List.length_map, List.length_take]; omega, fun row h => ?_⟩
  unfold cutT at h
  obtain ⟨r, _, rfl⟩ := List.mem_map.1 h
  rw [List.length_take]; omega

set_option maxRecDepth 100000 in
set_option maxHeartbeats 4000000 in
theorem idx_walk (tv rv : Value) (C : List (List Int)) (xs : List Int) (w : World) (hT : TableC w tv C) (hL : ListC w rv xs) (hn : C.length ≤ 8) (hr : ∀ row ∈ C, row.length ≤ 8) (hm : xs.length ≤ 8) :
    Calls Try.prog 6 #[tv, rv] w fun e w' => e = .returned (.bool true) ∧ Below w.heap.size w w' := by
  have HT : Hid (∀ W, Below w.heap.size w W → Calls Try.prog 16 #[tv] W fun e w' => ∃ v, e = .returned v ∧ Lines w' W.heap.size v C ∧ Below W.heap.size W w') := hT
  have HL : Hid (∀ W, Below w.heap.size w W → Calls Try.prog 26 #[rv] W fun e w' => ∃ v, e = .returned v ∧ w'.ownsRow W.heap.size 3 1 v xs.length (intL xs) ∧ Below W.heap.size W w') := hL
  have HI := Lib.hid fun a a2 cap m ca w h ha => Index_any C xs a a2 cap m ca w h (by omega) (fun row hrow => by have := hr row hrow; omega) ha
  have HC := Lib.hid fun a cap n w hn2 h => refCosts_any C a cap n w hn2 h (by omega) (fun row hrow => by have := hr row hrow; omega)
  have HW := Lib.hid awake_any
  clear hT hL
  go_enter Try.func6, Try.ntmps6
  go_wp2_with fail
  refine (HT.out _ (Below.refl _ _)).mono ?_
  rintro e w1 ⟨v, rfl, hl, b1⟩
  obtain ⟨a, cap, rfl, hcap, hcm, ht⟩ := hl.tbl
  have T1 := Lib.hid ht
  have B1 := Lib.hid b1
  clear hl ht b1
  go_wp2_with fail
  refine (HL.out _ B1.out).mono ?_
  rintro e w2 ⟨v2, rfl, ho, b2⟩
  obtain ⟨a2, ca, rfl, hR2⟩ := Row.of_own ho
  have T2 := Lib.hid (T1.out.below b2)
  have R2 := Lib.hid hR2
  have B2 := Lib.hid (b_next B1.out b2)
  clear ho hR2 b2 B1 T1
  obtain ⟨m, hxm⟩ : ∃ m, xs.length = m := ⟨_, rfl⟩
  obtain ⟨n, hCn⟩ : ∃ n, C.length = n := ⟨_, rfl⟩
  have HI2 := HI.out a a2 cap m ca w2 T2.out (by have := R2.out; rwa [hxm] at this) (by omega)
  have R3 : Hid (Row w2 a2 m (intL xs)) := by have := R2.out; rwa [hxm] at this
  obtain ⟨⟨i1, i2⟩, hi⟩ : ∃ i, idxR C xs = i := ⟨_, rfl⟩
  rw [hi] at HI2
  simp only at HI2
  rw [hCn] at HI2 hcap hn ⊢
  rw [hxm] at hm ⊢
  have HI3 := Lib.hid HI2
  have Hcn := Lib.hid hCn
  have Hxm := Lib.hid hxm
  have Hi := Lib.hid hi
  clear HI2 HI R2 hCn hxm hi
  go_wp2_with fail
  refine HI3.out.mono ?_
  rintro e w3 ⟨rfl, b3⟩
  have T3 := Lib.hid (T2.out.below b3)
  have R4 := Lib.hid (R3.out.below b3)
  have B3 := Lib.hid (b_next B2.out b3)
  clear b3 T2 R3 B2 HI3
  cases hcb : costsB C with
  | false =>
    have h2 : i1 = 0 ∧ i2 = 2 := by
      have := Hi.out
      unfold idxR at this
      rw [hcb] at this
      simp at this
      exact ⟨this.1.symm, this.2.symm⟩
    obtain ⟨rfl, rfl⟩ := h2
    have Hcb := Lib.hid hcb
    clear hcb
    go_wp2_with fail
    refine (HC.out _ _ _ _ Hcn.out T3.out).mono ?_
    rintro e w4 ⟨rfl, rfl⟩
    rw [Hcb.out]
    go_wp2_with fail
    refine (HW.out _).mono ?_
    rintro e w5 ⟨rfl, b5⟩
    go_wp2
    go_ret
    exact ⟨rfl, b_next B3.out b5⟩
  | true =>
    obtain ⟨hRc, hp⟩ := Rect.of_costs hcb
    rw [Hcn.out] at hRc
    have hA := fun w h => refAssignment_any a2 m n ca xs w h hRc.m7 (by omega)
    have hasb : ∃ b, asgB xs n = b := ⟨_, rfl⟩
    obtain ⟨b, hb⟩ := hasb
    rw [hb] at hA
    have HA := Lib.hid hA
    have Hb := Lib.hid hb
    have Hcb := Lib.hid hcb
    have HRc := Lib.hid hRc
    clear hA hb hcb hRc hp
    go_wp2_with fail
    refine (HC.out _ _ _ _ Hcn.out T3.out).mono ?_
    rintro e w4 ⟨rfl, rfl⟩
    rw [Hcb.out]
    go_wp2_with fail
    refine (HA.out _ R4.out).mono ?_
    rintro e w5 ⟨rfl, q5, rfl⟩
    cases b with
    | false =>
      have h2 : i1 = 0 ∧ i2 = 2 := by
        have := Hi.out
        unfold idxR at this
        rw [Hcb.out, Hcn.out, Hb.out] at this
        simp at this
        exact ⟨this.1.symm, this.2.symm⟩
      obtain ⟨rfl, rfl⟩ := h2
      go_wp2_with fail
      refine (HW.out _).mono ?_
      rintro e w6 ⟨rfl, b6⟩
      go_wp2
      go_ret
      exact ⟨rfl, b_next (below_drewN B3.out q5) b6⟩
    | true =>
      have hasg := Hb.out
      unfold asgB at hasg
      rw [decide_eq_true_eq] at hasg
      have hxn := hasg.1
      have h2 : i1 = (((allL n n).countP (befR C n (wayP C xs n).t xs) : Nat) : Int) ∧ i2 = 0 := by
        have := Hi.out
        unfold idxR at this
        rw [Hcb.out, Hcn.out, Hb.out] at this
        simp only [Bool.and_self, if_true, Prod.mk.injEq] at this
        refine ⟨?_, this.2.symm⟩
        rw [← this.1]
        have h3 := idx_same (C := C) (by rw [Hcn.out]; exact HRc.out.m7) (xs := xs) (by rw [Hcn.out, hxn])
        rw [Hcn.out] at h3
        rw [h3]
      obtain ⟨h2a, rfl⟩ := h2
      obtain rfl : m = n := by have := Hxm.out; omega
      have hX := fun w h ha => refIndex_any C a a2 cap m ca xs w HRc.out Hcn.out hasg.2.1 h ha
      rw [← h2a] at hX
      have HX := Lib.hid hX
      clear hX h2a hasg hxn
      go_wp2_with fail
      refine (HX.out _ (T3.out.drewN q5) (R4.out.drewN q5)).mono ?_
      rintro e w6 ⟨rfl, b6⟩
      go_wp2_with fail
      refine (HW.out _).mono ?_
      rintro e w7 ⟨rfl, b7⟩
      go_wp2
      go_ret
      exact ⟨rfl, b_next (b_next (below_drewN B3.out q5) b6) b7⟩
theorem walk_ButtonsIndexes (tv : Value) (C : List (List Int)) (w : World) (hT : TabIn w tv C) (rv : Value) (xs : List Int) (hR : RowIn w rv xs) :
    Calls Try.prog 6 #[tv, rv] w fun e w' => e = .returned (.bool true) ∧ Below w.heap.size w w' :=
  idx_walk tv rv _ _ w hT.tableC hR.listC (cutT_rows C).1 (cutT_rows C).2 (by rw [List.length_take]; omega)
end Go.Proofs.Ytambhhjbafefgaa

/- How many assignments there are: mathematics. -/
namespace Go.Proofs.Ytambhhjbafefgaa
set_option linter.unusedVariables false

theorem mem_count (n : Nat) (a : List Int) (ha : a.Nodup) (hb : ∀ x ∈ a, 0 ≤ x ∧ x < n) : (List.range n).countP (fun j : Nat => decide ((j : Int) ∈ a)) = a.length := by
  have hp : (((List.range n).filter fun j : Nat => decide ((j : Int) ∈ a)).map fun j : Nat => (j : Int)).Perm a := by
    refine (List.perm_ext_iff_of_nodup ?_ ha).2 fun x => ?_
    · refine List.Pairwise.map _ (R := (· ≠ ·)) (fun x y h e => h (by omega)) ?_
      exact List.Pairwise.filter _ List.nodup_range
    · simp only [List.mem_map, List.mem_filter, List.mem_range, decide_eq_true_eq]
      constructor
      · rintro ⟨j, ⟨_, h⟩, rfl⟩; exact h
      · intro h
        have := hb x h
        exact ⟨x.toNat, ⟨by omega, by rw [show ((x.toNat : Nat) : Int) = x by omega]; exact h⟩, by omega⟩
  have := hp.length_eq
  rw [List.length_map] at this
  rw [List.countP_eq_length_filter, this]
theorem extL_length (n : Nat) (a : List Int) (ha : a.Nodup) (hb : ∀ x ∈ a, 0 ≤ x ∧ x < n) : (extL n a).length = n - a.length := by
  unfold extL
  rw [List.length_map, ← List.countP_eq_length_filter]
  have h1 := List.length_eq_countP_add_countP (fun j : Nat => decide ((j : Int) ∈ a)) (l := List.range n)
  rw [List.length_range, mem_count n a ha hb] at h1
  have h2 : (List.range n).countP (fun j : Nat => !decide ((j : Int) ∈ a)) = (List.range n).countP (fun j : Nat => decide ¬decide ((j : Int) ∈ a) = true) := by
    congr 1; funext j; simp
  rw [h2]; omega
theorem allL_good (n : Nat) : ∀ i, ∀ a ∈ allL n i, a.length = i ∧ a.Nodup ∧ ∀ x ∈ a, 0 ≤ x ∧ x < n := by
  intro i
  induction i with
  | zero =>
    intro a ha
    simp [allL] at ha
    subst ha
    simp
  | succ i ih =>
    intro a ha
    obtain ⟨b, hb, hab⟩ := List.mem_flatMap.1 (show a ∈ (allL n i).flatMap (extL n) from ha)
    unfold extL at hab
    obtain ⟨j, hj, rfl⟩ := List.mem_map.1 hab
    obtain ⟨hj1, hj2⟩ := List.mem_filter.1 hj
    rw [List.mem_range] at hj1
    simp at hj2
    obtain ⟨h1, h2, h3⟩ := ih b hb
    refine ⟨by simp [h1], ?_, fun x hx => ?_⟩
    · rw [List.nodup_append]
      exact ⟨h2, by simp, fun x hx y hy e => by simp at hy; subst hy; subst e; exact hj2 hx⟩
    · rcases List.mem_append.1 hx with h | h
      · exact h3 x h
      · simp at h; omega
def facN : Nat → Nat
  | 0 => 1
  | k + 1 => (k + 1) * facN k
theorem flatMap_len_eq {α β : Type} (f : α → List β) (n : Nat) : ∀ l : List α, (∀ a ∈ l, (f a).length = n) → (l.flatMap f).length = l.length * n := by
  intro l
  induction l with
  | nil => intro _; simp
  | cons x l ih =>
    intro h
    rw [List.flatMap_cons, List.length_append, List.length_cons, Nat.add_mul, h x (by simp), ih fun a ha => h a (by simp [ha])]
    omega
theorem allL_count (n : Nat) : ∀ i, i ≤ n → (allL n i).length * facN (n - i) = facN n := by
  intro i
  induction i with
  | zero => intro _; simp [allL]
  | succ i ih =>
    intro hi
    have h1 : (allL n (i + 1)).length = (allL n i).length * (n - i) := flatMap_len_eq (extL n) (n - i) _ fun a ha => by
      obtain ⟨e1, e2, e3⟩ := allL_good n i a ha
      rw [extL_length n a e2 e3, e1]
    have h2 : facN (n - i) = (n - i) * facN (n - (i + 1)) := by
      obtain ⟨d, hd⟩ : ∃ d, n - i = d + 1 := ⟨n - i - 1, by omega⟩
      rw [hd, show n - (i + 1) = d by omega]; rfl
    rw [h1, Nat.mul_assoc, ← h2]
    exact ih (by omega)
theorem allL_fac (n : Nat) : (allL n n).length = facN n := by
  have := allL_count n n (Nat.le_refl n)
  rwa [Nat.sub_self, show facN 0 = 1 from rfl, Nat.mul_one] at this
theorem facN_pos : ∀ n, 1 ≤ facN n
  | 0 => Nat.le_refl _
  | n + 1 => Nat.le_trans (facN_pos n) (by show facN n ≤ (n + 1) * facN n; exact Nat.le_mul_of_pos_left _ (by omega))
theorem asgW_fac {C : List (List Int)} (hn : C.length ≤ 7) : (asgW C).length = facN C.length := by
  have h := congrArg List.length (asgW_rows hn)
  rw [List.length_map, allL_fac] at h
  exact h
theorem asgW_pos {C : List (List Int)} (hn : C.length ≤ 7) : 1 ≤ (asgW C).length := by
  rw [asgW_fac hn]; exact facN_pos _
end Go.Proofs.Ytambhhjbafefgaa

/- those, for Item's function. -/
namespace Go.Proofs.Ytambhhjbafefgaa
set_option linter.unusedVariables false
open Go.RowKit Go.Shelf Go.Maps
attribute [local go_sem] Oper.semAt_some

set_option maxRecDepth 100000 in
set_option maxHeartbeats 4000000 in
theorem those_Item (C : List (List Int)) (a : Option Addr) (cap q r : Nat) (Pr : Way → Bool) (w : World) (h : Tbl w a C) (hcC : costsB C = true)
    (hF : ∀ (x : Way) (W : World), Below w.heap.size w W → Calls Try.prog 65 #[wayV x, .pointer (some ⟨q, 0, none⟩), .pointer (some ⟨r, 0, none⟩)] W fun e W' => e = .returned (.bool (Pr x)) ∧ Below W.heap.size W W') :
    Calls Try.prog 64 #[.slice a C.length cap, .func (.func 65) #[] #[.pointer (some ⟨q, 0, none⟩), .pointer (some ⟨r, 0, none⟩)]] w fun e w' => ∃ v, e = .returned v ∧
      w'.ownsRow w.heap.size 70 8 v ((asgW C).filter Pr).length (waysC ((asgW C).filter Pr)) ∧ Below w.heap.size w w' := by
  refine (callsIn_wide (n := 6)).1 ?_
  obtain ⟨i0, hi, hz0, hz1, hz2⟩ := info_parts info_wayF
  obtain ⟨hR, hp⟩ := Rect.of_costs hcC
  have hn7 := hR.n7
  have hAL := asgW_len hn7
  obtain ⟨g, ra, rc, rfl, hFt⟩ := TblF.of h hp
  have HF := Lib.hid hF
  have HR := Lib.hid hR
  have HFw := Lib.hid hFt
  clear h hF hFt hcC
  refine callsIn_of_wp_marks Try.func64 rfl trivial ?_ rfl
  simp only [Try.ntmps64, List.size_toArray, List.length_cons, List.length_nil, Nat.reduceAdd, Nat.reduceSub, Array.replicate_succ, Array.replicate_zero, List.push_toArray, List.append_toArray, List.nil_append, List.cons_append]
  gi_wp2_with fail
  refine ⟨trivial, ?_⟩
  refine (assignments_in _ _ _ _ _).mono ?_
  rintro e w' ⟨rfl, rfl⟩
  gi_wp2_with fail
  generalize hW3 : (((w.alloc (.cells #[.func (.func 65) #[] #[.pointer (some ⟨q, 0, none⟩), .pointer (some ⟨r, 0, none⟩)]] 87)).alloc (.cells #[.slice none 0 0] 85)).alloc (.cells #[.slice (some ⟨g, 0, none⟩) C.length cap] 22)) = W3
  have hsz : W3.heap.size = w.heap.size + 3 := by rw [← hW3]; simp
  have hBe : W3.cell? ⟨w.heap.size + 1 + 1, 0, none⟩ = some (.slice (some ⟨g, 0, none⟩) C.length cap) := by
    rw [← hW3, World.cell?_alloc_at _ _ _ _ (by simp only [World.size_alloc])]; rfl
  have hI0 : LstI w (w.heap.size + 1) (w.heap.size + 2) 85 70 8 (fun l : List (OkW C) => ((valW l).filter Pr).length) (fun l => waysC ((valW l).filter Pr)) [] W3 ∧ Boxed W3 w.heap.size 87 (.func (.func 65) #[] #[.pointer (some ⟨q, 0, none⟩), .pointer (some ⟨r, 0, none⟩)]) := by
    rw [← hW3]
    refine ⟨⟨.slice none 0 0, ?_, World.ownsRow_nil _ _ _ _, b_next (b_next (below_alloc _ _) (below_alloc _ _)) (below_alloc _ _)⟩, ((Boxed.new w _ _).alloc _).alloc _⟩
    have h := Boxed.new (w.alloc (.cells #[.func (.func 65) #[] #[.pointer (some ⟨q, 0, none⟩), .pointer (some ⟨r, 0, none⟩)]] 87)) 85 (.slice none 0 0)
    rw [World.size_alloc] at h
    exact h.alloc _
  have HF0 : Hid (∀ X, Below w.heap.size w X → TblF X g ra rc C) := fun X h => HFw.out.below h
  clear hW3 HFw
  refine range_visits_boxR (α := OkW C) rfl (by omega) (gf := 96) (lb := #[.pointer (some ⟨w.heap.size + 1 + 1, 0, none⟩)]) rfl trivial (enters_of Try.func96 (by kernel_rfl) rfl)
    (encs := fun x : OkW C => #[wayV x.1]) (T := w.heap.size + 3) (B1 := w.heap.size + 1) (by omega) (S := fun ys => valW ys = asgW C) (Sp := fun pre => valW pre <+: asgW C) (N := (asgW C).length) (by omega)
    (fun W hW => asg_visitsR C g cap ra rc HR.out _ (w.heap.size + 1 + 1) (w.heap.size + 3) (w.heap.size + 1) (by omega) W (by have := hW.size; omega) ((World.cell?_of_block (a := ⟨w.heap.size + 1 + 1, 0, none⟩) (hW.block _ (by show w.heap.size + 1 + 1 < W3.heap.size; omega) (by simp))).trans hBe)) (fun _ => rfl)
    (fun pre X => LstI w (w.heap.size + 1) (w.heap.size + 2) 85 70 8 (fun l : List (OkW C) => ((valW l).filter Pr).length) (fun l => waysC ((valW l).filter Pr)) pre X ∧ Boxed X w.heap.size 87 (.func (.func 65) #[] #[.pointer (some ⟨q, 0, none⟩), .pointer (some ⟨r, 0, none⟩)]))
    (fun _ _ _ => False) (fun s A B row hs hg hr => ⟨bears_lst (by omega) s A B row hs.1 hg hr, boxed_bears hs.2 hg (fun r e => (hr r e).2)⟩) (fun _ _ _ _ _ h _ _ => h)
    (fun pre X h => HF0.out X (by obtain ⟨⟨v, _, _, hx⟩, _⟩ := h; exact hx)) (fun pre X h => h.1.cells) hI0
    (fun x => .cells (wayA x.1) 70)
    (fun x B => { tmps := #[.slice (some ⟨g, 0, none⟩) C.length cap, .func (.func 65) #[] #[.pointer (some ⟨q, 0, none⟩), .pointer (some ⟨r, 0, none⟩)], undef, .pointer (some ⟨w.heap.size, 0, none⟩), .slice none 0 0, .pointer (some ⟨w.heap.size + 1, 0, none⟩), .pointer (some ⟨B, 0, none⟩), .slice (some ⟨g, 0, none⟩) C.length cap, .func (.func 96) #[] #[.pointer (some ⟨w.heap.size + 1 + 1, 0, none⟩)], wayV x.1, undef, undef, undef, undef, undef, undef, undef, undef], defers := [] }) ?assign ?body ?done ?stop
  case assign =>
    intro l x W K hK
    unfold wayV at hK ⊢
    unfold wayA at hK
    gi_wp2
    exact hK
  case body =>
    rintro l pre x B W ⟨⟨v, hb, hown, hX⟩, hf⟩ hbx hB2 hlen
    obtain ⟨x, hx⟩ := x
    simp only at hbx
    obtain ⟨a0, a1, a2, a3, a4, a5, a6, a7⟩ := at8_lit hbx
    have c0 := hf.cell
    have hcl := HF.out x W hX
    have hws := wants_snoc Pr pre ⟨x, hx⟩
    simp only at hws
    have hlp : ((valW pre).filter Pr).length ≤ 823543 := by
      have h1 := List.length_filter_le Pr (valW pre)
      have h2 : (valW pre).length = pre.length := by simp [valW]
      omega
    obtain ⟨k, hk⟩ : ∃ k, ((valW pre).filter Pr).length = k := ⟨_, rfl⟩
    simp only [hk] at hown
    rw [hk] at hlp
    have HCl := Lib.hid hcl
    have Hb := Lib.hid hb
    have Hown := Lib.hid hown
    have HX := Lib.hid hX
    have Hf := Lib.hid hf
    have Hbx := Lib.hid hbx
    have Hws := Lib.hid hws
    have Hk := Lib.hid hk
    have hWs : B < W.heap.size := (Array.getElem?_eq_some_iff.1 hbx).1
    unfold wayV at HCl
    clear hcl hb hown hX hf hbx hws hk hI0 hBe
    unfold wayV
    gi_wp2_with fail
    refine ⟨trivial, ?_⟩
    refine (CallsIn.inRound _ (callsIn_wide.2 HCl.out)).mono ?_
    rintro e w5 ⟨rfl, z⟩
    have hg5 := gr_of z none
    have hb5 := Hb.out.kept hg5 (by simp)
    have d0 := hb5.cell
    have hbx5 := (z.block _ hWs).trans Hbx.out
    obtain ⟨a0, a1, a2, a3, a4, a5, a6, a7⟩ := at8_lit hbx5
    have Hg5 := Lib.hid hg5
    have Hb5 := Lib.hid hb5
    clear hg5 hb5 hbx5 z
    obtain ⟨p, hp'⟩ : ∃ p, Pr x = p := ⟨_, rfl⟩
    rw [hp']
    cases p with
    | true =>
      have hws := Hws.out
      rw [hp', if_pos rfl] at hws
      have HWS := Lib.hid hws
      clear hws hp'
      have hdef : wayA x = #[.int .i64 x.a, .int .i64 x.b, .int .i64 x.c, .int .i64 x.d, .int .i64 x.e, .int .i64 x.f, .int .i64 x.g, .int .i64 x.t] := rfl
      have hw := way_new w5 x 70
      rw [hdef] at hw
      have HW := Lib.hid hw
      have Hown5 := Lib.hid ((Hown.out.kept Hg5.out (by cases v.ownBlock <;> simp)).alloc (.cells #[.int .i64 x.a, .int .i64 x.b, .int .i64 x.c, .int .i64 x.d, .int .i64 x.e, .int .i64 x.f, .int .i64 x.g, .int .i64 x.t] 70))
      have hs5 := Hg5.out.size
      have hX5 := HX.out.size
      clear hw hdef
      gi_wp2_with (first | (gi_at_builtin; refine stopL ?_) | gi_in)
      unfold stopP
      refine wpListIn_append_own_at _ rfl _ _ 85 rfl (w.heap.size + 2) 70 i0 (.agg #[.int .i64 0, .int .i64 0, .int .i64 0, .int .i64 0, .int .i64 0, .int .i64 0, .int .i64 0, .int .i64 0]) 8 64 Try.underlying85 hi hz0 hz1 hz2 rfl (by decide) _ _ _ rfl Hown5.out ⟨w5.heap.size, 0, none⟩ 1 1 (wayC x) rfl rfl HW.out (wayC_one x) (by unfold maxLen; omega) (by omega) (by simp; omega) ?_
      intro v' w9 hown' hgrow _ hblk
      have hg8 : W.grownBy (w5.alloc (.cells #[.int .i64 x.a, .int .i64 x.b, .int .i64 x.c, .int .i64 x.d, .int .i64 x.e, .int .i64 x.f, .int .i64 x.g, .int .i64 x.t] 70)) none := Hg5.out.trans (World.grownBy_alloc _ _ none)
      have hb9 := (Hb5.out.alloc (.cells #[.int .i64 x.a, .int .i64 x.b, .int .i64 x.c, .int .i64 x.d, .int .i64 x.e, .int .i64 x.f, .int .i64 x.g, .int .i64 x.t] 70)).kept hgrow (Boxed.not_row (Hb5.out.alloc _) (by decide) Hown5.out)
      have c9 := hb9.cell
      have f9 := hb9.frozen
      have l9 := hb9.lt
      have hst := lst_step (s := pre) (s' := pre ++ [⟨x, hx⟩]) (T := w.heap.size + 3) (ln := fun l : List (OkW C) => ((valW l).filter Pr).length) (cs := fun l => waysC ((valW l).filter Pr)) (by omega) (by decide) (by omega) (by omega) Hb.out Hown.out HX.out hg8 hown' hgrow hblk (by rw [HWS.out, List.length_append, Hk.out]; rfl) (by rw [HWS.out, waysC_snoc])
      have hff := (((Hf.out.kept Hg5.out (by simp)).alloc (.cells #[.int .i64 x.a, .int .i64 x.b, .int .i64 x.c, .int .i64 x.d, .int .i64 x.e, .int .i64 x.f, .int .i64 x.g, .int .i64 x.t] 70)).kept hgrow (Boxed.not_row ((Hf.out.kept Hg5.out (by simp)).alloc _) (by decide) Hown5.out)).other (B' := w.heap.size + 1) (by omega) v'
      have HST := Lib.hid hst
      have HFF := Lib.hid hff
      obtain ⟨av, cv, hv'⟩ : ∃ av cv, v' = .slice av (k + 1) cv := by
        rcases hown'.2 with ⟨_, h⟩ | ⟨g', cap', cur, h, _⟩
        · omega
        · exact ⟨_, _, h⟩
      subst hv'
      clear hb9 hown' hgrow hblk hst hff hg8
      gi_wp2
      exact ⟨HST.out.1, HST.out.2, HFF.out⟩
    | false =>
      have hws := Hws.out
      rw [hp', if_neg (by simp), List.append_nil] at hws
      have HWS := Lib.hid hws
      clear hws hp'
      gi_wp2_with fail
      refine show KeepsR _ _ _ _ ∧ _ from ?_
      refine ⟨KeepsR.of_grown (by omega) Hg5.out, lst_same (s := pre) (s' := pre ++ [⟨x, hx⟩]) ⟨v, Hb.out, by rw [Hk.out]; exact Hown.out, HX.out⟩ Hg5.out (by rw [HWS.out]) (by rw [HWS.out]), Hf.out.kept Hg5.out (by simp)⟩
  case stop =>
    rintro D c pre X hD hSp hF hDf
    exact hF.elim
  case done =>
    rintro D xs X hD hS ⟨⟨v, hb, hown, hX⟩, hf⟩ hDf
    have c0 := hb.cell
    simp only [hS] at hown
    have Hown := Lib.hid hown
    have HX := Lib.hid hX
    have HDf := Lib.hid hDf
    have hDl : w.heap.size + 2 ≤ D := by omega
    clear hown hX hDf hD hb hf hI0 hBe hS
    gi_wp2
    refine leaves_one (by simp) (n₀ := w.heap.size) (Φ := fun Y => Y.ownsRow w.heap.size 70 8 v ((asgW C).filter Pr).length (waysC ((asgW C).filter Pr)) ∧ Below w.heap.size w Y) ?_ ?_ D X (by omega) HDf.out ⟨own_base Hown.out (by omega), HX.out⟩
    · rintro Y D' ⟨h1, h2⟩ hD' hk
      exact ⟨own_kept h1 hk, h2.grown (grownBy_putObj' Y D' _) h2.size (fun q e => by cases e; omega)⟩
    · rintro Y ⟨h1, h2⟩
      refine ⟨v, ?_, v, rfl, h1, h2⟩
      simp [results, Try.f64, go_sem]
end Go.Proofs.Ytambhhjbafefgaa

/- sortedTotals: the totals of all assignments, sorted. -/
namespace Go.Proofs.Ytambhhjbafefgaa
set_option linter.unusedVariables false
open Go.RowKit Go.Shelf Go.Maps Go.Sort
attribute [local go_sem] Oper.semAt_some

/-- the totals of all assignments, sorted -/
def sortT (C : List (List Int)) : List Int := ((asgW C).map (·.t)).mergeSort fun x y => decide (x ≤ y)

set_option maxRecDepth 100000 in
set_option maxHeartbeats 4000000 in
theorem sortedTotals_any (C : List (List Int)) (a : Option Addr) (cap : Nat) (w : World) (h : Tbl w a C) (hcC : costsB C = true) :
    Calls Try.prog 63 #[.slice a C.length cap] w fun e w' => ∃ g cap', e = .returned (.slice (some ⟨g, 0, none⟩) (asgW C).length cap') ∧ (asgW C).length ≤ cap' ∧
      w'.ownsRow w.heap.size 3 1 (.slice (some ⟨g, 0, none⟩) (asgW C).length cap') (asgW C).length (intL (sortT C)) ∧ Below w.heap.size w w' := by
  refine (callsIn_wide (n := 6)).1 ?_
  obtain ⟨i0, hi, hz0, hz1, hz2⟩ := info_parts info_int
  obtain ⟨hR, hp⟩ := Rect.of_costs hcC
  have hn7 := hR.n7
  have hAL := asgW_len hn7
  have hAL1 := asgW_pos hn7
  obtain ⟨g, ra, rc, rfl, hFt⟩ := TblF.of h hp
  have HR := Lib.hid hR
  have HFw := Lib.hid hFt
  clear h hFt hcC
  refine callsIn_of_wp_marks Try.func63 rfl trivial ?_ rfl
  simp only [Try.ntmps63, List.size_toArray, List.length_cons, List.length_nil, Nat.reduceAdd, Nat.reduceSub, Array.replicate_succ, Array.replicate_zero, List.push_toArray, List.append_toArray, List.nil_append, List.cons_append]
  gi_wp2_with fail
  refine ⟨trivial, ?_⟩
  refine (assignments_in _ _ _ _ _).mono ?_
  rintro e w' ⟨rfl, rfl⟩
  gi_wp2_with fail
  generalize hW3 : ((w.alloc (.cells #[.slice none 0 0] 24)).alloc (.cells #[.slice (some ⟨g, 0, none⟩) C.length cap] 22)) = W3
  have hsz : W3.heap.size = w.heap.size + 2 := by rw [← hW3]; simp
  have hBe : W3.cell? ⟨w.heap.size + 1, 0, none⟩ = some (.slice (some ⟨g, 0, none⟩) C.length cap) := by
    rw [← hW3, World.cell?_alloc_at _ _ _ _ (by simp only [World.size_alloc])]; rfl
  have hI0 : LstI w w.heap.size (w.heap.size + 1) 24 3 1 (fun l : List (OkW C) => l.length) (fun l => intL ((valW l).map (·.t))) [] W3 := by
    rw [← hW3]
    exact ⟨.slice none 0 0, (Boxed.new w _ _).alloc _, World.ownsRow_nil _ _ _ _, b_next (below_alloc _ _) (below_alloc _ _)⟩
  have HF0 : Hid (∀ X, Below w.heap.size w X → TblF X g ra rc C) := fun X h => HFw.out.below h
  clear hW3 HFw
  refine range_visits_boxR (α := OkW C) rfl (by omega) (gf := 96) (lb := #[.pointer (some ⟨w.heap.size + 1, 0, none⟩)]) rfl trivial (enters_of Try.func96 (by kernel_rfl) rfl)
    (encs := fun x : OkW C => #[wayV x.1]) (T := w.heap.size + 2) (B1 := w.heap.size) (by omega) (S := fun ys => valW ys = asgW C) (Sp := fun pre => valW pre <+: asgW C) (N := (asgW C).length) (by omega)
    (fun W hW => asg_visitsR C g cap ra rc HR.out _ (w.heap.size + 1) (w.heap.size + 2) w.heap.size (by omega) W (by have := hW.size; omega) ((World.cell?_of_block (a := ⟨w.heap.size + 1, 0, none⟩) (hW.block _ (by show w.heap.size + 1 < W3.heap.size; omega) (by simp))).trans hBe)) (fun _ => rfl)
    (fun pre X => LstI w w.heap.size (w.heap.size + 1) 24 3 1 (fun l : List (OkW C) => l.length) (fun l => intL ((valW l).map (·.t))) pre X)
    (fun _ _ _ => False) (bears_lst (by omega)) (fun _ _ _ _ _ h _ _ => h)
    (fun pre X h => HF0.out X (by obtain ⟨v, _, _, hx⟩ := h; exact hx)) (fun pre X h => h.cells) hI0
    (fun x => .cells (wayA x.1) 70)
    (fun x B => { tmps := #[.slice (some ⟨g, 0, none⟩) C.length cap, undef, .slice none 0 0, .pointer (some ⟨w.heap.size, 0, none⟩), .pointer (some ⟨B, 0, none⟩), .slice (some ⟨g, 0, none⟩) C.length cap, .func (.func 96) #[] #[.pointer (some ⟨w.heap.size + 1, 0, none⟩)], wayV x.1, undef, undef, undef, undef, undef, undef, undef, undef], defers := [] }) ?assign ?body ?done ?stop
  case assign =>
    intro l x W K hK
    unfold wayV at hK ⊢
    unfold wayA at hK
    gi_wp2
    exact hK
  case body =>
    rintro l pre x B W ⟨v, hb, hown, hX⟩ hbx hB2 hlen
    obtain ⟨x, hx⟩ := x
    simp only at hbx hown
    obtain ⟨a0, a1, a2, a3, a4, a5, a6, a7⟩ := at8_lit hbx
    have c0 := hb.cell
    obtain ⟨k, hk⟩ : ∃ k, pre.length = k := ⟨_, rfl⟩
    rw [hk] at hown hlen
    have Hb := Lib.hid hb
    have Hown := Lib.hid hown
    have HX := Lib.hid hX
    have Hk := Lib.hid hk
    have Hown5 := Lib.hid (hown.alloc (.cells #[.int .i64 x.t] 3))
    have hX5 := hX.size
    have hlb := hb.lt
    have hWs : B < W.heap.size := (Array.getElem?_eq_some_iff.1 hbx).1
    clear hb hown hX hbx hk hI0 hBe
    unfold wayV
    gi_wp2_with (first | (gi_at_builtin; refine stopL ?_) | gi_in)
    unfold stopP
    refine wpListIn_append_own_at _ rfl _ _ 24 rfl (w.heap.size + 1) 3 i0 (.int .i64 0) 1 8 Try.underlying24 hi hz0 hz1 hz2 rfl (by decide) _ _ _ rfl Hown5.out ⟨W.heap.size, 0, none⟩ 1 1 [.int .i64 x.t] rfl rfl (one_new _ _ _ _ rfl) (by simp [Value.oneCell']) (by unfold maxLen; omega) (by omega) (by simp; omega) ?_
    intro v' w9 hown' hgrow _ hblk
    have hb9 := (Hb.out.alloc (.cells #[.int .i64 x.t] 3)).kept hgrow (Boxed.not_row (Hb.out.alloc _) (by decide) Hown5.out)
    have c9 := hb9.cell
    have f9 := hb9.frozen
    have l9 := hb9.lt
    have hst := lst_step (s := pre) (s' := pre ++ [⟨x, hx⟩]) (T := w.heap.size + 2) (ln := fun l : List (OkW C) => l.length) (cs := fun l => intL ((valW l).map (·.t))) (by omega) (by decide) (by omega) (by omega) Hb.out Hown.out HX.out (World.grownBy_alloc W (.cells #[.int .i64 x.t] 3) none) hown' hgrow hblk (by rw [List.length_append, Hk.out]; rfl) (by rw [valW_snoc, List.map_append]; unfold intL; rw [List.map_append]; rfl)
    have HST := Lib.hid hst
    obtain ⟨av, cv, hv'⟩ : ∃ av cv, v' = .slice av (k + 1) cv := by
      rcases hown'.2 with ⟨_, h⟩ | ⟨g', cap', cur, h, _⟩
      · omega
      · exact ⟨_, _, h⟩
    subst hv'
    clear hb9 hown' hgrow hblk hst
    gi_wp2
    exact HST.out
  case stop =>
    rintro D c pre X hD hSp hF hDf
    exact hF.elim
  case done =>
    rintro D xs X hD hS ⟨v, hb, hown, hX⟩ hDf
    have c0 := hb.cell
    simp only [hS] at hown
    have hlen : xs.length = (asgW C).length := by rw [← hS]; simp [valW]
    rw [hlen] at hown
    rcases hown.2 with ⟨_, h0⟩ | ⟨gb, cp, cur, rfl, hgb, hcur, h4, h5, h6, h7⟩
    · omega
    have hll : ((asgW C).map (·.t)).length = (asgW C).length := List.length_map _
    have hso := fun W' h1 h2 => Any.slices_Sort_int Try.lays189 gb 0 cp ((asgW C).map (·.t)) W' h1 h2 (by rw [hll]; omega)
    rw [hll] at hso
    have hh := holds_of_blockI hcur (ss := (asgW C).map (·.t)) (by rw [hll, ← Nat.mul_one (asgW C).length]; exact h7)
    obtain ⟨n, hn⟩ : ∃ n, (asgW C).length = n := ⟨_, rfl⟩
    have hst : (sortT C).length = n := by unfold sortT; rw [List.length_mergeSort, hll, hn]
    obtain ⟨St, hSt⟩ : ∃ S, sortT C = S := ⟨_, rfl⟩
    have hSt2 : ((asgW C).map (·.t)).mergeSort (fun x y => decide (x ≤ y)) = St := hSt
    rw [hSt2, hn] at hso
    rw [hn] at hll h4 hown hlen
    rw [hSt] at hst
    have hl1 : St.length = ((asgW C).map (·.t)).length := by rw [hst, hll]
    have hrow := fun m os => ownsRow_sortedI (w := X) (base := w.heap.size + 1) (g := gb) (cap := cp) (n := m) (os := os) (ts := St) hl1 hgb hcur (by rw [hll]; exact h4) h5 h6
    rw [hll] at hrow
    have hgl : gb < X.heap.size := (Array.getElem?_eq_some_iff.1 hcur).1
    have hne : w.heap.size ≠ gb := by omega
    have Hso := Lib.hid (hso X hh hgl)
    have Hb := Lib.hid hb
    have HX := Lib.hid hX
    have HDf := Lib.hid hDf
    have Hrow := Lib.hid hrow
    have hcurD : X.heap[D]? = some (.deferred (some [])) := hDf
    have hgD : gb ≠ D := fun e => by rw [e, hDf] at hcur; cases hcur
    have hDl : w.heap.size + 1 ≤ D := by omega
    clear hso hb hX hDf hrow hown hI0 hBe hS hh h5 h6 h7 hcur hlen hll hl1 hSt2 hcurD hD
    gi_wp2_with fail
    refine ⟨trivial, ?_⟩
    refine (callsIn_wide.2 Hso.out).mono ?_
    rintro e w' ⟨rfl, m, os, rfl⟩
    have hgr := grownBy_sortedI (w := X) (g := gb) (n := m) (os := os) St.toArray
    have hb2 := Hb.out.kept hgr (by intro e; exact hne (Option.some.inj e))
    have c1 := hb2.cell
    have hDf2 := (hgr.block D (Array.getElem?_eq_some_iff.1 HDf.out).1 (by intro e; exact hgD (Option.some.inj e).symm)).trans HDf.out
    have hX2 : Below w.heap.size w (grow (putRow (Value.int .i64) (Sort.ahead X m) gb 0 St.toArray) os) := HX.out.grown hgr HX.out.size (fun k e => by have := Option.some.inj e; omega)
    have hrw := Hrow.out m os
    generalize grow (putRow (Value.int .i64) (Sort.ahead X m) gb 0 St.toArray) os = Y at hb2 c1 hDf2 hX2 hrw ⊢
    clear hb2 hgr
    have HDf2 := Lib.hid hDf2
    have HX2 := Lib.hid hX2
    have Hrw := Lib.hid hrw
    clear hDf2 hX2 hrw
    gi_wp2
    refine leaves_one (by simp) (n₀ := w.heap.size) (Φ := fun Z => Z.ownsRow w.heap.size 3 1 (.slice (some ⟨gb, 0, none⟩) n cp) n (intL St) ∧ Below w.heap.size w Z) ?_ ?_ D Y (by omega) HDf2.out ⟨own_base Hrw.out (by omega), HX2.out⟩
    · rintro Y D' ⟨h1, h2⟩ hD' hk
      exact ⟨own_kept h1 hk, h2.grown (grownBy_putObj' Y D' _) h2.size (fun q e => by cases e; omega)⟩
    · rintro Y ⟨h1, h2⟩
      refine ⟨.slice (some ⟨gb, 0, none⟩) n cp, ?_, gb, cp, by rw [hn], by rw [hn]; omega, by rw [hn, hSt]; exact h1, h2⟩
      simp [results, Try.f63, go_sem]
end Go.Proofs.Ytambhhjbafefgaa

/- Sorted lists and counts: mathematics. -/
namespace Go.Proofs.Ytambhhjbafefgaa
set_option linter.unusedVariables false
theorem sorted_lt {S : List Int} (h : S.Pairwise (· ≤ ·)) {k : Nat} {τ : Int} (hk : S[k]? = some τ) : S.countP (fun x => decide (x < τ)) ≤ k := by
  have h1 := List.getElem?_eq_some_iff.1 hk
  obtain ⟨hl, he⟩ := h1
  have hd : S.drop k = τ :: S.drop (k + 1) := by rw [List.drop_eq_getElem_cons hl, he]
  have hs := h
  rw [← List.take_append_drop k S, hd] at hs
  have hp := (List.pairwise_append.1 hs).2.1
  have h0 : (S.drop k).countP (fun x => decide (x < τ)) = 0 := by
    rw [hd, List.countP_eq_zero]
    intro x hx
    rcases List.mem_cons.1 hx with rfl | hx
    · simp
    · have := (List.pairwise_cons.1 hp).1 x hx
      simp; omega
  conv => lhs; rw [← List.take_append_drop k S]
  rw [List.countP_append, h0, Nat.add_zero]
  refine Nat.le_trans List.countP_le_length ?_
  rw [List.length_take]; omega
theorem sorted_le {S : List Int} (h : S.Pairwise (· ≤ ·)) {k : Nat} {τ : Int} (hk : S[k]? = some τ) : k < S.countP (fun x => decide (x ≤ τ)) := by
  obtain ⟨hl, he⟩ := List.getElem?_eq_some_iff.1 hk
  have hd : S.drop k = τ :: S.drop (k + 1) := by rw [List.drop_eq_getElem_cons hl, he]
  have hs := h
  rw [← List.take_append_drop k S, hd] at hs
  have hp := (List.pairwise_append.1 hs).2.2
  have h0 : (S.take k).countP (fun x => decide (x ≤ τ)) = k := by
    rw [List.countP_eq_length.2 (fun x hx => by have := hp x hx τ (by simp); simpa using this), List.length_take]; omega
  conv => rhs; rw [← List.take_append_drop k S]
  rw [List.countP_append, h0, hd, List.countP_cons]
  simp
theorem count_le (l : List Int) (τ : Int) : l.countP (fun x => decide (x ≤ τ)) = l.countP (fun x => decide (x < τ)) + l.countP (fun x => decide (x = τ)) := by
  induction l with
  | nil => rfl
  | cons x l ih =>
    rw [List.countP_cons, List.countP_cons, List.countP_cons, ih]
    by_cases h1 : x < τ
    · have h2 : x ≤ τ := by omega
      have h3 : x ≠ τ := by omega
      simp [h1, h2, h3]; omega
    · by_cases h2 : x = τ
      · subst h2; simp; omega
      · have h3 : ¬ x ≤ τ := by omega
        simp [h1, h2, h3]
theorem sortT_sorted (C : List (List Int)) : (sortT C).Pairwise (· ≤ ·) := by
  have h := List.pairwise_mergeSort (le := fun x y : Int => decide (x ≤ y)) (fun a b c h1 h2 => by simp at h1 h2 ⊢; omega) (fun a b => by simp; omega) ((asgW C).map (·.t))
  exact h.imp fun h => by simpa using h
theorem sortT_count (C : List (List Int)) (p : Int → Bool) : (sortT C).countP p = (asgW C).countP fun x => p x.t := by
  have h := (List.mergeSort_perm ((asgW C).map (·.t)) fun x y : Int => decide (x ≤ y)).countP_eq p
  rw [List.countP_map] at h
  exact h
theorem sortT_len (C : List (List Int)) : (sortT C).length = (asgW C).length := by unfold sortT; rw [List.length_mergeSort, List.length_map]
/-- the total of the assignment at a place of the order -/
def totK (C : List (List Int)) (k : Nat) : Int := (sortT C).getD k 0
/-- how many assignments are cheaper -/
def cheap (C : List (List Int)) (t : Int) : Nat := (asgW C).countP fun x => decide (x.t < t)
/-- the assignment at a place of the order -/
def itemW (C : List (List Int)) (k : Nat) : Way := ((asgW C).filter fun x => decide (x.t = totK C k)).getD (k - cheap C (totK C k)) Way.zero
theorem totK_get {C : List (List Int)} {k : Nat} (hk : k < (asgW C).length) : (sortT C)[k]? = some (totK C k) := by
  unfold totK
  rw [List.getD_eq_getElem?_getD, List.getElem?_eq_getElem (by rw [sortT_len]; exact hk)]; rfl
theorem cheap_le {C : List (List Int)} {k : Nat} (hk : k < (asgW C).length) : cheap C (totK C k) ≤ k := by
  have h := sorted_lt (sortT_sorted C) (totK_get hk)
  rw [sortT_count] at h
  exact h
theorem same_lt {C : List (List Int)} {k : Nat} (hk : k < (asgW C).length) : k < cheap C (totK C k) + ((asgW C).filter fun x => decide (x.t = totK C k)).length := by
  have h := sorted_le (sortT_sorted C) (totK_get hk)
  rw [count_le, sortT_count, sortT_count] at h
  rw [← List.countP_eq_length_filter]
  exact h
end Go.Proofs.Ytambhhjbafefgaa

/- Item. -/
namespace Go.Proofs.Ytambhhjbafefgaa
set_option linter.unusedVariables false
open Go.RowKit Go.Shelf

set_option maxRecDepth 100000 in
set_option maxHeartbeats 4000000 in
theorem item1_any (x : Way) (q r g n cap k : Nat) (t : Int) (w : World) (hq : w.cell? ⟨q, 0, none⟩ = some (.slice (some ⟨g, 0, none⟩) n cap)) (hr : w.cell? ⟨r, 0, none⟩ = some (.int .i64 k)) (hk : k < n) (hg : w.cell? ⟨g, k, none⟩ = some (.int .i64 t)) :
    Calls Try.prog 65 #[wayV x, .pointer (some ⟨q, 0, none⟩), .pointer (some ⟨r, 0, none⟩)] w fun e w' => e = .returned (.bool (decide (x.t = t))) ∧ Below w.heap.size w w' := by
  have hlq := World.block_lt_of_cell? w _ hq
  have hlr := World.block_lt_of_cell? w _ hr
  have hlg := World.block_lt_of_cell? w _ hg
  have hc : (k : Int) < n := by omega
  unfold wayV
  go_enter Try.func65, Try.ntmps65
  go_wp2
  go_quiet (fail)
  go_wp2
  go_ret
  exact ⟨ret_bool (by rw [Bool.eq_iff_iff, beq_iff_eq, decide_eq_true_eq]), below_drewN (below_alloc _ _) _⟩

set_option maxRecDepth 100000 in
set_option maxHeartbeats 4000000 in
theorem Item_no (C : List (List Int)) (a : Option Addr) (cap : Nat) (k : Int) (w : World) (h : Tbl w a C) (hn : C.length ≤ 1000) (hr : ∀ row ∈ C, row.length ≤ 1000) (hw : costsB C = false ∨ costsB C = true ∧ (k < 0 ∨ ((asgW C).length : Int) ≤ k)) :
    Calls Try.prog 30 #[.slice a C.length cap, .int .i64 k] w fun e w' => e = .returned (.tuple #[.slice none 0 0, .int .i64 2]) ∧ Below w.heap.size w w' := by
  have hC := fun w' h => isCosts_any a cap C w' h hn hr
  have ba := below_alloc w (.cells #[.int .i64 k] 3)
  have HC := Lib.hid hC
  have H := Lib.hid (h.below ba)
  have Ba := Lib.hid ba
  rcases hw with hw | ⟨hw, hk⟩
  · have HW := Lib.hid hw
    clear hw h hC ba
    go_enter Try.func30, Try.ntmps30
    go_wp2_with (go_at_call 53; refine (HC.out _ H.out).mono ?_; rintro e w' ⟨rfl, rfl⟩; rw [HW.out])
    go_ret2
    exact ⟨rfl, Ba.out⟩
  · have hS := fun W h => sortedTotals_any C a cap W h hw
    have HS := Lib.hid hS
    have HW := Lib.hid hw
    have hbx := Boxed.new w 3 (.int .i64 k)
    have Hbx := Lib.hid hbx
    obtain ⟨n, hn2⟩ : ∃ n, (asgW C).length = n := ⟨_, rfl⟩
    rw [hn2] at hk
    have Hn2 := Lib.hid hn2
    clear hw h hC ba hS hbx hn2
    go_enter Try.func30, Try.ntmps30
    go_wp2_with (go_at_call 53; refine (HC.out _ H.out).mono ?_; rintro e w' ⟨rfl, rfl⟩; rw [HW.out])
    go_wp2_with fail
    refine (HS.out _ H.out).mono ?_
    rintro e w1 ⟨g, cap', rfl, hcap, hown, b1⟩
    rw [Hn2.out] at hcap ⊢
    have k1 : w1.cell? ⟨w.heap.size, 0, none⟩ = some (.int .i64 k) := (b1.cell (p := ⟨w.heap.size, 0, none⟩) (by simp)).trans Hbx.out.cell
    have l1 := World.block_lt_of_cell? w1 _ k1
    have B1 := Lib.hid (b_next Ba.out b1)
    clear hown b1
    rcases hk with hk | hk
    · go_wp2
      go_ret2
      exact ⟨rfl, b_next B1.out (below_alloc _ _)⟩
    · by_cases h0 : k < 0
      · exfalso; omega
      · go_wp2
        go_ret2
        exact ⟨rfl, b_next B1.out (below_alloc _ _)⟩
set_option maxRecDepth 100000 in
set_option maxHeartbeats 4000000 in
theorem Item_yes (C : List (List Int)) (a : Option Addr) (cap : Nat) (k : Nat) (w : World) (h : Tbl w a C) (hw : costsB C = true) (hk : k < (asgW C).length) :
    Calls Try.prog 30 #[.slice a C.length cap, .int .i64 k] w fun e w' => ∃ v, e = .returned (.tuple #[v, .int .i64 0]) ∧ w'.ownsRow w.heap.size 3 1 v C.length (intL ((itemW C k).holes.take C.length)) ∧ Below w.heap.size w w' := by
  obtain ⟨hRc, hp⟩ := Rect.of_costs hw
  have hn7 := hRc.n7
  have hC := fun w' h => isCosts_any a cap C w' h (by omega) (fun row hrow => by have := hRc.len row hrow; omega)
  rw [hw] at hC
  have ba := below_alloc w (.cells #[.int .i64 k] 3)
  have hS := fun W h => sortedTotals_any C a cap W h hw
  have hbx := Boxed.new w 3 (.int .i64 k)
  have hT := fun q r W h hF => those_Item C a cap q r (fun x => decide (x.t = totK C k)) W h hw hF
  have hAL := asgW_len hn7
  have hget := totK_get hk
  have hcl := cheap_le hk
  have hsl := same_lt hk
  have hit : itemW C k = ((asgW C).filter fun x => decide (x.t = totK C k)).getD (k - cheap C (totK C k)) Way.zero := rfl
  have hcnt := sortT_count C fun x => decide (x < totK C k)
  have hcnt2 : (sortT C).countP (fun x => decide (x < totK C k)) = cheap C (totK C k) := hcnt
  have hso := sortT_sorted C
  have hsl2 := sortT_len C
  obtain ⟨t, ht⟩ : ∃ t, totK C k = t := ⟨_, rfl⟩
  rw [ht] at hT hget hcl hsl hit hcnt2
  obtain ⟨L, hL⟩ : ∃ L, (asgW C).filter (fun x => decide (x.t = t)) = L := ⟨_, rfl⟩
  obtain ⟨ch, hch⟩ : ∃ c, cheap C t = c := ⟨_, rfl⟩
  rw [hL] at hT hsl hit
  rw [hch] at hcl hsl hit hcnt2
  obtain ⟨n, hn2⟩ : ∃ n, (asgW C).length = n := ⟨_, rfl⟩
  rw [hn2] at hk hAL hsl2
  obtain ⟨x, hx⟩ : ∃ x, L[k - ch]? = some x := ⟨_, List.getElem?_eq_getElem (by omega)⟩
  rw [List.getD_eq_getElem?_getD, hx] at hit
  simp only [Option.getD_some] at hit
  have hli := fun w' => list_any x C.length hn7 w'
  have hbs := fun b c w' hc => Any.slices_BinarySearch_int Try.laysNm225 b 0 n c (sortT C) t w' (by omega) (by omega) hc (by rw [List.take_of_length_le (by omega)]; exact hso)
  rw [List.take_of_length_le (by omega), show (sortT C).countP (fun x => decide (x < t)) = ch from hcnt2] at hbs
  have hLl : L.length ≤ n := by rw [← hL, ← hn2]; exact List.length_filter_le _ _
  rw [hit]
  have HC := Lib.hid hC
  have H := Lib.hid (h.below ba)
  have Ba := Lib.hid ba
  have HS := Lib.hid hS
  have Hbx := Lib.hid hbx
  have HT := Lib.hid hT
  have HLi := Lib.hid hli
  have HBs := Lib.hid hbs
  have Hn2 := Lib.hid hn2
  have Hget := Lib.hid hget
  have Hx := Lib.hid hx
  unfold wayV at HLi
  clear hw h hC ba hS hbx hT hli hbs hn2 hget hx hit hcnt hcnt2 hso hsl2 hL hch ht hRc
  go_enter Try.func30, Try.ntmps30
  go_wp2_with (go_at_call 53; refine (HC.out _ H.out).mono ?_; rintro e w' ⟨rfl, rfl⟩)
  go_wp2_with fail
  refine (HS.out _ H.out).mono ?_
  rintro e w1 ⟨g, cap', rfl, hcap, hown, b1⟩
  rw [Hn2.out] at hcap hown ⊢
  have k1 : w1.cell? ⟨w.heap.size, 0, none⟩ = some (.int .i64 k) := (b1.cell (p := ⟨w.heap.size, 0, none⟩) (by simp)).trans Hbx.out.cell
  have l1 := World.block_lt_of_cell? w1 _ k1
  obtain ⟨a9, c9, hv9, hR9⟩ := Row.of_own hown
  simp only [Value.slice.injEq] at hv9
  obtain ⟨rfl, _, rfl⟩ := hv9
  obtain ⟨g', hg', hgl, hgc⟩ := hR9.2 (by omega)
  obtain rfl : g = g' := by simpa using hg'
  have B1 := Lib.hid (b_next Ba.out b1)
  have H1 := Lib.hid (H.out.below b1)
  have hkc : (k : Int) < n := by omega
  have hk0 : ¬ (k : Int) < 0 := by omega
  have hkn : ¬ (k : Int) ≥ n := by omega
  have ha := below_alloc w1 (.cells #[.slice (some ⟨g, 0, none⟩) n cap'] 24)
  have hbt := Boxed.new w1 24 (.slice (some ⟨g, 0, none⟩) n cap')
  have Ha := Lib.hid ha
  have Hbt := Lib.hid hbt
  have K1 := Lib.hid k1
  have Hgc := Lib.hid hgc
  clear hown hR9 b1 hgc ha hbt
  go_wp2_with fail
  refine (HT.out w1.heap.size w.heap.size _ (H1.out.below Ha.out) (fun x W hW => ?_)).mono ?_
  · have e1 : W.cell? ⟨w1.heap.size, 0, none⟩ = some (.slice (some ⟨g, 0, none⟩) n cap') := (hW.cell (p := ⟨w1.heap.size, 0, none⟩) (by simp)).trans Hbt.out.cell
    have e2 : W.cell? ⟨w.heap.size, 0, none⟩ = some (.int .i64 k) := (hW.cell (p := ⟨w.heap.size, 0, none⟩) (by simp; omega)).trans ((Ha.out.cell (p := ⟨w.heap.size, 0, none⟩) l1).trans K1.out)
    have e3 : W.cell? ⟨g, k, none⟩ = some (.int .i64 t) := (hW.cell (p := ⟨g, k, none⟩) (by simp; omega)).trans ((Ha.out.cell (p := ⟨g, k, none⟩) hgl).trans (Hgc.out k _ (intL_get Hget.out)))
    exact item1_any x w1.heap.size w.heap.size g n cap' k t W e1 e2 hk e3
  rintro e w2 ⟨v, rfl, hown2, b2⟩
  obtain ⟨ads, cs, rfl, hWs⟩ := Ways.of_own hown2
  obtain ⟨gs, rfl, hgsl, hA8⟩ := hWs.at8 Hx.out
  have e1 : w2.cell? ⟨w1.heap.size, 0, none⟩ = some (.slice (some ⟨g, 0, none⟩) n cap') := (b2.cell (p := ⟨w1.heap.size, 0, none⟩) (by simp)).trans Hbt.out.cell
  have e2 : w2.cell? ⟨w.heap.size, 0, none⟩ = some (.int .i64 k) := (b2.cell (p := ⟨w.heap.size, 0, none⟩) (by simp; omega)).trans ((Ha.out.cell (p := ⟨w.heap.size, 0, none⟩) l1).trans K1.out)
  have hrow : ∀ j u, (intL (sortT C))[j]? = some u → w2.cell? ⟨g, j, none⟩ = some u := fun j u hj => (b2.cell (p := ⟨g, j, none⟩) (by simp; omega)).trans ((Ha.out.cell (p := ⟨g, j, none⟩) hgl).trans (Hgc.out j u hj))
  have e3 := hrow k _ (intL_get Hget.out)
  have hw2l : w1.heap.size < w2.heap.size := by have := b2.size; simp at this; omega
  have hbc : ∀ j, j < (sortT C).length → w2.cell? ⟨g, 0 + j, none⟩ = some (.int .i64 ((sortT C).getD j 0)) := fun j hj => by rw [Nat.zero_add]; exact hrow j _ (intL_get (by rw [List.getD_eq_getElem?_getD, List.getElem?_eq_getElem hj]; rfl))
  have hBs : ∀ W : World, W.cell? = w2.cell? → Calls Try.prog 66 #[.slice (some ⟨g, 0, none⟩) n cap', .int .i64 t] W fun e w' => e = .returned (.tuple #[.int .i64 ch, .bool ((sortT C).contains t)]) ∧ ∃ q, w' = W.drewN q := fun W hc => HBs.out g cap' W (fun j hj => by rw [hc]; exact hbc j hj)
  have HBs2 := Lib.hid hBs
  have B2 := Lib.hid (b_next B1.out (b_next Ha.out b2))
  have HA8 := Lib.hid hA8
  clear hown2 hWs b2 hrow hbc hBs k1 K1 Hbt HBs
  go_wp2_with fail
  go_region_held3 (fun w' => w'.cell? ⟨w1.heap.size, 0, none⟩ = some (.slice (some ⟨g, 0, none⟩) n cap') ∧ w'.cell? ⟨w.heap.size, 0, none⟩ = some (.int .i64 k) ∧ w'.cell? ⟨g, k, none⟩ = some (.int .i64 t))
    (exact ⟨e1, e2, e3⟩)
    (first
      | (go_at_call 66; refine (HBs2.out _ (by rfl)).mono ?_; rintro e y1 ⟨rfl, q1, rfl⟩))
  have hjl : k - ch < L.length := by omega
  have hw1 : IntKind.i64.wrap ((k : Int) - ch) = ((k - ch : Nat) : Int) := by rw [IntWalk.i64_in _ (by omega)]; omega
  obtain ⟨j, hj⟩ : ∃ j, k - ch = j := ⟨_, rfl⟩
  have h8 := HA8.out
  rw [hj] at hjl hw1 h8
  obtain ⟨d0, d1, d2, d3, d4, d5, d6, d7⟩ := h8
  have hjc : (j : Int) < L.length := by omega
  clear hj e1 e2 e3 HA8
  go_wp2_with fail
  refine (HLi.out _).mono ?_
  rintro e w3 ⟨v, rfl, hown3, b3⟩
  go_wp2
  go_ret2
  exact ⟨v, rfl, own_base hown3 (by have := B2.out.size; exact this), b_next (below_drewN B2.out _) b3⟩
end Go.Proofs.Ytambhhjbafefgaa

/- The reference's Item. -/
namespace Go.Proofs.Ytambhhjbafefgaa
set_option linter.unusedVariables false
open Go.RowKit

/-- the total of an assignment, as a list -/
def totL (C : List (List Int)) (n : Nat) (r : List Int) : Int := (wayP C r n).t
theorem take_filter {α : Type} (p : α → Bool) (l : List α) (i : Nat) (x : α) (h : l[i]? = some x) (hp : p x = true) : (l.filter p)[(l.take i).countP p]? = some x := by
  obtain ⟨hl, he⟩ := List.getElem?_eq_some_iff.1 h
  have hd : l.drop i = x :: l.drop (i + 1) := by rw [List.drop_eq_getElem_cons hl, he]
  have hf : l.filter p = (l.take i).filter p ++ (l.drop i).filter p := by rw [← List.filter_append, List.take_append_drop]
  rw [hf, List.countP_eq_length_filter, List.getElem?_append_right (Nat.le_refl _), Nat.sub_self, hd, List.filter_cons, if_pos hp]; rfl
theorem count_total {α : Type} (p : α → Bool) (l : List α) (i : Nat) : (l.take i).countP p ≤ l.countP p := by
  conv => rhs; rw [← List.take_append_drop i l]
  rw [List.countP_append]; omega
theorem cheap_succ (l : List (List Int)) (T : List Int → Int) (s : Nat) : l.countP (fun r => decide (T r + 7000 < ((s + 1 : Nat) : Int))) = l.countP (fun r => decide (T r + 7000 < (s : Int))) + l.countP (fun r => decide (T r + 7000 = (s : Int))) := by
  induction l with
  | nil => rfl
  | cons x l ih =>
    rw [List.countP_cons, List.countP_cons, List.countP_cons, ih]
    by_cases h1 : T x + 7000 < (s : Int)
    · have h2 : T x + 7000 < ((s + 1 : Nat) : Int) := by omega
      have h3 : T x + 7000 ≠ (s : Int) := by omega
      rw [decide_eq_true h1, decide_eq_true h2, decide_eq_false h3]; simp; omega
    · by_cases h2 : T x + 7000 = (s : Int)
      · have h3 : T x + 7000 < ((s + 1 : Nat) : Int) := by omega
        rw [decide_eq_false h1, decide_eq_true h2, decide_eq_true h3]; simp; omega
      · have h3 : ¬ T x + 7000 < ((s + 1 : Nat) : Int) := by omega
        rw [decide_eq_false h1, decide_eq_false h2, decide_eq_false h3]; simp
theorem cheap_mono (l : List (List Int)) (T : List Int → Int) {s s' : Nat} (h : s ≤ s') : l.countP (fun r => decide (T r + 7000 < (s : Int))) ≤ l.countP (fun r => decide (T r + 7000 < (s' : Int))) :=
  List.countP_mono_left fun x _ hx => by simp at hx ⊢; omega

set_option maxRecDepth 100000 in
set_option maxHeartbeats 4000000 in
theorem refItem_any (C : List (List Int)) (a : Option Addr) (cap n kk k' : Nat) (τ : Int) (r0 : List Int) (w : World) (hR : Rect C n) (hn : C.length = n) (h : Tbl w a C)
    (h1 : (allL n n).countP (fun r => decide (totL C n r < τ)) + k' = kk) (h2 : ((allL n n).filter fun r => decide (totL C n r = τ))[k']? = some r0) :
    Calls Try.prog 22 #[.slice a n cap, .int .i64 kk] w fun e w' => ∃ ra rc, e = .returned (.slice ra n rc) ∧ Row w' ra n (intL r0) ∧ Below w.heap.size w w' := by
  have hn7 := hR.m7
  have hA := fun W => All_any n hn7 W
  have hlen := allL_len n hn7 n
  have h7 : (7 : Nat) ^ n ≤ 7 ^ 7 := Nat.pow_le_pow_right (by decide) hn7
  have hrows := allL_row n n
  generalize allL n n = L at *
  obtain ⟨c, hcl⟩ : ∃ c, L.length = c := ⟨_, rfl⟩
  have hc7 : c ≤ 823543 := by omega
  have hT := fun r (hr : r ∈ L) a3 rc W h ha => refTotal_any C a a3 cap n rc r W hR hn (hrows r hr).2 h ha
  have hTb : ∀ r, -7000 ≤ totL C n r ∧ totL C n r ≤ 7000 := fun r => by have := wayP_t hR r n; unfold totL; omega
  have hτ : -7000 ≤ τ ∧ τ ≤ 7000 := by
    have h3 := (List.mem_filter.1 (List.mem_of_getElem? h2)).2
    simp at h3
    rw [← h3]; exact hTb r0
  obtain ⟨s0, hs0⟩ : ∃ s0 : Nat, τ + 7000 = s0 := ⟨(τ + 7000).toNat, by omega⟩
  have hs0l : s0 < 14001 := by omega
  have ht : ∀ r, wayP C r n = wayP C r n := fun _ => rfl
  have hk1 : L.countP (fun r => decide (totL C n r + 7000 < (s0 : Int))) + k' = kk := by
    rw [← h1]; congr 1
    exact List.countP_congr fun r _ => by simp; omega
  have hk2 : k' < L.countP (fun r => decide (totL C n r + 7000 = (s0 : Int))) := by
    have h3 := (List.getElem?_eq_some_iff.1 h2).1
    rw [← List.countP_eq_length_filter] at h3
    have h4 : L.countP (fun r => decide (totL C n r + 7000 = (s0 : Int))) = L.countP (fun r => decide (totL C n r = τ)) := List.countP_congr fun r _ => by simp; omega
    omega
  have hkk : kk < 823543 := by
    have h3 := cheap_succ L (totL C n) s0
    have h4 := List.countP_le_length (p := fun r => decide (totL C n r + 7000 < ((s0 + 1 : Nat) : Int))) (l := L)
    omega
  have hmk := run_make_row' (P := Try.prog) 24 3 (.int .i64 0) 8 Try.underlying24 info_int rfl .i64 .i64 14001 (by decide) (by decide)
  have hmk2 : ∀ w : World, (Instr.makeSlice 24 (.int .i64 14001) (.int .i64 14001)).run Try.prog w = .ok (.slice (some ⟨w.heap.size, 0, none⟩) 14001 14001) (w.alloc (.cells (madeCells #[.int .i64 0] 14001) 3)) := hmk
  clear hmk
  have HA := Lib.hid hA
  have HT := Lib.hid hT
  have HR := Lib.hid hrows
  have H := Lib.hid h
  have HC := Lib.hid hcl
  have HTb := Lib.hid hTb
  have Hk1 := Lib.hid hk1
  have Hk2 := Lib.hid hk2
  have H2 := Lib.hid h2
  have Hs0 := Lib.hid hs0
  clear hA hT hrows hlen h7 h hR hcl hTb hk1 hk2 h2 h1 hs0 ht hτ
  go_enter Try.func22, Try.ntmps22
  go_wp2_with fail
  refine (HA.out _).mono ?_
  rintro e w1 ⟨v, rfl, hl, b1⟩
  obtain ⟨a9, cap9, rfl, hcap9, hcm9, ht9⟩ := hl.tbl
  have H1 := Lib.hid (H.out.below b1)
  have B1 := Lib.hid b1
  have HT9 := Lib.hid ht9
  clear hl b1 ht9
  rw [HC.out] at hcap9 ⊢
  go_wp2
  have hrow0 := World.rowIs_made w1 (.int .i64 0) 14001 3
  have hB0 := below_alloc w1 (.cells (madeCells #[.int .i64 0] 14001) 3)
  go_loopw [8] (fun i wr => ∃ j : Nat, j ≤ c ∧ i = .int .i64 j ∧ wr.rowIs w1.heap.size 3 14001 (fun x => .int .i64 (((L.take j).countP fun r => decide (totL C n r + 7000 = (x : Int)) : Nat) : Int)) ∧ Below w1.heap.size w1 wr) (fun i _ => c - (intOf i).toNat)
  case atStart => exact ⟨0, Nat.zero_le _, rfl, by simpa using hrow0, hB0⟩
  case round =>
    clear hrow0 hB0
    obtain ⟨j, hj, rfl, hrow, hB⟩ := hrel
    by_cases hlt : j < c
    · have hc1 : (j : Int) < c := by omega
      obtain ⟨r, hr⟩ : ∃ r, L[j]? = some r := ⟨_, List.getElem?_eq_getElem (by have := HC.out; omega)⟩
      have hrm := List.mem_of_getElem? hr
      obtain ⟨hrl, hrb⟩ := HR.out r hrm
      obtain ⟨g, ra, rc, rfl, hg, c1, hrc, R1⟩ := HT9.out.row hr
      rw [hrl] at c1 hrc R1
      have cr := (hB.cell (p := ⟨g, j, none⟩) hg).trans c1
      have hTr := HT.out r hrm ra rc
      have hTb := HTb.out r
      obtain ⟨T, hTT⟩ : ∃ T, (wayP C r n).t = T := ⟨_, rfl⟩
      have hTl : totL C n r = T := hTT
      rw [hTT] at hTr
      rw [hTl] at hTb
      obtain ⟨s, hs⟩ : ∃ s : Nat, T + 7000 = s := ⟨(T + 7000).toNat, by omega⟩
      have hw1 : IntKind.i64.wrap (T - -7000) = (s : Int) := by rw [IntWalk.i64_in _ (by omega)]; omega
      have hw2 : IntKind.i64.wrap (T + 7000) = (s : Int) := by rw [IntWalk.i64_in _ (by omega)]; omega
      have hsl : s < 14001 := by omega
      have hslc : (s : Int) < 14001 := by omega
      have hcnt := fun x : Nat => countP_take (fun r => decide (totL C n r + 7000 = (x : Int))) L j r hr
      simp only [hTl] at hcnt
      obtain ⟨m, hm⟩ : ∃ m, (L.take j).countP (fun r => decide (totL C n r + 7000 = (s : Int))) = m := ⟨_, rfl⟩
      have hmk : m ≤ 823543 := by rw [← hm]; refine Nat.le_trans List.countP_le_length ?_; rw [List.length_take]; omega
      have R2 := Lib.hid (R1.below hB)
      have T2 := Lib.hid (H1.out.below hB)
      have Hrow := Lib.hid hrow
      have HB := Lib.hid hB
      have HTr := Lib.hid hTr
      have Hcnt := Lib.hid hcnt
      have Hm := Lib.hid hm
      have Hs := Lib.hid hs
      clear hr hrm hrb hrl R1 hTr hTb hTT hTl hs hcnt hm hrow hB c1
      go_wp2_with fail
      refine (HTr.out _ T2.out R2.out).mono ?_
      rintro e w3 ⟨rfl, q3, rfl⟩
      have hrowd : (wr.drewN q3).rowIs w1.heap.size 3 14001 (fun x => .int .i64 (((L.take j).countP fun r => decide (totL C n r + 7000 = (x : Int)) : Nat) : Int)) := Hrow.out
      have hBd := below_drewN HB.out q3
      obtain ⟨W0, HW0⟩ : ∃ W0, wr.drewN q3 = W0 := ⟨_, rfl⟩
      rw [HW0] at hrowd hBd ⊢
      have ck := hrowd.cell (i := s) hsl
      rw [Hm.out] at ck
      have fk := hrowd.frozen s
      have hrow1 := hrowd.set s (.int .i64 ((m : Int) + 1))
      have hB1 := hBd.setCell (p := ⟨w1.heap.size, s, none⟩) (Nat.le_refl _) (.int .i64 ((m : Int) + 1))
      have hw3 : IntKind.i64.wrap ((m : Int) + 1) = (m : Int) + 1 := IntWalk.i64_in _ (by omega)
      have Hrow1 := Lib.hid hrow1
      have HB1 := Lib.hid hB1
      clear hrow1 hB1 hrowd hBd HW0
      go_wp2
      go_roundw
      case rel =>
        refine ⟨j + 1, by omega, by go_num, Hrow1.out.congr fun x hx => ?_, HB1.out⟩
        have h3 := Hcnt.out x
        by_cases hxs : x = s
        · subst hxs
          rw [if_pos rfl, h3, Hm.out, decide_eq_true Hs.out, if_pos rfl]; rfl
        · rw [if_neg hxs, h3, decide_eq_false (by have := Hs.out; omega), if_neg (by simp), Nat.add_zero]
      case measure => simp [intOf]; omega
    · obtain rfl : j = c := by omega
      have hc1 : ¬ (j : Int) < j := by omega
      have htk : L.take j = L := List.take_of_length_le (by have := HC.out; omega)
      rw [htk] at hrow
      have Hrow := Lib.hid hrow
      have HB := Lib.hid hB
      clear hrow hB htk
      go_wp2
      go_loopw [1, 10] (fun k t wr2 => ∃ s : Nat, s ≤ s0 ∧ t = .int .i64 s ∧ k = .int .i64 ((kk : Int) - (L.countP (fun r => decide (totL C n r + 7000 < (s : Int))) : Nat)) ∧ wr2 = wr) (fun _ t _ => s0 - (intOf t).toNat)
      case atStart =>
        refine ⟨0, Nat.zero_le _, rfl, ?_, rfl⟩
        have h0 : L.countP (fun r => decide (totL C n r + 7000 < ((0 : Nat) : Int))) = 0 := List.countP_eq_zero.2 fun r _ => by have := HTb.out r; simp; omega
        rw [h0]; simp
      case round =>
        obtain ⟨s, hs, rfl, rfl, hwr⟩ := hrel
        have hwr2 := hwr.symm
        clear hwr
        subst hwr2
        have hsl : s < 14001 := by omega
        have hslc : (s : Int) < 14001 := by omega
        have ck := Hrow.out.cell (i := s) hsl
        have h3 := cheap_succ L (totL C n) s
        have h4 := cheap_mono L (totL C n) hs
        have h5 := List.countP_le_length (p := fun r => decide (totL C n r + 7000 < ((s + 1 : Nat) : Int))) (l := L)
        rw [HC.out] at h5
        obtain ⟨m, hm⟩ : ∃ m, L.countP (fun r => decide (totL C n r + 7000 = (s : Int))) = m := ⟨_, rfl⟩
        obtain ⟨d, hd⟩ : ∃ m, L.countP (fun r => decide (totL C n r + 7000 < (s : Int))) = m := ⟨_, rfl⟩
        rw [hm] at h3 ck
        rw [hd] at h3 h4 ⊢
        rw [h3] at h5
        have hkd : d ≤ kk := by have := Hk1.out; omega
        by_cases hlt2 : s < s0
        · have h6 := cheap_mono L (totL C n) (show s + 1 ≤ s0 from hlt2)
          rw [h3] at h6
          have hge : (kk : Int) - d ≥ m := by have := Hk1.out; omega
          have hw1 : IntKind.i64.wrap ((kk : Int) - d - m) = (kk : Int) - d - m := IntWalk.i64_in _ (by omega)
          have H3 := Lib.hid h3
          clear h3 h4 h5 h6 hm hd
          go_wp2
          go_roundw
          case rel => exact ⟨s + 1, by omega, by go_num, by rw [H3.out]; simp; omega, trivial⟩
          case measure => simp [intOf]; omega
        · obtain rfl : s = s0 := by omega
          have hk1 := Hk1.out
          have hk2 := Hk2.out
          rw [hd] at hk1
          rw [hm] at hk2
          have hge : ¬ (kk : Int) - d ≥ m := by omega
          have hkd2 : (kk : Int) - d = k' := by omega
          rw [hkd2] at hge ⊢
          have hk7 : k' < 823543 := by omega
          have Hm2 : Hid (L.countP (fun r => decide (totL C n r + 7000 = (s : Int))) = m) := hm
          clear h3 h4 h5 hm hd hk1 hkd2 hkd
          go_wp2
          have hp2 : ((L.filter fun r => decide (totL C n r + 7000 = (s : Int))))[k']? = some r0 := by
            rw [← H2.out]; congr 1
            exact List.filter_congr fun r _ => by have := Hs0.out; exact decide_eq_decide.2 ⟨fun h => by omega, fun h => by omega⟩
          have Hp2 := Lib.hid hp2
          have Hk3 := Lib.hid hk2
          clear hp2 hk2 ck
          go_loopw [1, 11] (fun k i wr3 => ∃ i' q : Nat, i' ≤ j ∧ i = .int .i64 i' ∧ k = .int .i64 ((k' : Int) - ((L.take i').countP (fun r => decide (totL C n r + 7000 = (s : Int))) : Nat)) ∧
            Hid ((L.take i').countP (fun r => decide (totL C n r + 7000 = (s : Int))) ≤ k' ∨ ((L.take i').countP (fun r => decide (totL C n r + 7000 = (s : Int))) = k' + 1 ∧ ∃ jj, i' = jj + 1 ∧ L[jj]? = some r0)) ∧ wr3 = wr.drewN q) (fun _ i _ => j - (intOf i).toNat)
          case atStart => exact ⟨0, 0, Nat.zero_le _, rfl, by simp, .inl (by simp), rfl⟩
          case round =>
            obtain ⟨i, q, hi, rfl, rfl, HD, hwr⟩ := hrel
            subst hwr
            obtain ⟨d, hd⟩ : ∃ d, (L.take i).countP (fun r => decide (totL C n r + 7000 = (s : Int))) = d := ⟨_, rfl⟩
            have hD := HD.out
            rw [hd] at hD ⊢
            have hdc : d ≤ 823543 := by rw [← hd]; refine Nat.le_trans List.countP_le_length ?_; rw [List.length_take]; omega
            by_cases hle : d ≤ k'
            · have hlt3 : i < j := by
                refine Nat.lt_of_not_le fun h => ?_
                rw [List.take_of_length_le (by have := HC.out; omega), Hm2.out] at hd
                have := Hk3.out
                omega
              have hic : (i : Int) < j := by omega
              have hge0 : (k' : Int) - d ≥ 0 := by omega
              obtain ⟨r, hr⟩ : ∃ r, L[i]? = some r := ⟨_, List.getElem?_eq_getElem (by have := HC.out; omega)⟩
              have hrm := List.mem_of_getElem? hr
              obtain ⟨hrl, hrb⟩ := HR.out r hrm
              obtain ⟨g, ra, rc, rfl, hg, c1, hrc, R1⟩ := HT9.out.row hr
              rw [hrl] at c1 hrc R1
              have cr := (HB.out.cell (p := ⟨g, i, none⟩) hg).trans c1
              have hTr := HT.out r hrm ra rc
              have hTb := HTb.out r
              obtain ⟨T, hTT⟩ : ∃ T, (wayP C r n).t = T := ⟨_, rfl⟩
              have hTl : totL C n r = T := hTT
              rw [hTT] at hTr
              rw [hTl] at hTb
              have hw1 : IntKind.i64.wrap (T - -7000) = T + 7000 := by rw [IntWalk.i64_in _ (by omega)]; omega
              have hw2 : IntKind.i64.wrap (T + 7000) = T + 7000 := IntWalk.i64_in _ (by omega)
              have hcnt := countP_take (fun r => decide (totL C n r + 7000 = (s : Int))) L i r hr
              rw [hd] at hcnt
              simp only [hTl] at hcnt
              have hfil := fun hT7 : T + 7000 = (s : Int) => take_filter (fun r => decide (totL C n r + 7000 = (s : Int))) L i r hr (by simp only [hTl]; exact decide_eq_true hT7)
              rw [hd] at hfil
              have R2 := Lib.hid (R1.below HB.out)
              have T2 := Lib.hid (H1.out.below HB.out)
              have HTr := Lib.hid hTr
              have Hcnt := Lib.hid hcnt
              have Hfil := Lib.hid hfil
              have Hr := Lib.hid hr
              clear hr hrm hrb hrl R1 hTr hTb hTT hTl hcnt c1 hd hD hfil HD
              go_wp2_with fail
              refine (HTr.out _ (T2.out.drewN q) (R2.out.drewN q)).mono ?_
              rintro e w3 ⟨rfl, q3, rfl⟩
              by_cases hT7 : T + 7000 = (s : Int)
              · have hb : (T + 7000 == (s : Int)) = true := by simp [hT7]
                have hw5 : IntKind.i64.wrap ((k' : Int) - d - 1) = (k' : Int) - d - 1 := IntWalk.i64_in _ (by omega)
                have hc5 := Hcnt.out
                rw [decide_eq_true hT7, if_pos rfl] at hc5
                have hf5 := Hfil.out hT7
                have Hc5 := Lib.hid hc5
                have Hf5 := Lib.hid hf5
                clear hc5 hf5 hT7
                go_wp2
                go_roundw
                case rel =>
                  refine ⟨i + 1, _, by omega, by go_num, by rw [Hc5.out]; simp; omega, ?_, rfl⟩
                  rw [Hc5.out]
                  by_cases hdk : d + 1 ≤ k'
                  · exact .inl hdk
                  · obtain rfl : d = k' := by omega
                    have h6 := Hf5.out
                    rw [Hp2.out] at h6
                    exact .inr ⟨rfl, i, rfl, by rw [h6]; exact Hr.out⟩
                case measure => simp [intOf]; omega
              · have hb : (T + 7000 == (s : Int)) = false := by simp [hT7]
                have hc5 := Hcnt.out
                rw [decide_eq_false hT7, if_neg (by simp), Nat.add_zero] at hc5
                have Hc5 := Lib.hid hc5
                clear hc5 hT7
                go_wp2
                go_roundw
                case rel => exact ⟨i + 1, _, by omega, by go_num, by rw [Hc5.out]; rfl, .inl (by rw [Hc5.out]; exact hle), rfl⟩
                case measure => simp [intOf]; omega
            · rcases hD with h | ⟨h6, jj, rfl, hj⟩
              · exact absurd h hle
              have hge0 : ¬ (k' : Int) - d ≥ 0 := by omega
              obtain ⟨hrl, _⟩ := HR.out r0 (List.mem_of_getElem? hj)
              obtain ⟨g, ra, rc, rfl, hg, c1, hrc, R1⟩ := HT9.out.row hj
              rw [hrl] at c1 hrc R1
              have cr := (HB.out.cell (p := ⟨g, jj, none⟩) hg).trans c1
              have R2 := Lib.hid (R1.below HB.out)
              have hjc : (jj : Int) < j := by omega
              have hw1 : IntKind.i64.wrap (((jj + 1 : Nat) : Int) - 1) = (jj : Int) := by rw [IntWalk.i64_in _ (by omega)]; omega
              have hw2 : IntKind.i64.wrap ((jj : Int) + 1 - 1) = (jj : Int) := by rw [IntWalk.i64_in _ (by omega)]; omega
              clear hj R1 c1 hd HD h6
              go_wp2
              go_ret
              exact ⟨ra, ⟨rc, rfl⟩, R2.out.drewN _, below_drewN (b_next B1.out HB.out) _⟩
end Go.Proofs.Ytambhhjbafefgaa
