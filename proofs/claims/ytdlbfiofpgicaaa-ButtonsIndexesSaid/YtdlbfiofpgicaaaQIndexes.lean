/- ButtonsIndexes: for any costs and list, Index returns how many assignments come before an assignment, or ErrArg. Conditions: none. -/
import Derived.Test.YtdlbfiofpgicaaaQd
import Derived.Test.YtdlbfiofpgicaaaQf
import Derived.Maps.OwnIn
import Derived.Test.YtdlbfiofpgicaaaQc
import Derived.Test.YtdlbfiofpgicaaaQe
import Derived.ShutString
/- those: the assignments that a function wants. -/
namespace Go.Proofs.Ytdlbfiofpgicaaa
set_option linter.unusedVariables false
open Go.RowKit Go.Shelf Go.Maps
attribute [local go_sem] Oper.semAt_some

theorem asgW_len {C : List (List Int)} (hn : C.length ≤ 7) : (asgW C).length ≤ 823543 := by
  have h1 := congrArg List.length (asgW_rows hn)
  rw [List.length_map] at h1
  have h2 := allL_len C.length hn C.length
  have h3 : (7 : Nat) ^ C.length ≤ 7 ^ 7 := Nat.pow_le_pow_right (by decide) hn
  omega
theorem wants_snoc {C : List (List Int)} (Pr : Way → Bool) (l : List (OkW C)) (x : OkW C) : (valW (l ++ [x])).filter Pr = (valW l).filter Pr ++ if Pr x.1 then [x.1] else [] := by
  rw [valW_snoc, List.filter_append, List.filter_cons, List.filter_nil]
def stopP (p : Prop) : Prop := p
theorem stopL {p : Prop} (h : stopP p) : p := h

set_option maxRecDepth 100000 in
set_option maxHeartbeats 4000000 in
theorem those_Within (C : List (List Int)) (a : Option Addr) (cap q : Nat) (Pr : Way → Bool) (w : World) (h : Tbl w a C) (hcC : costsB C = true)
    (hF : ∀ (x : Way) (W : World), Below w.heap.size w W → Calls Try.prog 67 #[wayV x, .pointer (some ⟨q, 0, none⟩)] W fun e W' => e = .returned (.bool (Pr x)) ∧ Below W.heap.size W W') :
    Calls Try.prog 64 #[.slice a C.length cap, .func (.func 67) #[] #[.pointer (some ⟨q, 0, none⟩)]] w fun e w' => ∃ v, e = .returned v ∧
      w'.ownsRow w.heap.size 70 8 v ((asgW C).filter Pr).length (waysC ((asgW C).filter Pr)) ∧ Below w.heap.size w w' := by
  refine (callsIn_wide (n := 6)).1 ?_
  obtain ⟨i0, hi, hz0, hz1, hz2⟩ := info_parts info_wayF
  obtain ⟨hR, hp⟩ := Rect.of_costs hcC
  have hn7 := hR.n7
  have hAL := asgW_len hn7
  obtain ⟨g, ra, rc, rfl, hFt⟩ := TblF.of h hp
  have HF := Lib.hid hF
  have HR := Lib.hid hR
  have HFw := Lib.hid hFt
  clear h hF hFt hcC
  refine callsIn_of_wp_marks Try.func64 rfl trivial ?_ rfl
  simp only [Try.ntmps64, List.size_toArray, List.length_cons, List.length_nil, Nat.reduceAdd, Nat.reduceSub, Array.replicate_succ, Array.replicate_zero, List.push_toArray, List.append_toArray, List.nil_append, List.cons_append]
  gi_wp2_with fail
  refine ⟨trivial, ?_⟩
  refine (assignments_in _ _ _ _ _).mono ?_
  rintro e w' ⟨rfl, rfl⟩
  gi_wp2_with fail
  generalize hW3 : (((w.alloc (.cells #[.func (.func 67) #[] #[.pointer (some ⟨q, 0, none⟩)]] 87)).alloc (.cells #[.slice none 0 0] 85)).alloc (.cells #[.slice (some ⟨g, 0, none⟩) C.length cap] 22)) = W3
  have hsz : W3.heap.size = w.heap.size + 3 := by rw [← hW3]; simp
  have hBe : W3.cell? ⟨w.heap.size + 1 + 1, 0, none⟩ = some (.slice (some ⟨g, 0, none⟩) C.length cap) := by
    rw [← hW3, World.cell?_alloc_at _ _ _ _ (by simp only [World.size_alloc])]; rfl
  have hI0 : LstI w (w.heap.size + 1) (w.heap.size + 2) 85 70 8 (fun l : List (OkW C) => ((valW l).filter Pr).length) (fun l => waysC ((valW l).filter Pr)) [] W3 ∧ Boxed W3 w.heap.size 87 (.func (.func 67) #[] #[.pointer (some ⟨q, 0, none⟩)]) := by
    rw [← hW3]
    refine ⟨⟨.slice none 0 0, ?_, World.ownsRow_nil _ _ _ _, b_next (b_next (below_alloc _ _) (below_alloc _ _)) (below_alloc _ _)⟩, ((Boxed.new w _ _).alloc _).alloc _⟩
    have h := Boxed.new (w.alloc (.cells #[.func (.func 67) #[] #[.pointer (some ⟨q, 0, none⟩)]] 87)) 85 (.slice none 0 0)
    rw [World.size_alloc] at h
    exact h.alloc _
  have HF0 : Hid (∀ X, Below w.heap.size w X → TblF X g ra rc C) := fun X h => HFw.out.below h
  clear hW3 HFw
  refine range_visits_boxR (α := OkW C) rfl (by omega) (gf := 96) (lb := #[.pointer (some ⟨w.heap.size + 1 + 1, 0, none⟩)]) rfl trivial (enters_of Try.func96 (by kernel_rfl) rfl)
    (encs := fun x : OkW C => #[wayV x.1]) (T := w.heap.size + 3) (B1 := w.heap.size + 1) (by omega) (S := fun ys => valW ys = asgW C) (Sp := fun pre => valW pre <+: asgW C) (N := (asgW C).length) (by omega)
    (fun W hW => asg_visitsR C g cap ra rc HR.out _ (w.heap.size + 1 + 1) (w.heap.size + 3) (w.heap.size + 1) (by omega) W (by have := hW.size; omega) ((World.cell?_of_block (a := ⟨w.heap.size + 1 + 1, 0, none⟩) (hW.block _ (by show w.heap.size + 1 + 1 < W3.heap.size; omega) (by simp))).trans hBe)) (fun _ => rfl)
    (fun pre X => LstI w (w.heap.size + 1) (w.heap.size + 2) 85 70 8 (fun l : List (OkW C) => ((valW l).filter Pr).length) (fun l => waysC ((valW l).filter Pr)) pre X ∧ Boxed X w.heap.size 87 (.func (.func 67) #[] #[.pointer (some ⟨q, 0, none⟩)]))
    (fun _ _ _ => False) (fun s A B row hs hg hr => ⟨bears_lst (by omega) s A B row hs.1 hg hr, boxed_bears hs.2 hg (fun r e => (hr r e).2)⟩) (fun _ _ _ _ _ h _ _ => h)
    (fun pre X h => HF0.out X (by obtain ⟨⟨v, _, _, hx⟩, _⟩ := h; exact hx)) (fun pre X h => h.1.cells) hI0
    (fun x => .cells (wayA x.1) 70)
    (fun x B => { tmps := #[.slice (some ⟨g, 0, none⟩) C.length cap, .func (.func 67) #[] #[.pointer (some ⟨q, 0, none⟩)], undef, .pointer (some ⟨w.heap.size, 0, none⟩), .slice none 0 0, .pointer (some ⟨w.heap.size + 1, 0, none⟩), .pointer (some ⟨B, 0, none⟩), .slice (some ⟨g, 0, none⟩) C.length cap, .func (.func 96) #[] #[.pointer (some ⟨w.heap.size + 1 + 1, 0, none⟩)], wayV x.1, undef, undef, undef, undef, undef, undef, undef, undef], defers := [] }) ?assign ?body ?done ?stop
  case assign =>
    intro l x W K hK
    unfold wayV at hK ⊢
    unfold wayA at hK
    gi_wp2
    exact hK
  case body =>
    rintro l pre x B W ⟨⟨v, hb, hown, hX⟩, hf⟩ hbx hB2 hlen
    obtain ⟨x, hx⟩ := x
    simp only at hbx
    obtain ⟨a0, a1, a2, a3, a4, a5, a6, a7⟩ := at8_lit hbx
    have c0 := hf.cell
    have hcl := HF.out x W hX
    have hws := wants_snoc Pr pre ⟨x, hx⟩
    simp only at hws
    have hlp : ((valW pre).filter Pr).length ≤ 823543 := by
      have h1 := List.length_filter_le Pr (valW pre)
      have h2 : (valW pre).length = pre.length := by simp [valW]
      omega
    obtain ⟨k, hk⟩ : ∃ k, ((valW pre).filter Pr).length = k := ⟨_, rfl⟩
    simp only [hk] at hown
    rw [hk] at hlp
    have HCl := Lib.hid hcl
    have Hb := Lib.hid hb
    have Hown := Lib.hid hown
    have HX := Lib.hid hX
    have Hf := Lib.hid hf
    have Hbx := Lib.hid hbx
    have Hws := Lib.hid hws
    have Hk := Lib.hid hk
    have hWs : B < W.heap.size := (Array.getElem?_eq_some_iff.1 hbx).1
    unfold wayV at HCl
    clear hcl hb hown hX hf hbx hws hk hI0 hBe
    unfold wayV
    gi_wp2_with fail
    refine ⟨trivial, ?_⟩
    refine (CallsIn.inRound _ (callsIn_wide.2 HCl.out)).mono ?_
    rintro e w5 ⟨rfl, z⟩
    have hg5 := gr_of z none
    have hb5 := Hb.out.kept hg5 (by simp)
    have d0 := hb5.cell
    have hbx5 := (z.block _ hWs).trans Hbx.out
    obtain ⟨a0, a1, a2, a3, a4, a5, a6, a7⟩ := at8_lit hbx5
    have Hg5 := Lib.hid hg5
    have Hb5 := Lib.hid hb5
    clear hg5 hb5 hbx5 z
    obtain ⟨p, hp'⟩ : ∃ p, Pr x = p := ⟨_, rfl⟩
    rw [hp']
    cases p with
    | true =>
      have hws := Hws.out
      rw [hp', if_pos rfl] at hws
      have HWS := Lib.hid hws
      clear hws hp'
      have hdef : wayA x = #[.int .i64 x.a, .int .i64 x.b, .int .i64 x.c, .int .i64 x.d, .int .i64 x.e, .int .i64 x.f, .int .i64 x.g, .int .i64 x.t] := rfl
      have hw := way_new w5 x 70
      rw [hdef] at hw
      have HW := Lib.hid hw
      have Hown5 := Lib.hid ((Hown.out.kept Hg5.out (by cases v.ownBlock <;> simp)).alloc (.cells #[.int .i64 x.a, .int .i64 x.b, .int .i64 x.c, .int .i64 x.d, .int .i64 x.e, .int .i64 x.f, .int .i64 x.g, .int .i64 x.t] 70))
      have hs5 := Hg5.out.size
      have hX5 := HX.out.size
      clear hw hdef
      gi_wp2_with (first | (gi_at_builtin; refine stopL ?_) | gi_in)
      unfold stopP
      refine wpListIn_append_own_at _ rfl _ _ 85 rfl (w.heap.size + 2) 70 i0 (.agg #[.int .i64 0, .int .i64 0, .int .i64 0, .int .i64 0, .int .i64 0, .int .i64 0, .int .i64 0, .int .i64 0]) 8 64 Try.underlying85 hi hz0 hz1 hz2 rfl (by decide) _ _ _ rfl Hown5.out ⟨w5.heap.size, 0, none⟩ 1 1 (wayC x) rfl rfl HW.out (wayC_one x) (by unfold maxLen; omega) (by omega) (by simp; omega) ?_
      intro v' w9 hown' hgrow _ hblk
      have hg8 : W.grownBy (w5.alloc (.cells #[.int .i64 x.a, .int .i64 x.b, .int .i64 x.c, .int .i64 x.d, .int .i64 x.e, .int .i64 x.f, .int .i64 x.g, .int .i64 x.t] 70)) none := Hg5.out.trans (World.grownBy_alloc _ _ none)
      have hb9 := (Hb5.out.alloc (.cells #[.int .i64 x.a, .int .i64 x.b, .int .i64 x.c, .int .i64 x.d, .int .i64 x.e, .int .i64 x.f, .int .i64 x.g, .int .i64 x.t] 70)).kept hgrow (Boxed.not_row (Hb5.out.alloc _) (by decide) Hown5.out)
      have c9 := hb9.cell
      have f9 := hb9.frozen
      have l9 := hb9.lt
      have hst := lst_step (s := pre) (s' := pre ++ [⟨x, hx⟩]) (T := w.heap.size + 3) (ln := fun l : List (OkW C) => ((valW l).filter Pr).length) (cs := fun l => waysC ((valW l).filter Pr)) (by omega) (by decide) (by omega) (by omega) Hb.out Hown.out HX.out hg8 hown' hgrow hblk (by rw [HWS.out, List.length_append, Hk.out]; rfl) (by rw [HWS.out, waysC_snoc])
      have hff := (((Hf.out.kept Hg5.out (by simp)).alloc (.cells #[.int .i64 x.a, .int .i64 x.b, .int .i64 x.c, .int .i64 x.d, .int .i64 x.e, .int .i64 x.f, .int .i64 x.g, .int .i64 x.t] 70)).kept hgrow (Boxed.not_row ((Hf.out.kept Hg5.out (by simp)).alloc _) (by decide) Hown5.out)).other (B' := w.heap.size + 1) (by omega) v'
      have HST := Lib.hid hst
      have HFF := Lib.hid hff
      obtain ⟨av, cv, hv'⟩ : ∃ av cv, v' = .slice av (k + 1) cv := by
        rcases hown'.2 with ⟨_, h⟩ | ⟨g', cap', cur, h, _⟩
        · omega
        · exact ⟨_, _, h⟩
      subst hv'
      clear hb9 hown' hgrow hblk hst hff hg8
      gi_wp2
      exact ⟨HST.out.1, HST.out.2, HFF.out⟩
    | false =>
      have hws := Hws.out
      rw [hp', if_neg (by simp), List.append_nil] at hws
      have HWS := Lib.hid hws
      clear hws hp'
      gi_wp2_with fail
      refine show KeepsR _ _ _ _ ∧ _ from ?_
      refine ⟨KeepsR.of_grown (by omega) Hg5.out, lst_same (s := pre) (s' := pre ++ [⟨x, hx⟩]) ⟨v, Hb.out, by rw [Hk.out]; exact Hown.out, HX.out⟩ Hg5.out (by rw [HWS.out]) (by rw [HWS.out]), Hf.out.kept Hg5.out (by simp)⟩
  case stop =>
    rintro D c pre X hD hSp hF hDf
    exact hF.elim
  case done =>
    rintro D xs X hD hS ⟨⟨v, hb, hown, hX⟩, hf⟩ hDf
    have c0 := hb.cell
    simp only [hS] at hown
    have Hown := Lib.hid hown
    have HX := Lib.hid hX
    have HDf := Lib.hid hDf
    have hDl : w.heap.size + 2 ≤ D := by omega
    clear hown hX hDf hD hb hf hI0 hBe hS
    gi_wp2
    refine leaves_one (by simp) (n₀ := w.heap.size) (Φ := fun Y => Y.ownsRow w.heap.size 70 8 v ((asgW C).filter Pr).length (waysC ((asgW C).filter Pr)) ∧ Below w.heap.size w Y) ?_ ?_ D X (by omega) HDf.out ⟨own_base Hown.out (by omega), HX.out⟩
    · rintro Y D' ⟨h1, h2⟩ hD' hk
      exact ⟨own_kept h1 hk, h2.grown (grownBy_putObj' Y D' _) h2.size (fun q e => by cases e; omega)⟩
    · rintro Y ⟨h1, h2⟩
      refine ⟨v, ?_, v, rfl, h1, h2⟩
      simp [results, Try.f64, go_sem]
set_option maxRecDepth 100000 in
set_option maxHeartbeats 4000000 in
theorem those_Index (C : List (List Int)) (a : Option Addr) (cap q : Nat) (Pr : Way → Bool) (w : World) (h : Tbl w a C) (hcC : costsB C = true)
    (hF : ∀ (x : Way) (W : World), Below w.heap.size w W → Calls Try.prog 68 #[wayV x, .pointer (some ⟨q, 0, none⟩)] W fun e W' => e = .returned (.bool (Pr x)) ∧ Below W.heap.size W W') :
    Calls Try.prog 64 #[.slice a C.length cap, .func (.func 68) #[] #[.pointer (some ⟨q, 0, none⟩)]] w fun e w' => ∃ v, e = .returned v ∧
      w'.ownsRow w.heap.size 70 8 v ((asgW C).filter Pr).length (waysC ((asgW C).filter Pr)) ∧ Below w.heap.size w w' := by
  refine (callsIn_wide (n := 6)).1 ?_
  obtain ⟨i0, hi, hz0, hz1, hz2⟩ := info_parts info_wayF
  obtain ⟨hR, hp⟩ := Rect.of_costs hcC
  have hn7 := hR.n7
  have hAL := asgW_len hn7
  obtain ⟨g, ra, rc, rfl, hFt⟩ := TblF.of h hp
  have HF := Lib.hid hF
  have HR := Lib.hid hR
  have HFw := Lib.hid hFt
  clear h hF hFt hcC
  refine callsIn_of_wp_marks Try.func64 rfl trivial ?_ rfl
  simp only [Try.ntmps64, List.size_toArray, List.length_cons, List.length_nil, Nat.reduceAdd, Nat.reduceSub, Array.replicate_succ, Array.replicate_zero, List.push_toArray, List.append_toArray, List.nil_append, List.cons_append]
  gi_wp2_with fail
  refine ⟨trivial, ?_⟩
  refine (assignments_in _ _ _ _ _).mono ?_
  rintro e w' ⟨rfl, rfl⟩
  gi_wp2_with fail
  generalize hW3 : (((w.alloc (.cells #[.func (.func 68) #[] #[.pointer (some ⟨q, 0, none⟩)]] 87)).alloc (.cells #[.slice none 0 0] 85)).alloc (.cells #[.slice (some ⟨g, 0, none⟩) C.length cap] 22)) = W3
  have hsz : W3.heap.size = w.heap.size + 3 := by rw [← hW3]; simp
  have hBe : W3.cell? ⟨w.heap.size + 1 + 1, 0, none⟩ = some (.slice (some ⟨g, 0, none⟩) C.length cap) := by
    rw [← hW3, World.cell?_alloc_at _ _ _ _ (by simp only [World.size_alloc])]; rfl
  have hI0 : LstI w (w.heap.size + 1) (w.heap.size + 2) 85 70 8 (fun l : List (OkW C) => ((valW l).filter Pr).length) (fun l => waysC ((valW l).filter Pr)) [] W3 ∧ Boxed W3 w.heap.size 87 (.func (.func 68) #[] #[.pointer (some ⟨q, 0, none⟩)]) := by
    rw [← hW3]
    refine ⟨⟨.slice none 0 0, ?_, World.ownsRow_nil _ _ _ _, b_next (b_next (below_alloc _ _) (below_alloc _ _)) (below_alloc _ _)⟩, ((Boxed.new w _ _).alloc _).alloc _⟩
    have h := Boxed.new (w.alloc (.cells #[.func (.func 68) #[] #[.pointer (some ⟨q, 0, none⟩)]] 87)) 85 (.slice none 0 0)
    rw [World.size_alloc] at h
    exact h.alloc _
  have HF0 : Hid (∀ X, Below w.heap.size w X → TblF X g ra rc C) := fun X h => HFw.out.below h
  clear hW3 HFw
  refine range_visits_boxR (α := OkW C) rfl (by omega) (gf := 96) (lb := #[.pointer (some ⟨w.heap.size + 1 + 1, 0, none⟩)]) rfl trivial (enters_of Try.func96 (by kernel_rfl) rfl)
    (encs := fun x : OkW C => #[wayV x.1]) (T := w.heap.size + 3) (B1 := w.heap.size + 1) (by omega) (S := fun ys => valW ys = asgW C) (Sp := fun pre => valW pre <+: asgW C) (N := (asgW C).length) (by omega)
    (fun W hW => asg_visitsR C g cap ra rc HR.out _ (w.heap.size + 1 + 1) (w.heap.size + 3) (w.heap.size + 1) (by omega) W (by have := hW.size; omega) ((World.cell?_of_block (a := ⟨w.heap.size + 1 + 1, 0, none⟩) (hW.block _ (by show w.heap.size + 1 + 1 < W3.heap.size; omega) (by simp))).trans hBe)) (fun _ => rfl)
    (fun pre X => LstI w (w.heap.size + 1) (w.heap.size + 2) 85 70 8 (fun l : List (OkW C) => ((valW l).filter Pr).length) (fun l => waysC ((valW l).filter Pr)) pre X ∧ Boxed X w.heap.size 87 (.func (.func 68) #[] #[.pointer (some ⟨q, 0, none⟩)]))
    (fun _ _ _ => False) (fun s A B row hs hg hr => ⟨bears_lst (by omega) s A B row hs.1 hg hr, boxed_bears hs.2 hg (fun r e => (hr r e).2)⟩) (fun _ _ _ _ _ h _ _ => h)
    (fun pre X h => HF0.out X (by obtain ⟨⟨v, _, _, hx⟩, _⟩ := h; exact hx)) (fun pre X h => h.1.cells) hI0
    (fun x => .cells (wayA x.1) 70)
    (fun x B => { tmps := #[.slice (some ⟨g, 0, none⟩) C.length cap, .func (.func 68) #[] #[.pointer (some ⟨q, 0, none⟩)], undef, .pointer (some ⟨w.heap.size, 0, none⟩), .slice none 0 0, .pointer (some ⟨w.heap.size + 1, 0, none⟩), .pointer (some ⟨B, 0, none⟩), .slice (some ⟨g, 0, none⟩) C.length cap, .func (.func 96) #[] #[.pointer (some ⟨w.heap.size + 1 + 1, 0, none⟩)], wayV x.1, undef, undef, undef, undef, undef, undef, undef, undef], defers := [] }) ?assign ?body ?done ?stop
  case assign =>
    intro l x W K hK
    unfold wayV at hK ⊢
    unfold wayA at hK
    gi_wp2
    exact hK
  case body =>
    rintro l pre x B W ⟨⟨v, hb, hown, hX⟩, hf⟩ hbx hB2 hlen
    obtain ⟨x, hx⟩ := x
    simp only at hbx
    obtain ⟨a0, a1, a2, a3, a4, a5, a6, a7⟩ := at8_lit hbx
    have c0 := hf.cell
    have hcl := HF.out x W hX
    have hws := wants_snoc Pr pre ⟨x, hx⟩
    simp only at hws
    have hlp : ((valW pre).filter Pr).length ≤ 823543 := by
      have h1 := List.length_filter_le Pr (valW pre)
      have h2 : (valW pre).length = pre.length := by simp [valW]
      omega
    obtain ⟨k, hk⟩ : ∃ k, ((valW pre).filter Pr).length = k := ⟨_, rfl⟩
    simp only [hk] at hown
    rw [hk] at hlp
    have HCl := Lib.hid hcl
    have Hb := Lib.hid hb
    have Hown := Lib.hid hown
    have HX := Lib.hid hX
    have Hf := Lib.hid hf
    have Hbx := Lib.hid hbx
    have Hws := Lib.hid hws
    have Hk := Lib.hid hk
    have hWs : B < W.heap.size := (Array.getElem?_eq_some_iff.1 hbx).1
    unfold wayV at HCl
    clear hcl hb hown hX hf hbx hws hk hI0 hBe
    unfold wayV
    gi_wp2_with fail
    refine ⟨trivial, ?_⟩
    refine (CallsIn.inRound _ (callsIn_wide.2 HCl.out)).mono ?_
    rintro e w5 ⟨rfl, z⟩
    have hg5 := gr_of z none
    have hb5 := Hb.out.kept hg5 (by simp)
    have d0 := hb5.cell
    have hbx5 := (z.block _ hWs).trans Hbx.out
    obtain ⟨a0, a1, a2, a3, a4, a5, a6, a7⟩ := at8_lit hbx5
    have Hg5 := Lib.hid hg5
    have Hb5 := Lib.hid hb5
    clear hg5 hb5 hbx5 z
    obtain ⟨p, hp'⟩ : ∃ p, Pr x = p := ⟨_, rfl⟩
    rw [hp']
    cases p with
    | true =>
      have hws := Hws.out
      rw [hp', if_pos rfl] at hws
      have HWS := Lib.hid hws
      clear hws hp'
      have hdef : wayA x = #[.int .i64 x.a, .int .i64 x.b, .int .i64 x.c, .int .i64 x.d, .int .i64 x.e, .int .i64 x.f, .int .i64 x.g, .int .i64 x.t] := rfl
      have hw := way_new w5 x 70
      rw [hdef] at hw
      have HW := Lib.hid hw
      have Hown5 := Lib.hid ((Hown.out.kept Hg5.out (by cases v.ownBlock <;> simp)).alloc (.cells #[.int .i64 x.a, .int .i64 x.b, .int .i64 x.c, .int .i64 x.d, .int .i64 x.e, .int .i64 x.f, .int .i64 x.g, .int .i64 x.t] 70))
      have hs5 := Hg5.out.size
      have hX5 := HX.out.size
      clear hw hdef
      gi_wp2_with (first | (gi_at_builtin; refine stopL ?_) | gi_in)
      unfold stopP
      refine wpListIn_append_own_at _ rfl _ _ 85 rfl (w.heap.size + 2) 70 i0 (.agg #[.int .i64 0, .int .i64 0, .int .i64 0, .int .i64 0, .int .i64 0, .int .i64 0, .int .i64 0, .int .i64 0]) 8 64 Try.underlying85 hi hz0 hz1 hz2 rfl (by decide) _ _ _ rfl Hown5.out ⟨w5.heap.size, 0, none⟩ 1 1 (wayC x) rfl rfl HW.out (wayC_one x) (by unfold maxLen; omega) (by omega) (by simp; omega) ?_
      intro v' w9 hown' hgrow _ hblk
      have hg8 : W.grownBy (w5.alloc (.cells #[.int .i64 x.a, .int .i64 x.b, .int .i64 x.c, .int .i64 x.d, .int .i64 x.e, .int .i64 x.f, .int .i64 x.g, .int .i64 x.t] 70)) none := Hg5.out.trans (World.grownBy_alloc _ _ none)
      have hb9 := (Hb5.out.alloc (.cells #[.int .i64 x.a, .int .i64 x.b, .int .i64 x.c, .int .i64 x.d, .int .i64 x.e, .int .i64 x.f, .int .i64 x.g, .int .i64 x.t] 70)).kept hgrow (Boxed.not_row (Hb5.out.alloc _) (by decide) Hown5.out)
      have c9 := hb9.cell
      have f9 := hb9.frozen
      have l9 := hb9.lt
      have hst := lst_step (s := pre) (s' := pre ++ [⟨x, hx⟩]) (T := w.heap.size + 3) (ln := fun l : List (OkW C) => ((valW l).filter Pr).length) (cs := fun l => waysC ((valW l).filter Pr)) (by omega) (by decide) (by omega) (by omega) Hb.out Hown.out HX.out hg8 hown' hgrow hblk (by rw [HWS.out, List.length_append, Hk.out]; rfl) (by rw [HWS.out, waysC_snoc])
      have hff := (((Hf.out.kept Hg5.out (by simp)).alloc (.cells #[.int .i64 x.a, .int .i64 x.b, .int .i64 x.c, .int .i64 x.d, .int .i64 x.e, .int .i64 x.f, .int .i64 x.g, .int .i64 x.t] 70)).kept hgrow (Boxed.not_row ((Hf.out.kept Hg5.out (by simp)).alloc _) (by decide) Hown5.out)).other (B' := w.heap.size + 1) (by omega) v'
      have HST := Lib.hid hst
      have HFF := Lib.hid hff
      obtain ⟨av, cv, hv'⟩ : ∃ av cv, v' = .slice av (k + 1) cv := by
        rcases hown'.2 with ⟨_, h⟩ | ⟨g', cap', cur, h, _⟩
        · omega
        · exact ⟨_, _, h⟩
      subst hv'
      clear hb9 hown' hgrow hblk hst hff hg8
      gi_wp2
      exact ⟨HST.out.1, HST.out.2, HFF.out⟩
    | false =>
      have hws := Hws.out
      rw [hp', if_neg (by simp), List.append_nil] at hws
      have HWS := Lib.hid hws
      clear hws hp'
      gi_wp2_with fail
      refine show KeepsR _ _ _ _ ∧ _ from ?_
      refine ⟨KeepsR.of_grown (by omega) Hg5.out, lst_same (s := pre) (s' := pre ++ [⟨x, hx⟩]) ⟨v, Hb.out, by rw [Hk.out]; exact Hown.out, HX.out⟩ Hg5.out (by rw [HWS.out]) (by rw [HWS.out]), Hf.out.kept Hg5.out (by simp)⟩
  case stop =>
    rintro D c pre X hD hSp hF hDf
    exact hF.elim
  case done =>
    rintro D xs X hD hS ⟨⟨v, hb, hown, hX⟩, hf⟩ hDf
    have c0 := hb.cell
    simp only [hS] at hown
    have Hown := Lib.hid hown
    have HX := Lib.hid hX
    have HDf := Lib.hid hDf
    have hDl : w.heap.size + 2 ≤ D := by omega
    clear hown hX hDf hD hb hf hI0 hBe hS
    gi_wp2
    refine leaves_one (by simp) (n₀ := w.heap.size) (Φ := fun Y => Y.ownsRow w.heap.size 70 8 v ((asgW C).filter Pr).length (waysC ((asgW C).filter Pr)) ∧ Below w.heap.size w Y) ?_ ?_ D X (by omega) HDf.out ⟨own_base Hown.out (by omega), HX.out⟩
    · rintro Y D' ⟨h1, h2⟩ hD' hk
      exact ⟨own_kept h1 hk, h2.grown (grownBy_putObj' Y D' _) h2.size (fun q e => by cases e; omega)⟩
    · rintro Y ⟨h1, h2⟩
      refine ⟨v, ?_, v, rfl, h1, h2⟩
      simp [results, Try.f64, go_sem]
end Go.Proofs.Ytdlbfiofpgicaaa

/- Index and Within. -/
namespace Go.Proofs.Ytdlbfiofpgicaaa
set_option linter.unusedVariables false
open Go.RowKit

set_option maxRecDepth 100000 in
set_option maxHeartbeats 4000000 in
theorem within1_any (x : Way) (q : Nat) (m : Int) (w : World) (hq : w.cell? ⟨q, 0, none⟩ = some (.int .i64 m)) :
    Calls Try.prog 67 #[wayV x, .pointer (some ⟨q, 0, none⟩)] w fun e w' => e = .returned (.bool (decide (x.t ≤ m))) ∧ Below w.heap.size w w' := by
  have hlt := World.block_lt_of_cell? w _ hq
  unfold wayV
  go_enter Try.func67, Try.ntmps67
  go_wp2
  go_ret
  exact ⟨rfl, below_alloc _ _⟩

set_option maxRecDepth 100000 in
set_option maxHeartbeats 4000000 in
theorem index1_any (x y : Way) (q : Nat) (w : World) (hq : w.heap[q]? = some (.cells (wayA y) 70 (0, 0))) :
    Calls Try.prog 68 #[wayV x, .pointer (some ⟨q, 0, none⟩)] w fun e w' => e = .returned (.bool (decide (ordW x y < 0))) ∧ Below w.heap.size w w' := by
  have hlt : q < w.heap.size := (Array.getElem?_eq_some_iff.1 hq).1
  obtain ⟨a0, a1, a2, a3, a4, a5, a6, a7⟩ := at8_lit hq
  have hI := fun w' => inOrder_any x y w'
  unfold wayV at hI ⊢
  have HI := Lib.hid hI
  clear hI hq
  go_enter Try.func68, Try.ntmps68
  go_wp2_with fail
  refine (HI.out _).mono ?_
  rintro e w5 ⟨rfl, b⟩
  go_wp2
  go_ret
  exact ⟨rfl, b_next (below_alloc _ _) b⟩

/-- how many assignments have at most a total -/
def witR (C : List (List Int)) (m : Int) : Int × Int := if costsB C then (((((asgW C).filter fun x => decide (x.t ≤ m)).length : Nat) : Int), 0) else (0, 2)
/-- how many assignments come before one -/
def idxR (C : List (List Int)) (xs : List Int) : Int × Int := if costsB C && asgB xs C.length then (((((asgW C).filter fun x => decide (ordW x (wayP C xs C.length) < 0)).length : Nat) : Int), 0) else (0, 2)

set_option maxRecDepth 100000 in
set_option maxHeartbeats 4000000 in
theorem Within_any (C : List (List Int)) (a : Option Addr) (cap : Nat) (m : Int) (w : World) (h : Tbl w a C) (hn : C.length ≤ 1000) (hr : ∀ row ∈ C, row.length ≤ 1000) :
    Calls Try.prog 31 #[.slice a C.length cap, .int .i64 m] w fun e w' => e = .returned (.tuple #[.int .i64 (witR C m).1, .int .i64 (witR C m).2]) ∧ Below w.heap.size w w' := by
  have hC := fun w' h => isCosts_any a cap C w' h hn hr
  have HC := Lib.hid hC
  have ba := below_alloc w (.cells #[.int .i64 m] 3)
  have H := Lib.hid (h.below ba)
  have Ba := Lib.hid ba
  cases hw : costsB C with
  | false =>
    have hR : witR C m = (0, 2) := by unfold witR; rw [hw]; rfl
    rw [hR]
    have HW := Lib.hid hw
    clear hw hR h hC ba
    go_enter Try.func31, Try.ntmps31
    go_wp2_with (go_at_call 53; refine (HC.out _ H.out).mono ?_; rintro e w' ⟨rfl, rfl⟩; rw [HW.out])
    go_ret2
    exact ⟨rfl, Ba.out⟩
  | true =>
    have hT := fun W h hF => those_Within C a cap w.heap.size (fun x => decide (x.t ≤ m)) W h hw hF
    obtain ⟨L, hL⟩ : ∃ L, (asgW C).filter (fun x => decide (x.t ≤ m)) = L := ⟨_, rfl⟩
    have hR : witR C m = (((L.length : Nat) : Int), 0) := by unfold witR; rw [hw, hL]; rfl
    rw [hR]
    rw [hL] at hT
    have HT := Lib.hid hT
    have HW := Lib.hid hw
    have hbx := Boxed.new w 3 (.int .i64 m)
    have Hbx := Lib.hid hbx
    clear hw hR h hC ba hT hL hbx
    go_enter Try.func31, Try.ntmps31
    go_wp2_with (go_at_call 53; refine (HC.out _ H.out).mono ?_; rintro e w' ⟨rfl, rfl⟩; rw [HW.out])
    go_wp2_with fail
    refine (HT.out _ H.out (fun x W hW => within1_any x w.heap.size m W ((hW.cell (p := ⟨w.heap.size, 0, none⟩) (by simp)).trans Hbx.out.cell))).mono ?_
    rintro e w1 ⟨v, rfl, hown, b⟩
    obtain ⟨av, cv, rfl, _⟩ := Ways.of_own hown
    clear hown
    go_wp2
    go_ret2
    exact ⟨rfl, b_next Ba.out b⟩

set_option maxRecDepth 100000 in
set_option maxHeartbeats 4000000 in
theorem Index_any (C : List (List Int)) (xs : List Int) (a a2 : Option Addr) (cap m ca : Nat) (w : World) (h : Tbl w a C) (hn : C.length ≤ 1000) (hr : ∀ row ∈ C, row.length ≤ 1000) (ha : Row w a2 m (intL xs)) (hm : m ≤ 1000) :
    Calls Try.prog 34 #[.slice a C.length cap, .slice a2 m ca] w fun e w' => e = .returned (.tuple #[.int .i64 (idxR C xs).1, .int .i64 (idxR C xs).2]) ∧ Below w.heap.size w w' := by
  have hC := fun w' h => isCosts_any a cap C w' h hn hr
  have HC := Lib.hid hC
  have H := Lib.hid h
  have Ha := Lib.hid ha
  have hl : xs.length = m := by have := ha.1; simpa [intL] using this
  cases hw : costsB C with
  | false =>
    have hR : idxR C xs = (0, 2) := by unfold idxR; rw [hw]; rfl
    rw [hR]
    have HW := Lib.hid hw
    clear hw hR h hC ha hl
    go_enter Try.func34, Try.ntmps34
    go_wp2_with (go_at_call 53; refine (HC.out _ H.out).mono ?_; rintro e w' ⟨rfl, rfl⟩; rw [HW.out])
    go_ret2
    exact ⟨rfl, Below.refl _ _⟩
  | true =>
    obtain ⟨hRc, hp⟩ := Rect.of_costs hw
    have HW := Lib.hid hw
    cases has : asgB xs C.length with
    | false =>
      have hR : idxR C xs = (0, 2) := by unfold idxR; rw [hw, has]; rfl
      rw [hR]
      have hA := fun w' h => isAssignment_any a2 m C.length ca xs w' h hRc.n7 hm
      have HA := Lib.hid hA
      have Has := Lib.hid has
      clear hw hR h hC ha hl hA has hRc
      go_enter Try.func34, Try.ntmps34
      go_wp2_with (first
        | (go_at_call 53; refine (HC.out _ H.out).mono ?_; rintro e w' ⟨rfl, rfl⟩; rw [HW.out])
        | (go_at_call 59; refine (HA.out _ Ha.out).mono ?_; rintro e w1 ⟨rfl, b1⟩; rw [Has.out]))
      go_ret2
      exact ⟨rfl, b1⟩
    | true =>
      have hA := fun w' h => isAssignment_any a2 m C.length ca xs w' h hRc.n7 hm
      have hx := has
      unfold asgB at hx
      rw [decide_eq_true_eq] at hx
      obtain ⟨y, hy⟩ : ∃ y, wayP C xs C.length = y := ⟨_, rfl⟩
      obtain rfl : C.length = m := by omega
      have hWy := fun w' h h2 => wayOf_any C a a2 cap C.length ca xs w' hRc rfl hx.2.1 h h2
      rw [hy] at hWy
      unfold wayV at hWy
      have hT := fun q W h hF => those_Index C a cap q (fun x => decide (ordW x y < 0)) W h hw hF
      obtain ⟨L, hL⟩ : ∃ L, (asgW C).filter (fun x => decide (ordW x y < 0)) = L := ⟨_, rfl⟩
      have hR : idxR C xs = (((L.length : Nat) : Int), 0) := by unfold idxR; rw [hw, has, hy, hL]; rfl
      rw [hR]
      rw [hL] at hT
      have HT := Lib.hid hT
      have HA := Lib.hid hA
      have Has := Lib.hid has
      have HWy := Lib.hid hWy
      clear hw hR h hC ha hl hA has hRc hWy hy hx hT hL
      go_enter Try.func34, Try.ntmps34
      go_wp2_with (first
        | (go_at_call 53; refine (HC.out _ H.out).mono ?_; rintro e w' ⟨rfl, rfl⟩; rw [HW.out])
        | (go_at_call 59; refine (HA.out _ Ha.out).mono ?_; rintro e w1 ⟨rfl, b1⟩; rw [Has.out]))
      go_wp2_with (go_at_call 62; refine (HWy.out _ (H.out.below b1) (Ha.out.below b1)).mono ?_; rintro e w2 ⟨rfl, b2⟩)
      go_wp2_with fail
      have ba := below_alloc w2 (.cells (wayA y) 70)
      have hn2 := heap_alloc_new w2 (.cells (wayA y) 70)
      refine (HT.out w2.heap.size _ (((H.out.below b1).below b2).below ba) (fun x W hW => index1_any x y w2.heap.size W ((hW.block _ (by simp)).trans hn2))).mono ?_
      rintro e w3 ⟨v, rfl, hown, b⟩
      obtain ⟨av, cv, rfl, _⟩ := Ways.of_own hown
      clear hown hn2
      go_wp2
      go_ret2
      exact ⟨rfl, b_next b1 (b_next b2 (b_next ba b))⟩
end Go.Proofs.Ytdlbfiofpgicaaa

/- The reference's Index and Within. -/
namespace Go.Proofs.Ytdlbfiofpgicaaa
set_option linter.unusedVariables false
open Go.RowKit

theorem countP_take {α : Type} (p : α → Bool) (l : List α) (k : Nat) (x : α) (h : l[k]? = some x) : (l.take (k + 1)).countP p = (l.take k).countP p + if p x then 1 else 0 := by
  rw [List.take_add_one, h, List.countP_append]
  show _ + [x].countP p = _
  rw [List.countP_cons, List.countP_nil, Nat.zero_add]
/-- it comes before -/
def befR (C : List (List Int)) (n : Nat) (t : Int) (xs r : List Int) : Bool := decide ((wayP C r n).t < t) || (decide ((wayP C r n).t = t) && befB r xs)

set_option maxRecDepth 100000 in
set_option maxHeartbeats 4000000 in
theorem refIndex_any (C : List (List Int)) (a a2 : Option Addr) (cap n ca : Nat) (xs : List Int) (w : World) (hR : Rect C n) (hn : C.length = n) (hx : ∀ x ∈ xs, 0 ≤ x ∧ x < n) (h : Tbl w a C) (ha : Row w a2 n (intL xs)) :
    Calls Try.prog 35 #[.slice a n cap, .slice a2 n ca] w fun e w' => e = .returned (.int .i64 ((allL n n).countP (befR C n (wayP C xs n).t xs))) ∧ Below w.heap.size w w' := by
  have hn7 := hR.m7
  have hA := fun W => All_any n hn7 W
  have hlen := allL_len n hn7 n
  have h7 : (7 : Nat) ^ n ≤ 7 ^ 7 := Nat.pow_le_pow_right (by decide) hn7
  have hrows := allL_row n n
  generalize allL n n = L at *
  obtain ⟨c, hcl⟩ : ∃ c, L.length = c := ⟨_, rfl⟩
  have hc7 : c ≤ 823543 := by omega
  have hT0 := fun W h ha => refTotal_any C a a2 cap n ca xs W hR hn hx h ha
  have hT := fun r (hr : r ∈ L) a3 rc W h ha => refTotal_any C a a3 cap n rc r W hR hn (hrows r hr).2 h ha
  have hB := fun r (_ : r ∈ L) a3 rc W h1 => before_any a3 a2 n rc ca r xs W h1
  obtain ⟨t, ht⟩ : ∃ t, (wayP C xs n).t = t := ⟨_, rfl⟩
  rw [ht] at hT0 ⊢
  have HA := Lib.hid hA
  have HT0 := Lib.hid hT0
  have HT := Lib.hid hT
  have HBf := Lib.hid hB
  have HR := Lib.hid hrows
  have H := Lib.hid h
  have Ha := Lib.hid ha
  have HC := Lib.hid hcl
  clear hA hT0 hT hB hrows hlen h7 hx h ha hR ht hcl
  go_enter Try.func35, Try.ntmps35
  go_wp2_with fail
  refine (HA.out _).mono ?_
  rintro e w1 ⟨v, rfl, hl, b1⟩
  obtain ⟨a9, cap9, rfl, hcap9, hcm9, ht9⟩ := hl.tbl
  have H1 := Lib.hid (H.out.below b1)
  have Ha1 := Lib.hid (Ha.out.below b1)
  have B1 := Lib.hid b1
  have HT9 := Lib.hid ht9
  clear hl b1 ht9
  rw [HC.out] at hcap9 ⊢
  go_wp2_with fail
  refine (HT0.out _ H1.out Ha1.out).mono ?_
  rintro e w2 ⟨rfl, q2, rfl⟩
  go_wp2
  go_loopw [7, 8] (fun m i wr => ∃ k q : Nat, k ≤ c ∧ m = .int .i64 ((L.take k).countP (befR C n t xs)) ∧ i = .int .i64 k ∧ wr = w1.drewN q) (fun _ i _ => c - (intOf i).toNat)
  case atStart => exact ⟨0, q2, Nat.zero_le _, by simp, rfl, rfl⟩
  case round =>
    obtain ⟨k, q, hk, rfl, rfl, rfl⟩ := hrel
    by_cases hlt : k < c
    · have hc1 : (k : Int) < c := by omega
      obtain ⟨r, hr⟩ : ∃ r, L[k]? = some r := ⟨_, List.getElem?_eq_getElem (by have := HC.out; omega)⟩
      have hrm := List.mem_of_getElem? hr
      obtain ⟨hrl, hrb⟩ := HR.out r hrm
      obtain ⟨g, ra, rc, rfl, hg, c1, hrc, R1⟩ := HT9.out.row hr
      rw [hrl] at c1 hrc R1
      have hcnt := countP_take (befR C n t xs) L k r hr
      obtain ⟨m, hm⟩ : ∃ m, (L.take k).countP (befR C n t xs) = m := ⟨_, rfl⟩
      have hmk : m ≤ 823543 := by rw [← hm]; refine Nat.le_trans List.countP_le_length ?_; rw [List.length_take]; omega
      rw [hm] at hcnt ⊢
      obtain ⟨s, hs⟩ : ∃ s, (wayP C r n).t = s := ⟨_, rfl⟩
      have hTr := HT.out r hrm ra rc
      rw [hs] at hTr
      have hBr := HBf.out r hrm ra rc
      have hbr : befR C n t xs r = (decide (s < t) || (decide (s = t) && befB r xs)) := by unfold befR; rw [hs]
      rw [hbr] at hcnt
      have HTr := Lib.hid hTr
      have HBr := Lib.hid hBr
      have HR1 := Lib.hid R1
      have Hcnt := Lib.hid hcnt
      clear hr hrm hrb hrl R1 hTr hBr hbr hcnt hm hs
      go_wp2_with fail
      refine (HTr.out _ (H1.out.drewN q) (HR1.out.drewN q)).mono ?_
      rintro e w3 ⟨rfl, q3, rfl⟩
      have hcnt := Hcnt.out
      by_cases hst : s < t
      · rw [decide_eq_true hst, Bool.true_or, if_pos rfl] at hcnt
        have Hc3 := Lib.hid hcnt
        clear hcnt
        go_wp2
        go_roundw
        case rel => exact ⟨k + 1, _, by omega, by rw [Hc3.out]; go_num, by go_num, rfl⟩
        case measure => simp [intOf]; omega
      · by_cases he : s = t
        · obtain ⟨b, hb⟩ : ∃ b, befB r xs = b := ⟨_, rfl⟩
          rw [decide_eq_false hst, decide_eq_true he, Bool.false_or, Bool.true_and, hb] at hcnt
          have Hc3 := Lib.hid hcnt
          have hbr := HBr.out
          rw [hb] at hbr
          have HBr2 := Lib.hid hbr
          clear hcnt hb hbr
          subst he
          go_wp2_with fail
          refine (HBr2.out _ (HR1.out.drewN _) (Ha1.out.drewN _) (by omega)).mono ?_
          rintro e w4 ⟨rfl, q4, rfl⟩
          cases b with
          | true =>
            go_wp2
            go_roundw
            case rel => exact ⟨k + 1, _, by omega, by rw [Hc3.out]; go_num, by go_num, rfl⟩
            case measure => simp [intOf]; omega
          | false =>
            go_wp2
            go_roundw
            case rel => exact ⟨k + 1, _, by omega, by rw [Hc3.out]; go_num, by go_num, rfl⟩
            case measure => simp [intOf]; omega
        · rw [decide_eq_false hst, decide_eq_false he, Bool.false_or, Bool.false_and, if_neg (by simp)] at hcnt
          have Hc3 := Lib.hid hcnt
          have he2 : ((s : Int) == t) = false := by simp [he]
          clear hcnt he
          go_wp2
          go_roundw
          case rel => exact ⟨k + 1, _, by omega, by rw [Hc3.out]; go_num, by go_num, rfl⟩
          case measure => simp [intOf]; omega
    · obtain rfl : k = c := by omega
      have hc1 : ¬ (k : Int) < k := by omega
      have htk : L.take k = L := List.take_of_length_le (by have := HC.out; omega)
      rw [htk]
      go_wp2
      go_ret
      exact ⟨rfl, below_drewN B1.out q⟩

/-- its total is at most that -/
def witP (C : List (List Int)) (n : Nat) (m : Int) (r : List Int) : Bool := decide ((wayP C r n).t ≤ m)

set_option maxRecDepth 100000 in
set_option maxHeartbeats 4000000 in
theorem refWithin_any (C : List (List Int)) (a : Option Addr) (cap n : Nat) (mm : Int) (w : World) (hR : Rect C n) (hn : C.length = n) (h : Tbl w a C) :
    Calls Try.prog 32 #[.slice a n cap, .int .i64 mm] w fun e w' => e = .returned (.int .i64 ((allL n n).countP (witP C n mm))) ∧ Below w.heap.size w w' := by
  have hn7 := hR.m7
  have hA := fun W => All_any n hn7 W
  have hlen := allL_len n hn7 n
  have h7 : (7 : Nat) ^ n ≤ 7 ^ 7 := Nat.pow_le_pow_right (by decide) hn7
  have hrows := allL_row n n
  generalize allL n n = L at *
  obtain ⟨c, hcl⟩ : ∃ c, L.length = c := ⟨_, rfl⟩
  have hc7 : c ≤ 823543 := by omega
  have hT := fun r (hr : r ∈ L) a3 rc W h ha => refTotal_any C a a3 cap n rc r W hR hn (hrows r hr).2 h ha
  have HA := Lib.hid hA
  have HT := Lib.hid hT
  have HR := Lib.hid hrows
  have H := Lib.hid h
  have HC := Lib.hid hcl
  clear hA hT hrows hlen h7 h hR hcl
  go_enter Try.func32, Try.ntmps32
  go_wp2_with fail
  refine (HA.out _).mono ?_
  rintro e w1 ⟨v, rfl, hl, b1⟩
  obtain ⟨a9, cap9, rfl, hcap9, hcm9, ht9⟩ := hl.tbl
  have H1 := Lib.hid (H.out.below b1)
  have B1 := Lib.hid b1
  have HT9 := Lib.hid ht9
  clear hl b1 ht9
  rw [HC.out] at hcap9 ⊢
  go_wp2
  go_loopw [6, 7] (fun m i wr => ∃ k q : Nat, k ≤ c ∧ m = .int .i64 ((L.take k).countP (witP C n mm)) ∧ i = .int .i64 k ∧ wr = w1.drewN q) (fun _ i _ => c - (intOf i).toNat)
  case atStart => exact ⟨0, 0, Nat.zero_le _, by simp, rfl, rfl⟩
  case round =>
    obtain ⟨k, q, hk, rfl, rfl, rfl⟩ := hrel
    by_cases hlt : k < c
    · have hc1 : (k : Int) < c := by omega
      obtain ⟨r, hr⟩ : ∃ r, L[k]? = some r := ⟨_, List.getElem?_eq_getElem (by have := HC.out; omega)⟩
      have hrm := List.mem_of_getElem? hr
      obtain ⟨hrl, hrb⟩ := HR.out r hrm
      obtain ⟨g, ra, rc, rfl, hg, c1, hrc, R1⟩ := HT9.out.row hr
      rw [hrl] at c1 hrc R1
      have hcnt := countP_take (witP C n mm) L k r hr
      obtain ⟨m, hm⟩ : ∃ m, (L.take k).countP (witP C n mm) = m := ⟨_, rfl⟩
      have hmk : m ≤ 823543 := by rw [← hm]; refine Nat.le_trans List.countP_le_length ?_; rw [List.length_take]; omega
      rw [hm] at hcnt ⊢
      obtain ⟨s, hs⟩ : ∃ s, (wayP C r n).t = s := ⟨_, rfl⟩
      have hTr := HT.out r hrm ra rc
      rw [hs] at hTr
      have hbr : witP C n mm r = decide (s ≤ mm) := by unfold witP; rw [hs]
      rw [hbr] at hcnt
      have HTr := Lib.hid hTr
      have HR1 := Lib.hid R1
      have Hcnt := Lib.hid hcnt
      clear hr hrm hrb hrl R1 hTr hbr hcnt hm hs
      go_wp2_with fail
      refine (HTr.out _ (H1.out.drewN q) (HR1.out.drewN q)).mono ?_
      rintro e w3 ⟨rfl, q3, rfl⟩
      have hcnt := Hcnt.out
      by_cases hst : s ≤ mm
      · rw [decide_eq_true hst, if_pos rfl] at hcnt
        have Hc3 := Lib.hid hcnt
        clear hcnt
        go_wp2
        go_roundw
        case rel => exact ⟨k + 1, _, by omega, by rw [Hc3.out]; go_num, by go_num, rfl⟩
        case measure => simp [intOf]; omega
      · rw [decide_eq_false hst, if_neg (by simp)] at hcnt
        have Hc3 := Lib.hid hcnt
        clear hcnt
        go_wp2
        go_roundw
        case rel => exact ⟨k + 1, _, by omega, by rw [Hc3.out]; go_num, by go_num, rfl⟩
        case measure => simp [intOf]; omega
    · obtain rfl : k = c := by omega
      have hc1 : ¬ (k : Int) < k := by omega
      have htk : L.take k = L := List.take_of_length_le (by have := HC.out; omega)
      rw [htk]
      go_wp2
      go_ret
      exact ⟨rfl, below_drewN B1.out q⟩
end Go.Proofs.Ytdlbfiofpgicaaa

/- The numbers of assignments that come before one, or are at most as expensive, program and reference: the same. -/
namespace Go.Proofs.Ytdlbfiofpgicaaa
set_option linter.unusedVariables false
open Go.RowKit

theorem put_holes (x : Way) (b : Nat) (h k : Int) (hb : b < 7) : (x.put b h k).holes = x.holes.set b h := by
  rcases lt7 hb with rfl | rfl | rfl | rfl | rfl | rfl | rfl <;> rfl
theorem wayP_holes (C : List (List Int)) (xs : List Int) (hl : xs.length ≤ 7) : ∀ k, k ≤ xs.length → (wayP C xs k).holes = xs.take k ++ List.replicate (7 - k) 0 := by
  intro k
  induction k with
  | zero => intro _; rfl
  | succ k ih =>
    intro hk
    show ((wayP C xs k).put k (xs.getD k 0) _).holes = _
    rw [put_holes _ _ _ _ (by omega), ih (by omega), List.set_append, if_neg (by rw [List.length_take]; omega)]
    have h1 : k - (xs.take k).length = 0 := by rw [List.length_take]; omega
    have h2 : 7 - k = (7 - (k + 1)) + 1 := by omega
    obtain ⟨x, hx⟩ : ∃ x, xs[k]? = some x := ⟨_, List.getElem?_eq_getElem (by omega)⟩
    rw [h1, h2, List.replicate_succ, List.set_cons_zero, List.take_add_one, List.getD_eq_getElem?_getD, hx]
    simp
theorem cmpL_append : ∀ (xs ys zs : List Int), xs.length = ys.length → cmpL (xs ++ zs) (ys ++ zs) = cmpL xs ys := by
  intro xs
  induction xs with
  | nil =>
    intro ys zs h
    cases ys with
    | nil => exact cmpL_self zs
    | cons y ys => cases h
  | cons x xs ih =>
    intro ys zs h
    cases ys with
    | nil => cases h
    | cons y ys =>
      show (if x = y then cmpL (xs ++ zs) (ys ++ zs) else _) = (if x = y then cmpL xs ys else _)
      rw [ih ys zs (by simpa using h)]
theorem ord_bef {C : List (List Int)} (hn : C.length ≤ 7) {y : Way} (hy : y ∈ asgW C) {xs : List Int} (hl : xs.length = C.length) : decide (ordW y (wayP C xs C.length) < 0) = befR C C.length (wayP C xs C.length).t xs (y.holes.take C.length) := by
  have hw := asgW_way hn y hy
  have h1 : (y.holes.take C.length).length = C.length := by rw [List.length_take]; show min _ 7 = _; omega
  have e1 := wayP_holes C (y.holes.take C.length) (by omega) C.length (by omega)
  have e2 := wayP_holes C xs (by omega) C.length (by omega)
  rw [hw, List.take_of_length_le (by omega)] at e1
  rw [List.take_of_length_le (by omega)] at e2
  unfold befR befB ordW
  rw [hw]
  by_cases ht : y.t = (wayP C xs C.length).t
  · have h3 : ¬ y.t < (wayP C xs C.length).t := by omega
    rw [if_pos ht, decide_eq_true ht, decide_eq_false h3, Bool.false_or, Bool.true_and, e2]
    rw [show cmpL y.holes (xs ++ List.replicate (7 - C.length) 0) = cmpL (y.holes.take C.length ++ List.replicate (7 - C.length) 0) (xs ++ List.replicate (7 - C.length) 0) from congrArg (fun z => cmpL z _) e1, cmpL_append _ _ _ (by omega)]
  · rw [if_neg ht, decide_eq_false ht, Bool.false_and, Bool.or_false]
    exact cmpInt_neg _ _ ht
theorem countP_filter_len {α : Type} (p : α → Bool) (l : List α) : (l.filter p).length = l.countP p := List.countP_eq_length_filter.symm
theorem idx_same {C : List (List Int)} (hn : C.length ≤ 7) {xs : List Int} (hl : xs.length = C.length) :
    ((asgW C).filter fun x => decide (ordW x (wayP C xs C.length) < 0)).length = (allL C.length C.length).countP (befR C C.length (wayP C xs C.length).t xs) := by
  rw [countP_filter_len, ← asgW_rows hn, List.countP_map]
  exact List.countP_congr fun y hy => by rw [ord_bef hn hy hl]; rfl
theorem wit_same {C : List (List Int)} (hn : C.length ≤ 7) (m : Int) :
    ((asgW C).filter fun x => decide (x.t ≤ m)).length = (allL C.length C.length).countP (witP C C.length m) := by
  rw [countP_filter_len, ← asgW_rows hn, List.countP_map]
  refine List.countP_congr fun y hy => ?_
  show _ ↔ witP C C.length m (y.holes.take C.length) = true
  unfold witP
  rw [asgW_way hn y hy]
end Go.Proofs.Ytdlbfiofpgicaaa

/- The law's ButtonsIndexes: its walk. -/
namespace Go.Proofs.Ytdlbfiofpgicaaa
set_option linter.unusedVariables false
open Go.RowKit

/-- the law's table of what came in -/
def TableC (w : World) (tv : Value) (C : List (List Int)) : Prop := ∀ W, Below w.heap.size w W → Calls Try.prog 16 #[tv] W fun e w' => ∃ v, e = .returned v ∧ Lines w' W.heap.size v C ∧ Below W.heap.size W w'
/-- the law's list of what came in -/
def ListC (w : World) (rv : Value) (xs : List Int) : Prop := ∀ W, Below w.heap.size w W → Calls Try.prog 26 #[rv] W fun e w' => ∃ v, e = .returned v ∧ w'.ownsRow W.heap.size 3 1 v xs.length (intL xs) ∧ Below W.heap.size W w'
theorem TabIn.tableC {w : World} {tv : Value} {C : List (List Int)} (h : TabIn w tv C) : TableC w tv (cutT C) := fun W hb => table_any tv C W (h.below hb)
theorem RowIn.listC {w : World} {rv : Value} {xs : List Int} (h : RowIn w rv xs) : ListC w rv (xs.take 8) := fun W hb => list_in rv xs W (h.below hb)
theorem cutT_rows (C : List (List Int)) : (cutT C).length ≤ 8 ∧ ∀ row ∈ cutT C, row.length ≤ 8 := by
  refine ⟨by unfold cutT; rw [List.length_map, List.length_take]; omega, fun row h => ?_⟩
  unfold cutT at h
  obtain ⟨r, _, rfl⟩ := List.mem_map.1 h
  rw [List.length_take]; omega

set_option maxRecDepth 100000 in
set_option maxHeartbeats 4000000 in
theorem idx_walk (tv rv : Value) (C : List (List Int)) (xs : List Int) (w : World) (hT : TableC w tv C) (hL : ListC w rv xs) (hn : C.length ≤ 8) (hr : ∀ row ∈ C, row.length ≤ 8) (hm : xs.length ≤ 8) :
    Calls Try.prog 6 #[tv, rv] w fun e w' => e = .returned (.bool true) ∧ Below w.heap.size w w' := by
  have HT : Hid (∀ W, Below w.heap.size w W → Calls Try.prog 16 #[tv] W fun e w' => ∃ v, e = .returned v ∧ Lines w' W.heap.size v C ∧ Below W.heap.size W w') := hT
  have HL : Hid (∀ W, Below w.heap.size w W → Calls Try.prog 26 #[rv] W fun e w' => ∃ v, e = .returned v ∧ w'.ownsRow W.heap.size 3 1 v xs.length (intL xs) ∧ Below W.heap.size W w') := hL
  have HI := Lib.hid fun a a2 cap m ca w h ha => Index_any C xs a a2 cap m ca w h (by omega) (fun row hrow => by have := hr row hrow; omega) ha
  have HC := Lib.hid fun a cap n w hn2 h => refCosts_any C a cap n w hn2 h (by omega) (fun row hrow => by have := hr row hrow; omega)
  have HW := Lib.hid awake_any
  clear hT hL
  go_enter Try.func6, Try.ntmps6
  go_wp2_with fail
  refine (HT.out _ (Below.refl _ _)).mono ?_
  rintro e w1 ⟨v, rfl, hl, b1⟩
  obtain ⟨a, cap, rfl, hcap, hcm, ht⟩ := hl.tbl
  have T1 := Lib.hid ht
  have B1 := Lib.hid b1
  clear hl ht b1
  go_wp2_with fail
  refine (HL.out _ B1.out).mono ?_
  rintro e w2 ⟨v2, rfl, ho, b2⟩
  obtain ⟨a2, ca, rfl, hR2⟩ := Row.of_own ho
  have T2 := Lib.hid (T1.out.below b2)
  have R2 := Lib.hid hR2
  have B2 := Lib.hid (b_next B1.out b2)
  clear ho hR2 b2 B1 T1
  obtain ⟨m, hxm⟩ : ∃ m, xs.length = m := ⟨_, rfl⟩
  obtain ⟨n, hCn⟩ : ∃ n, C.length = n := ⟨_, rfl⟩
  have HI2 := HI.out a a2 cap m ca w2 T2.out (by have := R2.out; rwa [hxm] at this) (by omega)
  have R3 : Hid (Row w2 a2 m (intL xs)) := by have := R2.out; rwa [hxm] at this
  obtain ⟨⟨i1, i2⟩, hi⟩ : ∃ i, idxR C xs = i := ⟨_, rfl⟩
  rw [hi] at HI2
  simp only at HI2
  rw [hCn] at HI2 hcap hn ⊢
  rw [hxm] at hm ⊢
  have HI3 := Lib.hid HI2
  have Hcn := Lib.hid hCn
  have Hxm := Lib.hid hxm
  have Hi := Lib.hid hi
  clear HI2 HI R2 hCn hxm hi
  go_wp2_with fail
  refine HI3.out.mono ?_
  rintro e w3 ⟨rfl, b3⟩
  have T3 := Lib.hid (T2.out.below b3)
  have R4 := Lib.hid (R3.out.below b3)
  have B3 := Lib.hid (b_next B2.out b3)
  clear b3 T2 R3 B2 HI3
  cases hcb : costsB C with
  | false =>
    have h2 : i1 = 0 ∧ i2 = 2 := by
      have := Hi.out
      unfold idxR at this
      rw [hcb] at this
      simp at this
      exact ⟨this.1.symm, this.2.symm⟩
    obtain ⟨rfl, rfl⟩ := h2
    have Hcb := Lib.hid hcb
    clear hcb
    go_wp2_with fail
    refine (HC.out _ _ _ _ Hcn.out T3.out).mono ?_
    rintro e w4 ⟨rfl, rfl⟩
    rw [Hcb.out]
    go_wp2_with fail
    refine (HW.out _).mono ?_
    rintro e w5 ⟨rfl, b5⟩
    go_wp2
    go_ret
    exact ⟨rfl, b_next B3.out b5⟩
  | true =>
    obtain ⟨hRc, hp⟩ := Rect.of_costs hcb
    rw [Hcn.out] at hRc
    have hA := fun w h => refAssignment_any a2 m n ca xs w h hRc.m7 (by omega)
    have hasb : ∃ b, asgB xs n = b := ⟨_, rfl⟩
    obtain ⟨b, hb⟩ := hasb
    rw [hb] at hA
    have HA := Lib.hid hA
    have Hb := Lib.hid hb
    have Hcb := Lib.hid hcb
    have HRc := Lib.hid hRc
    clear hA hb hcb hRc hp
    go_wp2_with fail
    refine (HC.out _ _ _ _ Hcn.out T3.out).mono ?_
    rintro e w4 ⟨rfl, rfl⟩
    rw [Hcb.out]
    go_wp2_with fail
    refine (HA.out _ R4.out).mono ?_
    rintro e w5 ⟨rfl, q5, rfl⟩
    cases b with
    | false =>
      have h2 : i1 = 0 ∧ i2 = 2 := by
        have := Hi.out
        unfold idxR at this
        rw [Hcb.out, Hcn.out, Hb.out] at this
        simp at this
        exact ⟨this.1.symm, this.2.symm⟩
      obtain ⟨rfl, rfl⟩ := h2
      go_wp2_with fail
      refine (HW.out _).mono ?_
      rintro e w6 ⟨rfl, b6⟩
      go_wp2
      go_ret
      exact ⟨rfl, b_next (below_drewN B3.out q5) b6⟩
    | true =>
      have hasg := Hb.out
      unfold asgB at hasg
      rw [decide_eq_true_eq] at hasg
      have hxn := hasg.1
      have h2 : i1 = (((allL n n).countP (befR C n (wayP C xs n).t xs) : Nat) : Int) ∧ i2 = 0 := by
        have := Hi.out
        unfold idxR at this
        rw [Hcb.out, Hcn.out, Hb.out] at this
        simp only [Bool.and_self, if_true, Prod.mk.injEq] at this
        refine ⟨?_, this.2.symm⟩
        rw [← this.1]
        have h3 := idx_same (C := C) (by rw [Hcn.out]; exact HRc.out.m7) (xs := xs) (by rw [Hcn.out, hxn])
        rw [Hcn.out] at h3
        rw [h3]
      obtain ⟨h2a, rfl⟩ := h2
      obtain rfl : m = n := by have := Hxm.out; omega
      have hX := fun w h ha => refIndex_any C a a2 cap m ca xs w HRc.out Hcn.out hasg.2.1 h ha
      rw [← h2a] at hX
      have HX := Lib.hid hX
      clear hX h2a hasg hxn
      go_wp2_with fail
      refine (HX.out _ (T3.out.drewN q5) (R4.out.drewN q5)).mono ?_
      rintro e w6 ⟨rfl, b6⟩
      go_wp2_with fail
      refine (HW.out _).mono ?_
      rintro e w7 ⟨rfl, b7⟩
      go_wp2
      go_ret
      exact ⟨rfl, b_next (b_next (below_drewN B3.out q5) b6) b7⟩
theorem walk_ButtonsIndexes (tv : Value) (C : List (List Int)) (w : World) (hT : TabIn w tv C) (rv : Value) (xs : List Int) (hR : RowIn w rv xs) :
    Calls Try.prog 6 #[tv, rv] w fun e w' => e = .returned (.bool true) ∧ Below w.heap.size w w' :=
  idx_walk tv rv _ _ w hT.tableC hR.listC (cutT_rows C).1 (cutT_rows C).2 (by rw [List.length_take]; omega)
end Go.Proofs.Ytdlbfiofpgicaaa

/- ButtonsIndexes: for any costs and list, Index returns how many assignments come before an assignment, or ErrArg. Conditions: none. -/
namespace Go.Proofs.Ytdlbfiofpgicaaa
set_option linter.unusedVariables false

namespace lawButtonsIndexes
open Go.ChangeShapes Go.WideShapes Go.ChangeAt Go.RowKit
open Go.ChangeMaps (open_string shut_string)

theorem own : ownKnob Try.prog.godebug = none := by kernel_rfl
theorem lay : laidOutB Try.prog = true := by kernel_rfl

set_option maxRecDepth 100000 in
theorem lifted (os : Os) (started : os.Started) (H : Type) (enc : TypeId × Value → H) :
    ReturnsInHanded {} Try.checked os 6 .any (Rows.buttonsIndexesSpec.pre6 enc Try.prog Try.f6 Rows.buttonsIndexesRow.domain false) (Rows.buttonsIndexesSpec.post enc Try.prog Try.f6 false true false false) := by
  refine returnsInHanded_of_change (C := Try.checked) own started (by kernel_rfl) Try.func6
    (ChangeSpec.witness6 (enc := enc) (C := Try.checked) false ⟨#[], #[.slice none 0 0, .slice none 0 0], []⟩ 8 (by kernel_rfl) (by kernel_rfl) (by kernel_rfl) (by kernel_rfl)) ?_
  intro W base args ds gs before hval0 hW hcnd _
  have hval : ∀ (j : Nat) t v, Try.f6.params[j]? = some t → args[j]? = some v → Value.okWide Try.prog W .any base t v := hval0
  have hW' := hW
  obtain ⟨p, q, hA0, hV, rfl, hfz, hnd⟩ := hW
  have hA : DataW.TrodAll enc Try.prog W 0 (fun _ => true) true Try.f6.params.toList args.toList ds p := hA0
  rw [Try.params6] at hA hval
  obtain ⟨v0, vs0, d0, ds0, p0, q0, hargs, rfl, rfl, h0, r0⟩ := trodAll_cons hA
  obtain ⟨v1, vs1, d1, ds1, p1, q1, rfl, rfl, rfl, h1, r1⟩ := trodAll_cons r0
  obtain ⟨rfl, rfl, rfl⟩ := trodAll_nil r1
  obtain rfl : args = #[v0, v1] := by cases args; simp_all
  obtain ⟨rfl, rfl⟩ := trodVars_none hV
  obtain ⟨a0, len0, cap0, rfl⟩ := okWide_slice Try.underlying22 (hval 0 22 v0 rfl rfl)
  have k0 := h0
  have lt0 : ∀ x ∈ p0, x.block < W.heap.size := by obtain ⟨m, hm⟩ := k0; exact DataW.trod_lt m _ _ _ hm
  obtain ⟨z0, w0⟩ : ∃ C, TabIn W (.slice a0 len0 cap0) C := by
    obtain ⟨fuel, hf⟩ := h0
    rcases Go.Deep.open_int_rows Try.underlying22 Try.underlying24 Try.underlying3 (by kernel_rfl) (by kernel_rfl) hf with ⟨hcs, _⟩ | ⟨x, l, c, A, L, C, Z, hcs, _, hl, hm, _, hr⟩
    · simp [Value.cells] at hcs
      obtain ⟨rfl, rfl, rfl⟩ := hcs
      exact ⟨[], .inl ⟨_, rfl, rfl⟩⟩
    · simp [Value.cells] at hcs
      obtain ⟨rfl, rfl, rfl⟩ := hcs
      exact tabIn_of hl (fun r h => ⟨(hr r h).1, (hr r h).2.1, (hr r h).2.2.2.1, (hr r h).2.2.2.2.2.1, fun a' ha => ((hr r h).2.2.2.2.2.2 a' ha).2⟩)
  obtain ⟨a1, len1, cap1, rfl⟩ := okWide_slice Try.underlying24 (hval 1 24 v1 rfl rfl)
  have k1 := h1
  have lt1 : ∀ x ∈ p1, x.block < W.heap.size := by obtain ⟨m, hm⟩ := k1; exact DataW.trod_lt m _ _ _ hm
  obtain ⟨z1, w1⟩ : ∃ C, RowIn W (.slice a1 len1 cap1) C := by
    obtain ⟨fuel, hf⟩ := h1
    exact rowIn_of Try.underlying24 Try.underlying3 (by kernel_rfl) hf
  clear hA0 hval0
  refine (walk_ButtonsIndexes _ z0 W w0 _ z1 w1).mono fun e W' ⟨he, bel⟩ => ?_
  subst he
  exact ⟨_, rfl, _, _, _, [], _, [], hW', trodAll_mk1 (shut_bool Try.underlying4 _), (trodAll_cons_mk (Below.trod lay (by kernel_rfl) (of_decide_eq_true (by kernel_rfl)) k0 bel lt0) (trodAll_cons_mk (Below.trod lay (by kernel_rfl) (of_decide_eq_true (by kernel_rfl)) k1 bel lt1) trodAll_mk0)), rfl, bel.frame _, fun h => by cases h⟩

theorem over : Rows.buttonsIndexesRow.holds Try.pinned (OpenSpec.ofChange Rows.buttonsIndexesSpec) :=
  OpenClaim.holds_of_wide 6 Try.f6 rfl rfl rfl rfl rfl rfl rfl ⟨rfl, rfl, rfl, rfl, rfl⟩ rfl rfl rfl rfl rfl (by kernel_rfl) Try.func6 (by kernel_rfl)
    (of_decide_eq_true (by kernel_rfl)) (by unfold Func.isWrapper; first | (rw [if_pos (by decide +kernel)]; kernel_rfl) | (rw [if_neg (by decide +kernel)]; exact ⟨rfl, rfl⟩))
    (fun os started H enc _ => lifted os started H enc)

theorem proved : Rows.ButtonsIndexesSaid := over
end lawButtonsIndexes
end Go.Proofs.Ytdlbfiofpgicaaa
