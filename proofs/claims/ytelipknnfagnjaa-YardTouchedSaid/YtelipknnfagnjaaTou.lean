/- Touching: the neighbors of a fraction in a row. -/
import Derived.Test.YtelipknnfagnjaaVis
import Derived.Test.YtelipknnfagnjaaRtou
namespace Go.Proofs.Ytelipknnfagnjaa
set_option linter.unusedVariables false
open Go.RowKit Go.Maps Go.Shelf

theorem widest_gap {N : Nat} (h1 : 1 ≤ N) : Gap N ⟨0, 1, 1, 1⟩ := ⟨rfl, Nat.le_refl _, Nat.le_refl _, h1, h1, Nat.zero_le _, Nat.le_refl _⟩
/-- what the search finds from the widest gap: all neighbors in the row -/
theorem vis_all {N p q : Nat} (h1 : 1 ≤ N) (hq1 : 1 ≤ q) (hq : q ≤ N) (hpq : p ≤ q) (hg : Nat.gcd p q = 1) (x : Nat × Nat) : x ∈ visK N N (p, q) ⟨0, 1, 1, 1⟩ ↔ x ∈ touchL N (p, q) (len N) := by
  rw [vis_mem N N ⟨0, 1, 1, 1⟩ (p, q) (widest_gap h1) h1 (by simp only; omega) hq1 hq hg ⟨by simp, by simp only; omega⟩]
  unfold touchL
  rw [List.mem_filter, mem_row h1, nbE_iff]
  unfold Low InG
  constructor
  · rintro ⟨h2, h3, h4, h5, h6⟩
    simp only at h5 h6
    exact ⟨⟨h3, h4, by omega, h2.gcd⟩, h2⟩
  · rintro ⟨⟨h2, h3, h4, h5⟩, h6⟩
    exact ⟨h6, h2, h3, by simp, by simp only; omega⟩
theorem touch_sorted {N : Nat} (h1 : 1 ≤ N) (f : Nat × Nat) : (touchL N f (len N)).Pairwise LtF := (frs_sorted h1 _).filter _
/-- every fraction of the row has a neighbor in it -/
theorem touch_some {N p q : Nat} (h1 : 1 ≤ N) (hq1 : 1 ≤ q) (hq : q ≤ N) (hpq : p ≤ q) (hg : Nat.gcd p q = 1) : visK N N (p, q) ⟨0, 1, 1, 1⟩ ≠ [] := by
  intro h
  obtain ⟨k, hk, hf⟩ := low_fr h1 (x := (p, q)) ⟨hq1, hq, hpq, hg⟩
  have hl := len_two h1
  have key : ∀ x, x ∈ touchL N (p, q) (len N) → False := fun x hx => by
    have := (vis_all h1 hq1 hq hpq hg x).2 hx
    rw [h] at this; cases this
  by_cases hk1 : k + 1 < len N
  · have hd := fr_det h1 k
    rw [hf] at hd
    refine key (fr N (k + 1)) ?_
    unfold touchL
    rw [List.mem_filter, mem_row h1, nbE_iff]
    exact ⟨fr_low h1 hk1, .inr hd⟩
  · obtain ⟨j, rfl⟩ : ∃ j, k = j + 1 := ⟨k - 1, by omega⟩
    have hd := fr_det h1 j
    rw [hf] at hd
    refine key (fr N j) ?_
    unfold touchL
    rw [List.mem_filter, mem_row h1, nbE_iff]
    exact ⟨fr_low h1 (by omega), .inl hd⟩

set_option maxRecDepth 100000 in
set_option maxHeartbeats 4000000 in
theorem Touching_yes (N p q : Nat) (h1 : 1 ≤ N) (h3 : N ≤ 300) (hv : validB p q = true) (hqN : q ≤ N) (w : World) :
    Calls Try.prog 23 #[.int .i64 N, .agg #[.int .i64 p, .int .i64 q]] w fun e w' => ∃ v, e = .returned (.tuple #[v, .int .i64 0]) ∧ w'.ownsRow w.heap.size 26 2 v (touchL N (p, q) (len N)).length (flatF (touchL N (p, q) (len N))) ∧ Below w.heap.size w w' := by
  obtain ⟨p', q', e1, e2, v1, v2, v3, v4⟩ := valid_nat hv
  obtain rfl : p = p' := by omega
  obtain rfl : q = q' := by omega
  have hrow : rowB N = true := by unfold rowB; simp; omega
  have Hrow := Lib.hid hrow
  have HV := Lib.hid hv
  have A0 := (Boxed.new w 3 (.int .i64 N)).alloc (.cells #[.int .i64 p, .int .i64 q] 26)
  have A1 := Two.new (w.alloc (.cells #[.int .i64 N] 3)) 26 p q
  simp only [World.size_alloc] at A1
  have AB := b_next (below_alloc w (.cells #[.int .i64 N] 3)) (below_alloc _ (.cells #[.int .i64 p, .int .i64 q] 26))
  have HA := Lib.hid (And.intro A0 (And.intro A1 AB))
  have hqN' : ¬ (N : Int) < q := by omega
  have hmm := @run_makeMap Try.prog
  clear A0 A1 AB hrow hv e1 e2
  go_enter Try.func23, Try.ntmps23
  go_wp2_with (first
    | (go_at_call 51; refine (row_51_any _ _).mono ?_; rintro e w0 ⟨rfl, rfl⟩; rw [Hrow.out])
    | (go_at_call 53; refine (isValid_any _ _ _).mono ?_; rintro e w1 ⟨rfl, b1⟩; rw [HV.out]; have B0 := HA.out.1.below b1; have B1 := HA.out.2.1.below b1; have BB := b_next HA.out.2.2 b1; have c0 := B0.cell; obtain ⟨d0, d1, _, _⟩ := B1.cells; have HB := Lib.hid (And.intro B0 (And.intro B1 BB)); clear B0 B1 BB b1))
  have hX1 := below_alloc w1 (.map #[] 0)
  have hX2 := below_alloc (w1.alloc (.map #[] 0)) (.cells #[.map (some w1.heap.size)] 78)
  have hX3 := below_alloc ((w1.alloc (.map #[] 0)).alloc (.cells #[.map (some w1.heap.size)] 78)) (.cells #[.func (.func 58) #[] #[.pointer (some ⟨w.heap.size + 1, 0, none⟩), .pointer (some ⟨w1.heap.size + 1, 0, none⟩), .pointer (some ⟨w.heap.size, 0, none⟩), .pointer (some ⟨w1.heap.size + 1 + 1, 0, none⟩)]] 79)
  have N2 := Boxed.new (w1.alloc (.map #[] 0)) 78 (.map (some w1.heap.size))
  have N3 := Boxed.new ((w1.alloc (.map #[] 0)).alloc (.cells #[.map (some w1.heap.size)] 78)) 79 (.func (.func 58) #[] #[.pointer (some ⟨w.heap.size + 1, 0, none⟩), .pointer (some ⟨w1.heap.size + 1, 0, none⟩), .pointer (some ⟨w.heap.size, 0, none⟩), .pointer (some ⟨w1.heap.size + 1 + 1, 0, none⟩)])
  have O1 : OwnF (w1.alloc (.map #[] 0)) w1.heap.size 0 [] := World.ownsMap_made (H := Unit) w1 _ _ _
  have O3 := ownF_below (ownF_below O1 hX2) hX3
  have bX := b_next (b_next hX1 hX2) hX3
  have N2' := N2.below hX3
  generalize hX : ((w1.alloc (.map #[] 0)).alloc (.cells #[.map (some w1.heap.size)] 78)).alloc (.cells #[.func (.func 58) #[] #[.pointer (some ⟨w.heap.size + 1, 0, none⟩), .pointer (some ⟨w1.heap.size + 1, 0, none⟩), .pointer (some ⟨w.heap.size, 0, none⟩), .pointer (some ⟨w1.heap.size + 1 + 1, 0, none⟩)]] 79) = X at *
  simp only [World.size_alloc] at N2' N3
  have EX : Env X (w.heap.size + 1) (w1.heap.size + 1) w.heap.size (w1.heap.size + 1 + 1) w1.heap.size p q N := ⟨HB.out.2.1.below bX, N2', HB.out.1.below bX, N3⟩
  have hgap := widest_gap h1
  have hlen := vis_len N N ⟨0, 1, 1, 1⟩ (p, q) hgap v4
  have hvis := fun (Y : World) (hE : Env Y (w.heap.size + 1) (w1.heap.size + 1) w.heap.size (w1.heap.size + 1 + 1) w1.heap.size p q N) (hO : OwnF Y w1.heap.size 0 []) =>
    visit_any N p q h3 (by omega) (by omega) (by omega) (w.heap.size + 1) (w1.heap.size + 1) w.heap.size (w1.heap.size + 1 + 1) w1.heap.size N ⟨0, 1, 1, 1⟩ 0 [] Y hgap h1 (by simp only; omega) hE hO (by omega)
  unfold gapV at hvis
  simp only [Int.natCast_zero, Int.natCast_one, Nat.zero_add, List.nil_append] at hvis
  obtain ⟨VL, hVL⟩ : ∃ V, visK N N (p, q) ⟨0, 1, 1, 1⟩ = V := ⟨_, rfl⟩
  have hvm := fun x => vis_all h1 (by omega) hqN v3 v4 x (N := N) (p := p) (q := q)
  have hvs := touch_some h1 (by omega) hqN v3 v4 (N := N) (p := p) (q := q)
  rw [hVL] at hlen hvis hvs
  simp only [hVL] at hvm
  have HVis := Lib.hid hvis
  have HVm := Lib.hid (And.intro hvm (And.intro hvs hlen))
  have HE := Lib.hid EX
  have HO := Lib.hid O3
  have HBX := Lib.hid (And.intro HB.out.2.2 (And.intro bX (HB.out.2.1.lt)))
  have v0 := EX.v.cell
  have hW := fun w => widest_any w
  clear hX1 hX2 hX3 N2 N3 O1 O3 bX N2' EX hgap hlen hvis hvm hvs hX HB hVL
  go_region_held3 (fun w' => w'.cell? ⟨w1.heap.size + 1 + 1, 0, none⟩ = some (.func (.func 58) #[] #[.pointer (some ⟨w.heap.size + 1, 0, none⟩), .pointer (some ⟨w1.heap.size + 1, 0, none⟩), .pointer (some ⟨w.heap.size, 0, none⟩), .pointer (some ⟨w1.heap.size + 1 + 1, 0, none⟩)]))
    (first | exact v0 | exact u0 | exact s0)
    (first
      | (go_at_call 62; refine (hW _).mono ?_; rintro e x1 ⟨rfl, z1⟩; have b1 := undrew1 z1; have HE1 := Lib.hid (HE.out.below b1); have HO1 := Lib.hid (ownF_below HO.out b1); have HX1 := Lib.hid (b_next HBX.out.2.1 b1); have u0 := HE1.out.v.cell)
      | (go_at_call 58; refine (HVis.out _ HE1.out HO1.out).mono ?_; rintro e x2 ⟨rfl, O2, g2⟩; have mp := own_map HO1.out; have HE2 := Lib.hid (HE1.out.grown g2 mp); have HO2 := Lib.hid O2; have HX2 := Lib.hid (And.intro HX1.out g2); have c6 := HE2.out.m.cell; have s0 := HE2.out.v.cell))
  obtain ⟨hvm, hvs, hlen⟩ := HVm.out
  have hsm : ∀ z ∈ VL, 1 ≤ z.2 ∧ z.1 ≤ 1000000 ∧ z.2 ≤ 1000000 ∧ Nat.gcd z.1 z.2 = 1 := fun z hz => by
    have h := (hvm z).1 hz
    unfold touchL at h
    rw [List.mem_filter, mem_row h1] at h
    obtain ⟨⟨g1, g2, g3, g4⟩, _⟩ := h
    exact ⟨g1, by omega, by omega, g4⟩
  have hcS := SortedFunc_set w1.heap.size VL.length VL hsm hvs x2 HO2.out (by omega)
  have HcS := Lib.hid hcS
  have HcK := Lib.hid (fun Y => (callsIn_wide (n := 1)).1 (keys_in 1 w1.heap.size Y))
  have HX3 := Lib.hid (b_next HBX.out.1 (HX2.out.1.grown HX2.out.2 HX2.out.1.size (fun j hj => by cases hj; exact Nat.le_refl _)))
  clear hcS hsm hvm hvs hlen c0 d0 d1 v0 u0 s0
  go_wp2_with (first
    | (go_at_call 64; refine (HcK.out _).mono ?_; rintro e x3 ⟨rfl, rfl⟩)
    | (go_at_call 63; refine HcS.out.mono ?_; rintro e x4 ⟨v, xs, rfl, hrow, hb, hs, hm⟩; have HR := Lib.hid (And.intro hrow (And.intro hb (And.intro hs hm))); clear hrow hb hs hm))
  obtain ⟨hrow, hb, hs, hm⟩ := HR.out
  have hxs : xs = touchL N (p, q) (len N) := sorted_ext LtF_irr LtF_asym hs (touch_sorted h1 _) (fun z => (hm z).trans (HVm.out.1 z))
  rw [hxs] at hrow
  have h20 := HX3.out.size
  refine bodyPost_ret (v := .tuple #[v, .int .i64 0]) (by simp [results, Try.results23, go_sem]) rfl ⟨v, rfl, ownsRow_weak hrow (by omega), ?_⟩
  refine b_next (b_next HX3.out (below_alloc x2 (.cells #[.map (some w1.heap.size)] 78))) ?_
  have hz : (x2.alloc (.cells #[.map (some w1.heap.size)] 78)).heap.size = x2.heap.size + 1 := by simp
  rw [hz]
  exact hb

set_option maxRecDepth 100000 in
set_option maxHeartbeats 4000000 in
theorem Touching_no (n p q : Int) (w : World) (h : rowB n = false ∨ validB p q = false ∨ n < q) :
    Calls Try.prog 23 #[.int .i64 n, .agg #[.int .i64 p, .int .i64 q]] w fun e w' => e = .returned (.tuple #[.slice none 0 0, .int .i64 2]) ∧ Below w.heap.size w w' := by
  have A0 := (Boxed.new w 3 (.int .i64 n)).alloc (.cells #[.int .i64 p, .int .i64 q] 26)
  have A1 := Two.new (w.alloc (.cells #[.int .i64 n] 3)) 26 p q
  simp only [World.size_alloc] at A1
  have AB := b_next (below_alloc w (.cells #[.int .i64 n] 3)) (below_alloc _ (.cells #[.int .i64 p, .int .i64 q] 26))
  have HA := Lib.hid (And.intro A0 (And.intro A1 AB))
  clear A0 A1 AB
  cases hr : rowB n with
  | false =>
    have Hr := Lib.hid hr
    clear h hr
    go_enter Try.func23, Try.ntmps23
    go_wp2_with (go_at_call 51; refine (row_51_any _ _).mono ?_; rintro e w0 ⟨rfl, rfl⟩; rw [Hr.out])
    exact bodyPost_ret (v := .tuple #[.slice none 0 0, .int .i64 2]) (by simp [results, Try.results23, go_sem]) rfl ⟨rfl, HA.out.2.2⟩
  | true =>
    cases hv : validB p q with
    | false =>
      have Hr := Lib.hid hr
      have Hv := Lib.hid hv
      clear h hr hv
      go_enter Try.func23, Try.ntmps23
      go_wp2_with (first
        | (go_at_call 51; refine (row_51_any _ _).mono ?_; rintro e w0 ⟨rfl, rfl⟩; rw [Hr.out])
        | (go_at_call 53; refine (isValid_any _ _ _).mono ?_; rintro e w1 ⟨rfl, b1⟩; rw [Hv.out]; have HBB := Lib.hid (b_next HA.out.2.2 b1); clear b1))
      exact bodyPost_ret (v := .tuple #[.slice none 0 0, .int .i64 2]) (by simp [results, Try.results23, go_sem]) rfl ⟨rfl, HBB.out⟩
    | true =>
      have hq : n < q := by
        rcases h with h | h | h
        · rw [hr] at h; cases h
        · rw [hv] at h; cases h
        · exact h
      have Hr := Lib.hid hr
      have Hv := Lib.hid hv
      clear h hr hv
      go_enter Try.func23, Try.ntmps23
      go_wp2_with (first
        | (go_at_call 51; refine (row_51_any _ _).mono ?_; rintro e w0 ⟨rfl, rfl⟩; rw [Hr.out])
        | (go_at_call 53; refine (isValid_any _ _ _).mono ?_; rintro e w1 ⟨rfl, b1⟩; rw [Hv.out]; have HBB := Lib.hid (b_next HA.out.2.2 b1); have c0 := (HA.out.1.below b1).cell; obtain ⟨d0, d1, _, _⟩ := (HA.out.2.1.below b1).cells; clear b1))
      exact bodyPost_ret (v := .tuple #[.slice none 0 0, .int .i64 2]) (by simp [results, Try.results23, go_sem]) rfl ⟨rfl, HBB.out⟩
end Go.Proofs.Ytelipknnfagnjaa
