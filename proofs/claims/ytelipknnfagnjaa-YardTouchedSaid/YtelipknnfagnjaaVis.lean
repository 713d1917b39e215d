/- The search for the neighbors of a fraction: a closure that calls itself and lays what it finds into a map. -/
import Derived.Test.YtelipknnfagnjaaVism
import Derived.Test.YtelipknnfagnjaaSortf
import Derived.Test.YtelipknnfagnjaaQuad
namespace Go.Proofs.Ytelipknnfagnjaa
set_option linter.unusedVariables false
open Go.RowKit Go.Maps Go.Shelf

/-- what the search has around it -/
structure Env (X : World) (Bf Bm Bn Bv M p q N : Nat) : Prop where
  f : Two X Bf 26 p q
  m : Boxed X Bm 78 (.map (some M))
  n : Boxed X Bn 3 (.int .i64 N)
  v : Boxed X Bv 79 (.func (.func 58) #[] #[.pointer (some ⟨Bf, 0, none⟩), .pointer (some ⟨Bm, 0, none⟩), .pointer (some ⟨Bn, 0, none⟩), .pointer (some ⟨Bv, 0, none⟩)])
abbrev OwnF (X : World) (M cnt : Nat) (L : List (Nat × Nat)) : Prop := X.ownsMap Try.prog 26 (plainElem (H := Unit) Try.prog 4) M cnt (fracSet L)
theorem own_map {X : World} {M cnt : Nat} {L : List (Nat × Nat)} (h : OwnF X M cnt L) : ∃ es c, X.heap[M]? = some (.map es c) := by
  obtain ⟨es, c, hb, _⟩ := h
  exact ⟨es, c, hb⟩
theorem not_map {X : World} {B M : Nat} {vs : Array Value} {t : TypeId} {fr : Nat × Nat} (h : X.heap[B]? = some (.cells vs t fr)) (hm : ∃ es c, X.heap[M]? = some (.map es c)) : B ≠ M := by
  rintro rfl
  obtain ⟨es, c, h2⟩ := hm
  rw [h] at h2; cases h2
theorem Env.below {X Y : World} {Bf Bm Bn Bv M p q N : Nat} (h : Env X Bf Bm Bn Bv M p q N) (hb : Below X.heap.size X Y) : Env Y Bf Bm Bn Bv M p q N := ⟨h.f.below hb, h.m.below hb, h.n.below hb, h.v.below hb⟩
theorem Env.grown {X Y : World} {Bf Bm Bn Bv M p q N : Nat} (h : Env X Bf Bm Bn Bv M p q N) (hg : X.grownBy Y (some M)) (hm : ∃ es c, X.heap[M]? = some (.map es c)) : Env Y Bf Bm Bn Bv M p q N :=
  ⟨h.f.kept hg (fun e => not_map h.f hm (Option.some.inj e)), h.m.kept hg (fun e => not_map h.m hm (Option.some.inj e)), h.n.kept hg (fun e => not_map h.n hm (Option.some.inj e)), h.v.kept hg (fun e => not_map h.v hm (Option.some.inj e))⟩
theorem ownF_below {X Y : World} {M cnt : Nat} {L : List (Nat × Nat)} (h : OwnF X M cnt L) (hb : Below X.heap.size X Y) : OwnF Y M cnt L := ownsMap_grown h (grown_of hb none)
theorem grown_below {X Y Z : World} {M : Nat} (h : X.grownBy Y (some M)) (hb : Below Y.heap.size Y Z) : X.grownBy Z (some M) := h.trans (grown_of hb _)
theorem gap_small {N : Nat} {s : G} (h : Gap N s) (h3 : N ≤ 300) : Small 10000000 s := by
  obtain ⟨_, _, _, h4, h5, h6, h7⟩ := h
  exact ⟨by omega, by omega, by omega, by omega⟩

theorem ite_dec {α : Type} {P : Prop} [Decidable P] {x : Bool} (h : decide P = x) (A B : α) : (if P then A else B) = if x then A else B := by
  subst h; by_cases hp : P <;> simp [hp]
theorem hb_split {a b p q : Nat} : (a = p ∧ b = q ∧ decide (((a, b) : Nat × Nat) = (p, q)) = true) ∨ (((a : Int) == p) = false ∧ ¬ (a : Int) = p ∧ decide (((a, b) : Nat × Nat) = (p, q)) = false) ∨ (((a : Int) == p) = true ∧ ((b : Int) == q) = false ∧ decide (((a, b) : Nat × Nat) = (p, q)) = false) := by
  by_cases h1 : a = p
  · by_cases h2 : b = q
    · exact .inl ⟨h1, h2, by rw [h1, h2]; exact decide_eq_true rfl⟩
    · exact .inr (.inr ⟨by rw [beq_iff_eq]; omega, by rw [beq_eq_false_iff_ne]; omega, decide_eq_false fun e => h2 (Prod.mk.inj e).2⟩)
  · exact .inr (.inl ⟨by rw [beq_eq_false_iff_ne]; omega, by omega, decide_eq_false fun e => h1 (Prod.mk.inj e).1⟩)

set_option maxRecDepth 100000 in
set_option maxHeartbeats 8000000 in
theorem visit_any (N p q : Nat) (h3 : N ≤ 300) (hp : p ≤ 300) (hq1 : 1 ≤ q) (hq : q ≤ 300) (Bf Bm Bn Bv M : Nat) : ∀ (n : Nat) (s : G) (cnt : Nat) (L : List (Nat × Nat)) (w : World), Gap N s → 1 ≤ n → N + 1 < n + (s.b + s.d) → Env w Bf Bm Bn Bv M p q N → OwnF w M cnt L → cnt + (visK n N (p, q) s).length ≤ 100000 →
    Calls Try.prog 58 #[gapV s, .pointer (some ⟨Bf, 0, none⟩), .pointer (some ⟨Bm, 0, none⟩), .pointer (some ⟨Bn, 0, none⟩), .pointer (some ⟨Bv, 0, none⟩)] w fun e w' => e = .returned (.tuple #[]) ∧ OwnF w' M (cnt + (visK n N (p, q) s).length) (L ++ visK n N (p, q) s) ∧ w.grownBy w' (some M)
  | 0, s, cnt, L, w, hG, h0, hn, hE, hO, hc => absurd h0 (by omega)
  | n + 1, ⟨a, b, c, d⟩, cnt, L, w, hG, _, hn, hE, hO, hc => by
    have hmid := fun w => middle_any ⟨a, b, c, d⟩ (gap_small hG h3) w
    have hleft := fun w => left_any ⟨a, b, c, d⟩ (gap_small hG h3) w
    have hright := fun w => right_any ⟨a, b, c, d⟩ (gap_small hG h3) w
    have hG2 := hG
    obtain ⟨_, gb1, gd1, gb, gd, gab, gcd⟩ := hG2
    simp only at gb1 gd1 gb gd gab gcd hn
    have ihL := fun (cnt : Nat) (L : List (Nat × Nat)) (w : World) (hm : b + d ≤ N) => visit_any N p q h3 hp hq1 hq Bf Bm Bn Bv M n (leftG ⟨a, b, c, d⟩) cnt L w (Gap.left hG hm) (by omega) (by simp only [leftG]; omega)
    have ihR := fun (cnt : Nat) (L : List (Nat × Nat)) (w : World) (hm : b + d ≤ N) => visit_any N p q h3 hp hq1 hq Bf Bm Bn Bv M n (rightG ⟨a, b, c, d⟩) cnt L w (Gap.right hG hm) (by omega) (by simp only [rightG]; omega)
    have hV : visK (n + 1) N (p, q) ⟨a, b, c, d⟩ = (if ((a, b) : Nat × Nat) = (p, q) then [((c, d) : Nat × Nat)] else []) ++ ((if ((c, d) : Nat × Nat) = (p, q) then [((a, b) : Nat × Nat)] else []) ++
      if N < b + d then [] else (if lessF (a + c, b + d) (p, q) then [] else visK n N (p, q) (leftG ⟨a, b, c, d⟩)) ++ (if lessF (p, q) (a + c, b + d) then [] else visK n N (p, q) (rightG ⟨a, b, c, d⟩))) := by
      rw [visK]; simp only [midG]; rfl
    rw [hV] at hc ⊢
    have hl1 := fun w => isLess_any (a + c, b + d) (p, q) ⟨by simp only; omega, by simp only; omega⟩ ⟨by simp only; omega, by simp only; omega⟩ w
    have hl2 := fun w => isLess_any (p, q) (a + c, b + d) ⟨by simp only; omega, by simp only; omega⟩ ⟨by simp only; omega, by simp only; omega⟩ w
    unfold gapV leftG at hleft ihL
    unfold gapV rightG at hright ihR
    unfold gapV at hmid ⊢
    unfold frV midG at hmid
    unfold frV at hl1 hl2
    simp only at hmid hl1 hl2 hleft hright ihL ihR
    obtain ⟨m1, hm1⟩ : ∃ m, a + c = m := ⟨_, rfl⟩
    obtain ⟨m2, hm2⟩ : ∃ m, b + d = m := ⟨_, rfl⟩
    unfold leftG rightG at hc ⊢
    simp only at hc ⊢
    rw [hm1, hm2] at hmid hl1 hl2 hleft hright ihL ihR hc ⊢
    obtain ⟨LL, hLL⟩ : ∃ l, visK n N (p, q) ⟨a, b, m1, m2⟩ = l := ⟨_, rfl⟩
    obtain ⟨LR, hLR⟩ : ∃ l, visK n N (p, q) ⟨m1, m2, c, d⟩ = l := ⟨_, rfl⟩
    rw [hLL] at ihL hc ⊢
    rw [hLR] at ihR hc ⊢
    obtain ⟨y1, hy1⟩ : ∃ y, lessF (m1, m2) (p, q) = y := ⟨_, rfl⟩
    obtain ⟨y2, hy2⟩ : ∃ y, lessF (p, q) (m1, m2) = y := ⟨_, rfl⟩
    rw [hy1] at hl1 hc ⊢
    rw [hy2] at hl2 hc ⊢
    obtain ⟨x1, hx1⟩ : ∃ x, decide (((a, b) : Nat × Nat) = (p, q)) = x := ⟨_, rfl⟩
    obtain ⟨x2, hx2⟩ : ∃ x, decide (((c, d) : Nat × Nat) = (p, q)) = x := ⟨_, rfl⟩
    rw [ite_dec hx1, ite_dec hx2] at hc ⊢
    obtain ⟨VV, hVV⟩ : ∃ V, (if x1 then [((c, d) : Nat × Nat)] else []) ++ ((if x2 then [((a, b) : Nat × Nat)] else []) ++ if N < m2 then [] else (if y1 then [] else LL) ++ (if y2 then [] else LR)) = V := ⟨_, rfl⟩
    rw [hVV] at hc ⊢
    have HVV := Lib.hid hVV
    clear hVV
    have hA := below_alloc w (.cells #[.int .i64 (a : Nat), .int .i64 (b : Nat), .int .i64 (c : Nat), .int .i64 (d : Nat)] 81)
    obtain ⟨W1, hW1⟩ : ∃ W, w.alloc (.cells #[.int .i64 (a : Nat), .int .i64 (b : Nat), .int .i64 (c : Nat), .int .i64 (d : Nat)] 81) = W := ⟨_, rfl⟩
    have Q1 := Quad.new w 81 a b c d
    rw [hW1] at hA Q1
    have E1 := hE.below hA
    have O1 := ownF_below hO hA
    have Hmid := Lib.hid hmid
    have Hleft := Lib.hid hleft
    have Hright := Lib.hid hright
    have HIL := Lib.hid ihL
    have HIR := Lib.hid ihR
    have HL1 := Lib.hid hl1
    have HL2 := Lib.hid hl2
    have HG0 := Lib.hid (grown_of hA (some M))
    have HE1 := Lib.hid E1
    have HO := Lib.hid O1
    have HQ1 := Lib.hid Q1
    have Hc := Lib.hid hc
    have hlw : w.heap.size < W1.heap.size := Q1.lt
    obtain ⟨f0, f1, _, _⟩ := E1.f.cells
    obtain ⟨⟨q0, q1, q2, q3⟩, _⟩ := Q1.cells
    clear hmid hleft hright ihL ihR hl1 hl2 hV hE hO hA E1 O1 Q1 hc hLL hLR hy1 hy2
    go_enter Try.func58, Try.ntmps58
    go_upto_region 1 with (fail)
    clear hW1
    go_cut [10] (fun s wy => s = .bool x1 ∧ wy = W1)
    case first =>
      rcases hb_split (a := a) (b := b) (p := p) (q := q) with ⟨rfl, rfl, k3⟩ | ⟨k1, k2, k3⟩ | ⟨k1, k2, k3⟩
      all_goals rw [k3] at hx1
      all_goals subst hx1
      all_goals go_wp2_with fail
      all_goals go_meet
      all_goals exact ⟨rfl, rfl⟩
    case rest =>
      obtain ⟨rfl, hw⟩ := hcut
      have hw2 := hw.symm
      subst hw2
      clear hw
      have hcx : cnt + (if x1 then [((c, d) : Nat × Nat)] else []).length ≤ 100000 := by have := Hc.out; rw [← HVV.out] at this; simp only [List.length_append] at this; omega
      go_upto_if 10 with (fail)
      have cm := HE1.out.m.cell
      obtain ⟨E1l, hE1l⟩ : ∃ l, (if x1 then [((c, d) : Nat × Nat)] else []) = l := ⟨_, rfl⟩
      rw [hE1l] at hcx
      go_cut [] (fun wy => OwnF wy M (cnt + E1l.length) (L ++ E1l) ∧ W1.grownBy wy (some M))
      case first =>
        cases x1 with
        | true =>
          simp only [if_true] at hE1l
          subst hE1l
          simp only [List.length_singleton] at hcx
          go_wp2_with (at_mapUpdate; refine wpList_mapUpdate_own _ rfl _ _ _ 78 rfl 26 4 keyedF Try.underlying78 _ M _ _ rfl HO.out (by unfold maxLen; omega) _ _ (keyLit (c, d)) rfl rfl (keyLit_key (p := (c, d)) ⟨by simp only; omega, by simp only; omega⟩) _ [] (plainElem_bool Try.underlying4 true) ?_; intro w2 hM2 hg2; have HM2 := Lib.hid hM2; have HG2 := Lib.hid hg2; clear hM2 hg2)
          go_meet
          refine ⟨?_, HG2.out⟩
          have := HM2.out
          rw [← fracSet_snoc] at this
          exact this
        | false =>
          simp only [if_false, Bool.false_eq_true] at hE1l
          subst hE1l
          go_wp2_with fail
          go_meet
          refine ⟨?_, rfl, rfl, rfl, Nat.le_refl _, fun _ _ _ => rfl⟩
          simpa using HO.out
      case rest =>
        obtain ⟨O2, G2⟩ := hcut
        generalize wc = W2 at *
        have mp1 := own_map HO.out
        have HE2 := Lib.hid (HE1.out.grown G2 mp1)
        have HQ2 : Hid (Quad W2 w.heap.size 81 a b c d) := HQ1.out.kept G2 (fun e => not_map HQ1.out mp1 (Option.some.inj e))
        have HO2 := Lib.hid O2
        have HGw := Lib.hid (HG0.out.trans G2)
        clear f0 f1 q0 q1 q2 q3 cm G2 O2 HO HE1 HQ1 HG0 hlw mp1
        obtain ⟨f0, f1, _, _⟩ := HE2.out.f.cells
        obtain ⟨⟨q0, q1, q2, q3⟩, _⟩ := HQ2.out.cells
        have cm := HE2.out.m.cell
        have hlw : w.heap.size < W2.heap.size := HQ2.out.lt
        go_upto_region 3 with (fail)
        go_cut [17] (fun s wy => s = .bool x2 ∧ wy = W2)
        case first =>
          rcases hb_split (a := c) (b := d) (p := p) (q := q) with ⟨rfl, rfl, k3⟩ | ⟨k1, k2, k3⟩ | ⟨k1, k2, k3⟩
          all_goals rw [k3] at hx2
          all_goals subst hx2
          all_goals go_wp2_with fail
          all_goals go_meet
          all_goals exact ⟨rfl, rfl⟩
        case rest =>
          obtain ⟨rfl, hw⟩ := hcut
          have hw2 := hw.symm
          subst hw2
          clear hw
          obtain ⟨E2l, hE2l⟩ : ∃ l, (if x2 then [((a, b) : Nat × Nat)] else []) = l := ⟨_, rfl⟩
          have hcy : cnt + E1l.length + E2l.length ≤ 100000 := by have := Hc.out; rw [← HVV.out, hE1l, hE2l] at this; simp only [List.length_append] at this; omega
          go_upto_if 17 with (fail)
          go_cut [] (fun wy => OwnF wy M (cnt + E1l.length + E2l.length) (L ++ E1l ++ E2l) ∧ W2.grownBy wy (some M))
          case first =>
            cases x2 with
            | true =>
              simp only [if_true] at hE2l
              subst hE2l
              simp only [List.length_singleton] at hcy
              go_wp2_with (at_mapUpdate; refine wpList_mapUpdate_own _ rfl _ _ _ 78 rfl 26 4 keyedF Try.underlying78 _ M _ _ rfl HO2.out (by unfold maxLen; omega) _ _ (keyLit (a, b)) rfl rfl (keyLit_key (p := (a, b)) ⟨by simp only; omega, by simp only; omega⟩) _ [] (plainElem_bool Try.underlying4 true) ?_; intro w2 hM2 hg2; have HM2 := Lib.hid hM2; have HG2 := Lib.hid hg2; clear hM2 hg2)
              go_meet
              refine ⟨?_, HG2.out⟩
              have := HM2.out
              rw [← fracSet_snoc] at this
              exact this
            | false =>
              simp only [if_false, Bool.false_eq_true] at hE2l
              subst hE2l
              go_wp2_with fail
              go_meet
              refine ⟨?_, rfl, rfl, rfl, Nat.le_refl _, fun _ _ _ => rfl⟩
              simpa using HO2.out
          case rest =>
            obtain ⟨O3, G3⟩ := hcut
            generalize wc = W3 at *
            have mp2 := own_map HO2.out
            have HE3 := Lib.hid (HE2.out.grown G3 mp2)
            have HQ3 : Hid (Quad W3 w.heap.size 81 a b c d) := HQ2.out.kept G3 (fun e => not_map HQ2.out mp2 (Option.some.inj e))
            have HO3 := Lib.hid O3
            have HGx := Lib.hid (HGw.out.trans G3)
            have Hc2 : Hid (cnt + (E1l ++ (E2l ++ if N < m2 then [] else (if y1 then [] else LL) ++ (if y2 then [] else LR))).length ≤ 100000) := by have := Hc.out; rw [← HVV.out, hE1l, hE2l] at this; exact this
            have HEl := Lib.hid (And.intro hE1l hE2l)
            clear f0 f1 q0 q1 q2 q3 cm G3 O3 HO2 HE2 HQ2 HGw hlw mp2 hE1l hE2l Hc hx1 hx2
            obtain ⟨⟨q0, q1, q2, q3⟩, _⟩ := HQ3.out.cells
            have hlw : w.heap.size < W3.heap.size := HQ3.out.lt
            go_wp2_with fail
            refine (Hmid.out _).mono ?_
            rintro e w5 ⟨rfl, b5⟩
            have b6 := b_next b5 (below_alloc w5 (.cells #[.int .i64 (m1 : Nat), .int .i64 (m2 : Nat)] 26))
            have T6 := Two.new w5 26 m1 m2
            obtain ⟨W6, hW6⟩ : ∃ W, w5.alloc (.cells #[.int .i64 (m1 : Nat), .int .i64 (m2 : Nat)] 26) = W := ⟨_, rfl⟩
            rw [hW6] at b6 T6
            have HE6 := Lib.hid (HE3.out.below b6)
            have HQ6 := Lib.hid (HQ3.out.below b6)
            have HO6 := Lib.hid (ownF_below HO3.out b6)
            have HG6 := Lib.hid (grown_below HGx.out b6)
            have HT6 := Lib.hid T6
            have cn := HE6.out.n.cell
            obtain ⟨t0, t1, _, _⟩ := T6.cells
            obtain ⟨f0, f1, _, _⟩ := HE6.out.f.cells
            have hlt6 := T6.lt
            clear q0 q1 q2 q3 hlw HE3 HQ3 HO3 HGx b5 b6 T6 Hmid
            by_cases hm : N < m2
            · have hm' : (N : Int) < m2 := by omega
              have HV : Hid (VV = E1l ++ E2l) := by unfold Hid; rw [← HVV.out, HEl.out.1, HEl.out.2, if_pos hm, List.append_nil]
              go_wp2_with fail
              refine bodyPost_ret (results_none rfl _ _ _) rfl ?_
              exact ⟨rfl, by rw [HV.out, List.length_append, ← Nat.add_assoc, ← List.append_assoc]; exact HO6.out, HG6.out⟩
            · have hm' : ¬ (N : Int) < m2 := by omega
              have hmN : m2 ≤ N := by omega
              have HV : Hid (VV = E1l ++ (E2l ++ ((if y1 then [] else LL) ++ (if y2 then [] else LR)))) := by unfold Hid; rw [← HVV.out, HEl.out.1, HEl.out.2, if_neg hm]
              have Hbd : Hid (cnt + E1l.length + E2l.length + (if y1 then [] else LL).length + (if y2 then [] else LR).length ≤ 100000) := by have := Hc2.out; rw [if_neg hm] at this; simp only [List.length_append] at this; unfold Hid; omega
              have HmN := Lib.hid hmN
              go_upto_if 30 with (go_at_call 54; refine (HL1.out _).mono ?_; rintro e w7 ⟨rfl, b7⟩; have HE7 := Lib.hid (HE6.out.below b7); have HQ7 := Lib.hid (HQ6.out.below b7); have HO7 := Lib.hid (ownF_below HO6.out b7); have HT7 := Lib.hid (HT6.out.below b7); have HG7 := Lib.hid (grown_below HG6.out b7); clear b7)
              clear HE6 HQ6 HO6 HT6 HG6 cn t0 t1 f0 f1 hlt6
              obtain ⟨LLy, hLLy⟩ : ∃ l, (if y1 then [] else LL) = l := ⟨_, rfl⟩
              go_cut [] (fun wy => OwnF wy M (cnt + E1l.length + E2l.length + LLy.length) (L ++ E1l ++ E2l ++ LLy) ∧ w7.grownBy wy (some M))
              case first =>
                cases y1 with
                | true =>
                  simp only [if_true] at hLLy
                  subst hLLy
                  go_wp2_with fail
                  go_meet
                  refine ⟨?_, rfl, rfl, rfl, Nat.le_refl _, fun _ _ _ => rfl⟩
                  simpa using HO7.out
                | false =>
                  simp only [if_false, Bool.false_eq_true] at hLLy
                  subst hLLy
                  go_wp2_with fail
                  have cv := HE7.out.v.cell
                  obtain ⟨⟨q0, q1, q2, q3⟩, _⟩ := HQ7.out.cells
                  go_region_held3 (fun w' => w'.cell? ⟨Bv, 0, none⟩ = some (.func (.func 58) #[] #[.pointer (some ⟨Bf, 0, none⟩), .pointer (some ⟨Bm, 0, none⟩), .pointer (some ⟨Bn, 0, none⟩), .pointer (some ⟨Bv, 0, none⟩)]) ∧ w'.cell? ⟨w.heap.size, 0, none⟩ = some (.int .i64 a) ∧ w'.cell? ⟨w.heap.size, 1, none⟩ = some (.int .i64 b) ∧ w'.cell? ⟨w.heap.size, 2, none⟩ = some (.int .i64 c) ∧ w'.cell? ⟨w.heap.size, 3, none⟩ = some (.int .i64 d))
                    (first | exact ⟨cv, q0, q1, q2, q3⟩ | exact ⟨dv, r0, r1, r2, r3⟩ | exact ⟨ev, s0, s1, s2, s3⟩)
                    (first
                      | (go_at_call 60; refine (Hleft.out _).mono ?_; rintro e wA ⟨rfl, kA⟩; have bA := undrew1 kA; have HEA := Lib.hid (HE7.out.below bA); have HQA := Lib.hid (HQ7.out.below bA); have HOA := Lib.hid (ownF_below HO7.out bA); have dv := HEA.out.v.cell; obtain ⟨⟨r0, r1, r2, r3⟩, _⟩ := HQA.out.cells)
                      | (go_at_call 58; refine (HIL.out _ _ wA (by omega) HEA.out HOA.out (by have := Hbd.out; simp only [if_false, Bool.false_eq_true] at this; omega)).mono ?_; rintro e wB ⟨rfl, oB, gB⟩; have mA := own_map HOA.out; have HEB := Lib.hid (HEA.out.grown gB mA); have HQB : Hid (Quad wB w.heap.size 81 a b c d) := HQA.out.kept gB (fun e => not_map HQA.out mA (Option.some.inj e)); have HOB := Lib.hid oB; have HGB := Lib.hid ((grown_of bA (some M)).trans gB); have ev := HEB.out.v.cell; obtain ⟨⟨s0, s1, s2, s3⟩, _⟩ := HQB.out.cells))
                  all_goals go_wp2_with fail
                  all_goals go_meet
                  all_goals exact ⟨HOB.out, HGB.out⟩
              case rest =>
                obtain ⟨O8, G8⟩ := hcut
                generalize wc = W8 at *
                have mp3 := own_map HO7.out
                have HE8 := Lib.hid (HE7.out.grown G8 mp3)
                have HQ8 : Hid (Quad W8 w.heap.size 81 a b c d) := HQ7.out.kept G8 (fun e => not_map HQ7.out mp3 (Option.some.inj e))
                have HT8 : Hid (Two W8 w5.heap.size 26 m1 m2) := HT7.out.kept G8 (fun e => not_map HT7.out mp3 (Option.some.inj e))
                have HO8 := Lib.hid O8
                have HG8 := Lib.hid (HG7.out.trans G8)
                have HLy := Lib.hid hLLy
                clear G8 O8 HO7 HE7 HQ7 HG7 HT7 mp3 hLLy
                obtain ⟨t0, t1, _, _⟩ := HT8.out.cells
                obtain ⟨f0, f1, _, _⟩ := HE8.out.f.cells
                have hlt8 := HT8.out.lt
                go_upto_if 38 with (go_at_call 54; refine (HL2.out _).mono ?_; rintro e w9 ⟨rfl, b9⟩; have HE9 := Lib.hid (HE8.out.below b9); have HQ9 := Lib.hid (HQ8.out.below b9); have HO9 := Lib.hid (ownF_below HO8.out b9); have HG9 := Lib.hid (grown_below HG8.out b9); clear b9)
                clear HE8 HQ8 HO8 HT8 HG8 t0 t1 f0 f1 hlt8
                obtain ⟨LRy, hLRy⟩ : ∃ l, (if y2 then [] else LR) = l := ⟨_, rfl⟩
                have Hbd2 : Hid (cnt + E1l.length + E2l.length + LLy.length + (if y2 then [] else LR).length ≤ 100000) := by have := Hbd.out; rw [HLy.out] at this; exact this
                clear Hbd
                have Hbd := Hbd2
                clear Hbd2
                have hfin : ∀ wz, OwnF wz M (cnt + E1l.length + E2l.length + LLy.length + LRy.length) (L ++ E1l ++ E2l ++ LLy ++ LRy) → w9.grownBy wz (some M) → OwnF wz M (cnt + VV.length) (L ++ VV) ∧ w.grownBy wz (some M) := by
                  intro wz O10 G10
                  rw [HV.out, HLy.out, hLRy]
                  refine ⟨?_, HG9.out.trans G10⟩
                  rw [show cnt + (E1l ++ (E2l ++ (LLy ++ LRy))).length = cnt + E1l.length + E2l.length + LLy.length + LRy.length from by simp only [List.length_append]; omega, show L ++ (E1l ++ (E2l ++ (LLy ++ LRy))) = L ++ E1l ++ E2l ++ LLy ++ LRy from by simp only [List.append_assoc]]
                  exact O10
                have HFin := Lib.hid hfin
                clear hfin HV HLy HG9 HVV HEl Hc2
                cases y2 with
                | true =>
                  simp only [if_true] at hLRy
                  subst hLRy
                  go_wp2_with fail
                  go_end0
                  exact ⟨rfl, HFin.out _ (by simpa using HO9.out) ⟨rfl, rfl, rfl, Nat.le_refl _, fun _ _ _ => rfl⟩⟩
                | false =>
                  simp only [if_false, Bool.false_eq_true] at hLRy
                  subst hLRy
                  go_wp2_with fail
                  have cv := HE9.out.v.cell
                  obtain ⟨⟨q0, q1, q2, q3⟩, _⟩ := HQ9.out.cells
                  go_region_held3 (fun w' => w'.cell? ⟨Bv, 0, none⟩ = some (.func (.func 58) #[] #[.pointer (some ⟨Bf, 0, none⟩), .pointer (some ⟨Bm, 0, none⟩), .pointer (some ⟨Bn, 0, none⟩), .pointer (some ⟨Bv, 0, none⟩)]) ∧ w'.cell? ⟨w.heap.size, 0, none⟩ = some (.int .i64 a) ∧ w'.cell? ⟨w.heap.size, 1, none⟩ = some (.int .i64 b) ∧ w'.cell? ⟨w.heap.size, 2, none⟩ = some (.int .i64 c) ∧ w'.cell? ⟨w.heap.size, 3, none⟩ = some (.int .i64 d))
                    (first | exact ⟨cv, q0, q1, q2, q3⟩ | exact ⟨dv, r0, r1, r2, r3⟩ | exact ⟨ev, s0, s1, s2, s3⟩)
                    (first
                      | (go_at_call 61; refine (Hright.out _).mono ?_; rintro e wA ⟨rfl, kA⟩; have bA := undrew1 kA; have HEA := Lib.hid (HE9.out.below bA); have HQA := Lib.hid (HQ9.out.below bA); have HOA := Lib.hid (ownF_below HO9.out bA); have dv := HEA.out.v.cell; obtain ⟨⟨r0, r1, r2, r3⟩, _⟩ := HQA.out.cells)
                      | (go_at_call 58; refine (HIR.out _ _ wA (by omega) HEA.out HOA.out (by have := Hbd.out; simp only [if_false, Bool.false_eq_true] at this; omega)).mono ?_; rintro e wB ⟨rfl, oB, gB⟩; have mA := own_map HOA.out; have HEB := Lib.hid (HEA.out.grown gB mA); have HQB : Hid (Quad wB w.heap.size 81 a b c d) := HQA.out.kept gB (fun e => not_map HQA.out mA (Option.some.inj e)); have HOB := Lib.hid oB; have HGB := Lib.hid ((grown_of bA (some M)).trans gB); have ev := HEB.out.v.cell; obtain ⟨⟨s0, s1, s2, s3⟩, _⟩ := HQB.out.cells))
                  all_goals go_wp2_with fail
                  all_goals go_end0
                  all_goals exact ⟨rfl, HFin.out _ HOB.out HGB.out⟩
end Go.Proofs.Ytelipknnfagnjaa
