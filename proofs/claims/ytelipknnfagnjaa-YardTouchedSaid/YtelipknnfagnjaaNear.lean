/- Nearest: the fraction of the row with the smallest distance, the simpler one of two. -/
import Derived.Test.YtelipknnfagnjaaAdj
import Derived.Test.YtelipknnfagnjaaDist
import Derived.Test.YtelipknnfagnjaaOrd
namespace Go.Proofs.Ytelipknnfagnjaa
set_option linter.unusedVariables false
open Go.RowKit Go.Shelf
attribute [local go_sem] Oper.semAt_some

theorem frac_lt_le {a b c d e f : Nat} (hd : 1 ≤ d) (h1 : a * d < c * b) (h2 : c * f ≤ e * d) (hf : 1 ≤ f) : a * f < e * b := by
  refine Nat.lt_of_mul_lt_mul_right (a := d) ?_
  have e1 : a * f * d = a * d * f := by rw [Nat.mul_assoc, Nat.mul_comm f, Nat.mul_assoc]
  have e2 : e * b * d = e * d * b := by rw [Nat.mul_assoc, Nat.mul_comm b, Nat.mul_assoc]
  have e3 : c * b * f = c * f * b := by rw [Nat.mul_assoc, Nat.mul_comm b, Nat.mul_assoc]
  rw [e1, e2]
  exact Nat.lt_of_lt_of_le (Nat.mul_lt_mul_of_pos_right h1 hf) (by rw [e3]; exact Nat.mul_le_mul_right _ h2)
theorem frac_le_lt {a b c d e f : Nat} (hd : 1 ≤ d) (h1 : a * d ≤ c * b) (h2 : c * f < e * d) (hb : 1 ≤ b) : a * f < e * b := by
  refine Nat.lt_of_mul_lt_mul_right (a := d) ?_
  have e1 : a * f * d = a * d * f := by rw [Nat.mul_assoc, Nat.mul_comm f, Nat.mul_assoc]
  have e2 : e * b * d = e * d * b := by rw [Nat.mul_assoc, Nat.mul_comm b, Nat.mul_assoc]
  have e3 : c * b * f = c * f * b := by rw [Nat.mul_assoc, Nat.mul_comm b, Nat.mul_assoc]
  rw [e1, e2]
  exact Nat.lt_of_le_of_lt (Nat.mul_le_mul_right f h1) (by rw [e3]; exact Nat.mul_lt_mul_of_pos_right h2 hb)
theorem frac_eq_eq {a b c d e f : Nat} (hd : 1 ≤ d) (h1 : a * d = c * b) (h2 : c * f = e * d) : a * f = e * b := by
  refine Nat.eq_of_mul_eq_mul_right hd ?_
  have e1 : a * f * d = a * d * f := by rw [Nat.mul_assoc, Nat.mul_comm f, Nat.mul_assoc]
  have e2 : e * b * d = e * d * b := by rw [Nat.mul_assoc, Nat.mul_comm b, Nat.mul_assoc]
  have e3 : c * b * f = c * f * b := by rw [Nat.mul_assoc, Nat.mul_comm b, Nat.mul_assoc]
  rw [e1, e2, h1, e3, h2]

/-- a is nearer to f than b, or as near and simpler -/
def Nearer (f a b : Nat × Nat) : Prop := distF f a * b.2 < distF f b * a.2 ∨ distF f a * b.2 = distF f b * a.2 ∧ (a.2 < b.2 ∨ a.2 = b.2 ∧ a.1 < b.1)
theorem Nearer.trans {f a b c : Nat × Nat} (ha : 1 ≤ a.2) (hb : 1 ≤ b.2) (hc : 1 ≤ c.2) (h1 : Nearer f a b) (h2 : Nearer f b c) : Nearer f a c := by
  unfold Nearer at *
  rcases h1 with h1 | ⟨h1, k1⟩
  · rcases h2 with h2 | ⟨h2, k2⟩
    · exact .inl (frac_lt_le hb h1 (Nat.le_of_lt h2) hc)
    · exact .inl (frac_lt_le hb h1 (Nat.le_of_eq h2) hc)
  · rcases h2 with h2 | ⟨h2, k2⟩
    · exact .inl (frac_le_lt hb (Nat.le_of_eq h1) h2 ha)
    · exact .inr ⟨frac_eq_eq hb h1 h2, by omega⟩
theorem Nearer.irr (f a : Nat × Nat) : ¬ Nearer f a a := by unfold Nearer; omega
def orI (c d : Int) : Int := if c = 0 then d else c
theorem nearer_iff (f a b : Nat × Nat) : (orI (cmpD f a b) (cmpS a b) < 0) ↔ Nearer f a b := by
  unfold orI cmpD cmpS Lib.compareInt Nearer
  generalize distF f a * b.2 = x
  generalize distF f b * a.2 = y
  split <;> split <;> (try split) <;> (try split) <;> (try split) <;> (try split) <;> omega

/-- c is the nearest fraction of the row -/
def NearSpec (N : Nat) (f c : Nat × Nat) : Prop := (∃ k, k < len N ∧ c = fr N k) ∧ ∀ j, j < len N → ¬ Nearer f (fr N j) c

/-- between two rounds of Nearest -/
def NeaI (w w1 : World) (N p q : Nat) (pre : List (Pl N)) (X : World) : Prop :=
  Two X w.heap.size 26 p q ∧ Two X (w.heap.size + 1) 26 0 0 ∧ (∃ k, k < len N ∧ Two X w1.heap.size 26 (fr N k).1 (fr N k).2 ∧ ∀ y : Pl N, y ∈ pre → ¬ Nearer (p, q) (fr N y.1) (fr N k)) ∧ Below w.heap.size w X
theorem bears_neaI {w w1 : World} {N p q B : Nat} (hB : w.heap.size + 1 < B) (hB2 : w1.heap.size < B) : Bears B (NeaI w w1 N p q) := by
  rintro s W W' row ⟨h1, h2, ⟨k, hk, h3, h4⟩, h5⟩ hg hr
  exact ⟨h1.kept hg (fun e => by have := hr _ e.symm; omega), h2.kept hg (fun e => by have := hr _ e.symm; omega), ⟨k, hk, h3.kept hg (fun e => by have := hr _ e.symm; omega), h4⟩, h5.grown hg h5.size (fun k e => by have := hr k e; omega)⟩
theorem fr_small300 {N : Nat} (h1 : 1 ≤ N) (h3 : N ≤ 300) {k : Nat} (hk : k < len N) : FrS 300 (fr N k) :=
  ⟨Nat.le_trans (fr_le h1 hk) (Nat.le_trans (fr_pos h1 k).2 h3), Nat.le_trans (fr_pos h1 k).2 h3⟩

set_option maxRecDepth 100000 in
set_option maxHeartbeats 4000000 in
theorem Nearest_yes (N p q : Nat) (h1 : 1 ≤ N) (h3 : N ≤ 300) (hv : validB p q = true) (w : World) :
    Calls Try.prog 22 #[.int .i64 N, .agg #[.int .i64 p, .int .i64 q]] w fun e w' => (∃ c : Nat × Nat, NearSpec N (p, q) c ∧ e = .returned (.tuple #[frV c, .int .i64 0])) ∧ Below w.heap.size w w' := by
  refine (callsIn_wide (n := 6)).1 ?_
  have hrow : rowB N = true := by unfold rowB; simp; omega
  have Hrow := Lib.hid hrow
  have HV := Lib.hid hv
  clear hrow
  refine callsIn_of_wp_marks Try.func22 rfl trivial ?_ rfl
  simp only [Try.ntmps22, List.size_toArray, List.length_cons, List.length_nil, Nat.reduceAdd, Nat.reduceSub, Array.replicate_succ, Array.replicate_zero, List.push_toArray, List.append_toArray, List.nil_append, List.cons_append]
  have A0 := (Two.new w 26 p q).alloc (.cells #[.int .i64 0, .int .i64 0] 26)
  have A1 := Two.new (w.alloc (.cells #[.int .i64 p, .int .i64 q] 26)) 26 0 0
  simp only [World.size_alloc] at A1
  have AB := b_next (below_alloc w (.cells #[.int .i64 p, .int .i64 q] 26)) (below_alloc _ (.cells #[.int .i64 0, .int .i64 0] 26))
  have HA := Lib.hid (And.intro A0 (And.intro A1 AB))
  clear A0 A1 AB
  gi_wp2_with (first
    | (refine ⟨trivial, ?_⟩; gi_at_call 51; refine (callsIn_wide.2 (row_51_any _ _)).mono ?_; rintro e w' ⟨rfl, rfl⟩; rw [Hrow.out])
    | (refine ⟨trivial, ?_⟩; gi_at_call 53; refine (callsIn_wide.2 (isValid_any _ _ _)).mono ?_; rintro e w1 ⟨rfl, b1⟩; rw [HV.out])
    | (refine ⟨trivial, ?_⟩; gi_at_call 52; refine (row_in _ _ _).mono ?_; rintro e w' ⟨rfl, rfl⟩))
  have A0 := ((HA.out.1.below b1).alloc (.cells #[.int .i64 0, .int .i64 1] 26)).alloc (.cells #[.int .i64 N] 3)
  have A1 := ((HA.out.2.1.below b1).alloc (.cells #[.int .i64 0, .int .i64 1] 26)).alloc (.cells #[.int .i64 N] 3)
  have A2 := (Two.new w1 26 0 1).alloc (.cells #[.int .i64 N] 3)
  have An := Boxed.new (w1.alloc (.cells #[.int .i64 0, .int .i64 1] 26)) 3 (.int .i64 N)
  simp only [World.size_alloc] at An
  have AB := b_next (b_next (b_next HA.out.2.2 b1) (below_alloc _ (.cells #[.int .i64 0, .int .i64 1] 26))) (below_alloc _ (.cells #[.int .i64 N] 3))
  have hl1 := (HA.out.2.1.below b1).lt
  have hl0 := len_two h1
  clear HA b1
  refine range_visits_box (α := Pl N) rfl (by omega) (gf := 71) (lb := #[.pointer (some ⟨w1.heap.size + 1, 0, none⟩)]) rfl trivial (enters_of Try.func71 (by kernel_rfl) rfl)
    (encs := fun x : Pl N => #[frV (fr N x.1)]) (T := w1.heap.size + 1) (S := fun ys => ys = allPl N) (Sp := fun pre => pre <+: allPl N) (N := len N) (by simp) (fun W hW => visits_row h1 h3 An.cell W hW) (fun _ => rfl)
    (NeaI w w1 N p q) (fun _ _ _ => False) (bears_neaI (by simp <;> omega) (by simp <;> omega)) (fun _ _ _ _ _ h _ _ => h)
    ⟨A0, A1, ⟨0, by omega, A2, fun y hy => absurd hy (by simp)⟩, AB⟩
    (fun x => .cells #[.int .i64 (fr N x.1).1, .int .i64 (fr N x.1).2] 26)
    (fun x B => { tmps := #[.int .i64 N, .agg #[.int .i64 p, .int .i64 q], undef, .pointer (some ⟨w.heap.size, 0, none⟩), .pointer (some ⟨w.heap.size + 1, 0, none⟩), .int .i64 0, .pointer (some ⟨w1.heap.size, 0, none⟩), .pointer (some ⟨B, 0, none⟩), .int .i64 N, .bool true, .bool false, .bool false,
      .agg #[.int .i64 p, .int .i64 q], .bool true, .bool false, .bool false, undef, .agg #[.int .i64 0, .int .i64 1], .int .i64 N, .func (.func 71) #[] #[.pointer (some ⟨w1.heap.size + 1, 0, none⟩)], frV (fr N x.1), undef, undef, undef, undef, undef, undef, undef, undef, undef, undef, undef, undef], defers := [] }) ?assign ?body ?done ?stop
  case assign =>
    intro l x W K hK
    unfold frV at hK ⊢
    gi_wp2
    exact hK
  case body =>
    rintro l pre x B W ⟨hf, hr, ⟨k, hk, hm, hno⟩, hX⟩ hbx hB2 hlen
    have hbt : Two W B 26 (fr N x.1).1 (fr N x.1).2 := hbx
    obtain ⟨⟨r, u⟩, hru⟩ : ∃ z, fr N x.1 = z := ⟨_, rfl⟩
    obtain ⟨⟨mx, my⟩, hmm⟩ : ∃ z, fr N k = z := ⟨_, rfl⟩
    have sx := fr_small300 h1 h3 x.2
    have sk := fr_small300 h1 h3 hk
    have px := (fr_pos h1 x.1).1
    have hpk := (fr_pos h1 k).1
    rw [hru] at hbt sx px
    rw [hmm] at hm hno sk hpk
    simp only at hbt hm px hpk
    have hnear := nearer_iff (p, q) (r, u) (mx, my)
    have hC1 := fun w => compareDistances_any p q r u mx my (by obtain ⟨a', b', e1, e2, _, k2, k3, _⟩ := valid_nat hv; exact ⟨by simp only; omega, by simp only; omega⟩) sx sk w
    have hC2 := fun w => compareSimplicity_any r u mx my sx sk w
    obtain ⟨d, hd⟩ : ∃ d, cmpD (p, q) (r, u) (mx, my) = d := ⟨_, rfl⟩
    obtain ⟨c, hc⟩ : ∃ c, cmpS (r, u) (mx, my) = c := ⟨_, rfl⟩
    rw [hd] at hC1 hnear
    rw [hc] at hC2 hnear
    obtain ⟨o, ho⟩ : ∃ o, orI d c = o := ⟨_, rfl⟩
    have hO : ∀ w : World, Calls Try.prog 55 #[.slice (some ⟨w.heap.size, 0, none⟩) 2 2] (w.alloc (.cells #[.int .i64 d, .int .i64 c] 3)) fun e w' => e = .returned (.int .i64 o) ∧ w' = w.alloc (.cells #[.int .i64 d, .int .i64 c] 3) := fun w =>
      (or_any d c w.heap.size _ (Two.new w 3 d c).cells.1 (Two.new w 3 d c).cells.2.1).mono fun e w' ⟨he, hw⟩ => ⟨by rw [he, ← ho]; rfl, hw.symm⟩
    have HOe := Lib.hid (show (if d = 0 then c else d) = o from ho)
    rw [ho] at hnear
    have HC1 := Lib.hid hC1
    have HC2 := Lib.hid hC2
    have HO := Lib.hid hO
    have HNr := Lib.hid hnear
    have Hno := Lib.hid hno
    have Hru := Lib.hid hru
    have Hmm := Lib.hid hmm
    obtain ⟨f0, f1, _, _⟩ := hf.cells
    obtain ⟨t0, t1, _, _⟩ := hbt.cells
    obtain ⟨m0, m1, mf0, mf1⟩ := hm.cells
    have Hf := Lib.hid hf
    have Hr := Lib.hid hr
    have Ht := Lib.hid hbt
    have Hm := Lib.hid hm
    have HX := Lib.hid hX
    have hBl : w1.heap.size + 1 + 1 ≤ B := by simpa using hB2
    have hmo : Try.prog.follows .mixedOrders = true := by kernel_rfl
    clear hbx hbt hf hr hm hno hX hB2 hru hmm hnear hC1 hC2 hO hd hc ho sx sk A0 A1 A2 AB An hv
    gi_wp2_with fail
    refine Go.wpIn_mono (Q := fun e a' w' => e = .normal ∧ ∃ blk : Nat, a' = { tmps := #[.int .i64 N, .agg #[.int .i64 p, .int .i64 q], undef, .pointer (some ⟨w.heap.size, 0, none⟩), .pointer (some ⟨w.heap.size + 1, 0, none⟩), .int .i64 0, .pointer (some ⟨w1.heap.size, 0, none⟩), .pointer (some ⟨B, 0, none⟩), .int .i64 N, .bool true, .bool false, .bool false,
      .agg #[.int .i64 p, .int .i64 q], .bool true, .bool false, .bool false, undef, .agg #[.int .i64 0, .int .i64 1], .int .i64 N, .func (.func 71) #[] #[.pointer (some ⟨w1.heap.size + 1, 0, none⟩)], frV (fr N x.1), .agg #[.int .i64 p, .int .i64 q], .agg #[.int .i64 r, .int .i64 u], .agg #[.int .i64 mx, .int .i64 my], .int .i64 d, .agg #[.int .i64 r, .int .i64 u], .agg #[.int .i64 mx, .int .i64 my], .int .i64 c, .slice (some ⟨blk, 0, none⟩) 2 2, .int .i64 o, .bool (decide (o < 0)), undef, undef], defers := [] } ∧ Below W.heap.size W w') ?_ ?_
    · refine region_inv hmo (fun L a X => ∃ (b0 b1 b2 b3 b4 b5 b6 b7 b8 b9 : Bool) (blk : Nat), L = #[b0, b1, b2, b3, b4, b5, b6, b7, b8, b9] ∧ a = { tmps := #[.int .i64 N, .agg #[.int .i64 p, .int .i64 q], undef, .pointer (some ⟨w.heap.size, 0, none⟩), .pointer (some ⟨w.heap.size + 1, 0, none⟩), .int .i64 0, .pointer (some ⟨w1.heap.size, 0, none⟩), .pointer (some ⟨B, 0, none⟩), .int .i64 N, .bool true, .bool false, .bool false, .agg #[.int .i64 p, .int .i64 q], .bool true, .bool false, .bool false, undef, .agg #[.int .i64 0, .int .i64 1], .int .i64 N, .func (.func 71) #[] #[.pointer (some ⟨w1.heap.size + 1, 0, none⟩)], frV (fr N x.1), pk b0 (.agg #[.int .i64 p, .int .i64 q]) undef, pk b1 (.agg #[.int .i64 r, .int .i64 u]) undef, pk b2 (.agg #[.int .i64 mx, .int .i64 my]) undef, pk b3 (.int .i64 d) undef, pk b4 (.agg #[.int .i64 r, .int .i64 u]) undef, pk b5 (.agg #[.int .i64 mx, .int .i64 my]) undef, pk b6 (.int .i64 c) undef, pk b7 (.slice (some ⟨blk, 0, none⟩) 2 2) undef, pk b8 (.int .i64 o) undef, pk b9 (.bool (decide (o < 0))) undef, undef, undef], defers := [] } ∧ (Two X w.heap.size 26 p q ∧ Two X B 26 r u ∧ Two X w1.heap.size 26 mx my ∧ Below W.heap.size W X) ∧ (b7 = true → Two X blk 3 d c)) ?h0 ?hstep ?hdone
      case h0 => exact ⟨false, false, false, false, false, false, false, false, false, false, 0, rfl, rfl, ⟨Hf.out, Ht.out, Hm.out, (Below.refl _ W).drew⟩, fun h => by cases h⟩
      case hstep =>
        rintro L a X ⟨b0, b1, b2, b3, b4, b5, b6, b7, b8, b9, blk, rfl, rfl, hΦ, h7⟩ i hi
        obtain ⟨f2, f3, _, _⟩ := hΦ.1.cells
        obtain ⟨t2, t3, _, _⟩ := hΦ.2.1.cells
        obtain ⟨m2, m3, _, _⟩ := hΦ.2.2.1.cells
        have HP := Lib.hid hΦ
        have H7 := Lib.hid h7
        clear hΦ h7 f0 f1 t0 t1 m0 m1 mf0 mf1
        obtain ⟨hun, o', ho, hdeps⟩ := mem_ready.1 hi
        clear hi
        have hi : i < 10 := (Array.getElem?_eq_some_iff.1 ho).1
        have hor : i = 0 ∨ i = 1 ∨ i = 2 ∨ i = 3 ∨ i = 4 ∨ i = 5 ∨ i = 6 ∨ i = 7 ∨ i = 8 ∨ i = 9 := by omega
        clear hi
        rcases hor with rfl | rfl | rfl | rfl | rfl | rfl | rfl | rfl | rfl | rfl
        · have hb : b0 = false := hun
          cases ho
          clear hun hdeps
          subst hb
          dsimp only
          refine wpOpIn_step rfl (fun K' hK => ?_)
          go_simp
          exact hK _ _ ⟨true, b1, b2, b3, b4, b5, b6, b7, b8, b9, blk, rfl, rfl, HP.out, H7.out⟩
        · have hb : b1 = false := hun
          cases ho
          clear hun hdeps
          subst hb
          dsimp only
          refine wpOpIn_step rfl (fun K' hK => ?_)
          go_simp
          exact hK _ _ ⟨b0, true, b2, b3, b4, b5, b6, b7, b8, b9, blk, rfl, rfl, HP.out, H7.out⟩
        · have hb : b2 = false := hun
          cases ho
          clear hun hdeps
          subst hb
          dsimp only
          refine wpOpIn_step rfl (fun K' hK => ?_)
          go_simp
          exact hK _ _ ⟨b0, b1, true, b3, b4, b5, b6, b7, b8, b9, blk, rfl, rfl, HP.out, H7.out⟩
        · have hb : b3 = false := hun
          cases ho
          have d0 : b0 = true := hdeps ⟨0, Ground.data⟩ (by simp) rfl
          have d1 : b1 = true := hdeps ⟨1, Ground.data⟩ (by simp) rfl
          have d2 : b2 = true := hdeps ⟨2, Ground.data⟩ (by simp) rfl
          clear hun hdeps
          subst hb d0 d1 d2
          dsimp only
          refine wpOpIn_step rfl (fun K' hK => ?_)
          simp only [pk_true]
          go_simp
          refine ⟨trivial, ?_⟩
          refine (CallsIn.inRound _ (callsIn_wide.2 (HC1.out _))).mono ?_
          rintro e w2 ⟨rfl, z⟩
          exact hK _ _ ⟨true, true, true, true, b4, b5, b6, b7, b8, b9, blk, rfl, rfl, ⟨HP.out.1.below z, HP.out.2.1.below z, HP.out.2.2.1.below z, b_next HP.out.2.2.2 z⟩, fun h => (H7.out h).below z⟩
        · have hb : b4 = false := hun
          cases ho
          clear hun hdeps
          subst hb
          dsimp only
          refine wpOpIn_step rfl (fun K' hK => ?_)
          go_simp
          exact hK _ _ ⟨b0, b1, b2, b3, true, b5, b6, b7, b8, b9, blk, rfl, rfl, HP.out, H7.out⟩
        · have hb : b5 = false := hun
          cases ho
          clear hun hdeps
          subst hb
          dsimp only
          refine wpOpIn_step rfl (fun K' hK => ?_)
          go_simp
          exact hK _ _ ⟨b0, b1, b2, b3, b4, true, b6, b7, b8, b9, blk, rfl, rfl, HP.out, H7.out⟩
        · have hb : b6 = false := hun
          cases ho
          have d4 : b4 = true := hdeps ⟨4, Ground.data⟩ (by simp) rfl
          have d5 : b5 = true := hdeps ⟨5, Ground.data⟩ (by simp) rfl
          have d3 : b3 = true := hdeps ⟨3, Ground.chain⟩ (by simp) rfl
          clear hun hdeps
          subst hb d4 d5 d3
          dsimp only
          refine wpOpIn_step rfl (fun K' hK => ?_)
          simp only [pk_true]
          go_simp
          refine ⟨trivial, ?_⟩
          refine (CallsIn.inRound _ (callsIn_wide.2 (HC2.out _))).mono ?_
          rintro e w2 ⟨rfl, z⟩
          exact hK _ _ ⟨b0, b1, b2, true, true, true, true, b7, b8, b9, blk, rfl, rfl, ⟨HP.out.1.below z, HP.out.2.1.below z, HP.out.2.2.1.below z, b_next HP.out.2.2.2 z⟩, fun h => (H7.out h).below z⟩
        · have hb : b7 = false := hun
          cases ho
          have d3 : b3 = true := hdeps ⟨3, Ground.data⟩ (by simp) rfl
          have d6 : b6 = true := hdeps ⟨6, Ground.data⟩ (by simp) rfl
          clear hun hdeps
          subst hb d3 d6
          dsimp only
          refine wpOpIn_step rfl (fun K' hK => ?_)
          simp only [pk_true]
          go_simp
          exact hK _ _ ⟨b0, b1, b2, true, b4, b5, true, true, b8, b9, X.heap.size, rfl, rfl, ⟨HP.out.1.alloc _, HP.out.2.1.alloc _, HP.out.2.2.1.alloc _, b_next HP.out.2.2.2 (below_alloc _ _)⟩, fun _ => Two.new X _ d c⟩
        · have hb : b8 = false := hun
          cases ho
          have d7 : b7 = true := hdeps ⟨7, Ground.data⟩ (by simp) rfl
          have d6 : b6 = true := hdeps ⟨6, Ground.chain⟩ (by simp) rfl
          clear hun hdeps
          subst hb d7 d6
          have hT := H7.out rfl
          have hO2 := (or_any d c blk X hT.cells.1 hT.cells.2.1)
          rw [show (if d = 0 then c else d) = o from HOe.out] at hO2
          have HO2 := Lib.hid hO2
          clear hT hO2
          dsimp only
          refine wpOpIn_step rfl (fun K' hK => ?_)
          simp only [pk_true]
          go_simp
          refine ⟨trivial, ?_⟩
          refine (CallsIn.inRound _ (callsIn_wide.2 HO2.out)).mono ?_
          rintro e w2 ⟨rfl, rfl⟩
          exact hK _ _ ⟨b0, b1, b2, b3, b4, b5, true, true, true, b9, blk, rfl, rfl, HP.out, H7.out⟩
        · have hb : b9 = false := hun
          cases ho
          have d8 : b8 = true := hdeps ⟨8, Ground.data⟩ (by simp) rfl
          clear hun hdeps
          subst hb d8
          dsimp only
          refine wpOpIn_step rfl (fun K' hK => ?_)
          simp only [pk_true]
          go_simp
          exact hK _ _ ⟨b0, b1, b2, b3, b4, b5, b6, b7, true, true, blk, rfl, rfl, HP.out, H7.out⟩
      case hdone =>
        rintro L a X ⟨b0, b1, b2, b3, b4, b5, b6, b7, b8, b9, blk, rfl, rfl, hΦ, _⟩ hr
        have t0 : b0 = true := ready_nil hr (i := 0) (by simp) (by intro o ho; cases ho; intro e he hbd; replace he : e ∈ #[] := he; simp at he)
        subst t0
        have t1 : b1 = true := ready_nil hr (i := 1) (by simp) (by intro o ho; cases ho; intro e he hbd; replace he : e ∈ #[] := he; simp at he)
        subst t1
        have t2 : b2 = true := ready_nil hr (i := 2) (by simp) (by intro o ho; cases ho; intro e he hbd; replace he : e ∈ #[] := he; simp at he)
        subst t2
        have t3 : b3 = true := ready_nil hr (i := 3) (by simp) (by intro o ho; cases ho; intro e he hbd; replace he : e ∈ #[⟨0, Ground.data⟩, ⟨1, Ground.data⟩, ⟨2, Ground.data⟩] := he; simp only [List.mem_toArray, List.mem_cons, List.not_mem_nil, or_false] at he; rcases he with rfl | rfl | rfl <;> rfl)
        subst t3
        have t4 : b4 = true := ready_nil hr (i := 4) (by simp) (by intro o ho; cases ho; intro e he hbd; replace he : e ∈ #[] := he; simp at he)
        subst t4
        have t5 : b5 = true := ready_nil hr (i := 5) (by simp) (by intro o ho; cases ho; intro e he hbd; replace he : e ∈ #[] := he; simp at he)
        subst t5
        have t6 : b6 = true := ready_nil hr (i := 6) (by simp) (by intro o ho; cases ho; intro e he hbd; replace he : e ∈ #[⟨4, Ground.data⟩, ⟨5, Ground.data⟩, ⟨3, Ground.chain⟩] := he; simp only [List.mem_toArray, List.mem_cons, List.not_mem_nil, or_false] at he; rcases he with rfl | rfl | rfl <;> rfl)
        subst t6
        have t7 : b7 = true := ready_nil hr (i := 7) (by simp) (by intro o ho; cases ho; intro e he hbd; replace he : e ∈ #[⟨3, Ground.data⟩, ⟨6, Ground.data⟩] := he; simp only [List.mem_toArray, List.mem_cons, List.not_mem_nil, or_false] at he; rcases he with rfl | rfl <;> rfl)
        subst t7
        have t8 : b8 = true := ready_nil hr (i := 8) (by simp) (by intro o ho; cases ho; intro e he hbd; replace he : e ∈ #[⟨7, Ground.data⟩, ⟨6, Ground.chain⟩] := he; simp only [List.mem_toArray, List.mem_cons, List.not_mem_nil, or_false] at he; rcases he with rfl | rfl <;> rfl)
        subst t8
        have t9 : b9 = true := ready_nil hr (i := 9) (by simp) (by intro o ho; cases ho; intro e he hbd; replace he : e ∈ #[⟨8, Ground.data⟩] := he; simp only [List.mem_toArray, List.mem_cons, List.not_mem_nil, or_false] at he; rcases he with rfl <;> rfl)
        subst t9
        exact ⟨rfl, blk, rfl, hΦ.2.2.2⟩
    · rintro e a' w' ⟨rfl, blk, rfl, hbw⟩
      have HF2 := Lib.hid (Hf.out.below hbw)
      have HR2 := Lib.hid (Hr.out.below hbw)
      have HT2 := Lib.hid (Ht.out.below hbw)
      have HM2 := Lib.hid (Hm.out.below hbw)
      have HX2 := Lib.hid (b_next HX.out hbw)
      have HK2 := Lib.hid (KeepsAt.of_grown (T := w1.heap.size + 1) (grown_of hbw none) (by simp))
      obtain ⟨t2, t3, _, _⟩ := HT2.out.cells
      obtain ⟨m2, m3, mg2, mg3⟩ := HM2.out.cells
      clear hbw f0 f1 t0 t1 m0 m1 mf0 mf1
      by_cases ho : o < 0
      · have hn := HNr.out.1 ho
        have Hn := Lib.hid hn
        clear hn
        gi_wp2
        refine ⟨HK2.out.trans ((KeepsAt.set (by omega) _).trans (KeepsAt.set (by omega) _)), (HF2.out.far (by omega)).far (by omega), (HR2.out.far (by omega)).far (by omega), ⟨x.1, x.2, ?_, fun y hy hlt => ?_⟩, (HX2.out.setCell (p := ⟨_, 0, none⟩) (by simp <;> omega) _).setCell (p := ⟨_, 1, none⟩) (by simp <;> omega) _⟩
        · rw [Hru.out]; exact (HM2.out.set0 _).set1 _
        · rw [Hru.out] at hlt
          rcases List.mem_append.1 hy with h | h
          · exact Hno.out y h (Nearer.trans (fr_pos h1 y.1).1 px hpk hlt Hn.out)
          · rw [List.mem_singleton] at h; subst h; rw [Hru.out] at hlt; exact Nearer.irr _ _ hlt
      · have hn : ¬ Nearer (p, q) (r, u) (mx, my) := fun h => ho (HNr.out.2 h)
        have Hn := Lib.hid hn
        clear hn
        gi_wp2
        refine ⟨HK2.out, HF2.out, HR2.out, ⟨k, hk, ?_, fun y hy hlt => ?_⟩, HX2.out⟩
        · rw [Hmm.out]; exact HM2.out
        · rw [Hmm.out] at hlt
          rcases List.mem_append.1 hy with h | h
          · exact Hno.out y h hlt
          · rw [List.mem_singleton] at h; subst h; rw [Hru.out] at hlt; exact Hn.out hlt
  case done =>
    rintro D xs W hD rfl ⟨hf, hr, ⟨k, hk, hm, hno⟩, hX⟩ hK
    have hS : NearSpec N (p, q) (fr N k) := ⟨⟨k, hk, rfl⟩, fun j hj => hno ⟨j, hj⟩ (all_mem hj)⟩
    have hmm : ∃ z, fr N k = z := ⟨_, rfl⟩
    obtain ⟨⟨mx, my⟩, hmm⟩ := hmm
    rw [hmm] at hS hm
    simp only at hm
    have HS := Lib.hid hS
    have Hm := Lib.hid hm
    have Hr := Lib.hid hr
    have HX := Lib.hid hX
    have HK := Lib.hid hK
    have hDl : w1.heap.size + 1 + 1 ≤ D := by simpa using hD
    clear hf hr hm hX hno hK hS hmm A0 A1 A2 AB An hD
    obtain ⟨c0, c1, _, _⟩ := Hm.out.cells
    obtain ⟨_, _, r0, r1⟩ := Hr.out.cells
    gi_wp2
    refine leaves_cell (w := w) (by simp) (b := w.heap.size + 1) (x := mx) (y := my) (n₀ := w.heap.size + 1 + 1) (by omega) (by omega) ?_ D _ (by omega) ?_ ((Hr.out.set0 _).set1 _) ?_
    · intro Y h1 h2
      obtain ⟨k0, k1, _, _⟩ := h1.cells
      refine ⟨.tuple #[frV (mx, my), .int .i64 0], ?_, ⟨_, HS.out, rfl⟩, h2⟩
      simp [results, Try.f22, go_sem, k0, k1, frV]
    · exact (Below.heap_setCell _ _ _ _ (by simp <;> omega)).trans ((Below.heap_setCell _ _ _ _ (by simp <;> omega)).trans HK.out)
    · exact (HX.out.setCell (p := ⟨_, 0, none⟩) (by simp) _).setCell (p := ⟨_, 1, none⟩) (by simp) _
  case stop => intro D c pre W _ _ h; exact h.elim
end Go.Proofs.Ytelipknnfagnjaa
