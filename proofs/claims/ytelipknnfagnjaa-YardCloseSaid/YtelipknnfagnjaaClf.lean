/- YardClose: a branch of the walk. -/
import Derived.Test.YtelipknnfagnjaaCl
namespace Go.Proofs.Ytelipknnfagnjaa
set_option linter.unusedVariables false
open Go.RowKit Go.Shelf
set_option maxRecDepth 100000 in
set_option maxHeartbeats 8000000 in
theorem ycl_f (x y p0 q0 : Int) (W : World) (hx : (Lit.int .i64 x).wf = true) (hy : (Lit.int .i64 y).wf = true) (hp0 : (Lit.int .i64 p0).wf = true) (N p q K r t : Nat) (ny nz : Nat)
    (hN : 1 + modN x 300 = N) (ht : tamF p0 q0 1000000 = (p, q)) (hK0 : modN y (len N : Nat) = K) (hrt : fr N K = (r, t)) (PN : PNT N p q r t ny nz) (PB : PBone N p q) :
    Calls Try.prog 12 #[.int .i64 x, .int .i64 y, .agg #[.int .i64 p0, .int .i64 q0]] W fun e W' => e = .returned (.bool true) ∧ Below W.heap.size W W' := by
  obtain ⟨m, hm0⟩ : ∃ m, modN x 300 = m := ⟨_, rfl⟩
  have hm := modN_lt x 300 (by omega)
  have hM := fun w => mod_det x 300 w hx (by omega) (by omega)
  rw [hm0] at hM hN hm
  have HM := Lib.hid hM
  have g0 := fun w => (tame_det p0 q0 1000000 w hp0 (by omega) (by omega)).1
  have hv := (tame_det p0 q0 1000000 W hp0 (by omega) (by omega)).2.1
  rw [ht] at g0 hv
  simp only at hv
  unfold frV at g0
  simp only at g0
  have H0 := Lib.hid g0
  have HW := Lib.hid awake_any
  have HHK := Lib.hid hK0
  have HHr := Lib.hid hrt
  have HPN := Lib.hid PN
  have HPB := Lib.hid PB
  clear hx g0 hp0 hm0 hM ht hK0 hrt PN PB
  go_enter Try.func12, Try.ntmps12
  go_wp2_with fail
  refine (HM.out _).mono ?_
  rintro e w1 ⟨rfl, rfl⟩
  have hN1 : 1 ≤ N := by omega
  have hN2 : N ≤ 300 := by omega
  have hNm : 1 + (m : Int) = N := by omega
  clear hN
  go_wp2_with fail
  clear hNm hm
  refine (H0.out _).mono ?_
  rintro e w2 ⟨rfl, b2⟩
  generalize hX : (W.alloc (.cells #[.int .i64 p0, .int .i64 q0] 26)) = X at b2
  have A0 : Two X W.heap.size 26 p0 q0 ∧ Below W.heap.size W X := by rw [← hX]; exact ⟨Two.new W _ _ _, below_alloc W _⟩
  have HA1 : Hid (Two w2 W.heap.size 26 p0 q0 ∧ Below W.heap.size W w2) := ⟨A0.1.below b2, b_next A0.2 b2⟩
  clear A0 b2 hX
  obtain ⟨x0, x1, y0, y1⟩ := HA1.out.1.cells
  have hl1 := HA1.out.1.lt
  obtain ⟨p', q', e1, e2, v1, v2, v3, v4⟩ := valid_nat hv
  obtain rfl : p = p' := by omega
  obtain rfl : q = q' := by omega
  clear e1 e2
  obtain ⟨L, hL⟩ : ∃ L, len N = L := ⟨_, rfl⟩
  have hS := fun w => Size_yes N hN1 hN2 w
  have hL2 := len_two hN1
  have hL4 : L ≤ 1000000 := by have := (len_spec hN1).2.2; have := Nat.mul_le_mul hN2 hN2; omega
  rw [hL] at hS hL2
  have HS := Lib.hid hS
  have HL := Lib.hid hL
  have HV := Lib.hid hv
  clear hS hL hv
  go_wp2_with fail
  generalize hX : ((w2.setCell ⟨W.heap.size, 0, none⟩ (.int .i64 p)).setCell ⟨W.heap.size, 1, none⟩ (.int .i64 q)) = X
  have Hf : Hid (Two X W.heap.size 26 p q) := by rw [← hX]; exact (HA1.out.1.set0 _).set1 _
  have HB : Hid (Below W.heap.size W X) := by rw [← hX]; exact (HA1.out.2.setCell (by simp) _).setCell (by simp) _
  clear hX x0 x1 y0 y1 hl1 HA1
  obtain ⟨f0, f1, _, _⟩ := Hf.out.cells
  have lf := Hf.out.lt
  refine (HS.out _).mono ?_
  rintro e w5 ⟨rfl, b5⟩
  have Hf' := Lib.hid (Hf.out.below b5)
  have HB' := Lib.hid (b_next HB.out b5)
  clear b5 HB Hf f0 f1 lf
  have Hf := Hf'
  clear Hf'
  have HB := HB'
  clear HB'
  obtain ⟨f0, f1, _, _⟩ := Hf.out.cells
  have lf := Hf.out.lt
  have hM2 := fun w => mod_det y (L : Int) w hy (by omega) (by omega)
  have hK := modN_lt y (L : Int) (by omega)
  have hK0 := HHK.out
  rw [HL.out] at hK0
  rw [hK0] at hM2 hK
  have HM2 := Lib.hid hM2
  clear hM2 hK0
  go_wp2_with fail
  refine (HM2.out _).mono ?_
  rintro e w6 ⟨rfl, rfl⟩
  have hKl : K < len N := by rw [HL.out]; omega
  have hrt := HHr.out
  have hI := fun w => Item_yes N K hN1 hN2 w
  rw [show itemR N K = ((r, t), 0) from by unfold itemR; rw [if_pos (by omega)]; simp [hrt]] at hI
  have vx : validB r t = true := by have := fr_valid hN1 hN2 hKl; rw [hrt] at this; exact this
  have sx := fr_small300 hN1 hN2 hKl
  rw [hrt] at sx
  have hNf : ∀ w, Calls Try.prog 22 #[.int .i64 N, .agg #[.int .i64 p, .int .i64 q]] w fun e w' => (∃ c d : Nat, NearSpec N (p, q) (c, d) ∧ e = .returned (.tuple #[.agg #[.int .i64 c, .int .i64 d], .int .i64 0])) ∧ Below w.heap.size w w' := fun w =>
    (Nearest_yes N p q hN1 hN2 HV.out w).mono fun e w' ⟨⟨⟨c, d⟩, hc, he⟩, hb⟩ => ⟨⟨c, d, hc, he⟩, hb⟩
  have hNx : ∀ w, Calls Try.prog 22 #[.int .i64 N, .agg #[.int .i64 r, .int .i64 t]] w fun e w' => e = .returned (.tuple #[.agg #[.int .i64 r, .int .i64 t], .int .i64 0]) ∧ Below w.heap.size w w' := fun w =>
    (Nearest_yes N r t hN1 hN2 vx w).mono fun e w' ⟨⟨c, hc, he⟩, hb⟩ => ⟨by rw [← hrt] at hc; rw [he, near_self hN1 hKl hc, hrt]; rfl, hb⟩
  have hVx := fun w => refValid_any r t w
  rw [vx] at hVx
  unfold frV at hI
  simp only at hI
  have HI := Lib.hid hI
  have HNf := Lib.hid hNf
  have HNx := Lib.hid hNx
  have HVx := Lib.hid hVx
  have Hvx := Lib.hid vx
  have Hsx := Lib.hid sx
  have Hrt := Lib.hid hrt
  have HKl := Lib.hid hKl
  have HN1 := Lib.hid hN1
  have HN2 := Lib.hid hN2
  have Hq := Lib.hid (And.intro v1 (And.intro v2 v3))
  have hK2 : (K : Int) < L := by omega
  clear hI hNf hNx hVx vx sx hrt hKl hK hy v4 v3 v2 v1 hN1 HM HM2 HS H0
  go_wp2_with fail
  refine (HI.out _).mono ?_
  rintro e w7 ⟨rfl, b7⟩
  have Hf' := Lib.hid (Hf.out.below b7)
  have HB' := Lib.hid (b_next HB.out b7)
  clear b7 HB Hf f0 f1 lf
  have Hf := Hf'
  clear Hf'
  have HB := HB'
  clear HB'
  obtain ⟨f0, f1, _, _⟩ := Hf.out.cells
  have lf := Hf.out.lt
  have Hf' := Lib.hid (Hf.out.below (below_alloc w7 (.cells #[.int .i64 r, .int .i64 t] 26)))
  have HB' := Lib.hid (b_next HB.out (below_alloc w7 (.cells #[.int .i64 r, .int .i64 t] 26)))
  clear HB Hf f0 f1 lf
  have Hf := Hf'
  clear Hf'
  have HB := HB'
  clear HB'
  have Hx := Lib.hid (Two.new w7 26 r t)
  obtain ⟨f0, f1, _, _⟩ := Hf.out.cells
  have lf := Hf.out.lt
  obtain ⟨x0, x1, _, _⟩ := Hx.out.cells
  have lx := Hx.out.lt
  go_wp2_with fail
  refine (HNf.out _).mono ?_
  rintro e w8 ⟨⟨c, d, hcn, rfl⟩, b8⟩
  have Hcn := Lib.hid hcn
  clear hcn
  have Hf' := Lib.hid (Hf.out.below b8)
  have Hx' := Lib.hid (Hx.out.below b8)
  have HB' := Lib.hid (b_next HB.out b8)
  clear b8 HB Hf Hx f0 f1 lf x0 x1 lx
  have Hf := Hf'
  clear Hf'
  have Hx := Hx'
  clear Hx'
  have HB := HB'
  clear HB'
  obtain ⟨f0, f1, _, _⟩ := Hf.out.cells
  have lf := Hf.out.lt
  obtain ⟨x0, x1, _, _⟩ := Hx.out.cells
  have lx := Hx.out.lt
  have Hf' := Lib.hid (Hf.out.below (below_alloc w8 (.cells #[.int .i64 c, .int .i64 d] 26)))
  have Hx' := Lib.hid (Hx.out.below (below_alloc w8 (.cells #[.int .i64 c, .int .i64 d] 26)))
  have HB' := Lib.hid (b_next HB.out (below_alloc w8 (.cells #[.int .i64 c, .int .i64 d] 26)))
  clear HB Hf Hx f0 f1 lf x0 x1 lx
  have Hf := Hf'
  clear Hf'
  have Hx := Hx'
  clear Hx'
  have HB := HB'
  clear HB'
  have Hc := Lib.hid (Two.new w8 26 c d)
  obtain ⟨f0, f1, _, _⟩ := Hf.out.cells
  have lf := Hf.out.lt
  obtain ⟨x0, x1, _, _⟩ := Hx.out.cells
  have lx := Hx.out.lt
  obtain ⟨c0, c1, _, _⟩ := Hc.out.cells
  have lc := Hc.out.lt
  go_wp2_with fail
  refine (HNx.out _).mono ?_
  rintro e w9 ⟨rfl, b9⟩
  have Hf' := Lib.hid (Hf.out.below b9)
  have Hx' := Lib.hid (Hx.out.below b9)
  have Hc' := Lib.hid (Hc.out.below b9)
  have HB' := Lib.hid (b_next HB.out b9)
  clear b9 HB Hf Hx Hc f0 f1 lf x0 x1 lx c0 c1 lc
  have Hf := Hf'
  clear Hf'
  have Hx := Hx'
  clear Hx'
  have Hc := Hc'
  clear Hc'
  have HB := HB'
  clear HB'
  obtain ⟨f0, f1, _, _⟩ := Hf.out.cells
  have lf := Hf.out.lt
  obtain ⟨x0, x1, _, _⟩ := Hx.out.cells
  have lx := Hx.out.lt
  obtain ⟨c0, c1, _, _⟩ := Hc.out.cells
  have lc := Hc.out.lt
  have Hf' := Lib.hid (Hf.out.below (below_alloc w9 (.cells #[.int .i64 r, .int .i64 t] 26)))
  have Hx' := Lib.hid (Hx.out.below (below_alloc w9 (.cells #[.int .i64 r, .int .i64 t] 26)))
  have Hc' := Lib.hid (Hc.out.below (below_alloc w9 (.cells #[.int .i64 r, .int .i64 t] 26)))
  have HB' := Lib.hid (b_next HB.out (below_alloc w9 (.cells #[.int .i64 r, .int .i64 t] 26)))
  clear HB Hf Hx Hc f0 f1 lf x0 x1 lx c0 c1 lc
  have Hf := Hf'
  clear Hf'
  have Hx := Hx'
  clear Hx'
  have Hc := Hc'
  clear Hc'
  have HB := HB'
  clear HB'
  have Hd := Lib.hid (Two.new w9 26 r t)
  obtain ⟨f0, f1, _, _⟩ := Hf.out.cells
  have lf := Hf.out.lt
  obtain ⟨x0, x1, _, _⟩ := Hx.out.cells
  have lx := Hx.out.lt
  obtain ⟨c0, c1, _, _⟩ := Hc.out.cells
  have lc := Hc.out.lt
  obtain ⟨d0, d1, _, _⟩ := Hd.out.cells
  have ld := Hd.out.lt
  obtain ⟨⟨kc, hkc, hce⟩, _⟩ := Hcn.out
  have sc := fr_small300 HN1.out HN2.out hkc
  have vc := fr_valid HN1.out HN2.out hkc
  have dc := (fr_pos HN1.out kc).2
  have hnn := near_not HKl.out Hcn.out
  rw [← hce] at sc vc dc
  rw [Hrt.out] at hnn
  have HNum := Lib.hid (close_num (Nat.le_trans Hq.out.2.2 Hq.out.2.1) Hq.out.2.1 Hsx.out.1 Hsx.out.2 sc.1 sc.2 hnn) 
  have hVc := fun w => refValid_any c d w
  rw [show validB c d = true from vc] at hVc
  have HVc := Lib.hid hVc
  have hdN : ¬ (N : Int) < d := by simp only at dc; omega
  clear hkc hce sc vc dc hnn hVc hL2 hL4
  go_wp2_with fail
  refine (HVx.out _).mono ?_
  rintro e w10 ⟨rfl, b10⟩
  have Hf' := Lib.hid (Hf.out.below b10)
  have Hx' := Lib.hid (Hx.out.below b10)
  have Hc' := Lib.hid (Hc.out.below b10)
  have Hd' := Lib.hid (Hd.out.below b10)
  have HB' := Lib.hid (b_next HB.out b10)
  clear b10 HB Hf Hx Hc Hd f0 f1 lf x0 x1 lx c0 c1 lc d0 d1 ld
  have Hf := Hf'
  clear Hf'
  have Hx := Hx'
  clear Hx'
  have Hc := Hc'
  clear Hc'
  have Hd := Hd'
  clear Hd'
  have HB := HB'
  clear HB'
  obtain ⟨f0, f1, _, _⟩ := Hf.out.cells
  have lf := Hf.out.lt
  obtain ⟨x0, x1, _, _⟩ := Hx.out.cells
  have lx := Hx.out.lt
  obtain ⟨c0, c1, _, _⟩ := Hc.out.cells
  have lc := Hc.out.lt
  obtain ⟨d0, d1, _, _⟩ := Hd.out.cells
  have ld := Hd.out.lt
  go_wp2_with fail
  refine (HVc.out _).mono ?_
  rintro e w11 ⟨rfl, b11⟩
  have Hf' := Lib.hid (Hf.out.below b11)
  have Hx' := Lib.hid (Hx.out.below b11)
  have Hc' := Lib.hid (Hc.out.below b11)
  have Hd' := Lib.hid (Hd.out.below b11)
  have HB' := Lib.hid (b_next HB.out b11)
  clear b11 HB Hf Hx Hc Hd f0 f1 lf x0 x1 lx c0 c1 lc d0 d1 ld
  have Hf := Hf'
  clear Hf'
  have Hx := Hx'
  clear Hx'
  have Hc := Hc'
  clear Hc'
  have Hd := Hd'
  clear Hd'
  have HB := HB'
  clear HB'
  obtain ⟨f0, f1, _, _⟩ := Hf.out.cells
  have lf := Hf.out.lt
  obtain ⟨x0, x1, _, _⟩ := Hx.out.cells
  have lx := Hx.out.lt
  obtain ⟨c0, c1, _, _⟩ := Hc.out.cells
  have lc := Hc.out.lt
  obtain ⟨d0, d1, _, _⟩ := Hd.out.cells
  have ld := Hd.out.lt
  go_wp2_with fail
  obtain ⟨aa, bb, u1, u2, u3, u4, g1, g2, j1, j2, q1, q2, q3, q4, q5, q6, q7, q8, q9, q10, q11, q12, q13⟩ := HNum.out
  clear q7 q8 q9 q10 q11 q12 q13
  go_quiet (fail)
  obtain ⟨aa', bb', v1, v2, v3, v4, g1', g2', j1', j2', k1, k2, k3, k4, k5, k6, k7, k8, k9, k10, k11, k12, k13⟩ := HNum.out
  obtain rfl : u1 = v1 := Int.ofNat.inj (q1.symm.trans k1)
  obtain rfl : u2 = v2 := Int.ofNat.inj (q2.symm.trans k2)
  obtain rfl : u3 = v3 := Int.ofNat.inj (q3.symm.trans k3)
  obtain rfl : u4 = v4 := Int.ofNat.inj (q4.symm.trans k4)
  obtain rfl : aa = aa' := q5.symm.trans k5
  obtain rfl : bb = bb' := q6.symm.trans k6
  clear q1 q2 q3 q4 q5 q6 k1 k2 k3 k4 k5 k6
  have Hf' := Lib.hid (Hf.out.drewN nq)
  have Hx' := Lib.hid (Hx.out.drewN nq)
  have Hc' := Lib.hid (Hc.out.drewN nq)
  have Hd' := Lib.hid (Hd.out.drewN nq)
  have HB' := Lib.hid (below_drewN HB.out nq)
  clear HB Hf Hx Hc Hd f0 f1 lf x0 x1 lx c0 c1 lc d0 d1 ld
  have Hf := Hf'
  clear Hf'
  have Hx := Hx'
  clear Hx'
  have Hc := Hc'
  clear Hc'
  have Hd := Hd'
  clear Hd'
  have HB := HB'
  clear HB'
  generalize w11.drewN nq = wn at *
  obtain ⟨f0, f1, _, _⟩ := Hf.out.cells
  have lf := Hf.out.lt
  obtain ⟨x0, x1, _, _⟩ := Hx.out.cells
  have lx := Hx.out.lt
  obtain ⟨c0, c1, _, _⟩ := Hc.out.cells
  have lc := Hc.out.lt
  obtain ⟨d0, d1, _, _⟩ := Hd.out.cells
  have ld := Hd.out.lt
  have hpq := Hq.out.2.2
  have hq1 := Hq.out.1
  have hq2 := Hq.out.2.1
  have hp2 := Nat.le_trans hpq hq2
  have hr2 : r ≤ 1000000 := Nat.le_trans Hsx.out.1 (by omega)
  have ht2 : t ≤ 1000000 := Nat.le_trans Hsx.out.2 (by omega)
  have Hb := Lib.hid (And.intro hp2 (And.intro hq2 (And.intro hr2 ht2)))
  clear hpq hq1 hq2 hp2 hr2 ht2
  have HNe := Lib.hid HPN.out.1.1
  have yv3 := valid_nat HPN.out.1.2.1
  have sy : ny ≤ 1000000 ∧ nz ≤ 1000000 := by obtain ⟨a', b', e1, e2, _, k2, k3, _⟩ := yv3; omega
  have h0 := fun w => refValid_any ny nz w
  rw [HPN.out.1.2.1] at h0
  have HVy := Lib.hid h0
  clear h0
  have h0 := fun w => ref_less (a := p) (b := q) (c := ny) (d := nz) Hb.out.1 Hb.out.2.1 sy.1 sy.2 w
  rw [HPN.out.1.2.2] at h0
  have HLfy := Lib.hid h0
  clear h0
  have h0 := fun w => ref_less (a := p) (b := q) (c := r) (d := t) Hb.out.1 Hb.out.2.1 Hb.out.2.2.1 Hb.out.2.2.2 w
  rw [HPN.out.2.1] at h0
  have HLfx := Lib.hid h0
  clear h0
  have h0 := fun w => ref_less (a := r) (b := t) (c := ny) (d := nz) Hb.out.2.2.1 Hb.out.2.2.2 sy.1 sy.2 w
  rw [HPN.out.2.2] at h0
  have HLxy := Lib.hid h0
  clear h0
  clear yv3 sy
  have HBf := Lib.hid HPB.out.1
  have hp1 : ((p : Int) == 0) = true := by have := HPB.out.2; rw [beq_iff_eq]; omega
  clear HPN HPB HHK HHr
  go_wp2_with fail
  refine (HNe.out _).mono ?_
  rintro e w21 ⟨rfl, b21⟩
  have Hf' := Lib.hid (Hf.out.below b21)
  have Hx' := Lib.hid (Hx.out.below b21)
  have Hc' := Lib.hid (Hc.out.below b21)
  have Hd' := Lib.hid (Hd.out.below b21)
  have HB' := Lib.hid (b_next HB.out b21)
  clear b21 HB Hf Hx Hc Hd f0 f1 lf x0 x1 lx c0 c1 lc d0 d1 ld
  have Hf := Hf'
  clear Hf'
  have Hx := Hx'
  clear Hx'
  have Hc := Hc'
  clear Hc'
  have Hd := Hd'
  clear Hd'
  have HB := HB'
  clear HB'
  obtain ⟨f0, f1, _, _⟩ := Hf.out.cells
  have lf := Hf.out.lt
  obtain ⟨x0, x1, _, _⟩ := Hx.out.cells
  have lx := Hx.out.lt
  obtain ⟨c0, c1, _, _⟩ := Hc.out.cells
  have lc := Hc.out.lt
  obtain ⟨d0, d1, _, _⟩ := Hd.out.cells
  have ld := Hd.out.lt
  have Hf' := Lib.hid (Hf.out.below (below_alloc w21 (.cells #[.int .i64 ny, .int .i64 nz] 26)))
  have Hx' := Lib.hid (Hx.out.below (below_alloc w21 (.cells #[.int .i64 ny, .int .i64 nz] 26)))
  have Hc' := Lib.hid (Hc.out.below (below_alloc w21 (.cells #[.int .i64 ny, .int .i64 nz] 26)))
  have Hd' := Lib.hid (Hd.out.below (below_alloc w21 (.cells #[.int .i64 ny, .int .i64 nz] 26)))
  have HB' := Lib.hid (b_next HB.out (below_alloc w21 (.cells #[.int .i64 ny, .int .i64 nz] 26)))
  clear HB Hf Hx Hc Hd f0 f1 lf x0 x1 lx c0 c1 lc d0 d1 ld
  have Hf := Hf'
  clear Hf'
  have Hx := Hx'
  clear Hx'
  have Hc := Hc'
  clear Hc'
  have Hd := Hd'
  clear Hd'
  have HB := HB'
  clear HB'
  have Hy := Lib.hid (Two.new w21 26 ny nz)
  obtain ⟨f0, f1, _, _⟩ := Hf.out.cells
  have lf := Hf.out.lt
  obtain ⟨x0, x1, _, _⟩ := Hx.out.cells
  have lx := Hx.out.lt
  obtain ⟨c0, c1, _, _⟩ := Hc.out.cells
  have lc := Hc.out.lt
  obtain ⟨d0, d1, _, _⟩ := Hd.out.cells
  have ld := Hd.out.lt
  obtain ⟨y0, y1, _, _⟩ := Hy.out.cells
  have ly := Hy.out.lt
  go_wp2_with fail
  refine (HBf.out _).mono ?_
  rintro e w22 ⟨rfl, b22⟩
  have Hf' := Lib.hid (Hf.out.below b22)
  have Hx' := Lib.hid (Hx.out.below b22)
  have Hc' := Lib.hid (Hc.out.below b22)
  have Hd' := Lib.hid (Hd.out.below b22)
  have Hy' := Lib.hid (Hy.out.below b22)
  have HB' := Lib.hid (b_next HB.out b22)
  clear b22 HB Hf Hx Hc Hd Hy f0 f1 lf x0 x1 lx c0 c1 lc d0 d1 ld y0 y1 ly
  have Hf := Hf'
  clear Hf'
  have Hx := Hx'
  clear Hx'
  have Hc := Hc'
  clear Hc'
  have Hd := Hd'
  clear Hd'
  have Hy := Hy'
  clear Hy'
  have HB := HB'
  clear HB'
  obtain ⟨f0, f1, _, _⟩ := Hf.out.cells
  have lf := Hf.out.lt
  obtain ⟨x0, x1, _, _⟩ := Hx.out.cells
  have lx := Hx.out.lt
  obtain ⟨c0, c1, _, _⟩ := Hc.out.cells
  have lc := Hc.out.lt
  obtain ⟨d0, d1, _, _⟩ := Hd.out.cells
  have ld := Hd.out.lt
  obtain ⟨y0, y1, _, _⟩ := Hy.out.cells
  have ly := Hy.out.lt
  have Hf' := Lib.hid (Hf.out.below (below_alloc w22 (.cells #[.int .i64 0, .int .i64 0] 26)))
  have Hx' := Lib.hid (Hx.out.below (below_alloc w22 (.cells #[.int .i64 0, .int .i64 0] 26)))
  have Hc' := Lib.hid (Hc.out.below (below_alloc w22 (.cells #[.int .i64 0, .int .i64 0] 26)))
  have Hd' := Lib.hid (Hd.out.below (below_alloc w22 (.cells #[.int .i64 0, .int .i64 0] 26)))
  have Hy' := Lib.hid (Hy.out.below (below_alloc w22 (.cells #[.int .i64 0, .int .i64 0] 26)))
  have HB' := Lib.hid (b_next HB.out (below_alloc w22 (.cells #[.int .i64 0, .int .i64 0] 26)))
  clear HB Hf Hx Hc Hd Hy f0 f1 lf x0 x1 lx c0 c1 lc d0 d1 ld y0 y1 ly
  have Hf := Hf'
  clear Hf'
  have Hx := Hx'
  clear Hx'
  have Hc := Hc'
  clear Hc'
  have Hd := Hd'
  clear Hd'
  have Hy := Hy'
  clear Hy'
  have HB := HB'
  clear HB'
  have Hz := Lib.hid (Two.new w22 26 0 0)
  obtain ⟨f0, f1, _, _⟩ := Hf.out.cells
  have lf := Hf.out.lt
  obtain ⟨x0, x1, _, _⟩ := Hx.out.cells
  have lx := Hx.out.lt
  obtain ⟨c0, c1, _, _⟩ := Hc.out.cells
  have lc := Hc.out.lt
  obtain ⟨d0, d1, _, _⟩ := Hd.out.cells
  have ld := Hd.out.lt
  obtain ⟨y0, y1, _, _⟩ := Hy.out.cells
  have ly := Hy.out.lt
  obtain ⟨z0, z1, _, _⟩ := Hz.out.cells
  have lz := Hz.out.lt
  go_wp2_with fail
  refine (HVy.out _).mono ?_
  rintro e w23 ⟨rfl, b23⟩
  have Hf' := Lib.hid (Hf.out.below b23)
  have Hx' := Lib.hid (Hx.out.below b23)
  have Hc' := Lib.hid (Hc.out.below b23)
  have Hd' := Lib.hid (Hd.out.below b23)
  have Hy' := Lib.hid (Hy.out.below b23)
  have Hz' := Lib.hid (Hz.out.below b23)
  have HB' := Lib.hid (b_next HB.out b23)
  clear b23 HB Hf Hx Hc Hd Hy Hz f0 f1 lf x0 x1 lx c0 c1 lc d0 d1 ld y0 y1 ly z0 z1 lz
  have Hf := Hf'
  clear Hf'
  have Hx := Hx'
  clear Hx'
  have Hc := Hc'
  clear Hc'
  have Hd := Hd'
  clear Hd'
  have Hy := Hy'
  clear Hy'
  have Hz := Hz'
  clear Hz'
  have HB := HB'
  clear HB'
  obtain ⟨f0, f1, _, _⟩ := Hf.out.cells
  have lf := Hf.out.lt
  obtain ⟨x0, x1, _, _⟩ := Hx.out.cells
  have lx := Hx.out.lt
  obtain ⟨c0, c1, _, _⟩ := Hc.out.cells
  have lc := Hc.out.lt
  obtain ⟨d0, d1, _, _⟩ := Hd.out.cells
  have ld := Hd.out.lt
  obtain ⟨y0, y1, _, _⟩ := Hy.out.cells
  have ly := Hy.out.lt
  obtain ⟨z0, z1, _, _⟩ := Hz.out.cells
  have lz := Hz.out.lt
  go_wp2_with fail
  refine (HLfy.out _).mono ?_
  rintro e w24 ⟨rfl, b24⟩
  have Hf' := Lib.hid (Hf.out.below b24)
  have Hx' := Lib.hid (Hx.out.below b24)
  have Hc' := Lib.hid (Hc.out.below b24)
  have Hd' := Lib.hid (Hd.out.below b24)
  have Hy' := Lib.hid (Hy.out.below b24)
  have Hz' := Lib.hid (Hz.out.below b24)
  have HB' := Lib.hid (b_next HB.out b24)
  clear b24 HB Hf Hx Hc Hd Hy Hz f0 f1 lf x0 x1 lx c0 c1 lc d0 d1 ld y0 y1 ly z0 z1 lz
  have Hf := Hf'
  clear Hf'
  have Hx := Hx'
  clear Hx'
  have Hc := Hc'
  clear Hc'
  have Hd := Hd'
  clear Hd'
  have Hy := Hy'
  clear Hy'
  have Hz := Hz'
  clear Hz'
  have HB := HB'
  clear HB'
  obtain ⟨f0, f1, _, _⟩ := Hf.out.cells
  have lf := Hf.out.lt
  obtain ⟨x0, x1, _, _⟩ := Hx.out.cells
  have lx := Hx.out.lt
  obtain ⟨c0, c1, _, _⟩ := Hc.out.cells
  have lc := Hc.out.lt
  obtain ⟨d0, d1, _, _⟩ := Hd.out.cells
  have ld := Hd.out.lt
  obtain ⟨y0, y1, _, _⟩ := Hy.out.cells
  have ly := Hy.out.lt
  obtain ⟨z0, z1, _, _⟩ := Hz.out.cells
  have lz := Hz.out.lt
  go_wp2_with fail
  refine (HLfx.out _).mono ?_
  rintro e w25 ⟨rfl, b25⟩
  have Hf' := Lib.hid (Hf.out.below b25)
  have Hx' := Lib.hid (Hx.out.below b25)
  have Hc' := Lib.hid (Hc.out.below b25)
  have Hd' := Lib.hid (Hd.out.below b25)
  have Hy' := Lib.hid (Hy.out.below b25)
  have Hz' := Lib.hid (Hz.out.below b25)
  have HB' := Lib.hid (b_next HB.out b25)
  clear b25 HB Hf Hx Hc Hd Hy Hz f0 f1 lf x0 x1 lx c0 c1 lc d0 d1 ld y0 y1 ly z0 z1 lz
  have Hf := Hf'
  clear Hf'
  have Hx := Hx'
  clear Hx'
  have Hc := Hc'
  clear Hc'
  have Hd := Hd'
  clear Hd'
  have Hy := Hy'
  clear Hy'
  have Hz := Hz'
  clear Hz'
  have HB := HB'
  clear HB'
  obtain ⟨f0, f1, _, _⟩ := Hf.out.cells
  have lf := Hf.out.lt
  obtain ⟨x0, x1, _, _⟩ := Hx.out.cells
  have lx := Hx.out.lt
  obtain ⟨c0, c1, _, _⟩ := Hc.out.cells
  have lc := Hc.out.lt
  obtain ⟨d0, d1, _, _⟩ := Hd.out.cells
  have ld := Hd.out.lt
  obtain ⟨y0, y1, _, _⟩ := Hy.out.cells
  have ly := Hy.out.lt
  obtain ⟨z0, z1, _, _⟩ := Hz.out.cells
  have lz := Hz.out.lt
  go_wp2_with fail
  refine (HLxy.out _).mono ?_
  rintro e w26 ⟨rfl, b26⟩
  have Hf' := Lib.hid (Hf.out.below b26)
  have Hx' := Lib.hid (Hx.out.below b26)
  have Hc' := Lib.hid (Hc.out.below b26)
  have Hd' := Lib.hid (Hd.out.below b26)
  have Hy' := Lib.hid (Hy.out.below b26)
  have Hz' := Lib.hid (Hz.out.below b26)
  have HB' := Lib.hid (b_next HB.out b26)
  clear b26 HB Hf Hx Hc Hd Hy Hz f0 f1 lf x0 x1 lx c0 c1 lc d0 d1 ld y0 y1 ly z0 z1 lz
  have Hf := Hf'
  clear Hf'
  have Hx := Hx'
  clear Hx'
  have Hc := Hc'
  clear Hc'
  have Hd := Hd'
  clear Hd'
  have Hy := Hy'
  clear Hy'
  have Hz := Hz'
  clear Hz'
  have HB := HB'
  clear HB'
  obtain ⟨f0, f1, _, _⟩ := Hf.out.cells
  have lf := Hf.out.lt
  obtain ⟨x0, x1, _, _⟩ := Hx.out.cells
  have lx := Hx.out.lt
  obtain ⟨c0, c1, _, _⟩ := Hc.out.cells
  have lc := Hc.out.lt
  obtain ⟨d0, d1, _, _⟩ := Hd.out.cells
  have ld := Hd.out.lt
  obtain ⟨y0, y1, _, _⟩ := Hy.out.cells
  have ly := Hy.out.lt
  obtain ⟨z0, z1, _, _⟩ := Hz.out.cells
  have lz := Hz.out.lt
  go_wp2_with fail
  refine (HW.out _).mono ?_
  rintro e w27 ⟨rfl, b27⟩
  have Hf' := Lib.hid (Hf.out.below b27)
  have Hx' := Lib.hid (Hx.out.below b27)
  have Hc' := Lib.hid (Hc.out.below b27)
  have Hd' := Lib.hid (Hd.out.below b27)
  have Hy' := Lib.hid (Hy.out.below b27)
  have Hz' := Lib.hid (Hz.out.below b27)
  have HB' := Lib.hid (b_next HB.out b27)
  clear b27 HB Hf Hx Hc Hd Hy Hz f0 f1 lf x0 x1 lx c0 c1 lc d0 d1 ld y0 y1 ly z0 z1 lz
  have Hf := Hf'
  clear Hf'
  have Hx := Hx'
  clear Hx'
  have Hc := Hc'
  clear Hc'
  have Hd := Hd'
  clear Hd'
  have Hy := Hy'
  clear Hy'
  have Hz := Hz'
  clear Hz'
  have HB := HB'
  clear HB'
  obtain ⟨f0, f1, _, _⟩ := Hf.out.cells
  have lf := Hf.out.lt
  obtain ⟨x0, x1, _, _⟩ := Hx.out.cells
  have lx := Hx.out.lt
  obtain ⟨c0, c1, _, _⟩ := Hc.out.cells
  have lc := Hc.out.lt
  obtain ⟨d0, d1, _, _⟩ := Hd.out.cells
  have ld := Hd.out.lt
  obtain ⟨y0, y1, _, _⟩ := Hy.out.cells
  have ly := Hy.out.lt
  obtain ⟨z0, z1, _, _⟩ := Hz.out.cells
  have lz := Hz.out.lt
  go_wp2_with fail
  go_ret
  exact ⟨rfl, HB.out⟩
end Go.Proofs.Ytelipknnfagnjaa
