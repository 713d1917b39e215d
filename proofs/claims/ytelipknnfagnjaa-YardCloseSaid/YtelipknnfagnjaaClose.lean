/- YardClose: no fraction of a row is nearer than Nearest, and Next and Before have nothing of the row between them and the fraction. Conditions: none. -/
import Derived.Test.YtelipknnfagnjaaCla
import Derived.Test.YtelipknnfagnjaaClb
import Derived.Test.YtelipknnfagnjaaClc
import Derived.Test.YtelipknnfagnjaaCld
import Derived.Test.YtelipknnfagnjaaCle
import Derived.Test.YtelipknnfagnjaaClf
import Derived.Test.YtelipknnfagnjaaClg
import Derived.Test.YtelipknnfagnjaaClh
namespace Go.Proofs.Ytelipknnfagnjaa
set_option linter.unusedVariables false
open Go.RowKit Go.Shelf
theorem ycl (x y p0 q0 : Int) (W : World) (hx : (Lit.int .i64 x).wf = true) (hy : (Lit.int .i64 y).wf = true) (hp0 : (Lit.int .i64 p0).wf = true) :
    Calls Try.prog 12 #[.int .i64 x, .int .i64 y, .agg #[.int .i64 p0, .int .i64 q0]] W fun e W' => e = .returned (.bool true) ∧ Below W.heap.size W W' := by
  obtain ⟨N, hN⟩ : ∃ N, 1 + modN x 300 = N := ⟨_, rfl⟩
  obtain ⟨⟨p, q⟩, ht⟩ : ∃ z, tamF p0 q0 1000000 = z := ⟨_, rfl⟩
  obtain ⟨K, hK⟩ : ∃ K, modN y (len N : Nat) = K := ⟨_, rfl⟩
  obtain ⟨⟨r, t⟩, hrt⟩ : ∃ z, fr N K = z := ⟨_, rfl⟩
  have hm := modN_lt x 300 (by omega)
  have hN1 : 1 ≤ N := by omega
  have hN2 : N ≤ 300 := by omega
  have hl := len_two hN1
  have hk := modN_lt y (len N : Nat) (by omega)
  have hKl : K < len N := by omega
  have hv := (tame_det p0 q0 1000000 W hp0 (by omega) (by omega)).2.1
  rw [ht] at hv
  simp only at hv
  obtain ⟨p', q', e1, e2, v1, v2, v3, v4⟩ := valid_nat hv
  obtain rfl : p = p' := by omega
  obtain rfl : q = q' := by omega
  obtain ⟨rr, hr⟩ := next_ex N (p, q)
  obtain ⟨kk, hkk⟩ := below_ex N (p, q)
  have cN := Next_det hN1 hN2 hv hr
  have cB := Before_det hN1 hN2 hv hkk
  have dN : PNone N p q ∨ (∃ ny nz, PNF N p q r t ny nz ∨ PNT N p q r t ny nz) := by
    rcases next_close hN1 hN2 hKl v3 hr with ⟨h1, h2⟩ | ⟨ny, nz, h1, h2, h3, h4⟩
    · rw [h1] at cN; exact .inl ⟨cN, h2⟩
    · rw [h1] at cN
      rw [hrt] at h4
      cases hc : lessF (p, q) (r, t) with
      | false => exact .inr ⟨ny, nz, .inl ⟨⟨cN, h2, h3⟩, hc⟩⟩
      | true => exact .inr ⟨ny, nz, .inr ⟨⟨cN, h2, h3⟩, hc, by rcases h4 with h | h; (rw [hc] at h; cases h); exact h⟩⟩
  have dB : PBone N p q ∨ (∃ vv oo, PBF N p q r t vv oo ∨ PBT N p q r t vv oo) := by
    rcases before_close hN1 hN2 hKl v1 hkk with ⟨h1, h2⟩ | ⟨ny, nz, h1, h2, h3, h4⟩
    · rw [h1] at cB; exact .inl ⟨cB, h2⟩
    · rw [h1] at cB
      rw [hrt] at h4
      cases hc : lessF (ny, nz) (r, t) with
      | false => exact .inr ⟨ny, nz, .inl ⟨⟨cB, h2, h3⟩, hc⟩⟩
      | true => exact .inr ⟨ny, nz, .inr ⟨⟨cB, h2, h3⟩, hc, by rcases h4 with h | h; (rw [hc] at h; cases h); exact h⟩⟩
  clear cN cB
  rcases dN with dN | ⟨ny, nz, dN | dN⟩ <;> rcases dB with dB | ⟨vv, oo, dB | dB⟩
  · have := dN.2; have := dB.2; omega
  · exact ycl_a x y p0 q0 W hx hy hp0 N p q K r t vv oo hN ht hK hrt dN dB
  · exact ycl_b x y p0 q0 W hx hy hp0 N p q K r t vv oo hN ht hK hrt dN dB
  · exact ycl_c x y p0 q0 W hx hy hp0 N p q K r t ny nz hN ht hK hrt dN dB
  · exact ycl_d x y p0 q0 W hx hy hp0 N p q K r t ny nz vv oo hN ht hK hrt dN dB
  · exact ycl_e x y p0 q0 W hx hy hp0 N p q K r t ny nz vv oo hN ht hK hrt dN dB
  · exact ycl_f x y p0 q0 W hx hy hp0 N p q K r t ny nz hN ht hK hrt dN dB
  · exact ycl_g x y p0 q0 W hx hy hp0 N p q K r t ny nz vv oo hN ht hK hrt dN dB
  · exact ycl_h x y p0 q0 W hx hy hp0 N p q K r t ny nz vv oo hN ht hK hrt dN dB

theorem walk_YardClose (a : Int) (h1 : (Lit.int .i64 a).wf = true) (b : Int) (h2 : (Lit.int .i64 b).wf = true) (c d : Int) (h3 : (Lit.int .i64 c).wf = true) (_ : (Lit.int .i64 d).wf = true) (W : World) :
    Calls Try.prog 12 #[.int .i64 a, .int .i64 b, .agg #[.int .i64 c, .int .i64 d]] W fun e W' => e = .returned (.bool true) ∧ Below W.heap.size W W' := ycl a b c d W h1 h2 h3


namespace lawYardClose
open Go.ChangeShapes Go.WideShapes Go.ChangeAt Go.RowKit
open Go.ChangeMaps (open_string shut_string)

theorem own : ownKnob Try.prog.godebug = none := by kernel_rfl
theorem lay : laidOutB Try.prog = true := by kernel_rfl

set_option maxRecDepth 100000 in
theorem lifted (os : Os) (started : os.Started) (H : Type) (enc : TypeId × Value → H) :
    ReturnsInHanded {} Try.checked os 12 .any (Rows.yardCloseSpec.pre6 enc Try.prog Try.f12 Rows.yardCloseRow.domain false) (Rows.yardCloseSpec.post enc Try.prog Try.f12 false true false false) := by
  refine returnsInHanded_of_change (C := Try.checked) own started (by kernel_rfl) Try.func12
    (ChangeSpec.witness6 (enc := enc) (C := Try.checked) false ⟨#[], #[.int .i64 0, .int .i64 0, .agg #[.int .i64 0, .int .i64 0]], []⟩ 8 (by kernel_rfl) (by kernel_rfl) (by kernel_rfl) (by kernel_rfl)) ?_
  intro W base args ds gs before hval0 hW hcnd _
  have hval : ∀ (j : Nat) t v, Try.f12.params[j]? = some t → args[j]? = some v → Value.okWide Try.prog W .any base t v := hval0
  have hW' := hW
  obtain ⟨p, q, hA0, hV, rfl, hfz, hnd⟩ := hW
  have hA : DataW.TrodAll enc Try.prog W 0 (fun _ => true) true Try.f12.params.toList args.toList ds p := hA0
  rw [Try.params12] at hA hval
  obtain ⟨v0, vs0, d0, ds0, p0, q0, hargs, rfl, rfl, h0, r0⟩ := trodAll_cons hA
  obtain ⟨v1, vs1, d1, ds1, p1, q1, rfl, rfl, rfl, h1, r1⟩ := trodAll_cons r0
  obtain ⟨v2, vs2, d2, ds2, p2, q2, rfl, rfl, rfl, h2, r2⟩ := trodAll_cons r1
  obtain ⟨rfl, rfl, rfl⟩ := trodAll_nil r2
  obtain rfl : args = #[v0, v1, v2] := by cases args; simp_all
  obtain ⟨rfl, rfl⟩ := trodVars_none hV
  obtain ⟨a0, rfl, rfl, rfl, w0⟩ := open_int Try.underlying3 (hval 0 3 v0 rfl rfl) h0
  obtain ⟨a1, rfl, rfl, rfl, w1⟩ := open_int Try.underlying3 (hval 1 3 v1 rfl rfl) h1
  obtain ⟨c2, k2, y2, z2, m2, rfl, rfl, rfl, g2, l2⟩ := Joins.open_agg2 Try.underlying26 (by kernel_rfl) (by kernel_rfl) (hval 2 26 v2 rfl rfl) h2
  obtain ⟨a2, e2, rfl, w2⟩ := DataW.trod_int Try.underlying3 g2
  obtain ⟨b2, f2, rfl, x2⟩ := DataW.trod_int Try.underlying3 l2
  simp at e2 f2
  subst e2 f2
  simp only [List.append_nil] at hW'
  clear hA0 hval0
  refine (walk_YardClose a0 w0 a1 w1 a2 b2 w2 x2 W).mono fun e W' ⟨he, bel⟩ => ?_
  subst he
  exact ⟨_, rfl, _, _, _, [], _, [], hW', trodAll_mk1 (shut_bool Try.underlying4 _), (trodAll_cons_mk (shut_int Try.underlying3 w0) (trodAll_cons_mk (shut_int Try.underlying3 w1) (trodAll_cons_mk (Joins.shut_agg2 (y0 := (.lit (.int .i64 a2), [])) (y1 := (.lit (.int .i64 b2), [])) Try.underlying26 (by kernel_rfl) (by kernel_rfl) (shut_int Try.underlying3 w2) (shut_int Try.underlying3 x2)) trodAll_mk0))), rfl, bel.frame _, fun h => by cases h⟩

theorem over : Rows.yardCloseRow.holds Try.pinned (OpenSpec.ofChange Rows.yardCloseSpec) :=
  OpenClaim.holds_of_wide 12 Try.f12 rfl rfl rfl rfl rfl rfl rfl ⟨rfl, rfl, rfl, rfl, rfl⟩ rfl rfl rfl rfl rfl (by kernel_rfl) Try.func12 (by kernel_rfl)
    (of_decide_eq_true (by kernel_rfl)) (by unfold Func.isWrapper; first | (rw [if_pos (by decide +kernel)]; kernel_rfl) | (rw [if_neg (by decide +kernel)]; exact ⟨rfl, rfl⟩))
    (fun os started H enc _ => lifted os started H enc)

theorem proved : Rows.YardCloseSaid := over
end lawYardClose
end Go.Proofs.Ytelipknnfagnjaa
