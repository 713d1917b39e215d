/- YardBelows: for any row and fraction, Below, Next, Before, Nearest and Touching are the specified ones, or the errors. -/
import Derived.Test.YtelipknnfagnjaaBla
import Derived.Test.YtelipknnfagnjaaBlb
import Derived.Test.YtelipknnfagnjaaBlc
import Derived.ProofKit
import Derived.OpenShut
import Derived.ShutString
import Derived.ChangeOld
import Derived.Lib.SmallJoins
namespace Go.Proofs.Ytelipknnfagnjaa
set_option linter.unusedVariables false
open Go.RowKit Go.Shelf

theorem nextK_cases (N p q K : Nat) (h : GreatSpec N (p, q) K) : decide (K < len N) = true ∧ (nextK N K).2 = 0 ∨ decide (K < len N) = false ∧ (nextK N K).2 = 6 := by
  unfold nextK
  by_cases e : K = len N
  · exact .inr ⟨decide_eq_false (by omega), by rw [if_pos e]⟩
  · exact .inl ⟨decide_eq_true (by have := h.1; omega), by rw [if_neg e]⟩
theorem beforeR_cases (N kk : Nat) : decide (0 < kk) = true ∧ (beforeR N kk).2 = 0 ∨ decide (0 < kk) = false ∧ (beforeR N kk).2 = 6 := by
  unfold beforeR
  by_cases e : kk = 0
  · exact .inr ⟨decide_eq_false (by omega), by rw [if_pos e]⟩
  · exact .inl ⟨decide_eq_true (by omega), by rw [if_neg e]⟩
theorem ybl (n p q : Int) (W : World) :
    Calls Try.prog 4 #[.int .i64 n, .agg #[.int .i64 p, .int .i64 q]] W fun e W' => e = .returned (.bool true) ∧ Below W.heap.size W W' := by
  cases h : rowB n && validB p q with
  | false =>
    refine ybl_no n p q W h ?_
    rw [Bool.and_eq_false_iff] at h
    rcases h with h | h
    · exact .inl h
    · exact .inr (.inl h)
  | true =>
    rw [Bool.and_eq_true] at h
    obtain ⟨hr, hv⟩ := h
    obtain ⟨a, b, rfl, rfl, _⟩ := valid_nat hv
    unfold rowB at hr
    rw [Bool.and_eq_true, decide_eq_true_eq, decide_eq_true_eq] at hr
    obtain ⟨N, rfl⟩ := Int.eq_ofNat_of_zero_le (show 0 ≤ n by omega)
    obtain ⟨kk, hk⟩ := below_ex N (a, b)
    obtain ⟨K, hK⟩ := great_ex N (a, b)
    have h1 : 1 ≤ N := by omega
    have h3 : N ≤ 300 := by omega
    by_cases hq : N < b
    · exact ybl_far N a b kk K W h1 h3 hv hq hk hK _ _ _ _ _ _ _ _ rfl rfl rfl rfl (nextK_cases N a b K hK) (beforeR_cases N kk)
    · exact ybl_in N a b kk K W h1 h3 hv (by omega) hk hK _ _ _ _ _ _ _ _ rfl rfl rfl rfl (nextK_cases N a b K hK) (beforeR_cases N kk)

theorem walk_YardBelows (a : Int) (h1 : (Lit.int .i64 a).wf = true) (c d : Int) (h3 : (Lit.int .i64 c).wf = true) (_ : (Lit.int .i64 d).wf = true) (W : World) :
    Calls Try.prog 4 #[.int .i64 a, .agg #[.int .i64 c, .int .i64 d]] W fun e W' => e = .returned (.bool true) ∧ Below W.heap.size W W' := ybl a c d W


namespace lawYardBelows
open Go.ChangeShapes Go.WideShapes Go.ChangeAt Go.RowKit
open Go.ChangeMaps (open_string shut_string)

theorem own : ownKnob Try.prog.godebug = none := by kernel_rfl
theorem lay : laidOutB Try.prog = true := by kernel_rfl

set_option maxRecDepth 100000 in
theorem lifted (os : Os) (started : os.Started) (H : Type) (enc : TypeId × Value → H) :
    ReturnsInHanded {} Try.checked os 4 .any (Rows.yardBelowsSpec.pre6 enc Try.prog Try.f4 Rows.yardBelowsRow.domain false) (Rows.yardBelowsSpec.post enc Try.prog Try.f4 false true false false) := by
  refine returnsInHanded_of_change (C := Try.checked) own started (by kernel_rfl) Try.func4
    (ChangeSpec.witness6 (enc := enc) (C := Try.checked) false ⟨#[], #[.int .i64 0, .agg #[.int .i64 0, .int .i64 0]], []⟩ 8 (by kernel_rfl) (by kernel_rfl) (by kernel_rfl) (by kernel_rfl)) ?_
  intro W base args ds gs before hval0 hW hcnd _
  have hval : ∀ (j : Nat) t v, Try.f4.params[j]? = some t → args[j]? = some v → Value.okWide Try.prog W .any base t v := hval0
  have hW' := hW
  obtain ⟨p, q, hA0, hV, rfl, hfz, hnd⟩ := hW
  have hA : DataW.TrodAll enc Try.prog W 0 (fun _ => true) true Try.f4.params.toList args.toList ds p := hA0
  rw [Try.params4] at hA hval
  obtain ⟨v0, vs0, d0, ds0, p0, q0, hargs, rfl, rfl, h0, r0⟩ := trodAll_cons hA
  obtain ⟨v1, vs1, d1, ds1, p1, q1, rfl, rfl, rfl, h1, r1⟩ := trodAll_cons r0
  obtain ⟨rfl, rfl, rfl⟩ := trodAll_nil r1
  obtain rfl : args = #[v0, v1] := by cases args; simp_all
  obtain ⟨rfl, rfl⟩ := trodVars_none hV
  obtain ⟨a0, rfl, rfl, rfl, w0⟩ := open_int Try.underlying3 (hval 0 3 v0 rfl rfl) h0
  obtain ⟨c1, k1, y1, z1, m1, rfl, rfl, rfl, g1, l1⟩ := Joins.open_agg2 Try.underlying26 (by kernel_rfl) (by kernel_rfl) (hval 1 26 v1 rfl rfl) h1
  obtain ⟨a1, e1, rfl, w1⟩ := DataW.trod_int Try.underlying3 g1
  obtain ⟨b1, f1, rfl, x1⟩ := DataW.trod_int Try.underlying3 l1
  simp at e1 f1
  subst e1 f1
  simp only [List.append_nil] at hW'
  clear hA0 hval0
  refine (walk_YardBelows a0 w0 a1 b1 w1 x1 W).mono fun e W' ⟨he, bel⟩ => ?_
  subst he
  exact ⟨_, rfl, _, _, _, [], _, [], hW', trodAll_mk1 (shut_bool Try.underlying4 _), (trodAll_cons_mk (shut_int Try.underlying3 w0) (trodAll_cons_mk (Joins.shut_agg2 (y0 := (.lit (.int .i64 a1), [])) (y1 := (.lit (.int .i64 b1), [])) Try.underlying26 (by kernel_rfl) (by kernel_rfl) (shut_int Try.underlying3 w1) (shut_int Try.underlying3 x1)) trodAll_mk0)), rfl, bel.frame _, fun h => by cases h⟩

theorem over : Rows.yardBelowsRow.holds Try.pinned (OpenSpec.ofChange Rows.yardBelowsSpec) :=
  OpenClaim.holds_of_wide 4 Try.f4 rfl rfl rfl rfl rfl rfl rfl ⟨rfl, rfl, rfl, rfl, rfl⟩ rfl rfl rfl rfl rfl (by kernel_rfl) Try.func4 (by kernel_rfl)
    (of_decide_eq_true (by kernel_rfl)) (by unfold Func.isWrapper; first | (rw [if_pos (by decide +kernel)]; kernel_rfl) | (rw [if_neg (by decide +kernel)]; exact ⟨rfl, rfl⟩))
    (fun os started H enc _ => lifted os started H enc)

theorem proved : Rows.YardBelowsSaid := over
end lawYardBelows
end Go.Proofs.Ytelipknnfagnjaa
