/- ShuffleAfters: After returns the function that arises from two functions, and Same the first place at which those of two polynomials differ, or ErrArg. Conditions: none. -/
import Derived.Test.YthmdlkaanjjbkaaWaf
import Derived.ShutString
import Derived.Lib.SmallJoins
namespace Go.Proofs.Ythmdlkaanjjbkaa
set_option linter.unusedVariables false

namespace lawShuffleAfters
open Go.ChangeShapes Go.WideShapes Go.ChangeAt Go.RowKit
open Go.ChangeMaps (open_string shut_string)

theorem own : ownKnob Try.prog.godebug = none := by kernel_rfl
theorem lay : laidOutB Try.prog = true := by kernel_rfl

set_option maxRecDepth 100000 in
theorem lifted (os : Os) (started : os.Started) (H : Type) (enc : TypeId × Value → H) :
    ReturnsInHanded {} Try.checked os 6 .any (Rows.shuffleAftersSpec.pre6 enc Try.prog Try.f6 Rows.shuffleAftersRow.domain false) (Rows.shuffleAftersSpec.post enc Try.prog Try.f6 false true false false) := by
  refine returnsInHanded_of_change (C := Try.checked) own started (by kernel_rfl) Try.func6
    (ChangeSpec.witness6 (enc := enc) (C := Try.checked) false ⟨#[], #[.int .i64 0, .agg #[.slice none 0 0, .slice none 0 0, .slice none 0 0, .slice none 0 0]], []⟩ 8 (by kernel_rfl) (by kernel_rfl) (by kernel_rfl) (by kernel_rfl)) ?_
  intro W base args ds gs before hval0 hW hcnd _
  have hval : ∀ (j : Nat) t v, Try.f6.params[j]? = some t → args[j]? = some v → Value.okWide Try.prog W .any base t v := hval0
  have hW' := hW
  obtain ⟨p, q, hA0, hV, rfl, hfz, hnd⟩ := hW
  have hA : DataW.TrodAll enc Try.prog W 0 (fun _ => true) true Try.f6.params.toList args.toList ds p := hA0
  rw [Try.params6] at hA hval
  obtain ⟨v0, vs0, d0, ds0, p0, q0, hargs, rfl, rfl, h0, r0⟩ := trodAll_cons hA
  obtain ⟨v1, vs1, d1, ds1, p1, q1, rfl, rfl, rfl, h1, r1⟩ := trodAll_cons r0
  obtain ⟨rfl, rfl, rfl⟩ := trodAll_nil r1
  obtain rfl : args = #[v0, v1] := by cases args; simp_all
  obtain ⟨rfl, rfl⟩ := trodVars_none hV
  obtain ⟨a0, rfl, rfl, rfl, w0⟩ := open_int Try.underlying3 (hval 0 3 v0 rfl rfl) h0
  obtain ⟨cs1, rfl, hsz1, _⟩ : ∃ cs, v1 = .agg cs ∧ cs.size = Try.prog.cellsOf 53 ∧ Row.okWide Try.prog W .any base 53 cs := by
    have := hval 1 53 v1 rfl rfl
    simpa [Value.okWide, Try.underlying53] using this
  rw [show Try.prog.cellsOf 53 = 4 by kernel_rfl] at hsz1
  obtain ⟨x1, y1, u1, s1, rfl⟩ := arrayOf4 hsz1
  have k1 := h1
  have lt1 : ∀ x ∈ p1, x.block < W.heap.size := by obtain ⟨m, hm⟩ := k1; exact DataW.trod_lt m _ _ _ hm
  obtain ⟨⟨l1, w1⟩, ⟨m1, g1⟩, ⟨n1, e1⟩, ⟨o1, f1⟩⟩ : (∃ C, RowIn W x1 C) ∧ (∃ C, RowIn W y1 C) ∧ (∃ C, RowIn W u1 C) ∧ ∃ C, RowIn W s1 C := by
    obtain ⟨fuel, hf⟩ := h1
    obtain ⟨_, _, _, _, m, hx, hy0, hy1, hy2, hy3⟩ := trod_arrayOf4 Try.underlying53 (by kernel_rfl) hf
    exact ⟨rowIn_of Try.underlying22 Try.underlying3 (by kernel_rfl) hy0, rowIn_of Try.underlying22 Try.underlying3 (by kernel_rfl) hy1, rowIn_of Try.underlying22 Try.underlying3 (by kernel_rfl) hy2, rowIn_of Try.underlying22 Try.underlying3 (by kernel_rfl) hy3⟩
  clear hA0 hval0
  refine (walk_ShuffleAfters a0 w0 _ _ _ _ l1 m1 n1 o1 W w1 g1 e1 f1).mono fun e W' ⟨he, bel⟩ => ?_
  subst he
  exact ⟨_, rfl, _, _, _, [], _, [], hW', trodAll_mk1 (shut_bool Try.underlying4 _), (trodAll_cons_mk (shut_int Try.underlying3 w0) (trodAll_cons_mk (Below.trod lay (by kernel_rfl) (of_decide_eq_true (by kernel_rfl)) k1 bel lt1) trodAll_mk0)), rfl, bel.frame _, fun h => by cases h⟩

theorem over : Rows.shuffleAftersRow.holds Try.pinned (OpenSpec.ofChange Rows.shuffleAftersSpec) :=
  OpenClaim.holds_of_wide 6 Try.f6 rfl rfl rfl rfl rfl rfl rfl ⟨rfl, rfl, rfl, rfl, rfl⟩ rfl rfl rfl rfl rfl (by kernel_rfl) Try.func6 (by kernel_rfl)
    (of_decide_eq_true (by kernel_rfl)) (by unfold Func.isWrapper; first | (rw [if_pos (by decide +kernel)]; kernel_rfl) | (rw [if_neg (by decide +kernel)]; exact ⟨rfl, rfl⟩))
    (fun os started H enc _ => lifted os started H enc)

theorem proved : Rows.ShuffleAftersSaid := over
end lawShuffleAfters
end Go.Proofs.Ythmdlkaanjjbkaa
