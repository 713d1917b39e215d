/- Quotients of the program and of the reference. -/
import Derived.Test.YtfelmjanffhahaaDoorWrp
import Derived.Test.YtfelmjanffhahaaDoorPth
import Derived.Deep.AppendLies
namespace Go.Proofs.YtfelmjanffhahaaDoor
set_option linter.unusedVariables false
open Go.RowKit Go.Shelf Go.Maps

def natI (l : List Nat) : List Int := l.map fun n : Nat => (n : Int)
theorem natI_length (l : List Nat) : (natI l).length = l.length := List.length_map _
def quoI (a b : Nat) : List Int := natI (quo a b)
theorem quoI_zero (a : Nat) : quoI a 0 = [] := by unfold quoI; rw [quo_zero]; rfl
theorem quoI_pos {a b : Nat} (h : 1 ≤ b) : quoI a b = ((a / b : Nat) : Int) :: quoI b (a % b) := by unfold quoI; rw [quo_pos h]; rfl
theorem intL_snoc (xs : List Int) (x : Int) : intL (xs ++ [x]) = intL xs ++ [.int .i64 x] := by simp [intL]

set_option maxRecDepth 100000 in
set_option maxHeartbeats 4000000 in
theorem Quotients_yes (p q : Nat) (hv : validB p q = true) (w : World) :
    Calls Tryd.prog 11 #[frV (p, q)] w fun e w' => ∃ v, e = .returned (.tuple #[v, .int .i64 0]) ∧ w'.ownsRow w.heap.size 3 1 v (quo q p).length (intL (quoI q p)) ∧ Below w.heap.size w w' := by
  obtain ⟨p', q', e1, e2, h1, h2, hp, _⟩ := valid_nat hv
  obtain rfl : p = p' := by omega
  obtain rfl : q = q' := by omega
  clear e1 e2
  have hV := fun w => isValid_any p q w
  rw [hv] at hV
  have HV := Lib.hid hV
  obtain ⟨i0, hi, hz0, hz1, hz2⟩ := info_parts info_int
  have hql := quo_len40 hp h2
  clear hV hv
  unfold frV
  simp only
  go_enter Tryd.func11, Tryd.ntmps11
  go_wp2_with fail
  refine (HV.out _).mono ?_
  rintro e w1 ⟨rfl, b1⟩
  obtain ⟨c0, c1⟩ := arg_below b1
  have hB1 := b_next (below_alloc w _) b1
  have HB1 := Lib.hid hB1
  clear hB1 b1
  go_wp2_with fail
  go_region
  go_wp2_with fail
  go_loopw [4, 5, 6] (fun v x y wr => ∃ (pre : List Int) (a b : Nat), x = .int .i64 a ∧ y = .int .i64 b ∧ a ≤ 1000000 ∧ b ≤ 1000000 ∧ Hid (quoI q p = pre ++ quoI a b) ∧ wr.ownsRow w.heap.size 3 1 v pre.length (intL pre) ∧ Below w.heap.size w wr) (fun _ _ y _ => (intOf y).toNat)
  case atStart => exact ⟨[], q, p, rfl, rfl, by omega, by omega, rfl, World.ownsRow_nil _ _ _ _, HB1.out.drew⟩
  case round =>
    clear c0 c1
    obtain ⟨pre, a, b, rfl, rfl, ha, hb, HE, hown, hB⟩ := hrel
    have hpre : pre.length ≤ 40 := by
      have := congrArg List.length HE.out
      rw [List.length_append] at this
      unfold quoI at this; rw [natI_length] at this; omega
    by_cases hz : b = 0
    · subst hz
      have hE : quoI q p = pre := by rw [HE.out, quoI_zero, List.append_nil]
      have HE2 := Lib.hid hE
      have Hown := Lib.hid hown
      have HB := Lib.hid hB
      clear hE hown hB
      have hln : (quo q p).length = pre.length := by rw [← natI_length, show natI (quo q p) = pre from HE2.out]
      have HLn := Lib.hid hln
      clear hln
      go_wp2
      go_ret2
      exact ⟨_, rfl, by rw [HLn.out, HE2.out]; exact Hown.out, HB.out⟩
    · have hb1 : 1 ≤ b := by omega
      have hc : ((b : Int) != 0) = true := by simp; omega
      have hbz : ((b : Int) == 0) = false := by simp; omega
      have hn0 : ¬ (b : Int) = 0 := by omega
      obtain ⟨t, ht⟩ : ∃ t, a / b = t := ⟨_, rfl⟩
      obtain ⟨r, hr⟩ : ∃ r, a % b = r := ⟨_, rfl⟩
      have ht1 : t ≤ 1000000 := by rw [← ht]; exact Nat.le_trans (Nat.div_le_self _ _) ha
      have hr1 : r < b := by rw [← hr]; exact Nat.mod_lt _ hb1
      have k1 : Int.tdiv (a : Int) b = t := tdivN ht
      have k2 : Int.tmod (a : Int) b = r := tmodN hr
      have HE2 : Hid (quoI q p = (pre ++ [(t : Int)]) ++ quoI b r) := by unfold Hid; rw [HE.out, quoI_pos hb1, ht, hr, List.append_assoc]; rfl
      clear ht hr
      go_wp2_with (at_builtin; refine wpList_append_own _ rfl _ _ 32 rfl w.heap.size 3 i0 (.int .i64 0) 1 8 Tryd.underlying32 hi hz0 hz1 hz2 rfl (by decide) _ _ _ rfl (hown.alloc _) ⟨wr.heap.size, 0, none⟩ 1 1 [_] rfl rfl (cell_one_new _ _ _) (by simp [Value.oneCell']) ?c3 ?c4 ?c5 ?_)
      case c3 => unfold maxLen; omega
      case c4 => omega
      case c5 => have := hB.size; simp; omega
      intro v' w2 hown' hgrow _
      have hb2 := rel_push hB (by have := hB.size; simp; omega) ((Below.refl _ wr).alloc hB.size _) hown hgrow
      have hown2 : w2.ownsRow w.heap.size 3 1 v' (pre ++ [(t : Int)]).length (intL (pre ++ [(t : Int)])) := by rw [intL_snoc, List.length_append]; exact hown'
      have Hown := Lib.hid hown2
      have HB := Lib.hid hb2
      clear hown' hgrow hown hB hown2 hb2
      go_wp2
      go_region
      go_wp2
      go_roundw
      case rel => exact ⟨pre ++ [(t : Int)], b, r, rfl, rfl, hb, by omega, HE2.out, Hown.out, HB.out.drew⟩
      case measure => simp [intOf]; exact hr1
end Go.Proofs.YtfelmjanffhahaaDoor
