/- Contracts of trim.Ends, trim.Centers and of the statements' own awake. -/
import Derived.Test.YteejjcipdpojnaaOuter
import Derived.Test.YteejjcipdpojnaaPals
namespace Go.Proofs.Yteejjcipdpojnaa
set_option linter.unusedVariables false
open Go.RowKit

def endsR (s : ByteArray) : List Nat × Int := if wordB s.data.toList then (ends s.data.toList, 0) else ([], 2)
def centersR (s : ByteArray) : List Nat × Int := if wordB s.data.toList then (centers s.data.toList, 0) else ([], 2)

theorem own_len {w : World} {base n : Nat} {e : TypeId} {v : Value} {l : List Nat} (h : w.ownsRow base e 1 v n (nats l)) : n = l.length := by have := h.1; rw [nats_length] at this; omega

set_option maxHeartbeats 1000000 in
theorem Ends_any (s : ByteArray) (w : World) (hs : s.size ≤ 1000) :
    Calls Try.prog 29 #[.string s] w fun e w' => ∃ v, e = .returned (.tuple #[v, .int .i64 (endsR s).2]) ∧ w'.ownsRow w.heap.size 3 1 v (endsR s).1.length (nats (endsR s).1) ∧ Below w.heap.size w w' := by
  cases hw : wordB s.data.toList with
  | false =>
    have hr : endsR s = ([], 2) := by unfold endsR; rw [hw]; rfl
    have Hr := Lib.hid hr
    have Hw := Lib.hid hw
    clear hr hw
    go_enter Try.func29, Try.ntmps29
    go_wp2_with (go_at_call 54; refine (isWord_any _ _ (by unfold maxLen; omega)).mono ?_; rintro e w' ⟨rfl, rfl⟩; rw [Hw.out])
    go_ret2
    exact ⟨_, by rw [Hr.out]; rfl, by rw [Hr.out]; exact World.ownsRow_nil _ _ _ _, Below.refl _ _⟩
  | true =>
    have hr : endsR s = (ends s.data.toList, 0) := by unfold endsR; rw [hw]; rfl
    have Hr := Lib.hid hr
    have Hw := Lib.hid hw
    clear hw hr
    go_enter Try.func29, Try.ntmps29
    go_wp2_with (first
      | (go_at_call 54; refine (isWord_any _ _ (by unfold maxLen; omega)).mono ?_; rintro e w' ⟨rfl, rfl⟩; rw [Hw.out])
      | (go_at_call 55; refine (endLengths_any _ _ hs).mono ?_; rintro e w1 ⟨v, rfl, hown, hB1⟩))
    go_ret2
    have hl := own_len hown
    exact ⟨v, by rw [Hr.out]; rfl, by rw [Hr.out]; rw [hl] at hown; exact hown, hB1⟩
set_option maxHeartbeats 1000000 in
theorem Centers_any (s : ByteArray) (w : World) (hs : s.size ≤ 1000) :
    Calls Try.prog 18 #[.string s] w fun e w' => ∃ v, e = .returned (.tuple #[v, .int .i64 (centersR s).2]) ∧ w'.ownsRow w.heap.size 3 1 v (centersR s).1.length (nats (centersR s).1) ∧ Below w.heap.size w w' := by
  cases hw : wordB s.data.toList with
  | false =>
    have hr : centersR s = ([], 2) := by unfold centersR; rw [hw]; rfl
    have Hr := Lib.hid hr
    have Hw := Lib.hid hw
    clear hr hw
    go_enter Try.func18, Try.ntmps18
    go_wp2_with (go_at_call 54; refine (isWord_any _ _ (by unfold maxLen; omega)).mono ?_; rintro e w' ⟨rfl, rfl⟩; rw [Hw.out])
    go_ret2
    exact ⟨_, by rw [Hr.out]; rfl, by rw [Hr.out]; exact World.ownsRow_nil _ _ _ _, Below.refl _ _⟩
  | true =>
    have hr : centersR s = (centers s.data.toList, 0) := by unfold centersR; rw [hw]; rfl
    have Hr := Lib.hid hr
    have Hw := Lib.hid hw
    clear hw hr
    go_enter Try.func18, Try.ntmps18
    go_wp2_with (first
      | (go_at_call 54; refine (isWord_any _ _ (by unfold maxLen; omega)).mono ?_; rintro e w' ⟨rfl, rfl⟩; rw [Hw.out])
      | (go_at_call 59; refine (centerLengths_any _ _ hs).mono ?_; rintro e w1 ⟨v, rfl, hown, hB1⟩))
    go_ret2
    have hl := own_len hown
    exact ⟨v, by rw [Hr.out]; rfl, by rw [Hr.out]; rw [hl] at hown; exact hown, hB1⟩

theorem nats_intL (l : List Nat) : nats l = intL (l.map fun n : Nat => (n : Int)) := by simp [nats, intL]

theorem pals_abba : palsR ⟨#[97, 98, 98, 97]⟩ = ([[97], [98], [98, 98], [97, 98, 98, 97]], 0) := by decide +kernel
theorem centers_abba : centersR ⟨#[97, 98, 98, 97]⟩ = ([1, 0, 1, 4, 1, 0, 1], 0) := by decide +kernel
theorem rich_abca : richR ⟨#[97, 98, 99, 97]⟩ = (3, 0) := by decide +kernel
theorem tower_abc : towerR ⟨#[97, 98, 99]⟩ = (⟨#[97, 98, 97, 99, 97, 98, 97]⟩, 0) := by decide +kernel
theorem base_abacaba : baseR ⟨#[97, 98, 97, 99, 97, 98, 97]⟩ = (⟨#[97, 98, 99]⟩, 0) := by decide +kernel
theorem inner_abcb : innerR ⟨#[97, 98, 99, 98]⟩ = (⟨#[98, 99, 98]⟩, 0) := by decide +kernel

theorem below_alloc (w : World) (o : Obj) : Below w.heap.size w (w.alloc o) := (Below.refl _ _).alloc (Nat.le_refl _) _

set_option maxRecDepth 100000 in
set_option maxHeartbeats 4000000 in
theorem awake_any (w : World) : Calls Try.prog 22 #[] w fun e w' => e = .returned (.bool true) ∧ Below w.heap.size w w' := by
  have p1 := Palindromes_any ⟨#[97, 98, 98, 97]⟩ w (by decide)
  rw [pals_abba] at p1
  have p2 := fun w => Centers_any ⟨#[97, 98, 98, 97]⟩ w (by decide)
  simp only [centers_abba] at p2
  have p3 := fun w => Rich_any ⟨#[97, 98, 99, 97]⟩ w (by decide)
  simp only [rich_abca] at p3
  have p4 := fun w => Tower_any ⟨#[97, 98, 99]⟩ w (by decide)
  simp only [tower_abc] at p4
  have p5 := fun w => Base_any ⟨#[97, 98, 97, 99, 97, 98, 97]⟩ w (by decide)
  simp only [base_abacaba] at p5
  have p6 := fun w => Inner_any ⟨#[97, 98, 99, 98]⟩ w (by decide)
  simp only [inner_abcb] at p6
  have P1 := Lib.hid p1
  have P2 := Lib.hid p2
  have P3 := Lib.hid p3
  have P4 := Lib.hid p4
  have P5 := Lib.hid p5
  have P6 := Lib.hid p6
  clear p1 p2 p3 p4 p5 p6
  go_enter Try.func22, Try.ntmps22
  go_wp2_with (first
    | (go_at_call 17; refine P1.out.mono ?_; rintro e w1 ⟨v1, rfl, o1, b1⟩; obtain ⟨a1, c1, rfl, r1⟩ := Row.of_own o1)
    | (go_at_call 18; refine (P2.out _).mono ?_; rintro e w2 ⟨v2, rfl, o2, b2⟩; obtain ⟨a2, c2, rfl, r2⟩ := Row.of_own o2)
    | (go_at_call 30; refine (P3.out _).mono ?_; rintro e w3 ⟨rfl, b3⟩)
    | (go_at_call 41; refine (P4.out _).mono ?_; rintro e w4 ⟨rfl, b4⟩)
    | (go_at_call 42; refine (P5.out _).mono ?_; rintro e w5 ⟨rfl, b5⟩)
    | (go_at_call 46; refine (P6.out _).mono ?_; rintro e w6 ⟨rfl, b6⟩))
  have r1' := ((((r1.below b2).below b3).below b4).below b5).below b6
  have r2' := (((r2.below b3).below b4).below b5).below b6
  have hB6 : Below w.heap.size w w6 := ((((b1.trans (b2.mono b1.size)).trans (b3.mono (Nat.le_trans b1.size b2.size))).trans (b4.mono (Nat.le_trans b1.size (Nat.le_trans b2.size b3.size)))).trans (b5.mono (Nat.le_trans b1.size (Nat.le_trans b2.size (Nat.le_trans b3.size b4.size))))).trans (b6.mono (Nat.le_trans b1.size (Nat.le_trans b2.size (Nat.le_trans b3.size (Nat.le_trans b4.size b5.size)))))
  have q1 := texts_any a1 (some ⟨w6.heap.size, 0, none⟩) 4 4 c1 4 [[97], [98], [98, 98], [97, 98, 98, 97]] [[97], [98], [98, 98], [97, 98, 98, 97]] _ (r1'.below (below_alloc _ (.cells (strs [[97], [98], [98, 98], [97, 98, 98, 97]]).toArray 9))) (Row.built 9 (strs [[97], [98], [98, 98], [97, 98, 98, 97]])) (by omega) (by omega)
  rw [decide_eq_true rfl] at q1
  refine q1.mono ?_
  rintro e w7 ⟨rfl, n7, rfl⟩
  have r2'' := (r2'.below (below_alloc _ (.cells (strs [[97], [98], [98, 98], [97, 98, 98, 97]]).toArray 9))).drewN n7
  clear q1 r1' r2' r1 r2 o1 o2
  have R2 := Lib.hid r2''
  have HB6 := Lib.hid hB6
  clear r2'' hB6 b1 b2 b3 b4 b5 b6
  go_wp2_with fail
  have hz7 : ((w6.alloc (.cells (strs [[97], [98], [98, 98], [97, 98, 98, 97]]).toArray 9)).drewN n7).heap.size = w6.heap.size + 1 := by simp
  have q2 := ints_any a2 (some ⟨((w6.alloc (.cells (strs [[97], [98], [98, 98], [97, 98, 98, 97]]).toArray 9)).drewN n7).heap.size, 0, none⟩) 7 7 c2 7 [1, 0, 1, 4, 1, 0, 1] [1, 0, 1, 4, 1, 0, 1] _ (R2.out.below (below_alloc _ (.cells (intL [1, 0, 1, 4, 1, 0, 1]).toArray 3))) (Row.built 3 (intL [1, 0, 1, 4, 1, 0, 1])) (by omega) (by omega)
  rw [decide_eq_true rfl, hz7] at q2
  refine q2.mono ?_
  rintro e w8 ⟨rfl, n8, rfl⟩
  clear q2 hz7
  go_wp2_with fail
  go_ret
  exact ⟨rfl, below_drewN ((below_drewN (HB6.out.alloc HB6.out.size _) n7).alloc (by have := HB6.out.size; simp; omega) _) n8⟩
end Go.Proofs.Yteejjcipdpojnaa
