/- The values of forms, their tables. -/
import Derived.Test.YthmdlkaanjjbkaaVal
namespace Go.Proofs.Ythmdlkaanjjbkaa
set_option linter.unusedVariables false
open Go.RowKit

/-- x - i -/
theorem sub_any (i x B : Nat) (w : World) (hi : i ≤ 1000) (hx : x ≤ 1000) (hB : w.cell? ⟨B, 0, none⟩ = some (.int .i64 x)) : Calls Try.prog 98 #[.int .i64 i, .pointer (some ⟨B, 0, none⟩)] w fun e w' => e = .returned (.int .i64 ((x : Int) - i)) ∧ w' = w := by
  have h1 : IntKind.i64.wrap ((x : Int) - i) = (x : Int) - i := IntWalk.i64_in _ (by omega)
  have h2 : wrap64 ((x : Int) - i) = (x : Int) - i := IntWalk.wrap64_in _ (by omega)
  go_enter Try.func98, Try.ntmps98
  go_wp2
  go_ret
  exact ⟨rfl, rfl⟩
set_option maxRecDepth 100000 in
set_option maxHeartbeats 4000000 in
theorem formAt_any (x m : Nat) (a : Option Addr) (n cap : Nat) (xs : List Int) (w : World) (hr : Row w a n (intL xs)) (hn : n ≤ 100) (hm : 1 ≤ m) (hm2 : m ≤ 64) (hx : x ≤ 100) (hxs : ∀ x ∈ xs, -1000 ≤ x ∧ x ≤ 1000) :
    Calls Try.prog 74 #[.int .i64 m, .slice a n cap, .int .i64 x] w fun e w' => e = .returned (.int .i64 (formV m xs x)) ∧ Below w.heap.size w w' := by
  have hmf : ∀ (fn : Fn) (first cap : Array Value) (w : World), (Instr.makeFunc fn first cap).run Try.prog w = .ok (.func fn first cap) w := fun _ _ _ _ => rfl
  have b0 := below_alloc w (.cells #[.int .i64 x] 3)
  have hN : Calls Try.prog 93 #[.int .i64 m, .slice a n cap, .func (.func 98) #[] #[.pointer (some ⟨w.heap.size, 0, none⟩)]] (w.alloc (.cells #[.int .i64 x] 3)) fun e w' => e = .returned (.int .i64 (formV m xs x)) ∧ Below (w.alloc (.cells #[.int .i64 x] 3)).heap.size (w.alloc (.cells #[.int .i64 x] 3)) w' := by
    refine nested_any m a n cap xs _ _ (fun i => (x : Int) - i) _ (hr.below b0) hn hm hm2 hxs (fun i _ => by omega) (enters_of Try.func98 (by kernel_rfl) rfl) fun i W hi hW => ?_
    have hc := (Box1.new w 3 (.int .i64 x)).below hW
    exact (sub_any i x w.heap.size W (by omega) (by omega) hc.cell).mono fun e w' ⟨he, hw⟩ => ⟨he, by rw [hw]; exact Below.refl _ _⟩
  have HN := Lib.hid hN
  have B0 := Lib.hid b0
  clear hN b0 hr
  go_enter Try.func74, Try.ntmps74
  go_wp2_with fail
  refine HN.out.mono ?_
  rintro e w1 ⟨rfl, b1⟩
  go_wp2
  go_ret
  exact ⟨rfl, b_next B0.out b1⟩
set_option maxRecDepth 100000 in
theorem fat_any (x : Nat) (m : Nat) (B1 B2 : Nat) (a : Option Addr) (n cap : Nat) (xs : List Int) (w : World) (h1 : w.cell? ⟨B1, 0, none⟩ = some (.int .i64 m)) (h2 : w.cell? ⟨B2, 0, none⟩ = some (.slice a n cap)) (hr : Row w a n (intL xs)) (hn : n ≤ 100)
    (hm : 1 ≤ m) (hm2 : m ≤ 64) (hx : x ≤ 100) (hxs : ∀ x ∈ xs, -1000 ≤ x ∧ x ≤ 1000) :
    Calls Try.prog 99 #[.int .i64 x, .pointer (some ⟨B1, 0, none⟩), .pointer (some ⟨B2, 0, none⟩)] w fun e w' => e = .returned (.int .i64 (formV m xs x)) ∧ Below w.heap.size w w' := by
  have HF := Lib.hid (formAt_any x m a n cap xs w hr hn hm hm2 hx hxs)
  clear hr
  go_enter Try.func99, Try.ntmps99
  go_wp2_with fail
  refine HF.out.mono ?_
  rintro e w1 ⟨rfl, b1⟩
  go_wp2
  go_ret
  exact ⟨rfl, b1⟩
set_option maxRecDepth 100000 in
set_option maxHeartbeats 4000000 in
theorem formTable_any (m : Nat) (a : Option Addr) (n cap : Nat) (xs : List Int) (w : World) (hr : Row w a n (intL xs)) (hn : n ≤ 100) (hm : 1 ≤ m) (hm2 : m ≤ 64) (hxs : ∀ x ∈ xs, -1000 ≤ x ∧ x ≤ 1000) :
    Calls Try.prog 75 #[.int .i64 m, .slice a n cap] w fun e w' => e = .returned (.agg (tabA (fun x => formV m xs x) m)) ∧ Below w.heap.size w w' := by
  have hmf : ∀ (fn : Fn) (first cap : Array Value) (w : World), (Instr.makeFunc fn first cap).run Try.prog w = .ok (.func fn first cap) w := fun _ _ _ _ => rfl
  have hT : ∀ W : World, Below w.heap.size w W → Box1 W w.heap.size 3 (.int .i64 m) → Box1 W (w.heap.size + 1) 22 (.slice a n cap) →
      Calls Try.prog 67 #[.int .i64 m, .func (.func 99) #[] #[.pointer (some ⟨w.heap.size, 0, none⟩), .pointer (some ⟨w.heap.size + 1, 0, none⟩)]] W fun e w' => e = .returned (.agg (tabA (fun x => formV m xs x) m)) ∧ Below W.heap.size W w' := fun W hW k1 k2 => by
    refine tabulated_any m _ _ (fun x => formV m xs x) W hm2 (enters_of Try.func99 (by kernel_rfl) rfl) fun i X hi hX => ?_
    exact fat_any i m _ _ a n cap xs X (k1.below hX).cell (k2.below hX).cell ((hr.below hW).below hX) hn hm hm2 (by omega) hxs
  have HT := Lib.hid hT
  obtain ⟨T, hTT⟩ : ∃ T, tabA (fun x => formV m xs x) m = T := ⟨_, rfl⟩
  have hTs : T.size = 64 := by rw [← hTT]; exact tabA_size _ m
  have hTo : T.all (·.oneCell') = true := by rw [← hTT]; exact tabA_one _ m
  rw [hTT] at HT ⊢
  clear hT hr hTT hxs
  go_enter Try.func75, Try.ntmps75
  go_wp2_with fail
  obtain ⟨b3, k0, k1, k2⟩ := start3 w m (.slice a n cap) _ rfl
  refine (HT.out _ b3 k0 k1).mono ?_
  rintro e w1 ⟨rfl, b4⟩
  have k3 := (b4.block _ (Array.getElem?_eq_some_iff.1 k2).1).trans k2
  have K3 := Lib.hid k3
  have B3 := Lib.hid (b_next b3 b4)
  clear k0 k1 k2 k3 b3 b4
  go_wp2_with (refine wpList_store_row (o := ⟨none, .store 69 (.tmp 4) (.tmp 7), _, _, _, _⟩) rfl 69 (.tmp 4) (.tmp 7) rfl (w.heap.size + 1 + 1) T rfl rfl 69 zeroA K3.out (info_table T hTs) (zeroA_size.trans hTs.symm) hTo ?_)
  exact bodyPost_ret (v := .agg T) (results_cell_row rfl _ _ (w.heap.size + 1 + 1) 69 T (0, 0) _ rfl (setRow_heap _ _ _ _ _ _ K3.out) Try.underlying69 rfl (info_table T hTs)) rfl ⟨rfl, below_setRow B3.out (by omega) _⟩

end Go.Proofs.Ythmdlkaanjjbkaa
