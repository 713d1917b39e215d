/- The closures of Shifts. -/
import Derived.Test.YthmdlkaanjjbkaaReq
namespace Go.Proofs.Ythmdlkaanjjbkaa
set_option linter.unusedVariables false
open Go.RowKit

theorem sh_num {x a m : Nat} (hm : 2 ≤ m) (hm2 : m ≤ 64) (hx : x < 64) (ha : a < 64) : ∃ j : Nat, (x + a) % m = j ∧ j < m ∧ ((x : Int) + (a : Int)) % (m : Int) = (j : Int) := by
  refine ⟨(x + a) % m, rfl, Nat.mod_lt _ (by omega), ?_⟩
  rw [← Int.natCast_add, ← Int.natCast_emod]
set_option maxRecDepth 100000 in
set_option maxHeartbeats 4000000 in
theorem shift1_any (x a m : Nat) (Bf Br Ba Bm : Nat) (f : Nat → Int) (w : World) (h1 : w.heap[Bf]? = some (.cells (tabA f m) 69 (0, 0))) (h2 : w.cell? ⟨Br, 0, none⟩ = some (.func (.func 97) #[] #[.pointer (some ⟨Bm, 0, none⟩)])) (h3 : w.cell? ⟨Ba, 0, none⟩ = some (.int .i64 a)) (h4 : w.cell? ⟨Bm, 0, none⟩ = some (.int .i64 m))
    (hm : 2 ≤ m) (hm2 : m ≤ 64) (hx : x < 64) (ha : a < 64) :
    Calls Try.prog 68 #[.int .i64 x, .pointer (some ⟨Bf, 0, none⟩), .pointer (some ⟨Br, 0, none⟩), .pointer (some ⟨Ba, 0, none⟩)] w fun e w' => e = .returned (.int .i64 (f ((x + a) % m))) ∧ Below w.heap.size w w' := by
  obtain ⟨j, hj, hjm, hj2⟩ := sh_num hm hm2 hx ha
  rw [hj]
  have cj := tab_cell h1 hjm hm2
  have hR := rem_any ((x : Int) + (a : Int)) m Bm w h4 (by omega) (by omega) (by omega)
  rw [hj2] at hR
  have HR := Lib.hid hR
  have hj64 : (j : Int) < 64 := by omega
  have Hc := Lib.hid cj
  generalize f j = y at Hc ⊢
  clear hj hjm hj2 hR h1 h4 cj
  go_enter Try.func68, Try.ntmps68
  go_wp2_with fail
  refine HR.out.mono ?_
  rintro e w1 ⟨rfl, q, rfl⟩
  have cj := Hc.out
  go_wp2
  go_ret
  exact ⟨rfl, below_drewN (Below.refl _ _) _⟩
set_option maxRecDepth 100000 in
set_option maxHeartbeats 4000000 in
theorem shift2_any (x a m : Nat) (Bf Br Ba Bm : Nat) (f : Nat → Int) (w : World) (h1 : w.heap[Bf]? = some (.cells (tabA f m) 69 (0, 0))) (h2 : w.cell? ⟨Br, 0, none⟩ = some (.func (.func 97) #[] #[.pointer (some ⟨Bm, 0, none⟩)])) (h3 : w.cell? ⟨Ba, 0, none⟩ = some (.int .i64 a)) (h4 : w.cell? ⟨Bm, 0, none⟩ = some (.int .i64 m))
    (hm : 2 ≤ m) (hm2 : m ≤ 64) (hx : x < m) (ha : a < 64) (hf : 0 ≤ f x ∧ f x < m) :
    Calls Try.prog 69 #[.int .i64 x, .pointer (some ⟨Br, 0, none⟩), .pointer (some ⟨Bf, 0, none⟩), .pointer (some ⟨Ba, 0, none⟩)] w fun e w' => e = .returned (.int .i64 ((f x + (a : Int)) % (m : Int))) ∧ Below w.heap.size w w' := by
  have cx := tab_cell h1 hx hm2
  obtain ⟨y, hy⟩ : ∃ y, f x = y := ⟨_, rfl⟩
  rw [hy] at hf cx ⊢
  have hR : ∀ n, Calls Try.prog 97 #[.int .i64 (y + (a : Int)), .pointer (some ⟨Bm, 0, none⟩)] (w.drewN n) fun e w' => e = .returned (.int .i64 ((y + (a : Int)) % (m : Int))) ∧ ∃ q, w' = (w.drewN n).drewN q := fun n => rem_any (y + (a : Int)) m Bm (w.drewN n) h4 (by omega) (by omega) (by omega)
  have HR := Lib.hid hR
  have hw : IntKind.i64.wrap (y + (a : Int)) = y + (a : Int) := IntWalk.i64_in _ (by omega)
  have hx64 : (x : Int) < 64 := by omega
  clear hR h1 h4 hy hf
  go_enter Try.func69, Try.ntmps69
  go_wp2
  go_quiet ((go_at_call 97; with_reducible exact Calls.quiet_of (HR.out _)))
  go_wp2
  go_ret
  exact ⟨rfl, below_drewN (Below.refl _ _) _⟩
end Go.Proofs.Ythmdlkaanjjbkaa
