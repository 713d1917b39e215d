/- After. -/
import Derived.Test.YthmdlkaanjjbkaaAwk
namespace Go.Proofs.Ythmdlkaanjjbkaa
set_option linter.unusedVariables false
open Go.RowKit

theorem funcB_in {m : Nat} {xs : List Int} (hl : xs.length = m) (hm : 2 ≤ m) (hm2 : m ≤ 64) (h : ∀ x ∈ xs, 0 ≤ x ∧ x < m) : funcB m xs = true := by
  unfold funcB remB
  rw [Bool.and_eq_true, Bool.and_eq_true, List.all_eq_true]
  exact ⟨⟨decide_eq_true (by omega), decide_eq_true (by omega)⟩, fun x hx => decide_eq_true (h x hx)⟩
theorem aft_any (x j m : Nat) (B1 B2 gb fb gc fc : Nat) (y : Int) (w : World) (h1 : w.cell? ⟨B1, 0, none⟩ = some (.slice (some ⟨gb, 0, none⟩) m gc)) (h2 : w.cell? ⟨B2, 0, none⟩ = some (.slice (some ⟨fb, 0, none⟩) m fc)) (hf : w.cell? ⟨fb, x, none⟩ = some (.int .i64 j)) (hg : w.cell? ⟨gb, j, none⟩ = some (.int .i64 y)) (hx : x < m) (hj : j < m) :
    Calls Try.prog 87 #[.int .i64 x, .pointer (some ⟨B1, 0, none⟩), .pointer (some ⟨B2, 0, none⟩)] w fun e w' => e = .returned (.int .i64 y) ∧ Below w.heap.size w w' := by
  have hxi : (x : Int) < (m : Int) := by omega
  have hji : (j : Int) < (m : Int) := by omega
  go_enter Try.func87, Try.ntmps87
  go_wp2
  go_quiet (fail)
  go_wp2
  go_ret
  exact ⟨rfl, below_drewN (Below.refl _ _) _⟩
theorem start_pair (w : World) (u v : Value) :
    Below w.heap.size w ((w.alloc (.cells #[u] 22)).alloc (.cells #[v] 22)) ∧
      Box1 ((w.alloc (.cells #[u] 22)).alloc (.cells #[v] 22)) w.heap.size 22 u ∧
      Box1 ((w.alloc (.cells #[u] 22)).alloc (.cells #[v] 22)) (w.heap.size + 1) 22 v := by
  have c0 := Box1.new w 22 u
  have b0 := below_alloc w (.cells #[u] 22)
  have s0 : (w.alloc (.cells #[u] 22)).heap.size = w.heap.size + 1 := by simp
  generalize w.alloc (.cells #[u] 22) = w1 at c0 b0 s0 ⊢
  have c1 := Box1.new w1 22 v
  have b1 := below_alloc w1 (.cells #[v] 22)
  rw [s0] at c1
  exact ⟨b_next b0 b1, c0.below b1, c1⟩
set_option maxRecDepth 100000 in
set_option maxHeartbeats 4000000 in
theorem After_yes (m : Nat) (fa ga : Option Addr) (fc gc : Nat) (fs gs : List Int) (w : World) (hf : Row w fa m (intL fs)) (hg : Row w ga m (intL gs)) (hm : 2 ≤ m) (hm2 : m ≤ 64) (hfi : ∀ x ∈ fs, 0 ≤ x ∧ x < m) (hgi : ∀ x ∈ gs, 0 ≤ x ∧ x < m) :
    Calls Try.prog 49 #[.int .i64 m, .slice fa m fc, .slice ga m gc] w fun e w' => ∃ v, e = .returned (.tuple #[v, .int .i64 0]) ∧ w'.ownsRow w.heap.size 3 1 v m (intL ((List.range m).map fun x : Nat => gs.getD (fs.getD x 0).toNat 0)) ∧ Below w.heap.size w w' := by
  have hxf : fs.length = m := by have := hf.1; simpa [intL] using this
  have hxg : gs.length = m := by have := hg.1; simpa [intL] using this
  have hmf : ∀ (fn : Fn) (first cap : Array Value) (w : World), (Instr.makeFunc fn first cap).run Try.prog w = .ok (.func fn first cap) w := fun _ _ _ _ => rfl
  obtain ⟨b3, k1, k2⟩ := start_pair w (.slice fa m fc) (.slice ga m gc)
  have hI1 := fun W hW => isFunc_any m fa m fc fs W hW (by omega)
  have hI2 := fun W hW => isFunc_any m ga m gc gs W hW (by omega)
  rw [funcB_in hxf hm hm2 hfi] at hI1
  rw [funcB_in hxg hm hm2 hgi] at hI2
  have hT : ∀ W : World, Below w.heap.size w W → Box1 W w.heap.size 22 (.slice fa m fc) → Box1 W (w.heap.size + 1) 22 (.slice ga m gc) →
      Calls Try.prog 67 #[.int .i64 m, .func (.func 87) #[] #[.pointer (some ⟨w.heap.size + 1, 0, none⟩), .pointer (some ⟨w.heap.size, 0, none⟩)]] W fun e w' => e = .returned (.agg (tabA (fun x : Nat => gs.getD (fs.getD x 0).toNat 0) m)) ∧ Below W.heap.size W w' := fun W hW j1 j2 => by
    refine tabulated_any m _ _ (fun x : Nat => gs.getD (fs.getD x 0).toNat 0) W hm2 (enters_of Try.func87 (by kernel_rfl) rfl) fun i X hi hX => ?_
    have rf := (hf.below hW).below hX
    have rg := (hg.below hW).below hX
    obtain ⟨fb, rfl, cf⟩ := rf.int hi
    have hin := hfi (fs.getD i 0) (by rw [List.getD_eq_getElem?_getD, List.getElem?_eq_getElem (by omega)]; exact List.getElem_mem _)
    obtain ⟨j, hj⟩ : ∃ j : Nat, fs.getD i 0 = (j : Int) := ⟨(fs.getD i 0).toNat, by omega⟩
    rw [hj] at cf hin
    obtain ⟨gb, rfl, cg⟩ := rg.int (show j < m by omega)
    refine (aft_any i j m (w.heap.size + 1) w.heap.size gb fb gc fc _ X (j2.below hX).cell (j1.below hX).cell cf cg hi (by omega)).mono ?_
    rintro e w' ⟨rfl, b⟩
    exact ⟨by rw [hj]; rfl, b⟩
  have hl := fun W => list_any m (fun x : Nat => gs.getD (fs.getD x 0).toNat 0) W hm2
  have HT := Lib.hid hT
  have HL := Lib.hid hl
  have HI1 := Lib.hid hI1
  have HI2 := Lib.hid hI2
  have B3 := Lib.hid b3
  have K1 := Lib.hid k1
  have K2 := Lib.hid k2
  have RF := Lib.hid (hf.below b3)
  have RG := Lib.hid (hg.below b3)
  clear hT hl hI1 hI2 b3 k1 k2 hf hg hfi hgi hxf hxg
  go_enter Try.func49, Try.ntmps49
  go_wp2_with fail
  generalize hW : (w.alloc (.cells #[.slice fa m fc] 22)).alloc (.cells #[.slice ga m gc] 22) = W at B3 K1 K2 RF RG ⊢
  have c1 := K1.out.cell
  have c2 := K2.out.cell
  refine (HI1.out _ RF.out).mono ?_
  rintro e w1 ⟨rfl, hw1⟩
  subst w1
  go_wp2_with fail
  refine (HI2.out _ RG.out).mono ?_
  rintro e w1 ⟨rfl, hw1⟩
  subst w1
  go_wp2_with fail
  refine (HT.out _ B3.out K1.out K2.out).mono ?_
  rintro e w2 ⟨rfl, b2⟩
  have B2 := Lib.hid (b_next B3.out b2)
  clear b2
  go_wp2_with fail
  refine (HL.out _).mono ?_
  rintro e w3 ⟨v, rfl, ho, b3⟩
  have hO := own_base2 ho B2.out.size
  have HO := Lib.hid hO
  have B4 := Lib.hid (b_next B2.out b3)
  obtain ⟨a', cap', hv, _⟩ := ownsRow_open HO.out
  subst hv
  clear ho hO b3
  go_wp2
  go_ret2
  exact ⟨.slice a' m cap', rfl, HO.out, B4.out⟩
end Go.Proofs.Ythmdlkaanjjbkaa
