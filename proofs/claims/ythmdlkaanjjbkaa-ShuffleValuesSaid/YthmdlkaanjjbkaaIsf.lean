/- isForm. -/
import Derived.Test.YthmdlkaanjjbkaaRroom
namespace Go.Proofs.Ythmdlkaanjjbkaa
set_option linter.unusedVariables false
open Go.RowKit

def okN (m j : Nat) (x : Int) : Bool := decide (0 ≤ x ∧ x < roomN m j)
def roomsB (m : Nat) (xs : List Int) (k : Nat) : Bool := (List.range k).all fun j => okN m j (xs.getD j 0)
def formB (m : Nat) (xs : List Int) : Bool := decide (xs.length ≤ degN m) && roomsB m xs xs.length && decide (xs.length = (trimZ xs).length)
theorem roomsB_step (m : Nat) (xs : List Int) (k : Nat) : roomsB m xs (k + 1) = (roomsB m xs k && okN m k (xs.getD k 0)) := by
  unfold roomsB
  rw [List.range_succ, List.all_append]; simp
theorem roomsB_no {m : Nat} {xs : List Int} {k n : Nat} (hk : k < n) (h : okN m k (xs.getD k 0) = false) : roomsB m xs n = false := by
  unfold roomsB
  rw [List.all_eq_false]
  exact ⟨k, List.mem_range.2 hk, by rw [h]; simp⟩
theorem without_zero (a : Option Addr) (cap : Nat) (w : World) :
    Calls Try.prog 77 #[.slice a 0 cap] w fun e w' => e = .returned (.slice a 0 cap) ∧ w' = w := by
  go_enter Try.func77, Try.ntmps77
  go_wp2
  go_loopw [0] (fun v wr => v = .slice a 0 cap ∧ wr = w) (fun v _ => 0)
  case atStart => exact ⟨rfl, rfl⟩
  case round =>
    obtain ⟨rfl, rfl⟩ := hrel
    go_wp2
    go_ret
    exact ⟨rfl, rfl⟩
theorem without_row (a : Option Addr) (n cap : Nat) (xs : List Int) (w : World) (hr : Row w a n (intL xs)) (hn : n ≤ 1000) (hcap : n ≤ cap) :
    Calls Try.prog 77 #[.slice a n cap] w fun e w' => ∃ k, e = .returned (.slice a k cap) ∧ (trimZ xs).length = k ∧ w' = w := by
  have hx : xs.length = n := by have := hr.1; simpa [intL] using this
  by_cases h0 : n = 0
  · subst h0
    obtain rfl : xs = [] := List.eq_nil_of_length_eq_zero hx
    refine (without_zero a cap w).mono ?_
    rintro e w' ⟨rfl, rfl⟩
    exact ⟨0, rfl, rfl, rfl⟩
  · obtain ⟨g, rfl, _⟩ := hr.2 (by omega)
    refine (without_any g n cap xs w hr hn hcap).mono ?_
    rintro e w' ⟨k, rfl, hk, ht, rfl⟩
    exact ⟨k, rfl, by rw [ht, List.length_take]; omega, rfl⟩
set_option maxRecDepth 100000 in
set_option maxHeartbeats 4000000 in
theorem isForm_any (m : Nat) (a : Option Addr) (n cap : Nat) (xs : List Int) (w : World) (hr : Row w a n (intL xs)) (hn : n ≤ 1000) (hcap : n ≤ cap) (hm : 2 ≤ m) (hm2 : m ≤ 64) :
    Calls Try.prog 85 #[.int .i64 m, .slice a n cap] w fun e w' => e = .returned (.bool (formB m xs)) ∧ Below w.heap.size w w' := by
  have hx : xs.length = n := by have := hr.1; simpa [intL] using this
  have hL := fun W => limitsOf_any m W hm hm2
  have HL := Lib.hid hL
  have Hr := Lib.hid hr
  have Hx := Lib.hid hx
  clear hL hr hx
  go_enter Try.func85, Try.ntmps85
  go_wp2_with fail
  refine (HL.out _).mono ?_
  rintro e w1 ⟨v, rfl, ho, b1⟩
  obtain ⟨aL, cL, rfl, hLr⟩ := Row.of_own ho
  have HLr := Lib.hid hLr
  have B1 := Lib.hid b1
  clear ho hLr b1
  by_cases hd : n ≤ degN m
  · have hg : ¬ (n : Int) > (degN m : Int) := by omega
    have hget : ∀ k, k < degN m → (limL m).getD k 0 = (roomN m k : Int) := fun k hk => by
      unfold limL
      rw [List.getD_eq_getElem?_getD, List.getElem?_map, List.getElem?_range hk]; rfl
    have hfb : ∀ b, roomsB m xs n = b → formB m xs = (b && decide (xs.length = (trimZ xs).length)) := fun b h => by
      unfold formB
      rw [Hx.out, h, decide_eq_true hd, Bool.true_and]
    have hstep := roomsB_step m xs
    have hno := fun k (hk : k < n) => roomsB_no (m := m) (xs := xs) (n := n) hk
    have hok : ∀ k, okN m k (xs.getD k 0) = decide (0 ≤ xs.getD k 0 ∧ xs.getD k 0 < roomN m k) := fun _ => rfl
    have Hget := Lib.hid hget
    have Hfb := Lib.hid hfb
    have Hstep := Lib.hid hstep
    have Hno := Lib.hid hno
    have Hok := Lib.hid hok
    clear hget hfb hstep hno hok
    go_wp2
    go_loopw [17] (fun i wr => ∃ k : Nat, k ≤ n ∧ i = .int .i64 k ∧ Hid (roomsB m xs k = true) ∧ wr = w1) (fun i _ => n - (intOf i).toNat)
    case atStart => exact ⟨0, Nat.zero_le _, rfl, rfl, rfl⟩
    case round =>
      obtain ⟨k, hk, rfl, HB, hw⟩ := hrel
      subst wr
      by_cases hlt : k < n
      · have hc : (k : Int) < (n : Int) := by omega
        obtain ⟨g, rfl, cx⟩ := (Hr.out.below B1.out).int hlt
        obtain ⟨gl, rfl, cl⟩ := HLr.out.int (show k < degN m by omega)
        rw [Hget.out k (by omega)] at cl
        have hok := Hok.out k
        have hst := Hstep.out k
        rw [HB.out, Bool.true_and] at hst
        have hno := Hno.out k hlt
        generalize xs.getD k 0 = y at cx hok hst hno
        generalize roomN m k = l at cl hok
        have hkd : (k : Int) < (degN m : Int) := by omega
        have hk1 : k ≤ 1000 := by omega
        have hgo : k + 1 ≤ n ∧ k < n := by omega
        have Hgo := Lib.hid hgo
        by_cases hy : 0 ≤ y ∧ y < l
        · have hb := hok.trans (decide_eq_true hy)
          rw [hb] at hst
          have HS := Lib.hid hst
          have h1 : ¬ y < 0 := by omega
          have h2 : ¬ y ≥ (l : Int) := by omega
          clear hok hst hno hb hgo hy HB
          go_wp2
          go_roundw
          case rel => exact ⟨k + 1, Hgo.out.1, by go_num, HS, trivial⟩
          case measure => exact mz_upn Hgo.out.2
        · have hb := hok.trans (decide_eq_false hy)
          have hf := Hfb.out _ (hno hb)
          have HF := Lib.hid hf
          clear hok hst hno hb hgo hf HB
          by_cases h1 : y < 0
          · clear hy
            go_wp2
            go_ret
            exact ⟨ret_bool HF.out.symm, B1.out⟩
          · have h2 : y ≥ (l : Int) := by omega
            clear hy
            go_wp2
            go_ret
            exact ⟨ret_bool HF.out.symm, B1.out⟩
      · have hkn : k = n := by omega
        subst k
        have hc : ¬ (n : Int) < (n : Int) := by omega
        have hf := Hfb.out _ HB.out
        rw [Bool.true_and, Hx.out] at hf
        have HF := Lib.hid hf
        have HW := Lib.hid (without_row a n cap xs w1 (Hr.out.below B1.out) hn hcap)
        clear hf HB
        go_wp2_with fail
        refine HW.out.mono ?_
        rintro e w5 ⟨j, rfl, hj, hw⟩
        subst w5
        have HJ := Lib.hid hj
        clear hj
        go_wp2
        go_ret
        exact ⟨ret_bool (by rw [HF.out, HJ.out, Bool.eq_iff_iff, beq_iff_eq, decide_eq_true_eq]; omega), B1.out⟩
  · have hg : (n : Int) > (degN m : Int) := by omega
    have hf : formB m xs = false := by unfold formB; rw [Hx.out, decide_eq_false hd]; rfl
    have Hf := Lib.hid hf
    clear hf hd
    go_wp2
    go_ret
    exact ⟨ret_bool Hf.out.symm, B1.out⟩
end Go.Proofs.Ythmdlkaanjjbkaa
