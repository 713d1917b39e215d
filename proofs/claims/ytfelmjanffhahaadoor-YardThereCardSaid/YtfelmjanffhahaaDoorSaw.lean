/- Saw of the program and of the reference. -/
import Derived.Test.YtfelmjanffhahaaDoorWrp
import Derived.Test.YtfelmjanffhahaaDoorSawm
namespace Go.Proofs.YtfelmjanffhahaaDoor
set_option linter.unusedVariables false
open Go.RowKit Go.Shelf

theorem sawS_next (p k : Nat) {m : Nat} (h : 1 ≤ m) : sawS p k m = sawS p k (m - 1) + sawT p k m := by
  obtain ⟨j, rfl⟩ : ∃ j, m = j + 1 := ⟨m - 1, by omega⟩
  rfl

set_option maxHeartbeats 2000000 in
theorem Saw_yes (p k : Nat) (hv : validB p k = true) (hk : k ≤ 1000) (w : World) :
    Calls Tryd.prog 27 #[frV (p, k)] w fun e w' => e = .returned (.tuple #[.int .i64 (sawV p k).1, .int .i64 (sawV p k).2, .int .i64 0]) ∧ Below w.heap.size w w' := by
  obtain ⟨p', k', e1, e2, h1, _, hp, _⟩ := valid_nat hv
  obtain rfl : p = p' := by omega
  obtain rfl : k = k' := by omega
  clear e1 e2
  have hs := fun i hi => sawS_small (p := p) (i := i) h1 hk hi
  have hn := fun m hm => sawS_next p k (m := m) hm
  have HS := Lib.hid hs
  have HN := Lib.hid hn
  have HV0 := Lib.hid hv
  have hd0 : ¬ (k : Int) = 0 := by omega
  have hdb : ((k : Int) == 0) = false := by simpa using hd0
  clear hs hn hv
  unfold frV
  simp only
  go_enter Tryd.func27, Tryd.ntmps27
  go_wp2_with (go_at_call 31; refine (isValid_any _ _ _).mono ?_; rintro e w1 ⟨rfl, b1⟩; rw [HV0.out]; obtain ⟨c0, c1⟩ := arg_below b1)
  have hkk : k * k ≤ 1000 * 1000 := Nat.mul_le_mul hk hk
  obtain ⟨q, hq⟩ : ∃ q, 4 * k * k = q := ⟨_, rfl⟩
  have hq2 : q ≤ 4000000 := by rw [← hq, Nat.mul_assoc]; omega
  have hq1 : 1 ≤ q := by rw [← hq, Nat.mul_assoc]; have := Nat.mul_le_mul h1 h1; omega
  have w4 : wrap64 (2 * (k : Int) * 2 * k) = q := by
    rw [show (2 * (k : Int) * 2 * k) = ((4 * k * k : Nat) : Int) by simp; rw [show 2 * (k : Int) * 2 = 4 * k by omega], hq]; exact wN (by omega)
  rw [w4]
  have t0 := Two.new w1 74 0 q
  have bw : Below w.heap.size w w1 := b_next (below_alloc _ _) b1
  have d0 := (below_alloc w1 (.cells #[.int .i64 0, .int .i64 q] 74)).cell (p := ⟨w.heap.size, 0, none⟩) (World.block_lt_of_cell? _ _ c0)
  have d1 := (below_alloc w1 (.cells #[.int .i64 0, .int .i64 q] 74)).cell (p := ⟨w.heap.size, 1, none⟩) (World.block_lt_of_cell? _ _ c1)
  have hlt1 : w.heap.size < w1.heap.size := World.block_lt_of_cell? _ _ c0
  go_loopw [7] (fun i wr => ∃ (S : Int) (m : Nat), 1 ≤ m ∧ m ≤ k ∧ i = .int .i64 m ∧ Hid (S = sawS p k (m - 1)) ∧ Two wr w1.heap.size 74 S q ∧ wr.cell? ⟨w.heap.size, 0, none⟩ = some (.int .i64 p) ∧ wr.cell? ⟨w.heap.size, 1, none⟩ = some (.int .i64 k) ∧ Below w.heap.size w wr) (fun i _ => k - (intOf i).toNat)
  case atStart => exact ⟨0, 1, by omega, by omega, rfl, rfl, t0, d0.trans c0, d1.trans c1, b_next bw (below_alloc _ _)⟩
  case round =>
    obtain ⟨S, m, hm1, hmk, rfl, HE, ht2, c0, c1, hB⟩ := hrel
    obtain ⟨e0, e1, f0, f1⟩ := ht2.cells
    have HT := Lib.hid ht2
    have HB := Lib.hid hB
    have hb := HS.out (m - 1) (by omega)
    rw [← HE.out] at hb
    obtain ⟨hb1, hb2⟩ := hb
    clear ht2 hB hkk w4
    by_cases hlt : m < k
    · have hc : (m : Int) < k := by omega
      obtain ⟨t, ht⟩ : ∃ t, p * m = t := ⟨_, rfl⟩
      have ht2 : t ≤ 1000 * 1000 := by rw [← ht]; exact Nat.mul_le_mul (by omega) (by omega)
      obtain ⟨r, hr⟩ : ∃ r, t % k = r := ⟨_, rfl⟩
      have hr2 : r < k := by rw [← hr]; exact Nat.mod_lt _ h1
      have n1 : IntKind.i64.wrap ((p : Int) * m) = t := imul ht (by omega)
      have n2 : Int.tmod (t : Int) k = r := tmodN hr
      obtain ⟨x, hx⟩ : ∃ x, (2 * (m : Int) - k) * (2 * (r : Int) - k) = x := ⟨_, rfl⟩
      have hx2 : sawT p k m = x := by unfold sawT; rw [ht, hr, hx]
      have hxb := sawT_bound (p := p) h1 (show m ≤ k by omega)
      have hkk : (k : Int) * k ≤ 1000000 := by rw [← Int.natCast_mul]; have := Nat.mul_le_mul hk hk; omega
      rw [hx2] at hxb
      obtain ⟨x1, x2⟩ := hxb
      have x3 : -1000000 ≤ x := by omega
      have x4 : x ≤ 1000000 := by omega
      have v1 : IntKind.i64.wrap (2 * (m : Int)) = 2 * m := iI ⟨by omega, by omega⟩
      have v2 : IntKind.i64.wrap (2 * (m : Int) - k) = 2 * m - k := iI ⟨by omega, by omega⟩
      have v3 : IntKind.i64.wrap (2 * (r : Int)) = 2 * r := iI ⟨by omega, by omega⟩
      have v4 : IntKind.i64.wrap (2 * (r : Int) - k) = 2 * r - k := iI ⟨by omega, by omega⟩
      have v5 : IntKind.i64.wrap (r : Int) = r := iI ⟨by omega, by omega⟩
      have v6 : IntKind.i64.wrap (S + x) = S + x := iI ⟨by omega, by omega⟩
      have n3 : IntKind.i64.wrap ((2 * (m : Int) - k) * (2 * (r : Int) - k)) = x := by rw [hx]; exact iI ⟨by omega, by omega⟩
      have HE2 : Hid (S + x = sawS p k m) := by unfold Hid; rw [HN.out m hm1, ← HE.out, hx2]
      clear hkk x1 x2 hx2 hx hr ht
      go_wp2
      go_region
      go_wp2
      go_roundw
      case rel => exact ⟨S + x, m + 1, by omega, by omega, by go_num, by rw [Nat.add_sub_cancel]; exact HE2.out, HT.out.set0 _, (World.cell?_of_block (a := ⟨w.heap.size, 0, none⟩) (Below.heap_setCell _ _ _ _ (by simp; omega))).trans c0, (World.cell?_of_block (a := ⟨w.heap.size, 1, none⟩) (Below.heap_setCell _ _ _ _ (by simp; omega))).trans c1, (HB.out.setCell (p := ⟨_, 0, none⟩) (by simp; omega) _).drew⟩
      case measure => simp [intOf]; omega
    · obtain rfl : m = k := by omega
      have hc : ¬ (m : Int) < m := by omega
      obtain ⟨g, hg⟩ : ∃ g, Int.gcd S q = g := ⟨_, rfl⟩
      have hgn : Nat.gcd S.natAbs q = g := by rw [← hg, Int.gcd, Int.natAbs_natCast]
      have hg1 : 1 ≤ g := by rw [← hgn]; exact Nat.gcd_pos_of_pos_right _ hq1
      have hgq : g ≤ q := by rw [← hgn]; exact Nat.gcd_le_right _ hq1
      have HV : Hid (sawV p m = (S.tdiv g, q / g)) := by
        unfold Hid sawV sawG
        rw [hq, ← HE.out, hg]
      have hC := fun w => divisor_any S q (by omega) (by omega) w
      rw [hg] at hC
      have HC := Lib.hid hC
      have hg0 : ¬ (g : Int) = 0 := by omega
      have hgb : ((g : Int) == 0) = false := by simpa using hg0
      have w5 : Int.tdiv (q : Int) g = ((q / g : Nat) : Int) := rfl
      have hqg : q / g ≤ q := Nat.div_le_self _ _
      have hsg : (Int.tdiv S g).natAbs ≤ S.natAbs := by rw [Int.natAbs_tdiv]; exact Nat.div_le_self _ _
      obtain ⟨y, hy⟩ : ∃ y, Int.tdiv S g = y := ⟨_, rfl⟩
      obtain ⟨z, hz⟩ : ∃ z, q / g = z := ⟨_, rfl⟩
      rw [hy] at hsg HV
      rw [hz] at hqg HV w5
      have hy0 : -1000000000000000 ≤ y ∧ y ≤ 1000000000000000 := by clear w5 hy HV; omega
      have hz0 : z ≤ 1000000000000000 := by clear w5 hy HV; omega
      have y1 : wrap64 y = y := wI hy0
      have y2 : IntKind.i64.wrap y = y := iI hy0
      have z1 : wrap64 (z : Int) = z := wN hz0
      have z2 : IntKind.i64.wrap (z : Int) = z := iN hz0
      clear hC hg hgn hq hz
      go_wp2_with (go_at_call 47; refine (HC.out _).mono ?_; rintro e w2 ⟨rfl, n2, rfl⟩)
      go_quiet (fail)
      go_wp2
      go_ret3
      exact ⟨by rw [HV.out]; rfl, below_drewN (below_drewN HB.out _) _⟩
end Go.Proofs.YtfelmjanffhahaaDoor
