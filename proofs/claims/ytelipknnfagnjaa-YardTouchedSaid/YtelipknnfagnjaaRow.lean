/- The reference's Row: the list of all fractions of a row. -/
import Derived.Test.YtelipknnfagnjaaAdj
import Derived.Test.YtelipknnfagnjaaQuad
import Derived.Deep.DeepCutAuto
namespace Go.Proofs.Ytelipknnfagnjaa
set_option linter.unusedVariables false
open Go.RowKit Go.Shelf

/-- fractions, one after the other, as cells -/
def flatF : List (Nat × Nat) → List Value
  | [] => []
  | p :: l => .int .i64 (p.1 : Int) :: .int .i64 (p.2 : Int) :: flatF l
theorem flatF_length : ∀ l, (flatF l).length = l.length * 2
  | [] => rfl
  | p :: l => by simp [flatF, flatF_length l]; omega
theorem flatF_append : ∀ l m, flatF (l ++ m) = flatF l ++ flatF m
  | [], m => rfl
  | p :: l, m => by simp [flatF, flatF_append l m]
theorem flatF_get : ∀ {l : List (Nat × Nat)} {j : Nat} {p : Nat × Nat}, l[j]? = some p → (flatF l)[j * 2]? = some (.int .i64 (p.1 : Int)) ∧ (flatF l)[j * 2 + 1]? = some (.int .i64 (p.2 : Int))
  | [], j, p, h => by simp at h
  | q :: l, 0, p, h => by simp at h; subst h; exact ⟨rfl, rfl⟩
  | q :: l, j + 1, p, h => by
    have := flatF_get (l := l) (j := j) (by simpa using h)
    rw [show (j + 1) * 2 = j * 2 + 1 + 1 from by omega]
    exact this
/-- the first k fractions of the row -/
def frs (N k : Nat) : List (Nat × Nat) := (List.range k).map (fr N)
theorem frs_length (N k : Nat) : (frs N k).length = k := by simp [frs]
theorem frs_get {N k j : Nat} (h : j < k) : (frs N k)[j]? = some (fr N j) := by simp [frs, h]
theorem frs_succ (N k : Nat) : frs N (k + 1) = frs N k ++ [fr N k] := by simp [frs, List.range_succ]
theorem fr_end {N j : Nat} (h1 : 1 ≤ N) (hj : j < len N) : (fr N j).1 < (fr N j).2 ↔ j + 1 < len N := by
  constructor
  · intro h
    rcases Nat.lt_or_ge (j + 1) (len N) with e | e
    · exact e
    · have : j = len N - 1 := by omega
      rw [this, fr_last h1] at h
      simp at h
  · intro h
    have := fr_lt h1 (i := j) (len N - 1) (by omega)
    rw [fr_last h1] at this
    simpa using this
theorem info_frac : (Try.prog.info? 26).map (fun i => (i.zero, i.size, i.bytes)) = some (some (.agg #[.int .i64 0, .int .i64 0]), 2, 16) := by kernel_rfl

theorem cells_two_new (w : World) (x y : Value) (t : TypeId) : ∀ j u, [x, y][j]? = some u → (w.alloc (.cells #[x, y] t)).cell? ((⟨w.heap.size, 0, none⟩ : Addr).add j) = some u := by
  intro j u hj
  match j, hj with
  | 0, hj => simp at hj; subst hj; simp [Addr.add]
  | 1, hj => simp at hj; subst hj; simp [Addr.add]
  | j + 2, hj => simp at hj
theorem row_num {N p q r s k : Nat} (h3 : N ≤ 300) (z1 : p ≤ 200000) (z2 : q ≤ N) (z3 : r ≤ 200000) (z4 : s ≤ N) (z5 : 1 ≤ s) (z6 : 1 ≤ q)
    (hst : 1 ≤ (N + q) / s ∧ p ≤ (N + q) / s * r ∧ q < (N + q) / s * s ∧ (N + q) / s * s ≤ N + q ∧ N + q < (N + q) / s * s + s) (hnx : fr N (k + 1 + 1) = ((N + q) / s * r - p, (N + q) / s * s - q)) :
    ∃ t tr ts x y : Nat, Int.tdiv ((N : Int) + q) s = t ∧ ((N : Int) + q) / s = t ∧ wrap64 ((t : Int) * r) = tr ∧ wrap64 ((tr : Int) - p) = x ∧ wrap64 ((t : Int) * s) = ts ∧ wrap64 ((ts : Int) - q) = y ∧ fr N (k + 2) = (x, y) ∧ t ≤ 1000 ∧ ¬ s = 0 ∧ ¬ (s : Int) = 0 := by
  obtain ⟨t, ht⟩ : ∃ t, (N + q) / s = t := ⟨_, rfl⟩
  have ht2 : t ≤ 600 := by rw [← ht]; exact Nat.le_trans (Nat.div_le_self _ _) (by omega)
  rw [ht] at hst hnx
  obtain ⟨_, h2, h4, h5, _⟩ := hst
  have h6 : t * r ≤ 600 * 200000 := Nat.mul_le_mul ht2 z3
  exact ⟨t, t * r, t * s, t * r - p, t * s - q, by rw [show (N : Int) + q = ((N + q : Nat) : Int) by simp]; exact tdivN ht, by rw [show (N : Int) + q = ((N + q : Nat) : Int) by simp, ← ht]; rfl, wmul rfl (by omega), wsub (by omega) (by omega), wmul rfl (by omega), wsub (by omega) (by omega), hnx, by omega, by omega, by omega⟩

def lenV : Value → Nat
  | .slice _ n _ => n
  | _ => 0

set_option maxRecDepth 100000 in
set_option maxHeartbeats 4000000 in
theorem refRow_any (N : Nat) (h1 : 1 ≤ N) (h3 : N ≤ 300) (w : World) :
    Calls Try.prog 18 #[.int .i64 N] w fun e w' => ∃ v, e = .returned v ∧ w'.ownsRow w.heap.size 26 2 v (len N) (flatF (frs N (len N))) ∧ Below w.heap.size w w' := by
  obtain ⟨i0, hi, hz0, hz1, hz2⟩ := info_parts info_frac
  go_enter Try.func18, Try.ntmps18
  go_wp2
  have h0 := World.ownsRow_lit (base := w.heap.size) (e := 26) (size := 2) w #[.int .i64 0, .int .i64 1, .int .i64 1, .int .i64 N] 2 (Nat.le_refl _) (by unfold maxLen; omega) (by simp)
  have hl2 := len_two h1
  have hN := inv_st h1
  go_loopw [3] (fun v wr => ∃ (g cap k : Nat), v = .slice (some ⟨g, 0, none⟩) (k + 2) cap ∧ k + 2 ≤ len N ∧ wr.ownsRow w.heap.size 26 2 (.slice (some ⟨g, 0, none⟩) (k + 2) cap) (k + 2) (flatF (frs N (k + 2))) ∧ Below w.heap.size w wr) (fun v _ => len N - lenV v)
  case atStart => exact ⟨w.heap.size, 2, 0, rfl, hl2, h0, below_alloc _ _⟩
  case round =>
    obtain ⟨g, cap, k, rfl, hk, hown, hB⟩ := hrel
    have cA := fun j (hj : j < (k + 2) * 2) => hown.cellAt j hj
    obtain ⟨a0, a1⟩ := flatF_get (frs_get (N := N) (show k < k + 2 by omega))
    obtain ⟨c0, c1⟩ := flatF_get (frs_get (N := N) (show k + 1 < k + 2 by omega))
    rw [← cA _ (by omega)] at a0 a1 c0 c1
    have hsm := st_small h1 h3 (show k ≤ len N by omega)
    have hiv := hN k
    have hst := step_facts hiv
    have hnx : fr N (k + 1 + 1) = ((N + (fr N k).2) / (fr N (k + 1)).2 * (fr N (k + 1)).1 - (fr N k).1, (N + (fr N k).2) / (fr N (k + 1)).2 * (fr N (k + 1)).2 - (fr N k).2) := rfl
    have he := fr_end h1 (show k + 1 < len N by omega)
    obtain ⟨⟨p, q⟩, hp⟩ : ∃ z, fr N k = z := ⟨_, rfl⟩
    obtain ⟨⟨r, s⟩, hr⟩ : ∃ z, fr N (k + 1) = z := ⟨_, rfl⟩
    have e1 : (st N k).a = p := congrArg Prod.fst hp
    have e2 : (st N k).b = q := congrArg Prod.snd hp
    have e3 : (st N k).c = r := congrArg Prod.fst hr
    have e4 : (st N k).d = s := congrArg Prod.snd hr
    have z1 := hsm.a
    have z2 := hiv.bn
    have z3 := hsm.c
    have z4 := hiv.dn
    have z5 := hiv.d1
    have z6 := hiv.b1
    rw [e1] at z1
    rw [e2] at z2 z6
    rw [e3] at z3
    rw [e4] at z4 z5
    rw [e1, e2, e3, e4] at hst
    rw [hp, hr] at hnx
    rw [hr] at he c0 c1
    rw [hp] at a0 a1
    simp only at hnx he a0 a1 c0 c1
    have Hown := Lib.hid hown
    have HB := Lib.hid hB
    have Hnx := Lib.hid hnx
    have Hst := Lib.hid hst
    have He := Lib.hid he
    have hgl := (hown.lt g rfl).2
    have hgb := (hown.lt g rfl).1
    have hkl : k + 2 ≤ 100000 := by
      have := (len_spec h1).2.2
      have := Nat.mul_le_mul h3 h3
      omega
    clear hown hB hnx hst he cA hsm hiv hp hr e1 e2 e3 e4 h0
    by_cases hlt : r < s
    · have hlt' : (r : Int) < s := by omega
      go_wp2_with fail
      go_quiet (fail)
      go_wp2_with fail
      have HB1 := Lib.hid (below_drewN HB.out nq)
      have HO1 := Lib.hid (show (wr.drewN nq).ownsRow w.heap.size 26 2 (.slice (some ⟨g, 0, none⟩) (k + 2) cap) (k + 2) (flatF (frs N (k + 2))) from Hown.out)
      have b0 : (wr.drewN nq).cell? ⟨g, k * 2, none⟩ = some (.int .i64 p) := a0
      have b1 : (wr.drewN nq).cell? ⟨g, k * 2 + 1, none⟩ = some (.int .i64 q) := a1
      have d0 : (wr.drewN nq).cell? ⟨g, (k + 1) * 2, none⟩ = some (.int .i64 r) := c0
      have d1 : (wr.drewN nq).cell? ⟨g, (k + 1) * 2 + 1, none⟩ = some (.int .i64 s) := c1
      have hgl2 : g < (wr.drewN nq).heap.size := hgl
      generalize wr.drewN nq = wx at *
      clear a0 a1 c0 c1
      obtain HNum := Lib.hid (row_num h3 z1 z2 z3 z4 z5 z6 Hst.out Hnx.out)
      go_cut [4, 5] (fun s4 s5 wy => ∃ b4 b5 : Nat, s4 = .pointer (some ⟨b4, 0, none⟩) ∧ s5 = .pointer (some ⟨b5, 0, none⟩) ∧ b4 ≠ g ∧ b5 ≠ g ∧ Two wy b4 26 p q ∧ Two wy b5 26 r s ∧ wy.ownsRow w.heap.size 26 2 (.slice (some ⟨g, 0, none⟩) (k + 2) cap) (k + 2) (flatF (frs N (k + 2))) ∧ Below w.heap.size w wy)
      case first =>
        go_region
        all_goals go_wp2_with fail
        all_goals go_meet
        · refine ⟨_, _, rfl, rfl, by omega, by omega, (Two.new wx _ p q).alloc _, by have := Two.new (wx.alloc (.cells #[.int .i64 p, .int .i64 q] 26)) 26 r s; rw [World.size_alloc] at this; exact this, (HO1.out.alloc _).alloc _, (b_next (b_next HB1.out (below_alloc _ _)) (below_alloc _ _)).drew⟩
        · refine ⟨_, _, rfl, rfl, by omega, by omega, by have := Two.new (wx.alloc (.cells #[.int .i64 r, .int .i64 s] 26)) 26 p q; rw [World.size_alloc] at this; exact this, (Two.new wx _ r s).alloc _, (HO1.out.alloc _).alloc _, (b_next (b_next HB1.out (below_alloc _ _)) (below_alloc _ _)).drew⟩
      case rest =>
        obtain ⟨b4, b5, rfl, rfl, n4, n5, T4, T5, O2, B2⟩ := hcut
        obtain ⟨f0, f1, _, _⟩ := T4.cells
        obtain ⟨g0, g1, _, _⟩ := T5.cells
        have HT4 := Lib.hid T4
        have HT5 := Lib.hid T5
        have HO2 := Lib.hid O2
        have HB2 := Lib.hid B2
        clear T4 T5 O2 B2 HO1 HB1 b0 b1 d0 d1 hgl2
        obtain ⟨t, tr, ts, x, y, q1, q2, q3, q4, q5, q6, q7, q8, q9, q10⟩ := HNum.out
        have hF : Hid (frs N (k + 2 + 1) = frs N (k + 2) ++ [(x, y)]) := by unfold Hid; rw [frs_succ, q7]
        clear q7
        have hgs := (HO2.out.lt g rfl)
        go_wp2_with (at_builtin; refine wpList_append_own_at _ rfl _ _ 31 rfl w.heap.size 26 i0 (.agg #[.int .i64 0, .int .i64 0]) 2 16 Try.underlying31 hi hz0 hz1 hz2 rfl (by decide) _ _ _ rfl (HO2.out.alloc _) ⟨wc.heap.size, 0, none⟩ 1 1 [.int .i64 x, .int .i64 y] rfl rfl (cells_two_new _ _ _ _) (by simp [Value.oneCell']) (by unfold maxLen; omega) (by omega) (by have := hgs.2; simp; omega) ?_)
        intro v' w4 hown' hgrow _ hblk
        have hkk : k + 1 + 2 ≤ len N := He.out.1 hlt
        have HKK := Lib.hid hkk
        have hb4 : Below w.heap.size w w4 := (HB2.out.alloc HB2.out.size _).grown hgrow (by have := HB2.out.size; simp; omega) (fun j e => by have e' : g = j := Option.some.inj e; have := hgs.1; omega)
        have HB4 := Lib.hid hb4
        have hown4 : w4.ownsRow w.heap.size 26 2 v' (k + 1 + 2) (flatF (frs N (k + 1 + 2))) := by
          rw [show k + 1 + 2 = k + 2 + 1 from rfl, hF.out, flatF_append]
          exact hown'
        obtain ⟨g', cap', hv'⟩ : ∃ g' cap', v' = .slice (some ⟨g', 0, none⟩) (k + 1 + 2) cap' := by
          rcases hown4.2 with ⟨_, h⟩ | ⟨g', cap', cur, h, _⟩
          · omega
          · exact ⟨g', cap', h⟩
        have HO4 := Lib.hid hown4
        clear hkk hb4 hown4 hown' hgrow hblk q1 q2 q3 q4 q5 q6 q8 q9 q10 hgs
        subst hv'
        go_wp2_with fail
        go_roundw
        case rel => exact ⟨g', cap', k + 1, rfl, HKK.out, HO4.out, HB4.out⟩
        case measure => have := HKK.out; simp [lenV]; omega
    · have hlt' : ¬ (r : Int) < s := by omega
      have hend : k + 2 = len N := by
        have := He.out
        omega
      have Hend := Lib.hid hend
      clear hend
      go_wp2_with fail
      go_quiet (fail)
      go_wp2_with fail
      go_ret
      exact ⟨_, rfl, by rw [← Hend.out]; exact Hown.out, below_drewN HB.out nq⟩
end Go.Proofs.Ytelipknnfagnjaa
