/- The reference's Way and Follow. -/
import Derived.Test.YtfelmjanffhahaaDoorFlw
namespace Go.Proofs.YtfelmjanffhahaaDoor
set_option linter.unusedVariables false
open Go.RowKit Go.Shelf

theorem u8_82 {c : UInt8} : (c = 82 → ((c.toNat : Int) == 82) = true) ∧ (¬ c = 82 → ((c.toNat : Int) == 82) = false) := by
  refine ⟨fun h => by subst h; rfl, fun h => ?_⟩
  rw [beq_eq_false_iff_ne]
  intro e
  exact h (UInt8.toNat_inj.1 (by show c.toNat = 82; omega))
def lrB (c : UInt8) : Bool := c == 76 || c == 82
theorem lr_all {l : List UInt8} {k : Nat} {c : UInt8} (hc : l[k]? = some c) (h : lrB c = true) (hp : (l.take k).all lrB = true) : (l.take (k + 1)).all lrB = true := by
  obtain ⟨hk, rfl⟩ := List.getElem?_eq_some_iff.1 hc
  rw [List.take_succ_eq_append_getElem hk, List.all_append, hp]; simp [h]
theorem lr_no {l : List UInt8} {k : Nat} {c : UInt8} (hc : l[k]? = some c) (h : lrB c = false) : wayB l = false := by
  obtain ⟨hk, rfl⟩ := List.getElem?_eq_some_iff.1 hc
  unfold wayB
  rw [Bool.and_eq_false_iff]
  right
  rw [List.all_eq_false]
  exact ⟨_, List.getElem_mem hk, by rw [show (l[k] == 76 || l[k] == 82) = false from h]; simp⟩
theorem bne_of {a : Int} {c : Int} {b : Bool} (h : (a == c) = b) : (a != c) = !b := by rw [bne, h]

set_option maxRecDepth 100000 in
set_option maxHeartbeats 2000000 in
theorem refWay_any (s : ByteArray) (w : World) (hs : s.size ≤ 1000) :
    Calls Tryd.prog 7 #[.string s] w fun e w' => e = .returned (.bool (wayB s.data.toList)) ∧ w' = w := by
  go_enter Tryd.func7, Tryd.ntmps7
  go_wp2
  go_loopw [3] (fun i wr => ∃ k : Nat, k ≤ s.size ∧ i = .int .i64 k ∧ Hid ((s.data.toList.take k).all lrB = true) ∧ wr = w) (fun i _ => s.size - (intOf i).toNat)
  case atStart => exact ⟨0, Nat.zero_le _, rfl, rfl, rfl⟩
  case round =>
    obtain ⟨k, hk, rfl, HP, rfl⟩ := hrel
    by_cases hlt : k < s.size
    · have hc : (k : Int) < s.size := by omega
      have hget := sget s k hlt
      by_cases h76 : s[k] = 76
      · have g1 := bne_of (u8_76.1 h76)
        have HP2 := Lib.hid (lr_all hget (by rw [lrB, h76]; rfl) HP.out)
        clear hget h76
        go_wp2
        go_roundw
        case rel => exact ⟨k + 1, by omega, rfl, HP2, trivial⟩
        case measure => simp [intOf]; omega
      · have g1 := bne_of (u8_76.2 h76)
        by_cases h82 : s[k] = 82
        · have g2 := bne_of (u8_82.1 h82)
          have HP2 := Lib.hid (lr_all hget (by rw [lrB, h82]; rfl) HP.out)
          clear hget h76 h82
          go_wp2
          go_roundw
          case rel => exact ⟨k + 1, by omega, rfl, HP2, trivial⟩
          case measure => simp [intOf]; omega
        · have g2 := bne_of (u8_82.2 h82)
          have hn := lr_no hget (by rw [lrB, beq_eq_false_iff_ne.2 h76, beq_eq_false_iff_ne.2 h82]; rfl)
          have HN := Lib.hid hn
          clear hget hn h76 h82
          go_wp2
          go_ret
          exact ⟨ret_bool HN.out.symm, rfl⟩
    · obtain rfl : k = s.size := by omega
      have hP := HP.out
      rw [stake_all] at hP
      by_cases h200 : s.size ≤ 200
      · have h200' : (s.size : Int) ≤ 200 := by omega
        have hw : wayB s.data.toList = true := by unfold wayB; rw [sdata_length, decide_eq_true h200, Bool.true_and]; exact hP
        have HN := Lib.hid hw
        clear hw hP
        go_wp2
        go_ret
        exact ⟨ret_bool HN.out.symm, rfl⟩
      · have h200' : ¬ (s.size : Int) ≤ 200 := by omega
        have hw : wayB s.data.toList = false := by unfold wayB; rw [sdata_length, decide_eq_false h200, Bool.false_and]
        have HN := Lib.hid hw
        clear hw hP
        go_wp2
        go_ret
        exact ⟨ret_bool HN.out.symm, rfl⟩

def refFlwR (l : List UInt8) : (Nat × Nat) × Bool := match flw g01 l with | some g => ((g.a + g.c, g.b + g.d), true) | none => ((0, 0), false)
def refFlwV (l : List UInt8) : Value := .tuple #[.agg #[.int .i64 (refFlwR l).1.1, .int .i64 (refFlwR l).1.2], .bool (refFlwR l).2]

set_option maxRecDepth 100000 in
set_option maxHeartbeats 4000000 in
theorem refFollow_any (s : ByteArray) (w : World) (hs : s.size ≤ 1000) :
    Calls Tryd.prog 9 #[.string s] w fun e w' => e = .returned (refFlwV s.data.toList) ∧ Below w.heap.size w w' := by
  have H0 := Lib.hid (Two.new w 23 0 0)
  have HB := Lib.hid (below_alloc w (.cells #[.int .i64 0, .int .i64 0] 23))
  go_enter Tryd.func9, Tryd.ntmps9
  go_wp2
  generalize hW : (w.alloc (.cells #[.int .i64 0, .int .i64 0] 23)) = W at H0 HB
  go_loopw [4, 5, 6, 7, 8] (fun x y z t i wr => ∃ (k a b c d : Nat), x = .int .i64 a ∧ y = .int .i64 b ∧ z = .int .i64 c ∧ t = .int .i64 d ∧ i = .int .i64 k ∧ k ≤ s.size ∧
    Hid ((flw g01 (s.data.toList.take k) = some ⟨a, b, c, d⟩ ∧ b + d ≤ 1000000) ∨ (flw g01 (s.data.toList.take k) = none ∧ 1000000 < b + d)) ∧ (a ≤ b ∧ c ≤ d ∧ b + d ≤ 2000000) ∧ wr = W) (fun _ _ _ _ i _ => s.size - (intOf i).toNat)
  case atStart => exact ⟨0, 0, 1, 1, 1, rfl, rfl, rfl, rfl, rfl, Nat.zero_le _, .inl ⟨rfl, by omega⟩, by omega, rfl⟩
  case round =>
    obtain ⟨k, a, b, c, d, rfl, rfl, rfl, rfl, rfl, hk, HF, hsm, rfl⟩ := hrel
    have j1 : IntKind.i64.wrap ((a : Int) + c) = ((a + c : Nat) : Int) := iadd rfl (by omega)
    have j2 : IntKind.i64.wrap ((b : Int) + d) = ((b + d : Nat) : Int) := iadd rfl (by omega)
    obtain ⟨m1, hm1⟩ : ∃ m, a + c = m := ⟨_, rfl⟩
    obtain ⟨m2, hm2⟩ : ∃ m, b + d = m := ⟨_, rfl⟩
    rw [hm1] at j1
    rw [hm2] at j2
    obtain ⟨t0, t1, t2, t3⟩ := H0.out.cells
    have hlt0 := H0.out.lt
    rcases HF.out with ⟨hf, hle⟩ | ⟨hf, hgt⟩
    · have hle2 : (m2 : Int) ≤ 1000000 := by omega
      by_cases hlt : k < s.size
      · have hc : (k : Int) < s.size := by omega
        have hget := sget s k hlt
        have hstep := flw_take hget hf
        by_cases h76 : s[k] = 76
        · have g1 := u8_76.1 h76
          have hst : goG ⟨a, b, c, d⟩ s[k] = ⟨a, b, m1, m2⟩ := by unfold goG; rw [if_pos h76, ← hm1, ← hm2]
          rw [hst] at hstep
          simp only at hstep
          have HF2 : Hid ((flw g01 (s.data.toList.take (k + 1)) = some ⟨a, b, m1, m2⟩ ∧ b + m2 ≤ 1000000) ∨ (flw g01 (s.data.toList.take (k + 1)) = none ∧ 1000000 < b + m2)) := by
            by_cases hb : 1000000 < b + m2
            · right; rw [hstep, if_pos hb]; exact ⟨rfl, hb⟩
            · left; rw [hstep, if_neg hb]; exact ⟨rfl, by omega⟩
          have hsm2 : a ≤ b ∧ m1 ≤ m2 ∧ b + m2 ≤ 2000000 := by omega
          clear hstep hst hf hget HF h76 hm1 hm2 hsm
          go_wp2
          go_roundw
          case rel => exact ⟨k + 1, a, b, m1, m2, rfl, rfl, rfl, rfl, rfl, by omega, HF2, hsm2, trivial⟩
          case measure => simp [intOf]; omega
        · have g1 := u8_76.2 h76
          have hst : goG ⟨a, b, c, d⟩ s[k] = ⟨m1, m2, c, d⟩ := by unfold goG; rw [if_neg h76, ← hm1, ← hm2]
          rw [hst] at hstep
          simp only at hstep
          have HF2 : Hid ((flw g01 (s.data.toList.take (k + 1)) = some ⟨m1, m2, c, d⟩ ∧ m2 + d ≤ 1000000) ∨ (flw g01 (s.data.toList.take (k + 1)) = none ∧ 1000000 < m2 + d)) := by
            by_cases hb : 1000000 < m2 + d
            · right; rw [hstep, if_pos hb]; exact ⟨rfl, hb⟩
            · left; rw [hstep, if_neg hb]; exact ⟨rfl, by omega⟩
          have hsm2 : m1 ≤ m2 ∧ c ≤ d ∧ m2 + d ≤ 2000000 := by omega
          clear hstep hst hf hget HF h76 hm1 hm2 hsm
          go_wp2
          go_roundw
          case rel => exact ⟨k + 1, m1, m2, c, d, rfl, rfl, rfl, rfl, rfl, by omega, HF2, hsm2, trivial⟩
          case measure => simp [intOf]; omega
      · obtain rfl : k = s.size := by omega
        rw [stake_all] at hf
        have hn : refFlwR s.data.toList = ((m1, m2), true) := by unfold refFlwR; rw [hf, ← hm1, ← hm2]
        have HN := Lib.hid hn
        have hgt' : ¬ (1000000 : Int) < m2 := by omega
        clear hn hf HF hm1 hm2 hsm
        go_wp2
        have VB := ((HB.out.setCell (p := ⟨w.heap.size, 0, none⟩) (Nat.le_refl _) (.int .i64 (m1 : Int))).setCell (p := ⟨w.heap.size, 1, none⟩) (Nat.le_refl _) (.int .i64 (m2 : Int)))
        have T0 := (H0.out.set0 (m1 : Int)).set1 (m2 : Int)
        obtain ⟨k0, k1, _, _⟩ := T0.cells
        exact bodyPost_ret (v := .tuple #[.agg #[.int .i64 m1, .int .i64 m2], .bool true]) (by simp [results, Tryd.results9, go_sem, k0, k1]) rfl ⟨by rw [refFlwV, HN.out], VB⟩
    · have hle2 : ¬ (m2 : Int) ≤ 1000000 := by omega
      have hn : refFlwR s.data.toList = ((0, 0), false) := by unfold refFlwR; rw [flw_take_none hf]
      have HN := Lib.hid hn
      have hgt' : (1000000 : Int) < m2 := by omega
      clear hn hf HF hm1 hm2 hsm
      by_cases hlt : k < s.size
      · have hc : (k : Int) < s.size := by omega
        go_wp2
        have VB := ((HB.out.setCell (p := ⟨w.heap.size, 0, none⟩) (Nat.le_refl _) (.int .i64 0)).setCell (p := ⟨w.heap.size, 1, none⟩) (Nat.le_refl _) (.int .i64 0))
        have T0 := (H0.out.set0 0).set1 0
        obtain ⟨k0, k1, _, _⟩ := T0.cells
        exact bodyPost_ret (v := .tuple #[.agg #[.int .i64 0, .int .i64 0], .bool false]) (by simp [results, Tryd.results9, go_sem, k0, k1]) rfl ⟨by rw [refFlwV, HN.out]; rfl, VB⟩
      · obtain rfl : k = s.size := by omega
        go_wp2
        have VB := ((HB.out.setCell (p := ⟨w.heap.size, 0, none⟩) (Nat.le_refl _) (.int .i64 0)).setCell (p := ⟨w.heap.size, 1, none⟩) (Nat.le_refl _) (.int .i64 0))
        have T0 := (H0.out.set0 0).set1 0
        obtain ⟨k0, k1, _, _⟩ := T0.cells
        exact bodyPost_ret (v := .tuple #[.agg #[.int .i64 0, .int .i64 0], .bool false]) (by simp [results, Tryd.results9, go_sem, k0, k1]) rfl ⟨by rw [refFlwV, HN.out]; rfl, VB⟩
end Go.Proofs.YtfelmjanffhahaaDoor
