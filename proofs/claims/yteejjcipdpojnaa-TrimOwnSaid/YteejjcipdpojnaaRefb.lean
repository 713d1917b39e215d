/- Contracts of the reference: Tower and Base. -/
import Derived.Test.YteejjcipdpojnaaRefa
namespace Go.Proofs.Yteejjcipdpojnaa
set_option linter.unusedVariables false
open Go.RowKit

def towerT (s : ByteArray) : ByteArray × Bool := match towerL s.data.toList with | none => (⟨#[]⟩, false) | some t => (mk t, true)
def baseT (s : ByteArray) : ByteArray × Bool := match baseL s.data.toList with | none => (⟨#[]⟩, false) | some t => (mk t, true)

set_option maxHeartbeats 1000000 in
theorem refTower_any (s : ByteArray) (w : World) (hs : s.size ≤ 1000) :
    Calls Try.prog 44 #[.string s] w fun e w' => e = .returned (.tuple #[.string (towerT s).1, .bool (towerT s).2]) ∧ Below w.heap.size w w' := by
  go_enter Try.func44, Try.ntmps44
  go_wp2
  go_loopw [4, 5] (fun v i wr => ∃ (t : ByteArray) (k : Nat), k ≤ s.size ∧ i = .int .i64 k ∧ v = .string t ∧ t.size ≤ 100 ∧ Hid (towerL s.data.toList = towerGo t.data.toList (s.data.toList.drop k)) ∧ Below w.heap.size w wr) (fun _ i _ => s.size - (intOf i).toNat)
  case atStart => exact ⟨⟨#[]⟩, 0, Nat.zero_le _, rfl, rfl, by decide, rfl, Below.refl _ _⟩
  case round =>
    obtain ⟨t, k, hk, rfl, rfl, ht, HP, hB⟩ := hrel
    by_cases hlt : k < s.size
    · have hc : (k : Int) < s.size := by omega
      have hx := extract_size s k (k + 1)
      have hx1 : (s.extract k (k + 1)).size ≤ 1 := by rw [ByteArray.size_extract]; omega
      have hsum : t.size + (s.extract k (k + 1)).size ≤ 9223372036854775807 := by omega
      have ha : (t ++ s.extract k (k + 1)).size ≤ 101 := by rw [ByteArray.size_append]; omega
      have hd := towerGo_drop t.data.toList s.data.toList k (by rw [data_length]; exact hlt)
      rw [← letter_data s k hlt, ← append_data, closB_len, ← closB_data] at hd
      have Hd := Lib.hid hd
      clear hd
      by_cases hb : 100 < (closB (t ++ s.extract k (k + 1))).size
      · have hb' : (100 : Int) < (closB (t ++ s.extract k (k + 1))).size := by omega
        go_wp2_with (go_at_call 43; refine (refClosure_any _ _ (by omega)).mono ?_; rintro e w1 ⟨rfl, hB1⟩)
        go_ret2
        exact ⟨by unfold towerT; rw [HP.out, Hd.out, if_pos hb]; rfl, hB.trans (hB1.mono hB.size)⟩
      · have hb' : ¬ (100 : Int) < (closB (t ++ s.extract k (k + 1))).size := by omega
        go_wp2_with (go_at_call 43; refine (refClosure_any _ _ (by omega)).mono ?_; rintro e w1 ⟨rfl, hB1⟩)
        have hz : towerL s.data.toList = towerGo (closB (t ++ s.extract k (k + 1))).data.toList (s.data.toList.drop (k + 1)) := by rw [HP.out, Hd.out, if_neg hb]
        go_roundw
        case rel => exact ⟨_, k + 1, by omega, by go_num, rfl, by omega, hz, hB.trans (hB1.mono hB.size)⟩
        case measure => simp [intOf]; omega
    · obtain rfl : k = s.size := by omega
      go_wp2
      go_ret2
      exact ⟨by unfold towerT; rw [HP.out, List.drop_of_length_le (by rw [data_length]; exact Nat.le_refl _), towerGo]; simp [mk_data], hB⟩

theorem prefix_yes {s p : ByteArray} (h : Lib.hasPrefix s.data.toList p.data.toList = true) : p.size ≤ s.size ∧ s.extract 0 p.size = p := by
  have hl := prefix_len h
  rw [data_length, data_length] at hl
  refine ⟨hl, ?_⟩
  unfold Lib.hasPrefix at h
  have h1 := (List.prefix_iff_eq_take.1 (List.isPrefixOf_iff_prefix.1 h))
  rw [data_length] at h1
  rw [← mk_data (s.extract 0 p.size), take_data, ← h1, mk_data]
theorem prefix_no {s p : ByteArray} (h : Lib.hasPrefix s.data.toList p.data.toList = false) (hl : p.size ≤ s.size) : ¬ s.extract 0 p.size = p := by
  intro e
  have : Lib.hasPrefix s.data.toList p.data.toList = true := by
    unfold Lib.hasPrefix
    refine List.isPrefixOf_iff_prefix.2 (List.prefix_iff_eq_take.2 ?_)
    rw [data_length, ← take_data, e]
  rw [this] at h; cases h
theorem toList_beq (a b : ByteArray) : (a.toList == b.toList) = decide (a = b) := by
  rw [ByteArray.toList_eq, ByteArray.toList_eq, Bool.eq_iff_iff, beq_iff_eq, decide_eq_true_eq]
  constructor
  · intro h; rw [← mk_data a, h, mk_data]
  · intro h; rw [h]

set_option maxRecDepth 100000 in
set_option maxHeartbeats 2000000 in
theorem refBase_any (s : ByteArray) (w : World) (hs : s.size ≤ 100) :
    Calls Try.prog 45 #[.string s] w fun e w' => e = .returned (.tuple #[.string (baseT s).1, .bool (baseT s).2]) ∧ Below w.heap.size w w' := by
  go_enter Try.func45, Try.ntmps45
  go_wp2
  go_loopw [4, 5] (fun vb vt wr => ∃ (b t : ByteArray) (f : Nat), vb = .string b ∧ vt = .string t ∧ b.size ≤ t.size ∧ t.size ≤ s.size ∧ s.size ≤ f + t.size ∧ Hid (baseL s.data.toList = baseGo s.data.toList f b.data.toList t.data.toList) ∧ Below w.heap.size w wr) (fun _ vt _ => match vt with | .string t => s.size - t.size | _ => 0)
  case atStart => exact ⟨⟨#[]⟩, ⟨#[]⟩, s.size, rfl, rfl, Nat.le_refl _, Nat.zero_le _, Nat.le_add_right _ _, by unfold Hid baseL; rw [data_length], Below.refl _ _⟩
  case round =>
    obtain ⟨b, t, f, rfl, rfl, hbt, hts, hf, HP, hB⟩ := hrel
    by_cases hlt : t.size < s.size
    · have hc : (t.size : Int) < s.size := by omega
      have hx1 : (s.extract t.size (t.size + 1)).size ≤ 1 := by rw [ByteArray.size_extract]; omega
      have hsum : t.size + (s.extract t.size (t.size + 1)).size ≤ 9223372036854775807 := by omega
      have hsum2 : b.size + (s.extract t.size (t.size + 1)).size ≤ 9223372036854775807 := by omega
      have ha : (t ++ s.extract t.size (t.size + 1)).size ≤ 101 := by rw [ByteArray.size_append]; omega
      have hl1 : (s.extract t.size (t.size + 1)).size = 1 := by rw [ByteArray.size_extract]; omega
      have ha1 : t.size + 1 ≤ (closB (t ++ s.extract t.size (t.size + 1))).size := by
        rw [← closB_len]; refine Nat.le_trans ?_ (closL_len _); rw [data_length, ByteArray.size_append, hl1]; exact Nat.le_refl _
      have ha2 : (b ++ s.extract t.size (t.size + 1)).size ≤ t.size + 1 := by rw [ByteArray.size_append, hl1]; omega
      obtain ⟨f', rfl⟩ : ∃ f', f = f' + 1 := ⟨f - 1, by omega⟩
      have hd := baseGo_step (l := s.data.toList) (b := b.data.toList) (t := t.data.toList) (f := f') (by rw [data_length, data_length]; exact hlt)
      rw [data_length t, ← letter_data s t.size hlt, ← append_data, ← append_data, ← closB_data] at hd
      have Hd := Lib.hid hd
      clear hd hl1
      cases hp : Lib.hasPrefix s.data.toList (closB (t ++ s.extract t.size (t.size + 1))).data.toList with
      | false =>
        by_cases hb : s.size < (closB (t ++ s.extract t.size (t.size + 1))).size
        · have hb' : (s.size : Int) < (closB (t ++ s.extract t.size (t.size + 1))).size := by omega
          have Hp := Lib.hid hp
          clear hp
          go_wp2_with (go_at_call 43; refine (refClosure_any _ _ (by omega)).mono ?_; rintro e w1 ⟨rfl, hB1⟩)
          go_ret2
          exact ⟨by unfold baseT; rw [HP.out, Hd.out, Hp.out]; rfl, hB.trans (hB1.mono hB.size)⟩
        · have hb' : ¬ (s.size : Int) < (closB (t ++ s.extract t.size (t.size + 1))).size := by omega
          have hne := prefix_no hp (by omega)
          have hne2 : ((closB (t ++ s.extract t.size (t.size + 1))).toList == (s.extract 0 (closB (t ++ s.extract t.size (t.size + 1))).size).toList) = false := by
            rw [toList_beq, decide_eq_false]; exact fun e => hne e.symm
          have Hp := Lib.hid hp
          clear hp hne
          go_wp2_with (go_at_call 43; refine (refClosure_any _ _ (by omega)).mono ?_; rintro e w1 ⟨rfl, hB1⟩)
          go_ret2
          exact ⟨by unfold baseT; rw [HP.out, Hd.out, Hp.out]; rfl, hB.trans (hB1.mono hB.size)⟩
      | true =>
        obtain ⟨hlen, heq⟩ := prefix_yes hp
        have hb' : ¬ (s.size : Int) < (closB (t ++ s.extract t.size (t.size + 1))).size := by omega
        have hne2 : ((closB (t ++ s.extract t.size (t.size + 1))).toList == (s.extract 0 (closB (t ++ s.extract t.size (t.size + 1))).size).toList) = true := by
          rw [toList_beq, decide_eq_true]; exact heq.symm
        have Hp := Lib.hid hp
        clear hp heq
        go_wp2_with (go_at_call 43; refine (refClosure_any _ _ (by omega)).mono ?_; rintro e w1 ⟨rfl, hB1⟩)
        have hz : baseL s.data.toList = baseGo s.data.toList f' (b ++ s.extract t.size (t.size + 1)).data.toList (closB (t ++ s.extract t.size (t.size + 1))).data.toList := by rw [HP.out, Hd.out, Hp.out, if_pos rfl]
        go_roundw
        case rel => exact ⟨_, _, f', rfl, rfl, by omega, hlen, by omega, hz, hB.trans (hB1.mono hB.size)⟩
        case measure => simp only []; omega
    · have hc : ¬ (t.size : Int) < s.size := by omega
      go_wp2
      go_ret2
      exact ⟨by unfold baseT; rw [HP.out, baseGo_end (by rw [data_length, data_length]; exact hlt)]; simp [mk_data], hB⟩
end Go.Proofs.Yteejjcipdpojnaa
