/- Contracts of trim.reversed, trim.closed, trim.Closure, trim.Tower and trim.Base. -/
import Derived.Test.YtfelmjanffhahaaDoorTrLens
import Derived.Test.YtfelmjanffhahaaDoorShelfu
import Derived.Laws.IdiomStrings
import Derived.Lib.OwnBridge
namespace Go.Proofs.YtfelmjanffhahaaDoor.Tr
set_option linter.unusedVariables false
open Go.RowKit Go.Sort

theorem ret_str {a b : ByteArray} (h : a = b) : Ending.returned (.string a) = .returned (.string b) := by rw [h]

def encB (x : UInt8) : Value := .int .u8 (x.toNat : Int)
def revB (s : ByteArray) : ByteArray := ⟨s.data.toList.reverse.toArray⟩
theorem revB_size (s : ByteArray) : (revB s).size = s.size := by show (s.data.toList.reverse.toArray).size = s.data.size; simp
theorem revB_data (s : ByteArray) : (revB s).data.toList = s.data.toList.reverse := by simp [revB]

theorem bytes_holds (w : World) (s : ByteArray) (cap n m : Nat) (e : TypeId) (h : s.size ≤ n) : Holds encB (w.alloc (.cells (bytesRow s cap) e (n, m))) w.heap.size 0 s.data.toList.toArray := by
  intro j hj
  have hj' : j < s.data.size := by simpa using hj
  constructor
  · rw [Nat.zero_add, World.cell?_alloc_mark, bytesRow_at s cap j hj']
    rw [getElem!_pos _ j hj]
    simp [encB]
  · rw [Nat.zero_add, World.frozen?_alloc_mark]
    have : ¬ n ≤ j := by have : s.data.size = s.size := rfl; omega
    simp [this]

theorem bytesRow_size (s : ByteArray) (cap : Nat) : s.size ≤ (bytesRow s cap).size := by
  show s.data.size ≤ (bytesRow s cap).size
  unfold bytesRow; rw [Array.size_append, Array.size_map]; omega

theorem rev_cells (w : World) (blk : Nat) (s : ByteArray) (n : Nat) (h : Holds encB w blk 0 s.data.toList.toArray) :
    ∀ j (hj : j < s.data.toList.reverse.length), (putRow encB (Sort.ahead w n) blk 0 s.data.toList.reverse.toArray).cell? ((⟨blk, 0, none⟩ : Addr).add j) = some (.int .u8 (s.data.toList.reverse[j].toNat : Int)) := by
  intro j hj
  have h' : Holds encB (Sort.ahead w n) blk 0 s.data.toList.toArray := h
  have := cell?_putRow encB (Sort.ahead w n) blk 0 s.data.toList.toArray s.data.toList.reverse.toArray h' (by simp) j (by simpa using hj)
  rw [show ((⟨blk, 0, none⟩ : Addr).add j) = ⟨blk, 0 + j, none⟩ from by unfold Addr.add; split <;> simp_all]
  rw [this, encB, getElem!_pos _ j (by simpa using hj)]
  simp

set_option maxHeartbeats 1000000 in
theorem reversed_any (s : ByteArray) (w : World) (hs : s.size ≤ 1000) :
    Calls Tryd.prog 50 #[.string s] w fun e w' => e = .returned (.string (revB s)) ∧ Below w.heap.size w w' := by
  have kc := fun (w : World) => run_bytes_of_string (P := Tryd.prog) w 9 59 5 s Tryd.underlying9 Tryd.underlying59 Tryd.underlying5
  have hH := bytes_holds w.drew s (grownCap w s.size 0 5) (bytesRow s (grownCap w s.size 0 5)).size ((bytesRow s (grownCap w s.size 0 5)).size + 1) 5 (bytesRow_size _ _)
  have hR := AnyE.slices_Reverse Tryd.rev59 encB (fun _ => rfl) _ 0 (grownCap w s.size 0 5) s.data.toList _ hH (by rw [data_length]; omega)
  have hl : s.data.toList.length = s.size := data_length s
  rw [hl] at hR
  clear hl
  have HR := Lib.hid hR
  clear hR
  go_enter Tryd.func50, Tryd.ntmps50
  go_wp2_with fail
  refine HR.out.mono ?_
  rintro e w2 ⟨rfl, n, hw2⟩
  have hb : Below w.heap.size w w2 := by
    rw [hw2]; exact Lib.below_putRow ((Below.refl _ w).drew.alloc (Nat.le_refl _) _) (Nat.le_refl _)
  have hc := rev_cells _ _ s n hH
  rw [← hw2] at hc
  have hk := run_convert_bytes_back (P := Tryd.prog) w2 59 9 5 ⟨w.drew.heap.size, 0, none⟩ (grownCap w s.size 0 5) s.data.toList.reverse Tryd.underlying59 Tryd.underlying5 Tryd.underlying9 hc
  rw [List.length_reverse, data_length] at hk
  have hk' : Sem.run Tryd.prog (convert 59 9 (Value.slice (some ⟨w.heap.size, 0, none⟩) s.size (grownCap w s.size 0 5))) w2 = .ok (.string (revB s)) w2 := hk
  clear hc hw2 HR hH hk
  go_wp2
  go_ret
  exact ⟨rfl, hb⟩

/-- the closure: the list, then the reversal of all ahead of the longest palindrome at its end -/
def closL (l : List UInt8) : List UInt8 := l ++ (l.take (l.length - longEnd l)).reverse
def closB (s : ByteArray) : ByteArray := s ++ revB (s.extract 0 (s.size - longEnd s.data.toList))

theorem append_data (a b : ByteArray) : (a ++ b).data.toList = a.data.toList ++ b.data.toList := by simp
theorem closB_data (s : ByteArray) : (closB s).data.toList = closL s.data.toList := by
  unfold closB closL; rw [append_data, revB_data, take_data, data_length]
theorem longEnd_size (s : ByteArray) : longEnd s.data.toList ≤ s.size := by have := longEnd_le s.data.toList; rwa [data_length] at this
theorem extract_size (s : ByteArray) (a b : Nat) : (s.extract a b).size ≤ s.size := by rw [ByteArray.size_extract]; omega
theorem closB_size (s : ByteArray) : (closB s).size ≤ 2 * s.size := by
  unfold closB; rw [ByteArray.size_append, revB_size]; have := extract_size s 0 (s.size - longEnd s.data.toList); omega

set_option maxHeartbeats 1000000 in
theorem closed_any (s : ByteArray) (w : World) (hs : s.size ≤ 1000) :
    Calls Tryd.prog 36 #[.string s] w fun e w' => e = .returned (.string (closB s)) ∧ Below w.heap.size w w' := by
  have hle := longEnd_size s
  have hr := revB_size (s.extract 0 (s.size - longEnd s.data.toList))
  have hx := extract_size s 0 (s.size - longEnd s.data.toList)
  have hle1 : (longEnd s.data.toList : Int) ≤ s.size := by omega
  have hsum : s.size + (revB (s.extract 0 (s.size - longEnd s.data.toList))).size ≤ 9223372036854775807 := by omega
  have h0 : (0 : Int) ≤ (s.size : Int) - longEnd s.data.toList := by omega
  have h1 : (s.size : Int) - longEnd s.data.toList ≤ s.size := by omega
  have e3 : ((s.size : Int) - longEnd s.data.toList).toNat = s.size - longEnd s.data.toList := by omega
  have Hr := Lib.hid hr
  clear hr
  go_enter Tryd.func36, Tryd.ntmps36
  go_wp2_with (first
    | (go_at_call 51; refine (longestEnd_any _ _ (by unfold maxLen; omega)).mono ?_; rintro e w' ⟨rfl, n2, rfl⟩)
    | (go_at_call 50; refine (reversed_any _ _ (by omega)).mono ?_; rintro e w1 ⟨rfl, hb⟩))
  go_ret
  exact ⟨rfl, (below_drewN (Below.refl _ w) n2).trans hb⟩

/-- Closure's two results -/
def closureR (s : ByteArray) : ByteArray × Int := if wordB s.data.toList then (if 100 < (closB s).size then (⟨#[]⟩, 5) else (closB s, 0)) else (⟨#[]⟩, 2)

/-- from a tower on, letter by letter; nothing where a string on the way has more than 100 letters -/
def towerGo : List UInt8 → List UInt8 → Option (List UInt8)
  | t, [] => some t
  | t, c :: l => if 100 < (closL (t ++ [c])).length then none else towerGo (closL (t ++ [c])) l
def towerL (l : List UInt8) : Option (List UInt8) := towerGo [] l
def mk (l : List UInt8) : ByteArray := ⟨l.toArray⟩
theorem mk_data (s : ByteArray) : mk s.data.toList = s := by cases s; simp [mk]
theorem data_mk (l : List UInt8) : (mk l).data.toList = l := by simp [mk]
/-- Tower's two results -/
def towerR (s : ByteArray) : ByteArray × Int := if wordB s.data.toList then (match towerL s.data.toList with | none => (⟨#[]⟩, 5) | some t => (mk t, 0)) else (⟨#[]⟩, 2)

theorem towerGo_drop (t l : List UInt8) (k : Nat) (hk : k < l.length) : towerGo t (l.drop k) = if 100 < (closL (t ++ [l.getD k 0])).length then none else towerGo (closL (t ++ [l.getD k 0])) (l.drop (k + 1)) := by
  rw [List.drop_eq_getElem_cons hk, towerGo, List.getD_eq_getElem?_getD, List.getElem?_eq_getElem hk]; rfl

theorem letter_data (s : ByteArray) (k : Nat) (hk : k < s.size) : (s.extract k (k + 1)).data.toList = [s.data.toList.getD k 0] := by
  rw [Lib.extract_data, List.drop_eq_getElem_cons (by rw [data_length]; exact hk), show k + 1 - k = 1 from by omega]
  rw [List.take_succ_cons, List.take_zero, List.getD_eq_getElem?_getD, List.getElem?_eq_getElem (by rw [data_length]; exact hk)]; rfl

theorem closB_len (s : ByteArray) : (closL s.data.toList).length = (closB s).size := by rw [← closB_data, data_length]

set_option maxHeartbeats 1000000 in
theorem Tower_any (s : ByteArray) (w : World) (hs : s.size ≤ 1000) :
    Calls Tryd.prog 16 #[.string s] w fun e w' => e = .returned (.tuple #[.string (towerR s).1, .int .i64 (towerR s).2]) ∧ Below w.heap.size w w' := by
  cases hw : wordB s.data.toList with
  | false =>
    have hr : towerR s = (⟨#[]⟩, 2) := by unfold towerR; rw [hw]; rfl
    have Hr := Lib.hid hr
    have Hw := Lib.hid hw
    clear hr hw
    go_enter Tryd.func16, Tryd.ntmps16
    go_wp2_with (go_at_call 35; refine (isWord_any _ _ (by unfold maxLen; omega)).mono ?_; rintro e w' ⟨rfl, rfl⟩; rw [Hw.out])
    go_ret2
    exact ⟨by rw [Hr.out]; rfl, Below.refl _ _⟩
  | true =>
    have Hw := Lib.hid hw
    clear hw
    go_enter Tryd.func16, Tryd.ntmps16
    go_wp2_with (go_at_call 35; refine (isWord_any _ _ (by unfold maxLen; omega)).mono ?_; rintro e w' ⟨rfl, rfl⟩; rw [Hw.out])
    go_loopw [4, 11] (fun v i wr => ∃ (t : ByteArray) (k : Nat), k ≤ s.size ∧ i = .int .i64 k ∧ v = .string t ∧ t.size ≤ 100 ∧ Hid (towerL s.data.toList = towerGo t.data.toList (s.data.toList.drop k)) ∧ Below w.heap.size w wr) (fun _ i _ => s.size - (intOf i).toNat)
    case atStart => exact ⟨⟨#[]⟩, 0, Nat.zero_le _, rfl, rfl, by decide, rfl, Below.refl _ _⟩
    case round =>
      obtain ⟨t, k, hk, rfl, rfl, ht, HP, hB⟩ := hrel
      by_cases hlt : k < s.size
      · have hc : (k : Int) < s.size := by omega
        have hx := extract_size s k (k + 1)
        have hx1 : (s.extract k (k + 1)).size ≤ 1 := by rw [ByteArray.size_extract]; omega
        have hsum : t.size + (s.extract k (k + 1)).size ≤ 9223372036854775807 := by omega
        have ha : (t ++ s.extract k (k + 1)).size ≤ 101 := by rw [ByteArray.size_append]; omega
        have hd := towerGo_drop t.data.toList s.data.toList k (by rw [data_length]; exact hlt)
        rw [← letter_data s k hlt, ← append_data, closB_len, ← closB_data] at hd
        have Hd := Lib.hid hd
        clear hd
        by_cases hb : 100 < (closB (t ++ s.extract k (k + 1))).size
        · have hb' : (100 : Int) < (closB (t ++ s.extract k (k + 1))).size := by omega
          go_wp2_with (go_at_call 36; refine (closed_any _ _ (by omega)).mono ?_; rintro e w1 ⟨rfl, hB1⟩)
          go_ret2
          exact ⟨by unfold towerR; rw [Hw.out, if_pos rfl, HP.out, Hd.out, if_pos hb]; rfl, hB.trans (hB1.mono hB.size)⟩
        · have hb' : ¬ (100 : Int) < (closB (t ++ s.extract k (k + 1))).size := by omega
          go_wp2_with (go_at_call 36; refine (closed_any _ _ (by omega)).mono ?_; rintro e w1 ⟨rfl, hB1⟩)
          have hz : towerL s.data.toList = towerGo (closB (t ++ s.extract k (k + 1))).data.toList (s.data.toList.drop (k + 1)) := by rw [HP.out, Hd.out, if_neg hb]
          go_roundw
          case rel => exact ⟨_, k + 1, by omega, by go_num, rfl, by omega, hz, hB.trans (hB1.mono hB.size)⟩
          case measure => simp [intOf]; omega
      · obtain rfl : k = s.size := by omega
        go_wp2
        go_ret2
        exact ⟨by unfold towerR; rw [Hw.out, if_pos rfl, HP.out, List.drop_of_length_le (by rw [data_length]; exact Nat.le_refl _), towerGo]; simp [mk_data], hB⟩


end Go.Proofs.YtfelmjanffhahaaDoor.Tr
