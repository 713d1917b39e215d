/- The contract of the iterator trim.lastParts: the beginnings of the palindromes that end a part of the word. -/
import Derived.Test.YteejjcipdpojnaaWord
import Derived.RangeFuncNested
import Derived.RangeFuncBound
import Derived.RangeFuncCalls
import Derived.RangeFuncLeaves
import Derived.RangeFuncBox
import Derived.Shelf.Abstract
import Derived.Shelf.RegionOpen
import Derived.WalkKit
import Derived.OwnWalkIn
import Derived.TacticsInMore
import Derived.LoopNIn
import Derived.LoopIn
import Derived.Maps.AppendAt
namespace Go.Proofs.Yteejjcipdpojnaa
set_option linter.unusedVariables false
open Go.RowKit Go.Shelf
attribute [local go_sem] Oper.semAt_some

/-- a beginning before e -/
abbrev Beg (e : Nat) := { b : Nat // b < e }
/-- the beginnings before k of palindromes that end at e -/
def begTo (l : List UInt8) (e k : Nat) : List (Beg e) := (List.range k).filterMap fun b => if h : b < e then (if pal ((l.take e).drop b) then some ⟨b, h⟩ else none) else none
def begs (l : List UInt8) (e : Nat) : List (Beg e) := begTo l e e
theorem begTo_yes {l : List UInt8} {e k : Nat} (hk : k < e) (hp : pal ((l.take e).drop k) = true) : begTo l e (k + 1) = begTo l e k ++ [⟨k, hk⟩] := by
  unfold begTo
  rw [List.range_succ, List.filterMap_append]
  simp [hk, hp]
theorem begTo_no {l : List UInt8} {e k : Nat} (hp : pal ((l.take e).drop k) = false) : begTo l e (k + 1) = begTo l e k := by
  unfold begTo
  rw [List.range_succ, List.filterMap_append]
  simp [hp]
theorem begTo_len (l : List UInt8) (e k : Nat) : (begTo l e k).length ≤ k := by
  unfold begTo
  exact Nat.le_trans (List.length_filterMap_le _ _) (by simp)
theorem begTo_prefix (l : List UInt8) (e k f : Nat) : begTo l e k <+: begTo l e (k + f) := by
  unfold begTo
  rw [List.range_add, List.filterMap_append]
  exact List.prefix_append _ _

/-- two blocks lie as they lay -/
def Kept2 (Be Bw : Nat) (A B : World) : Prop := B.heap[Be]? = A.heap[Be]? ∧ B.heap[Bw]? = A.heap[Bw]?
theorem kept2_t {Be Bw : Nat} {A B C : World} (h : Kept2 Be Bw A B) (k : Kept2 Be Bw B C) : Kept2 Be Bw A C := ⟨k.1.trans h.1, k.2.trans h.2⟩
theorem kept2_b {Be Bw : Nat} {w : World} (h1 : Be < w.heap.size) (h2 : Bw < w.heap.size) (W : World) (l : Nat) (o o' : Obj) (hl : w.heap.size ≤ l) (_ : W.heap[l]? = some o) (_ : o.isCells = false) (_ : o.isWalk = false) : Kept2 Be Bw W (W.putObj l o') :=
  ⟨World.putObj_heap_other (by omega), World.putObj_heap_other (by omega)⟩
theorem drewN_grown {W : World} {n : Nat} {row : Option Nat} : W.grownBy (W.drewN n) row := ⟨rfl, rfl, rfl, Nat.le_refl _, fun _ _ _ => rfl⟩
theorem ext_data (s : ByteArray) (b e : Nat) : (s.extract b e).data.toList = (s.data.toList.take e).drop b := by rw [Lib.extract_data, List.drop_take]

set_option maxRecDepth 100000 in
set_option maxHeartbeats 2000000 in
theorem last1_in (n : Nat) (hn : 1 ≤ n) (s : ByteArray) (hs : s.size ≤ 1000) (e : Nat) (he : e ≤ s.size) (l Be Bw : Nat) (J Jx : List (Beg e) → World → Prop)
    (W0 : Nat) (hJ : AbidesFrom W0 J)
    (hY : ∀ pre x W, J pre W → pre.length < e → YieldAt Fence.wide (n - 1) Try.prog l #[.int .i64 x.1] W fun e' W' =>
      (e' = .returned (.bool true) ∧ J (pre ++ [x]) W' ∧ Kept2 Be Bw W W') ∨ (e' = .returned (.bool false) ∧ Jx (pre ++ [x]) W'))
    (W : World) (hBe : W.cell? ⟨Be, 0, none⟩ = some (.int .i64 e)) (hBw : W.cell? ⟨Bw, 0, none⟩ = some (.string s)) (h0 : J [] W) :
    CallsIn Fence.wide n Try.prog 79 #[.func (.yield l) #[] #[], .pointer (some ⟨Be, 0, none⟩), .pointer (some ⟨Bw, 0, none⟩)] W fun e' W' => (∃ v, e' = .returned v) ∧
      ((∃ ys, ys = begs s.data.toList e ∧ J ys W') ∨ (∃ pre, pre <+: begs s.data.toList e ∧ Jx pre W')) := by
  refine callsIn_of_wp Try.func79 rfl trivial ?_ rfl
  simp only [Try.ntmps79, List.size_toArray, List.length_cons, List.length_nil, Nat.reduceAdd, Nat.reduceSub, Array.replicate_succ, Array.replicate_zero, List.push_toArray, List.append_toArray, List.nil_append, List.cons_append]
  gi_wp2
  gi_loopw [6] (fun p wr => ∃ k : Nat, k ≤ e ∧ p = .int .i64 k ∧ J (begTo s.data.toList e k) wr ∧ wr.cell? ⟨Be, 0, none⟩ = some (.int .i64 e) ∧ wr.cell? ⟨Bw, 0, none⟩ = some (.string s))
    (fun p _ => e - (intOf p).toNat)
  case atStart => exact ⟨0, Nat.zero_le _, rfl, h0, hBe, hBw⟩
  case round =>
    clear h0 hBe hBw
    obtain ⟨k, hk, rfl, hJs, hBe, hBw⟩ := hrel
    by_cases hlt : k < e
    · have hc : (k : Int) < e := by omega
      have h1 : (k : Int) ≤ e := by omega
      have h2 : (e : Int) ≤ s.size := by omega
      cases hp : pal (s.extract k e).data.toList with
      | true =>
        have hp2 : pal ((s.data.toList.take e).drop k) = true := by rw [← ext_data]; exact hp
        have hsn := begTo_yes hlt hp2
        have Hsn := Lib.hid hsn
        have Hp := Lib.hid hp
        clear hp hp2 hsn
        gi_wp2_with (refine ⟨trivial, ?_⟩; gi_at_call 66; refine (callsIn_wide.2 (isPal _ _ (by unfold maxLen; rw [ByteArray.size_extract]; omega))).mono ?_; rintro e' w1 ⟨rfl, n1, rfl⟩; rw [Hp.out])
        obtain ⟨fn, tmps, assign, body, hy, hR⟩ := hY _ ⟨k, hlt⟩ (wr.drewN n1) (hJ _ _ _ none hJs drewN_grown (fun r h => by cases h)) (by have := begTo_len s.data.toList e k; omega)
        gi_wp2
        refine hR.mono ?_
        rintro e' W3 (⟨rfl, hJ3, hk3⟩ | ⟨rfl, hJx3⟩)
        · have hBe3 : W3.cell? ⟨Be, 0, none⟩ = some (.int .i64 e) := (World.cell?_of_block (a := ⟨Be, 0, none⟩) hk3.1).trans hBe
          have hBw3 : W3.cell? ⟨Bw, 0, none⟩ = some (.string s) := (World.cell?_of_block (a := ⟨Bw, 0, none⟩) hk3.2).trans hBw
          gi_wp2
          go_roundw
          case rel => exact ⟨k + 1, by omega, by go_num, by rw [Hsn.out]; exact hJ3, hBe3, hBw3⟩
          case measure => simp [intOf]; omega
        · gi_wp2
          refine bodyPost_ret (results_none rfl _ _ _) rfl ?_
          refine ⟨⟨_, rfl⟩, .inr ⟨_, ?_, hJx3⟩⟩
          rw [← Hsn.out]
          have := begTo_prefix s.data.toList e (k + 1) (e - (k + 1))
          rwa [show k + 1 + (e - (k + 1)) = e from by omega] at this
      | false =>
        have hp2 : pal ((s.data.toList.take e).drop k) = false := by rw [← ext_data]; exact hp
        have hsn := begTo_no hp2
        have Hsn := Lib.hid hsn
        have Hp := Lib.hid hp
        clear hp hp2 hsn
        gi_wp2_with (refine ⟨trivial, ?_⟩; gi_at_call 66; refine (callsIn_wide.2 (isPal _ _ (by unfold maxLen; rw [ByteArray.size_extract]; omega))).mono ?_; rintro e' w1 ⟨rfl, n1, rfl⟩; rw [Hp.out])
        refine ⟨fun _ h => (by cases h), ?_⟩
        gi_wp2
        go_roundw
        case rel => exact ⟨k + 1, by omega, by go_num, by rw [Hsn.out]; exact hJ _ _ _ none hJs drewN_grown (fun r h => by cases h), hBe, hBw⟩
        case measure => simp [intOf]; omega
    · obtain rfl : k = e := by omega
      gi_wp2
      go_end0
      exact ⟨⟨_, rfl⟩, .inl ⟨_, rfl, hJs⟩⟩

set_option maxHeartbeats 1000000 in
theorem lastParts_in (n : Nat) (s : ByteArray) (e : Nat) (w : World) :
    CallsIn Fence.wide n Try.prog 64 #[.string s, .int .i64 e] w fun e' w' => e' = .returned (.func (.func 79) #[] #[.pointer (some ⟨w.heap.size + 1, 0, none⟩), .pointer (some ⟨w.heap.size, 0, none⟩)]) ∧
      w' = (w.alloc (.cells #[.string s] 9)).alloc (.cells #[.int .i64 e] 3) := by
  refine callsIn_of_wp Try.func64 rfl trivial ?_ rfl
  simp only [Try.ntmps64, List.size_toArray, List.length_cons, List.length_nil, Nat.reduceAdd, Nat.reduceSub, Array.replicate_succ, Array.replicate_zero, List.push_toArray, List.append_toArray, List.nil_append, List.cons_append]
  gi_wp2
  go_ret
  exact ⟨rfl, rfl⟩

theorem last_stops (n : Nat) (hn : 1 ≤ n) (s : ByteArray) (hs : s.size ≤ 1000) (e : Nat) (he : e ≤ s.size) (Be Bw : Nat) (w : World) (hle : Be < w.heap.size) (hlw : Bw < w.heap.size)
    (hBe : w.cell? ⟨Be, 0, none⟩ = some (.int .i64 e)) (hBw : w.cell? ⟨Bw, 0, none⟩ = some (.string s)) :
    SeqStopsK Fence.wide n Try.prog 79 #[.pointer (some ⟨Be, 0, none⟩), .pointer (some ⟨Bw, 0, none⟩)] (fun x : Beg e => #[Value.int .i64 x.1]) (Kept2 Be Bw) (fun ys => ys = begs s.data.toList e) (fun pre => pre <+: begs s.data.toList e) e w := fun l J Jx W hW hJ _ hY hj =>
  last1_in n hn s hs e he l Be Bw J Jx W.heap.size hJ hY W ((hW.cell (p := ⟨Be, 0, none⟩) hle).trans hBe) ((hW.cell (p := ⟨Bw, 0, none⟩) hlw).trans hBw) hj
end Go.Proofs.Yteejjcipdpojnaa
