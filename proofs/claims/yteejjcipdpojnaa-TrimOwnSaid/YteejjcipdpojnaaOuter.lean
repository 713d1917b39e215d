/- Contracts of trim.innerSearch, trim.Inner and trim.Outer. -/
import Derived.Test.YteejjcipdpojnaaInner
import Derived.Laws.EntriesVeiled
namespace Go.Proofs.Yteejjcipdpojnaa
set_option linter.unusedVariables false
open Go.RowKit Go.Maps

/-- what innerSearch hands back: a function over three new blocks, nothing found yet -/
def Searcher (s : ByteArray) (w : World) (e : Ending) (w' : World) : Prop :=
  ∃ Bw Bm Bf M, e = .returned (.func (.func 81) #[] #[.pointer (some ⟨Bw, 0, none⟩), .pointer (some ⟨Bm, 0, none⟩), .pointer (some ⟨Bf, 0, none⟩)]) ∧
    Found s Bw Bm Bf M w' [] ∧ Below w.heap.size w w' ∧ w.heap.size ≤ M

set_option maxRecDepth 100000 in
set_option maxHeartbeats 1000000 in
theorem innerSearch_any (s : ByteArray) (w : World) : Calls Try.prog 68 #[.string s] w (Searcher s w) := by
  have hmf : ∀ (fn : Fn) (first cap : Array Value) (w : World), (Instr.makeFunc fn first cap).run Try.prog w = .ok (.func fn first cap) w := fun _ _ _ _ => rfl
  have hmm := @run_makeMap Try.prog
  go_enter Try.func68, Try.ntmps68
  go_wp2
  go_ret
  refine ⟨w.heap.size, w.heap.size + 1 + 1, w.heap.size + 1 + 1 + 1, w.heap.size + 1, rfl, ⟨?_, ?_, ?_, ?_, (fun q hq => by cases hq), List.nodup_nil⟩, ?_, by omega⟩
  · go_cell
  · go_cell
  · go_cell
  · have h := World.ownsMap_made (H := Unit) (w.alloc (.cells #[.string s] 9)) Try.prog 79 (plainElem Try.prog 9)
    rw [World.size_alloc] at h
    exact (h.alloc _).alloc _
  · go_grown

def innerL (l : List UInt8) : List UInt8 := innerAt l l.length 0
/-- Inner's two results -/
def innerR (s : ByteArray) : ByteArray × Int := if wordB s.data.toList then (mk (innerL s.data.toList), 0) else (⟨#[]⟩, 2)

theorem word_size {s : ByteArray} (hw : wordB s.data.toList = true) : s.size ≤ 100 := by
  unfold wordB at hw; rw [Bool.and_eq_true, decide_eq_true_eq, data_length] at hw; exact hw.1

theorem grown_below {w W W' : World} {M : Nat} (h : Below w.heap.size w W) (hM : w.heap.size ≤ M) (hg : W.grownBy W' (some M)) : Below w.heap.size w W' :=
  h.grown hg h.size (fun k e => by cases e; exact hM)

set_option maxRecDepth 100000 in
set_option maxHeartbeats 1000000 in
theorem Inner_any (s : ByteArray) (w : World) (hs : s.size ≤ 1000) :
    Calls Try.prog 46 #[.string s] w fun e w' => e = .returned (.tuple #[.string (innerR s).1, .int .i64 (innerR s).2]) ∧ Below w.heap.size w w' := by
  cases hw : wordB s.data.toList with
  | false =>
    have hr : innerR s = (⟨#[]⟩, 2) := by unfold innerR; rw [hw]; rfl
    have Hr := Lib.hid hr
    have Hw := Lib.hid hw
    clear hr hw
    go_enter Try.func46, Try.ntmps46
    go_wp2_with (go_at_call 54; refine (isWord_any _ _ (by unfold maxLen; omega)).mono ?_; rintro e w' ⟨rfl, rfl⟩; rw [Hw.out])
    go_ret2
    exact ⟨by rw [Hr.out]; rfl, Below.refl _ _⟩
  | true =>
    have h100 := word_size hw
    have hr : innerR s = (mk (innerAt s.data.toList s.size 0), 0) := by unfold innerR innerL; rw [hw, data_length]; rfl
    have Hr := Lib.hid hr
    have Hw := Lib.hid hw
    clear hr hw
    go_enter Try.func46, Try.ntmps46
    go_wp2_with (first
      | (go_at_call 54; refine (isWord_any _ _ (by unfold maxLen; omega)).mono ?_; rintro e w' ⟨rfl, rfl⟩; rw [Hw.out])
      | (go_at_call 68; refine (innerSearch_any s _).mono ?_; rintro e w1 ⟨Bw, Bm, Bf, M, rfl, hF, hB, hM⟩)
      | (go_at_call 81; refine (search_any s h100 Bw Bm Bf M s.size 0 s.size _ _ _ [] rfl rfl (by omega) (by omega) hF).mono ?_; rintro e w2 ⟨rfl, L1, hF1, _, hG⟩))
    go_ret2
    exact ⟨by rw [Hr.out]; rfl, grown_below hB hM hG⟩
end Go.Proofs.Yteejjcipdpojnaa
