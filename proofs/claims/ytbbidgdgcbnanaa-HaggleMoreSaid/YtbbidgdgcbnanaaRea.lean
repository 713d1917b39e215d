/- reached: its iterator. -/
import Derived.Test.YtbbidgdgcbnanaaVst
namespace Go.Proofs.Ytbbidgdgcbnanaa
set_option linter.unusedVariables false
open Go.RowKit Go.Shelf
attribute [local go_sem] Oper.semAt_some

def valF {n : Nat} (l : List (Fin n)) : List Nat := l.map Fin.val
theorem valF_snoc {n : Nat} (l : List (Fin n)) (x : Fin n) : valF (l ++ [x]) = valF l ++ [x.val] := by simp [valF]
theorem valF_len {n : Nat} (l : List (Fin n)) : (valF l).length = l.length := by simp [valF]
/-- what a function of the next nodes owes: the same list at each call, as long as Φ holds -/
def Nexts (nx : Nat → List Nat) (n nF : Nat) (lb : Array Value) (Φ : World → Prop) : Prop :=
  ∀ m i X, i < n → Φ X → CallsIn Fence.wide m Try.prog nF (#[.int .i64 (i : Nat)] ++ lb) X fun e X' => ∃ a cap, e = .returned (.slice a (nx i).length cap) ∧ Row X' a (nx i).length (natL (nx i)) ∧ X.grownBy X' none ∧ ((nx i).length ≤ 1 ∨ ∀ Y, Φ Y → Row Y a (nx i).length (natL (nx i)))
theorem reached_in (nF : Nat) (lb : Array Value) (k : Nat) (w : World) :
    CallsIn Fence.wide k Try.prog 64 #[.func (.func nF) #[] lb] w fun e' w' => e' = .returned (.func (.func 94) #[] #[.pointer (some ⟨w.heap.size, 0, none⟩)]) ∧
      w' = w.alloc (.cells #[.func (.func nF) #[] lb] 88) := by
  refine callsIn_of_wp Try.func64 rfl trivial ?_ rfl
  simp only [Try.ntmps64, List.size_toArray, List.length_cons, List.length_nil, Nat.reduceAdd, Nat.reduceSub, Array.replicate_succ, Array.replicate_zero, List.push_toArray, List.append_toArray, List.nil_append, List.cons_append]
  gi_wp2
  go_ret
  exact ⟨rfl, rfl⟩
set_option maxRecDepth 100000 in
set_option maxHeartbeats 4000000 in
theorem reached_visits (nx : Nat → List Nat) (n : Nat) (hn0 : 0 < n) (hn : n ≤ 1000) (hnx : ∀ i c, i < n → c ∈ nx i → i < c ∧ c < n) (hnl : ∀ i, i < n → (nx i).length ≤ 1000) (nF : Nat) (lb : Array Value) (eg : ∀ args w, (callFunc nF args).run Try.prog w = .ok (.enter nF args) w)
    (Φ : World → Prop) (hN : Nexts nx n nF lb Φ) (k T B1 Be : Nat) (W : World) (hBe : W.cell? ⟨Be, 0, none⟩ = some (.func (.func nF) #[] lb)) :
    VisitsR Fence.wide k Try.prog 94 #[.pointer (some ⟨Be, 0, none⟩)] (fun x : Fin n => #[.int .i64 (x.val : Nat)]) T B1 (fun ys => valF ys = visN nx n 0) (fun pre => valF pre <+: visN nx n 0) (visN nx n 0).length Φ W := by
  intro l J Jx hJ hJx hΦ hRC hY h0
  have hv := visit_in nx n hn hnx hnl nF lb eg l (visN nx n 0).length (fun l X => ∃ l' : List (Fin n), valF l' = l ∧ J l' X) (fun l X => ∃ l' : List (Fin n), valF l' = l ∧ Jx l' X) Φ
    (fun s A B ⟨l', e, hj⟩ hg => ⟨l', e, hJ.toN l' A B hj hg⟩) (fun pre X ⟨l', _, hj⟩ => hΦ l' X hj) hN
    (fun m pre x X ⟨l', e, hj⟩ hl hx => by
      refine YieldAt.anyDepth rfl m (YieldAt.mono (hY l' ⟨x, hx⟩ X hj (by rw [← e, valF_len] at hl; exact hl)) ?_)
      rintro e' X' (⟨h1, h2, h3⟩ | ⟨h1, h2⟩)
      · exact .inl ⟨h1, ⟨_, by rw [valF_snoc, e], h2⟩⟩
      · exact .inr ⟨h1, ⟨_, by rw [valF_snoc, e], h2⟩⟩)
    n 0 (k - 1) [] W hn0 (by omega) ⟨[], rfl, h0⟩ (by simp)
  rw [List.nil_append] at hv
  have HV := Lib.hid hv
  clear hv hY hJ hJx hΦ h0 hN hRC
  refine callsIn_of_wp Try.func94 rfl trivial ?_ rfl
  simp only [Try.ntmps94, List.size_toArray, List.length_cons, List.length_nil, Nat.reduceAdd, Nat.reduceSub, Array.replicate_succ, Array.replicate_zero, List.push_toArray, List.append_toArray, List.nil_append, List.cons_append]
  gi_wp2_with fail
  refine ⟨trivial, (fun h => by cases h), ?_⟩
  refine (HV.out).mono ?_
  rintro e W2 (⟨rfl, ⟨l', he, hj⟩⟩ | ⟨rfl, q, hq, ⟨l', he, hx⟩⟩)
  · gi_wp2
    go_end0
    exact ⟨⟨_, rfl⟩, .inl ⟨_, he, hj⟩⟩
  · gi_wp2
    go_end0
    exact ⟨⟨_, rfl⟩, .inr ⟨l', by rw [he]; exact hq, hx⟩⟩

/-- the leaves among them -/
def leafF (lf : Nat → Bool) {n : Nat} (l : List (Fin n)) : List (Fin n) := l.filter fun x => lf x.val
theorem leaves_in (g n cap : Nat) (dv : Value) (hdv : dv.oneCell' = true) (nF : Nat) (lb : Array Value) (k : Nat) (w : World) :
    CallsIn Fence.wide k Try.prog 80 #[.agg #[.slice (some ⟨g, 0, none⟩) n cap, dv], .func (.func nF) #[] lb] w fun e' w' => e' = .returned (.func (.func 103) #[] #[.pointer (some ⟨w.heap.size + 1, 0, none⟩), .pointer (some ⟨w.heap.size, 0, none⟩)]) ∧
      w' = (w.alloc (.cells #[.slice (some ⟨g, 0, none⟩) n cap, dv] 70)).alloc (.cells #[.func (.func nF) #[] lb] 88) := by
  refine callsIn_of_wp Try.func80 rfl trivial ?_ rfl
  simp only [Try.ntmps80, List.size_toArray, List.length_cons, List.length_nil, Nat.reduceAdd, Nat.reduceSub, Array.replicate_succ, Array.replicate_zero, List.push_toArray, List.append_toArray, List.nil_append, List.cons_append]
  gi_wp2
  go_ret
  exact ⟨rfl, rfl⟩
end Go.Proofs.Ytbbidgdgcbnanaa
