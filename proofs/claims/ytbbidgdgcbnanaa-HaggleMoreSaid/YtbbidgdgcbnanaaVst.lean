/- visit: all that is reached from a node, each before what is reached through it. -/
import Derived.Test.YtbbidgdgcbnanaaLsti
import Derived.Shelf.Abstract
namespace Go.Proofs.Ytbbidgdgcbnanaa
set_option linter.unusedVariables false
open Go.RowKit Go.Shelf
attribute [local go_sem] Oper.semAt_some

theorem room_of_none {F : Fence} (hd : F.depth = none) (k : Nat) : F.room k := fun d h => by rw [hd] at h; cases h
theorem RoundIn.anyDepth {F : Fence} (hd : F.depth = none) {m m' : Nat} {P : Program} {l : Nat} {f : FuncId} {tmps : Array Value} {assign body : Code} {w : World} {R : Ending → World → Prop}
    (h : RoundIn F m P l f tmps assign body w R) : RoundIn F m' P l f tmps assign body w R := ⟨h.1, fun c cs _ => h.2 c cs (room_of_none hd _)⟩
theorem YieldAt.anyDepth {F : Fence} (hd : F.depth = none) {m : Nat} (m' : Nat) {P : Program} {l : Nat} {args : Array Value} {W : World} {R : Ending → World → Prop} (h : YieldAt F m P l args W R) : YieldAt F m' P l args W R := by
  obtain ⟨fn, tmps, assign, body, hy, hR⟩ := h
  exact ⟨fn, tmps, assign, body, hy, RoundIn.anyDepth hd hR⟩
def natL (l : List Nat) : List Value := intL (l.map fun c : Nat => (c : Int))
theorem natL_length (l : List Nat) : (natL l).length = l.length := by unfold natL intL; rw [List.length_map, List.length_map]
theorem natL_get {l : List Nat} {k c : Nat} (h : l[k]? = some c) : (natL l)[k]? = some (.int .i64 (c : Int)) := by unfold natL intL; rw [List.getElem?_map, List.getElem?_map, h]; rfl
/-- what is visited from a node -/
def visN (nx : Nat → List Nat) : Nat → Nat → List Nat
  | 0, _ => []
  | m + 1, i => i :: (nx i).flatMap (visN nx m)
def visTo (nx : Nat → List Nat) (m i k : Nat) : List Nat := i :: ((nx i).take k).flatMap (visN nx m)
theorem visTo_succ (nx : Nat → List Nat) (m i k : Nat) {c : Nat} (h : (nx i)[k]? = some c) : visTo nx m i (k + 1) = visTo nx m i k ++ visN nx m c := by
  unfold visTo
  rw [List.take_add_one, h, Option.toList, List.flatMap_append]; simp
theorem visTo_prefix (nx : Nat → List Nat) (m i k : Nat) : visTo nx m i k <+: visN nx (m + 1) i := by
  unfold visTo
  show _ <+: i :: (nx i).flatMap (visN nx m)
  conv => rhs; rw [← List.take_append_drop k (nx i), List.flatMap_append]
  rw [← List.cons_append]
  exact List.prefix_append _ _
theorem visTo_all (nx : Nat → List Nat) (m i k : Nat) (h : (nx i).length ≤ k) : visTo nx m i k = visN nx (m + 1) i := by
  unfold visTo
  rw [List.take_of_length_le h]; rfl
def stopP (p : Prop) : Prop := p
theorem stopL {p : Prop} (h : stopP p) : p := h
set_option maxRecDepth 100000 in
set_option maxHeartbeats 4000000 in
theorem visit_in (nx : Nat → List Nat) (n : Nat) (hn : n ≤ 1000) (hnx : ∀ i c, i < n → c ∈ nx i → i < c ∧ c < n) (hnl : ∀ i, i < n → (nx i).length ≤ 1000) (nF : Nat) (lb : Array Value) (eg : ∀ args w, (callFunc nF args).run Try.prog w = .ok (.enter nF args) w) (l M : Nat) (J Jx : List Nat → World → Prop) (Φ : World → Prop) (hJ : BearsN J) (hJT : ∀ pre W, J pre W → Φ W)
    (hN : ∀ m i X, i < n → Φ X → CallsIn Fence.wide m Try.prog nF (#[.int .i64 (i : Nat)] ++ lb) X fun e X' => ∃ a cap, e = .returned (.slice a (nx i).length cap) ∧ Row X' a (nx i).length (natL (nx i)) ∧ X.grownBy X' none ∧ ((nx i).length ≤ 1 ∨ ∀ Y, Φ Y → Row Y a (nx i).length (natL (nx i))))
    (hY : ∀ m pre (x : Nat) W, J pre W → pre.length < M → x < n → YieldAt Fence.wide m Try.prog l #[.int .i64 (x : Nat)] W fun e W' => (e = .returned (.bool true) ∧ J (pre ++ [x]) W') ∨ (e = .returned (.bool false) ∧ Jx (pre ++ [x]) W')) :
    ∀ (m i k : Nat) (pre : List Nat) (W : World), i < n → n - i ≤ m → J pre W → pre.length + (visN nx m i).length ≤ M →
      CallsIn Fence.wide k Try.prog 95 #[.int .i64 (i : Nat), .func (.func nF) #[] lb, .func (.yield l) #[] #[]] W fun e W' =>
        (e = .returned (.bool true) ∧ J (pre ++ visN nx m i) W') ∨ (e = .returned (.bool false) ∧ ∃ q, q <+: visN nx m i ∧ Jx (pre ++ q) W') := by
  intro m
  induction m with
  | zero => intro i k pre W hi hm; omega
  | succ m ih =>
    intro i k pre W hi hm hj hM
    have hpM : pre.length < M := by
      have : (visN nx (m + 1) i).length = 1 + ((nx i).flatMap (visN nx m)).length := by show (i :: _).length = _; rw [List.length_cons]; omega
      omega
    obtain ⟨fn, tmps, assign, body, hy, hR⟩ := hY (k - 1) pre i W hj hpM hi
    have hnxi := fun c hc => hnx i c hi hc
    have hli := hnl i hi
    have Hto := Lib.hid fun k c (h : (nx i)[k]? = some c) => visTo_succ nx m i k h
    have Hpre := Lib.hid fun k => visTo_prefix nx m i k
    have Hall := Lib.hid fun k h => visTo_all nx m i k h
    have H0 : Hid (visTo nx m i 0 = [i]) := rfl
    obtain ⟨V, hV⟩ : ∃ V, visN nx (m + 1) i = V := ⟨_, rfl⟩
    rw [hV] at Hpre Hall hM ⊢
    have HNi := Lib.hid fun mm X (h : Φ X) => hN mm i X hi h
    obtain ⟨L, hL⟩ : ∃ L, nx i = L := ⟨_, rfl⟩
    rw [hL] at HNi Hto Hall hnxi hli
    have Hnx := Lib.hid hnxi
    have Hih := Lib.hid fun (c : Nat) (hc : c ∈ L) kk pre' W' hj' hM' => ih c kk pre' W' (Hnx.out c hc).2 (by have := (Hnx.out c hc).1; omega) hj' hM'
    have HR := Lib.hid hR
    have HM := Lib.hid hM
    have HJT := Lib.hid hJT
    have HJ := Lib.hid hJ
    obtain ⟨li, hlie⟩ : ∃ li, L.length = li := ⟨_, rfl⟩
    have Hli := Lib.hid hlie
    rw [hlie] at HNi hli Hall
    clear hY hR hN ih hJ hJT hM hV hL hnx hnl hnxi hlie hpM hj
    refine callsIn_of_wp Try.func95 rfl trivial ?_ rfl
    simp only [Try.ntmps95, List.size_toArray, List.length_cons, List.length_nil, Nat.reduceAdd, Nat.reduceSub, Array.replicate_succ, Array.replicate_zero, List.push_toArray, List.append_toArray, List.nil_append, List.cons_append]
    gi_wp2_with fail
    refine ⟨fun h => (by cases h), ?_⟩
    refine HR.out.mono ?_
    rintro e W2 (⟨rfl, hJ2⟩ | ⟨rfl, hx2⟩)
    · have HJ2 := Lib.hid hJ2
      clear hJ2 HR hy
      gi_wp2_with fail
      refine ⟨trivial, (fun h => by cases h), ?_⟩
      refine (HNi.out (k - 1) W2 (HJT.out _ _ HJ2.out)).mono ?_
      rintro e W3 ⟨a, cap, rfl, hrow, hg, hkeep⟩
      have HJ3 := Lib.hid (HJ.out _ _ _ HJ2.out hg)
      have Hrow := Lib.hid hrow
      have Hkeep := Lib.hid hkeep
      clear hrow hg hkeep HJ2 HNi
      gi_wp2_with fail
      gi_loopw [8, 17] (fun _ v wr => ∃ q : Nat, q ≤ li ∧ v = .int .i64 q ∧ Hid (J (pre ++ visTo nx m i q) wr) ∧ Hid (q < li → Row wr a li (natL L))) (fun _ v _ => li - (intOf v).toNat)
      case atStart => exact ⟨0, Nat.zero_le _, rfl, by rw [H0.out]; exact HJ3, fun _ => Hrow.out⟩
      case round =>
        clear HJ3 Hrow
        obtain ⟨q, hq, rfl, HJq, HRq⟩ := hrel
        by_cases hlt : q < li
        · have hc : (q : Int) < (li : Int) := by omega
          obtain ⟨c, hcq⟩ : ∃ c, L[q]? = some c := ⟨_, List.getElem?_eq_getElem (by rw [Hli.out]; exact hlt)⟩
          obtain ⟨g, rfl, _, hcell⟩ := (HRq.out hlt).2 (by omega)
          have cc := hcell q _ (natL_get hcq)
          have hmem : c ∈ L := List.mem_of_getElem? hcq
          have hst := Hto.out q c hcq
          have hlen : (pre ++ visTo nx m i q).length + (visN nx m c).length ≤ M := by
            have h1 := (Hpre.out (q + 1)).length_le
            rw [hst, List.length_append] at h1
            have := HM.out
            rw [List.length_append]; omega
          have HI := Lib.hid fun kk W' hj' => Hih.out c hmem kk _ W' hj' hlen
          have hpq := Hpre.out (q + 1)
          have HPq := Lib.hid hpq
          have HSt := Lib.hid hst
          have hgo := Lib.hid (show q + 1 ≤ li ∧ q < li by omega)
          clear hst hlen hmem hcq hcell hpq
          gi_wp2_with fail
          refine ⟨trivial, (fun h => by cases h), ?_⟩
          refine (HI.out _ _ HJq.out).mono ?_
          rintro e W4 (⟨rfl, hJ4⟩ | ⟨rfl, p, hp, hx4⟩)
          · have HJ4 : Hid (J (pre ++ visTo nx m i (q + 1)) W4) := by unfold Hid; rw [HSt.out, ← List.append_assoc]; exact hJ4
            have HR4 : Hid (q + 1 < li → Row W4 (some ⟨g, 0, none⟩) li (natL L)) := fun h => by
              rcases Hkeep.out with h1 | h1
              · omega
              · exact h1 _ (HJT.out _ _ hJ4)
            clear hJ4 HJq HRq HI cc
            gi_wp2_with fail
            go_roundw
            case rel => exact ⟨q + 1, hgo.out.1, by go_num, HJ4, HR4⟩
            case measure => simp [intOf]; have := hgo.out; omega
          · have HX4 : Hid (Jx (pre ++ (visTo nx m i q ++ p)) W4) := by unfold Hid; rw [← List.append_assoc]; exact hx4
            have HP : Hid (visTo nx m i q ++ p <+: V) := by
              have h2 := HPq.out
              rw [HSt.out] at h2
              exact List.IsPrefix.trans ((List.prefix_append_right_inj _).2 hp) h2
            clear hx4 hp HJq HRq HI cc
            gi_wp2
            go_ret
            exact .inr ⟨rfl, _, HP.out, HX4.out⟩
        · obtain rfl : q = li := by omega
          have hc : ¬ (q : Int) < (q : Int) := by omega
          have HJa : Hid (J (pre ++ V) wr) := by have := HJq.out; rwa [Hall.out q (Nat.le_refl _)] at this
          clear HJq
          gi_wp2
          go_ret
          exact .inl ⟨rfl, HJa.out⟩
    · have HX2 := Lib.hid hx2
      clear hx2 HR hy
      gi_wp2
      go_ret
      exact .inr ⟨rfl, [i], by have := Hpre.out 0; rwa [H0.out] at this, HX2.out⟩
end Go.Proofs.Ytbbidgdgcbnanaa
