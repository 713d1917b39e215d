/- adopt: the children of a node are marked with their depth. -/
import Derived.Test.YtbbidgdgcbnanaaGame
import Derived.Deep.OwnRows
import Derived.Deep.WholeRow
namespace Go.Proofs.Ytbbidgdgcbnanaa
set_option linter.unusedVariables false
open Go.RowKit

theorem adoptN_app (n i : Nat) : ∀ (a b : List Int) (D : Nat → Nat), adoptN n i D (a ++ b) = (adoptN n i D a).bind fun D' => adoptN n i D' b
  | [], b, D => rfl
  | x :: a, b, D => by
    simp only [List.cons_append, adoptN]
    cases adoptStep n i D x with
    | none => rfl
    | some D' => exact adoptN_app n i a b D'
theorem adoptN_take {n i k : Nat} {D Dk : Nat → Nat} {cs : List Int} {c : Int} (hk : cs[k]? = some c) (h : adoptN n i D (cs.take k) = some Dk) : adoptN n i D (cs.take (k + 1)) = adoptStep n i Dk c := by
  rw [List.take_add_one, hk, Option.toList, adoptN_snoc, h]; rfl
theorem adoptN_fail {n i k : Nat} {D Dk : Nat → Nat} {cs : List Int} {c : Int} (hk : cs[k]? = some c) (h : adoptN n i D (cs.take k) = some Dk) (hs : adoptStep n i Dk c = none) : adoptN n i D cs = none := by
  have e := adoptN_take hk h
  rw [hs] at e
  rw [← List.take_append_drop (k + 1) cs, adoptN_app, e]; rfl
theorem grownBy_set (w : World) (B o : Nat) (v : Value) : w.grownBy (w.setCell ⟨B, o, none⟩ v) (some B) :=
  ⟨rfl, rfl, rfl, by simp, fun k _ hk => Below.heap_setCell _ _ _ _ (by show k ≠ B; exact fun e => hk (by rw [e]))⟩
/-- the depths lie in block B -/
def Deps (w : World) (B n : Nat) (D : Nat → Nat) : Prop := w.rowIs B 3 n fun j => .int .i64 ((D j : Nat) : Int)
theorem Deps.set {w : World} {B n c v : Nat} {D : Nat → Nat} (h : Deps w B n D) : Deps (w.setCell ⟨B, c, none⟩ (.int .i64 ((v : Nat) : Int))) B n (setD D c v) :=
  (World.rowIs.set h c (.int .i64 ((v : Nat) : Int))).congr fun j _ => by
    unfold setD
    by_cases e : j = c
    · rw [if_pos e, if_pos e]
    · rw [if_neg e, if_neg e]
set_option maxRecDepth 100000 in
set_option maxHeartbeats 4000000 in
theorem adopt_any (T : Tree) (i g cap B : Nat) (D : Nat → Nat) (w0 w : World) (ht : TreeAt w0 (some ⟨g, 0, none⟩) T) (hb : Below w0.heap.size w0 w) (hB : w0.heap.size ≤ B) (hi : i < T.length) (hn : T.length ≤ 1000) (hr : Deps w B T.length D) (hD : D i ≤ 1000)
    (hl : (kidsZ T i).length ≤ 1000000) :
    Calls Try.prog 86 #[.agg #[.slice (some ⟨g, 0, none⟩) T.length cap, .slice (some ⟨B, 0, none⟩) T.length T.length], .int .i64 i] w fun e w' => w.grownBy w' (some B) ∧
      ((adoptN T.length i D (kidsZ T i) = none ∧ e = .returned (.bool false)) ∨ ∃ D', adoptN T.length i D (kidsZ T i) = some D' ∧ e = .returned (.bool true) ∧ Deps w' B T.length D') := by
  obtain ⟨g', ra, rc, e1, c1, -, hlc, hrow⟩ := ht.node hi
  simp only [Option.some.injEq, Addr.mk.injEq, and_true] at e1
  subst e1
  have hgl : g < w0.heap.size := World.block_lt_of_cell? _ _ c1
  obtain ⟨cs, hcs⟩ : ∃ cs, kidsZ T i = cs := ⟨_, rfl⟩
  rw [hcs] at c1 hlc hrow hl ⊢
  obtain ⟨n, hnn⟩ : ∃ n, T.length = n := ⟨_, rfl⟩
  rw [hnn] at hr hi hn ⊢
  have hBl : B < w.heap.size := World.rowIs.lt hr
  have ha := below_alloc w (.cells #[.slice (some ⟨g, 0, none⟩) n cap, .slice (some ⟨B, 0, none⟩) n n] 70)
  have hb1 := hb.trans (ha.mono hb.size)
  have hc1 := (hb1.cell (p := ⟨g, i * 2, none⟩) hgl).trans c1
  have hr1 : Deps (w.alloc (.cells #[.slice (some ⟨g, 0, none⟩) n cap, .slice (some ⟨B, 0, none⟩) n n] 70)) B n D := World.rowIs.of_block hr (ha.block _ hBl)
  have hg1 : w.grownBy (w.alloc (.cells #[.slice (some ⟨g, 0, none⟩) n cap, .slice (some ⟨B, 0, none⟩) n n] 70)) (some B) := World.grownBy_alloc w _ _
  have hbox : (w.alloc (.cells #[.slice (some ⟨g, 0, none⟩) n cap, .slice (some ⟨B, 0, none⟩) n n] 70)).heap[w.heap.size]? = some (.cells #[.slice (some ⟨g, 0, none⟩) n cap, .slice (some ⟨B, 0, none⟩) n n] 70) := heap_alloc_new w _
  have h1i : (i : Int) < n := by omega
  have Hrow := Lib.hid hrow
  have Hb1 := Lib.hid hb1
  have Hr1 := Lib.hid hr1
  have Hg1 := Lib.hid hg1
  have Hbox := Lib.hid hbox
  have HD := Lib.hid hD
  have HBB := Lib.hid hB
  have HBl := Lib.hid hBl
  clear hrow hb1 hr1 hg1 hbox hb c1 ht hr ha hcs hgl hB hD hBl hnn hlc
  go_enter Try.func86, Try.ntmps86
  go_wp2
  go_loopw [6, 14] (fun _ v wr => ∃ (k : Nat) (Dk : Nat → Nat), k ≤ cs.length ∧ v = .int .i64 k ∧ Hid (adoptN n i D (cs.take k) = some Dk) ∧ Hid (Deps wr B n Dk) ∧ Hid (w.grownBy wr (some B)) ∧ Hid (Dk i = D i) ∧ Hid (wr.heap[w.heap.size]? = some (.cells #[.slice (some ⟨g, 0, none⟩) n cap, .slice (some ⟨B, 0, none⟩) n n] 70))) (fun _ v _ => cs.length - (intOf v).toNat)
  case atStart => exact ⟨0, D, Nat.zero_le _, rfl, by unfold Hid; rw [List.take_zero]; rfl, Hr1, Hg1, rfl, Hbox⟩
  case round =>
    clear Hr1 Hg1 Hbox
    obtain ⟨k, Dk, hk, rfl, HA, HR, HG, Hi, HX⟩ := hrel
    by_cases hlt : k < cs.length
    · have hc : (k : Int) < (cs.length : Int) := by omega
      obtain ⟨c, hck⟩ : ∃ c, cs[k]? = some c := ⟨_, List.getElem?_eq_getElem hlt⟩
      have hbw : Below w0.heap.size w0 wr := by
        have h0 : Below w0.heap.size w0 w := by
          refine ⟨?_, ?_, ?_, ?_, ?_⟩
          · exact Hb1.out.os
          · exact Hb1.out.tape
          · exact Hb1.out.output
          · have := HBB.out; have := HBl.out; omega
          · intro j hj
            have h1 := Hb1.out.block j hj
            rw [← h1]
            exact ((below_alloc w (.cells #[.slice (some ⟨g, 0, none⟩) n cap, .slice (some ⟨B, 0, none⟩) n n] 70)).block j (by have := HBB.out; have := HBl.out; omega)).symm
        exact h0.grown HG.out h0.size (fun j e => by cases e; exact HBB.out)
      obtain ⟨rg, rfl, crow⟩ := (Hrow.out.below hbw).int hlt
      rw [List.getD_eq_getElem?_getD, hck] at crow
      simp only [Option.getD_some] at crow
      have cb0 : wr.cell? ⟨w.heap.size, 0, none⟩ = some (.slice (some ⟨g, 0, none⟩) n cap) := by simp [World.cell?, HX.out]
      have cb1 : wr.cell? ⟨w.heap.size, 1, none⟩ = some (.slice (some ⟨B, 0, none⟩) n n) := by simp [World.cell?, HX.out]
      have hno := fun h => adoptN_fail (n := n) (i := i) hck HA.out h
      have hyes := adoptN_take (n := n) (i := i) hck HA.out
      have HN := Lib.hid hno
      have HY := Lib.hid hyes
      clear hno hyes hck hbw
      by_cases h1 : c ≤ (i : Int)
      · go_wp2
        go_ret
        exact ⟨HG.out, .inl ⟨HN.out (by unfold adoptStep; rw [if_neg (by omega)]), rfl⟩⟩
      · by_cases h2 : c ≥ (n : Int)
        · go_wp2
          go_ret
          exact ⟨HG.out, .inl ⟨HN.out (by unfold adoptStep; rw [if_neg (by omega)]), rfl⟩⟩
        · obtain ⟨z, rfl⟩ := Int.eq_ofNat_of_zero_le (show 0 ≤ c by omega)
          have hzn : z < n := by omega
          have hzi : (z : Int) < n := by omega
          have cz := World.rowIs.cell HR.out hzn
          have ci := World.rowIs.cell HR.out hi
          have fz := World.rowIs.frozen HR.out z
          rw [Hi.out] at ci
          by_cases h3 : Dk z = 0
          · have HS : Hid (adoptN n i D (cs.take (k + 1)) = some (setD Dk z (D i + 1))) := by
              unfold Hid
              rw [HY.out]
              unfold adoptStep
              rw [if_pos ⟨by omega, by omega, by simpa using h3⟩, Hi.out]; rfl
            have HR2 := Lib.hid (HR.out.set (c := z) (v := D i + 1))
            have HG2 : Hid (w.grownBy (wr.setCell ⟨B, z, none⟩ (.int .i64 ((D i + 1 : Nat) : Int))) (some B)) := HG.out.trans (grownBy_set _ _ _ _)
            have Hi2 : Hid (setD Dk z (D i + 1) i = D i) := by unfold Hid setD; rw [if_neg (by omega)]; exact Hi.out
            have HX2 : Hid ((wr.setCell ⟨B, z, none⟩ (.int .i64 ((D i + 1 : Nat) : Int))).heap[w.heap.size]? = some (.cells #[.slice (some ⟨g, 0, none⟩) n cap, .slice (some ⟨B, 0, none⟩) n n] 70)) := (Below.heap_setCell _ _ _ _ (by show w.heap.size ≠ B; have := HBl.out; omega)).trans HX.out
            rw [h3] at cz
            have hd := HD.out
            obtain ⟨d, hde⟩ : ∃ d, D i = d := ⟨_, rfl⟩
            rw [hde] at ci hd HS HR2 HG2 Hi2 HX2
            have hw1 : IntKind.i64.wrap ((d : Int) + 1) = ((d + 1 : Nat) : Int) := by rw [IntWalk.i64_in _ (by omega)]; rfl
            have hw2 : wrap64 ((d : Int) + 1) = ((d + 1 : Nat) : Int) := by rw [IntWalk.wrap64_in _ (by omega)]; rfl
            have hgo := Lib.hid (show k + 1 ≤ cs.length ∧ k < cs.length ∧ k < 1000000 by omega)
            have Hde := Lib.hid hde
            clear h3 hde hd
            go_wp2
            go_region
            go_wp2
            go_roundw
            case rel => exact ⟨k + 1, _, hgo.out.1, by go_num, HS, HR2, HG2.out.trans ⟨rfl, rfl, rfl, Nat.le_refl _, fun _ _ _ => rfl⟩, Hi2.out.trans Hde.out.symm, HX2⟩
            case measure => simp [intOf]; have := hgo.out; omega
          · have h4 : (0 : Int) < ((Dk z : Nat) : Int) := by omega
            go_wp2
            go_ret
            exact ⟨HG.out, .inl ⟨HN.out (by unfold adoptStep; rw [if_neg (fun h => h3 (by simpa using h.2.2))]), rfl⟩⟩
    · obtain rfl : k = cs.length := by omega
      have hc : ¬ (cs.length : Int) < (cs.length : Int) := by omega
      have hA := HA.out
      rw [List.take_length] at hA
      have HA2 := Lib.hid hA
      clear hA
      go_wp2
      go_ret
      exact ⟨HG.out, .inr ⟨Dk, HA2.out, rfl, HR.out⟩⟩
end Go.Proofs.Ytbbidgdgcbnanaa
