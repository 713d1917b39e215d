/- A row that came in, and the law's tame. -/
import Derived.Test.YthmdlkaanjjbkaaAwk
import Derived.ProofKit
import Derived.OpenShut
import Derived.ChangeOld
import Derived.ChangeSlices
namespace Go.Proofs.Ythmdlkaanjjbkaa
set_option linter.unusedVariables false
open Go.RowKit Go.ChangeShapes Go.WideShapes

theorem add_block (ad : Addr) (j : Nat) : (ad.add j).block = ad.block := by unfold Addr.add; split <;> rfl
/-- a row that came in, wherever it lies -/
def RowIn (w : World) (v : Value) (row : List Int) : Prop := (∃ c, v = .slice none 0 c ∧ row = []) ∨ ∃ (ad : Addr) (c : Nat), v = .slice (some ad) row.length c ∧ row.length ≤ c ∧ ∀ j, j < row.length → w.cell? (ad.add j) = some (.int .i64 (row.getD j 0))
theorem RowIn.below {w w' : World} {v : Value} {row : List Int} (h : RowIn w v row) (hb : Below w.heap.size w w') : RowIn w' v row := by
  rcases h with h | ⟨ad, c, hv, hc, hd⟩
  · exact .inl h
  · exact .inr ⟨ad, c, hv, hc, fun j hj => (hb.cell (p := ad.add j) (World.block_lt_of_cell? w _ (hd j hj))).trans (hd j hj)⟩
theorem rowIn_of {H : Type} {enc : TypeId × Value → H} {P : Program} {w : World} {base fuel : Nat} {held : Bool} {t e : TypeId} {v : Value} {x : DataW H × List MemPlace} (ht : P.underlying t = some (.slice e)) (he : P.underlying e = some (.int .i64)) (ce : P.cellsOf e = 1)
    (h : DataW.trod enc P w base (fun _ => true) held fuel t [v] = some x) : ∃ xs, RowIn w v xs := by
  rcases open_ints ht he ce h with ⟨hcs, _⟩ | ⟨a, l, c, zs, hcs, _, hl, hm, hz, _, hcell, hwz⟩
  · simp at hcs
    exact ⟨[], .inl ⟨0, hcs, rfl⟩⟩
  · simp at hcs
    have hz2 : zs.length = c := by simpa using hz
    have hlen : (zs.take l).length = l := by rw [List.length_take]; omega
    refine ⟨zs.take l, .inr ⟨a, c, by rw [hlen]; exact hcs, by rw [hlen]; exact hl, fun j hj => ?_⟩⟩
    rw [hlen] at hj
    rw [hcell j (by omega), List.getD_eq_getElem?_getD, List.getD_eq_getElem?_getD, List.getElem?_take_of_lt hj]
/-- what tame makes of a row -/
def tamL (m : Nat) (row : List Int) : List Int := (row.take 12).map fun x => (modV x m : Int)
theorem tamL_in {m : Nat} (hm : 1 ≤ m) (row : List Int) : (tamL m row).length ≤ 12 ∧ ∀ x ∈ tamL m row, 0 ≤ x ∧ x < m := by
  unfold tamL
  refine ⟨by rw [List.length_map, List.length_take]; omega, fun x hx => ?_⟩
  obtain ⟨y, _, rfl⟩ := List.mem_map.1 hx
  have := modV_lt y m hm
  omega
theorem tamL_poly {m : Nat} (hm : 2 ≤ m) (hm2 : m ≤ 64) (row : List Int) : polyB m (tamL m row) = true := by
  obtain ⟨h1, h2⟩ := tamL_in (show 1 ≤ m by omega) row
  unfold polyB remB modB
  rw [Bool.and_eq_true, Bool.and_eq_true, List.all_eq_true]
  exact ⟨⟨decide_eq_true (by omega), decide_eq_true h1⟩, fun x hx => decide_eq_true (h2 x hx)⟩
theorem tamL_take (m : Nat) (row : List Int) (k : Nat) {x : Int} (hx : row[k]? = some x) (hk : k < 12) : tamL m (row.take (k + 1)) = tamL m (row.take k) ++ [(modV x m : Int)] := by
  unfold tamL
  rw [List.take_take, List.take_take, Nat.min_eq_right (by omega), Nat.min_eq_right (by omega), List.take_add_one, hx, List.map_append]
  rfl
theorem tamL_len (m : Nat) (row : List Int) (k : Nat) (hk : k ≤ row.length) (hk2 : k ≤ 12) : (tamL m (row.take k)).length = k := by
  unfold tamL
  rw [List.length_map, List.length_take, List.length_take]; omega
theorem tamL_end (m : Nat) (row : List Int) (k : Nat) (hk : k ≤ row.length) (hk2 : k ≤ 12) (h : k = row.length ∨ k = 12) : tamL m (row.take k) = tamL m row := by
  unfold tamL
  rcases h with rfl | rfl
  · rw [List.take_length]
  · rw [List.take_take, Nat.min_self]
theorem wrap_nx {k : Nat} (h : k ≤ 100) : IntKind.i64.wrap ((k : Int) + 1) = ((k + 1 : Nat) : Int) ∧ wrap64 ((k : Int) + 1) = ((k + 1 : Nat) : Int) := ⟨by rw [IntWalk.i64_in _ (by omega)]; rfl, by rw [IntWalk.wrap64_in _ (by omega)]; rfl⟩
theorem mz_upn {d k : Nat} (h : k < d) : d - (intOf (.int .i64 ((k + 1 : Nat) : Int))).toNat < d - (intOf (.int .i64 (k : Int))).toNat := by
  show d - ((k + 1 : Nat) : Int).toNat < d - (k : Int).toNat
  omega
theorem tame_nil (m : Nat) (c : Nat) (w : World) : Calls Try.prog 58 #[.int .i64 m, .slice none 0 c] w fun e w' => ∃ r, e = .returned r ∧ w'.ownsRow w.heap.size 3 1 r 0 (intL []) ∧ Below w.heap.size w w' := by
  go_enter Try.func58, Try.ntmps58
  go_wp2
  go_loopw [5, 6] (fun v i wr => v = .slice none 0 0 ∧ i = .int .i64 0 ∧ wr = w) (fun _ _ _ => 0)
  case atStart => exact ⟨rfl, rfl, rfl⟩
  case round =>
    obtain ⟨rfl, rfl, rfl⟩ := hrel
    go_wp2
    go_ret
    exact ⟨_, rfl, World.ownsRow_nil _ _ _ _, Below.refl _ _⟩
set_option maxRecDepth 100000 in
set_option maxHeartbeats 4000000 in
theorem tame_ptr (m : Nat) (ad : Addr) (n c : Nat) (row : List Int) (w : World) (hm : 1 ≤ m) (hm2 : m ≤ 64) (hn : row.length = n) (hd : ∀ j, j < n → w.cell? (ad.add j) = some (.int .i64 (row.getD j 0))) :
    Calls Try.prog 58 #[.int .i64 m, .slice (some ad) n c] w fun e w' => ∃ r, e = .returned r ∧ w'.ownsRow w.heap.size 3 1 r (tamL m row).length (intL (tamL m row)) ∧ Below w.heap.size w w' := by
  obtain ⟨i0, hi, hz0, hz1, hz2⟩ := info_parts info_int
  have Hn := Lib.hid hn
  have Hd := Lib.hid hd
  clear hn hd
  go_enter Try.func58, Try.ntmps58
  go_wp2
  go_loopw [5, 6] (fun v i wr => ∃ k : Nat, k ≤ n ∧ k ≤ 12 ∧ i = .int .i64 k ∧ wr.ownsRow w.heap.size 3 1 v k (intL (tamL m (row.take k))) ∧ Below w.heap.size w wr) (fun _ i _ => n - (intOf i).toNat)
  case atStart => exact ⟨0, Nat.zero_le _, by omega, rfl, World.ownsRow_nil _ _ _ _, Below.refl _ _⟩
  case round =>
    obtain ⟨k, hk, hk12, rfl, ho, hB⟩ := hrel
    obtain ⟨a5, c5, hv5, -⟩ := Row.of_own ho
    subst hv5
    by_cases hlt : k < n
    · have hc : (k : Int) < (n : Int) := by omega
      by_cases hl2 : k < 12
      · have hc2 : (k : Int) < 12 := by omega
        obtain ⟨x, hx⟩ : ∃ x, row[k]? = some x := ⟨_, List.getElem?_eq_getElem (by have := Hn.out; omega)⟩
        have hcell := Hd.out k hlt
        rw [List.getD_eq_getElem?_getD, hx] at hcell
        simp only [Option.getD_some] at hcell
        have hce : wr.cell? (ad.add k) = some (.int .i64 x) := (hB.cell (p := ad.add k) (World.block_lt_of_cell? w _ hcell)).trans hcell
        have hT := tamL_take m row k hx hl2
        have hM := fun W => mod_val x m W hm (by omega)
        generalize modV x m = q at hM hT
        have hkx : k ≤ 100 := by omega
        have hgo : k + 1 ≤ n ∧ k + 1 ≤ 12 := by omega
        have HM := Lib.hid hM
        have HT := Lib.hid hT
        have HO := Lib.hid ho
        have HB := Lib.hid hB
        have Hgo := Lib.hid hgo
        clear hM hT ho hB hx hcell hgo
        obtain ⟨n1, n2⟩ := wrap_nx hkx
        have HN2 := Lib.hid n2
        clear n1 n2
        go_wp2_with fail
        refine (HM.out _).mono ?_
        rintro e w2 ⟨rfl, hw2⟩
        subst w2
        go_wp2_with (at_builtin; refine wpList_append_own _ rfl _ _ 22 rfl w.heap.size 3 i0 (.int .i64 0) 1 8 Try.underlying22 hi hz0 hz1 hz2 rfl (by decide) _ _ _ rfl (HO.out.alloc (.cells #[.int .i64 q] 3)) ⟨_, 0, none⟩ 1 1 [.int .i64 q] rfl rfl (one_new _ _ _ _ (by simp)) (by simp [Value.oneCell']) (by unfold maxLen; omega) (by omega) (by have := HB.out.size; simp; omega) ?_; intro v2 w6 hown2 hgrow2 _
                     obtain ⟨a6, c6, hv6, -⟩ := Row.of_own hown2
                     subst hv6
                     have HB6 : Hid (Below w.heap.size w w6) := rel_push HB.out (by have := HB.out.size; simp; omega) ((Below.refl _ _).alloc HB.out.size _) HO.out hgrow2
                     have HO6 := Lib.hid hown2
                     clear hown2 hgrow2)
        go_roundw
        case rel =>
          refine ⟨k + 1, Hgo.out.1, Hgo.out.2, by go_num, ?_, HB6.out⟩
          rw [HT.out]
          unfold intL
          rw [List.map_append]
          exact HO6.out
        case measure => exact mz_upn hlt
      · have hc2 : ¬ (k : Int) < 12 := by omega
        have he := tamL_end m row k (by have := Hn.out; omega) (by omega) (.inr (by omega))
        have hlen := tamL_len m row k (by have := Hn.out; omega) (by omega)
        rw [he] at ho hlen
        have HE := Lib.hid ho
        have HB := Lib.hid hB
        have HLn := Lib.hid hlen
        clear ho hB he hlen
        go_wp2
        go_ret
        exact ⟨_, rfl, by rw [HLn.out]; exact HE.out, HB.out⟩
    · have hc : ¬ (k : Int) < (n : Int) := by omega
      have he := tamL_end m row k (by have := Hn.out; omega) (by omega) (.inl (by have := Hn.out; omega))
      have hlen := tamL_len m row k (by have := Hn.out; omega) (by omega)
      rw [he] at ho hlen
      have HE := Lib.hid ho
      have HB := Lib.hid hB
      have HLn := Lib.hid hlen
      clear ho hB he hlen
      go_wp2
      go_ret
      exact ⟨_, rfl, by rw [HLn.out]; exact HE.out, HB.out⟩
/-- the law's tame -/
theorem tame_in (m : Nat) (v : Value) (row : List Int) (w : World) (hm : 1 ≤ m) (hm2 : m ≤ 64) (h : RowIn w v row) :
    Calls Try.prog 58 #[.int .i64 m, v] w fun e w' => ∃ r, e = .returned r ∧ w'.ownsRow w.heap.size 3 1 r (tamL m row).length (intL (tamL m row)) ∧ Below w.heap.size w w' := by
  rcases h with ⟨c, rfl, rfl⟩ | ⟨ad, c, rfl, hc, hd⟩
  · exact tame_nil m c w
  · exact tame_ptr m ad row.length c row w hm hm2 rfl hd
end Go.Proofs.Ythmdlkaanjjbkaa
