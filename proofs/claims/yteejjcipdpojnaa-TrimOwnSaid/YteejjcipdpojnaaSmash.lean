/- Rows of the call's own that are overwritten, and a copy of a row of strings. -/
import Derived.Test.YteejjcipdpojnaaChecks
import Derived.Laws.OwnMore
namespace Go.Proofs.Yteejjcipdpojnaa
set_option linter.unusedVariables false
open Go.RowKit

theorem grown_trans' {a b c : World} {row : Option Nat} (h : a.grownBy b row) (k : b.grownBy c row) : a.grownBy c row :=
  ⟨k.os.trans h.os, k.tape.trans h.tape, k.output.trans h.output, Nat.le_trans h.size k.size, fun i hi hne => (k.block i (Nat.lt_of_lt_of_le hi h.size) hne).trans (h.block i hi hne)⟩
theorem grown_refl' (a : World) (row : Option Nat) : a.grownBy a row := ⟨rfl, rfl, rfl, Nat.le_refl _, fun _ _ _ => rfl⟩

/-- the row at a has been overwritten, and nothing else -/
def Smashed (base : Nat) (e : TypeId) (a : Option Addr) (n cap : Nat) (w0 w : World) : Prop :=
  (∃ xs, w.ownsRow base e 1 (.slice a n cap) n xs) ∧ w0.grownBy w (Value.slice a n cap).ownBlock
theorem Smashed.start {base n cap : Nat} {e : TypeId} {a : Option Addr} {w : World} {xs : List Value} (h : w.ownsRow base e 1 (.slice a n cap) n xs) : Smashed base e a n cap w w := ⟨⟨_, h⟩, grown_refl' _ _⟩
theorem Smashed.cell {base n cap : Nat} {e : TypeId} {a : Option Addr} {w0 w : World} (h : Smashed base e a n cap w0 w) (k : Nat) (hk : k < n) :
    ∃ g, a = some ⟨g, 0, none⟩ ∧ (∃ u, w.cell? ⟨g, k, none⟩ = some u) ∧ w.frozen? ⟨g, k, none⟩ = false := by
  obtain ⟨⟨xs, o⟩, _⟩ := h
  obtain ⟨a', cap', hv, hl, hc⟩ := ownsRow_open o
  obtain ⟨g, hg, _, _, hcell⟩ := hc (by omega)
  obtain ⟨rfl, rfl⟩ : a = a' ∧ cap = cap' := by simpa using hv
  subst hg
  exact ⟨g, rfl, ⟨_, hcell k _ (List.getElem?_eq_getElem (by omega))⟩, o.frozenAt k⟩
theorem Smashed.store {base n cap g : Nat} {e : TypeId} {w0 w : World} (h : Smashed base e (some ⟨g, 0, none⟩) n cap w0 w) (k : Nat) (u : Value) : Smashed base e (some ⟨g, 0, none⟩) n cap w0 (w.setCell ⟨g, k, none⟩ u) := by
  obtain ⟨⟨xs, o⟩, hg⟩ := h
  obtain ⟨h1, h2⟩ := o.stored k u
  exact ⟨⟨_, h1⟩, grown_trans' hg h2⟩
theorem Smashed.other {base n cap : Nat} {e : TypeId} {a : Option Addr} {w0 w : World} (h : Smashed base e a n cap w0 w) {B N : Nat} {E : TypeId} {v : Value} {ys : List Value} (o : w0.ownsRow B E 1 v N ys)
    (hne : ∀ k j, v.ownBlock = some k → (Value.slice a n cap).ownBlock = some j → k ≠ j) : w.ownsRow B E 1 v N ys :=
  o.kept h.2 (by
    cases hv : v.ownBlock with
    | none => exact .inl rfl
    | some k =>
      right
      cases ha : (Value.slice a n cap).ownBlock with
      | none => simp
      | some j => intro e; rw [Option.some.injEq] at e; exact hne k j hv ha e)
theorem Smashed.below {base n cap : Nat} {e : TypeId} {a : Option Addr} {W w0 w : World} (h : Smashed base e a n cap w0 w) (hb : Below W.heap.size W w0) (hbase : W.heap.size ≤ base) : Below W.heap.size W w := by
  obtain ⟨⟨xs, o⟩, hg⟩ := h
  exact hb.grown hg hb.size (fun k e => Nat.le_trans hbase (o.lt k e).1)
theorem own_below {w w' : World} {base n : Nat} {e : TypeId} {v : Value} {xs : List Value} (h : w.ownsRow base e 1 v n xs) (hb : Below w.heap.size w w') : w'.ownsRow base e 1 v n xs :=
  h.kept (row := none) ⟨hb.os, hb.tape, hb.output, hb.size, fun k hk _ => hb.block k hk⟩ (by cases v.ownBlock <;> simp)

set_option maxRecDepth 100000 in
set_option maxHeartbeats 4000000 in
theorem few_row (a : Option Addr) (n cap : Nat) (xs : List (List UInt8)) (w : World) (h : Row w a n (strs xs)) (hn : n ≤ 100) (hs : ∀ x ∈ xs, x.length ≤ 100) :
    Calls Try.prog 39 #[.slice a n cap] w fun e w' => ∃ v, e = .returned v ∧ w'.ownsRow w.heap.size 9 1 v n (strs xs) ∧ Below w.heap.size w w' := by
  obtain ⟨i0, hi, hz0, hz1, hz2⟩ := info_parts info_str
  have hx : xs.length = n := by have := h.1; simpa [strs] using this
  have H := Lib.hid h
  have HS := Lib.hid hs
  have HX := Lib.hid hx
  clear h hs hx
  go_enter Try.func39, Try.ntmps39
  go_wp2
  go_loopw [3, 4] (fun v i wr => ∃ k : Nat, k ≤ n ∧ i = .int .i64 k ∧ wr.ownsRow w.heap.size 9 1 v k (strs (xs.take k)) ∧ Below w.heap.size w wr) (fun _ i _ => 101 - (intOf i).toNat)
  case atStart => exact ⟨0, Nat.zero_le _, rfl, by simp [strs]; exact World.ownsRow_nil _ _ _ _, Below.refl _ _⟩
  case round =>
    obtain ⟨k, hk, rfl, hown, hB⟩ := hrel
    by_cases hlt : k < n
    · have hc : (k : Int) < n := by omega
      have hc2 : (k : Int) ≤ 100 := by omega
      obtain ⟨z, hzk⟩ : ∃ z, xs[k]? = some z := ⟨_, List.getElem?_eq_getElem (by have := HX.out; omega)⟩
      have hzs : (mk z).size ≤ maxLen := by rw [mk_size]; have := HS.out z (List.mem_of_getElem? hzk); unfold maxLen; omega
      obtain ⟨g, rfl, hg, hcell⟩ := H.out.2 (by omega)
      have hc0 : w.cell? ⟨g, k, none⟩ = some (.string (mk z)) := hcell k _ (by simp [strs, hzk, encStr, mk])
      have hcw : wr.cell? ⟨g, k, none⟩ = some (.string (mk z)) := (hB.cell (p := ⟨g, k, none⟩) hg).trans hc0
      have hsm : (mk z).extract 0 (min (mk z).size 101) = mk z := by
        rw [short_mk, data_mk, List.take_of_length_le]
        have := HS.out z (List.mem_of_getElem? hzk); omega
      have Hsucc : Hid (xs.take (k + 1) = xs.take k ++ [z]) := by unfold Hid; rw [List.take_add_one, hzk]; rfl
      have Hsm := Lib.hid hsm
      clear hsm hzk hc0 hcell
      go_wp2_with (first
        | (go_at_call 16; refine (short_any _ _ hzs).mono ?_; rintro e w' ⟨rfl, rfl⟩; rw [Hsm.out])
        | (at_builtin; refine wpList_append_own _ rfl _ _ 23 rfl w.heap.size 9 i0 (.string ⟨#[]⟩) 1 16 Try.underlying23 hi hz0 hz1 hz2 rfl (by decide) _ _ _ rfl (hown.alloc _) ⟨wr.heap.size, 0, none⟩ 1 1 [_] rfl rfl (cell_one_new _ _ _) (by simp [Value.oneCell']) ?c3 ?c4 ?c5 ?_))
      case c3 => unfold maxLen; omega
      case c4 => omega
      case c5 => have := hB.size; simp; omega
      intro v' w1 hown' hgrow _
      have hb1 := rel_push hB (by have := hB.size; simp; omega) ((Below.refl _ wr).alloc hB.size _) hown hgrow
      have h1 : w1.ownsRow w.heap.size 9 1 v' (k + 1) (strs (xs.take (k + 1))) := by
        rw [Hsucc.out]; unfold strs at hown' ⊢; rw [List.map_append]; exact hown'
      clear hown' hgrow hown hB
      go_wp2
      go_roundw
      case rel => exact ⟨k + 1, by omega, by go_num, h1, hb1⟩
      case measure => simp [intOf]; omega
    · obtain rfl : k = n := by omega
      have hc : ¬ (k : Int) < k := by omega
      go_wp2
      go_ret
      exact ⟨_, rfl, by rw [List.take_of_length_le (by have := HX.out; omega)] at hown; exact hown, hB⟩
end Go.Proofs.Yteejjcipdpojnaa
