/- A set of fractions as a map to bool, and the iterator over its keys. -/
import Derived.Test.YtelipknnfagnjaaOwnw
import Derived.Test.YtelipknnfagnjaaWrp
import Derived.DeepKeys4
import Derived.Maps.OwnOps
import Derived.Maps.OwnSet
import Derived.Maps.OwnIn
import Derived.Sort.MapsRangeIn
import Derived.Sort.KeysCollected
namespace Go.Proofs.Ytelipknnfagnjaa
set_option linter.unusedVariables false
open Go.RowKit Go.Maps Go.Shelf
attribute [local go_sem] Oper.semAt_some

theorem laidOut : laidOutB Try.prog = true := by kernel_rfl
set_option maxRecDepth 100000 in
theorem rowF : (26 : TypeId) < Try.prog.types.size := of_decide_eq_true (by kernel_rfl)
theorem wideF : (match Try.prog.underlying 26 with | some (.array _ _) | some (.struct _) => true | _ => false) = true := by rw [Try.underlying26]
set_option maxRecDepth 100000 in
theorem keyedF : Keyed Try.prog 26 := Keyed.of_law (deep_law_laid laidOut (m := 2) (by omega) rowF (by kernel_rfl) wideF)
set_option maxRecDepth 100000 in
theorem cellsF : Try.prog.cellsOf 26 = 2 := by kernel_rfl
theorem cellsI : Try.prog.cellsOf 3 = 1 := by kernel_rfl
set_option maxRecDepth 100000 in
theorem keyTF : Try.prog.keyType 26 = true := by kernel_rfl
def SmF (p : Nat × Nat) : Prop := p.1 ≤ 1000000 ∧ p.2 ≤ 1000000
def keyLit (p : Nat × Nat) : Lit := .string (keyBytes [.int .i64 p.1, .int .i64 p.2])
set_option maxRecDepth 100000 in
theorem keyLit_key {p : Nat × Nat} (h : SmF p) : keyOf Try.prog 26 (frV p) = some (keyLit p) := by
  obtain ⟨b, e⟩ := p
  obtain ⟨hb, he⟩ := h
  simp only at hb he
  obtain ⟨m, hm⟩ : ∃ m, Try.prog.types.size = m + 1 := ⟨Try.prog.types.size - 1, (Nat.succ_pred_eq_of_pos (Nat.lt_of_le_of_lt (Nat.zero_le _) rowF)).symm⟩
  have w1 : (Lit.int .i64 (b : Int)).wf = true := WalkArith.wf_i64 ⟨by omega, by omega⟩
  have w2 : (Lit.int .i64 (e : Int)).wf = true := WalkArith.wf_i64 ⟨by omega, by omega⟩
  have hf : (frV (b, e)).formed Try.prog 26 = true := by simp [frV, Value.formed, Try.underlying26, cellsF]
  unfold keyOf
  rw [Try.underlying26, keyTF, hf, hm]
  simp [frV, keyLit, Program.keyLits, Try.underlying26, Try.underlying3, cellsF, cellsI, Value.cells, w1, w2]
theorem keyLit_is {p : Nat × Nat} (h : SmF p) : WideAt.IsKeyLit (keyLit p) := keyedF.key (keyLit_key h)
theorem frV_inj {p q : Nat × Nat} (h : frV p = frV q) : p = q := by
  simp [frV] at h
  exact Prod.ext (by omega) (by omega)
theorem keyLit_inj {p q : Nat × Nat} (hp : SmF p) (hq : SmF q) (h : keyLit p = keyLit q) : p = q :=
  frV_inj (keyedF.inj (keyLit_key hp) (by rw [h]; exact keyLit_key hq))
theorem keyLit_same {p q : Nat × Nat} (hp : SmF p) (hq : SmF q) : (keyLit p).sameKey (keyLit q) = decide (p = q) := by
  by_cases h : p = q
  · subst h; rw [decide_eq_true rfl]; exact WideAt.sameKey_self (keyLit_is hp)
  · rw [decide_eq_false h]
    cases hs : (keyLit p).sameKey (keyLit q) with
    | false => rfl
    | true => exact absurd (keyLit_inj hp hq (WideAt.sameKey_eq hs)) h

/-- the set as the map reads -/
def fracSet (L : List (Nat × Nat)) : DataW Unit := setOf (.lit (.bool true)) (L.map keyLit)
theorem fracSet_snoc (L : List (Nat × Nat)) (p : Nat × Nat) : fracSet (L ++ [p]) = (fracSet L).put (keyLit p) (.lit (.bool true)) := by
  unfold fracSet; rw [List.map_append, List.map_singleton, setOf_snoc]
theorem keyLits_are {L : List (Nat × Nat)} (h : ∀ p ∈ L, SmF p) : ∀ x ∈ L.map keyLit, WideAt.IsKeyLit x := by
  intro x hx
  obtain ⟨p, hp, rfl⟩ := List.mem_map.1 hx
  exact keyLit_is (h p hp)
theorem fracSet_has {L : List (Nat × Nat)} (h : ∀ p ∈ L, SmF p) (kl : Lit) : has (fracSet L) kl = true ↔ ∃ p ∈ L, (keyLit p).sameKey kl = true := by
  unfold fracSet
  rw [has_setOf _ _ _ (keyLits_are h), List.any_eq_true]
  constructor
  · rintro ⟨x, hx, hs⟩
    obtain ⟨p, hp, rfl⟩ := List.mem_map.1 hx
    exact ⟨p, hp, hs⟩
  · rintro ⟨p, hp, hs⟩; exact ⟨_, List.mem_map_of_mem hp, hs⟩

/-- no key twice; a key has come just where it is no longer left -/
structure ColF (L : List (Nat × Nat)) (left : Lit → Bool) (ss : List (Nat × Nat)) : Prop where
  nd : ss.Nodup
  sub : ∀ p ∈ ss, p ∈ L
  iff : ∀ p ∈ L, (p ∈ ss ↔ left (keyLit p) = false)
  all : ∀ kl, left kl = true → ∃ p ∈ L, kl = keyLit p
theorem ColF.start {L : List (Nat × Nat)} (h : ∀ p ∈ L, SmF p) : ColF L (has (fracSet L)) [] := by
  refine ⟨List.nodup_nil, by simp, fun p hp => ?_, fun kl hk => ?_⟩
  · have : has (fracSet L) (keyLit p) = true := (fracSet_has h _).2 ⟨p, hp, WideAt.sameKey_self (keyLit_is (h p hp))⟩
    simp [this]
  · obtain ⟨p, hp, hs⟩ := (fracSet_has h kl).1 hk
    exact ⟨p, hp, (WideAt.sameKey_eq hs).symm⟩
theorem ColF.step {L : List (Nat × Nat)} {left : Lit → Bool} {ss : List (Nat × Nat)} (h : ColF L left ss) (hs : ∀ p ∈ L, SmF p) {x : Nat × Nat} (hx : x ∈ L) (hl : left (keyLit x) = true) : ColF L (fun z => left z && !z.sameKey (keyLit x)) (ss ++ [x]) := by
  have hn : x ∉ ss := fun hm => by rw [(h.iff x hx).1 hm] at hl; cases hl
  refine ⟨?_, fun p hp => ?_, fun p hp => ?_, fun kl hk => h.all kl (by simp at hk; exact hk.1)⟩
  · rw [List.nodup_append]
    exact ⟨h.nd, by simp, fun a ha b hb e => by simp at hb; subst hb; subst e; exact hn ha⟩
  · rcases List.mem_append.1 hp with h1 | h1
    · exact h.sub p h1
    · rw [List.mem_singleton] at h1; subst h1; exact hx
  · rw [List.mem_append, List.mem_singleton, h.iff p hp, keyLit_same (hs p hp) (hs x hx)]
    by_cases e : p = x <;> cases left (keyLit p) <;> simp [e]

set_option maxRecDepth 100000 in
set_option maxHeartbeats 4000000 in
theorem keys1_visits (n : Nat) (hn : 1 ≤ n) (Bm b nn : Nat) (L : List (Nat × Nat)) (hsm : ∀ p ∈ L, SmF p) (W : World) (hm : W.cell? ⟨Bm, 0, none⟩ = some (.map (some b))) (hown : W.ownsMap Try.prog 26 (plainElem (H := Unit) Try.prog 4) b nn (fracSet L)) :
    VisitsW Fence.wide n Try.prog 76 #[.pointer (some ⟨Bm, 0, none⟩)] (fun x : Nat × Nat => #[frV x]) (fun xs => xs.Nodup ∧ (∀ p, p ∈ xs ↔ p ∈ L) ∧ xs.length ≤ nn) nn W := by
  intro l J hJ hY h0
  have hsz := hown.size_le
  refine callsIn_of_wp Try.func76 rfl trivial ?_ rfl
  simp only [Try.ntmps76, List.size_toArray, List.length_cons, List.length_nil, Nat.reduceAdd, Nat.reduceSub, Array.replicate_succ, Array.replicate_zero, List.push_toArray, List.append_toArray, List.nil_append, List.cons_append]
  gi_wp2_with (first
    | (gi_at_range; refine wpListIn_range_own _ rfl _ 78 rfl 26 4 keyedF Try.underlying78 _ b nn _ rfl hown ?_; intro w0 hrg0 hg0 hs0)
    | gi_in)
  gi_loopw [3] (fun _ wr => ∃ (left : Lit → Bool) (cnt : Nat) (ss : List (Nat × Nat)), wr.ranges Try.prog 26 (plainElem (H := Unit) Try.prog 4) b W.heap.size nn (fracSet L) left cnt ∧ ColF L left ss ∧ ss.length + cnt ≤ nn ∧ J ss wr)
    (fun _ wr => wr.rangeLeft b W.heap.size)
  case atStart =>
    exact ⟨_, _, [], hrg0, ColF.start hsm, by simpa using hsz, hJ [] W w0 none h0 hg0 (fun r e => by cases e)⟩
  case round =>
    obtain ⟨left, cnt, ss, hrg, hC, hcnt, hJs⟩ := hrel
    gi_wp2_with (first
      | (gi_at_next; refine wpListIn_next_ranges _ rfl _ rfl 26 keyedF (plainElem (H := Unit) Try.prog 4) id id (fun key kl _ => ⟨key, rfl⟩) (fun v _ _ => ⟨v, rfl⟩) b W.heap.size nn _ _ _ rfl hrg ?_ ?_)
      | gi_in)
    · intro hc0 hl0
      gi_wp2
      go_end0
      exact ⟨⟨_, rfl⟩, ss, ⟨hC.nd, fun p => ⟨hC.sub p, fun hp => (hC.iff p hp).2 (hl0 _)⟩, by omega⟩, hJs⟩
    · intro key c kl yd yp w2 cnt2' hkey hlk hv hat hrg2 hlt hg2 hs2 hen
      obtain ⟨p, hp, rfl⟩ := hC.all kl hlk
      have ek : key = frV p := keyedF.inj hkey (keyLit_key (hsm p hp))
      subst ek
      have hJ2 : J ss w2 := hJ ss wr w2 (some W.heap.size) hJs hg2 (fun r e => by cases e; obtain ⟨o, h1, h2⟩ := hrg.iter_walk; exact ⟨Nat.le_refl _, o, h1, walk_not_cells h2⟩)
      have hC2 := hC.step hsm hp hlk
      have hss : ss.length < nn := by omega
      have hJ3 := hJ.new (.cells #[.int .i64 (p.1 : Nat), .int .i64 (p.2 : Nat)] 26) hJ2
      have hrg3 := hrg2.alloc (.cells #[.int .i64 (p.1 : Nat), .int .i64 (p.2 : Nat)] 26)
      obtain ⟨fn, tmps, assign, body, hy, hR⟩ := hY ss p _ hJ3 hss
      have HY := Lib.hid hR
      have HC2 := Lib.hid hC2
      have HG2 := Lib.hid hrg3
      have HJ := Lib.hid hJ
      unfold frV at hy hen
      have hle := hrg.left_eq
      clear hs2 hR hC2 hJ2 hJ3 hrg2 hrg3 hC hJs hg2 hat hv hkey hlk
      have HLE := Lib.hid hle
      clear hle hrg
      gi_wp2
      refine HY.out.mono ?_
      rintro e W3 ⟨rfl, hJ4, hk3⟩
      have hrg4 := HG2.out.of_walks hk3.walks
      have Hrg4 := Lib.hid hrg4
      have HJ4 := Lib.hid hJ4
      clear hrg4 hJ4
      gi_wp2
      go_roundw
      case rel => exact ⟨_, cnt2', ss ++ [p], Hrg4.out, HC2.out, by rw [List.length_append, List.length_singleton]; omega, HJ4.out⟩
      case measure => rw [Hrg4.out.left_eq, HLE.out]; exact hlt
end Go.Proofs.Ytelipknnfagnjaa
