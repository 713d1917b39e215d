/- The statements' own comparisons of lists: ints and texts. -/
import Derived.Test.YteejjcipdpojnaaMap
import Derived.Test.YteejjcipdpojnaaBetter
namespace Go.Proofs.Yteejjcipdpojnaa
set_option linter.unusedVariables false
open Go.RowKit

/-- the slice at a holds the values vs -/
def Row (w : World) (a : Option Addr) (n : Nat) (vs : List Value) : Prop :=
  vs.length = n ∧ (0 < n → ∃ g, a = some ⟨g, 0, none⟩ ∧ g < w.heap.size ∧ ∀ j u, vs[j]? = some u → w.cell? ⟨g, j, none⟩ = some u)

theorem Row.of_own {w : World} {base n : Nat} {e : TypeId} {v : Value} {xs : List Value} (h : w.ownsRow base e 1 v n xs) : ∃ a cap, v = .slice a n cap ∧ Row w a n xs := by
  obtain ⟨a, cap, hv, hl, hc⟩ := ownsRow_open h
  exact ⟨a, cap, hv, hl, fun hn => by obtain ⟨g, h1, _, h3, h4⟩ := hc hn; exact ⟨g, h1, h3, h4⟩⟩
theorem Row.below {w w' : World} {a : Option Addr} {n : Nat} {vs : List Value} (h : Row w a n vs) (hb : Below w.heap.size w w') : Row w' a n vs :=
  ⟨h.1, fun hn => by obtain ⟨g, h1, h3, h4⟩ := h.2 hn; exact ⟨g, h1, Nat.lt_of_lt_of_le h3 hb.size, fun j u hu => (hb.cell (p := ⟨g, j, none⟩) h3).trans (h4 j u hu)⟩⟩
theorem Row.drewN {w : World} {a : Option Addr} {n : Nat} {vs : List Value} (h : Row w a n vs) (q : Nat) : Row (w.drewN q) a n vs := h
theorem Row.built {w : World} (t : TypeId) (vs : List Value) : Row (w.alloc (.cells vs.toArray t)) (some ⟨w.heap.size, 0, none⟩) vs.length vs :=
  ⟨rfl, fun _ => ⟨_, rfl, by simp, fun j u hu => by rw [World.cell?_alloc_at _ _ _ _ rfl]; simpa using hu⟩⟩

def intL (xs : List Int) : List Value := xs.map (Value.int .i64)
def strs (ss : List (List UInt8)) : List Value := ss.map encStr

theorem take_ext {α : Type} {xs ys : List α} {k : Nat} {x y : α} (hx : xs[k]? = some x) (hy : ys[k]? = some y) : xs.take (k + 1) = ys.take (k + 1) ↔ xs.take k = ys.take k ∧ x = y := by
  rw [List.take_add_one, List.take_add_one, hx, hy]
  constructor
  · intro h
    have := List.append_inj' h (by simp)
    exact ⟨this.1, by simpa using this.2⟩
  · rintro ⟨h, rfl⟩; rw [h]

set_option maxHeartbeats 1000000 in
theorem ints_any (a b : Option Addr) (n m ca cb : Nat) (xs ys : List Int) (w : World) (ha : Row w a n (intL xs)) (hb : Row w b m (intL ys)) (hn : n ≤ 1000) (hm : m ≤ 1000) :
    Calls Try.prog 26 #[.slice a n ca, .slice b m cb] w fun e w' => e = .returned (.bool (decide (xs = ys))) ∧ ∃ q, w' = w.drewN q := by
  have hx : xs.length = n := by have := ha.1; simpa [intL] using this
  have hy : ys.length = m := by have := hb.1; simpa [intL] using this
  by_cases hnm : n = m
  · subst hnm
    have Hx := Lib.hid hx
    have Hy := Lib.hid hy
    have Ha := Lib.hid ha
    have Hb := Lib.hid hb
    clear hx hy ha hb
    go_enter Try.func26, Try.ntmps26
    go_wp2
    go_loopw [5] (fun i wr => ∃ k q : Nat, k ≤ n ∧ i = .int .i64 k ∧ Hid (xs.take k = ys.take k) ∧ wr = w.drewN q) (fun i _ => n - (intOf i).toNat)
    case atStart => exact ⟨0, 0, Nat.zero_le _, rfl, rfl, rfl⟩
    case round =>
      obtain ⟨k, q, hk, rfl, HP, rfl⟩ := hrel
      by_cases hlt : k < n
      · have hc : (k : Int) < n := by omega
        obtain ⟨x, hx⟩ : ∃ x, xs[k]? = some x := ⟨_, List.getElem?_eq_getElem (by have := Hx.out; omega)⟩
        obtain ⟨y, hy⟩ : ∃ y, ys[k]? = some y := ⟨_, List.getElem?_eq_getElem (by have := Hy.out; omega)⟩
        obtain ⟨g1, rfl, _, hg1⟩ := Ha.out.2 (by omega)
        obtain ⟨g2, rfl, _, hg2⟩ := Hb.out.2 (by omega)
        have c1 := hg1 k (Value.int .i64 x) (by simp [intL, hx])
        have c2 := hg2 k (Value.int .i64 y) (by simp [intL, hy])
        have hT := take_ext hx hy
        have HT := Lib.hid hT
        clear hx hy hg1 hg2 hT
        by_cases hxy : x = y
        · subst hxy
          go_wp2
          go_quiet (fail)
          go_wp2
          have hz := HT.out.2 ⟨HP.out, by trivial⟩
          go_roundw
          case rel => exact ⟨k + 1, _, by omega, by go_num, hz, rfl⟩
          case measure => simp [intOf]; omega
        · have h1 : (x == y) = false := by simp [hxy]
          have h2 : (x != y) = true := by simp [hxy]
          have Hxy := Lib.hid hxy
          clear hxy
          go_wp2
          go_quiet (fail)
          go_wp2
          go_ret
          exact ⟨ret_bool (by rw [decide_eq_false]; intro e; exact Hxy.out (HT.out.1 (by rw [e])).2), _, World.drewN_drewN _ _ _⟩
      · obtain rfl : k = n := by omega
        go_wp2
        go_ret
        exact ⟨ret_bool (by rw [decide_eq_true]; have h := HP.out; rwa [List.take_of_length_le (by have := Hx.out; omega), List.take_of_length_le (by have := Hy.out; omega)] at h), _, rfl⟩
  · have h1 : ¬ (n : Int) = m := by omega
    have h2 : ((n : Int) == m) = false := by rw [beq_eq_false_iff_ne]; exact h1
    have hne : ¬ xs = ys := fun e => hnm (by rw [← hx, ← hy, e])
    have Hne := Lib.hid hne
    clear hne h1 hx hy ha hb
    have Hnm := Lib.hid hnm
    clear hnm
    go_enter Try.func26, Try.ntmps26
    go_wp2
    go_ret
    exact ⟨ret_bool (by rw [decide_eq_false Hne.out]), 0, rfl⟩
set_option maxHeartbeats 1000000 in
theorem texts_any (a b : Option Addr) (n m ca cb : Nat) (xs ys : List (List UInt8)) (w : World) (ha : Row w a n (strs xs)) (hb : Row w b m (strs ys)) (hn : n ≤ 1000) (hm : m ≤ 1000) :
    Calls Try.prog 24 #[.slice a n ca, .slice b m cb] w fun e w' => e = .returned (.bool (decide (xs = ys))) ∧ ∃ q, w' = w.drewN q := by
  have hx : xs.length = n := by have := ha.1; simpa [strs] using this
  have hy : ys.length = m := by have := hb.1; simpa [strs] using this
  by_cases hnm : n = m
  · subst hnm
    have Hx := Lib.hid hx
    have Hy := Lib.hid hy
    have Ha := Lib.hid ha
    have Hb := Lib.hid hb
    clear hx hy ha hb
    go_enter Try.func24, Try.ntmps24
    go_wp2
    go_loopw [5] (fun i wr => ∃ k q : Nat, k ≤ n ∧ i = .int .i64 k ∧ Hid (xs.take k = ys.take k) ∧ wr = w.drewN q) (fun i _ => n - (intOf i).toNat)
    case atStart => exact ⟨0, 0, Nat.zero_le _, rfl, rfl, rfl⟩
    case round =>
      obtain ⟨k, q, hk, rfl, HP, rfl⟩ := hrel
      by_cases hlt : k < n
      · have hc : (k : Int) < n := by omega
        obtain ⟨x, hx⟩ : ∃ x, xs[k]? = some x := ⟨_, List.getElem?_eq_getElem (by have := Hx.out; omega)⟩
        obtain ⟨y, hy⟩ : ∃ y, ys[k]? = some y := ⟨_, List.getElem?_eq_getElem (by have := Hy.out; omega)⟩
        obtain ⟨g1, rfl, _, hg1⟩ := Ha.out.2 (by omega)
        obtain ⟨g2, rfl, _, hg2⟩ := Hb.out.2 (by omega)
        have c1 := hg1 k (encStr x) (by simp [strs, hx])
        have c2 := hg2 k (encStr y) (by simp [strs, hy])
        have hT := take_ext hx hy
        have HT := Lib.hid hT
        clear hx hy hg1 hg2 hT
        by_cases hxy : x = y
        · subst hxy
          go_wp2
          go_quiet (fail)
          go_wp2
          have hz := HT.out.2 ⟨HP.out, by trivial⟩
          go_roundw
          case rel => exact ⟨k + 1, _, by omega, by go_num, hz, rfl⟩
          case measure => simp [intOf]; omega
        · have h1 : (x == y) = false := by simp [hxy]
          have h2 : (x != y) = true := by simp [hxy]
          have Hxy := Lib.hid hxy
          clear hxy
          go_wp2
          go_quiet (fail)
          go_wp2
          go_ret
          exact ⟨ret_bool (by rw [decide_eq_false]; intro e; exact Hxy.out (HT.out.1 (by rw [e])).2), _, World.drewN_drewN _ _ _⟩
      · obtain rfl : k = n := by omega
        go_wp2
        go_ret
        exact ⟨ret_bool (by rw [decide_eq_true]; have h := HP.out; rwa [List.take_of_length_le (by have := Hx.out; omega), List.take_of_length_le (by have := Hy.out; omega)] at h), _, rfl⟩
  · have h1 : ¬ (n : Int) = m := by omega
    have h2 : ((n : Int) == m) = false := by rw [beq_eq_false_iff_ne]; exact h1
    have hne : ¬ xs = ys := fun e => hnm (by rw [← hx, ← hy, e])
    have Hne := Lib.hid hne
    clear hne h1 hx hy ha hb
    have Hnm := Lib.hid hnm
    clear hnm
    go_enter Try.func24, Try.ntmps24
    go_wp2
    go_ret
    exact ⟨ret_bool (by rw [decide_eq_false Hne.out]), 0, rfl⟩
end Go.Proofs.Yteejjcipdpojnaa
