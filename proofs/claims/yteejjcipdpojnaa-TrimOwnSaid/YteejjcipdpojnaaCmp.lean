/- The comparison of palindromes: trim.shorterFirst. -/
import Derived.Test.YteejjcipdpojnaaMap
import Derived.Sort.Grow
import Derived.Sort.EncStr
import Derived.Sort.Walk0
import Derived.Sort.Statements
import Derived.Shelf.SlSortCmp.Insertion
namespace Go.Proofs.Yteejjcipdpojnaa
set_option linter.unusedVariables false
open Go.RowKit Go.Sort

def cmpI (x y : Int) : Int := if x < y then -1 else if y < x then 1 else 0
/-- strings in Go's order -/
def cmpS (a b : ByteArray) : Int := if Op.bytesLess a.toList b.toList then -1 else if a.toList == b.toList then 0 else 1

set_option maxHeartbeats 1000000 in
theorem compareI_any (x y : Int) (w : World) :
    Calls Try.prog 76 #[.int .i64 x, .int .i64 y] w fun e w' => e = .returned (.int .i64 (cmpI x y)) ∧ w = w' := by
  rcases Int.lt_trichotomy x y with h | h | h
  · have h1 : cmpI x y = -1 := by unfold cmpI; rw [if_pos h]
    have H1 := Lib.hid h1
    clear h1
    go_enter Try.func76, Try.ntmps76
    go_wp2
    go_ret
    exact ⟨ret_int H1.out.symm, rfl⟩
  · subst h
    have h1 : cmpI x x = 0 := by unfold cmpI; rw [if_neg (by omega), if_neg (by omega)]
    have H1 := Lib.hid h1
    clear h1
    go_enter Try.func76, Try.ntmps76
    go_wp2
    go_ret
    exact ⟨ret_int H1.out.symm, rfl⟩
  · have h1 : cmpI x y = 1 := by unfold cmpI; rw [if_neg (by omega), if_pos h]
    have H1 := Lib.hid h1
    have h2 : ¬ x < y := by omega
    clear h1
    go_enter Try.func76, Try.ntmps76
    go_wp2
    go_ret
    exact ⟨ret_int H1.out.symm, rfl⟩

set_option maxHeartbeats 1000000 in
theorem compareS_any (x y : ByteArray) (w : World) :
    Calls Try.prog 77 #[.string x, .string y] w fun e w' => e = .returned (.int .i64 (cmpS x y)) ∧ w = w' := by
  cases h : Op.bytesLess x.toList y.toList with
  | true =>
    have h1 : cmpS x y = -1 := by unfold cmpS; rw [h]; rfl
    have H1 := Lib.hid h1
    clear h1
    go_enter Try.func77, Try.ntmps77
    go_wp2
    go_ret
    exact ⟨ret_int H1.out.symm, rfl⟩
  | false =>
    cases h2 : x.toList == y.toList with
    | true =>
      have h1 : cmpS x y = 0 := by unfold cmpS; rw [h, h2]; rfl
      have H1 := Lib.hid h1
      clear h1
      go_enter Try.func77, Try.ntmps77
      go_wp2
      go_ret
      exact ⟨ret_int H1.out.symm, rfl⟩
    | false =>
      have h1 : cmpS x y = 1 := by unfold cmpS; rw [h, h2]; rfl
      have H1 := Lib.hid h1
      clear h1
      go_enter Try.func77, Try.ntmps77
      go_wp2
      go_ret
      exact ⟨ret_int H1.out.symm, rfl⟩

/-- the shorter one first, then in Go's order -/
def cmpL (a b : ByteArray) : Int := if cmpI a.size b.size = 0 then cmpS a b else cmpI a.size b.size

set_option maxHeartbeats 1000000 in
theorem or_any (c d : Int) (b : Nat) (w : World) (h0 : w.cell? ⟨b, 0, none⟩ = some (.int .i64 c)) (h1 : w.cell? ⟨b, 1, none⟩ = some (.int .i64 d)) :
    Calls Try.prog 75 #[.slice (some ⟨b, 0, none⟩) 2 2] w fun e w' => e = .returned (.int .i64 (if c = 0 then d else c)) ∧ w = w' := by
  by_cases hc : c = 0
  · subst hc
    by_cases hd : d = 0
    · subst hd
      go_enter Try.func75, Try.ntmps75
      go_wp2
      go_rounds 3
      go_ret
      exact ⟨rfl, rfl⟩
    · have hd' : (d == 0) = false := by simp [hd]
      go_enter Try.func75, Try.ntmps75
      go_wp2
      go_rounds 3
      go_ret
      exact ⟨rfl, rfl⟩
  · have hc' : (c == 0) = false := by simp [hc]
    go_enter Try.func75, Try.ntmps75
    go_wp2
    go_rounds 3
    go_ret
    exact ⟨rfl, rfl⟩

set_option maxHeartbeats 1000000 in
theorem shorter_any (x y : ByteArray) (w : World) :
    Calls Try.prog 58 #[.string x, .string y] w fun e w' => e = .returned (.int .i64 (cmpL x y)) ∧ ∃ q os', w' = grow (w.drewN q) os' := by
  obtain ⟨c, hc⟩ : ∃ c, cmpI x.size y.size = c := ⟨_, rfl⟩
  obtain ⟨d, hd⟩ : ∃ d, cmpS x y = d := ⟨_, rfl⟩
  have hL : cmpL x y = if c = 0 then d else c := by unfold cmpL; rw [hc, hd]
  have HL := Lib.hid hL
  have Hc := Lib.hid hc
  have Hd := Lib.hid hd
  clear hc hd hL
  have hO := or_any c d w.heap.size (w.alloc (.cells #[.int .i64 c, .int .i64 d] 3)) (by rw [World.cell?_alloc_at _ _ _ _ rfl]; rfl) (by rw [World.cell?_alloc_at _ _ _ _ rfl]; rfl)
  have HO := Lib.hid hO
  clear hO
  go_enter Try.func58, Try.ntmps58
  go_wp2_with (first
    | (go_at_call 76; refine (compareI_any _ _ _).mono ?_; rintro e w' ⟨rfl, rfl⟩; rw [Hc.out])
    | (go_at_call 77; refine (compareS_any _ _ _).mono ?_; rintro e w' ⟨rfl, rfl⟩; rw [Hd.out])
    | (go_at_call 75; refine HO.out.mono ?_; rintro e w' ⟨rfl, rfl⟩; rw [← HL.out]))
  go_ret
  exact ⟨rfl, 0, #[.cells #[.int .i64 c, .int .i64 d] 3], alloc_eq_grow _ _⟩

/-! ### the order on lists of bytes -/
def cmpE (a b : List UInt8) : Int := cmpL ⟨a.toArray⟩ ⟨b.toArray⟩
def ltE (a b : List UInt8) : Bool := decide (a.length < b.length) || (decide (a.length = b.length) && decide (a < b))

theorem cmpE_neg (a b : List UInt8) : (cmpE a b < 0) ↔ (a.length < b.length ∨ (a.length = b.length ∧ a < b)) := by
  have e1 : (ByteArray.mk a.toArray).size = a.length := by show a.toArray.size = _; simp
  have e2 : (ByteArray.mk b.toArray).size = b.length := by show b.toArray.size = _; simp
  unfold cmpE cmpL cmpI cmpS
  rw [e1, e2, ByteArray.toList_mk, ByteArray.toList_mk, bytesLess_eq]
  rcases Nat.lt_trichotomy a.length b.length with h | h | h
  · have h1 : (a.length : Int) < b.length := by omega
    simp [h1, h]
  · rw [h]
    by_cases hl : a < b
    · simp [hl]
    · by_cases he : a = b
      · subst he; have := List.lt_irrefl a; simp [this]
      · simp [hl, he]
  · have h1 : (b.length : Int) < a.length := by omega
    have h2 : ¬ (a.length : Int) < b.length := by omega
    have h3 : ¬ a.length = b.length := by omega
    have h4 : ¬ a.length < b.length := by omega
    simp [h1, h2, h3, h4]

theorem ltOf_eq (a b : List UInt8) : ltOf cmpE a b = ltE a b := by
  unfold ltOf ltE
  rw [Bool.eq_iff_iff, decide_eq_true_eq, cmpE_neg]
  simp

theorem ltE_iff (a b : List UInt8) : ltE a b = true ↔ (a.length < b.length ∨ (a.length = b.length ∧ a < b)) := by unfold ltE; simp
theorem ltE_no (a b : List UInt8) : ltE a b = false ↔ ¬ (a.length < b.length ∨ (a.length = b.length ∧ a < b)) := by rw [← ltE_iff]; simp

theorem ltE_swo : SWO (ltOf cmpE) where
  irrefl x := by rw [ltOf_eq, ltE_no]; rintro (h | ⟨_, h⟩); · omega
                 · exact List.lt_irrefl x h
  trans x y z := by
    rw [ltOf_eq, ltOf_eq, ltOf_eq, ltE_iff, ltE_iff, ltE_iff]
    rintro (h | ⟨h, h'⟩) (k | ⟨k, k'⟩)
    · left; omega
    · left; omega
    · left; omega
    · right; exact ⟨by omega, List.lt_trans h' k'⟩
  ntrans x y z := by
    rw [ltOf_eq, ltOf_eq, ltOf_eq, ltE_no, ltE_no, ltE_no]
    intro h k
    rintro (m | ⟨m, m'⟩)
    · rcases Nat.lt_or_ge x.length y.length with q | q
      · exact h (.inl q)
      · exact k (.inl (by omega))
    · rcases Nat.lt_trichotomy x.length y.length with q | q | q
      · exact h (.inl q)
      · have h1 : ¬ x < y := fun e => h (.inr ⟨q, e⟩)
        have h2 : ¬ y < z := fun e => k (.inr ⟨by omega, e⟩)
        exact List.not_lt.2 (List.le_trans (List.not_lt.1 h2) (List.not_lt.1 h1)) m'
      · exact k (.inl (by omega))

theorem ltE_total (x y : List UInt8) (h : ltOf cmpE x y = false) (k : ltOf cmpE y x = false) : x = y := by
  rw [ltOf_eq, ltE_no] at h k
  have hl : x.length = y.length := by
    rcases Nat.lt_trichotomy x.length y.length with q | q | q
    · exact absurd (.inl q) h
    · exact q
    · exact absurd (.inl q) k
  exact List.le_antisymm (List.not_lt.1 fun e => k (.inr ⟨hl.symm, e⟩)) (List.not_lt.1 fun e => h (.inr ⟨hl, e⟩))
end Go.Proofs.Yteejjcipdpojnaa
