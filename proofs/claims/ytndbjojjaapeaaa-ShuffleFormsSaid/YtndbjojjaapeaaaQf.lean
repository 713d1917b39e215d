/- Texts, joined: Shm, Rsh, Lin, Spl, Sps, Rdv, Eqp, Wva, Crt. -/
import Derived.Test.YtndbjojjaapeaaaQe
import Derived.Test.YtndbjojjaapeaaaQd
import Derived.Deep.Onto
import Derived.Test.YtndbjojjaapeaaaQb
/- Mathematics of Shifted: the numbers by which a function moves. -/
namespace Go.Proofs.Ytndbjojjaapeaaa
set_option linter.unusedVariables false
open Go.RowKit

theorem okS_iff {m : Nat} {f : Nat → Int} {a : Nat} (hm2 : m ≤ 64) : okS m f a = true ↔ ∀ x, x < m → f ((x + a) % m) = (f x + (a : Int)) % (m : Int) := by
  unfold okS
  rw [decide_eq_true_eq]
  constructor
  · intro h x hx
    have h1 : (tabL (fun x => f ((x + a) % m)) m).getD x 0 = (tabL (fun x => (f x + (a : Int)) % (m : Int)) m).getD x 0 := by rw [h]
    rw [tabL_get _ _ (by omega), tabL_get _ _ (by omega), if_pos hx, if_pos hx] at h1
    exact h1
  · intro h
    unfold tabL
    exact List.map_congr_left fun x hx => by
      by_cases hxm : x < m
      · rw [if_pos hxm, if_pos hxm]; exact h x hxm
      · rw [if_neg hxm, if_neg hxm]
theorem okS_zero {m : Nat} {f : Nat → Int} (hm2 : m ≤ 64) (hf : ∀ x, 0 ≤ f x ∧ f x < m) : okS m f 0 = true := by
  rw [okS_iff hm2]
  intro x hx
  rw [Nat.add_zero, Nat.mod_eq_of_lt hx]
  have := hf x
  show f x = (f x + 0) % (m : Int)
  rw [Int.add_zero, Int.emod_eq_of_lt this.1 this.2]
theorem okS_add {m : Nat} {f : Nat → Int} {a b : Nat} (hm : 1 ≤ m) (hm2 : m ≤ 64) (ha : okS m f a = true) (hb : okS m f b = true) : okS m f ((a + b) % m) = true := by
  rw [okS_iff hm2] at ha hb ⊢
  intro x hx
  have h1 : (x + (a + b) % m) % m = ((x + a) % m + b) % m := by rw [Nat.add_mod_mod, Nat.mod_add_mod, Nat.add_assoc]
  rw [h1, hb _ (Nat.mod_lt _ (by omega)), ha x hx, Int.emod_add_emod, Int.natCast_emod, Int.add_emod_emod, Int.natCast_add, Int.add_assoc]
theorem okS_mul {m : Nat} {f : Nat → Int} {a : Nat} (hm : 1 ≤ m) (hm2 : m ≤ 64) (hf : ∀ x, 0 ≤ f x ∧ f x < m) (ha : okS m f a = true) : ∀ k, okS m f (k * a % m) = true
  | 0 => by rw [Nat.zero_mul, Nat.zero_mod]; exact okS_zero hm2 hf
  | k + 1 => by
    have h := okS_add hm hm2 (okS_mul hm hm2 hf ha k) ha
    rwa [Nat.mod_add_mod, ← Nat.succ_mul] at h
/-- with a and b, what is left of a without b's multiples -/
theorem okS_sub {m : Nat} {f : Nat → Int} {a b q r : Nat} (hm : 1 ≤ m) (hm2 : m ≤ 64) (hf : ∀ x, 0 ≤ f x ∧ f x < m) (ha : okS m f (a % m) = true) (hb : okS m f b = true) (h : a = q * b + r) (hr : r < m) : okS m f r = true := by
  have h1 := okS_add hm hm2 ha (okS_mul hm hm2 hf hb (q * (m - 1)))
  have h2 : (a % m + q * (m - 1) * b % m) % m = r := by
    rw [← Nat.add_mod, h]
    obtain ⟨n, rfl⟩ : ∃ n, m = n + 1 := ⟨m - 1, by omega⟩
    rw [Nat.add_sub_cancel, show q * b + r + q * n * b = r + (n + 1) * (q * b) by grind, Nat.add_mul_mod_self_left, Nat.mod_eq_of_lt hr]
  rwa [h2] at h1
/-- the smallest one that is not 0, or m -/
theorem okS_step {m : Nat} {f : Nat → Int} (hm : 1 ≤ m) (hm2 : m ≤ 64) (hf : ∀ x, 0 ≤ f x ∧ f x < m) : ∃ d q, 1 ≤ d ∧ m = q * d ∧ ∀ a, a < m → (okS m f a = true ↔ a % d = 0) := by
  have hex : ∃ d, 1 ≤ d ∧ d ≤ m ∧ okS m f (d % m) = true ∧ ∀ e, 1 ≤ e → e < d → okS m f e = false := by
    have hstep : ∀ n, n ≤ m → (∃ d, 1 ≤ d ∧ d ≤ m ∧ okS m f (d % m) = true ∧ ∀ e, 1 ≤ e → e < d → okS m f e = false) ∨ ∀ e, 1 ≤ e → e < n → okS m f e = false := by
      intro n
      induction n with
      | zero => exact fun _ => .inr fun e h1 h2 => by omega
      | succ n ih =>
        intro hn
        rcases ih (by omega) with h | h
        · exact .inl h
        · cases hc : okS m f n with
          | true =>
            by_cases h0 : n = 0
            · exact .inr fun e h1 h2 => by omega
            · exact .inl ⟨n, by omega, by omega, by rw [Nat.mod_eq_of_lt (by omega)]; exact hc, h⟩
          | false =>
            refine .inr fun e h1 h2 => ?_
            by_cases e1 : e = n
            · subst e1; exact hc
            · exact h e h1 (by omega)
    rcases hstep m (Nat.le_refl _) with h | h
    · exact h
    · exact ⟨m, hm, Nat.le_refl _, by rw [Nat.mod_self]; exact okS_zero hm2 hf, h⟩
  obtain ⟨d, hd1, hdm, hd, hmin⟩ := hex
  have hdd : okS m f (d % m) = true := hd
  -- d divides m
  have hdiv : m % d = 0 := by
    rcases Nat.eq_zero_or_pos (m % d) with h | h
    · exact h
    · exfalso
      have hlt := Nat.mod_lt m hd1
      have hdl : d < m := by
        rcases Nat.lt_or_ge d m with h2 | h2
        · exact h2
        · obtain rfl : d = m := by omega
          rw [Nat.mod_self] at h; omega
      rw [Nat.mod_eq_of_lt hdl] at hd
      have h3 := okS_sub (a := m) (q := m / d) (r := m % d) hm hm2 hf (by rw [Nat.mod_self]; exact okS_zero hm2 hf) hd (by have := Nat.div_add_mod m d; rw [Nat.mul_comm] at this; omega) (by omega)
      rw [hmin _ h hlt] at h3
      cases h3
  refine ⟨d, m / d, hd1, (Nat.div_mul_cancel (Nat.dvd_of_mod_eq_zero hdiv)).symm, fun a ha => ?_⟩
  constructor
  · intro h
    rcases Nat.eq_zero_or_pos (a % d) with h0 | h0
    · exact h0
    · exfalso
      have hlt := Nat.mod_lt a hd1
      have hdl : d < m := by
        rcases Nat.lt_or_ge d m with h2 | h2
        · exact h2
        · obtain rfl : d = m := by omega
          rw [Nat.mod_eq_of_lt ha] at h0 hlt
          rw [hmin a h0 ha] at h
          cases h
      rw [Nat.mod_eq_of_lt hdl] at hd
      have h3 := okS_sub (a := a) (q := a / d) (r := a % d) hm hm2 hf (by rw [Nat.mod_eq_of_lt ha]; exact h) hd (by have := Nat.div_add_mod a d; rw [Nat.mul_comm] at this; omega) (by omega)
      rw [hmin _ h0 hlt] at h3
      cases h3
  · intro h
    have h4 := okS_mul hm hm2 hf hdd (a / d)
    have h5 : a / d * (d % m) % m = a := by
      rw [Nat.mul_mod_mod, Nat.div_mul_cancel (Nat.dvd_of_mod_eq_zero h), Nat.mod_eq_of_lt ha]
    rwa [h5] at h4
theorem count_mul {d : Nat} (hd : 1 ≤ d) : ∀ n, n ≤ d * ((List.range n).filter fun a => decide (a % d = 0)).length ∧ d * ((List.range n).filter fun a => decide (a % d = 0)).length < n + d
  | 0 => by simp; omega
  | n + 1 => by
    obtain ⟨h1, h2⟩ := count_mul hd n
    rw [List.range_succ, List.filter_append, List.length_append]
    generalize ((List.range n).filter fun a => decide (a % d = 0)).length = L at h1 h2 ⊢
    by_cases h : n % d = 0
    · have e : ([n].filter fun a => decide (a % d = 0)).length = 1 := by simp [h]
      rw [e, Nat.mul_add, Nat.mul_one]
      have hn := Nat.div_mul_cancel (Nat.dvd_of_mod_eq_zero h)
      have h3 : n / d ≤ L := by
        rcases Nat.lt_or_ge L (n / d) with h4 | h4
        · have := Nat.mul_le_mul_left d (Nat.succ_le_of_lt h4)
          rw [Nat.mul_comm d (n / d), hn, Nat.mul_succ] at this
          omega
        · exact h4
      have h5 : L ≤ n / d := by
        rcases Nat.lt_or_ge (n / d) L with h4 | h4
        · have := Nat.mul_le_mul_left d (Nat.succ_le_of_lt h4)
          rw [Nat.mul_succ, Nat.mul_comm d (n / d), hn] at this
          omega
        · exact h4
      have h6 : d * L = n := by rw [show L = n / d by omega, Nat.mul_comm, hn]
      omega
    · have e : ([n].filter fun a => decide (a % d = 0)).length = 0 := by simp [h]
      rw [e, show L + 0 = L from rfl]
      refine ⟨?_, by omega⟩
      rcases Nat.lt_or_ge n (d * L) with h3 | h3
      · exact h3
      · exfalso
        have h4 : n = d * L := by omega
        rw [h4, Nat.mul_mod_right] at h
        exact h rfl
theorem shL_divides {m : Nat} {f : Nat → Int} (hm : 1 ≤ m) (hm2 : m ≤ 64) (hf : ∀ x, 0 ≤ f x ∧ f x < m) : m % (shL m f m).length = 0 := by
  obtain ⟨d, q, hd, hq, h⟩ := okS_step hm hm2 hf
  have hl : (shL m f m).length = q := by
    unfold shL
    rw [List.length_map]
    have e : (List.range m).filter (okS m f) = (List.range m).filter fun a => decide (a % d = 0) := List.filter_congr fun a ha => by
      have := h a (List.mem_range.1 ha)
      cases hc : okS m f a with
      | true => exact (decide_eq_true (this.1 hc)).symm
      | false =>
        refine (decide_eq_false fun h0 => ?_).symm
        rw [this.2 h0] at hc
        cases hc
    rw [e]
    obtain ⟨h1, h2⟩ := count_mul hd m
    generalize ((List.range m).filter fun a => decide (a % d = 0)).length = L at h1 h2 ⊢
    rw [hq, Nat.mul_comm q d] at h1 h2
    have h3 : q ≤ L := Nat.le_of_mul_le_mul_left h1 (by omega)
    have h4 : L < q + 1 := Nat.lt_of_mul_lt_mul_left (a := d) (by rw [Nat.mul_add, Nat.mul_one]; exact h2)
    omega
  rw [hl, hq, Nat.mul_mod_right]
/-- what the walk wants to know of the list -/
structure ShW (m : Nat) (S : List Int) : Prop where
  pos : 1 ≤ S.length
  le : S.length ≤ 64
  zero : S.getD 0 0 = 0
  div : m % S.length = 0
  elem : ∀ i, i < S.length → 0 ≤ S.getD i 0 ∧ S.getD i 0 < m
  asc : ∀ i, i + 1 < S.length → S.getD i 0 < S.getD (i + 1) 0
  sum : ∀ i j, i < S.length → j < S.length → ∃ k, k < S.length ∧ S.getD k 0 = (S.getD i 0 + S.getD j 0) % (m : Int)
theorem shL_W {m : Nat} {f : Nat → Int} (hm : 2 ≤ m) (hm2 : m ≤ 64) (hf : ∀ x, 0 ≤ f x ∧ f x < m) : ShW m (shL m f m) := by
  have hdv := shL_divides (by omega) hm2 hf
  have hle := shL_le m f m
  unfold shL at *
  have hlt : ((List.range m).filter (okS m f)).Pairwise (· < ·) := List.Pairwise.filter _ List.pairwise_lt_range
  have hmem : ∀ a, a ∈ (List.range m).filter (okS m f) ↔ a < m ∧ okS m f a = true := fun a => by rw [List.mem_filter, List.mem_range]
  have h0 : ∃ t, (List.range m).filter (okS m f) = 0 :: t := by
    obtain ⟨n, rfl⟩ : ∃ n, m = n + 1 := ⟨m - 1, by omega⟩
    rw [List.range_succ_eq_map, List.filter_cons_of_pos (okS_zero hm2 hf)]
    exact ⟨_, rfl⟩
  generalize (List.range m).filter (okS m f) = A at *
  have hget : ∀ i, (h : i < A.length) → (A.map fun a : Nat => (a : Int)).getD i 0 = (A[i] : Int) := fun i h => by
    rw [List.getD_eq_getElem?_getD, List.getElem?_map, List.getElem?_eq_getElem h]; rfl
  obtain ⟨t, ht⟩ := h0
  refine ⟨?_, ?_, ?_, hdv, ?_, ?_, ?_⟩
  · rw [List.length_map, ht]; simp
  · omega
  · rw [ht]; rfl
  · intro i hi
    rw [List.length_map] at hi
    rw [hget i hi]
    have := ((hmem _).1 (List.getElem_mem hi)).1
    omega
  · intro i hi
    rw [List.length_map] at hi
    rw [hget i (by omega), hget (i + 1) hi]
    have := List.pairwise_iff_getElem.1 hlt i (i + 1) (by omega) hi (by omega)
    omega
  · intro i j hi hj
    rw [List.length_map] at hi hj
    rw [hget i hi, hget j hj]
    have h1 := (hmem _).1 (List.getElem_mem hi)
    have h2 := (hmem _).1 (List.getElem_mem hj)
    have h3 := (hmem ((A[i] + A[j]) % m)).2 ⟨Nat.mod_lt _ (by omega), okS_add (by omega) hm2 h1.2 h2.2⟩
    obtain ⟨k, hk, hk2⟩ := List.mem_iff_getElem.1 h3
    refine ⟨k, by rw [List.length_map]; exact hk, ?_⟩
    rw [hget k hk, hk2, Int.natCast_emod, Int.natCast_add]
/-- x plus a number moves by every number -/
theorem shL_line {m c : Nat} (hm : 2 ≤ m) (hm2 : m ≤ 64) : (shL m (fun x : Nat => polyV m [(c : Int), 1] x) m).length = m := by
  unfold shL
  rw [List.length_map]
  have h : (List.range m).filter (okS m fun x : Nat => polyV m [(c : Int), 1] x) = List.range m := by
    rw [List.filter_eq_self]
    intro a _
    rw [okS_iff hm2]
    intro x _
    have e : ∀ y : Nat, polyV m [(c : Int), 1] y = ((c : Int) + y) % (m : Int) := fun y => by
      rw [polyV_eval]
      show ((c : Int) + (y : Int) * (1 + (y : Int) * 0)) % (m : Int) = _
      rw [Int.mul_zero, Int.add_zero, Int.mul_one]
    rw [e, e, Int.natCast_emod, Int.add_emod_emod, Int.natCast_add, Int.emod_add_emod, Int.add_assoc]
  rw [h, List.length_range]
end Go.Proofs.Ytndbjojjaapeaaa

/- The reference's Shifts and Reduced. -/
namespace Go.Proofs.Ytndbjojjaapeaaa
set_option linter.unusedVariables false
open Go.RowKit

def okK (m : Nat) (F : List Int) (a k : Nat) : Bool := (List.range k).all fun x => decide (F.getD ((x + a) % m) 0 = (F.getD x 0 + (a : Int)) % (m : Int))
theorem okK_step (m : Nat) (F : List Int) (a k : Nat) : okK m F a (k + 1) = (okK m F a k && decide (F.getD ((k + a) % m) 0 = (F.getD k 0 + (a : Int)) % (m : Int))) := by
  unfold okK
  rw [List.range_succ, List.all_append]; simp
theorem okK_all {m : Nat} (hm2 : m ≤ 64) (F : List Int) (a : Nat) : okK m F a m = okS m (fun x => F.getD x 0) a := by
  rw [Bool.eq_iff_iff, okS_iff hm2]
  unfold okK
  rw [List.all_eq_true]
  exact ⟨fun h x hx => of_decide_eq_true (h x (List.mem_range.2 hx)), fun h x hx => decide_eq_true (h x (List.mem_range.1 hx))⟩
theorem rs_num {m x a : Nat} {y : Int} (hm : 2 ≤ m) (hm2 : m ≤ 64) (hx : x < m) (ha : a < m) (hy : 0 ≤ y ∧ y < m) : ∃ (j : Nat) (t : Int), (x + a) % m = j ∧ j < m ∧ IntKind.i64.wrap ((x : Int) + (a : Int)) = (x : Int) + (a : Int) ∧ Int.tmod ((x : Int) + (a : Int)) (m : Int) = (j : Int) ∧ IntKind.i64.wrap (j : Int) = (j : Int) ∧ IntKind.i64.wrap (y + (a : Int)) = y + (a : Int) ∧ Int.tmod (y + (a : Int)) (m : Int) = t ∧ IntKind.i64.wrap t = t ∧ (y + (a : Int)) % (m : Int) = t := by
  have h0 := Nat.mod_lt (x + a) (show 0 < m by omega)
  have h1 := tmod_nat (x + a) m
  rw [Int.natCast_add] at h1
  generalize (x + a) % m = j at h0 h1
  have h3 := Int.emod_nonneg (y + (a : Int)) (show (m : Int) ≠ 0 by omega)
  have h4 := Int.emod_lt_of_pos (y + (a : Int)) (show (0 : Int) < m by omega)
  have h5 : Int.tmod (y + (a : Int)) (m : Int) = (y + (a : Int)) % (m : Int) := Int.tmod_eq_emod_of_nonneg (by omega)
  refine ⟨j, (y + (a : Int)) % (m : Int), rfl, h0, IntWalk.i64_in _ (by omega), h1, IntWalk.i64_in _ (by omega), IntWalk.i64_in _ (by omega), h5, ?_, rfl⟩
  generalize (y + (a : Int)) % (m : Int) = t at h3 h4 ⊢
  exact IntWalk.i64_in _ (by omega)
set_option maxRecDepth 100000 in
set_option maxHeartbeats 4000000 in
theorem refShifts_any (m : Nat) (fa : Option Addr) (fc : Nat) (F : List Int) (w : World) (hr : Row w fa m (intL F)) (hm : 2 ≤ m) (hm2 : m ≤ 64) (hfi : ∀ x ∈ F, 0 ≤ x ∧ x < m) :
    Calls Try.prog 29 #[.slice fa m fc] w fun e w' => ∃ v, e = .returned v ∧ w'.ownsRow w.heap.size 3 1 v (shL m (fun x => F.getD x 0) m).length (intL (shL m (fun x => F.getD x 0) m)) ∧ Below w.heap.size w w' := by
  have hx : F.length = m := by have := hr.1; simpa [intL] using this
  obtain ⟨i0, hi, hz0, hz1, hz2⟩ := info_parts info_int
  have hg : ∀ i, i < m → 0 ≤ F.getD i 0 ∧ F.getD i 0 < m := fun i hi => hfi _ (by rw [List.getD_eq_getElem?_getD, List.getElem?_eq_getElem (by omega)]; exact List.getElem_mem _)
  obtain ⟨g, rfl, _⟩ := hr.2 (by omega)
  have hcell : ∀ W, Below w.heap.size w W → ∀ j, j < m → W.cell? ⟨g, j, none⟩ = some (.int .i64 (F.getD j 0)) := fun W hW j hj => by
    obtain ⟨g', e1, h2⟩ := (hr.below hW).int hj
    simp only [Option.some.injEq, Addr.mk.injEq, and_true] at e1
    subst e1
    exact h2
  have Hst := Lib.hid fun k => shL_next m (fun x => F.getD x 0) k
  have Hle := Lib.hid fun k => shL_le m (fun x => F.getD x 0) k
  have Hok := Lib.hid fun a => okK_all hm2 F a
  have Hks := Lib.hid fun a k => okK_step m F a k
  have Hk0 := Lib.hid fun a => (show okK m F a 0 = true from rfl)
  have Hcell := Lib.hid hcell
  have Hg := Lib.hid hg
  clear hcell hg hx hfi hr
  obtain ⟨z1, z2⟩ := zero_no hm
  generalize hL : shL m (fun x => F.getD x 0) = L at *
  generalize okS m (fun x => F.getD x 0) = ok at *
  generalize okK m F = kk at *
  have hL0 : L 0 = [] := by rw [← hL]; rfl
  have HL0 := Lib.hid hL0
  clear hL hL0
  go_enter Try.func29, Try.ntmps29
  go_wp2
  go_loopw [4, 5] (fun v i wr => ∃ k : Nat, k ≤ m ∧ i = .int .i64 k ∧ Hid (wr.ownsRow w.heap.size 3 1 v (L k).length (intL (L k))) ∧ Hid (Below w.heap.size w wr)) (fun _ i _ => m - (intOf i).toNat)
  case atStart => exact ⟨0, Nat.zero_le _, rfl, by unfold Hid; rw [HL0.out]; exact World.ownsRow_nil _ _ _ _, Below.refl _ _⟩
  case round =>
    obtain ⟨k, hk, rfl, HO, HB⟩ := hrel
    obtain ⟨a5, c5, hv5⟩ := own_form HO.out
    subst hv5
    generalize wr = W1 at *
    by_cases hlt : k < m
    · have hc : (k : Int) < (m : Int) := by omega
      go_wp2
      go_loopw [6, 7] (fun al i wr => ∃ j q : Nat, j ≤ m ∧ i = .int .i64 j ∧ al = .bool (kk k j) ∧ wr = W1.drewN q) (fun _ i _ => m - (intOf i).toNat)
      case atStart => exact ⟨0, 0, Nat.zero_le _, rfl, by rw [Hk0.out], rfl⟩
      case round =>
        obtain ⟨j, q, hj, rfl, rfl, hw⟩ := hrel
        subst wr
        by_cases hjm : j < m
        · have hc2 : (j : Int) < (m : Int) := by omega
          have hks := Hks.out k j
          have hgj := Hg.out j hjm
          obtain ⟨jj, t, h1, h2, n1, n2, n3, n4, n5, n6, n7⟩ := rs_num hm hm2 hjm hlt hgj
          rw [h1, n7] at hks
          have cj := Hcell.out W1 HB.out j hjm
          have cjj := Hcell.out W1 HB.out jj h2
          have hjji : (jj : Int) < (m : Int) := by omega
          generalize F.getD j 0 = y at *
          generalize F.getD jj 0 = y2 at *
          have hyt : decide (y2 = t) = (y2 == t) := by
            by_cases h : y2 = t
            · rw [decide_eq_true h]; simp [h]
            · rw [decide_eq_false h]; simp [h]
          rw [hyt] at hks
          generalize hb1 : kk k (j + 1) = b1 at *
          generalize kk k j = b at *
          have HB1 := Lib.hid hb1
          have HKs := Lib.hid hks
          have Hgo := Lib.hid (And.intro (show j + 1 ≤ m by omega) hjm)
          clear hks hyt hb1 h1 h2 n7 hgj hjm hj
          cases b with
          | true =>
            have hbb : b1 = (y2 == t) := by have := HKs.out; simpa using this
            go_wp2
            go_quiet (fail)
            go_wp2
            go_roundw
            case rel => exact ⟨j + 1, _, Hgo.out.1, by clear n1 n2 n3 n4 n5 n6; go_num, by rw [HB1.out, hbb], by first | rfl | exact World.drewN_drewN _ _ _ | trivial⟩
            case measure => exact mz_upn Hgo.out.2
          | false =>
            have hbb : b1 = false := by have := HKs.out; simpa using this
            go_wp2
            go_quiet (fail)
            go_wp2
            go_roundw
            case rel => exact ⟨j + 1, _, Hgo.out.1, by clear n1 n2 n3 n4 n5 n6; go_num, by rw [HB1.out, hbb], by first | rfl | exact World.drewN_drewN _ _ _ | trivial⟩
            case measure => exact mz_upn Hgo.out.2
        · obtain rfl : j = m := by omega
          have hc2 : ¬ (j : Int) < (j : Int) := by omega
          have hst := Hst.out k
          have hle := Hle.out k
          rw [Hok.out k]
          generalize ok k = b at hst ⊢
          have HO2 : Hid ((W1.drewN q).ownsRow w.heap.size 3 1 (.slice a5 (L k).length c5) (L k).length (intL (L k))) := HO.out
          have HB2 : Hid (Below w.heap.size w (W1.drewN q)) := below_drewN HB.out q
          generalize W1.drewN q = W5 at HO2 HB2 ⊢
          have Hgo := Lib.hid (And.intro (show k + 1 ≤ j by omega) hlt)
          obtain ⟨ln, hln⟩ : ∃ n, (L k).length = n := ⟨_, rfl⟩
          rw [hln] at hle
          have Hln := Lib.hid hln
          have Hst2 := Lib.hid hst
          clear hst hln
          cases b with
          | true =>
            rw [if_pos rfl] at Hst2
            go_wp2_with (at_builtin; refine wpList_append_own _ rfl _ _ 22 rfl w.heap.size 3 i0 (.int .i64 0) 1 8 Try.underlying22 hi hz0 hz1 hz2 rfl (by decide) _ _ _ rfl (HO2.out.alloc (.cells #[.int .i64 (k : Int)] 3)) ⟨_, 0, none⟩ 1 1 [.int .i64 (k : Int)] rfl rfl (one_new _ _ _ _ (by simp)) (by simp [Value.oneCell']) (by rw [Hln.out]; unfold maxLen; omega) (by rw [Hln.out]; omega) (by have := HB2.out.size; simp; omega) ?_; intro v2 w6 hown2 hgrow2 _
                         obtain ⟨a6, c6, hv6⟩ := own_form hown2
                         subst hv6
                         have HB6 : Hid (Below w.heap.size w w6) := rel_push HB2.out (by have := HB2.out.size; simp; omega) ((Below.refl _ _).alloc HB2.out.size _) HO2.out hgrow2
                         have HO6 := Lib.hid hown2
                         clear hown2 hgrow2)
            go_roundw
            case rel =>
              refine ⟨k + 1, Hgo.out.1, by go_num, ?_, HB6⟩
              rw [Hst2.out]
              unfold Hid intL
              rw [List.length_append, List.map_append]
              exact HO6.out
            case measure => exact mz_upn Hgo.out.2
          | false =>
            rw [if_neg (by decide)] at Hst2
            go_wp2
            go_roundw
            case rel =>
              refine ⟨k + 1, Hgo.out.1, by go_num, ?_, HB2⟩
              rw [Hst2.out]
              exact HO2
            case measure => exact mz_upn Hgo.out.2
    · obtain rfl : k = m := by omega
      have hc : ¬ (k : Int) < (k : Int) := by omega
      go_wp2
      go_ret
      exact ⟨_, rfl, HO.out, HB.out⟩
def redL (q : Nat) (xs : List Int) : List Int := xs.map fun x => x % (q : Int)
set_option maxRecDepth 100000 in
set_option maxHeartbeats 4000000 in
theorem refReduced_any (q : Nat) (a : Option Addr) (n cap : Nat) (xs : List Int) (w : World) (hr : Row w a n (intL xs)) (hn : n ≤ 100) (hq : 2 ≤ q) (hq2 : q ≤ 64) (hxs : ∀ x ∈ xs, 0 ≤ x ∧ x ≤ 64) :
    Calls Try.prog 31 #[.int .i64 q, .slice a n cap] w fun e w' => ∃ v, e = .returned v ∧ w'.ownsRow w.heap.size 3 1 v n (intL (redL q xs)) ∧ Below w.heap.size w w' := by
  have hx : xs.length = n := by have := hr.1; simpa [intL] using this
  obtain ⟨i0, hi, hz0, hz1, hz2⟩ := info_parts info_int
  have hml : (redL q xs).take n = redL q xs := List.take_of_length_le (by simp [redL]; omega)
  have htk : ∀ k, k < n → (redL q xs).take (k + 1) = (redL q xs).take k ++ [xs.getD k 0 % (q : Int)] := fun k hk => by
    unfold redL
    rw [List.take_add_one, List.getElem?_map, List.getElem?_eq_getElem (by omega), List.getD_eq_getElem?_getD, List.getElem?_eq_getElem (by omega)]; rfl
  have hg : ∀ i, i < n → 0 ≤ xs.getD i 0 ∧ xs.getD i 0 ≤ 64 := fun i hi => hxs _ (by rw [List.getD_eq_getElem?_getD, List.getElem?_eq_getElem (by omega)]; exact List.getElem_mem _)
  generalize redL q xs = L at *
  have Htk := Lib.hid htk
  have Hml := Lib.hid hml
  have Hg := Lib.hid hg
  have Hr := Lib.hid hr
  clear htk hml hg hr hx hxs
  obtain ⟨z1, z2⟩ := zero_no hq
  go_enter Try.func31, Try.ntmps31
  go_wp2
  go_loopw [5, 6] (fun v i wr => ∃ k : Nat, k ≤ n ∧ i = .int .i64 k ∧ wr.ownsRow w.heap.size 3 1 v k (intL (L.take k)) ∧ Below w.heap.size w wr) (fun _ i _ => n - (intOf i).toNat)
  case atStart => exact ⟨0, Nat.zero_le _, rfl, World.ownsRow_nil _ _ _ _, Below.refl _ _⟩
  case round =>
    obtain ⟨k, hk, rfl, ho, hB⟩ := hrel
    obtain ⟨a5, c5, hv5, -⟩ := Row.of_own ho
    subst hv5
    have HO := Lib.hid ho
    have HB := Lib.hid hB
    clear ho hB
    by_cases hlt : k < n
    · have hc : (k : Int) < (n : Int) := by omega
      have hT := Htk.out k hlt
      obtain ⟨g1, rfl, cf⟩ := (Hr.out.below HB.out).int hlt
      have hgk := Hg.out k hlt
      generalize xs.getD k 0 = y at cf hT hgk
      obtain ⟨s, u, n1, n2, n3, n4⟩ : ∃ s u : Int, Int.tmod y (q : Int) = u ∧ IntKind.i64.wrap u = u ∧ wrap64 u = u ∧ y % (q : Int) = u ∧ s = s := by
        have h3 := Int.emod_nonneg y (show (q : Int) ≠ 0 by omega)
        have h4 := Int.emod_lt_of_pos y (show (0 : Int) < q by omega)
        have h5 : Int.tmod y (q : Int) = y % (q : Int) := Int.tmod_eq_emod_of_nonneg hgk.1
        refine ⟨0, y % (q : Int), h5, ?_, ?_, rfl, rfl⟩
        · generalize y % (q : Int) = t at h3 h4 ⊢; exact IntWalk.i64_in _ (by omega)
        · generalize y % (q : Int) = t at h3 h4 ⊢; exact IntWalk.wrap64_in _ (by omega)
      rw [n4.1] at hT
      have HT := Lib.hid hT
      have Hgo := Lib.hid (And.intro (show k + 1 ≤ n by omega) hlt)
      have hk100 : k ≤ 100 := by clear n1 n2 n3; omega
      clear hT n4 hgk
      go_wp2_with (at_builtin; refine wpList_append_own _ rfl _ _ 22 rfl w.heap.size 3 i0 (.int .i64 0) 1 8 Try.underlying22 hi hz0 hz1 hz2 rfl (by decide) _ _ _ rfl (HO.out.alloc (.cells #[.int .i64 u] 3)) ⟨_, 0, none⟩ 1 1 [.int .i64 u] rfl rfl (one_new _ _ _ _ (by simp)) (by simp [Value.oneCell']) (by clear n1 n2 n3; unfold maxLen; omega) (by clear n1 n2 n3; omega) (by clear n1 n2 n3; have := HB.out.size; simp; omega) ?_; intro v2 w6 hown2 hgrow2 _
                   obtain ⟨a6, c6, hv6, -⟩ := Row.of_own hown2
                   subst hv6
                   have HB6 : Hid (Below w.heap.size w w6) := rel_push HB.out (by clear n1 n2 n3; have := HB.out.size; simp; omega) ((Below.refl _ _).alloc HB.out.size _) HO.out hgrow2
                   have HO6 := Lib.hid hown2
                   clear hown2 hgrow2)
      go_roundw
      case rel =>
        refine ⟨k + 1, Hgo.out.1, by clear n1 n2 n3; go_num, ?_, HB6.out⟩
        rw [HT.out]
        unfold intL
        rw [List.map_append]
        exact HO6.out
      case measure => exact mz_upn Hgo.out.2
    · obtain rfl : k = n := by omega
      have hc : ¬ (k : Int) < (k : Int) := by omega
      have ho := HO.out
      rw [Hml.out] at ho
      have HO3 := Lib.hid ho
      clear ho
      go_wp2
      go_ret
      exact ⟨_, rfl, HO3.out, HB.out⟩
end Go.Proofs.Ytndbjojjaapeaaa

/- A table that the call itself builds, line by line. -/
namespace Go.Proofs.Ytndbjojjaapeaaa
set_option linter.unusedVariables false
open Go.RowKit

/-- v is a list of the call's own whose elements are the lines Ls -/
def Lines (w : World) (base : Nat) (v : Value) (Ls : List (List Int)) : Prop :=
  ∃ hs, w.ownsRow base 22 1 v Ls.length hs ∧ (∀ (i : Nat) line, Ls[i]? = some line → ∃ ra rc, hs[i]? = some (.slice ra line.length rc) ∧ line.length ≤ rc ∧ Row w ra line.length (intL line)) ∧ (Ls = [] → v.ownBlock = none)
theorem Lines.nil (w : World) (base : Nat) : Lines w base (.slice none 0 0) [] := ⟨[], World.ownsRow_nil _ _ _ _, (fun i line h => by simp at h), fun _ => rfl⟩
theorem Row.kept {w w' : World} {ra : Option Addr} {line : List Int} {row : Option Nat} (h : Row w ra line.length (intL line)) (hg : w.grownBy w' row) (hne : ∀ g, 0 < line.length → ra = some ⟨g, 0, none⟩ → some g ≠ row) : Row w' ra line.length (intL line) :=
  ⟨h.1, fun hn => by
    obtain ⟨g, h1, h3, h4⟩ := h.2 hn
    exact ⟨g, h1, Nat.lt_of_lt_of_le h3 hg.size, fun j u hu => hg.cell (h4 j u hu) (hne g hn h1)⟩⟩
theorem Row.first {w : World} {g : Nat} {line : List Int} (h : Row w (some ⟨g, 0, none⟩) line.length (intL line)) (hn : 0 < line.length) : ∃ x, w.cell? ⟨g, 0, none⟩ = some (.int .i64 x) := by
  obtain ⟨g', h1, _, h4⟩ := h.2 hn
  obtain rfl : g = g' := by simpa using h1
  exact ⟨_, h4 0 _ (intL_get (List.getElem?_eq_getElem hn))⟩
theorem Lines.apart {w : World} {base : Nat} {v : Value} {Ls : List (List Int)} {hs : List Value} (ho : w.ownsRow base 22 1 v Ls.length hs) (hl : ∀ (i : Nat) line, Ls[i]? = some line → ∃ ra rc, hs[i]? = some (.slice ra line.length rc) ∧ line.length ≤ rc ∧ Row w ra line.length (intL line)) (h0 : Ls = [] → v.ownBlock = none)
    {line : List Int} {g : Nat} (hR : Row w (some ⟨g, 0, none⟩) line.length (intL line)) (hn : 0 < line.length) : v.ownBlock ≠ some g := by
  intro hv
  by_cases he : Ls = []
  · rw [h0 he] at hv; cases hv
  · have hp : 0 < Ls.length := List.length_pos_iff.2 he
    obtain ⟨ra, rc, h1, _⟩ := hl 0 _ (List.getElem?_eq_getElem hp)
    have hc := ho.cells hv 0 _ h1
    rw [addr_add, Nat.zero_add] at hc
    obtain ⟨x, hx⟩ := hR.first hn
    rw [hx] at hc
    cases hc
theorem Lines.kept {w w' : World} {base : Nat} {v : Value} {Ls : List (List Int)} {row : Option Nat} (h : Lines w base v Ls) (hg : w.grownBy w' row) (h1 : v.ownBlock = none ∨ v.ownBlock ≠ row) (h2 : ∀ g x, w.cell? ⟨g, 0, none⟩ = some (.int .i64 x) → some g ≠ row) : Lines w' base v Ls := by
  obtain ⟨hs, ho, hl, h0⟩ := h
  refine ⟨hs, ho.kept hg h1, fun i line hi => ?_, h0⟩
  obtain ⟨ra, rc, a1, a2, a3⟩ := hl i line hi
  refine ⟨ra, rc, a1, a2, a3.kept hg fun g hn hra => ?_⟩
  subst hra
  obtain ⟨x, hx⟩ := a3.first hn
  exact h2 g x hx
theorem Lines.below {w w' : World} {base : Nat} {v : Value} {Ls : List (List Int)} (h : Lines w base v Ls) (hb : Below w.heap.size w w') : Lines w' base v Ls :=
  h.kept (grown_of_below (row := none) hb) (by cases v.ownBlock <;> simp) (fun g x _ => by simp)
theorem Lines.push {w w1 : World} {base rc : Nat} {v v' : Value} {Ls : List (List Int)} {hs : List Value} {line : List Int} {ra : Option Addr} {o : Obj} (ho : w.ownsRow base 22 1 v Ls.length hs)
    (hl : ∀ (i : Nat) line, Ls[i]? = some line → ∃ ra rc, hs[i]? = some (.slice ra line.length rc) ∧ line.length ≤ rc ∧ Row w ra line.length (intL line)) (h0 : Ls = [] → v.ownBlock = none)
    (hR : Row w ra line.length (intL line)) (hrc : line.length ≤ rc) (hg : (w.alloc o).grownBy w1 v.ownBlock) (ho' : w1.ownsRow base 22 1 v' (Ls.length + 1) (hs ++ [.slice ra line.length rc])) : Lines w1 base v' (Ls ++ [line]) := by
  have hk : ∀ {ra : Option Addr} {line : List Int}, Row w ra line.length (intL line) → Row w1 ra line.length (intL line) := fun {ra line} h => by
    refine (h.below (below_alloc w o)).kept hg fun g hn hra => ?_
    subst hra
    exact (Lines.apart ho hl h0 h hn).symm
  refine ⟨hs ++ [.slice ra line.length rc], by rw [List.length_append]; exact ho', fun i l hi => ?_, fun he => by simp at he⟩
  have hlen : hs.length = Ls.length := by have := ho.1; omega
  by_cases hil : i < Ls.length
  · rw [List.getElem?_append_left hil] at hi
    obtain ⟨r1, r2, a1, a2, a3⟩ := hl i l hi
    exact ⟨r1, r2, by rw [List.getElem?_append_left (by omega)]; exact a1, a2, hk a3⟩
  · rw [List.getElem?_append_right (by omega)] at hi
    have hi0 : i - Ls.length = 0 := by
      obtain ⟨h1, _⟩ := List.getElem?_eq_some_iff.1 hi
      simp at h1; omega
    rw [hi0] at hi
    simp at hi
    subst hi
    refine ⟨ra, rc, ?_, hrc, hk hR⟩
    rw [List.getElem?_append_right (by omega), show i - hs.length = 0 from by omega]; rfl
theorem Lines.tbl {w : World} {base : Nat} {v : Value} {C : List (List Int)} (h : Lines w base v C) : ∃ a cap, v = .slice a C.length cap ∧ C.length ≤ cap ∧ cap ≤ maxLen ∧ Tbl w a C := by
  obtain ⟨hs, ho, hl, h0⟩ := h
  have hc := fun g (hg : v.ownBlock = some g) => ho.cells hg
  rcases ho.2 with ⟨rfl, hn⟩ | ⟨g, cap, cur, rfl, _, hg, h4, h5, _⟩
  · exact ⟨none, 0, by rw [hn], by rw [hn]; exact Nat.le_refl _, Nat.zero_le _, fun hp => by omega⟩
  · refine ⟨_, cap, rfl, h4, h5, fun _ => ⟨g, rfl, (Array.getElem?_eq_some_iff.1 hg).1, fun i row hi => ?_⟩⟩
    obtain ⟨ra, rc, a1, a2, a3⟩ := hl i row hi
    have := hc g rfl i _ a1
    rw [addr_add, Nat.zero_add] at this
    exact ⟨ra, rc, this, a2, a3⟩
end Go.Proofs.Ytndbjojjaapeaaa

/- Split. -/
namespace Go.Proofs.Ytndbjojjaapeaaa
set_option linter.unusedVariables false
open Go.RowKit

def partOK (pk : Nat × Nat) : Bool := decide (2 ≤ pk.1 ∧ pk.1 ≤ 64 ∧ 1 ≤ pk.2 ∧ pk.2 ≤ 6 ∧ 2 ≤ pk.1 ^ pk.2 ∧ pk.1 ^ pk.2 ≤ 64)
theorem parts_facts : ∀ m : Fin 65, 2 ≤ m.1 → (partsL m.1).all partOK = true ∧ 1 ≤ (partsL m.1).length ∧ (partsL m.1).length ≤ 3 := by decide +kernel
theorem own_prs {w : World} {base n : Nat} {e : TypeId} {v : Value} {xs : List Value} (h : w.ownsRow base e 2 v n xs) : ∃ a cap, v = .slice a n cap ∧ (0 < n → ∃ g, a = some ⟨g, 0, none⟩ ∧ ∀ j u, xs[j]? = some u → w.cell? ⟨g, j, none⟩ = some u) := by
  have hcells := fun g (hg : v.ownBlock = some g) => h.cells hg
  rcases h.2 with ⟨rfl, rfl⟩ | ⟨g, cap, cur, rfl, hb, hg, _⟩
  · exact ⟨none, 0, rfl, fun h => absurd h (by omega)⟩
  · refine ⟨_, cap, rfl, fun _ => ⟨g, rfl, fun j u hu => ?_⟩⟩
    have := hcells g rfl j u hu
    rwa [show ((⟨g, 0, none⟩ : Addr).add j) = ⟨g, j, none⟩ from by unfold Addr.add; split <;> simp_all] at this
/-- the functions for the prime powers -/
def spL (m : Nat) (xs : List Int) : List (List Int) := (partsL m).map fun pk => valuesL (powN pk.1 pk.2) xs
theorem info_ints1 : (Try.prog.info? 22).map (fun i => (i.zero, i.size, i.bytes)) = some (some (.slice none 0 0), 1, 24) := by kernel_rfl
structure SpB (w : World) (pv : Value) (n : Nat) (L : List (Nat × Nat)) (a : Option Addr) (l : Nat) (xs : List Int) (W : World) : Prop where
  below : Below w.heap.size w W
  parts : W.ownsRow w.heap.size 42 2 pv n (flatF L)
  row : Row W a l (intL xs)
theorem own_belowP {w w' : World} {B n size : Nat} {t : TypeId} {v : Value} {xs : List Value} (h : w.ownsRow B t size v n xs) (hb : Below w.heap.size w w') : w'.ownsRow B t size v n xs := h.kept (row := none) (grown_of_below (row := none) hb) (Classical.em _)
theorem SpB.next {w W W' : World} {pv : Value} {n l : Nat} {L : List (Nat × Nat)} {a : Option Addr} {xs : List Int} (h : SpB w pv n L a l xs W) (hb : Below W.heap.size W W') : SpB w pv n L a l xs W' :=
  ⟨b_next h.below hb, own_belowP h.parts hb, h.row.below hb⟩
theorem SpB.grown {w W W1 w6 : World} {g pc n l b0 k : Nat} {L : List (Nat × Nat)} {a : Option Addr} {xs : List Int} {v : Value} {hs : List Value} (h : SpB w (.slice (some ⟨g, 0, none⟩) n pc) n L a l xs W) (hr : Row w a l (intL xs)) (hb : Below W.heap.size W W1) (ho : W.ownsRow b0 22 1 v k hs) (hg : W1.grownBy w6 v.ownBlock) (h0 : w.heap.size ≤ b0 ∧ g < b0) : SpB w (.slice (some ⟨g, 0, none⟩) n pc) n L a l xs w6 := by
  have h1 := h.next hb
  have hbl : Below w.heap.size w w6 := rel_push h.below (Nat.le_trans h.below.size hb.size) (hb.mono h.below.size) (ho.mono h0.1) hg
  refine ⟨hbl, h1.parts.kept hg (.inr fun e => ?_), hr.below hbl⟩
  have := (ho.lt g e.symm).1
  omega
theorem Lines.base_le {w : World} {b b' : Nat} {v : Value} {L : List (List Int)} (h : Lines w b v L) (hb : b' ≤ b) : Lines w b' v L := by
  obtain ⟨hs, ho, hl, h0⟩ := h
  exact ⟨hs, ho.mono hb, hl, h0⟩
theorem Lines.form {w : World} {b : Nat} {v : Value} {L : List (List Int)} (h : Lines w b v L) : ∃ a cap, v = .slice a L.length cap := by
  obtain ⟨hs, ho, _⟩ := h
  exact own_form ho
set_option maxRecDepth 100000 in
set_option maxHeartbeats 4000000 in
theorem Split_yes (m : Nat) (a : Option Addr) (l cap : Nat) (xs : List Int) (w : World) (hr : Row w a l (intL xs)) (hp : polyB m xs = true) :
    Calls Try.prog 21 #[.int .i64 m, .slice a l cap] w fun e w' => ∃ pv fv, e = .returned (.tuple #[pv, fv, .int .i64 0]) ∧ w'.ownsRow w.heap.size 42 2 pv (partsL m).length (flatF (partsL m)) ∧ Lines w' w.heap.size fv (spL m xs) ∧ Below w.heap.size w w' := by
  have hx : xs.length = l := by have := hr.1; simpa [intL] using this
  obtain ⟨i0, hi, hz0, hz1, hz2⟩ := info_parts info_ints1
  have hp2 := hp
  unfold polyB at hp2
  rw [Bool.and_eq_true, Bool.and_eq_true, decide_eq_true_eq] at hp2
  obtain ⟨⟨h1, h2⟩, h3⟩ := hp2
  obtain ⟨k, hk, hm, hm2⟩ := modB_nat h1
  obtain rfl : m = k := by omega
  have hin := remB_in h3
  have h := fun W hW => isPoly_any m a l cap xs W hW (by omega)
  rw [hp] at h
  obtain ⟨q1, q2, q3⟩ := parts_facts ⟨m, by omega⟩ hm
  simp only at q1 q2 q3
  have hPo := fun W => partsOf_any m W (by omega) hm2
  have hsl : ∀ (j : Nat) (pk : Nat × Nat), (partsL m)[j]? = some pk → (spL m xs)[j]? = some (valuesL (powN pk.1 pk.2) xs) := fun j pk h => by unfold spL; rw [List.getElem?_map, h]; rfl
  have hspl : (spL m xs).length = (partsL m).length := by unfold spL; rw [List.length_map]
  have hpk : ∀ (j : Nat) (pk : Nat × Nat), (partsL m)[j]? = some pk → pk.1 ≤ 64 ∧ pk.2 ≤ 6 ∧ 2 ≤ powN pk.1 pk.2 ∧ powN pk.1 pk.2 ≤ 64 := fun j pk h => by
    rw [List.all_eq_true] at q1
    have h4 := q1 pk (List.mem_of_getElem? h)
    unfold partOK at h4
    have h5 := of_decide_eq_true h4
    exact ⟨h5.2.1, h5.2.2.2.1, h5.2.2.2.2.1, h5.2.2.2.2.2⟩
  have ht := fun (q : Nat) (h1 : 1 ≤ q) (h2 : q ≤ 64) W hW => polyTable_any q a l cap xs W hW (by omega) h1 h2 (fun x hx => by have := hin x hx; omega)
  have hll : ∀ (q : Nat) (W : World), q ≤ 64 → Calls Try.prog 64 #[.agg (tabA (fun x : Nat => polyV q xs x) q), .int .i64 q] W fun e w' => ∃ v, e = .returned v ∧ w'.ownsRow W.heap.size 3 1 v q (intL (valuesL q xs)) ∧ Below W.heap.size W w' := fun q W hq => list_any q (fun x : Nat => polyV q xs x) W hq
  generalize spL m xs = Ls at *
  generalize partsL m = L at *
  obtain ⟨n, hn⟩ : ∃ n, L.length = n := ⟨_, rfl⟩
  rw [hn] at hPo q2 q3 hspl ⊢
  have H := Lib.hid h
  have HPo := Lib.hid hPo
  have Hsl := Lib.hid hsl
  have Hspl := Lib.hid hspl
  have Hpk := Lib.hid hpk
  have HT := Lib.hid ht
  have HLl := Lib.hid hll
  have Hr := Lib.hid hr
  have Hn := Lib.hid hn
  clear h hPo hsl hspl hpk ht hll hr hn hp h1 h2 h3 hin hk hx q1
  go_enter Try.func21, Try.ntmps21
  go_wp2_with fail
  refine (H.out _ Hr.out).mono ?_
  rintro e w1 ⟨rfl, hw⟩
  subst w1
  go_wp2_with fail
  refine (HPo.out _).mono ?_
  rintro e w1 ⟨pv, rfl, op, b1⟩
  obtain ⟨pa, pc, hpv, hcl⟩ := own_prs op
  have hS : Hid (SpB w pv n L a l xs w1) := ⟨b1, op, Hr.out.below b1⟩
  obtain ⟨g, rfl, _⟩ := hcl (by omega)
  obtain ⟨b0, hb0⟩ : ∃ b, w1.heap.size = b := ⟨_, rfl⟩
  have Hb0 := Lib.hid (Nat.le_of_eq hb0.symm)
  have Hb1 : Hid (w.heap.size ≤ b0 ∧ g < b0) := by
    refine ⟨by rw [← hb0]; exact b1.size, ?_⟩
    have := op.lt g (by rw [hpv]; rfl)
    rw [← hb0]; exact this.2
  clear b1 op hcl hb0
  subst hpv
  go_wp2
  go_loopw [8, 20] (fun v i wr => ∃ k : Nat, k ≤ n ∧ i = .int .i64 k ∧ Hid (Lines wr b0 v (Ls.take k)) ∧ Hid (b0 ≤ wr.heap.size) ∧ Hid (SpB w (.slice (some ⟨g, 0, none⟩) n pc) n L a l xs wr)) (fun _ i _ => n - (intOf i).toNat)
  case atStart => exact ⟨0, Nat.zero_le _, rfl, Lines.nil _ _, Hb0, hS⟩
  case round =>
    clear hS
    obtain ⟨k, hk, rfl, HL, HZ, HS⟩ := hrel
    have hkl : (Ls.take k).length = k := by rw [List.length_take, Hspl.out]; omega
    obtain ⟨a8, c8, hv8⟩ := HL.out.form
    rw [hkl] at hv8
    subst hv8
    by_cases hlt : k < n
    · have hc : (k : Int) < (n : Int) := by omega
      obtain ⟨⟨p, e⟩, hpe⟩ : ∃ pk, L[k]? = some pk := ⟨_, List.getElem?_eq_getElem (by have := Hn.out; omega)⟩
      obtain ⟨f0, f1⟩ := flatF_get hpe
      obtain ⟨a9, c9, e9, hc9⟩ := own_prs HS.out.parts
      cases e9
      obtain ⟨g', e1, hc9⟩ := hc9 (by omega)
      have e2 := (show (some (⟨g, 0, none⟩ : Addr)) = some ⟨g', 0, none⟩ from e1)
      simp only [Option.some.injEq, Addr.mk.injEq, and_true] at e2
      subst e2
      have c0 := hc9 _ _ f0
      have c1 := hc9 _ _ f1
      simp only at c0 c1
      clear hc9 f0 f1 e1
      obtain ⟨x1, x2, x3, x4⟩ := Hpk.out k (p, e) hpe
      have hline := Hsl.out k (p, e) hpe
      simp only at x1 x2 x3 x4 hline
      have hPw := fun W => powerOf_any p e W x1 x2
      generalize powN p e = q at hPw x3 x4 hline
      have hT2 := fun W hW => HT.out q (by omega) x4 W hW
      have hL2 := fun W => HLl.out q W x4
      have hlen := valuesL_len q xs
      generalize valuesL q xs = ln at hlen hline hL2
      obtain ⟨T, hT⟩ : ∃ T, tabA (fun x : Nat => polyV q xs x) q = T := ⟨_, rfl⟩
      rw [hT] at hT2 hL2
      have hpush : Ls.take (k + 1) = Ls.take k ++ [ln] := by rw [List.take_add_one, hline]; rfl
      have hbx := below_alloc wr (.cells #[.int .i64 (p : Int), .int .i64 (e : Int)] 42)
      have S1 := Lib.hid (HS.out.next hbx)
      have L1 := Lib.hid (HL.out.below hbx)
      have Z1 := Lib.hid (Nat.le_trans HZ.out hbx.size)
      have HPw := Lib.hid hPw
      have HT2 := Lib.hid hT2
      have HL2 := Lib.hid hL2
      have Hlen := Lib.hid hlen
      have Hpush := Lib.hid hpush
      have Hgo := Lib.hid (show k + 1 ≤ n ∧ k < n ∧ k ≤ 3 by omega)
      have Hkl := Lib.hid hkl
      clear hPw hT2 hL2 hlen hpush hline hT x1 x2 x3 x4 hbx hpe hk hlt hkl HL HZ HS
      go_wp2_with fail
      generalize wr.alloc (.cells #[.int .i64 (p : Int), .int .i64 (e : Int)] 42) = Wx at *
      clear c0 c1
      refine (HPw.out _).mono ?_
      rintro e' w4 ⟨rfl, b4⟩
      have S4 := Lib.hid (S1.out.next b4)
      have L4 := Lib.hid (L1.out.below b4)
      have Z4 := Lib.hid (Nat.le_trans Z1.out b4.size)
      clear b4 S1 L1 Z1 HPw
      go_wp2_with fail
      refine (HT2.out _ S4.out.row).mono ?_
      rintro e' w5 ⟨rfl, b5⟩
      have S5 := Lib.hid (S4.out.next b5)
      have L5 := Lib.hid (L4.out.below b5)
      have Z5 := Lib.hid (Nat.le_trans Z4.out b5.size)
      clear b5 S4 L4 Z4 HT2
      go_wp2_with fail
      refine (HL2.out _).mono ?_
      rintro e' w6 ⟨v6, rfl, o6, b6⟩
      obtain ⟨a6, c6, rfl, hc6, r6⟩ := own_slice o6
      have S6 := Lib.hid (S5.out.next b6)
      have L6 := Lib.hid (L5.out.below b6)
      have Z6 := Lib.hid (Nat.le_trans Z5.out b6.size)
      have R6 := Lib.hid r6
      have C6 := Lib.hid hc6
      clear b6 S5 L5 Z5 HL2 o6 r6 hc6
      obtain ⟨hs, ho, hl, h0⟩ := L6.out
      have HOo0 := Lib.hid ho
      rw [Hkl.out] at ho
      have HOo := Lib.hid ho
      have HLl2 := Lib.hid hl
      have H00 := Lib.hid h0
      clear ho hl h0 L6
      go_wp2_with (at_builtin; refine wpList_append_own _ rfl _ _ 30 rfl b0 22 i0 (.slice none 0 0) 1 24 Try.underlying30 hi hz0 hz1 hz2 rfl (by decide) _ _ _ rfl (HOo.out.alloc (.cells #[.slice a6 q c6] 22)) ⟨_, 0, none⟩ 1 1 [.slice a6 q c6] rfl rfl (one_new _ _ _ _ (by simp)) (by simp [Value.oneCell']) (by have := Hgo.out; unfold maxLen; omega) (by have := Hgo.out; omega) (by have := Z6.out; simp; omega) ?_; intro v2 w7 hown2 hgrow2 _
                   obtain ⟨a7, c7, hv7⟩ := own_form hown2
                   subst hv7
                   have hba : Below w6.heap.size w6 (w6.alloc (.cells #[.slice a6 q c6] 22)) := below_alloc w6 _
                   have HS7 : Hid (SpB w (.slice (some ⟨g, 0, none⟩) n pc) n L a l xs w7) := S6.out.grown Hr.out hba HOo.out hgrow2 Hb1.out
                   have HZ7 : Hid (b0 ≤ w7.heap.size) := Nat.le_trans Z6.out (Nat.le_trans hba.size hgrow2.size)
                   have HL7 : Hid (Lines w7 b0 (.slice a7 (k + 1) c7) (Ls.take k ++ [ln])) := Lines.push (line := ln) (ra := a6) (rc := c6) HOo0.out HLl2.out H00.out (by rw [Hlen.out]; exact R6.out) (by rw [Hlen.out]; exact C6.out) hgrow2 (by rw [Hlen.out, Hkl.out]; exact hown2)
                   clear hown2 hgrow2 hba)
      go_roundw
      case rel => exact ⟨k + 1, Hgo.out.1, by go_num, by unfold Hid; rw [Hpush.out]; exact HL7.out, HZ7, HS7⟩
      case measure => exact mz_upn Hgo.out.2.1
    · obtain rfl : k = n := by omega
      have hc : ¬ (k : Int) < (k : Int) := by omega
      have hL := HL.out
      have htk : Ls.take k = Ls := List.take_of_length_le (by rw [Hspl.out]; exact Nat.le_refl _)
      rw [htk] at hL
      have HL9 : Hid (Lines wr w.heap.size (.slice a8 k c8) Ls) := hL.base_le Hb1.out.1
      have HS9 := Lib.hid HS.out
      clear hL htk hkl HL HZ HS
      go_wp2
      go_ret3
      exact ⟨_, _, rfl, HS9.out.parts, HL9.out, HS9.out.below⟩
end Go.Proofs.Ytndbjojjaapeaaa

/- A table that the call itself built, its rows own and apart; Split's functions are such. -/
namespace Go.Proofs.Ytndbjojjaapeaaa
set_option linter.unusedVariables false
open Go.RowKit

theorem own_apart {w : World} {base base' n m : Nat} {v u : Value} {xs ys : List Value} (h : w.ownsRow base 22 1 v n xs) (k : w.ownsRow base' 3 1 u m ys) {b : Nat} (hv : v.ownBlock = some b) (hu : u.ownBlock = some b) : False := by
  rcases h.2 with ⟨rfl, _⟩ | ⟨g, cap, cur, rfl, _, hg, _⟩
  · simp [Value.ownBlock] at hv
  · rcases k.2 with ⟨rfl, _⟩ | ⟨g', cap', cur', rfl, _, hg', _⟩
    · simp [Value.ownBlock] at hu
    · simp only [Value.ownBlock, Option.some.injEq] at hv hu
      subst hv
      subst hu
      rw [hg] at hg'
      simp at hg'
/-- v is a list of the call's own whose elements are the lines Ls, each in a block of its own -/
def Sep (w : World) (base : Nat) (v : Value) (Ls : List (List Int)) : Prop :=
  ∃ hs, w.ownsRow base 22 1 v Ls.length hs ∧ (∀ (i : Nat) line, Ls[i]? = some line → ∃ u, hs[i]? = some u ∧ w.ownsRow base 3 1 u line.length (intL line)) ∧
    (∀ (i j : Nat) u u' b, hs[i]? = some u → hs[j]? = some u' → u.ownBlock = some b → u'.ownBlock = some b → i = j) ∧ (Ls = [] → v.ownBlock = none)
theorem Sep.nil (w : World) (base : Nat) : Sep w base (.slice none 0 0) [] := ⟨[], World.ownsRow_nil _ _ _ _, (fun i line h => by simp at h), (fun i j u u' b h => by simp at h), fun _ => rfl⟩
theorem Sep.lines {w : World} {base : Nat} {v : Value} {Ls : List (List Int)} (h : Sep w base v Ls) : Lines w base v Ls := by
  obtain ⟨hs, ho, hl, _, h0⟩ := h
  refine ⟨hs, ho, fun i line hi => ?_, h0⟩
  obtain ⟨u, h1, h2⟩ := hl i line hi
  obtain ⟨a, cap, rfl, hc, hR⟩ := own_slice h2
  exact ⟨a, cap, h1, hc, hR⟩
theorem Sep.below {w w' : World} {base : Nat} {v : Value} {Ls : List (List Int)} (h : Sep w base v Ls) (hb : Below w.heap.size w w') : Sep w' base v Ls := by
  obtain ⟨hs, ho, hl, hd, h0⟩ := h
  have hg := grown_of_below (row := none) hb
  refine ⟨hs, ho.kept hg (by cases v.ownBlock <;> simp), fun i line hi => ?_, hd, h0⟩
  obtain ⟨u, h1, h2⟩ := hl i line hi
  exact ⟨u, h1, h2.kept hg (by cases u.ownBlock <;> simp)⟩
theorem Sep.push {w wr w1 : World} {base : Nat} {v v' r : Value} {Ls : List (List Int)} {line : List Int} {o : Obj} {hs : List Value} (ho : w.ownsRow base 22 1 v Ls.length hs)
    (hl : ∀ (i : Nat) line, Ls[i]? = some line → ∃ u, hs[i]? = some u ∧ w.ownsRow base 3 1 u line.length (intL line)) (hd : ∀ (i j : Nat) u u' b, hs[i]? = some u → hs[j]? = some u' → u.ownBlock = some b → u'.ownBlock = some b → i = j)
    (hold : ∀ (i : Nat) u b, hs[i]? = some u → u.ownBlock = some b → b < wr.heap.size) (hr : w.ownsRow wr.heap.size 3 1 r line.length (intL line)) (hbase : base ≤ wr.heap.size)
    (hg : (w.alloc o).grownBy w1 v.ownBlock) (ho' : w1.ownsRow base 22 1 v' (Ls.length + 1) (hs ++ [r])) : Sep w1 base v' (Ls ++ [line]) := by
  have hk : ∀ {base' m : Nat} {u : Value} {ys : List Value}, w.ownsRow base' 3 1 u m ys → w1.ownsRow base' 3 1 u m ys := fun {base' m u ys} k => by
    refine (k.alloc o).kept hg ?_
    cases hu : u.ownBlock with
    | none => exact .inl rfl
    | some b =>
      right
      intro e
      exact own_apart ho k e.symm hu
  have hlen : hs.length = Ls.length := by have := ho.1; omega
  have hat : ∀ (i : Nat) u, (hs ++ [r])[i]? = some u → (i < Ls.length ∧ hs[i]? = some u) ∨ (i = Ls.length ∧ u = r) := fun i u hi => by
    by_cases hil : i < Ls.length
    · rw [List.getElem?_append_left (by omega)] at hi
      exact .inl ⟨hil, hi⟩
    · have h1 := (List.getElem?_eq_some_iff.1 hi).1
      rw [List.length_append, hlen] at h1
      simp only [List.length_singleton] at h1
      obtain rfl : i = Ls.length := by omega
      rw [List.getElem?_append_right (by omega), hlen, Nat.sub_self] at hi
      simp at hi
      exact .inr ⟨rfl, hi.symm⟩
  refine ⟨hs ++ [r], by rw [List.length_append]; exact ho', fun i l hi => ?_, fun i j u u' b hi hj hu hu' => ?_, fun he => by simp at he⟩
  · by_cases hil : i < Ls.length
    · rw [List.getElem?_append_left hil] at hi
      obtain ⟨u, h1, h2⟩ := hl i l hi
      exact ⟨u, by rw [List.getElem?_append_left (by omega)]; exact h1, hk h2⟩
    · have h1 := (List.getElem?_eq_some_iff.1 hi).1
      rw [List.length_append] at h1
      simp only [List.length_singleton] at h1
      obtain rfl : i = Ls.length := by omega
      rw [List.getElem?_append_right (Nat.le_refl _), Nat.sub_self] at hi
      simp at hi
      subst hi
      exact ⟨r, by rw [List.getElem?_append_right (by omega), hlen, Nat.sub_self]; rfl, (hk hr).mono hbase⟩
  · rcases hat i u hi with ⟨i1, i2⟩ | ⟨i1, rfl⟩ <;> rcases hat j u' hj with ⟨j1, j2⟩ | ⟨j1, rfl⟩
    · exact hd i j u u' b i2 j2 hu hu'
    · have := hold i u b i2 hu
      have := (hr.lt b hu').1
      omega
    · have := hold j u' b j2 hu'
      have := (hr.lt b hu).1
      omega
    · omega
theorem Sep.step {wr w1 : World} {base : Nat} {v : Value} {Ls : List (List Int)} (h : Sep wr base v Ls) (hb : Below wr.heap.size wr w1) :
    ∃ hs, w1.ownsRow base 22 1 v Ls.length hs ∧ (∀ (i : Nat) line, Ls[i]? = some line → ∃ u, hs[i]? = some u ∧ w1.ownsRow base 3 1 u line.length (intL line)) ∧
      (∀ (i j : Nat) u u' b, hs[i]? = some u → hs[j]? = some u' → u.ownBlock = some b → u'.ownBlock = some b → i = j) ∧ ∀ (i : Nat) u b, hs[i]? = some u → u.ownBlock = some b → b < wr.heap.size := by
  obtain ⟨hs, ho, hl, hd, _⟩ := h
  have hg := grown_of_below (row := none) hb
  have hlen : hs.length = Ls.length := by have := ho.1; omega
  refine ⟨hs, ho.kept hg (by cases v.ownBlock <;> simp), fun i line hi => ?_, hd, fun i u b hi hu => ?_⟩
  · obtain ⟨u, h1, h2⟩ := hl i line hi
    exact ⟨u, h1, h2.kept hg (by cases u.ownBlock <;> simp)⟩
  · have h1 := (List.getElem?_eq_some_iff.1 hi).1
    obtain ⟨u', h2, h3⟩ := hl i _ (List.getElem?_eq_getElem (by omega))
    obtain rfl : u = u' := Option.some.inj (hi.symm.trans h2)
    exact (h3.lt b hu).2

theorem Sep.base_le {w : World} {b b' : Nat} {v : Value} {L : List (List Int)} (h : Sep w b v L) (hb : b' ≤ b) : Sep w b' v L := by
  obtain ⟨hs, ho, hl, hd, h0⟩ := h
  refine ⟨hs, ho.mono hb, fun i line hi => ?_, hd, h0⟩
  obtain ⟨u, h1, h2⟩ := hl i line hi
  exact ⟨u, h1, h2.mono hb⟩
set_option maxRecDepth 100000 in
set_option maxHeartbeats 4000000 in
theorem Split_sep (m : Nat) (a : Option Addr) (l cap : Nat) (xs : List Int) (w : World) (hr : Row w a l (intL xs)) (hp : polyB m xs = true) :
    Calls Try.prog 21 #[.int .i64 m, .slice a l cap] w fun e w' => ∃ pv fv, e = .returned (.tuple #[pv, fv, .int .i64 0]) ∧ w'.ownsRow w.heap.size 42 2 pv (partsL m).length (flatF (partsL m)) ∧ Sep w' w.heap.size fv (spL m xs) ∧ Below w.heap.size w w' := by
  have hx : xs.length = l := by have := hr.1; simpa [intL] using this
  obtain ⟨i0, hi, hz0, hz1, hz2⟩ := info_parts info_ints1
  have hp2 := hp
  unfold polyB at hp2
  rw [Bool.and_eq_true, Bool.and_eq_true, decide_eq_true_eq] at hp2
  obtain ⟨⟨h1, h2⟩, h3⟩ := hp2
  obtain ⟨k, hk, hm, hm2⟩ := modB_nat h1
  obtain rfl : m = k := by omega
  have hin := remB_in h3
  have h := fun W hW => isPoly_any m a l cap xs W hW (by omega)
  rw [hp] at h
  obtain ⟨q1, q2, q3⟩ := parts_facts ⟨m, by omega⟩ hm
  simp only at q1 q2 q3
  have hPo := fun W => partsOf_any m W (by omega) hm2
  have hsl : ∀ (j : Nat) (pk : Nat × Nat), (partsL m)[j]? = some pk → (spL m xs)[j]? = some (valuesL (powN pk.1 pk.2) xs) := fun j pk h => by unfold spL; rw [List.getElem?_map, h]; rfl
  have hspl : (spL m xs).length = (partsL m).length := by unfold spL; rw [List.length_map]
  have hpk : ∀ (j : Nat) (pk : Nat × Nat), (partsL m)[j]? = some pk → pk.1 ≤ 64 ∧ pk.2 ≤ 6 ∧ 2 ≤ powN pk.1 pk.2 ∧ powN pk.1 pk.2 ≤ 64 := fun j pk h => by
    rw [List.all_eq_true] at q1
    have h4 := q1 pk (List.mem_of_getElem? h)
    unfold partOK at h4
    have h5 := of_decide_eq_true h4
    exact ⟨h5.2.1, h5.2.2.2.1, h5.2.2.2.2.1, h5.2.2.2.2.2⟩
  have ht := fun (q : Nat) (h1 : 1 ≤ q) (h2 : q ≤ 64) W hW => polyTable_any q a l cap xs W hW (by omega) h1 h2 (fun x hx => by have := hin x hx; omega)
  have hll : ∀ (q : Nat) (W : World), q ≤ 64 → Calls Try.prog 64 #[.agg (tabA (fun x : Nat => polyV q xs x) q), .int .i64 q] W fun e w' => ∃ v, e = .returned v ∧ w'.ownsRow W.heap.size 3 1 v q (intL (valuesL q xs)) ∧ Below W.heap.size W w' := fun q W hq => list_any q (fun x : Nat => polyV q xs x) W hq
  generalize spL m xs = Ls at *
  generalize partsL m = L at *
  obtain ⟨n, hn⟩ : ∃ n, L.length = n := ⟨_, rfl⟩
  rw [hn] at hPo q2 q3 hspl ⊢
  have H := Lib.hid h
  have HPo := Lib.hid hPo
  have Hsl := Lib.hid hsl
  have Hspl := Lib.hid hspl
  have Hpk := Lib.hid hpk
  have HT := Lib.hid ht
  have HLl := Lib.hid hll
  have Hr := Lib.hid hr
  have Hn := Lib.hid hn
  clear h hPo hsl hspl hpk ht hll hr hn hp h1 h2 h3 hin hk hx q1
  go_enter Try.func21, Try.ntmps21
  go_wp2_with fail
  refine (H.out _ Hr.out).mono ?_
  rintro e w1 ⟨rfl, hw⟩
  subst w1
  go_wp2_with fail
  refine (HPo.out _).mono ?_
  rintro e w1 ⟨pv, rfl, op, b1⟩
  obtain ⟨pa, pc, hpv, hcl⟩ := own_prs op
  have hS : Hid (SpB w pv n L a l xs w1) := ⟨b1, op, Hr.out.below b1⟩
  obtain ⟨g, rfl, _⟩ := hcl (by omega)
  obtain ⟨b0, hb0⟩ : ∃ b, w1.heap.size = b := ⟨_, rfl⟩
  have Hb0 := Lib.hid (Nat.le_of_eq hb0.symm)
  have Hb1 : Hid (w.heap.size ≤ b0 ∧ g < b0) := by
    refine ⟨by rw [← hb0]; exact b1.size, ?_⟩
    have := op.lt g (by rw [hpv]; rfl)
    rw [← hb0]; exact this.2
  clear b1 op hcl hb0
  subst hpv
  go_wp2
  go_loopw [8, 20] (fun v i wr => ∃ k : Nat, k ≤ n ∧ i = .int .i64 k ∧ Hid (Sep wr b0 v (Ls.take k)) ∧ Hid (b0 ≤ wr.heap.size) ∧ Hid (SpB w (.slice (some ⟨g, 0, none⟩) n pc) n L a l xs wr)) (fun _ i _ => n - (intOf i).toNat)
  case atStart => exact ⟨0, Nat.zero_le _, rfl, Sep.nil _ _, Hb0, hS⟩
  case round =>
    clear hS
    obtain ⟨k, hk, rfl, HL, HZ, HS⟩ := hrel
    have hkl : (Ls.take k).length = k := by rw [List.length_take, Hspl.out]; omega
    obtain ⟨a8, c8, hv8⟩ := HL.out.lines.form
    rw [hkl] at hv8
    subst hv8
    by_cases hlt : k < n
    · have hc : (k : Int) < (n : Int) := by omega
      obtain ⟨⟨p, e⟩, hpe⟩ : ∃ pk, L[k]? = some pk := ⟨_, List.getElem?_eq_getElem (by have := Hn.out; omega)⟩
      obtain ⟨f0, f1⟩ := flatF_get hpe
      obtain ⟨a9, c9, e9, hc9⟩ := own_prs HS.out.parts
      cases e9
      obtain ⟨g', e1, hc9⟩ := hc9 (by omega)
      have e2 := (show (some (⟨g, 0, none⟩ : Addr)) = some ⟨g', 0, none⟩ from e1)
      simp only [Option.some.injEq, Addr.mk.injEq, and_true] at e2
      subst e2
      have c0 := hc9 _ _ f0
      have c1 := hc9 _ _ f1
      simp only at c0 c1
      clear hc9 f0 f1 e1
      obtain ⟨x1, x2, x3, x4⟩ := Hpk.out k (p, e) hpe
      have hline := Hsl.out k (p, e) hpe
      simp only at x1 x2 x3 x4 hline
      have hPw := fun W => powerOf_any p e W x1 x2
      generalize powN p e = q at hPw x3 x4 hline
      have hT2 := fun W hW => HT.out q (by omega) x4 W hW
      have hL2 := fun W => HLl.out q W x4
      have hlen := valuesL_len q xs
      generalize valuesL q xs = ln at hlen hline hL2
      obtain ⟨T, hT⟩ : ∃ T, tabA (fun x : Nat => polyV q xs x) q = T := ⟨_, rfl⟩
      rw [hT] at hT2 hL2
      have hpush : Ls.take (k + 1) = Ls.take k ++ [ln] := by rw [List.take_add_one, hline]; rfl
      have hbx := below_alloc wr (.cells #[.int .i64 (p : Int), .int .i64 (e : Int)] 42)
      have S1 := Lib.hid (HS.out.next hbx)
      have L1 := Lib.hid (HL.out.below hbx)
      have Z1 := Lib.hid (Nat.le_trans HZ.out hbx.size)
      have HPw := Lib.hid hPw
      have HT2 := Lib.hid hT2
      have HL2 := Lib.hid hL2
      have Hlen := Lib.hid hlen
      have Hpush := Lib.hid hpush
      have Hgo := Lib.hid (show k + 1 ≤ n ∧ k < n ∧ k ≤ 3 by omega)
      have Hkl := Lib.hid hkl
      clear hPw hT2 hL2 hlen hpush hline hT x1 x2 x3 x4 hbx hpe hk hlt hkl HL HZ HS
      go_wp2_with fail
      generalize wr.alloc (.cells #[.int .i64 (p : Int), .int .i64 (e : Int)] 42) = Wx at *
      clear c0 c1
      refine (HPw.out _).mono ?_
      rintro e' w4 ⟨rfl, b4⟩
      have S4 := Lib.hid (S1.out.next b4)
      have L4 := Lib.hid (L1.out.below b4)
      have Z4 := Lib.hid (Nat.le_trans Z1.out b4.size)
      clear b4 S1 L1 Z1 HPw
      go_wp2_with fail
      refine (HT2.out _ S4.out.row).mono ?_
      rintro e' w5 ⟨rfl, b5⟩
      have S5 := Lib.hid (S4.out.next b5)
      have L5 := Lib.hid (L4.out.below b5)
      have Z5 := Lib.hid (Nat.le_trans Z4.out b5.size)
      clear b5 S4 L4 Z4 HT2
      go_wp2_with fail
      refine (HL2.out _).mono ?_
      rintro e' w6 ⟨v6, rfl, o6, b6⟩
      obtain ⟨a6, c6, rfl, hc6, r6⟩ := own_slice o6
      have S6 := Lib.hid (S5.out.next b6)
      have O6 := Lib.hid o6
      have hst := L5.out.step b6
      have Z6 := Lib.hid (Nat.le_trans Z5.out b6.size)
      have Z5k := Lib.hid Z5.out
      obtain ⟨hs, ho, hl, hd, hold⟩ := hst
      have R6 := Lib.hid r6
      have C6 := Lib.hid hc6
      clear b6 S5 L5 Z5 HL2 o6 r6 hc6
      have HHd := Lib.hid hd
      have HHo := Lib.hid hold
      clear hd hold
      have HOo0 := Lib.hid ho
      rw [Hkl.out] at ho
      have HOo := Lib.hid ho
      have HLl2 := Lib.hid hl
      clear ho hl
      go_wp2_with (at_builtin; refine wpList_append_own _ rfl _ _ 30 rfl b0 22 i0 (.slice none 0 0) 1 24 Try.underlying30 hi hz0 hz1 hz2 rfl (by decide) _ _ _ rfl (HOo.out.alloc (.cells #[.slice a6 q c6] 22)) ⟨_, 0, none⟩ 1 1 [.slice a6 q c6] rfl rfl (one_new _ _ _ _ (by simp)) (by simp [Value.oneCell']) (by have := Hgo.out; unfold maxLen; omega) (by have := Hgo.out; omega) (by have := Z6.out; simp; omega) ?_; intro v2 w7 hown2 hgrow2 _
                   obtain ⟨a7, c7, hv7⟩ := own_form hown2
                   subst hv7
                   have hba : Below w6.heap.size w6 (w6.alloc (.cells #[.slice a6 q c6] 22)) := below_alloc w6 _
                   have HS7 : Hid (SpB w (.slice (some ⟨g, 0, none⟩) n pc) n L a l xs w7) := S6.out.grown Hr.out hba HOo.out hgrow2 Hb1.out
                   have HZ7 : Hid (b0 ≤ w7.heap.size) := Nat.le_trans Z6.out (Nat.le_trans hba.size hgrow2.size)
                   have HL7 : Hid (Sep w7 b0 (.slice a7 (k + 1) c7) (Ls.take k ++ [ln])) := Sep.push (wr := w5) (line := ln) (r := .slice a6 q c6) HOo0.out HLl2.out HHd.out HHo.out (by rw [Hlen.out]; exact O6.out) Z5k.out hgrow2 (by rw [Hkl.out]; exact hown2)
                   clear hown2 hgrow2 hba)
      go_roundw
      case rel => exact ⟨k + 1, Hgo.out.1, by go_num, by unfold Hid; rw [Hpush.out]; exact HL7.out, HZ7, HS7⟩
      case measure => exact mz_upn Hgo.out.2.1
    · obtain rfl : k = n := by omega
      have hc : ¬ (k : Int) < (k : Int) := by omega
      have hL := HL.out
      have htk : Ls.take k = Ls := List.take_of_length_le (by rw [Hspl.out]; exact Nat.le_refl _)
      rw [htk] at hL
      have HL9 : Hid (Sep wr w.heap.size (.slice a8 k c8) Ls) := hL.base_le Hb1.out.1
      have HS9 := Lib.hid HS.out
      clear hL htk hkl HL HZ HS
      go_wp2
      go_ret3
      exact ⟨_, _, rfl, HS9.out.parts, HL9.out, HS9.out.below⟩
end Go.Proofs.Ytndbjojjaapeaaa

/- The reference's Values, After, Differ; After that refuses. -/
namespace Go.Proofs.Ytndbjojjaapeaaa
set_option linter.unusedVariables false
open Go.RowKit

theorem nestV_const (m : Int) (x : Int) (xs : List Int) (j : Nat) (h : j < xs.length) : nestV m (fun _ => x) j (xs.drop j) = (nestV m (fun _ => x) (j + 1) (xs.drop (j + 1)) * x + xs.getD j 0) % m := by
  rw [List.drop_eq_getElem_cons h]
  show (xs[j] + x * _) % m = _
  rw [List.getD_eq_getElem?_getD, List.getElem?_eq_getElem h, Option.getD_some, Int.add_comm, Int.mul_comm]
theorem rv_num {m k : Nat} {v y r : Int} (hm : 2 ≤ m) (hm2 : m ≤ 64) (hv : 0 ≤ v ∧ v < m) (hy : 0 ≤ y ∧ y ≤ 64) (hk : k ≤ 64) (h : (v * (k : Int) + y) % (m : Int) = r) :
    ∃ p s : Int, IntKind.i64.wrap (v * (k : Int)) = p ∧ wrap64 (v * (k : Int)) = p ∧ IntKind.i64.wrap (p + y) = s ∧ wrap64 (p + y) = s ∧ Int.tmod s (m : Int) = r ∧ IntKind.i64.wrap r = r ∧ wrap64 r = r ∧ 0 ≤ r ∧ r < m := by
  have h1 : v * (k : Int) ≤ 64 * 64 := Int.mul_le_mul (by omega) (by omega) (by omega) (by omega)
  have h2 : 0 ≤ v * (k : Int) := Int.mul_nonneg (by omega) (by omega)
  have h3 := Int.emod_nonneg (v * (k : Int) + y) (show (m : Int) ≠ 0 by omega)
  have h4 := Int.emod_lt_of_pos (v * (k : Int) + y) (show (0 : Int) < m by omega)
  rw [h] at h3 h4
  refine ⟨v * (k : Int), v * (k : Int) + y, IntWalk.i64_in _ (by omega), IntWalk.wrap64_in _ (by omega), IntWalk.i64_in _ (by omega), IntWalk.wrap64_in _ (by omega), ?_, IntWalk.i64_in _ (by omega), IntWalk.wrap64_in _ (by omega), h3, h4⟩
  rw [Int.tmod_eq_emod_of_nonneg (by omega)]; exact h
theorem down_num {j : Nat} {z : Int} (h : z + 1 = j) (hj : j ≤ 1000) (h0 : 0 < j) : ∃ i : Nat, j = i + 1 ∧ z = (i : Int) ∧ ∃ z2 : Int, IntKind.i64.wrap ((i : Int) - 1) = z2 ∧ wrap64 ((i : Int) - 1) = z2 ∧ z2 + 1 = i := by
  obtain ⟨i, rfl⟩ : ∃ i, j = i + 1 := ⟨j - 1, by omega⟩
  refine ⟨i, rfl, by omega, (i : Int) - 1, ?_, ?_, by omega⟩
  · exact IntWalk.i64_in _ (by omega)
  · exact IntWalk.wrap64_in _ (by omega)
set_option maxRecDepth 100000 in
set_option maxHeartbeats 4000000 in
theorem refValues_any (m : Nat) (a : Option Addr) (n cap : Nat) (xs : List Int) (w : World) (hr : Row w a n (intL xs)) (hn : n ≤ 100) (hm : 2 ≤ m) (hm2 : m ≤ 64) (hxs : ∀ x ∈ xs, 0 ≤ x ∧ x < m) :
    Calls Try.prog 25 #[.int .i64 m, .slice a n cap] w fun e w' => ∃ v, e = .returned v ∧ w'.ownsRow w.heap.size 3 1 v m (intL (valuesL m xs)) ∧ Below w.heap.size w w' := by
  have hx : xs.length = n := by have := hr.1; simpa [intL] using this
  obtain ⟨i0, hi, hz0, hz1, hz2⟩ := info_parts info_int
  have hval : ∀ x : Nat, polyV m xs x = nestV m (fun _ => (x : Int)) 0 (xs.drop 0) := fun _ => rfl
  have hv0 : ∀ x : Nat, nestV m (fun _ => (x : Int)) n (xs.drop n) = 0 := fun x => by rw [List.drop_of_length_le (by omega)]; rfl
  have hvs := fun (x : Nat) j (h : j < n) => nestV_const m x xs j (by omega)
  have hvr := fun (x : Nat) j => nestV_range (m := m) (by omega) (fun _ => (x : Int)) (xs.drop j) j
  have htk := fun k (h : k < m) => range_take (n := m) (fun x : Nat => polyV m xs x) h
  have hg : ∀ i, i < n → 0 ≤ xs.getD i 0 ∧ xs.getD i 0 ≤ 64 := fun i hi => by
    have := hxs (xs.getD i 0) (by rw [List.getD_eq_getElem?_getD, List.getElem?_eq_getElem (by omega)]; exact List.getElem_mem _)
    omega
  have hml : (valuesL m xs).take m = valuesL m xs := List.take_of_length_le (by simp [valuesL])
  have hvl : (List.range m).map (fun x : Nat => polyV m xs x) = valuesL m xs := rfl
  rw [hvl] at htk
  obtain ⟨vv, hvv⟩ : ∃ vv : Nat → Nat → Int, ∀ (x j : Nat), nestV m (fun _ => (x : Int)) j (xs.drop j) = vv x j := ⟨_, fun _ _ => rfl⟩
  simp only [hvv] at hval hv0 hvs hvr
  generalize valuesL m xs = L at *
  have Hval := Lib.hid hval
  have Hv0 := Lib.hid hv0
  have Hvs := Lib.hid hvs
  have Hvr := Lib.hid hvr
  have Htk := Lib.hid htk
  have Hg := Lib.hid hg
  have Hml := Lib.hid hml
  have Hr := Lib.hid hr
  clear hval hv0 hvs hvr htk hg hml hr hxs hx hvl hvv
  obtain ⟨z1, z2⟩ := zero_no hm
  have hnn : ∃ z : Int, IntKind.i64.wrap ((n : Int) - 1) = z ∧ wrap64 ((n : Int) - 1) = z ∧ z + 1 = n := ⟨(n : Int) - 1, IntWalk.i64_in _ (by omega), IntWalk.wrap64_in _ (by omega), by omega⟩
  obtain ⟨zn, zn1, zn2, zn3⟩ := hnn
  have Hzn := Lib.hid zn3
  clear zn3
  go_enter Try.func25, Try.ntmps25
  go_wp2
  go_loopw [5, 6] (fun v i wr => ∃ k : Nat, k ≤ m ∧ i = .int .i64 k ∧ wr.ownsRow w.heap.size 3 1 v k (intL (L.take k)) ∧ Below w.heap.size w wr) (fun _ i _ => m - (intOf i).toNat)
  case atStart => exact ⟨0, Nat.zero_le _, rfl, World.ownsRow_nil _ _ _ _, Below.refl _ _⟩
  case round =>
    obtain ⟨k, hk, rfl, ho, hB⟩ := hrel
    obtain ⟨a5, c5, hv5, -⟩ := Row.of_own ho
    subst hv5
    have HO := Lib.hid ho
    have HB := Lib.hid hB
    clear ho hB
    by_cases hlt : k < m
    · have hc : (k : Int) < (m : Int) := by omega
      have hk64 : k ≤ 64 := by omega
      generalize wr = W1 at *
      go_wp2
      go_loopw [7, 8] (fun t i wr => ∃ (j : Nat) (z : Int), j ≤ n ∧ i = .int .i64 z ∧ Hid (z + 1 = j) ∧ t = .int .i64 (vv k j) ∧ wr = W1) (fun _ i _ => (intOf i + 1).toNat)
      case atStart => exact ⟨n, zn, Nat.le_refl _, by first | rfl | rw [zn1] | rw [zn2], Hzn, by rw [Hv0.out], rfl⟩
      case round =>
        obtain ⟨j, z, hj, rfl, HZ, rfl, hw⟩ := hrel
        subst wr
        by_cases hj0 : 0 < j
        · obtain ⟨i, rfl, rfl, z2', y1, y2, y3⟩ := down_num HZ.out (by omega) hj0
          have hvr := Hvr.out k (i + 1)
          have hin : i < n := by omega
          have hgj := Hg.out i hin
          obtain ⟨r, hr⟩ : ∃ r, vv k i = r := ⟨_, rfl⟩
          have hs := Hvs.out k i hin
          rw [hr] at hs
          obtain ⟨g, rfl, cx⟩ := (Hr.out.below HB.out).int hin
          generalize xs.getD i 0 = y at cx hgj hs
          generalize vv k (i + 1) = u at hvr hs ⊢
          obtain ⟨p, s, n1, n2, n3, n4, n5, n6, n7, _⟩ := rv_num hm hm2 hvr hgj hk64 hs.symm
          have hge : (0 : Int) ≤ (i : Int) := by omega
          have hii : (i : Int) < (n : Int) := by omega
          have HR := Lib.hid hr
          have HY := Lib.hid y3
          have Hin := Lib.hid hin
          clear hr hs hgj hvr HZ hj0 hj y3 hin
          go_wp2
          go_roundw
          case rel => exact ⟨i, z2', Nat.le_of_lt Hin.out, by first | rfl | rw [y1] | rw [y2], HY, by rw [HR.out], trivial⟩
          case measure => have h1 := HY.out; clear n1 n2 n3 n4 n5 n6 n7 y1 y2; simp [intOf]; omega
        · obtain rfl : j = 0 := by omega
          obtain rfl : z = -1 := by have := HZ.out; omega
          have hT := Htk.out k hlt
          have hV := Hval.out k
          generalize vv k 0 = u at hV ⊢
          rw [hV] at hT
          have HT := Lib.hid hT
          have Hgo := Lib.hid (And.intro (show k + 1 ≤ m by omega) hlt)
          clear hT hV
          go_wp2_with (at_builtin; refine wpList_append_own _ rfl _ _ 22 rfl w.heap.size 3 i0 (.int .i64 0) 1 8 Try.underlying22 hi hz0 hz1 hz2 rfl (by decide) _ _ _ rfl (HO.out.alloc (.cells #[.int .i64 u] 3)) ⟨_, 0, none⟩ 1 1 [.int .i64 u] rfl rfl (one_new _ _ _ _ (by simp)) (by simp [Value.oneCell']) (by unfold maxLen; omega) (by omega) (by have := HB.out.size; simp; omega) ?_; intro v2 w6 hown2 hgrow2 _
                       obtain ⟨a6, c6, hv6, -⟩ := Row.of_own hown2
                       subst hv6
                       have HB6 : Hid (Below w.heap.size w w6) := rel_push HB.out (by have := HB.out.size; simp; omega) ((Below.refl _ _).alloc HB.out.size _) HO.out hgrow2
                       have HO6 := Lib.hid hown2
                       clear hown2 hgrow2)
          go_roundw
          case rel =>
            refine ⟨k + 1, Hgo.out.1, by go_num, ?_, HB6.out⟩
            rw [HT.out]
            unfold intL
            rw [List.map_append]
            exact HO6.out
          case measure => exact mz_upn Hgo.out.2
    · obtain rfl : k = m := by omega
      have hc : ¬ (k : Int) < (k : Int) := by omega
      have ho := HO.out
      rw [Hml.out] at ho
      have HO3 := Lib.hid ho
      clear ho
      go_wp2
      go_ret
      exact ⟨_, rfl, HO3.out, HB.out⟩
def afterL (m : Nat) (F G : List Int) : List Int := (List.range m).map fun x : Nat => G.getD (F.getD x 0).toNat 0
set_option maxRecDepth 100000 in
set_option maxHeartbeats 4000000 in
theorem refAfter_any (m : Nat) (fa ga : Option Addr) (fc gc : Nat) (fs gs : List Int) (w : World) (hf : Row w fa m (intL fs)) (hg : Row w ga m (intL gs)) (hm2 : m ≤ 64) (hfi : ∀ x ∈ fs, 0 ≤ x ∧ x < m) :
    Calls Try.prog 51 #[.slice fa m fc, .slice ga m gc] w fun e w' => ∃ v, e = .returned v ∧ w'.ownsRow w.heap.size 3 1 v m (intL (afterL m fs gs)) ∧ Below w.heap.size w w' := by
  have hx : fs.length = m := by have := hf.1; simpa [intL] using this
  obtain ⟨i0, hi, hz0, hz1, hz2⟩ := info_parts info_int
  have htk := fun k (h : k < m) => range_take (n := m) (fun x : Nat => gs.getD (fs.getD x 0).toNat 0) h
  have hml : (afterL m fs gs).take m = afterL m fs gs := List.take_of_length_le (by simp [afterL])
  have hal : (List.range m).map (fun x : Nat => gs.getD (fs.getD x 0).toNat 0) = afterL m fs gs := rfl
  rw [hal] at htk
  have hfx : ∀ i, i < m → ∃ j : Nat, fs.getD i 0 = (j : Int) ∧ j < m := fun i hi => by
    have h := hfi (fs.getD i 0) (by rw [List.getD_eq_getElem?_getD, List.getElem?_eq_getElem (by omega)]; exact List.getElem_mem _)
    exact ⟨(fs.getD i 0).toNat, by omega, by omega⟩
  generalize afterL m fs gs = L at *
  have Htk := Lib.hid htk
  have Hml := Lib.hid hml
  have Hfx := Lib.hid hfx
  have Hf := Lib.hid hf
  have Hg := Lib.hid hg
  clear htk hml hfx hf hg hal hx hfi
  go_enter Try.func51, Try.ntmps51
  go_wp2
  go_loopw [5, 6] (fun v i wr => ∃ k : Nat, k ≤ m ∧ i = .int .i64 k ∧ wr.ownsRow w.heap.size 3 1 v k (intL (L.take k)) ∧ Below w.heap.size w wr) (fun _ i _ => m - (intOf i).toNat)
  case atStart => exact ⟨0, Nat.zero_le _, rfl, World.ownsRow_nil _ _ _ _, Below.refl _ _⟩
  case round =>
    obtain ⟨k, hk, rfl, ho, hB⟩ := hrel
    obtain ⟨a5, c5, hv5, -⟩ := Row.of_own ho
    subst hv5
    have HO := Lib.hid ho
    have HB := Lib.hid hB
    clear ho hB
    by_cases hlt : k < m
    · have hc : (k : Int) < (m : Int) := by omega
      have hk64 : k ≤ 64 := by omega
      obtain ⟨j, hj, hjm⟩ := Hfx.out k hlt
      have hT := Htk.out k hlt
      obtain ⟨g1, rfl, cf⟩ := (Hf.out.below HB.out).int hlt
      obtain ⟨g2, rfl, cg⟩ := (Hg.out.below HB.out).int hjm
      rw [hj] at cf hT
      rw [Int.toNat_natCast] at hT
      generalize gs.getD j 0 = u at cg hT
      have hji : (j : Int) < (m : Int) := by omega
      have HT := Lib.hid hT
      have Hgo := Lib.hid (And.intro (show k + 1 ≤ m by omega) hlt)
      clear hT hj
      go_wp2_with (at_builtin; refine wpList_append_own _ rfl _ _ 22 rfl w.heap.size 3 i0 (.int .i64 0) 1 8 Try.underlying22 hi hz0 hz1 hz2 rfl (by decide) _ _ _ rfl (HO.out.alloc (.cells #[.int .i64 u] 3)) ⟨_, 0, none⟩ 1 1 [.int .i64 u] rfl rfl (one_new _ _ _ _ (by simp)) (by simp [Value.oneCell']) (by unfold maxLen; omega) (by omega) (by have := HB.out.size; simp; omega) ?_; intro v2 w6 hown2 hgrow2 _
                   obtain ⟨a6, c6, hv6, -⟩ := Row.of_own hown2
                   subst hv6
                   have HB6 : Hid (Below w.heap.size w w6) := rel_push HB.out (by have := HB.out.size; simp; omega) ((Below.refl _ _).alloc HB.out.size _) HO.out hgrow2
                   have HO6 := Lib.hid hown2
                   clear hown2 hgrow2)
      go_roundw
      case rel =>
        refine ⟨k + 1, Hgo.out.1, by go_num, ?_, HB6.out⟩
        rw [HT.out]
        unfold intL
        rw [List.map_append]
        exact HO6.out
      case measure => exact mz_upn Hgo.out.2
    · obtain rfl : k = m := by omega
      have hc : ¬ (k : Int) < (k : Int) := by omega
      have ho := HO.out
      rw [Hml.out] at ho
      have HO3 := Lib.hid ho
      clear ho
      go_wp2
      go_ret
      exact ⟨_, rfl, HO3.out, HB.out⟩
def differR (m : Nat) (F G : List Int) : Int := firstN (differP (fun x => F.getD x 0) (fun x => G.getD x 0)) m 0
set_option maxRecDepth 100000 in
set_option maxHeartbeats 4000000 in
theorem refDiffer_any (m : Nat) (fa ga : Option Addr) (fc gc : Nat) (fs gs : List Int) (w : World) (hf : Row w fa m (intL fs)) (hg : Row w ga m (intL gs)) (hm2 : m ≤ 64) :
    Calls Try.prog 52 #[.slice fa m fc, .slice ga m gc] w fun e w' => e = .returned (.int .i64 (differR m fs gs)) ∧ ∃ q, w' = w.drewN q := by
  obtain ⟨R, hR⟩ : ∃ R, differR m fs gs = R := ⟨_, rfl⟩
  rw [hR]
  unfold differR at hR
  have hR0 : firstN (differP (fun x => fs.getD x 0) (fun x => gs.getD x 0)) (m - 0) 0 = R := hR
  have hst := fun k (h : k < m) => firstN_step (P := differP (fun x => fs.getD x 0) (fun x => gs.getD x 0)) h
  have hd : ∀ k, differP (fun x => fs.getD x 0) (fun x => gs.getD x 0) k = decide (fs.getD k 0 ≠ gs.getD k 0) := fun _ => rfl
  generalize differP (fun x => fs.getD x 0) (fun x => gs.getD x 0) = D at *
  have HR0 := Lib.hid hR0
  have Hst := Lib.hid hst
  have Hd := Lib.hid hd
  have Hf := Lib.hid hf
  have Hg := Lib.hid hg
  clear hR0 hst hd hR hf hg
  go_enter Try.func52, Try.ntmps52
  go_wp2
  go_loopw [5] (fun i wr => ∃ j q : Nat, j ≤ m ∧ i = .int .i64 j ∧ Hid (firstN D (m - j) j = R) ∧ wr = w.drewN q) (fun i _ => m - (intOf i).toNat)
  case atStart => exact ⟨0, 0, Nat.zero_le _, rfl, HR0.out, rfl⟩
  case round =>
    obtain ⟨j, q, hj, rfl, HF, hw⟩ := hrel
    subst wr
    by_cases hlt : j < m
    · have hc : (j : Int) < (m : Int) := by omega
      obtain ⟨g1, rfl, x1⟩ := Hf.out.int hlt
      obtain ⟨g2, rfl, x2⟩ := Hg.out.int hlt
      have hs := Hst.out j hlt
      rw [HF.out, Hd.out j] at hs
      generalize fs.getD j 0 = y1 at x1 hs
      generalize gs.getD j 0 = y2 at x2 hs
      have Hgo := Lib.hid (And.intro (show j + 1 ≤ m by omega) hlt)
      by_cases he : y1 = y2
      · subst y2
        rw [decide_eq_false (by simp), if_neg (by decide)] at hs
        have HS := Lib.hid hs.symm
        have hnn : (y1 != y1) = false := by simp
        clear hs HF
        go_wp2
        go_quiet (fail)
        go_wp2
        go_roundw
        case rel => exact ⟨j + 1, _, Hgo.out.1, by go_num, HS.out, by first | rfl | exact World.drewN_drewN _ _ _ | trivial⟩
        case measure => exact mz_upn Hgo.out.2
      · rw [decide_eq_true he, if_pos rfl] at hs
        have HS := Lib.hid hs
        have hnn : (y1 != y2) = true := by simp [he]
        have hnb : (y1 == y2) = false := by simp [he]
        clear hs HF he
        go_wp2
        go_quiet (fail)
        go_wp2
        go_ret
        exact ⟨ret_int HS.out.symm, _, by first | rfl | exact World.drewN_drewN _ _ _ | trivial⟩
    · obtain rfl : j = m := by omega
      have hc : ¬ (j : Int) < (j : Int) := by omega
      have hf := HF.out
      rw [Nat.sub_self] at hf
      have HS := Lib.hid (show (-1 : Int) = R from hf)
      clear hf HF
      go_wp2
      go_ret
      exact ⟨ret_int HS.out, _, rfl⟩
theorem same_differ (m : Nat) (P Q : List Int) : sameR m P Q = differR m (valuesL m P) (valuesL m Q) := by
  unfold sameR differR
  refine firstN_congr m 0 fun x _ hx => ?_
  show decide (polyV m P x ≠ polyV m Q x) = decide ((valuesL m P).getD x 0 ≠ (valuesL m Q).getD x 0)
  rw [valuesL_get m P (by omega), valuesL_get m Q (by omega)]
/-- After that refuses -/
theorem after_start (w : World) (u v : Value) : Below w.heap.size w ((w.alloc (.cells #[u] 22)).alloc (.cells #[v] 22)) ∧ ((w.alloc (.cells #[u] 22)).alloc (.cells #[v] 22)).cell? ⟨w.heap.size, 0, none⟩ = some u ∧ ((w.alloc (.cells #[u] 22)).alloc (.cells #[v] 22)).cell? ⟨w.heap.size + 1, 0, none⟩ = some v := by
  obtain ⟨h1, h2, h3⟩ := start_pair w u v
  exact ⟨h1, h2.cell, h3.cell⟩
set_option maxRecDepth 100000 in
theorem After_no1 (m : Int) (a b : Option Addr) (n cap k c2 : Nat) (xs : List Int) (w : World) (hr : Row w a n (intL xs)) (hn : n ≤ 1000) (hp : funcB m xs = false) :
    Calls Try.prog 49 #[.int .i64 m, .slice a n cap, .slice b k c2] w fun e w' => e = .returned (.tuple #[.slice none 0 0, .int .i64 2]) ∧ Below w.heap.size w w' := by
  obtain ⟨b3, k1, k2⟩ := after_start w (.slice a n cap) (.slice b k c2)
  have h := isFunc_any m a n cap xs _ (hr.below b3) hn
  rw [hp] at h
  have H := Lib.hid h
  have B3 := Lib.hid b3
  clear h hr hp b3
  go_enter Try.func49, Try.ntmps49
  go_wp2_with fail
  refine H.out.mono ?_
  rintro e w1 ⟨rfl, hw⟩
  subst w1
  go_wp2
  go_ret2
  exact ⟨rfl, B3.out⟩
set_option maxRecDepth 100000 in
theorem After_no2 (m : Int) (a b : Option Addr) (n cap k c2 : Nat) (xs ys : List Int) (w : World) (hr : Row w a n (intL xs)) (hn : n ≤ 1000) (hp : funcB m xs = true) (hr2 : Row w b k (intL ys)) (hk : k ≤ 1000) (hp2 : funcB m ys = false) :
    Calls Try.prog 49 #[.int .i64 m, .slice a n cap, .slice b k c2] w fun e w' => e = .returned (.tuple #[.slice none 0 0, .int .i64 2]) ∧ Below w.heap.size w w' := by
  obtain ⟨b3, k1, k2⟩ := after_start w (.slice a n cap) (.slice b k c2)
  have h := isFunc_any m a n cap xs _ (hr.below b3) hn
  have h2 := isFunc_any m b k c2 ys _ (hr2.below b3) hk
  rw [hp] at h
  rw [hp2] at h2
  have H := Lib.hid h
  have H2 := Lib.hid h2
  have B3 := Lib.hid b3
  clear h hr hp b3 h2 hr2 hp2
  go_enter Try.func49, Try.ntmps49
  go_wp2_with fail
  refine H.out.mono ?_
  rintro e w1 ⟨rfl, hw⟩
  subst w1
  go_wp2_with fail
  refine H2.out.mono ?_
  rintro e w1 ⟨rfl, hw⟩
  subst w1
  go_wp2
  go_ret2
  exact ⟨rfl, B3.out⟩
end Go.Proofs.Ytndbjojjaapeaaa

/- Two pairs compared. -/
namespace Go.Proofs.Ytndbjojjaapeaaa
set_option linter.unusedVariables false
open Go.RowKit

set_option maxRecDepth 100000 in
theorem lits_two (D : Nat) (xs : List Int) (hl : xs.length = 2) (hw : ∀ x ∈ xs, (Lit.int .i64 x).wf = true) : Try.prog.keyLits (D + 2) 42 (intL xs) = some (xs.map (Lit.int .i64)) := by
  unfold Program.keyLits
  rw [Try.underlying42]
  have e1 : Try.prog.cellsOf 42 = 2 := by kernel_rfl
  have e2 : Try.prog.cellsOf 3 = 1 := by kernel_rfl
  simp only [e1, e2]
  rw [if_pos (by rw [intL_length, hl])]
  have hm := mapM_some (fun i => Try.prog.keyLits (D + 1) 3 (((intL xs).drop (i * 1)).take 1)) (fun i => [Lit.int .i64 (xs.getD i 0)]) (List.range 2) fun i hi => by
    have hil := List.mem_range.1 hi
    have e : ((intL xs).drop (i * 1)).take 1 = [.int .i64 (xs.getD i 0)] := by
      rw [Nat.mul_one, List.drop_eq_getElem_cons (by rw [intL_length]; omega)]
      unfold intL
      simp [List.getD_eq_getElem?_getD, List.getElem?_eq_getElem (show i < xs.length by omega)]
    rw [e]
    exact lits_int D _ (hw _ (by rw [List.getD_eq_getElem?_getD, List.getElem?_eq_getElem (by omega)]; exact List.getElem_mem _))
  rw [hm, Option.map_some, flat_one]
  congr 1
  refine List.ext_getElem? fun i => ?_
  rw [List.getElem?_map, List.getElem?_map]
  by_cases hi : i < 2
  · rw [List.getElem?_range hi, List.getElem?_eq_getElem (show i < xs.length by omega)]
    simp [List.getD_eq_getElem?_getD, List.getElem?_eq_getElem (show i < xs.length by omega)]
  · rw [List.getElem?_eq_none (by simp; omega), List.getElem?_eq_none (by omega)]; rfl
theorem formed_two (xs : List Int) (hl : xs.length = 2) : (Value.agg (intL xs).toArray).formed Try.prog 42 = true := by
  unfold Value.formed
  rw [Try.underlying42]
  have e1 : Try.prog.cellsOf 42 = 2 := by kernel_rfl
  simp [e1, intL_length, hl]
set_option maxRecDepth 100000 in
theorem eq_two (xs ys : List Int) (w : World) (hx : xs.length = 2) (hy : ys.length = 2) (hwx : ∀ x ∈ xs, (Lit.int .i64 x).wf = true) (hwy : ∀ x ∈ ys, (Lit.int .i64 x).wf = true) :
    (Op.equalIn 10000 42 (.agg (intL xs).toArray) (.agg (intL ys).toArray)).run Try.prog w = .ok (decide (xs = ys)) w := by
  obtain ⟨r, h1, h2⟩ := run_equalIn_deep (P := Try.prog) 9998 2 42 (by kernel_rfl) w 2 2 (.agg (intL xs).toArray) (.agg (intL ys).toArray) _ _ (formed_two xs hx) (formed_two ys hy) (lits_two 0 xs hx hwx) (lits_two 0 ys hy hwy)
  rw [h1]
  congr 1
  rw [Bool.eq_iff_iff, h2, decide_eq_true_eq]
  exact ⟨map_lit_inj xs ys, fun h => by rw [h]⟩

/-- a pair is itself -/

theorem eq_pair (x y : Int) (w : World) (hx : (Lit.int .i64 x).wf = true) (hy : (Lit.int .i64 y).wf = true) : (Op.equalIn 10000 42 (.agg #[.int .i64 x, .int .i64 y]) (.agg #[.int .i64 x, .int .i64 y])).run Try.prog w = .ok true w := by
  have hw : ∀ z ∈ [x, y], (Lit.int .i64 z).wf = true := fun z hz => by
    rcases List.mem_cons.1 hz with rfl | h
    · exact hx
    · rw [List.mem_singleton.1 h]; exact hy
  have h := eq_two [x, y] [x, y] w rfl rfl hw hw
  rw [decide_eq_true rfl] at h
  exact h
end Go.Proofs.Ytndbjojjaapeaaa

/- The walk of Values. -/
namespace Go.Proofs.Ytndbjojjaapeaaa
set_option linter.unusedVariables false
open Go.RowKit

theorem evalL_red (q : Nat) (x : Int) : ∀ xs : List Int, evalL x (redL q xs) % (q : Int) = evalL x xs % (q : Int)
  | [] => rfl
  | c :: cs => by
    have ih := evalL_red q x cs
    show (c % (q : Int) + x * evalL x (redL q cs)) % (q : Int) = (c + x * evalL x cs) % (q : Int)
    rw [Int.emod_add_emod, Int.add_emod, Int.mul_emod, ih, ← Int.mul_emod, ← Int.add_emod]
theorem valuesL_red (q : Nat) (xs : List Int) : valuesL q (redL q xs) = valuesL q xs := by
  unfold valuesL
  exact List.map_congr_left fun x _ => by rw [polyV_eval, polyV_eval, evalL_red]
theorem shL_congr {m : Nat} (hm : 1 ≤ m) (hm2 : m ≤ 64) {f g : Nat → Int} (h : ∀ x, x < m → f x = g x) (k : Nat) : shL m f k = shL m g k := by
  unfold shL
  have e : ∀ a, okS m f a = okS m g a := fun a => by
    rw [Bool.eq_iff_iff, okS_iff hm2, okS_iff hm2]
    constructor
    · intro h1 x hx
      have := h1 x hx
      rwa [h x hx, h _ (Nat.mod_lt _ (by omega))] at this
    · intro h1 x hx
      rw [h x hx, h _ (Nat.mod_lt _ (by omega))]
      exact h1 x hx
  rw [show okS m f = okS m g from funext e]
theorem redL_in {q : Nat} (hq : 1 ≤ q) (xs : List Int) : ∀ v ∈ redL q xs, 0 ≤ v ∧ v < q := fun v hv => by
  unfold redL at hv
  obtain ⟨x, _, rfl⟩ := List.mem_map.1 hv
  exact ⟨Int.emod_nonneg _ (by omega), Int.emod_lt_of_pos _ (by omega)⟩
theorem poly_ref2 {m : Int} {n : Nat} {xs : List Int} (hm : modB m = true) (hx : xs.length = n) : (decide (n ≤ 12) && remB m xs) = polyB m xs := by
  unfold polyB
  rw [hm, hx, Bool.true_and]
theorem row_pairs {w : World} {g n : Nat} {base : Nat} {pc : Nat} {e : TypeId} {L : List (Nat × Nat)} (h : w.ownsRow base e 2 (.slice (some ⟨g, 0, none⟩) n pc) n (flatF L)) (hn : 0 < n) : Row w (some ⟨g, 0, none⟩) (n * 2) (flatF L) := by
  refine ⟨h.1, fun _ => ?_⟩
  have hlt := h.lt g rfl
  obtain ⟨a, cap, e1, hc⟩ := own_prs h
  cases e1
  obtain ⟨g', e2, hc⟩ := hc hn
  have e3 := (show (some (⟨g, 0, none⟩ : Addr)) = some ⟨g', 0, none⟩ from e2)
  simp only [Option.some.injEq, Addr.mk.injEq, and_true] at e3
  subst e3
  exact ⟨g, rfl, hlt.2, hc⟩
theorem pair_cells {w : World} {g n k p e : Nat} {L : List (Nat × Nat)} (h : Row w (some ⟨g, 0, none⟩) (n * 2) (flatF L)) (hk : k < n) (hpe : L[k]? = some (p, e)) : w.cell? ⟨g, k * 2, none⟩ = some (.int .i64 p) ∧ w.cell? ⟨g, k * 2 + 1, none⟩ = some (.int .i64 e) := by
  obtain ⟨g', e2, _, hc⟩ := h.2 (by omega)
  have e3 := (show (some (⟨g, 0, none⟩ : Addr)) = some ⟨g', 0, none⟩ from e2)
  simp only [Option.some.injEq, Addr.mk.injEq, and_true] at e3
  subst e3
  obtain ⟨f0, f1⟩ := flatF_get hpe
  exact ⟨hc _ _ f0, hc _ _ f1⟩
set_option maxRecDepth 100000 in
set_option maxHeartbeats 4000000 in
theorem values_x (m : Int) (v : Value) (row : List Int) (w : World) (hR : RowIn w v row) (hm : modB m = false) (hp : polyB m (cutL row) = false) : Calls Try.prog 3 #[.int .i64 m, v] w fun e w' => e = .returned (.bool true) ∧ Below w.heap.size w w' := by
  have hcl := cutL_le row
  have hL := list_in v row w hR
  generalize cutL row = P at *
  obtain ⟨n, hn⟩ : ∃ n, P.length = n := ⟨_, rfl⟩
  rw [hn] at hL hcl
  have HL := Lib.hid hL
  have HV := Lib.hid fun a cap W hW => Values_no m a n cap P W hW (by omega) hp
  have HPm := Lib.hid fun a cap W hW => Permutes_no m a n cap P W hW (by omega) hp
  have HSh := Lib.hid fun a cap W hW => Shifts_no m a n cap P W hW (by omega) hp
  have HSp := Lib.hid fun a cap W hW => Split_no m a n cap P W hW (by omega) hp
  have hM := fun w => refModulus_any m w
  rw [hm] at hM
  have HM := Lib.hid hM
  have HA := Lib.hid fun w => awake_any w
  clear hM hR hL hp
  go_enter Try.func3, Try.ntmps3
  go_wp2_with fail
  refine (HL.out).mono ?_
  rintro e w1 ⟨v1, rfl, ho, b1⟩
  have B1 := Lib.hid b1
  clear b1
  obtain ⟨a1, c1, hv, hc1, r1⟩ := own_slice ho
  subst v1
  have RP := Lib.hid r1
  clear ho r1
  go_wp2_with fail
  refine (HV.out _ _ _ RP.out).mono ?_
  rintro e w2 ⟨rfl, hw⟩
  subst w2
  go_wp2_with fail
  refine (HPm.out _ _ _ RP.out).mono ?_
  rintro e w3 ⟨rfl, b3⟩
  have B3 := Lib.hid (b_next B1.out b3)
  clear B1
  replace RP := Lib.hid (RP.out.below b3)
  clear b3
  go_wp2_with fail
  refine (HSh.out _ _ _ RP.out).mono ?_
  rintro e w4 ⟨rfl, hw⟩
  subst w4
  go_wp2_with fail
  refine (HSp.out _ _ _ RP.out).mono ?_
  rintro e w5 ⟨rfl, hw⟩
  subst w5
  go_wp2_with fail
  refine (HM.out _).mono ?_
  rintro e w6 ⟨rfl, hw⟩
  subst w6
  go_wp2_with fail
  refine (HA.out _).mono ?_
  rintro e w7 ⟨rfl, b7⟩
  have B7 := Lib.hid (b_next B3.out b7)
  clear B3
  replace RP := Lib.hid (RP.out.below b7)
  clear b7
  go_wp2
  go_ret
  exact ⟨rfl, B7.out⟩
set_option maxRecDepth 100000 in
set_option maxHeartbeats 4000000 in
theorem values_no (m : Int) (v : Value) (row : List Int) (w : World) (hR : RowIn w v row) (hm : modB m = true) (hp : polyB m (cutL row) = false) : Calls Try.prog 3 #[.int .i64 m, v] w fun e w' => e = .returned (.bool true) ∧ Below w.heap.size w w' := by
  have hcl := cutL_le row
  have hL := list_in v row w hR
  generalize cutL row = P at *
  obtain ⟨n, hn⟩ : ∃ n, P.length = n := ⟨_, rfl⟩
  rw [hn] at hL hcl
  have HL := Lib.hid hL
  have HV := Lib.hid fun a cap W hW => Values_no m a n cap P W hW (by omega) hp
  have HPm := Lib.hid fun a cap W hW => Permutes_no m a n cap P W hW (by omega) hp
  have HSh := Lib.hid fun a cap W hW => Shifts_no m a n cap P W hW (by omega) hp
  have HSp := Lib.hid fun a cap W hW => Split_no m a n cap P W hW (by omega) hp
  have hM := fun w => refModulus_any m w
  rw [hm] at hM
  have hPo := fun a cap W hW => refPoly_any m a n cap P W hW (by omega)
  rw [poly_ref2 hm hn, hp] at hPo
  have HPo := Lib.hid hPo
  clear hPo
  have HM := Lib.hid hM
  have HA := Lib.hid fun w => awake_any w
  clear hM hR hL hp
  go_enter Try.func3, Try.ntmps3
  go_wp2_with fail
  refine (HL.out).mono ?_
  rintro e w1 ⟨v1, rfl, ho, b1⟩
  have B1 := Lib.hid b1
  clear b1
  obtain ⟨a1, c1, hv, hc1, r1⟩ := own_slice ho
  subst v1
  have RP := Lib.hid r1
  clear ho r1
  go_wp2_with fail
  refine (HV.out _ _ _ RP.out).mono ?_
  rintro e w2 ⟨rfl, hw⟩
  subst w2
  go_wp2_with fail
  refine (HPm.out _ _ _ RP.out).mono ?_
  rintro e w3 ⟨rfl, b3⟩
  have B3 := Lib.hid (b_next B1.out b3)
  clear B1
  replace RP := Lib.hid (RP.out.below b3)
  clear b3
  go_wp2_with fail
  refine (HSh.out _ _ _ RP.out).mono ?_
  rintro e w4 ⟨rfl, hw⟩
  subst w4
  go_wp2_with fail
  refine (HSp.out _ _ _ RP.out).mono ?_
  rintro e w5 ⟨rfl, hw⟩
  subst w5
  go_wp2_with fail
  refine (HM.out _).mono ?_
  rintro e w6 ⟨rfl, hw⟩
  subst w6
  go_wp2_with fail
  refine (HPo.out _ _ _ RP.out).mono ?_
  rintro e w7 ⟨rfl, hw⟩
  subst w7
  go_wp2_with fail
  refine (HA.out _).mono ?_
  rintro e w8 ⟨rfl, b8⟩
  have B8 := Lib.hid (b_next B3.out b8)
  clear B3
  replace RP := Lib.hid (RP.out.below b8)
  clear b8
  go_wp2
  go_ret
  exact ⟨rfl, B8.out⟩
set_option maxRecDepth 100000 in
set_option maxHeartbeats 16000000 in
theorem values_yes (m : Nat) (v : Value) (row : List Int) (w : World) (hR : RowIn w v row) (hm : 2 ≤ m) (hm2 : m ≤ 64) (hp : polyB m (cutL row) = true) : Calls Try.prog 3 #[.int .i64 m, v] w fun e w' => e = .returned (.bool true) ∧ Below w.heap.size w w' := by
  have hmb : modB (m : Int) = true := decide_eq_true (by omega)
  have hL := list_in v row w hR
  generalize cutL row = P at *
  have hp12 : P.length ≤ 12 ∧ ∀ x ∈ P, 0 ≤ x ∧ x < m := by
    have h := hp
    unfold polyB at h
    rw [Bool.and_eq_true, Bool.and_eq_true, decide_eq_true_eq] at h
    exact ⟨h.1.2, remB_in h.2⟩
  obtain ⟨hp12, hPin⟩ := hp12
  obtain ⟨n, hn⟩ : ∃ n, P.length = n := ⟨_, rfl⟩
  rw [hn] at hL hp12
  have hFl := valuesL_len m P
  have hFin := valuesL_in (m := m) (by omega) P
  have hV := fun a cap W hW => Values_yes m a n cap P W hW hp
  have hPm := fun a cap W hW => Permutes_yes m a n cap P W hW hp
  have hSh := fun a cap W hW => Shifts_yes m a n cap P W hW hp
  have hSp := fun a cap W hW => Split_yes m a n cap P W hW hp
  have hRv := fun a cap W hW => refValues_any m a n cap P W hW (by omega) hm hm2 hPin
  have hRe := fun a cap W hW => refEqual_any a m cap (valuesL m P) W hW (by omega)
  have hRp := fun W => refParts_any m W (by omega) hm2
  have hRs := fun a cap W hW => refShifts_any m a cap (valuesL m P) W hW hm hm2 hFin
  rw [shL_congr (by omega) hm2 (fun x hx => valuesL_get m P hx) m] at hRs
  have hsle := shL_le m (fun x : Nat => polyV m P x) m
  have hI := fun a b ca cb W h1 h2 => ints_true a b m ca cb (valuesL m P) W h1 h2 (by omega)
  generalize valuesL m P = F at *
  generalize equalR F = R at *
  generalize shL m (fun x : Nat => polyV m P x) m = S at *
  obtain ⟨sl, hsl⟩ : ∃ n, S.length = n := ⟨_, rfl⟩
  rw [hsl] at hSh hRs hsle
  have hI2 := fun a b ca cb W h1 h2 => ints_true a b sl ca cb S W h1 h2 (by omega)
  obtain ⟨q1, q2, q3⟩ := parts_facts ⟨m, by omega⟩ hm
  simp only at q1 q2 q3
  have hspl : (spL m P).length = (partsL m).length := by unfold spL; rw [List.length_map]
  have hsget : ∀ (j : Nat) (pk : Nat × Nat), (partsL m)[j]? = some pk → (spL m P)[j]? = some (valuesL (powN pk.1 pk.2) P) := fun j pk h => by unfold spL; rw [List.getElem?_map, h]; rfl
  have hpk : ∀ (j : Nat) (pk : Nat × Nat), (partsL m)[j]? = some pk → pk.1 ≤ 64 ∧ pk.2 ≤ 6 ∧ 2 ≤ powN pk.1 pk.2 ∧ powN pk.1 pk.2 ≤ 64 := fun j pk h => by
    rw [List.all_eq_true] at q1
    have h4 := q1 pk (List.mem_of_getElem? h)
    unfold partOK at h4
    have h5 := of_decide_eq_true h4
    exact ⟨h5.2.1, h5.2.2.2.1, h5.2.2.2.2.1, h5.2.2.2.2.2⟩
  generalize spL m P = Ls at *
  generalize partsL m = L at *
  obtain ⟨np, hnp⟩ : ∃ n, L.length = n := ⟨_, rfl⟩
  rw [hnp] at hSp hRp hspl q2 q3
  have hPo := fun a cap W hW => refPoly_any m a n cap P W hW (by omega)
  rw [poly_ref2 hmb hn, hp] at hPo
  have hM := fun w => refModulus_any (m : Int) w
  rw [hmb] at hM
  have hRd := fun (q : Nat) (h1 : 2 ≤ q) (h2 : q ≤ 64) a cap W hW => refReduced_any q a n cap P W hW (by omega) h1 h2 (fun x hx => by have := hPin x hx; omega)
  have hRq := fun (q : Nat) (h1 : 2 ≤ q) (h2 : q ≤ 64) a cap W hW => refValues_any q a n cap (redL q P) W hW (by omega) h1 h2 (redL_in (by omega) P)
  simp only [valuesL_red] at hRq
  have hIq := fun (q : Nat) (h2 : q ≤ 64) a b ca cb W h1 h2' => ints_true a b q ca cb (valuesL q P) W h1 h2' (by omega)
  have HL := Lib.hid hL
  have HV := Lib.hid hV
  have HPm := Lib.hid hPm
  have HSh := Lib.hid hSh
  have HSp := Lib.hid hSp
  have HRv := Lib.hid hRv
  have HRe := Lib.hid hRe
  have HRp := Lib.hid hRp
  have HRs := Lib.hid hRs
  have HI := Lib.hid hI
  have HI2 := Lib.hid hI2
  have Hspl := Lib.hid hspl
  have Hsget := Lib.hid hsget
  have Hpk := Lib.hid hpk
  have HPo := Lib.hid hPo
  have HM := Lib.hid hM
  have HRd := Lib.hid hRd
  have HRq := Lib.hid hRq
  have HIq := Lib.hid hIq
  have Hnp := Lib.hid hnp
  have Hn1 := Lib.hid q2
  have HA := Lib.hid (fun w => awake_any w)
  clear hL hV hPm hSh hSp hRv hRe hRp hRs hI hI2 hspl hsget hpk hPo hM hRd hRq hIq hp hPin hFin hFl hsl hnp hn q1 hmb hR hsle
  go_enter Try.func3, Try.ntmps3
  go_wp2_with fail
  refine (HL.out).mono ?_
  rintro e w1 ⟨v1, rfl, ho, b1⟩
  have B1 := Lib.hid b1
  clear b1
  obtain ⟨a1, c1, hv, hc1, r1⟩ := own_slice ho
  subst v1
  have RP := Lib.hid r1
  clear ho r1
  go_wp2_with fail
  refine (HV.out _ _ _ RP.out).mono ?_
  rintro e w2 ⟨v2, rfl, ho, b2⟩
  have B2 := Lib.hid (b_next B1.out b2)
  clear B1
  replace RP := Lib.hid (RP.out.below b2)
  clear b2
  obtain ⟨a2, c2, hv, hc2, r2⟩ := own_slice ho
  subst v2
  have RF := Lib.hid r2
  clear ho r2
  go_wp2_with fail
  refine (HPm.out _ _ _ RP.out).mono ?_
  rintro e w3 ⟨rfl, b3⟩
  have B3 := Lib.hid (b_next B2.out b3)
  clear B2
  replace RP := Lib.hid (RP.out.below b3)
  replace RF := Lib.hid (RF.out.below b3)
  clear b3
  go_wp2_with fail
  refine (HSh.out _ _ _ RP.out).mono ?_
  rintro e w4 ⟨v4, rfl, ho, b4⟩
  have B4 := Lib.hid (b_next B3.out b4)
  clear B3
  replace RP := Lib.hid (RP.out.below b4)
  replace RF := Lib.hid (RF.out.below b4)
  clear b4
  obtain ⟨a3, c3, hv, hc3, r4⟩ := own_slice ho
  subst v4
  have RS := Lib.hid r4
  clear ho r4
  go_wp2_with fail
  refine (HSp.out _ _ _ RP.out).mono ?_
  rintro e wS ⟨pv, fv, rfl, op, hl, bS⟩
  have BS := Lib.hid (b_next B4.out bS)
  replace RP := Lib.hid (RP.out.below bS)
  replace RF := Lib.hid (RF.out.below bS)
  replace RS := Lib.hid (RS.out.below bS)
  obtain ⟨pa, pc, rfl, hpc⟩ := own_prs op
  obtain ⟨g1, rfl, _⟩ := hpc Hn1.out
  have RPa := Lib.hid (row_pairs op Hn1.out)
  obtain ⟨la, lc, hfv, _, _, htb⟩ := hl.tbl
  rw [Hspl.out] at hfv
  subst hfv
  have TL := Lib.hid htb
  clear bS op hl hpc htb B4
  go_wp2_with fail
  refine (HM.out _).mono ?_
  rintro e w6 ⟨rfl, hw⟩
  subst w6
  go_wp2_with fail
  refine (HPo.out _ _ _ RP.out).mono ?_
  rintro e w7 ⟨rfl, hw⟩
  subst w7
  go_wp2_with fail
  refine (HRv.out _ _ _ RP.out).mono ?_
  rintro e w8 ⟨v8, rfl, ho, b8⟩
  have B8 := Lib.hid (b_next BS.out b8)
  clear BS
  replace RP := Lib.hid (RP.out.below b8)
  replace RF := Lib.hid (RF.out.below b8)
  replace RS := Lib.hid (RS.out.below b8)
  replace RPa := Lib.hid (RPa.out.below b8)
  replace TL := Lib.hid (TL.out.below b8)
  clear b8
  obtain ⟨a5, c5, hv, hc5, r8⟩ := own_slice ho
  subst v8
  have RV := Lib.hid r8
  clear ho r8
  go_wp2_with fail
  refine (HRe.out _ _ _ RV.out).mono ?_
  rintro e w9 ⟨rfl, hq⟩
  have b9 := drew_below hq
  clear hq
  have B9 := Lib.hid (b_next B8.out b9)
  clear B8
  replace RP := Lib.hid (RP.out.below b9)
  replace RF := Lib.hid (RF.out.below b9)
  replace RS := Lib.hid (RS.out.below b9)
  replace RPa := Lib.hid (RPa.out.below b9)
  replace TL := Lib.hid (TL.out.below b9)
  replace RV := Lib.hid (RV.out.below b9)
  clear b9
  go_wp2_with fail
  refine (HRp.out _).mono ?_
  rintro e wR ⟨pw, rfl, op, bR⟩
  have BR := Lib.hid (b_next B9.out bR)
  replace RP := Lib.hid (RP.out.below bR)
  replace RF := Lib.hid (RF.out.below bR)
  replace RS := Lib.hid (RS.out.below bR)
  replace RPa := Lib.hid (RPa.out.below bR)
  replace TL := Lib.hid (TL.out.below bR)
  replace RV := Lib.hid (RV.out.below bR)
  obtain ⟨pb, pd, rfl, hpc⟩ := own_prs op
  obtain ⟨g2, rfl, _⟩ := hpc Hn1.out
  have RPw := Lib.hid (row_pairs op Hn1.out)
  clear bR op hpc B9
  go_wp2_with fail
  refine (HI.out _ _ _ _ _ RF.out RV.out).mono ?_
  rintro e w11 ⟨rfl, hq⟩
  have b11 := drew_below hq
  clear hq
  have B11 := Lib.hid (b_next BR.out b11)
  clear BR
  replace RP := Lib.hid (RP.out.below b11)
  replace RF := Lib.hid (RF.out.below b11)
  replace RS := Lib.hid (RS.out.below b11)
  replace RPa := Lib.hid (RPa.out.below b11)
  replace TL := Lib.hid (TL.out.below b11)
  replace RV := Lib.hid (RV.out.below b11)
  replace RPw := Lib.hid (RPw.out.below b11)
  clear b11
  go_wp2_with fail
  refine (HRs.out _ _ _ RV.out).mono ?_
  rintro e w12 ⟨v12, rfl, ho, b12⟩
  have B12 := Lib.hid (b_next B11.out b12)
  clear B11
  replace RP := Lib.hid (RP.out.below b12)
  replace RF := Lib.hid (RF.out.below b12)
  replace RS := Lib.hid (RS.out.below b12)
  replace RPa := Lib.hid (RPa.out.below b12)
  replace TL := Lib.hid (TL.out.below b12)
  replace RV := Lib.hid (RV.out.below b12)
  replace RPw := Lib.hid (RPw.out.below b12)
  clear b12
  obtain ⟨a7, c7, hv, hc7, r12⟩ := own_slice ho
  subst v12
  have RT := Lib.hid r12
  clear ho r12
  go_wp2_with fail
  refine (HI2.out _ _ _ _ _ RS.out RT.out).mono ?_
  rintro e w13 ⟨rfl, hq⟩
  have b13 := drew_below hq
  clear hq
  have B13 := Lib.hid (b_next B12.out b13)
  clear B12
  replace RP := Lib.hid (RP.out.below b13)
  replace RF := Lib.hid (RF.out.below b13)
  replace RS := Lib.hid (RS.out.below b13)
  replace RPa := Lib.hid (RPa.out.below b13)
  replace TL := Lib.hid (TL.out.below b13)
  replace RV := Lib.hid (RV.out.below b13)
  replace RPw := Lib.hid (RPw.out.below b13)
  replace RT := Lib.hid (RT.out.below b13)
  clear b13
  go_wp2
  generalize w13 = WQ at *
  clear HV HPm HSh HSp HM HPo HRv HRe HRp HI HRs HI2 RF RV RS RT HL
  go_loopw [20] (fun i wr => ∃ k : Nat, k ≤ np ∧ i = .int .i64 k ∧ Hid (Below WQ.heap.size WQ wr)) (fun i _ => np - (intOf i).toNat)
  case atStart => exact ⟨0, Nat.zero_le _, rfl, Below.refl _ _⟩
  case round =>
    obtain ⟨k, hk, rfl, HBk⟩ := hrel
    by_cases hlt : k < np
    · have hc : (k : Int) < (np : Int) := by omega
      obtain ⟨⟨p, e⟩, hpe⟩ : ∃ pk, L[k]? = some pk := ⟨_, List.getElem?_eq_getElem (by have := Hnp.out; omega)⟩
      obtain ⟨x1, x2, x3, x4⟩ := Hpk.out k (p, e) hpe
      have hline := Hsget.out k (p, e) hpe
      simp only at x1 x2 x3 x4 hline
      have hPw := fun W => refPower_any p e W x1 x2
      have heq := fun W => eq_pair (p : Int) (e : Int) W (WalkArith.wf_i64 (by omega)) (WalkArith.wf_i64 (by omega))
      generalize powN p e = q at hPw x3 x4 hline
      have hrd := fun a cap W hW => HRd.out q x3 x4 a cap W hW
      have hrq := fun a cap W hW => HRq.out q x3 x4 a cap W hW
      have hiq := fun a b ca cb W h1 h2 => HIq.out q x4 a b ca cb W h1 h2
      have hlen := valuesL_len q P
      generalize valuesL q P = ln at hlen hline hrq hiq
      obtain ⟨d0, d1⟩ := pair_cells (RPw.out.below HBk.out) hlt hpe
      have HPw := Lib.hid hPw
      have HRdq := Lib.hid hrd
      have HRqq := Lib.hid hrq
      have HIqq := Lib.hid hiq
      have Hgo := Lib.hid (And.intro (show k + 1 ≤ np by omega) hlt)
      have hk3 : k ≤ 3 := by omega
      obtain ⟨gl, ra, rc, e1, hgl, c1, _, hrow⟩ := TL.out.row hline
      subst e1
      rw [hlen] at c1 hrow
      have hcells : ∀ W, Below WQ.heap.size WQ W → W.cell? ⟨g1, k * 2, none⟩ = some (.int .i64 p) ∧ W.cell? ⟨g1, k * 2 + 1, none⟩ = some (.int .i64 e) ∧ W.cell? ⟨g2, k * 2, none⟩ = some (.int .i64 p) ∧ W.cell? ⟨g2, k * 2 + 1, none⟩ = some (.int .i64 e) ∧ W.cell? ⟨gl, k, none⟩ = some (.slice ra q rc) := fun W hW => by
        obtain ⟨a0, a1⟩ := pair_cells (RPa.out.below hW) hlt hpe
        obtain ⟨b0, b1⟩ := pair_cells (RPw.out.below hW) hlt hpe
        exact ⟨a0, a1, b0, b1, (hW.cell (p := ⟨gl, k, none⟩) hgl).trans c1⟩
      have HC := Lib.hid hcells
      have HRow := Lib.hid hrow
      clear hPw hrd hrq hiq hlen hline hpe c1 hrow hcells x1 x2 x3 x4 hk hlt hgl
      go_wp2
      go_quiet ((go_at_call 30; with_reducible exact Calls.quiet_of_same (HPw.out _)))
      have HB5 := Lib.hid (below_drewN HBk.out nq)
      generalize wr.drewN nq = W5 at HB5 ⊢
      clear d0 d1 HBk HPw
      obtain ⟨s0, s1, s2, s3, s4⟩ := HC.out W5 HB5.out
      have RP5 := Lib.hid (RP.out.below HB5.out)
      go_wp2_with fail
      go_region_held3 (fun w' => w'.cell? ⟨g1, k * 2, none⟩ = some (.int .i64 p) ∧ w'.cell? ⟨g1, k * 2 + 1, none⟩ = some (.int .i64 e) ∧ w'.cell? ⟨g2, k * 2, none⟩ = some (.int .i64 p) ∧ w'.cell? ⟨g2, k * 2 + 1, none⟩ = some (.int .i64 e) ∧ w'.cell? ⟨gl, k, none⟩ = some (.slice ra q rc))
        (first | exact ⟨s0, s1, s2, s3, s4⟩ | exact HC1.out | exact HC2.out | exact HC3.out)
        (first
          | (go_at_call 31; with_reducible refine (HRdq.out _ _ _ (RP5.out.below (Below.refl _ _).drew)).mono ?_; rintro e' y1 ⟨l0, rfl, o1, z1⟩; have zz := undrew1 z1; have HZ1 := Lib.hid zz; have HC1 := Lib.hid (HC.out y1 (b_next HB5.out zz)); obtain ⟨b1', b2', hb3', -, hb4'⟩ := own_slice o1; subst hb3'; have HR1 := Lib.hid hb4'; clear o1 z1 zz hb4')
          | (go_at_call 25; with_reducible refine (HRqq.out _ _ _ HR1.out).mono ?_; rintro e' y2 ⟨l1, rfl, o2, z2⟩; have zz2 := b_next HZ1.out z2; have HZ2 := Lib.hid zz2; have HC2 := Lib.hid (HC.out y2 (b_next HB5.out zz2)); obtain ⟨b5', b6', hb7', -, hb8'⟩ := own_slice o2; subst hb7'; have HR2 := Lib.hid hb8'; clear o2 z2 zz2 hb8')
          | (go_at_call 28; with_reducible refine (HIqq.out _ _ _ _ _ (HRow.out.below (b_next HB5.out HZ2.out)) HR2.out).mono ?_; rintro e' y3 ⟨rfl, hq3⟩; have zz3 := b_next HZ2.out (drew_below hq3); have HZ3 := Lib.hid zz3; have HC3 := Lib.hid (HC.out y3 (b_next HB5.out zz3)); clear zz3 hq3))
      have HB7 := Lib.hid (b_next HB5.out HZ3.out)
      clear HC1 HC2 HC3 HZ1 HZ2 HZ3 HR1 HR2 HC HRow RP5 HB5 s0 s1 s2 s3 s4 heq
      generalize y3 = W7 at *
      go_wp2
      go_roundw
      case rel => exact ⟨k + 1, Hgo.out.1, by go_num, HB7⟩
      case measure => exact mz_upn Hgo.out.2
    · obtain rfl : k = np := by omega
      have hc : ¬ (k : Int) < (k : Int) := by omega
      have BZ := Lib.hid (b_next B13.out HBk.out)
      clear HBk
      go_wp2_with fail
      refine (HA.out _).mono ?_
      rintro e' w9 ⟨rfl, b9⟩
      have B9 := Lib.hid (b_next BZ.out b9)
      clear b9
      go_wp2
      go_ret
      exact ⟨rfl, B9.out⟩
theorem walk_ShuffleValues (x : Int) (_ : (Lit.int .i64 x).wf = true) (pv : Value) (rp : List Int) (w : World) (hP : RowIn w pv rp) : Calls Try.prog 3 #[.int .i64 x, pv] w fun e w' => e = .returned (.bool true) ∧ Below w.heap.size w w' := by
  cases hm : modB x with
  | false => exact values_x x pv rp w hP hm (by unfold polyB; rw [hm]; rfl)
  | true =>
    cases hp : polyB x (cutL rp) with
    | false => exact values_no x pv rp w hP hm hp
    | true =>
      obtain ⟨k, rfl, hk, hk2⟩ := modB_nat hm
      exact values_yes k pv rp w hP hk hk2 hp
end Go.Proofs.Ytndbjojjaapeaaa

/- Remainders modulo the prime powers: mathematics. -/
namespace Go.Proofs.Ytndbjojjaapeaaa
set_option linter.unusedVariables false
open Go.RowKit

/-- the prime powers of m -/
def powL (m : Nat) : List Nat := (partsL m).map fun pk => pk.1 ^ pk.2
theorem crt_zero : ∀ m : Fin 65, 2 ≤ m.1 → ∀ n : Fin 65, 0 < n.1 → n.1 < m.1 → (powL m.1).any (fun q => decide (n.1 % q ≠ 0)) = true := by decide +kernel
theorem crt_unit : ∀ m : Fin 65, 2 ≤ m.1 → ∀ i : Fin 3, i.1 < (powL m.1).length → ∃ e : Fin 65, ∀ j : Fin 3, j.1 < (powL m.1).length → e.1 % ((powL m.1).getD j.1 0) = if j.1 = i.1 then 1 else 0 := by decide +kernel
theorem pow_dvd : ∀ m : Fin 65, 2 ≤ m.1 → (powL m.1).all (fun q => decide (m.1 % q = 0 ∧ 2 ≤ q)) = true ∧ (powL m.1).length ≤ 3 := by decide +kernel
theorem powL_facts {m : Nat} (hm : 2 ≤ m) (hm2 : m ≤ 64) : ∀ q ∈ powL m, m % q = 0 ∧ 2 ≤ q := fun q hq => by
  have h := (pow_dvd ⟨m, by omega⟩ hm).1
  rw [List.all_eq_true] at h
  exact of_decide_eq_true (h q hq)
theorem crt_uniq {m : Nat} (hm : 2 ≤ m) (hm2 : m ≤ 64) {a b : Nat} (ha : a < m) (hb : b < m) (h : ∀ q ∈ powL m, a % q = b % q) : a = b := by
  have key : ∀ a b : Nat, b < m → (∀ q ∈ powL m, a % q = b % q) → ¬ a < b := fun a b hb h hlt => by
    have h1 := crt_zero ⟨m, by omega⟩ hm ⟨b - a, by omega⟩ (by show 0 < b - a; omega) (by show b - a < m; omega)
    rw [List.any_eq_true] at h1
    obtain ⟨q, hq, h2⟩ := h1
    exact of_decide_eq_true h2 (Nat.sub_mod_eq_zero_of_mod_eq (h q hq).symm)
  have h1 := key a b hb h
  have h2 := key b a ha fun q hq => (h q hq).symm
  omega
/-- a polynomial modulo a divisor -/
theorem poly_dvd {m q : Nat} (h : m % q = 0) (P : List Int) (x : Nat) : polyV m P x % (q : Int) = polyV q P ((x % q : Nat) : Int) := by
  rw [polyV_eval, polyV_eval, Int.emod_emod_of_dvd _ (by exact_mod_cast Nat.dvd_of_mod_eq_zero h), Int.natCast_emod, evalL_mod]
theorem poly_in {m : Nat} (hm : 1 ≤ m) (P : List Int) (x : Int) : 0 ≤ polyV m P x ∧ polyV m P x < m := nestV_range (by omega) _ _ _
theorem perm_iff (m : Nat) (P : List Int) : (equalR (valuesL m P)).1 = -1 ↔ ∀ x y, x < y → y < m → polyV m P (x : Int) ≠ polyV m P (y : Int) := by
  rw [equal_none _ (valuesL_len m P)]
  exact ⟨fun h x y hx hy => by have := h x y hx hy; rwa [valuesL_get m P (by omega), valuesL_get m P hy] at this, fun h x y hx hy => by rw [valuesL_get m P (by omega), valuesL_get m P hy]; exact h x y hx hy⟩
theorem perm_inj {m : Nat} {P : List Int} (h : (equalR (valuesL m P)).1 = -1) {x y : Nat} (hx : x < m) (hy : y < m) (he : polyV m P (x : Int) = polyV m P (y : Int)) : x = y := by
  rw [perm_iff] at h
  rcases Nat.lt_trichotomy x y with h1 | h1 | h1
  · exact absurd he (h x y h1 hy)
  · exact h1
  · exact absurd he.symm (h y x h1 hx)
/-- a polynomial is a permutation exactly if it is one for each of the prime powers -/
theorem perm_parts {m : Nat} (hm : 2 ≤ m) (hm2 : m ≤ 64) (P : List Int) : (equalR (valuesL m P)).1 = -1 ↔ ∀ q ∈ powL m, (equalR (valuesL q P)).1 = -1 := by
  have hf := powL_facts hm hm2
  have h3 := (pow_dvd ⟨m, by omega⟩ hm).2
  simp only at h3
  constructor
  · intro h q hq
    obtain ⟨i, hi⟩ := List.mem_iff_getElem?.1 hq
    have hil := (List.getElem?_eq_some_iff.1 hi).1
    obtain ⟨e, he⟩ := crt_unit ⟨m, by omega⟩ hm ⟨i, by omega⟩ hil
    simp only at he
    obtain ⟨hq0, hq2⟩ := hf q hq
    rw [perm_iff]
    intro u v huv hv heq
    have hval : ∀ a b : Nat, (∀ q ∈ powL m, polyV m P (a : Int) % (q : Int) = polyV m P (b : Int) % (q : Int)) → polyV m P (a : Int) = polyV m P (b : Int) := fun a b hab => by
      have i1 := poly_in (show 1 ≤ m by omega) P a
      have i2 := poly_in (show 1 ≤ m by omega) P b
      obtain ⟨c, hc⟩ := Int.eq_ofNat_of_zero_le i1.1
      obtain ⟨d, hd⟩ := Int.eq_ofNat_of_zero_le i2.1
      rw [hc, hd] at hab ⊢
      rw [hc] at i1
      rw [hd] at i2
      have := crt_uniq hm hm2 (a := c) (b := d) (by omega) (by omega) fun q hq => by
        have := hab q hq
        rw [← Int.natCast_emod, ← Int.natCast_emod] at this
        exact Int.ofNat.inj this
      rw [this]
    have hres : ∀ (w : Nat) (j : Nat) (r : Nat), (powL m)[j]? = some r → (e.1 * w % m) % r = if j = i then w % r else 0 := fun w j r hr => by
      have hjl := (List.getElem?_eq_some_iff.1 hr).1
      have h1 := he ⟨j, by omega⟩ hjl
      simp only at h1
      rw [List.getD_eq_getElem?_getD, hr, Option.getD_some] at h1
      obtain ⟨hr0, hr2⟩ := hf r (List.mem_of_getElem? hr)
      rw [Nat.mod_mod_of_dvd _ (Nat.dvd_of_mod_eq_zero hr0), Nat.mul_mod, h1]
      by_cases hji : j = i
      · rw [if_pos hji, if_pos hji, Nat.one_mul, Nat.mod_mod]
      · rw [if_neg hji, if_neg hji, Nat.zero_mul, Nat.zero_mod]
    have hxy : e.1 * u % m = e.1 * v % m := by
      refine perm_inj h (Nat.mod_lt _ (by omega)) (Nat.mod_lt _ (by omega)) (hval _ _ fun r hr => ?_)
      obtain ⟨hr0, _⟩ := hf r hr
      rw [poly_dvd hr0, poly_dvd hr0]
      obtain ⟨j, hj⟩ := List.mem_iff_getElem?.1 hr
      rw [hres u j r hj, hres v j r hj]
      by_cases hji : j = i
      · subst hji
        rw [if_pos rfl, if_pos rfl]
        rw [hi] at hj
        cases hj
        rw [Nat.mod_eq_of_lt (by omega), Nat.mod_eq_of_lt hv]
        exact heq
      · rw [if_neg hji, if_neg hji]
    have h1 := hres u i q hi
    have h2 := hres v i q hi
    rw [hxy] at h1
    rw [h1, if_pos rfl, if_pos rfl, Nat.mod_eq_of_lt (by omega), Nat.mod_eq_of_lt hv] at h2
    omega
  · intro h
    rw [perm_iff]
    intro x y hxy hy heq
    have := crt_uniq hm hm2 (a := x) (b := y) (by omega) hy fun q hq => by
      obtain ⟨hq0, hq2⟩ := hf q hq
      refine perm_inj (h q hq) (Nat.mod_lt _ (by omega)) (Nat.mod_lt _ (by omega)) ?_
      rw [← poly_dvd hq0, ← poly_dvd hq0, heq]
    omega
end Go.Proofs.Ytndbjojjaapeaaa
