/- Same. -/
import Derived.Test.YthmdlkaanjjbkaaWcl
import Derived.Test.YthmdlkaanjjbkaaQp
namespace Go.Proofs.Ythmdlkaanjjbkaa
set_option linter.unusedVariables false
open Go.RowKit

/-- the first number from k on, below k + r, that meets P, or -1 -/
def firstN (P : Nat → Bool) : Nat → Nat → Int
  | 0, _ => -1
  | r + 1, k => if P k then (k : Int) else firstN P r (k + 1)
theorem firstN_congr {P Q : Nat → Bool} : ∀ (r k : Nat), (∀ x, k ≤ x → x < k + r → P x = Q x) → firstN P r k = firstN Q r k
  | 0, _, _ => rfl
  | r + 1, k, h => by
    unfold firstN
    rw [h k (Nat.le_refl _) (by omega), firstN_congr r (k + 1) fun x h1 h2 => h x (by omega) (by omega)]
theorem firstN_none {P : Nat → Bool} : ∀ (r k : Nat), (∀ x, k ≤ x → x < k + r → P x = false) → firstN P r k = -1
  | 0, _, _ => rfl
  | r + 1, k, h => by
    unfold firstN
    rw [h k (Nat.le_refl _) (by omega), if_neg (by decide)]
    exact firstN_none r (k + 1) fun x h1 h2 => h x (by omega) (by omega)
theorem firstN_is {P : Nat → Bool} : ∀ (r k : Nat), (firstN P r k = -1 ∧ ∀ x, k ≤ x → x < k + r → P x = false) ∨ ∃ j : Nat, firstN P r k = (j : Int) ∧ k ≤ j ∧ j < k + r ∧ P j = true ∧ ∀ x, k ≤ x → x < j → P x = false
  | 0, k => .inl ⟨rfl, fun x h1 h2 => by omega⟩
  | r + 1, k => by
    unfold firstN
    cases hp : P k with
    | true => exact .inr ⟨k, by simp, Nat.le_refl _, by omega, hp, fun x h1 h2 => by omega⟩
    | false =>
      rcases firstN_is (P := P) r (k + 1) with ⟨h1, h2⟩ | ⟨j, h1, h2, h3, h4, h5⟩
      · left
        refine ⟨by simpa using h1, fun x hx1 hx2 => ?_⟩
        by_cases e : x = k
        · rw [e]; exact hp
        · exact h2 x (by omega) (by omega)
      · right
        refine ⟨j, by simpa using h1, by omega, by omega, h4, fun x hx1 hx2 => ?_⟩
        by_cases e : x = k
        · rw [e]; exact hp
        · exact h5 x (by omega) hx2
theorem firstN_step {P : Nat → Bool} {n k : Nat} (h : k < n) : firstN P (n - k) k = if P k then (k : Int) else firstN P (n - (k + 1)) (k + 1) := by
  rw [show n - k = (n - (k + 1)) + 1 by omega]; rfl
def differP (P Q : Nat → Int) (x : Nat) : Bool := decide (P x ≠ Q x)
def sameR (m : Nat) (P Q : List Int) : Int := firstN (differP (fun x => polyV m P x) (fun x => polyV m Q x)) m 0
set_option maxRecDepth 100000 in
theorem Same_no1 (m : Int) (a b : Option Addr) (n cap k c2 : Nat) (xs : List Int) (w : World) (hr : Row w a n (intL xs)) (hn : n ≤ 1000) (hp : polyB m xs = false) :
    Calls Try.prog 50 #[.int .i64 m, .slice a n cap, .slice b k c2] w fun e w' => e = .returned (.tuple #[.int .i64 0, .int .i64 2]) ∧ Below w.heap.size w w' := by
  have h := isPoly_any m a n cap xs w hr hn
  rw [hp] at h
  have H := Lib.hid h
  clear h hr hp
  go_enter Try.func50, Try.ntmps50
  go_wp2_with fail
  refine H.out.mono ?_
  rintro e w1 ⟨rfl, hw⟩
  subst w1
  go_wp2
  go_ret2
  exact ⟨rfl, Below.refl _ _⟩
set_option maxRecDepth 100000 in
theorem Same_no2 (m : Int) (a b : Option Addr) (n cap k c2 : Nat) (xs ys : List Int) (w : World) (hr : Row w a n (intL xs)) (hn : n ≤ 1000) (hp : polyB m xs = true) (hr2 : Row w b k (intL ys)) (hk : k ≤ 1000) (hp2 : polyB m ys = false) :
    Calls Try.prog 50 #[.int .i64 m, .slice a n cap, .slice b k c2] w fun e w' => e = .returned (.tuple #[.int .i64 0, .int .i64 2]) ∧ Below w.heap.size w w' := by
  have h := isPoly_any m a n cap xs w hr hn
  have h2 := isPoly_any m b k c2 ys w hr2 hk
  rw [hp] at h
  rw [hp2] at h2
  have H := Lib.hid h
  have H2 := Lib.hid h2
  clear h hr hp h2 hr2 hp2
  go_enter Try.func50, Try.ntmps50
  go_wp2_with fail
  refine H.out.mono ?_
  rintro e w1 ⟨rfl, hw⟩
  subst w1
  go_wp2_with fail
  refine H2.out.mono ?_
  rintro e w1 ⟨rfl, hw⟩
  subst w1
  go_wp2
  go_ret2
  exact ⟨rfl, Below.refl _ _⟩
theorem zeros_two (w : World) (X : Array Value) (h : X = zeroA) :
    Below w.heap.size w ((w.alloc (.cells X 69)).alloc (.cells X 69)) ∧ ((w.alloc (.cells X 69)).alloc (.cells X 69)).heap[w.heap.size]? = some (.cells zeroA 69 (0, 0)) ∧
      ((w.alloc (.cells X 69)).alloc (.cells X 69)).heap[w.heap.size + 1]? = some (.cells zeroA 69 (0, 0)) := by
  subst h
  have b0 := below_alloc w (.cells zeroA 69)
  have c0 := heap_alloc_new w (.cells zeroA 69)
  have s0 : (w.alloc (.cells zeroA 69)).heap.size = w.heap.size + 1 := by simp
  generalize w.alloc (.cells zeroA 69) = w1 at b0 c0 s0 ⊢
  have b1 := below_alloc w1 (.cells zeroA 69)
  have c1 := heap_alloc_new w1 (.cells zeroA 69)
  rw [s0] at c1
  refine ⟨b_next b0 b1, ?_, c1⟩
  exact (b1.block _ (Array.getElem?_eq_some_iff.1 c0).1).trans c0
theorem tab_cell {w : World} {B x m : Nat} {f : Nat → Int} (h : w.heap[B]? = some (.cells (tabA f m) 69 (0, 0))) (hx : x < m) (hm : m ≤ 64) : w.cell? ⟨B, x, none⟩ = some (.int .i64 (f x)) := by
  rw [cell_of_row _ _ x _ _ (0, 0) h]
  unfold tabA
  rw [List.getElem?_toArray]
  refine intL_get ?_
  unfold tabL
  rw [List.getElem?_map, List.getElem?_range (by omega)]
  simp [hx]
set_option maxRecDepth 100000 in
set_option maxHeartbeats 4000000 in
theorem Same_yes (m : Nat) (a b : Option Addr) (n cap k c2 : Nat) (xs ys : List Int) (w : World) (hr : Row w a n (intL xs)) (hp : polyB m xs = true) (hr2 : Row w b k (intL ys)) (hp2 : polyB m ys = true) :
    Calls Try.prog 50 #[.int .i64 m, .slice a n cap, .slice b k c2] w fun e w' => e = .returned (.tuple #[.int .i64 (sameR m xs ys), .int .i64 0]) ∧ Below w.heap.size w w' := by
  have hpl : ∀ zs : List Int, polyB m zs = true → zs.length ≤ 12 ∧ 2 ≤ m ∧ m ≤ 64 ∧ ∀ x ∈ zs, -1000 ≤ x ∧ x ≤ 1000 := fun zs h => by
    unfold polyB at h
    rw [Bool.and_eq_true, Bool.and_eq_true, decide_eq_true_eq] at h
    obtain ⟨⟨h1, h2⟩, h3⟩ := h
    obtain ⟨j, hj, hj2, hj64⟩ := modB_nat h1
    have hin := remB_in h3
    exact ⟨h2, by omega, by omega, fun x hx => by have := hin x hx; omega⟩
  obtain ⟨l1, hm, hm2, i1⟩ := hpl xs hp
  obtain ⟨l2, _, _, i2⟩ := hpl ys hp2
  have hx : xs.length = n := by have := hr.1; simpa [intL] using this
  have hy : ys.length = k := by have := hr2.1; simpa [intL] using this
  have h := fun W hW => isPoly_any m a n cap xs W hW (by omega)
  have h2 := fun W hW => isPoly_any m b k c2 ys W hW (by omega)
  rw [hp] at h
  rw [hp2] at h2
  have ht := fun W hW => polyTable_any m a n cap xs W hW (by omega) (by omega) hm2 i1
  have ht2 := fun W hW => polyTable_any m b k c2 ys W hW (by omega) (by omega) hm2 i2
  obtain ⟨R, hR⟩ : ∃ R, sameR m xs ys = R := ⟨_, rfl⟩
  unfold sameR at hR
  have hR0 : firstN (differP (fun x => polyV m xs x) (fun x => polyV m ys x)) (m - 0) 0 = R := hR
  have hst := fun k (h : k < m) => firstN_step (P := differP (fun x => polyV m xs x) (fun x => polyV m ys x)) h
  have hd : ∀ k, differP (fun x => polyV m xs x) (fun x => polyV m ys x) k = decide (polyV m xs k ≠ polyV m ys k) := fun _ => rfl
  rw [show sameR m xs ys = R from hR]
  have htl : ∀ (W : World) (B : Nat) (zs : List Int), W.heap[B]? = some (.cells (tabA (fun x => polyV m zs x) m) 69 (0, 0)) → ∀ i, i < m → W.cell? ⟨B, i, none⟩ = some (.int .i64 (polyV m zs i)) := fun W B zs h i hi => tab_cell (f := fun x => polyV m zs x) h hi hm2
  have ht1c := fun W B => htl W B xs
  have ht2c := fun W B => htl W B ys
  generalize differP (fun x => polyV m xs x) (fun x => polyV m ys x) = D at *
  obtain ⟨T1, hT1⟩ : ∃ T, tabA (fun x => polyV m xs x) m = T := ⟨_, rfl⟩
  have hT1s : T1.size = 64 := by rw [← hT1]; exact tabA_size _ m
  have hT1o : T1.all (·.oneCell') = true := by rw [← hT1]; exact tabA_one _ m
  obtain ⟨T2, hT2⟩ : ∃ T, tabA (fun x => polyV m ys x) m = T := ⟨_, rfl⟩
  have hT2s : T2.size = 64 := by rw [← hT2]; exact tabA_size _ m
  have hT2o : T2.all (·.oneCell') = true := by rw [← hT2]; exact tabA_one _ m
  simp only [hT1] at ht ht1c
  simp only [hT2] at ht2 ht2c
  have H := Lib.hid h
  have H2 := Lib.hid h2
  have HT := Lib.hid ht
  have HT2 := Lib.hid ht2
  have Hr := Lib.hid hr
  have Hr2 := Lib.hid hr2
  have HR0 := Lib.hid hR0
  have Hst := Lib.hid hst
  have Hd := Lib.hid hd
  have Ht1c := Lib.hid ht1c
  have Ht2c := Lib.hid ht2c
  clear h h2 ht ht2 hr hr2 hR0 hst hd hpl hp hp2 hR l1 l2 i1 i2 hx hy htl ht1c ht2c hT1 hT2
  go_enter Try.func50, Try.ntmps50
  go_wp2_with fail
  refine (H.out _ Hr.out).mono ?_
  rintro e w1 ⟨rfl, hw⟩
  subst w1
  go_wp2_with fail
  refine (H2.out _ Hr2.out).mono ?_
  rintro e w1 ⟨rfl, hw⟩
  subst w1
  go_wp2_with fail
  refine (HT.out _ Hr.out).mono ?_
  rintro e w1 ⟨rfl, b1⟩
  have R2 := Lib.hid (Hr2.out.below b1)
  have B1 := Lib.hid b1
  clear b1
  go_wp2_with fail
  refine (HT2.out _ R2.out).mono ?_
  rintro e w2 ⟨rfl, b2⟩
  have B2 := Lib.hid (b_next B1.out b2)
  clear b2
  go_wp2_with (first
    | (have hz := zeros_two w2 _ X64_zero
       generalize (w2.alloc (.cells X64 69)).alloc (.cells X64 69) = W at hz ⊢
       have B3 := Lib.hid (b_next B2.out hz.1)
       have K1 := Lib.hid hz.2.1
       have K2 := Lib.hid hz.2.2
       clear hz
       refine wpList_store_row (o := ⟨none, .store 69 (.tmp 8) (.tmp 23), _, _, _, _⟩) rfl 69 (.tmp 8) (.tmp 23) rfl w2.heap.size T1 rfl rfl 69 zeroA K1.out (info_table T1 hT1s) (zeroA_size.trans hT1s.symm) hT1o ?_
       have j1 := setRow_heap W w2.heap.size zeroA T1 69 (0, 0) K1.out
       have j2 := (setRow_other W w2.heap.size (w2.heap.size + 1) T1 (by omega)).trans K2.out
       have j3 := below_setRow B3.out B2.out.size T1
       generalize W.setRow w2.heap.size T1 = W2 at j1 j2 j3 ⊢
       have J1 := Lib.hid j1
       have J2 := Lib.hid j2
       have J3 := Lib.hid j3
       clear j1 j2 j3)
    | (refine wpList_store_row (o := ⟨none, .store 69 (.tmp 9) (.tmp 26), _, _, _, _⟩) rfl 69 (.tmp 9) (.tmp 26) rfl (w2.heap.size + 1) T2 rfl rfl 69 zeroA J2.out (info_table T2 hT2s) (zeroA_size.trans hT2s.symm) hT2o ?_))
  have j4 := setRow_heap W2 (w2.heap.size + 1) zeroA T2 69 (0, 0) J2.out
  have j5 := (setRow_other W2 (w2.heap.size + 1) w2.heap.size T2 (by omega)).trans J1.out
  have j6 := below_setRow J3.out (show w.heap.size ≤ w2.heap.size + 1 from Nat.le_succ_of_le B2.out.size) T2
  generalize W2.setRow (w2.heap.size + 1) T2 = W3 at j4 j5 j6 ⊢
  have C1 := Lib.hid (Ht1c.out W3 _ j5)
  have C2 := Lib.hid (Ht2c.out W3 _ j4)
  have B5 := Lib.hid j6
  clear j4 j5 j6 J1 J2 J3 K1 K2 B3 B2 B1 R2
  generalize w2.heap.size = g at *
  go_wp2
  go_loopw [10, 28] (fun _ i wr => ∃ j q : Nat, j ≤ m ∧ i = .int .i64 j ∧ Hid (firstN D (m - j) j = R) ∧ wr = W3.drewN q) (fun _ i _ => m - (intOf i).toNat)
  case atStart => exact ⟨0, 0, Nat.zero_le _, rfl, HR0.out, rfl⟩
  case round =>
    obtain ⟨j, q, hj, rfl, HF, hw⟩ := hrel
    subst wr
    by_cases hlt : j < m
    · have hc : (j : Int) < (m : Int) := by omega
      have x1 := C1.out j hlt
      have x2 := C2.out j hlt
      have hs := Hst.out j hlt
      rw [HF.out, Hd.out j] at hs
      generalize polyV m xs j = y1 at x1 hs
      generalize polyV m ys j = y2 at x2 hs
      have hj64 : (j : Int) < 64 := by omega
      have Hgo := Lib.hid (And.intro (show j + 1 ≤ m by omega) hlt)
      by_cases he : y1 = y2
      · subst y2
        rw [decide_eq_false (by simp), if_neg (by decide)] at hs
        have HS := Lib.hid hs.symm
        have hnn : (y1 != y1) = false := by simp
        clear hs HF
        go_wp2
        go_quiet (fail)
        go_wp2
        go_roundw
        case rel => exact ⟨j + 1, _, Hgo.out.1, by go_num, HS.out, by first | rfl | exact World.drewN_drewN _ _ _ | trivial⟩
        case measure => exact mz_upn Hgo.out.2
      · rw [decide_eq_true he, if_pos rfl] at hs
        have HS := Lib.hid hs
        have hnn : (y1 != y2) = true := by simp [he]
        have hnb : (y1 == y2) = false := by simp [he]
        clear hs HF he
        go_wp2
        go_quiet (fail)
        go_wp2
        go_ret2
        exact ⟨by rw [HS.out]; rfl, below_drewN (below_drewN B5.out _) _⟩
    · obtain rfl : j = m := by omega
      have hc : ¬ (j : Int) < (j : Int) := by omega
      have hf := HF.out
      rw [Nat.sub_self] at hf
      have HS := Lib.hid (show (-1 : Int) = R from hf)
      clear hf HF
      go_wp2
      go_ret2
      exact ⟨by rw [← HS.out]; rfl, below_drewN B5.out _⟩
end Go.Proofs.Ythmdlkaanjjbkaa
