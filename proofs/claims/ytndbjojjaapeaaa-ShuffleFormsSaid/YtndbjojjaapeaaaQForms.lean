/- ShuffleForms: Form, Inverse, Order and Cycles of a function, or the specified errors. Conditions: none. -/
import Derived.Test.YtndbjojjaapeaaaQc
import Derived.Test.YtndbjojjaapeaaaQe
import Derived.Deep.AppendLies
import Derived.Test.YtndbjojjaapeaaaQa
import Derived.Maps.OwnOps
import Derived.Maps.Keyed
import Derived.Maps.Views
import Derived.Deep.OwnRows
import Derived.Maps.RangeWalk
import Derived.Test.YtndbjojjaapeaaaShelfb
import Derived.Shelf.SlIterI.Nil
import Derived.Shelf.SortM.Plain
import Derived.Shelf.SortM.SortNone
import Derived.Shelf.AbstractIn
import Derived.Lib.SlKeysI
import Derived.Test.YtndbjojjaapeaaaQd
import Derived.Test.YtndbjojjaapeaaaQg
import Derived.ShutString
import Derived.Lib.SmallJoins
/- The form, found number by number for all places: mathematics. -/
namespace Go.Proofs.Ytndbjojjaapeaaa
set_option linter.unusedVariables false
open Go.RowKit

theorem pickF_at {P : Nat → Bool} {c0 : Nat} (h : pickF P 1 0 = some c0) : c0 = 0 ∧ P 0 = true := by
  obtain ⟨h1, h2, h3⟩ := pickF_is 1 0 h
  obtain rfl : c0 = 0 := by omega
  exact ⟨rfl, h1⟩
theorem formS_split {m : Nat} {f : Nat → Int} {i : Nat} {L : List Int} (h : formS m f (i + 1) = some L) : ∃ pre c, formS m f i = some pre ∧ pickN m pre i (f i) = some c ∧ L = pre ++ [(c : Int)] := by
  unfold formS at h
  cases hp : formS m f i with
  | none => rw [hp] at h; simp at h
  | some pre =>
    rw [hp, Option.bind_some] at h
    cases hc : pickN m pre i (f i) with
    | none => rw [hc] at h; simp at h
    | some c =>
      rw [hc, Option.map_some, Option.some.injEq] at h
      exact ⟨pre, c, rfl, hc, h.symm⟩
theorem snoc_take {m : Nat} (l : List Int) (y : Int) (x k : Nat) (h : k ≤ l.length) : valV m (l ++ [y]) x k = valV m l x k :=
  valV_take m _ _ x k fun j hj => by rw [getD_snoc, if_pos (by omega)]
/-- a form found to i has the values below i -/
theorem formS_val {m : Nat} (hm : 2 ≤ m) {f : Nat → Int} : ∀ (i : Nat) (l : List Int), formS m f i = some l → ∀ x, x < i → valV m l x i = f x
  | 0, _, _, x, hx => by omega
  | i + 1, L, h, x, hx => by
    obtain ⟨pre, c, h1, h2, rfl⟩ := formS_split h
    have hl := formS_length h1
    by_cases e : x = i
    · subst e
      have h3 := (pickF_is _ _ h2).1
      unfold fitB at h3
      rw [decide_eq_true_eq] at h3
      rw [valV_at hm, snoc_take pre _ x x (by omega), getD_snoc, if_neg (by omega), if_pos hl.symm, h3]
    · obtain ⟨d, rfl⟩ : ∃ d, i = x + 1 + d := ⟨i - (x + 1), by omega⟩
      have h4 := valV_more hm (pre ++ [(c : Int)]) x (d + 1)
      have h5 := valV_more hm (pre ++ [(c : Int)]) x d
      rw [show x + 1 + d + 1 = x + 1 + (d + 1) by omega, h4, ← h5, snoc_take pre _ x (x + 1 + d) (by omega)]
      exact formS_val hm (x + 1 + d) pre h1 x (by omega)
theorem getD_pad (l : List Int) (e j : Nat) : (l ++ List.replicate e (0 : Int)).getD j 0 = l.getD j 0 := by
  rw [List.getD_eq_getElem?_getD, List.getD_eq_getElem?_getD]
  by_cases h : j < l.length
  · rw [List.getElem?_append_left h]
  · rw [List.getElem?_append_right (by omega), List.getElem?_eq_none (l := l) (by omega), List.getElem?_replicate]
    split <;> rfl
theorem valV_stop {m : Nat} (hm : 0 < m) (l : List Int) (x : Nat) {d : Nat} (hl : l.length = d) : ∀ e, valV m l x (d + e) = valV m l x d
  | 0 => rfl
  | e + 1 => by
    show (valV m l x (d + e) + l.getD (d + e) 0 * _) % _ = _
    rw [List.getD_eq_getElem?_getD, List.getElem?_eq_none (by omega), valV_stop hm l x hl e]
    simp only [Option.getD_none, Int.zero_mul, Int.add_zero]
    have := valV_range hm l x d
    exact Int.emod_eq_of_lt this.1 this.2
theorem fit_far {m : Nat} (hm : 2 ≤ m) {f : Nat → Int} {l : List Int} {d e : Nat} (hl : l.length = d) : fitB m (l ++ List.replicate e 0) (d + e) (f (d + e)) 0 = decide (valV m l (d + e) d = f (d + e)) := by
  unfold fitB
  rw [valV_take m (l ++ List.replicate e 0) l (d + e) (d + e) (fun j _ => getD_pad l e j), valV_stop (by omega) l (d + e) hl e]
  have := valV_range (show 0 < m by omega) l (d + e) d
  rw [show ((0 : Nat) : Int) * (prodP m (d + e) : Int) = 0 by simp, Int.add_zero, Int.emod_eq_of_lt this.1 this.2]
theorem formS_far {m : Nat} (hm : 2 ≤ m) (hm2 : m ≤ 64) {f : Nat → Int} {l : List Int} (h : formS m f (degN m) = some l) : ∀ e, (∀ x, degN m ≤ x → x < degN m + e → valV m l x (degN m) = f x) → formS m f (degN m + e) = some (l ++ List.replicate e 0)
  | 0, _ => by rw [Nat.add_zero, h, List.replicate_zero, List.append_nil]
  | e + 1, hv => by
    show (formS m f (degN m + e)).bind (fun pre => (pickN m pre (degN m + e) (f (degN m + e))).map fun c : Nat => pre ++ [(c : Int)]) = _
    rw [formS_far hm hm2 h e (fun x h1 h2 => hv x h1 (by omega)), Option.bind_some]
    have hp : pickN m (l ++ List.replicate e 0) (degN m + e) (f (degN m + e)) = some 0 := by
      unfold pickN
      rw [room_far hm hm2 (Nat.le_add_right _ _)]
      show (if fitB m (l ++ List.replicate e 0) (degN m + e) (f (degN m + e)) 0 = true then some 0 else none) = _
      rw [fit_far hm (formS_length h), decide_eq_true (hv _ (by omega) (by omega)), if_pos rfl]
    rw [hp, Option.map_some, List.replicate_succ', ← List.append_assoc]; rfl
theorem formS_back {m : Nat} (hm : 2 ≤ m) (hm2 : m ≤ 64) {f : Nat → Int} : ∀ e L, formS m f (degN m + e) = some L → ∃ l, formS m f (degN m) = some l ∧ L = l ++ List.replicate e 0 ∧ ∀ x, degN m ≤ x → x < degN m + e → valV m l x (degN m) = f x
  | 0, L, h => ⟨L, h, by simp, fun x a b => by omega⟩
  | e + 1, L, h => by
    obtain ⟨pre, c, h1, h2, rfl⟩ := formS_split (i := degN m + e) h
    obtain ⟨l, h3, rfl, h4⟩ := formS_back hm hm2 e pre h1
    unfold pickN at h2
    rw [room_far hm hm2 (Nat.le_add_right _ _)] at h2
    obtain ⟨rfl, h5⟩ := pickF_at h2
    rw [fit_far hm (formS_length h3), decide_eq_true_eq] at h5
    refine ⟨l, h3, by rw [List.replicate_succ', ← List.append_assoc]; rfl, fun x a b => ?_⟩
    by_cases ex : x = degN m + e
    · subst ex; exact h5
    · exact h4 x a (by omega)
theorem trimZ_pad (l : List Int) : ∀ e, trimZ (l ++ List.replicate e 0) = trimZ l
  | 0 => by simp
  | e + 1 => by rw [List.replicate_succ', ← List.append_assoc, trimZ_snoc, if_pos rfl, trimZ_pad l e]
/-- the reference's way to a form gives the same answer -/
theorem form_full {m : Nat} (hm : 2 ≤ m) (hm2 : m ≤ 64) (f : Nat → Int) : formR m f = (formS m f m).map trimZ := by
  obtain ⟨_, d2, _⟩ := deg_facts ⟨m, by omega⟩ hm
  simp only at d2
  obtain ⟨e, he⟩ : ∃ e, m = degN m + e := ⟨m - degN m, by omega⟩
  cases hS : formS m f m with
  | some L =>
    have hS2 := hS
    rw [show formS m f m = formS m f (degN m + e) by rw [← he]] at hS2
    obtain ⟨l, h1, rfl, h3⟩ := formS_back hm hm2 e L hS2
    have hmk : makesB m f l = true := by
      unfold makesB
      rw [List.all_eq_true]
      intro x hx
      have hxm := List.mem_range.1 hx
      rw [decide_eq_true_eq, formS_length h1]
      by_cases hd : x < degN m
      · exact formS_val hm _ _ h1 x hd
      · exact h3 x (by omega) (by omega)
    unfold formR
    rw [h1, Option.bind_some, if_pos hmk, Option.map_some, trimZ_pad]
  | none =>
    unfold formR
    cases h1 : formS m f (degN m) with
    | none => rfl
    | some l =>
      rw [Option.bind_some, Option.map_none]
      refine if_neg fun hmk => ?_
      unfold makesB at hmk
      rw [List.all_eq_true] at hmk
      have h2 := formS_far hm hm2 h1 e fun x a b => by
        have := hmk x (List.mem_range.2 (by omega))
        rwa [decide_eq_true_eq, formS_length h1] at this
      rw [← he, hS] at h2
      cases h2
end Go.Proofs.Ytndbjojjaapeaaa

/- The reference's value of a form. -/
namespace Go.Proofs.Ytndbjojjaapeaaa
set_option linter.unusedVariables false
open Go.RowKit

set_option maxRecDepth 100000 in
set_option maxHeartbeats 4000000 in
theorem refValue_any (m : Nat) (a : Option Addr) (n cap : Nat) (xs : List Int) (x : Nat) (w : World) (hr : Row w a n (intL xs)) (hn : n ≤ 100) (hx100 : x ≤ 100) (hm : 2 ≤ m) (hm2 : m ≤ 64) (hxs : ∀ y ∈ xs, 0 ≤ y ∧ y ≤ 64) :
    Calls Try.prog 83 #[.int .i64 m, .slice a n cap, .int .i64 x] w fun e w' => e = .returned (.int .i64 (valV m xs x n)) ∧ ∃ q, w' = w.drewN q := by
  have hx : xs.length = n := by have := hr.1; simpa [intL] using this
  have hF := fun (i : Nat) (hi : i ≤ 100) w => falling_any m x i w hm hm2 hx100 hi
  have hfl := fun i => fallN_lt hm x i
  have hv0 : valV m xs x 0 = 0 := rfl
  have hvs : ∀ i, valV m xs x (i + 1) = (valV m xs x i + xs.getD i 0 * (fallN m x i : Int)) % (m : Int) := fun _ => rfl
  have hvr := fun i => valV_range (show 0 < m by omega) xs x i
  have hg : ∀ i, i < n → 0 ≤ xs.getD i 0 ∧ xs.getD i 0 ≤ 64 := fun i hi => hxs _ (by rw [List.getD_eq_getElem?_getD, List.getElem?_eq_getElem (by omega)]; exact List.getElem_mem _)
  generalize valV m xs x = vv at *
  generalize fallN m x = fn at *
  have HF := Lib.hid hF
  have Hfl := Lib.hid hfl
  have Hv0 := Lib.hid hv0
  have Hvs := Lib.hid hvs
  have Hvr := Lib.hid hvr
  have Hg := Lib.hid hg
  have Hr := Lib.hid hr
  clear hF hfl hv0 hvs hvr hg hr hxs hx
  obtain ⟨z1, z2⟩ := zero_no hm
  go_enter Try.func83, Try.ntmps83
  go_wp2
  go_loopw [7, 8] (fun t i w2 => ∃ j q : Nat, j ≤ n ∧ i = .int .i64 j ∧ t = .int .i64 (vv j) ∧ w2 = w.drewN q) (fun _ i _ => n - (intOf i).toNat)
  case atStart => exact ⟨0, 0, Nat.zero_le _, rfl, by rw [Hv0.out], rfl⟩
  case round =>
    obtain ⟨j, q, hj, rfl, rfl, hw⟩ := hrel
    subst wr
    by_cases hjn : j < n
    · have hc2 : (j : Int) < (n : Int) := by omega
      have hC := fun w => HF.out j (by omega) w
      have hfj := Hfl.out j
      have hvr := Hvr.out j
      have hgj := Hg.out j hjn
      obtain ⟨r, hr⟩ : ∃ r, vv (j + 1) = r := ⟨_, rfl⟩
      have hs := Hvs.out j
      rw [hr] at hs
      obtain ⟨g, rfl, cx⟩ := Hr.out.int hjn
      generalize xs.getD j 0 = y at cx hgj hs
      generalize fn j = f at hC hfj hs
      generalize vv j = u at hvr hs ⊢
      obtain ⟨p, s, n1, n2, n3, n4, n5, n6, n7, _⟩ := uf_num hm hm2 hvr hgj hfj hs.symm
      have HC := Lib.hid hC
      have HR := Lib.hid hr
      have Hgo := Lib.hid (And.intro (show j + 1 ≤ n by omega) hjn)
      clear hC hr hs hgj hfj hvr
      go_wp2
      go_quiet ((go_at_call 86; with_reducible exact quiet_still (HC.out _)))
      go_wp2
      go_roundw
      case rel => exact ⟨j + 1, _, Hgo.out.1, by go_num, by rw [HR.out], by first | rfl | exact World.drewN_drewN _ _ _ | trivial⟩
      case measure => exact mz_upn Hgo.out.2
    · obtain rfl : j = n := by omega
      have hc2 : ¬ (j : Int) < (j : Int) := by omega
      go_wp2
      go_ret
      exact ⟨rfl, q, rfl⟩
end Go.Proofs.Ytndbjojjaapeaaa

/- The reference's Form. -/
namespace Go.Proofs.Ytndbjojjaapeaaa
set_option linter.unusedVariables false
open Go.RowKit

theorem row_take {w : World} {g n k : Nat} {xs : List Int} (h : Row w (some ⟨g, 0, none⟩) n (intL xs)) (hk : k ≤ n) (hn : 0 < n) : Row w (some ⟨g, 0, none⟩) k (intL (xs.take k)) := by
  obtain ⟨hl, h2⟩ := h
  obtain ⟨g', e, h3, h4⟩ := h2 hn
  cases e
  unfold intL at hl h4 ⊢
  rw [List.length_map] at hl
  refine ⟨by rw [List.length_map, List.length_take]; omega, fun _ => ⟨g, rfl, h3, fun j v hj => h4 j v ?_⟩⟩
  rw [List.getElem?_map] at hj ⊢
  by_cases e : j < k
  · rw [List.getElem?_take_of_lt e] at hj; exact hj
  · rw [List.getElem?_eq_none (by rw [List.length_take]; omega)] at hj; cases hj
theorem room_le {m : Nat} (i : Nat) : roomN m i ≤ m := Nat.div_le_self _ _
/-- what is found at one place -/
theorem fit_val {m : Nat} (hm : 2 ≤ m) {pre : List Int} {k c : Nat} (fi : Int) (hl : pre.length = k) : fitB m pre k fi c = (valV m (pre ++ [(c : Int)]) k (k + 1) == fi) := by
  unfold fitB
  rw [valV_at hm, getD_snoc, if_neg (by omega), if_pos hl.symm, valV_take m (pre ++ [(c : Int)]) pre k k (fun j hj => by rw [getD_snoc, if_pos (by omega)])]
  rw [Bool.eq_iff_iff, decide_eq_true_eq, beq_iff_eq]
theorem row_snoc {X : World} {B k c : Nat} {a : Option Addr} {pre : List Int} {y : Int} (h : X.ownsRow B 3 1 (.slice a (k + 1) c) (k + 1) (intL pre ++ [.int .i64 y])) : Row X a (k + 1) (intL (pre ++ [y])) := by
  obtain ⟨a', c', hv, hr⟩ := Row.of_own h
  cases hv
  unfold intL at hr ⊢
  rw [List.map_append]
  exact hr
def RfPost (w : World) (m : Nat) (f : Nat → Int) (e : Ending) (w' : World) : Prop :=
  ((∀ l, formR m f = some l → ∃ g c, e = .returned (.tuple #[.slice (some ⟨g, 0, none⟩) l.length c, .bool true]) ∧ Row w' (some ⟨g, 0, none⟩) l.length (intL l)) ∧ (formR m f = none → e = .returned (.tuple #[.slice none 0 0, .bool false]))) ∧ Below w.heap.size w w'
set_option maxRecDepth 100000 in
set_option maxHeartbeats 4000000 in
theorem refForm_any (m : Nat) (g cap : Nat) (xs : List Int) (w : World) (hr : Row w (some ⟨g, 0, none⟩) m (intL xs)) (hm : 2 ≤ m) (hm2 : m ≤ 64) :
    Calls Try.prog 37 #[.int .i64 m, .slice (some ⟨g, 0, none⟩) m cap] w (RfPost w m fun x => xs.getD x 0) := by
  obtain ⟨i0, hi, hz0, hz1, hz2⟩ := info_parts info_int
  have hR := fun (i : Nat) (hi : i ≤ 100) W => Room_any m i W hm hm2 hi
  have hV := fun (pre : List Int) (c k : Nat) (hp : pre.length = k) (hk : k < m) (hc : c ≤ 64) (hb : ∀ x ∈ pre, 0 ≤ x ∧ x ≤ 64) (a : Option Addr) (cp : Nat) (X : World) (hX : Row X a (k + 1) (intL (pre ++ [(c : Int)]))) => refValue_any m a (k + 1) cp (pre ++ [(c : Int)]) k X hX (by omega) (by omega) hm hm2 (fun y hy => by
    rcases List.mem_append.1 hy with h | h
    · exact hb y h
    · rw [List.mem_singleton] at h; omega)
  have hfit := fun (pre : List Int) (k c : Nat) (fi : Int) (hl : pre.length = k) => fit_val hm (c := c) fi hl
  have hfull := form_full hm hm2 fun x => xs.getD x 0
  have hrl := fun i => room_le (m := m) i
  have hst : ∀ i pre, formS m (fun x => xs.getD x 0) i = some pre → formS m (fun x => xs.getD x 0) (i + 1) = (pickN m pre i (xs.getD i 0)).map fun c : Nat => pre ++ [(c : Int)] := fun i pre h => by
    show (formS m _ i).bind _ = _
    rw [h]; rfl
  have hpk : ∀ pre k fi, pickN m pre k fi = pickF (fitB m pre k fi) (roomN m k) 0 := fun _ _ _ => rfl
  have hdead : ∀ k, k < m → formS m (fun x => xs.getD x 0) (k + 1) = none → formS m (fun x => xs.getD x 0) m = none := fun k hk h => by
    obtain ⟨d, hd⟩ : ∃ d, m = k + 1 + d := ⟨m - (k + 1), by omega⟩
    have h2 := formS_none h d
    rwa [← hd] at h2
  have HR := Lib.hid hR
  have HV := Lib.hid hV
  have Hfit := Lib.hid hfit
  have Hfull := Lib.hid hfull
  have Hrl := Lib.hid hrl
  have Hst := Lib.hid hst
  have Hpk := Lib.hid hpk
  have Hdead := Lib.hid hdead
  have Hr := Lib.hid hr
  clear hR hV hfit hfull hrl hst hpk hdead hr
  go_enter Try.func37, Try.ntmps37
  go_wp2
  go_loopw [6, 7] (fun v i wr => ∃ (k : Nat) (pre : List Int), k ≤ m ∧ i = .int .i64 k ∧ pre.length = k ∧ Hid (formS m (fun x => xs.getD x 0) k = some pre) ∧ Hid (∀ x ∈ pre, 0 ≤ x ∧ x ≤ 64) ∧ Hid (k = 0 → v = .slice none 0 0) ∧ Hid (wr.ownsRow w.heap.size 3 1 v k (intL pre)) ∧ Hid (Below w.heap.size w wr)) (fun _ i _ => m - (intOf i).toNat)
  case atStart => exact ⟨0, [], Nat.zero_le _, rfl, rfl, rfl, fun x hx => by simp at hx, fun _ => rfl, World.ownsRow_nil _ _ _ _, Below.refl _ _⟩
  case round =>
    obtain ⟨k, pre, hk, rfl, hpl, HS, HPb, HZ, HO, HB⟩ := hrel
    generalize wr = W1 at *
    by_cases h0 : k = 0
    · have hlt : k < m := by omega
      have hc : (k : Int) < (m : Int) := by omega
      obtain rfl := HZ.out h0
      have Hp0 : Hid (pre = []) := List.eq_nil_of_length_eq_zero (by omega)
      have H0 := Lib.hid h0
      have Hpl := Lib.hid hpl
      clear h0 hpl
      obtain ⟨r, hrr⟩ : ∃ r, roomN m k = r := ⟨_, rfl⟩
      have hRk := fun W => HR.out k (by omega) W
      have hr64 := Hrl.out k
      obtain ⟨fi, hfi⟩ : ∃ fi, xs.getD k 0 = fi := ⟨_, rfl⟩
      have hpk := Hpk.out pre k fi
      have hst := Hst.out k pre HS.out
      rw [hrr] at hRk hr64 hpk
      rw [hfi] at hst
      have hr100 : r ≤ 64 := by omega
      have Hcf : Hid (∀ X : World, Below W1.heap.size W1 X → X.cell? ⟨g, k, none⟩ = some (.int .i64 fi) ∧ g < W1.heap.size) := fun X hX => by
        obtain ⟨g', e1, x1⟩ := ((Hr.out.below HB.out).below hX).int hlt
        simp only [Option.some.injEq, Addr.mk.injEq, and_true] at e1
        subst e1
        obtain ⟨g', e1, x2⟩ := (Hr.out.below HB.out).int hlt
        simp only [Option.some.injEq, Addr.mk.injEq, and_true] at e1
        subst e1
        rw [hfi] at x1
        exact ⟨x1, World.block_lt_of_cell? _ _ x2⟩
      have HRk := Lib.hid hRk
      have Hpk0 := Lib.hid hpk
      have Hst2 := Lib.hid hst
      have Hgo := Lib.hid (show k + 1 ≤ m ∧ k < m ∧ k ≤ 64 by omega)
      clear hRk hpk hst hrr hfi hr64 hlt hk
      go_wp2
      go_loopw [8] (fun c wr => ∃ c0 : Nat, c0 ≤ r ∧ c = .int .i64 c0 ∧ Hid (pickN m pre k fi = pickF (fitB m pre k fi) (r - c0) c0) ∧ Hid (Below W1.heap.size W1 wr)) (fun c _ => r - (intOf c).toNat)
      case atStart => exact ⟨0, Nat.zero_le _, rfl, Hpk0.out, Below.refl _ _⟩
      case round =>
        obtain ⟨c, hcr, rfl, HP, HB2⟩ := hrel
        generalize wr = W2 at *
        have HO2 := Lib.hid (own_later HO.out HB2.out)
        by_cases hcl : c < r
        · have hci : (c : Int) < (r : Int) := by omega
          have hc64 : c ≤ 64 := by omega
          obtain ⟨t0, hgW⟩ := Hcf.out W2 HB2.out
          have Hgl : Hid (g < W2.heap.size) := Nat.lt_of_lt_of_le hgW HB2.out.size
          have T0 := Lib.hid t0
          obtain ⟨u, hu⟩ : ∃ u, valV m (pre ++ [(c : Int)]) k (k + 1) = u := ⟨_, rfl⟩
          have hV := fun a cp X hX => HV.out pre c k Hpl.out Hgo.out.2.1 hc64 HPb.out a cp X hX
          have hft := Hfit.out pre k c fi Hpl.out
          rw [hu] at hV hft
          have HVk := Lib.hid hV
          have hps : pickN m pre k fi = if (u == fi) = true then some c else pickF (fitB m pre k fi) (r - (c + 1)) (c + 1) := by
            rw [HP.out, ← hft]
            obtain ⟨d, hd⟩ : ∃ d, r - c = d + 1 := ⟨r - (c + 1), by omega⟩
            rw [hd, show r - (c + 1) = d by omega]
            rfl
          have Hps := Lib.hid hps
          have Hc1 := Lib.hid (show c + 1 ≤ r ∧ c < r by omega)
          have hne : ((c : Int) == (r : Int)) = false := by rw [beq_eq_false_iff_ne]; omega
          have Hne := Lib.hid hne
          clear t0 hgW hu hV hft hps hcl hcr hne HP
          go_wp2_with fail
          refine (HRk.out _).mono ?_
          rintro e w5 ⟨rfl, hw⟩
          subst w5
          have HO9 : Hid (W2.ownsRow W2.heap.size 3 1 (.slice none 0 0) k (intL pre)) := by
            unfold Hid
            rw [H0.out, Hp0.out]
            exact World.ownsRow_nil _ _ _ _
          have HB9 : Hid (Below W2.heap.size W2 W2) := Below.refl _ _
          go_wp2
          have hlt4 := HO9.out.lt
          have t9 : W2.cell? ⟨g, k, none⟩ = some (.int .i64 fi) := (HB9.out.cell (p := ⟨g, k, none⟩) Hgl.out).trans T0.out
          have T9 := Lib.hid t9
          have hfar : ∀ (wy : World) (o : Obj) (p : Addr) (v : Value), (W2.alloc o).drew.grownBy wy (Value.ownBlock (.slice none 0 0)) → W2.cell? p = some v → p.block < W2.heap.size → wy.cell? p = some v := fun wy o p v hg hp hne =>
            hg.cell (((below_alloc W2 o).drew.cell (World.block_lt_of_cell? _ _ hp)).trans hp) (fun e => by have := hlt4 _ e.symm; omega)
          have Hfar := Lib.hid hfar
          have HOa := Lib.hid (HO9.out.alloc (.cells #[.int .i64 (c : Int)] 3))
          have HN1 := Lib.hid (one_new W2 (.int .i64 (c : Int)) 3 _ rfl)
          have HBs : Hid (W2.heap.size ≤ (W2.alloc (.cells #[.int .i64 (c : Int)] 3)).drew.heap.size) := Nat.le_trans HB9.out.size (by show W2.heap.size ≤ (W2.alloc _).heap.size; simp)
          obtain ⟨b, hb⟩ : ∃ b, (u == fi) = b := ⟨_, rfl⟩
          have hkm : (k : Int) < (m : Int) := hc
          have hk64' : k ≤ 64 := Hgo.out.2.2
          clear hlt4 hfar
          go_region_held3 (fun w' => w'.cell? ⟨g, k, none⟩ = some (.int .i64 fi))
            (first | exact t9 | exact Hfar.out _ _ _ _ hgr9 T9.out Hgl.out | (show wz.cell? _ = _; exact Hfar.out _ _ _ _ hgr9 T9.out Hgl.out) | exact ((below_alloc W2 _).drew.cell (World.block_lt_of_cell? _ _ T9.out)).trans T9.out)
            (first
              | (refine step_append_lies _ rfl _ _ 22 rfl W2.heap.size 3 i0 (.int .i64 0) 1 8 Try.underlying22 hi hz0 hz1 hz2 rfl (by decide) _ k (intL pre) rfl HOa.out ⟨W2.heap.size, 0, none⟩ 1 1 [.int .i64 (c : Int)] rfl rfl HN1.out (by simp [Value.oneCell']) (by omega) (by unfold maxLen; omega) (by omega) HBs.out _ rfl ?_; intro g9 c9' wz hown9 hgr9 _ _)
              | (go_at_call 83; refine (HVk.out _ _ _ (row_snoc hown9)).mono ?_; rintro e w6 ⟨rfl, q6, rfl⟩))
          have HBX : Hid (Below W2.heap.size W2 (wz.drewN q6)) := below_drewN ((HB9.out.trans (((below_alloc W2 _).drew).mono HB9.out.size)).grown hgr9 HBs.out (fun q e => (HO9.out.lt q e).1)) q6
          generalize wz.drewN q6 = X at *
          have HOX := Lib.hid (own_later HO2.out HBX.out)
          have Hb := Lib.hid hb
          have HBA := Lib.hid (b_next (b_next HB.out HB2.out) HBX.out)
          have HBL := Lib.hid (b_next HB2.out HBX.out)
          clear hgr9 hown9 HOa HN1 HBs t9 T9 T0 HB9 HO9 hb HVk Hcf Hfar
          cases b with
          | true =>
            have hpk : formS m (fun x => xs.getD x 0) (k + 1) = some (pre ++ [(c : Int)]) := by
              rw [Hst2.out, Hps.out, if_pos Hb.out]; rfl
            have Hpk := Lib.hid hpk
            have HPb2 : Hid (∀ x ∈ pre ++ [(c : Int)], 0 ≤ x ∧ x ≤ 64) := fun x hx => by
              rcases List.mem_append.1 hx with h | h
              · exact HPb.out x h
              · rw [List.mem_singleton] at h; omega
            clear hpk
            go_wp2_with fail
            refine (HRk.out _).mono ?_
            rintro e w5 ⟨rfl, hw⟩
            subst w5
            have hne := Hne.out
            have hk64'' : k ≤ 64 := Hgo.out.2.2
            go_wp2_with (at_builtin; refine wpList_append_own _ rfl _ _ 22 rfl w.heap.size 3 i0 (.int .i64 0) 1 8 Try.underlying22 hi hz0 hz1 hz2 rfl (by decide) _ _ _ rfl (HOX.out.alloc (.cells #[.int .i64 (c : Int)] 3)) ⟨_, 0, none⟩ 1 1 [.int .i64 (c : Int)] rfl rfl (one_new _ _ _ _ (by simp)) (by simp [Value.oneCell']) (by unfold maxLen; omega) (by omega) (by have := HBA.out.size; simp; omega) ?_; intro v2 w8 hown2 hgrow2 _
                         have HB6 : Hid (Below w.heap.size w w8) := rel_push HBA.out (by have := HBA.out.size; simp; omega) ((Below.refl _ _).alloc HBA.out.size _) HOX.out hgrow2
                         have HO6 := Lib.hid hown2
                         clear hown2 hgrow2)
            go_roundw
            case rel =>
              refine ⟨k + 1, pre ++ [(c : Int)], Hgo.out.1, by go_num, by rw [List.length_append, Hpl.out]; rfl, Hpk.out, HPb2.out, fun h => by omega, ?_, HB6⟩
              unfold Hid intL
              rw [List.map_append]
              exact HO6.out
            case measure => exact mz_upn Hgo.out.2.1
          | false =>
            have hpk : pickN m pre k fi = pickF (fitB m pre k fi) (r - (c + 1)) (c + 1) := by
              rw [Hps.out, if_neg (by rw [Hb.out]; simp)]
            have HP2 := Lib.hid hpk
            clear hpk
            go_wp2
            go_roundw
            case rel => exact ⟨c + 1, Hc1.out.1, by go_num, HP2, HBL⟩
            case measure => exact mz_upn Hc1.out.2
        · obtain rfl : c = r := by omega
          have hci : ¬ (c : Int) < (c : Int) := by omega
          have hcc : ((c : Int) == (c : Int)) = true := by simp
          have hno : formS m (fun x => xs.getD x 0) m = none := Hdead.out k Hgo.out.2.1 (by
            rw [Hst2.out, HP.out, Nat.sub_self]; rfl)
          have hFR := Hfull.out
          rw [hno] at hFR
          have HFR := Lib.hid hFR
          have HBe := Lib.hid (b_next HB.out HB2.out)
          clear hno hFR HP hcl hcr
          go_wp2_with fail
          refine (HRk.out _).mono ?_
          rintro e w5 ⟨rfl, hw⟩
          subst w5
          go_wp2_with fail
          refine (HRk.out _).mono ?_
          rintro e w5 ⟨rfl, hw⟩
          subst w5
          go_wp2
          go_ret2
          exact ⟨⟨fun l hl => by rw [HFR.out] at hl; simp at hl, fun _ => rfl⟩, HBe.out⟩
    · obtain ⟨g6, c6, rfl, hc6, hcm6, -, hr6⟩ := own_full HO.out (by omega)
      have R6 := Lib.hid hr6
      have H0 : Hid (0 < k) := Nat.pos_of_ne_zero h0
      have Hpl := Lib.hid hpl
      clear hr6 h0 hpl
      by_cases hlt : k < m
      · have hc : (k : Int) < (m : Int) := by omega
        obtain ⟨r, hrr⟩ : ∃ r, roomN m k = r := ⟨_, rfl⟩
        have hRk := fun W => HR.out k (by omega) W
        have hr64 := Hrl.out k
        obtain ⟨fi, hfi⟩ : ∃ fi, xs.getD k 0 = fi := ⟨_, rfl⟩
        have hpk := Hpk.out pre k fi
        have hst := Hst.out k pre HS.out
        rw [hrr] at hRk hr64 hpk
        rw [hfi] at hst
        have hr100 : r ≤ 64 := by omega
        have Hcf : Hid (∀ X : World, Below W1.heap.size W1 X → X.cell? ⟨g, k, none⟩ = some (.int .i64 fi) ∧ g < W1.heap.size) := fun X hX => by
          obtain ⟨g', e1, x1⟩ := ((Hr.out.below HB.out).below hX).int hlt
          simp only [Option.some.injEq, Addr.mk.injEq, and_true] at e1
          subst e1
          obtain ⟨g', e1, x2⟩ := (Hr.out.below HB.out).int hlt
          simp only [Option.some.injEq, Addr.mk.injEq, and_true] at e1
          subst e1
          rw [hfi] at x1
          exact ⟨x1, World.block_lt_of_cell? _ _ x2⟩
        have HRk := Lib.hid hRk
        have Hpk0 := Lib.hid hpk
        have Hst2 := Lib.hid hst
        have Hgo := Lib.hid (show k + 1 ≤ m ∧ k < m ∧ k ≤ 64 by omega)
        clear hRk hpk hst hrr hfi hr64 hlt hk
        go_wp2
        go_loopw [8] (fun c wr => ∃ c0 : Nat, c0 ≤ r ∧ c = .int .i64 c0 ∧ Hid (pickN m pre k fi = pickF (fitB m pre k fi) (r - c0) c0) ∧ Hid (Below W1.heap.size W1 wr)) (fun c _ => r - (intOf c).toNat)
        case atStart => exact ⟨0, Nat.zero_le _, rfl, Hpk0.out, Below.refl _ _⟩
        case round =>
          obtain ⟨c, hcr, rfl, HP, HB2⟩ := hrel
          generalize wr = W2 at *
          have HO2 := Lib.hid (own_later HO.out HB2.out)
          by_cases hcl : c < r
          · have hci : (c : Int) < (r : Int) := by omega
            have hc64 : c ≤ 64 := by omega
            obtain ⟨t0, hgW⟩ := Hcf.out W2 HB2.out
            have Hgl : Hid (g < W2.heap.size) := Nat.lt_of_lt_of_le hgW HB2.out.size
            have T0 := Lib.hid t0
            obtain ⟨u, hu⟩ : ∃ u, valV m (pre ++ [(c : Int)]) k (k + 1) = u := ⟨_, rfl⟩
            have hV := fun a cp X hX => HV.out pre c k Hpl.out Hgo.out.2.1 hc64 HPb.out a cp X hX
            have hft := Hfit.out pre k c fi Hpl.out
            rw [hu] at hV hft
            have HVk := Lib.hid hV
            have hps : pickN m pre k fi = if (u == fi) = true then some c else pickF (fitB m pre k fi) (r - (c + 1)) (c + 1) := by
              rw [HP.out, ← hft]
              obtain ⟨d, hd⟩ : ∃ d, r - c = d + 1 := ⟨r - (c + 1), by omega⟩
              rw [hd, show r - (c + 1) = d by omega]
              rfl
            have Hps := Lib.hid hps
            have Hc1 := Lib.hid (show c + 1 ≤ r ∧ c < r by omega)
            have hne : ((c : Int) == (r : Int)) = false := by rw [beq_eq_false_iff_ne]; omega
            have Hne := Lib.hid hne
            clear t0 hgW hu hV hft hps hcl hcr hne HP
            go_wp2_with fail
            refine (HRk.out _).mono ?_
            rintro e w5 ⟨rfl, hw⟩
            subst w5
            have hnews : ∀ j u, (intL pre)[j]? = some u → W2.cell? ((⟨g6, 0, none⟩ : Addr).add j) = some u := by
              intro j u hu
              obtain ⟨g9, h9, _, h8⟩ := (R6.out.below HB2.out).2 H0.out
              simp only [Option.some.injEq, Addr.mk.injEq, and_true] at h9
              rw [addr_add, Nat.zero_add, h9]
              exact h8 j u hu
            have hlen1 : (intL pre).length = k * 1 := by rw [intL_length, Hpl.out, Nat.mul_one]
            have hone : ∀ u ∈ intL pre, u.oneCell' = true := by
              intro u hu
              obtain ⟨x, _, rfl⟩ := List.mem_map.1 hu
              simp [Value.oneCell']
            have HNw := Lib.hid hnews
            have HLn1 := Lib.hid hlen1
            have HOn := Lib.hid hone
            have hk64 : k ≤ 64 := Hgo.out.2.2
            clear hnews hlen1 hone
            go_wp2_with (at_builtin; refine wpList_append_own _ rfl _ _ 22 rfl W2.heap.size 3 i0 (.int .i64 0) 1 8 Try.underlying22 hi hz0 hz1 hz2 rfl (by decide) _ _ _ rfl (World.ownsRow_nil _ _ _ _) ⟨g6, 0, none⟩ k c6 (intL pre) rfl HLn1.out HNw.out HOn.out (by unfold maxLen; omega) (by omega) (Nat.le_refl _) ?_; intro v1 w9 hown1 hgrow1 _
                         rw [Nat.zero_add, List.nil_append] at hown1
                         have hg5 : W2.grownBy w9 none := hgrow1
                         have HB9 : Hid (Below W2.heap.size W2 w9) := ⟨hg5.os, hg5.tape, hg5.output, hg5.size, fun j hj => hg5.block j hj (by simp)⟩
                         obtain ⟨a9, c9, hv9, -⟩ := Row.of_own hown1
                         subst hv9
                         have HO9 := Lib.hid hown1
                         clear hown1 hgrow1 hg5)
            have hlt4 := HO9.out.lt
            have t9 : w9.cell? ⟨g, k, none⟩ = some (.int .i64 fi) := (HB9.out.cell (p := ⟨g, k, none⟩) Hgl.out).trans T0.out
            have T9 := Lib.hid t9
            have hfar : ∀ (wy : World) (o : Obj) (p : Addr) (v : Value), (w9.alloc o).drew.grownBy wy (Value.ownBlock (.slice a9 k c9)) → w9.cell? p = some v → p.block < W2.heap.size → wy.cell? p = some v := fun wy o p v hg hp hne =>
              hg.cell (((below_alloc w9 o).drew.cell (World.block_lt_of_cell? _ _ hp)).trans hp) (fun e => by have := hlt4 _ e.symm; omega)
            have Hfar := Lib.hid hfar
            have HOa := Lib.hid (HO9.out.alloc (.cells #[.int .i64 (c : Int)] 3))
            have HN1 := Lib.hid (one_new w9 (.int .i64 (c : Int)) 3 _ rfl)
            have HBs : Hid (W2.heap.size ≤ (w9.alloc (.cells #[.int .i64 (c : Int)] 3)).drew.heap.size) := Nat.le_trans HB9.out.size (by show w9.heap.size ≤ (w9.alloc _).heap.size; simp)
            obtain ⟨b, hb⟩ : ∃ b, (u == fi) = b := ⟨_, rfl⟩
            have hkm : (k : Int) < (m : Int) := hc
            have hk64' : k ≤ 64 := Hgo.out.2.2
            clear hlt4 hfar
            go_region_held3 (fun w' => w'.cell? ⟨g, k, none⟩ = some (.int .i64 fi))
              (first | exact t9 | exact Hfar.out _ _ _ _ hgr9 T9.out Hgl.out | (show wz.cell? _ = _; exact Hfar.out _ _ _ _ hgr9 T9.out Hgl.out) | exact ((below_alloc w9 _).drew.cell (World.block_lt_of_cell? _ _ T9.out)).trans T9.out)
              (first
                | (refine step_append_lies _ rfl _ _ 22 rfl W2.heap.size 3 i0 (.int .i64 0) 1 8 Try.underlying22 hi hz0 hz1 hz2 rfl (by decide) _ k (intL pre) rfl HOa.out ⟨w9.heap.size, 0, none⟩ 1 1 [.int .i64 (c : Int)] rfl rfl HN1.out (by simp [Value.oneCell']) (by omega) (by unfold maxLen; omega) (by omega) HBs.out _ rfl ?_; intro g9 c9' wz hown9 hgr9 _ _)
                | (go_at_call 83; refine (HVk.out _ _ _ (row_snoc hown9)).mono ?_; rintro e w6 ⟨rfl, q6, rfl⟩))
            have HBX : Hid (Below W2.heap.size W2 (wz.drewN q6)) := below_drewN ((HB9.out.trans (((below_alloc w9 _).drew).mono HB9.out.size)).grown hgr9 HBs.out (fun q e => (HO9.out.lt q e).1)) q6
            generalize wz.drewN q6 = X at *
            have HOX := Lib.hid (own_later HO2.out HBX.out)
            have Hb := Lib.hid hb
            have HBA := Lib.hid (b_next (b_next HB.out HB2.out) HBX.out)
            have HBL := Lib.hid (b_next HB2.out HBX.out)
            clear hgr9 hown9 HOa HN1 HBs t9 T9 T0 HB9 HO9 hb HVk Hcf Hfar
            cases b with
            | true =>
              have hpk : formS m (fun x => xs.getD x 0) (k + 1) = some (pre ++ [(c : Int)]) := by
                rw [Hst2.out, Hps.out, if_pos Hb.out]; rfl
              have Hpk := Lib.hid hpk
              have HPb2 : Hid (∀ x ∈ pre ++ [(c : Int)], 0 ≤ x ∧ x ≤ 64) := fun x hx => by
                rcases List.mem_append.1 hx with h | h
                · exact HPb.out x h
                · rw [List.mem_singleton] at h; omega
              clear hpk
              go_wp2_with fail
              refine (HRk.out _).mono ?_
              rintro e w5 ⟨rfl, hw⟩
              subst w5
              have hne := Hne.out
              have hk64'' : k ≤ 64 := Hgo.out.2.2
              go_wp2_with (at_builtin; refine wpList_append_own _ rfl _ _ 22 rfl w.heap.size 3 i0 (.int .i64 0) 1 8 Try.underlying22 hi hz0 hz1 hz2 rfl (by decide) _ _ _ rfl (HOX.out.alloc (.cells #[.int .i64 (c : Int)] 3)) ⟨_, 0, none⟩ 1 1 [.int .i64 (c : Int)] rfl rfl (one_new _ _ _ _ (by simp)) (by simp [Value.oneCell']) (by unfold maxLen; omega) (by omega) (by have := HBA.out.size; simp; omega) ?_; intro v2 w8 hown2 hgrow2 _
                           have HB6 : Hid (Below w.heap.size w w8) := rel_push HBA.out (by have := HBA.out.size; simp; omega) ((Below.refl _ _).alloc HBA.out.size _) HOX.out hgrow2
                           have HO6 := Lib.hid hown2
                           clear hown2 hgrow2)
              go_roundw
              case rel =>
                refine ⟨k + 1, pre ++ [(c : Int)], Hgo.out.1, by go_num, by rw [List.length_append, Hpl.out]; rfl, Hpk.out, HPb2.out, fun h => by omega, ?_, HB6⟩
                unfold Hid intL
                rw [List.map_append]
                exact HO6.out
              case measure => exact mz_upn Hgo.out.2.1
            | false =>
              have hpk : pickN m pre k fi = pickF (fitB m pre k fi) (r - (c + 1)) (c + 1) := by
                rw [Hps.out, if_neg (by rw [Hb.out]; simp)]
              have HP2 := Lib.hid hpk
              clear hpk
              go_wp2
              go_roundw
              case rel => exact ⟨c + 1, Hc1.out.1, by go_num, HP2, HBL⟩
              case measure => exact mz_upn Hc1.out.2
          · obtain rfl : c = r := by omega
            have hci : ¬ (c : Int) < (c : Int) := by omega
            have hcc : ((c : Int) == (c : Int)) = true := by simp
            have hno : formS m (fun x => xs.getD x 0) m = none := Hdead.out k Hgo.out.2.1 (by
              rw [Hst2.out, HP.out, Nat.sub_self]; rfl)
            have hFR := Hfull.out
            rw [hno] at hFR
            have HFR := Lib.hid hFR
            have HBe := Lib.hid (b_next HB.out HB2.out)
            clear hno hFR HP hcl hcr
            go_wp2_with fail
            refine (HRk.out _).mono ?_
            rintro e w5 ⟨rfl, hw⟩
            subst w5
            go_wp2_with fail
            refine (HRk.out _).mono ?_
            rintro e w5 ⟨rfl, hw⟩
            subst w5
            go_wp2
            go_ret2
            exact ⟨⟨fun l hl => by rw [HFR.out] at hl; simp at hl, fun _ => rfl⟩, HBe.out⟩
      · obtain rfl : k = m := by omega
        have hc : ¬ (k : Int) < (k : Int) := by omega
        have hFR := Hfull.out
        rw [HS.out, Option.map_some] at hFR
        have HFR := Lib.hid hFR
        clear hFR HO HZ HPb
        have hk1 : 1 ≤ k := by omega
        go_wp2
        go_loopw [10] (fun n wr => ∃ j : Nat, j ≤ k ∧ n = .int .i64 j ∧ Hid (trimZ (pre.take j) = trimZ pre) ∧ wr = W1) (fun n _ => (intOf n).toNat)
        case atStart => exact ⟨k, Nat.le_refl _, rfl, by unfold Hid; rw [List.take_of_length_le (by rw [Hpl.out]; exact Nat.le_refl _)], rfl⟩
        case round =>
          obtain ⟨j, hj, rfl, HT, hw⟩ := hrel
          subst wr
          by_cases hj0 : j = 0
          · subst hj0
            have hsl := fun W => slice_toI g6 k c6 0 (Nat.zero_le _) W
            have ht := HT.out
            rw [List.take_zero, trimZ_nil] at ht
            have HR9 := Lib.hid (row_take R6.out (Nat.zero_le k) (by omega))
            have Ht := Lib.hid ht
            clear ht
            go_wp2
            go_ret2
            refine ⟨⟨fun l hl => ?_, fun hn => by rw [HFR.out] at hn; simp at hn⟩, HB.out⟩
            rw [HFR.out, ← Ht.out, Option.some.injEq] at hl
            subst hl
            exact ⟨g6, c6, rfl, HR9.out⟩
          · obtain ⟨j1, hj1⟩ : ∃ j1, j = j1 + 1 := ⟨j - 1, by omega⟩
            obtain ⟨g', e1, cx⟩ := R6.out.int (show j1 < k by omega)
            simp only [Option.some.injEq, Addr.mk.injEq, and_true] at e1
            subst e1
            have hlp := Hpl.out
            obtain ⟨x, hx⟩ : ∃ x, pre[j1]? = some x := ⟨_, List.getElem?_eq_getElem (by omega)⟩
            have hgx : pre.getD j1 0 = x := by rw [List.getD_eq_getElem?_getD, hx]; rfl
            rw [hgx] at cx
            have hTk : pre.take j = pre.take j1 ++ [x] := by rw [hj1, List.take_add_one, hx]; rfl
            have hts := trimZ_snoc (pre.take j1) x
            rw [← hTk, HT.out] at hts
            have Hts := Lib.hid hts
            have HTk := Lib.hid hTk
            have hsl := fun W => slice_toI g6 k c6 j (by omega) W
            have n1 : IntKind.i64.wrap ((j : Int) - 1) = (j1 : Int) := by rw [IntWalk.i64_in _ (by omega)]; omega
            have n2 : wrap64 ((j : Int) - 1) = (j1 : Int) := by rw [IntWalk.wrap64_in _ (by omega)]; omega
            have n3 : (j : Int) > 0 := by omega
            have n4 : (0 : Int) < (j : Int) := by omega
            have n5 : (j1 : Int) < (k : Int) := by omega
            have n6 : decide (0 < j) = true := decide_eq_true (by omega)
            have n7 : 0 < j := by omega
            have Hj1 := Lib.hid (show j = j1 + 1 ∧ j1 ≤ k ∧ j ≤ k by omega)
            clear hlp hx hgx hTk hts HT hj1 hj0
            by_cases hx0 : x = 0
            · have ht := Hts.out
              rw [if_pos hx0] at ht
              have HT2 : Hid (trimZ (pre.take j1) = trimZ pre) := ht.symm
              clear ht Hts hsl
              subst hx0
              go_wp2
              go_roundw
              case rel => exact ⟨j1, Hj1.out.2.1, rfl, HT2, trivial⟩
              case measure => simp [intOf]; have := Hj1.out; omega
            · have h1 : (x == 0) = false := by rw [beq_eq_false_iff_ne]; exact hx0
              have ht := Hts.out
              rw [if_neg hx0] at ht
              have HR9 := Lib.hid (row_take R6.out Hj1.out.2.2 (by omega))
              have hlj : (pre.take j).length = j := by rw [List.length_take, Hpl.out]; have := Hj1.out; omega
              have Ht := Lib.hid ht
              have Hlj := Lib.hid hlj
              clear ht hlj Hts hx0
              go_wp2
              go_ret2
              refine ⟨⟨fun l hl => ?_, fun hn => by rw [HFR.out] at hn; simp at hn⟩, HB.out⟩
              rw [HFR.out, Ht.out, Option.some.injEq] at hl
              subst hl
              exact ⟨g6, c6, by rw [Hlj.out]; rfl, by rw [Hlj.out]; exact HR9.out⟩
end Go.Proofs.Ytndbjojjaapeaaa

/- Cycles of a permutation: mathematics. -/
namespace Go.Proofs.Ytndbjojjaapeaaa
set_option linter.unusedVariables false
open Go.RowKit

/-- a function applied again and again -/
def itN (f : Nat → Nat) : Nat → Nat → Nat
  | 0, x => x
  | j + 1, x => f (itN f j x)
structure PermF (f : Nat → Nat) (m : Nat) : Prop where
  lt : ∀ x, x < m → f x < m
  inj : ∀ x y, x < m → y < m → f x = f y → x = y
theorem itN_lt {f : Nat → Nat} {m : Nat} (h : PermF f m) {x : Nat} (hx : x < m) : ∀ j, itN f j x < m
  | 0 => hx
  | j + 1 => h.lt _ (itN_lt h hx j)
theorem itN_add (f : Nat → Nat) (x : Nat) : ∀ a b, itN f (a + b) x = itN f a (itN f b x)
  | 0, b => by rw [Nat.zero_add]; rfl
  | a + 1, b => by
    rw [show a + 1 + b = (a + b) + 1 by omega]
    show f (itN f (a + b) x) = f (itN f a (itN f b x))
    rw [itN_add f x a b]
theorem itN_inj {f : Nat → Nat} {m : Nat} (h : PermF f m) {x y : Nat} (hx : x < m) (hy : y < m) : ∀ j, itN f j x = itN f j y → x = y
  | 0, e => e
  | j + 1, e => itN_inj h hx hy j (h.inj _ _ (itN_lt h hx j) (itN_lt h hy j) e)
theorem nodup_le : ∀ (n : Nat) (l : List Nat), l.Nodup → (∀ x ∈ l, x < n) → l.length ≤ n
  | 0, [], _, _ => Nat.le_refl _
  | 0, x :: l, _, h => absurd (h x (by simp)) (by omega)
  | n + 1, l, hn, h => by
    have h1 := nodup_le n (l.erase n) (hn.erase n) fun x hx => by
      have := h x (List.mem_of_mem_erase hx)
      have hne : x ≠ n := fun e => by
        subst e
        exact (List.Nodup.mem_erase_iff hn).1 hx |>.1 rfl
      omega
    have h2 := List.length_erase_le (a := n) (l := l)
    by_cases hm : n ∈ l
    · rw [List.length_erase_of_mem hm] at h1
      omega
    · rw [List.erase_of_not_mem hm] at h1
      omega
theorem repeat_of {f : Nat → Nat} {m : Nat} (h : PermF f m) {x : Nat} (hx : x < m) : ∃ n, 1 ≤ n ∧ n ≤ m ∧ itN f n x = x := by
  refine Classical.byContradiction fun hno => ?_
  have hne : ∀ n, 1 ≤ n → n ≤ m → itN f n x ≠ x := fun n h1 h2 e => hno ⟨n, h1, h2, e⟩
  have hd : ((List.range (m + 1)).map fun j => itN f j x).Nodup := by
    rw [List.Nodup, List.pairwise_map]
    refine List.Pairwise.imp_of_mem ?_ List.pairwise_lt_range
    intro i j hi hj hij e
    have hj2 := List.mem_range.1 hj
    have e2 : itN f i x = itN f i (itN f (j - i) x) := by
      rw [← itN_add, show i + (j - i) = j by omega]; exact e
    exact hne (j - i) (by omega) (by omega) (itN_inj h hx (itN_lt h hx _) i e2).symm
  have := nodup_le m _ hd fun y hy => by
    obtain ⟨j, _, rfl⟩ := List.mem_map.1 hy
    exact itN_lt h hx j
  rw [List.length_map, List.length_range] at this
  omega
/-- the first one from j on of the numbers after which x is given back -/
def perF (f : Nat → Nat) (x : Nat) : Nat → Nat → Nat
  | 0, j => j
  | r + 1, j => if itN f j x = x then j else perF f x r (j + 1)
def perN (f : Nat → Nat) (m x : Nat) : Nat := perF f x m 1
theorem perF_is (f : Nat → Nat) (x n : Nat) : ∀ (r j : Nat), j ≤ n → n ≤ j + r → itN f n x = x → j ≤ perF f x r j ∧ perF f x r j ≤ n ∧ itN f (perF f x r j) x = x ∧ ∀ i, j ≤ i → i < perF f x r j → itN f i x ≠ x
  | 0, j, h1, h2, h3 => by
    obtain rfl : n = j := by omega
    exact ⟨Nat.le_refl _, Nat.le_refl _, h3, fun i a b => by unfold perF at b; omega⟩
  | r + 1, j, h1, h2, h3 => by
    unfold perF
    by_cases h : itN f j x = x
    · rw [if_pos h]
      exact ⟨Nat.le_refl _, h1, h, fun i a b => by omega⟩
    · rw [if_neg h]
      have hjn : j ≠ n := fun e => h (e ▸ h3)
      obtain ⟨k1, k2, k3, k4⟩ := perF_is f x n r (j + 1) (by omega) (by omega) h3
      refine ⟨by omega, k2, k3, fun i a b => ?_⟩
      by_cases e : i = j
      · subst e; exact h
      · exact k4 i (by omega) b
theorem per_facts {f : Nat → Nat} {m : Nat} (h : PermF f m) {x : Nat} (hx : x < m) : 1 ≤ perN f m x ∧ perN f m x ≤ m ∧ itN f (perN f m x) x = x ∧ ∀ i, 1 ≤ i → i < perN f m x → itN f i x ≠ x := by
  obtain ⟨n, h1, h2, h3⟩ := repeat_of h hx
  obtain ⟨k1, k2, k3, k4⟩ := perF_is f x n m 1 h1 (by omega) h3
  exact ⟨k1, Nat.le_trans k2 h2, k3, k4⟩
theorem per_uniq {f : Nat → Nat} {m : Nat} (h : PermF f m) {x n : Nat} (hx : x < m) (h1 : 1 ≤ n) (h3 : itN f n x = x) (h4 : ∀ i, 1 ≤ i → i < n → itN f i x ≠ x) : perN f m x = n := by
  obtain ⟨k1, k2, k3, k4⟩ := per_facts h hx
  rcases Nat.lt_trichotomy (perN f m x) n with e | e | e
  · exact absurd k3 (h4 _ k1 e)
  · exact e
  · exact absurd h3 (k4 n h1 e)
theorem per_distinct {f : Nat → Nat} {m : Nat} (h : PermF f m) {x i j : Nat} (hx : x < m) (hij : i < j) (hj : j < perN f m x) : itN f i x ≠ itN f j x := fun e => by
  have e2 : itN f i x = itN f i (itN f (j - i) x) := by
    rw [← itN_add, show i + (j - i) = j by omega]; exact e
  exact (per_facts h hx).2.2.2 (j - i) (by omega) (by omega) (itN_inj h hx (itN_lt h hx _) i e2).symm
theorem per_orbit {f : Nat → Nat} {m : Nat} (h : PermF f m) {x : Nat} (hx : x < m) (j : Nat) : perN f m (itN f j x) = perN f m x := by
  obtain ⟨k1, k2, k3, k4⟩ := per_facts h hx
  refine per_uniq h (itN_lt h hx j) k1 ?_ fun i a b e => k4 i a b ?_
  · rw [← itN_add, Nat.add_comm, itN_add, k3]
  · rw [← itN_add, Nat.add_comm, itN_add] at e
    exact itN_inj h (itN_lt h hx i) hx j e
/-- how many numbers below m have a property -/
def cntN (p : Nat → Bool) : Nat → Nat
  | 0 => 0
  | k + 1 => cntN p k + if p k then 1 else 0
theorem cntN_congr {p q : Nat → Bool} : ∀ m, (∀ x, x < m → p x = q x) → cntN p m = cntN q m
  | 0, _ => rfl
  | k + 1, h => by
    show cntN p k + _ = cntN q k + _
    rw [cntN_congr k (fun x hx => h x (by omega)), h k (by omega)]
theorem cntN_none {p : Nat → Bool} : ∀ m, (∀ x, x < m → p x = false) → cntN p m = 0
  | 0, _ => rfl
  | k + 1, h => by
    show cntN p k + _ = 0
    rw [cntN_none k (fun x hx => h x (by omega)), h k (by omega)]; rfl
theorem cntN_le (p : Nat → Bool) : ∀ m, cntN p m ≤ m
  | 0 => Nat.le_refl _
  | k + 1 => by
    show cntN p k + _ ≤ _
    have := cntN_le p k
    split <;> omega
theorem cntN_one {p q : Nat → Bool} {y : Nat} (hy : p y = false) (hq : ∀ x, x ≠ y → q x = p x) : ∀ m, cntN q m = cntN p m + if y < m ∧ q y = true then 1 else 0
  | 0 => by simp [cntN]
  | k + 1 => by
    have ih := cntN_one hy hq k
    show cntN q k + _ = cntN p k + _ + _
    rw [ih]
    by_cases e : k = y
    · subst e
      rw [hy]
      by_cases hk : q k = true
      · simp [hk]
      · simp [hk]
    · rw [hq k e]
      have hiff : (y < k ∧ q y = true) ↔ (y < k + 1 ∧ q y = true) := by
        constructor
        · rintro ⟨a, b⟩; exact ⟨by omega, b⟩
        · rintro ⟨a, b⟩; exact ⟨by omega, b⟩
      simp only [hiff]
      omega
/-- what has been seen, and how many cycles of each length: all cycles counted so far are whole -/
structure CInv (f : Nat → Nat) (m : Nat) (s : Nat → Bool) (c : Nat → Nat) : Prop where
  closed : ∀ y, y < m → s y = true → s (f y) = true
  count : ∀ n, cntN (fun z => s z && decide (perN f m z = n)) m = n * c n
/-- with the first j elements of the cycle of b -/
def addO (f : Nat → Nat) (s : Nat → Bool) (b j : Nat) (z : Nat) : Bool := s z || (List.range j).any fun i => decide (z = itN f i b)
theorem addO_zero (f : Nat → Nat) (s : Nat → Bool) (b : Nat) : addO f s b 0 = s := by funext z; simp [addO]
theorem addO_step (f : Nat → Nat) (s : Nat → Bool) (b j z : Nat) : addO f s b (j + 1) z = (addO f s b j z || decide (z = itN f j b)) := by
  unfold addO
  rw [List.range_succ, List.any_append, Bool.or_assoc]; simp
theorem not_seen {f : Nat → Nat} {m : Nat} {s : Nat → Bool} {c : Nat → Nat} (h : PermF f m) (hI : CInv f m s c) {b j : Nat} (hb : b < m) (hs : s b = false) (hj : j < perN f m b) : addO f s b j (itN f j b) = false := by
  obtain ⟨k1, k2, k3, k4⟩ := per_facts h hb
  have hcl : ∀ d, s (itN f j b) = true → s (itN f (d + j) b) = true := fun d => by
    induction d with
    | zero => intro e; rw [Nat.zero_add]; exact e
    | succ d ih =>
      intro e
      rw [show d + 1 + j = (d + j) + 1 by omega]
      exact hI.closed _ (itN_lt h hb _) (ih e)
  unfold addO
  rw [Bool.or_eq_false_iff]
  constructor
  · cases e : s (itN f j b) with
    | false => rfl
    | true =>
      have := hcl (perN f m b - j) e
      rw [show perN f m b - j + j = perN f m b by omega, k3, hs] at this
      cases this
  · rw [List.any_eq_false]
    intro i hi
    rw [List.mem_range] at hi
    simp only [decide_eq_true_eq]
    exact (per_distinct h hb hi hj).symm
theorem count_step {f : Nat → Nat} {m : Nat} {s : Nat → Bool} {c : Nat → Nat} (h : PermF f m) (hI : CInv f m s c) {b : Nat} (hb : b < m) (hs : s b = false) (n : Nat) : ∀ j, j ≤ perN f m b → cntN (fun z => addO f s b j z && decide (perN f m z = n)) m = n * c n + if n = perN f m b then j else 0
  | 0, _ => by
    rw [addO_zero, hI.count n]; simp
  | j + 1, hj => by
    have ih := count_step h hI hb hs n j (by omega)
    have hns := not_seen h hI hb hs (show j < perN f m b by omega)
    have hp := per_orbit h hb j
    rw [cntN_one (p := fun z => addO f s b j z && decide (perN f m z = n)) (y := itN f j b) (by simp only [hns, Bool.false_and]) (fun x hx => by
      simp only [addO_step]
      rw [decide_eq_false hx, Bool.or_false]) m, ih]
    have hlt := itN_lt h hb j
    have hq : (addO f s b (j + 1) (itN f j b) && decide (perN f m (itN f j b) = n)) = decide (perN f m b = n) := by
      rw [addO_step, decide_eq_true rfl, Bool.or_true, Bool.true_and, hp]
    simp only [hq, decide_eq_true_eq]
    by_cases e : n = perN f m b
    · rw [if_pos e, if_pos e, if_pos ⟨hlt, e.symm⟩]; omega
    · rw [if_neg e, if_neg e, if_neg (fun h => e h.2.symm)]
theorem orbit_end {f : Nat → Nat} {m : Nat} {s : Nat → Bool} {c : Nat → Nat} (h : PermF f m) {b : Nat} (hb : b < m) : addO f s b (perN f m b) (itN f (perN f m b) b) = true := by
  obtain ⟨k1, k2, k3, k4⟩ := per_facts h hb
  unfold addO
  rw [Bool.or_eq_true, List.any_eq_true]
  exact .inr ⟨0, List.mem_range.2 (by omega), decide_eq_true k3⟩
def bump (c : Nat → Nat) (n : Nat) : Nat → Nat := fun k => if k = n then c k + 1 else c k
theorem CInv.next {f : Nat → Nat} {m : Nat} {s : Nat → Bool} {c : Nat → Nat} (h : PermF f m) (hI : CInv f m s c) {b : Nat} (hb : b < m) (hs : s b = false) : CInv f m (addO f s b (perN f m b)) (bump c (perN f m b)) := by
  obtain ⟨k1, k2, k3, k4⟩ := per_facts h hb
  refine ⟨fun y hy hs2 => ?_, fun n => ?_⟩
  · unfold addO at hs2 ⊢
    rw [Bool.or_eq_true, List.any_eq_true] at hs2 ⊢
    rcases hs2 with h1 | ⟨i, hi, h1⟩
    · exact .inl (hI.closed y hy h1)
    · have h1 := of_decide_eq_true h1
      subst h1
      rw [List.mem_range] at hi
      by_cases e : i + 1 = perN f m b
      · refine .inr ⟨0, List.mem_range.2 (by omega), decide_eq_true ?_⟩
        show itN f (i + 1) b = b
        rw [e]; exact k3
      · exact .inr ⟨i + 1, List.mem_range.2 (by omega), decide_eq_true rfl⟩
  · rw [count_step h hI hb hs n _ (Nat.le_refl _)]
    unfold bump
    by_cases e : n = perN f m b
    · rw [if_pos e, if_pos e, Nat.mul_add, Nat.mul_one, e]
    · rw [if_neg e, if_neg e, Nat.add_zero]
theorem addO_keeps {f : Nat → Nat} {s : Nat → Bool} {b z : Nat} (j : Nat) (h : s z = true) : addO f s b j z = true := by unfold addO; rw [h]; rfl
theorem addO_self {f : Nat → Nat} {s : Nat → Bool} {b j : Nat} (hj : 1 ≤ j) : addO f s b j b = true := by
  unfold addO
  rw [Bool.or_eq_true, List.any_eq_true]
  exact .inr ⟨0, List.mem_range.2 (by omega), decide_eq_true rfl⟩
theorem CInv.zero (f : Nat → Nat) (m : Nat) : CInv f m (fun _ => false) (fun _ => 0) :=
  ⟨fun y hy h => by simp at h, fun n => by rw [cntN_none m (fun x _ => by simp)]; simp⟩
/-- how many elements lie in cycles of the length n -/
def manyN (f : Nat → Nat) (m n : Nat) : Nat := cntN (fun z => decide (perN f m z = n)) m
theorem CInv.all {f : Nat → Nat} {m : Nat} {s : Nat → Bool} {c : Nat → Nat} (hI : CInv f m s c) (hs : ∀ z, z < m → s z = true) (n : Nat) : manyN f m n = n * c n := by
  rw [← hI.count n]
  exact cntN_congr m fun z hz => by rw [hs z hz, Bool.true_and]
/-- how many cycles have the length n -/
def cycN (f : Nat → Nat) (m n : Nat) : Nat := manyN f m n / n
theorem CInv.cyc {f : Nat → Nat} {m : Nat} {s : Nat → Bool} {c : Nat → Nat} (hI : CInv f m s c) (hs : ∀ z, z < m → s z = true) {n : Nat} (hn : 1 ≤ n) : cycN f m n = c n := by
  unfold cycN
  rw [hI.all hs n, Nat.mul_div_cancel_left _ (by omega)]
end Go.Proofs.Ytndbjojjaapeaaa

/- Inverse. -/
namespace Go.Proofs.Ytndbjojjaapeaaa
set_option linter.unusedVariables false
open Go.RowKit

/-- the list as a function -/
def fnL (F : List Int) (x : Nat) : Nat := (F.getD x 0).toNat
theorem fnL_perm {F : List Int} {m : Nat} (hl : F.length = m) (hin : ∀ v ∈ F, 0 ≤ v ∧ v < m) (h : (equalR F).1 = -1) : PermF (fnL F) m ∧ ∀ x, x < m → F.getD x 0 = (fnL F x : Int) := by
  have hg : ∀ x, x < m → 0 ≤ F.getD x 0 ∧ F.getD x 0 < m := fun x hx => hin _ (by rw [List.getD_eq_getElem?_getD, List.getElem?_eq_getElem (by omega)]; exact List.getElem_mem _)
  have he : ∀ x, x < m → F.getD x 0 = (fnL F x : Int) := fun x hx => by
    have := hg x hx
    unfold fnL; omega
  rw [equal_none F hl] at h
  refine ⟨⟨fun x hx => by have := hg x hx; unfold fnL; omega, fun x y hx hy e => ?_⟩, he⟩
  have e2 : F.getD x 0 = F.getD y 0 := by rw [he x hx, he y hy, e]
  rcases Nat.lt_trichotomy x y with h1 | h1 | h1
  · exact absurd e2 (h x y h1 hy)
  · exact h1
  · exact absurd e2.symm (h y x h1 hx)
/-- the last x below k whose value is v -/
def invT (f : Nat → Nat) (v : Nat) : Nat → Nat
  | 0 => 0
  | k + 1 => if f k = v then k else invT f v k
theorem invT_succ (f : Nat → Nat) (v k : Nat) : invT f v (k + 1) = if f k = v then k else invT f v k := rfl
theorem invT_at {f : Nat → Nat} {m : Nat} (h : PermF f m) {x : Nat} (hx : x < m) : ∀ k, k ≤ m → x < k → invT f (f x) k = x
  | 0, _, h1 => by omega
  | k + 1, hk, h1 => by
    unfold invT
    by_cases e : f k = f x
    · rw [if_pos e]; exact h.inj _ _ (by omega) hx e
    · rw [if_neg e]
      exact invT_at h hx k (by omega) (by
        have : k ≠ x := fun e2 => e (by rw [e2])
        omega)
theorem invT_none {f : Nat → Nat} {v : Nat} : ∀ k, (∀ x, x < k → f x ≠ v) → invT f v k = 0
  | 0, _ => rfl
  | k + 1, h => by
    unfold invT
    rw [if_neg (h k (by omega))]
    exact invT_none k fun x hx => h x (by omega)
def invL (F : List Int) (m : Nat) : List Int := (List.range m).map fun v => ((invT (fnL F) v m : Nat) : Int)
def InvT (X : World) (B : Nat) (f : Nat → Nat) (k : Nat) : Prop := X.rowIs B 69 64 fun v => .int .i64 ((invT f v k : Nat) : Int)
theorem InvT.zero {X : World} {B : Nat} (f : Nat → Nat) (h : X.rowIs B 69 64 fun _ => .int .i64 0) : InvT X B f 0 := h
theorem InvT.next {X : World} {B k v : Nat} {f : Nat → Nat} (h : InvT X B f k) (hv : f k = v) : InvT (X.setCell ⟨B, v, none⟩ (.int .i64 (k : Int))) B f (k + 1) :=
  (h.set v (.int .i64 (k : Int))).congr fun j _ => by
    by_cases e : j = v
    · subst e; rw [if_pos rfl, invT_succ, if_pos hv]
    · rw [if_neg e, invT_succ, if_neg (fun e2 => e (by rw [← e2, hv]))]
theorem InvT.tb {X : World} {B m : Nat} {f : Nat → Nat} (h : InvT X B f m) (hf : ∀ x, x < m → f x < m) : Tb X B (fun v => ((invT f v m : Nat) : Int)) m :=
  World.rowIs.congr h fun j _ => by
    by_cases hj : j < m
    · rw [if_pos hj]
    · rw [if_neg hj, invT_none m fun x hx e => by have := hf x hx; omega]; rfl
theorem zero_start (w : World) (X : Array Value) (h : X = zeroA) : (w.alloc (.cells X 69)).rowIs w.heap.size 69 64 fun _ => .int .i64 0 := by
  subst h; exact zeros64 w
set_option maxRecDepth 100000 in
theorem isPerm_no (m : Int) (a : Option Addr) (n cap : Nat) (xs : List Int) (w : World) (hr : Row w a n (intL xs)) (hn : n ≤ 1000) (hp : funcB m xs = false) :
    Calls Try.prog 78 #[.int .i64 m, .slice a n cap] w fun e w' => e = .returned (.bool false) ∧ w' = w := by
  have h := isFunc_any m a n cap xs w hr hn
  rw [hp] at h
  have H := Lib.hid h
  clear h hr hp
  go_enter Try.func78, Try.ntmps78
  go_wp2_with fail
  refine H.out.mono ?_
  rintro e w1 ⟨rfl, hw⟩
  subst w1
  go_wp2
  go_ret
  exact ⟨rfl, rfl⟩
set_option maxRecDepth 100000 in
theorem isPerm_any (m : Nat) (g cap : Nat) (F : List Int) (w : World) (hr : Row w (some ⟨g, 0, none⟩) m (intL F)) (hcap : m ≤ cap) (hcm : cap ≤ 9223372036854775807) (hm : 2 ≤ m) (hm2 : m ≤ 64) (hin : ∀ v ∈ F, 0 ≤ v ∧ v < m) :
    Calls Try.prog 78 #[.int .i64 m, .slice (some ⟨g, 0, none⟩) m cap] w fun e w' => e = .returned (.bool (decide ((equalR F).1 < 0))) ∧ w' = w := by
  have hl : F.length = m := by have := hr.1; simpa [intL] using this
  have h := isFunc_any m (some ⟨g, 0, none⟩) m cap F w hr (by omega)
  rw [funcB_in hl hm hm2 hin] at h
  have hE := firstEqual_any g m cap F w hr (by omega) hcap hcm
  generalize (equalR F).1 = X1 at *
  generalize (equalR F).2 = X2 at *
  have H := Lib.hid h
  have HE := Lib.hid hE
  clear h hE hr hcap hcm hin hl
  go_enter Try.func78, Try.ntmps78
  go_wp2_with fail
  refine H.out.mono ?_
  rintro e w1 ⟨rfl, hw⟩
  subst w1
  go_wp2_with fail
  refine HE.out.mono ?_
  rintro e w1 ⟨rfl, hw⟩
  subst w1
  go_wp2
  go_ret
  exact ⟨rfl, rfl⟩
set_option maxRecDepth 100000 in
theorem Inverse_no (m : Int) (a : Option Addr) (n cap : Nat) (w : World) (h : Calls Try.prog 78 #[.int .i64 m, .slice a n cap] w fun e w' => e = .returned (.bool false) ∧ w' = w) :
    Calls Try.prog 33 #[.int .i64 m, .slice a n cap] w fun e w' => e = .returned (.tuple #[.slice none 0 0, .int .i64 2]) ∧ w' = w := by
  have H := Lib.hid h
  clear h
  go_enter Try.func33, Try.ntmps33
  go_wp2_with fail
  refine H.out.mono ?_
  rintro e w1 ⟨rfl, hw⟩
  subst w1
  go_wp2
  go_ret2
  exact ⟨rfl, rfl⟩
set_option maxRecDepth 100000 in
set_option maxHeartbeats 4000000 in
theorem Inverse_yes (m : Nat) (g cap : Nat) (F : List Int) (w : World) (hr : Row w (some ⟨g, 0, none⟩) m (intL F)) (hcap : m ≤ cap) (hcm : cap ≤ 9223372036854775807) (hm : 2 ≤ m) (hm2 : m ≤ 64) (hin : ∀ v ∈ F, 0 ≤ v ∧ v < m) (hp : (equalR F).1 = -1) :
    Calls Try.prog 33 #[.int .i64 m, .slice (some ⟨g, 0, none⟩) m cap] w fun e w' => ∃ v, e = .returned (.tuple #[v, .int .i64 0]) ∧ w'.ownsRow w.heap.size 3 1 v m (intL (invL F m)) ∧ Below w.heap.size w w' := by
  have hl : F.length = m := by have := hr.1; simpa [intL] using this
  obtain ⟨hP, hFx⟩ := fnL_perm hl hin hp
  have hI := isPerm_any m g cap F w hr hcap hcm hm hm2 hin
  rw [hp, show decide ((-1 : Int) < 0) = true from rfl] at hI
  have hLi := fun W => list_any m (fun v => ((invT (fnL F) v m : Nat) : Int)) W hm2
  have hTb := fun (X : World) (B : Nat) (h : InvT X B (fnL F) m) => h.tb hP.lt
  have hil : (List.range m).map (fun v => ((invT (fnL F) v m : Nat) : Int)) = invL F m := rfl
  rw [hil] at hLi
  obtain ⟨T, hT⟩ : ∃ T, tabA (fun v => ((invT (fnL F) v m : Nat) : Int)) m = T := ⟨_, rfl⟩
  have hTs : T.size = 64 := by rw [← hT]; exact tabA_size _ m
  have htc := fun (X : World) (B : Nat) (h : InvT X B (fnL F) m) => tb_cells (hTb X B h)
  rw [hT] at hLi htc
  have hlt := hP.lt
  generalize fnL F = f at *
  generalize invL F m = L at *
  have HI := Lib.hid hI
  have HLi := Lib.hid hLi
  have Htc := Lib.hid htc
  have HFx := Lib.hid hFx
  have Hlt := Lib.hid hlt
  have Hr := Lib.hid hr
  clear hI hLi htc hTb hFx hlt hr hP hin hp hil hT hl hcap hcm
  go_enter Try.func33, Try.ntmps33
  go_wp2_with fail
  refine HI.out.mono ?_
  rintro e w1 ⟨rfl, hw⟩
  subst w1
  go_wp2
  go_loopw [15] (fun i wr => ∃ k : Nat, k ≤ m ∧ i = .int .i64 k ∧ Hid (InvT wr w.heap.size f k) ∧ Hid (Below w.heap.size w wr)) (fun i _ => m - (intOf i).toNat)
  case atStart =>
    obtain ⟨z1, z2⟩ := zero_one w _ X64_zero
    exact ⟨0, Nat.zero_le _, rfl, InvT.zero f (zero_start w _ X64_zero), z1⟩
  case round =>
    obtain ⟨k, hk, rfl, HT, HB⟩ := hrel
    by_cases hlt : k < m
    · have hc : (k : Int) < (m : Int) := by omega
      obtain ⟨g', e1, x1⟩ := (Hr.out.below HB.out).int hlt
      simp only [Option.some.injEq, Addr.mk.injEq, and_true] at e1
      subst e1
      rw [HFx.out k hlt] at x1
      obtain ⟨v, hv⟩ : ∃ v, f k = v := ⟨_, rfl⟩
      have hvm : v < m := by rw [← hv]; exact Hlt.out k hlt
      rw [hv] at x1
      have hv64 : (v : Int) < 64 := by omega
      have hv64n : v < 64 := by omega
      have ck := HT.out.cell (i := v) hv64n
      have fk := World.rowIs.frozen HT.out v
      have HT2 := Lib.hid (HT.out.next hv)
      have HB2 := Lib.hid (HB.out.setCell (p := ⟨w.heap.size, v, none⟩) (Nat.le_refl _) (.int .i64 (k : Int)))
      have Hgo := Lib.hid (show k + 1 ≤ m ∧ k < m by omega)
      clear HT HB hv
      go_wp2
      go_roundw
      case rel => exact ⟨k + 1, Hgo.out.1, by go_num, HT2.out, HB2.out⟩
      case measure => simp [intOf]; have := Hgo.out; omega
    · obtain rfl : k = m := by omega
      have hc : ¬ (k : Int) < (k : Int) := by omega
      have hcs := Htc.out _ _ HT.out
      have Hcs := Lib.hid hcs
      clear HT hcs
      go_wp2_with (refine wpList_load_row (o := ⟨some 24, .load 69 (.tmp 6), _, _, _, _⟩) rfl 69 (.tmp 6) rfl w.heap.size rfl 69 T (0, 0) _ Hcs.out Try.underlying69 rfl (info_table T hTs) ?_)
      refine (HLi.out _).mono ?_
      rintro e w5 ⟨v5, rfl, o5, b5⟩
      have HO5 := Lib.hid (o5.mono HB.out.size)
      have HB5 := Lib.hid (b_next HB.out b5)
      clear o5 b5
      go_wp2
      go_ret2
      exact ⟨_, rfl, HO5.out, HB5.out⟩
end Go.Proofs.Ytndbjojjaapeaaa

/- countCycles: how many cycles of each length. -/
namespace Go.Proofs.Ytndbjojjaapeaaa
set_option linter.unusedVariables false
open Go.RowKit Go.Maps

/-- a map reads as the counts c -/
structure MapC (D : DataW Unit) (c : Nat → Nat) : Prop where
  map : IsMap D
  at' : ∀ n : Nat, D.atKey (.int .i64 (n : Int)) (.lit (.int .i64 0)) = .lit (.int .i64 (c n : Int))
  has : ∀ x : Int, Maps.has D (.int .i64 x) = true ↔ ∃ n : Nat, x = n ∧ 0 < c n
theorem MapC.zero : MapC (.map []) (fun _ => 0) :=
  ⟨⟨[], rfl⟩, fun n => rfl, fun x => ⟨fun h => by simp [Maps.has] at h, fun ⟨n, _, h⟩ => by omega⟩⟩
theorem MapC.put {D : DataW Unit} {c : Nat → Nat} (h : MapC D c) (n : Nat) : MapC (D.put (.int .i64 (n : Int)) (.lit (.int .i64 ((c n + 1 : Nat) : Int)))) (bump c n) := by
  have hk : WideAt.IsKeyLit (.int .i64 (n : Int)) := trivial
  refine ⟨h.map.put _ _, fun k => ?_, fun x => ?_⟩
  · unfold bump
    by_cases e : k = n
    · subst e; rw [if_pos rfl]; exact atKey_put_same h.map hk _ _
    · rw [if_neg e, atKey_put_other (fun e2 => e (Int.ofNat.inj (by simpa using e2)))]; exact h.at' k
  · by_cases e : x = (n : Int)
    · subst e
      rw [has_put_same h.map hk]
      exact ⟨fun _ => ⟨n, rfl, by unfold bump; rw [if_pos rfl]; omega⟩, fun _ => rfl⟩
    · rw [has_put_other (fun e2 => e (by simpa using e2)), h.has x]
      constructor
      · rintro ⟨k, rfl, hk⟩
        exact ⟨k, rfl, by unfold bump; rw [if_neg (fun e2 => e (by rw [e2]))]; exact hk⟩
      · rintro ⟨k, rfl, hk⟩
        unfold bump at hk
        rw [if_neg (fun e2 => e (by rw [e2]))] at hk
        exact ⟨k, rfl, hk⟩
abbrev XB64 : Array Value := #[.bool false, .bool false, .bool false, .bool false, .bool false, .bool false, .bool false, .bool false, .bool false, .bool false, .bool false, .bool false, .bool false, .bool false, .bool false, .bool false, .bool false, .bool false, .bool false, .bool false, .bool false, .bool false, .bool false, .bool false, .bool false, .bool false, .bool false, .bool false, .bool false, .bool false, .bool false, .bool false, .bool false, .bool false, .bool false, .bool false, .bool false, .bool false, .bool false, .bool false, .bool false, .bool false, .bool false, .bool false, .bool false, .bool false, .bool false, .bool false, .bool false, .bool false, .bool false, .bool false, .bool false, .bool false, .bool false, .bool false, .bool false, .bool false, .bool false, .bool false, .bool false, .bool false, .bool false, .bool false]
def falsB : Array Value := (List.replicate 64 (Value.bool false)).toArray
theorem XB64_eq : XB64 = falsB := rfl
theorem falsB_size : falsB.size = 64 := by unfold falsB; rw [List.size_toArray, List.length_replicate]
theorem falsB_get {i : Nat} (hi : i < 64) : falsB[i]? = some (.bool false) := by unfold falsB; rw [List.getElem?_toArray, List.getElem?_replicate, if_pos hi]
theorem bools64 (w : World) (X : Array Value) (h : X = falsB) (n : Nat) (hn : n = w.heap.size) : (w.alloc (.cells X 89)).rowIs n 89 64 fun _ => .bool false := by
  subst h hn
  have := World.rowIs_alloc w falsB 89 (fun _ => .bool false) (fun i hi => falsB_get (by rw [falsB_size] at hi; exact hi))
  rwa [falsB_size] at this
theorem zeroInt (w : World) : (zeroValue 3).run Try.prog w = .ok (.int .i64 0) w := by kernel_rfl
/-- where countCycles stands -/
structure CSt (w : World) (s : Nat → Bool) (nn : Nat) (D : DataW Unit) (W : World) : Prop where
  below : Below w.heap.size w W
  seen : W.rowIs (w.heap.size + 1) 89 64 fun z => .bool (s z)
  map : W.ownsMap Try.prog 3 (plainElem Try.prog 3) w.heap.size nn D
theorem CSt.mark {w W : World} {s s' : Nat → Bool} {nn x : Nat} {D : DataW Unit} (h : CSt w s nn D W) (hs : ∀ z, s' z = if z = x then true else s z) : CSt w s' nn D (W.setCell ⟨w.heap.size + 1, x, none⟩ (.bool true)) :=
  ⟨h.below.setCell (p := ⟨w.heap.size + 1, x, none⟩) (by show w.heap.size ≤ w.heap.size + 1; omega) _, (h.seen.set x (.bool true)).congr fun j _ => by
    rw [hs j]
    by_cases e : j = x
    · rw [if_pos e, if_pos e]
    · rw [if_neg e, if_neg e], h.map.setCell (a := ⟨w.heap.size + 1, x, none⟩) (by show w.heap.size ≠ w.heap.size + 1; omega) _⟩
theorem CSt.put {w W W2 : World} {s : Nat → Bool} {nn : Nat} {D D2 : DataW Unit} (h : CSt w s nn D W) (hm : W2.ownsMap Try.prog 3 (plainElem Try.prog 3) w.heap.size (nn + 1) D2) (hg : W.grownBy W2 (some w.heap.size)) : CSt w s (nn + 1) D2 W2 :=
  ⟨h.below.grown hg h.below.size (fun k e => by cases e; exact Nat.le_refl _), h.seen.of_block (hg.block _ h.seen.lt (by simp)), hm⟩
theorem CInv.le {f : Nat → Nat} {m : Nat} {s : Nat → Bool} {c : Nat → Nat} (h : CInv f m s c) {n : Nat} (hn : 1 ≤ n) : c n ≤ m := by
  have h1 := h.count n
  have h2 := cntN_le (fun z => s z && decide (perN f m z = n)) m
  rw [h1] at h2
  have := Nat.le_mul_of_pos_left (c n) hn
  omega
/-- the counts of all cycles lie in the map at b -/
def CcP (f : Nat → Nat) (m b : Nat) (w' : World) : Prop := ∃ (D : DataW Unit) (c : Nat → Nat) (nn : Nat), nn ≤ 64 ∧ w'.ownsMap Try.prog 3 (plainElem Try.prog 3) b nn D ∧ MapC D c ∧ c 0 = 0 ∧ ∀ n, manyN f m n = n * c n
set_option maxRecDepth 100000 in
set_option maxHeartbeats 8000000 in
theorem countCycles_any (m : Nat) (g cap : Nat) (F : List Int) (f : Nat → Nat) (w : World) (hr : Row w (some ⟨g, 0, none⟩) m (intL F)) (hm : 2 ≤ m) (hm2 : m ≤ 64) (hf : PermF f m) (hF : ∀ x, x < m → F.getD x 0 = (f x : Int)) :
    Calls Try.prog 79 #[.slice (some ⟨g, 0, none⟩) m cap] w fun e w' => e = .returned (.map (some w.heap.size)) ∧ CcP f m w.heap.size w' ∧ Below w.heap.size w w' := by
  have hmm := @run_makeMap Try.prog
  have hM := World.ownsMap_made (H := Unit) w Try.prog 3 (plainElem Try.prog 3)
  have Hr := Lib.hid hr
  have HF := Lib.hid hF
  have HM := Lib.hid hM
  have Hf := Lib.hid hf
  clear hr hF hM hf
  go_enter Try.func79, Try.ntmps79
  go_wp2
  go_loopw [11] (fun i wr => ∃ (k : Nat) (s : Nat → Bool) (c : Nat → Nat) (nn : Nat) (D : DataW Unit), k ≤ m ∧ i = .int .i64 k ∧ nn ≤ k ∧ Hid (CSt w s nn D wr) ∧ Hid (MapC D c) ∧ Hid (CInv f m s c) ∧ Hid (c 0 = 0) ∧ Hid (∀ z, z < k → s z = true)) (fun i _ => m - (intOf i).toNat)
  case atStart =>
    refine ⟨0, fun _ => false, fun _ => 0, 0, .map [], Nat.zero_le _, rfl, Nat.le_refl _, ⟨?_, ?_, ?_⟩, MapC.zero, CInv.zero f m, rfl, fun z hz => by omega⟩
    · exact ((Below.refl w.heap.size w).alloc (Nat.le_refl _) _).alloc (by simp) _
    · exact bools64 (w.alloc (.map #[] 0)) _ XB64_eq _ (by simp)
    · exact HM.out.alloc _
  case round =>
    obtain ⟨k, s, c, nn, D, hk, rfl, hnn, HS, HC, HI, H0, HZ⟩ := hrel
    by_cases hlt : k < m
    · have hc : (k : Int) < (m : Int) := by omega
      have Hgo := Lib.hid (show k + 1 ≤ m ∧ k < m ∧ k < 64 ∧ nn ≤ 64 ∧ nn ≤ k by omega)
      cases hsk : s k with
      | true =>
        have Hsk := Lib.hid hsk
        clear hsk hk hlt hnn
        go_wp2
        go_loopw [6, 7] (fun l x wr => l = .int .i64 0 ∧ x = .int .i64 k ∧ Hid (CSt w s nn D wr)) (fun _ _ _ => 0)
        case atStart => exact ⟨rfl, rfl, HS⟩
        case round =>
          clear HS
          obtain ⟨rfl, rfl, HS⟩ := hrel
          have hk64 : k < 64 := Hgo.out.2.2.1
          have hk64i : (k : Int) < 64 := by omega
          have ck := HS.out.seen.cell (i := k) hk64
          rw [Hsk.out] at ck
          go_wp2
          go_roundw
          case rel => exact ⟨k + 1, s, c, nn, D, Hgo.out.1, by go_num, by have := Hgo.out; omega, HS, HC, HI, H0, fun z hz => by
            by_cases e : z = k
            · subst e; exact Hsk.out
            · exact HZ.out z (by omega)⟩
          case measure => simp [intOf]; have := Hgo.out; omega
      | false =>
        have hkm : k < m := hlt
        obtain ⟨n, hn⟩ : ∃ n, perN f m k = n := ⟨_, rfl⟩
        have hpf := per_facts Hf.out hkm
        have hns := fun j (hj : j < perN f m k) => not_seen Hf.out HI.out hkm hsk hj
        have hend := orbit_end (s := s) (c := c) Hf.out hkm
        have hnext := HI.out.next Hf.out hkm hsk
        have hcn := hnext.le (n := perN f m k) hpf.1
        have hlo := fun j => itN_lt Hf.out hkm j
        rw [hn] at hpf hns hend hnext hcn
        have hbc : bump c n n = c n + 1 := by unfold bump; rw [if_pos rfl]
        rw [hbc] at hcn
        have hcn2 : c n ≤ 63 := by omega
        have hn64 : n ≤ 64 := by omega
        have hn1 : 1 ≤ n := hpf.1
        have Hns := Lib.hid hns
        have Hend := Lib.hid hend
        have Hnext := Lib.hid hnext
        have Hlo := Lib.hid hlo
        have Hbc := Lib.hid hbc
        have hm64 : m ≤ 64 := hm2
        clear hns hend hnext hcn hlo hbc hsk hk hlt hnn hpf hn
        have HS0 : Hid (CSt w (addO f s k 0) nn D wr) := by unfold Hid; rw [addO_zero]; exact HS.out
        clear HS
        go_wp2
        go_loopw [6, 7] (fun l x wr => ∃ j : Nat, j ≤ n ∧ l = .int .i64 j ∧ x = .int .i64 (itN f j k : Nat) ∧ Hid (CSt w (addO f s k j) nn D wr)) (fun l _ _ => n - (intOf l).toNat)
        case atStart => exact ⟨0, Nat.zero_le _, rfl, rfl, HS0⟩
        case round =>
          clear HS0
          obtain ⟨j, hj, rfl, rfl, HS⟩ := hrel
          have hx := Hlo.out j
          obtain ⟨x, hxe⟩ : ∃ x, itN f j k = x := ⟨_, rfl⟩
          rw [hxe] at hx ⊢
          have hx64 : x < 64 := by omega
          have hx64i : (x : Int) < 64 := by omega
          have hxm : (x : Int) < (m : Int) := by omega
          have cx := HS.out.seen.cell (i := x) hx64
          have fx := World.rowIs.frozen HS.out.seen x
          by_cases hlj : j < n
          · have hsx := Hns.out j hlj
            rw [hxe] at hsx
            rw [hsx] at cx
            have HS2 : Hid (CSt w (addO f s k (j + 1)) nn D (wr.setCell ⟨w.heap.size + 1, x, none⟩ (.bool true))) := HS.out.mark fun z => by
              rw [addO_step, hxe]
              by_cases e : z = x
              · rw [if_pos e, decide_eq_true e, Bool.or_true]
              · rw [if_neg e, decide_eq_false e, Bool.or_false]
            obtain ⟨g', e1, x1⟩ := (Hr.out.below HS2.out.below).int hx
            simp only [Option.some.injEq, Addr.mk.injEq, and_true] at e1
            subst e1
            rw [HF.out x hx] at x1
            have Hxe := Lib.hid (show f x = itN f (j + 1) k by show f x = f (itN f j k); rw [hxe])
            have Hg2 := Lib.hid (show j + 1 ≤ n ∧ j < n ∧ j ≤ 64 by omega)
            have hj64 : j ≤ 64 := Hg2.out.2.2
            clear hsx HS hxe
            go_wp2
            go_roundw
            case rel => exact ⟨j + 1, Hg2.out.1, by go_num, by rw [← Hxe.out], HS2⟩
            case measure => simp [intOf]; have := Hg2.out; omega
          · obtain rfl : j = n := by omega
            rw [← hxe, Hend.out] at cx
            rw [hxe] at cx
            have hgt : (0 : Int) < (j : Int) := by omega
            have hgt2 : decide (0 < j) = true := decide_eq_true (by omega)
            have hgt3 : 0 < j := by omega
            have Hwc : Hid ((Lit.int .i64 (((c j + 1 : Nat) : Int))).wf = true) := WalkArith.wf_i64 (by omega)
            have Hwj : Hid ((Lit.int .i64 (j : Int)).wf = true) := WalkArith.wf_i64 (by omega)
            have Hadd : Hid (IntKind.i64.wrap ((c j : Int) + 1) = ((c j + 1 : Nat) : Int)) := by unfold Hid; rw [IntWalk.i64_in _ (by omega)]; rfl
            have Hj1 := Lib.hid hn1
            have Hb0 : Hid (bump c j 0 = 0) := by unfold Hid bump; rw [if_neg (by omega)]; exact H0.out
            have HS2 := Lib.hid HS.out
            have hown := HS.out.map
            have hnn64 : nn ≤ 64 := Hgo.out.2.2.2.1
            clear HS hxe fx hlj hj hn64 hn1 hcn2 hx hxm hkm
            go_wp2_with (first
              | (at_lookup; refine wpList_lookup_own_int _ rfl _ _ 77 rfl 3 3 .i64 (int_keyed Try.underlying3) Try.underlying77 Try.underlying3 (zeroInt _) w.heap.size nn D rfl hown _ _ rfl (keyOf_int_mk Try.underlying3 Hwj.out) ?_; intro c0 hat hwc0; rw [HC.out.at' j] at hat; simp only [DataW.lit.injEq, Lit.int.injEq, true_and] at hat; subst hat; have hadd := Hadd.out)
              | (at_mapUpdate; refine wpList_mapUpdate_own _ rfl _ _ _ 77 rfl 3 3 (int_keyed Try.underlying3) Try.underlying77 _ w.heap.size nn D rfl hown (by unfold maxLen; omega) _ _ _ rfl rfl (keyOf_int_mk Try.underlying3 Hwj.out) (.lit (.int .i64 ((c j + 1 : Nat) : Int))) [] (plainElem_int Try.underlying3 Hwc.out) ?_; intro w2 hM2 hg2))
            have HS3 := Lib.hid (HS2.out.put hM2 hg2)
            have HC3 := Lib.hid (HC.out.put j)
            clear hM2 hg2 hown
            go_wp2
            go_roundw
            case rel => exact ⟨k + 1, addO f s k j, bump c j, nn + 1, _, Hgo.out.1, by go_num, by have := Hgo.out; omega, HS3, HC3, Hnext, Hb0, fun z hz => by
              by_cases e : z = k
              · subst e; exact addO_self Hj1.out
              · exact addO_keeps j (HZ.out z (by omega))⟩
            case measure => simp [intOf]; have := Hgo.out; omega
    · obtain rfl : k = m := by omega
      have hc : ¬ (k : Int) < (k : Int) := by omega
      have hres := HI.out.all HZ.out
      have Hres := Lib.hid hres
      have hnn64 : nn ≤ 64 := by omega
      clear hres HI HZ
      go_wp2
      go_ret
      exact ⟨rfl, ⟨D, c, nn, hnn64, HS.out.map, HC.out, H0.out, Hres.out⟩, HS.out.below⟩
end Go.Proofs.Ytndbjojjaapeaaa

/- The order of a permutation: mathematics. -/
namespace Go.Proofs.Ytndbjojjaapeaaa
set_option linter.unusedVariables false
open Go.RowKit

def sumT (g : Nat → Nat) : Nat → Nat
  | 0 => 0
  | k + 1 => sumT g k + g k
theorem sumT_congr {g h : Nat → Nat} : ∀ K, (∀ n, n < K → g n = h n) → sumT g K = sumT h K
  | 0, _ => rfl
  | k + 1, e => by
    show sumT g k + g k = sumT h k + h k
    rw [sumT_congr k (fun n hn => e n (by omega)), e k (by omega)]
theorem sumT_le {g h : Nat → Nat} : ∀ K, (∀ n, n < K → g n ≤ h n) → sumT g K ≤ sumT h K
  | 0, _ => Nat.le_refl _
  | k + 1, e => Nat.add_le_add (sumT_le k (fun n hn => e n (by omega))) (e k (by omega))
theorem sumT_one {g : Nat → Nat} (x a : Nat) : ∀ K, sumT (fun n => g n + if n = x then a else 0) K = sumT g K + if x < K then a else 0
  | 0 => by simp [sumT]
  | k + 1 => by
    show sumT _ k + (g k + if k = x then a else 0) = sumT g k + g k + _
    rw [sumT_one x a k]
    by_cases e : k = x
    · subst e
      rw [if_pos rfl, if_neg (by omega), if_pos (by omega)]; omega
    · rw [if_neg e]
      by_cases h : x < k
      · rw [if_pos h, if_pos (by omega)]; omega
      · rw [if_neg h, if_neg (by omega)]; omega
theorem sumT_zero : ∀ K, sumT (fun _ => 0) K = 0
  | 0 => rfl
  | k + 1 => by show sumT _ k + 0 = 0; rw [sumT_zero k]
/-- each element lies in one cycle -/
theorem many_sum (p : Nat → Nat) (K : Nat) : ∀ m, (∀ z, z < m → p z < K) → sumT (fun n => cntN (fun z => decide (p z = n)) m) K = m
  | 0, _ => sumT_zero K
  | m + 1, h => by
    have ih := many_sum p K m fun z hz => h z (by omega)
    have e : (fun n => cntN (fun z => decide (p z = n)) (m + 1)) = fun n => cntN (fun z => decide (p z = n)) m + if n = p m then 1 else 0 := by
      funext n
      show cntN (fun z => decide (p z = n)) m + (if decide (p m = n) = true then 1 else 0) = _
      by_cases e : p m = n
      · rw [decide_eq_true e, if_pos rfl, if_pos e.symm]
      · rw [decide_eq_false e, if_neg (by decide), if_neg (fun h => e h.symm)]
    rw [e, sumT_one, ih, if_pos (h m (by omega))]
theorem count_sum {f : Nat → Nat} {m : Nat} {c : Nat → Nat} (hf : PermF f m) (hm : m ≤ 64) (hc : ∀ n, manyN f m n = n * c n) : sumT (fun n => n * c n) 65 = m := by
  rw [← many_sum (perN f m) 65 m fun z hz => by have := (per_facts hf hz).2.1; omega]
  exact sumT_congr 65 fun n _ => (hc n).symm
/-- the least common multiple of what has been handled -/
structure LcmOf (o : Nat) (h : Nat → Bool) : Prop where
  pos : 1 ≤ o
  div : ∀ n, h n = true → n ∣ o
  least : ∀ d, (∀ n, h n = true → n ∣ d) → o ∣ d
theorem LcmOf.none : LcmOf 1 (fun _ => false) := ⟨Nat.le_refl _, fun n h => by simp at h, fun d _ => Nat.one_dvd d⟩
theorem LcmOf.step {o x : Nat} {h : Nat → Bool} (H : LcmOf o h) (hx : 1 ≤ x) : LcmOf (Nat.lcm o x) (fun n => h n || decide (n = x)) := by
  refine ⟨Nat.lcm_pos H.pos hx, fun n hn => ?_, fun d hd => ?_⟩
  · simp only [Bool.or_eq_true, decide_eq_true_eq] at hn
    rcases hn with h1 | rfl
    · exact Nat.dvd_trans (H.div n h1) (Nat.dvd_lcm_left o x)
    · exact Nat.dvd_lcm_right o n
  · exact Nat.lcm_dvd (H.least d fun n hn => hd n (by simp [hn])) (hd x (by simp))
theorem LcmOf.uniq {o o' : Nat} {h : Nat → Bool} (H : LcmOf o h) (H' : LcmOf o' h) : o = o' := Nat.dvd_antisymm (H.least _ H'.div) (H'.least _ H.div)
theorem LcmOf.congr {o : Nat} {h h' : Nat → Bool} (H : LcmOf o h) (e : ∀ n, h n = h' n) : LcmOf o h' := by
  rw [show h' = h from funext fun n => (e n).symm]; exact H
/-- the least common multiple of the lengths below K that are there -/
def ordF (c : Nat → Nat) : Nat → Nat
  | 0 => 1
  | k + 1 => if 0 < k ∧ 0 < c k then Nat.lcm (ordF c k) k else ordF c k
theorem ordF_is (c : Nat → Nat) : ∀ K, LcmOf (ordF c K) (fun n => decide (n < K ∧ 0 < n ∧ 0 < c n))
  | 0 => LcmOf.none.congr fun n => by simp
  | k + 1 => by
    have ih := ordF_is c k
    unfold ordF
    by_cases h : 0 < k ∧ 0 < c k
    · rw [if_pos h]
      refine (ih.step h.1).congr fun n => ?_
      rw [Bool.eq_iff_iff]
      simp only [Bool.or_eq_true, decide_eq_true_eq]
      constructor
      · rintro (⟨h1, h2⟩ | rfl)
        · exact ⟨by omega, h2⟩
        · exact ⟨by omega, h⟩
      · rintro ⟨h1, h2⟩
        by_cases e : n = k
        · exact .inr e
        · exact .inl ⟨by omega, h2⟩
    · rw [if_neg h]
      refine ih.congr fun n => ?_
      rw [Bool.eq_iff_iff]
      simp only [decide_eq_true_eq]
      constructor
      · rintro ⟨h1, h2⟩; exact ⟨by omega, h2⟩
      · rintro ⟨h1, h2⟩
        by_cases e : n = k
        · subst e; exact absurd h2 h
        · exact ⟨by omega, h2⟩
def ordC (c : Nat → Nat) : Nat := ordF c 65
theorem cube_le : ∀ x : Fin 65, x.1 ^ 3 ≤ 3 ^ x.1 ∨ x.1 = 0 := by decide +kernel
theorem big_bound {o S : Nat} (h : o ^ 3 ≤ 3 ^ S) (hS : S ≤ 64) : o ≤ 17179869184 := by
  refine Nat.le_of_not_lt fun hlt => ?_
  have h1 : 17179869185 ^ 3 ≤ o ^ 3 := Nat.pow_le_pow_left hlt 3
  have h2 : 3 ^ S ≤ 3 ^ 64 := Nat.pow_le_pow_right (by decide) hS
  have h3 : ¬ (17179869185 : Nat) ^ 3 ≤ 3 ^ 64 := by decide
  exact h3 (Nat.le_trans h1 (Nat.le_trans h h2))
theorem lcm_quo (o x : Nat) : o * (x / Nat.gcd o x) = Nat.lcm o x := by
  unfold Nat.lcm
  rw [Nat.mul_div_assoc _ (Nat.gcd_dvd_right o x)]
theorem cube_step {o x S : Nat} (h : o ^ 3 ≤ 3 ^ S) (hx : 1 ≤ x) (hx2 : x ≤ 64) : (Nat.lcm o x) ^ 3 ≤ 3 ^ (S + x) := by
  have h1 : Nat.lcm o x ≤ o * x := by
    rw [← lcm_quo]
    exact Nat.mul_le_mul_left o (Nat.div_le_self _ _)
  have h2 : (Nat.lcm o x) ^ 3 ≤ (o * x) ^ 3 := Nat.pow_le_pow_left h1 3
  rw [Nat.mul_pow] at h2
  rcases cube_le ⟨x, by omega⟩ with h3 | h3
  · simp only at h3
    rw [Nat.pow_add]
    exact Nat.le_trans h2 (Nat.mul_le_mul h h3)
  · simp only at h3; omega
def hSum (h : Nat → Bool) : Nat := sumT (fun n => if h n = true then n else 0) 65
theorem hSum_step {h : Nat → Bool} {x : Nat} (hx : h x = false) (hx2 : x ≤ 64) : hSum (fun n => h n || decide (n = x)) = hSum h + x := by
  unfold hSum
  rw [show (fun n => if (h n || decide (n = x)) = true then n else 0) = fun n => (if h n = true then n else 0) + if n = x then x else 0 from by
    funext n
    by_cases e : n = x
    · subst e; simp [hx]
    · simp [e]]
  rw [sumT_one, if_pos (by omega)]
theorem hSum_le {h : Nat → Bool} {c : Nat → Nat} (hc : ∀ n, h n = true → 0 < c n) : hSum h ≤ sumT (fun n => n * c n) 65 :=
  sumT_le 65 fun n _ => by
    by_cases e : h n = true
    · rw [if_pos e]; exact Nat.le_mul_of_pos_right n (hc n e)
    · rw [if_neg e]; exact Nat.zero_le _
theorem many_le {f : Nat → Nat} {m : Nat} {c : Nat → Nat} (hc : ∀ n, manyN f m n = n * c n) {n : Nat} (h : 0 < c n) : n ≤ m := by
  have h1 := hc n
  have h2 : manyN f m n ≤ m := cntN_le _ m
  have := Nat.le_mul_of_pos_right n h
  omega
end Go.Proofs.Ytndbjojjaapeaaa

/- Order. -/
namespace Go.Proofs.Ytndbjojjaapeaaa
set_option linter.unusedVariables false
open Go.RowKit Go.Maps

theorem same_lit (a b : Int) : (Lit.int .i64 a).sameKey (.int .i64 b) = decide (a = b) := by
  by_cases h : a = b
  · subst h
    rw [decide_eq_true rfl]
    exact WideAt.sameKey_self trivial
  · rw [decide_eq_false h]
    cases e : (Lit.int .i64 a).sameKey (.int .i64 b) with
    | false => rfl
    | true => exact absurd (by simpa using WideAt.sameKey_eq e) h
/-- where the loop over the map stands: o is the least common multiple of what has been handled -/
structure OSt (D : DataW Unit) (c : Nat → Nat) (left : Lit → Bool) (h : Nat → Bool) (o : Nat) : Prop where
  lcm : LcmOf o h
  cube : o ^ 3 ≤ 3 ^ hSum h
  sub : ∀ x : Int, left (.int .i64 x) = true → ∃ n : Nat, x = n ∧ 0 < c n
  iff : ∀ n : Nat, h n = true ↔ (0 < c n ∧ left (.int .i64 (n : Int)) = false)
theorem OSt.start {D : DataW Unit} {c : Nat → Nat} (hc : MapC D c) : OSt D c (Maps.has D) (fun _ => false) 1 :=
  ⟨LcmOf.none, by
    have : hSum (fun _ => false) = 0 := by unfold hSum; simp only [Bool.false_eq_true, if_false]; exact sumT_zero 65
    rw [this]; decide, fun x hx => (hc.has x).1 hx, fun n => ⟨fun h => by simp at h, fun ⟨h1, h2⟩ => by
    have := (hc.has (n : Int)).2 ⟨n, rfl, h1⟩
    rw [h2] at this; cases this⟩⟩
theorem OSt.next {D : DataW Unit} {c : Nat → Nat} {left : Lit → Bool} {h : Nat → Bool} {o x : Nat} (H : OSt D c left h o) (hx : left (.int .i64 (x : Int)) = true) (h0 : c 0 = 0) (h64 : x ≤ 64) : OSt D c (fun z => left z && !z.sameKey (.int .i64 (x : Int))) (fun n => h n || decide (n = x)) (Nat.lcm o x) := by
  obtain ⟨x', e, hcx⟩ := H.sub _ hx
  obtain rfl : x' = x := by omega
  have hx1 : 1 ≤ x' := Nat.pos_of_ne_zero fun e => by subst e; omega
  have hhx : h x' = false := by
    cases e : h x' with
    | false => rfl
    | true => have := ((H.iff x').1 e).2; rw [hx] at this; cases this
  refine ⟨H.lcm.step hx1, by rw [hSum_step hhx h64]; exact cube_step H.cube hx1 h64, fun y hy => H.sub y (by simp only [Bool.and_eq_true] at hy; exact hy.1), fun n => ?_⟩
  rw [Bool.or_eq_true, H.iff n, decide_eq_true_eq, Bool.and_eq_false_iff, same_lit]
  simp only [Bool.not_eq_false', decide_eq_true_eq]
  constructor
  · rintro (⟨h1, h2⟩ | rfl)
    · exact ⟨h1, .inl h2⟩
    · exact ⟨hcx, .inr rfl⟩
  · rintro ⟨h1, h2 | h2⟩
    · exact .inl ⟨h1, h2⟩
    · exact .inr (by omega)
theorem OSt.done {D : DataW Unit} {c : Nat → Nat} {left : Lit → Bool} {h : Nat → Bool} {o : Nat} (H : OSt D c left h o) (hl : ∀ kl, left kl = false) (h0 : c 0 = 0) (h64 : ∀ n, 0 < c n → n ≤ 64) : o = ordC c :=
  H.lcm.uniq ((ordF_is c 65).congr fun n => by
    rw [Bool.eq_iff_iff, H.iff n, decide_eq_true_eq]
    constructor
    · rintro ⟨_, _, h1⟩; exact ⟨h1, hl _⟩
    · rintro ⟨h1, _⟩
      have := h64 n h1
      exact ⟨by omega, Nat.pos_of_ne_zero fun e => by subst e; omega, h1⟩)
theorem ord_nums {o x : Nat} (ho : o ≤ 17179869184) (h1 : 1 ≤ o) (hx : 1 ≤ x) (hx2 : x ≤ 64) : ∃ g q r : Nat, Nat.gcd o x = g ∧ Nat.lcm o x = r ∧ Int.tdiv (x : Int) (g : Int) = (q : Int) ∧ IntKind.i64.wrap (q : Int) = (q : Int) ∧ wrap64 (q : Int) = (q : Int) ∧ ¬ (g : Int) = 0 ∧ ((g : Int) == 0) = false ∧ IntKind.i64.wrap ((o : Int) * (q : Int)) = (r : Int) ∧ wrap64 ((o : Int) * (q : Int)) = (r : Int) := by
  have hg : 1 ≤ Nat.gcd o x := Nat.gcd_pos_of_pos_left x h1
  obtain ⟨h2, h3, h4⟩ := quo_int (m := x) (p := Nat.gcd o x) (d := x / Nat.gcd o x) rfl (Nat.le_trans (Nat.div_le_self _ _) hx2)
  have hl := lcm_quo o x
  have hq : x / Nat.gcd o x ≤ 64 := Nat.le_trans (Nat.div_le_self _ _) hx2
  have hr : Nat.lcm o x ≤ 17179869184 * 64 := by rw [← hl]; exact Nat.mul_le_mul ho hq
  have e : (o : Int) * ((x / Nat.gcd o x : Nat) : Int) = ((Nat.lcm o x : Nat) : Int) := by rw [← hl]; simp
  refine ⟨_, _, _, rfl, rfl, h2, h3, h4, by omega, by rw [beq_eq_false_iff_ne]; omega, ?_, ?_⟩
  · rw [e]; exact IntWalk.i64_in _ (by omega)
  · rw [e]; exact IntWalk.wrap64_in _ (by omega)
set_option maxRecDepth 100000 in
theorem Order_no (m : Int) (a : Option Addr) (n cap : Nat) (w : World) (h : Calls Try.prog 78 #[.int .i64 m, .slice a n cap] w fun e w' => e = .returned (.bool false) ∧ w' = w) :
    Calls Try.prog 34 #[.int .i64 m, .slice a n cap] w fun e w' => e = .returned (.tuple #[.int .i64 0, .int .i64 2]) ∧ w' = w := by
  have H := Lib.hid h
  clear h
  go_enter Try.func34, Try.ntmps34
  go_wp2_with fail
  refine H.out.mono ?_
  rintro e w1 ⟨rfl, hw⟩
  subst w1
  go_wp2
  go_ret2
  exact ⟨rfl, rfl⟩
set_option maxRecDepth 100000 in
set_option maxHeartbeats 4000000 in
theorem Order_yes (m : Nat) (g cap : Nat) (F : List Int) (w : World) (hr : Row w (some ⟨g, 0, none⟩) m (intL F)) (hcap : m ≤ cap) (hcm : cap ≤ 9223372036854775807) (hm : 2 ≤ m) (hm2 : m ≤ 64) (hin : ∀ v ∈ F, 0 ≤ v ∧ v < m) (hp : (equalR F).1 = -1) :
    Calls Try.prog 34 #[.int .i64 m, .slice (some ⟨g, 0, none⟩) m cap] w fun e w' => ∃ c : Nat → Nat, e = .returned (.tuple #[.int .i64 (ordC c : Nat), .int .i64 0]) ∧ c 0 = 0 ∧ (∀ n, manyN (fnL F) m n = n * c n) ∧ Below w.heap.size w w' := by
  have hl : F.length = m := by have := hr.1; simpa [intL] using this
  obtain ⟨hP, hFx⟩ := fnL_perm hl hin hp
  have hI := isPerm_any m g cap F w hr hcap hcm hm hm2 hin
  rw [hp, show decide ((-1 : Int) < 0) = true from rfl] at hI
  have hC := countCycles_any m g cap F (fnL F) w hr hm hm2 hP hFx
  generalize fnL F = f at *
  have HI := Lib.hid hI
  have HC := Lib.hid hC
  have HP := Lib.hid hP
  clear hI hC hFx hP hin hp hl hcap hcm hr
  go_enter Try.func34, Try.ntmps34
  go_wp2_with fail
  refine HI.out.mono ?_
  rintro e w1 ⟨rfl, hw⟩
  subst w1
  go_wp2_with fail
  refine HC.out.mono ?_
  rintro e w1 ⟨rfl, ⟨D, c, nn, hnn, hown, hmc, h0, hmany⟩, b1⟩
  have hsum : sumT (fun n => n * c n) 65 ≤ 64 := by rw [count_sum HP.out hm2 hmany]; exact hm2
  have h64 : ∀ n, 0 < c n → n ≤ 64 := fun n hn => Nat.le_trans (many_le hmany hn) hm2
  have HS0 := Lib.hid (OSt.start hmc)
  have H0 := Lib.hid h0
  have Hmany := Lib.hid hmany
  have Hsum := Lib.hid hsum
  have H64 := Lib.hid h64
  have B1 := Lib.hid b1
  have hbl := hown.lt
  clear hmc h0 hmany hsum h64 b1 HI HC
  go_wp2_with (at_range; refine wpList_range_own _ rfl _ 77 rfl 3 3 (int_keyed Try.underlying3) Try.underlying77 _ w.heap.size nn D rfl hown ?_; intro w2 hrg0 hg0 hs0)
  go_frame
  obtain ⟨r, hr⟩ : ∃ r, w1.heap.size = r := ⟨_, rfl⟩
  rw [hr] at hrg0 hs0 ⊢
  have Hr1 : Hid (w.heap.size < r) := by unfold Hid; rw [← hr]; exact hbl
  have HB2 : Hid (Below w.heap.size w w2) := B1.out.grown hg0 B1.out.size (fun j hj => by cases hj)
  have HR0 := Lib.hid hrg0
  clear hrg0 hg0 hs0 hr hown hbl B1
  go_loopw [6] (fun ov wr => ∃ (o : Nat) (left : Lit → Bool) (cnt : Nat) (h : Nat → Bool), ov = .int .i64 o ∧ Hid (wr.ranges Try.prog 3 (plainElem Try.prog 3) w.heap.size r nn D left cnt) ∧ Hid (OSt D c left h o) ∧ Hid (Below w.heap.size w wr)) (fun _ wr => wr.rangeLeft w.heap.size r)
  case atStart => exact ⟨1, _, _, _, rfl, HR0, HS0, HB2⟩
  case round =>
    clear HS0 HB2 HR0
    obtain ⟨o, left, cnt, h, rfl, HR, HS, HB⟩ := hrel
    go_wp2_with (at_next; refine wpList_next_ranges_ii _ rfl _ rfl 3 3 .i64 .i64 (int_keyed Try.underlying3) Try.underlying3 Try.underlying3 w.heap.size r nn _ _ _ rfl HR.out ?_ ?_)
    · intro hc0 hl0
      have hres := HS.out.done hl0 H0.out H64.out
      have Hres := Lib.hid hres
      clear hres hl0 hc0
      go_wp2
      go_ret2
      exact ⟨c, by rw [← Hres.out]; rfl, H0.out, Hmany.out, HB.out⟩
    · intro x cc w3 cnt3 hwx hwc hlx hat hrg3 hlt3 hg3 hs3 hen3
      obtain ⟨x, rfl, hcx⟩ := HS.out.sub _ hlx
      have hx64 := H64.out x hcx
      have hx1 : 1 ≤ x := Nat.pos_of_ne_zero fun e => by subst e; have := H0.out; omega
      have hSle : hSum h ≤ 64 := Nat.le_trans (hSum_le fun n hn => ((HS.out.iff n).1 hn).1) Hsum.out
      have hob := big_bound HS.out.cube hSle
      have hdv := fun W => divisor_any o x (by omega) (by omega) W
      have hnums := ord_nums hob HS.out.lcm.pos hx1 hx64
      have HN := Lib.hid (HS.out.next hlx H0.out hx64)
      have HB3 : Hid (Below w.heap.size w w3) := HB.out.grown hg3 HB.out.size (fun j hj => by cases hj; exact Nat.le_of_lt Hr1.out)
      have HR3 := Lib.hid hrg3
      have Hms : Hid (cnt3 < cnt) := hlt3
      have Hen3 := hen3
      obtain ⟨gg, q, rr, e1, e2, n1, n2, n3, n4, n5, n6, n7⟩ := hnums
      rw [e1] at hdv
      rw [e2] at HN
      have HD := Lib.hid hdv
      clear hdv e1 e2 hwx hwc hlx hat hrg3 hlt3 hg3 hs3 hcx hSle hob HB hx64 hx1
      go_wp2_with fail
      refine (HD.out _).mono ?_
      rintro e' w4 ⟨rfl, q4, rfl⟩
      have HR4 : Hid ((w3.drewN q4).ranges Try.prog 3 (plainElem Try.prog 3) w.heap.size r nn D (fun z => left z && !z.sameKey (.int .i64 (x : Int))) cnt3) := HR3.out
      have HB4 : Hid (Below w.heap.size w (w3.drewN q4)) := below_drewN HB3.out q4
      have Hl : Hid ((w3.drewN q4).rangeLeft w.heap.size r < wr.rangeLeft w.heap.size r) := by unfold Hid; rw [HR4.out.left_eq, HR.out.left_eq]; exact Hms.out
      clear HR3 HB3 Hen3 hen3
      go_wp2
      go_roundw
      case rel => exact ⟨rr, _, _, _, rfl, HR4, HN, HB4⟩
      case measure => exact Hl.out
end Go.Proofs.Ytndbjojjaapeaaa

/- Cycles. -/
namespace Go.Proofs.Ytndbjojjaapeaaa
set_option linter.unusedVariables false
open Go.RowKit Go.Maps Go.Sort Go.Shelf

theorem sortsA (m : Nat) : AnyZI.SortsIn Try.prog Try.sortedA_ren Fence.wide m :=
  ⟨fun blk off cap ss W hH hblk hsz => callsIn_wide.2 (AnyM.slices_Sort_int Try.sortA blk off cap ss W hH hblk hsz),
   fun p cap W => callsIn_wide.2 (AnyM.slices_Sort_int_none Try.sortA p cap W)⟩
theorem keys_call (mb : Option Nat) (W : World) : Calls Try.prog 82 #[.map mb] W fun e w' => e = .returned (.func (.func 102) #[] #[.pointer (some ⟨W.heap.size, 0, none⟩)]) ∧ w' = W.alloc (.cells #[.map mb] 77) := by
  refine (callsIn_wide (n := 5)).1 ?_
  exact AnyZI.keys_in Try.keysA Fence.wide 5 trivial rfl mb W
set_option maxHeartbeats 1000000 in
theorem sorted_call {H : Type} (b nn : Nat) (D0 : DataW H) (R : Value → Option (DataW H × List MemPlace)) (w : World) (hown : w.ownsMap Try.prog 3 R b nn D0) (hmax : Maps.size D0 ≤ maxLen) (hbytes : Maps.size D0 * 8 ≤ 140737488355328) :
    Calls Try.prog 81 #[.func (.func 102) #[] #[.pointer (some ⟨w.heap.size, 0, none⟩)]] (w.alloc (.cells #[.map (some b)] 77)) fun e w' => ∃ (v : Value) (ss : List Int), e = .returned v ∧ ss.Perm (intKeys D0) ∧
      w'.ownsRow (w.alloc (.cells #[.map (some b)] 77)).heap.size 3 1 v ss.length ((ss.mergeSort (fun x y => decide (x ≤ y))).map encZ) ∧ Below (w.alloc (.cells #[.map (some b)] 77)).heap.size (w.alloc (.cells #[.map (some b)] 77)) w' := by
  refine (callsIn_wide (n := 5)).1 ?_
  have hbl := hown.lt
  have hseq : SeqGives Fence.wide 2 Try.prog 102 #[.pointer (some ⟨w.heap.size, 0, none⟩)] encZ (fun ss => ss.Perm (intKeys D0)) (Maps.size D0) (w.alloc (.cells #[.map (some b)] 77)) :=
    AnyZI.keys_gives (ρ := Try.keysA_ren) { Try.keysA with } Fence.wide _ trivial rfl (by omega) w.heap.size b nn D0 _ (by simp) (by simp) (by
      obtain ⟨es, clock, hb, Ft, hs, hD⟩ := hown
      exact ⟨es, clock, (Below.heap_alloc _ _ b hbl).trans hb, Ft, hs, hD⟩)
  have cS := AnyZI.sorted_in Try.sortedA Fence.wide 5 trivial trivial trivial trivial rfl (by omega) (sortsA _) (enters_of Try.func101 (by kernel_rfl) rfl) 102 #[.pointer (some ⟨w.heap.size, 0, none⟩)] trivial (enters_of Try.func102 (by kernel_rfl) rfl) _ _ hmax hbytes _ hseq
  change CallsIn _ _ Try.prog 81 _ _ _ at cS
  exact cS.mono fun e w' ⟨v, ss, h1, h2, h3, _, h5⟩ => ⟨v, ss, h1, h2, h3, h5⟩
/-- the lengths that are there, ascending -/
def keysN (c : Nat → Nat) : List Nat := (List.range 65).filter fun n => decide (0 < n ∧ 0 < c n)
def keysI (c : Nat → Nat) : List Int := (keysN c).map fun n : Nat => (n : Int)
/-- the lengths of all cycles, ascending -/
def cycL (c : Nat → Nat) : List Int := (keysN c).flatMap fun n => List.replicate (c n) (n : Int)
def cycP (c : Nat → Nat) (k : Nat) : List Int := ((keysN c).take k).flatMap fun n => List.replicate (c n) (n : Int)
theorem cycP_step {c : Nat → Nat} {k n : Nat} (h : (keysN c)[k]? = some n) : cycP c (k + 1) = cycP c k ++ List.replicate (c n) (n : Int) := by
  unfold cycP
  rw [List.take_add_one, h, List.flatMap_append]
  simp
theorem cycP_all (c : Nat → Nat) {L : Nat} (h : (keysN c).length = L) : cycP c L = cycL c := by
  unfold cycP cycL
  rw [List.take_of_length_le (by omega)]
theorem cyc_len (c : Nat → Nat) : ∀ K, (((List.range K).filter fun n => decide (0 < n ∧ 0 < c n)).flatMap fun n => List.replicate (c n) (n : Int)).length ≤ sumT (fun n => n * c n) K
  | 0 => Nat.le_refl _
  | k + 1 => by
    have ih := cyc_len c k
    rw [List.range_succ, List.filter_append, List.flatMap_append, List.length_append]
    show _ ≤ sumT (fun n => n * c n) k + k * c k
    refine Nat.add_le_add ih ?_
    by_cases h : 0 < k ∧ 0 < c k
    · rw [List.filter_cons_of_pos (by simpa using h)]
      simp only [List.filter_nil, List.flatMap_cons, List.flatMap_nil, List.append_nil, List.length_replicate]
      exact Nat.le_mul_of_pos_left _ h.1
    · rw [List.filter_cons_of_neg (by simpa using h)]
      simp
theorem cycP_len (c : Nat → Nat) (k : Nat) : (cycP c k).length ≤ (cycL c).length := by
  have h : cycL c = cycP c k ++ ((keysN c).drop k).flatMap fun n => List.replicate (c n) (n : Int) := by
    unfold cycL cycP
    rw [← List.flatMap_append, List.take_append_drop]
  rw [h, List.length_append]; omega
theorem keysI_sorted (c : Nat → Nat) : (keysI c).mergeSort (fun x y => decide (x ≤ y)) = keysI c := by
  refine List.mergeSort_of_pairwise ?_
  unfold keysI
  rw [List.pairwise_map]
  refine (List.pairwise_lt_range.filter _).imp fun {a b} h => ?_
  exact decide_eq_true (by omega)
theorem keysI_nodup (c : Nat → Nat) : (keysI c).Nodup := by
  unfold keysI
  rw [List.Nodup, List.pairwise_map]
  refine (List.pairwise_lt_range.filter _).imp fun {a b} h => ?_
  omega
theorem keysI_perm {D : DataW Unit} {c : Nat → Nat} {w : World} {b nn : Nat} (hown : w.ownsMap Try.prog 3 (plainElem Try.prog 3) b nn D) (hc : MapC D c) (h0 : c 0 = 0) (h64 : ∀ n, 0 < c n → n ≤ 64) : (keysI c).Perm (intKeys D) :=
  CollectedI.perm (left := fun _ => false) ⟨keysI_nodup c, fun x => by
    rw [hc.has x]
    unfold keysI keysN
    simp only [List.mem_map, List.mem_filter, List.mem_range, decide_eq_true_eq, and_true]
    constructor
    · rintro ⟨n, ⟨h1, h2, h3⟩, rfl⟩; exact ⟨n, rfl, h3⟩
    · rintro ⟨n, rfl, h3⟩
      have := h64 n h3
      exact ⟨n, ⟨by omega, Nat.pos_of_ne_zero fun e => by subst e; omega, h3⟩, rfl⟩⟩ hown (int_keyed Try.underlying3) Try.underlying3 (fun _ => rfl)
set_option maxRecDepth 100000 in
theorem Cycles_no (m : Int) (a : Option Addr) (n cap : Nat) (w : World) (h : Calls Try.prog 78 #[.int .i64 m, .slice a n cap] w fun e w' => e = .returned (.bool false) ∧ w' = w) :
    Calls Try.prog 35 #[.int .i64 m, .slice a n cap] w fun e w' => e = .returned (.tuple #[.slice none 0 0, .int .i64 2]) ∧ w' = w := by
  have H := Lib.hid h
  clear h
  go_enter Try.func35, Try.ntmps35
  go_wp2_with fail
  refine H.out.mono ?_
  rintro e w1 ⟨rfl, hw⟩
  subst w1
  go_wp2
  go_ret2
  exact ⟨rfl, rfl⟩
set_option maxRecDepth 100000 in
set_option maxHeartbeats 4000000 in
theorem Cycles_yes (m : Nat) (g cap : Nat) (F : List Int) (w : World) (hr : Row w (some ⟨g, 0, none⟩) m (intL F)) (hcap : m ≤ cap) (hcm : cap ≤ 9223372036854775807) (hm : 2 ≤ m) (hm2 : m ≤ 64) (hin : ∀ v ∈ F, 0 ≤ v ∧ v < m) (hp : (equalR F).1 = -1) :
    Calls Try.prog 35 #[.int .i64 m, .slice (some ⟨g, 0, none⟩) m cap] w fun e w' => ∃ (c : Nat → Nat) (v : Value), e = .returned (.tuple #[v, .int .i64 0]) ∧ c 0 = 0 ∧ (∀ n, manyN (fnL F) m n = n * c n) ∧ w'.ownsRow w.heap.size 3 1 v (cycL c).length (intL (cycL c)) ∧ Below w.heap.size w w' := by
  have hl : F.length = m := by have := hr.1; simpa [intL] using this
  obtain ⟨i0, hi, hz0, hz1, hz2⟩ := info_parts info_int
  obtain ⟨hP, hFx⟩ := fnL_perm hl hin hp
  have hI := isPerm_any m g cap F w hr hcap hcm hm hm2 hin
  rw [hp, show decide ((-1 : Int) < 0) = true from rfl] at hI
  have hC := countCycles_any m g cap F (fnL F) w hr hm hm2 hP hFx
  generalize fnL F = f at *
  have HI := Lib.hid hI
  have HC := Lib.hid hC
  have HP := Lib.hid hP
  clear hI hC hFx hP hin hp hl hcap hcm hr
  go_enter Try.func35, Try.ntmps35
  go_wp2_with fail
  refine HI.out.mono ?_
  rintro e w1 ⟨rfl, hw⟩
  subst w1
  go_wp2_with fail
  refine HC.out.mono ?_
  rintro e w1 ⟨rfl, ⟨D, c, nn, hnn, hown, hmc, h0, hmany⟩, b1⟩
  have hsum : sumT (fun n => n * c n) 65 ≤ 64 := by rw [count_sum HP.out hm2 hmany]; exact hm2
  have h64 : ∀ n, 0 < c n → n ≤ 64 := fun n hn => Nat.le_trans (many_le hmany hn) hm2
  have hlen : (cycL c).length ≤ 64 := Nat.le_trans (cyc_len c 65) hsum
  have hc64 : ∀ (k n : Nat), (keysN c)[k]? = some n → n ≤ 64 ∧ c n ≤ 64 := fun k n hk => by
    have hm := List.mem_of_getElem? hk
    unfold keysN at hm
    simp only [List.mem_filter, List.mem_range, decide_eq_true_eq] at hm
    refine ⟨by omega, ?_⟩
    have h1 := hmany n
    have h2 : manyN f m n ≤ m := cntN_le _ m
    have := Nat.le_mul_of_pos_left (c n) hm.2.1
    omega
  have hsz := hown.size_le
  have hperm := keysI_perm hown hmc h0 h64
  have hkc := fun W => keys_call (some w.heap.size) W
  have hsc := sorted_call w.heap.size nn D _ w1 hown (by unfold maxLen; omega) (by omega)
  have hbl := hown.lt
  have Hown := Lib.hid hown
  have Hmc := Lib.hid hmc
  have H0 := Lib.hid h0
  have Hmany := Lib.hid hmany
  have Hlen := Lib.hid hlen
  have Hc64 := Lib.hid hc64
  have Hperm := Lib.hid hperm
  have Hkc := Lib.hid hkc
  have Hsc := Lib.hid hsc
  have B1 := Lib.hid b1
  have Hbl := Lib.hid hbl
  clear hown hmc h0 hmany hsum h64 hlen hc64 hsz hperm hkc hsc b1 hbl HI HC HP
  go_wp2_with fail
  refine (Hkc.out _).mono ?_
  rintro e w2 ⟨rfl, hw⟩
  subst w2
  go_wp2_with fail
  refine Hsc.out.mono ?_
  rintro e w3 ⟨v3, ss, rfl, hss, hrow, b3⟩
  have hs1 : ss.mergeSort (fun x y => decide (x ≤ y)) = keysI c := by
    rw [← keysI_sorted c]
    exact mergeSort_of_perm_i (hss.trans Hperm.out.symm)
  have hs2 : ss.length = (keysI c).length := (hss.trans Hperm.out.symm).length_eq
  rw [hs1, hs2, show (keysI c).map encZ = intL (keysI c) from rfl] at hrow
  have hkl : (keysI c).length = (keysN c).length := by unfold keysI; rw [List.length_map]
  rw [hkl] at hrow
  obtain ⟨L, hL⟩ : ∃ L, (keysN c).length = L := ⟨_, rfl⟩
  rw [hL] at hrow
  obtain ⟨aK, cK, rfl, -, hrK⟩ := own_slice hrow
  have hLn : L ≤ 65 := by rw [← hL]; unfold keysN; exact Nat.le_trans (List.length_filter_le _ _) (by rw [List.length_range]; exact Nat.le_refl _)
  have RK := Lib.hid hrK
  have HL := Lib.hid hL
  have ba := below_alloc w1 (.cells #[.map (some w.heap.size)] 77)
  have B3 : Hid (Below w1.heap.size w1 w3) := b_next ba b3
  have HB3 := Lib.hid (b_next B1.out B3.out)
  have Hown3 := Lib.hid (Hown.out.kept (grown_of_below (row := none) B3.out) (by simp))
  have Hw3 : Hid (w.heap.size ≤ w3.heap.size) := HB3.out.size
  have Hbl3 : Hid (w.heap.size < w3.heap.size) := Nat.lt_of_lt_of_le Hbl.out B3.out.size
  clear hs1 hs2 hkl hL hrow hrK ba b3 hss B3 Hkc Hsc Hown
  go_wp2
  go_loopw [7, 20] (fun v i wr => ∃ k : Nat, k ≤ L ∧ i = .int .i64 k ∧ Hid (wr.ownsRow w3.heap.size 3 1 v (cycP c k).length (intL (cycP c k))) ∧ Hid (Below w3.heap.size w3 wr)) (fun _ i _ => L - (intOf i).toNat)
  case atStart => exact ⟨0, Nat.zero_le _, rfl, World.ownsRow_nil _ _ _ _, Below.refl _ _⟩
  case round =>
    obtain ⟨k, hk, rfl, HO, HB⟩ := hrel
    by_cases hlt : k < L
    · have hc : (k : Int) < (L : Int) := by omega
      have Hgo := Lib.hid (show k + 1 ≤ L ∧ k < L ∧ k ≤ 65 by omega)
      obtain ⟨n, hn⟩ : ∃ n, (keysN c)[k]? = some n := ⟨_, List.getElem?_eq_getElem (by have := HL.out; omega)⟩
      have hki : (keysI c)[k]? = some (n : Int) := by unfold keysI; rw [List.getElem?_map, hn]; rfl
      obtain ⟨gK, rfl, _, hcK⟩ := (RK.out.below HB.out).2 (by omega)
      have ck := hcK k (.int .i64 (n : Int)) (intL_get hki)
      obtain ⟨hn64, hcn⟩ := Hc64.out k n hn
      have hst := cycP_step hn
      have hl1 := cycP_len c (k + 1)
      rw [hst, List.length_append, List.length_replicate] at hl1
      have hown := Hown3.out.kept (grown_of_below (row := none) HB.out) (by simp)
      have Hst := Lib.hid hst
      have Hl1 := Lib.hid (show (cycP c k).length + c n ≤ 64 by have := Hlen.out; omega)
      have Hwn : Hid ((Lit.int .i64 (n : Int)).wf = true) := WalkArith.wf_i64 (by omega)
      have HO0 : Hid (wr.ownsRow w3.heap.size 3 1 u7 ((cycP c k).length + 0) (intL (cycP c k ++ List.replicate 0 (n : Int)))) := by unfold Hid; rw [Nat.add_zero, List.replicate_zero, List.append_nil]; exact HO.out
      clear hn hki hcK hst hl1 hk hlt HO
      go_wp2_with (at_lookup; refine wpList_lookup_own_int _ rfl _ _ 77 rfl 3 3 .i64 (int_keyed Try.underlying3) Try.underlying77 Try.underlying3 (zeroInt _) w.heap.size nn D rfl hown _ _ rfl (keyOf_int_mk Try.underlying3 Hwn.out) ?_; intro c0 hat hwc0; rw [Hmc.out.at' n] at hat; simp only [DataW.lit.injEq, Lit.int.injEq, true_and] at hat; subst hat)
      clear hown ck
      generalize cycP c k = Q at *
      generalize c n = cn at *
      generalize wr = W4 at *
      go_loopw [7, 27] (fun v i wr => ∃ j : Nat, j ≤ cn ∧ i = .int .i64 j ∧ Hid (wr.ownsRow w3.heap.size 3 1 v (Q.length + j) (intL (Q ++ List.replicate j (n : Int)))) ∧ Hid (Below w3.heap.size w3 wr)) (fun _ i _ => cn - (intOf i).toNat)
      case atStart => exact ⟨0, Nat.zero_le _, rfl, HO0, HB⟩
      case round =>
        clear HO0 HB
        obtain ⟨j, hj, rfl, HO, HB⟩ := hrel
        obtain ⟨a5, c5, hv5, -⟩ := Row.of_own HO.out
        subst hv5
        by_cases hlj : j < cn
        · have hc2 : (j : Int) < (cn : Int) := by omega
          have hql : Q.length + j ≤ 64 := by have := Hl1.out; omega
          have Hg2 := Lib.hid (show j + 1 ≤ cn ∧ j < cn ∧ j ≤ 64 by omega)
          have hj64 : j ≤ 64 := Hg2.out.2.2
          clear hlj hj
          go_wp2_with (at_builtin; refine wpList_append_own _ rfl _ _ 22 rfl w3.heap.size 3 i0 (.int .i64 0) 1 8 Try.underlying22 hi hz0 hz1 hz2 rfl (by decide) _ _ _ rfl (HO.out.alloc (.cells #[.int .i64 (n : Int)] 3)) ⟨_, 0, none⟩ 1 1 [.int .i64 (n : Int)] rfl rfl (one_new _ _ _ _ (by simp)) (by simp [Value.oneCell']) (by unfold maxLen; omega) (by omega) (by have := HB.out.size; simp; omega) ?_; intro v2 w6 hown2 hgrow2 _
                       obtain ⟨a6, c6, hv6, -⟩ := Row.of_own hown2
                       subst hv6
                       have HB6 : Hid (Below w3.heap.size w3 w6) := rel_push HB.out (by have := HB.out.size; simp; omega) ((Below.refl _ _).alloc HB.out.size _) HO.out hgrow2
                       have HO6 := Lib.hid hown2
                       clear hown2 hgrow2)
          go_roundw
          case rel =>
            refine ⟨j + 1, Hg2.out.1, by go_num, ?_, HB6⟩
            unfold Hid
            rw [← Nat.add_assoc, List.replicate_succ', ← List.append_assoc]
            unfold intL at HO6 ⊢
            rw [List.map_append]
            exact HO6.out
          case measure => exact mz_upn Hg2.out.2.1
        · obtain rfl : j = cn := by omega
          have hc2 : ¬ (j : Int) < (j : Int) := by omega
          have ho := HO.out
          rw [← Hst.out] at ho
          have hll : Q.length + j = (cycP c (k + 1)).length := by rw [Hst.out, List.length_append, List.length_replicate]
          rw [hll] at ho
          have HO9 := Lib.hid ho
          have hk65 : k ≤ 65 := Hgo.out.2.2
          clear ho
          rw [hll]
          go_wp2
          go_roundw
          case rel => exact ⟨k + 1, Hgo.out.1, by go_num, HO9, HB⟩
          case measure => exact mz_upn Hgo.out.2.1
    · obtain rfl : k = L := by omega
      have hc : ¬ (k : Int) < (k : Int) := by omega
      have ho := HO.out
      rw [cycP_all c HL.out] at ho
      obtain ⟨a5, c5, hv5, -⟩ := Row.of_own ho
      subst hv5
      have HO9 := Lib.hid (ho.mono Hw3.out)
      have HB9 := Lib.hid (b_next HB3.out HB.out)
      clear ho HO
      go_wp2
      go_ret2
      exact ⟨c, _, rfl, H0.out, Hmany.out, HO9.out, HB9.out⟩
end Go.Proofs.Ytndbjojjaapeaaa

/- The inverse of a permutation: mathematics. -/
namespace Go.Proofs.Ytndbjojjaapeaaa
set_option linter.unusedVariables false
open Go.RowKit

theorem equalR_cases (F : List Int) {n : Nat} (hl : F.length = n) : equalR F = (-1, -1) ∨ ∃ x y : Nat, x < y ∧ y < n ∧ equalR F = ((x : Int), (y : Int)) ∧ F.getD x 0 = F.getD y 0 := by
  unfold equalR
  rw [hl]
  have h : ∀ r k, k + r = n → eqF F n r k = (-1, -1) ∨ ∃ x y : Nat, x < y ∧ y < n ∧ eqF F n r k = ((x : Int), (y : Int)) ∧ F.getD x 0 = F.getD y 0 := by
    intro r
    induction r with
    | zero => exact fun k _ => .inl rfl
    | succ r ih =>
      intro k hk
      unfold eqF
      rcases later_is F hl (show k < n by omega) with ⟨d, h1, h2, h3, _⟩ | ⟨h1, _⟩
      · rw [h1, if_pos (Int.natCast_nonneg _)]
        exact .inr ⟨k, k + 1 + d, by omega, h2, rfl, h3⟩
      · rw [h1, if_neg (by decide)]
        exact ih (k + 1) (by omega)
  exact h n 0 (by omega)
theorem cinv_ex {f : Nat → Nat} {m : Nat} (h : PermF f m) : ∀ k, k ≤ m → ∃ s c, CInv f m s c ∧ ∀ z, z < k → s z = true
  | 0, _ => ⟨_, _, CInv.zero f m, fun z hz => by omega⟩
  | k + 1, hk => by
    obtain ⟨s, c, hI, hz⟩ := cinv_ex h k (by omega)
    cases hs : s k with
    | true => exact ⟨s, c, hI, fun z hz2 => by
        by_cases e : z = k
        · subst e; exact hs
        · exact hz z (by omega)⟩
    | false =>
      have hp := per_facts h (show k < m by omega)
      exact ⟨_, _, hI.next h (by omega) hs, fun z hz2 => by
        by_cases e : z = k
        · subst e; exact addO_self hp.1
        · exact addO_keeps _ (hz z (by omega))⟩
theorem many_cyc {f : Nat → Nat} {m : Nat} (h : PermF f m) (n : Nat) : manyN f m n = n * cycN f m n := by
  obtain ⟨s, c, hI, hz⟩ := cinv_ex h m (Nat.le_refl _)
  rw [hI.all hz n]
  by_cases e : n = 0
  · subst e; simp
  · rw [hI.cyc hz (show 1 ≤ n by omega)]
theorem cyc_uniq {f : Nat → Nat} {m : Nat} {c : Nat → Nat} (h0 : c 0 = 0) (hc : ∀ n, manyN f m n = n * c n) : c = cycN f m := by
  funext n
  unfold cycN
  by_cases e : n = 0
  · subst e; rw [Nat.div_zero, h0]
  · rw [hc n, Nat.mul_div_cancel_left _ (by omega)]
theorem invL_get {F : List Int} {m v : Nat} (hv : v < m) : (invL F m).getD v 0 = ((invT (fnL F) v m : Nat) : Int) := by
  unfold invL
  rw [List.getD_eq_getElem?_getD, List.getElem?_map, List.getElem?_range hv]; rfl
theorem invL_len (F : List Int) (m : Nat) : (invL F m).length = m := by simp [invL]
theorem inv_right {f : Nat → Nat} {m v : Nat} (h : PermF f m) (hv : v < m) : invT f v m < m ∧ f (invT f v m) = v := by
  obtain ⟨k1, k2, k3, _⟩ := per_facts h hv
  obtain ⟨j, hj⟩ : ∃ j, perN f m v = j + 1 := ⟨perN f m v - 1, by omega⟩
  rw [hj] at k3
  have hx := itN_lt h hv j
  have e : f (itN f j v) = v := k3
  have h2 := invT_at h hx m (Nat.le_refl _) hx
  rw [e] at h2
  rw [h2]
  exact ⟨hx, e⟩
structure InvW (F G : List Int) (m : Nat) : Prop where
  len : G.length = m
  inn : ∀ v ∈ G, 0 ≤ v ∧ v < m
  one : (equalR G).1 = -1
  cyc : cycN (fnL G) m = cycN (fnL F) m
  left : ∀ x, x < m → G.getD (F.getD x 0).toNat 0 = (x : Int)
theorem invW {F : List Int} {m : Nat} (hP : PermF (fnL F) m) : InvW F (invL F m) m := by
  have hfn : ∀ v, v < m → fnL (invL F m) v = invT (fnL F) v m := fun v hv => by
    show ((invL F m).getD v 0).toNat = _
    rw [invL_get hv]; rfl
  have hg : PermF (fnL (invL F m)) m := ⟨fun v hv => by rw [hfn v hv]; exact (inv_right hP hv).1, fun u v hu hv e => by
    rw [hfn u hu, hfn v hv] at e
    rw [← (inv_right hP hu).2, ← (inv_right hP hv).2, e]⟩
  have hfg : ∀ v, v < m → fnL F (fnL (invL F m) v) = v := fun v hv => by rw [hfn v hv]; exact (inv_right hP hv).2
  have hgf : ∀ x, x < m → fnL (invL F m) (fnL F x) = x := fun x hx => by rw [hfn _ (hP.lt x hx)]; exact invT_at hP hx m (Nat.le_refl _) hx
  have hcan : ∀ (f g : Nat → Nat), PermF g m → (∀ v, v < m → f (g v) = v) → ∀ n x, x < m → itN f n (itN g n x) = x := by
    intro f g hg h n
    induction n with
    | zero => exact fun x _ => rfl
    | succ n ih =>
      intro x hx
      rw [itN_add f _ n 1]
      show itN f n (f (g (itN g n x))) = x
      rw [h _ (itN_lt hg hx n)]
      exact ih x hx
  have hper : ∀ x, x < m → perN (fnL (invL F m)) m x = perN (fnL F) m x := fun x hx => by
    obtain ⟨k1, k2, k3, k4⟩ := per_facts hP hx
    refine per_uniq hg hx k1 ?_ fun i a b e => k4 i a b ?_
    · have := hcan (fnL (invL F m)) (fnL F) hP hgf (perN (fnL F) m x) x hx
      rwa [k3] at this
    · have := hcan (fnL F) (fnL (invL F m)) hg hfg i x hx
      rwa [e] at this
  refine ⟨invL_len F m, fun v hv => ?_, ?_, ?_, fun x hx => ?_⟩
  · unfold invL at hv
    obtain ⟨u, hu, rfl⟩ := List.mem_map.1 hv
    have := (inv_right hP (List.mem_range.1 hu)).1
    omega
  · rw [equal_none _ (invL_len F m)]
    intro x y hx hy e
    rw [invL_get (by omega), invL_get hy] at e
    have e2 := Int.ofNat.inj e
    have := (inv_right hP (show x < m by omega)).2
    rw [e2, (inv_right hP hy).2] at this
    omega
  · funext n
    unfold cycN manyN
    rw [cntN_congr m fun z hz => by rw [hper z hz]]
  · show (invL F m).getD (fnL F x) 0 = _
    rw [invL_get (hP.lt x hx), invT_at hP hx m (Nat.le_refl _) hx]
/-- a polynomial applied again and again -/
def itP (P : List Int) : Nat → List Int
  | 0 => [0, 1]
  | n + 1 => compL (itP P n) P
theorem itP_val {P : List Int} {m : Nat} {f : Nat → Nat} (hm : 2 ≤ m) (hf : ∀ x, x < m → polyV m P (x : Int) = (f x : Int)) (hP : PermF f m) : ∀ n x, x < m → polyV m (itP P n) (x : Int) = (itN f n x : Int)
  | 0, x, hx => by
    rw [polyV_eval]
    show (0 + (x : Int) * (1 + (x : Int) * 0)) % (m : Int) = (x : Int)
    rw [Int.mul_zero, Int.add_zero, Int.mul_one, Int.zero_add]
    exact Int.emod_eq_of_lt (by omega) (by omega)
  | n + 1, x, hx => by
    show polyV m (compL (itP P n) P) (x : Int) = ((f (itN f n x) : Nat) : Int)
    rw [polyV_comp, itP_val hm hf hP n x hx, hf _ (itN_lt hP hx n)]
theorem it_mul {f : Nat → Nat} {x p : Nat} (h : itN f p x = x) : ∀ j, itN f (p * j) x = x
  | 0 => rfl
  | j + 1 => by rw [Nat.mul_succ, itN_add, h]; exact it_mul h j
theorem inv_form {F P : List Int} {m : Nat} (hm : 2 ≤ m) (hm2 : m ≤ 64) (hF : valuesL m P = F) (hP : PermF (fnL F) m) (he : ∀ x, x < m → F.getD x 0 = (fnL F x : Int)) : ∃ l, formR m (fun x => (invL F m).getD x 0) = some l ∧ l.length ≤ degN m := by
  obtain ⟨K, hK, hKx⟩ : ∃ K, 1 ≤ K ∧ ∀ x, x < m → itN (fnL F) K x = x := by
    refine ⟨ordC (cycN (fnL F) m), (ordF_is _ 65).pos, fun x hx => ?_⟩
    obtain ⟨k1, k2, k3, _⟩ := per_facts hP hx
    have hpos : 0 < cycN (fnL F) m (perN (fnL F) m x) := by
      refine Nat.pos_of_ne_zero fun e => ?_
      have h1 := many_cyc hP (perN (fnL F) m x)
      rw [e, Nat.mul_zero] at h1
      have h2 := cntN_one (p := fun z => decide (perN (fnL F) m z = perN (fnL F) m x) && !decide (z = x)) (q := fun z => decide (perN (fnL F) m z = perN (fnL F) m x)) (y := x) (by simp) (fun z hz => by simp [hz]) m
      rw [if_pos ⟨hx, by simp⟩] at h2
      unfold manyN at h1
      omega
    obtain ⟨q, hq⟩ := (ordF_is (cycN (fnL F) m) 65).div (perN (fnL F) m x) (by simp; omega)
    show itN (fnL F) (ordF _ 65) x = x
    rw [hq]
    exact it_mul k3 q
  obtain ⟨K', rfl⟩ : ∃ K', K = K' + 1 := ⟨K - 1, by omega⟩
  refine form_of_poly hm hm2 (itP P K') fun x hx => ?_
  rw [itP_val hm (fun x hx => by rw [← he x hx, ← hF, valuesL_get m P hx]) hP K' x hx, invL_get hx]
  congr 1
  have h1 := hKx x hx
  have h2 := (inv_right hP hx).2
  exact hP.inj _ _ (inv_right hP hx).1 (itN_lt hP hx K') (by rw [h2]; exact h1.symm)
/-- the lengths as numbers -/
def cycNL (c : Nat → Nat) : List Nat := (keysN c).flatMap fun n => List.replicate (c n) n
theorem cycL_cast (c : Nat → Nat) : cycL c = (cycNL c).map fun n : Nat => (n : Int) := by
  unfold cycL cycNL
  rw [List.map_flatMap]
  congr 1
  funext n
  rw [List.map_replicate]
theorem cycNL_mem (c : Nat → Nat) (n : Nat) : n ∈ cycNL c ↔ n < 65 ∧ 0 < n ∧ 0 < c n := by
  unfold cycNL keysN
  simp only [List.mem_flatMap, List.mem_filter, List.mem_range, decide_eq_true_eq, List.mem_replicate]
  constructor
  · rintro ⟨k, ⟨h1, h2, h3⟩, h4, rfl⟩; exact ⟨h1, h2, h3⟩
  · rintro ⟨h1, h2, h3⟩; exact ⟨n, ⟨h1, h2, h3⟩, by omega, rfl⟩
theorem cycNL_sum (c : Nat → Nat) : ∀ K, (((List.range K).filter fun n => decide (0 < n ∧ 0 < c n)).flatMap fun n => List.replicate (c n) n).sum = sumT (fun n => n * c n) K
  | 0 => rfl
  | k + 1 => by
    have ih := cycNL_sum c k
    rw [List.range_succ, List.filter_append, List.flatMap_append, List.sum_append, ih]
    show _ = sumT (fun n => n * c n) k + k * c k
    congr 1
    by_cases h : 0 < k ∧ 0 < c k
    · rw [List.filter_cons_of_pos (by simpa using h)]
      simp [List.sum_replicate_nat, Nat.mul_comm]
    · rw [List.filter_cons_of_neg (by simpa using h)]
      have : k * c k = 0 := by
        by_cases h1 : k = 0
        · subst h1; simp
        · have : c k = 0 := by omega
          rw [this, Nat.mul_zero]
      simp [this]
theorem cycNL_sorted (c : Nat → Nat) : (cycNL c).Pairwise (fun a b => a ≤ b) := by
  unfold cycNL
  rw [List.pairwise_flatMap]
  refine ⟨fun n _ => List.pairwise_replicate.2 (.inr (Nat.le_refl n)), ?_⟩
  refine (List.pairwise_lt_range.filter _).imp fun {a b} h x hx y hy => ?_
  rw [List.mem_replicate] at hx hy
  omega
/-- where the law's loop stands -/
structure LSt (C : List Nat) (k o : Nat) : Prop where
  lcm : LcmOf o (fun n => decide (n ∈ C.take k))
  cube : o ^ 3 ≤ 3 ^ hSum (fun n => decide (n ∈ C.take k))
theorem LSt.start (C : List Nat) : LSt C 0 1 :=
  ⟨LcmOf.none.congr fun n => by simp, by
    have : hSum (fun n => decide (n ∈ C.take 0)) = 0 := by unfold hSum; simp only [List.take_zero, List.not_mem_nil, decide_false, Bool.false_eq_true, if_false]; exact sumT_zero 65
    rw [this]; decide⟩
theorem LSt.next {C : List Nat} {k o x : Nat} (h : LSt C k o) (hx : C[k]? = some x) (h1 : 1 ≤ x) (h64 : x ≤ 64) : LSt C (k + 1) (Nat.lcm o x) := by
  have he : ∀ n, (decide (n ∈ C.take k) || decide (n = x)) = decide (n ∈ C.take (k + 1)) := fun n => by
    rw [List.take_add_one, hx, Bool.eq_iff_iff]
    simp
  refine ⟨(h.lcm.step h1).congr he, ?_⟩
  rw [← show (fun n => decide (n ∈ C.take k) || decide (n = x)) = fun n => decide (n ∈ C.take (k + 1)) from funext he]
  by_cases hm : x ∈ C.take k
  · have h2 : (fun n => decide (n ∈ C.take k) || decide (n = x)) = fun n => decide (n ∈ C.take k) := by
      funext n
      by_cases e : n = x
      · subst e; simp [hm]
      · simp [e]
    rw [h2, Nat.lcm_eq_left (h.lcm.div x (decide_eq_true hm))]
    exact h.cube
  · rw [hSum_step (decide_eq_false hm) h64]
    exact cube_step h.cube h1 h64
end Go.Proofs.Ytndbjojjaapeaaa

/- The reference's Inverse. -/
namespace Go.Proofs.Ytndbjojjaapeaaa
set_option linter.unusedVariables false
open Go.RowKit

theorem row_of_cells {w : World} {g n : Nat} {xs : List Int} (hg : g < w.heap.size) (hl : xs.length = n) (hc : ∀ k, k < n → w.cell? ⟨g, k, none⟩ = some (.int .i64 (xs.getD k 0))) : Row w (some ⟨g, 0, none⟩) n (intL xs) :=
  ⟨by unfold intL; rw [List.length_map, hl], fun _ => ⟨g, rfl, hg, fun k v hv => by
    unfold intL at hv
    rw [List.getElem?_map] at hv
    cases hx : xs[k]? with
    | none => rw [hx] at hv; cases hv
    | some x =>
      rw [hx] at hv
      cases hv
      rw [hc k (by have := (List.getElem?_eq_some_iff.1 hx).1; omega), List.getD_eq_getElem?_getD, hx]
      rfl⟩⟩
theorem invR_zero (f : Nat → Nat) (v : Nat) : invT f v 0 = 0 := rfl
set_option maxRecDepth 100000 in
set_option maxHeartbeats 4000000 in
theorem refInverse_any (m : Nat) (g cap : Nat) (F : List Int) (f : Nat → Nat) (L : List Int) (w : World) (hr : Row w (some ⟨g, 0, none⟩) m (intL F)) (hm : 2 ≤ m) (hm2 : m ≤ 64) (hf : PermF f m) (hF : ∀ x, x < m → F.getD x 0 = (f x : Int)) (hLl : L.length = m) (hLg : ∀ v, v < m → L.getD v 0 = ((invT f v m : Nat) : Int)) :
    Calls Try.prog 39 #[.slice (some ⟨g, 0, none⟩) m cap] w fun e w' => e = .returned (.slice (some ⟨w.heap.size, 0, none⟩) m m) ∧ Row w' (some ⟨w.heap.size, 0, none⟩) m (intL L) ∧ Below w.heap.size w w' := by
  have hmk := run_make_row' (P := Try.prog) 22 3 (.int .i64 0) 8 Try.underlying22 info_int rfl .i64 .i64 m (by omega) (by omega)
  have hlt := hf.lt
  have Hr := Lib.hid hr
  have HF := Lib.hid hF
  have Hlt := Lib.hid hlt
  have HLl := Lib.hid hLl
  have HLg := Lib.hid hLg
  clear hr hF hlt hf hLl hLg
  go_enter Try.func39, Try.ntmps39
  go_wp2
  have hrow0 := World.rowIs_made w (.int .i64 0) m 3
  have HR0 : Hid ((w.alloc (.cells (madeCells #[.int .i64 0] m) 3)).rowIs w.heap.size 3 m (fun v => .int .i64 ((invT f v 0 : Nat) : Int))) := hrow0.congr fun j _ => by rw [invR_zero]; rfl
  have HB0 := Lib.hid (below_alloc w (.cells (madeCells #[.int .i64 0] m) 3))
  clear hmk hrow0
  generalize w.alloc (.cells (madeCells #[.int .i64 0] m) 3) = w2 at HR0 HB0 ⊢
  go_loopw [4] (fun i wr => ∃ k : Nat, k ≤ m ∧ i = .int .i64 k ∧ Hid (wr.rowIs w.heap.size 3 m fun v => .int .i64 ((invT f v k : Nat) : Int)) ∧ Hid (Below w.heap.size w wr)) (fun i _ => m - (intOf i).toNat)
  case atStart => exact ⟨0, Nat.zero_le _, rfl, HR0, HB0⟩
  case round =>
    clear HR0 HB0
    obtain ⟨k, hk, rfl, HT, HB⟩ := hrel
    by_cases hlt : k < m
    · have hc : (k : Int) < (m : Int) := by omega
      obtain ⟨g', e1, x1⟩ := (Hr.out.below HB.out).int hlt
      simp only [Option.some.injEq, Addr.mk.injEq, and_true] at e1
      subst e1
      rw [HF.out k hlt] at x1
      obtain ⟨v, hv⟩ : ∃ v, f k = v := ⟨_, rfl⟩
      have hvm : v < m := by rw [← hv]; exact Hlt.out k hlt
      rw [hv] at x1
      have hvi : (v : Int) < (m : Int) := by omega
      have ck := HT.out.cell (i := v) hvm
      have fk := World.rowIs.frozen HT.out v
      have HT2 : Hid ((wr.setCell ⟨w.heap.size, v, none⟩ (.int .i64 (k : Int))).rowIs w.heap.size 3 m fun j => .int .i64 ((invT f j (k + 1) : Nat) : Int)) := (HT.out.set v (.int .i64 (k : Int))).congr fun j _ => by
        by_cases e : j = v
        · subst e; rw [if_pos rfl, invT_succ, if_pos hv]
        · rw [if_neg e, invT_succ, if_neg (fun e2 => e (by rw [← e2, hv]))]
      have HB2 := Lib.hid (HB.out.setCell (p := ⟨w.heap.size, v, none⟩) (Nat.le_refl _) (.int .i64 (k : Int)))
      have Hgo := Lib.hid (show k + 1 ≤ m ∧ k < m by omega)
      clear HT HB hv
      go_wp2
      go_roundw
      case rel => exact ⟨k + 1, Hgo.out.1, by go_num, HT2, HB2⟩
      case measure => simp [intOf]; have := Hgo.out; omega
    · obtain rfl : k = m := by omega
      have hc : ¬ (k : Int) < (k : Int) := by omega
      have hres := row_of_cells (w := wr) (g := w.heap.size) (xs := L) HT.out.lt HLl.out (fun j hj => by rw [HT.out.cell (i := j) hj, HLg.out j hj])
      have HR9 := Lib.hid hres
      clear HT hres
      go_wp2
      go_ret
      exact ⟨rfl, HR9.out, HB.out⟩
end Go.Proofs.Ytndbjojjaapeaaa

/- The reference's Cycles. -/
namespace Go.Proofs.Ytndbjojjaapeaaa
set_option linter.unusedVariables false
open Go.RowKit

/-- the lengths below K -/
def cycQ (c : Nat → Nat) (K : Nat) : List Int := ((List.range K).filter fun n => decide (0 < n ∧ 0 < c n)).flatMap fun n => List.replicate (c n) (n : Int)
theorem cycQ_one (c : Nat → Nat) : cycQ c 1 = [] := rfl
theorem cycQ_step (c : Nat → Nat) {k : Nat} (hk : 1 ≤ k) : cycQ c (k + 1) = cycQ c k ++ List.replicate (c k) (k : Int) := by
  unfold cycQ
  rw [List.range_succ, List.filter_append, List.flatMap_append]
  congr 1
  by_cases h : 0 < k ∧ 0 < c k
  · rw [List.filter_cons_of_pos (by simpa using h)]; simp
  · rw [List.filter_cons_of_neg (by simpa using h)]
    have : c k = 0 := by omega
    simp [this]
theorem cycQ_ext (c : Nat → Nat) {m : Nat} (h : ∀ n, m < n → c n = 0) : ∀ d, cycQ c (m + 1 + d) = cycQ c (m + 1)
  | 0 => rfl
  | d + 1 => by
    rw [show m + 1 + (d + 1) = (m + 1 + d) + 1 by omega, cycQ_step c (by omega), cycQ_ext c h d, h _ (by omega)]; simp
theorem cycQ_all (c : Nat → Nat) {m : Nat} (hm : m ≤ 64) (h : ∀ n, m < n → c n = 0) : cycQ c (m + 1) = cycL c := by
  obtain ⟨d, hd⟩ : ∃ d, 65 = m + 1 + d := ⟨65 - (m + 1), by omega⟩
  rw [← cycQ_ext c h d, ← hd]; rfl
theorem sumT_up (g : Nat → Nat) (k : Nat) : ∀ d, sumT g k ≤ sumT g (k + d)
  | 0 => Nat.le_refl _
  | d + 1 => Nat.le_trans (sumT_up g k d) (Nat.le_add_right _ _)
theorem cycQ_len (c : Nat → Nat) {k : Nat} (hk : k ≤ 65) (hs : sumT (fun n => n * c n) 65 ≤ 64) : (cycQ c k).length ≤ 64 := by
  have h1 : (cycQ c k).length ≤ sumT (fun n => n * c n) k := cyc_len c k
  obtain ⟨d, hd⟩ : ∃ d, 65 = k + d := ⟨65 - k, by omega⟩
  have h2 := sumT_up (fun n => n * c n) k d
  rw [← hd] at h2
  omega
/-- how many of the first k have the period n -/
def cntP (f : Nat → Nat) (m n k : Nat) : Nat := cntN (fun z => decide (perN f m z = n)) k
theorem cntP_zero (f : Nat → Nat) (m n : Nat) : cntP f m n 0 = 0 := rfl
theorem cntP_succ (f : Nat → Nat) (m n k : Nat) : cntP f m n (k + 1) = if perN f m k = n then cntP f m n k + 1 else cntP f m n k := by
  show cntN _ k + (if decide (perN f m k = n) = true then 1 else 0) = _
  by_cases e : perN f m k = n
  · rw [if_pos e, if_pos (decide_eq_true e)]; rfl
  · rw [if_neg e, if_neg (by simpa using e)]; rfl
theorem cntP_le (f : Nat → Nat) (m n k : Nat) : cntP f m n k ≤ k := cntN_le _ k
theorem quo_nums {k q : Nat} (hk : 1 ≤ k) (hq : k * q ≤ 64) : Int.tdiv ((k * q : Nat) : Int) (k : Int) = (q : Int) ∧ IntKind.i64.wrap (q : Int) = (q : Int) ∧ wrap64 (q : Int) = (q : Int) ∧ ((k : Int) == 0) = false ∧ ¬ (k : Int) = 0 ∧ ¬ k = 0 := by
  have hq2 : q ≤ 64 := Nat.le_trans (Nat.le_mul_of_pos_left q hk) hq
  refine ⟨?_, IntWalk.i64_in _ (by clear hq; omega), IntWalk.wrap64_in _ (by clear hq; omega), ?_, by clear hq; omega, by clear hq; omega⟩
  · rw [Int.tdiv_eq_ediv_of_nonneg (Int.natCast_nonneg _), ← Int.natCast_ediv, Nat.mul_div_cancel_left _ (by clear hq; omega)]
  · rw [beq_eq_false_iff_ne]; clear hq; omega
set_option maxRecDepth 100000 in
set_option maxHeartbeats 4000000 in
theorem refCycles_any (m : Nat) (g cap : Nat) (F : List Int) (f : Nat → Nat) (w : World) (hr : Row w (some ⟨g, 0, none⟩) m (intL F)) (hm : 2 ≤ m) (hm2 : m ≤ 64) (hf : PermF f m) (hF : ∀ x, x < m → F.getD x 0 = (f x : Int)) :
    Calls Try.prog 41 #[.slice (some ⟨g, 0, none⟩) m cap] w fun e w' => ∃ v, e = .returned v ∧ w'.ownsRow w.heap.size 3 1 v (cycL (cycN f m)).length (intL (cycL (cycN f m))) ∧ Below w.heap.size w w' := by
  obtain ⟨i0, hi, hz0, hz1, hz2⟩ := info_parts info_int
  obtain ⟨m1, hm1⟩ : ∃ m1, m + 1 = m1 := ⟨_, rfl⟩
  have hmk0 := run_make_row' (P := Try.prog) 22 3 (.int .i64 0) 8 Try.underlying22 info_int rfl .i64 .i64 (m + 1) (by omega) (by omega)
  rw [hm1] at hmk0
  have hmk : ∀ w : World, (Instr.makeSlice 22 (.int .i64 ((m : Int) + 1)) (.int .i64 ((m : Int) + 1))).run Try.prog w = .ok (.slice (some ⟨w.heap.size, 0, none⟩) m1 m1) (w.alloc (.cells (madeCells #[.int .i64 0] m1) 3)) := fun w => by
    have := hmk0 w
    rw [← hm1] at this ⊢
    exact this
  have hper := fun x (hx : x < m) => per_facts hf hx
  have hmany : ∀ n, cntP f m n m = n * cycN f m n := fun n => many_cyc hf n
  have hsum := count_sum hf hm2 (fun n => many_cyc hf n)
  have hle : ∀ n, m < n → cycN f m n = 0 := fun n h => by
    refine Nat.eq_zero_of_not_pos fun h2 => ?_
    have := many_le (fun n => many_cyc hf n) h2
    omega
  have hall := cycQ_all (cycN f m) hm2 hle
  have hlen := fun k (hk : k ≤ 65) => cycQ_len (cycN f m) hk (by rw [hsum]; exact hm2)
  have hit := fun x (hx : x < m) j => itN_lt hf hx j
  have hns := fun n => cntP_succ f m n
  have hnl := fun n k => cntP_le f m n k
  have hst := fun k (hk : 1 ≤ k) => cycQ_step (cycN f m) hk
  have hnm := fun n => Nat.le_trans (hnl n m) hm2
  generalize cycN f m = c at *
  generalize hnn : (fun n k => cntP f m n k) = N at *
  have hnz : ∀ n, N n 0 = 0 := fun n => by rw [← hnn]; rfl
  replace hmany : ∀ n, N n m = n * c n := fun n => by rw [← hnn]; exact hmany n
  replace hns : ∀ n k, N n (k + 1) = if perN f m k = n then N n k + 1 else N n k := fun n k => by rw [← hnn]; exact hns n k
  replace hnl : ∀ n k, N n k ≤ k := fun n k => by rw [← hnn]; exact hnl n k
  generalize perN f m = P at *
  have Hr := Lib.hid hr
  have HF := Lib.hid hF
  have Hper := Lib.hid hper
  have Hmany := Lib.hid hmany
  have Hall := Lib.hid hall
  have Hlen := Lib.hid hlen
  have Hit := Lib.hid hit
  have Hns := Lib.hid hns
  have Hnl := Lib.hid hnl
  have Hst := Lib.hid hst
  have Hnz := Lib.hid hnz
  have Hm1 := Lib.hid hm1
  clear hr hF hper hmany hsum hle hall hlen hit hns hnl hst hnz hnm hnn hf hmk0 hm1
  go_enter Try.func41, Try.ntmps41
  go_wp2
  have hrow0 := World.rowIs_made w (.int .i64 0) m1 3
  have HR0 : Hid ((w.alloc (.cells (madeCells #[.int .i64 0] m1) 3)).rowIs w.heap.size 3 m1 (fun v => .int .i64 ((N v 0 : Nat) : Int))) := hrow0.congr fun j _ => by rw [Hnz.out]; rfl
  have HB0 := Lib.hid (below_alloc w (.cells (madeCells #[.int .i64 0] m1) 3))
  clear hmk hrow0
  generalize w.alloc (.cells (madeCells #[.int .i64 0] m1) 3) = w2 at HR0 HB0 ⊢
  go_loopw [4] (fun i wr => ∃ k : Nat, k ≤ m ∧ i = .int .i64 k ∧ Hid (wr.rowIs w.heap.size 3 m1 fun v => .int .i64 ((N v k : Nat) : Int)) ∧ Hid (Below w.heap.size w wr)) (fun i _ => m - (intOf i).toNat)
  case atStart => exact ⟨0, Nat.zero_le _, rfl, HR0, HB0⟩
  case round =>
    clear HR0 HB0
    obtain ⟨k, hk, rfl, HT, HB⟩ := hrel
    generalize wr = W1 at *
    by_cases hlt : k < m
    · have hc : (k : Int) < (m : Int) := by omega
      obtain ⟨g', e1, x1⟩ := (Hr.out.below HB.out).int hlt
      simp only [Option.some.injEq, Addr.mk.injEq, and_true] at e1
      subst e1
      rw [HF.out k hlt] at x1
      obtain ⟨p1, pm, pe, pn⟩ := Hper.out k hlt
      obtain ⟨p, hp⟩ : ∃ p, P k = p := ⟨_, rfl⟩
      rw [hp] at p1 pm pe pn
      have hik := Hit.out k hlt
      have hit1 : itN f 1 k = f k := rfl
      have Hp := Lib.hid hp
      have Hpe := Lib.hid pe
      have Hpn := Lib.hid pn
      have Hik := Lib.hid hik
      have Hit1 := Lib.hid hit1
      have Hpm := Lib.hid (show 1 ≤ p ∧ p ≤ m ∧ k < m ∧ m ≤ 64 by omega)
      clear hp pe pn hik hit1 p1 pm
      go_wp2
      go_loopw [5, 6] (fun n y wr => ∃ j : Nat, 1 ≤ j ∧ j ≤ p ∧ n = .int .i64 j ∧ y = .int .i64 (itN f j k : Nat) ∧ wr = W1) (fun n _ _ => p - (intOf n).toNat)
      case atStart => exact ⟨1, by omega, Hpm.out.1, rfl, rfl, rfl⟩
      case round =>
        clear x1
        obtain ⟨j, hj1, hj, rfl, rfl, hw⟩ := hrel
        subst wr
        by_cases hlj : j < p
        · have hne := Hpn.out j hj1 hlj
          have hyl := Hik.out j
          have hnx : itN f (j + 1) k = f (itN f j k) := rfl
          obtain ⟨y, hy⟩ : ∃ y, itN f j k = y := ⟨_, rfl⟩
          rw [hy] at hne hyl hnx ⊢
          obtain ⟨g', e1, x1⟩ := (Hr.out.below HB.out).int hyl
          simp only [Option.some.injEq, Addr.mk.injEq, and_true] at e1
          subst e1
          rw [HF.out y hyl, ← hnx] at x1
          have hyi : (y : Int) < (m : Int) := by omega
          have hn1 : ¬ (y : Int) = (k : Int) := by omega
          have hn2 : ((y : Int) == (k : Int)) = false := by rw [beq_eq_false_iff_ne]; exact hn1
          have Hg2 := Lib.hid (show 1 ≤ j + 1 ∧ j + 1 ≤ p ∧ j < p ∧ j ≤ 64 by have := Hpm.out; omega)
          have hj64 : j ≤ 64 := Hg2.out.2.2.2
          clear hy hnx hlj hj
          go_wp2
          go_roundw
          case rel => exact ⟨j + 1, Hg2.out.1, Hg2.out.2.1, by go_num, rfl, trivial⟩
          case measure => simp [intOf]; have := Hg2.out; omega
        · obtain rfl : j = p := by omega
          rw [Hpe.out]
          have hjm : j < m1 := by have := Hm1.out; have := Hpm.out; omega
          have hji : (j : Int) < (m1 : Int) := by omega
          have ck := HT.out.cell (i := j) hjm
          have fk := World.rowIs.frozen HT.out j
          have hns := Hns.out j k
          rw [if_pos Hp.out] at hns
          have hnl := Hnl.out j k
          obtain ⟨v, hv⟩ : ∃ v, N j k = v := ⟨_, rfl⟩
          rw [hv] at ck hns hnl
          have hv64 : v ≤ 64 := by omega
          have HT2 : Hid ((W1.setCell ⟨w.heap.size, j, none⟩ (.int .i64 ((v : Int) + 1))).rowIs w.heap.size 3 m1 fun n => .int .i64 ((N n (k + 1) : Nat) : Int)) := (HT.out.set j (.int .i64 ((v : Int) + 1))).congr fun n _ => by
            by_cases e : n = j
            · subst e; rw [if_pos rfl, hns]; rfl
            · rw [if_neg e, Hns.out n k, if_neg (fun e2 => e (by rw [← e2, Hp.out]))]
          have HB2 := Lib.hid (HB.out.setCell (p := ⟨w.heap.size, j, none⟩) (Nat.le_refl _) (.int .i64 ((v : Int) + 1)))
          have Hgo := Lib.hid (show k + 1 ≤ m ∧ k < m by omega)
          clear HT HB hv hns hnl hj hlj
          go_wp2
          go_roundw
          case rel => exact ⟨k + 1, Hgo.out.1, by go_num, HT2, HB2⟩
          case measure => simp [intOf]; have := Hgo.out; omega
    · obtain rfl : k = m := by omega
      have hc : ¬ (k : Int) < (k : Int) := by omega
      have Hbl := Lib.hid HT.out.lt
      have hm64 : k ≤ 64 := hm2
      go_wp2
      go_loopw [7, 8] (fun v i wr => ∃ n : Nat, 1 ≤ n ∧ n ≤ k + 1 ∧ i = .int .i64 n ∧ Hid (wr.ownsRow W1.heap.size 3 1 v (cycQ c n).length (intL (cycQ c n))) ∧ Hid (Below W1.heap.size W1 wr)) (fun _ i _ => k + 1 - (intOf i).toNat)
      case atStart => exact ⟨1, by omega, by omega, rfl, World.ownsRow_nil _ _ _ _, Below.refl _ _⟩
      case round =>
        obtain ⟨n, hn1, hn, rfl, HO, HB3⟩ := hrel
        generalize wr = W3 at *
        by_cases hln : n ≤ k
        · have hc2 : (n : Int) ≤ (k : Int) := by omega
          have hn64 : n ≤ 64 := by omega
          have hst := Hst.out n hn1
          have hl1 := Hlen.out (n + 1) (by omega)
          rw [hst, List.length_append, List.length_replicate] at hl1
          have HO0 : Hid (W3.ownsRow W1.heap.size 3 1 u7 ((cycQ c n).length + 0) (intL (cycQ c n ++ List.replicate 0 (n : Int)))) := by unfold Hid; rw [Nat.add_zero, List.replicate_zero, List.append_nil]; exact HO.out
          have hmn := Hmany.out n
          have hml := Hnl.out n k
          obtain ⟨q, hq⟩ : ∃ q, c n = q := ⟨_, rfl⟩
          rw [hq] at hl1 hst hmn
          have Hnums := Lib.hid (quo_nums hn1 (show n * q ≤ 64 by omega))
          have Hst1 := Lib.hid hst
          have Hmn := Lib.hid hmn
          have hnk : n < m1 := by have := Hm1.out; omega
          have hnki : (n : Int) < (m1 : Int) := by omega
          have Hck : Hid (∀ X : World, Below W1.heap.size W1 X → X.cell? ⟨w.heap.size, n, none⟩ = some (.int .i64 ((n * q : Nat) : Int))) := fun X hX => by
            rw [hX.cell (p := ⟨w.heap.size, n, none⟩) Hbl.out, HT.out.cell (i := n) hnk, Hmn.out]
          have Hgo := Lib.hid (show n + 1 ≤ k + 1 ∧ n < k + 1 by omega)
          have Hl1 := Lib.hid hl1
          clear hst hl1 hmn hml hq HO hln hn
          generalize cycQ c n = Q at *
          go_wp2
          go_loopw [7, 9] (fun v i wr => ∃ j : Nat, j ≤ q ∧ i = .int .i64 j ∧ Hid (wr.ownsRow W1.heap.size 3 1 v (Q.length + j) (intL (Q ++ List.replicate j (n : Int)))) ∧ Hid (Below W1.heap.size W1 wr)) (fun _ i _ => q - (intOf i).toNat)
          case atStart => exact ⟨0, Nat.zero_le _, rfl, HO0, HB3⟩
          case round =>
            clear HO0 HB3
            obtain ⟨j, hj, rfl, HO, HB4⟩ := hrel
            obtain ⟨a5, c5, hv5, -⟩ := Row.of_own HO.out
            subst hv5
            have ck := Hck.out wr HB4.out
            obtain ⟨p, hp⟩ : ∃ p : Nat, n * q = p := ⟨_, rfl⟩
            rw [hp] at ck
            have Hn := Hnums.out
            rw [hp] at Hn
            replace Hn := Lib.hid Hn
            by_cases hlj : j < q
            · have hc3 : (j : Int) < (q : Int) := by omega
              have hql : Q.length + j ≤ 64 := by have := Hl1.out; omega
              have Hg2 := Lib.hid (show j + 1 ≤ q ∧ j < q ∧ j ≤ 64 by omega)
              have hj64 : j ≤ 64 := Hg2.out.2.2
              clear hlj hj hp
              obtain ⟨n1, n2, n3, n4, n5, n6⟩ := Hn.out
              go_wp2_with (at_builtin; refine wpList_append_own _ rfl _ _ 22 rfl W1.heap.size 3 i0 (.int .i64 0) 1 8 Try.underlying22 hi hz0 hz1 hz2 rfl (by decide) _ _ _ rfl (HO.out.alloc (.cells #[.int .i64 (n : Int)] 3)) ⟨_, 0, none⟩ 1 1 [.int .i64 (n : Int)] rfl rfl (one_new _ _ _ _ (by simp)) (by simp [Value.oneCell']) (by unfold maxLen; omega) (by omega) (by have := HB4.out.size; simp; omega) ?_; intro v2 w6 hown2 hgrow2 _
                           obtain ⟨a6, c6, hv6, -⟩ := Row.of_own hown2
                           subst hv6
                           have HB6 : Hid (Below W1.heap.size W1 w6) := rel_push HB4.out (by have := HB4.out.size; simp; omega) ((Below.refl _ _).alloc HB4.out.size _) HO.out hgrow2
                           have HO6 := Lib.hid hown2
                           clear hown2 hgrow2)
              go_roundw
              case rel =>
                refine ⟨j + 1, Hg2.out.1, by go_num, ?_, HB6⟩
                unfold Hid
                rw [← Nat.add_assoc, List.replicate_succ', ← List.append_assoc]
                unfold intL at HO6 ⊢
                rw [List.map_append]
                exact HO6.out
              case measure => exact mz_upn Hg2.out.2.1
            · obtain rfl : j = q := by omega
              have hc3 : ¬ (j : Int) < (j : Int) := by omega
              have ho := HO.out
              rw [← Hst1.out] at ho
              have hll : Q.length + j = (cycQ c (n + 1)).length := by rw [Hst1.out, List.length_append, List.length_replicate]
              rw [hll] at ho
              have HO9 := Lib.hid ho
              clear ho hp hlj hj
              rw [hll]
              obtain ⟨n1, n2, n3, n4, n5, n6⟩ := Hn.out
              go_wp2
              go_roundw
              case rel => exact ⟨n + 1, by omega, Hgo.out.1, by go_num, HO9, HB4⟩
              case measure => exact mz_upn Hgo.out.2
        · obtain rfl : n = k + 1 := by omega
          have hc2 : ¬ ((k + 1 : Nat) : Int) ≤ (k : Int) := by omega
          have ho := HO.out
          rw [Hall.out] at ho
          obtain ⟨a5, c5, hv5, -⟩ := Row.of_own ho
          subst hv5
          have HO9 := Lib.hid (ho.mono HB.out.size)
          have HB9 := Lib.hid (b_next HB.out HB3.out)
          clear ho HO
          go_wp2
          go_ret
          exact ⟨_, rfl, HO9.out, HB9.out⟩
end Go.Proofs.Ytndbjojjaapeaaa

/- The walk of Inverted. -/
namespace Go.Proofs.Ytndbjojjaapeaaa
set_option linter.unusedVariables false
open Go.RowKit

theorem Order_full (m : Nat) (g cap : Nat) (F : List Int) (w : World) (hr : Row w (some ⟨g, 0, none⟩) m (intL F)) (hcap : m ≤ cap) (hcm : cap ≤ 9223372036854775807) (hm : 2 ≤ m) (hm2 : m ≤ 64) (hin : ∀ v ∈ F, 0 ≤ v ∧ v < m) (hp : (equalR F).1 = -1) :
    Calls Try.prog 34 #[.int .i64 m, .slice (some ⟨g, 0, none⟩) m cap] w fun e w' => e = .returned (.tuple #[.int .i64 (ordC (cycN (fnL F) m) : Nat), .int .i64 0]) ∧ Below w.heap.size w w' :=
  (Order_yes m g cap F w hr hcap hcm hm hm2 hin hp).mono fun e w' ⟨c, h1, h2, h3, h4⟩ => by
    rw [cyc_uniq h2 h3] at h1
    exact ⟨h1, h4⟩
theorem Cycles_full (m : Nat) (g cap : Nat) (F : List Int) (w : World) (hr : Row w (some ⟨g, 0, none⟩) m (intL F)) (hcap : m ≤ cap) (hcm : cap ≤ 9223372036854775807) (hm : 2 ≤ m) (hm2 : m ≤ 64) (hin : ∀ v ∈ F, 0 ≤ v ∧ v < m) (hp : (equalR F).1 = -1) :
    Calls Try.prog 35 #[.int .i64 m, .slice (some ⟨g, 0, none⟩) m cap] w fun e w' => ∃ v, e = .returned (.tuple #[v, .int .i64 0]) ∧ w'.ownsRow w.heap.size 3 1 v (cycL (cycN (fnL F) m)).length (intL (cycL (cycN (fnL F) m))) ∧ Below w.heap.size w w' :=
  (Cycles_yes m g cap F w hr hcap hcm hm hm2 hin hp).mono fun e w' ⟨c, v, h1, h2, h3, h4, h5⟩ => by
    rw [cyc_uniq h2 h3] at h4
    exact ⟨v, h1, h4, h5⟩
theorem LSt.done {c : Nat → Nat} {o L : Nat} (hL : (cycNL c).length = L) (h : LSt (cycNL c) L o) : o = ordC c :=
  h.lcm.uniq ((ordF_is c 65).congr fun n => by
    rw [List.take_of_length_le (by omega), Bool.eq_iff_iff, decide_eq_true_eq, decide_eq_true_eq, cycNL_mem])
theorem LSt.bound {c : Nat → Nat} {o k : Nat} (hs : sumT (fun n => n * c n) 65 ≤ 64) (h : LSt (cycNL c) k o) : o ≤ 17179869184 :=
  big_bound h.cube (Nat.le_trans (hSum_le fun n hn => ((cycNL_mem c n).1 (List.mem_of_mem_take (of_decide_eq_true hn))).2.2) hs)
theorem take_sum (C : List Nat) {k x : Nat} (h : C[k]? = some x) : (C.take (k + 1)).sum = (C.take k).sum + x := by
  rw [List.take_add_one, h, List.sum_append]; simp
theorem take_sum_le : ∀ (C : List Nat) (k : Nat), (C.take k).sum ≤ C.sum
  | [], k => by simp
  | a :: C, 0 => by simp
  | a :: C, k + 1 => by
    have := take_sum_le C k
    simp only [List.take_succ_cons, List.sum_cons]; omega
theorem lcm_nums {o x : Nat} (ho : o ≤ 17179869184) (h1 : 1 ≤ o) (hx : 1 ≤ x) (hx2 : x ≤ 64) : ∃ g q r : Nat, Nat.gcd o x = g ∧ Nat.lcm o x = r ∧ Int.tdiv (o : Int) (g : Int) = (q : Int) ∧ IntKind.i64.wrap (q : Int) = (q : Int) ∧ wrap64 (q : Int) = (q : Int) ∧ ¬ g = 0 ∧ ¬ (g : Int) = 0 ∧ ((g : Int) == 0) = false ∧ IntKind.i64.wrap ((q : Int) * (x : Int)) = (r : Int) ∧ wrap64 ((q : Int) * (x : Int)) = (r : Int) := by
  have hg : 1 ≤ Nat.gcd o x := Nat.gcd_pos_of_pos_left x h1
  have hl : o / Nat.gcd o x * x = Nat.lcm o x := by
    rw [Nat.lcm_comm, ← lcm_quo, Nat.gcd_comm, Nat.mul_comm]
  have hq : o / Nat.gcd o x ≤ 17179869184 := Nat.le_trans (Nat.div_le_self _ _) ho
  have ht : Int.tdiv (o : Int) (Nat.gcd o x : Int) = ((o / Nat.gcd o x : Nat) : Int) := by
    rw [Int.tdiv_eq_ediv_of_nonneg (Int.natCast_nonneg _)]; simp
  generalize o / Nat.gcd o x = q at hl hq ht
  have hr : Nat.lcm o x ≤ 17179869184 * 64 := by rw [← hl]; exact Nat.mul_le_mul hq hx2
  have e : (q : Int) * (x : Int) = ((Nat.lcm o x : Nat) : Int) := by rw [← hl]; simp
  generalize Nat.lcm o x = r at *
  generalize Nat.gcd o x = g at *
  have k1 : IntKind.i64.wrap (q : Int) = (q : Int) := IntWalk.i64_in _ (by clear ht e; omega)
  have k2 : wrap64 (q : Int) = (q : Int) := IntWalk.wrap64_in _ (by clear ht e k1; omega)
  have k3 : IntKind.i64.wrap ((q : Int) * (x : Int)) = (r : Int) := by rw [e]; exact IntWalk.i64_in _ (by clear ht e k1 k2; omega)
  have k4 : wrap64 ((q : Int) * (x : Int)) = (r : Int) := by rw [e]; exact IntWalk.wrap64_in _ (by clear ht e k1 k2 k3; omega)
  exact ⟨g, q, r, rfl, rfl, ht, k1, k2, by clear ht e k1 k2 k3 k4; omega, by clear ht e k1 k2 k3 k4; omega, by clear ht e k1 k2 k3 k4; rw [beq_eq_false_iff_ne]; omega, k3, k4⟩
set_option maxRecDepth 100000 in
set_option maxHeartbeats 8000000 in
theorem inv_no (x : Int) (pv : Value) (row F : List Int) (m : Nat) (w : World) (hP : RowIn w pv row) (hm : 2 ≤ m) (hm2 : m ≤ 64) (w2 : IntKind.i64.wrap (2 + (modV x 63 : Int)) = (m : Int)) (hval : valuesL m (tamL m row) = F) (hfl : F.length = m) (hin : ∀ v ∈ F, 0 ≤ v ∧ v < m) (y z : Nat) (hyz : y < z) (hz : z < m) (hE : equalR F = ((y : Int), (z : Int))) (hyzF : F.getD y 0 = F.getD z 0) : Calls Try.prog 9 #[.int .i64 x, pv] w fun e w' => e = .returned (.bool true) ∧ Below w.heap.size w w' := by
  have HM := Lib.hid (mod_val x 63 w (by omega) (by omega))
  have HTP := Lib.hid (tame_in m pv row w (by omega) hm2 hP)
  have hpol := tamL_poly hm hm2 row
  obtain ⟨hp12, hpin⟩ := tamL_in (m := m) (by omega) row
  generalize modV x 63 = r at *
  generalize tamL m row = P at *
  obtain ⟨n, hn⟩ : ∃ n, P.length = n := ⟨_, rfl⟩
  rw [hn] at HTP hp12
  have HV := Lib.hid fun a cap W hW => Values_yes m a n cap P W hW hpol
  have HPm := Lib.hid fun a cap W hW => Permutes_yes m a n cap P W hW hpol
  rw [hval] at HV HPm
  have hFn := fun a cap W hW => refFunc_any (m : Int) a m cap F W hW (by omega)
  rw [show (decide ((m : Int) = (m : Int)) && remB m F) = true from by
    rw [decide_eq_true rfl, Bool.true_and]
    unfold remB
    rw [List.all_eq_true]
    exact fun v hv => decide_eq_true (hin v hv)] at hFn
  have HFn := Lib.hid hFn
  have HA := Lib.hid fun w => awake_any w
  have Hm := Lib.hid (show 0 < m by omega)
  rw [hE] at HPm
  have hI := fun g cap W hW h1 h2 => isPerm_any m g cap F W hW h1 h2 hm hm2 hin
  rw [hE, show decide (((y : Int), (z : Int)).1 < 0) = false from decide_eq_false (by simp only; omega)] at hI
  have HIn := Lib.hid fun g cap W hW h1 h2 => Inverse_no (m : Int) (some ⟨g, 0, none⟩) m cap W (hI g cap W hW h1 h2)
  have HOr := Lib.hid fun g cap W hW h1 h2 => Order_no (m : Int) (some ⟨g, 0, none⟩) m cap W (hI g cap W hW h1 h2)
  have HCy := Lib.hid fun g cap W hW h1 h2 => Cycles_no (m : Int) (some ⟨g, 0, none⟩) m cap W (hI g cap W hW h1 h2)
  obtain ⟨u, hu⟩ : ∃ u, F.getD y 0 = u := ⟨_, rfl⟩
  have Hcl : Hid (∀ (a : Option Addr) W, Row W a m (intL F) → ∃ g, a = some ⟨g, 0, none⟩ ∧ W.cell? ⟨g, y, none⟩ = some (.int .i64 u) ∧ W.cell? ⟨g, z, none⟩ = some (.int .i64 u)) := fun a W h => by
    obtain ⟨g, h1, h2⟩ := h.int (show y < m by omega)
    obtain ⟨g', h3, h4⟩ := h.int hz
    rw [h1] at h3
    simp only [Option.some.injEq, Addr.mk.injEq, and_true] at h3
    subst h3
    rw [← hyzF, hu] at h4
    rw [hu] at h2
    exact ⟨g, h1, h2, h4⟩
  have hy1 : ((y : Int) == -1) = false := by rw [beq_eq_false_iff_ne]; omega
  have hz1 : ((z : Int) == -1) = false := by rw [beq_eq_false_iff_ne]; omega
  have hy0 : (0 : Int) ≤ (y : Int) := by omega
  have hd1 : decide ((y : Int) < (z : Int)) = true := decide_eq_true (by omega)
  have hd2 : decide ((z : Int) < (m : Int)) = true := decide_eq_true (by omega)
  have hd3 : decide (y < z) = true := decide_eq_true hyz
  have hd4 : decide (z < m) = true := decide_eq_true hz
  have Hd := Lib.hid (And.intro hd1 (And.intro hd2 (And.intro hd3 hd4)))
  have huu : (u == u) = true := by simp
  have hym : (y : Int) < (m : Int) := by omega
  have hzm : (z : Int) < (m : Int) := by omega
  clear hval hfl hin hpol hpin hn hFn hP hI hE hyzF hu hd1 hd2 hd3 hd4 hp12
  go_enter Try.func9, Try.ntmps9
  go_wp2_with fail
  refine (HM.out).mono ?_
  rintro e w1 ⟨rfl, hw⟩
  subst w1
  go_wp2_with fail
  refine (HTP.out).mono ?_
  rintro e w2 ⟨v2, rfl, ho, b2⟩
  have B2 := Lib.hid b2
  clear b2
  obtain ⟨a1, c1, hv, hc1, r2⟩ := own_slice ho
  subst v2
  have RP := Lib.hid r2
  clear ho r2
  go_wp2_with fail
  refine (HV.out _ _ _ RP.out).mono ?_
  rintro e w3 ⟨v3, rfl, ho, b3⟩
  have B3 := Lib.hid (b_next B2.out b3)
  clear B2
  replace RP := Lib.hid (RP.out.below b3)
  clear b3
  obtain ⟨gf, cf, rfl, hcf, hcfm, -, hrf⟩ := own_full ho Hm.out
  have RF := Lib.hid hrf
  have Hcf := Lib.hid (And.intro hcf hcfm)
  clear ho hrf hcf hcfm
  go_wp2_with fail
  refine (HPm.out _ _ _ RP.out).mono ?_
  rintro e w4 ⟨rfl, b4⟩
  have B4 := Lib.hid (b_next B3.out b4)
  clear B3
  replace RP := Lib.hid (RP.out.below b4)
  replace RF := Lib.hid (RF.out.below b4)
  clear b4
  clear RP
  go_wp2_with fail
  refine (HIn.out _ _ _ RF.out Hcf.out.1 Hcf.out.2).mono ?_
  rintro e w5 ⟨rfl, hw⟩
  subst w5
  go_wp2_with fail
  refine (HOr.out _ _ _ RF.out Hcf.out.1 Hcf.out.2).mono ?_
  rintro e w6 ⟨rfl, hw⟩
  subst w6
  go_wp2_with fail
  refine (HCy.out _ _ _ RF.out Hcf.out.1 Hcf.out.2).mono ?_
  rintro e w7 ⟨rfl, hw⟩
  subst w7
  go_wp2_with fail
  refine (HFn.out _ _ _ RF.out).mono ?_
  rintro e w8 ⟨rfl, hw⟩
  subst w8
  obtain ⟨gf', ef, cy, cz⟩ := Hcl.out _ _ RF.out
  cases ef
  obtain ⟨hd1, hd2, hd3, hd4⟩ := Hd.out
  clear hd1 hd2 hyz hz HM HTP HV HPm HFn HIn HOr HCy
  go_wp2_with fail
  go_still_tail 32, (by kernel_rfl)
  change wpList _ _ _ _ _ w4.drew
  have hBd : Hid (Below w.heap.size w w4.drew) := B4.out.drew
  generalize w4.drew = w80 at *
  clear cy cz hd3 hd4 huu hym hzm hy0 hy1 hz1
  go_wp2_with (go_at_call 24; refine (HA.out _).mono ?_; rintro e w81 ⟨rfl, b81⟩)
  go_ret
  exact ⟨rfl, b_next hBd.out b81⟩

set_option maxRecDepth 100000 in
set_option maxHeartbeats 8000000 in
theorem inv_yes (x : Int) (pv : Value) (row F : List Int) (m : Nat) (w : World) (hP : RowIn w pv row) (hm : 2 ≤ m) (hm2 : m ≤ 64) (w2 : IntKind.i64.wrap (2 + (modV x 63 : Int)) = (m : Int)) (hval : valuesL m (tamL m row) = F) (hfl : F.length = m) (hin : ∀ v ∈ F, 0 ≤ v ∧ v < m) (hp : (equalR F).1 = -1) (hp2 : (equalR F).2 = -1) : Calls Try.prog 9 #[.int .i64 x, pv] w fun e w' => e = .returned (.bool true) ∧ Below w.heap.size w w' := by
  have HM := Lib.hid (mod_val x 63 w (by omega) (by omega))
  have HTP := Lib.hid (tame_in m pv row w (by omega) hm2 hP)
  have hpol := tamL_poly hm hm2 row
  obtain ⟨hp12, hpin⟩ := tamL_in (m := m) (by omega) row
  generalize modV x 63 = r at *
  generalize tamL m row = P at *
  obtain ⟨n, hn⟩ : ∃ n, P.length = n := ⟨_, rfl⟩
  rw [hn] at HTP hp12
  have HV := Lib.hid fun a cap W hW => Values_yes m a n cap P W hW hpol
  have HPm := Lib.hid fun a cap W hW => Permutes_yes m a n cap P W hW hpol
  rw [hval] at HV HPm
  have hFn := fun a cap W hW => refFunc_any (m : Int) a m cap F W hW (by omega)
  rw [show (decide ((m : Int) = (m : Int)) && remB m F) = true from by
    rw [decide_eq_true rfl, Bool.true_and]
    unfold remB
    rw [List.all_eq_true]
    exact fun v hv => decide_eq_true (hin v hv)] at hFn
  have HFn := Lib.hid hFn
  have HA := Lib.hid fun w => awake_any w
  have Hm := Lib.hid (show 0 < m by omega)
  obtain ⟨i0, hi, hz0, hz1, hz2⟩ := info_parts info_int
  rw [hp, hp2] at HPm
  obtain ⟨hPF, hFx⟩ := fnL_perm hfl hin hp
  have hW := invW hPF
  obtain ⟨l, hlf, hll⟩ := inv_form hm hm2 hval hPF hFx
  have hmany := fun n => many_cyc hPF n
  have hsum := count_sum hPF hm2 hmany
  have hle : ∀ n, 0 < cycN (fnL F) m n → n ≤ m := fun n h => many_le hmany h
  have HIn := Lib.hid fun g cap W hW h1 h2 => Inverse_yes m g cap F W hW h1 h2 hm hm2 hin hp
  have hOr := fun g cap W hW h1 h2 => Order_full m g cap F W hW h1 h2 hm hm2 hin hp
  have hCy := fun g cap W hW h1 h2 => Cycles_full m g cap F W hW h1 h2 hm hm2 hin hp
  have hOr2 := fun g cap W hW2 h1 h2 => Order_full m g cap (invL F m) W hW2 h1 h2 hm hm2 hW.inn hW.one
  have hCy2 := fun g cap W hW2 h1 h2 => Cycles_full m g cap (invL F m) W hW2 h1 h2 hm hm2 hW.inn hW.one
  rw [hW.cyc] at hOr2 hCy2
  have HFo := Lib.hid fun a cap W hW2 => Form_some m a cap (invL F m) l W hW2 hm hm2 hW.inn hlf
  have hAf := fun fa ga fc gc W hf hg => After_yes m fa ga fc gc F (invL F m) W hf hg hm hm2 hin hW.inn
  rw [show ((List.range m).map fun x : Nat => (invL F m).getD (F.getD x 0).toNat 0) = (List.range m).map fun x : Nat => (x : Int) from List.map_congr_left fun x hx => hW.left x (List.mem_range.1 hx)] at hAf
  have hrg : ∀ x, x < m → ((List.range m).map fun x : Nat => (x : Int)).getD x 0 = (x : Int) := fun x hx => by
    rw [List.getD_eq_getElem?_getD, List.getElem?_map, List.getElem?_range hx]; rfl
  generalize ((List.range m).map fun x : Nat => (x : Int)) = A at *
  generalize cycN (fnL F) m = c at *
  rw [cycL_cast c] at hCy hCy2
  simp only [List.length_map] at hCy hCy2
  obtain ⟨L, hL⟩ : ∃ L, (cycNL c).length = L := ⟨_, rfl⟩
  rw [hL] at hCy hCy2
  have hcs : (cycNL c).sum = m := by rw [← hsum]; exact cycNL_sum c 65
  have hcm : ∀ (k y : Nat), (cycNL c)[k]? = some y → 1 ≤ y ∧ y ≤ m := fun k y h => by
    obtain ⟨h1, h2, h3⟩ := (cycNL_mem c y).1 (List.mem_of_getElem? h)
    exact ⟨h2, hle y h3⟩
  have hco : ∀ (k y z : Nat), (cycNL c)[k]? = some y → (cycNL c)[k + 1]? = some z → y ≤ z := fun k y z h1 h2 => by
    have hp := List.pairwise_iff_getElem.1 (cycNL_sorted c) k (k + 1) (List.getElem?_eq_some_iff.1 h1).1 (List.getElem?_eq_some_iff.1 h2).1 (Nat.lt_succ_self k)
    rw [(List.getElem?_eq_some_iff.1 h1).2, (List.getElem?_eq_some_iff.1 h2).2] at hp
    exact hp
  have hL64 : L ≤ 64 := by
    have h1 := cyc_len c 65
    have h2 : (cycL c).length = L := by rw [cycL_cast, List.length_map, hL]
    have h3 : (cycL c).length ≤ sumT (fun n => n * c n) 65 := h1
    omega
  have hI := fun a b ca cb W h1 h2 => ints_true a b L ca cb ((cycNL c).map fun n : Nat => (n : Int)) W h1 h2 (by omega)
  have hts : ∀ k y, (cycNL c)[k]? = some y → ((cycNL c).take (k + 1)).sum = ((cycNL c).take k).sum + y := fun k y h => take_sum _ h
  have htl : ∀ k, ((cycNL c).take k).sum ≤ m := fun k => by rw [← hcs]; exact take_sum_le _ k
  have hta : ((cycNL c).take L).sum = m := by rw [List.take_of_length_le (by omega)]; exact hcs
  have hbd := fun (k o : Nat) (h : LSt (cycNL c) k o) => h.bound (by rw [hsum]; exact hm2)
  have hdn := fun (o : Nat) (h : LSt (cycNL c) L o) => LSt.done hL h
  have hst := LSt.start (cycNL c)
  generalize ordC c = O at *
  generalize cycNL c = C at *
  have hap : ∀ (a : Option Addr) W, Row W a L (intL (C.map fun n : Nat => (n : Int))) → ∀ (k y : Nat), C[k]? = some y → ∃ g, a = some ⟨g, 0, none⟩ ∧ W.cell? ⟨g, k, none⟩ = some (.int .i64 (y : Int)) := fun a W h k y hk => by
    have hkl := (List.getElem?_eq_some_iff.1 hk).1
    obtain ⟨g, h1, _, h3⟩ := h.2 (by omega)
    exact ⟨g, h1, h3 k _ (intL_get (by rw [List.getElem?_map, hk]; rfl))⟩
  have HOr := Lib.hid hOr
  have HCy := Lib.hid hCy
  have HOr2 := Lib.hid hOr2
  have HCy2 := Lib.hid hCy2
  have HAf := Lib.hid hAf
  have HI := Lib.hid hI
  have HL := Lib.hid hL
  have Hcm := Lib.hid hcm
  have Hco := Lib.hid hco
  have Hts := Lib.hid hts
  have Htl := Lib.hid htl
  have Hta := Lib.hid hta
  have Hbd := Lib.hid hbd
  have Hdn := Lib.hid hdn
  have Hst := Lib.hid hst
  have Hap := Lib.hid hap
  have Hrg := Lib.hid hrg
  have hOO : ((O : Int) == (O : Int)) = true := by simp
  have hmm : ((m : Int) == (m : Int)) = true := by simp
  generalize l.length = ll at *
  clear hval hfl hin hpol hpin hn hFn hP hp hp2 hPF hFx hW hlf hll hmany hsum hle hOr hCy hOr2 hCy2 hAf hrg hL hcs hcm hco hI hts htl hta hbd hdn hst hap hp12
  go_enter Try.func9, Try.ntmps9
  go_wp2_with fail
  refine (HM.out).mono ?_
  rintro e w1 ⟨rfl, hw⟩
  subst w1
  go_wp2_with fail
  refine (HTP.out).mono ?_
  rintro e w2 ⟨v2, rfl, ho, b2⟩
  have B2 := Lib.hid b2
  clear b2
  obtain ⟨a1, c1, hv, hc1, r2⟩ := own_slice ho
  subst v2
  have RP := Lib.hid r2
  clear ho r2
  go_wp2_with fail
  refine (HV.out _ _ _ RP.out).mono ?_
  rintro e w3 ⟨v3, rfl, ho, b3⟩
  have B3 := Lib.hid (b_next B2.out b3)
  clear B2
  replace RP := Lib.hid (RP.out.below b3)
  clear b3
  obtain ⟨gf, cf, rfl, hcf, hcfm, -, hrf⟩ := own_full ho Hm.out
  have RF := Lib.hid hrf
  have Hcf := Lib.hid (And.intro hcf hcfm)
  clear ho hrf hcf hcfm
  go_wp2_with fail
  refine (HPm.out _ _ _ RP.out).mono ?_
  rintro e w4 ⟨rfl, b4⟩
  have B4 := Lib.hid (b_next B3.out b4)
  clear B3
  replace RP := Lib.hid (RP.out.below b4)
  replace RF := Lib.hid (RF.out.below b4)
  clear b4
  clear RP
  go_wp2_with fail
  refine (HIn.out _ _ _ RF.out Hcf.out.1 Hcf.out.2).mono ?_
  rintro e w5 ⟨v5, rfl, ho, b5⟩
  have B5 := Lib.hid (b_next B4.out b5)
  clear B4
  replace RF := Lib.hid (RF.out.below b5)
  clear b5
  obtain ⟨gi, ci, rfl, hci, hcim, -, hri⟩ := own_full ho Hm.out
  have RI := Lib.hid hri
  have Hci := Lib.hid (And.intro hci hcim)
  clear ho hri hci hcim
  go_wp2_with fail
  refine (HOr.out _ _ _ RF.out Hcf.out.1 Hcf.out.2).mono ?_
  rintro e w6 ⟨rfl, b6⟩
  have B6 := Lib.hid (b_next B5.out b6)
  clear B5
  replace RF := Lib.hid (RF.out.below b6)
  replace RI := Lib.hid (RI.out.below b6)
  clear b6
  go_wp2_with fail
  refine (HCy.out _ _ _ RF.out Hcf.out.1 Hcf.out.2).mono ?_
  rintro e w7 ⟨v7, rfl, ho, b7⟩
  have B7 := Lib.hid (b_next B6.out b7)
  clear B6
  replace RF := Lib.hid (RF.out.below b7)
  replace RI := Lib.hid (RI.out.below b7)
  clear b7
  obtain ⟨ac, cc, hv, hcc, r7⟩ := own_slice ho
  subst v7
  have RC := Lib.hid r7
  clear ho r7
  go_wp2_with fail
  refine (HFn.out _ _ _ RF.out).mono ?_
  rintro e w8 ⟨rfl, hw⟩
  subst w8
  go_wp2_with fail
  refine (HOr2.out _ _ _ RI.out Hci.out.1 Hci.out.2).mono ?_
  rintro e w9 ⟨rfl, b9⟩
  have B9 := Lib.hid (b_next B7.out b9)
  clear B7
  replace RF := Lib.hid (RF.out.below b9)
  replace RI := Lib.hid (RI.out.below b9)
  replace RC := Lib.hid (RC.out.below b9)
  clear b9
  go_wp2_with fail
  refine (HCy2.out _ _ _ RI.out Hci.out.1 Hci.out.2).mono ?_
  rintro e w10 ⟨v10, rfl, ho, b10⟩
  have B10 := Lib.hid (b_next B9.out b10)
  clear B9
  replace RF := Lib.hid (RF.out.below b10)
  replace RI := Lib.hid (RI.out.below b10)
  replace RC := Lib.hid (RC.out.below b10)
  clear b10
  obtain ⟨ad, cd, hv, hcd, r10⟩ := own_slice ho
  subst v10
  have RD := Lib.hid r10
  clear ho r10
  go_wp2_with fail
  refine (HFo.out _ _ _ RI.out).mono ?_
  rintro e w11 ⟨v11, rfl, ho, b11⟩
  have B11 := Lib.hid (b_next B10.out b11)
  clear B10
  replace RF := Lib.hid (RF.out.below b11)
  replace RI := Lib.hid (RI.out.below b11)
  replace RC := Lib.hid (RC.out.below b11)
  replace RD := Lib.hid (RD.out.below b11)
  clear b11
  obtain ⟨al, cl, hv, hcl, r11⟩ := own_slice ho
  subst v11
  have RL := Lib.hid r11
  clear ho r11
  clear RL
  go_wp2_with fail
  refine (HAf.out _ _ _ _ _ RF.out RI.out).mono ?_
  rintro e w12 ⟨v12, rfl, ho, b12⟩
  have B12 := Lib.hid (b_next B11.out b12)
  clear B11
  replace RF := Lib.hid (RF.out.below b12)
  replace RI := Lib.hid (RI.out.below b12)
  replace RC := Lib.hid (RC.out.below b12)
  replace RD := Lib.hid (RD.out.below b12)
  clear b12
  obtain ⟨aa, ca, hv, hca, r12⟩ := own_slice ho
  subst v12
  have RA := Lib.hid r12
  clear ho r12
  go_wp2_with fail
  refine (HI.out _ _ _ _ _ RC.out RD.out).mono ?_
  rintro e w13 ⟨rfl, hq⟩
  have b13 := drew_below hq
  clear hq
  have B13 := Lib.hid (b_next B12.out b13)
  clear B12
  replace RF := Lib.hid (RF.out.below b13)
  replace RI := Lib.hid (RI.out.below b13)
  replace RC := Lib.hid (RC.out.below b13)
  replace RD := Lib.hid (RD.out.below b13)
  replace RA := Lib.hid (RA.out.below b13)
  clear b13
  go_wp2
  generalize w13 = WQ at *
  clear HM HTP HV HPm HFn HIn HOr HCy HOr2 HCy2 HFo HAf HI RD RI RF Hcf Hci
  go_loopw [25, 26, 27] (fun sv ov i wr => ∃ (k o q : Nat), k ≤ L ∧ i = .int .i64 k ∧ sv = .int .i64 ((C.take k).sum : Nat) ∧ ov = .int .i64 o ∧ Hid (LSt C k o) ∧ wr = WQ.drewN q) (fun _ _ i _ => L - (intOf i).toNat)
  case atStart => exact ⟨0, 1, 0, Nat.zero_le _, rfl, by simp, rfl, Hst.out, rfl⟩
  case round =>
    obtain ⟨k, o, q, hk, rfl, rfl, rfl, HS, hw⟩ := hrel
    subst wr
    by_cases hlt : k < L
    · have hc : (k : Int) < (L : Int) := by omega
      have Hgo := Lib.hid (show k + 1 ≤ L ∧ k < L ∧ k ≤ 64 by omega)
      obtain ⟨y, hy⟩ : ∃ y, C[k]? = some y := ⟨_, List.getElem?_eq_getElem (by have := HL.out; omega)⟩
      obtain ⟨gc, rfl, cy⟩ := Hap.out _ _ RC.out k y hy
      obtain ⟨y1, ym⟩ := Hcm.out k y hy
      have hts := Hts.out k y hy
      have htl := Htl.out (k + 1)
      have HN := Lib.hid (HS.out.next hy y1 (by omega))
      have hy64 : y ≤ 64 := by omega
      have Hnums := Lib.hid (lcm_nums (Hbd.out k o HS.out) HS.out.lcm.pos y1 hy64)
      have hob := Hbd.out k o HS.out
      have hgc := fun W => refGcd_any o y (by omega) (by omega) W
      obtain ⟨s, hs⟩ : ∃ s, (C.take k).sum = s := ⟨_, rfl⟩
      rw [hs] at hts ⊢
      rw [hts] at htl
      have Hyl : Hid (decide (m < y) = false ∧ decide ((y : Int) < 1) = false) := ⟨decide_eq_false (by omega), decide_eq_false (by omega)⟩
      have Hts2 : Hid ((((C.take (k + 1)).sum : Nat) : Int) = ((s + y : Nat) : Int)) := by unfold Hid; rw [hts]
      have hprev : k = 0 ∨ ∃ k1 z : Nat, 0 < k ∧ k = k1 + 1 ∧ z ≤ y ∧ WQ.cell? ⟨gc, k1, none⟩ = some (.int .i64 (z : Int)) := by
        by_cases h0 : k = 0
        · exact .inl h0
        · obtain ⟨k1, rfl⟩ : ∃ k1, k = k1 + 1 := ⟨k - 1, by omega⟩
          obtain ⟨z, hz⟩ : ∃ z, C[k1]? = some z := ⟨_, List.getElem?_eq_getElem (by have := HL.out; omega)⟩
          obtain ⟨g', e, cz⟩ := Hap.out _ _ RC.out k1 z hz
          simp only [Option.some.injEq, Addr.mk.injEq, and_true] at e
          subst e
          exact .inr ⟨k1, z, by omega, rfl, Hco.out k1 z y hz hy, cz⟩
      have Hsw : Hid (IntKind.i64.wrap ((s : Int) + (y : Int)) = ((s + y : Nat) : Int) ∧ wrap64 ((s : Int) + (y : Int)) = ((s + y : Nat) : Int)) := by
        refine ⟨?_, ?_⟩
        · rw [IntWalk.i64_in _ (by omega)]; rfl
        · rw [IntWalk.wrap64_in _ (by omega)]; rfl
      obtain ⟨g9, q9, r9, e1, e2, n1, n2, n3, n4, n5, n6, n7, n8⟩ := Hnums.out
      rw [e1] at hgc
      rw [e2] at HN
      have HG := Lib.hid hgc
      have Hn := Lib.hid (And.intro n1 (And.intro n2 (And.intro n3 (And.intro n4 (And.intro n5 (And.intro n6 (And.intro n7 n8)))))))
      have hkL : k ≤ 64 := Hgo.out.2.2
      clear Hnums hy64 hs hts htl hob hgc e1 e2 n1 n2 n3 n4 n5 n6 n7 n8 hy y1 ym hk hlt HS
      rcases hprev with h0 | ⟨k1, z, hk0, hk1, hzy, cz⟩
      · have Zz : Hid (decide (0 < k) = false) := decide_eq_false (by rw [h0]; exact Nat.lt_irrefl 0)
        clear h0
        go_wp2_with fail
        have zz := Zz.out
        obtain ⟨a1', a2'⟩ := Hyl.out
        go_quiet (fail)
        clear zz a1' a2'
        go_wp2
        obtain ⟨hsw, hsw2⟩ := Hsw.out
        obtain ⟨n1, n2, n3, n4, n5, n6, n7, n8'⟩ := Hn.out
        go_wp2
        go_quiet ((go_at_call 59; first | exact quiet_still (HG.out _) | exact Calls.quiet_of_same (HG.out _)))
        clear hsw hsw2 n1 n2 n3 n4 n5 n6 n7 n8'
        go_wp2
        go_roundw
        case rel => exact ⟨k + 1, r9, _, Hgo.out.1, by go_num, by rw [Hts2.out, Hsw.out.2], rfl, HN.out, by first | rfl | exact World.drewN_drewN _ _ _ | trivial⟩
        case measure => simp [intOf]; have := Hgo.out; omega
      · have hk1L : k1 < L := by have := Hgo.out; omega
        have hk1i : (k1 : Int) < (L : Int) := by omega
        have hnzy : ¬ y < z := by omega
        have N9 : Hid (IntKind.i64.wrap ((k : Int) - 1) = (k1 : Int) ∧ wrap64 ((k : Int) - 1) = (k1 : Int)) := by
          refine ⟨?_, ?_⟩
          · rw [IntWalk.i64_in _ (by omega)]; omega
          · rw [IntWalk.wrap64_in _ (by omega)]; omega
        have hgt : decide (y < z) = false := decide_eq_false hnzy
        have Hgt := Lib.hid hgt
        have Zz : Hid (decide (0 < k) = true) := decide_eq_true hk0
        clear hnzy hgt
        clear hk0 hk1 hzy
        go_wp2_with fail
        have zz := Zz.out
        have hgt := Hgt.out
        obtain ⟨n9, n8⟩ := N9.out
        obtain ⟨a1', a2'⟩ := Hyl.out
        go_quiet (fail)
        clear zz a1' a2' n9 n8 hgt cz hk1L hk1i
        go_wp2
        obtain ⟨hsw, hsw2⟩ := Hsw.out
        obtain ⟨n1, n2, n3, n4, n5, n6, n7, n8'⟩ := Hn.out
        go_wp2
        go_quiet ((go_at_call 59; first | exact quiet_still (HG.out _) | exact Calls.quiet_of_same (HG.out _)))
        clear hsw hsw2 n1 n2 n3 n4 n5 n6 n7 n8'
        go_wp2
        go_roundw
        case rel => exact ⟨k + 1, r9, _, Hgo.out.1, by go_num, by rw [Hts2.out, Hsw.out.2], rfl, HN.out, by first | rfl | exact World.drewN_drewN _ _ _ | trivial⟩
        case measure => simp [intOf]; have := Hgo.out; omega
    · obtain rfl : k = L := by omega
      have hc : ¬ (k : Int) < (k : Int) := by omega
      obtain rfl := Hdn.out o HS.out
      rw [Hta.out]
      clear HS RC hk hlt
      go_wp2
      go_loopw [28] (fun i wr => ∃ (z q : Nat), z ≤ m ∧ i = .int .i64 z ∧ wr = WQ.drewN q) (fun i _ => m - (intOf i).toNat)
      case atStart => exact ⟨0, q, Nat.zero_le _, rfl, rfl⟩
      case round =>
        obtain ⟨z, q2, hz, rfl, hw⟩ := hrel
        subst wr
        by_cases hlz : z < m
        · have hcz : (z : Int) < (m : Int) := by omega
          obtain ⟨ga, rfl, caz⟩ := RA.out.int hlz
          rw [Hrg.out z hlz] at caz
          have hzz : ((z : Int) == (z : Int)) = true := by simp
          have Hgz := Lib.hid (show z + 1 ≤ m ∧ z < m by omega)
          go_wp2
          go_roundw
          case rel => exact ⟨z + 1, _, Hgz.out.1, by go_num, rfl⟩
          case measure => simp [intOf]; have := Hgz.out; omega
        · obtain rfl : z = m := by omega
          have hcz : ¬ (z : Int) < (z : Int) := by omega
          have BZ := Lib.hid (below_drewN B13.out q2)
          go_wp2_with fail
          refine (HA.out _).mono ?_
          rintro e' w80 ⟨rfl, b80⟩
          have B80 := Lib.hid (b_next BZ.out b80)
          clear b80
          go_wp2
          go_ret
          exact ⟨rfl, B80.out⟩
theorem walk_ShuffleInverted (x : Int) (_ : (Lit.int .i64 x).wf = true) (pv : Value) (rp : List Int) (w : World) (hP : RowIn w pv rp) : Calls Try.prog 9 #[.int .i64 x, pv] w fun e w' => e = .returned (.bool true) ∧ Below w.heap.size w w' := by
  have hr := modV_lt x 63 (by omega)
  obtain ⟨m, hm⟩ : ∃ m, modV x 63 + 2 = m := ⟨_, rfl⟩
  have w2 : IntKind.i64.wrap (2 + (modV x 63 : Int)) = (m : Int) := by rw [IntWalk.i64_in _ (by omega)]; omega
  have hl := valuesL_len m (tamL m rp)
  have hin : ∀ v ∈ valuesL m (tamL m rp), 0 ≤ v ∧ v < m := valuesL_in (by omega) _
  rcases equalR_cases (valuesL m (tamL m rp)) hl with h | ⟨y, z, h1, h2, h3, h4⟩
  · exact inv_yes x pv rp _ m w hP (by omega) (by omega) w2 rfl hl hin (by rw [h]) (by rw [h])
  · exact inv_no x pv rp _ m w hP (by omega) (by omega) w2 rfl hl hin y z h1 h2 h3 h4
end Go.Proofs.Ytndbjojjaapeaaa

/- The reference's Order. -/
namespace Go.Proofs.Ytndbjojjaapeaaa
set_option linter.unusedVariables false
open Go.RowKit

set_option maxRecDepth 100000 in
set_option maxHeartbeats 4000000 in
theorem refOrder_any (m : Nat) (g cap : Nat) (F : List Int) (f : Nat → Nat) (w : World) (hr : Row w (some ⟨g, 0, none⟩) m (intL F)) (hm : 2 ≤ m) (hm2 : m ≤ 64) (hf : PermF f m) (hF : ∀ x, x < m → F.getD x 0 = (f x : Int)) :
    Calls Try.prog 40 #[.slice (some ⟨g, 0, none⟩) m cap] w fun e w' => e = .returned (.int .i64 (ordC (cycN f m) : Nat)) ∧ Below w.heap.size w w' := by
  have hCy := refCycles_any m g cap F f w hr hm hm2 hf hF
  have hmany := fun n => many_cyc hf n
  have hsum := count_sum hf hm2 hmany
  have hle : ∀ n, 0 < cycN f m n → n ≤ m := fun n h => many_le hmany h
  generalize cycN f m = c at *
  rw [cycL_cast c] at hCy
  simp only [List.length_map] at hCy
  obtain ⟨L, hL⟩ : ∃ L, (cycNL c).length = L := ⟨_, rfl⟩
  rw [hL] at hCy
  have hcm : ∀ (k y : Nat), (cycNL c)[k]? = some y → 1 ≤ y ∧ y ≤ m := fun k y h => by
    obtain ⟨h1, h2, h3⟩ := (cycNL_mem c y).1 (List.mem_of_getElem? h)
    exact ⟨h2, hle y h3⟩
  have hL64 : L ≤ 64 := by
    have h1 := cyc_len c 65
    have h2 : (cycL c).length = L := by rw [cycL_cast, List.length_map, hL]
    have h3 : (cycL c).length ≤ sumT (fun n => n * c n) 65 := h1
    omega
  have hbd := fun (k o : Nat) (h : LSt (cycNL c) k o) => h.bound (by rw [hsum]; exact hm2)
  have hdn := fun (o : Nat) (h : LSt (cycNL c) L o) => LSt.done hL h
  have hst := LSt.start (cycNL c)
  generalize ordC c = O at *
  generalize cycNL c = C at *
  have hap : ∀ (a : Option Addr) W, Row W a L (intL (C.map fun n : Nat => (n : Int))) → ∀ (k y : Nat), C[k]? = some y → ∃ g, a = some ⟨g, 0, none⟩ ∧ W.cell? ⟨g, k, none⟩ = some (.int .i64 (y : Int)) := fun a W h k y hk => by
    have hkl := (List.getElem?_eq_some_iff.1 hk).1
    obtain ⟨g, h1, _, h3⟩ := h.2 (by omega)
    exact ⟨g, h1, h3 k _ (intL_get (by rw [List.getElem?_map, hk]; rfl))⟩
  have HCy := Lib.hid hCy
  have HL := Lib.hid hL
  have Hcm := Lib.hid hcm
  have Hbd := Lib.hid hbd
  have Hdn := Lib.hid hdn
  have Hst := Lib.hid hst
  have Hap := Lib.hid hap
  clear hCy hmany hsum hle hL hcm hbd hdn hst hap hr hf hF
  go_enter Try.func40, Try.ntmps40
  go_wp2_with fail
  refine HCy.out.mono ?_
  rintro e w1 ⟨v1, rfl, ho, b1⟩
  have B1 := Lib.hid b1
  obtain ⟨ac, cc, hv, hcc, r7⟩ := own_slice ho
  subst v1
  have RC := Lib.hid r7
  clear ho r7 b1 HCy
  go_wp2
  generalize w1 = WQ at *
  go_loopw [4, 5] (fun ov i wr => ∃ (k o q : Nat), k ≤ L ∧ i = .int .i64 k ∧ ov = .int .i64 o ∧ Hid (LSt C k o) ∧ wr = WQ.drewN q) (fun _ i _ => L - (intOf i).toNat)
  case atStart => exact ⟨0, 1, 0, Nat.zero_le _, rfl, rfl, Hst.out, rfl⟩
  case round =>
    obtain ⟨k, o, q, hk, rfl, rfl, HS, hw⟩ := hrel
    subst wr
    by_cases hlt : k < L
    · have hc : (k : Int) < (L : Int) := by omega
      have Hgo := Lib.hid (show k + 1 ≤ L ∧ k < L ∧ k ≤ 64 by omega)
      obtain ⟨y, hy⟩ : ∃ y, C[k]? = some y := ⟨_, List.getElem?_eq_getElem (by have := HL.out; omega)⟩
      obtain ⟨gc, rfl, cy⟩ := Hap.out _ _ RC.out k y hy
      obtain ⟨y1, ym⟩ := Hcm.out k y hy
      have HN := Lib.hid (HS.out.next hy y1 (by omega))
      have hy64 : y ≤ 64 := by omega
      have Hnums := Lib.hid (lcm_nums (Hbd.out k o HS.out) HS.out.lcm.pos y1 hy64)
      have hob := Hbd.out k o HS.out
      have hgc := fun W => refGcd_any o y (by omega) (by omega) W
      obtain ⟨g9, q9, r9, e1, e2, n1, n2, n3, n4, n5, n6, n7, n8⟩ := Hnums.out
      rw [e1] at hgc
      rw [e2] at HN
      have HG := Lib.hid hgc
      have Hn := Lib.hid (And.intro n1 (And.intro n2 (And.intro n3 (And.intro n4 (And.intro n5 (And.intro n6 (And.intro n7 n8)))))))
      have hkL : k ≤ 64 := Hgo.out.2.2
      clear Hnums hy64 hob hgc e1 e2 n1 n2 n3 n4 n5 n6 n7 n8 hy y1 ym hk hlt HS
      go_wp2
      obtain ⟨n1, n2, n3, n4, n5, n6, n7, n8'⟩ := Hn.out
      go_quiet ((go_at_call 59; first | exact quiet_still (HG.out _) | exact Calls.quiet_of_same (HG.out _)))
      clear n1 n2 n3 n4 n5 n6 n7 n8'
      go_wp2
      go_roundw
      case rel => exact ⟨k + 1, r9, _, Hgo.out.1, by go_num, rfl, HN.out, by first | rfl | exact World.drewN_drewN _ _ _ | trivial⟩
      case measure => simp [intOf]; have := Hgo.out; omega
    · obtain rfl : k = L := by omega
      have hc : ¬ (k : Int) < (k : Int) := by omega
      obtain rfl := Hdn.out o HS.out
      have BZ := Lib.hid (below_drewN B1.out q)
      clear HS RC hk hlt
      go_wp2
      go_ret
      exact ⟨rfl, BZ.out⟩
end Go.Proofs.Ytndbjojjaapeaaa

/- The reference's Product and Permutation. -/
namespace Go.Proofs.Ytndbjojjaapeaaa
set_option linter.unusedVariables false
open Go.RowKit

theorem refPerm_any (a : Option Addr) (n cap : Nat) (F : List Int) (w : World) (hr : Row w a n (intL F)) (hn : n ≤ 100) :
    Calls Try.prog 38 #[.slice a n cap] w fun e w' => e = .returned (.bool (decide ((equalR F).1 < 0))) ∧ ∃ q, w' = w.drewN q := by
  have hE := refEqual_any a n cap F w hr hn
  obtain ⟨x, hx⟩ : ∃ x, (equalR F).1 = x := ⟨_, rfl⟩
  rw [hx] at hE ⊢
  generalize (equalR F).2 = y at hE
  have HE := Lib.hid hE
  clear hE hr hx
  go_enter Try.func38, Try.ntmps38
  go_wp2_with fail
  refine HE.out.mono ?_
  rintro e w1 ⟨rfl, q, rfl⟩
  go_wp2
  go_ret
  exact ⟨rfl, q, rfl⟩
def prevP (X : List (Int × Int)) (k : Nat) : Int := if k = 0 then 0 else (X.getD (k - 1) (0, 0)).1
theorem prevP_next {X : List (Int × Int)} {k : Nat} {p q : Int} (h : X[k]? = some (p, q)) : prevP X (k + 1) = p := by
  unfold prevP
  rw [if_neg (by omega), Nat.add_sub_cancel, List.getD_eq_getElem?_getD, h]; rfl
theorem prod_bad {X : List (Int × Int)} {k M : Nat} {p q : Int} (h : X[k]? = some (p, q)) (hb : ¬ (okP (prevP X k) (p, q) = true ∧ primB p.toNat = true)) : prodS (prevP X k) M (X.drop k) = 0 := by
  rw [List.drop_eq_getElem_cons (List.getElem?_eq_some_iff.1 h).1, (List.getElem?_eq_some_iff.1 h).2]
  show (if _ then _ else _) = _
  exact if_neg hb
theorem prod_step {X : List (Int × Int)} {k M P K : Nat} (h : X[k]? = some ((P : Int), (K : Int))) (hb : okP (prevP X k) ((P : Int), (K : Int)) = true) (hp : primB P = true) : prodS (prevP X k) M (X.drop k) = if 64 < M * P ^ K then 0 else prodS (prevP X (k + 1)) (M * P ^ K) (X.drop (k + 1)) := by
  rw [prevP_next h, List.drop_eq_getElem_cons (List.getElem?_eq_some_iff.1 h).1, (List.getElem?_eq_some_iff.1 h).2]
  show (if _ then _ else _) = _
  exact if_pos ⟨hb, hp⟩
theorem prod_end {X : List (Int × Int)} {n M : Nat} (h : X.length = n) : prodS (prevP X n) M (X.drop n) = if M < 2 then 0 else M := by
  rw [List.drop_of_length_le (by omega)]; rfl
theorem primB_no {P d : Nat} (h2 : 2 ≤ d) (hd : d < P) (h : P % d = 0) : primB P = false := by
  refine Bool.eq_false_iff.2 fun e => primB_is e d h2 hd (Nat.dvd_of_mod_eq_zero h)
theorem primB_yes {P : Nat} (h : ∀ d, 2 ≤ d → d < P → ¬ P % d = 0) : primB P = true := by
  unfold primB
  rw [List.all_eq_true]
  intro d hd
  rw [List.mem_range] at hd
  by_cases h2 : d < 2
  · simp [h2]
  · have := h d (by omega) hd
    simp [this]
theorem okP_yes {prev : Int} {P K : Nat} (h1 : 2 ≤ P) (h2 : P ≤ 64) (h3 : 1 ≤ K) (h4 : K ≤ 6) (h5 : prev < (P : Int)) : okP prev ((P : Int), (K : Int)) = true := by
  unfold okP
  refine decide_eq_true ⟨?_, ?_, ?_, ?_, h5⟩ <;> simp only <;> omega
theorem pq_nums {p q : Int} (x0 : ¬ p < 2) (x1 : ¬ 64 < p) (x2 : ¬ q < 1) (x3 : ¬ 6 < q) : ∃ P K : Nat, p = P ∧ q = K ∧ (2 ≤ P ∧ P ≤ 64 ∧ 1 ≤ K ∧ K ≤ 6) ∧ decide ((P : Int) < 2) = false ∧ decide ((64 : Int) < (P : Int)) = false ∧ decide ((K : Int) < 1) = false ∧ decide ((6 : Int) < (K : Int)) = false := by
  obtain ⟨P, rfl⟩ := Int.eq_ofNat_of_zero_le (show 0 ≤ p by omega)
  obtain ⟨K, rfl⟩ := Int.eq_ofNat_of_zero_le (show 0 ≤ q by omega)
  exact ⟨P, K, rfl, rfl, by omega, decide_eq_false x0, decide_eq_false x1, decide_eq_false x2, decide_eq_false x3⟩
theorem okP_no4 {prev p q : Int} {b : Bool} (h : p ≤ prev) : ¬ (okP prev (p, q) = true ∧ b = true) := fun h' => by
  have h2 := of_decide_eq_true h'.1
  simp only at h2
  omega
theorem k_zero {k : Nat} (h : k = 0) : decide (0 < k) = false := by subst h; rfl
theorem k_pos {k n : Nat} (h : 0 < k) (hk : k ≤ n) (hn : n ≤ 1000) : ∃ k1 : Nat, k - 1 = k1 ∧ IntKind.i64.wrap ((k : Int) - 1) = (k1 : Int) ∧ wrap64 ((k : Int) - 1) = (k1 : Int) ∧ k1 < n ∧ decide (0 < k) = true :=
  ⟨k - 1, rfl, by rw [IntWalk.i64_in _ (by omega)]; omega, by rw [IntWalk.wrap64_in _ (by omega)]; omega, by omega, decide_eq_true h⟩
theorem mul_numP {a b : Nat} (ha : a ≤ 64) (hb : b ≤ 64) : ∃ r : Nat, a * b = r ∧ IntKind.i64.wrap ((a : Int) * (b : Int)) = (r : Int) ∧ wrap64 ((a : Int) * (b : Int)) = (r : Int) := by
  have h : a * b ≤ 64 * 64 := Nat.mul_le_mul ha hb
  have e : (a : Int) * (b : Int) = ((a * b : Nat) : Int) := by simp
  refine ⟨a * b, rfl, ?_, ?_⟩
  · rw [e]; exact IntWalk.i64_in _ (by omega)
  · rw [e]; exact IntWalk.wrap64_in _ (by omega)
theorem pow_big {M P K j : Nat} (hP : 1 ≤ P) (hj : j + 1 ≤ K) (h : 64 < M * P ^ j * P) : 64 < M * P ^ K := by
  obtain ⟨d, rfl⟩ : ∃ d, K = j + 1 + d := ⟨K - (j + 1), by omega⟩
  rw [Nat.pow_add, Nat.pow_succ, ← Nat.mul_assoc, ← Nat.mul_assoc]
  have := Nat.mul_le_mul_left (M * P ^ j * P) (show 1 ≤ P ^ d from Nat.pos_of_ne_zero fun e => by rw [Nat.pow_eq_zero] at e; omega)
  omega
set_option maxRecDepth 100000 in
set_option maxHeartbeats 4000000 in
theorem refProduct_any (a : Option Addr) (n cap : Nat) (X : List (Int × Int)) (w : World) (hr : Row w a (n * 2) (flatI X)) (hX : X.length = n) (hn : n ≤ 1000) :
    Calls Try.prog 54 #[.slice a n cap] w fun e w' => e = .returned (.int .i64 (prodX X : Nat)) ∧ ∃ q, w' = w.drewN q := by
  have hbad := fun (k M : Nat) (p q : Int) => prod_bad (X := X) (k := k) (M := M) (p := p) (q := q)
  have hstep := fun (k M P K : Nat) => prod_step (X := X) (k := k) (M := M) (P := P) (K := K)
  have hend := fun (M : Nat) => prod_end (X := X) (n := n) (M := M) hX
  have h0 : prodS (prevP X 0) 1 (X.drop 0) = prodX X := rfl
  have hpv : ∀ k : Nat, 0 < k → prevP X k = (X.getD (k - 1) (0, 0)).1 := fun k hk => by unfold prevP; rw [if_neg (by omega)]
  generalize prodX X = R at *
  have Hbad := Lib.hid hbad
  have Hstep := Lib.hid hstep
  have Hend := Lib.hid hend
  have H0 := Lib.hid h0
  have Hpv := Lib.hid hpv
  have Hr := Lib.hid hr
  have HX := Lib.hid hX
  clear hbad hstep hend h0 hpv hr hX
  go_enter Try.func54, Try.ntmps54
  go_wp2
  go_loopw [3, 4] (fun mm i wr => ∃ k M q : Nat, k ≤ n ∧ i = .int .i64 k ∧ mm = .int .i64 M ∧ M ≤ 64 ∧ Hid (prodS (prevP X k) M (X.drop k) = R) ∧ wr = w.drewN q) (fun _ i _ => n - (intOf i).toNat)
  case atStart => exact ⟨0, 1, 0, Nat.zero_le _, rfl, rfl, by omega, H0, rfl⟩
  case round =>
    clear H0
    obtain ⟨k, M, q0, hk, rfl, rfl, hM, HP, rfl⟩ := hrel
    by_cases hlt : k < n
    · have hc : (k : Int) < (n : Int) := by omega
      have Hgo := Lib.hid (show k + 1 ≤ n ∧ k < n by omega)
      obtain ⟨⟨p, q⟩, hpq⟩ : ∃ x, X[k]? = some x := ⟨_, List.getElem?_eq_getElem (by have := HX.out; omega)⟩
      obtain ⟨g, rfl, c0, c1⟩ := Hr.out.two hlt hpq
      have hbd := fun h => (Hbad.out k M p q hpq h).symm.trans HP.out
      have hst := fun (P K : Nat) (hp : p = P) (hq : q = K) h1 h2 => ((Hstep.out k M P K (by rw [hpq, hp, hq]) (by rw [← hp, ← hq]; exact h1) h2).symm.trans HP.out)
      have hprev : k = 0 ∨ ∃ u u' : Int, 0 < k ∧ prevP X k = u ∧ w.cell? ⟨g, (k - 1) * 2, none⟩ = some (.int .i64 u) ∧ w.cell? ⟨g, (k - 1) * 2 + 1, none⟩ = some (.int .i64 u') := by
        by_cases hk0 : k = 0
        · exact .inl hk0
        · obtain ⟨⟨u, u'⟩, hu⟩ : ∃ x, X[k - 1]? = some x := ⟨_, List.getElem?_eq_getElem (by have := HX.out; omega)⟩
          obtain ⟨g', e, d0, d1⟩ := Hr.out.two (show k - 1 < n by omega) hu
          simp only [Option.some.injEq, Addr.mk.injEq, and_true] at e
          subst e
          exact .inr ⟨u, u', by omega, by rw [Hpv.out k (by omega), List.getD_eq_getElem?_getD, hu]; rfl, d0, d1⟩
      have Hbd := Lib.hid hbd
      have Hst := Lib.hid hst
      have Hprev := Lib.hid hprev
      clear hbd hst hprev hpq HP
      by_cases x0 : p < 2
      · have y0 : decide (p < 2) = true := decide_eq_true x0
        have HR := Lib.hid (Hbd.out (fun h => by have := of_decide_eq_true h.1; simp only at this; omega))
        clear Hbd Hst Hprev
        go_wp2
        go_region
        go_wp2
        go_ret
        exact ⟨by rw [← HR.out]; rfl, _, by first | rfl | exact World.drewN_drewN _ _ _ | trivial⟩
      have y0 : decide (p < 2) = false := decide_eq_false x0
      by_cases x1 : 64 < p
      · have y1 : decide (64 < p) = true := decide_eq_true x1
        have HR := Lib.hid (Hbd.out (fun h => by have := of_decide_eq_true h.1; simp only at this; omega))
        clear Hbd Hst Hprev
        go_wp2
        go_region
        go_wp2
        go_ret
        exact ⟨by rw [← HR.out]; rfl, _, by first | rfl | exact World.drewN_drewN _ _ _ | trivial⟩
      have y1 : decide (64 < p) = false := decide_eq_false x1
      by_cases x2 : q < 1
      · have y2 : decide (q < 1) = true := decide_eq_true x2
        have HR := Lib.hid (Hbd.out (fun h => by have := of_decide_eq_true h.1; simp only at this; omega))
        clear Hbd Hst Hprev
        go_wp2
        go_region
        go_wp2
        go_ret
        exact ⟨by rw [← HR.out]; rfl, _, by first | rfl | exact World.drewN_drewN _ _ _ | trivial⟩
      have y2 : decide (q < 1) = false := decide_eq_false x2
      by_cases x3 : 6 < q
      · have y3 : decide (6 < q) = true := decide_eq_true x3
        have HR := Lib.hid (Hbd.out (fun h => by have := of_decide_eq_true h.1; simp only at this; omega))
        clear Hbd Hst Hprev
        go_wp2
        go_region
        go_wp2
        go_ret
        exact ⟨by rw [← HR.out]; rfl, _, by first | rfl | exact World.drewN_drewN _ _ _ | trivial⟩
      have y3 : decide (6 < q) = false := decide_eq_false x3
      clear y0 y1 y2 y3
      obtain ⟨P, K, rfl, rfl, hP, y0, y1, y2, y3⟩ := pq_nums x0 x1 x2 x3
      clear x0 x1 x2 x3
      rcases Hprev.out with hk0 | ⟨u, u', hk0, hpu, d0, d1⟩
      · have zz := k_zero hk0
        have hpv : prevP X k < (P : Int) := by
          have : prevP X k = 0 := by unfold prevP; exact if_pos hk0
          rw [this]; clear y0 y1 y2 y3 zz; omega
        clear hk0
        have Hok := Lib.hid (okP_yes (prev := prevP X k) hP.1 hP.2.1 hP.2.2.1 hP.2.2.2 hpv)
        clear hpv
        clear Hprev
        go_wp2
        go_region
        go_wp2
        clear y0 y1 y2 y3 zz
        go_loopw [7] (fun d wr => ∃ d' q : Nat, 2 ≤ d' ∧ d' ≤ P ∧ d = .int .i64 d' ∧ Hid (∀ e, 2 ≤ e → e < d' → ¬ P % e = 0) ∧ wr = w.drewN q) (fun d _ => P - (intOf d).toNat)
        case atStart => exact ⟨2, q0 + 1, Nat.le_refl _, hP.1, rfl, fun e h1 h2 => absurd h2 (Nat.not_lt.2 h1), rfl⟩
        case round =>
          obtain ⟨d, q2, hd2, hdP, rfl, HD, rfl⟩ := hrel
          by_cases hld : d < P
          · have hc3 : (d : Int) < (P : Int) := by omega
            have hnum := rem_all (m := P) (p := d) hP.2.1
            obtain ⟨z1, z2⟩ := zero_no hd2
            obtain ⟨t, ht⟩ : ∃ t, P % d = t := ⟨_, rfl⟩
            have Hnum : Hid (Int.tmod (P : Int) (d : Int) = (t : Int) ∧ IntKind.i64.wrap (t : Int) = (t : Int) ∧ wrap64 (t : Int) = (t : Int)) := by
              obtain ⟨t', h1, h2⟩ := hnum
              have e : t' = t := h1.symm.trans ht
              subst e
              exact h2
            clear hnum
            by_cases h0 : t = 0
            · have hz : ((t : Int) == 0) = true := nat_zero h0
              have HR := Lib.hid (Hbd.out (fun h => by have h2 := h.2; rw [Int.toNat_natCast, primB_no hd2 hld (ht.trans h0)] at h2; cases h2))
              clear Hbd Hst Hok HD ht h0 hP hd2 hdP hld
              obtain ⟨n1, n2, n3⟩ := Hnum.out
              go_wp2
              go_ret
              exact ⟨by rw [← HR.out]; rfl, _, by first | rfl | exact World.drewN_drewN _ _ _ | trivial⟩
            · have hz : ((t : Int) == 0) = false := by rw [beq_eq_false_iff_ne]; omega
              have Hnx := Lib.hid (show ∀ e, 2 ≤ e → e < d + 1 → ¬ P % e = 0 from fun e h1 h2 => by
                by_cases e1 : e = d
                · subst e1; rw [ht]; exact h0
                · exact HD.out e h1 (by omega))
              have Hg2 := Lib.hid (show 2 ≤ d + 1 ∧ d + 1 ≤ P ∧ d < P ∧ d ≤ 64 by omega)
              have hd64 : d ≤ 64 := Hg2.out.2.2.2
              clear HD ht h0 hdP hld hP hd2
              obtain ⟨n1, n2, n3⟩ := Hnum.out
              clear Hnum
              go_wp2
              go_roundw
              case rel => exact ⟨d + 1, _, Hg2.out.1, Hg2.out.2.1, by clear n1 n2 n3; go_num, Hnx.out, by first | rfl | exact World.drewN_drewN _ _ _ | trivial⟩
              case measure => clear n1 n2 n3; simp [intOf]; have := Hg2.out; omega
          · obtain rfl : d = P := by omega
            have hc3 : ¬ (d : Int) < (d : Int) := by omega
            have hpr : primB d = true := primB_yes HD.out
            have Hst2 := Lib.hid (Hst.out d K rfl rfl Hok.out hpr)
            clear HD hpr Hbd Hst Hok
            go_wp2
            go_loopw [3, 8] (fun mm j wr => ∃ j' M' q : Nat, j' ≤ K ∧ j = .int .i64 j' ∧ mm = .int .i64 M' ∧ Hid (M * d ^ j' = M') ∧ M' ≤ 64 ∧ wr = w.drewN q) (fun _ j _ => K - (intOf j).toNat)
            case atStart => exact ⟨0, M, _, Nat.zero_le _, rfl, rfl, by unfold Hid; rw [Nat.pow_zero, Nat.mul_one], hM, by first | rfl | exact World.drewN_drewN _ _ _ | trivial⟩
            case round =>
              obtain ⟨j, M', q3, hj, rfl, rfl, HM', hM64, rfl⟩ := hrel
              by_cases hlj : j < K
              · have hc4 : (j : Int) < (K : Int) := by omega
                obtain ⟨r, hr', n1, n2⟩ := mul_numP hM64 hP.2.1
                have N1 := Lib.hid n1
                have N2 := Lib.hid n2
                clear n1 n2
                have Hr' := Lib.hid hr'
                clear hr'
                have hd1 : 1 ≤ d := by omega
                have hj1 : j + 1 ≤ K := by omega
                have Hg3 := Lib.hid (show j + 1 ≤ K ∧ j < K by omega)
                by_cases hbig : 64 < r
                · have hb : (64 : Int) < (r : Int) := by omega
                  have h := Hst2.out
                  rw [if_pos (pow_big hd1 hj1 (by rw [HM'.out, Hr'.out]; exact hbig))] at h
                  have HR := Lib.hid h
                  have n1 := N1.out
                  have n2 := N2.out
                  clear h Hst2 HM' Hr' N1 N2
                  go_wp2
                  go_ret
                  exact ⟨by rw [← HR.out]; rfl, _, by first | rfl | exact World.drewN_drewN _ _ _ | trivial⟩
                · have hb : ¬ (64 : Int) < (r : Int) := by omega
                  have Hnx := Lib.hid (show M * d ^ (j + 1) = r by rw [Nat.pow_succ, ← Nat.mul_assoc, HM'.out, Hr'.out])
                  have Hr64 := Lib.hid (show r ≤ 64 by omega)
                  have n1 := N1.out
                  have n2 := N2.out
                  clear HM' Hr' hj hlj hd1 hj1 N1 N2
                  go_wp2
                  go_roundw
                  case rel => exact ⟨j + 1, r, _, Hg3.out.1, by go_num, by go_num, Hnx.out, Hr64.out, by first | rfl | exact World.drewN_drewN _ _ _ | trivial⟩
                  case measure => simp [intOf]; have := Hg3.out; omega
              · obtain rfl : j = K := by omega
                have hc4 : ¬ (j : Int) < (j : Int) := by omega
                have h := Hst2.out
                rw [HM'.out, if_neg (by omega)] at h
                have Hnx := Lib.hid h
                have H64 := Lib.hid hM64
                clear h Hst2 HM'
                go_wp2
                go_roundw
                case rel => exact ⟨k + 1, M', _, Hgo.out.1, by go_num, by go_num, H64.out, Hnx.out, by first | rfl | exact World.drewN_drewN _ _ _ | trivial⟩
                case measure => simp [intOf]; have := Hgo.out; omega
      · obtain ⟨k1, hk1, n9, n8, hk1n, zz⟩ := k_pos hk0 hk hn
        rw [hk1] at d0 d1
        by_cases x4 : (P : Int) ≤ u
        · have y4 : decide ((P : Int) ≤ u) = true := decide_eq_true x4
          have HR := Lib.hid (Hbd.out (okP_no4 (by rw [hpu]; exact x4)))
          clear Hbd Hst Hprev
          go_wp2
          go_region
          go_wp2
          go_ret
          exact ⟨by rw [← HR.out]; rfl, _, by first | rfl | exact World.drewN_drewN _ _ _ | trivial⟩
        · have y4 : decide ((P : Int) ≤ u) = false := decide_eq_false x4
          have hpv : prevP X k < (P : Int) := by rw [hpu]; clear y0 y1 y2 y3 y4 zz n9 n8; omega
          clear hk0 hpu
          have Hok := Lib.hid (okP_yes (prev := prevP X k) hP.1 hP.2.1 hP.2.2.1 hP.2.2.2 hpv)
          clear hpv
          clear Hprev
          go_wp2
          go_region
          go_wp2
          clear y0 y1 y2 y3 zz y4 n9 n8
          go_loopw [7] (fun d wr => ∃ d' q : Nat, 2 ≤ d' ∧ d' ≤ P ∧ d = .int .i64 d' ∧ Hid (∀ e, 2 ≤ e → e < d' → ¬ P % e = 0) ∧ wr = w.drewN q) (fun d _ => P - (intOf d).toNat)
          case atStart => exact ⟨2, q0 + 1, Nat.le_refl _, hP.1, rfl, fun e h1 h2 => absurd h2 (Nat.not_lt.2 h1), rfl⟩
          case round =>
            obtain ⟨d, q2, hd2, hdP, rfl, HD, rfl⟩ := hrel
            by_cases hld : d < P
            · have hc3 : (d : Int) < (P : Int) := by omega
              have hnum := rem_all (m := P) (p := d) hP.2.1
              obtain ⟨z1, z2⟩ := zero_no hd2
              obtain ⟨t, ht⟩ : ∃ t, P % d = t := ⟨_, rfl⟩
              have Hnum : Hid (Int.tmod (P : Int) (d : Int) = (t : Int) ∧ IntKind.i64.wrap (t : Int) = (t : Int) ∧ wrap64 (t : Int) = (t : Int)) := by
                obtain ⟨t', h1, h2⟩ := hnum
                have e : t' = t := h1.symm.trans ht
                subst e
                exact h2
              clear hnum
              by_cases h0 : t = 0
              · have hz : ((t : Int) == 0) = true := nat_zero h0
                have HR := Lib.hid (Hbd.out (fun h => by have h2 := h.2; rw [Int.toNat_natCast, primB_no hd2 hld (ht.trans h0)] at h2; cases h2))
                clear Hbd Hst Hok HD ht h0 hP hd2 hdP hld
                obtain ⟨n1, n2, n3⟩ := Hnum.out
                go_wp2
                go_ret
                exact ⟨by rw [← HR.out]; rfl, _, by first | rfl | exact World.drewN_drewN _ _ _ | trivial⟩
              · have hz : ((t : Int) == 0) = false := by rw [beq_eq_false_iff_ne]; omega
                have Hnx := Lib.hid (show ∀ e, 2 ≤ e → e < d + 1 → ¬ P % e = 0 from fun e h1 h2 => by
                  by_cases e1 : e = d
                  · subst e1; rw [ht]; exact h0
                  · exact HD.out e h1 (by omega))
                have Hg2 := Lib.hid (show 2 ≤ d + 1 ∧ d + 1 ≤ P ∧ d < P ∧ d ≤ 64 by omega)
                have hd64 : d ≤ 64 := Hg2.out.2.2.2
                clear HD ht h0 hdP hld hP hd2
                obtain ⟨n1, n2, n3⟩ := Hnum.out
                clear Hnum
                go_wp2
                go_roundw
                case rel => exact ⟨d + 1, _, Hg2.out.1, Hg2.out.2.1, by clear n1 n2 n3; go_num, Hnx.out, by first | rfl | exact World.drewN_drewN _ _ _ | trivial⟩
                case measure => clear n1 n2 n3; simp [intOf]; have := Hg2.out; omega
            · obtain rfl : d = P := by omega
              have hc3 : ¬ (d : Int) < (d : Int) := by omega
              have hpr : primB d = true := primB_yes HD.out
              have Hst2 := Lib.hid (Hst.out d K rfl rfl Hok.out hpr)
              clear HD hpr Hbd Hst Hok
              go_wp2
              go_loopw [3, 8] (fun mm j wr => ∃ j' M' q : Nat, j' ≤ K ∧ j = .int .i64 j' ∧ mm = .int .i64 M' ∧ Hid (M * d ^ j' = M') ∧ M' ≤ 64 ∧ wr = w.drewN q) (fun _ j _ => K - (intOf j).toNat)
              case atStart => exact ⟨0, M, _, Nat.zero_le _, rfl, rfl, by unfold Hid; rw [Nat.pow_zero, Nat.mul_one], hM, by first | rfl | exact World.drewN_drewN _ _ _ | trivial⟩
              case round =>
                obtain ⟨j, M', q3, hj, rfl, rfl, HM', hM64, rfl⟩ := hrel
                by_cases hlj : j < K
                · have hc4 : (j : Int) < (K : Int) := by omega
                  obtain ⟨r, hr', n1, n2⟩ := mul_numP hM64 hP.2.1
                  have N1 := Lib.hid n1
                  have N2 := Lib.hid n2
                  clear n1 n2
                  have Hr' := Lib.hid hr'
                  clear hr'
                  have hd1 : 1 ≤ d := by omega
                  have hj1 : j + 1 ≤ K := by omega
                  have Hg3 := Lib.hid (show j + 1 ≤ K ∧ j < K by omega)
                  by_cases hbig : 64 < r
                  · have hb : (64 : Int) < (r : Int) := by omega
                    have h := Hst2.out
                    rw [if_pos (pow_big hd1 hj1 (by rw [HM'.out, Hr'.out]; exact hbig))] at h
                    have HR := Lib.hid h
                    have n1 := N1.out
                    have n2 := N2.out
                    clear h Hst2 HM' Hr' N1 N2
                    go_wp2
                    go_ret
                    exact ⟨by rw [← HR.out]; rfl, _, by first | rfl | exact World.drewN_drewN _ _ _ | trivial⟩
                  · have hb : ¬ (64 : Int) < (r : Int) := by omega
                    have Hnx := Lib.hid (show M * d ^ (j + 1) = r by rw [Nat.pow_succ, ← Nat.mul_assoc, HM'.out, Hr'.out])
                    have Hr64 := Lib.hid (show r ≤ 64 by omega)
                    have n1 := N1.out
                    have n2 := N2.out
                    clear HM' Hr' hj hlj hd1 hj1 N1 N2
                    go_wp2
                    go_roundw
                    case rel => exact ⟨j + 1, r, _, Hg3.out.1, by go_num, by go_num, Hnx.out, Hr64.out, by first | rfl | exact World.drewN_drewN _ _ _ | trivial⟩
                    case measure => simp [intOf]; have := Hg3.out; omega
                · obtain rfl : j = K := by omega
                  have hc4 : ¬ (j : Int) < (j : Int) := by omega
                  have h := Hst2.out
                  rw [HM'.out, if_neg (by omega)] at h
                  have Hnx := Lib.hid h
                  have H64 := Lib.hid hM64
                  clear h Hst2 HM'
                  go_wp2
                  go_roundw
                  case rel => exact ⟨k + 1, M', _, Hgo.out.1, by go_num, by go_num, H64.out, Hnx.out, by first | rfl | exact World.drewN_drewN _ _ _ | trivial⟩
                  case measure => simp [intOf]; have := Hgo.out; omega
    · obtain rfl : k = n := by omega
      have hc : ¬ (k : Int) < (k : Int) := by omega
      have h := (Hend.out M).symm.trans HP.out
      clear HP
      by_cases hM2 : M < 2
      · have hb : (M : Int) < 2 := by omega
        rw [if_pos hM2] at h
        have HR := Lib.hid h
        clear h
        go_wp2
        go_ret
        exact ⟨by rw [← HR.out]; rfl, _, rfl⟩
      · have hb : ¬ (M : Int) < 2 := by omega
        rw [if_neg hM2] at h
        have HR := Lib.hid h
        clear h
        go_wp2
        go_ret
        exact ⟨by rw [← HR.out]; rfl, _, rfl⟩
end Go.Proofs.Ytndbjojjaapeaaa

/- The walk of Forms. -/
namespace Go.Proofs.Ytndbjojjaapeaaa
set_option linter.unusedVariables false
open Go.RowKit

theorem fun_ref {m : Int} {n : Nat} {xs : List Int} (hm : modB m = true) (hx : xs.length = n) : (decide ((n : Int) = m) && remB m xs) = funcB m xs := by
  unfold funcB
  rw [hm, hx, Bool.true_and]
theorem fun_no {m : Int} (hm : modB m = false) (xs : List Int) : funcB m xs = false := by unfold funcB; rw [hm, Bool.false_and, Bool.false_and]
theorem fun_parts {m : Int} {xs : List Int} (h : funcB m xs = true) : (xs.length : Int) = m ∧ ∀ x ∈ xs, 0 ≤ x ∧ x < m := by
  unfold funcB at h
  rw [Bool.and_eq_true, Bool.and_eq_true, decide_eq_true_eq] at h
  exact ⟨h.1.2, remB_in h.2⟩
theorem form_len {m : Nat} (hm : 2 ≤ m) (hm2 : m ≤ 64) {f : Nat → Int} {l : List Int} (h : formR m f = some l) : l.length ≤ m := by
  rw [form_full hm hm2] at h
  cases hS : formS m f m with
  | none => rw [hS] at h; simp at h
  | some L =>
    rw [hS, Option.map_some, Option.some.injEq] at h
    subst h
    have := trimZ_le L
    rw [formS_length hS] at this
    exact this
set_option maxRecDepth 100000 in
set_option maxHeartbeats 8000000 in
theorem forms_x (m : Int) (v : Value) (row : List Int) (w : World) (hR : RowIn w v row) (hm : modB m = false) : Calls Try.prog 4 #[.int .i64 m, v] w fun e w' => e = .returned (.bool true) ∧ Below w.heap.size w w' := by
  have hf := fun_no hm (cutL row)
  have HL := Lib.hid (list_in v row w hR)
  have hn := cutL_le row
  obtain ⟨F, hF⟩ : ∃ F, cutL row = F := ⟨_, rfl⟩
  rw [hF] at hf hn
  obtain ⟨n, hl⟩ : ∃ n, F.length = n := ⟨_, rfl⟩
  rw [hF, hl] at HL
  have HFm := Lib.hid fun a cap W hr => Form_no m a n cap F W hr (by omega) hf
  have hp := fun a cap W hr => isPerm_no m a n cap F W hr (by omega) hf
  have HIn := Lib.hid fun a cap W hr => Inverse_no m a n cap W (hp a cap W hr)
  have HOr := Lib.hid fun a cap W hr => Order_no m a n cap W (hp a cap W hr)
  have HCy := Lib.hid fun a cap W hr => Cycles_no m a n cap W (hp a cap W hr)
  have hM := fun w => refModulus_any m w
  rw [hm] at hM
  have HM := Lib.hid hM
  have HA := Lib.hid fun w => awake_any w
  clear hp hM hm hf hF hl hn hR
  go_enter Try.func4, Try.ntmps4
  go_wp2_with fail
  refine (HL.out).mono ?_
  rintro e w1 ⟨v1, rfl, ho, b1⟩
  have B1 := Lib.hid b1
  clear b1
  obtain ⟨a1, c1, hv, hc1, r1⟩ := own_slice ho
  subst v1
  have RF := Lib.hid r1
  clear ho r1
  go_wp2_with fail
  refine (HFm.out _ _ _ RF.out).mono ?_
  rintro e w2 ⟨rfl, hw⟩
  subst w2
  go_wp2_with fail
  refine (HIn.out _ _ _ RF.out).mono ?_
  rintro e w3 ⟨rfl, hw⟩
  subst w3
  go_wp2_with fail
  refine (HOr.out _ _ _ RF.out).mono ?_
  rintro e w4 ⟨rfl, hw⟩
  subst w4
  go_wp2_with fail
  refine (HCy.out _ _ _ RF.out).mono ?_
  rintro e w5 ⟨rfl, hw⟩
  subst w5
  go_wp2_with fail
  refine (HM.out _).mono ?_
  rintro e w6 ⟨rfl, hw⟩
  subst w6
  go_wp2_with fail
  refine (HA.out _).mono ?_
  rintro e w7 ⟨rfl, b7⟩
  have B7 := Lib.hid (b_next B1.out b7)
  clear B1
  replace RF := Lib.hid (RF.out.below b7)
  clear b7
  go_wp2
  go_ret
  exact ⟨rfl, B7.out⟩
set_option maxRecDepth 100000 in
set_option maxHeartbeats 8000000 in
theorem forms_f (m : Int) (v : Value) (row : List Int) (w : World) (hR : RowIn w v row) (hm : modB m = true) (hf : funcB m (cutL row) = false) : Calls Try.prog 4 #[.int .i64 m, v] w fun e w' => e = .returned (.bool true) ∧ Below w.heap.size w w' := by
  have HL := Lib.hid (list_in v row w hR)
  have hn := cutL_le row
  obtain ⟨F, hF⟩ : ∃ F, cutL row = F := ⟨_, rfl⟩
  rw [hF] at hf hn
  obtain ⟨n, hl⟩ : ∃ n, F.length = n := ⟨_, rfl⟩
  rw [hF, hl] at HL
  have HFm := Lib.hid fun a cap W hr => Form_no m a n cap F W hr (by omega) hf
  have hp := fun a cap W hr => isPerm_no m a n cap F W hr (by omega) hf
  have HIn := Lib.hid fun a cap W hr => Inverse_no m a n cap W (hp a cap W hr)
  have HOr := Lib.hid fun a cap W hr => Order_no m a n cap W (hp a cap W hr)
  have HCy := Lib.hid fun a cap W hr => Cycles_no m a n cap W (hp a cap W hr)
  have hM := fun w => refModulus_any m w
  rw [hm] at hM
  have HM := Lib.hid hM
  have HA := Lib.hid fun w => awake_any w
  have hFn := fun a cap W hr => refFunc_any m a n cap F W hr (by omega)
  rw [fun_ref hm hl, hf] at hFn
  have HFn := Lib.hid hFn
  clear hFn
  clear hp hM hm hf hF hl hn hR
  go_enter Try.func4, Try.ntmps4
  go_wp2_with fail
  refine (HL.out).mono ?_
  rintro e w1 ⟨v1, rfl, ho, b1⟩
  have B1 := Lib.hid b1
  clear b1
  obtain ⟨a1, c1, hv, hc1, r1⟩ := own_slice ho
  subst v1
  have RF := Lib.hid r1
  clear ho r1
  go_wp2_with fail
  refine (HFm.out _ _ _ RF.out).mono ?_
  rintro e w2 ⟨rfl, hw⟩
  subst w2
  go_wp2_with fail
  refine (HIn.out _ _ _ RF.out).mono ?_
  rintro e w3 ⟨rfl, hw⟩
  subst w3
  go_wp2_with fail
  refine (HOr.out _ _ _ RF.out).mono ?_
  rintro e w4 ⟨rfl, hw⟩
  subst w4
  go_wp2_with fail
  refine (HCy.out _ _ _ RF.out).mono ?_
  rintro e w5 ⟨rfl, hw⟩
  subst w5
  go_wp2_with fail
  refine (HM.out _).mono ?_
  rintro e w6 ⟨rfl, hw⟩
  subst w6
  go_wp2_with fail
  refine (HFn.out _ _ _ RF.out).mono ?_
  rintro e w7 ⟨rfl, hw⟩
  subst w7
  go_wp2_with fail
  refine (HA.out _).mono ?_
  rintro e w8 ⟨rfl, b8⟩
  have B8 := Lib.hid (b_next B1.out b8)
  clear B1
  replace RF := Lib.hid (RF.out.below b8)
  clear b8
  go_wp2
  go_ret
  exact ⟨rfl, B8.out⟩
set_option maxRecDepth 100000 in
set_option maxHeartbeats 8000000 in
theorem forms_nn (m : Nat) (v : Value) (row : List Int) (w : World) (hR : RowIn w v row) (hm : 2 ≤ m) (hm2 : m ≤ 64) (hmod : modB m = true) (F : List Int) (hF : cutL row = F) (hl : F.length = m) (hin : ∀ x ∈ F, 0 ≤ x ∧ x < m) (hfo : formR m (fun x => F.getD x 0) = none) (hp : ¬ (equalR F).1 < 0) : Calls Try.prog 4 #[.int .i64 (m : Int), v] w fun e w' => e = .returned (.bool true) ∧ Below w.heap.size w w' := by
  have HL := Lib.hid (list_in v row w hR)
  rw [hF, hl] at HL
  have hM := fun w => refModulus_any (m : Int) w
  rw [hmod] at hM
  have HM := Lib.hid hM
  have HA := Lib.hid fun w => awake_any w
  have hfb : funcB (m : Int) F = true := funcB_in hl hm hm2 hin
  have hFn := fun a cap W hr => refFunc_any (m : Int) a m cap F W hr (by omega)
  rw [fun_ref hmod hl, hfb] at hFn
  have HFn := Lib.hid hFn
  have hRf := fun g cap W hr => refForm_any m g cap F W hr hm hm2
  have hPm := fun a cap W hr => refPerm_any a m cap F W hr (by omega)
  have Hm := Lib.hid (show 0 < m by omega)
  have HFm := Lib.hid fun a cap W hr => Form_none m a cap F W hr hm hm2 hin hfo
  have HRf : Hid (∀ (g cap : Nat) (W : World), Row W (some ⟨g, 0, none⟩) m (intL F) → Calls Try.prog 37 #[.int .i64 m, .slice (some ⟨g, 0, none⟩) m cap] W fun e w' => e = .returned (.tuple #[.slice none 0 0, .bool false]) ∧ Below W.heap.size W w') := fun g cap W hr => (hRf g cap W hr).mono fun e w' ⟨⟨_, h1⟩, b⟩ => ⟨h1 hfo, b⟩
  rw [show decide ((equalR F).1 < 0) = false from decide_eq_false hp] at hPm
  have hI := fun g cap W hr h1 h2 => isPerm_any m g cap F W hr h1 h2 hm hm2 hin
  rw [show decide ((equalR F).1 < 0) = false from decide_eq_false hp] at hI
  have HIn := Lib.hid fun g cap W hr h1 h2 => Inverse_no (m : Int) (some ⟨g, 0, none⟩) m cap W (hI g cap W hr h1 h2)
  have HOr := Lib.hid fun g cap W hr h1 h2 => Order_no (m : Int) (some ⟨g, 0, none⟩) m cap W (hI g cap W hr h1 h2)
  have HCy := Lib.hid fun g cap W hr h1 h2 => Cycles_no (m : Int) (some ⟨g, 0, none⟩) m cap W (hI g cap W hr h1 h2)
  clear hI
  have HPm := Lib.hid hPm
  clear hM hfb hFn hRf hPm hmod hF hl hin hfo hp hR
  go_enter Try.func4, Try.ntmps4
  go_wp2_with fail
  refine (HL.out).mono ?_
  rintro e w1 ⟨v1, rfl, ho, b1⟩
  have B1 := Lib.hid b1
  clear b1
  obtain ⟨gf, cf, rfl, hcf, hcfm, -, hrf⟩ := own_full ho Hm.out
  have RF := Lib.hid hrf
  have Hcf := Lib.hid (And.intro hcf hcfm)
  clear ho hrf hcf hcfm
  go_wp2_with fail
  refine (HFm.out _ _ _ RF.out).mono ?_
  rintro e w2 ⟨rfl, b2⟩
  have B2 := Lib.hid (b_next B1.out b2)
  clear B1
  replace RF := Lib.hid (RF.out.below b2)
  clear b2
  go_wp2_with fail
  refine (HIn.out _ _ _ RF.out Hcf.out.1 Hcf.out.2).mono ?_
  rintro e w3 ⟨rfl, hw⟩
  subst w3
  go_wp2_with fail
  refine (HOr.out _ _ _ RF.out Hcf.out.1 Hcf.out.2).mono ?_
  rintro e w4 ⟨rfl, hw⟩
  subst w4
  go_wp2_with fail
  refine (HCy.out _ _ _ RF.out Hcf.out.1 Hcf.out.2).mono ?_
  rintro e w5 ⟨rfl, hw⟩
  subst w5
  go_wp2_with fail
  refine (HM.out _).mono ?_
  rintro e w6 ⟨rfl, hw⟩
  subst w6
  go_wp2_with fail
  refine (HFn.out _ _ _ RF.out).mono ?_
  rintro e w7 ⟨rfl, hw⟩
  subst w7
  go_wp2_with fail
  refine (HRf.out _ _ _ RF.out).mono ?_
  rintro e w8 ⟨rfl, b8⟩
  have B8 := Lib.hid (b_next B2.out b8)
  clear B2
  replace RF := Lib.hid (RF.out.below b8)
  clear b8
  go_wp2_with fail
  refine (HPm.out _ _ _ RF.out).mono ?_
  rintro e w9 ⟨rfl, hq⟩
  have b9 := drew_below hq
  clear hq
  have B9 := Lib.hid (b_next B8.out b9)
  clear B8
  replace RF := Lib.hid (RF.out.below b9)
  clear b9
  go_wp2_with fail
  refine (HA.out _).mono ?_
  rintro e w10 ⟨rfl, b10⟩
  have B10 := Lib.hid (b_next B9.out b10)
  clear B9
  replace RF := Lib.hid (RF.out.below b10)
  clear b10
  go_wp2
  go_ret
  exact ⟨rfl, B10.out⟩
set_option maxRecDepth 100000 in
set_option maxHeartbeats 8000000 in
theorem forms_np (m : Nat) (v : Value) (row : List Int) (w : World) (hR : RowIn w v row) (hm : 2 ≤ m) (hm2 : m ≤ 64) (hmod : modB m = true) (F : List Int) (hF : cutL row = F) (hl : F.length = m) (hin : ∀ x ∈ F, 0 ≤ x ∧ x < m) (hfo : formR m (fun x => F.getD x 0) = none) (hp : (equalR F).1 = -1) : Calls Try.prog 4 #[.int .i64 (m : Int), v] w fun e w' => e = .returned (.bool true) ∧ Below w.heap.size w w' := by
  have HL := Lib.hid (list_in v row w hR)
  rw [hF, hl] at HL
  have hM := fun w => refModulus_any (m : Int) w
  rw [hmod] at hM
  have HM := Lib.hid hM
  have HA := Lib.hid fun w => awake_any w
  have hfb : funcB (m : Int) F = true := funcB_in hl hm hm2 hin
  have hFn := fun a cap W hr => refFunc_any (m : Int) a m cap F W hr (by omega)
  rw [fun_ref hmod hl, hfb] at hFn
  have HFn := Lib.hid hFn
  have hRf := fun g cap W hr => refForm_any m g cap F W hr hm hm2
  have hPm := fun a cap W hr => refPerm_any a m cap F W hr (by omega)
  have Hm := Lib.hid (show 0 < m by omega)
  have HFm := Lib.hid fun a cap W hr => Form_none m a cap F W hr hm hm2 hin hfo
  have HRf : Hid (∀ (g cap : Nat) (W : World), Row W (some ⟨g, 0, none⟩) m (intL F) → Calls Try.prog 37 #[.int .i64 m, .slice (some ⟨g, 0, none⟩) m cap] W fun e w' => e = .returned (.tuple #[.slice none 0 0, .bool false]) ∧ Below W.heap.size W w') := fun g cap W hr => (hRf g cap W hr).mono fun e w' ⟨⟨_, h1⟩, b⟩ => ⟨h1 hfo, b⟩
  rw [hp, show decide ((-1 : Int) < 0) = true from rfl] at hPm
  obtain ⟨hPF, hFx⟩ := fnL_perm hl hin hp
  have HIn := Lib.hid fun g cap W hr h1 h2 => Inverse_yes m g cap F W hr h1 h2 hm hm2 hin hp
  have hOr := fun g cap W hr h1 h2 => Order_full m g cap F W hr h1 h2 hm hm2 hin hp
  have hCy := fun g cap W hr h1 h2 => Cycles_full m g cap F W hr h1 h2 hm hm2 hin hp
  have hRi := fun g cap W hr => refInverse_any m g cap F (fnL F) (invL F m) W hr hm hm2 hPF hFx (invL_len F m) (fun v hv => invL_get hv)
  have hRo := fun g cap W hr => refOrder_any m g cap F (fnL F) W hr hm hm2 hPF hFx
  have hRc := fun g cap W hr => refCycles_any m g cap F (fnL F) W hr hm hm2 hPF hFx
  have hclen : (cycL (cycN (fnL F) m)).length ≤ 64 := by
    have h1 := cyc_len (cycN (fnL F) m) 65
    rw [count_sum hPF hm2 (fun n => many_cyc hPF n)] at h1
    exact Nat.le_trans h1 hm2
  generalize ordC (cycN (fnL F) m) = O at *
  generalize cycL (cycN (fnL F) m) = C at *
  generalize invL F m = V at *
  have HI2 := Lib.hid fun a b ca cb W h1 h2 => ints_true a b m ca cb V W h1 h2 (by omega)
  have HI3 := Lib.hid fun a b ca cb W h1 h2 => ints_true a b C.length ca cb C W h1 h2 (by omega)
  generalize C.length = cl at *
  have HOr := Lib.hid hOr
  have HCy := Lib.hid hCy
  have HRi := Lib.hid hRi
  have HRo := Lib.hid hRo
  have HRc := Lib.hid hRc
  have hOO : ((O : Int) == (O : Int)) = true := by simp
  clear hPF hFx hOr hCy hRi hRo hRc hclen
  have HPm := Lib.hid hPm
  clear hM hfb hFn hRf hPm hmod hF hl hin hfo hp hR
  go_enter Try.func4, Try.ntmps4
  go_wp2_with fail
  refine (HL.out).mono ?_
  rintro e w1 ⟨v1, rfl, ho, b1⟩
  have B1 := Lib.hid b1
  clear b1
  obtain ⟨gf, cf, rfl, hcf, hcfm, -, hrf⟩ := own_full ho Hm.out
  have RF := Lib.hid hrf
  have Hcf := Lib.hid (And.intro hcf hcfm)
  clear ho hrf hcf hcfm
  go_wp2_with fail
  refine (HFm.out _ _ _ RF.out).mono ?_
  rintro e w2 ⟨rfl, b2⟩
  have B2 := Lib.hid (b_next B1.out b2)
  clear B1
  replace RF := Lib.hid (RF.out.below b2)
  clear b2
  go_wp2_with fail
  refine (HIn.out _ _ _ RF.out Hcf.out.1 Hcf.out.2).mono ?_
  rintro e w3 ⟨v3, rfl, ho, b3⟩
  have B3 := Lib.hid (b_next B2.out b3)
  clear B2
  replace RF := Lib.hid (RF.out.below b3)
  clear b3
  obtain ⟨ai, ci, hv, hci, r3⟩ := own_slice ho
  subst v3
  have RI := Lib.hid r3
  clear ho r3
  go_wp2_with fail
  refine (HOr.out _ _ _ RF.out Hcf.out.1 Hcf.out.2).mono ?_
  rintro e w4 ⟨rfl, b4⟩
  have B4 := Lib.hid (b_next B3.out b4)
  clear B3
  replace RF := Lib.hid (RF.out.below b4)
  replace RI := Lib.hid (RI.out.below b4)
  clear b4
  go_wp2_with fail
  refine (HCy.out _ _ _ RF.out Hcf.out.1 Hcf.out.2).mono ?_
  rintro e w5 ⟨v5, rfl, ho, b5⟩
  have B5 := Lib.hid (b_next B4.out b5)
  clear B4
  replace RF := Lib.hid (RF.out.below b5)
  replace RI := Lib.hid (RI.out.below b5)
  clear b5
  obtain ⟨ay, cy, hv, hcy, r5⟩ := own_slice ho
  subst v5
  have RY := Lib.hid r5
  clear ho r5
  go_wp2_with fail
  refine (HM.out _).mono ?_
  rintro e w6 ⟨rfl, hw⟩
  subst w6
  go_wp2_with fail
  refine (HFn.out _ _ _ RF.out).mono ?_
  rintro e w7 ⟨rfl, hw⟩
  subst w7
  go_wp2_with fail
  refine (HRf.out _ _ _ RF.out).mono ?_
  rintro e w8 ⟨rfl, b8⟩
  have B8 := Lib.hid (b_next B5.out b8)
  clear B5
  replace RF := Lib.hid (RF.out.below b8)
  replace RI := Lib.hid (RI.out.below b8)
  replace RY := Lib.hid (RY.out.below b8)
  clear b8
  go_wp2_with fail
  refine (HPm.out _ _ _ RF.out).mono ?_
  rintro e w9 ⟨rfl, hq⟩
  have b9 := drew_below hq
  clear hq
  have B9 := Lib.hid (b_next B8.out b9)
  clear B8
  replace RF := Lib.hid (RF.out.below b9)
  replace RI := Lib.hid (RI.out.below b9)
  replace RY := Lib.hid (RY.out.below b9)
  clear b9
  go_wp2_with fail
  refine (HRi.out _ _ _ RF.out).mono ?_
  rintro e w10 ⟨rfl, hrr, b10⟩
  have B10 := Lib.hid (b_next B9.out b10)
  clear B9
  replace RF := Lib.hid (RF.out.below b10)
  replace RI := Lib.hid (RI.out.below b10)
  replace RY := Lib.hid (RY.out.below b10)
  clear b10
  have RV := Lib.hid hrr
  clear hrr
  go_wp2_with fail
  refine (HI2.out _ _ _ _ _ RI.out RV.out).mono ?_
  rintro e w11 ⟨rfl, hq⟩
  have b11 := drew_below hq
  clear hq
  have B11 := Lib.hid (b_next B10.out b11)
  clear B10
  replace RF := Lib.hid (RF.out.below b11)
  replace RI := Lib.hid (RI.out.below b11)
  replace RY := Lib.hid (RY.out.below b11)
  replace RV := Lib.hid (RV.out.below b11)
  clear b11
  clear RI
  clear RV
  go_wp2_with fail
  refine (HRo.out _ _ _ RF.out).mono ?_
  rintro e w12 ⟨rfl, b12⟩
  have B12 := Lib.hid (b_next B11.out b12)
  clear B11
  replace RF := Lib.hid (RF.out.below b12)
  replace RY := Lib.hid (RY.out.below b12)
  clear b12
  go_wp2_with fail
  refine (HRc.out _ _ _ RF.out).mono ?_
  rintro e w13 ⟨v13, rfl, ho, b13⟩
  have B13 := Lib.hid (b_next B12.out b13)
  clear B12
  replace RF := Lib.hid (RF.out.below b13)
  replace RY := Lib.hid (RY.out.below b13)
  clear b13
  obtain ⟨az, cz, hv, hcz, r13⟩ := own_slice ho
  subst v13
  have RZ := Lib.hid r13
  clear ho r13
  go_wp2_with fail
  refine (HI3.out _ _ _ _ _ RY.out RZ.out).mono ?_
  rintro e w14 ⟨rfl, hq⟩
  have b14 := drew_below hq
  clear hq
  have B14 := Lib.hid (b_next B13.out b14)
  clear B13
  replace RF := Lib.hid (RF.out.below b14)
  replace RY := Lib.hid (RY.out.below b14)
  replace RZ := Lib.hid (RZ.out.below b14)
  clear b14
  clear RY
  clear RZ
  go_wp2_with fail
  refine (HA.out _).mono ?_
  rintro e w15 ⟨rfl, b15⟩
  have B15 := Lib.hid (b_next B14.out b15)
  clear B14
  replace RF := Lib.hid (RF.out.below b15)
  clear b15
  go_wp2
  go_ret
  exact ⟨rfl, B15.out⟩
set_option maxRecDepth 100000 in
set_option maxHeartbeats 8000000 in
theorem forms_sn (m : Nat) (v : Value) (row : List Int) (w : World) (hR : RowIn w v row) (hm : 2 ≤ m) (hm2 : m ≤ 64) (hmod : modB m = true) (F : List Int) (hF : cutL row = F) (hl : F.length = m) (hin : ∀ x ∈ F, 0 ≤ x ∧ x < m) (l : List Int) (hfo : formR m (fun x => F.getD x 0) = some l) (hp : ¬ (equalR F).1 < 0) : Calls Try.prog 4 #[.int .i64 (m : Int), v] w fun e w' => e = .returned (.bool true) ∧ Below w.heap.size w w' := by
  have HL := Lib.hid (list_in v row w hR)
  rw [hF, hl] at HL
  have hM := fun w => refModulus_any (m : Int) w
  rw [hmod] at hM
  have HM := Lib.hid hM
  have HA := Lib.hid fun w => awake_any w
  have hfb : funcB (m : Int) F = true := funcB_in hl hm hm2 hin
  have hFn := fun a cap W hr => refFunc_any (m : Int) a m cap F W hr (by omega)
  rw [fun_ref hmod hl, hfb] at hFn
  have HFn := Lib.hid hFn
  have hRf := fun g cap W hr => refForm_any m g cap F W hr hm hm2
  have hPm := fun a cap W hr => refPerm_any a m cap F W hr (by omega)
  have Hm := Lib.hid (show 0 < m by omega)
  have HFm := Lib.hid fun a cap W hr => Form_some m a cap F l W hr hm hm2 hin hfo
  have HRf : Hid (∀ (g cap : Nat) (W : World), Row W (some ⟨g, 0, none⟩) m (intL F) → Calls Try.prog 37 #[.int .i64 m, .slice (some ⟨g, 0, none⟩) m cap] W fun e w' => ∃ (g' c' : Nat), e = .returned (.tuple #[.slice (some ⟨g', 0, none⟩) l.length c', .bool true]) ∧ Row w' (some ⟨g', 0, none⟩) l.length (intL l) ∧ Below W.heap.size W w') := fun g cap W hr => (hRf g cap W hr).mono fun e w' ⟨⟨h1, _⟩, b⟩ => by
    obtain ⟨g', c', h2, h3⟩ := h1 l hfo
    exact ⟨g', c', h2, h3, b⟩
  have hll := form_len hm hm2 hfo
  have HI1 := Lib.hid fun a b ca cb W h1 h2 => ints_true a b l.length ca cb l W h1 h2 (by omega)
  generalize l.length = ln at *
  rw [show decide ((equalR F).1 < 0) = false from decide_eq_false hp] at hPm
  have hI := fun g cap W hr h1 h2 => isPerm_any m g cap F W hr h1 h2 hm hm2 hin
  rw [show decide ((equalR F).1 < 0) = false from decide_eq_false hp] at hI
  have HIn := Lib.hid fun g cap W hr h1 h2 => Inverse_no (m : Int) (some ⟨g, 0, none⟩) m cap W (hI g cap W hr h1 h2)
  have HOr := Lib.hid fun g cap W hr h1 h2 => Order_no (m : Int) (some ⟨g, 0, none⟩) m cap W (hI g cap W hr h1 h2)
  have HCy := Lib.hid fun g cap W hr h1 h2 => Cycles_no (m : Int) (some ⟨g, 0, none⟩) m cap W (hI g cap W hr h1 h2)
  clear hI
  have HPm := Lib.hid hPm
  clear hM hfb hFn hRf hPm hmod hF hl hin hfo hp hR hll
  go_enter Try.func4, Try.ntmps4
  go_wp2_with fail
  refine (HL.out).mono ?_
  rintro e w1 ⟨v1, rfl, ho, b1⟩
  have B1 := Lib.hid b1
  clear b1
  obtain ⟨gf, cf, rfl, hcf, hcfm, -, hrf⟩ := own_full ho Hm.out
  have RF := Lib.hid hrf
  have Hcf := Lib.hid (And.intro hcf hcfm)
  clear ho hrf hcf hcfm
  go_wp2_with fail
  refine (HFm.out _ _ _ RF.out).mono ?_
  rintro e w2 ⟨v2, rfl, ho, b2⟩
  have B2 := Lib.hid (b_next B1.out b2)
  clear B1
  replace RF := Lib.hid (RF.out.below b2)
  clear b2
  obtain ⟨ac, cc, hv, hcc, r2⟩ := own_slice ho
  subst v2
  have RC := Lib.hid r2
  clear ho r2
  go_wp2_with fail
  refine (HIn.out _ _ _ RF.out Hcf.out.1 Hcf.out.2).mono ?_
  rintro e w3 ⟨rfl, hw⟩
  subst w3
  go_wp2_with fail
  refine (HOr.out _ _ _ RF.out Hcf.out.1 Hcf.out.2).mono ?_
  rintro e w4 ⟨rfl, hw⟩
  subst w4
  go_wp2_with fail
  refine (HCy.out _ _ _ RF.out Hcf.out.1 Hcf.out.2).mono ?_
  rintro e w5 ⟨rfl, hw⟩
  subst w5
  go_wp2_with fail
  refine (HM.out _).mono ?_
  rintro e w6 ⟨rfl, hw⟩
  subst w6
  go_wp2_with fail
  refine (HFn.out _ _ _ RF.out).mono ?_
  rintro e w7 ⟨rfl, hw⟩
  subst w7
  go_wp2_with fail
  refine (HRf.out _ _ _ RF.out).mono ?_
  rintro e w8 ⟨gr, cr, rfl, hrr, b8⟩
  have B8 := Lib.hid (b_next B2.out b8)
  clear B2
  replace RF := Lib.hid (RF.out.below b8)
  replace RC := Lib.hid (RC.out.below b8)
  clear b8
  have RR := Lib.hid hrr
  clear hrr
  go_wp2_with fail
  refine (HI1.out _ _ _ _ _ RC.out RR.out).mono ?_
  rintro e w9 ⟨rfl, hq⟩
  have b9 := drew_below hq
  clear hq
  have B9 := Lib.hid (b_next B8.out b9)
  clear B8
  replace RF := Lib.hid (RF.out.below b9)
  replace RC := Lib.hid (RC.out.below b9)
  replace RR := Lib.hid (RR.out.below b9)
  clear b9
  clear RC
  clear RR
  go_wp2_with fail
  refine (HPm.out _ _ _ RF.out).mono ?_
  rintro e w10 ⟨rfl, hq⟩
  have b10 := drew_below hq
  clear hq
  have B10 := Lib.hid (b_next B9.out b10)
  clear B9
  replace RF := Lib.hid (RF.out.below b10)
  clear b10
  go_wp2_with fail
  refine (HA.out _).mono ?_
  rintro e w11 ⟨rfl, b11⟩
  have B11 := Lib.hid (b_next B10.out b11)
  clear B10
  replace RF := Lib.hid (RF.out.below b11)
  clear b11
  go_wp2
  go_ret
  exact ⟨rfl, B11.out⟩
set_option maxRecDepth 100000 in
set_option maxHeartbeats 8000000 in
theorem forms_sp (m : Nat) (v : Value) (row : List Int) (w : World) (hR : RowIn w v row) (hm : 2 ≤ m) (hm2 : m ≤ 64) (hmod : modB m = true) (F : List Int) (hF : cutL row = F) (hl : F.length = m) (hin : ∀ x ∈ F, 0 ≤ x ∧ x < m) (l : List Int) (hfo : formR m (fun x => F.getD x 0) = some l) (hp : (equalR F).1 = -1) : Calls Try.prog 4 #[.int .i64 (m : Int), v] w fun e w' => e = .returned (.bool true) ∧ Below w.heap.size w w' := by
  have HL := Lib.hid (list_in v row w hR)
  rw [hF, hl] at HL
  have hM := fun w => refModulus_any (m : Int) w
  rw [hmod] at hM
  have HM := Lib.hid hM
  have HA := Lib.hid fun w => awake_any w
  have hfb : funcB (m : Int) F = true := funcB_in hl hm hm2 hin
  have hFn := fun a cap W hr => refFunc_any (m : Int) a m cap F W hr (by omega)
  rw [fun_ref hmod hl, hfb] at hFn
  have HFn := Lib.hid hFn
  have hRf := fun g cap W hr => refForm_any m g cap F W hr hm hm2
  have hPm := fun a cap W hr => refPerm_any a m cap F W hr (by omega)
  have Hm := Lib.hid (show 0 < m by omega)
  have HFm := Lib.hid fun a cap W hr => Form_some m a cap F l W hr hm hm2 hin hfo
  have HRf : Hid (∀ (g cap : Nat) (W : World), Row W (some ⟨g, 0, none⟩) m (intL F) → Calls Try.prog 37 #[.int .i64 m, .slice (some ⟨g, 0, none⟩) m cap] W fun e w' => ∃ (g' c' : Nat), e = .returned (.tuple #[.slice (some ⟨g', 0, none⟩) l.length c', .bool true]) ∧ Row w' (some ⟨g', 0, none⟩) l.length (intL l) ∧ Below W.heap.size W w') := fun g cap W hr => (hRf g cap W hr).mono fun e w' ⟨⟨h1, _⟩, b⟩ => by
    obtain ⟨g', c', h2, h3⟩ := h1 l hfo
    exact ⟨g', c', h2, h3, b⟩
  have hll := form_len hm hm2 hfo
  have HI1 := Lib.hid fun a b ca cb W h1 h2 => ints_true a b l.length ca cb l W h1 h2 (by omega)
  generalize l.length = ln at *
  rw [hp, show decide ((-1 : Int) < 0) = true from rfl] at hPm
  obtain ⟨hPF, hFx⟩ := fnL_perm hl hin hp
  have HIn := Lib.hid fun g cap W hr h1 h2 => Inverse_yes m g cap F W hr h1 h2 hm hm2 hin hp
  have hOr := fun g cap W hr h1 h2 => Order_full m g cap F W hr h1 h2 hm hm2 hin hp
  have hCy := fun g cap W hr h1 h2 => Cycles_full m g cap F W hr h1 h2 hm hm2 hin hp
  have hRi := fun g cap W hr => refInverse_any m g cap F (fnL F) (invL F m) W hr hm hm2 hPF hFx (invL_len F m) (fun v hv => invL_get hv)
  have hRo := fun g cap W hr => refOrder_any m g cap F (fnL F) W hr hm hm2 hPF hFx
  have hRc := fun g cap W hr => refCycles_any m g cap F (fnL F) W hr hm hm2 hPF hFx
  have hclen : (cycL (cycN (fnL F) m)).length ≤ 64 := by
    have h1 := cyc_len (cycN (fnL F) m) 65
    rw [count_sum hPF hm2 (fun n => many_cyc hPF n)] at h1
    exact Nat.le_trans h1 hm2
  generalize ordC (cycN (fnL F) m) = O at *
  generalize cycL (cycN (fnL F) m) = C at *
  generalize invL F m = V at *
  have HI2 := Lib.hid fun a b ca cb W h1 h2 => ints_true a b m ca cb V W h1 h2 (by omega)
  have HI3 := Lib.hid fun a b ca cb W h1 h2 => ints_true a b C.length ca cb C W h1 h2 (by omega)
  generalize C.length = cl at *
  have HOr := Lib.hid hOr
  have HCy := Lib.hid hCy
  have HRi := Lib.hid hRi
  have HRo := Lib.hid hRo
  have HRc := Lib.hid hRc
  have hOO : ((O : Int) == (O : Int)) = true := by simp
  clear hPF hFx hOr hCy hRi hRo hRc hclen
  have HPm := Lib.hid hPm
  clear hM hfb hFn hRf hPm hmod hF hl hin hfo hp hR hll
  go_enter Try.func4, Try.ntmps4
  go_wp2_with fail
  refine (HL.out).mono ?_
  rintro e w1 ⟨v1, rfl, ho, b1⟩
  have B1 := Lib.hid b1
  clear b1
  obtain ⟨gf, cf, rfl, hcf, hcfm, -, hrf⟩ := own_full ho Hm.out
  have RF := Lib.hid hrf
  have Hcf := Lib.hid (And.intro hcf hcfm)
  clear ho hrf hcf hcfm
  go_wp2_with fail
  refine (HFm.out _ _ _ RF.out).mono ?_
  rintro e w2 ⟨v2, rfl, ho, b2⟩
  have B2 := Lib.hid (b_next B1.out b2)
  clear B1
  replace RF := Lib.hid (RF.out.below b2)
  clear b2
  obtain ⟨ac, cc, hv, hcc, r2⟩ := own_slice ho
  subst v2
  have RC := Lib.hid r2
  clear ho r2
  go_wp2_with fail
  refine (HIn.out _ _ _ RF.out Hcf.out.1 Hcf.out.2).mono ?_
  rintro e w3 ⟨v3, rfl, ho, b3⟩
  have B3 := Lib.hid (b_next B2.out b3)
  clear B2
  replace RF := Lib.hid (RF.out.below b3)
  replace RC := Lib.hid (RC.out.below b3)
  clear b3
  obtain ⟨ai, ci, hv, hci, r3⟩ := own_slice ho
  subst v3
  have RI := Lib.hid r3
  clear ho r3
  go_wp2_with fail
  refine (HOr.out _ _ _ RF.out Hcf.out.1 Hcf.out.2).mono ?_
  rintro e w4 ⟨rfl, b4⟩
  have B4 := Lib.hid (b_next B3.out b4)
  clear B3
  replace RF := Lib.hid (RF.out.below b4)
  replace RC := Lib.hid (RC.out.below b4)
  replace RI := Lib.hid (RI.out.below b4)
  clear b4
  go_wp2_with fail
  refine (HCy.out _ _ _ RF.out Hcf.out.1 Hcf.out.2).mono ?_
  rintro e w5 ⟨v5, rfl, ho, b5⟩
  have B5 := Lib.hid (b_next B4.out b5)
  clear B4
  replace RF := Lib.hid (RF.out.below b5)
  replace RC := Lib.hid (RC.out.below b5)
  replace RI := Lib.hid (RI.out.below b5)
  clear b5
  obtain ⟨ay, cy, hv, hcy, r5⟩ := own_slice ho
  subst v5
  have RY := Lib.hid r5
  clear ho r5
  go_wp2_with fail
  refine (HM.out _).mono ?_
  rintro e w6 ⟨rfl, hw⟩
  subst w6
  go_wp2_with fail
  refine (HFn.out _ _ _ RF.out).mono ?_
  rintro e w7 ⟨rfl, hw⟩
  subst w7
  go_wp2_with fail
  refine (HRf.out _ _ _ RF.out).mono ?_
  rintro e w8 ⟨gr, cr, rfl, hrr, b8⟩
  have B8 := Lib.hid (b_next B5.out b8)
  clear B5
  replace RF := Lib.hid (RF.out.below b8)
  replace RC := Lib.hid (RC.out.below b8)
  replace RI := Lib.hid (RI.out.below b8)
  replace RY := Lib.hid (RY.out.below b8)
  clear b8
  have RR := Lib.hid hrr
  clear hrr
  go_wp2_with fail
  refine (HI1.out _ _ _ _ _ RC.out RR.out).mono ?_
  rintro e w9 ⟨rfl, hq⟩
  have b9 := drew_below hq
  clear hq
  have B9 := Lib.hid (b_next B8.out b9)
  clear B8
  replace RF := Lib.hid (RF.out.below b9)
  replace RC := Lib.hid (RC.out.below b9)
  replace RI := Lib.hid (RI.out.below b9)
  replace RY := Lib.hid (RY.out.below b9)
  replace RR := Lib.hid (RR.out.below b9)
  clear b9
  clear RC
  clear RR
  go_wp2_with fail
  refine (HPm.out _ _ _ RF.out).mono ?_
  rintro e w10 ⟨rfl, hq⟩
  have b10 := drew_below hq
  clear hq
  have B10 := Lib.hid (b_next B9.out b10)
  clear B9
  replace RF := Lib.hid (RF.out.below b10)
  replace RI := Lib.hid (RI.out.below b10)
  replace RY := Lib.hid (RY.out.below b10)
  clear b10
  go_wp2_with fail
  refine (HRi.out _ _ _ RF.out).mono ?_
  rintro e w11 ⟨rfl, hrr, b11⟩
  have B11 := Lib.hid (b_next B10.out b11)
  clear B10
  replace RF := Lib.hid (RF.out.below b11)
  replace RI := Lib.hid (RI.out.below b11)
  replace RY := Lib.hid (RY.out.below b11)
  clear b11
  have RV := Lib.hid hrr
  clear hrr
  go_wp2_with fail
  refine (HI2.out _ _ _ _ _ RI.out RV.out).mono ?_
  rintro e w12 ⟨rfl, hq⟩
  have b12 := drew_below hq
  clear hq
  have B12 := Lib.hid (b_next B11.out b12)
  clear B11
  replace RF := Lib.hid (RF.out.below b12)
  replace RI := Lib.hid (RI.out.below b12)
  replace RY := Lib.hid (RY.out.below b12)
  replace RV := Lib.hid (RV.out.below b12)
  clear b12
  clear RI
  clear RV
  go_wp2_with fail
  refine (HRo.out _ _ _ RF.out).mono ?_
  rintro e w13 ⟨rfl, b13⟩
  have B13 := Lib.hid (b_next B12.out b13)
  clear B12
  replace RF := Lib.hid (RF.out.below b13)
  replace RY := Lib.hid (RY.out.below b13)
  clear b13
  go_wp2_with fail
  refine (HRc.out _ _ _ RF.out).mono ?_
  rintro e w14 ⟨v14, rfl, ho, b14⟩
  have B14 := Lib.hid (b_next B13.out b14)
  clear B13
  replace RF := Lib.hid (RF.out.below b14)
  replace RY := Lib.hid (RY.out.below b14)
  clear b14
  obtain ⟨az, cz, hv, hcz, r14⟩ := own_slice ho
  subst v14
  have RZ := Lib.hid r14
  clear ho r14
  go_wp2_with fail
  refine (HI3.out _ _ _ _ _ RY.out RZ.out).mono ?_
  rintro e w15 ⟨rfl, hq⟩
  have b15 := drew_below hq
  clear hq
  have B15 := Lib.hid (b_next B14.out b15)
  clear B14
  replace RF := Lib.hid (RF.out.below b15)
  replace RY := Lib.hid (RY.out.below b15)
  replace RZ := Lib.hid (RZ.out.below b15)
  clear b15
  clear RY
  clear RZ
  go_wp2_with fail
  refine (HA.out _).mono ?_
  rintro e w16 ⟨rfl, b16⟩
  have B16 := Lib.hid (b_next B15.out b16)
  clear B15
  replace RF := Lib.hid (RF.out.below b16)
  clear b16
  go_wp2
  go_ret
  exact ⟨rfl, B16.out⟩
theorem walk_ShuffleForms (x : Int) (_ : (Lit.int .i64 x).wf = true) (pv : Value) (rp : List Int) (w : World) (hP : RowIn w pv rp) : Calls Try.prog 4 #[.int .i64 x, pv] w fun e w' => e = .returned (.bool true) ∧ Below w.heap.size w w' := by
  cases hm : modB x with
  | false => exact forms_x x pv rp w hP hm
  | true =>
    cases hf : funcB x (cutL rp) with
    | false => exact forms_f x pv rp w hP hm hf
    | true =>
      obtain ⟨k, rfl, hk, hk2⟩ := modB_nat hm
      obtain ⟨h1, h2⟩ := fun_parts hf
      have hl : (cutL rp).length = k := by omega
      rcases equalR_cases (cutL rp) hl with he | ⟨y, z, _, _, he, _⟩
      · cases hfo : formR k (fun x => (cutL rp).getD x 0) with
        | none => exact forms_np k pv rp w hP hk hk2 hm _ rfl hl h2 hfo (by rw [he])
        | some l => exact forms_sp k pv rp w hP hk hk2 hm _ rfl hl h2 l hfo (by rw [he])
      · have hnp : ¬ (equalR (cutL rp)).1 < 0 := by rw [he]; simp only; omega
        cases hfo : formR k (fun x => (cutL rp).getD x 0) with
        | none => exact forms_nn k pv rp w hP hk hk2 hm _ rfl hl h2 hfo hnp
        | some l => exact forms_sn k pv rp w hP hk hk2 hm _ rfl hl h2 l hfo hnp
end Go.Proofs.Ytndbjojjaapeaaa

/- ShuffleForms: Form, Inverse, Order and Cycles of a function, or the specified errors. Conditions: none. -/
namespace Go.Proofs.Ytndbjojjaapeaaa
set_option linter.unusedVariables false

namespace lawShuffleForms
open Go.ChangeShapes Go.WideShapes Go.ChangeAt Go.RowKit
open Go.ChangeMaps (open_string shut_string)

theorem own : ownKnob Try.prog.godebug = none := by kernel_rfl
theorem lay : laidOutB Try.prog = true := by kernel_rfl

set_option maxRecDepth 100000 in
theorem lifted (os : Os) (started : os.Started) (H : Type) (enc : TypeId × Value → H) :
    ReturnsInHanded {} Try.checked os 4 .any (Rows.shuffleFormsSpec.pre6 enc Try.prog Try.f4 Rows.shuffleFormsRow.domain false) (Rows.shuffleFormsSpec.post enc Try.prog Try.f4 false true false false) := by
  refine returnsInHanded_of_change (C := Try.checked) own started (by kernel_rfl) Try.func4
    (ChangeSpec.witness6 (enc := enc) (C := Try.checked) false ⟨#[], #[.int .i64 0, .slice none 0 0], []⟩ 8 (by kernel_rfl) (by kernel_rfl) (by kernel_rfl) (by kernel_rfl)) ?_
  intro W base args ds gs before hval0 hW hcnd _
  have hval : ∀ (j : Nat) t v, Try.f4.params[j]? = some t → args[j]? = some v → Value.okWide Try.prog W .any base t v := hval0
  have hW' := hW
  obtain ⟨p, q, hA0, hV, rfl, hfz, hnd⟩ := hW
  have hA : DataW.TrodAll enc Try.prog W 0 (fun _ => true) true Try.f4.params.toList args.toList ds p := hA0
  rw [Try.params4] at hA hval
  obtain ⟨v0, vs0, d0, ds0, p0, q0, hargs, rfl, rfl, h0, r0⟩ := trodAll_cons hA
  obtain ⟨v1, vs1, d1, ds1, p1, q1, rfl, rfl, rfl, h1, r1⟩ := trodAll_cons r0
  obtain ⟨rfl, rfl, rfl⟩ := trodAll_nil r1
  obtain rfl : args = #[v0, v1] := by cases args; simp_all
  obtain ⟨rfl, rfl⟩ := trodVars_none hV
  obtain ⟨a0, rfl, rfl, rfl, w0⟩ := open_int Try.underlying3 (hval 0 3 v0 rfl rfl) h0
  obtain ⟨a1, len1, cap1, rfl⟩ := okWide_slice Try.underlying22 (hval 1 22 v1 rfl rfl)
  have k1 := h1
  have lt1 : ∀ x ∈ p1, x.block < W.heap.size := by obtain ⟨m, hm⟩ := k1; exact DataW.trod_lt m _ _ _ hm
  obtain ⟨z1, w1⟩ : ∃ C, RowIn W (.slice a1 len1 cap1) C := by
    obtain ⟨fuel, hf⟩ := h1
    exact rowIn_of Try.underlying22 Try.underlying3 (by kernel_rfl) hf
  clear hA0 hval0
  refine (walk_ShuffleForms a0 w0 _ z1 W w1).mono fun e W' ⟨he, bel⟩ => ?_
  subst he
  exact ⟨_, rfl, _, _, _, [], _, [], hW', trodAll_mk1 (shut_bool Try.underlying4 _), (trodAll_cons_mk (shut_int Try.underlying3 w0) (trodAll_cons_mk (Below.trod lay (by kernel_rfl) (of_decide_eq_true (by kernel_rfl)) k1 bel lt1) trodAll_mk0)), rfl, bel.frame _, fun h => by cases h⟩

theorem over : Rows.shuffleFormsRow.holds Try.pinned (OpenSpec.ofChange Rows.shuffleFormsSpec) :=
  OpenClaim.holds_of_wide 4 Try.f4 rfl rfl rfl rfl rfl rfl rfl ⟨rfl, rfl, rfl, rfl, rfl⟩ rfl rfl rfl rfl rfl (by kernel_rfl) Try.func4 (by kernel_rfl)
    (of_decide_eq_true (by kernel_rfl)) (by unfold Func.isWrapper; first | (rw [if_pos (by decide +kernel)]; kernel_rfl) | (rw [if_neg (by decide +kernel)]; exact ⟨rfl, rfl⟩))
    (fun os started H enc _ => lifted os started H enc)

theorem proved : Rows.ShuffleFormsSaid := over
end lawShuffleForms
end Go.Proofs.Ytndbjojjaapeaaa
