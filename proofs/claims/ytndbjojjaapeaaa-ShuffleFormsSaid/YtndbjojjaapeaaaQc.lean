/- Texts, joined: Form, Awk, Tam, Rroom, Isf, Unf, Unno, Comp, Frm. -/
import Derived.Test.YtndbjojjaapeaaaQb
import Derived.WalkArith
import Derived.ProofKit
import Derived.OpenShut
import Derived.ChangeOld
import Derived.ChangeSlices
/- Form. -/
namespace Go.Proofs.Ytndbjojjaapeaaa
set_option linter.unusedVariables false
open Go.RowKit

theorem own_of_rowIs {w : World} {b n base : Nat} {t : TypeId} {f : Nat → Value} (h : w.rowIs b t n f) (hb : base ≤ b) (hn : n ≤ maxLen) : w.ownsRow base t 1 (.slice (some ⟨b, 0, none⟩) n n) n ((List.range n).map f) := by
  obtain ⟨c, h1, h2, h3⟩ := h
  refine ⟨by simp, .inr ⟨b, n, c, rfl, hb, h1, Nat.le_refl _, hn, by omega, ?_⟩⟩
  refine List.ext_getElem? fun i => ?_
  rw [Nat.mul_one]
  by_cases hi : i < n
  · rw [List.getElem?_take_of_lt hi, List.getElem?_map, List.getElem?_range hi]
    simpa using h3 i hi
  · rw [List.getElem?_eq_none (by simp; omega), List.getElem?_eq_none (by simp; omega)]
theorem slice_toI (g n cap k : Nat) (hk : k ≤ cap) (w : World) : (Instr.sliceAt 22 (.slice (some ⟨g, 0, none⟩) n cap) none (some (.int .i64 k)) none).run Try.prog w = .ok (.slice (some ⟨g, 0, none⟩) k cap) w := by
  have h0 : (0 : Int) ≤ (k : Int) := by omega
  have h1 : (k : Int) ≤ (cap : Int) := by omega
  simp [Instr.sliceAt, go_sem, h0, h1]
theorem trimZ_snoc (l : List Int) (x : Int) : trimZ (l ++ [x]) = if x = 0 then trimZ l else l ++ [x] := by
  unfold trimZ
  rw [List.reverse_append, List.reverse_singleton, List.singleton_append, List.dropWhile_cons]
  by_cases h : x = 0
  · rw [if_pos (by simp [h]), if_pos h]
  · rw [if_neg (by simp [h]), if_neg h]; simp
theorem trimZ_nil : trimZ [] = [] := rfl

set_option maxRecDepth 100000 in
set_option maxHeartbeats 4000000 in
theorem without_any (g n cap : Nat) (xs : List Int) (w : World) (hr : Row w (some ⟨g, 0, none⟩) n (intL xs)) (hn : n ≤ 1000) (hcap : n ≤ cap) :
    Calls Try.prog 77 #[.slice (some ⟨g, 0, none⟩) n cap] w fun e w' => ∃ k, e = .returned (.slice (some ⟨g, 0, none⟩) k cap) ∧ k ≤ n ∧ trimZ xs = xs.take k ∧ w' = w := by
  have hx : xs.length = n := by have := hr.1; simpa [intL] using this
  have Hr := Lib.hid hr
  have Hx := Lib.hid hx
  clear hr hx
  go_enter Try.func77, Try.ntmps77
  go_wp2
  go_loopw [0] (fun v wr => ∃ k, k ≤ n ∧ v = .slice (some ⟨g, 0, none⟩) k cap ∧ Hid (trimZ (xs.take k) = trimZ xs) ∧ wr = w) (fun v _ => lenV v)
  case atStart => exact ⟨n, Nat.le_refl _, rfl, by unfold Hid; rw [List.take_of_length_le (by have := Hx.out; omega)], rfl⟩
  case round =>
    obtain ⟨k, hk, rfl, HT, rfl⟩ := hrel
    by_cases hk0 : k = 0
    · subst hk0
      have ht := HT.out
      rw [List.take_zero, trimZ_nil] at ht
      have HT2 := Lib.hid ht
      clear ht HT
      go_wp2
      go_ret
      exact ⟨0, rfl, Nat.zero_le _, by rw [← HT2.out, List.take_zero], rfl⟩
    · obtain ⟨j, rfl⟩ : ∃ j, k = j + 1 := ⟨k - 1, by omega⟩
      obtain ⟨x, hxj⟩ : ∃ x, xs[j]? = some x := ⟨_, List.getElem?_eq_getElem (by have := Hx.out; omega)⟩
      have hTk : xs.take (j + 1) = xs.take j ++ [x] := by rw [List.take_add_one, hxj]; rfl
      have hts := trimZ_snoc (xs.take j) x
      rw [← hTk, HT.out] at hts
      have c1 := Hr.out.2 (by omega)
      obtain ⟨g', hg', _, hc⟩ := c1
      obtain rfl : g = g' := by simpa using hg'
      have c1 := hc j _ (intL_get hxj)
      have hgt : ((j + 1 : Nat) : Int) > 0 := by omega
      have hpos : (0 : Int) < ((j + 1 : Nat) : Int) := by omega
      obtain ⟨k1, hk1⟩ : ∃ k1, j + 1 = k1 := ⟨_, rfl⟩
      have hw1 : IntKind.i64.wrap ((k1 : Int) - 1) = (j : Int) := by rw [← hk1, IntWalk.i64_in _ (by omega)]; omega
      have hw2 : wrap64 ((k1 : Int) - 1) = (j : Int) := by rw [← hk1, IntWalk.wrap64_in _ (by omega)]; omega
      have hjk : (j : Int) < k1 := by omega
      rw [hk1] at hgt hpos hk hTk ⊢
      have hsl := fun W => slice_toI g k1 cap j (by omega) W
      have HTs := Lib.hid hts
      have HTk := Lib.hid hTk
      have Hk1 := Lib.hid hk1
      clear hts hTk hg' hc hxj HT hk1
      by_cases h0 : x = 0
      · have ht := HTs.out
        rw [if_pos h0] at ht
        have HT2 : Hid (trimZ (xs.take j) = trimZ xs) := ht.symm
        clear ht HTs
        subst h0
        go_wp2
        go_roundw
        case rel => exact ⟨j, by have := Hk1.out; omega, rfl, HT2, trivial⟩
        case measure => have := Hk1.out; simp [lenV]; omega
      · have h1 : (x == 0) = false := by rw [beq_eq_false_iff_ne]; exact h0
        have ht := HTs.out
        rw [if_neg h0] at ht
        have HT2 := Lib.hid ht
        clear ht HTs h0
        go_wp2
        go_ret
        exact ⟨k1, rfl, hk, by rw [HT2.out, Hk1.out], rfl⟩

def formL (d : Nat) (pre : List Int) (i c : Nat) : List Int := (List.range d).map fun j => if j = i then (c : Int) else pre.getD j 0
theorem formL_length (d : Nat) (pre : List Int) (i c : Nat) : (formL d pre i c).length = d := by simp [formL]
theorem formL_get {d : Nat} (pre : List Int) (i c : Nat) {j : Nat} (hj : j < d) : (formL d pre i c).getD j 0 = if j = i then (c : Int) else pre.getD j 0 := by
  unfold formL
  rw [List.getD_eq_getElem?_getD, List.getElem?_map, List.getElem?_range hj]; rfl
/-- the value at i, when c is tried there -/
theorem form_at {m d i c : Nat} (hm : 2 ≤ m) {pre : List Int} (hi : i < d) : formV m (formL d pre i c) i = (valV m pre i i + (c : Int) * (prodP m i : Int)) % (m : Int) := by
  rw [formV_val hm, formL_length]
  obtain ⟨e, rfl⟩ : ∃ e, d = i + 1 + e := ⟨d - (i + 1), by omega⟩
  rw [valV_more hm, valV_at hm, formL_get _ _ _ (by omega), if_pos rfl, valV_take m _ pre i i fun j hj => by rw [formL_get _ _ _ (by omega), if_neg (by omega)]]
theorem formL_next {d i c : Nat} {pre : List Int} (hp : pre.length = i) : formL d (pre ++ [(c : Int)]) (i + 1) 0 = formL d pre i c := by
  unfold formL
  refine List.map_congr_left fun j _ => ?_
  rw [getD_snoc, hp]
  by_cases h1 : j = i + 1
  · subst h1
    rw [if_pos rfl, if_neg (by omega), List.getD_eq_getElem?_getD, List.getElem?_eq_none (by omega)]; rfl
  · rw [if_neg h1]
    by_cases h2 : j < i
    · rw [if_pos h2, if_neg (by omega)]
    · rw [if_neg h2]
      by_cases h3 : j = i
      · rw [if_pos h3, if_pos h3]
      · rw [if_neg h3, if_neg h3, List.getD_eq_getElem?_getD, List.getElem?_eq_none (by omega)]; rfl
theorem formL_end {d : Nat} {pre : List Int} (hp : pre.length = d) : formL d pre d 0 = pre := by
  refine List.ext_getElem? fun j => ?_
  unfold formL
  rw [List.getElem?_map]
  by_cases hj : j < d
  · rw [List.getElem?_range hj, List.getElem?_eq_getElem (by omega), Option.map_some, if_neg (by omega), List.getD_eq_getElem?_getD, List.getElem?_eq_getElem (by omega)]; rfl
  · rw [List.getElem?_eq_none (by simp; omega), List.getElem?_eq_none (by omega)]; rfl
theorem formS_none {m : Nat} {f : Nat → Int} {i : Nat} (h : formS m f i = none) : ∀ e, formS m f (i + e) = none
  | 0 => h
  | e + 1 => by
    show (formS m f (i + e)).bind _ = none
    rw [formS_none h e]; rfl
theorem pickF_step (P : Nat → Bool) {r c : Nat} (h : c < r) : pickF P (r - c) c = if P c then some c else pickF P (r - (c + 1)) (c + 1) := by
  rw [show r - c = (r - (c + 1)) + 1 by omega]; rfl
theorem own_later {w w' : World} {B n : Nat} {v : Value} {xs : List Value} (h : w.ownsRow B 3 1 v n xs) (hb : Below w.heap.size w w') : w'.ownsRow B 3 1 v n xs := h.kept (row := none) (grown_of_below (row := none) hb) (Classical.em _)
def cellN (wr : World) (F i : Nat) : Nat := match wr.cell? ⟨F, i, none⟩ with | some (.int _ x) => x.toNat | _ => 0
/-- the numbers that are being found -/
structure FSt (m d F : Nat) (w1 : World) (pre : List Int) (i c : Nat) (wr : World) : Prop where
  row : wr.rowIs F 3 d fun j => .int .i64 (if j = i then (c : Int) else pre.getD j 0)
  below : Below F w1 wr
theorem FSt.isRow {m d F i c : Nat} {w1 wr : World} {pre : List Int} (h : FSt m d F w1 pre i c wr) (hd : d ≤ 100) : wr.ownsRow F 3 1 (.slice (some ⟨F, 0, none⟩) d d) d (intL (formL d pre i c)) := by
  have := own_of_rowIs (base := F) h.row (Nat.le_refl _) (show d ≤ maxLen by unfold maxLen; omega)
  unfold formL intL
  rw [List.map_map]
  exact this
theorem FSt.next {m d F i c : Nat} {w1 wr w2 : World} {pre : List Int} (h : FSt m d F w1 pre i c wr) (hb : Below wr.heap.size wr w2) (hF : F ≤ wr.heap.size) : FSt m d F w1 pre i c w2 := ⟨rowIs_below h.row hb, h.below.grown (grown_of_below (row := none) hb) hF (by simp)⟩
theorem own_short {w : World} {base n k cap : Nat} {a : Option Addr} {xs : List Int} (h : w.ownsRow base 3 1 (.slice a n cap) n (intL xs)) (hk : k ≤ n) (hn : 0 < n) : w.ownsRow base 3 1 (.slice a k cap) k (intL (xs.take k)) := by
  have hl := h.1
  rcases h.2 with ⟨h1, _⟩ | ⟨g, cap', cur, h1, h2, h3, h4, h5, h6, h7⟩
  · simp at h1; omega
  · simp only [Value.slice.injEq, true_and] at h1
    obtain ⟨rfl, rfl⟩ := h1
    refine ⟨by rw [intL_length] at hl ⊢; rw [List.length_take]; omega, .inr ⟨g, cap, cur, rfl, h2, h3, by omega, h5, h6, ?_⟩⟩
    unfold intL at h7 ⊢
    rw [List.map_take, ← h7, List.take_take, Nat.mul_one, Nat.mul_one, Nat.min_eq_left hk]
theorem makes_tab {m : Nat} (hm : 2 ≤ m) (h64 : m ≤ 64) (l : List Int) (f : Nat → Int) : decide (tabL (fun x => formV m l x) m = tabL f m) = makesB m f l := by
  rw [Bool.eq_iff_iff, decide_eq_true_eq]
  unfold makesB
  rw [List.all_eq_true]
  constructor
  · intro h x hx
    have hxm := List.mem_range.1 hx
    have h1 := congrArg (fun l => l.getD x 0) h
    rw [tabL_get _ _ (by omega), tabL_get _ _ (by omega), if_pos hxm, if_pos hxm] at h1
    rw [decide_eq_true_eq, ← formV_val hm]
    exact h1
  · intro h
    unfold tabL
    refine List.map_congr_left fun x _ => ?_
    by_cases hx : x < m
    · rw [if_pos hx, if_pos hx]
      show formV m l x = f x
      rw [formV_val hm]
      exact of_decide_eq_true (h x (List.mem_range.2 hx))
    · rw [if_neg hx, if_neg hx]
theorem tabL_wf {f : Nat → Int} {m : Nat} (h : ∀ x, x < m → -1000000 ≤ f x ∧ f x ≤ 1000000) : ∀ x ∈ tabL f m, (Lit.int .i64 x).wf = true := fun x hx => by
  unfold tabL at hx
  obtain ⟨i, _, rfl⟩ := List.mem_map.1 hx
  by_cases hi : i < m
  · rw [if_pos hi]; have := h i hi; exact WalkArith.wf_i64 (by omega)
  · rw [if_neg hi]; exact WalkArith.wf_i64 (by omega)

set_option maxRecDepth 100000 in
theorem Form_no (m : Int) (a : Option Addr) (n cap : Nat) (xs : List Int) (w : World) (hr : Row w a n (intL xs)) (hn : n ≤ 1000) (hp : funcB m xs = false) :
    Calls Try.prog 32 #[.int .i64 m, .slice a n cap] w fun e w' => e = .returned (.tuple #[.slice none 0 0, .int .i64 2]) ∧ w' = w := by
  have h := isFunc_any m a n cap xs w hr hn
  rw [hp] at h
  have H := Lib.hid h
  clear h hr hp
  go_enter Try.func32, Try.ntmps32
  go_wp2_with fail
  refine H.out.mono ?_
  rintro e w1 ⟨rfl, rfl⟩
  go_wp2
  go_ret2
  exact ⟨rfl, rfl⟩
theorem FSt.aRow {m d F i c : Nat} {w1 wr : World} {pre : List Int} (h : FSt m d F w1 pre i c wr) (hd : d ≤ 100) : Row wr (some ⟨F, 0, none⟩) d (intL (formL d pre i c)) := by
  obtain ⟨a', c', hv, hR⟩ := Row.of_own (h.isRow hd)
  obtain ⟨rfl, rfl⟩ : some (⟨F, 0, none⟩ : Addr) = a' ∧ d = c' := by simpa using hv
  exact hR
theorem FSt.cell {m d F i c : Nat} {w1 wr : World} {pre : List Int} (h : FSt m d F w1 pre i c wr) (hi : i < d) : wr.cell? ⟨F, i, none⟩ = some (.int .i64 (c : Int)) := by
  have := h.row.cell hi
  rwa [if_pos rfl] at this
theorem FSt.cellN {m d F i c : Nat} {w1 wr : World} {pre : List Int} (h : FSt m d F w1 pre i c wr) (hi : i < d) : cellN wr F i = c := by
  unfold Go.Proofs.Ytndbjojjaapeaaa.cellN
  rw [h.cell hi]; rfl
theorem ne_ints {a b : Nat} (h : ¬ a = b) : ((a : Int) == (b : Int)) = false := by rw [beq_eq_false_iff_ne]; omega
theorem lt_more {c c1 r : Nat} (h : c + 1 = c1) (h1 : ¬c1 = r) (h2 : c < r) : c1 < r := by omega
theorem mz_more {c c1 r : Nat} (h : c + 1 = c1) (h2 : c < r) : r - c1 < r - c := by omega
theorem mz_next {d k : Nat} (h : k < d) : d - (intOf (.int .i64 ((k + 1 : Nat) : Int))).toNat < d - (intOf (.int .i64 (k : Int))).toNat := by
  show d - ((k + 1 : Nat) : Int).toNat < d - (k : Int).toNat
  omega
theorem FSt.found {m d F i c : Nat} {w1 wr : World} {pre : List Int} (h : FSt m d F w1 pre i c wr) (hp : pre.length = i) : FSt m d F w1 (pre ++ [(c : Int)]) (i + 1) 0 wr :=
  ⟨h.row.congr fun j hj => by
    have e := congrArg (fun l => l.getD j 0) (formL_next (d := d) (c := c) hp)
    simp only [formL_get _ _ _ hj] at e
    rw [e], h.below⟩
theorem FSt.more {m d F i c : Nat} {w1 wr : World} {pre : List Int} (h : FSt m d F w1 pre i c wr) : FSt m d F w1 pre i (c + 1) (wr.setCell ⟨F, i, none⟩ (.int .i64 ((c + 1 : Nat) : Int))) :=
  ⟨(h.row.set i _).congr fun j _ => by by_cases e : j = i <;> simp [e], h.below.setCell (p := ⟨F, i, none⟩) (Nat.le_refl _) _⟩
theorem undrew1 {W w1 : World} (h : Below W.drew.heap.size W.drew w1) : Below W.heap.size W w1 := ⟨h.1, h.2, h.3, h.4, h.5⟩
/-- what Form returns -/
def FormPost (w : World) (m : Nat) (f : Nat → Int) (e : Ending) (w' : World) : Prop :=
  ((∀ l, formR m f = some l → ∃ v, e = .returned (.tuple #[v, .int .i64 0]) ∧ w'.ownsRow w.heap.size 3 1 v l.length (intL l)) ∧ (formR m f = none → e = .returned (.tuple #[.slice none 0 0, .int .i64 6]))) ∧ Below w.heap.size w w'
set_option maxRecDepth 100000 in
set_option maxHeartbeats 4000000 in
theorem Form_yes (m : Nat) (a : Option Addr) (cap : Nat) (xs : List Int) (w : World) (hr : Row w a m (intL xs)) (hm : 2 ≤ m) (hm2 : m ≤ 64) (hrem : ∀ x ∈ xs, 0 ≤ x ∧ x < m) :
    Calls Try.prog 32 #[.int .i64 m, .slice a m cap] w (FormPost w m fun x => xs.getD x 0) := by
  have hx : xs.length = m := by have := hr.1; simpa [intL] using this
  have hfb : funcB m xs = true := by
    unfold funcB remB
    rw [Bool.and_eq_true, Bool.and_eq_true, decide_eq_true_eq, List.all_eq_true]
    exact ⟨⟨decide_eq_true (by omega), by rw [hx]⟩, fun x h => decide_eq_true (hrem x h)⟩
  obtain ⟨d1, d2, d3, d4, d5⟩ := deg_facts ⟨m, by omega⟩ hm
  simp only at d1 d2
  have hd64 : degN m ≤ 64 := by omega
  have hI := fun W hW => isFunc_any m a m cap xs W hW (by omega)
  rw [hfb] at hI
  have hL := fun W => limitsOf_any m W hm hm2
  obtain ⟨g, rfl, hg, hcx⟩ := hr.2 (by omega)
  have hcell : ∀ (W : World) i, i < m → Below w.heap.size w W → W.cell? ⟨g, i, none⟩ = some (.int .i64 (xs.getD i 0)) := fun W i hi hW => by
    rw [hW.cell (p := ⟨g, i, none⟩) hg]
    exact hcx i _ (intL_get (by rw [List.getD_eq_getElem?_getD, List.getElem?_eq_getElem (by omega)]; rfl))
  have hFA := fun (l : List Int) (i : Nat) (W : World) (F : Nat) (hW : Row W (some ⟨F, 0, none⟩) (degN m) (intL l)) (hi : i ≤ 64) (hl : ∀ x ∈ l, -1000 ≤ x ∧ x ≤ 1000) => formAt_any i m (some ⟨F, 0, none⟩) (degN m) (degN m) l W hW (by omega) (by omega) hm2 (by omega) hl
  have hFT := fun (l : List Int) (W : World) (F : Nat) (hW : Row W (some ⟨F, 0, none⟩) (degN m) (intL l)) (hl : ∀ x ∈ l, -1000 ≤ x ∧ x ≤ 1000) => formTable_any m (some ⟨F, 0, none⟩) (degN m) (degN m) l W hW (by omega) (by omega) hm2 hl
  have hTO := fun W hW => tableOf_any m (some ⟨g, 0, none⟩) cap xs W hW (by omega) hm2
  have hat := fun (pre : List Int) (i c : Nat) (hi : i < degN m) => form_at (d := degN m) (c := c) hm (pre := pre) hi
  have hroom : ∀ i, i < degN m → 2 ≤ roomN m i ∧ roomN m i ≤ 64 := fun i hi => by
    have h1 := (d4 ⟨i, by omega⟩ hi).2
    simp only at h1
    have h2 : roomN m i ≤ m := Nat.div_le_self _ _
    omega
  have hlim : ∀ i, i < degN m → (limL m).getD i 0 = (roomN m i : Int) := fun i hi => by
    unfold limL
    rw [List.getD_eq_getElem?_getD, List.getElem?_map, List.getElem?_range hi]; rfl
  have hFR : ∀ o, formS m (fun x => xs.getD x 0) (degN m) = o → formR m (fun x => xs.getD x 0) = o.bind fun l => if makesB m (fun x => xs.getD x 0) l then some (trimZ l) else none := fun o h => by unfold formR; rw [h]
  have hst : ∀ i pre, formS m (fun x => xs.getD x 0) i = some pre → formS m (fun x => xs.getD x 0) (i + 1) = (pickN m pre i (xs.getD i 0)).map fun c : Nat => pre ++ [(c : Int)] := fun i pre h => by
    show (formS m _ i).bind _ = _
    rw [h]; rfl
  have hmt := fun l => makes_tab hm hm2 l (fun x => xs.getD x 0)
  have hfx : ∀ i, i < m → 0 ≤ xs.getD i 0 ∧ xs.getD i 0 < m := fun i hi => hrem _ (by rw [List.getD_eq_getElem?_getD, List.getElem?_eq_getElem (by omega)]; exact List.getElem_mem _)
  have Hcell := Lib.hid hcell
  have HI := Lib.hid hI
  have HL := Lib.hid hL
  have HFA := Lib.hid hFA
  have HFT := Lib.hid hFT
  have HTO := Lib.hid hTO
  have Hat := Lib.hid hat
  have Hroom := Lib.hid hroom
  have Hlim := Lib.hid hlim
  have HFR := Lib.hid hFR
  have Hst := Lib.hid hst
  have Hmt := Lib.hid hmt
  have Hr := Lib.hid hr
  have Hfx := Lib.hid hfx
  have hmk := run_make_row' (P := Try.prog) 22 3 (.int .i64 0) 8 Try.underlying22 info_int rfl .i64 .i64 (degN m) (by omega) (by omega)
  generalize hdd : degN m = d at *
  clear hcell hI hL hFA hFT hTO hat hroom hlim hFR hst hmt hr hfx hfb hcx d3 d4 d5 hrem
  go_enter Try.func32, Try.ntmps32
  go_wp2_with fail
  refine (HI.out _ Hr.out).mono ?_
  rintro e w0 ⟨rfl, rfl⟩
  go_wp2_with fail
  refine (HL.out _).mono ?_
  rintro e w1 ⟨v, rfl, ho, b1⟩
  obtain ⟨aL, cL, rfl, hLr⟩ := Row.of_own ho
  obtain ⟨gL, rfl, hgL, hcL⟩ := hLr.2 (by omega)
  have HcL := Lib.hid hcL
  have B1 := Lib.hid b1
  clear ho hLr hcL b1
  go_wp2
  have hrow0 := World.rowIs_made w1 (.int .i64 0) d 3
  have hB0 := below_alloc w1 (.cells (madeCells #[.int .i64 0] d) 3)
  have hF0 : FSt m d w1.heap.size w1 [] 0 0 (w1.alloc (.cells (madeCells #[.int .i64 0] d) 3)) := ⟨hrow0.congr fun j _ => by simp, hB0⟩
  have HF0 := Lib.hid hF0
  clear hmk hrow0 hB0 hF0
  generalize w1.alloc (.cells (madeCells #[.int .i64 0] d) 3) = w2 at HF0 ⊢
  go_loopw [8, 9, 21] (fun _ _ i wr => ∃ k pre, k ≤ d ∧ i = .int .i64 k ∧ Hid (formS m (fun x => xs.getD x 0) k = some pre) ∧ pre.length = k ∧ Hid (∀ x ∈ pre, 0 ≤ x ∧ x ≤ 64) ∧ FSt m d w1.heap.size w1 pre k 0 wr) (fun _ _ i _ => d - (intOf i).toNat)
  case atStart => exact ⟨0, [], Nat.zero_le _, rfl, rfl, rfl, by unfold Hid; simp, HF0.out⟩
  case round =>
    clear HF0
    obtain ⟨k, pre, hk, rfl, HS, hpl, HP, hF⟩ := hrel
    have HF := Lib.hid hF
    clear hF
    by_cases hlt : k < d
    · have hc : (k : Int) < d := by omega
      have hcl := HcL.out k _ (intL_get (by rw [List.getElem?_eq_getElem (show k < (limL m).length by rw [limL_length, hdd]; exact hlt)]))
      have hlk := Hlim.out k hlt
      rw [List.getD_eq_getElem?_getD, List.getElem?_eq_getElem (show k < (limL m).length by rw [limL_length, hdd]; exact hlt)] at hlk
      rw [show (limL m)[k]'(by rw [limL_length, hdd]; exact hlt) = (roomN m k : Int) from hlk] at hcl
      have hcl2 : wr.cell? ⟨gL, k, none⟩ = some (.int .i64 (roomN m k : Nat)) := (HF.out.below.cell (p := ⟨gL, k, none⟩) hgL).trans hcl
      obtain ⟨r2, r64⟩ := Hroom.out k hlt
      obtain ⟨r, hr⟩ : ∃ r, roomN m k = r := ⟨_, rfl⟩
      rw [hr] at hcl2 r2 r64
      have Hr2 := Lib.hid hr
      clear hcl hlk hr
      obtain ⟨fi, hfi⟩ : ∃ x, xs.getD k 0 = x := ⟨_, rfl⟩
      have hfb := Hfx.out k (by omega)
      have hst := Hst.out k pre HS.out
      rw [hfi] at hfb hst
      have hlen : ∀ c, ∀ x ∈ formL d pre k c, c ≤ 64 → -1000 ≤ x ∧ x ≤ 1000 := fun c x hx hc => by
        unfold formL at hx
        obtain ⟨j, _, rfl⟩ := List.mem_map.1 hx
        by_cases e : j = k
        · rw [if_pos e]; omega
        · rw [if_neg e]
          by_cases h : j < pre.length
          · have := HP.out (pre.getD j 0) (by rw [List.getD_eq_getElem?_getD, List.getElem?_eq_getElem h]; exact List.getElem_mem _)
            omega
          · rw [List.getD_eq_getElem?_getD, List.getElem?_eq_none (by omega)]; simp
      have hpk0 : pickN m pre k fi = pickF (fitB m pre k fi) (r - 0) 0 := by unfold pickN; rw [Hr2.out]; rfl
      have hgL2 : ∀ X c, FSt m d w1.heap.size w1 pre k c X → X.cell? ⟨gL, k, none⟩ = some (.int .i64 r) := fun X c hX => by
        have e := HF.out.below.cell (p := ⟨gL, k, none⟩) hgL
        rw [hX.below.cell (p := ⟨gL, k, none⟩) hgL, ← e]
        exact hcl2
      have hgF2 : ∀ X c, FSt m d w1.heap.size w1 pre k c X → X.cell? ⟨g, k, none⟩ = some (.int .i64 fi) := fun X c hX => by
        rw [← hfi]
        exact Hcell.out X k (by omega) (b_next B1.out hX.below)
      have Hlen := Lib.hid hlen
      have HgL := Lib.hid hgL2
      have HgF := Lib.hid hgF2
      have Hst2 := Lib.hid hst
      have Hpk0 := Lib.hid hpk0
      have Hfi := Lib.hid hfi
      clear hlen hgL2 hgF2 hst hpk0 hfi
      go_wp2
      clear hcl2
      go_loopw [] (fun wr => ∃ c, c < r ∧ Hid (pickN m pre k fi = pickF (fitB m pre k fi) (r - c) c) ∧ FSt m d w1.heap.size w1 pre k c wr) (fun wr => r - cellN wr w1.heap.size k)
      case atStart => exact ⟨0, by omega, Hpk0.out, HF.out⟩
      case round =>
        clear HF Hpk0
        obtain ⟨c, hcr, HPk, hF⟩ := hrel
        have hs := pickF_step (fitB m pre k fi) hcr
        rw [← HPk.out] at hs
        obtain ⟨v, hv⟩ : ∃ v, formV m (formL d pre k c) k = v := ⟨_, rfl⟩
        have hva := Hat.out pre k c hlt
        rw [hv] at hva
        have hfit : fitB m pre k fi c = decide (v = fi) := by unfold fitB; rw [hva]
        rw [hfit] at hs
        have hfa := fun (W : World) (hW : Below wr.heap.size wr W) => HFA.out (formL d pre k c) k W w1.heap.size ((hF.aRow (by omega)).below hW) (by omega) (fun x hx => Hlen.out c x hx (by omega))
        rw [hv] at hfa
        have e1 := HgF.out wr c hF
        have hkm : (k : Int) < (m : Int) := by omega
        have HFA2 := Lib.hid hfa
        have HF := Lib.hid hF
        have Hs := Lib.hid hs
        clear hfa hF hs hfit hva hv HPk
        by_cases hvf : v = fi
        · have hne : (v != fi) = false := by simp [hvf]
          have hs2 := Hs.out
          rw [decide_eq_true hvf, if_pos rfl] at hs2
          have Hs2 := Lib.hid hs2
          clear hs2 hvf Hs
          go_wp2
          go_region_held3 (fun w' => w'.cell? ⟨g, k, none⟩ = some (.int .i64 fi))
            (first | exact e1 | exact (hb5.cell (p := ⟨g, k, none⟩) (World.block_lt_of_cell? _ _ e1)).trans e1)
            (first
              | (go_at_call 74; refine (HFA2.out _ (by first | exact Below.refl _ _ | exact (Below.refl _ _).drew)).mono ?_; rintro e w5 ⟨rfl, zb⟩; have hb5 := undrew1 zb))
          have hF5 := HF.out.next hb5 HF.out.below.size
          have HF5 := Lib.hid hF5
          have hkw1 : IntKind.i64.wrap ((k : Int) + 1) = ((k + 1 : Nat) : Int) := by rw [IntWalk.i64_in _ (by omega)]; omega
          have hkw2 : wrap64 ((k : Int) + 1) = ((k + 1 : Nat) : Int) := by rw [IntWalk.wrap64_in _ (by omega)]; omega
          clear hF5
          go_wp2
          go_roundw
          case rel =>
            refine ⟨k + 1, pre ++ [(c : Int)], hlt, rfl, ?_, by rw [List.length_append, hpl]; rfl, ?_, HF5.out.found hpl⟩
            · unfold Hid; rw [Hst2.out, Hs2.out]; rfl
            · unfold Hid
              intro x hx
              rcases List.mem_append.1 hx with h | h
              · exact HP.out x h
              · rw [List.mem_singleton] at h; omega
          case measure => exact mz_next hlt
        · have hne : (v != fi) = true := by simp [hvf]
          have hs2 := Hs.out
          rw [decide_eq_false hvf, if_neg (by simp)] at hs2
          have Hs2 := Lib.hid hs2
          clear hs2 hvf Hs
          go_wp2
          go_region_held3 (fun w' => w'.cell? ⟨g, k, none⟩ = some (.int .i64 fi))
            (first | exact e1 | exact (hb5.cell (p := ⟨g, k, none⟩) (World.block_lt_of_cell? _ _ e1)).trans e1)
            (first
              | (go_at_call 74; refine (HFA2.out _ (by first | exact Below.refl _ _ | exact (Below.refl _ _).drew)).mono ?_; rintro e w5 ⟨rfl, zb⟩; have hb5 := undrew1 zb))
          have hF5 := HF.out.next hb5 HF.out.below.size
          have hck := hF5.cell hlt
          have hfz := hF5.row.frozen k
          obtain ⟨c1, hc1⟩ : ∃ c1, c + 1 = c1 := ⟨_, rfl⟩
          have hcw1 : IntKind.i64.wrap ((c : Int) + 1) = (c1 : Int) := by rw [IntWalk.i64_in _ (by omega)]; omega
          have hcw2 : wrap64 ((c : Int) + 1) = (c1 : Int) := by rw [IntWalk.wrap64_in _ (by omega)]; omega
          have hm6 := hF5.more
          rw [hc1] at hm6 Hs2
          have HM := Lib.hid hm6
          have Hc1 := Lib.hid hc1
          have hkd : (k : Int) < (d : Int) := by omega
          clear hF5 hm6 hc1
          by_cases hcr1 : c1 = r
          · subst hcr1
            go_wp2
            go_ret2
            refine ⟨⟨fun l hl => ?_, fun _ => rfl⟩, b_next B1.out HM.out.below⟩
            obtain ⟨e, rfl⟩ : ∃ e, d = k + 1 + e := ⟨d - (k + 1), by omega⟩
            have h1 := Hs2.out
            rw [Nat.sub_self] at h1
            have h2 := Hst2.out
            rw [h1] at h2
            rw [HFR.out _ (formS_none h2 e)] at hl
            simp at hl
          · have hne2 := ne_ints hcr1
            go_wp2
            go_roundw
            case rel =>
              exact ⟨c1, lt_more Hc1.out hcr1 hcr, Hs2.out, HM.out⟩
            case measure =>
              rw [HM.out.cellN hlt, HF.out.cellN hlt]
              exact mz_more Hc1.out hcr
    · obtain rfl : k = d := by omega
      have hnc : ¬((k : Int) < k) := by omega
      obtain ⟨TA, hTA⟩ : ∃ T, tabA (fun x => formV m pre x) m = T := ⟨_, rfl⟩
      obtain ⟨TB, hTB⟩ : ∃ T, tabA (fun x => xs.getD x 0) m = T := ⟨_, rfl⟩
      have hFr : FSt m k w1.heap.size w1 pre k 0 wr := HF.out
      have hrow := hFr.aRow (by omega)
      rw [formL_end hpl] at hrow
      have hown := hFr.isRow (by omega)
      rw [formL_end hpl] at hown
      have hb0 := b_next B1.out hFr.below
      have hpb : ∀ x ∈ pre, -1000 ≤ x ∧ x ≤ 1000 := fun x hx => by have := HP.out x hx; omega
      have heq : ∀ W, (Op.equalIn 10000 69 (.agg TA) (.agg TB)).run Try.prog W = .ok (makesB m (fun x => xs.getD x 0) pre) W := fun W => by
        rw [← hTA, ← hTB, ← Hmt.out pre]
        exact eq_tab (tabL (fun x => formV m pre x) m) (tabL (fun x => xs.getD x 0) m) W (tabL_length _ _) (tabL_length _ _) (tabL_wf fun x _ => by rw [formV_val hm]; have := valV_range (m := m) (by omega) pre x pre.length; omega) (tabL_wf fun x hx => by have := Hfx.out x hx; omega)
      have hft := fun W (hW : Below wr.heap.size wr W) => HFT.out pre W w1.heap.size (hrow.below hW) hpb
      rw [hTA] at hft
      have hto := fun W (hW : Below wr.heap.size wr W) => HTO.out W (Hr.out.below (b_next hb0 hW))
      rw [hTB] at hto
      have hwo := fun W (hW : Below wr.heap.size wr W) => without_any w1.heap.size k k pre W (hrow.below hW) (by omega) (Nat.le_refl _)
      obtain ⟨bq, hbq⟩ : ∃ b, makesB m (fun x => xs.getD x 0) pre = b := ⟨_, rfl⟩
      have hfr := HFR.out _ HS.out
      rw [Option.bind_some, hbq] at hfr
      rw [hbq] at heq
      have Hfr := Lib.hid hfr
      have Hft := Lib.hid hft
      have Hto := Lib.hid hto
      have Hwo := Lib.hid hwo
      have Hown := Lib.hid hown
      have Hb0 := Lib.hid hb0
      clear hTA hTB hFr hrow hown hb0 hpb hft hto hwo hbq hfr HF
      cases bq
      · go_wp2_with fail
        refine (Hft.out _ (Below.refl _ _)).mono ?_
        rintro e w5 ⟨rfl, b5⟩
        have B5 := Lib.hid b5
        clear b5
        go_wp2_with fail
        refine (Hto.out _ B5.out).mono ?_
        rintro e w6 ⟨rfl, b6⟩
        have B6 := Lib.hid (b_next B5.out b6)
        clear b6
        go_wp2
        go_ret2
        refine ⟨⟨fun l hl => ?_, fun _ => rfl⟩, b_next Hb0.out B6.out⟩
        rw [Hfr.out] at hl
        simp at hl
      · go_wp2_with fail
        refine (Hft.out _ (Below.refl _ _)).mono ?_
        rintro e w5 ⟨rfl, b5⟩
        have B5 := Lib.hid b5
        clear b5
        go_wp2_with fail
        refine (Hto.out _ B5.out).mono ?_
        rintro e w6 ⟨rfl, b6⟩
        have B6 := Lib.hid (b_next B5.out b6)
        clear b6
        go_wp2_with fail
        refine (Hwo.out _ B6.out).mono ?_
        rintro e w7 ⟨j, rfl, hj, htr, rfl⟩
        have HT := Lib.hid htr
        clear htr
        go_wp2
        go_ret2
        refine ⟨⟨fun l hl => ?_, fun h => ?_⟩, b_next Hb0.out B6.out⟩
        · have h := Hfr.out
          rw [hl] at h
          have h2 : l = pre.take j := by have := Option.some.inj h; rw [this]; exact HT.out
          subst h2
          refine ⟨_, rfl, ?_⟩
          have h3 := own_short (own_base2 Hown.out B1.out.size) hj (by omega)
          rw [List.length_take, hpl, Nat.min_eq_left hj]
          exact own_later h3 B6.out
        · rw [Hfr.out] at h
          simp at h
end Go.Proofs.Ytndbjojjaapeaaa

/- The statements' own functions: mod, ints, and the sample. -/
namespace Go.Proofs.Ytndbjojjaapeaaa
set_option linter.unusedVariables false
open Go.RowKit

def modV (x : Int) (n : Nat) : Nat := ((IntKind.u64.wrap x).tmod n).toNat
theorem modV_lt (x : Int) (n : Nat) (hn : 1 ≤ n) : modV x n < n := by
  have h0 : 0 ≤ IntKind.u64.wrap x := by
    simp only [IntKind.wrap, IntKind.bits, IntKind.signed]
    simp
    omega
  have h2 := Int.tmod_nonneg (n : Int) h0
  have h3 := Int.tmod_lt_of_pos (IntKind.u64.wrap x) (show (0 : Int) < n by omega)
  unfold modV
  omega
set_option maxRecDepth 100000 in
set_option maxHeartbeats 4000000 in
theorem mod_val (x : Int) (n : Nat) (w : World) (hn : 1 ≤ n) (hn2 : n ≤ 1000000) :
    Calls Try.prog 57 #[.int .i64 x, .int .i64 n] w fun e w' => e = .returned (.int .i64 (modV x n)) ∧ w' = w := by
  have h1 : IntKind.u64.wrap (n : Int) = n := by
    simp only [IntKind.wrap, IntKind.bits, IntKind.signed]
    simp
    omega
  have hne : (n : Int) ≠ 0 := by omega
  have hb : ((n : Int) == 0) = false := by simp; omega
  go_enter Try.func57, Try.ntmps57
  go_wp2
  go_ret
  have h0 : 0 ≤ IntKind.u64.wrap x := by
    simp only [IntKind.wrap, IntKind.bits, IntKind.signed]
    simp
    omega
  have h2 := Int.tmod_nonneg (n : Int) h0
  have h3 := Int.tmod_lt_of_pos (IntKind.u64.wrap x) (show (0 : Int) < n by omega)
  refine ⟨ret_int ?_, rfl⟩
  rw [show wrap64 ((IntKind.u64.wrap x).tmod n) = (IntKind.u64.wrap x).tmod n from IntWalk.wrap64_in _ (by omega)]
  unfold modV
  omega
theorem take_ext {α : Type} {xs ys : List α} {k : Nat} {x y : α} (hx : xs[k]? = some x) (hy : ys[k]? = some y) : xs.take (k + 1) = ys.take (k + 1) ↔ xs.take k = ys.take k ∧ x = y := by
  rw [List.take_add_one, List.take_add_one, hx, hy]
  constructor
  · intro h
    have := List.append_inj' h (by simp)
    exact ⟨this.1, by simpa using this.2⟩
  · rintro ⟨h, rfl⟩; rw [h]

set_option maxRecDepth 100000 in
set_option maxHeartbeats 4000000 in
theorem ints_any (a b : Option Addr) (n m ca cb : Nat) (xs ys : List Int) (w : World) (ha : Row w a n (intL xs)) (hb : Row w b m (intL ys)) (hn : n ≤ 1000) (hm : m ≤ 1000) :
    Calls Try.prog 28 #[.slice a n ca, .slice b m cb] w fun e w' => e = .returned (.bool (decide (xs = ys))) ∧ ∃ q, w' = w.drewN q := by
  have hx : xs.length = n := by have := ha.1; simpa [intL] using this
  have hy : ys.length = m := by have := hb.1; simpa [intL] using this
  by_cases hnm : n = m
  · subst hnm
    have Hx := Lib.hid hx
    have Hy := Lib.hid hy
    have Ha := Lib.hid ha
    have Hb := Lib.hid hb
    clear hx hy ha hb
    go_enter Try.func28, Try.ntmps28
    go_wp2
    go_loopw [5] (fun i wr => ∃ k q : Nat, k ≤ n ∧ i = .int .i64 k ∧ Hid (xs.take k = ys.take k) ∧ wr = w.drewN q) (fun i _ => n - (intOf i).toNat)
    case atStart => exact ⟨0, 0, Nat.zero_le _, rfl, rfl, rfl⟩
    case round =>
      obtain ⟨k, q, hk, rfl, HP, rfl⟩ := hrel
      by_cases hlt : k < n
      · have hc : (k : Int) < n := by omega
        obtain ⟨x, hx⟩ : ∃ x, xs[k]? = some x := ⟨_, List.getElem?_eq_getElem (by have := Hx.out; omega)⟩
        obtain ⟨y, hy⟩ : ∃ y, ys[k]? = some y := ⟨_, List.getElem?_eq_getElem (by have := Hy.out; omega)⟩
        obtain ⟨g1, rfl, _, hg1⟩ := Ha.out.2 (by omega)
        obtain ⟨g2, rfl, _, hg2⟩ := Hb.out.2 (by omega)
        have c1 := hg1 k (Value.int .i64 x) (by simp [intL, hx])
        have c2 := hg2 k (Value.int .i64 y) (by simp [intL, hy])
        have hT := take_ext hx hy
        have HT := Lib.hid hT
        clear hx hy hg1 hg2 hT
        by_cases hxy : x = y
        · subst hxy
          go_wp2
          go_quiet (fail)
          go_wp2
          have hz := HT.out.2 ⟨HP.out, by trivial⟩
          go_roundw
          case rel => exact ⟨k + 1, _, by omega, by go_num, hz, rfl⟩
          case measure => simp [intOf]; omega
        · have h1 : (x == y) = false := by simp [hxy]
          have h2 : (x != y) = true := by simp [hxy]
          have Hxy := Lib.hid hxy
          clear hxy
          go_wp2
          go_quiet (fail)
          go_wp2
          go_ret
          exact ⟨ret_bool (by rw [decide_eq_false]; intro e; exact Hxy.out (HT.out.1 (by rw [e])).2), _, World.drewN_drewN _ _ _⟩
      · obtain rfl : k = n := by omega
        go_wp2
        go_ret
        exact ⟨ret_bool (by rw [decide_eq_true]; have h := HP.out; rwa [List.take_of_length_le (by have := Hx.out; omega), List.take_of_length_le (by have := Hy.out; omega)] at h), _, rfl⟩
  · have h1 : ¬ (n : Int) = m := by omega
    have h2 : ((n : Int) == m) = false := by rw [beq_eq_false_iff_ne]; exact h1
    have hne : ¬ xs = ys := fun e => hnm (by rw [← hx, ← hy, e])
    have Hne := Lib.hid hne
    clear hne h1 hx hy ha hb
    have Hnm := Lib.hid hnm
    clear hnm
    go_enter Try.func28, Try.ntmps28
    go_wp2
    go_ret
    exact ⟨ret_bool (by rw [decide_eq_false Hne.out]), 0, rfl⟩


theorem ints_true (a b : Option Addr) (n ca cb : Nat) (xs : List Int) (w : World) (ha : Row w a n (intL xs)) (hb : Row w b n (intL xs)) (hn : n ≤ 1000) :
    Calls Try.prog 28 #[.slice a n ca, .slice b n cb] w fun e w' => e = .returned (.bool true) ∧ ∃ q, w' = w.drewN q := by
  refine (ints_any a b n n ca cb xs xs w ha hb hn hn).mono ?_
  rintro e w' ⟨rfl, q, rfl⟩
  exact ⟨ret_bool (by simp), q, rfl⟩
set_option maxRecDepth 10000
theorem smp_values : valuesL 4 [0, 1, 2] = [0, 3, 2, 1] := by decide
theorem smp_form : formR 4 (fun x => [0, 0, 2, 2].getD x 0) = some [0, 0, 1] := by decide +kernel
theorem smp_none : formR 4 (fun x => [0, 0, 1, 0].getD x 0) = none := by decide +kernel
theorem smp_count : countR 6 = (108, 0) := by decide +kernel
theorem smp_degree : degN 6 = 3 := by decide +kernel
theorem values_smp (a : Option Addr) (w : World) (h : Row w a 3 (intL [0, 1, 2])) :
    Calls Try.prog 18 #[.int .i64 4, .slice a 3 3] w fun e w' => ∃ a1 k1, e = .returned (.tuple #[.slice a1 4 k1, .int .i64 0]) ∧ Row w' a1 4 (intL [0, 3, 2, 1]) ∧ Below w.heap.size w w' := by
  refine (show Calls Try.prog 18 #[.int .i64 4, .slice a 3 3] w _ from Values_yes 4 a 3 3 [0, 1, 2] w h (by decide)).mono ?_
  rintro e w' ⟨v, rfl, ho, b⟩
  rw [smp_values] at ho
  obtain ⟨a1, k1, rfl, hR⟩ := Row.of_own ho
  exact ⟨a1, k1, rfl, hR, b⟩
theorem form_smp (a : Option Addr) (w : World) (h : Row w a 4 (intL [0, 0, 2, 2])) :
    Calls Try.prog 32 #[.int .i64 4, .slice a 4 4] w fun e w' => ∃ a1 k1, e = .returned (.tuple #[.slice a1 3 k1, .int .i64 0]) ∧ Row w' a1 3 (intL [0, 0, 1]) ∧ Below w.heap.size w w' := by
  refine (show Calls Try.prog 32 #[.int .i64 4, .slice a 4 4] w _ from Form_yes 4 a 4 [0, 0, 2, 2] w h (by decide) (by decide) (by decide)).mono ?_
  rintro e w' ⟨⟨h1, _⟩, b⟩
  obtain ⟨v, rfl, ho⟩ := h1 _ smp_form
  obtain ⟨a1, k1, rfl, hR⟩ := Row.of_own ho
  exact ⟨a1, k1, rfl, hR, b⟩
theorem none_smp (a : Option Addr) (w : World) (h : Row w a 4 (intL [0, 0, 1, 0])) :
    Calls Try.prog 32 #[.int .i64 4, .slice a 4 4] w fun e w' => e = .returned (.tuple #[.slice none 0 0, .int .i64 6]) ∧ Below w.heap.size w w' := by
  refine (show Calls Try.prog 32 #[.int .i64 4, .slice a 4 4] w _ from Form_yes 4 a 4 [0, 0, 1, 0] w h (by decide) (by decide) (by decide)).mono ?_
  rintro e w' ⟨⟨_, h1⟩, b⟩
  exact ⟨h1 smp_none, b⟩
theorem count_smp (w : World) : Calls Try.prog 44 #[.int .i64 6] w fun e w' => e = .returned (.tuple #[.int .i64 108, .int .i64 0]) ∧ Below w.heap.size w w' := by
  have h := Count_yes 6 w (by decide) (by decide)
  rw [smp_count] at h
  exact h
theorem degree_smp (w : World) : Calls Try.prog 43 #[.int .i64 6] w fun e w' => e = .returned (.tuple #[.int .i64 3, .int .i64 0]) ∧ Below w.heap.size w w' := by
  have h := Degree_any 6 w
  rw [show modB 6 = true by decide, if_pos rfl, show (6 : Int).toNat = 6 from rfl, smp_degree] at h
  exact h
set_option maxRecDepth 100000 in
set_option maxHeartbeats 4000000 in
theorem awake_any (w : World) : Calls Try.prog 24 #[] w fun e w' => e = .returned (.bool true) ∧ Below w.heap.size w w' := by
  go_enter Try.func24, Try.ntmps24
  have h0 := below_alloc w (.cells #[.int .i64 0, .int .i64 1, .int .i64 2] 3)
  go_wp2_with fail
  refine (values_smp _ _ (Row.built (w := w) 3 [.int .i64 0, .int .i64 1, .int .i64 2])).mono ?_
  rintro e w1 ⟨a1, k1, rfl, r1, b1⟩
  have c1 := b_next h0 b1
  go_wp2_with fail
  have h2 := below_alloc w1 (.cells #[.int .i64 0, .int .i64 0, .int .i64 2, .int .i64 2] 3)
  refine (form_smp _ _ (Row.built (w := w1) 3 [.int .i64 0, .int .i64 0, .int .i64 2, .int .i64 2])).mono ?_
  rintro e w2 ⟨a2, k2, rfl, r2, b2⟩
  have c2 := b_next (b_next c1 h2) b2
  have r1 := (r1.below h2).below b2
  clear b1 b2 h0 h2 c1
  go_wp2_with fail
  refine (count_smp _).mono ?_
  rintro e w3 ⟨rfl, b3⟩
  have c3 := b_next c2 b3
  have r1 := r1.below b3
  have r2 := r2.below b3
  clear b3 c2
  go_wp2_with fail
  refine (degree_smp _).mono ?_
  rintro e w4 ⟨rfl, b4⟩
  have c4 := b_next c3 b4
  have r1 := r1.below b4
  have r2 := r2.below b4
  clear b4 c3
  go_wp2_with fail
  have h5 := below_alloc w4 (.cells #[.int .i64 0, .int .i64 0, .int .i64 1, .int .i64 0] 3)
  refine (none_smp _ _ (Row.built (w := w4) 3 [.int .i64 0, .int .i64 0, .int .i64 1, .int .i64 0])).mono ?_
  rintro e w5 ⟨rfl, b5⟩
  have C5 := Lib.hid (b_next (b_next c4 h5) b5)
  have R1 := Lib.hid ((r1.below h5).below b5)
  have R2 := Lib.hid ((r2.below h5).below b5)
  clear b5 h5 c4 r1 r2
  go_wp2_with fail
  have h6 := below_alloc w5 (.cells #[.int .i64 0, .int .i64 3, .int .i64 2, .int .i64 1] 3)
  refine (ints_true _ _ 4 _ _ [0, 3, 2, 1] _ (R1.out.below h6) (Row.built (w := w5) 3 [.int .i64 0, .int .i64 3, .int .i64 2, .int .i64 1]) (by decide)).mono ?_
  rintro e w6 ⟨rfl, n1, rfl⟩
  have h7 := below_drewN (b_next C5.out h6) n1
  have R2b := Lib.hid ((R2.out.below h6).drewN n1)
  generalize hW8 : World.drewN _ n1 = W8 at h7 R2b
  have H7 := Lib.hid h7
  clear h7 h6 R2 hW8
  go_wp2_with fail
  have h8 := below_alloc W8 (.cells #[.int .i64 0, .int .i64 0, .int .i64 1] 3)
  refine (ints_true _ _ 3 _ _ [0, 0, 1] _ (R2b.out.below h8) (Row.built (w := W8) 3 [.int .i64 0, .int .i64 0, .int .i64 1]) (by decide)).mono ?_
  rintro e w9 ⟨rfl, n2, rfl⟩
  have h9 := below_drewN (b_next H7.out h8) n2
  generalize hW9 : World.drewN _ n2 = W9 at h9
  have H9 := Lib.hid h9
  clear h9 hW9 h8
  go_wp2_with fail
  go_ret
  exact ⟨rfl, H9.out⟩
end Go.Proofs.Ytndbjojjaapeaaa

/- A row that came in, and the law's tame. -/
namespace Go.Proofs.Ytndbjojjaapeaaa
set_option linter.unusedVariables false
open Go.RowKit Go.ChangeShapes Go.WideShapes

theorem add_block (ad : Addr) (j : Nat) : (ad.add j).block = ad.block := by unfold Addr.add; split <;> rfl
/-- a row that came in, wherever it lies -/
def RowIn (w : World) (v : Value) (row : List Int) : Prop := (∃ c, v = .slice none 0 c ∧ row = []) ∨ ∃ (ad : Addr) (c : Nat), v = .slice (some ad) row.length c ∧ row.length ≤ c ∧ ∀ j, j < row.length → w.cell? (ad.add j) = some (.int .i64 (row.getD j 0))
theorem RowIn.below {w w' : World} {v : Value} {row : List Int} (h : RowIn w v row) (hb : Below w.heap.size w w') : RowIn w' v row := by
  rcases h with h | ⟨ad, c, hv, hc, hd⟩
  · exact .inl h
  · exact .inr ⟨ad, c, hv, hc, fun j hj => (hb.cell (p := ad.add j) (World.block_lt_of_cell? w _ (hd j hj))).trans (hd j hj)⟩
theorem rowIn_of {H : Type} {enc : TypeId × Value → H} {P : Program} {w : World} {base fuel : Nat} {held : Bool} {t e : TypeId} {v : Value} {x : DataW H × List MemPlace} (ht : P.underlying t = some (.slice e)) (he : P.underlying e = some (.int .i64)) (ce : P.cellsOf e = 1)
    (h : DataW.trod enc P w base (fun _ => true) held fuel t [v] = some x) : ∃ xs, RowIn w v xs := by
  rcases open_ints ht he ce h with ⟨hcs, _⟩ | ⟨a, l, c, zs, hcs, _, hl, hm, hz, _, hcell, hwz⟩
  · simp at hcs
    exact ⟨[], .inl ⟨0, hcs, rfl⟩⟩
  · simp at hcs
    have hz2 : zs.length = c := by simpa using hz
    have hlen : (zs.take l).length = l := by rw [List.length_take]; omega
    refine ⟨zs.take l, .inr ⟨a, c, by rw [hlen]; exact hcs, by rw [hlen]; exact hl, fun j hj => ?_⟩⟩
    rw [hlen] at hj
    rw [hcell j (by omega), List.getD_eq_getElem?_getD, List.getD_eq_getElem?_getD, List.getElem?_take_of_lt hj]
/-- what tame makes of a row -/
def tamL (m : Nat) (row : List Int) : List Int := (row.take 12).map fun x => (modV x m : Int)
theorem tamL_in {m : Nat} (hm : 1 ≤ m) (row : List Int) : (tamL m row).length ≤ 12 ∧ ∀ x ∈ tamL m row, 0 ≤ x ∧ x < m := by
  unfold tamL
  refine ⟨by rw [List.length_map, List.length_take]; omega, fun x hx => ?_⟩
  obtain ⟨y, _, rfl⟩ := List.mem_map.1 hx
  have := modV_lt y m hm
  omega
theorem tamL_poly {m : Nat} (hm : 2 ≤ m) (hm2 : m ≤ 64) (row : List Int) : polyB m (tamL m row) = true := by
  obtain ⟨h1, h2⟩ := tamL_in (show 1 ≤ m by omega) row
  unfold polyB remB modB
  rw [Bool.and_eq_true, Bool.and_eq_true, List.all_eq_true]
  exact ⟨⟨decide_eq_true (by omega), decide_eq_true h1⟩, fun x hx => decide_eq_true (h2 x hx)⟩
theorem tamL_take (m : Nat) (row : List Int) (k : Nat) {x : Int} (hx : row[k]? = some x) (hk : k < 12) : tamL m (row.take (k + 1)) = tamL m (row.take k) ++ [(modV x m : Int)] := by
  unfold tamL
  rw [List.take_take, List.take_take, Nat.min_eq_right (by omega), Nat.min_eq_right (by omega), List.take_add_one, hx, List.map_append]
  rfl
theorem tamL_len (m : Nat) (row : List Int) (k : Nat) (hk : k ≤ row.length) (hk2 : k ≤ 12) : (tamL m (row.take k)).length = k := by
  unfold tamL
  rw [List.length_map, List.length_take, List.length_take]; omega
theorem tamL_end (m : Nat) (row : List Int) (k : Nat) (hk : k ≤ row.length) (hk2 : k ≤ 12) (h : k = row.length ∨ k = 12) : tamL m (row.take k) = tamL m row := by
  unfold tamL
  rcases h with rfl | rfl
  · rw [List.take_length]
  · rw [List.take_take, Nat.min_self]
theorem wrap_nx {k : Nat} (h : k ≤ 100) : IntKind.i64.wrap ((k : Int) + 1) = ((k + 1 : Nat) : Int) ∧ wrap64 ((k : Int) + 1) = ((k + 1 : Nat) : Int) := ⟨by rw [IntWalk.i64_in _ (by omega)]; rfl, by rw [IntWalk.wrap64_in _ (by omega)]; rfl⟩
theorem mz_upn {d k : Nat} (h : k < d) : d - (intOf (.int .i64 ((k + 1 : Nat) : Int))).toNat < d - (intOf (.int .i64 (k : Int))).toNat := by
  show d - ((k + 1 : Nat) : Int).toNat < d - (k : Int).toNat
  omega
theorem tame_nil (m : Nat) (c : Nat) (w : World) : Calls Try.prog 58 #[.int .i64 m, .slice none 0 c] w fun e w' => ∃ r, e = .returned r ∧ w'.ownsRow w.heap.size 3 1 r 0 (intL []) ∧ Below w.heap.size w w' := by
  go_enter Try.func58, Try.ntmps58
  go_wp2
  go_loopw [5, 6] (fun v i wr => v = .slice none 0 0 ∧ i = .int .i64 0 ∧ wr = w) (fun _ _ _ => 0)
  case atStart => exact ⟨rfl, rfl, rfl⟩
  case round =>
    obtain ⟨rfl, rfl, rfl⟩ := hrel
    go_wp2
    go_ret
    exact ⟨_, rfl, World.ownsRow_nil _ _ _ _, Below.refl _ _⟩
set_option maxRecDepth 100000 in
set_option maxHeartbeats 4000000 in
theorem tame_ptr (m : Nat) (ad : Addr) (n c : Nat) (row : List Int) (w : World) (hm : 1 ≤ m) (hm2 : m ≤ 64) (hn : row.length = n) (hd : ∀ j, j < n → w.cell? (ad.add j) = some (.int .i64 (row.getD j 0))) :
    Calls Try.prog 58 #[.int .i64 m, .slice (some ad) n c] w fun e w' => ∃ r, e = .returned r ∧ w'.ownsRow w.heap.size 3 1 r (tamL m row).length (intL (tamL m row)) ∧ Below w.heap.size w w' := by
  obtain ⟨i0, hi, hz0, hz1, hz2⟩ := info_parts info_int
  have Hn := Lib.hid hn
  have Hd := Lib.hid hd
  clear hn hd
  go_enter Try.func58, Try.ntmps58
  go_wp2
  go_loopw [5, 6] (fun v i wr => ∃ k : Nat, k ≤ n ∧ k ≤ 12 ∧ i = .int .i64 k ∧ wr.ownsRow w.heap.size 3 1 v k (intL (tamL m (row.take k))) ∧ Below w.heap.size w wr) (fun _ i _ => n - (intOf i).toNat)
  case atStart => exact ⟨0, Nat.zero_le _, by omega, rfl, World.ownsRow_nil _ _ _ _, Below.refl _ _⟩
  case round =>
    obtain ⟨k, hk, hk12, rfl, ho, hB⟩ := hrel
    obtain ⟨a5, c5, hv5, -⟩ := Row.of_own ho
    subst hv5
    by_cases hlt : k < n
    · have hc : (k : Int) < (n : Int) := by omega
      by_cases hl2 : k < 12
      · have hc2 : (k : Int) < 12 := by omega
        obtain ⟨x, hx⟩ : ∃ x, row[k]? = some x := ⟨_, List.getElem?_eq_getElem (by have := Hn.out; omega)⟩
        have hcell := Hd.out k hlt
        rw [List.getD_eq_getElem?_getD, hx] at hcell
        simp only [Option.getD_some] at hcell
        have hce : wr.cell? (ad.add k) = some (.int .i64 x) := (hB.cell (p := ad.add k) (World.block_lt_of_cell? w _ hcell)).trans hcell
        have hT := tamL_take m row k hx hl2
        have hM := fun W => mod_val x m W hm (by omega)
        generalize modV x m = q at hM hT
        have hkx : k ≤ 100 := by omega
        have hgo : k + 1 ≤ n ∧ k + 1 ≤ 12 := by omega
        have HM := Lib.hid hM
        have HT := Lib.hid hT
        have HO := Lib.hid ho
        have HB := Lib.hid hB
        have Hgo := Lib.hid hgo
        clear hM hT ho hB hx hcell hgo
        obtain ⟨n1, n2⟩ := wrap_nx hkx
        have HN2 := Lib.hid n2
        clear n1 n2
        go_wp2_with fail
        refine (HM.out _).mono ?_
        rintro e w2 ⟨rfl, hw2⟩
        subst w2
        go_wp2_with (at_builtin; refine wpList_append_own _ rfl _ _ 22 rfl w.heap.size 3 i0 (.int .i64 0) 1 8 Try.underlying22 hi hz0 hz1 hz2 rfl (by decide) _ _ _ rfl (HO.out.alloc (.cells #[.int .i64 q] 3)) ⟨_, 0, none⟩ 1 1 [.int .i64 q] rfl rfl (one_new _ _ _ _ (by simp)) (by simp [Value.oneCell']) (by unfold maxLen; omega) (by omega) (by have := HB.out.size; simp; omega) ?_; intro v2 w6 hown2 hgrow2 _
                     obtain ⟨a6, c6, hv6, -⟩ := Row.of_own hown2
                     subst hv6
                     have HB6 : Hid (Below w.heap.size w w6) := rel_push HB.out (by have := HB.out.size; simp; omega) ((Below.refl _ _).alloc HB.out.size _) HO.out hgrow2
                     have HO6 := Lib.hid hown2
                     clear hown2 hgrow2)
        go_roundw
        case rel =>
          refine ⟨k + 1, Hgo.out.1, Hgo.out.2, by go_num, ?_, HB6.out⟩
          rw [HT.out]
          unfold intL
          rw [List.map_append]
          exact HO6.out
        case measure => exact mz_upn hlt
      · have hc2 : ¬ (k : Int) < 12 := by omega
        have he := tamL_end m row k (by have := Hn.out; omega) (by omega) (.inr (by omega))
        have hlen := tamL_len m row k (by have := Hn.out; omega) (by omega)
        rw [he] at ho hlen
        have HE := Lib.hid ho
        have HB := Lib.hid hB
        have HLn := Lib.hid hlen
        clear ho hB he hlen
        go_wp2
        go_ret
        exact ⟨_, rfl, by rw [HLn.out]; exact HE.out, HB.out⟩
    · have hc : ¬ (k : Int) < (n : Int) := by omega
      have he := tamL_end m row k (by have := Hn.out; omega) (by omega) (.inl (by have := Hn.out; omega))
      have hlen := tamL_len m row k (by have := Hn.out; omega) (by omega)
      rw [he] at ho hlen
      have HE := Lib.hid ho
      have HB := Lib.hid hB
      have HLn := Lib.hid hlen
      clear ho hB he hlen
      go_wp2
      go_ret
      exact ⟨_, rfl, by rw [HLn.out]; exact HE.out, HB.out⟩
/-- the law's tame -/
theorem tame_in (m : Nat) (v : Value) (row : List Int) (w : World) (hm : 1 ≤ m) (hm2 : m ≤ 64) (h : RowIn w v row) :
    Calls Try.prog 58 #[.int .i64 m, v] w fun e w' => ∃ r, e = .returned r ∧ w'.ownsRow w.heap.size 3 1 r (tamL m row).length (intL (tamL m row)) ∧ Below w.heap.size w w' := by
  rcases h with ⟨c, rfl, rfl⟩ | ⟨ad, c, rfl, hc, hd⟩
  · exact tame_nil m c w
  · exact tame_ptr m ad row.length c row w hm hm2 rfl hd
end Go.Proofs.Ytndbjojjaapeaaa

/- The reference's falling, Room and Degree. -/
namespace Go.Proofs.Ytndbjojjaapeaaa
set_option linter.unusedVariables false
open Go.RowKit

theorem fallN_lt {m : Nat} (hm : 2 ≤ m) (x : Nat) : ∀ k, fallN m x k < m
  | 0 => by show 1 < m; omega
  | k + 1 => Nat.mod_lt _ (by omega)
theorem fall_num {m x p k p2 : Nat} (hm : 2 ≤ m) (hm2 : m ≤ 64) (hx : x ≤ 100) (hk : k ≤ 100) (hp : p < m) (h : p * (x - k) % m = p2) : p2 < m ∧ IntKind.i64.wrap ((x : Int) - (k : Int)) = (x : Int) - (k : Int) ∧ wrap64 ((x : Int) - (k : Int)) = (x : Int) - (k : Int) ∧ max ((x : Int) - (k : Int)) 0 = ((x - k : Nat) : Int) ∧ ∃ q : Nat, IntKind.i64.wrap ((p : Int) * ((x - k : Nat) : Int)) = (q : Int) ∧ wrap64 ((p : Int) * ((x - k : Nat) : Int)) = (q : Int) ∧ Int.tmod (q : Int) (m : Int) = (p2 : Int) ∧ IntKind.i64.wrap (p2 : Int) = (p2 : Int) ∧ wrap64 (p2 : Int) = (p2 : Int) := by
  have h1 : p * (x - k) ≤ 64 * 100 := Nat.mul_le_mul (by omega) (by omega)
  have h2 : p * (x - k) % m < m := Nat.mod_lt _ (by omega)
  subst h
  refine ⟨h2, IntWalk.i64_in _ (by omega), IntWalk.wrap64_in _ (by omega), by omega, p * (x - k), ?_, ?_, (tmod_nat _ _), IntWalk.i64_in _ (by omega), IntWalk.wrap64_in _ (by omega)⟩
  · rw [← Int.natCast_mul]; exact IntWalk.i64_in _ (by omega)
  · rw [← Int.natCast_mul]; exact IntWalk.wrap64_in _ (by omega)
theorem zero_no {m : Nat} (hm : 2 ≤ m) : ((m : Int) == 0) = false ∧ ¬ (m : Int) = 0 := ⟨by rw [beq_eq_false_iff_ne]; omega, by omega⟩
set_option maxRecDepth 100000 in
set_option maxHeartbeats 4000000 in
theorem falling_any (m x i : Nat) (w : World) (hm : 2 ≤ m) (hm2 : m ≤ 64) (hx : x ≤ 100) (hi : i ≤ 100) :
    Calls Try.prog 86 #[.int .i64 m, .int .i64 x, .int .i64 i] w fun e w' => e = .returned (.int .i64 (fallN m x i : Nat)) ∧ w' = w := by
  go_enter Try.func86, Try.ntmps86
  go_wp2
  go_loopw [7, 8] (fun o k wr => ∃ k' : Nat, k' ≤ i ∧ k = .int .i64 k' ∧ o = .int .i64 (fallN m x k' : Nat) ∧ wr = w) (fun _ k _ => i - (intOf k).toNat)
  case atStart => exact ⟨0, Nat.zero_le _, rfl, rfl, rfl⟩
  case round =>
    obtain ⟨k, hk, rfl, rfl, hw⟩ := hrel
    subst wr
    by_cases hlt : k < i
    · have hc : (k : Int) < (i : Int) := by omega
      have hp := fallN_lt hm x k
      obtain ⟨p2, hp2⟩ : ∃ p2, fallN m x (k + 1) = p2 := ⟨_, rfl⟩
      have hpp : fallN m x k * (x - k) % m = p2 := hp2
      generalize fallN m x k = p at hp hpp
      have hk1 : k ≤ 100 := by omega
      have hgo : k + 1 ≤ i := by omega
      obtain ⟨z1, z2⟩ := zero_no hm
      obtain ⟨f1, f2, f3, f4, q, f5, f6, f7, f8, f9⟩ := fall_num hm hm2 hx hk1 hp hpp
      have Hp2 := Lib.hid hp2
      have Hlt := Lib.hid hlt
      have Hgo := Lib.hid hgo
      clear hpp hp2 hp f1 hgo hk1 hlt
      go_wp2
      go_roundw
      case rel => exact ⟨k + 1, Hgo.out, by go_num, by rw [Hp2.out], trivial⟩
      case measure => exact mz_upn Hlt.out
    · obtain rfl : k = i := by omega
      have hc : ¬ (k : Int) < (k : Int) := by omega
      go_wp2
      go_ret
      exact ⟨rfl, rfl⟩
theorem gcd_no {m p l : Nat} (hm : 2 ≤ m) (hm2 : m ≤ 64) (h : m / Nat.gcd m p = l) : l ≤ 64 ∧ (((Nat.gcd m p : Nat) : Int) == 0) = false ∧ ¬ ((Nat.gcd m p : Nat) : Int) = 0 ∧ Int.tdiv (m : Int) ((Nat.gcd m p : Nat) : Int) = (l : Int) ∧ IntKind.i64.wrap (l : Int) = (l : Int) ∧ wrap64 (l : Int) = (l : Int) := by
  have h1 := Nat.gcd_pos_of_pos_left p (show 0 < m by omega)
  have h2 : m / Nat.gcd m p ≤ m := Nat.div_le_self _ _
  rw [h] at h2
  refine ⟨by omega, by rw [beq_eq_false_iff_ne]; omega, by omega, ?_, IntWalk.i64_in _ (by omega), IntWalk.wrap64_in _ (by omega)⟩
  rw [Int.tdiv_eq_ediv_of_nonneg (by omega), ← h]; rfl
set_option maxRecDepth 100000 in
set_option maxHeartbeats 4000000 in
theorem Room_any (m i : Nat) (w : World) (hm : 2 ≤ m) (hm2 : m ≤ 64) (hi : i ≤ 100) :
    Calls Try.prog 60 #[.int .i64 m, .int .i64 i] w fun e w' => e = .returned (.int .i64 (roomN m i : Nat)) ∧ w' = w := by
  have hF := fun w => falling_any m i i w hm hm2 hi hi
  rw [fallN_prodP hm] at hF
  have hpl : prodP m i < m := by rw [← fallN_prodP hm]; exact fallN_lt hm i i
  have hG := fun w => refGcd_any m (prodP m i) (by omega) (by omega) w
  have hl : m / Nat.gcd m (prodP m i) = roomN m i := rfl
  generalize roomN m i = l at hl ⊢
  obtain ⟨_, g1, g2, g3, g4, g5⟩ := gcd_no hm hm2 hl
  generalize prodP m i = p at *
  generalize Nat.gcd m p = g at *
  have HF := Lib.hid hF
  have HG := Lib.hid hG
  clear hF hG hl hpl
  go_enter Try.func60, Try.ntmps60
  go_wp2_with fail
  refine (HF.out _).mono ?_
  rintro e w1 ⟨rfl, hw⟩
  subst w1
  go_wp2_with fail
  refine (HG.out _).mono ?_
  rintro e w1 ⟨rfl, hw⟩
  subst w1
  go_wp2
  go_ret
  exact ⟨rfl, rfl⟩
set_option maxRecDepth 100000 in
set_option maxHeartbeats 4000000 in
theorem refDegree_any (m : Nat) (w : World) (hm : 2 ≤ m) (hm2 : m ≤ 64) :
    Calls Try.prog 46 #[.int .i64 m] w fun e w' => e = .returned (.int .i64 (degN m : Nat)) ∧ w' = w := by
  obtain ⟨d1, d2, d3, d4, d5⟩ := deg_facts ⟨m, by omega⟩ hm
  simp only at d1 d2 d5
  have hroom : ∀ i, i < degN m → 2 ≤ roomN m i := fun i hi => (d4 ⟨i, by omega⟩ hi).2
  generalize degN m = d at *
  have HR := Lib.hid fun (i : Nat) (hi : i ≤ 100) w => Room_any m i w hm hm2 hi
  have Hroom := Lib.hid hroom
  have Hd5 := Lib.hid d5
  clear hroom d3 d4 d5
  go_enter Try.func46, Try.ntmps46
  go_wp2
  go_loopw [3] (fun n wr => ∃ k : Nat, 1 ≤ k ∧ k ≤ d ∧ n = .int .i64 k ∧ wr = w) (fun n _ => d - (intOf n).toNat)
  case atStart => exact ⟨1, by omega, by omega, rfl, rfl⟩
  case round =>
    obtain ⟨k, hk1, hk, rfl, hw⟩ := hrel
    subst wr
    have hC := fun w => HR.out k (by omega) w
    have HC := Lib.hid hC
    clear hC
    by_cases hlt : k < d
    · have h2 := Hroom.out k hlt
      obtain ⟨l, hl⟩ : ∃ l, roomN m k = l := ⟨_, rfl⟩
      rw [hl] at h2 HC
      have hgt : (l : Int) > 1 := by omega
      have hgo : 1 ≤ k + 1 ∧ k + 1 ≤ d := by omega
      have hk9 : k ≤ 100 := by omega
      have Hgo := Lib.hid hgo
      have Hlt := Lib.hid hlt
      clear hl hgo hlt h2
      go_wp2_with fail
      refine (HC.out _).mono ?_
      rintro e w1 ⟨rfl, hw⟩
      subst w1
      go_wp2
      go_roundw
      case rel => exact ⟨k + 1, Hgo.out.1, Hgo.out.2, by go_num, trivial⟩
      case measure => exact mz_upn Hlt.out
    · obtain rfl : k = d := by omega
      rw [Hd5.out] at HC
      go_wp2_with fail
      refine (HC.out _).mono ?_
      rintro e w1 ⟨rfl, hw⟩
      subst w1
      go_wp2
      go_ret
      exact ⟨rfl, rfl⟩
end Go.Proofs.Ytndbjojjaapeaaa

/- isForm. -/
namespace Go.Proofs.Ytndbjojjaapeaaa
set_option linter.unusedVariables false
open Go.RowKit

def okN (m j : Nat) (x : Int) : Bool := decide (0 ≤ x ∧ x < roomN m j)
def roomsB (m : Nat) (xs : List Int) (k : Nat) : Bool := (List.range k).all fun j => okN m j (xs.getD j 0)
def formB (m : Nat) (xs : List Int) : Bool := decide (xs.length ≤ degN m) && roomsB m xs xs.length && decide (xs.length = (trimZ xs).length)
theorem roomsB_step (m : Nat) (xs : List Int) (k : Nat) : roomsB m xs (k + 1) = (roomsB m xs k && okN m k (xs.getD k 0)) := by
  unfold roomsB
  rw [List.range_succ, List.all_append]; simp
theorem roomsB_no {m : Nat} {xs : List Int} {k n : Nat} (hk : k < n) (h : okN m k (xs.getD k 0) = false) : roomsB m xs n = false := by
  unfold roomsB
  rw [List.all_eq_false]
  exact ⟨k, List.mem_range.2 hk, by rw [h]; simp⟩
theorem without_zero (a : Option Addr) (cap : Nat) (w : World) :
    Calls Try.prog 77 #[.slice a 0 cap] w fun e w' => e = .returned (.slice a 0 cap) ∧ w' = w := by
  go_enter Try.func77, Try.ntmps77
  go_wp2
  go_loopw [0] (fun v wr => v = .slice a 0 cap ∧ wr = w) (fun v _ => 0)
  case atStart => exact ⟨rfl, rfl⟩
  case round =>
    obtain ⟨rfl, rfl⟩ := hrel
    go_wp2
    go_ret
    exact ⟨rfl, rfl⟩
theorem without_row (a : Option Addr) (n cap : Nat) (xs : List Int) (w : World) (hr : Row w a n (intL xs)) (hn : n ≤ 1000) (hcap : n ≤ cap) :
    Calls Try.prog 77 #[.slice a n cap] w fun e w' => ∃ k, e = .returned (.slice a k cap) ∧ (trimZ xs).length = k ∧ w' = w := by
  have hx : xs.length = n := by have := hr.1; simpa [intL] using this
  by_cases h0 : n = 0
  · subst h0
    obtain rfl : xs = [] := List.eq_nil_of_length_eq_zero hx
    refine (without_zero a cap w).mono ?_
    rintro e w' ⟨rfl, rfl⟩
    exact ⟨0, rfl, rfl, rfl⟩
  · obtain ⟨g, rfl, _⟩ := hr.2 (by omega)
    refine (without_any g n cap xs w hr hn hcap).mono ?_
    rintro e w' ⟨k, rfl, hk, ht, rfl⟩
    exact ⟨k, rfl, by rw [ht, List.length_take]; omega, rfl⟩
set_option maxRecDepth 100000 in
set_option maxHeartbeats 4000000 in
theorem isForm_any (m : Nat) (a : Option Addr) (n cap : Nat) (xs : List Int) (w : World) (hr : Row w a n (intL xs)) (hn : n ≤ 1000) (hcap : n ≤ cap) (hm : 2 ≤ m) (hm2 : m ≤ 64) :
    Calls Try.prog 85 #[.int .i64 m, .slice a n cap] w fun e w' => e = .returned (.bool (formB m xs)) ∧ Below w.heap.size w w' := by
  have hx : xs.length = n := by have := hr.1; simpa [intL] using this
  have hL := fun W => limitsOf_any m W hm hm2
  have HL := Lib.hid hL
  have Hr := Lib.hid hr
  have Hx := Lib.hid hx
  clear hL hr hx
  go_enter Try.func85, Try.ntmps85
  go_wp2_with fail
  refine (HL.out _).mono ?_
  rintro e w1 ⟨v, rfl, ho, b1⟩
  obtain ⟨aL, cL, rfl, hLr⟩ := Row.of_own ho
  have HLr := Lib.hid hLr
  have B1 := Lib.hid b1
  clear ho hLr b1
  by_cases hd : n ≤ degN m
  · have hg : ¬ (n : Int) > (degN m : Int) := by omega
    have hget : ∀ k, k < degN m → (limL m).getD k 0 = (roomN m k : Int) := fun k hk => by
      unfold limL
      rw [List.getD_eq_getElem?_getD, List.getElem?_map, List.getElem?_range hk]; rfl
    have hfb : ∀ b, roomsB m xs n = b → formB m xs = (b && decide (xs.length = (trimZ xs).length)) := fun b h => by
      unfold formB
      rw [Hx.out, h, decide_eq_true hd, Bool.true_and]
    have hstep := roomsB_step m xs
    have hno := fun k (hk : k < n) => roomsB_no (m := m) (xs := xs) (n := n) hk
    have hok : ∀ k, okN m k (xs.getD k 0) = decide (0 ≤ xs.getD k 0 ∧ xs.getD k 0 < roomN m k) := fun _ => rfl
    have Hget := Lib.hid hget
    have Hfb := Lib.hid hfb
    have Hstep := Lib.hid hstep
    have Hno := Lib.hid hno
    have Hok := Lib.hid hok
    clear hget hfb hstep hno hok
    go_wp2
    go_loopw [17] (fun i wr => ∃ k : Nat, k ≤ n ∧ i = .int .i64 k ∧ Hid (roomsB m xs k = true) ∧ wr = w1) (fun i _ => n - (intOf i).toNat)
    case atStart => exact ⟨0, Nat.zero_le _, rfl, rfl, rfl⟩
    case round =>
      obtain ⟨k, hk, rfl, HB, hw⟩ := hrel
      subst wr
      by_cases hlt : k < n
      · have hc : (k : Int) < (n : Int) := by omega
        obtain ⟨g, rfl, cx⟩ := (Hr.out.below B1.out).int hlt
        obtain ⟨gl, rfl, cl⟩ := HLr.out.int (show k < degN m by omega)
        rw [Hget.out k (by omega)] at cl
        have hok := Hok.out k
        have hst := Hstep.out k
        rw [HB.out, Bool.true_and] at hst
        have hno := Hno.out k hlt
        generalize xs.getD k 0 = y at cx hok hst hno
        generalize roomN m k = l at cl hok
        have hkd : (k : Int) < (degN m : Int) := by omega
        have hk1 : k ≤ 1000 := by omega
        have hgo : k + 1 ≤ n ∧ k < n := by omega
        have Hgo := Lib.hid hgo
        by_cases hy : 0 ≤ y ∧ y < l
        · have hb := hok.trans (decide_eq_true hy)
          rw [hb] at hst
          have HS := Lib.hid hst
          have h1 : ¬ y < 0 := by omega
          have h2 : ¬ y ≥ (l : Int) := by omega
          clear hok hst hno hb hgo hy HB
          go_wp2
          go_roundw
          case rel => exact ⟨k + 1, Hgo.out.1, by go_num, HS, trivial⟩
          case measure => exact mz_upn Hgo.out.2
        · have hb := hok.trans (decide_eq_false hy)
          have hf := Hfb.out _ (hno hb)
          have HF := Lib.hid hf
          clear hok hst hno hb hgo hf HB
          by_cases h1 : y < 0
          · clear hy
            go_wp2
            go_ret
            exact ⟨ret_bool HF.out.symm, B1.out⟩
          · have h2 : y ≥ (l : Int) := by omega
            clear hy
            go_wp2
            go_ret
            exact ⟨ret_bool HF.out.symm, B1.out⟩
      · have hkn : k = n := by omega
        subst k
        have hc : ¬ (n : Int) < (n : Int) := by omega
        have hf := Hfb.out _ HB.out
        rw [Bool.true_and, Hx.out] at hf
        have HF := Lib.hid hf
        have HW := Lib.hid (without_row a n cap xs w1 (Hr.out.below B1.out) hn hcap)
        clear hf HB
        go_wp2_with fail
        refine HW.out.mono ?_
        rintro e w5 ⟨j, rfl, hj, hw⟩
        subst w5
        have HJ := Lib.hid hj
        clear hj
        go_wp2
        go_ret
        exact ⟨ret_bool (by rw [HF.out, HJ.out, Bool.eq_iff_iff, beq_iff_eq, decide_eq_true_eq]; omega), B1.out⟩
  · have hg : (n : Int) > (degN m : Int) := by omega
    have hf : formB m xs = false := by unfold formB; rw [Hx.out, decide_eq_false hd]; rfl
    have Hf := Lib.hid hf
    clear hf hd
    go_wp2
    go_ret
    exact ⟨ret_bool Hf.out.symm, B1.out⟩
end Go.Proofs.Ytndbjojjaapeaaa

/- Unform. -/
namespace Go.Proofs.Ytndbjojjaapeaaa
set_option linter.unusedVariables false
open Go.RowKit

theorem formB_in {m : Nat} {xs : List Int} (hm : 2 ≤ m) (hm2 : m ≤ 64) (h : formB m xs = true) : xs.length ≤ 64 ∧ ∀ x ∈ xs, -1000 ≤ x ∧ x ≤ 1000 := by
  obtain ⟨_, d2, _⟩ := deg_facts ⟨m, by omega⟩ hm
  simp only at d2
  unfold formB roomsB at h
  rw [Bool.and_eq_true, Bool.and_eq_true, decide_eq_true_eq, List.all_eq_true] at h
  obtain ⟨⟨h1, h2⟩, _⟩ := h
  refine ⟨by omega, fun x hx => ?_⟩
  obtain ⟨i, hi, rfl⟩ := List.mem_iff_getElem.1 hx
  have h3 := h2 i (List.mem_range.2 hi)
  unfold okN at h3
  rw [List.getD_eq_getElem?_getD, List.getElem?_eq_getElem hi, decide_eq_true_eq] at h3
  simp only [Option.getD_some] at h3
  have h4 : roomN m i ≤ m := Nat.div_le_self _ _
  omega
set_option maxRecDepth 100000 in
set_option maxHeartbeats 4000000 in
theorem Unform_yes (m : Nat) (a : Option Addr) (n cap : Nat) (xs : List Int) (w : World) (hr : Row w a n (intL xs)) (hcap : n ≤ cap) (hm : 2 ≤ m) (hm2 : m ≤ 64) (hp : formB m xs = true) :
    Calls Try.prog 42 #[.int .i64 m, .slice a n cap] w fun e w' => ∃ v, e = .returned (.tuple #[v, .int .i64 0]) ∧ w'.ownsRow w.heap.size 3 1 v m (intL ((List.range m).map fun x => formV m xs x)) ∧ Below w.heap.size w w' := by
  have hx : xs.length = n := by have := hr.1; simpa [intL] using this
  obtain ⟨hn, hin⟩ := formB_in hm hm2 hp
  have h1 := fun w => isModulus_any (m : Int) w
  rw [show modB (m : Int) = true from decide_eq_true (by omega)] at h1
  have h := fun W hW => isForm_any m a n cap xs W hW (by omega) hcap hm hm2
  rw [hp] at h
  have ht := fun W hW => formTable_any m a n cap xs W hW (by omega) (by omega) hm2 hin
  have hl := fun W => list_any m (fun x => formV m xs x) W hm2
  have H1 := Lib.hid h1
  have H := Lib.hid h
  have HT := Lib.hid ht
  have HL := Lib.hid hl
  have Hr := Lib.hid hr
  clear h1 h ht hl hr hp hin hx hn
  go_enter Try.func42, Try.ntmps42
  go_wp2_with fail
  refine (H1.out _).mono ?_
  rintro e w1 ⟨rfl, hw⟩
  subst w1
  go_wp2_with fail
  refine (H.out _ Hr.out).mono ?_
  rintro e w1 ⟨rfl, b1⟩
  have R1 := Lib.hid (Hr.out.below b1)
  have B1 := Lib.hid b1
  clear b1
  go_wp2_with fail
  refine (HT.out _ R1.out).mono ?_
  rintro e w2 ⟨rfl, b2⟩
  have B2 := Lib.hid (b_next B1.out b2)
  clear b2
  go_wp2_with fail
  refine (HL.out _).mono ?_
  rintro e w3 ⟨v, rfl, ho, b3⟩
  have hO := own_base2 ho B2.out.size
  have HO := Lib.hid hO
  have B3 := Lib.hid (b_next B2.out b3)
  obtain ⟨a', cap', hv, _⟩ := ownsRow_open HO.out
  subst hv
  clear ho hO b3
  go_wp2
  go_ret2
  exact ⟨.slice a' m cap', rfl, HO.out, B3.out⟩
end Go.Proofs.Ytndbjojjaapeaaa

/- Unform and Count that refuse. -/
namespace Go.Proofs.Ytndbjojjaapeaaa
set_option linter.unusedVariables false
open Go.RowKit

set_option maxRecDepth 100000 in
theorem Count_no (m : Int) (w : World) (hm : modB m = false) : Calls Try.prog 44 #[.int .i64 m] w fun e w' => e = .returned (.tuple #[.int .i64 0, .int .i64 2]) ∧ Below w.heap.size w w' := by
  have h1 := fun w => isModulus_any m w
  rw [hm] at h1
  have H1 := Lib.hid h1
  clear h1 hm
  go_enter Try.func44, Try.ntmps44
  go_wp2_with fail
  refine (H1.out _).mono ?_
  rintro e w1 ⟨rfl, rfl⟩
  go_wp2
  go_ret2
  exact ⟨rfl, Below.refl _ _⟩
set_option maxRecDepth 100000 in
theorem Unform_mod (m : Int) (v : Value) (w : World) (hm : modB m = false) :
    Calls Try.prog 42 #[.int .i64 m, v] w fun e w' => e = .returned (.tuple #[.slice none 0 0, .int .i64 2]) ∧ Below w.heap.size w w' := by
  have h1 := fun w => isModulus_any m w
  rw [hm] at h1
  have H1 := Lib.hid h1
  clear h1 hm
  go_enter Try.func42, Try.ntmps42
  go_wp2_with fail
  refine (H1.out _).mono ?_
  rintro e w1 ⟨rfl, rfl⟩
  go_wp2
  go_ret2
  exact ⟨rfl, Below.refl _ _⟩
set_option maxRecDepth 100000 in
set_option maxHeartbeats 4000000 in
theorem Unform_form (m : Nat) (a : Option Addr) (n cap : Nat) (xs : List Int) (w : World) (hr : Row w a n (intL xs)) (hn : n ≤ 1000) (hcap : n ≤ cap) (hm : 2 ≤ m) (hm2 : m ≤ 64) (hp : formB m xs = false) :
    Calls Try.prog 42 #[.int .i64 m, .slice a n cap] w fun e w' => e = .returned (.tuple #[.slice none 0 0, .int .i64 2]) ∧ Below w.heap.size w w' := by
  have h1 := fun w => isModulus_any (m : Int) w
  rw [show modB (m : Int) = true from decide_eq_true (by omega)] at h1
  have h := fun W hW => isForm_any m a n cap xs W hW hn hcap hm hm2
  rw [hp] at h
  have H1 := Lib.hid h1
  have H := Lib.hid h
  have Hr := Lib.hid hr
  clear h1 h hr hp
  go_enter Try.func42, Try.ntmps42
  go_wp2_with fail
  refine (H1.out _).mono ?_
  rintro e w1 ⟨rfl, hw⟩
  subst w1
  go_wp2_with fail
  refine (H.out _ Hr.out).mono ?_
  rintro e w1 ⟨rfl, b1⟩
  have B1 := Lib.hid b1
  clear b1
  go_wp2
  go_ret2
  exact ⟨rfl, B1.out⟩
end Go.Proofs.Ytndbjojjaapeaaa

/- The polynomial of one polynomial applied after another: mathematics. -/
namespace Go.Proofs.Ytndbjojjaapeaaa
set_option linter.unusedVariables false

/-- the value of a list of coefficients -/
def evalL (x : Int) : List Int → Int
  | [] => 0
  | c :: cs => c + x * evalL x cs
theorem evalL_sumP (x : Int) : ∀ (l : List Int) (i : Nat), sumP (fun _ => x) i l = evalL x l
  | [], _ => rfl
  | c :: cs, i => by
    show c + x * sumP (fun _ => x) (i + 1) cs = c + x * evalL x cs
    rw [evalL_sumP x cs (i + 1)]
theorem polyV_eval (m : Int) (p : List Int) (x : Int) : polyV m p x = evalL x p % m := by
  unfold polyV
  rw [nestV_sum, evalL_sumP]
def addL : List Int → List Int → List Int
  | [], b => b
  | a, [] => a
  | x :: a, y :: b => (x + y) :: addL a b
theorem addL_eval (x : Int) : ∀ a b : List Int, evalL x (addL a b) = evalL x a + evalL x b
  | [], b => by simp [addL, evalL]
  | u :: a, [] => by simp [addL, evalL]
  | u :: a, v :: b => by
    show (u + v) + x * evalL x (addL a b) = (u + x * evalL x a) + (v + x * evalL x b)
    rw [addL_eval x a b, Int.mul_add]; omega
def scaleL (c : Int) (a : List Int) : List Int := a.map (c * ·)
theorem scaleL_eval (x c : Int) : ∀ a : List Int, evalL x (scaleL c a) = c * evalL x a
  | [] => by simp [scaleL, evalL]
  | u :: a => by
    show c * u + x * evalL x (scaleL c a) = c * (u + x * evalL x a)
    rw [scaleL_eval x c a, Int.mul_add, Int.mul_left_comm]
def mulL : List Int → List Int → List Int
  | [], _ => []
  | u :: a, b => addL (scaleL u b) (0 :: mulL a b)
theorem mulL_eval (x : Int) : ∀ a b : List Int, evalL x (mulL a b) = evalL x a * evalL x b
  | [], b => by simp [mulL, evalL]
  | u :: a, b => by
    show evalL x (addL (scaleL u b) (0 :: mulL a b)) = (u + x * evalL x a) * evalL x b
    rw [addL_eval, scaleL_eval]
    show u * evalL x b + (0 + x * evalL x (mulL a b)) = _
    rw [mulL_eval x a b, Int.add_mul, Int.zero_add, Int.mul_assoc]
/-- q applied after p -/
def compL (p : List Int) : List Int → List Int
  | [] => []
  | c :: cs => addL [c] (mulL p (compL p cs))
theorem compL_eval (x : Int) (p : List Int) : ∀ q : List Int, evalL x (compL p q) = evalL (evalL x p) q
  | [] => rfl
  | c :: cs => by
    show evalL x (addL [c] (mulL p (compL p cs))) = c + evalL x p * evalL (evalL x p) cs
    rw [addL_eval, mulL_eval, compL_eval x p cs]
    show c + x * 0 + _ = _
    rw [Int.mul_zero, Int.add_zero]
theorem evalL_mod (m x : Int) : ∀ q : List Int, evalL (x % m) q % m = evalL x q % m
  | [] => rfl
  | c :: cs => by
    show (c + x % m * evalL (x % m) cs) % m = (c + x * evalL x cs) % m
    rw [Int.add_emod, Int.mul_emod, Int.emod_emod, evalL_mod m x cs, ← Int.mul_emod, ← Int.add_emod]
/-- the function of the one after the other -/
theorem polyV_comp (m : Int) (p q : List Int) (x : Int) : polyV m (compL p q) x = polyV m q (polyV m p x) := by
  rw [polyV_eval, polyV_eval, polyV_eval, evalL_mod, compL_eval]
theorem formS_congr {m : Nat} {f g : Nat → Int} : ∀ i, (∀ x, x < i → f x = g x) → formS m f i = formS m g i
  | 0, _ => rfl
  | i + 1, h => by
    unfold formS
    rw [formS_congr i (fun x hx => h x (by omega)), h i (by omega)]
theorem formR_congr {m : Nat} (hd : degN m ≤ m) {f g : Nat → Int} (h : ∀ x, x < m → f x = g x) : formR m f = formR m g := by
  unfold formR
  rw [formS_congr (degN m) (fun x hx => h x (by omega))]
  congr 1
  funext l
  have e : makesB m f l = makesB m g l := by
    unfold makesB
    rw [Bool.eq_iff_iff, List.all_eq_true, List.all_eq_true]
    constructor
    · intro H x hx
      rw [← h x (List.mem_range.1 hx)]; exact H x hx
    · intro H x hx
      rw [h x (List.mem_range.1 hx)]; exact H x hx
  rw [e]
theorem trimZ_le (l : List Int) : (trimZ l).length ≤ l.length := by
  unfold trimZ
  rw [List.length_reverse]
  have := (List.dropWhile_suffix (fun x : Int => decide (x = 0)) (l := l.reverse)).length_le
  simpa using this
/-- the function of a polynomial has a form, that is no longer than the degree -/
theorem form_of_poly {m : Nat} (hm : 2 ≤ m) (h64 : m ≤ 64) (p : List Int) {f : Nat → Int} (h : ∀ x, x < m → f x = polyV m p x) : ∃ l, formR m f = some l ∧ l.length ≤ degN m := by
  obtain ⟨_, d2, _⟩ := deg_facts ⟨m, by omega⟩ hm
  simp only at d2
  refine ⟨_, (formR_congr d2 h).trans (formR_poly hm h64 p), ?_⟩
  have := trimZ_le (formP m p)
  rwa [formP_length] at this
end Go.Proofs.Ytndbjojjaapeaaa

/- What a form is: the program's word and the reference's. -/
namespace Go.Proofs.Ytndbjojjaapeaaa
set_option linter.unusedVariables false
open Go.RowKit

theorem prodP_far {m k : Nat} (h : prodP m k = 0) : ∀ e, prodP m (k + e) = 0
  | 0 => h
  | e + 1 => by
    show prodP m (k + e) * (k + e + 1) % m = 0
    rw [prodP_far h e, Nat.zero_mul, Nat.zero_mod]
theorem room_far {m i : Nat} (hm : 2 ≤ m) (hm2 : m ≤ 64) (h : degN m ≤ i) : roomN m i = 1 := by
  obtain ⟨_, _, d3, _⟩ := deg_facts ⟨m, by omega⟩ hm
  simp only at d3
  obtain ⟨e, rfl⟩ : ∃ e, i = degN m + e := ⟨i - degN m, by omega⟩
  unfold roomN
  rw [prodP_far d3 e, Nat.gcd_zero_right, Nat.div_self (by omega)]
/-- the reference's word for a form -/
def formedB (m : Nat) (xs : List Int) : Bool := roomsB m xs xs.length && (decide (xs.length = 0) || decide (0 < xs.getD (xs.length - 1) 0))
theorem roomsB_get {m : Nat} {xs : List Int} {n k : Nat} (h : roomsB m xs n = true) (hk : k < n) : 0 ≤ xs.getD k 0 ∧ xs.getD k 0 < roomN m k := by
  unfold roomsB at h
  rw [List.all_eq_true] at h
  have := h k (List.mem_range.2 hk)
  unfold okN at this
  exact of_decide_eq_true this
theorem formB_pos {m : Nat} {xs : List Int} (hm2 : m ≤ 64) (h : formB m xs = true) : ∀ x ∈ xs, 0 ≤ x ∧ x ≤ 64 := fun x hx => by
  obtain ⟨i, hi, rfl⟩ := List.mem_iff_getElem.1 hx
  unfold formB at h
  rw [Bool.and_eq_true, Bool.and_eq_true] at h
  have h3 := roomsB_get h.1.2 hi
  rw [List.getD_eq_getElem?_getD, List.getElem?_eq_getElem hi] at h3
  simp only [Option.getD_some] at h3
  have h4 : roomN m i ≤ m := Nat.div_le_self _ _
  omega
theorem formed_eq {m : Nat} (hm : 2 ≤ m) (hm2 : m ≤ 64) (xs : List Int) : formedB m xs = formB m xs := by
  unfold formedB formB
  cases hR : roomsB m xs xs.length with
  | false => simp
  | true =>
    rcases List.eq_nil_or_concat xs with rfl | ⟨l, x, rfl⟩
    · simp [trimZ_nil]
    · rw [List.concat_eq_append] at hR ⊢
      have hx := roomsB_get hR (k := l.length) (by simp)
      rw [getD_snoc, if_neg (by omega), if_pos rfl] at hx
      rw [trimZ_snoc, List.length_append, List.length_singleton, Nat.add_sub_cancel, getD_snoc, if_neg (by omega), if_pos rfl]
      by_cases h0 : x = 0
      · subst h0
        rw [if_pos rfl]
        have := trimZ_le l
        rw [decide_eq_false (show ¬ (l.length + 1 = (trimZ l).length) by omega)]
        simp
      · rw [if_neg h0]
        have hd : l.length + 1 ≤ degN m := by
          rcases Nat.lt_or_ge l.length (degN m) with h | h
          · omega
          · rw [room_far hm hm2 h] at hx; omega
        rw [decide_eq_true hd, decide_eq_true (show 0 < x by omega)]
        simp
end Go.Proofs.Ytndbjojjaapeaaa
