/- Form. -/
import Derived.Test.YthmdlkaanjjbkaaTeq
import Derived.Test.YthmdlkaanjjbkaaCntt
import Derived.Test.YthmdlkaanjjbkaaFormm
import Derived.WalkArith
namespace Go.Proofs.Ythmdlkaanjjbkaa
set_option linter.unusedVariables false
open Go.RowKit

theorem own_of_rowIs {w : World} {b n base : Nat} {t : TypeId} {f : Nat → Value} (h : w.rowIs b t n f) (hb : base ≤ b) (hn : n ≤ maxLen) : w.ownsRow base t 1 (.slice (some ⟨b, 0, none⟩) n n) n ((List.range n).map f) := by
  obtain ⟨c, h1, h2, h3⟩ := h
  refine ⟨by simp, .inr ⟨b, n, c, rfl, hb, h1, Nat.le_refl _, hn, by omega, ?_⟩⟩
  refine List.ext_getElem? fun i => ?_
  rw [Nat.mul_one]
  by_cases hi : i < n
  · rw [List.getElem?_take_of_lt hi, List.getElem?_map, List.getElem?_range hi]
    simpa using h3 i hi
  · rw [List.getElem?_eq_none (by simp; omega), List.getElem?_eq_none (by simp; omega)]
theorem slice_toI (g n cap k : Nat) (hk : k ≤ cap) (w : World) : (Instr.sliceAt 22 (.slice (some ⟨g, 0, none⟩) n cap) none (some (.int .i64 k)) none).run Try.prog w = .ok (.slice (some ⟨g, 0, none⟩) k cap) w := by
  have h0 : (0 : Int) ≤ (k : Int) := by omega
  have h1 : (k : Int) ≤ (cap : Int) := by omega
  simp [Instr.sliceAt, go_sem, h0, h1]
theorem trimZ_snoc (l : List Int) (x : Int) : trimZ (l ++ [x]) = if x = 0 then trimZ l else l ++ [x] := by
  unfold trimZ
  rw [List.reverse_append, List.reverse_singleton, List.singleton_append, List.dropWhile_cons]
  by_cases h : x = 0
  · rw [if_pos (by simp [h]), if_pos h]
  · rw [if_neg (by simp [h]), if_neg h]; simp
theorem trimZ_nil : trimZ [] = [] := rfl

set_option maxRecDepth 100000 in
set_option maxHeartbeats 4000000 in
theorem without_any (g n cap : Nat) (xs : List Int) (w : World) (hr : Row w (some ⟨g, 0, none⟩) n (intL xs)) (hn : n ≤ 1000) (hcap : n ≤ cap) :
    Calls Try.prog 77 #[.slice (some ⟨g, 0, none⟩) n cap] w fun e w' => ∃ k, e = .returned (.slice (some ⟨g, 0, none⟩) k cap) ∧ k ≤ n ∧ trimZ xs = xs.take k ∧ w' = w := by
  have hx : xs.length = n := by have := hr.1; simpa [intL] using this
  have Hr := Lib.hid hr
  have Hx := Lib.hid hx
  clear hr hx
  go_enter Try.func77, Try.ntmps77
  go_wp2
  go_loopw [0] (fun v wr => ∃ k, k ≤ n ∧ v = .slice (some ⟨g, 0, none⟩) k cap ∧ Hid (trimZ (xs.take k) = trimZ xs) ∧ wr = w) (fun v _ => lenV v)
  case atStart => exact ⟨n, Nat.le_refl _, rfl, by unfold Hid; rw [List.take_of_length_le (by have := Hx.out; omega)], rfl⟩
  case round =>
    obtain ⟨k, hk, rfl, HT, rfl⟩ := hrel
    by_cases hk0 : k = 0
    · subst hk0
      have ht := HT.out
      rw [List.take_zero, trimZ_nil] at ht
      have HT2 := Lib.hid ht
      clear ht HT
      go_wp2
      go_ret
      exact ⟨0, rfl, Nat.zero_le _, by rw [← HT2.out, List.take_zero], rfl⟩
    · obtain ⟨j, rfl⟩ : ∃ j, k = j + 1 := ⟨k - 1, by omega⟩
      obtain ⟨x, hxj⟩ : ∃ x, xs[j]? = some x := ⟨_, List.getElem?_eq_getElem (by have := Hx.out; omega)⟩
      have hTk : xs.take (j + 1) = xs.take j ++ [x] := by rw [List.take_add_one, hxj]; rfl
      have hts := trimZ_snoc (xs.take j) x
      rw [← hTk, HT.out] at hts
      have c1 := Hr.out.2 (by omega)
      obtain ⟨g', hg', _, hc⟩ := c1
      obtain rfl : g = g' := by simpa using hg'
      have c1 := hc j _ (intL_get hxj)
      have hgt : ((j + 1 : Nat) : Int) > 0 := by omega
      have hpos : (0 : Int) < ((j + 1 : Nat) : Int) := by omega
      obtain ⟨k1, hk1⟩ : ∃ k1, j + 1 = k1 := ⟨_, rfl⟩
      have hw1 : IntKind.i64.wrap ((k1 : Int) - 1) = (j : Int) := by rw [← hk1, IntWalk.i64_in _ (by omega)]; omega
      have hw2 : wrap64 ((k1 : Int) - 1) = (j : Int) := by rw [← hk1, IntWalk.wrap64_in _ (by omega)]; omega
      have hjk : (j : Int) < k1 := by omega
      rw [hk1] at hgt hpos hk hTk ⊢
      have hsl := fun W => slice_toI g k1 cap j (by omega) W
      have HTs := Lib.hid hts
      have HTk := Lib.hid hTk
      have Hk1 := Lib.hid hk1
      clear hts hTk hg' hc hxj HT hk1
      by_cases h0 : x = 0
      · have ht := HTs.out
        rw [if_pos h0] at ht
        have HT2 : Hid (trimZ (xs.take j) = trimZ xs) := ht.symm
        clear ht HTs
        subst h0
        go_wp2
        go_roundw
        case rel => exact ⟨j, by have := Hk1.out; omega, rfl, HT2, trivial⟩
        case measure => have := Hk1.out; simp [lenV]; omega
      · have h1 : (x == 0) = false := by rw [beq_eq_false_iff_ne]; exact h0
        have ht := HTs.out
        rw [if_neg h0] at ht
        have HT2 := Lib.hid ht
        clear ht HTs h0
        go_wp2
        go_ret
        exact ⟨k1, rfl, hk, by rw [HT2.out, Hk1.out], rfl⟩

def formL (d : Nat) (pre : List Int) (i c : Nat) : List Int := (List.range d).map fun j => if j = i then (c : Int) else pre.getD j 0
theorem formL_length (d : Nat) (pre : List Int) (i c : Nat) : (formL d pre i c).length = d := by simp [formL]
theorem formL_get {d : Nat} (pre : List Int) (i c : Nat) {j : Nat} (hj : j < d) : (formL d pre i c).getD j 0 = if j = i then (c : Int) else pre.getD j 0 := by
  unfold formL
  rw [List.getD_eq_getElem?_getD, List.getElem?_map, List.getElem?_range hj]; rfl
/-- the value at i, when c is tried there -/
theorem form_at {m d i c : Nat} (hm : 2 ≤ m) {pre : List Int} (hi : i < d) : formV m (formL d pre i c) i = (valV m pre i i + (c : Int) * (prodP m i : Int)) % (m : Int) := by
  rw [formV_val hm, formL_length]
  obtain ⟨e, rfl⟩ : ∃ e, d = i + 1 + e := ⟨d - (i + 1), by omega⟩
  rw [valV_more hm, valV_at hm, formL_get _ _ _ (by omega), if_pos rfl, valV_take m _ pre i i fun j hj => by rw [formL_get _ _ _ (by omega), if_neg (by omega)]]
theorem formL_next {d i c : Nat} {pre : List Int} (hp : pre.length = i) : formL d (pre ++ [(c : Int)]) (i + 1) 0 = formL d pre i c := by
  unfold formL
  refine List.map_congr_left fun j _ => ?_
  rw [getD_snoc, hp]
  by_cases h1 : j = i + 1
  · subst h1
    rw [if_pos rfl, if_neg (by omega), List.getD_eq_getElem?_getD, List.getElem?_eq_none (by omega)]; rfl
  · rw [if_neg h1]
    by_cases h2 : j < i
    · rw [if_pos h2, if_neg (by omega)]
    · rw [if_neg h2]
      by_cases h3 : j = i
      · rw [if_pos h3, if_pos h3]
      · rw [if_neg h3, if_neg h3, List.getD_eq_getElem?_getD, List.getElem?_eq_none (by omega)]; rfl
theorem formL_end {d : Nat} {pre : List Int} (hp : pre.length = d) : formL d pre d 0 = pre := by
  refine List.ext_getElem? fun j => ?_
  unfold formL
  rw [List.getElem?_map]
  by_cases hj : j < d
  · rw [List.getElem?_range hj, List.getElem?_eq_getElem (by omega), Option.map_some, if_neg (by omega), List.getD_eq_getElem?_getD, List.getElem?_eq_getElem (by omega)]; rfl
  · rw [List.getElem?_eq_none (by simp; omega), List.getElem?_eq_none (by omega)]; rfl
theorem formS_none {m : Nat} {f : Nat → Int} {i : Nat} (h : formS m f i = none) : ∀ e, formS m f (i + e) = none
  | 0 => h
  | e + 1 => by
    show (formS m f (i + e)).bind _ = none
    rw [formS_none h e]; rfl
theorem pickF_step (P : Nat → Bool) {r c : Nat} (h : c < r) : pickF P (r - c) c = if P c then some c else pickF P (r - (c + 1)) (c + 1) := by
  rw [show r - c = (r - (c + 1)) + 1 by omega]; rfl
theorem own_later {w w' : World} {B n : Nat} {v : Value} {xs : List Value} (h : w.ownsRow B 3 1 v n xs) (hb : Below w.heap.size w w') : w'.ownsRow B 3 1 v n xs := h.kept (row := none) (grown_of_below (row := none) hb) (Classical.em _)
def cellN (wr : World) (F i : Nat) : Nat := match wr.cell? ⟨F, i, none⟩ with | some (.int _ x) => x.toNat | _ => 0
/-- the numbers that are being found -/
structure FSt (m d F : Nat) (w1 : World) (pre : List Int) (i c : Nat) (wr : World) : Prop where
  row : wr.rowIs F 3 d fun j => .int .i64 (if j = i then (c : Int) else pre.getD j 0)
  below : Below F w1 wr
theorem FSt.isRow {m d F i c : Nat} {w1 wr : World} {pre : List Int} (h : FSt m d F w1 pre i c wr) (hd : d ≤ 100) : wr.ownsRow F 3 1 (.slice (some ⟨F, 0, none⟩) d d) d (intL (formL d pre i c)) := by
  have := own_of_rowIs (base := F) h.row (Nat.le_refl _) (show d ≤ maxLen by unfold maxLen; omega)
  unfold formL intL
  rw [List.map_map]
  exact this
theorem FSt.next {m d F i c : Nat} {w1 wr w2 : World} {pre : List Int} (h : FSt m d F w1 pre i c wr) (hb : Below wr.heap.size wr w2) (hF : F ≤ wr.heap.size) : FSt m d F w1 pre i c w2 := ⟨rowIs_below h.row hb, h.below.grown (grown_of_below (row := none) hb) hF (by simp)⟩
theorem own_short {w : World} {base n k cap : Nat} {a : Option Addr} {xs : List Int} (h : w.ownsRow base 3 1 (.slice a n cap) n (intL xs)) (hk : k ≤ n) (hn : 0 < n) : w.ownsRow base 3 1 (.slice a k cap) k (intL (xs.take k)) := by
  have hl := h.1
  rcases h.2 with ⟨h1, _⟩ | ⟨g, cap', cur, h1, h2, h3, h4, h5, h6, h7⟩
  · simp at h1; omega
  · simp only [Value.slice.injEq, true_and] at h1
    obtain ⟨rfl, rfl⟩ := h1
    refine ⟨by rw [intL_length] at hl ⊢; rw [List.length_take]; omega, .inr ⟨g, cap, cur, rfl, h2, h3, by omega, h5, h6, ?_⟩⟩
    unfold intL at h7 ⊢
    rw [List.map_take, ← h7, List.take_take, Nat.mul_one, Nat.mul_one, Nat.min_eq_left hk]
theorem makes_tab {m : Nat} (hm : 2 ≤ m) (h64 : m ≤ 64) (l : List Int) (f : Nat → Int) : decide (tabL (fun x => formV m l x) m = tabL f m) = makesB m f l := by
  rw [Bool.eq_iff_iff, decide_eq_true_eq]
  unfold makesB
  rw [List.all_eq_true]
  constructor
  · intro h x hx
    have hxm := List.mem_range.1 hx
    have h1 := congrArg (fun l => l.getD x 0) h
    rw [tabL_get _ _ (by omega), tabL_get _ _ (by omega), if_pos hxm, if_pos hxm] at h1
    rw [decide_eq_true_eq, ← formV_val hm]
    exact h1
  · intro h
    unfold tabL
    refine List.map_congr_left fun x _ => ?_
    by_cases hx : x < m
    · rw [if_pos hx, if_pos hx]
      show formV m l x = f x
      rw [formV_val hm]
      exact of_decide_eq_true (h x (List.mem_range.2 hx))
    · rw [if_neg hx, if_neg hx]
theorem tabL_wf {f : Nat → Int} {m : Nat} (h : ∀ x, x < m → -1000000 ≤ f x ∧ f x ≤ 1000000) : ∀ x ∈ tabL f m, (Lit.int .i64 x).wf = true := fun x hx => by
  unfold tabL at hx
  obtain ⟨i, _, rfl⟩ := List.mem_map.1 hx
  by_cases hi : i < m
  · rw [if_pos hi]; have := h i hi; exact WalkArith.wf_i64 (by omega)
  · rw [if_neg hi]; exact WalkArith.wf_i64 (by omega)

set_option maxRecDepth 100000 in
theorem Form_no (m : Int) (a : Option Addr) (n cap : Nat) (xs : List Int) (w : World) (hr : Row w a n (intL xs)) (hn : n ≤ 1000) (hp : funcB m xs = false) :
    Calls Try.prog 32 #[.int .i64 m, .slice a n cap] w fun e w' => e = .returned (.tuple #[.slice none 0 0, .int .i64 2]) ∧ w' = w := by
  have h := isFunc_any m a n cap xs w hr hn
  rw [hp] at h
  have H := Lib.hid h
  clear h hr hp
  go_enter Try.func32, Try.ntmps32
  go_wp2_with fail
  refine H.out.mono ?_
  rintro e w1 ⟨rfl, rfl⟩
  go_wp2
  go_ret2
  exact ⟨rfl, rfl⟩
theorem FSt.aRow {m d F i c : Nat} {w1 wr : World} {pre : List Int} (h : FSt m d F w1 pre i c wr) (hd : d ≤ 100) : Row wr (some ⟨F, 0, none⟩) d (intL (formL d pre i c)) := by
  obtain ⟨a', c', hv, hR⟩ := Row.of_own (h.isRow hd)
  obtain ⟨rfl, rfl⟩ : some (⟨F, 0, none⟩ : Addr) = a' ∧ d = c' := by simpa using hv
  exact hR
theorem FSt.cell {m d F i c : Nat} {w1 wr : World} {pre : List Int} (h : FSt m d F w1 pre i c wr) (hi : i < d) : wr.cell? ⟨F, i, none⟩ = some (.int .i64 (c : Int)) := by
  have := h.row.cell hi
  rwa [if_pos rfl] at this
theorem FSt.cellN {m d F i c : Nat} {w1 wr : World} {pre : List Int} (h : FSt m d F w1 pre i c wr) (hi : i < d) : cellN wr F i = c := by
  unfold Go.Proofs.Ythmdlkaanjjbkaa.cellN
  rw [h.cell hi]; rfl
theorem ne_ints {a b : Nat} (h : ¬ a = b) : ((a : Int) == (b : Int)) = false := by rw [beq_eq_false_iff_ne]; omega
theorem lt_more {c c1 r : Nat} (h : c + 1 = c1) (h1 : ¬c1 = r) (h2 : c < r) : c1 < r := by omega
theorem mz_more {c c1 r : Nat} (h : c + 1 = c1) (h2 : c < r) : r - c1 < r - c := by omega
theorem mz_next {d k : Nat} (h : k < d) : d - (intOf (.int .i64 ((k + 1 : Nat) : Int))).toNat < d - (intOf (.int .i64 (k : Int))).toNat := by
  show d - ((k + 1 : Nat) : Int).toNat < d - (k : Int).toNat
  omega
theorem FSt.found {m d F i c : Nat} {w1 wr : World} {pre : List Int} (h : FSt m d F w1 pre i c wr) (hp : pre.length = i) : FSt m d F w1 (pre ++ [(c : Int)]) (i + 1) 0 wr :=
  ⟨h.row.congr fun j hj => by
    have e := congrArg (fun l => l.getD j 0) (formL_next (d := d) (c := c) hp)
    simp only [formL_get _ _ _ hj] at e
    rw [e], h.below⟩
theorem FSt.more {m d F i c : Nat} {w1 wr : World} {pre : List Int} (h : FSt m d F w1 pre i c wr) : FSt m d F w1 pre i (c + 1) (wr.setCell ⟨F, i, none⟩ (.int .i64 ((c + 1 : Nat) : Int))) :=
  ⟨(h.row.set i _).congr fun j _ => by by_cases e : j = i <;> simp [e], h.below.setCell (p := ⟨F, i, none⟩) (Nat.le_refl _) _⟩
theorem undrew1 {W w1 : World} (h : Below W.drew.heap.size W.drew w1) : Below W.heap.size W w1 := ⟨h.1, h.2, h.3, h.4, h.5⟩
/-- what Form returns -/
def FormPost (w : World) (m : Nat) (f : Nat → Int) (e : Ending) (w' : World) : Prop :=
  ((∀ l, formR m f = some l → ∃ v, e = .returned (.tuple #[v, .int .i64 0]) ∧ w'.ownsRow w.heap.size 3 1 v l.length (intL l)) ∧ (formR m f = none → e = .returned (.tuple #[.slice none 0 0, .int .i64 6]))) ∧ Below w.heap.size w w'
set_option maxRecDepth 100000 in
set_option maxHeartbeats 4000000 in
theorem Form_yes (m : Nat) (a : Option Addr) (cap : Nat) (xs : List Int) (w : World) (hr : Row w a m (intL xs)) (hm : 2 ≤ m) (hm2 : m ≤ 64) (hrem : ∀ x ∈ xs, 0 ≤ x ∧ x < m) :
    Calls Try.prog 32 #[.int .i64 m, .slice a m cap] w (FormPost w m fun x => xs.getD x 0) := by
  have hx : xs.length = m := by have := hr.1; simpa [intL] using this
  have hfb : funcB m xs = true := by
    unfold funcB remB
    rw [Bool.and_eq_true, Bool.and_eq_true, decide_eq_true_eq, List.all_eq_true]
    exact ⟨⟨decide_eq_true (by omega), by rw [hx]⟩, fun x h => decide_eq_true (hrem x h)⟩
  obtain ⟨d1, d2, d3, d4, d5⟩ := deg_facts ⟨m, by omega⟩ hm
  simp only at d1 d2
  have hd64 : degN m ≤ 64 := by omega
  have hI := fun W hW => isFunc_any m a m cap xs W hW (by omega)
  rw [hfb] at hI
  have hL := fun W => limitsOf_any m W hm hm2
  obtain ⟨g, rfl, hg, hcx⟩ := hr.2 (by omega)
  have hcell : ∀ (W : World) i, i < m → Below w.heap.size w W → W.cell? ⟨g, i, none⟩ = some (.int .i64 (xs.getD i 0)) := fun W i hi hW => by
    rw [hW.cell (p := ⟨g, i, none⟩) hg]
    exact hcx i _ (intL_get (by rw [List.getD_eq_getElem?_getD, List.getElem?_eq_getElem (by omega)]; rfl))
  have hFA := fun (l : List Int) (i : Nat) (W : World) (F : Nat) (hW : Row W (some ⟨F, 0, none⟩) (degN m) (intL l)) (hi : i ≤ 64) (hl : ∀ x ∈ l, -1000 ≤ x ∧ x ≤ 1000) => formAt_any i m (some ⟨F, 0, none⟩) (degN m) (degN m) l W hW (by omega) (by omega) hm2 (by omega) hl
  have hFT := fun (l : List Int) (W : World) (F : Nat) (hW : Row W (some ⟨F, 0, none⟩) (degN m) (intL l)) (hl : ∀ x ∈ l, -1000 ≤ x ∧ x ≤ 1000) => formTable_any m (some ⟨F, 0, none⟩) (degN m) (degN m) l W hW (by omega) (by omega) hm2 hl
  have hTO := fun W hW => tableOf_any m (some ⟨g, 0, none⟩) cap xs W hW (by omega) hm2
  have hat := fun (pre : List Int) (i c : Nat) (hi : i < degN m) => form_at (d := degN m) (c := c) hm (pre := pre) hi
  have hroom : ∀ i, i < degN m → 2 ≤ roomN m i ∧ roomN m i ≤ 64 := fun i hi => by
    have h1 := (d4 ⟨i, by omega⟩ hi).2
    simp only at h1
    have h2 : roomN m i ≤ m := Nat.div_le_self _ _
    omega
  have hlim : ∀ i, i < degN m → (limL m).getD i 0 = (roomN m i : Int) := fun i hi => by
    unfold limL
    rw [List.getD_eq_getElem?_getD, List.getElem?_map, List.getElem?_range hi]; rfl
  have hFR : ∀ o, formS m (fun x => xs.getD x 0) (degN m) = o → formR m (fun x => xs.getD x 0) = o.bind fun l => if makesB m (fun x => xs.getD x 0) l then some (trimZ l) else none := fun o h => by unfold formR; rw [h]
  have hst : ∀ i pre, formS m (fun x => xs.getD x 0) i = some pre → formS m (fun x => xs.getD x 0) (i + 1) = (pickN m pre i (xs.getD i 0)).map fun c : Nat => pre ++ [(c : Int)] := fun i pre h => by
    show (formS m _ i).bind _ = _
    rw [h]; rfl
  have hmt := fun l => makes_tab hm hm2 l (fun x => xs.getD x 0)
  have hfx : ∀ i, i < m → 0 ≤ xs.getD i 0 ∧ xs.getD i 0 < m := fun i hi => hrem _ (by rw [List.getD_eq_getElem?_getD, List.getElem?_eq_getElem (by omega)]; exact List.getElem_mem _)
  have Hcell := Lib.hid hcell
  have HI := Lib.hid hI
  have HL := Lib.hid hL
  have HFA := Lib.hid hFA
  have HFT := Lib.hid hFT
  have HTO := Lib.hid hTO
  have Hat := Lib.hid hat
  have Hroom := Lib.hid hroom
  have Hlim := Lib.hid hlim
  have HFR := Lib.hid hFR
  have Hst := Lib.hid hst
  have Hmt := Lib.hid hmt
  have Hr := Lib.hid hr
  have Hfx := Lib.hid hfx
  have hmk := run_make_row' (P := Try.prog) 22 3 (.int .i64 0) 8 Try.underlying22 info_int rfl .i64 .i64 (degN m) (by omega) (by omega)
  generalize hdd : degN m = d at *
  clear hcell hI hL hFA hFT hTO hat hroom hlim hFR hst hmt hr hfx hfb hcx d3 d4 d5 hrem
  go_enter Try.func32, Try.ntmps32
  go_wp2_with fail
  refine (HI.out _ Hr.out).mono ?_
  rintro e w0 ⟨rfl, rfl⟩
  go_wp2_with fail
  refine (HL.out _).mono ?_
  rintro e w1 ⟨v, rfl, ho, b1⟩
  obtain ⟨aL, cL, rfl, hLr⟩ := Row.of_own ho
  obtain ⟨gL, rfl, hgL, hcL⟩ := hLr.2 (by omega)
  have HcL := Lib.hid hcL
  have B1 := Lib.hid b1
  clear ho hLr hcL b1
  go_wp2
  have hrow0 := World.rowIs_made w1 (.int .i64 0) d 3
  have hB0 := below_alloc w1 (.cells (madeCells #[.int .i64 0] d) 3)
  have hF0 : FSt m d w1.heap.size w1 [] 0 0 (w1.alloc (.cells (madeCells #[.int .i64 0] d) 3)) := ⟨hrow0.congr fun j _ => by simp, hB0⟩
  have HF0 := Lib.hid hF0
  clear hmk hrow0 hB0 hF0
  generalize w1.alloc (.cells (madeCells #[.int .i64 0] d) 3) = w2 at HF0 ⊢
  go_loopw [8, 9, 21] (fun _ _ i wr => ∃ k pre, k ≤ d ∧ i = .int .i64 k ∧ Hid (formS m (fun x => xs.getD x 0) k = some pre) ∧ pre.length = k ∧ Hid (∀ x ∈ pre, 0 ≤ x ∧ x ≤ 64) ∧ FSt m d w1.heap.size w1 pre k 0 wr) (fun _ _ i _ => d - (intOf i).toNat)
  case atStart => exact ⟨0, [], Nat.zero_le _, rfl, rfl, rfl, by unfold Hid; simp, HF0.out⟩
  case round =>
    clear HF0
    obtain ⟨k, pre, hk, rfl, HS, hpl, HP, hF⟩ := hrel
    have HF := Lib.hid hF
    clear hF
    by_cases hlt : k < d
    · have hc : (k : Int) < d := by omega
      have hcl := HcL.out k _ (intL_get (by rw [List.getElem?_eq_getElem (show k < (limL m).length by rw [limL_length, hdd]; exact hlt)]))
      have hlk := Hlim.out k hlt
      rw [List.getD_eq_getElem?_getD, List.getElem?_eq_getElem (show k < (limL m).length by rw [limL_length, hdd]; exact hlt)] at hlk
      rw [show (limL m)[k]'(by rw [limL_length, hdd]; exact hlt) = (roomN m k : Int) from hlk] at hcl
      have hcl2 : wr.cell? ⟨gL, k, none⟩ = some (.int .i64 (roomN m k : Nat)) := (HF.out.below.cell (p := ⟨gL, k, none⟩) hgL).trans hcl
      obtain ⟨r2, r64⟩ := Hroom.out k hlt
      obtain ⟨r, hr⟩ : ∃ r, roomN m k = r := ⟨_, rfl⟩
      rw [hr] at hcl2 r2 r64
      have Hr2 := Lib.hid hr
      clear hcl hlk hr
      obtain ⟨fi, hfi⟩ : ∃ x, xs.getD k 0 = x := ⟨_, rfl⟩
      have hfb := Hfx.out k (by omega)
      have hst := Hst.out k pre HS.out
      rw [hfi] at hfb hst
      have hlen : ∀ c, ∀ x ∈ formL d pre k c, c ≤ 64 → -1000 ≤ x ∧ x ≤ 1000 := fun c x hx hc => by
        unfold formL at hx
        obtain ⟨j, _, rfl⟩ := List.mem_map.1 hx
        by_cases e : j = k
        · rw [if_pos e]; omega
        · rw [if_neg e]
          by_cases h : j < pre.length
          · have := HP.out (pre.getD j 0) (by rw [List.getD_eq_getElem?_getD, List.getElem?_eq_getElem h]; exact List.getElem_mem _)
            omega
          · rw [List.getD_eq_getElem?_getD, List.getElem?_eq_none (by omega)]; simp
      have hpk0 : pickN m pre k fi = pickF (fitB m pre k fi) (r - 0) 0 := by unfold pickN; rw [Hr2.out]; rfl
      have hgL2 : ∀ X c, FSt m d w1.heap.size w1 pre k c X → X.cell? ⟨gL, k, none⟩ = some (.int .i64 r) := fun X c hX => by
        have e := HF.out.below.cell (p := ⟨gL, k, none⟩) hgL
        rw [hX.below.cell (p := ⟨gL, k, none⟩) hgL, ← e]
        exact hcl2
      have hgF2 : ∀ X c, FSt m d w1.heap.size w1 pre k c X → X.cell? ⟨g, k, none⟩ = some (.int .i64 fi) := fun X c hX => by
        rw [← hfi]
        exact Hcell.out X k (by omega) (b_next B1.out hX.below)
      have Hlen := Lib.hid hlen
      have HgL := Lib.hid hgL2
      have HgF := Lib.hid hgF2
      have Hst2 := Lib.hid hst
      have Hpk0 := Lib.hid hpk0
      have Hfi := Lib.hid hfi
      clear hlen hgL2 hgF2 hst hpk0 hfi
      go_wp2
      clear hcl2
      go_loopw [] (fun wr => ∃ c, c < r ∧ Hid (pickN m pre k fi = pickF (fitB m pre k fi) (r - c) c) ∧ FSt m d w1.heap.size w1 pre k c wr) (fun wr => r - cellN wr w1.heap.size k)
      case atStart => exact ⟨0, by omega, Hpk0.out, HF.out⟩
      case round =>
        clear HF Hpk0
        obtain ⟨c, hcr, HPk, hF⟩ := hrel
        have hs := pickF_step (fitB m pre k fi) hcr
        rw [← HPk.out] at hs
        obtain ⟨v, hv⟩ : ∃ v, formV m (formL d pre k c) k = v := ⟨_, rfl⟩
        have hva := Hat.out pre k c hlt
        rw [hv] at hva
        have hfit : fitB m pre k fi c = decide (v = fi) := by unfold fitB; rw [hva]
        rw [hfit] at hs
        have hfa := fun (W : World) (hW : Below wr.heap.size wr W) => HFA.out (formL d pre k c) k W w1.heap.size ((hF.aRow (by omega)).below hW) (by omega) (fun x hx => Hlen.out c x hx (by omega))
        rw [hv] at hfa
        have e1 := HgF.out wr c hF
        have hkm : (k : Int) < (m : Int) := by omega
        have HFA2 := Lib.hid hfa
        have HF := Lib.hid hF
        have Hs := Lib.hid hs
        clear hfa hF hs hfit hva hv HPk
        by_cases hvf : v = fi
        · have hne : (v != fi) = false := by simp [hvf]
          have hs2 := Hs.out
          rw [decide_eq_true hvf, if_pos rfl] at hs2
          have Hs2 := Lib.hid hs2
          clear hs2 hvf Hs
          go_wp2
          go_region_held3 (fun w' => w'.cell? ⟨g, k, none⟩ = some (.int .i64 fi))
            (first | exact e1 | exact (hb5.cell (p := ⟨g, k, none⟩) (World.block_lt_of_cell? _ _ e1)).trans e1)
            (first
              | (go_at_call 74; refine (HFA2.out _ (by first | exact Below.refl _ _ | exact (Below.refl _ _).drew)).mono ?_; rintro e w5 ⟨rfl, zb⟩; have hb5 := undrew1 zb))
          have hF5 := HF.out.next hb5 HF.out.below.size
          have HF5 := Lib.hid hF5
          have hkw1 : IntKind.i64.wrap ((k : Int) + 1) = ((k + 1 : Nat) : Int) := by rw [IntWalk.i64_in _ (by omega)]; omega
          have hkw2 : wrap64 ((k : Int) + 1) = ((k + 1 : Nat) : Int) := by rw [IntWalk.wrap64_in _ (by omega)]; omega
          clear hF5
          go_wp2
          go_roundw
          case rel =>
            refine ⟨k + 1, pre ++ [(c : Int)], hlt, rfl, ?_, by rw [List.length_append, hpl]; rfl, ?_, HF5.out.found hpl⟩
            · unfold Hid; rw [Hst2.out, Hs2.out]; rfl
            · unfold Hid
              intro x hx
              rcases List.mem_append.1 hx with h | h
              · exact HP.out x h
              · rw [List.mem_singleton] at h; omega
          case measure => exact mz_next hlt
        · have hne : (v != fi) = true := by simp [hvf]
          have hs2 := Hs.out
          rw [decide_eq_false hvf, if_neg (by simp)] at hs2
          have Hs2 := Lib.hid hs2
          clear hs2 hvf Hs
          go_wp2
          go_region_held3 (fun w' => w'.cell? ⟨g, k, none⟩ = some (.int .i64 fi))
            (first | exact e1 | exact (hb5.cell (p := ⟨g, k, none⟩) (World.block_lt_of_cell? _ _ e1)).trans e1)
            (first
              | (go_at_call 74; refine (HFA2.out _ (by first | exact Below.refl _ _ | exact (Below.refl _ _).drew)).mono ?_; rintro e w5 ⟨rfl, zb⟩; have hb5 := undrew1 zb))
          have hF5 := HF.out.next hb5 HF.out.below.size
          have hck := hF5.cell hlt
          have hfz := hF5.row.frozen k
          obtain ⟨c1, hc1⟩ : ∃ c1, c + 1 = c1 := ⟨_, rfl⟩
          have hcw1 : IntKind.i64.wrap ((c : Int) + 1) = (c1 : Int) := by rw [IntWalk.i64_in _ (by omega)]; omega
          have hcw2 : wrap64 ((c : Int) + 1) = (c1 : Int) := by rw [IntWalk.wrap64_in _ (by omega)]; omega
          have hm6 := hF5.more
          rw [hc1] at hm6 Hs2
          have HM := Lib.hid hm6
          have Hc1 := Lib.hid hc1
          have hkd : (k : Int) < (d : Int) := by omega
          clear hF5 hm6 hc1
          by_cases hcr1 : c1 = r
          · subst hcr1
            go_wp2
            go_ret2
            refine ⟨⟨fun l hl => ?_, fun _ => rfl⟩, b_next B1.out HM.out.below⟩
            obtain ⟨e, rfl⟩ : ∃ e, d = k + 1 + e := ⟨d - (k + 1), by omega⟩
            have h1 := Hs2.out
            rw [Nat.sub_self] at h1
            have h2 := Hst2.out
            rw [h1] at h2
            rw [HFR.out _ (formS_none h2 e)] at hl
            simp at hl
          · have hne2 := ne_ints hcr1
            go_wp2
            go_roundw
            case rel =>
              exact ⟨c1, lt_more Hc1.out hcr1 hcr, Hs2.out, HM.out⟩
            case measure =>
              rw [HM.out.cellN hlt, HF.out.cellN hlt]
              exact mz_more Hc1.out hcr
    · obtain rfl : k = d := by omega
      have hnc : ¬((k : Int) < k) := by omega
      obtain ⟨TA, hTA⟩ : ∃ T, tabA (fun x => formV m pre x) m = T := ⟨_, rfl⟩
      obtain ⟨TB, hTB⟩ : ∃ T, tabA (fun x => xs.getD x 0) m = T := ⟨_, rfl⟩
      have hFr : FSt m k w1.heap.size w1 pre k 0 wr := HF.out
      have hrow := hFr.aRow (by omega)
      rw [formL_end hpl] at hrow
      have hown := hFr.isRow (by omega)
      rw [formL_end hpl] at hown
      have hb0 := b_next B1.out hFr.below
      have hpb : ∀ x ∈ pre, -1000 ≤ x ∧ x ≤ 1000 := fun x hx => by have := HP.out x hx; omega
      have heq : ∀ W, (Op.equalIn 10000 69 (.agg TA) (.agg TB)).run Try.prog W = .ok (makesB m (fun x => xs.getD x 0) pre) W := fun W => by
        rw [← hTA, ← hTB, ← Hmt.out pre]
        exact eq_tab (tabL (fun x => formV m pre x) m) (tabL (fun x => xs.getD x 0) m) W (tabL_length _ _) (tabL_length _ _) (tabL_wf fun x _ => by rw [formV_val hm]; have := valV_range (m := m) (by omega) pre x pre.length; omega) (tabL_wf fun x hx => by have := Hfx.out x hx; omega)
      have hft := fun W (hW : Below wr.heap.size wr W) => HFT.out pre W w1.heap.size (hrow.below hW) hpb
      rw [hTA] at hft
      have hto := fun W (hW : Below wr.heap.size wr W) => HTO.out W (Hr.out.below (b_next hb0 hW))
      rw [hTB] at hto
      have hwo := fun W (hW : Below wr.heap.size wr W) => without_any w1.heap.size k k pre W (hrow.below hW) (by omega) (Nat.le_refl _)
      obtain ⟨bq, hbq⟩ : ∃ b, makesB m (fun x => xs.getD x 0) pre = b := ⟨_, rfl⟩
      have hfr := HFR.out _ HS.out
      rw [Option.bind_some, hbq] at hfr
      rw [hbq] at heq
      have Hfr := Lib.hid hfr
      have Hft := Lib.hid hft
      have Hto := Lib.hid hto
      have Hwo := Lib.hid hwo
      have Hown := Lib.hid hown
      have Hb0 := Lib.hid hb0
      clear hTA hTB hFr hrow hown hb0 hpb hft hto hwo hbq hfr HF
      cases bq
      · go_wp2_with fail
        refine (Hft.out _ (Below.refl _ _)).mono ?_
        rintro e w5 ⟨rfl, b5⟩
        have B5 := Lib.hid b5
        clear b5
        go_wp2_with fail
        refine (Hto.out _ B5.out).mono ?_
        rintro e w6 ⟨rfl, b6⟩
        have B6 := Lib.hid (b_next B5.out b6)
        clear b6
        go_wp2
        go_ret2
        refine ⟨⟨fun l hl => ?_, fun _ => rfl⟩, b_next Hb0.out B6.out⟩
        rw [Hfr.out] at hl
        simp at hl
      · go_wp2_with fail
        refine (Hft.out _ (Below.refl _ _)).mono ?_
        rintro e w5 ⟨rfl, b5⟩
        have B5 := Lib.hid b5
        clear b5
        go_wp2_with fail
        refine (Hto.out _ B5.out).mono ?_
        rintro e w6 ⟨rfl, b6⟩
        have B6 := Lib.hid (b_next B5.out b6)
        clear b6
        go_wp2_with fail
        refine (Hwo.out _ B6.out).mono ?_
        rintro e w7 ⟨j, rfl, hj, htr, rfl⟩
        have HT := Lib.hid htr
        clear htr
        go_wp2
        go_ret2
        refine ⟨⟨fun l hl => ?_, fun h => ?_⟩, b_next Hb0.out B6.out⟩
        · have h := Hfr.out
          rw [hl] at h
          have h2 : l = pre.take j := by have := Option.some.inj h; rw [this]; exact HT.out
          subst h2
          refine ⟨_, rfl, ?_⟩
          have h3 := own_short (own_base2 Hown.out B1.out.size) hj (by omega)
          rw [List.length_take, hpl, Nat.min_eq_left hj]
          exact own_later h3 B6.out
        · rw [Hfr.out] at h
          simp at h
end Go.Proofs.Ythmdlkaanjjbkaa
