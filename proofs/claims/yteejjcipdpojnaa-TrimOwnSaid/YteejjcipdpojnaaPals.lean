/- The contract of trim.Palindromes. -/
import Derived.Test.YteejjcipdpojnaaCmp
import Derived.Test.YteejjcipdpojnaaLists
import Derived.Test.YteejjcipdpojnaaShelfb
import Derived.Sort.OwnSorted
namespace Go.Proofs.Yteejjcipdpojnaa
set_option linter.unusedVariables false
open Go.RowKit Go.Maps Go.Sort Go.MapKept

/-! ### sorted lists without duplicates -/
/-- x laid into a sorted list, unless it is there -/
def insertS (x : List UInt8) : List (List UInt8) → List (List UInt8)
  | [] => [x]
  | y :: r => if ltE y x then y :: insertS x r else if y = x then y :: r else x :: y :: r
def sortS (ss : List (List UInt8)) : List (List UInt8) := ss.foldl (fun r x => insertS x r) []
theorem sortS_snoc (ss : List (List UInt8)) (x : List UInt8) : sortS (ss ++ [x]) = insertS x (sortS ss) := by simp [sortS, List.foldl_append]

def Strict (l : List (List UInt8)) : Prop := l.Pairwise fun a b => ltE a b = true

theorem ltE_irr (x : List UInt8) : ltE x x = false := by have := ltE_swo.irrefl x; rwa [ltOf_eq] at this
theorem ltE_tr {x y z : List UInt8} (h : ltE x y = true) (k : ltE y z = true) : ltE x z = true := by
  have := ltE_swo.trans x y z; rw [ltOf_eq, ltOf_eq, ltOf_eq] at this; exact this h k
theorem ltE_eq {x y : List UInt8} (h : ltE x y = false) (k : ltE y x = false) : x = y := ltE_total x y (by rw [ltOf_eq]; exact h) (by rw [ltOf_eq]; exact k)
theorem ltE_as {x y : List UInt8} (h : ltE x y = true) : ltE y x = false := by
  cases hk : ltE y x with
  | false => rfl
  | true => have := ltE_tr h hk; rw [ltE_irr] at this; cases this

theorem mem_insertS (x y : List UInt8) : ∀ l, y ∈ insertS x l ↔ y = x ∨ y ∈ l
  | [] => by simp [insertS]
  | z :: r => by
    unfold insertS
    split
    · rw [List.mem_cons, mem_insertS x y r, List.mem_cons]
      exact ⟨fun h => h.elim (fun h => .inr (.inl h)) (fun h => h.elim .inl (fun h => .inr (.inr h))), fun h => h.elim (fun h => .inr (.inl h)) (fun h => h.elim .inl (fun h => .inr (.inr h)))⟩
    · split
      · rename_i h; subst h; simp
      · simp

theorem strict_insertS (x : List UInt8) : ∀ l, Strict l → Strict (insertS x l)
  | [], _ => by simp [insertS, Strict]
  | z :: r, h => by
    obtain ⟨h1, h2⟩ := List.pairwise_cons.1 h
    unfold insertS
    split
    · rename_i hz
      refine List.pairwise_cons.2 ⟨fun q hq => ?_, strict_insertS x r h2⟩
      rcases (mem_insertS x q r).1 hq with rfl | hq
      · exact hz
      · exact h1 q hq
    · rename_i hz
      split
      · exact h
      · rename_i hne
        have hxz : ltE x z = true := by
          cases hk : ltE x z with
          | true => rfl
          | false => exact absurd (ltE_eq (by simpa using hz) hk) hne
        refine List.pairwise_cons.2 ⟨fun q hq => ?_, h⟩
        rcases List.mem_cons.1 hq with rfl | hq
        · exact hxz
        · exact ltE_tr hxz (h1 q hq)

theorem mem_sortS (x : List UInt8) : ∀ ss, x ∈ sortS ss ↔ x ∈ ss := by
  refine snoc_rec (by simp [sortS]) ?_
  intro l y ih
  rw [sortS_snoc, mem_insertS, ih]
  simp [or_comm]
theorem strict_sortS : ∀ ss, Strict (sortS ss) := by
  refine snoc_rec List.Pairwise.nil ?_
  intro l y ih
  rw [sortS_snoc]; exact strict_insertS y _ ih

theorem strict_unique : ∀ {a b : List (List UInt8)}, Strict a → Strict b → (∀ x, x ∈ a ↔ x ∈ b) → a = b
  | [], [], _, _, _ => rfl
  | [], y :: r, _, _, h => absurd ((h y).2 (by simp)) (by simp)
  | x :: l, [], _, _, h => absurd ((h x).1 (by simp)) (by simp)
  | x :: l, y :: r, ha, hb, h => by
    obtain ⟨a1, a2⟩ := List.pairwise_cons.1 ha
    obtain ⟨b1, b2⟩ := List.pairwise_cons.1 hb
    have hxy : x = y := by
      rcases List.mem_cons.1 ((h x).1 (by simp)) with e | e
      · exact e
      · rcases List.mem_cons.1 ((h y).2 (by simp)) with e' | e'
        · exact e'.symm
        · have := ltE_as (b1 x e); rw [a1 y e'] at this; cases this
    subst hxy
    have hn1 : x ∉ l := fun hx => by have := a1 x hx; rw [ltE_irr] at this; cases this
    have hn2 : x ∉ r := fun hx => by have := b1 x hx; rw [ltE_irr] at this; cases this
    rw [strict_unique a2 b2 (fun z => by
      constructor
      · intro hz
        rcases List.mem_cons.1 ((h z).1 (List.mem_cons_of_mem _ hz)) with e | e
        · exact absurd (e ▸ hz) hn1
        · exact e
      · intro hz
        rcases List.mem_cons.1 ((h z).2 (List.mem_cons_of_mem _ hz)) with e | e
        · exact absurd (e ▸ hz) hn2
        · exact e)]

/-- A list without duplicates, sorted by the program's comparison, is what 'sortS' makes. -/
theorem merge_sortS (ss ss0 : List (List UInt8)) (hn : ss.Nodup) (hm : ∀ x, x ∈ ss ↔ x ∈ ss0) : (ss.mergeSort fun x y => !(ltOf cmpE) y x) = sortS ss0 := by
  refine strict_unique ?_ (strict_sortS ss0) (fun x => by rw [List.mem_mergeSort, mem_sortS, hm])
  have hp := List.pairwise_mergeSort (le := fun x y => !(ltOf cmpE) y x) (fun a b c h1 h2 => by
      simp only [Bool.not_eq_true'] at h1 h2 ⊢
      exact ltE_swo.ntrans c b a h2 h1) (fun a b => by
      cases h : ltOf cmpE b a with
      | false => simp
      | true => rw [ltOf_eq] at h; simp [ltOf_eq, ltE_as h]) ss
  have hd : (ss.mergeSort fun x y => !(ltOf cmpE) y x).Nodup := (List.mergeSort_perm ss _).nodup_iff.2 hn
  refine (hp.and hd).imp ?_
  rintro a b ⟨h1, h2⟩
  simp only [Bool.not_eq_true', ltOf_eq] at h1
  cases h : ltE a b with
  | true => rfl
  | false => exact absurd (ltE_eq h h1) h2

/-! ### the keys of a set -/
theorem boolSet_keys : ∀ ss : List (List UInt8), ∃ es, boolSet ss = .map es ∧ (∀ p ∈ es, ∃ x, p.1 = .string x) ∧ es.Pairwise (fun p q => p.1 ≠ q.1) ∧ ∀ x, (∃ p ∈ es, p.1 = .string x) ↔ x ∈ ss := by
  refine snoc_rec ⟨[], rfl, by simp, List.Pairwise.nil, by simp⟩ ?_
  rintro l y ⟨es, he, h1, h2, h3⟩
  rw [boolSet_snoc, he]
  have hp := WideShapes.insert_perm (Lit.string y, (.lit (.bool true) : DataW Unit)) (es.filter fun p => !p.1.sameKey (.string y))
  have hsk : ∀ p ∈ es, (p.1.sameKey (.string y) = true ↔ p.1 = .string y) := fun p hp => by
    constructor
    · intro h; exact WideAt.sameKey_eq h
    · intro h; rw [h]; exact WideAt.sameKey_self (show WideAt.IsKeyLit (.string y) from trivial)
  refine ⟨_, rfl, ?_, ?_, ?_⟩
  · intro p hq
    rcases List.mem_cons.1 (hp.mem_iff.1 hq) with rfl | h
    · exact ⟨y, rfl⟩
    · exact h1 p (List.mem_filter.1 h).1
  · refine (hp.pairwise_iff (fun {a b} (h : a.1 ≠ b.1) => h.symm)).2 (List.pairwise_cons.2 ⟨fun q hq => ?_, h2.filter _⟩)
    obtain ⟨hq1, hq2⟩ := List.mem_filter.1 hq
    intro e
    rw [(hsk q hq1).2 e.symm] at hq2; cases hq2
  · intro x
    rw [List.mem_append, List.mem_singleton]
    constructor
    · rintro ⟨p, hq, e⟩
      rcases List.mem_cons.1 (hp.mem_iff.1 hq) with rfl | h
      · right; cases e; rfl
      · exact .inl ((h3 x).1 ⟨p, (List.mem_filter.1 h).1, e⟩)
    · intro h
      by_cases hxy : x = y
      · subst hxy; exact ⟨_, hp.mem_iff.2 (List.mem_cons_self ..), rfl⟩
      · rcases h with h | h
        · obtain ⟨p, hq, e⟩ := (h3 x).2 h
          refine ⟨p, hp.mem_iff.2 (List.mem_cons_of_mem _ (List.mem_filter.2 ⟨hq, ?_⟩)), e⟩
          cases hs : p.1.sameKey (.string y) with
          | false => rfl
          | true => have := (hsk p hq).1 hs; rw [e] at this; cases this; exact absurd rfl hxy
        · exact absurd h hxy

theorem strKeys_set (ss : List (List UInt8)) : (strKeys (boolSet ss)).Nodup ∧ ∀ x, x ∈ strKeys (boolSet ss) ↔ x ∈ ss := by
  obtain ⟨es, he, h1, h2, h3⟩ := boolSet_keys ss
  rw [he]
  constructor
  · unfold strKeys List.Nodup
    rw [List.pairwise_map]
    refine List.Pairwise.imp_of_mem ?_ h2
    intro a b ha hb hne e
    obtain ⟨x, hx⟩ := h1 a ha
    obtain ⟨y, hy⟩ := h1 b hb
    rw [hx, hy] at e hne
    simp [strOf] at e
    exact hne (by rw [e])
  · intro x
    rw [← h3 x]
    unfold strKeys
    rw [List.mem_map]
    constructor
    · rintro ⟨p, hp, e⟩
      obtain ⟨y, hy⟩ := h1 p hp
      rw [hy] at e; simp [strOf] at e
      exact ⟨p, hp, by rw [hy, e]⟩
    · rintro ⟨p, hp, e⟩
      exact ⟨p, hp, by rw [e]; rfl⟩

/-! ### slices.SortedFunc over the keys of a set -/


theorem cmp_lays (blk off size : Nat) (w : World) : CmpLays1 Try.prog 58 #[] encStr cmpE blk off size w := fun m os dk hs x y =>
  shorter_any ⟨x.toArray⟩ ⟨y.toArray⟩ _

set_option maxHeartbeats 1000000 in
theorem SortedFunc_set (b nn : Nat) (ss0 : List (List UInt8)) (w : World) (hown : w.ownsMap Try.prog 9 (plainElem Try.prog 4) b nn (boolSet ss0)) (hlen : nn ≤ 1000) :
    Calls Try.prog 56 #[.func (.func 74) #[] #[.pointer (some ⟨w.heap.size, 0, none⟩)], .func (.func 58) #[] #[]] (w.alloc (.cells #[.map (some b)] 56)) fun e w' =>
      ∃ v, e = .returned v ∧ w'.ownsRow (w.heap.size + 1) 9 1 v (sortS ss0).length (strs (sortS ss0)) ∧ Below (w.heap.size + 1) (w.alloc (.cells #[.map (some b)] 56)) w' := by
  have hbl := hown.lt
  have hsize : Maps.size (boolSet ss0) ≤ 1000 := Nat.le_trans hown.size_le hlen
  have hseq : SeqGives Fence.wide 2 Try.prog 74 #[.pointer (some ⟨w.heap.size, 0, none⟩)] encStr (fun ss => ss.Perm (strKeys (boolSet ss0))) (Maps.size (boolSet ss0)) (w.alloc (.cells #[.map (some b)] 56)) :=
    AnyZ.keys_gives (ρ := Try.keysB_ren) { Try.keysB with } Fence.wide _ trivial rfl (by omega) w.heap.size b nn (boolSet ss0) _ (by simp) (by simp) (by
      obtain ⟨es, clock, hb, Ft, hs, hD⟩ := hown
      exact ⟨es, clock, (Below.heap_alloc _ _ b hbl).trans hb, Ft, hs, hD⟩)
  have cC := (callsIn_wide (n := 4)).1 (AnyZ.collect_in Try.collectS Fence.wide 4 trivial trivial rfl (by omega) 74 #[.pointer (some ⟨w.heap.size, 0, none⟩)] trivial (enters_of Try.func74 (by kernel_rfl) rfl) _ _ (by unfold maxLen; omega) (by omega) _ hseq)
  change Calls Try.prog 72 _ _ _ at cC
  have cN := fun (cap : Nat) (fv : Value) (W : World) => AnyF.slices_SortFunc_none (ρ := Try.sortF_ren) { Try.sortF with } none cap fv W
  change ∀ cap fv W, Calls Try.prog 73 _ _ _ at cN
  have cS := fun (blk cap : Nat) (d : Array (List UInt8)) (W : World) => Any.slices_SortFunc_total Try.sortF encStr (fun _ => rfl) cmpE ltE_swo 58 #[] blk 0 cap d W (enters_of Try.func58 (by kernel_rfl) rfl) (cmp_lays blk 0 d.size W)
  have HC := Lib.hid cC
  have HN := Lib.hid cN
  have HS := Lib.hid cS
  clear cC cN cS hseq
  go_enter Try.func56, Try.ntmps56
  go_wp2_with (go_at_call 72; refine HC.out.mono ?_; rintro e W ⟨v, ss, rfl, hperm, hrow, hnil, hb⟩)
  obtain ⟨hk1, hk2⟩ := strKeys_set ss0
  have hnd : ss.Nodup := hperm.nodup_iff.2 hk1
  have hmem : ∀ x, x ∈ ss ↔ x ∈ ss0 := fun x => by rw [hperm.mem_iff, hk2]
  have hms := merge_sortS ss ss0 hnd hmem
  have hl : (sortS ss0).length = ss.length := by rw [← hms]; exact (List.mergeSort_perm ss _).length_eq
  have hszn : ss.length ≤ 1000 := by
    have h1 := hperm.length_eq
    have h2 : (strKeys (boolSet ss0)).length = Maps.size (boolSet ss0) := by
      obtain ⟨es, he, _⟩ := boolSet_keys ss0
      rw [he]; simp [strKeys, Maps.size]
    omega
  have hsW : (w.alloc (.cells #[.map (some b)] 56)).heap.size = w.heap.size + 1 := by simp
  rw [hsW] at hrow hb
  have Hms := Lib.hid hms
  have Hl := Lib.hid hl
  clear hms hl hk2 hmem hsW hperm hnil
  rcases hrow.2 with ⟨rfl, hz⟩ | ⟨gb, cap, cur, rfl, hbase, hgb, r1, r2, r3, r4⟩
  · have h0 : ss = [] := List.eq_nil_of_length_eq_zero hz
    have hE : (sortS ss0) = [] := List.eq_nil_of_length_eq_zero (by rw [Hl.out, h0]; rfl)
    have HE := Lib.hid hE
    clear hE h0 hz
    go_wp2_with (go_at_call 73; refine (HN.out 0 _ W).mono ?_; rintro e w' ⟨rfl, rfl⟩)
    go_ret
    exact ⟨_, rfl, by rw [HE.out]; exact World.ownsRow_nil _ _ _ _, hb⟩
  · have hH : Holds encStr W gb 0 ss.toArray := holds_of_block hgb (by simpa using r4)
    have hgl : gb < W.heap.size := (Array.getElem?_eq_some_iff.1 hgb).1
    have cS := HS.out gb cap ss.toArray W hH hgl (by simp; omega) ltE_total
    change Calls Try.prog 73 _ _ _ at cS
    rw [List.size_toArray] at cS
    have HcS := Lib.hid cS
    clear cS
    go_wp2_with (go_at_call 73; refine HcS.out.mono ?_; rintro e w' ⟨rfl, nn', os, hw'⟩; have Hw' := Lib.hid hw'; clear hw')
    go_ret
    have hfin := ownsRow_sorted (w := W) (base := w.heap.size + 1) (n := nn') (os := os) (ts := sortS ss0) Hl.out hbase hgb r1 r2 (by simpa using r3)
    have hw2 : w' = grow (putRow encStr (Sort.ahead W nn') gb 0 (sortS ss0).toArray) os := by rw [Hw'.out, ← Hms.out]; rfl
    rw [← hw2] at hfin
    refine ⟨_, rfl, ?_, ?_⟩
    · rw [Hl.out]; exact hfin
    · rw [hw2]; exact hb.grown (grownBy_sorted _) (by have := hb.size; simp at this; omega) (fun j hj => by cases hj; exact hbase)

/-- the different palindromes of a list, sorted -/
def palsL (l : List UInt8) : List (List UInt8) := sortS (palEnds l l.length)
/-- Palindromes' two results -/
def palsR (s : ByteArray) : List (List UInt8) × Int := if wordB s.data.toList then (palsL s.data.toList, 0) else ([], 2)

set_option maxHeartbeats 1000000 in
theorem Palindromes_any (s : ByteArray) (w : World) (hs : s.size ≤ 1000) :
    Calls Try.prog 17 #[.string s] w fun e w' => ∃ v, e = .returned (.tuple #[v, .int .i64 (palsR s).2]) ∧ w'.ownsRow w.heap.size 9 1 v (palsR s).1.length (strs (palsR s).1) ∧ Below w.heap.size w w' := by
  cases hw : wordB s.data.toList with
  | false =>
    have hr : palsR s = ([], 2) := by unfold palsR; rw [hw]; rfl
    have Hr := Lib.hid hr
    have Hw := Lib.hid hw
    clear hr hw
    go_enter Try.func17, Try.ntmps17
    go_wp2_with (go_at_call 54; refine (isWord_any _ _ (by unfold maxLen; omega)).mono ?_; rintro e w' ⟨rfl, rfl⟩; rw [Hw.out])
    go_ret2
    exact ⟨_, by rw [Hr.out]; rfl, by rw [Hr.out]; exact World.ownsRow_nil _ _ _ _, Below.refl _ _⟩
  | true =>
    have hr : palsR s = (palsL s.data.toList, 0) := by unfold palsR; rw [hw]; rfl
    have Hr := Lib.hid hr
    have Hw := Lib.hid hw
    clear hw hr
    have hmm := @run_makeMap Try.prog
    have hM := World.ownsMap_made (H := Unit) w Try.prog 9 (plainElem Try.prog 4)
    go_enter Try.func17, Try.ntmps17
    go_wp2_with (first
      | (go_at_call 54; refine (isWord_any _ _ (by unfold maxLen; omega)).mono ?_; rintro e w' ⟨rfl, rfl⟩; rw [Hw.out])
      | (go_at_call 55; refine (endLengths_any _ _ hs).mono ?_; rintro e w1 ⟨v, rfl, hown, hB1⟩; obtain ⟨a, cap, rfl, hlen, hcl⟩ := ownsRow_open hown))
    have hM1 := hM.kept ⟨hB1.os, hB1.tape, hB1.output, hB1.size, fun k hk _ => hB1.block k hk⟩ (row := none) (by simp)
    have hcg : ∀ k, k < s.size → ∃ g, a = some ⟨g, 0, none⟩ ∧ w.heap.size + 1 ≤ g ∧ g < w1.heap.size ∧ w1.cell? ⟨g, k, none⟩ = some (.int .i64 (longEnd (s.data.toList.take (k + 1)) : Nat)) := by
      intro k hk
      obtain ⟨g, rfl, hg1, hg2, hg3⟩ := hcl (by omega)
      exact ⟨g, rfl, by simpa using hg1, hg2, hg3 k _ (ends_at _ k (by rw [data_length]; exact hk))⟩
    have hBW : ∀ wr, w1.grownBy wr (some w.heap.size) → Below w.heap.size w wr := fun wr hG =>
      (((Below.refl w.heap.size w).alloc (Nat.le_refl _) (.map #[] 0)).trans (hB1.mono (by simp))).grown hG (by have := hB1.size; simp at this; omega) (fun j e => by cases e; exact Nat.le_refl _)
    have HBW := Lib.hid hBW
    clear hBW
    have HC := Lib.hid hcg
    clear hcg hcl hown hM
    go_loopw [14] (fun i wr => ∃ k : Nat, k ≤ s.size ∧ i = .int .i64 k ∧ wr.ownsMap Try.prog 9 (plainElem Try.prog 4) w.heap.size k (boolSet (palEnds s.data.toList k)) ∧ w1.grownBy wr (some w.heap.size)) (fun i _ => s.size - (intOf i).toNat)
    case atStart => exact ⟨0, Nat.zero_le _, rfl, hM1, ⟨rfl, rfl, rfl, Nat.le_refl _, fun _ _ _ => rfl⟩⟩
    case round =>
      obtain ⟨k, hk, rfl, hMk, hG⟩ := hrel
      by_cases hlt : k < s.size
      · have hc : (k : Int) < s.size := by omega
        obtain ⟨g, rfl, hg1, hg2, hcell⟩ := HC.out k hlt
        have hle := longEnd_le (s.data.toList.take (k + 1))
        rw [List.length_take] at hle
        obtain ⟨m, hm⟩ : ∃ m, longEnd (s.data.toList.take (k + 1)) = m := ⟨_, rfl⟩
        rw [hm] at hcell hle
        have hce := hG.cell hcell (by simp; omega)
        have h0 : (0 : Int) ≤ (k : Int) + 1 - m := by omega
        have h1 : (k : Int) + 1 - m ≤ (k : Int) + 1 := by omega
        have e3 : ((k : Int) + 1 - m).toNat = k + 1 - m := by omega
        have hpd := palEnd_data s k m hm
        have Hm := Lib.hid hm
        have Hpd := Lib.hid hpd
        clear hm hpd hcell
        have hlen : (s.extract (k + 1 - m) (k + 1)).size ≤ maxLen := by rw [ByteArray.size_extract]; unfold maxLen; omega
        go_wp2_with (at_mapUpdate; refine wpList_mapUpdate_own _ rfl _ _ _ 56 rfl 9 4 (string_keyed Try.underlying9) Try.underlying56 _ w.heap.size k _ rfl hMk (by unfold maxLen; omega) _ _ _ rfl rfl (WideMaps.keyOf_string_mk Try.underlying9 hlen) _ [] (plainElem_bool Try.underlying4 true) ?_; intro w2 hM2 hg2)
        rw [Hpd.out, ← boolSet_snoc, ← palEnds_succ] at hM2
        go_roundw
        case rel => exact ⟨k + 1, by omega, by go_num, hM2, hG.trans hg2⟩
        case measure => simp [intOf]; omega
      · obtain rfl : k = s.size := by omega
        have hS := SortedFunc_set w.heap.size s.size _ wr hMk hs
        have cK := fun (mb : Option Nat) (W : World) => (callsIn_wide (n := 2)).1 (AnyZ.keys_in Try.keysB Fence.wide 2 trivial rfl mb W)
        change ∀ mb W, Calls Try.prog 57 _ _ _ at cK
        have HS := Lib.hid hS
        have HK := Lib.hid cK
        clear hS cK
        go_wp2_with (first
          | (go_at_call 57; refine (HK.out _ _).mono ?_; rintro e w' ⟨rfl, hw'⟩; subst hw')
          | (go_at_call 56; refine HS.out.mono ?_; rintro e w' ⟨v, rfl, hrow, hb⟩))
        go_ret2
        have hBw := HBW.out wr hG
        have hp : palsL s.data.toList = sortS (palEnds s.data.toList s.size) := by unfold palsL; rw [data_length]
        refine ⟨v, by rw [Hr.out]; rfl, ?_, ?_⟩
        · rw [Hr.out, hp]; exact ownsRow_base_a hrow (by have := hBw.size; omega)
        · exact (hBw.alloc hBw.size _).trans (hb.mono (by have := hBw.size; omega))
end Go.Proofs.Yteejjcipdpojnaa
