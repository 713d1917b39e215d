/- Split. -/
import Derived.Test.YthmdlkaanjjbkaaLin
namespace Go.Proofs.Ythmdlkaanjjbkaa
set_option linter.unusedVariables false
open Go.RowKit

def partOK (pk : Nat × Nat) : Bool := decide (2 ≤ pk.1 ∧ pk.1 ≤ 64 ∧ 1 ≤ pk.2 ∧ pk.2 ≤ 6 ∧ 2 ≤ pk.1 ^ pk.2 ∧ pk.1 ^ pk.2 ≤ 64)
theorem parts_facts : ∀ m : Fin 65, 2 ≤ m.1 → (partsL m.1).all partOK = true ∧ 1 ≤ (partsL m.1).length ∧ (partsL m.1).length ≤ 3 := by decide +kernel
theorem own_prs {w : World} {base n : Nat} {e : TypeId} {v : Value} {xs : List Value} (h : w.ownsRow base e 2 v n xs) : ∃ a cap, v = .slice a n cap ∧ (0 < n → ∃ g, a = some ⟨g, 0, none⟩ ∧ ∀ j u, xs[j]? = some u → w.cell? ⟨g, j, none⟩ = some u) := by
  have hcells := fun g (hg : v.ownBlock = some g) => h.cells hg
  rcases h.2 with ⟨rfl, rfl⟩ | ⟨g, cap, cur, rfl, hb, hg, _⟩
  · exact ⟨none, 0, rfl, fun h => absurd h (by omega)⟩
  · refine ⟨_, cap, rfl, fun _ => ⟨g, rfl, fun j u hu => ?_⟩⟩
    have := hcells g rfl j u hu
    rwa [show ((⟨g, 0, none⟩ : Addr).add j) = ⟨g, j, none⟩ from by unfold Addr.add; split <;> simp_all] at this
/-- the functions for the prime powers -/
def spL (m : Nat) (xs : List Int) : List (List Int) := (partsL m).map fun pk => valuesL (powN pk.1 pk.2) xs
theorem info_ints1 : (Try.prog.info? 22).map (fun i => (i.zero, i.size, i.bytes)) = some (some (.slice none 0 0), 1, 24) := by kernel_rfl
structure SpB (w : World) (pv : Value) (n : Nat) (L : List (Nat × Nat)) (a : Option Addr) (l : Nat) (xs : List Int) (W : World) : Prop where
  below : Below w.heap.size w W
  parts : W.ownsRow w.heap.size 42 2 pv n (flatF L)
  row : Row W a l (intL xs)
theorem own_belowP {w w' : World} {B n size : Nat} {t : TypeId} {v : Value} {xs : List Value} (h : w.ownsRow B t size v n xs) (hb : Below w.heap.size w w') : w'.ownsRow B t size v n xs := h.kept (row := none) (grown_of_below (row := none) hb) (Classical.em _)
theorem SpB.next {w W W' : World} {pv : Value} {n l : Nat} {L : List (Nat × Nat)} {a : Option Addr} {xs : List Int} (h : SpB w pv n L a l xs W) (hb : Below W.heap.size W W') : SpB w pv n L a l xs W' :=
  ⟨b_next h.below hb, own_belowP h.parts hb, h.row.below hb⟩
theorem SpB.grown {w W W1 w6 : World} {g pc n l b0 k : Nat} {L : List (Nat × Nat)} {a : Option Addr} {xs : List Int} {v : Value} {hs : List Value} (h : SpB w (.slice (some ⟨g, 0, none⟩) n pc) n L a l xs W) (hr : Row w a l (intL xs)) (hb : Below W.heap.size W W1) (ho : W.ownsRow b0 22 1 v k hs) (hg : W1.grownBy w6 v.ownBlock) (h0 : w.heap.size ≤ b0 ∧ g < b0) : SpB w (.slice (some ⟨g, 0, none⟩) n pc) n L a l xs w6 := by
  have h1 := h.next hb
  have hbl : Below w.heap.size w w6 := rel_push h.below (Nat.le_trans h.below.size hb.size) (hb.mono h.below.size) (ho.mono h0.1) hg
  refine ⟨hbl, h1.parts.kept hg (.inr fun e => ?_), hr.below hbl⟩
  have := (ho.lt g e.symm).1
  omega
theorem Lines.base_le {w : World} {b b' : Nat} {v : Value} {L : List (List Int)} (h : Lines w b v L) (hb : b' ≤ b) : Lines w b' v L := by
  obtain ⟨hs, ho, hl, h0⟩ := h
  exact ⟨hs, ho.mono hb, hl, h0⟩
theorem Lines.form {w : World} {b : Nat} {v : Value} {L : List (List Int)} (h : Lines w b v L) : ∃ a cap, v = .slice a L.length cap := by
  obtain ⟨hs, ho, _⟩ := h
  exact own_form ho
set_option maxRecDepth 100000 in
set_option maxHeartbeats 4000000 in
theorem Split_yes (m : Nat) (a : Option Addr) (l cap : Nat) (xs : List Int) (w : World) (hr : Row w a l (intL xs)) (hp : polyB m xs = true) :
    Calls Try.prog 21 #[.int .i64 m, .slice a l cap] w fun e w' => ∃ pv fv, e = .returned (.tuple #[pv, fv, .int .i64 0]) ∧ w'.ownsRow w.heap.size 42 2 pv (partsL m).length (flatF (partsL m)) ∧ Lines w' w.heap.size fv (spL m xs) ∧ Below w.heap.size w w' := by
  have hx : xs.length = l := by have := hr.1; simpa [intL] using this
  obtain ⟨i0, hi, hz0, hz1, hz2⟩ := info_parts info_ints1
  have hp2 := hp
  unfold polyB at hp2
  rw [Bool.and_eq_true, Bool.and_eq_true, decide_eq_true_eq] at hp2
  obtain ⟨⟨h1, h2⟩, h3⟩ := hp2
  obtain ⟨k, hk, hm, hm2⟩ := modB_nat h1
  obtain rfl : m = k := by omega
  have hin := remB_in h3
  have h := fun W hW => isPoly_any m a l cap xs W hW (by omega)
  rw [hp] at h
  obtain ⟨q1, q2, q3⟩ := parts_facts ⟨m, by omega⟩ hm
  simp only at q1 q2 q3
  have hPo := fun W => partsOf_any m W (by omega) hm2
  have hsl : ∀ (j : Nat) (pk : Nat × Nat), (partsL m)[j]? = some pk → (spL m xs)[j]? = some (valuesL (powN pk.1 pk.2) xs) := fun j pk h => by unfold spL; rw [List.getElem?_map, h]; rfl
  have hspl : (spL m xs).length = (partsL m).length := by unfold spL; rw [List.length_map]
  have hpk : ∀ (j : Nat) (pk : Nat × Nat), (partsL m)[j]? = some pk → pk.1 ≤ 64 ∧ pk.2 ≤ 6 ∧ 2 ≤ powN pk.1 pk.2 ∧ powN pk.1 pk.2 ≤ 64 := fun j pk h => by
    rw [List.all_eq_true] at q1
    have h4 := q1 pk (List.mem_of_getElem? h)
    unfold partOK at h4
    have h5 := of_decide_eq_true h4
    exact ⟨h5.2.1, h5.2.2.2.1, h5.2.2.2.2.1, h5.2.2.2.2.2⟩
  have ht := fun (q : Nat) (h1 : 1 ≤ q) (h2 : q ≤ 64) W hW => polyTable_any q a l cap xs W hW (by omega) h1 h2 (fun x hx => by have := hin x hx; omega)
  have hll : ∀ (q : Nat) (W : World), q ≤ 64 → Calls Try.prog 64 #[.agg (tabA (fun x : Nat => polyV q xs x) q), .int .i64 q] W fun e w' => ∃ v, e = .returned v ∧ w'.ownsRow W.heap.size 3 1 v q (intL (valuesL q xs)) ∧ Below W.heap.size W w' := fun q W hq => list_any q (fun x : Nat => polyV q xs x) W hq
  generalize spL m xs = Ls at *
  generalize partsL m = L at *
  obtain ⟨n, hn⟩ : ∃ n, L.length = n := ⟨_, rfl⟩
  rw [hn] at hPo q2 q3 hspl ⊢
  have H := Lib.hid h
  have HPo := Lib.hid hPo
  have Hsl := Lib.hid hsl
  have Hspl := Lib.hid hspl
  have Hpk := Lib.hid hpk
  have HT := Lib.hid ht
  have HLl := Lib.hid hll
  have Hr := Lib.hid hr
  have Hn := Lib.hid hn
  clear h hPo hsl hspl hpk ht hll hr hn hp h1 h2 h3 hin hk hx q1
  go_enter Try.func21, Try.ntmps21
  go_wp2_with fail
  refine (H.out _ Hr.out).mono ?_
  rintro e w1 ⟨rfl, hw⟩
  subst w1
  go_wp2_with fail
  refine (HPo.out _).mono ?_
  rintro e w1 ⟨pv, rfl, op, b1⟩
  obtain ⟨pa, pc, hpv, hcl⟩ := own_prs op
  have hS : Hid (SpB w pv n L a l xs w1) := ⟨b1, op, Hr.out.below b1⟩
  obtain ⟨g, rfl, _⟩ := hcl (by omega)
  obtain ⟨b0, hb0⟩ : ∃ b, w1.heap.size = b := ⟨_, rfl⟩
  have Hb0 := Lib.hid (Nat.le_of_eq hb0.symm)
  have Hb1 : Hid (w.heap.size ≤ b0 ∧ g < b0) := by
    refine ⟨by rw [← hb0]; exact b1.size, ?_⟩
    have := op.lt g (by rw [hpv]; rfl)
    rw [← hb0]; exact this.2
  clear b1 op hcl hb0
  subst hpv
  go_wp2
  go_loopw [8, 20] (fun v i wr => ∃ k : Nat, k ≤ n ∧ i = .int .i64 k ∧ Hid (Lines wr b0 v (Ls.take k)) ∧ Hid (b0 ≤ wr.heap.size) ∧ Hid (SpB w (.slice (some ⟨g, 0, none⟩) n pc) n L a l xs wr)) (fun _ i _ => n - (intOf i).toNat)
  case atStart => exact ⟨0, Nat.zero_le _, rfl, Lines.nil _ _, Hb0, hS⟩
  case round =>
    clear hS
    obtain ⟨k, hk, rfl, HL, HZ, HS⟩ := hrel
    have hkl : (Ls.take k).length = k := by rw [List.length_take, Hspl.out]; omega
    obtain ⟨a8, c8, hv8⟩ := HL.out.form
    rw [hkl] at hv8
    subst hv8
    by_cases hlt : k < n
    · have hc : (k : Int) < (n : Int) := by omega
      obtain ⟨⟨p, e⟩, hpe⟩ : ∃ pk, L[k]? = some pk := ⟨_, List.getElem?_eq_getElem (by have := Hn.out; omega)⟩
      obtain ⟨f0, f1⟩ := flatF_get hpe
      obtain ⟨a9, c9, e9, hc9⟩ := own_prs HS.out.parts
      cases e9
      obtain ⟨g', e1, hc9⟩ := hc9 (by omega)
      have e2 := (show (some (⟨g, 0, none⟩ : Addr)) = some ⟨g', 0, none⟩ from e1)
      simp only [Option.some.injEq, Addr.mk.injEq, and_true] at e2
      subst e2
      have c0 := hc9 _ _ f0
      have c1 := hc9 _ _ f1
      simp only at c0 c1
      clear hc9 f0 f1 e1
      obtain ⟨x1, x2, x3, x4⟩ := Hpk.out k (p, e) hpe
      have hline := Hsl.out k (p, e) hpe
      simp only at x1 x2 x3 x4 hline
      have hPw := fun W => powerOf_any p e W x1 x2
      generalize powN p e = q at hPw x3 x4 hline
      have hT2 := fun W hW => HT.out q (by omega) x4 W hW
      have hL2 := fun W => HLl.out q W x4
      have hlen := valuesL_len q xs
      generalize valuesL q xs = ln at hlen hline hL2
      obtain ⟨T, hT⟩ : ∃ T, tabA (fun x : Nat => polyV q xs x) q = T := ⟨_, rfl⟩
      rw [hT] at hT2 hL2
      have hpush : Ls.take (k + 1) = Ls.take k ++ [ln] := by rw [List.take_add_one, hline]; rfl
      have hbx := below_alloc wr (.cells #[.int .i64 (p : Int), .int .i64 (e : Int)] 42)
      have S1 := Lib.hid (HS.out.next hbx)
      have L1 := Lib.hid (HL.out.below hbx)
      have Z1 := Lib.hid (Nat.le_trans HZ.out hbx.size)
      have HPw := Lib.hid hPw
      have HT2 := Lib.hid hT2
      have HL2 := Lib.hid hL2
      have Hlen := Lib.hid hlen
      have Hpush := Lib.hid hpush
      have Hgo := Lib.hid (show k + 1 ≤ n ∧ k < n ∧ k ≤ 3 by omega)
      have Hkl := Lib.hid hkl
      clear hPw hT2 hL2 hlen hpush hline hT x1 x2 x3 x4 hbx hpe hk hlt hkl HL HZ HS
      go_wp2_with fail
      generalize wr.alloc (.cells #[.int .i64 (p : Int), .int .i64 (e : Int)] 42) = Wx at *
      clear c0 c1
      refine (HPw.out _).mono ?_
      rintro e' w4 ⟨rfl, b4⟩
      have S4 := Lib.hid (S1.out.next b4)
      have L4 := Lib.hid (L1.out.below b4)
      have Z4 := Lib.hid (Nat.le_trans Z1.out b4.size)
      clear b4 S1 L1 Z1 HPw
      go_wp2_with fail
      refine (HT2.out _ S4.out.row).mono ?_
      rintro e' w5 ⟨rfl, b5⟩
      have S5 := Lib.hid (S4.out.next b5)
      have L5 := Lib.hid (L4.out.below b5)
      have Z5 := Lib.hid (Nat.le_trans Z4.out b5.size)
      clear b5 S4 L4 Z4 HT2
      go_wp2_with fail
      refine (HL2.out _).mono ?_
      rintro e' w6 ⟨v6, rfl, o6, b6⟩
      obtain ⟨a6, c6, rfl, hc6, r6⟩ := own_slice o6
      have S6 := Lib.hid (S5.out.next b6)
      have L6 := Lib.hid (L5.out.below b6)
      have Z6 := Lib.hid (Nat.le_trans Z5.out b6.size)
      have R6 := Lib.hid r6
      have C6 := Lib.hid hc6
      clear b6 S5 L5 Z5 HL2 o6 r6 hc6
      obtain ⟨hs, ho, hl, h0⟩ := L6.out
      have HOo0 := Lib.hid ho
      rw [Hkl.out] at ho
      have HOo := Lib.hid ho
      have HLl2 := Lib.hid hl
      have H00 := Lib.hid h0
      clear ho hl h0 L6
      go_wp2_with (at_builtin; refine wpList_append_own _ rfl _ _ 30 rfl b0 22 i0 (.slice none 0 0) 1 24 Try.underlying30 hi hz0 hz1 hz2 rfl (by decide) _ _ _ rfl (HOo.out.alloc (.cells #[.slice a6 q c6] 22)) ⟨_, 0, none⟩ 1 1 [.slice a6 q c6] rfl rfl (one_new _ _ _ _ (by simp)) (by simp [Value.oneCell']) (by have := Hgo.out; unfold maxLen; omega) (by have := Hgo.out; omega) (by have := Z6.out; simp; omega) ?_; intro v2 w7 hown2 hgrow2 _
                   obtain ⟨a7, c7, hv7⟩ := own_form hown2
                   subst hv7
                   have hba : Below w6.heap.size w6 (w6.alloc (.cells #[.slice a6 q c6] 22)) := below_alloc w6 _
                   have HS7 : Hid (SpB w (.slice (some ⟨g, 0, none⟩) n pc) n L a l xs w7) := S6.out.grown Hr.out hba HOo.out hgrow2 Hb1.out
                   have HZ7 : Hid (b0 ≤ w7.heap.size) := Nat.le_trans Z6.out (Nat.le_trans hba.size hgrow2.size)
                   have HL7 : Hid (Lines w7 b0 (.slice a7 (k + 1) c7) (Ls.take k ++ [ln])) := Lines.push (line := ln) (ra := a6) (rc := c6) HOo0.out HLl2.out H00.out (by rw [Hlen.out]; exact R6.out) (by rw [Hlen.out]; exact C6.out) hgrow2 (by rw [Hlen.out, Hkl.out]; exact hown2)
                   clear hown2 hgrow2 hba)
      go_roundw
      case rel => exact ⟨k + 1, Hgo.out.1, by go_num, by unfold Hid; rw [Hpush.out]; exact HL7.out, HZ7, HS7⟩
      case measure => exact mz_upn Hgo.out.2.1
    · obtain rfl : k = n := by omega
      have hc : ¬ (k : Int) < (k : Int) := by omega
      have hL := HL.out
      have htk : Ls.take k = Ls := List.take_of_length_le (by rw [Hspl.out]; exact Nat.le_refl _)
      rw [htk] at hL
      have HL9 : Hid (Lines wr w.heap.size (.slice a8 k c8) Ls) := hL.base_le Hb1.out.1
      have HS9 := Lib.hid HS.out
      clear hL htk hkl HL HZ HS
      go_wp2
      go_ret3
      exact ⟨_, _, rfl, HS9.out.parts, HL9.out, HS9.out.below⟩
end Go.Proofs.Ythmdlkaanjjbkaa
