/- The fewest parts: the contract of trim.Fewest. -/
import Derived.Test.YteejjcipdpojnaaFewb
import Derived.Test.YteejjcipdpojnaaPals
import Derived.Test.YteejjcipdpojnaaLawkit
namespace Go.Proofs.Yteejjcipdpojnaa
set_option linter.unusedVariables false
open Go.RowKit Go.Shelf Go.Sort

/-- the parts from e back to 0, the last one first -/
def partsGo (l : List UInt8) : Nat → Nat → List (List UInt8)
  | 0, _ => []
  | f + 1, e => if e = 0 then [] else ((l.take e).drop (fewAt l e).2) :: partsGo l f (fewAt l e).2
def partsL (l : List UInt8) : List (List UInt8) := (partsGo l l.length l.length).reverse
/-- Fewest's two results -/
def fewR (s : ByteArray) : List (List UInt8) × Int := if wordB s.data.toList then (partsL s.data.toList, 0) else ([], 2)
theorem fewAt_lt (l : List UInt8) {e : Nat} (h : 0 < e) : (fewAt l e).2 < e := by
  obtain ⟨k, rfl⟩ : ∃ k, e = k + 1 := ⟨e - 1, by omega⟩
  have := fewAt_snd l k
  omega
theorem enc_data (s : ByteArray) : encStr s.data.toList = .string s := by unfold encStr; rw [show (⟨s.data.toList.toArray⟩ : ByteArray) = s from mk_data s]
theorem info_str' : (Try.prog.info? 9).map (fun i => (i.zero, i.size, i.bytes)) = some (some (.string ⟨#[]⟩), 1, 16) := by kernel_rfl

set_option maxRecDepth 100000 in
set_option maxHeartbeats 2000000 in
theorem Fewest_any (s : ByteArray) (w : World) (hs : s.size ≤ 1000) :
    Calls Try.prog 33 #[.string s] w fun e w' => ∃ v, e = .returned (.tuple #[v, .int .i64 (fewR s).2]) ∧ w'.ownsRow w.heap.size 9 1 v (fewR s).1.length (strs (fewR s).1) ∧ Below w.heap.size w w' := by
  cases hw : wordB s.data.toList with
  | false =>
    have hr : fewR s = ([], 2) := by unfold fewR; rw [hw]; rfl
    have Hr := Lib.hid hr
    have Hw := Lib.hid hw
    clear hr hw
    go_enter Try.func33, Try.ntmps33
    go_wp2_with (go_at_call 54; refine (isWord_any _ _ (by unfold maxLen; omega)).mono ?_; rintro e w' ⟨rfl, rfl⟩; rw [Hw.out])
    go_ret2
    exact ⟨_, by rw [Hr.out]; rfl, by rw [Hr.out]; exact World.ownsRow_nil _ _ _ _, Below.refl _ _⟩
  | true =>
    have hr : fewR s = (partsL s.data.toList, 0) := by unfold fewR; rw [hw]; rfl
    have Hr := Lib.hid hr
    have Hw := Lib.hid hw
    clear hw hr
    obtain ⟨i0, hi, hz0, hz1, hz2⟩ := info_parts info_str'
    go_enter Try.func33, Try.ntmps33
    go_wp2_with (first
      | (go_at_call 54; refine (isWord_any _ _ (by unfold maxLen; omega)).mono ?_; rintro e w' ⟨rfl, rfl⟩; rw [Hw.out])
      | (go_at_call 62; refine (callsIn_wide.1 (fewestBegins_in s _ hs)).mono ?_; rintro e w1 ⟨g, rfl, hrow, hB1⟩))
    have hgl := hrow.lt
    have hcell : ∀ j, j ≤ s.size → w1.cell? ⟨g, j, none⟩ = some (.int .i64 ((fewAt s.data.toList j).2 : Nat)) := fun j hj => by
      rw [hrow.cell (i := j) (by omega)]; unfold told; rw [if_pos hj]
    have HC := Lib.hid hcell
    clear hcell hrow
    go_loopw [5, 6] (fun v u wr => ∃ (k ee f : Nat) (dn : List (List UInt8)), ee ≤ f ∧ k + ee ≤ s.size ∧ u = .int .i64 ee ∧ wr.ownsRow w1.heap.size 9 1 v k (strs dn) ∧ Hid (partsGo s.data.toList s.size s.size = dn ++ partsGo s.data.toList f ee) ∧ Below w1.heap.size w1 wr) (fun _ u _ => (intOf u).toNat)
    case atStart => exact ⟨0, s.size, s.size, [], Nat.le_refl _, by omega, rfl, World.ownsRow_nil _ _ _ _, rfl, Below.refl _ _⟩
    case round =>
      obtain ⟨k, ee, f, dn, hef, hke, rfl, hown, HP, hB⟩ := hrel
      by_cases hlt : 0 < ee
      · have hc : (0 : Int) < ee := by omega
        obtain ⟨b, hb⟩ : ∃ b, (fewAt s.data.toList ee).2 = b := ⟨_, rfl⟩
        have hbl := fewAt_lt s.data.toList hlt
        rw [hb] at hbl
        have hce := (hB.cell (p := ⟨g, ee, none⟩) hgl).trans (HC.out ee (by omega))
        rw [hb] at hce
        obtain ⟨f', rfl⟩ : ∃ f', f = f' + 1 := ⟨f - 1, by omega⟩
        have z1 : (ee : Int) < (s.size + 1 : Nat) := by omega
        have z2 : (b : Int) ≤ ee := by omega
        have z3 : (ee : Int) ≤ s.size := by omega
        have hstep : partsGo s.data.toList s.size s.size = (dn ++ [(s.extract b ee).data.toList]) ++ partsGo s.data.toList f' b := by
          rw [HP.out, partsGo, if_neg (by omega), hb, ext_data]; simp
        have Hstep := Lib.hid hstep
        clear hstep hb HP
        go_wp2_with (at_builtin; refine wpList_append_own _ rfl _ _ 23 rfl w1.heap.size 9 i0 (.string ⟨#[]⟩) 1 16 Try.underlying23 hi hz0 hz1 hz2 rfl (by decide) _ _ _ rfl (hown.alloc _) ⟨wr.heap.size, 0, none⟩ 1 1 [_] rfl rfl (cell_one_new _ _ _) (by simp [Value.oneCell']) ?c3 ?c4 ?c5 ?_)
        case c3 => unfold maxLen; omega
        case c4 => omega
        case c5 => have := hB.size; simp; omega
        intro v' w2 hown' hgrow _
        have hb1 := rel_push hB (by have := hB.size; simp; omega) ((Below.refl _ wr).alloc hB.size _) hown hgrow
        have hce2 : w2.cell? ⟨g, ee, none⟩ = some (.int .i64 b) := by
          rw [hb1.cell (p := ⟨g, ee, none⟩) hgl, ← hB.cell (p := ⟨g, ee, none⟩) hgl]; exact hce
        have h1 : w2.ownsRow w1.heap.size 9 1 v' (k + 1) (strs (dn ++ [(s.extract b ee).data.toList])) := by
          unfold strs at hown' ⊢; rw [List.map_append, List.map_singleton, enc_data]; exact hown'
        clear hown' hgrow hown hB hce
        go_wp2
        go_roundw
        case rel => exact ⟨k + 1, b, f', _, by omega, by omega, rfl, h1, Hstep.out, hb1⟩
        case measure => simp [intOf]; omega
      · obtain rfl : ee = 0 := by omega
        have hfin : dn = partsGo s.data.toList s.size s.size := by
          rw [HP.out]; cases f <;> simp [partsGo]
        have hpl : partsL s.data.toList = dn.reverse := by unfold partsL; rw [data_length, hfin]
        have Hpl := Lib.hid hpl
        have hkl : dn.length = k := by have := hown.1; simpa [strs] using this
        have hc : ¬ (0 : Int) < (0 : Nat) := by simp
        clear hfin hpl HP
        rcases hown.2 with ⟨rfl, hz⟩ | ⟨gb, cap, cur, rfl, hbase, hgb, r1, r2, r3, r4⟩
        · have h0 : dn = [] := List.eq_nil_of_length_eq_zero (by omega)
          have hE : partsL s.data.toList = [] := by rw [Hpl.out, h0]; rfl
          have HE := Lib.hid hE
          have hR := AnyE.slices_Reverse_empty Try.rev63 none 0
          change ∀ W, Calls Try.prog 63 _ _ _ at hR
          have HR := Lib.hid hR
          clear hE h0 hR Hpl hkl hz
          go_wp2_with (go_at_call 63; refine (HR.out wr).mono ?_; rintro e w' ⟨rfl, rfl⟩)
          go_ret2
          exact ⟨_, by rw [Hr.out]; rfl, by rw [Hr.out, HE.out]; exact World.ownsRow_nil _ _ _ _, b_next hB1 hB⟩
        · have hH : Holds encStr wr gb 0 dn.toArray := holds_of_block hgb (by rw [hkl]; simpa [strs] using r4)
          have hR := AnyE.slices_Reverse Try.rev63 encStr (fun _ => rfl) gb 0 cap dn wr hH (by omega)
          change Calls Try.prog 63 _ _ _ at hR
          rw [hkl] at hR
          have HR := Lib.hid hR
          clear hR hH
          go_wp2_with (go_at_call 63; refine HR.out.mono ?_; rintro e w' ⟨rfl, nn, hw'⟩; have Hw' := Lib.hid hw'; clear hw')
          go_ret2
          have hfin := ownsRow_sorted (w := wr) (base := w1.heap.size) (n := nn) (os := #[]) (ss := dn) (ts := dn.reverse) (by simp) hbase hgb (by omega) r2 (by simpa using r3)
          rw [grow_empty, ← Hw'.out] at hfin
          refine ⟨_, by rw [Hr.out]; rfl, ?_, ?_⟩
          · rw [Hr.out, Hpl.out]
            simp only [List.length_reverse, hkl] at hfin ⊢
            exact ownsRow_base_a hfin hB1.size
          · have hgs := grownBy_sorted (w := wr) (g := gb) (n := nn) (os := #[]) (dn.reverse.toArray)
            rw [grow_empty, ← Hw'.out] at hgs
            exact b_next hB1 (hB.grown hgs hB.size (fun j hj => by cases hj; exact hbase))
end Go.Proofs.Yteejjcipdpojnaa
