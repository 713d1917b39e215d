/- YardThere: Follow of Path is the fraction, Fold of Quotients is, too; the path has as many letters as the quotients add up to, minus 2; 1 minus the fraction has the path with the letters exchanged. Conditions: the row's own (the listed tables of Go's library read as the program's text lays them; the card ties them). -/
import Derived.Test.YtfelmjanffhahaaDoorAwake
import Derived.Test.YtfelmjanffhahaaDoorFlw
import Derived.Test.YtfelmjanffhahaaDoorFold
import Derived.Test.YtfelmjanffhahaaDoorTame
import Derived.Test.YtfelmjanffhahaaDoorThm
import Derived.Test.YtfelmjanffhahaaDoorRows
import Derived.Test.YtfelmjanffhahaaDoorCards
import Derived.Test.YtfelmjanffhahaaDoorTie
import Derived.ProofKit
import Derived.OpenShut
import Derived.ShutString
import Derived.ChangeOld
import Derived.LaidMore
import Derived.Lay
import Derived.SevenTiedAt
import Derived.Stop.Joined
import Derived.Lib.SmallJoins
namespace Go.Proofs.YtfelmjanffhahaaDoor
set_option linter.unusedVariables false
open Go.RowKit Go.Shelf

set_option maxRecDepth 100000 in
set_option maxHeartbeats 4000000 in
theorem yth (p0 q0 : Int) (w : World) (hp0 : (Lit.int .i64 p0).wf = true) :
    Calls Tryd.prog 4 #[.agg #[.int .i64 p0, .int .i64 q0]] w fun e w' => e = .returned (.bool true) ∧ Below w.heap.size w w' := by
  have h0 := fun w => tame_any p0 q0 1000000 w hp0 (by omega) (by omega)
  have H0 := Lib.hid h0
  have HA := Lib.hid awake_any
  clear h0 hp0
  go_enter Tryd.func4, Tryd.ntmps4
  go_wp2_with fail
  refine (H0.out _).mono ?_
  rintro e w1 ⟨⟨p, q, rfl, hv, hqm⟩, b1⟩
  have T1 := Lib.hid ((Two.new w 23 p0 q0).below b1)
  have HB1 := Lib.hid (b_next (below_alloc w _) b1)
  clear b1 H0
  obtain ⟨p', q', e1, e2, hq1, hq2, hpq, hgcd⟩ := valid_nat hv
  obtain rfl : p = p' := by omega
  obtain rfl : q = q' := by omega
  clear e1 e2
  have hQ := fun w => Quotients_yes p q hv w
  have hThere := there_fold hv
  have hFo : ∀ (a : Option Addr) (cap : Nat) (w : World), Row w a (quo q p).length (intL (quoI q p)) → Calls Tryd.prog 12 #[.slice a (quo q p).length cap] w fun e w' => e = .returned (.tuple #[.agg #[.int .i64 p, .int .i64 q], .int .i64 0]) ∧ Below w.heap.size w w' := fun a cap w hr => by
    have := Fold_any a _ cap (quoI q p) w hr (by have := quo_len40 hpq hq2; omega)
    rw [hThere] at this; exact this
  have hP := fun w (h2 : 2 ≤ q) => Path_yes p q hv h2 w
  have hP2 := fun w (h2 : 2 ≤ q) => Path_yes (q - p) q (rest_valid hv) h2 w
  have hR := fun w => rest_any p q hv w
  unfold frV at hQ hP hP2 hR
  simp only at hQ hP hP2 hR
  have hn40 := quo_len40 hpq hq2
  have hmem := quo_mem _ q p (Nat.le_refl _) hpq
  have HQ := Lib.hid hQ
  have HFo := Lib.hid hFo
  have HP := Lib.hid hP
  have HP2 := Lib.hid hP2
  have HR := Lib.hid hR
  have Hmem := Lib.hid hmem
  have Hv := Lib.hid hv
  have Hg := Lib.hid hgcd
  unfold frV
  simp only
  clear hQ hFo hP hP2 hR hmem hv hgcd hThere
  obtain ⟨n, hn⟩ : ∃ n, (quo q p).length = n := ⟨_, rfl⟩
  rw [hn] at hn40
  have Hn := Lib.hid hn
  clear hn
  obtain ⟨c0, c1, c2, c3⟩ := T1.out.cells
  have hl1 := T1.out.lt
  go_wp2_with fail
  have T2 := Lib.hid ((T1.out.set0 (p : Int)).set1 (q : Int))
  have HB2 := Lib.hid ((HB1.out.setCell (p := ⟨w.heap.size, 0, none⟩) (Nat.le_refl _) (.int .i64 (p : Int))).setCell (p := ⟨w.heap.size, 1, none⟩) (Nat.le_refl _) (.int .i64 (q : Int)))
  clear T1 HB1 c0 c1 c2 c3 hl1
  generalize ((w1.setCell ⟨w.heap.size, 0, none⟩ (.int .i64 (p : Int))).setCell ⟨w.heap.size, 1, none⟩ (.int .i64 (q : Int))) = W2 at T2 HB2
  refine (HQ.out _).mono ?_
  rintro e w3 ⟨v, rfl, hown, b3⟩
  rw [Hn.out] at hown
  obtain ⟨a, cap, rfl, hrow⟩ := Row.of_own hown
  have HRow := Lib.hid hrow
  have T3 := Lib.hid (T2.out.below b3)
  have HB3 := Lib.hid (b_next HB2.out b3)
  clear hown hrow b3 T2 HB2
  go_wp2_with fail
  have hfo := HFo.out a cap w3 (by rw [Hn.out]; exact HRow.out)
  rw [Hn.out] at hfo
  refine hfo.mono ?_
  rintro e w4 ⟨rfl, b4⟩
  clear hfo HFo
  have T4 := Lib.hid ((T3.out.below b4).alloc (.cells #[.int .i64 p, .int .i64 q] 23))
  have F4 := Lib.hid (Two.new w4 23 (p : Int) (q : Int))
  have HRow4 := Lib.hid ((HRow.out.below b4).below (below_alloc w4 (.cells #[.int .i64 p, .int .i64 q] 23)))
  have HB4 := Lib.hid (b_next (b_next HB3.out b4) (below_alloc w4 (.cells #[.int .i64 p, .int .i64 q] 23)))
  clear b4 T3 HB3 HRow
  obtain ⟨c0, c1, _, _⟩ := T4.out.cells
  obtain ⟨d0, d1, _, _⟩ := F4.out.cells
  generalize hW : (w4.alloc (.cells #[.int .i64 (p : Int), .int .i64 (q : Int)] 23)) = W4 at T4 F4 HRow4 HB4 c0 c1 d0 d1
  go_wp2_with fail
  · refine (HA.out _).mono ?_
    rintro e w5 ⟨rfl, b5⟩
    have HB5 := b_next HB4.out b5
    go_wp2_with fail
    go_ret
    exact ⟨rfl, HB5⟩
  · have h1 : ¬ q = 1 := fun e => by
      first
        | (have hc := ‹((q : Int) == 1) = false›; rw [e] at hc; simp at hc)
        | (have hc := ‹¬ ((q : Int) = 1)›; omega)
        | (have hc := ‹((q : Int) = 1) = False›; rw [e] at hc; simp at hc)
    have hq2' : 2 ≤ q := by omega
    have hp1 : 1 ≤ p := by
      rcases Nat.eq_zero_or_pos p with e | e
      · have := Hg.out; rw [e, Nat.gcd_zero_left] at this; omega
      · exact e
    have hplt : p < q := by
      rcases Nat.lt_or_eq_of_le hpq with e | e
      · exact e
      · have := Hg.out; rw [e, Nat.gcd_self] at this; omega
    have hqf : ((q : Int) == 1) = false := by rw [beq_eq_false_iff_ne]; omega
    rw [hqf]
    clear hqf
    go_loopw [7, 8] (fun s i wr => ∃ k : Nat, k ≤ n ∧ s = .int .i64 (((quo q p).take k).sum : Nat) ∧ i = .int .i64 k ∧ wr = W4) (fun _ i _ => n - (intOf i).toNat)
    case atStart => exact ⟨0, Nat.zero_le _, rfl, rfl, rfl⟩
    case round =>
      obtain ⟨k, hk, rfl, rfl, rfl⟩ := hrel
      by_cases hlt : k < n
      · have hc : (k : Int) < n := by omega
        obtain ⟨x, hx⟩ : ∃ x, (quo q p)[k]? = some x := ⟨_, List.getElem?_eq_getElem (by rw [Hn.out]; exact hlt)⟩
        have hx12 := Hmem.out x (List.mem_of_getElem? hx)
        obtain ⟨g, rfl, _, hg⟩ := HRow4.out.2 (by omega)
        have hxc := hg k (.int .i64 (x : Int)) (intL_get (by unfold quoI natI; rw [List.getElem?_map, hx]; rfl))
        have hs := sum_take_le (l := quo q p) (m := 1000000) (fun y hy => by have := Hmem.out y hy; omega) k
        have hs2 := sum_take_succ hx
        have hkm : k * 1000000 ≤ 40 * 1000000 := Nat.mul_le_mul_right _ (by omega)
        generalize ((quo q p).take k).sum = S at hs hs2 ⊢
        have i1 : IntKind.i64.wrap ((S : Int) + x) = ((S + x : Nat) : Int) := iadd rfl (by omega)
        obtain ⟨S2, hS2⟩ : ∃ z, S + x = z := ⟨_, rfl⟩
        rw [hS2] at i1 hs2
        have HS2 := Lib.hid hs2
        have iz : IntKind.i64.wrap ((k : Int) + 1) = ((k + 1 : Nat) : Int) := iadd rfl (by omega)
        clear hg hx hs hkm hS2 hs2
        go_wp2
        go_roundw
        case rel => exact ⟨k + 1, by omega, by rw [HS2.out], by go_num, by trivial⟩
        case measure => simp [intOf]; omega
      · obtain rfl : k = n := by omega
        rw [show (quo q p).take k = quo q p from List.take_of_length_le (by rw [Hn.out]; exact Nat.le_refl _)]
        have hsum := pth_quo hp1 hplt Hg.out
        have hflip := pth_flip _ (q - p) p (Nat.le_refl _)
        have hlet := pth_letters _ (q - p) p (Nat.le_refl _)
        have hl200 := fun h => flwR_pth hp1 hplt Hg.out hq2 h
        have hRR : pthR (q - p) q = if (pth (q - p) p).length ≤ 200 then (⟨((pth (q - p) p).map flipC).toArray⟩, 0) else (ByteArray.empty, 5) := by
          unfold pthR
          rw [show q - (q - p) = p from by omega, hflip, List.length_map]
        have hRL : pthR p q = if (pth (q - p) p).length ≤ 200 then (⟨(pth (q - p) p).toArray⟩, 0) else (ByteArray.empty, 5) := rfl
        have hs := sum_take_le (l := quo q p) (m := 1000000) (fun y hy => by have := Hmem.out y hy; omega) k
        rw [show (quo q p).take k = quo q p from List.take_of_length_le (by rw [Hn.out]; exact Nat.le_refl _)] at hs
        have hkm : k * 1000000 ≤ 40 * 1000000 := Nat.mul_le_mul_right _ (by omega)
        have hP' := fun w => HP.out w hq2'
        have hP2' := fun w => HP2.out w hq2'
        rw [hRL] at hP'
        rw [hRR] at hP2'
        generalize (quo q p).sum = S at hsum hs ⊢
        generalize pth (q - p) p = L at hsum hP' hP2' hlet hl200
        have i1 : IntKind.i64.wrap ((S : Int) - 2) = ((S - 2 : Nat) : Int) := by rw [IntWalk.i64_in _ (by omega)]; omega
        obtain ⟨S2, hS2⟩ : ∃ z, S - 2 = z := ⟨_, rfl⟩
        rw [hS2] at i1
        have hLS : L.length = S2 := by omega
        have HLet := Lib.hid hlet
        clear hRL hRR hflip hlet hkm hs
        by_cases h200 : L.length ≤ 200
        · rw [if_pos h200] at hP' hP2'
          have hfl := hl200 h200
          obtain ⟨s, hsd⟩ : ∃ s : ByteArray, (⟨L.toArray⟩ : ByteArray) = s := ⟨_, rfl⟩
          obtain ⟨r, hrd⟩ : ∃ s : ByteArray, (⟨(L.map flipC).toArray⟩ : ByteArray) = s := ⟨_, rfl⟩
          have hsL : s.data.toList = L := by rw [← hsd]
          have hrL : r.data.toList = L.map flipC := by rw [← hrd]
          have hss : s.size = S2 := by rw [← sdata_length, hsL]; exact hLS
          have hrs : r.size = S2 := by rw [← sdata_length, hrL, List.length_map]; exact hLS
          have hFl := fun w => Follow_any s w (by unfold maxLen; omega)
          rw [hsL, show flwV L = .tuple #[.agg #[.int .i64 p, .int .i64 q], .int .i64 0] from by unfold flwV; rw [hfl]] at hFl
          rw [hsd] at hP'
          rw [hrd] at hP2'
          simp only at hP' hP2'
          have HPa := Lib.hid hP'
          have HPb := Lib.hid hP2'
          have HFl := Lib.hid hFl
          have HsL := Lib.hid hsL
          have HrL := Lib.hid hrL
          have HRr := Lib.hid (fun w => HR.out w)
          have hcS : (S2 : Int) = S2 := rfl
          have hsz : (s.size : Int) = S2 := by omega
          have hrz : (r.size : Int) = S2 := by omega
          have hS200 : S2 ≤ 200 := by omega
          clear hP' hP2' hFl hsL hrL hsd hrd hl200 hfl hsum h200 hLS hS2
          go_wp2_with fail
          refine (HPa.out _).mono ?_
          rintro e w5 ⟨rfl, b5⟩
          have T5 := Lib.hid (T4.out.below b5)
          have F5 := Lib.hid (F4.out.below b5)
          have HB5 := Lib.hid (b_next HB4.out b5)
          clear b5
          obtain ⟨c0, c1, _, _⟩ := T5.out.cells
          obtain ⟨d0, d1, _, _⟩ := F5.out.cells
          go_wp2_with fail
          refine (HR.out _).mono ?_
          rintro e w6 ⟨rfl, b6⟩
          have T6 := Lib.hid (T5.out.below b6)
          have HB6 := Lib.hid (b_next HB5.out b6)
          clear b6
          go_wp2_with fail
          refine (HPb.out _).mono ?_
          rintro e w7 ⟨rfl, b7⟩
          have T7 := Lib.hid (T6.out.below b7)
          have HB7 := Lib.hid (b_next HB6.out b7)
          clear b7 c0 c1 d0 d1
          obtain ⟨c0, c1, _, _⟩ := T7.out.cells
          go_wp2_with fail
          refine (HFl.out _).mono ?_
          rintro e w8 ⟨rfl, b8⟩
          have T8 := Lib.hid ((T7.out.below b8).alloc (.cells #[.int .i64 p, .int .i64 q] 23))
          have F8 := Lib.hid (Two.new w8 23 (p : Int) (q : Int))
          have HB8 := Lib.hid (b_next (b_next HB7.out b8) (below_alloc w8 (.cells #[.int .i64 p, .int .i64 q] 23)))
          clear b8 c0 c1
          obtain ⟨c0, c1, _, _⟩ := T8.out.cells
          obtain ⟨d0, d1, _, _⟩ := F8.out.cells
          go_wp2_with fail
          go_loopw [15] (fun i wr => ∃ k m : Nat, k ≤ S2 ∧ i = .int .i64 k ∧ wr = (w8.alloc (.cells #[.int .i64 (p : Int), .int .i64 (q : Int)] 23)).drewN m) (fun i _ => S2 - (intOf i).toNat)
          case atStart => exact ⟨0, 0, Nat.zero_le _, rfl, rfl⟩
          case round =>
            obtain ⟨z, m, hz, rfl, rfl⟩ := hrel
            by_cases hzl : z < S2
            · have hz1 : (z : Int) < s.size := by omega
              have hz2 : (z : Int) < r.size := by omega
              have hz3 : (z : Int) < S2 := by omega
              have hz4 : z < s.size := by omega
              have hz5 : z < r.size := by omega
              have hne := flip_ne HLet.out (by rw [← HsL.out]; exact sget s z hz4) (by rw [← HrL.out]; exact sget r z hz5)
              have iz : IntKind.i64.wrap ((z : Int) + 1) = ((z + 1 : Nat) : Int) := iadd rfl (by omega)
              go_wp2
              go_quiet (fail)
              go_wp2
              go_roundw
              case rel => exact ⟨z + 1, m + nq, by omega, by go_num, by first | rfl | exact World.drewN_drewN _ _ _⟩
              case measure => simp [intOf]; omega
            · obtain rfl : z = S2 := by omega
              go_wp2_with fail
              refine (HA.out _).mono ?_
              rintro e w9 ⟨rfl, b9⟩
              have HB9 := b_next (below_drewN HB8.out m) b9
              go_wp2_with fail
              go_ret
              exact ⟨rfl, HB9⟩
        · rw [if_neg h200] at hP' hP2'
          simp only at hP' hP2'
          have HPa := Lib.hid hP'
          have HPb := Lib.hid hP2'
          have hbig : (200 : Int) < S2 := by omega
          clear hP' hP2' hl200 hsum h200 hLS hS2
          go_wp2_with fail
          refine (HPa.out _).mono ?_
          rintro e w5 ⟨rfl, b5⟩
          have T5 := Lib.hid (T4.out.below b5)
          have HB5 := Lib.hid (b_next HB4.out b5)
          clear b5 c0 c1
          obtain ⟨c0, c1, _, _⟩ := T5.out.cells
          go_wp2_with fail
          refine (HR.out _).mono ?_
          rintro e w6 ⟨rfl, b6⟩
          have HB6 := Lib.hid (b_next HB5.out b6)
          clear b6
          go_wp2_with fail
          refine (HPb.out _).mono ?_
          rintro e w7 ⟨rfl, b7⟩
          have HB7 := Lib.hid (b_next HB6.out b7)
          clear b7
          go_wp2_with fail
          refine (HA.out _).mono ?_
          rintro e w8 ⟨rfl, b8⟩
          have HB8 := b_next HB7.out b8
          go_wp2_with fail
          go_ret
          exact ⟨rfl, HB8⟩

theorem walk_YardThere (a b : Int) (h : (Lit.int .i64 a).wf = true) (_ : (Lit.int .i64 b).wf = true) (W : World) :
    Calls Tryd.prog 4 #[.agg #[.int .i64 a, .int .i64 b]] W fun e W' => e = .returned (.bool true) ∧ Below W.heap.size W W' := yth a b W h


namespace lawYardThere
open Go.ChangeShapes Go.WideShapes Go.ChangeAt Go.RowKit
open Go.ChangeMaps (open_string shut_string)

theorem own : ownKnob Tryd.prog.godebug = none := by kernel_rfl
theorem lay : laidOutB Tryd.prog = true := by kernel_rfl

theorem met (os : Os) (args : Array Value) : laidMetH Tryd.prog Rows.yardThereRow.laid ((World.laidAll Tryd.prog os Rows.yardThereRow.laid).forCall (fun _ _ => 0) ⟨#[], args, []⟩).memory := by
  rw [MakeChecks.laidMetH_plain _ _ _ (by kernel_rfl)]; exact laidMet_laidAll _ (by kernel_rfl) (by kernel_rfl)

set_option maxRecDepth 100000 in
theorem lifted (os : Os) (started : os.Started) (H : Type) (enc : TypeId × Value → H) :
    ReturnsInHanded {} Tryd.checked os 4 .any (fun w args => (Rows.yardThereSpec.pre enc Tryd.prog Tryd.f4 Rows.yardThereRow.domain false w args ∧ laidMetH Tryd.prog Rows.yardThereRow.laid w) ∧ sizedMet enc Tryd.prog Tryd.f4 (OpenSpec.ofChange Rows.yardThereSpec) false w args)
      (Rows.yardThereSpec.post enc Tryd.prog Tryd.f4 false true false false) := by
  refine returnsInHanded_of_change_and (C := Tryd.checked) (X := fun w _ => laidMetH Tryd.prog Rows.yardThereRow.laid w) (fun _ _ _ hh h => h.of_heap hh) own started (by kernel_rfl) Tryd.func4
    (ChangeSpec.witness_shaped (enc := enc) (C := Tryd.checked) (os := os) (X := fun w _ => laidMetH Tryd.prog Rows.yardThereRow.laid w) false (World.laidAll Tryd.prog os Rows.yardThereRow.laid) #[.agg #[.int .i64 0, .int .i64 0]] 8 (World.laidAll_os _ _ _)
      (World.shaped_of_ZipB (by kernel_rfl) (by kernel_rfl)) (by kernel_rfl) (by kernel_rfl) (by kernel_rfl)
      (met os _)) ?_
  intro W base args ds gs before hval0 hW hcnd _ hL _
  have hval : ∀ (j : Nat) t v, Tryd.f4.params[j]? = some t → args[j]? = some v → Value.okWide Tryd.prog W .any base t v := hval0
  have hW' := hW
  obtain ⟨p, q, hA0, hV, rfl, hfz, hnd⟩ := hW
  have hA : DataW.TrodAll enc Tryd.prog W 0 (fun _ => true) true Tryd.f4.params.toList args.toList ds p := hA0
  rw [Tryd.params4] at hA hval
  obtain ⟨v0, vs0, d0, ds0, p0, q0, hargs, rfl, rfl, h0, r0⟩ := trodAll_cons hA
  obtain ⟨rfl, rfl, rfl⟩ := trodAll_nil r0
  obtain rfl : args = #[v0] := by cases args; simp_all
  obtain ⟨rfl, rfl⟩ := trodVars_none hV
  obtain ⟨c0, k0, y0, z0, m0, rfl, rfl, rfl, g0, l0⟩ := Joins.open_agg2 Tryd.underlying23 (by kernel_rfl) (by kernel_rfl) (hval 0 23 v0 rfl rfl) h0
  obtain ⟨a0, e0, rfl, w0⟩ := DataW.trod_int Tryd.underlying3 g0
  obtain ⟨b0, f0, rfl, x0⟩ := DataW.trod_int Tryd.underlying3 l0
  simp at e0 f0
  subst e0 f0
  simp only [List.append_nil] at hW'
  clear hA0 hval0
  refine (walk_YardThere a0 b0 w0 x0 W).mono fun e W' ⟨he, bel⟩ => ?_
  subst he
  exact ⟨_, rfl, _, _, _, [], _, [], hW', trodAll_mk1 (shut_bool Tryd.underlying4 _), (trodAll_cons_mk (Joins.shut_agg2 (y0 := (.lit (.int .i64 a0), [])) (y1 := (.lit (.int .i64 b0), [])) Tryd.underlying23 (by kernel_rfl) (by kernel_rfl) (shut_int Tryd.underlying3 w0) (shut_int Tryd.underlying3 x0)) trodAll_mk0), rfl, bel.frame _, fun h => by cases h⟩

theorem over : Rows.yardThereRow.holds Tryd.pinned (OpenSpec.ofChange Rows.yardThereSpec) :=
  OpenClaim.holds_of_wide 4 Tryd.f4 rfl rfl rfl rfl rfl rfl rfl ⟨rfl, rfl, rfl, rfl, rfl⟩ rfl rfl rfl rfl rfl (by kernel_rfl) Tryd.func4 (by kernel_rfl)
    (of_decide_eq_true (by kernel_rfl)) (by unfold Func.isWrapper; first | (rw [if_pos (by decide +kernel)]; kernel_rfl) | (rw [if_neg (by decide +kernel)]; exact ⟨rfl, rfl⟩))
    (fun os started H enc _ => lifted os started H enc)

theorem proved : Rows.YardThereCardSaid :=
  Claim7.holds_tied_plain_at .later [] [.data, .pinned] true (true, "c082d0eb591b72ebbf6abfb91f4b2d7b982960650fbf65d5be28a7a1f6187b41") false over (fun _ h => by cases h) (by kernel_rfl) (fun _ h => by cases h) yardThere_row_tie rfl ⟨rfl, rfl⟩ (by kernel_rfl) rfl
    (fun f fn hf hfn => by
      obtain rfl : f = 4 := Option.some.inj ((show Tryd.prog.funcNamed "galloon/galloonlaw03.YardThere" = some 4 by kernel_rfl).symm.trans hf) |>.symm
      obtain rfl : fn = Tryd.f4 := (Option.some.inj (Tryd.func4.symm.trans hfn)).symm
      exact ⟨by kernel_rfl, fun j t ht => by
        rw [Tryd.params4] at ht
        have hm : t ∈ [23] := by simpa using Array.mem_of_getElem? ht
        have hall : ([23].all fun u => !Tryd.prog.wantsStandIn u) = true := by kernel_rfl
        exact (show Tryd.prog.wantsStandIn t = false by simpa using List.all_eq_true.1 hall t hm)⟩)
    (by kernel_rfl)
end lawYardThere
end Go.Proofs.YtfelmjanffhahaaDoor
