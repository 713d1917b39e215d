/- Shifts. -/
import Derived.Test.YthmdlkaanjjbkaaShc
namespace Go.Proofs.Ythmdlkaanjjbkaa
set_option linter.unusedVariables false
open Go.RowKit

/-- whether the function moves by a with its argument -/
def okS (m : Nat) (f : Nat → Int) (a : Nat) : Bool := decide (tabL (fun x => f ((x + a) % m)) m = tabL (fun x => (f x + (a : Int)) % (m : Int)) m)
def shL (m : Nat) (f : Nat → Int) (k : Nat) : List Int := ((List.range k).filter (okS m f)).map fun a : Nat => (a : Int)
theorem shL_next (m : Nat) (f : Nat → Int) (k : Nat) : shL m f (k + 1) = if okS m f k then shL m f k ++ [(k : Int)] else shL m f k := by
  unfold shL
  rw [List.range_succ, List.filter_append, List.map_append]
  cases h : okS m f k <;> simp [h]
theorem shL_le (m : Nat) (f : Nat → Int) (k : Nat) : (shL m f k).length ≤ k := by
  unfold shL
  rw [List.length_map]
  exact Nat.le_trans (List.length_filter_le _ _) (by simp)
/-- the boxes: the modulus, the function that finds remainders, the table -/
structure ShB (w : World) (m : Nat) (f : Nat → Int) (Bm Br Bf : Nat) (W : World) : Prop where
  below : Below w.heap.size w W
  cm : W.cell? ⟨Bm, 0, none⟩ = some (.int .i64 m)
  cr : W.cell? ⟨Br, 0, none⟩ = some (.func (.func 97) #[] #[.pointer (some ⟨Bm, 0, none⟩)])
  cf : W.heap[Bf]? = some (.cells (tabA f m) 69 (0, 0))
theorem ShB.next {w W W' : World} {m Bm Br Bf : Nat} {f : Nat → Int} (h : ShB w m f Bm Br Bf W) (hb : Below W.heap.size W W') : ShB w m f Bm Br Bf W' :=
  ⟨b_next h.below hb, (hb.cell (p := ⟨Bm, 0, none⟩) (World.block_lt_of_cell? W _ h.cm)).trans h.cm, (hb.cell (p := ⟨Br, 0, none⟩) (World.block_lt_of_cell? W _ h.cr)).trans h.cr, (hb.block _ (Array.getElem?_eq_some_iff.1 h.cf).1).trans h.cf⟩
theorem ShB.grown {w W W1 w6 : World} {m Bm Br Bf n b0 : Nat} {f : Nat → Int} {v : Value} {xs : List Value} (h : ShB w m f Bm Br Bf W) (hb : Below W.heap.size W W1) (ho : W.ownsRow b0 3 1 v n xs) (hg : W1.grownBy w6 v.ownBlock) (h0 : w.heap.size ≤ b0 ∧ Bm < b0 ∧ Br < b0 ∧ Bf < b0) : ShB w m f Bm Br Bf w6 := by
  have h1 := h.next hb
  have hne : ∀ B, B < b0 → some B ≠ v.ownBlock := fun B hB e => by have := (ho.lt B e.symm).1; omega
  refine ⟨rel_push h.below (Nat.le_trans h.below.size hb.size) (hb.mono h.below.size) (ho.mono h0.1) hg, ?_, ?_, ?_⟩
  · exact hg.cell h1.cm (hne Bm h0.2.1)
  · exact hg.cell h1.cr (hne Br h0.2.2.1)
  · exact (hg.block _ (Array.getElem?_eq_some_iff.1 h1.cf).1 (hne Bf h0.2.2.2)).trans h1.cf
/-- stands at the operation with this place, fast where it is another one -/
theorem at_dst {P : Program} {ops rest : _} {Q : Exit → Act → World → Prop} {a : Act} {w : World} (d : Option Tmp) {op ty pos af gd} (h : wpList P ops Q (⟨d, op, ty, pos, af, gd⟩ :: rest) a w) : wpList P ops Q (⟨d, op, ty, pos, af, gd⟩ :: rest) a w := h
theorem at_op {P : Program} {ops rest : _} {Q : Exit → Act → World → Prop} {a : Act} {w : World} (op : Op) {d ty pos af gd} (h : wpList P ops Q (⟨d, op, ty, pos, af, gd⟩ :: rest) a w) : wpList P ops Q (⟨d, op, ty, pos, af, gd⟩ :: rest) a w := h
theorem zero_one (w : World) (X : Array Value) (h : X = zeroA) : Below w.heap.size w (w.alloc (.cells X 69)) ∧ (w.alloc (.cells X 69)).heap[w.heap.size]? = some (.cells zeroA 69 (0, 0)) := by
  subst h
  exact ⟨below_alloc w _, heap_alloc_new w _⟩
theorem two_boxes (w : World) (u v : Value) (t1 t2 : TypeId) : Below w.heap.size w ((w.alloc (.cells #[u] t1)).alloc (.cells #[v] t2)) ∧ ((w.alloc (.cells #[u] t1)).alloc (.cells #[v] t2)).cell? ⟨w.heap.size, 0, none⟩ = some u ∧ ((w.alloc (.cells #[u] t1)).alloc (.cells #[v] t2)).cell? ⟨w.heap.size + 1, 0, none⟩ = some v := by
  have c0 := Box1.new w t1 u
  have b0 := below_alloc w (.cells #[u] t1)
  have s0 : (w.alloc (.cells #[u] t1)).heap.size = w.heap.size + 1 := by simp
  generalize w.alloc (.cells #[u] t1) = w1 at c0 b0 s0 ⊢
  have c1 := Box1.new w1 t2 v
  have b1 := below_alloc w1 (.cells #[v] t2)
  rw [s0] at c1
  exact ⟨b_next b0 b1, (c0.below b1).cell, c1.cell⟩
theorem tab_eq {m a : Nat} (hm : 2 ≤ m) (f : Nat → Int) (hf : ∀ x, 0 ≤ f x ∧ f x < m) (hm2 : m ≤ 64) (W : World) : (Op.equalIn 10000 69 (.agg (tabA (fun x => f ((x + a) % m)) m)) (.agg (tabA (fun x => (f x + (a : Int)) % (m : Int)) m))).run Try.prog W = .ok (okS m f a) W :=
  eq_tab (tabL (fun x => f ((x + a) % m)) m) (tabL (fun x => (f x + (a : Int)) % (m : Int)) m) W (tabL_length _ _) (tabL_length _ _) (tabL_wf fun x _ => by have := hf ((x + a) % m); omega) (tabL_wf fun x _ => by
    have h1 := Int.emod_nonneg (f x + (a : Int)) (show (m : Int) ≠ 0 by omega)
    have h2 := Int.emod_lt_of_pos (f x + (a : Int)) (show (0 : Int) < m by omega)
    omega)
theorem own_form {w : World} {base n : Nat} {e : TypeId} {size : Nat} {v : Value} {xs : List Value} (h : w.ownsRow base e size v n xs) : ∃ a cap, v = .slice a n cap := by
  rcases h.2 with ⟨rfl, rfl⟩ | ⟨g, cap, cur, rfl, _⟩
  · exact ⟨_, _, rfl⟩
  · exact ⟨_, _, rfl⟩
set_option maxRecDepth 100000 in
set_option maxHeartbeats 4000000 in
theorem Shifts_yes (m : Nat) (a : Option Addr) (n cap : Nat) (xs : List Int) (w : World) (hr : Row w a n (intL xs)) (hp : polyB m xs = true) :
    Calls Try.prog 20 #[.int .i64 m, .slice a n cap] w fun e w' => ∃ v, e = .returned (.tuple #[v, .int .i64 0]) ∧ w'.ownsRow w.heap.size 3 1 v (shL m (fun x : Nat => polyV m xs x) m).length (intL (shL m (fun x : Nat => polyV m xs x) m)) ∧ Below w.heap.size w w' := by
  have hx : xs.length = n := by have := hr.1; simpa [intL] using this
  have hmf : ∀ (fn : Fn) (first cap : Array Value) (w : World), (Instr.makeFunc fn first cap).run Try.prog w = .ok (.func fn first cap) w := fun _ _ _ _ => rfl
  obtain ⟨i0, hi, hz0, hz1, hz2⟩ := info_parts info_int
  have hp2 := hp
  unfold polyB at hp2
  rw [Bool.and_eq_true, Bool.and_eq_true, decide_eq_true_eq] at hp2
  obtain ⟨⟨h1, h2⟩, h3⟩ := hp2
  obtain ⟨k, hk, hm, hm2⟩ := modB_nat h1
  obtain rfl : m = k := by omega
  have hin := remB_in h3
  have h := fun W hW => isPoly_any m a n cap xs W hW (by omega)
  rw [hp] at h
  have ht := fun W hW => polyTable_any m a n cap xs W hW (by omega) (by omega) hm2 (fun x hx => by have := hin x hx; omega)
  have hmo := modulo_any (m : Int)
  have H := Lib.hid h
  have HT := Lib.hid ht
  have HMo := Lib.hid hmo
  have Hr := Lib.hid hr
  clear h ht hr hp h1 h2 h3 hin hk hx hmo
  generalize hff : (fun x : Nat => polyV m xs x) = f at *
  have hfr : ∀ x, 0 ≤ f x ∧ f x < m := fun x => by rw [← hff]; exact nestV_range (by omega) _ _ _
  have HEq := Lib.hid fun a W => tab_eq (a := a) hm f hfr hm2 W
  have Hst := Lib.hid fun k => shL_next m f k
  have Hle := Lib.hid fun k => shL_le m f k
  have HT1 : Hid (∀ (k Bf Br Ba Bm : Nat) (W : World), k < m → ShB w m f Bm Br Bf W → W.cell? ⟨Ba, 0, none⟩ = some (.int .i64 k) → Calls Try.prog 67 #[.int .i64 m, .func (.func 68) #[] #[.pointer (some ⟨Bf, 0, none⟩), .pointer (some ⟨Br, 0, none⟩), .pointer (some ⟨Ba, 0, none⟩)]] W fun e w' => e = .returned (.agg (tabA (fun x => f ((x + k) % m)) m)) ∧ Below W.heap.size W w') := fun k Bf Br Ba Bm W hk hS hc => by
    refine tabulated_any m _ _ (fun x => f ((x + k) % m)) W hm2 (enters_of Try.func68 (by kernel_rfl) rfl) fun i X hi hX => ?_
    have hS2 := hS.next hX
    exact shift1_any i k m Bf Br Ba Bm f X hS2.cf hS2.cr ((hX.cell (p := ⟨Ba, 0, none⟩) (World.block_lt_of_cell? W _ hc)).trans hc) hS2.cm hm hm2 (by omega) (by omega)
  have HT2 : Hid (∀ (k Bf Br Ba Bm : Nat) (W : World), k < m → ShB w m f Bm Br Bf W → W.cell? ⟨Ba, 0, none⟩ = some (.int .i64 k) → Calls Try.prog 67 #[.int .i64 m, .func (.func 69) #[] #[.pointer (some ⟨Br, 0, none⟩), .pointer (some ⟨Bf, 0, none⟩), .pointer (some ⟨Ba, 0, none⟩)]] W fun e w' => e = .returned (.agg (tabA (fun x => (f x + (k : Int)) % (m : Int)) m)) ∧ Below W.heap.size W w') := fun k Bf Br Ba Bm W hk hS hc => by
    refine tabulated_any m _ _ (fun x => (f x + (k : Int)) % (m : Int)) W hm2 (enters_of Try.func69 (by kernel_rfl) rfl) fun i X hi hX => ?_
    have hS2 := hS.next hX
    exact shift2_any i k m Bf Br Ba Bm f X hS2.cf hS2.cr ((hX.cell (p := ⟨Ba, 0, none⟩) (World.block_lt_of_cell? W _ hc)).trans hc) hS2.cm hm hm2 hi (by omega) (hfr i)
  clear hff hfr
  obtain ⟨T, hT⟩ : ∃ T, tabA f m = T := ⟨_, rfl⟩
  have hTs : T.size = 64 := by rw [← hT]; exact tabA_size f m
  have hTo : T.all (·.oneCell') = true := by rw [← hT]; exact tabA_one f m
  go_enter Try.func20, Try.ntmps20
  go_wp2_with fail
  refine (H.out _ Hr.out).mono ?_
  rintro e w1 ⟨rfl, hw⟩
  subst w1
  go_wp2_with fail
  refine (HMo.out _).mono ?_
  rintro e w1 ⟨rfl, rfl⟩
  go_wp2_with fail
  obtain ⟨b2, c1, c2⟩ := two_boxes w (.int .i64 m) (.func (.func 97) #[] #[.pointer (some ⟨w.heap.size, 0, none⟩)]) 3 52
  generalize (w.alloc (.cells #[.int .i64 m] 3)).alloc (.cells #[.func (.func 97) #[] #[.pointer (some ⟨w.heap.size, 0, none⟩)]] 52) = W2 at b2 c1 c2 ⊢
  refine (HT.out _ (Hr.out.below b2)).mono ?_
  rintro e w3 ⟨rfl, b3⟩
  rw [hT]
  have k1 := (b3.cell (p := ⟨w.heap.size, 0, none⟩) (World.block_lt_of_cell? W2 _ c1)).trans c1
  have k2 := (b3.cell (p := ⟨w.heap.size + 1, 0, none⟩) (World.block_lt_of_cell? W2 _ c2)).trans c2
  have B3 := Lib.hid (b_next b2 b3)
  have K1 := Lib.hid k1
  have K2 := Lib.hid k2
  clear b2 b3 c1 c2 k1 k2 HT H HMo
  go_wp2_with (have hz := zero_one w3 _ X64_zero
               generalize w3.alloc (.cells X64 69) = W at hz ⊢
               have B4 := Lib.hid (b_next B3.out hz.1)
               have Z4 := Lib.hid hz.2
               have K3 := Lib.hid ((hz.1.cell (p := ⟨w.heap.size, 0, none⟩) (World.block_lt_of_cell? w3 _ K1.out)).trans K1.out)
               have K4 := Lib.hid ((hz.1.cell (p := ⟨w.heap.size + 1, 0, none⟩) (World.block_lt_of_cell? w3 _ K2.out)).trans K2.out)
               clear hz
               refine wpList_store_row (o := ⟨none, .store 69 (.tmp 7) (.tmp 20), _, _, _, _⟩) rfl 69 (.tmp 7) (.tmp 20) rfl w3.heap.size T rfl rfl 69 zeroA Z4.out (info_table T hTs) (zeroA_size.trans hTs.symm) hTo ?_)
  have HB0 : Hid (ShB w m f w.heap.size (w.heap.size + 1) w3.heap.size (W.setRow w3.heap.size T)) := by
    have j1 := setRow_heap W w3.heap.size zeroA T 69 (0, 0) Z4.out
    have l1 := World.block_lt_of_cell? w3 _ K1.out
    have l2 := World.block_lt_of_cell? w3 _ K2.out
    simp only at l1 l2
    refine ⟨below_setRow B4.out B3.out.size T, ?_, ?_, by rw [hT]; exact j1⟩
    · rw [← K3.out]; exact World.cell?_of_block (setRow_other W w3.heap.size w.heap.size T (by omega))
    · rw [← K4.out]; exact World.cell?_of_block (setRow_other W w3.heap.size (w.heap.size + 1) T (by omega))
  generalize W.setRow w3.heap.size T = W3 at HB0 ⊢
  have hb0 : w.heap.size ≤ W3.heap.size ∧ w.heap.size < W3.heap.size ∧ w.heap.size + 1 < W3.heap.size ∧ w3.heap.size < W3.heap.size :=
    ⟨HB0.out.below.size, World.block_lt_of_cell? W3 _ HB0.out.cm, World.block_lt_of_cell? W3 _ HB0.out.cr, (Array.getElem?_eq_some_iff.1 HB0.out.cf).1⟩
  obtain ⟨b0, hbb⟩ : ∃ b, W3.heap.size = b := ⟨_, rfl⟩
  rw [hbb] at hb0
  have Hb0 := Lib.hid hb0
  have Hbb := Lib.hid (Nat.le_of_eq hbb.symm)
  clear hb0 hbb
  generalize hBm : w.heap.size = Bm at HB0 Hb0 ⊢
  generalize w3.heap.size = Bf at HB0 Hb0 ⊢
  clear K1 K2 K3 K4 Z4 B3 B4 hT hTs hTo
  go_wp2
  have Hb0' : Hid (w.heap.size ≤ b0 ∧ Bm < b0 ∧ Bm + 1 < b0 ∧ Bf < b0) := by rw [hBm]; exact Hb0.out
  go_loopw [8, 22] (fun v i wr => ∃ k : Nat, k ≤ m ∧ i = .int .i64 k ∧ Hid (wr.ownsRow b0 3 1 v (shL m f k).length (intL (shL m f k))) ∧ Hid (b0 ≤ wr.heap.size) ∧ Hid (ShB w m f Bm (Bm + 1) Bf wr)) (fun _ i _ => m - (intOf i).toNat)
  case atStart => exact ⟨0, Nat.zero_le _, rfl, World.ownsRow_nil _ _ _ _, Hbb, HB0⟩
  case round =>
    clear HB0
    obtain ⟨k, hk, rfl, HO, HZ, HB⟩ := hrel
    obtain ⟨a5, c5, hv5⟩ := own_form HO.out
    subst hv5
    by_cases hlt : k < m
    · have hc : (k : Int) < (m : Int) := by omega
      have hbx := below_alloc wr (.cells #[.int .i64 (k : Int)] 3)
      have hcx := (Box1.new wr 3 (.int .i64 (k : Int))).cell
      have HZ1 := Lib.hid (Nat.le_trans HZ.out hbx.size)
      have HB1 := Lib.hid (HB.out.next hbx)
      have HO1 := Lib.hid (HO.out.alloc (.cells #[.int .i64 (k : Int)] 3))
      have Hcx := Lib.hid hcx
      have hst := Hst.out k
      have hle := Hle.out k
      obtain ⟨ln, hln⟩ : ∃ n, (shL m f k).length = n := ⟨_, rfl⟩
      rw [hln] at hle
      have Hln := Lib.hid hln
      have h1 := HT1.out k Bf (Bm + 1) wr.heap.size Bm (wr.alloc (.cells #[.int .i64 (k : Int)] 3)) hlt HB1.out hcx
      have h2 := fun W hS hc => HT2.out k Bf (Bm + 1) wr.heap.size Bm W hlt hS hc
      have heq := HEq.out k
      generalize okS m f k = ok at hst heq
      obtain ⟨TA, hTA⟩ : ∃ T, tabA (fun x => f ((x + k) % m)) m = T := ⟨_, rfl⟩
      have hTAs : TA.size = 64 := by rw [← hTA]; exact tabA_size _ m
      have hTAo : TA.all (·.oneCell') = true := by rw [← hTA]; exact tabA_one _ m
      obtain ⟨TB, hTB⟩ : ∃ T, tabA (fun x => (f x + (k : Int)) % (m : Int)) m = T := ⟨_, rfl⟩
      have hTBs : TB.size = 64 := by rw [← hTB]; exact tabA_size _ m
      have hTBo : TB.all (·.oneCell') = true := by rw [← hTB]; exact tabA_one _ m
      rw [hTA] at h1 heq
      rw [hTB] at heq
      simp only [hTB] at h2
      have H1 := Lib.hid h1
      have H2 := Lib.hid h2
      have Hst2 := Lib.hid hst
      have Hgo := Lib.hid (And.intro (show k + 1 ≤ m by omega) hlt)
      clear h1 h2 hst hTA hTB hbx hcx HB HO hln hk
      go_wp2_with fail
      generalize hBa : wr.heap.size = Ba at *
      generalize wr.alloc (.cells #[.int .i64 (k : Int)] 3) = Wa at *
      refine H1.out.mono ?_
      rintro e wA ⟨rfl, bA⟩
      have SA := Lib.hid (HB1.out.next bA)
      have CA := Lib.hid ((bA.cell (p := ⟨Ba, 0, none⟩) (World.block_lt_of_cell? Wa _ Hcx.out)).trans Hcx.out)
      have OA := Lib.hid (own_later HO1.out bA)
      have ZA := Lib.hid (Nat.le_trans HZ1.out bA.size)
      clear bA H1 HB1 HO1 Hcx hBa
      go_wp2_with (have hz := zero_one wA _ X64_zero
                   generalize wA.alloc (.cells X64 69) = WA at hz ⊢
                   have Hz1 := Lib.hid hz.1
                   have Z1 := Lib.hid hz.2
                   clear hz
                   refine wpList_store_row (o := ⟨none, .store 69 (.tmp 10) (.tmp 27), _, _, _, _⟩) rfl 69 (.tmp 10) (.tmp 27) rfl wA.heap.size TA rfl rfl 69 zeroA Z1.out (info_table TA hTAs) (zeroA_size.trans hTAs.symm) hTAo ?_)
      have bB := below_setRow Hz1.out (Nat.le_refl _) TA
      have jB := setRow_heap WA wA.heap.size zeroA TA 69 (0, 0) Z1.out
      generalize WA.setRow wA.heap.size TA = WB at bB jB ⊢
      have SB := Lib.hid (SA.out.next bB)
      have CB := Lib.hid ((bB.cell (p := ⟨Ba, 0, none⟩) (World.block_lt_of_cell? wA _ CA.out)).trans CA.out)
      have OB := Lib.hid (own_later OA.out bB)
      have ZB := Lib.hid (Nat.le_trans ZA.out bB.size)
      refine (H2.out WB SB.out CB.out).mono ?_
      rintro e wC ⟨rfl, bC⟩
      have SC := Lib.hid (SB.out.next bC)
      have CC := Lib.hid ((bC.cell (p := ⟨Ba, 0, none⟩) (World.block_lt_of_cell? WB _ CB.out)).trans CB.out)
      have OC := Lib.hid (own_later OB.out bC)
      have ZC := Lib.hid (Nat.le_trans ZB.out bC.size)
      have JC := Lib.hid ((bC.block _ (Array.getElem?_eq_some_iff.1 jB).1).trans jB)
      generalize wA.heap.size = BA at *
      clear bB jB bC SA CA OA SB CB OB Hz1 Z1 H2
      cases ok with
      | true =>
        rw [if_pos rfl] at Hst2
        go_wp2_with (first
          | (with_reducible refine at_op (.store 69 (.tmp 11) (.tmp 30)) ?_
             have hz := zero_one wC _ X64_zero
             generalize wC.alloc (.cells X64 69) = WC at hz ⊢
             refine wpList_store_row (o := ⟨none, .store 69 (.tmp 11) (.tmp 30), _, _, _, _⟩) rfl 69 (.tmp 11) (.tmp 30) rfl wC.heap.size TB rfl rfl 69 zeroA hz.2 (info_table TB hTBs) (zeroA_size.trans hTBs.symm) hTBo ?_
             have bD := below_setRow hz.1 (Nat.le_refl _) TB
             have jD := setRow_heap WC wC.heap.size zeroA TB 69 (0, 0) hz.2
             generalize WC.setRow wC.heap.size TB = WD at bD jD ⊢
             have SD := Lib.hid (SC.out.next bD)
             have cD := (bD.cell (p := ⟨Ba, 0, none⟩) (World.block_lt_of_cell? wC _ CC.out)).trans CC.out
             have OD := Lib.hid (own_later OC.out bD)
             have ZD := Lib.hid (Nat.le_trans ZC.out bD.size)
             have JD := Lib.hid ((bD.block _ (Array.getElem?_eq_some_iff.1 JC.out).1).trans JC.out)
             have KD := Lib.hid jD
             generalize wC.heap.size = BC at *
             clear hz bD jD SC CC OC JC)
          | (with_reducible refine at_dst (some 31) ?_; refine wpList_load_row (o := ⟨some 31, .load 69 (.tmp 10), _, _, _, _⟩) rfl 69 (.tmp 10) rfl BA rfl 69 TA (0, 0) _ JD.out Try.underlying69 rfl (info_table TA hTAs) ?_; (try simp only [Act.put, List.setIfInBounds_toArray, List.set_cons_zero, List.set_cons_succ]))
          | (with_reducible refine at_dst (some 32) ?_; refine wpList_load_row (o := ⟨some 32, .load 69 (.tmp 11), _, _, _, _⟩) rfl 69 (.tmp 11) rfl BC rfl 69 TB (0, 0) _ KD.out Try.underlying69 rfl (info_table TB hTBs) ?_; (try simp only [Act.put, List.setIfInBounds_toArray, List.set_cons_zero, List.set_cons_succ]))
          | (at_builtin; refine wpList_append_own _ rfl _ _ 22 rfl b0 3 i0 (.int .i64 0) 1 8 Try.underlying22 hi hz0 hz1 hz2 rfl (by decide) _ _ _ rfl (OD.out.alloc (.cells #[.int .i64 (k : Int)] 3)) ⟨_, 0, none⟩ 1 1 [.int .i64 (k : Int)] rfl rfl (one_new _ _ _ _ (by simp)) (by simp [Value.oneCell']) (by rw [Hln.out]; unfold maxLen; omega) (by rw [Hln.out]; omega) (by have := ZD.out; simp; omega) ?_; intro v2 w6 hown2 hgrow2 _
             obtain ⟨a6, c6, hv6⟩ := own_form hown2
             subst hv6
             have hba : Below WD.heap.size WD (WD.alloc (.cells #[.int .i64 (k : Int)] 3)) := below_alloc WD _
             have HS6 : Hid (ShB w m f Bm (Bm + 1) Bf w6) := SD.out.grown hba OD.out hgrow2 Hb0'.out
             have HZ6 : Hid (b0 ≤ w6.heap.size) := Nat.le_trans ZD.out (Nat.le_trans hba.size hgrow2.size)
             have HO6 := Lib.hid hown2
             clear hown2 hgrow2 hba))
        go_roundw
        case rel =>
          refine ⟨k + 1, Hgo.out.1, by go_num, ?_, HZ6, HS6⟩
          rw [Hst2.out]
          unfold Hid intL
          rw [List.length_append, List.map_append]
          exact HO6.out
        case measure => exact mz_upn Hgo.out.2
      | false =>
        rw [if_neg (by decide)] at Hst2
        go_wp2_with (first
          | (with_reducible refine at_op (.store 69 (.tmp 11) (.tmp 30)) ?_
             have hz := zero_one wC _ X64_zero
             generalize wC.alloc (.cells X64 69) = WC at hz ⊢
             refine wpList_store_row (o := ⟨none, .store 69 (.tmp 11) (.tmp 30), _, _, _, _⟩) rfl 69 (.tmp 11) (.tmp 30) rfl wC.heap.size TB rfl rfl 69 zeroA hz.2 (info_table TB hTBs) (zeroA_size.trans hTBs.symm) hTBo ?_
             have bD := below_setRow hz.1 (Nat.le_refl _) TB
             have jD := setRow_heap WC wC.heap.size zeroA TB 69 (0, 0) hz.2
             generalize WC.setRow wC.heap.size TB = WD at bD jD ⊢
             have SD := Lib.hid (SC.out.next bD)
             have OD := Lib.hid (own_later OC.out bD)
             have ZD := Lib.hid (Nat.le_trans ZC.out bD.size)
             have JD := Lib.hid ((bD.block _ (Array.getElem?_eq_some_iff.1 JC.out).1).trans JC.out)
             have KD := Lib.hid jD
             generalize wC.heap.size = BC at *
             clear hz bD jD SC CC OC JC)
          | (with_reducible refine at_dst (some 31) ?_; refine wpList_load_row (o := ⟨some 31, .load 69 (.tmp 10), _, _, _, _⟩) rfl 69 (.tmp 10) rfl BA rfl 69 TA (0, 0) _ JD.out Try.underlying69 rfl (info_table TA hTAs) ?_; (try simp only [Act.put, List.setIfInBounds_toArray, List.set_cons_zero, List.set_cons_succ]))
          | (with_reducible refine at_dst (some 32) ?_; refine wpList_load_row (o := ⟨some 32, .load 69 (.tmp 11), _, _, _, _⟩) rfl 69 (.tmp 11) rfl BC rfl 69 TB (0, 0) _ KD.out Try.underlying69 rfl (info_table TB hTBs) ?_; (try simp only [Act.put, List.setIfInBounds_toArray, List.set_cons_zero, List.set_cons_succ])))
        go_roundw
        case rel =>
          refine ⟨k + 1, Hgo.out.1, by go_num, ?_, ZD, SD⟩
          rw [Hst2.out]
          exact OD
        case measure => exact mz_upn Hgo.out.2
    · obtain rfl : k = m := by omega
      have hc : ¬ (k : Int) < (k : Int) := by omega
      have BZ := Lib.hid HB.out.below
      clear HB
      go_wp2
      go_ret2
      exact ⟨.slice a5 _ c5, rfl, HO.out.mono Hb0.out.1, by rw [← hBm]; exact BZ.out⟩
end Go.Proofs.Ythmdlkaanjjbkaa
