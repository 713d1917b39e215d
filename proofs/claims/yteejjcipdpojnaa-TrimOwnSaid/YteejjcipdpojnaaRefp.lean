/- Contracts of the reference's Fewest and Ways. -/
import Derived.Test.YteejjcipdpojnaaFew
namespace Go.Proofs.Yteejjcipdpojnaa
set_option linter.unusedVariables false
open Go.RowKit Go.Shelf

/-- the smallest number of parts with a last one that begins at one of these, and a -/
def mins (f : Nat → Nat) (xs : List Nat) (a : Nat) : Nat := xs.foldl (fun acc x => min acc (f x + 1)) a
theorem mins_min (f : Nat → Nat) : ∀ (xs : List Nat) (a b : Nat), mins f xs (min a b) = min a (mins f xs b)
  | [], _, _ => rfl
  | x :: xs, a, b => by
    have := mins_min f xs a (min b (f x + 1))
    unfold mins at this ⊢
    rw [List.foldl_cons, List.foldl_cons, ← this]
    congr 1
    omega
theorem mins_le (f : Nat → Nat) : ∀ (xs : List Nat) (b x : Nat), x ∈ xs → mins f xs b ≤ f x + 1
  | y :: xs, b, x, h => by
    have e : mins f (y :: xs) b = mins f xs (min (f y + 1) b) := by unfold mins; rw [List.foldl_cons, Nat.min_comm]
    rw [e]
    rcases List.mem_cons.1 h with rfl | h
    · rw [mins_min]; omega
    · exact mins_le f xs _ x h
theorem fewFold_mins (f : Nat → Nat) : ∀ (xs : List Nat) (a : Nat × Nat), (xs.foldl (fewStep f) a).1 = mins f xs a.1
  | [], _ => rfl
  | x :: xs, a => by
    rw [List.foldl_cons, fewFold_mins f xs]
    unfold mins
    rw [List.foldl_cons]
    congr 1
    unfold fewStep
    split <;> omega
/-- what the reference has of the beginnings pre -/
def refAcc (l : List UInt8) (k : Nat) (pre : List (Beg (k + 1))) : Nat := mins (fun x => (fewAt l x).1) (pre.map (·.1)) (k + 1)
theorem refAcc_snoc (l : List UInt8) (k : Nat) (pre : List (Beg (k + 1))) (x : Beg (k + 1)) : refAcc l k (pre ++ [x]) = min (refAcc l k pre) ((fewAt l x.1).1 + 1) := by simp [refAcc, mins]
theorem refAcc_le (l : List UInt8) (k : Nat) (pre : List (Beg (k + 1))) : refAcc l k pre ≤ k + 1 := by
  unfold refAcc
  have := mins_min (fun x => (fewAt l x).1) (pre.map (·.1)) (k + 1) (k + 1)
  rw [Nat.min_self] at this
  omega
theorem refAcc_end (l : List UInt8) (k : Nat) (hk : k < l.length) : refAcc l k (begs l (k + 1)) = (fewAt l (k + 1)).1 := by
  rw [fewAt_succ]
  unfold fewAcc refAcc
  rw [fewFold_mins]
  have h1 := fewAt_le l k
  have h2 := mins_min (fun x => (fewAt l x).1) ((begs l (k + 1)).map (·.1)) ((fewAt l k).1 + 1) (k + 1)
  have h3 := mins_le (fun x => (fewAt l x).1) ((begs l (k + 1)).map (·.1)) (k + 1) k (by rw [begs_last l k hk]; simp)
  rw [show min ((fewAt l k).1 + 1) (k + 1) = (fewAt l k).1 + 1 from by omega] at h2
  simp only at h3 ⊢
  rw [h2]
  omega

set_option maxRecDepth 100000 in
set_option maxHeartbeats 4000000 in
theorem refFewest_any (s : ByteArray) (w : World) (hs : s.size ≤ 1000) :
    Calls Try.prog 36 #[.string s] w fun e w' => e = .returned (.int .i64 ((fewAt s.data.toList s.size).1 : Nat)) ∧ Below w.heap.size w w' := by
  obtain ⟨N, hN⟩ : ∃ N, s.size + 1 = N := ⟨_, rfl⟩
  have eN : IntKind.i64.wrap ((s.size : Int) + 1) = N := by rw [IntWalk.i64_in _ (by omega)]; omega
  have hmk := run_make_row' (P := Try.prog) 27 3 (.int .i64 0) 8 Try.underlying27 info_int rfl .i64 .i64 N (by omega) (by omega)
  have HN := Lib.hid hN
  clear hN
  go_enter Try.func36, Try.ntmps36
  go_wp2
  clear hmk
  have hrow0 := World.rowIs_made w (.int .i64 0) N 3
  have hB0 := (Below.refl _ w).alloc (Nat.le_refl _) (.cells (madeCells #[.int .i64 0] N) 3)
  go_loopw [4] (fun u wr => ∃ k : Nat, k ≤ s.size ∧ u = .int .i64 ((k : Int) + 1) ∧ wr.rowIs w.heap.size 3 N (told (fun j => (fewAt s.data.toList j).1) k) ∧ Below w.heap.size w wr) (fun u _ => s.size + 1 - (intOf u).toNat)
  case atStart =>
    refine ⟨0, Nat.zero_le _, rfl, hrow0.congr fun i _ => ?_, hB0⟩
    unfold told
    by_cases e : i ≤ 0
    · rw [if_pos e, show i = 0 from by omega]; rfl
    · rw [if_neg e]; rfl
  case round =>
    clear hrow0 hB0
    obtain ⟨k, hk, rfl, hrow, hB⟩ := hrel
    have hmx : Try.prog.follows .mixedOrders = true := by kernel_rfl
    have z3 : ((k : Int) + 1).toNat = k + 1 := by omega
    by_cases hlt : k < s.size
    · have hc : (k : Int) + 1 ≤ s.size := by omega
      have ck1 := hrow.cell (i := k + 1) (by have := HN.out; omega)
      have fk1 := hrow.frozen (k + 1)
      have z2 : (k : Int) + 1 < N := by have := HN.out; omega
      have hrow1 := (hrow.set (k + 1) (.int .i64 ((k : Int) + 1))).congr (g := tell (fun j => (fewAt s.data.toList j).1) k (k + 1)) (fun i _ => told_tell _ _ _ _)
      have hB1 := hB.setCell (p := ⟨w.heap.size, k + 1, none⟩) (Nat.le_refl _) (.int .i64 ((k : Int) + 1))
      go_wp2
      clear ck1 fk1
      go_loopw [5] (fun u wx => ∃ i : Nat, i ≤ k + 1 ∧ u = .int .i64 i ∧ wx.rowIs w.heap.size 3 N (tell (fun j => (fewAt s.data.toList j).1) k (refAcc s.data.toList k (begTo s.data.toList (k + 1) i))) ∧ Below w.heap.size w wx) (fun u _ => k + 1 - (intOf u).toNat)
      case atStart => exact ⟨0, Nat.zero_le _, rfl, hrow1, hB1⟩
      case round =>
        clear hrow1 hB1 hrow hB
        obtain ⟨i, hi, rfl, hrow, hB⟩ := hrel
        by_cases hlt2 : i < k + 1
        · have hc2 : (i : Int) < (k : Int) + 1 := by omega
          have z4 : (i : Int) ≤ (k : Int) + 1 := by omega
          have hx : (s.extract i (k + 1)).size ≤ 1000 := by rw [ByteArray.size_extract]; omega
          cases hp : pal (s.extract i (k + 1)).data.toList with
          | true =>
            have hp2 : pal ((s.data.toList.take (k + 1)).drop i) = true := by rw [← ext_data]; exact hp
            have hsn := begTo_yes hlt2 hp2
            have Hsn := Lib.hid hsn
            have Hp := Lib.hid hp
            clear hp hp2 hsn
            go_wp2_with (go_at_call 49; refine (refPal_any _ _ (by unfold maxLen; omega)).mono ?_; rintro e w' ⟨rfl, n1, rfl⟩; rw [Hp.out])
            obtain ⟨c, hc1⟩ : ∃ c, refAcc s.data.toList k (begTo s.data.toList (k + 1) i) = c := ⟨_, rfl⟩
            obtain ⟨f, hf⟩ : ∃ f, (fewAt s.data.toList i).1 = f := ⟨_, rfl⟩
            obtain ⟨d, hd⟩ : ∃ d, f + 1 = d := ⟨_, rfl⟩
            have hfl := fewAt_le s.data.toList i
            have hcl := refAcc_le s.data.toList k (begTo s.data.toList (k + 1) i)
            rw [hf] at hfl
            rw [hc1] at hcl hrow
            have ef : IntKind.i64.wrap ((f : Int) + 1) = d := by rw [IntWalk.i64_in _ (by omega)]; omega
            have hacc : refAcc s.data.toList k (begTo s.data.toList (k + 1) (i + 1)) = min c d := by
              rw [Hsn.out, refAcc_snoc, hc1, hf, hd]
            have Hacc := Lib.hid hacc
            have Hf := Lib.hid hf
            clear hacc hc1 hf hd Hsn
            have hrowd : ((wr.drewN n1).drew).rowIs w.heap.size 3 N (tell (fun j => (fewAt s.data.toList j).1) k c) := hrow
            have hBd : Below w.heap.size w ((wr.drewN n1).drew) := (below_drewN hB n1).drew
            obtain ⟨W0, HW0⟩ : ∃ W0, (wr.drewN n1).drew = W0 := ⟨_, rfl⟩
            rw [HW0] at hrowd hBd
            have hrow1 := hrowd.set (k + 1) (.int .i64 (min (c : Int) d))
            have hB1 := hBd.setCell (p := ⟨w.heap.size, k + 1, none⟩) (Nat.le_refl _) (.int .i64 (min (c : Int) d))
            obtain ⟨W1, hW1⟩ : ∃ W1, W0.setCell ⟨w.heap.size, k + 1, none⟩ (.int .i64 (min (c : Int) d)) = W1 := ⟨_, rfl⟩
            rw [hW1] at hrow1 hB1
            have ck := hrowd.cell (i := i) (by have := HN.out; omega)
            have ck1 := hrowd.cell (i := k + 1) (by have := HN.out; omega)
            have fk1 := hrowd.frozen (k + 1)
            have z2 : (k : Int) + 1 < N := by have := HN.out; omega
            have z5 : (i : Int) < N := by have := HN.out; omega
            simp only [tell, if_neg (show ¬ i = k + 1 from by omega), if_pos (show i ≤ k from by omega), Hf.out] at ck
            simp only [tell, if_pos] at ck1
            have hpk := pk_true
            refine (wpIn_wide (n := 1)).1 ?_
            refine region_inv' hmx (fun L a X => ∃ b0 b1 b2 b3 b4 b5 b6 b7 b8 b9 b10 b11 b12 b13 : Bool, L = #[b0, b1, b2, b3, b4, b5, b6, b7, b8, b9, b10, b11, b12, b13] ∧ a = { tmps := #[.string s, undef, .int .i64 0, .slice (some ⟨w.heap.size, 0, none⟩) N N, .int .i64 ((k : Int) + 1), .int .i64 i, .string s, .int .i64 s.size, .int .i64 N, .slice (some ⟨w.heap.size, 0, none⟩) N N, .int .i64 ((k : Int) + 1), .string s, .int .i64 s.size, .bool true, u14, u15, .slice (some ⟨w.heap.size, 0, none⟩) N N, .int .i64 ((k : Int) + 1), .int .i64 ((k : Int) + 1), .pointer (some ⟨w.heap.size, k + 1, none⟩), .int .i64 i, .int .i64 ((k : Int) + 1), .bool true, u23, u24, .string s, .int .i64 i, .int .i64 ((k : Int) + 1), .string (s.extract i (k + 1)), .bool true, pk b0 (.slice (some ⟨w.heap.size, 0, none⟩) N N) (u30), pk b1 (.int .i64 ((k : Int) + 1)) (u31), pk b2 (.slice (some ⟨w.heap.size, 0, none⟩) N N) (u32), pk b3 (.int .i64 ((k : Int) + 1)) (u33), pk b4 (.pointer (some ⟨w.heap.size, k + 1, none⟩)) (u34), pk b5 (.int .i64 c) (u35), pk b6 (.slice (some ⟨w.heap.size, 0, none⟩) N N) (u36), pk b7 (.int .i64 i) (u37), pk b8 (.pointer (some ⟨w.heap.size, i, none⟩)) (u38), pk b9 (.int .i64 f) (u39), pk b10 (.int .i64 d) (u40), pk b11 (.int .i64 (min (c : Int) d)) (u41), pk b12 (.pointer (some ⟨w.heap.size, k + 1, none⟩)) (u42), undef, undef, undef, undef, undef], defers := [] } ∧ X = (bif b13 then W1 else W0) ∧ (b13 = true → b0 = true ∧ b1 = true ∧ b2 = true ∧ b3 = true ∧ b4 = true ∧ b5 = true ∧ b6 = true ∧ b7 = true ∧ b8 = true ∧ b9 = true ∧ b10 = true ∧ b11 = true ∧ b12 = true)) { tmps := #[.string s, undef, .int .i64 0, .slice (some ⟨w.heap.size, 0, none⟩) N N, .int .i64 ((k : Int) + 1), .int .i64 i, .string s, .int .i64 s.size, .int .i64 N, .slice (some ⟨w.heap.size, 0, none⟩) N N, .int .i64 ((k : Int) + 1), .string s, .int .i64 s.size, .bool true, u14, u15, .slice (some ⟨w.heap.size, 0, none⟩) N N, .int .i64 ((k : Int) + 1), .int .i64 ((k : Int) + 1), .pointer (some ⟨w.heap.size, k + 1, none⟩), .int .i64 i, .int .i64 ((k : Int) + 1), .bool true, u23, u24, .string s, .int .i64 i, .int .i64 ((k : Int) + 1), .string (s.extract i (k + 1)), .bool true, .slice (some ⟨w.heap.size, 0, none⟩) N N, .int .i64 ((k : Int) + 1), .slice (some ⟨w.heap.size, 0, none⟩) N N, .int .i64 ((k : Int) + 1), .pointer (some ⟨w.heap.size, k + 1, none⟩), .int .i64 c, .slice (some ⟨w.heap.size, 0, none⟩) N N, .int .i64 i, .pointer (some ⟨w.heap.size, i, none⟩), .int .i64 f, .int .i64 d, .int .i64 (min (c : Int) d), .pointer (some ⟨w.heap.size, k + 1, none⟩), undef, undef, undef, undef, undef], defers := [] } W1 ?h0 ?hstep ?hdone ?hfin
            case h0 => exact ⟨false, false, false, false, false, false, false, false, false, false, false, false, false, false, rfl, rfl, HW0, (fun h => by cases h)⟩
            case hstep =>
              rintro Q L a X ⟨b0, b1, b2, b3, b4, b5, b6, b7, b8, b9, b10, b11, b12, b13, rfl, rfl, rfl, k13⟩ i hi
              have K13 := Lib.hid k13
              clear k13
              obtain ⟨hun, o, ho, hdeps⟩ := mem_ready.1 hi
              clear hi
              have hi : i < 14 := (Array.getElem?_eq_some_iff.1 ho).1
              have hor : i = 0 ∨ i = 1 ∨ i = 2 ∨ i = 3 ∨ i = 4 ∨ i = 5 ∨ i = 6 ∨ i = 7 ∨ i = 8 ∨ i = 9 ∨ i = 10 ∨ i = 11 ∨ i = 12 ∨ i = 13 := by omega
              clear hi
              rcases hor with rfl | rfl | rfl | rfl | rfl | rfl | rfl | rfl | rfl | rfl | rfl | rfl | rfl | rfl
              · have hb : b0 = false := hun
                cases ho
                clear hun hdeps
                have e13 : b13 = false := by cases h : b13 with | false => rfl | true => exact absurd ((K13.out h).1) (by rw [hb]; decide)
                subst hb e13
                all_goals dsimp only
                refine wpOpIn_step rfl (fun K' hK => ?_)
                all_goals go_simp
                all_goals exact hK _ _ ⟨true, b1, b2, b3, b4, b5, b6, b7, b8, b9, b10, b11, b12, false, rfl, rfl, rfl, (fun h => by cases h)⟩
              · have hb : b1 = false := hun
                cases ho
                clear hun hdeps
                have e13 : b13 = false := by cases h : b13 with | false => rfl | true => exact absurd ((K13.out h).2.1) (by rw [hb]; decide)
                subst hb e13
                all_goals dsimp only
                refine wpOpIn_step rfl (fun K' hK => ?_)
                all_goals go_simp
                all_goals exact hK _ _ ⟨b0, true, b2, b3, b4, b5, b6, b7, b8, b9, b10, b11, b12, false, rfl, rfl, rfl, (fun h => by cases h)⟩
              · have hb : b2 = false := hun
                cases ho
                clear hun hdeps
                have e13 : b13 = false := by cases h : b13 with | false => rfl | true => exact absurd ((K13.out h).2.2.1) (by rw [hb]; decide)
                subst hb e13
                all_goals dsimp only
                refine wpOpIn_step rfl (fun K' hK => ?_)
                all_goals go_simp
                all_goals exact hK _ _ ⟨b0, b1, true, b3, b4, b5, b6, b7, b8, b9, b10, b11, b12, false, rfl, rfl, rfl, (fun h => by cases h)⟩
              · have hb : b3 = false := hun
                cases ho
                clear hun hdeps
                have e13 : b13 = false := by cases h : b13 with | false => rfl | true => exact absurd ((K13.out h).2.2.2.1) (by rw [hb]; decide)
                subst hb e13
                all_goals dsimp only
                refine wpOpIn_step rfl (fun K' hK => ?_)
                all_goals go_simp
                all_goals exact hK _ _ ⟨b0, b1, b2, true, b4, b5, b6, b7, b8, b9, b10, b11, b12, false, rfl, rfl, rfl, (fun h => by cases h)⟩
              · have hb : b4 = false := hun
                cases ho
                have d2 : b2 = true := hdeps ⟨2, Ground.data⟩ (by simp) rfl
                have d3 : b3 = true := hdeps ⟨3, Ground.data⟩ (by simp) rfl
                clear hun hdeps
                have e13 : b13 = false := by cases h : b13 with | false => rfl | true => exact absurd ((K13.out h).2.2.2.2.1) (by rw [hb]; decide)
                subst hb d2 d3 e13
                all_goals dsimp only
                refine wpOpIn_step rfl (fun K' hK => ?_)
                all_goals go_simp
                all_goals exact hK _ _ ⟨b0, b1, true, true, true, b5, b6, b7, b8, b9, b10, b11, b12, false, rfl, rfl, rfl, (fun h => by cases h)⟩
              · have hb : b5 = false := hun
                cases ho
                have d4 : b4 = true := hdeps ⟨4, Ground.data⟩ (by simp) rfl
                clear hun hdeps
                have e13 : b13 = false := by cases h : b13 with | false => rfl | true => exact absurd ((K13.out h).2.2.2.2.2.1) (by rw [hb]; decide)
                subst hb d4 e13
                all_goals dsimp only
                refine wpOpIn_step rfl (fun K' hK => ?_)
                all_goals go_simp
                all_goals exact hK _ _ ⟨b0, b1, b2, b3, true, true, b6, b7, b8, b9, b10, b11, b12, false, rfl, rfl, rfl, (fun h => by cases h)⟩
              · have hb : b6 = false := hun
                cases ho
                clear hun hdeps
                have e13 : b13 = false := by cases h : b13 with | false => rfl | true => exact absurd ((K13.out h).2.2.2.2.2.2.1) (by rw [hb]; decide)
                subst hb e13
                all_goals dsimp only
                refine wpOpIn_step rfl (fun K' hK => ?_)
                all_goals go_simp
                all_goals exact hK _ _ ⟨b0, b1, b2, b3, b4, b5, true, b7, b8, b9, b10, b11, b12, false, rfl, rfl, rfl, (fun h => by cases h)⟩
              · have hb : b7 = false := hun
                cases ho
                clear hun hdeps
                have e13 : b13 = false := by cases h : b13 with | false => rfl | true => exact absurd ((K13.out h).2.2.2.2.2.2.2.1) (by rw [hb]; decide)
                subst hb e13
                all_goals dsimp only
                refine wpOpIn_step rfl (fun K' hK => ?_)
                all_goals go_simp
                all_goals exact hK _ _ ⟨b0, b1, b2, b3, b4, b5, b6, true, b8, b9, b10, b11, b12, false, rfl, rfl, rfl, (fun h => by cases h)⟩
              · have hb : b8 = false := hun
                cases ho
                have d6 : b6 = true := hdeps ⟨6, Ground.data⟩ (by simp) rfl
                have d7 : b7 = true := hdeps ⟨7, Ground.data⟩ (by simp) rfl
                clear hun hdeps
                have e13 : b13 = false := by cases h : b13 with | false => rfl | true => exact absurd ((K13.out h).2.2.2.2.2.2.2.2.1) (by rw [hb]; decide)
                subst hb d6 d7 e13
                all_goals dsimp only
                refine wpOpIn_step rfl (fun K' hK => ?_)
                all_goals go_simp
                all_goals exact hK _ _ ⟨b0, b1, b2, b3, b4, b5, true, true, true, b9, b10, b11, b12, false, rfl, rfl, rfl, (fun h => by cases h)⟩
              · have hb : b9 = false := hun
                cases ho
                have d8 : b8 = true := hdeps ⟨8, Ground.data⟩ (by simp) rfl
                clear hun hdeps
                have e13 : b13 = false := by cases h : b13 with | false => rfl | true => exact absurd ((K13.out h).2.2.2.2.2.2.2.2.2.1) (by rw [hb]; decide)
                subst hb d8 e13
                all_goals dsimp only
                refine wpOpIn_step rfl (fun K' hK => ?_)
                all_goals go_simp
                all_goals exact hK _ _ ⟨b0, b1, b2, b3, b4, b5, b6, b7, true, true, b10, b11, b12, false, rfl, rfl, rfl, (fun h => by cases h)⟩
              · have hb : b10 = false := hun
                cases ho
                have d9 : b9 = true := hdeps ⟨9, Ground.data⟩ (by simp) rfl
                clear hun hdeps
                have e13 : b13 = false := by cases h : b13 with | false => rfl | true => exact absurd ((K13.out h).2.2.2.2.2.2.2.2.2.2.1) (by rw [hb]; decide)
                subst hb d9 e13
                all_goals dsimp only
                refine wpOpIn_step rfl (fun K' hK => ?_)
                all_goals go_simp
                all_goals exact hK _ _ ⟨b0, b1, b2, b3, b4, b5, b6, b7, b8, true, true, b11, b12, false, rfl, rfl, rfl, (fun h => by cases h)⟩
              · have hb : b11 = false := hun
                cases ho
                have d5 : b5 = true := hdeps ⟨5, Ground.data⟩ (by simp) rfl
                have d10 : b10 = true := hdeps ⟨10, Ground.data⟩ (by simp) rfl
                clear hun hdeps
                have e13 : b13 = false := by cases h : b13 with | false => rfl | true => exact absurd ((K13.out h).2.2.2.2.2.2.2.2.2.2.2.1) (by rw [hb]; decide)
                subst hb d5 d10 e13
                all_goals dsimp only
                refine wpOpIn_step rfl (fun K' hK => ?_)
                all_goals go_simp
                all_goals exact hK _ _ ⟨b0, b1, b2, b3, b4, true, b6, b7, b8, b9, true, true, b12, false, rfl, rfl, rfl, (fun h => by cases h)⟩
              · have hb : b12 = false := hun
                cases ho
                have d0 : b0 = true := hdeps ⟨0, Ground.data⟩ (by simp) rfl
                have d1 : b1 = true := hdeps ⟨1, Ground.data⟩ (by simp) rfl
                have d2 : b2 = true := hdeps ⟨2, Ground.phase⟩ (by simp) rfl
                have d3 : b3 = true := hdeps ⟨3, Ground.phase⟩ (by simp) rfl
                have d4 : b4 = true := hdeps ⟨4, Ground.phase⟩ (by simp) rfl
                have d5 : b5 = true := hdeps ⟨5, Ground.phase⟩ (by simp) rfl
                have d6 : b6 = true := hdeps ⟨6, Ground.phase⟩ (by simp) rfl
                have d7 : b7 = true := hdeps ⟨7, Ground.phase⟩ (by simp) rfl
                have d8 : b8 = true := hdeps ⟨8, Ground.phase⟩ (by simp) rfl
                have d9 : b9 = true := hdeps ⟨9, Ground.phase⟩ (by simp) rfl
                have d10 : b10 = true := hdeps ⟨10, Ground.phase⟩ (by simp) rfl
                have d11 : b11 = true := hdeps ⟨11, Ground.phase⟩ (by simp) rfl
                clear hun hdeps
                have e13 : b13 = false := by cases h : b13 with | false => rfl | true => exact absurd ((K13.out h).2.2.2.2.2.2.2.2.2.2.2.2) (by rw [hb]; decide)
                subst hb d0 d1 d2 d3 d4 d5 d6 d7 d8 d9 d10 d11 e13
                all_goals dsimp only
                refine wpOpIn_step rfl (fun K' hK => ?_)
                all_goals go_simp
                all_goals exact hK _ _ ⟨true, true, true, true, true, true, true, true, true, true, true, true, true, false, rfl, rfl, rfl, (fun h => by cases h)⟩
              · have hb : b13 = false := hun
                cases ho
                have d12 : b12 = true := hdeps ⟨12, Ground.data⟩ (by simp) rfl
                have d11 : b11 = true := hdeps ⟨11, Ground.data⟩ (by simp) rfl
                have d0 : b0 = true := hdeps ⟨0, Ground.phase⟩ (by simp) rfl
                have d1 : b1 = true := hdeps ⟨1, Ground.phase⟩ (by simp) rfl
                have d2 : b2 = true := hdeps ⟨2, Ground.phase⟩ (by simp) rfl
                have d3 : b3 = true := hdeps ⟨3, Ground.phase⟩ (by simp) rfl
                have d4 : b4 = true := hdeps ⟨4, Ground.phase⟩ (by simp) rfl
                have d5 : b5 = true := hdeps ⟨5, Ground.phase⟩ (by simp) rfl
                have d6 : b6 = true := hdeps ⟨6, Ground.phase⟩ (by simp) rfl
                have d7 : b7 = true := hdeps ⟨7, Ground.phase⟩ (by simp) rfl
                have d8 : b8 = true := hdeps ⟨8, Ground.phase⟩ (by simp) rfl
                have d9 : b9 = true := hdeps ⟨9, Ground.phase⟩ (by simp) rfl
                have d10 : b10 = true := hdeps ⟨10, Ground.phase⟩ (by simp) rfl
                clear hun hdeps
                subst hb d12 d11 d0 d1 d2 d3 d4 d5 d6 d7 d8 d9 d10
                all_goals dsimp only
                refine wpOpIn_step rfl (fun K' hK => ?_)
                all_goals go_simp
                all_goals exact hK _ _ ⟨true, true, true, true, true, true, true, true, true, true, true, true, true, true, rfl, rfl, rfl, (fun _ => ⟨rfl, rfl, rfl, rfl, rfl, rfl, rfl, rfl, rfl, rfl, rfl, rfl, rfl⟩)⟩
            case hdone =>
              rintro L a X ⟨b0, b1, b2, b3, b4, b5, b6, b7, b8, b9, b10, b11, b12, b13, rfl, rfl, rfl, -⟩ hr
              have t0 : b0 = true := ready_nil hr (i := 0) (by simp) (by intro o ho; cases ho; intro e he hbd; replace he : e ∈ #[] := he; simp at he)
              subst t0
              have t1 : b1 = true := ready_nil hr (i := 1) (by simp) (by intro o ho; cases ho; intro e he hbd; replace he : e ∈ #[] := he; simp at he)
              subst t1
              have t2 : b2 = true := ready_nil hr (i := 2) (by simp) (by intro o ho; cases ho; intro e he hbd; replace he : e ∈ #[] := he; simp at he)
              subst t2
              have t3 : b3 = true := ready_nil hr (i := 3) (by simp) (by intro o ho; cases ho; intro e he hbd; replace he : e ∈ #[] := he; simp at he)
              subst t3
              have t4 : b4 = true := ready_nil hr (i := 4) (by simp) (by intro o ho; cases ho; intro e he hbd; replace he : e ∈ #[⟨2, Ground.data⟩, ⟨3, Ground.data⟩] := he; simp only [List.mem_toArray, List.mem_cons, List.not_mem_nil, or_false] at he; rcases he with rfl | rfl <;> first | rfl | exact absurd hbd (by decide))
              subst t4
              have t5 : b5 = true := ready_nil hr (i := 5) (by simp) (by intro o ho; cases ho; intro e he hbd; replace he : e ∈ #[⟨4, Ground.data⟩] := he; simp only [List.mem_toArray, List.mem_cons, List.not_mem_nil, or_false] at he; rcases he with rfl <;> first | rfl | exact absurd hbd (by decide))
              subst t5
              have t6 : b6 = true := ready_nil hr (i := 6) (by simp) (by intro o ho; cases ho; intro e he hbd; replace he : e ∈ #[] := he; simp at he)
              subst t6
              have t7 : b7 = true := ready_nil hr (i := 7) (by simp) (by intro o ho; cases ho; intro e he hbd; replace he : e ∈ #[] := he; simp at he)
              subst t7
              have t8 : b8 = true := ready_nil hr (i := 8) (by simp) (by intro o ho; cases ho; intro e he hbd; replace he : e ∈ #[⟨6, Ground.data⟩, ⟨7, Ground.data⟩] := he; simp only [List.mem_toArray, List.mem_cons, List.not_mem_nil, or_false] at he; rcases he with rfl | rfl <;> first | rfl | exact absurd hbd (by decide))
              subst t8
              have t9 : b9 = true := ready_nil hr (i := 9) (by simp) (by intro o ho; cases ho; intro e he hbd; replace he : e ∈ #[⟨8, Ground.data⟩] := he; simp only [List.mem_toArray, List.mem_cons, List.not_mem_nil, or_false] at he; rcases he with rfl <;> first | rfl | exact absurd hbd (by decide))
              subst t9
              have t10 : b10 = true := ready_nil hr (i := 10) (by simp) (by intro o ho; cases ho; intro e he hbd; replace he : e ∈ #[⟨9, Ground.data⟩] := he; simp only [List.mem_toArray, List.mem_cons, List.not_mem_nil, or_false] at he; rcases he with rfl <;> first | rfl | exact absurd hbd (by decide))
              subst t10
              have t11 : b11 = true := ready_nil hr (i := 11) (by simp) (by intro o ho; cases ho; intro e he hbd; replace he : e ∈ #[⟨5, Ground.data⟩, ⟨10, Ground.data⟩] := he; simp only [List.mem_toArray, List.mem_cons, List.not_mem_nil, or_false] at he; rcases he with rfl | rfl <;> first | rfl | exact absurd hbd (by decide))
              subst t11
              have t12 : b12 = true := ready_nil hr (i := 12) (by simp) (by intro o ho; cases ho; intro e he hbd; replace he : e ∈ #[⟨0, Ground.data⟩, ⟨1, Ground.data⟩, ⟨0, Ground.phase⟩, ⟨1, Ground.phase⟩, ⟨2, Ground.phase⟩, ⟨3, Ground.phase⟩, ⟨4, Ground.phase⟩, ⟨5, Ground.phase⟩, ⟨6, Ground.phase⟩, ⟨7, Ground.phase⟩, ⟨8, Ground.phase⟩, ⟨9, Ground.phase⟩, ⟨10, Ground.phase⟩, ⟨11, Ground.phase⟩] := he; simp only [List.mem_toArray, List.mem_cons, List.not_mem_nil, or_false] at he; rcases he with rfl | rfl | rfl | rfl | rfl | rfl | rfl | rfl | rfl | rfl | rfl | rfl | rfl | rfl <;> first | rfl | exact absurd hbd (by decide))
              subst t12
              have t13 : b13 = true := ready_nil hr (i := 13) (by simp) (by intro o ho; cases ho; intro e he hbd; replace he : e ∈ #[⟨12, Ground.data⟩, ⟨11, Ground.data⟩, ⟨0, Ground.phase⟩, ⟨1, Ground.phase⟩, ⟨2, Ground.phase⟩, ⟨3, Ground.phase⟩, ⟨4, Ground.phase⟩, ⟨5, Ground.phase⟩, ⟨6, Ground.phase⟩, ⟨7, Ground.phase⟩, ⟨8, Ground.phase⟩, ⟨9, Ground.phase⟩, ⟨10, Ground.phase⟩, ⟨11, Ground.phase⟩] := he; simp only [List.mem_toArray, List.mem_cons, List.not_mem_nil, or_false] at he; rcases he with rfl | rfl | rfl | rfl | rfl | rfl | rfl | rfl | rfl | rfl | rfl | rfl | rfl | rfl <;> first | rfl | exact absurd hbd (by decide))
              subst t13
              exact ⟨rfl, rfl⟩
            case hfin =>
              clear ck ck1 fk1
              go_wp2
              go_roundw
              case rel => exact ⟨i + 1, by omega, by go_num, hrow1.congr fun q _ => by
                rw [Hacc.out, show (.int .i64 (min (c : Int) d) : Value) = .int .i64 ((min c d : Nat) : Int) from by congr 1; omega]; exact tell_tell _ _ _ _ _, hB1⟩
              case measure => simp [intOf]; omega
          | false =>
            have hp2 : pal ((s.data.toList.take (k + 1)).drop i) = false := by rw [← ext_data]; exact hp
            have hsn := begTo_no hp2
            have Hsn := Lib.hid hsn
            have Hp := Lib.hid hp
            clear hp hp2 hsn
            go_wp2_with (go_at_call 49; refine (refPal_any _ _ (by unfold maxLen; omega)).mono ?_; rintro e w' ⟨rfl, n1, rfl⟩; rw [Hp.out])
            go_roundw
            case rel => exact ⟨i + 1, by omega, by go_num, by rw [Hsn.out]; exact hrow, below_drewN hB _⟩
            case measure => simp [intOf]; omega
        · obtain rfl : i = k + 1 := by omega
          have hc2 : ¬ ((k + 1 : Nat) : Int) < (k : Int) + 1 := by omega
          have hrow2 := hrow.congr (g := told (fun j => (fewAt s.data.toList j).1) (k + 1)) (fun i _ => by
            rw [show begTo s.data.toList (k + 1) (k + 1) = begs s.data.toList (k + 1) from rfl, refAcc_end _ _ (by rw [data_length]; exact hlt)]; exact tell_told (fun j => (fewAt s.data.toList j).1) k i)
          clear hrow
          go_wp2
          go_roundw
          case rel => exact ⟨k + 1, by omega, by go_num, hrow2, hB⟩
          case measure => simp [intOf]; omega
    · obtain rfl : k = s.size := by omega
      have hc : ¬ (s.size : Int) + 1 ≤ s.size := by omega
      have ck := hrow.cell (i := s.size) (by have := HN.out; omega)
      have z1 : (s.size : Int) < N := by have := HN.out; omega
      simp only [told, if_pos (Nat.le_refl _)] at ck
      go_wp2
      go_ret
      exact ⟨rfl, hB⟩
/-- the reference's limit -/
def wayMost : Nat := 1152921504606846977
set_option maxRecDepth 100000 in
set_option maxHeartbeats 4000000 in
theorem refWays_any (s : ByteArray) (w : World) (hs : s.size ≤ 1000) :
    Calls Try.prog 38 #[.string s] w fun e w' => e = .returned (.tuple #[.int .i64 ((min (wayAt s.data.toList s.size) wayMost : Nat) : Int), .bool (decide (wayAt s.data.toList s.size ≤ 1152921504606846976))]) ∧ Below w.heap.size w w' := by
  obtain ⟨N, hN⟩ : ∃ N, s.size + 1 = N := ⟨_, rfl⟩
  have eN : IntKind.i64.wrap ((s.size : Int) + 1) = N := by rw [IntWalk.i64_in _ (by omega)]; omega
  have hmk := run_make_row' (P := Try.prog) 27 3 (.int .i64 0) 8 Try.underlying27 info_int rfl .i64 .i64 N (by omega) (by omega)
  have HN := Lib.hid hN
  have hN0 : 0 < N := by omega
  have hN0' : (0 : Int) < N := by omega
  clear hN
  have hrow0 := World.rowIs_made w (.int .i64 0) N 3
  have c0 := hrow0.cell hN0
  have f0 := hrow0.frozen 0
  have hrow00 : (w.alloc (.cells ((madeCells #[.int .i64 0] N).setIfInBounds 0 (.int .i64 1)) 3)).rowIs w.heap.size 3 N (fun j => if j = 0 then .int .i64 1 else .int .i64 0) := by
    refine ⟨_, World.alloc_heap_new w _, by rw [Array.size_setIfInBounds]; exact size_madeCells _ _, fun i hi => ?_⟩
    rw [Array.getElem?_setIfInBounds]
    by_cases e : i = 0
    · subst e; simp [madeCells, hi]
    · rw [if_neg (fun h => e h.symm)]; simp [madeCells, hi, Nat.mod_one, e]
  have hB0 := (Below.refl _ w).alloc (Nat.le_refl _) (.cells ((madeCells #[.int .i64 0] N).setIfInBounds 0 (.int .i64 1)) 3)
  go_enter Try.func38, Try.ntmps38
  go_wp2
  clear hmk
  go_loopw [5] (fun u wr => ∃ k : Nat, k ≤ s.size ∧ u = .int .i64 ((k : Int) + 1) ∧ wr.rowIs w.heap.size 3 N (told (fun j => min (wayAt s.data.toList j) wayMost) k) ∧ Below w.heap.size w wr) (fun u _ => s.size + 1 - (intOf u).toNat)
  case atStart =>
    refine ⟨0, Nat.zero_le _, rfl, hrow00.congr fun i _ => ?_, hB0⟩
    unfold told
    by_cases e : i = 0
    · subst e; rw [if_pos rfl, if_pos (Nat.le_refl _)]; rfl
    · rw [if_neg e, if_neg (by omega)]; rfl
  case round =>
    clear hrow0 hB0 c0 f0 hrow00
    obtain ⟨k, hk, rfl, hrow, hB⟩ := hrel
    have hmx : Try.prog.follows .mixedOrders = true := by kernel_rfl
    have z3 : ((k : Int) + 1).toNat = k + 1 := by omega
    by_cases hlt : k < s.size
    · have hc : (k : Int) + 1 ≤ s.size := by omega
      go_wp2
      go_loopw [6] (fun u wx => ∃ i : Nat, i ≤ k + 1 ∧ u = .int .i64 i ∧ wx.rowIs w.heap.size 3 N (tell (fun j => min (wayAt s.data.toList j) wayMost) k (min (sumWays s.data.toList (begTo s.data.toList (k + 1) i)) wayMost)) ∧ Below w.heap.size w wx) (fun u _ => k + 1 - (intOf u).toNat)
      case atStart =>
        refine ⟨0, Nat.zero_le _, rfl, hrow.congr fun i _ => ?_, hB⟩
        unfold told tell
        by_cases e : i = k + 1
        · rw [if_pos e, if_neg (by omega)]; simp [begTo, sumWays]
        · rw [if_neg e]
      case round =>
        clear hrow hB
        obtain ⟨i, hi, rfl, hrow, hB⟩ := hrel
        by_cases hlt2 : i < k + 1
        · have hc2 : (i : Int) < (k : Int) + 1 := by omega
          have z4 : (i : Int) ≤ (k : Int) + 1 := by omega
          have hx : (s.extract i (k + 1)).size ≤ 1000 := by rw [ByteArray.size_extract]; omega
          cases hp : pal (s.extract i (k + 1)).data.toList with
          | true =>
            have hp2 : pal ((s.data.toList.take (k + 1)).drop i) = true := by rw [← ext_data]; exact hp
            have hsn := begTo_yes hlt2 hp2
            have Hsn := Lib.hid hsn
            have Hp := Lib.hid hp
            clear hp hp2 hsn
            go_wp2_with (go_at_call 49; refine (refPal_any _ _ (by unfold maxLen; omega)).mono ?_; rintro e w' ⟨rfl, n1, rfl⟩; rw [Hp.out])
            obtain ⟨c, hc1⟩ : ∃ c, min (sumWays s.data.toList (begTo s.data.toList (k + 1) i)) wayMost = c := ⟨_, rfl⟩
            obtain ⟨f, hf⟩ : ∃ f, min (wayAt s.data.toList i) wayMost = f := ⟨_, rfl⟩
            obtain ⟨d, hd⟩ : ∃ d, c + f = d := ⟨_, rfl⟩
            have hacc : min (sumWays s.data.toList (begTo s.data.toList (k + 1) (i + 1))) wayMost = min d wayMost := by
              rw [Hsn.out, sumWays_snoc]; unfold wayMost at hc1 hf ⊢; simp only; omega
            rw [hc1] at hrow
            have hcl : c ≤ 1152921504606846977 := by unfold wayMost at hc1; omega
            have hfl : f ≤ 1152921504606846977 := by unfold wayMost at hf; omega
            have ef : IntKind.i64.wrap ((c : Int) + f) = d := by rw [IntWalk.i64_in _ (by omega)]; omega
            have Hacc := Lib.hid hacc
            have Hf := Lib.hid hf
            clear hacc hc1 hf hd Hsn
            have hrowd : ((wr.drewN n1).drew).rowIs w.heap.size 3 N (tell (fun j => min (wayAt s.data.toList j) wayMost) k c) := hrow
            have hBd : Below w.heap.size w ((wr.drewN n1).drew) := (below_drewN hB n1).drew
            obtain ⟨W0, HW0⟩ : ∃ W0, (wr.drewN n1).drew = W0 := ⟨_, rfl⟩
            rw [HW0] at hrowd hBd
            have hrow1 := hrowd.set (k + 1) (.int .i64 (min (d : Int) 1152921504606846977))
            have hB1 := hBd.setCell (p := ⟨w.heap.size, k + 1, none⟩) (Nat.le_refl _) (.int .i64 (min (d : Int) 1152921504606846977))
            obtain ⟨W1, hW1⟩ : ∃ W1, W0.setCell ⟨w.heap.size, k + 1, none⟩ (.int .i64 (min (d : Int) 1152921504606846977)) = W1 := ⟨_, rfl⟩
            rw [hW1] at hrow1 hB1
            have ck := hrowd.cell (i := i) (by have := HN.out; omega)
            have ck1 := hrowd.cell (i := k + 1) (by have := HN.out; omega)
            have fk1 := hrowd.frozen (k + 1)
            have z2 : (k : Int) + 1 < N := by have := HN.out; omega
            have z5 : (i : Int) < N := by have := HN.out; omega
            simp only [tell, if_neg (show ¬ i = k + 1 from by omega), if_pos (show i ≤ k from by omega), Hf.out] at ck
            simp only [tell, if_pos] at ck1
            have hpk := pk_true
            refine (wpIn_wide (n := 1)).1 ?_
            refine region_inv' hmx (fun L a X => ∃ b0 b1 b2 b3 b4 b5 b6 b7 b8 b9 b10 b11 b12 b13 : Bool, L = #[b0, b1, b2, b3, b4, b5, b6, b7, b8, b9, b10, b11, b12, b13] ∧ a = { tmps := #[.string s, undef, .int .i64 0, .bool false, .slice (some ⟨w.heap.size, 0, none⟩) N N, .int .i64 ((k : Int) + 1), .int .i64 i, .string s, .int .i64 s.size, .int .i64 N, .slice (some ⟨w.heap.size, 0, none⟩) N N, .slice (some ⟨w.heap.size, 0, none⟩) N N, .pointer (some ⟨w.heap.size, 0, none⟩), .int .i64 ((k : Int) + 1), .string s, .int .i64 s.size, .bool true, u17, u18, .int .i64 i, .int .i64 ((k : Int) + 1), .bool true, u22, u23, .string s, .int .i64 i, .int .i64 ((k : Int) + 1), .string (s.extract i (k + 1)), .bool true, pk b0 (.slice (some ⟨w.heap.size, 0, none⟩) N N) (u29), pk b1 (.int .i64 ((k : Int) + 1)) (u30), pk b2 (.slice (some ⟨w.heap.size, 0, none⟩) N N) (u31), pk b3 (.int .i64 ((k : Int) + 1)) (u32), pk b4 (.pointer (some ⟨w.heap.size, k + 1, none⟩)) (u33), pk b5 (.int .i64 c) (u34), pk b6 (.slice (some ⟨w.heap.size, 0, none⟩) N N) (u35), pk b7 (.int .i64 i) (u36), pk b8 (.pointer (some ⟨w.heap.size, i, none⟩)) (u37), pk b9 (.int .i64 f) (u38), pk b10 (.int .i64 d) (u39), pk b11 (.int .i64 (min (d : Int) 1152921504606846977)) (u40), pk b12 (.pointer (some ⟨w.heap.size, k + 1, none⟩)) (u41), undef, undef, undef, undef, undef, undef, undef, undef, undef, undef, undef], defers := [] } ∧ X = (bif b13 then W1 else W0) ∧ (b13 = true → b0 = true ∧ b1 = true ∧ b2 = true ∧ b3 = true ∧ b4 = true ∧ b5 = true ∧ b6 = true ∧ b7 = true ∧ b8 = true ∧ b9 = true ∧ b10 = true ∧ b11 = true ∧ b12 = true)) { tmps := #[.string s, undef, .int .i64 0, .bool false, .slice (some ⟨w.heap.size, 0, none⟩) N N, .int .i64 ((k : Int) + 1), .int .i64 i, .string s, .int .i64 s.size, .int .i64 N, .slice (some ⟨w.heap.size, 0, none⟩) N N, .slice (some ⟨w.heap.size, 0, none⟩) N N, .pointer (some ⟨w.heap.size, 0, none⟩), .int .i64 ((k : Int) + 1), .string s, .int .i64 s.size, .bool true, u17, u18, .int .i64 i, .int .i64 ((k : Int) + 1), .bool true, u22, u23, .string s, .int .i64 i, .int .i64 ((k : Int) + 1), .string (s.extract i (k + 1)), .bool true, .slice (some ⟨w.heap.size, 0, none⟩) N N, .int .i64 ((k : Int) + 1), .slice (some ⟨w.heap.size, 0, none⟩) N N, .int .i64 ((k : Int) + 1), .pointer (some ⟨w.heap.size, k + 1, none⟩), .int .i64 c, .slice (some ⟨w.heap.size, 0, none⟩) N N, .int .i64 i, .pointer (some ⟨w.heap.size, i, none⟩), .int .i64 f, .int .i64 d, .int .i64 (min (d : Int) 1152921504606846977), .pointer (some ⟨w.heap.size, k + 1, none⟩), undef, undef, undef, undef, undef, undef, undef, undef, undef, undef, undef], defers := [] } W1 ?h0 ?hstep ?hdone ?hfin
            case h0 => exact ⟨false, false, false, false, false, false, false, false, false, false, false, false, false, false, rfl, rfl, HW0, (fun h => by cases h)⟩
            case hstep =>
              rintro Q L a X ⟨b0, b1, b2, b3, b4, b5, b6, b7, b8, b9, b10, b11, b12, b13, rfl, rfl, rfl, k13⟩ i hi
              have K13 := Lib.hid k13
              clear k13
              obtain ⟨hun, o, ho, hdeps⟩ := mem_ready.1 hi
              clear hi
              have hi : i < 14 := (Array.getElem?_eq_some_iff.1 ho).1
              have hor : i = 0 ∨ i = 1 ∨ i = 2 ∨ i = 3 ∨ i = 4 ∨ i = 5 ∨ i = 6 ∨ i = 7 ∨ i = 8 ∨ i = 9 ∨ i = 10 ∨ i = 11 ∨ i = 12 ∨ i = 13 := by omega
              clear hi
              rcases hor with rfl | rfl | rfl | rfl | rfl | rfl | rfl | rfl | rfl | rfl | rfl | rfl | rfl | rfl
              · have hb : b0 = false := hun
                cases ho
                clear hun hdeps
                have e13 : b13 = false := by cases h : b13 with | false => rfl | true => exact absurd ((K13.out h).1) (by rw [hb]; decide)
                subst hb e13
                all_goals dsimp only
                refine wpOpIn_step rfl (fun K' hK => ?_)
                all_goals go_simp
                all_goals exact hK _ _ ⟨true, b1, b2, b3, b4, b5, b6, b7, b8, b9, b10, b11, b12, false, rfl, rfl, rfl, (fun h => by cases h)⟩
              · have hb : b1 = false := hun
                cases ho
                clear hun hdeps
                have e13 : b13 = false := by cases h : b13 with | false => rfl | true => exact absurd ((K13.out h).2.1) (by rw [hb]; decide)
                subst hb e13
                all_goals dsimp only
                refine wpOpIn_step rfl (fun K' hK => ?_)
                all_goals go_simp
                all_goals exact hK _ _ ⟨b0, true, b2, b3, b4, b5, b6, b7, b8, b9, b10, b11, b12, false, rfl, rfl, rfl, (fun h => by cases h)⟩
              · have hb : b2 = false := hun
                cases ho
                clear hun hdeps
                have e13 : b13 = false := by cases h : b13 with | false => rfl | true => exact absurd ((K13.out h).2.2.1) (by rw [hb]; decide)
                subst hb e13
                all_goals dsimp only
                refine wpOpIn_step rfl (fun K' hK => ?_)
                all_goals go_simp
                all_goals exact hK _ _ ⟨b0, b1, true, b3, b4, b5, b6, b7, b8, b9, b10, b11, b12, false, rfl, rfl, rfl, (fun h => by cases h)⟩
              · have hb : b3 = false := hun
                cases ho
                clear hun hdeps
                have e13 : b13 = false := by cases h : b13 with | false => rfl | true => exact absurd ((K13.out h).2.2.2.1) (by rw [hb]; decide)
                subst hb e13
                all_goals dsimp only
                refine wpOpIn_step rfl (fun K' hK => ?_)
                all_goals go_simp
                all_goals exact hK _ _ ⟨b0, b1, b2, true, b4, b5, b6, b7, b8, b9, b10, b11, b12, false, rfl, rfl, rfl, (fun h => by cases h)⟩
              · have hb : b4 = false := hun
                cases ho
                have d2 : b2 = true := hdeps ⟨2, Ground.data⟩ (by simp) rfl
                have d3 : b3 = true := hdeps ⟨3, Ground.data⟩ (by simp) rfl
                clear hun hdeps
                have e13 : b13 = false := by cases h : b13 with | false => rfl | true => exact absurd ((K13.out h).2.2.2.2.1) (by rw [hb]; decide)
                subst hb d2 d3 e13
                all_goals dsimp only
                refine wpOpIn_step rfl (fun K' hK => ?_)
                all_goals go_simp
                all_goals exact hK _ _ ⟨b0, b1, true, true, true, b5, b6, b7, b8, b9, b10, b11, b12, false, rfl, rfl, rfl, (fun h => by cases h)⟩
              · have hb : b5 = false := hun
                cases ho
                have d4 : b4 = true := hdeps ⟨4, Ground.data⟩ (by simp) rfl
                clear hun hdeps
                have e13 : b13 = false := by cases h : b13 with | false => rfl | true => exact absurd ((K13.out h).2.2.2.2.2.1) (by rw [hb]; decide)
                subst hb d4 e13
                all_goals dsimp only
                refine wpOpIn_step rfl (fun K' hK => ?_)
                all_goals go_simp
                all_goals exact hK _ _ ⟨b0, b1, b2, b3, true, true, b6, b7, b8, b9, b10, b11, b12, false, rfl, rfl, rfl, (fun h => by cases h)⟩
              · have hb : b6 = false := hun
                cases ho
                clear hun hdeps
                have e13 : b13 = false := by cases h : b13 with | false => rfl | true => exact absurd ((K13.out h).2.2.2.2.2.2.1) (by rw [hb]; decide)
                subst hb e13
                all_goals dsimp only
                refine wpOpIn_step rfl (fun K' hK => ?_)
                all_goals go_simp
                all_goals exact hK _ _ ⟨b0, b1, b2, b3, b4, b5, true, b7, b8, b9, b10, b11, b12, false, rfl, rfl, rfl, (fun h => by cases h)⟩
              · have hb : b7 = false := hun
                cases ho
                clear hun hdeps
                have e13 : b13 = false := by cases h : b13 with | false => rfl | true => exact absurd ((K13.out h).2.2.2.2.2.2.2.1) (by rw [hb]; decide)
                subst hb e13
                all_goals dsimp only
                refine wpOpIn_step rfl (fun K' hK => ?_)
                all_goals go_simp
                all_goals exact hK _ _ ⟨b0, b1, b2, b3, b4, b5, b6, true, b8, b9, b10, b11, b12, false, rfl, rfl, rfl, (fun h => by cases h)⟩
              · have hb : b8 = false := hun
                cases ho
                have d6 : b6 = true := hdeps ⟨6, Ground.data⟩ (by simp) rfl
                have d7 : b7 = true := hdeps ⟨7, Ground.data⟩ (by simp) rfl
                clear hun hdeps
                have e13 : b13 = false := by cases h : b13 with | false => rfl | true => exact absurd ((K13.out h).2.2.2.2.2.2.2.2.1) (by rw [hb]; decide)
                subst hb d6 d7 e13
                all_goals dsimp only
                refine wpOpIn_step rfl (fun K' hK => ?_)
                all_goals go_simp
                all_goals exact hK _ _ ⟨b0, b1, b2, b3, b4, b5, true, true, true, b9, b10, b11, b12, false, rfl, rfl, rfl, (fun h => by cases h)⟩
              · have hb : b9 = false := hun
                cases ho
                have d8 : b8 = true := hdeps ⟨8, Ground.data⟩ (by simp) rfl
                clear hun hdeps
                have e13 : b13 = false := by cases h : b13 with | false => rfl | true => exact absurd ((K13.out h).2.2.2.2.2.2.2.2.2.1) (by rw [hb]; decide)
                subst hb d8 e13
                all_goals dsimp only
                refine wpOpIn_step rfl (fun K' hK => ?_)
                all_goals go_simp
                all_goals exact hK _ _ ⟨b0, b1, b2, b3, b4, b5, b6, b7, true, true, b10, b11, b12, false, rfl, rfl, rfl, (fun h => by cases h)⟩
              · have hb : b10 = false := hun
                cases ho
                have d5 : b5 = true := hdeps ⟨5, Ground.data⟩ (by simp) rfl
                have d9 : b9 = true := hdeps ⟨9, Ground.data⟩ (by simp) rfl
                clear hun hdeps
                have e13 : b13 = false := by cases h : b13 with | false => rfl | true => exact absurd ((K13.out h).2.2.2.2.2.2.2.2.2.2.1) (by rw [hb]; decide)
                subst hb d5 d9 e13
                all_goals dsimp only
                refine wpOpIn_step rfl (fun K' hK => ?_)
                all_goals go_simp
                all_goals exact hK _ _ ⟨b0, b1, b2, b3, b4, true, b6, b7, b8, true, true, b11, b12, false, rfl, rfl, rfl, (fun h => by cases h)⟩
              · have hb : b11 = false := hun
                cases ho
                have d10 : b10 = true := hdeps ⟨10, Ground.data⟩ (by simp) rfl
                clear hun hdeps
                have e13 : b13 = false := by cases h : b13 with | false => rfl | true => exact absurd ((K13.out h).2.2.2.2.2.2.2.2.2.2.2.1) (by rw [hb]; decide)
                subst hb d10 e13
                all_goals dsimp only
                refine wpOpIn_step rfl (fun K' hK => ?_)
                all_goals go_simp
                all_goals exact hK _ _ ⟨b0, b1, b2, b3, b4, b5, b6, b7, b8, b9, true, true, b12, false, rfl, rfl, rfl, (fun h => by cases h)⟩
              · have hb : b12 = false := hun
                cases ho
                have d0 : b0 = true := hdeps ⟨0, Ground.data⟩ (by simp) rfl
                have d1 : b1 = true := hdeps ⟨1, Ground.data⟩ (by simp) rfl
                have d2 : b2 = true := hdeps ⟨2, Ground.phase⟩ (by simp) rfl
                have d3 : b3 = true := hdeps ⟨3, Ground.phase⟩ (by simp) rfl
                have d4 : b4 = true := hdeps ⟨4, Ground.phase⟩ (by simp) rfl
                have d5 : b5 = true := hdeps ⟨5, Ground.phase⟩ (by simp) rfl
                have d6 : b6 = true := hdeps ⟨6, Ground.phase⟩ (by simp) rfl
                have d7 : b7 = true := hdeps ⟨7, Ground.phase⟩ (by simp) rfl
                have d8 : b8 = true := hdeps ⟨8, Ground.phase⟩ (by simp) rfl
                have d9 : b9 = true := hdeps ⟨9, Ground.phase⟩ (by simp) rfl
                have d10 : b10 = true := hdeps ⟨10, Ground.phase⟩ (by simp) rfl
                have d11 : b11 = true := hdeps ⟨11, Ground.phase⟩ (by simp) rfl
                clear hun hdeps
                have e13 : b13 = false := by cases h : b13 with | false => rfl | true => exact absurd ((K13.out h).2.2.2.2.2.2.2.2.2.2.2.2) (by rw [hb]; decide)
                subst hb d0 d1 d2 d3 d4 d5 d6 d7 d8 d9 d10 d11 e13
                all_goals dsimp only
                refine wpOpIn_step rfl (fun K' hK => ?_)
                all_goals go_simp
                all_goals exact hK _ _ ⟨true, true, true, true, true, true, true, true, true, true, true, true, true, false, rfl, rfl, rfl, (fun h => by cases h)⟩
              · have hb : b13 = false := hun
                cases ho
                have d12 : b12 = true := hdeps ⟨12, Ground.data⟩ (by simp) rfl
                have d11 : b11 = true := hdeps ⟨11, Ground.data⟩ (by simp) rfl
                have d0 : b0 = true := hdeps ⟨0, Ground.phase⟩ (by simp) rfl
                have d1 : b1 = true := hdeps ⟨1, Ground.phase⟩ (by simp) rfl
                have d2 : b2 = true := hdeps ⟨2, Ground.phase⟩ (by simp) rfl
                have d3 : b3 = true := hdeps ⟨3, Ground.phase⟩ (by simp) rfl
                have d4 : b4 = true := hdeps ⟨4, Ground.phase⟩ (by simp) rfl
                have d5 : b5 = true := hdeps ⟨5, Ground.phase⟩ (by simp) rfl
                have d6 : b6 = true := hdeps ⟨6, Ground.phase⟩ (by simp) rfl
                have d7 : b7 = true := hdeps ⟨7, Ground.phase⟩ (by simp) rfl
                have d8 : b8 = true := hdeps ⟨8, Ground.phase⟩ (by simp) rfl
                have d9 : b9 = true := hdeps ⟨9, Ground.phase⟩ (by simp) rfl
                have d10 : b10 = true := hdeps ⟨10, Ground.phase⟩ (by simp) rfl
                clear hun hdeps
                subst hb d12 d11 d0 d1 d2 d3 d4 d5 d6 d7 d8 d9 d10
                all_goals dsimp only
                refine wpOpIn_step rfl (fun K' hK => ?_)
                all_goals go_simp
                all_goals exact hK _ _ ⟨true, true, true, true, true, true, true, true, true, true, true, true, true, true, rfl, rfl, rfl, (fun _ => ⟨rfl, rfl, rfl, rfl, rfl, rfl, rfl, rfl, rfl, rfl, rfl, rfl, rfl⟩)⟩
            case hdone =>
              rintro L a X ⟨b0, b1, b2, b3, b4, b5, b6, b7, b8, b9, b10, b11, b12, b13, rfl, rfl, rfl, -⟩ hr
              have t0 : b0 = true := ready_nil hr (i := 0) (by simp) (by intro o ho; cases ho; intro e he hbd; replace he : e ∈ #[] := he; simp at he)
              subst t0
              have t1 : b1 = true := ready_nil hr (i := 1) (by simp) (by intro o ho; cases ho; intro e he hbd; replace he : e ∈ #[] := he; simp at he)
              subst t1
              have t2 : b2 = true := ready_nil hr (i := 2) (by simp) (by intro o ho; cases ho; intro e he hbd; replace he : e ∈ #[] := he; simp at he)
              subst t2
              have t3 : b3 = true := ready_nil hr (i := 3) (by simp) (by intro o ho; cases ho; intro e he hbd; replace he : e ∈ #[] := he; simp at he)
              subst t3
              have t4 : b4 = true := ready_nil hr (i := 4) (by simp) (by intro o ho; cases ho; intro e he hbd; replace he : e ∈ #[⟨2, Ground.data⟩, ⟨3, Ground.data⟩] := he; simp only [List.mem_toArray, List.mem_cons, List.not_mem_nil, or_false] at he; rcases he with rfl | rfl <;> first | rfl | exact absurd hbd (by decide))
              subst t4
              have t5 : b5 = true := ready_nil hr (i := 5) (by simp) (by intro o ho; cases ho; intro e he hbd; replace he : e ∈ #[⟨4, Ground.data⟩] := he; simp only [List.mem_toArray, List.mem_cons, List.not_mem_nil, or_false] at he; rcases he with rfl <;> first | rfl | exact absurd hbd (by decide))
              subst t5
              have t6 : b6 = true := ready_nil hr (i := 6) (by simp) (by intro o ho; cases ho; intro e he hbd; replace he : e ∈ #[] := he; simp at he)
              subst t6
              have t7 : b7 = true := ready_nil hr (i := 7) (by simp) (by intro o ho; cases ho; intro e he hbd; replace he : e ∈ #[] := he; simp at he)
              subst t7
              have t8 : b8 = true := ready_nil hr (i := 8) (by simp) (by intro o ho; cases ho; intro e he hbd; replace he : e ∈ #[⟨6, Ground.data⟩, ⟨7, Ground.data⟩] := he; simp only [List.mem_toArray, List.mem_cons, List.not_mem_nil, or_false] at he; rcases he with rfl | rfl <;> first | rfl | exact absurd hbd (by decide))
              subst t8
              have t9 : b9 = true := ready_nil hr (i := 9) (by simp) (by intro o ho; cases ho; intro e he hbd; replace he : e ∈ #[⟨8, Ground.data⟩] := he; simp only [List.mem_toArray, List.mem_cons, List.not_mem_nil, or_false] at he; rcases he with rfl <;> first | rfl | exact absurd hbd (by decide))
              subst t9
              have t10 : b10 = true := ready_nil hr (i := 10) (by simp) (by intro o ho; cases ho; intro e he hbd; replace he : e ∈ #[⟨5, Ground.data⟩, ⟨9, Ground.data⟩] := he; simp only [List.mem_toArray, List.mem_cons, List.not_mem_nil, or_false] at he; rcases he with rfl | rfl <;> first | rfl | exact absurd hbd (by decide))
              subst t10
              have t11 : b11 = true := ready_nil hr (i := 11) (by simp) (by intro o ho; cases ho; intro e he hbd; replace he : e ∈ #[⟨10, Ground.data⟩] := he; simp only [List.mem_toArray, List.mem_cons, List.not_mem_nil, or_false] at he; rcases he with rfl <;> first | rfl | exact absurd hbd (by decide))
              subst t11
              have t12 : b12 = true := ready_nil hr (i := 12) (by simp) (by intro o ho; cases ho; intro e he hbd; replace he : e ∈ #[⟨0, Ground.data⟩, ⟨1, Ground.data⟩, ⟨0, Ground.phase⟩, ⟨1, Ground.phase⟩, ⟨2, Ground.phase⟩, ⟨3, Ground.phase⟩, ⟨4, Ground.phase⟩, ⟨5, Ground.phase⟩, ⟨6, Ground.phase⟩, ⟨7, Ground.phase⟩, ⟨8, Ground.phase⟩, ⟨9, Ground.phase⟩, ⟨10, Ground.phase⟩, ⟨11, Ground.phase⟩] := he; simp only [List.mem_toArray, List.mem_cons, List.not_mem_nil, or_false] at he; rcases he with rfl | rfl | rfl | rfl | rfl | rfl | rfl | rfl | rfl | rfl | rfl | rfl | rfl | rfl <;> first | rfl | exact absurd hbd (by decide))
              subst t12
              have t13 : b13 = true := ready_nil hr (i := 13) (by simp) (by intro o ho; cases ho; intro e he hbd; replace he : e ∈ #[⟨12, Ground.data⟩, ⟨11, Ground.data⟩, ⟨0, Ground.phase⟩, ⟨1, Ground.phase⟩, ⟨2, Ground.phase⟩, ⟨3, Ground.phase⟩, ⟨4, Ground.phase⟩, ⟨5, Ground.phase⟩, ⟨6, Ground.phase⟩, ⟨7, Ground.phase⟩, ⟨8, Ground.phase⟩, ⟨9, Ground.phase⟩, ⟨10, Ground.phase⟩, ⟨11, Ground.phase⟩] := he; simp only [List.mem_toArray, List.mem_cons, List.not_mem_nil, or_false] at he; rcases he with rfl | rfl | rfl | rfl | rfl | rfl | rfl | rfl | rfl | rfl | rfl | rfl | rfl | rfl <;> first | rfl | exact absurd hbd (by decide))
              subst t13
              exact ⟨rfl, rfl⟩
            case hfin =>
              clear ck ck1 fk1
              go_wp2
              go_roundw
              case rel => exact ⟨i + 1, by omega, by go_num, hrow1.congr fun q _ => by
                rw [Hacc.out, show (.int .i64 (min (d : Int) 1152921504606846977) : Value) = .int .i64 ((min d wayMost : Nat) : Int) from by congr 1; unfold wayMost; omega]; exact tell_tell _ _ _ _ _, hB1⟩
              case measure => simp [intOf]; omega
          | false =>
            have hp2 : pal ((s.data.toList.take (k + 1)).drop i) = false := by rw [← ext_data]; exact hp
            have hsn := begTo_no hp2
            have Hsn := Lib.hid hsn
            have Hp := Lib.hid hp
            clear hp hp2 hsn
            go_wp2_with (go_at_call 49; refine (refPal_any _ _ (by unfold maxLen; omega)).mono ?_; rintro e w' ⟨rfl, n1, rfl⟩; rw [Hp.out])
            go_roundw
            case rel => exact ⟨i + 1, by omega, by go_num, by rw [Hsn.out]; exact hrow, below_drewN hB _⟩
            case measure => simp [intOf]; omega
        · obtain rfl : i = k + 1 := by omega
          have hc2 : ¬ ((k + 1 : Nat) : Int) < (k : Int) + 1 := by omega
          have hrow2 := hrow.congr (g := told (fun j => min (wayAt s.data.toList j) wayMost) (k + 1)) (fun i _ => by
            rw [show begTo s.data.toList (k + 1) (k + 1) = begs s.data.toList (k + 1) from rfl, ← wayAt_succ]; exact tell_told (fun j => min (wayAt s.data.toList j) wayMost) k i)
          clear hrow
          go_wp2
          go_roundw
          case rel => exact ⟨k + 1, by omega, by go_num, hrow2, hB⟩
          case measure => simp [intOf]; omega
    · obtain rfl : k = s.size := by omega
      have hc : ¬ (s.size : Int) + 1 ≤ s.size := by omega
      have ck := hrow.cell (i := s.size) (by have := HN.out; omega)
      have z1 : (s.size : Int) < N := by have := HN.out; omega
      simp only [told, if_pos (Nat.le_refl _)] at ck
      obtain ⟨t, ht⟩ : ∃ t, min (wayAt s.data.toList s.size) wayMost = t := ⟨_, rfl⟩
      rw [ht] at ck
      have hdec : decide (wayAt s.data.toList s.size ≤ 1152921504606846976) = decide ((t : Int) ≤ 1152921504606846976) := by
        rw [decide_eq_decide]; unfold wayMost at ht; omega
      have Hdec := Lib.hid hdec
      have Ht := Lib.hid ht
      clear hdec ht
      go_wp2
      go_quiet (fail)
      go_wp2
      go_ret2
      exact ⟨by rw [Hdec.out, Ht.out]; rfl, below_drewN hB _⟩
end Go.Proofs.Yteejjcipdpojnaa
