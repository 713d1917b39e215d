/- The reference's Touching over its row. -/
import Derived.Test.YtelipknnfagnjaaRbel
import Derived.Test.YtelipknnfagnjaaOrd
namespace Go.Proofs.Ytelipknnfagnjaa
set_option linter.unusedVariables false
open Go.RowKit Go.Shelf

/-- x and f are neighbors, in whichever order -/
def nbE (f x : Nat × Nat) : Bool := nbrB x.1 x.2 f.1 f.2 || nbrB f.1 f.2 x.1 x.2
def touchL (N : Nat) (f : Nat × Nat) (k : Nat) : List (Nat × Nat) := (frs N k).filter (nbE f)
theorem touchL_succ (N : Nat) (f : Nat × Nat) (k : Nat) : touchL N f (k + 1) = touchL N f k ++ if nbE f (fr N k) then [fr N k] else [] := by
  unfold touchL
  rw [frs_succ, List.filter_append]
  congr 1
  by_cases h : nbE f (fr N k) <;> simp [h]
theorem touchL_le (N : Nat) (f : Nat × Nat) (k : Nat) : (touchL N f k).length ≤ k := by
  unfold touchL
  exact Nat.le_trans (List.length_filter_le _ _) (by rw [frs_length]; exact Nat.le_refl _)

theorem ownsRow_weak {w : World} {b b' : Nat} {e : TypeId} {size : Nat} {v : Value} {n : Nat} {xs : List Value} (h : w.ownsRow b e size v n xs) (hb : b' ≤ b) : w.ownsRow b' e size v n xs := by
  refine ⟨h.1, ?_⟩
  rcases h.2 with h | ⟨g, cap, cur, h1, h2, h3⟩
  · exact .inl h
  · exact .inr ⟨g, cap, cur, h1, Nat.le_trans hb h2, h3⟩

theorem RowF.kept {X Y : World} {g N : Nat} {row : Option Nat} (h : RowF X g N) (hg : X.grownBy Y row) (hne : row ≠ some g) : RowF Y g N :=
  ⟨Nat.lt_of_lt_of_le h.1 hg.size, fun k hk => ⟨(World.cell?_of_block (a := ⟨g, k * 2, none⟩) (hg.block g h.1 (fun e => hne e.symm))).trans (h.2 k hk).1, (World.cell?_of_block (a := ⟨g, k * 2 + 1, none⟩) (hg.block g h.1 (fun e => hne e.symm))).trans (h.2 k hk).2⟩⟩
set_option maxRecDepth 100000 in
set_option maxHeartbeats 4000000 in
theorem refTouching_any (N p q : Nat) (h1 : 1 ≤ N) (h3 : N ≤ 300) (hp : p ≤ 1000000) (hq : q ≤ 1000000) (w : World) :
    Calls Try.prog 30 #[.int .i64 N, .agg #[.int .i64 p, .int .i64 q]] w fun e w' => ∃ v, e = .returned v ∧ w'.ownsRow w.heap.size 26 2 v (touchL N (p, q) (len N)).length (flatF (touchL N (p, q) (len N))) ∧ Below w.heap.size w w' := by
  obtain ⟨i0, hi, hz0, hz1, hz2⟩ := info_parts info_frac
  have HR := Lib.hid (fun w => refRow_at N h1 h3 w)
  have hL := len_le h1 h3
  have hsm := fun k (hk : k < len N) => fr_small300 h1 h3 hk
  have Hsm := Lib.hid hsm
  have hmo : Try.prog.follows .mixedOrders = true := by kernel_rfl
  have A0 := Two.new w 26 p q
  have AB := below_alloc w (.cells #[.int .i64 p, .int .i64 q] 26)
  obtain ⟨L, hLe⟩ : ∃ L, len N = L := ⟨_, rfl⟩
  rw [hLe] at hL ⊢
  have HL := Lib.hid hLe
  clear hsm
  go_enter Try.func30, Try.ntmps30
  go_wp2_with fail
  refine (HR.out _).mono ?_
  rintro e w1 ⟨⟨g, cap, rfl, hrow, hgw⟩, b1⟩
  rw [hLe]
  clear hLe
  have A2 := A0.below b1
  have B1 := b_next AB b1
  clear A0 AB b1 HR
  have hw1 : w.heap.size < w1.heap.size := A2.lt
  have hgn : g < w1.heap.size := hrow.1
  go_wp2_with fail
  go_loopw [6, 7] (fun o v wr => ∃ (k : Nat) (ov : Value), o = ov ∧ k ≤ L ∧ v = .int .i64 k ∧ RowF wr g N ∧ Two wr w.heap.size 26 p q ∧ wr.ownsRow w1.heap.size 26 2 ov (touchL N (p, q) k).length (flatF (touchL N (p, q) k)) ∧ Below w.heap.size w wr ∧ w1.heap.size ≤ wr.heap.size) (fun _ v _ => L - (intOf v).toNat)
  case atStart => exact ⟨0, _, rfl, Nat.zero_le _, rfl, hrow, A2, World.ownsRow_nil _ _ _ _, B1, Nat.le_refl _⟩
  case round =>
    clear hrow A2 B1
    obtain ⟨k, o, ho, hk, rfl, hrow, hf, hown, hB, hsz⟩ := hrel
    have ho' := ho.symm
    subst ho'
    clear ho
    obtain ⟨f0, f1, _, _⟩ := hf.cells
    have lf := hf.lt
    by_cases hlt : k < L
    · have hlt2 : k < len N := by rw [HL.out]; exact hlt
      obtain ⟨c0, c1⟩ := hrow.2 k hlt2
      obtain ⟨s1, s2⟩ := Hsm.out k hlt2
      have hts := touchL_succ N (p, q) k
      have htl := touchL_le N (p, q) k
      obtain ⟨⟨x, y⟩, hxy⟩ : ∃ z, fr N k = z := ⟨_, rfl⟩
      rw [hxy] at c0 c1 s1 s2 hts
      simp only at c0 c1 s1 s2
      have hN1 := fun w => refNeighbors_any x y p q w (by omega) (by omega) (by omega) (by omega)
      have hN2 := fun w => refNeighbors_any p q x y w (by omega) (by omega) (by omega) (by omega)
      have hE : nbE (p, q) (x, y) = (nbrB x y p q || nbrB p q x y) := rfl
      rw [hE] at hts
      unfold frV at hN1 hN2
      simp only at hN1 hN2
      have Hf := Lib.hid hf
      have Hrow := Lib.hid hrow
      have HB := Lib.hid hB
      have Hown := Lib.hid hown
      have Hts := Lib.hid hts
      have hcond : (k : Int) < L := by omega
      have hgl := hrow.1
      obtain ⟨tn, htn⟩ : ∃ n, (touchL N (p, q) k).length = n := ⟨_, rfl⟩
      have Htn := Lib.hid htn
      rw [htn] at htl
      have hgrow : ∀ wx, Below wr.heap.size wr wx → RowF wx g N ∧ Two wx w.heap.size 26 p q ∧ wx.ownsRow w1.heap.size 26 2 o tn (flatF (touchL N (p, q) k)) ∧ Below w.heap.size w wx ∧ w1.heap.size ≤ wx.heap.size := fun wx hx =>
        ⟨Hrow.out.below hx, Hf.out.below hx, by have := World.ownsRow.kept Hown.out (grown_of hx none) (by cases h : o.ownBlock <;> simp); rw [Htn.out] at this; exact this, b_next HB.out hx, Nat.le_trans hsz hx.size⟩
      have Hgr := Lib.hid hgrow
      have Hxy := Lib.hid hxy
      clear hf hrow hB hown hts hE hxy htn hgrow
      have HN1 := Lib.hid hN1
      have HN2 := Lib.hid hN2
      obtain ⟨bb, hbb⟩ : ∃ z, (nbrB x y p q || nbrB p q x y) = z := ⟨_, rfl⟩
      rw [hbb] at Hts
      have Hbb := Lib.hid hbb
      clear hN1 hN2 hbb
      go_wp2_with fail
      go_cut [29] (fun s wy => s = .bool bb ∧ RowF wy g N ∧ Two wy w.heap.size 26 p q ∧ wy.ownsRow w1.heap.size 26 2 o tn (flatF (touchL N (p, q) k)) ∧ Below w.heap.size w wy ∧ w1.heap.size ≤ wy.heap.size)
      case first =>
        have Hbb2 := Hbb.out
        clear Hbb
        cases hb1 : nbrB x y p q with
        | true =>
          rw [hb1] at HN1 Hbb2
          rw [Bool.true_or] at Hbb2
          have Hb := Lib.hid Hbb2
          clear Hbb2 HN2
          refine wpIn_wide (n := 6).1 (region_inv hmo (fun La a X => ∃ (b0 b1 b2 b3 b4 b5 b6 b7 b8 b9 b10 b11 b12 b13 : Bool), La = #[b0, b1, b2, b3, b4, b5, b6, b7, b8, b9, b10, b11, b12, b13] ∧ a = { tmps := #[.int .i64 N, .agg #[.int .i64 p, .int .i64 q], undef, .pointer (some ⟨w.heap.size, 0, none⟩), .slice none 0 0, .slice (some ⟨g, 0, none⟩) L cap, o, .int .i64 k, .int .i64 N, .slice (some ⟨g, 0, none⟩) L cap, .int .i64 k, .slice (some ⟨g, 0, none⟩) L cap, .int .i64 L, .bool true, u14, u15, pk b0 (.slice (some ⟨g, 0, none⟩) L cap) u16, pk b1 (.int .i64 k) u17, pk b2 (.pointer (some ⟨g, k * 2, none⟩)) u18, pk b3 (.agg #[.int .i64 x, .int .i64 y]) u19, pk b4 (.agg #[.int .i64 p, .int .i64 q]) u20, pk b5 (.bool true) u21, pk b6 (.bool true) u22, pk b7 (undef) u23, pk b8 (undef) u24, pk b9 (undef) u25, pk b10 (undef) u26, pk b11 (undef) u27, pk b12 (undef) u28, pk b13 (.bool true) u29, u30, u31, u32, u33, u34, u35, u36, undef], defers := [] } ∧ Below wr.heap.size wr X) ?h0 ?hstep ?hdone)
          case h0 => exact ⟨false, false, false, false, false, false, false, false, false, false, false, false, false, false, rfl, rfl, (Below.refl _ wr).drew⟩
          case hstep =>
            rintro La a X ⟨b0, b1, b2, b3, b4, b5, b6, b7, b8, b9, b10, b11, b12, b13, rfl, rfl, hΦ⟩ i hi
            have HΦ := Lib.hid hΦ
            obtain ⟨r1, r2, _, _, _⟩ := Hgr.out X hΦ
            obtain ⟨c2, c3⟩ := r1.2 k hlt2
            rw [Hxy.out] at c2 c3
            simp only at c2 c3
            have hgl2 := r1.1
            obtain ⟨f2, f3, _, _⟩ := r2.cells
            have lf2 := r2.lt
            clear hΦ r1 r2
            obtain ⟨hun, o', ho, hdeps⟩ := mem_ready.1 hi
            clear hi
            have hi : i < 14 := (Array.getElem?_eq_some_iff.1 ho).1
            have hor : i = 0 ∨ i = 1 ∨ i = 2 ∨ i = 3 ∨ i = 4 ∨ i = 5 ∨ i = 6 ∨ i = 7 ∨ i = 8 ∨ i = 9 ∨ i = 10 ∨ i = 11 ∨ i = 12 ∨ i = 13 := by omega
            clear hi
            rcases hor with rfl | rfl | rfl | rfl | rfl | rfl | rfl | rfl | rfl | rfl | rfl | rfl | rfl | rfl
            · have hb : b0 = false := hun
              cases ho
              clear hun hdeps
              subst hb
              dsimp only
              refine wpOpIn_step rfl (fun K' hK => ?_)
              go_simp
              exact hK _ _ ⟨true, b1, b2, b3, b4, b5, b6, b7, b8, b9, b10, b11, b12, b13, rfl, rfl, HΦ.out⟩
            · have hb : b1 = false := hun
              cases ho
              clear hun hdeps
              subst hb
              dsimp only
              refine wpOpIn_step rfl (fun K' hK => ?_)
              go_simp
              exact hK _ _ ⟨b0, true, b2, b3, b4, b5, b6, b7, b8, b9, b10, b11, b12, b13, rfl, rfl, HΦ.out⟩
            · have hb : b2 = false := hun
              cases ho
              have d0 : b0 = true := hdeps ⟨0, Ground.data⟩ (by simp) rfl
              have d1 : b1 = true := hdeps ⟨1, Ground.data⟩ (by simp) rfl
              clear hun hdeps
              subst hb d0 d1
              dsimp only
              refine wpOpIn_step rfl (fun K' hK => ?_)
              simp only [pk_true]
              go_simp
              exact hK _ _ ⟨true, true, true, b3, b4, b5, b6, b7, b8, b9, b10, b11, b12, b13, rfl, rfl, HΦ.out⟩
            · have hb : b3 = false := hun
              cases ho
              have d2 : b2 = true := hdeps ⟨2, Ground.data⟩ (by simp) rfl
              clear hun hdeps
              subst hb d2
              dsimp only
              refine wpOpIn_step rfl (fun K' hK => ?_)
              simp only [pk_true]
              go_simp
              exact hK _ _ ⟨b0, b1, true, true, b4, b5, b6, b7, b8, b9, b10, b11, b12, b13, rfl, rfl, HΦ.out⟩
            · have hb : b4 = false := hun
              cases ho
              clear hun hdeps
              subst hb
              dsimp only
              refine wpOpIn_step rfl (fun K' hK => ?_)
              go_simp
              exact hK _ _ ⟨b0, b1, b2, b3, true, b5, b6, b7, b8, b9, b10, b11, b12, b13, rfl, rfl, HΦ.out⟩
            · have hb : b5 = false := hun
              cases ho
              have d3 : b3 = true := hdeps ⟨3, Ground.data⟩ (by simp) rfl
              have d4 : b4 = true := hdeps ⟨4, Ground.data⟩ (by simp) rfl
              clear hun hdeps
              subst hb d3 d4
              dsimp only
              refine wpOpIn_step rfl (fun K' hK => ?_)
              simp only [pk_true]
              go_simp
              refine ⟨trivial, ?_⟩
              refine (callsIn_wide.2 (HN1.out _)).mono ?_
              rintro e w5 ⟨rfl, z⟩
              exact hK _ _ ⟨b0, b1, b2, true, true, true, b6, b7, b8, b9, b10, b11, b12, b13, rfl, rfl, b_next HΦ.out z⟩
            · have hb : b6 = false := hun
              cases ho
              have d5 : b5 = true := hdeps ⟨5, Ground.data⟩ (by simp) rfl
              clear hun hdeps
              subst hb d5
              dsimp only
              refine wpOpIn_step rfl (fun K' hK => ?_)
              simp only [pk_true]
              go_simp
              exact hK _ _ ⟨b0, b1, b2, b3, b4, true, true, b7, b8, b9, b10, b11, b12, b13, rfl, rfl, HΦ.out⟩
            · have hb : b7 = false := hun
              cases ho
              have d6 : b6 = true := hdeps ⟨6, Ground.guard⟩ (by simp) rfl
              clear hun hdeps
              subst hb d6
              dsimp only
              refine wpOpIn_step rfl (fun K' hK => ?_)
              simp only [pk_true]
              go_simp
              exact hK _ _ ⟨b0, b1, b2, b3, b4, b5, true, true, b8, b9, b10, b11, b12, b13, rfl, rfl, HΦ.out⟩
            · have hb : b8 = false := hun
              cases ho
              have d6 : b6 = true := hdeps ⟨6, Ground.guard⟩ (by simp) rfl
              clear hun hdeps
              subst hb d6
              dsimp only
              refine wpOpIn_step rfl (fun K' hK => ?_)
              simp only [pk_true]
              go_simp
              exact hK _ _ ⟨b0, b1, b2, b3, b4, b5, true, b7, true, b9, b10, b11, b12, b13, rfl, rfl, HΦ.out⟩
            · have hb : b9 = false := hun
              cases ho
              have d6 : b6 = true := hdeps ⟨6, Ground.guard⟩ (by simp) rfl
              clear hun hdeps
              subst hb d6
              dsimp only
              refine wpOpIn_step rfl (fun K' hK => ?_)
              simp only [pk_true]
              go_simp
              exact hK _ _ ⟨b0, b1, b2, b3, b4, b5, true, b7, b8, true, b10, b11, b12, b13, rfl, rfl, HΦ.out⟩
            · have hb : b10 = false := hun
              cases ho
              have d8 : b8 = true := hdeps ⟨8, Ground.data⟩ (by simp) rfl
              have d9 : b9 = true := hdeps ⟨9, Ground.data⟩ (by simp) rfl
              have d6 : b6 = true := hdeps ⟨6, Ground.guard⟩ (by simp) rfl
              clear hun hdeps
              subst hb d8 d9 d6
              dsimp only
              refine wpOpIn_step rfl (fun K' hK => ?_)
              simp only [pk_true]
              go_simp
              exact hK _ _ ⟨b0, b1, b2, b3, b4, b5, true, b7, true, true, true, b11, b12, b13, rfl, rfl, HΦ.out⟩
            · have hb : b11 = false := hun
              cases ho
              have d10 : b10 = true := hdeps ⟨10, Ground.data⟩ (by simp) rfl
              have d6 : b6 = true := hdeps ⟨6, Ground.guard⟩ (by simp) rfl
              clear hun hdeps
              subst hb d10 d6
              dsimp only
              refine wpOpIn_step rfl (fun K' hK => ?_)
              simp only [pk_true]
              go_simp
              exact hK _ _ ⟨b0, b1, b2, b3, b4, b5, true, b7, b8, b9, true, true, b12, b13, rfl, rfl, HΦ.out⟩
            · have hb : b12 = false := hun
              cases ho
              have d7 : b7 = true := hdeps ⟨7, Ground.data⟩ (by simp) rfl
              have d11 : b11 = true := hdeps ⟨11, Ground.data⟩ (by simp) rfl
              have d6 : b6 = true := hdeps ⟨6, Ground.guard⟩ (by simp) rfl
              clear hun hdeps
              subst hb d7 d11 d6
              dsimp only
              refine wpOpIn_step rfl (fun K' hK => ?_)
              simp only [pk_true]
              go_simp
              refine ⟨trivial, ?_⟩
              exact hK _ _ ⟨b0, b1, b2, b3, b4, b5, true, true, b8, b9, b10, true, true, b13, rfl, rfl, HΦ.out⟩
            · have hb : b13 = false := hun
              cases ho
              have d6 : b6 = true := hdeps ⟨6, Ground.data⟩ (by simp) rfl
              have d12 : b12 = true := hdeps ⟨12, Ground.data⟩ (by simp) rfl
              clear hun hdeps
              subst hb d6 d12
              dsimp only
              refine wpOpIn_step rfl (fun K' hK => ?_)
              simp only [pk_true]
              go_simp
              exact hK _ _ ⟨b0, b1, b2, b3, b4, b5, true, b7, b8, b9, b10, b11, true, true, rfl, rfl, HΦ.out⟩
          case hdone =>
            rintro La a X ⟨b0, b1, b2, b3, b4, b5, b6, b7, b8, b9, b10, b11, b12, b13, rfl, rfl, hΦ⟩ hr
            have t0 : b0 = true := ready_nil hr (i := 0) (by simp) (by intro o ho; cases ho; intro e he hbd; replace he : e ∈ #[] := he; simp at he)
            subst t0
            have t1 : b1 = true := ready_nil hr (i := 1) (by simp) (by intro o ho; cases ho; intro e he hbd; replace he : e ∈ #[] := he; simp at he)
            subst t1
            have t2 : b2 = true := ready_nil hr (i := 2) (by simp) (by intro o ho; cases ho; intro e he hbd; replace he : e ∈ #[⟨0, Ground.data⟩, ⟨1, Ground.data⟩] := he; simp only [List.mem_toArray, List.mem_cons, List.not_mem_nil, or_false] at he; rcases he with rfl | rfl <;> rfl)
            subst t2
            have t3 : b3 = true := ready_nil hr (i := 3) (by simp) (by intro o ho; cases ho; intro e he hbd; replace he : e ∈ #[⟨2, Ground.data⟩] := he; simp only [List.mem_toArray, List.mem_cons, List.not_mem_nil, or_false] at he; rcases he with rfl <;> rfl)
            subst t3
            have t4 : b4 = true := ready_nil hr (i := 4) (by simp) (by intro o ho; cases ho; intro e he hbd; replace he : e ∈ #[] := he; simp at he)
            subst t4
            have t5 : b5 = true := ready_nil hr (i := 5) (by simp) (by intro o ho; cases ho; intro e he hbd; replace he : e ∈ #[⟨3, Ground.data⟩, ⟨4, Ground.data⟩] := he; simp only [List.mem_toArray, List.mem_cons, List.not_mem_nil, or_false] at he; rcases he with rfl | rfl <;> rfl)
            subst t5
            have t6 : b6 = true := ready_nil hr (i := 6) (by simp) (by intro o ho; cases ho; intro e he hbd; replace he : e ∈ #[⟨5, Ground.data⟩, ⟨5, Ground.chain⟩] := he; simp only [List.mem_toArray, List.mem_cons, List.not_mem_nil, or_false] at he; rcases he with rfl | rfl <;> rfl)
            subst t6
            have t7 : b7 = true := ready_nil hr (i := 7) (by simp) (by intro o ho; cases ho; intro e he hbd; replace he : e ∈ #[⟨6, Ground.guard⟩] := he; simp only [List.mem_toArray, List.mem_cons, List.not_mem_nil, or_false] at he; rcases he with rfl <;> rfl)
            subst t7
            have t8 : b8 = true := ready_nil hr (i := 8) (by simp) (by intro o ho; cases ho; intro e he hbd; replace he : e ∈ #[⟨6, Ground.guard⟩] := he; simp only [List.mem_toArray, List.mem_cons, List.not_mem_nil, or_false] at he; rcases he with rfl <;> rfl)
            subst t8
            have t9 : b9 = true := ready_nil hr (i := 9) (by simp) (by intro o ho; cases ho; intro e he hbd; replace he : e ∈ #[⟨6, Ground.guard⟩] := he; simp only [List.mem_toArray, List.mem_cons, List.not_mem_nil, or_false] at he; rcases he with rfl <;> rfl)
            subst t9
            have t10 : b10 = true := ready_nil hr (i := 10) (by simp) (by intro o ho; cases ho; intro e he hbd; replace he : e ∈ #[⟨8, Ground.data⟩, ⟨9, Ground.data⟩, ⟨6, Ground.guard⟩] := he; simp only [List.mem_toArray, List.mem_cons, List.not_mem_nil, or_false] at he; rcases he with rfl | rfl | rfl <;> rfl)
            subst t10
            have t11 : b11 = true := ready_nil hr (i := 11) (by simp) (by intro o ho; cases ho; intro e he hbd; replace he : e ∈ #[⟨10, Ground.data⟩, ⟨6, Ground.guard⟩] := he; simp only [List.mem_toArray, List.mem_cons, List.not_mem_nil, or_false] at he; rcases he with rfl | rfl <;> rfl)
            subst t11
            have t12 : b12 = true := ready_nil hr (i := 12) (by simp) (by intro o ho; cases ho; intro e he hbd; replace he : e ∈ #[⟨7, Ground.data⟩, ⟨11, Ground.data⟩, ⟨6, Ground.chain⟩, ⟨6, Ground.guard⟩] := he; simp only [List.mem_toArray, List.mem_cons, List.not_mem_nil, or_false] at he; rcases he with rfl | rfl | rfl | rfl <;> rfl)
            subst t12
            have t13 : b13 = true := ready_nil hr (i := 13) (by simp) (by intro o ho; cases ho; intro e he hbd; replace he : e ∈ #[⟨6, Ground.data⟩, ⟨12, Ground.data⟩] := he; simp only [List.mem_toArray, List.mem_cons, List.not_mem_nil, or_false] at he; rcases he with rfl | rfl <;> rfl)
            subst t13
            simp only [pk_true]
            have hG := Hgr.out X hΦ
            go_wp2_with fail
            go_meet
            exact ⟨by rw [← Hb.out], hG⟩
        | false =>
          rw [hb1] at HN1 Hbb2
          rw [Bool.false_or] at Hbb2
          rw [Hbb2] at HN2
          clear Hbb2
          refine wpIn_wide (n := 6).1 (region_inv hmo (fun La a X => ∃ (b0 b1 b2 b3 b4 b5 b6 b7 b8 b9 b10 b11 b12 b13 : Bool), La = #[b0, b1, b2, b3, b4, b5, b6, b7, b8, b9, b10, b11, b12, b13] ∧ a = { tmps := #[.int .i64 N, .agg #[.int .i64 p, .int .i64 q], undef, .pointer (some ⟨w.heap.size, 0, none⟩), .slice none 0 0, .slice (some ⟨g, 0, none⟩) L cap, o, .int .i64 k, .int .i64 N, .slice (some ⟨g, 0, none⟩) L cap, .int .i64 k, .slice (some ⟨g, 0, none⟩) L cap, .int .i64 L, .bool true, u14, u15, pk b0 (.slice (some ⟨g, 0, none⟩) L cap) u16, pk b1 (.int .i64 k) u17, pk b2 (.pointer (some ⟨g, k * 2, none⟩)) u18, pk b3 (.agg #[.int .i64 x, .int .i64 y]) u19, pk b4 (.agg #[.int .i64 p, .int .i64 q]) u20, pk b5 (.bool false) u21, pk b6 (.bool false) u22, pk b7 (.agg #[.int .i64 p, .int .i64 q]) u23, pk b8 (.slice (some ⟨g, 0, none⟩) L cap) u24, pk b9 (.int .i64 k) u25, pk b10 (.pointer (some ⟨g, k * 2, none⟩)) u26, pk b11 (.agg #[.int .i64 x, .int .i64 y]) u27, pk b12 (.bool bb) u28, pk b13 (.bool bb) u29, u30, u31, u32, u33, u34, u35, u36, undef], defers := [] } ∧ Below wr.heap.size wr X) ?h0 ?hstep ?hdone)
          case h0 => exact ⟨false, false, false, false, false, false, false, false, false, false, false, false, false, false, rfl, rfl, (Below.refl _ wr).drew⟩
          case hstep =>
            rintro La a X ⟨b0, b1, b2, b3, b4, b5, b6, b7, b8, b9, b10, b11, b12, b13, rfl, rfl, hΦ⟩ i hi
            have HΦ := Lib.hid hΦ
            obtain ⟨r1, r2, _, _, _⟩ := Hgr.out X hΦ
            obtain ⟨c2, c3⟩ := r1.2 k hlt2
            rw [Hxy.out] at c2 c3
            simp only at c2 c3
            have hgl2 := r1.1
            obtain ⟨f2, f3, _, _⟩ := r2.cells
            have lf2 := r2.lt
            clear hΦ r1 r2
            obtain ⟨hun, o', ho, hdeps⟩ := mem_ready.1 hi
            clear hi
            have hi : i < 14 := (Array.getElem?_eq_some_iff.1 ho).1
            have hor : i = 0 ∨ i = 1 ∨ i = 2 ∨ i = 3 ∨ i = 4 ∨ i = 5 ∨ i = 6 ∨ i = 7 ∨ i = 8 ∨ i = 9 ∨ i = 10 ∨ i = 11 ∨ i = 12 ∨ i = 13 := by omega
            clear hi
            rcases hor with rfl | rfl | rfl | rfl | rfl | rfl | rfl | rfl | rfl | rfl | rfl | rfl | rfl | rfl
            · have hb : b0 = false := hun
              cases ho
              clear hun hdeps
              subst hb
              dsimp only
              refine wpOpIn_step rfl (fun K' hK => ?_)
              go_simp
              exact hK _ _ ⟨true, b1, b2, b3, b4, b5, b6, b7, b8, b9, b10, b11, b12, b13, rfl, rfl, HΦ.out⟩
            · have hb : b1 = false := hun
              cases ho
              clear hun hdeps
              subst hb
              dsimp only
              refine wpOpIn_step rfl (fun K' hK => ?_)
              go_simp
              exact hK _ _ ⟨b0, true, b2, b3, b4, b5, b6, b7, b8, b9, b10, b11, b12, b13, rfl, rfl, HΦ.out⟩
            · have hb : b2 = false := hun
              cases ho
              have d0 : b0 = true := hdeps ⟨0, Ground.data⟩ (by simp) rfl
              have d1 : b1 = true := hdeps ⟨1, Ground.data⟩ (by simp) rfl
              clear hun hdeps
              subst hb d0 d1
              dsimp only
              refine wpOpIn_step rfl (fun K' hK => ?_)
              simp only [pk_true]
              go_simp
              exact hK _ _ ⟨true, true, true, b3, b4, b5, b6, b7, b8, b9, b10, b11, b12, b13, rfl, rfl, HΦ.out⟩
            · have hb : b3 = false := hun
              cases ho
              have d2 : b2 = true := hdeps ⟨2, Ground.data⟩ (by simp) rfl
              clear hun hdeps
              subst hb d2
              dsimp only
              refine wpOpIn_step rfl (fun K' hK => ?_)
              simp only [pk_true]
              go_simp
              exact hK _ _ ⟨b0, b1, true, true, b4, b5, b6, b7, b8, b9, b10, b11, b12, b13, rfl, rfl, HΦ.out⟩
            · have hb : b4 = false := hun
              cases ho
              clear hun hdeps
              subst hb
              dsimp only
              refine wpOpIn_step rfl (fun K' hK => ?_)
              go_simp
              exact hK _ _ ⟨b0, b1, b2, b3, true, b5, b6, b7, b8, b9, b10, b11, b12, b13, rfl, rfl, HΦ.out⟩
            · have hb : b5 = false := hun
              cases ho
              have d3 : b3 = true := hdeps ⟨3, Ground.data⟩ (by simp) rfl
              have d4 : b4 = true := hdeps ⟨4, Ground.data⟩ (by simp) rfl
              clear hun hdeps
              subst hb d3 d4
              dsimp only
              refine wpOpIn_step rfl (fun K' hK => ?_)
              simp only [pk_true]
              go_simp
              refine ⟨trivial, ?_⟩
              refine (callsIn_wide.2 (HN1.out _)).mono ?_
              rintro e w5 ⟨rfl, z⟩
              exact hK _ _ ⟨b0, b1, b2, true, true, true, b6, b7, b8, b9, b10, b11, b12, b13, rfl, rfl, b_next HΦ.out z⟩
            · have hb : b6 = false := hun
              cases ho
              have d5 : b5 = true := hdeps ⟨5, Ground.data⟩ (by simp) rfl
              clear hun hdeps
              subst hb d5
              dsimp only
              refine wpOpIn_step rfl (fun K' hK => ?_)
              simp only [pk_true]
              go_simp
              exact hK _ _ ⟨b0, b1, b2, b3, b4, true, true, b7, b8, b9, b10, b11, b12, b13, rfl, rfl, HΦ.out⟩
            · have hb : b7 = false := hun
              cases ho
              have d6 : b6 = true := hdeps ⟨6, Ground.guard⟩ (by simp) rfl
              clear hun hdeps
              subst hb d6
              dsimp only
              refine wpOpIn_step rfl (fun K' hK => ?_)
              simp only [pk_true]
              go_simp
              exact hK _ _ ⟨b0, b1, b2, b3, b4, b5, true, true, b8, b9, b10, b11, b12, b13, rfl, rfl, HΦ.out⟩
            · have hb : b8 = false := hun
              cases ho
              have d6 : b6 = true := hdeps ⟨6, Ground.guard⟩ (by simp) rfl
              clear hun hdeps
              subst hb d6
              dsimp only
              refine wpOpIn_step rfl (fun K' hK => ?_)
              simp only [pk_true]
              go_simp
              exact hK _ _ ⟨b0, b1, b2, b3, b4, b5, true, b7, true, b9, b10, b11, b12, b13, rfl, rfl, HΦ.out⟩
            · have hb : b9 = false := hun
              cases ho
              have d6 : b6 = true := hdeps ⟨6, Ground.guard⟩ (by simp) rfl
              clear hun hdeps
              subst hb d6
              dsimp only
              refine wpOpIn_step rfl (fun K' hK => ?_)
              simp only [pk_true]
              go_simp
              exact hK _ _ ⟨b0, b1, b2, b3, b4, b5, true, b7, b8, true, b10, b11, b12, b13, rfl, rfl, HΦ.out⟩
            · have hb : b10 = false := hun
              cases ho
              have d8 : b8 = true := hdeps ⟨8, Ground.data⟩ (by simp) rfl
              have d9 : b9 = true := hdeps ⟨9, Ground.data⟩ (by simp) rfl
              have d6 : b6 = true := hdeps ⟨6, Ground.guard⟩ (by simp) rfl
              clear hun hdeps
              subst hb d8 d9 d6
              dsimp only
              refine wpOpIn_step rfl (fun K' hK => ?_)
              simp only [pk_true]
              go_simp
              exact hK _ _ ⟨b0, b1, b2, b3, b4, b5, true, b7, true, true, true, b11, b12, b13, rfl, rfl, HΦ.out⟩
            · have hb : b11 = false := hun
              cases ho
              have d10 : b10 = true := hdeps ⟨10, Ground.data⟩ (by simp) rfl
              have d6 : b6 = true := hdeps ⟨6, Ground.guard⟩ (by simp) rfl
              clear hun hdeps
              subst hb d10 d6
              dsimp only
              refine wpOpIn_step rfl (fun K' hK => ?_)
              simp only [pk_true]
              go_simp
              exact hK _ _ ⟨b0, b1, b2, b3, b4, b5, true, b7, b8, b9, true, true, b12, b13, rfl, rfl, HΦ.out⟩
            · have hb : b12 = false := hun
              cases ho
              have d7 : b7 = true := hdeps ⟨7, Ground.data⟩ (by simp) rfl
              have d11 : b11 = true := hdeps ⟨11, Ground.data⟩ (by simp) rfl
              have d6 : b6 = true := hdeps ⟨6, Ground.guard⟩ (by simp) rfl
              clear hun hdeps
              subst hb d7 d11 d6
              dsimp only
              refine wpOpIn_step rfl (fun K' hK => ?_)
              simp only [pk_true]
              go_simp
              refine ⟨trivial, ?_⟩
              refine (callsIn_wide.2 (HN2.out _)).mono ?_
              rintro e w5 ⟨rfl, z⟩
              exact hK _ _ ⟨b0, b1, b2, b3, b4, b5, true, true, b8, b9, b10, true, true, b13, rfl, rfl, b_next HΦ.out z⟩
            · have hb : b13 = false := hun
              cases ho
              have d6 : b6 = true := hdeps ⟨6, Ground.data⟩ (by simp) rfl
              have d12 : b12 = true := hdeps ⟨12, Ground.data⟩ (by simp) rfl
              clear hun hdeps
              subst hb d6 d12
              dsimp only
              refine wpOpIn_step rfl (fun K' hK => ?_)
              simp only [pk_true]
              go_simp
              exact hK _ _ ⟨b0, b1, b2, b3, b4, b5, true, b7, b8, b9, b10, b11, true, true, rfl, rfl, HΦ.out⟩
          case hdone =>
            rintro La a X ⟨b0, b1, b2, b3, b4, b5, b6, b7, b8, b9, b10, b11, b12, b13, rfl, rfl, hΦ⟩ hr
            have t0 : b0 = true := ready_nil hr (i := 0) (by simp) (by intro o ho; cases ho; intro e he hbd; replace he : e ∈ #[] := he; simp at he)
            subst t0
            have t1 : b1 = true := ready_nil hr (i := 1) (by simp) (by intro o ho; cases ho; intro e he hbd; replace he : e ∈ #[] := he; simp at he)
            subst t1
            have t2 : b2 = true := ready_nil hr (i := 2) (by simp) (by intro o ho; cases ho; intro e he hbd; replace he : e ∈ #[⟨0, Ground.data⟩, ⟨1, Ground.data⟩] := he; simp only [List.mem_toArray, List.mem_cons, List.not_mem_nil, or_false] at he; rcases he with rfl | rfl <;> rfl)
            subst t2
            have t3 : b3 = true := ready_nil hr (i := 3) (by simp) (by intro o ho; cases ho; intro e he hbd; replace he : e ∈ #[⟨2, Ground.data⟩] := he; simp only [List.mem_toArray, List.mem_cons, List.not_mem_nil, or_false] at he; rcases he with rfl <;> rfl)
            subst t3
            have t4 : b4 = true := ready_nil hr (i := 4) (by simp) (by intro o ho; cases ho; intro e he hbd; replace he : e ∈ #[] := he; simp at he)
            subst t4
            have t5 : b5 = true := ready_nil hr (i := 5) (by simp) (by intro o ho; cases ho; intro e he hbd; replace he : e ∈ #[⟨3, Ground.data⟩, ⟨4, Ground.data⟩] := he; simp only [List.mem_toArray, List.mem_cons, List.not_mem_nil, or_false] at he; rcases he with rfl | rfl <;> rfl)
            subst t5
            have t6 : b6 = true := ready_nil hr (i := 6) (by simp) (by intro o ho; cases ho; intro e he hbd; replace he : e ∈ #[⟨5, Ground.data⟩, ⟨5, Ground.chain⟩] := he; simp only [List.mem_toArray, List.mem_cons, List.not_mem_nil, or_false] at he; rcases he with rfl | rfl <;> rfl)
            subst t6
            have t7 : b7 = true := ready_nil hr (i := 7) (by simp) (by intro o ho; cases ho; intro e he hbd; replace he : e ∈ #[⟨6, Ground.guard⟩] := he; simp only [List.mem_toArray, List.mem_cons, List.not_mem_nil, or_false] at he; rcases he with rfl <;> rfl)
            subst t7
            have t8 : b8 = true := ready_nil hr (i := 8) (by simp) (by intro o ho; cases ho; intro e he hbd; replace he : e ∈ #[⟨6, Ground.guard⟩] := he; simp only [List.mem_toArray, List.mem_cons, List.not_mem_nil, or_false] at he; rcases he with rfl <;> rfl)
            subst t8
            have t9 : b9 = true := ready_nil hr (i := 9) (by simp) (by intro o ho; cases ho; intro e he hbd; replace he : e ∈ #[⟨6, Ground.guard⟩] := he; simp only [List.mem_toArray, List.mem_cons, List.not_mem_nil, or_false] at he; rcases he with rfl <;> rfl)
            subst t9
            have t10 : b10 = true := ready_nil hr (i := 10) (by simp) (by intro o ho; cases ho; intro e he hbd; replace he : e ∈ #[⟨8, Ground.data⟩, ⟨9, Ground.data⟩, ⟨6, Ground.guard⟩] := he; simp only [List.mem_toArray, List.mem_cons, List.not_mem_nil, or_false] at he; rcases he with rfl | rfl | rfl <;> rfl)
            subst t10
            have t11 : b11 = true := ready_nil hr (i := 11) (by simp) (by intro o ho; cases ho; intro e he hbd; replace he : e ∈ #[⟨10, Ground.data⟩, ⟨6, Ground.guard⟩] := he; simp only [List.mem_toArray, List.mem_cons, List.not_mem_nil, or_false] at he; rcases he with rfl | rfl <;> rfl)
            subst t11
            have t12 : b12 = true := ready_nil hr (i := 12) (by simp) (by intro o ho; cases ho; intro e he hbd; replace he : e ∈ #[⟨7, Ground.data⟩, ⟨11, Ground.data⟩, ⟨6, Ground.chain⟩, ⟨6, Ground.guard⟩] := he; simp only [List.mem_toArray, List.mem_cons, List.not_mem_nil, or_false] at he; rcases he with rfl | rfl | rfl | rfl <;> rfl)
            subst t12
            have t13 : b13 = true := ready_nil hr (i := 13) (by simp) (by intro o ho; cases ho; intro e he hbd; replace he : e ∈ #[⟨6, Ground.data⟩, ⟨12, Ground.data⟩] := he; simp only [List.mem_toArray, List.mem_cons, List.not_mem_nil, or_false] at he; rcases he with rfl | rfl <;> rfl)
            subst t13
            simp only [pk_true]
            have hG := Hgr.out X hΦ
            go_wp2_with fail
            go_meet
            exact ⟨rfl, hG⟩
      case rest =>
        obtain ⟨rfl, r1, r2, r3, r4, r5⟩ := hcut
        obtain ⟨c0, c1⟩ := r1.2 k hlt2
        rw [Hxy.out] at c0 c1
        simp only at c0 c1
        have hgl := r1.1
        cases bb with
        | true =>
          go_wp2_with (at_builtin; refine wpList_append_own_at _ rfl _ _ 31 rfl w1.heap.size 26 i0 (.agg #[.int .i64 0, .int .i64 0]) 2 16 Try.underlying31 hi hz0 hz1 hz2 rfl (by decide) _ _ _ rfl (r3.alloc _) ⟨wc.heap.size, 0, none⟩ 1 1 [.int .i64 x, .int .i64 y] rfl rfl (cells_two_new _ _ _ _) (by simp [Value.oneCell']) (by unfold maxLen; omega) (by omega) (by have := r5; simp; omega) ?_)
          intro v' w9 hown' hgrow' _ hblk
          have hB9 : Below w.heap.size w w9 := (r4.alloc r4.size _).grown hgrow' (by have := r4.size; simp; omega) (fun j e => by have := (r3.lt j e).1; omega)
          have hf9 : Two w9 w.heap.size 26 p q := (r2.alloc _).kept hgrow' (fun e => by have := (r3.lt _ e.symm).1; omega)
          have hr9 : RowF w9 g N := (r1.below (below_alloc _ _)).kept hgrow' (fun e => by have := (r3.lt _ e).1; omega)
          have hs9 : w1.heap.size ≤ w9.heap.size := by have := hgrow'.size; simp at this; omega
          have ho9 : w9.ownsRow w1.heap.size 26 2 v' (touchL N (p, q) (k + 1)).length (flatF (touchL N (p, q) (k + 1))) := by
            rw [Hts.out]; simp only [if_true, List.length_append, Htn.out, flatF_append]; exact hown'
          have H9 := Lib.hid (And.intro hB9 (And.intro hf9 (And.intro hr9 (And.intro hs9 ho9))))
          clear hB9 hf9 hr9 hs9 ho9 hown' hgrow' hblk r1 r2 r3 r4 r5 c0 c1
          go_wp2_with fail
          go_roundw
          case rel => exact ⟨k + 1, v', rfl, hlt, rfl, H9.out.2.2.1, H9.out.2.1, H9.out.2.2.2.2, H9.out.1, H9.out.2.2.2.1⟩
          case measure => simp [intOf]; omega
        | false =>
          have HG := Lib.hid (And.intro r1 (And.intro r2 (And.intro r3 (And.intro r4 r5))))
          clear r1 r2 r3 r4 r5 c0 c1
          go_wp2_with fail
          go_roundw
          case rel => exact ⟨k + 1, o, rfl, hlt, rfl, HG.out.1, HG.out.2.1, by rw [Hts.out]; simp only [if_false, Bool.false_eq_true, List.append_nil, Htn.out]; exact HG.out.2.2.1, HG.out.2.2.2.1, HG.out.2.2.2.2⟩
          case measure => simp [intOf]; omega
    · obtain rfl : k = L := by omega
      have hcond : ¬ (k : Int) < k := by omega
      have Hown := Lib.hid hown
      have HB := Lib.hid hB
      clear hown hB hrow hf
      go_wp2_with fail
      go_ret
      exact ⟨_, rfl, ownsRow_weak Hown.out (by omega), HB.out⟩
end Go.Proofs.Ytelipknnfagnjaa
