/- newGame: a list of moves as a game with its depths, if it is a tree. -/
import Derived.Test.YtbbidgdgcbnanaaAdopt
namespace Go.Proofs.Ytbbidgdgcbnanaa
set_option linter.unusedVariables false
open Go.RowKit

theorem markI_le {T : Tree} {k : Nat} {D : Nat → Nat} (h : MarkI T k D) : ∀ b j, j ≤ b → D j ≤ j
  | 0, j, hj => by
    obtain rfl : j = 0 := by omega
    rw [h.zero]; exact Nat.le_refl _
  | b + 1, j, hj => by
    rcases Nat.eq_zero_or_pos (D j) with e | e
    · omega
    · obtain ⟨i, hi, hm⟩ := h.has j e
      obtain ⟨k1, k2, k3⟩ := h.kid i j hi hm
      simp only [Int.toNat_natCast] at k3
      have := markI_le h b i (by omega)
      omega
theorem gameN_le {T : Tree} {k : Nat} {D : Nat → Nat} (h : gameN T k = some D) (j : Nat) : D j ≤ j := markI_le (markN_inv (gameN_mark h).1) j j (Nat.le_refl _)
theorem gameN_up {T : Tree} {k : Nat} (h : gameN T k = none) : ∀ d, gameN T (k + d) = none
  | 0 => h
  | d + 1 => by rw [show k + (d + 1) = (k + d) + 1 by omega]; simp only [gameN]; rw [gameN_up h d]; rfl
theorem gameN_no {T : Tree} {k : Nat} (h : gameN T k = none) (hk : k ≤ T.length) : treeB T = false := by
  unfold treeB
  obtain ⟨d, hd⟩ : ∃ d, T.length = k + d := ⟨T.length - k, by omega⟩
  rw [hd, gameN_up h d]; simp
/-- a game in memory: a tree and its depths -/
def GameAt (w : World) (v : Value) (T : Tree) : Prop :=
  ∃ g cap B, v = .agg #[.slice (some ⟨g, 0, none⟩) T.length cap, .slice (some ⟨B, 0, none⟩) T.length T.length] ∧ TreeAt w (some ⟨g, 0, none⟩) T ∧ Deps w B T.length (dep T)
theorem GameAt.below {w w' : World} {v : Value} {T : Tree} (h : GameAt w v T) (hb : Below w.heap.size w w') : GameAt w' v T := by
  obtain ⟨g, cap, B, hv, ht, hd⟩ := h
  exact ⟨g, cap, B, hv, ht.below hb, World.rowIs.of_block hd (hb.block _ hd.lt)⟩
theorem two_set {W : World} {R : Nat} {x y : Value} {t : TypeId} {fr : Nat × Nat} (h : W.heap[R]? = some (.cells #[x, y] t fr)) (u v : Value) :
    ((W.setCell ⟨R, 0, none⟩ u).setCell ⟨R, 1, none⟩ v).cell? ⟨R, 0, none⟩ = some u ∧ ((W.setCell ⟨R, 0, none⟩ u).setCell ⟨R, 1, none⟩ v).cell? ⟨R, 1, none⟩ = some v ∧ ((W.setCell ⟨R, 0, none⟩ u).setCell ⟨R, 1, none⟩ v).heap[R]? = some (.cells #[u, v] t fr) := by
  have h2 : ((W.setCell ⟨R, 0, none⟩ u).setCell ⟨R, 1, none⟩ v).heap[R]? = some (.cells #[u, v] t fr) := by
    simp [World.setCell, Array.getElem?_modify, h]
  exact ⟨by simp only [World.cell?]; rw [h2]; rfl, by simp only [World.cell?]; rw [h2]; rfl, h2⟩
theorem worthB_len (m : Node) : worthB m = if m.1.length = 0 then decide (-100 ≤ m.2 ∧ m.2 ≤ 100) else decide (m.2 = 0) := by
  unfold worthB
  cases m.1 with
  | nil => rfl
  | cons x xs => rfl
set_option maxRecDepth 100000 in
set_option maxHeartbeats 4000000 in
theorem newGame_any (T : Tree) (a : Option Addr) (cap : Nat) (w : World) (ht : TreeAt w a T) (hn : T.length ≤ 1000) (hl : ∀ i, (kidsZ T i).length ≤ 1000000) :
    Calls Try.prog 54 #[.slice a T.length cap] w fun e w' => Below w.heap.size w w' ∧
      ((treeB T = false ∧ e = .returned (.tuple #[.agg #[.slice none 0 0, .slice none 0 0], .bool false])) ∨ (treeB T = true ∧ ∃ gv, e = .returned (.tuple #[gv, .bool true]) ∧ GameAt w' gv T)) := by
  obtain ⟨n, hnn⟩ : ∃ n, T.length = n := ⟨_, rfl⟩
  by_cases h1 : n < 1
  · have hf : treeB T = false := by unfold treeB sizeB; rw [decide_eq_false (by omega), Bool.false_and]
    have Hf := Lib.hid hf
    rw [hnn]
    have h1i : (n : Int) < 1 := by omega
    have hb := Lib.hid (below_alloc w (.cells #[.slice none 0 0, .slice none 0 0] 70))
    clear hf ht hl
    go_enter Try.func54, Try.ntmps54
    go_wp2
    exact bodyPost_ret (v := (.tuple #[.agg #[.slice none 0 0, .slice none 0 0], .bool false])) (by simp [results, Try.results54, go_sem]) rfl ⟨hb.out, .inl ⟨Hf.out, rfl⟩⟩
  · by_cases h2 : n > 60
    · have hf : treeB T = false := by unfold treeB sizeB; rw [decide_eq_false (by omega), Bool.false_and]
      have Hf := Lib.hid hf
      rw [hnn]
      have h2i : (n : Int) > 60 := by omega
      have h1i : ¬ (n : Int) < 1 := by omega
      have hb := Lib.hid (below_alloc w (.cells #[.slice none 0 0, .slice none 0 0] 70))
      clear hf ht hl
      go_enter Try.func54, Try.ntmps54
      go_wp2
      exact bodyPost_ret (v := (.tuple #[.agg #[.slice none 0 0, .slice none 0 0], .bool false])) (by simp [results, Try.results54, go_sem]) rfl ⟨hb.out, .inl ⟨Hf.out, rfl⟩⟩
    · obtain ⟨g, ra0, rc0, rfl, -⟩ := ht.node (i := 0) (by omega)
      have hmk : ∀ w : World, (Instr.makeSlice 27 (.int .i64 (n : Int)) (.int .i64 (n : Int))).run Try.prog w = .ok (.slice (some ⟨w.heap.size, 0, none⟩) n n) (w.alloc (.cells (madeCells #[.int .i64 0] n) 3)) :=
        run_make_row' (P := Try.prog) 27 3 (.int .i64 0) 8 Try.underlying27 info_int rfl .i64 .i64 n (by omega) (by omega)
      have hsz : sizeB T = true := decide_eq_true (by omega)
      have htree : treeB T = (gameN T n).isSome := by unfold treeB; rw [hsz, hnn, Bool.true_and]
      have hdep : ∀ D, gameN T n = some D → dep T = D := fun D h => by unfold dep; rw [hnn, h]; rfl
      have hAd := fun (i : Nat) (D : Nat → Nat) (W : World) (hb : Below w.heap.size w W) (hd : Deps W (w.heap.size + 1) n D) (hi : i < n) (hD : D i ≤ 1000) => hnn ▸ adopt_any T i g cap (w.heap.size + 1) D w W ht hb (by omega) (by omega) hn (hnn ▸ hd) hD (hl i)
      have Hmk := Lib.hid hmk
      have Hdep := Lib.hid hdep
      have Htree := Lib.hid htree
      have Ht := Lib.hid ht
      have Hl := Lib.hid hl
      have Hnn := Lib.hid hnn
      have HAdd := Lib.hid hAd
      rw [hnn]
      have h2i : ¬ (n : Int) > 60 := by omega
      have h1i : ¬ (n : Int) < 1 := by omega
      have Hn1 := Lib.hid (show 1 ≤ n ∧ n ≤ 60 by omega)
      clear hsz htree hdep ht hl hnn hAd h1 h2 hn
      go_enter Try.func54, Try.ntmps54
      go_wp2
      obtain ⟨B0, R0, G0, D0⟩ : Hid (Below w.heap.size w (((w.alloc (.cells #[.slice none 0 0, .slice none 0 0] 70)).alloc (.cells (madeCells #[.int .i64 0] n) 3)).alloc (.cells #[.slice (some ⟨g, 0, none⟩) n cap, .slice (some ⟨w.heap.size + 1, 0, none⟩) n n] 70))) ∧ Hid ((((w.alloc (.cells #[.slice none 0 0, .slice none 0 0] 70)).alloc (.cells (madeCells #[.int .i64 0] n) 3)).alloc (.cells #[.slice (some ⟨g, 0, none⟩) n cap, .slice (some ⟨w.heap.size + 1, 0, none⟩) n n] 70)).heap[w.heap.size]? = some (.cells #[.slice none 0 0, .slice none 0 0] 70)) ∧
          Hid ((((w.alloc (.cells #[.slice none 0 0, .slice none 0 0] 70)).alloc (.cells (madeCells #[.int .i64 0] n) 3)).alloc (.cells #[.slice (some ⟨g, 0, none⟩) n cap, .slice (some ⟨w.heap.size + 1, 0, none⟩) n n] 70)).heap[w.heap.size + 1 + 1]? = some (.cells #[.slice (some ⟨g, 0, none⟩) n cap, .slice (some ⟨w.heap.size + 1, 0, none⟩) n n] 70)) ∧
          Hid (Deps (((w.alloc (.cells #[.slice none 0 0, .slice none 0 0] 70)).alloc (.cells (madeCells #[.int .i64 0] n) 3)).alloc (.cells #[.slice (some ⟨g, 0, none⟩) n cap, .slice (some ⟨w.heap.size + 1, 0, none⟩) n n] 70)) (w.heap.size + 1) n fun _ => 0) := by
        have b0 := below_alloc w (.cells #[.slice none 0 0, .slice none 0 0] 70)
        have k0 := heap_alloc_new w (.cells #[.slice none 0 0, .slice none 0 0] 70)
        have s0 : (w.alloc (.cells #[.slice none 0 0, .slice none 0 0] 70)).heap.size = w.heap.size + 1 := by simp
        generalize w.alloc (.cells #[.slice none 0 0, .slice none 0 0] 70) = w1 at b0 k0 s0 ⊢
        have b1 := below_alloc w1 (.cells (madeCells #[.int .i64 0] n) 3)
        have k1 := World.rowIs_made w1 (.int .i64 0) n 3
        have s1 : (w1.alloc (.cells (madeCells #[.int .i64 0] n) 3)).heap.size = w.heap.size + 1 + 1 := by simp [s0]
        rw [s0] at k1
        generalize w1.alloc (.cells (madeCells #[.int .i64 0] n) 3) = w2 at b1 k1 s1 ⊢
        have b2 := below_alloc w2 (.cells #[.slice (some ⟨g, 0, none⟩) n cap, .slice (some ⟨w.heap.size + 1, 0, none⟩) n n] 70)
        have k2 := heap_alloc_new w2 (.cells #[.slice (some ⟨g, 0, none⟩) n cap, .slice (some ⟨w.heap.size + 1, 0, none⟩) n n] 70)
        rw [s1] at k2
        generalize w2.alloc (.cells #[.slice (some ⟨g, 0, none⟩) n cap, .slice (some ⟨w.heap.size + 1, 0, none⟩) n n] 70) = w3 at b2 k2 ⊢
        exact ⟨b_next (b_next b0 b1) b2, (b2.block _ (by omega)).trans ((b1.block _ (by omega)).trans k0), k2, World.rowIs.of_block k1 (b2.block _ (by omega))⟩
      clear hmk
      go_loopw [5, 6, 23] (fun _ _ v wr => ∃ (k : Nat) (Dk : Nat → Nat), k ≤ n ∧ v = .int .i64 k ∧ Hid (gameN T k = some Dk) ∧ Hid (Deps wr (w.heap.size + 1) n Dk) ∧ Hid (Below w.heap.size w wr) ∧ Hid (wr.heap[w.heap.size]? = some (.cells #[.slice none 0 0, .slice none 0 0] 70)) ∧ Hid (wr.heap[w.heap.size + 1 + 1]? = some (.cells #[.slice (some ⟨g, 0, none⟩) n cap, .slice (some ⟨w.heap.size + 1, 0, none⟩) n n] 70))) (fun _ _ v _ => n - (intOf v).toNat)
      case atStart => exact ⟨0, fun _ => 0, Nat.zero_le _, rfl, rfl, D0, B0, R0, G0⟩
      case round =>
        clear B0 R0 G0 D0
        obtain ⟨k, Dk, hk, rfl, HGN, HDk, HB, HR, HG⟩ := hrel
        by_cases hlt : k < n
        · have hc : (k : Int) < (n : Int) := by omega
          obtain ⟨g', ra, rc, e1, c1, c2, -, -⟩ := (Ht.out.below HB.out).node (i := k) (by rw [Hnn.out]; exact hlt)
          simp only [Option.some.injEq, Addr.mk.injEq, and_true] at e1
          subst e1
          have hN : worthB (nodeAt T k) = false → treeB T = false := fun h => gameN_no (k := k + 1) (by simp only [gameN]; rw [HGN.out]; simp only [Option.bind_some, h]; by_cases h0 : 0 < k ∧ Dk k = 0 <;> simp [h0]) (by rw [Hnn.out]; omega)
          have hN2 : worthB (nodeAt T k) = true → adoptN n k Dk (kidsZ T k) = none → treeB T = false := fun h h3 => gameN_no (k := k + 1) (by simp only [gameN]; rw [HGN.out, Hnn.out]; simp only [Option.bind_some, h, h3]; by_cases h0 : 0 < k ∧ Dk k = 0 <;> simp [h0]) (by rw [Hnn.out]; omega)
          have hN0 : 0 < k → Dk k = 0 → treeB T = false := fun h h3 => gameN_no (k := k + 1) (by simp only [gameN]; rw [HGN.out]; simp only [Option.bind_some]; rw [if_pos ⟨h, h3⟩]) (by rw [Hnn.out]; omega)
          have hdk : Dk k ≤ 1000 := by have := gameN_le HGN.out k; have := Hn1.out; omega
          have HN := Lib.hid hN
          have HN2 := Lib.hid hN2
          have HN0 := Lib.hid hN0
          have Hwb := Lib.hid (worthB_len (nodeAt T k))
          have HAd := Lib.hid fun (W : World) hb hd => HAdd.out k Dk W hb hd hlt hdk
          have HW := Lib.hid fun W => isWorth_any ra (kidsZ T k).length rc (worthOf T k) W
          obtain ⟨l, hle⟩ : ∃ l, (kidsZ T k).length = l := ⟨_, rfl⟩
          obtain ⟨x, hxe⟩ : ∃ x, worthOf T k = x := ⟨_, rfl⟩
          have Hwb : Hid ((if l = 0 then decide (-100 ≤ x ∧ x ≤ 100) else decide (x = 0)) = worthB (nodeAt T k)) := by rw [← hle, ← hxe]; exact (worthB_len (nodeAt T k)).symm
          rw [hle, hxe] at HW
          rw [hle] at c1
          rw [hxe] at c2
          have ba := below_alloc wr (.cells #[.slice ra l rc, .int .i64 x] 62)
          have B2 := Lib.hid (b_next HB.out ba)
          have D2 : Hid (Deps (wr.alloc (.cells #[.slice ra l rc, .int .i64 x] 62)) (w.heap.size + 1) n Dk) := World.rowIs.of_block HDk.out (ba.block _ HDk.out.lt)
          have R2 := Lib.hid ((ba.block _ (Array.getElem?_eq_some_iff.1 HR.out).1).trans HR.out)
          have G2 := Lib.hid ((ba.block _ (Array.getElem?_eq_some_iff.1 HG.out).1).trans HG.out)
          have hg1 : (wr.alloc (.cells #[.slice ra l rc, .int .i64 x] 62)).cell? ⟨w.heap.size + 1 + 1, 1, none⟩ = some (.slice (some ⟨w.heap.size + 1, 0, none⟩) n n) := by simp only [World.cell?]; rw [G2.out]; rfl
          have hdc := World.rowIs.cell D2.out hlt
          have hr0 : (wr.alloc (.cells #[.slice ra l rc, .int .i64 x] 62)).cell? ⟨w.heap.size, 0, none⟩ = some (.slice none 0 0) := by simp only [World.cell?]; rw [R2.out]; rfl
          have hr1 : (wr.alloc (.cells #[.slice ra l rc, .int .i64 x] 62)).cell? ⟨w.heap.size, 1, none⟩ = some (.slice none 0 0) := by simp only [World.cell?]; rw [R2.out]; rfl
          have hf0 : (wr.alloc (.cells #[.slice ra l rc, .int .i64 x] 62)).frozen? ⟨w.heap.size, 0, none⟩ = false := by simp only [World.frozen?]; rw [R2.out]; rfl
          have hf1 : (wr.alloc (.cells #[.slice ra l rc, .int .i64 x] 62)).frozen? ⟨w.heap.size, 1, none⟩ = false := by simp only [World.frozen?]; rw [R2.out]; rfl
          clear hN hN2 hN0 hle hxe ba HB HDk HR HG hdk
          have HY : Hid (¬ (0 < k ∧ Dk k = 0) → worthB (nodeAt T k) = true → ∀ D', adoptN n k Dk (kidsZ T k) = some D' → gameN T (k + 1) = some D') := fun h0 h D' h3 => by
            simp only [gameN]; rw [HGN.out, Hnn.out]; simp only [Option.bind_some]; rw [if_neg h0, h, if_pos rfl, h3]
          by_cases hk0 : k = 0
          · have hk0i : ¬ (k : Int) > 0 := by omega
            have HY := Lib.hid (HY.out (by omega))
            clear hdc hg1 hr0 hr1 hf0 hf1 hk0
            go_wp2_with fail
            refine (HW.out _).mono ?_
            rintro e w3 ⟨rfl, b3⟩
            rw [Hwb.out]
            have B3 := Lib.hid (b_next B2.out b3)
            have R3 := Lib.hid ((Below.block b3 _ (Array.getElem?_eq_some_iff.1 R2.out).1).trans R2.out)
            have G3 := Lib.hid ((Below.block b3 _ (Array.getElem?_eq_some_iff.1 G2.out).1).trans G2.out)
            have D3 : Hid (Deps w3 (w.heap.size + 1) n Dk) := World.rowIs.of_block D2.out (b3.block _ D2.out.lt)
            clear b3 R2 G2 D2 B2
            have rz := R3.out
            cases hwb : worthB (nodeAt T k) with
            | false =>
              have Hno := Lib.hid (HN.out hwb)
              have cr0 : w3.cell? ⟨w.heap.size, 0, none⟩ = some (.slice none 0 0) := by simp [World.cell?, R3.out]
              have cr1 : w3.cell? ⟨w.heap.size, 1, none⟩ = some (.slice none 0 0) := by simp [World.cell?, R3.out]
              have fr0 : w3.frozen? ⟨w.heap.size, 0, none⟩ = false := by simp [World.frozen?, R3.out]
              have fr1 : w3.frozen? ⟨w.heap.size, 1, none⟩ = false := by simp [World.frozen?, R3.out]
              clear rz
              go_wp2
              obtain ⟨r0, r1, -⟩ := two_set R3.out (.slice none 0 0) (.slice none 0 0)
              exact bodyPost_ret (v := (.tuple #[.agg #[.slice none 0 0, .slice none 0 0], .bool false])) (by simp [results, Try.results54, go_sem, r0, r1]) rfl ⟨(B3.out.setCell (Nat.le_refl _) _).setCell (Nat.le_refl _) _, .inl ⟨Hno.out, rfl⟩⟩
            | true =>
              have hAd := HAd.out _ B3.out D3.out
              have HA3 := Lib.hid hAd
              have cg0 : w3.cell? ⟨w.heap.size + 1 + 1, 0, none⟩ = some (.slice (some ⟨g, 0, none⟩) n cap) := by simp [World.cell?, G3.out]
              have cg1 : w3.cell? ⟨w.heap.size + 1 + 1, 1, none⟩ = some (.slice (some ⟨w.heap.size + 1, 0, none⟩) n n) := by simp [World.cell?, G3.out]
              clear hAd rz
              go_wp2_with fail
              refine HA3.out.mono ?_
              rintro e w4 ⟨g4, hres⟩
              have B4 : Hid (Below w.heap.size w w4) := B3.out.grown g4 B3.out.size (fun j e => by cases e; omega)
              have R4 := Lib.hid ((g4.block _ (Array.getElem?_eq_some_iff.1 R3.out).1 (by simp)).trans R3.out)
              have G4 := Lib.hid ((g4.block _ (Array.getElem?_eq_some_iff.1 G3.out).1 (by simp)).trans G3.out)
              clear g4 G3 R3 B3 D3 cg0 cg1 HA3
              rcases hres with ⟨h0, rfl⟩ | ⟨D', h0, rfl, hd4⟩
              · have Hno := Lib.hid (HN2.out hwb h0)
                have cr0 : w4.cell? ⟨w.heap.size, 0, none⟩ = some (.slice none 0 0) := by simp [World.cell?, R4.out]
                have cr1 : w4.cell? ⟨w.heap.size, 1, none⟩ = some (.slice none 0 0) := by simp [World.cell?, R4.out]
                have fr0 : w4.frozen? ⟨w.heap.size, 0, none⟩ = false := by simp [World.frozen?, R4.out]
                have fr1 : w4.frozen? ⟨w.heap.size, 1, none⟩ = false := by simp [World.frozen?, R4.out]
                clear h0
                go_wp2
                obtain ⟨r0, r1, -⟩ := two_set R4.out (.slice none 0 0) (.slice none 0 0)
                exact bodyPost_ret (v := (.tuple #[.agg #[.slice none 0 0, .slice none 0 0], .bool false])) (by simp [results, Try.results54, go_sem, r0, r1]) rfl ⟨(B4.out.setCell (Nat.le_refl _) _).setCell (Nat.le_refl _) _, .inl ⟨Hno.out, rfl⟩⟩
              · have Hyes := Lib.hid (HY.out hwb _ h0)
                have HD4 := Lib.hid hd4
                clear h0 hd4
                have hgo := Lib.hid (show k + 1 ≤ n ∧ k < n ∧ k < 1000 by omega)
                go_wp2
                go_roundw
                case rel => exact ⟨k + 1, D', hgo.out.1, by go_num, Hyes, HD4, B4, R4, G4⟩
                case measure => simp [intOf]; have := hgo.out; omega
          · have hk0i : (k : Int) > 0 := by omega
            by_cases hd0 : Dk k = 0
            · have Hno := Lib.hid (HN0.out (by omega) hd0)
              rw [hd0] at hdc
              go_wp2
              obtain ⟨r0, r1, -⟩ := two_set R2.out (.slice none 0 0) (.slice none 0 0)
              exact bodyPost_ret (v := (.tuple #[.agg #[.slice none 0 0, .slice none 0 0], .bool false])) (by simp [results, Try.results54, go_sem, r0, r1]) rfl ⟨(B2.out.setCell (Nat.le_refl _) _).setCell (Nat.le_refl _) _, .inl ⟨Hno.out, rfl⟩⟩
            · clear hk0
              have HY := Lib.hid (HY.out (fun h => hd0 h.2))
              have hd1 : (((Dk k : Nat) : Int) == 0) = false := by rw [beq_eq_false_iff_ne]; omega
              obtain ⟨dk, hdke⟩ : ∃ dk, Dk k = dk := ⟨_, rfl⟩
              rw [hdke] at hdc hd1 hd0
              clear hdke hr0 hr1 hf0 hf1
              go_wp2_with fail
              refine (HW.out _).mono ?_
              rintro e w3 ⟨rfl, b3⟩
              rw [Hwb.out]
              have B3 := Lib.hid (b_next B2.out b3)
              have R3 := Lib.hid ((Below.block b3 _ (Array.getElem?_eq_some_iff.1 R2.out).1).trans R2.out)
              have G3 := Lib.hid ((Below.block b3 _ (Array.getElem?_eq_some_iff.1 G2.out).1).trans G2.out)
              have D3 : Hid (Deps w3 (w.heap.size + 1) n Dk) := World.rowIs.of_block D2.out (b3.block _ D2.out.lt)
              clear b3 R2 G2 D2 B2
              have rz := R3.out
              cases hwb : worthB (nodeAt T k) with
              | false =>
                have Hno := Lib.hid (HN.out hwb)
                have cr0 : w3.cell? ⟨w.heap.size, 0, none⟩ = some (.slice none 0 0) := by simp [World.cell?, R3.out]
                have cr1 : w3.cell? ⟨w.heap.size, 1, none⟩ = some (.slice none 0 0) := by simp [World.cell?, R3.out]
                have fr0 : w3.frozen? ⟨w.heap.size, 0, none⟩ = false := by simp [World.frozen?, R3.out]
                have fr1 : w3.frozen? ⟨w.heap.size, 1, none⟩ = false := by simp [World.frozen?, R3.out]
                clear rz
                go_wp2
                obtain ⟨r0, r1, -⟩ := two_set R3.out (.slice none 0 0) (.slice none 0 0)
                exact bodyPost_ret (v := (.tuple #[.agg #[.slice none 0 0, .slice none 0 0], .bool false])) (by simp [results, Try.results54, go_sem, r0, r1]) rfl ⟨(B3.out.setCell (Nat.le_refl _) _).setCell (Nat.le_refl _) _, .inl ⟨Hno.out, rfl⟩⟩
              | true =>
                have hAd := HAd.out _ B3.out D3.out
                have HA3 := Lib.hid hAd
                have cg0 : w3.cell? ⟨w.heap.size + 1 + 1, 0, none⟩ = some (.slice (some ⟨g, 0, none⟩) n cap) := by simp [World.cell?, G3.out]
                have cg1 : w3.cell? ⟨w.heap.size + 1 + 1, 1, none⟩ = some (.slice (some ⟨w.heap.size + 1, 0, none⟩) n n) := by simp [World.cell?, G3.out]
                clear hAd rz
                go_wp2_with fail
                refine HA3.out.mono ?_
                rintro e w4 ⟨g4, hres⟩
                have B4 : Hid (Below w.heap.size w w4) := B3.out.grown g4 B3.out.size (fun j e => by cases e; omega)
                have R4 := Lib.hid ((g4.block _ (Array.getElem?_eq_some_iff.1 R3.out).1 (by simp)).trans R3.out)
                have G4 := Lib.hid ((g4.block _ (Array.getElem?_eq_some_iff.1 G3.out).1 (by simp)).trans G3.out)
                clear g4 G3 R3 B3 D3 cg0 cg1 HA3
                rcases hres with ⟨h0, rfl⟩ | ⟨D', h0, rfl, hd4⟩
                · have Hno := Lib.hid (HN2.out hwb h0)
                  have cr0 : w4.cell? ⟨w.heap.size, 0, none⟩ = some (.slice none 0 0) := by simp [World.cell?, R4.out]
                  have cr1 : w4.cell? ⟨w.heap.size, 1, none⟩ = some (.slice none 0 0) := by simp [World.cell?, R4.out]
                  have fr0 : w4.frozen? ⟨w.heap.size, 0, none⟩ = false := by simp [World.frozen?, R4.out]
                  have fr1 : w4.frozen? ⟨w.heap.size, 1, none⟩ = false := by simp [World.frozen?, R4.out]
                  clear h0
                  go_wp2
                  obtain ⟨r0, r1, -⟩ := two_set R4.out (.slice none 0 0) (.slice none 0 0)
                  exact bodyPost_ret (v := (.tuple #[.agg #[.slice none 0 0, .slice none 0 0], .bool false])) (by simp [results, Try.results54, go_sem, r0, r1]) rfl ⟨(B4.out.setCell (Nat.le_refl _) _).setCell (Nat.le_refl _) _, .inl ⟨Hno.out, rfl⟩⟩
                · have Hyes := Lib.hid (HY.out hwb _ h0)
                  have HD4 := Lib.hid hd4
                  clear h0 hd4
                  have hgo := Lib.hid (show k + 1 ≤ n ∧ k < n ∧ k < 1000 by omega)
                  go_wp2
                  go_roundw
                  case rel => exact ⟨k + 1, D', hgo.out.1, by go_num, Hyes, HD4, B4, R4, G4⟩
                  case measure => simp [intOf]; have := hgo.out; omega
        · obtain rfl : k = n := by omega
          have hc : ¬ (k : Int) < (k : Int) := by omega
          have cg0 : wr.cell? ⟨w.heap.size + 1 + 1, 0, none⟩ = some (.slice (some ⟨g, 0, none⟩) k cap) := by simp [World.cell?, HG.out]
          have cg1 : wr.cell? ⟨w.heap.size + 1 + 1, 1, none⟩ = some (.slice (some ⟨w.heap.size + 1, 0, none⟩) k k) := by simp [World.cell?, HG.out]
          have cr0 : wr.cell? ⟨w.heap.size, 0, none⟩ = some (.slice none 0 0) := by simp [World.cell?, HR.out]
          have cr1 : wr.cell? ⟨w.heap.size, 1, none⟩ = some (.slice none 0 0) := by simp [World.cell?, HR.out]
          have fr0 : wr.frozen? ⟨w.heap.size, 0, none⟩ = false := by simp [World.frozen?, HR.out]
          have fr1 : wr.frozen? ⟨w.heap.size, 1, none⟩ = false := by simp [World.frozen?, HR.out]
          go_wp2
          obtain ⟨r0, r1, -⟩ := two_set HR.out (.slice (some ⟨g, 0, none⟩) k cap) (.slice (some ⟨w.heap.size + 1, 0, none⟩) k k)
          have hbe := (HB.out.setCell (p := ⟨w.heap.size, 0, none⟩) (Nat.le_refl _) (.slice (some ⟨g, 0, none⟩) k cap)).setCell (p := ⟨w.heap.size, 1, none⟩) (Nat.le_refl _) (.slice (some ⟨w.heap.size + 1, 0, none⟩) k k)
          refine bodyPost_ret (v := .tuple #[.agg #[.slice (some ⟨g, 0, none⟩) k cap, .slice (some ⟨w.heap.size + 1, 0, none⟩) k k], .bool true]) (by simp [results, Try.results54, go_sem, r0, r1]) rfl ⟨hbe, .inr ⟨by rw [Htree.out, HGN.out]; rfl, _, rfl, g, cap, w.heap.size + 1, by rw [Hnn.out], Ht.out.below hbe, ?_⟩⟩
          rw [Hnn.out, Hdep.out _ HGN.out]
          exact (World.rowIs.setOther (World.rowIs.setOther HDk.out (a := ⟨w.heap.size, 0, none⟩) (by simp) _) (a := ⟨w.heap.size, 1, none⟩) (by simp) _)
end Go.Proofs.Ytbbidgdgcbnanaa
