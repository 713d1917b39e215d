/- Claims: what a leaf costs to learn, or to show. -/
import Derived.Test.YtbbidgdgcbnanaaVal
import Derived.Test.YtbbidgdgcbnanaaOpp
namespace Go.Proofs.Ytbbidgdgcbnanaa
set_option linter.unusedVariables false
open Go.RowKit Go.Maps Go.Sort Go.Shelf

theorem sum_any (a b : Int) (W : World) : Calls Try.prog 70 #[.int .i64 a, .int .i64 b] W fun e w' => e = .returned (.int .i64 (sumW a b)) ∧ w' = W := by
  go_enter Try.func70, Try.ntmps70
  go_wp2
  go_ret
  exact ⟨ret_int (by unfold sumW wrapS wrap64; rfl), rfl⟩
theorem wf_sumW (a b : Int) : Wf (sumW a b) := by
  have := wf_wrap (a + b)
  unfold wrap64 at this
  unfold sumW wrapS
  exact this
/-- the position of a number in a row, or -1 -/
def idxI (xs : List Int) (x : Int) : Int := if x ∈ xs then ((xs.idxOf x : Nat) : Int) else -1
theorem idxI_hit {xs : List Int} {x : Int} {k : Nat} (hk : xs[k]? = some x) (hn : x ∉ xs.take k) : idxI xs x = (k : Int) := by
  obtain ⟨hl, he⟩ := List.getElem?_eq_some_iff.1 hk
  unfold idxI
  rw [if_pos (List.mem_of_getElem? hk)]
  congr 1
  unfold List.idxOf
  rw [List.findIdx_eq hl]
  refine ⟨by simp [he], fun j hj => ?_⟩
  rw [beq_eq_false_iff_ne]
  intro e
  exact hn (by rw [List.mem_take_iff_getElem]; exact ⟨j, by omega, e⟩)
theorem idxI_miss {xs : List Int} {x : Int} (h : x ∉ xs) : idxI xs x = -1 := by unfold idxI; rw [if_neg h]
set_option maxRecDepth 100000 in
set_option maxHeartbeats 4000000 in
theorem Index_any (a : Option Addr) (n cap : Nat) (xs : List Int) (x : Int) (w : World) (hr : Row w a n (intL xs)) (hn : n ≤ 1000000) :
    Calls Try.prog 104 #[.slice a n cap, .int .i64 x] w fun e w' => e = .returned (.int .i64 (idxI xs x)) ∧ w' = w := by
  have hx : xs.length = n := by have := hr.1; simpa [intL] using this
  have Hr := Lib.hid hr
  have Hx := Lib.hid hx
  clear hr hx
  go_enter Try.func104, Try.ntmps104
  go_wp2
  go_loopw [5, 8] (fun _ i wr => ∃ k : Nat, k ≤ n ∧ i = .int .i64 k ∧ Hid (x ∉ xs.take k) ∧ wr = w) (fun _ i _ => n - (intOf i).toNat)
  case atStart => exact ⟨0, Nat.zero_le _, rfl, by unfold Hid; rw [List.take_zero]; exact List.not_mem_nil, rfl⟩
  case round =>
    obtain ⟨k, hk, rfl, HN, rfl⟩ := hrel
    by_cases hlt : k < n
    · have hc : (k : Int) < (n : Int) := by omega
      obtain ⟨y, hy⟩ : ∃ y, xs[k]? = some y := ⟨_, List.getElem?_eq_getElem (by have := Hx.out; omega)⟩
      obtain ⟨g, rfl, cy⟩ := Hr.out.int hlt
      rw [List.getD_eq_getElem?_getD, hy] at cy
      simp only [Option.getD_some] at cy
      by_cases e : x = y
      · have hres := idxI_hit (by rw [hy, e]) HN.out
        have Hres := Lib.hid hres
        subst e
        clear hres hy
        go_wp2
        go_ret
        exact ⟨ret_int Hres.out.symm, rfl⟩
      · have HN2 : Hid (x ∉ xs.take (k + 1)) := by
          unfold Hid
          rw [List.take_add_one, hy]
          intro hm
          rcases List.mem_append.1 hm with h | h
          · exact HN.out h
          · simp at h; exact e h
        have e2 : (x == y) = false := by rw [beq_eq_false_iff_ne]; exact e
        clear e hy
        go_wp2
        go_roundw
        case rel => exact ⟨k + 1, by omega, by go_num, HN2, trivial⟩
        case measure => simp [intOf]; omega
    · obtain rfl : k = n := by omega
      have hc : ¬ (k : Int) < (k : Int) := by omega
      have hres : idxI xs x = -1 := idxI_miss (by have := HN.out; rwa [List.take_of_length_le (by rw [Hx.out]; exact Nat.le_refl _)] at this)
      have Hres := Lib.hid hres
      clear hres
      go_wp2
      go_ret
      exact ⟨ret_int Hres.out.symm, rfl⟩
theorem Contains_any (a : Option Addr) (n cap : Nat) (xs : List Int) (x : Int) (w : World) (hr : Row w a n (intL xs)) (hn : n ≤ 1000000) :
    Calls Try.prog 113 #[.slice a n cap, .int .i64 x] w fun e w' => e = .returned (.bool (decide (x ∈ xs))) ∧ w' = w := by
  have HI := Lib.hid (Index_any a n cap xs x w hr hn)
  obtain ⟨r, hre⟩ : ∃ r, idxI xs x = r := ⟨_, rfl⟩
  have hr0 : Hid (decide (x ∈ xs) = decide (0 ≤ r)) := by
    unfold Hid
    rw [← hre]
    unfold idxI
    by_cases h : x ∈ xs
    · rw [if_pos h, decide_eq_true h]; exact (decide_eq_true (by omega)).symm
    · rw [if_neg h, decide_eq_false h]; rfl
  rw [hre] at HI
  clear hr hre
  go_enter Try.func113, Try.ntmps113
  go_wp2_with fail
  refine HI.out.mono ?_
  rintro e w1 ⟨rfl, rfl⟩
  go_wp2
  go_ret
  exact ⟨ret_bool hr0.out.symm, rfl⟩
/-- who wants a claim, as the program writes it -/
def byI (wanted : Bool) : Int := if wanted then 0 else 1
theorem isMet_any (wanted : Bool) (b x : Int) (w : World) : Calls Try.prog 111 #[.agg #[.int .i64 (byI wanted), .int .i64 b], .int .i64 x] w fun e w' => e = .returned (.bool (metB wanted b x)) ∧ Below w.heap.size w w' := by
  have hb := Lib.hid fun c => below_alloc w (.cells #[.int .i64 c, .int .i64 b] 95)
  cases wanted with
  | true =>
    show Calls Try.prog 111 #[.agg #[.int .i64 0, .int .i64 b], .int .i64 x] w _
    have hr : Hid (metB true b x = decide (b ≤ x)) := rfl
    rw [hr.out]
    go_enter Try.func111, Try.ntmps111
    go_wp2
    go_ret
    exact ⟨rfl, hb.out _⟩
  | false =>
    show Calls Try.prog 111 #[.agg #[.int .i64 1, .int .i64 b], .int .i64 x] w _
    have hr : Hid (metB false b x = decide (x ≤ b)) := rfl
    rw [hr.out]
    go_enter Try.func111, Try.ntmps111
    go_wp2
    go_ret
    exact ⟨rfl, hb.out _⟩
theorem isBound_any (b : Int) (w : World) : Calls Try.prog 77 #[.int .i64 b] w fun e w' => e = .returned (.bool (decide (-1000 ≤ b ∧ b ≤ 1000))) ∧ w' = w := by
  by_cases h1 : -1000 ≤ b
  · by_cases h2 : b ≤ 1000
    · rw [decide_eq_true ⟨h1, h2⟩]
      go_enter Try.func77, Try.ntmps77
      go_wp2
      go_ret
      exact ⟨rfl, rfl⟩
    · rw [decide_eq_false fun h => h2 h.2]
      go_enter Try.func77, Try.ntmps77
      go_wp2
      go_ret
      exact ⟨rfl, rfl⟩
  · rw [decide_eq_false fun h => h1 h.1]
    go_enter Try.func77, Try.ntmps77
    go_wp2
    go_ret
    exact ⟨rfl, rfl⟩
/-- d.toLearn as a function value -/
theorem learn_fn (T : Tree) (g cap : Nat) (dv : Value) (hdv : dv.oneCell' = true) (wanted : Bool) (b : Int) (ka : Option Addr) (kn kc : Nat) (xs : List Int) (w : World) (ht : TreeAt w (some ⟨g, 0, none⟩) T) (hk : Row w ka kn (intL xs)) (hkn : kn ≤ 1000000) (i : Nat) (W : World) (hi : i < T.length) (hW : Below w.heap.size w W) :
    Calls Try.prog 101 #[.agg #[.slice (some ⟨g, 0, none⟩) T.length cap, dv, .int .i64 (byI wanted), .int .i64 b, .slice ka kn kc], .int .i64 i] W fun e w' => e = .returned (.int .i64 (learnP T xs (metB wanted b) i)) ∧ Below W.heap.size W w' := by
  obtain ⟨o, ho⟩ : ∃ o, Obj.cells #[.slice (some ⟨g, 0, none⟩) T.length cap, dv, .int .i64 (byI wanted), .int .i64 b, .slice ka kn kc] 112 (0, 0) = o := ⟨_, rfl⟩
  have hb : Below W.heap.size W (W.alloc o) := below_alloc W o
  have HC := Lib.hid (Contains_any ka kn kc xs (i : Int) (W.alloc o) ((hk.below hW).below hb) hkn)
  have HW := Lib.hid fun X (hX : Below (W.alloc o).heap.size (W.alloc o) X) => worth_fn T g cap dv hdv w ht i X hi (b_next (b_next hW hb) hX)
  have HM := Lib.hid fun x X => isMet_any wanted b x X
  have HB := Lib.hid hb
  have hx : (W.alloc o).heap[W.heap.size]? = some (.cells #[.slice (some ⟨g, 0, none⟩) T.length cap, dv, .int .i64 (byI wanted), .int .i64 b, .slice ka kn kc] 112) := by rw [← ho]; exact heap_alloc_new W _
  have HX := Lib.hid hx
  subst ho
  obtain ⟨y, hy⟩ : ∃ y, byI wanted = y := ⟨_, rfl⟩
  rw [hy] at HC HW HM HB HX ⊢
  have hl : Hid (learnP T xs (metB wanted b) i = if (i : Int) ∈ xs then (if metB wanted b (worthOf T i) then 0 else 61) else 1) := rfl
  clear hk ht hW hb hx hy
  by_cases hm : (i : Int) ∈ xs
  · rw [hl.out, if_pos hm]
    rw [decide_eq_true hm] at HC
    have Hif : Hid (∀ r, metB wanted b (worthOf T i) = r → (if metB wanted b (worthOf T i) = true then (0 : Int) else 61) = if r then 0 else 61) := fun r h => by rw [h]
    obtain ⟨r, hr⟩ : ∃ r, metB wanted b (worthOf T i) = r := ⟨_, rfl⟩
    rw [Hif.out r hr]
    have c2 : (W.alloc (.cells #[.slice (some ⟨g, 0, none⟩) T.length cap, dv, .int .i64 y, .int .i64 b, .slice ka kn kc] 112)).cell? ⟨W.heap.size, 2, none⟩ = some (.int .i64 y) := by simp only [World.cell?]; rw [HX.out]; rfl
    have c3 : (W.alloc (.cells #[.slice (some ⟨g, 0, none⟩) T.length cap, dv, .int .i64 y, .int .i64 b, .slice ka kn kc] 112)).cell? ⟨W.heap.size, 3, none⟩ = some (.int .i64 b) := by simp only [World.cell?]; rw [HX.out]; rfl
    have c0 : (W.alloc (.cells #[.slice (some ⟨g, 0, none⟩) T.length cap, dv, .int .i64 y, .int .i64 b, .slice ka kn kc] 112)).cell? ⟨W.heap.size, 0, none⟩ = some (.slice (some ⟨g, 0, none⟩) T.length cap) := by simp only [World.cell?]; rw [HX.out]; rfl
    have c1 : (W.alloc (.cells #[.slice (some ⟨g, 0, none⟩) T.length cap, dv, .int .i64 y, .int .i64 b, .slice ka kn kc] 112)).cell? ⟨W.heap.size, 1, none⟩ = some dv := by simp only [World.cell?]; rw [HX.out]; rfl
    clear hm hl Hif
    have Hr := Lib.hid hr
    have HMr : Hid (∀ X, Calls Try.prog 111 #[.agg #[.int .i64 y, .int .i64 b], .int .i64 (worthOf T i)] X fun e w' => e = .returned (.bool r) ∧ Below X.heap.size X w') := fun X => by rw [← Hr.out]; exact HM.out _ X
    clear hr HM
    generalize worthOf T i = x at HW HMr
    go_enter Try.func101, Try.ntmps101
    go_wp2_with fail
    refine HC.out.mono ?_
    rintro e w1 ⟨rfl, hw1⟩
    have Hw1 := Lib.hid hw1
    rw [← hw1] at HW HB c0 c1 c2 c3
    have k0 := cell_regrown c0
    have k1 := cell_regrown c1
    have k2 := cell_regrown c2
    have k3 := cell_regrown c3
    have cW : ∀ d os, Calls Try.prog 68 #[.agg #[.slice (some ⟨g, 0, none⟩) T.length cap, dv], .int .i64 i] (grow (redrawn w1 d) os) fun e w'' => e = .returned (.int .i64 x) ∧ ∃ p : Regrown, w'' = grow (redrawn w1 p.d) p.os := fun d os => Calls.regrown_of (HW.out _ (below_regrown w1 d os))
    have cM : ∀ d os, Calls Try.prog 111 #[.agg #[.int .i64 y, .int .i64 b], .int .i64 x] (grow (redrawn w1 d) os) fun e w'' => e = .returned (.bool r) ∧ ∃ p : Regrown, w'' = grow (redrawn w1 p.d) p.os := fun d os => Calls.regrown_of (HMr.out _)
    clear hw1 c0 c1 c2 c3 HC HX
    generalize T.length = n at *
    go_wp2
    refine wp_region_quiet_below (by kernel_rfl) (by kernel_rfl) ?_
    repeat (quiet_step (first | exact cW _ _ | exact cM _ _))
    refine wpQuiet_nil ?_
    intro w4 hw4
    obtain ⟨⟨d4, o4⟩, hw4e⟩ := hw4
    have B4 : Hid (Below W.heap.size W w4) := by unfold Hid; rw [hw4e]; exact b_next HB.out (below_regrown _ _ _)
    clear hw4e k0 k1 k2 k3 cW cM
    cases r with
    | true =>
      go_wp2
      go_ret
      exact ⟨rfl, B4.out⟩
    | false =>
      go_wp2
      go_ret
      exact ⟨rfl, B4.out⟩
  · rw [hl.out, if_neg hm]
    rw [decide_eq_false hm] at HC
    clear hm hl
    go_enter Try.func101, Try.ntmps101
    go_wp2_with fail
    refine HC.out.mono ?_
    rintro e w1 ⟨rfl, rfl⟩
    go_wp2
    go_ret
    exact ⟨rfl, HB.out⟩
end Go.Proofs.Ytbbidgdgcbnanaa
