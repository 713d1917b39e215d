/- The contract of the iterator row: the fractions of a row, in their order. -/
import Derived.Test.YtfelmjanffhahaaDoorPair
namespace Go.Proofs.YtfelmjanffhahaaDoor
set_option linter.unusedVariables false
open Go.RowKit Go.Shelf
attribute [local go_sem] Oper.semAt_some

/-- a place in the row -/
abbrev Pl (N : Nat) := { k : Nat // k < len N }
/-- the first k places -/
def plTo (N k : Nat) : List (Pl N) := (List.range k).filterMap fun t => if h : t < len N then some ⟨t, h⟩ else none
def allPl (N : Nat) : List (Pl N) := plTo N (len N)
theorem plTo_succ {N k : Nat} (hk : k < len N) : plTo N (k + 1) = plTo N k ++ [⟨k, hk⟩] := by
  unfold plTo
  rw [List.range_succ, List.filterMap_append]
  simp [hk]
theorem plTo_len (N : Nat) : ∀ k, k ≤ len N → (plTo N k).length = k
  | 0, _ => rfl
  | k + 1, h => by rw [plTo_succ (by omega), List.length_append, plTo_len N k (by omega)]; rfl
theorem plTo_prefix (N k f : Nat) : plTo N k <+: plTo N (k + f) := by
  unfold plTo
  rw [List.range_add, List.filterMap_append]
  exact List.prefix_append _ _

/-- the numbers of a state up to the end of the row are small -/
theorem st_small {N : Nat} (h1 : 1 ≤ N) (h3 : N ≤ 300) {k : Nat} (hk : k ≤ len N) : Small 200000 (st N k) := by
  have hi := inv_st h1 k
  have hb : ∀ j, j < len N → (st N j).a ≤ 300 := fun j hj => Nat.le_trans ((len_spec h1).1 j hj) (Nat.le_trans (inv_st h1 j).bn h3)
  have hc : (st N k).c * (st N k).b = (st N k).a * (st N k).d + 1 := hi.det
  have key : ∀ s : G, Inv N s → s.a ≤ 600 → Small 200000 s := fun s h ha => by
    have hd := h.det
    have h2 : s.a * s.d ≤ 600 * 300 := Nat.mul_le_mul ha (Nat.le_trans h.dn h3)
    have h4 : s.c * 1 ≤ s.c * s.b := Nat.mul_le_mul_left _ h.b1
    have := h.bn
    have := h.dn
    exact ⟨by omega, by omega, by omega, by omega⟩
  rcases Nat.lt_or_ge k (len N) with h | h
  · exact key _ hi (by have := hb k h; omega)
  · obtain rfl : k = len N := by omega
    have hl := len_two h1
    have hp := inv_st h1 (len N - 1)
    have ha := hb (len N - 1) (by omega)
    have hs : (st N (len N)).a = (st N (len N - 1)).c := by rw [show len N = (len N - 1) + 1 from by omega]; rfl
    have hd := hp.det
    have hle : (st N (len N - 1)).a ≤ (st N (len N - 1)).b := (len_spec h1).1 _ (by omega)
    have hc2 : (st N (len N - 1)).c ≤ 600 := by
      have e1 : (st N (len N - 1)).a * (st N (len N - 1)).d ≤ (st N (len N - 1)).b * (st N (len N - 1)).d := Nat.mul_le_mul_right _ hle
      have e2 : (st N (len N - 1)).c * (st N (len N - 1)).b ≤ ((st N (len N - 1)).d + 1) * (st N (len N - 1)).b := by
        rw [hd, Nat.add_mul, Nat.mul_comm (st N (len N - 1)).d]; have := hp.b1; omega
      have e3 := Nat.le_of_mul_le_mul_right e2 hp.b1
      have := hp.dn
      omega
    exact key _ hi (by omega)

theorem KeepsAt.heap {T : Nat} {W W' : World} (h : KeepsAt T W W') {k : Nat} (hk : T ≤ k) (hl : k < W.heap.size) : W'.heap[k]? = W.heap[k]? := by
  rw [Array.getElem?_eq_getElem hl]; exact h.same k _ hk (Array.getElem?_eq_getElem hl)
def numOf (X : World) (B o : Nat) : Nat := match X.cell? ⟨B, o, none⟩ with | some v => (intOf v).toNat | none => 0
theorem Pair.nums {X : World} {B : Nat} {x y : Nat} (h : Pair X B x y) : numOf X B 0 = x ∧ numOf X B 1 = y := by
  obtain ⟨h0, h1, _⟩ := h.cells
  unfold numOf; rw [h0, h1]; simp [intOf]
theorem meas_lt {N : Nat} {s : G} (h : Inv N s) (ha : s.a ≤ s.b) : N * N * s.a / s.b < N * N * s.c / s.d ∧ N * N * s.a / s.b ≤ N * N := by
  have hb := h.b1
  constructor
  · rw [← Nat.succ_le_iff, Nat.le_div_iff_mul_le h.d1]
    have hq : N * N * s.a / s.b * s.b ≤ N * N * s.a := Nat.div_mul_le_self _ _
    generalize N * N * s.a / s.b = q at *
    refine Nat.le_of_mul_le_mul_right (c := s.b) ?_ hb
    have e1 : (q + 1) * s.d * s.b = q * s.b * s.d + s.b * s.d := by
      rw [Nat.add_mul, Nat.add_mul, Nat.one_mul, Nat.mul_assoc, Nat.mul_comm s.d, Nat.mul_assoc]
    have e2 : N * N * s.c * s.b = N * N * s.a * s.d + N * N := by
      rw [Nat.mul_assoc, h.det, Nat.mul_add, Nat.mul_one, ← Nat.mul_assoc]
    show (q + 1) * s.d * s.b ≤ _
    rw [e1, e2]
    exact Nat.add_le_add (Nat.mul_le_mul_right _ hq) (Nat.mul_le_mul h.bn h.dn)
  · rw [Nat.div_le_iff_le_mul_add_pred hb]
    have := Nat.mul_le_mul_left (N * N) ha
    rw [Nat.mul_comm s.b]; omega

set_option maxRecDepth 100000 in
set_option maxHeartbeats 4000000 in
theorem row1_visits (n : Nat) (hn : 1 ≤ n) (N : Nat) (h1 : 1 ≤ N) (h3 : N ≤ 300) (Be T : Nat) (W : World) (hT : T ≤ Be) (hBe : W.cell? ⟨Be, 0, none⟩ = some (.int .i64 N)) :
    Visits Fence.wide n Tryd.prog 52 #[.pointer (some ⟨Be, 0, none⟩)] (fun x : Pl N => #[frV (fr N x.1)]) T (fun ys => ys = allPl N) (fun pre => pre <+: allPl N) (len N) W := by
  intro l J Jx hJ hJx hY h0
  refine callsIn_of_wp Tryd.func52 rfl trivial ?_ rfl
  simp only [Tryd.ntmps52, List.size_toArray, List.length_cons, List.length_nil, Nat.reduceAdd, Nat.reduceSub, Array.replicate_succ, Array.replicate_zero, List.push_toArray, List.append_toArray, List.nil_append, List.cons_append]
  have hmx : Tryd.prog.follows .mixedOrders = true := by kernel_rfl
  have hlt : Be < W.heap.size := World.block_lt_of_cell? _ _ hBe
  gi_wp2
  rename_i Q' K hK
  have main : ∀ (Bf Bn : Nat) (X : World), Bf ≠ Bn → W.heap.size ≤ Bf → W.heap.size ≤ Bn → Pair X Bf 0 1 → Pair X Bn 1 N → X.cell? ⟨Be, 0, none⟩ = some (.int .i64 N) → J [] X →
      K { tmps := #[.func (.yield l) #[] #[], .pointer (some ⟨Be, 0, none⟩), undef, .pointer (some ⟨Bf, 0, none⟩), .pointer (some ⟨Bn, 0, none⟩), undef, .agg #[.int .i64 0, .int .i64 1], .int .i64 N, .agg #[.int .i64 1, .int .i64 N],
        undef, undef, undef, undef, undef, undef, undef, undef, undef, undef, undef, undef, undef, undef, undef, undef, undef, undef, undef, undef, undef, undef, undef, undef, undef, undef, undef, undef, undef, undef, undef, undef], defers := [] } X := by
    intro Bf Bn X hne hf hn' pf pn hcell hj
    refine hK _ _ ?_
    gi_wp2
    gi_loopw [] (fun wr => ∃ k : Nat, k ≤ len N ∧ J (plTo N k) wr ∧ Pair wr Bf (st N k).a (st N k).b ∧ Pair wr Bn (st N k).c (st N k).d ∧ wr.cell? ⟨Be, 0, none⟩ = some (.int .i64 N))
      (fun wr => N * N + 1 - N * N * numOf wr Bf 0 / numOf wr Bf 1)
    case atStart => exact ⟨0, Nat.zero_le _, hj, pf, pn, hcell⟩
    case round =>
      clear pf pn hcell hj
      obtain ⟨k, hk, hj, pf, pn, hcell⟩ := hrel
      have hi := inv_st h1 k
      by_cases hlk : k < len N
      · have hle := (len_spec h1).1 k hlk
        have hst := st_small h1 h3 (k := k) hk
        have hst2 := st_small h1 h3 (k := k + 1) hlk
        obtain ⟨f1, f2, f3, f4, f5⟩ := step_facts hi
        have hm := meas_lt hi hle
        have hnx : st N (k + 1) = stepG N (st N k) := rfl
        have hfr : fr N k = ((st N k).a, (st N k).b) := rfl
        have hsn := plTo_succ hlk
        obtain ⟨fn, tmps, assign, body, hy, hR⟩ := hY _ ⟨k, hlk⟩ wr hj (by rw [plTo_len N k hk]; exact hlk)
        simp only [hfr] at hy hR
        rw [hnx] at hst2
        generalize st N k = s at *
        obtain ⟨ga, gb, gc, gd⟩ := s
        obtain ⟨s1, s2, s3, s4⟩ := hst
        obtain ⟨_, _, z3, z4⟩ := hst2
        have hdet := hi.det
        have hbn := hi.bn
        have hdn := hi.dn
        have hd1 := hi.d1
        have hb1 := hi.b1
        simp only [stepG] at *
        have htd : Int.tdiv ((N : Int) + gb) gd = (((N + gb) / gd : Nat) : Int) := by rw [← Int.natCast_add]; rfl
        generalize (N + gb) / gd = t at *
        have Hm := Lib.hid hm
        have Hsn := Lib.hid hsn
        have Hnx := Lib.hid hnx
        have HY := Lib.hid hR
        have Hj := Lib.hid hj
        obtain ⟨p0, p1, p2, p3⟩ := pf.cells
        obtain ⟨q0, q1, q2, q3⟩ := pn.cells
        have Pf := Lib.hid pf
        have Pn := Lib.hid pn
        clear hm hsn hnx hR hj pf pn hfr
        unfold frV at hy HY
        simp only at hy HY
        have hcond : (ga : Int) ≤ gb := by omega
        have F2 := Lib.hid f2
        have F3 := Lib.hid f3
        have F4 := Lib.hid f4
        have F5 := Lib.hid f5
        have Z3 := Lib.hid z3
        have Z4 := Lib.hid z4
        have Hi := Lib.hid hi
        have Hd := Lib.hid hdet
        clear f2 f3 f4 f5 z3 z4 hi hdet
        gi_wp2
        refine HY.out.mono ?_
        rintro e' W3 (⟨rfl, hJ3, hk3⟩ | ⟨rfl, hJx3⟩)
        · have Pf3 := Lib.hid (Pf.out.same (hk3.heap (by omega) Pf.out.lt))
          have Pn3 := Lib.hid (Pn.out.same (hk3.heap (by omega) Pn.out.lt))
          have hc3 : W3.cell? ⟨Be, 0, none⟩ = some (.int .i64 N) := (World.cell?_of_block (a := ⟨Be, 0, none⟩) (hk3.heap hT (World.block_lt_of_cell? _ _ hcell))).trans hcell
          clear p0 p1 p2 p3 q0 q1 q2 q3 hcell
          obtain ⟨p0, p1, p2, p3⟩ := Pf3.out.cells
          obtain ⟨q0, q1, q2, q3⟩ := Pn3.out.cells
          have hd0 : ¬ (gd : Int) = 0 := by omega
          have hdb : ((gd : Int) == 0) = false := by simpa using hd0
          have hj3 := Lib.hid hJ3
          have m3 : t ≤ 600 := Nat.le_trans (Nat.le_mul_of_pos_right t hd1) (by have := F4.out; omega)
          have w0 : wrap64 (t : Int) = t := IntWalk.wrap64_in _ (by omega)
          clear hJ3
          gi_wp2
          have f2 := F2.out
          have f3 := F3.out
          have f4 := F4.out
          have z3 := Z3.out
          have z4 := Z4.out
          have m1 : t * gd ≤ 600 := by omega
          have m2 : t * gc ≤ 400000 := by omega
          obtain ⟨mc, hmc⟩ : ∃ m, t * gc = m := ⟨_, rfl⟩
          obtain ⟨md, hmd⟩ : ∃ m, t * gd = m := ⟨_, rfl⟩
          obtain ⟨xa, hxa⟩ : ∃ m, mc - ga = m := ⟨_, rfl⟩
          obtain ⟨xb, hxb⟩ : ∃ m, md - gb = m := ⟨_, rfl⟩
          have w1 : IntKind.i64.wrap ((t : Int) * gc) = mc := by rw [← Int.natCast_mul, hmc]; exact IntWalk.i64_in _ (by omega)
          have w2 : IntKind.i64.wrap ((t : Int) * gd) = md := by rw [← Int.natCast_mul, hmd]; exact IntWalk.i64_in _ (by omega)
          rw [hmc] at f2
          rw [hmd] at f3
          have w3 : IntKind.i64.wrap ((mc : Int) - ga) = xa := by rw [IntWalk.i64_in _ (by omega)]; omega
          have w4 : IntKind.i64.wrap ((md : Int) - gb) = xb := by rw [IntWalk.i64_in _ (by omega)]; omega
          have HA : Hid (xa = t * gc - ga ∧ xb = t * gd - gb) := ⟨by rw [hmc, hxa], by rw [hmd, hxb]⟩
          have hpk := pk_true
          clear hmc hmd hxa hxb m1 m2
          clear f2 f3 f4 z3 z4
          have hne2 : ¬ Bn = Bf := fun e => hne e.symm
          --REG
          rw [w0]
          obtain ⟨r0, r1, r2, r3⟩ := Pair.cells (Pn3.out.same (show (((W3.drew.setCell ⟨Bf, 0, none⟩ (Value.int IntKind.i64 ((gc : Nat) : Int))).setCell ⟨Bf, 1, none⟩ (Value.int IntKind.i64 ((gd : Nat) : Int)))).heap[Bn]? = W3.heap[Bn]? from (Below.heap_setCell _ _ _ _ hne2).trans (Below.heap_setCell _ _ _ _ hne2)))
          refine region_inv' hmx (fun L a X => ∃ b0 b1 b2 b3 b4 b5 b6 b7 b8 b9 b10 b11 b12 b13 b14 b15 b16 b17 : Bool, L = #[b0, b1, b2, b3, b4, b5, b6, b7, b8, b9, b10, b11, b12, b13, b14, b15, b16, b17] ∧ a = { tmps := #[Value.func (Fn.yield l) #[] #[], Value.pointer (some ⟨Be, 0, none⟩), undef, Value.pointer (some ⟨Bf, 0, none⟩), Value.pointer (some ⟨Bn, 0, none⟩), Value.int IntKind.i64 ((t : Nat) : Int), Value.agg #[Value.int IntKind.i64 (0), Value.int IntKind.i64 (1)], Value.int IntKind.i64 ((N : Nat) : Int), Value.agg #[Value.int IntKind.i64 (1), Value.int IntKind.i64 ((N : Nat) : Int)], Value.pointer (some ⟨Bf, 0, none⟩), Value.int IntKind.i64 ((ga : Nat) : Int), Value.pointer (some ⟨Bf, 1, none⟩), Value.int IntKind.i64 ((gb : Nat) : Int), Value.bool true, Value.func (Fn.yield l) #[] #[], Value.agg #[Value.int IntKind.i64 ((ga : Nat) : Int), Value.int IntKind.i64 ((gb : Nat) : Int)], Value.bool true, Value.bool false, Value.int IntKind.i64 ((N : Nat) : Int), Value.pointer (some ⟨Bf, 1, none⟩), Value.int IntKind.i64 ((gb : Nat) : Int), Value.int IntKind.i64 ((N : Int) + (gb : Int)), Value.pointer (some ⟨Bn, 1, none⟩), Value.int IntKind.i64 ((gd : Nat) : Int), Value.int IntKind.i64 ((t : Nat) : Int), pk b0 (Value.agg #[Value.int IntKind.i64 ((gc : Nat) : Int), Value.int IntKind.i64 ((gd : Nat) : Int)]) (u25), pk b1 (Value.int IntKind.i64 ((t : Nat) : Int)) (u26), pk b2 (Value.pointer (some ⟨Bn, 0, none⟩)) (u27), pk b3 (Value.int IntKind.i64 ((gc : Nat) : Int)) (u28), pk b4 (Value.int IntKind.i64 ((mc : Nat) : Int)) (u29), pk b5 (Value.pointer (some ⟨Bf, 0, none⟩)) (u30), pk b6 (Value.int IntKind.i64 ((ga : Nat) : Int)) (u31), pk b7 (Value.int IntKind.i64 ((xa : Nat) : Int)) (u32), pk b8 (Value.int IntKind.i64 ((t : Nat) : Int)) (u33), pk b9 (Value.pointer (some ⟨Bn, 1, none⟩)) (u34), pk b10 (Value.int IntKind.i64 ((gd : Nat) : Int)) (u35), pk b11 (Value.int IntKind.i64 ((md : Nat) : Int)) (u36), pk b12 (Value.pointer (some ⟨Bf, 1, none⟩)) (u37), pk b13 (Value.int IntKind.i64 ((gb : Nat) : Int)) (u38), pk b14 (Value.int IntKind.i64 ((xb : Nat) : Int)) (u39), pk b15 (Value.agg #[Value.int IntKind.i64 ((xa : Nat) : Int), Value.int IntKind.i64 ((xb : Nat) : Int)]) (u40)], defers := [] } ∧ X = (bif b17 then ((((W3.drew.setCell ⟨Bf, 0, none⟩ (Value.int IntKind.i64 ((gc : Nat) : Int))).setCell ⟨Bf, 1, none⟩ (Value.int IntKind.i64 ((gd : Nat) : Int))).setCell ⟨Bn, 0, none⟩ (Value.int IntKind.i64 ((xa : Nat) : Int))).setCell ⟨Bn, 1, none⟩ (Value.int IntKind.i64 ((xb : Nat) : Int))) else bif b16 then ((W3.drew.setCell ⟨Bf, 0, none⟩ (Value.int IntKind.i64 ((gc : Nat) : Int))).setCell ⟨Bf, 1, none⟩ (Value.int IntKind.i64 ((gd : Nat) : Int))) else W3.drew) ∧ (b16 = true → b0 = true ∧ b5 = true ∧ b6 = true ∧ b12 = true ∧ b13 = true) ∧ (b17 = true → b0 = true ∧ b1 = true ∧ b2 = true ∧ b3 = true ∧ b4 = true ∧ b5 = true ∧ b6 = true ∧ b7 = true ∧ b8 = true ∧ b9 = true ∧ b10 = true ∧ b11 = true ∧ b12 = true ∧ b13 = true ∧ b14 = true ∧ b15 = true ∧ b16 = true)) { tmps := #[Value.func (Fn.yield l) #[] #[], Value.pointer (some ⟨Be, 0, none⟩), undef, Value.pointer (some ⟨Bf, 0, none⟩), Value.pointer (some ⟨Bn, 0, none⟩), Value.int IntKind.i64 ((t : Nat) : Int), Value.agg #[Value.int IntKind.i64 (0), Value.int IntKind.i64 (1)], Value.int IntKind.i64 ((N : Nat) : Int), Value.agg #[Value.int IntKind.i64 (1), Value.int IntKind.i64 ((N : Nat) : Int)], Value.pointer (some ⟨Bf, 0, none⟩), Value.int IntKind.i64 ((ga : Nat) : Int), Value.pointer (some ⟨Bf, 1, none⟩), Value.int IntKind.i64 ((gb : Nat) : Int), Value.bool true, Value.func (Fn.yield l) #[] #[], Value.agg #[Value.int IntKind.i64 ((ga : Nat) : Int), Value.int IntKind.i64 ((gb : Nat) : Int)], Value.bool true, Value.bool false, Value.int IntKind.i64 ((N : Nat) : Int), Value.pointer (some ⟨Bf, 1, none⟩), Value.int IntKind.i64 ((gb : Nat) : Int), Value.int IntKind.i64 ((N : Int) + (gb : Int)), Value.pointer (some ⟨Bn, 1, none⟩), Value.int IntKind.i64 ((gd : Nat) : Int), Value.int IntKind.i64 ((t : Nat) : Int), Value.agg #[Value.int IntKind.i64 ((gc : Nat) : Int), Value.int IntKind.i64 ((gd : Nat) : Int)], Value.int IntKind.i64 ((t : Nat) : Int), Value.pointer (some ⟨Bn, 0, none⟩), Value.int IntKind.i64 ((gc : Nat) : Int), Value.int IntKind.i64 ((mc : Nat) : Int), Value.pointer (some ⟨Bf, 0, none⟩), Value.int IntKind.i64 ((ga : Nat) : Int), Value.int IntKind.i64 ((xa : Nat) : Int), Value.int IntKind.i64 ((t : Nat) : Int), Value.pointer (some ⟨Bn, 1, none⟩), Value.int IntKind.i64 ((gd : Nat) : Int), Value.int IntKind.i64 ((md : Nat) : Int), Value.pointer (some ⟨Bf, 1, none⟩), Value.int IntKind.i64 ((gb : Nat) : Int), Value.int IntKind.i64 ((xb : Nat) : Int), Value.agg #[Value.int IntKind.i64 ((xa : Nat) : Int), Value.int IntKind.i64 ((xb : Nat) : Int)]], defers := [] } ((((W3.drew.setCell ⟨Bf, 0, none⟩ (Value.int IntKind.i64 ((gc : Nat) : Int))).setCell ⟨Bf, 1, none⟩ (Value.int IntKind.i64 ((gd : Nat) : Int))).setCell ⟨Bn, 0, none⟩ (Value.int IntKind.i64 ((xa : Nat) : Int))).setCell ⟨Bn, 1, none⟩ (Value.int IntKind.i64 ((xb : Nat) : Int))) ?h0 ?hstep ?hdone ?hfin
          case h0 => exact ⟨false, false, false, false, false, false, false, false, false, false, false, false, false, false, false, false, false, false, rfl, rfl, rfl, (fun h => by cases h), (fun h => by cases h)⟩
          case hstep =>
            rintro Q L a X ⟨b0, b1, b2, b3, b4, b5, b6, b7, b8, b9, b10, b11, b12, b13, b14, b15, b16, b17, rfl, rfl, rfl, k16, k17⟩ i hi
            have K16 := Lib.hid k16
            have K17 := Lib.hid k17
            clear k16 k17
            obtain ⟨hun, o, ho, hdeps⟩ := mem_ready.1 hi
            clear hi
            have hi : i < 18 := (Array.getElem?_eq_some_iff.1 ho).1
            have hor : i = 0 ∨ i = 1 ∨ i = 2 ∨ i = 3 ∨ i = 4 ∨ i = 5 ∨ i = 6 ∨ i = 7 ∨ i = 8 ∨ i = 9 ∨ i = 10 ∨ i = 11 ∨ i = 12 ∨ i = 13 ∨ i = 14 ∨ i = 15 ∨ i = 16 ∨ i = 17 := by omega
            clear hi
            rcases hor with rfl | rfl | rfl | rfl | rfl | rfl | rfl | rfl | rfl | rfl | rfl | rfl | rfl | rfl | rfl | rfl | rfl | rfl
            · have hb : b0 = false := hun
              cases ho
              clear hun hdeps
              have e16 : b16 = false := by cases h : b16 with | false => rfl | true => exact absurd ((K16.out h).1) (by rw [hb]; decide)
              have e17 : b17 = false := by cases h : b17 with | false => rfl | true => exact absurd ((K17.out h).1) (by rw [hb]; decide)
              subst hb e16 e17
              all_goals dsimp only
              refine wpOpIn_step rfl (fun K' hK => ?_)
              all_goals go_simp
              all_goals exact hK _ _ ⟨true, b1, b2, b3, b4, b5, b6, b7, b8, b9, b10, b11, b12, b13, b14, b15, false, false, rfl, rfl, rfl, (fun h => by cases h), (fun h => by cases h)⟩
            · have hb : b1 = false := hun
              cases ho
              clear hun hdeps
              have e17 : b17 = false := by cases h : b17 with | false => rfl | true => exact absurd ((K17.out h).2.1) (by rw [hb]; decide)
              subst hb e17
              all_goals dsimp only
              refine wpOpIn_step rfl (fun K' hK => ?_)
              all_goals go_simp
              all_goals exact hK _ _ ⟨b0, true, b2, b3, b4, b5, b6, b7, b8, b9, b10, b11, b12, b13, b14, b15, b16, false, rfl, rfl, rfl, K16.out, (fun h => by cases h)⟩
            · have hb : b2 = false := hun
              cases ho
              clear hun hdeps
              have e17 : b17 = false := by cases h : b17 with | false => rfl | true => exact absurd ((K17.out h).2.2.1) (by rw [hb]; decide)
              subst hb e17
              all_goals dsimp only
              refine wpOpIn_step rfl (fun K' hK => ?_)
              all_goals go_simp
              all_goals exact hK _ _ ⟨b0, b1, true, b3, b4, b5, b6, b7, b8, b9, b10, b11, b12, b13, b14, b15, b16, false, rfl, rfl, rfl, K16.out, (fun h => by cases h)⟩
            · have hb : b3 = false := hun
              cases ho
              have d2 : b2 = true := hdeps ⟨2, Ground.data⟩ (by simp) rfl
              clear hun hdeps
              have e17 : b17 = false := by cases h : b17 with | false => rfl | true => exact absurd ((K17.out h).2.2.2.1) (by rw [hb]; decide)
              subst hb d2 e17
              cases b16
              all_goals dsimp only
              all_goals refine wpOpIn_step rfl (fun K' hK => ?_)
              all_goals go_simp
              all_goals exact hK _ _ ⟨b0, b1, true, true, b4, b5, b6, b7, b8, b9, b10, b11, b12, b13, b14, b15, _, false, rfl, rfl, rfl, K16.out, (fun h => by cases h)⟩
            · have hb : b4 = false := hun
              cases ho
              have d1 : b1 = true := hdeps ⟨1, Ground.data⟩ (by simp) rfl
              have d3 : b3 = true := hdeps ⟨3, Ground.data⟩ (by simp) rfl
              clear hun hdeps
              have e17 : b17 = false := by cases h : b17 with | false => rfl | true => exact absurd ((K17.out h).2.2.2.2.1) (by rw [hb]; decide)
              subst hb d1 d3 e17
              all_goals dsimp only
              refine wpOpIn_step rfl (fun K' hK => ?_)
              all_goals go_simp
              all_goals exact hK _ _ ⟨b0, true, b2, true, true, b5, b6, b7, b8, b9, b10, b11, b12, b13, b14, b15, b16, false, rfl, rfl, rfl, K16.out, (fun h => by cases h)⟩
            · have hb : b5 = false := hun
              cases ho
              clear hun hdeps
              have e16 : b16 = false := by cases h : b16 with | false => rfl | true => exact absurd ((K16.out h).2.1) (by rw [hb]; decide)
              have e17 : b17 = false := by cases h : b17 with | false => rfl | true => exact absurd ((K17.out h).2.2.2.2.2.1) (by rw [hb]; decide)
              subst hb e16 e17
              all_goals dsimp only
              refine wpOpIn_step rfl (fun K' hK => ?_)
              all_goals go_simp
              all_goals exact hK _ _ ⟨b0, b1, b2, b3, b4, true, b6, b7, b8, b9, b10, b11, b12, b13, b14, b15, false, false, rfl, rfl, rfl, (fun h => by cases h), (fun h => by cases h)⟩
            · have hb : b6 = false := hun
              cases ho
              have d5 : b5 = true := hdeps ⟨5, Ground.data⟩ (by simp) rfl
              clear hun hdeps
              have e16 : b16 = false := by cases h : b16 with | false => rfl | true => exact absurd ((K16.out h).2.2.1) (by rw [hb]; decide)
              have e17 : b17 = false := by cases h : b17 with | false => rfl | true => exact absurd ((K17.out h).2.2.2.2.2.2.1) (by rw [hb]; decide)
              subst hb d5 e16 e17
              all_goals dsimp only
              refine wpOpIn_step rfl (fun K' hK => ?_)
              all_goals go_simp
              all_goals exact hK _ _ ⟨b0, b1, b2, b3, b4, true, true, b7, b8, b9, b10, b11, b12, b13, b14, b15, false, false, rfl, rfl, rfl, (fun h => by cases h), (fun h => by cases h)⟩
            · have hb : b7 = false := hun
              cases ho
              have d4 : b4 = true := hdeps ⟨4, Ground.data⟩ (by simp) rfl
              have d6 : b6 = true := hdeps ⟨6, Ground.data⟩ (by simp) rfl
              clear hun hdeps
              have e17 : b17 = false := by cases h : b17 with | false => rfl | true => exact absurd ((K17.out h).2.2.2.2.2.2.2.1) (by rw [hb]; decide)
              subst hb d4 d6 e17
              all_goals dsimp only
              refine wpOpIn_step rfl (fun K' hK => ?_)
              all_goals go_simp
              all_goals exact hK _ _ ⟨b0, b1, b2, b3, true, b5, true, true, b8, b9, b10, b11, b12, b13, b14, b15, b16, false, rfl, rfl, rfl, K16.out, (fun h => by cases h)⟩
            · have hb : b8 = false := hun
              cases ho
              clear hun hdeps
              have e17 : b17 = false := by cases h : b17 with | false => rfl | true => exact absurd ((K17.out h).2.2.2.2.2.2.2.2.1) (by rw [hb]; decide)
              subst hb e17
              all_goals dsimp only
              refine wpOpIn_step rfl (fun K' hK => ?_)
              all_goals go_simp
              all_goals exact hK _ _ ⟨b0, b1, b2, b3, b4, b5, b6, b7, true, b9, b10, b11, b12, b13, b14, b15, b16, false, rfl, rfl, rfl, K16.out, (fun h => by cases h)⟩
            · have hb : b9 = false := hun
              cases ho
              clear hun hdeps
              have e17 : b17 = false := by cases h : b17 with | false => rfl | true => exact absurd ((K17.out h).2.2.2.2.2.2.2.2.2.1) (by rw [hb]; decide)
              subst hb e17
              all_goals dsimp only
              refine wpOpIn_step rfl (fun K' hK => ?_)
              all_goals go_simp
              all_goals exact hK _ _ ⟨b0, b1, b2, b3, b4, b5, b6, b7, b8, true, b10, b11, b12, b13, b14, b15, b16, false, rfl, rfl, rfl, K16.out, (fun h => by cases h)⟩
            · have hb : b10 = false := hun
              cases ho
              have d9 : b9 = true := hdeps ⟨9, Ground.data⟩ (by simp) rfl
              clear hun hdeps
              have e17 : b17 = false := by cases h : b17 with | false => rfl | true => exact absurd ((K17.out h).2.2.2.2.2.2.2.2.2.2.1) (by rw [hb]; decide)
              subst hb d9 e17
              cases b16
              all_goals dsimp only
              all_goals refine wpOpIn_step rfl (fun K' hK => ?_)
              all_goals go_simp
              all_goals exact hK _ _ ⟨b0, b1, b2, b3, b4, b5, b6, b7, b8, true, true, b11, b12, b13, b14, b15, _, false, rfl, rfl, rfl, K16.out, (fun h => by cases h)⟩
            · have hb : b11 = false := hun
              cases ho
              have d8 : b8 = true := hdeps ⟨8, Ground.data⟩ (by simp) rfl
              have d10 : b10 = true := hdeps ⟨10, Ground.data⟩ (by simp) rfl
              clear hun hdeps
              have e17 : b17 = false := by cases h : b17 with | false => rfl | true => exact absurd ((K17.out h).2.2.2.2.2.2.2.2.2.2.2.1) (by rw [hb]; decide)
              subst hb d8 d10 e17
              all_goals dsimp only
              refine wpOpIn_step rfl (fun K' hK => ?_)
              all_goals go_simp
              all_goals exact hK _ _ ⟨b0, b1, b2, b3, b4, b5, b6, b7, true, b9, true, true, b12, b13, b14, b15, b16, false, rfl, rfl, rfl, K16.out, (fun h => by cases h)⟩
            · have hb : b12 = false := hun
              cases ho
              clear hun hdeps
              have e16 : b16 = false := by cases h : b16 with | false => rfl | true => exact absurd ((K16.out h).2.2.2.1) (by rw [hb]; decide)
              have e17 : b17 = false := by cases h : b17 with | false => rfl | true => exact absurd ((K17.out h).2.2.2.2.2.2.2.2.2.2.2.2.1) (by rw [hb]; decide)
              subst hb e16 e17
              all_goals dsimp only
              refine wpOpIn_step rfl (fun K' hK => ?_)
              all_goals go_simp
              all_goals exact hK _ _ ⟨b0, b1, b2, b3, b4, b5, b6, b7, b8, b9, b10, b11, true, b13, b14, b15, false, false, rfl, rfl, rfl, (fun h => by cases h), (fun h => by cases h)⟩
            · have hb : b13 = false := hun
              cases ho
              have d12 : b12 = true := hdeps ⟨12, Ground.data⟩ (by simp) rfl
              clear hun hdeps
              have e16 : b16 = false := by cases h : b16 with | false => rfl | true => exact absurd ((K16.out h).2.2.2.2) (by rw [hb]; decide)
              have e17 : b17 = false := by cases h : b17 with | false => rfl | true => exact absurd ((K17.out h).2.2.2.2.2.2.2.2.2.2.2.2.2.1) (by rw [hb]; decide)
              subst hb d12 e16 e17
              all_goals dsimp only
              refine wpOpIn_step rfl (fun K' hK => ?_)
              all_goals go_simp
              all_goals exact hK _ _ ⟨b0, b1, b2, b3, b4, b5, b6, b7, b8, b9, b10, b11, true, true, b14, b15, false, false, rfl, rfl, rfl, (fun h => by cases h), (fun h => by cases h)⟩
            · have hb : b14 = false := hun
              cases ho
              have d11 : b11 = true := hdeps ⟨11, Ground.data⟩ (by simp) rfl
              have d13 : b13 = true := hdeps ⟨13, Ground.data⟩ (by simp) rfl
              clear hun hdeps
              have e17 : b17 = false := by cases h : b17 with | false => rfl | true => exact absurd ((K17.out h).2.2.2.2.2.2.2.2.2.2.2.2.2.2.1) (by rw [hb]; decide)
              subst hb d11 d13 e17
              all_goals dsimp only
              refine wpOpIn_step rfl (fun K' hK => ?_)
              all_goals go_simp
              all_goals exact hK _ _ ⟨b0, b1, b2, b3, b4, b5, b6, b7, b8, b9, b10, true, b12, true, true, b15, b16, false, rfl, rfl, rfl, K16.out, (fun h => by cases h)⟩
            · have hb : b15 = false := hun
              cases ho
              have d7 : b7 = true := hdeps ⟨7, Ground.data⟩ (by simp) rfl
              have d14 : b14 = true := hdeps ⟨14, Ground.data⟩ (by simp) rfl
              clear hun hdeps
              have e17 : b17 = false := by cases h : b17 with | false => rfl | true => exact absurd ((K17.out h).2.2.2.2.2.2.2.2.2.2.2.2.2.2.2.1) (by rw [hb]; decide)
              subst hb d7 d14 e17
              all_goals dsimp only
              refine wpOpIn_step rfl (fun K' hK => ?_)
              all_goals go_simp
              all_goals exact hK _ _ ⟨b0, b1, b2, b3, b4, b5, b6, true, b8, b9, b10, b11, b12, b13, true, true, b16, false, rfl, rfl, rfl, K16.out, (fun h => by cases h)⟩
            · have hb : b16 = false := hun
              cases ho
              have d0 : b0 = true := hdeps ⟨0, Ground.data⟩ (by simp) rfl
              have d5 : b5 = true := hdeps ⟨5, Ground.phase⟩ (by simp) rfl
              have d6 : b6 = true := hdeps ⟨6, Ground.phase⟩ (by simp) rfl
              have d12 : b12 = true := hdeps ⟨12, Ground.phase⟩ (by simp) rfl
              have d13 : b13 = true := hdeps ⟨13, Ground.phase⟩ (by simp) rfl
              clear hun hdeps
              have e17 : b17 = false := by cases h : b17 with | false => rfl | true => exact absurd ((K17.out h).2.2.2.2.2.2.2.2.2.2.2.2.2.2.2.2) (by rw [hb]; decide)
              subst hb d0 d5 d6 d12 d13 e17
              all_goals dsimp only
              refine wpOpIn_step rfl (fun K' hK => ?_)
              all_goals go_simp
              all_goals exact hK _ _ ⟨true, b1, b2, b3, b4, true, true, b7, b8, b9, b10, b11, true, true, b14, b15, true, false, rfl, rfl, rfl, (fun _ => ⟨rfl, rfl, rfl, rfl, rfl⟩), (fun h => by cases h)⟩
            · have hb : b17 = false := hun
              cases ho
              have d15 : b15 = true := hdeps ⟨15, Ground.data⟩ (by simp) rfl
              have d16 : b16 = true := hdeps ⟨16, Ground.chain⟩ (by simp) rfl
              have d0 : b0 = true := hdeps ⟨0, Ground.phase⟩ (by simp) rfl
              have d1 : b1 = true := hdeps ⟨1, Ground.phase⟩ (by simp) rfl
              have d2 : b2 = true := hdeps ⟨2, Ground.phase⟩ (by simp) rfl
              have d3 : b3 = true := hdeps ⟨3, Ground.phase⟩ (by simp) rfl
              have d4 : b4 = true := hdeps ⟨4, Ground.phase⟩ (by simp) rfl
              have d5 : b5 = true := hdeps ⟨5, Ground.phase⟩ (by simp) rfl
              have d6 : b6 = true := hdeps ⟨6, Ground.phase⟩ (by simp) rfl
              have d7 : b7 = true := hdeps ⟨7, Ground.phase⟩ (by simp) rfl
              have d8 : b8 = true := hdeps ⟨8, Ground.phase⟩ (by simp) rfl
              have d9 : b9 = true := hdeps ⟨9, Ground.phase⟩ (by simp) rfl
              have d10 : b10 = true := hdeps ⟨10, Ground.phase⟩ (by simp) rfl
              have d11 : b11 = true := hdeps ⟨11, Ground.phase⟩ (by simp) rfl
              have d12 : b12 = true := hdeps ⟨12, Ground.phase⟩ (by simp) rfl
              have d13 : b13 = true := hdeps ⟨13, Ground.phase⟩ (by simp) rfl
              have d14 : b14 = true := hdeps ⟨14, Ground.phase⟩ (by simp) rfl
              clear hun hdeps
              subst hb d15 d16 d0 d1 d2 d3 d4 d5 d6 d7 d8 d9 d10 d11 d12 d13 d14
              all_goals dsimp only
              refine wpOpIn_step rfl (fun K' hK => ?_)
              all_goals go_simp
              all_goals exact hK _ _ ⟨true, true, true, true, true, true, true, true, true, true, true, true, true, true, true, true, true, true, rfl, rfl, rfl, K16.out, (fun _ => ⟨rfl, rfl, rfl, rfl, rfl, rfl, rfl, rfl, rfl, rfl, rfl, rfl, rfl, rfl, rfl, rfl, rfl⟩)⟩
          case hdone =>
            rintro L a X ⟨b0, b1, b2, b3, b4, b5, b6, b7, b8, b9, b10, b11, b12, b13, b14, b15, b16, b17, rfl, rfl, rfl, -, -⟩ hr
            have t0 : b0 = true := ready_nil hr (i := 0) (by simp) (by intro o ho; cases ho; intro e he hbd; replace he : e ∈ #[] := he; simp at he)
            subst t0
            have t1 : b1 = true := ready_nil hr (i := 1) (by simp) (by intro o ho; cases ho; intro e he hbd; replace he : e ∈ #[] := he; simp at he)
            subst t1
            have t2 : b2 = true := ready_nil hr (i := 2) (by simp) (by intro o ho; cases ho; intro e he hbd; replace he : e ∈ #[] := he; simp at he)
            subst t2
            have t3 : b3 = true := ready_nil hr (i := 3) (by simp) (by intro o ho; cases ho; intro e he hbd; replace he : e ∈ #[⟨2, Ground.data⟩] := he; simp only [List.mem_toArray, List.mem_cons, List.not_mem_nil, or_false] at he; rcases he with rfl <;> first | rfl | exact absurd hbd (by decide))
            subst t3
            have t4 : b4 = true := ready_nil hr (i := 4) (by simp) (by intro o ho; cases ho; intro e he hbd; replace he : e ∈ #[⟨1, Ground.data⟩, ⟨3, Ground.data⟩] := he; simp only [List.mem_toArray, List.mem_cons, List.not_mem_nil, or_false] at he; rcases he with rfl | rfl <;> first | rfl | exact absurd hbd (by decide))
            subst t4
            have t5 : b5 = true := ready_nil hr (i := 5) (by simp) (by intro o ho; cases ho; intro e he hbd; replace he : e ∈ #[] := he; simp at he)
            subst t5
            have t6 : b6 = true := ready_nil hr (i := 6) (by simp) (by intro o ho; cases ho; intro e he hbd; replace he : e ∈ #[⟨5, Ground.data⟩] := he; simp only [List.mem_toArray, List.mem_cons, List.not_mem_nil, or_false] at he; rcases he with rfl <;> first | rfl | exact absurd hbd (by decide))
            subst t6
            have t7 : b7 = true := ready_nil hr (i := 7) (by simp) (by intro o ho; cases ho; intro e he hbd; replace he : e ∈ #[⟨4, Ground.data⟩, ⟨6, Ground.data⟩] := he; simp only [List.mem_toArray, List.mem_cons, List.not_mem_nil, or_false] at he; rcases he with rfl | rfl <;> first | rfl | exact absurd hbd (by decide))
            subst t7
            have t8 : b8 = true := ready_nil hr (i := 8) (by simp) (by intro o ho; cases ho; intro e he hbd; replace he : e ∈ #[] := he; simp at he)
            subst t8
            have t9 : b9 = true := ready_nil hr (i := 9) (by simp) (by intro o ho; cases ho; intro e he hbd; replace he : e ∈ #[] := he; simp at he)
            subst t9
            have t10 : b10 = true := ready_nil hr (i := 10) (by simp) (by intro o ho; cases ho; intro e he hbd; replace he : e ∈ #[⟨9, Ground.data⟩] := he; simp only [List.mem_toArray, List.mem_cons, List.not_mem_nil, or_false] at he; rcases he with rfl <;> first | rfl | exact absurd hbd (by decide))
            subst t10
            have t11 : b11 = true := ready_nil hr (i := 11) (by simp) (by intro o ho; cases ho; intro e he hbd; replace he : e ∈ #[⟨8, Ground.data⟩, ⟨10, Ground.data⟩] := he; simp only [List.mem_toArray, List.mem_cons, List.not_mem_nil, or_false] at he; rcases he with rfl | rfl <;> first | rfl | exact absurd hbd (by decide))
            subst t11
            have t12 : b12 = true := ready_nil hr (i := 12) (by simp) (by intro o ho; cases ho; intro e he hbd; replace he : e ∈ #[] := he; simp at he)
            subst t12
            have t13 : b13 = true := ready_nil hr (i := 13) (by simp) (by intro o ho; cases ho; intro e he hbd; replace he : e ∈ #[⟨12, Ground.data⟩] := he; simp only [List.mem_toArray, List.mem_cons, List.not_mem_nil, or_false] at he; rcases he with rfl <;> first | rfl | exact absurd hbd (by decide))
            subst t13
            have t14 : b14 = true := ready_nil hr (i := 14) (by simp) (by intro o ho; cases ho; intro e he hbd; replace he : e ∈ #[⟨11, Ground.data⟩, ⟨13, Ground.data⟩] := he; simp only [List.mem_toArray, List.mem_cons, List.not_mem_nil, or_false] at he; rcases he with rfl | rfl <;> first | rfl | exact absurd hbd (by decide))
            subst t14
            have t15 : b15 = true := ready_nil hr (i := 15) (by simp) (by intro o ho; cases ho; intro e he hbd; replace he : e ∈ #[⟨7, Ground.data⟩, ⟨14, Ground.data⟩] := he; simp only [List.mem_toArray, List.mem_cons, List.not_mem_nil, or_false] at he; rcases he with rfl | rfl <;> first | rfl | exact absurd hbd (by decide))
            subst t15
            have t16 : b16 = true := ready_nil hr (i := 16) (by simp) (by intro o ho; cases ho; intro e he hbd; replace he : e ∈ #[⟨0, Ground.data⟩, ⟨0, Ground.phase⟩, ⟨1, Ground.textOnly Departure.lateStores⟩, ⟨2, Ground.textOnly Departure.lateStores⟩, ⟨3, Ground.textOnly Departure.lateStores⟩, ⟨4, Ground.textOnly Departure.lateStores⟩, ⟨5, Ground.phase⟩, ⟨6, Ground.phase⟩, ⟨7, Ground.textOnly Departure.lateStoresUnsure⟩, ⟨8, Ground.textOnly Departure.lateStores⟩, ⟨9, Ground.textOnly Departure.lateStores⟩, ⟨10, Ground.textOnly Departure.lateStores⟩, ⟨11, Ground.textOnly Departure.lateStores⟩, ⟨12, Ground.phase⟩, ⟨13, Ground.phase⟩, ⟨14, Ground.textOnly Departure.lateStoresUnsure⟩, ⟨15, Ground.textOnly Departure.lateStoresUnsure⟩] := he; simp only [List.mem_toArray, List.mem_cons, List.not_mem_nil, or_false] at he; rcases he with rfl | rfl | rfl | rfl | rfl | rfl | rfl | rfl | rfl | rfl | rfl | rfl | rfl | rfl | rfl | rfl | rfl <;> first | rfl | exact absurd hbd (by decide))
            subst t16
            have t17 : b17 = true := ready_nil hr (i := 17) (by simp) (by intro o ho; cases ho; intro e he hbd; replace he : e ∈ #[⟨15, Ground.data⟩, ⟨16, Ground.chain⟩, ⟨0, Ground.phase⟩, ⟨1, Ground.phase⟩, ⟨2, Ground.phase⟩, ⟨3, Ground.phase⟩, ⟨4, Ground.phase⟩, ⟨5, Ground.phase⟩, ⟨6, Ground.phase⟩, ⟨7, Ground.phase⟩, ⟨8, Ground.phase⟩, ⟨9, Ground.phase⟩, ⟨10, Ground.phase⟩, ⟨11, Ground.phase⟩, ⟨12, Ground.phase⟩, ⟨13, Ground.phase⟩, ⟨14, Ground.phase⟩, ⟨15, Ground.phase⟩, ⟨16, Ground.phase⟩] := he; simp only [List.mem_toArray, List.mem_cons, List.not_mem_nil, or_false] at he; rcases he with rfl | rfl | rfl | rfl | rfl | rfl | rfl | rfl | rfl | rfl | rfl | rfl | rfl | rfl | rfl | rfl | rfl | rfl | rfl <;> first | rfl | exact absurd hbd (by decide))
            subst t17
            exact ⟨rfl, rfl⟩
          case hfin =>
            have Hn := turned_facts (xa := xa) (xb := xb) hJ hf hn' hne hlt hj3.out Pf3.out Pn3.out hc3
            clear r0 r1 r2 r3 p0 p1 p2 p3 q0 q1 q2 q3 w1 w2 w3 w4 hpk
            obtain ⟨k1, k2, k3, k4⟩ := Hn
            obtain ⟨rfl, rfl⟩ := HA.out
            have hnum := k2.nums
            have hnum0 := Pf.out.nums
            gi_wp2
            go_roundw
            case rel => exact ⟨k + 1, hlk, by rw [Hsn.out]; exact k1, by rw [Hnx.out]; exact k2, by rw [Hnx.out]; exact k3, k4⟩
            case measure => rw [hnum.1, hnum.2, hnum0.1, hnum0.2]; have := Hm.out; omega
        · gi_wp2
          refine bodyPost_ret (results_none rfl _ _ _) rfl ?_
          refine ⟨⟨_, rfl⟩, .inr ⟨_, ?_, hJx3⟩⟩
          rw [← Hsn.out]
          have hp := plTo_prefix N (k + 1) (len N - (k + 1))
          rwa [show k + 1 + (len N - (k + 1)) = len N from by omega] at hp
      · obtain rfl : k = len N := by omega
        have hgt := (len_spec h1).2.1
        generalize st N (len N) = s at *
        obtain ⟨a, b, c, d⟩ := s
        simp only at *
        obtain ⟨p0, p1, p2, p3⟩ := pf.cells
        have hcond : ¬ (a : Int) ≤ b := by omega
        have hj3 := Lib.hid hj
        clear hj pf pn
        gi_wp2
        go_end0
        exact ⟨⟨_, rfl⟩, .inl hj3.out⟩
  clear hK
  gi_region_with_o (fail)
  all_goals go_simp
  all_goals
    have hj2 : ∀ o1 o2 : Obj, J [] (((W.alloc o1).alloc o2).drew) := fun o1 o2 => hJ _ _ _ none (hJ.new _ (hJ.new _ h0)) drew_grown (fun r e => by cases e)
    have hc2 : ∀ o1 o2 : Obj, (((W.alloc o1).alloc o2).drew).cell? ⟨Be, 0, none⟩ = some (.int .i64 N) := fun o1 o2 => ((b_next (below_alloc W o1) (below_alloc _ o2)).cell (p := ⟨Be, 0, none⟩) hlt).trans hBe
    have ha : ∀ o1 o2 : Obj, (((W.alloc o1).alloc o2).drew).heap[W.heap.size]? = some o1 := fun o1 o2 => (Below.heap_alloc (W.alloc o1) o2 _ (by simp)).trans (World.alloc_heap_new W o1)
    have hb : ∀ o1 o2 : Obj, (((W.alloc o1).alloc o2).drew).heap[W.heap.size + 1]? = some o2 := fun o1 o2 => by
      have h := World.alloc_heap_new (W.alloc o1) o2
      rwa [World.size_alloc] at h
    first
    | exact main W.heap.size (W.heap.size + 1) _ (by omega) (by omega) (by omega) (ha _ _) (hb _ _) (hc2 _ _) (hj2 _ _)
    | exact main (W.heap.size + 1) W.heap.size _ (by omega) (by omega) (by omega) (hb _ _) (ha _ _) (hc2 _ _) (hj2 _ _)
end Go.Proofs.YtfelmjanffhahaaDoor
