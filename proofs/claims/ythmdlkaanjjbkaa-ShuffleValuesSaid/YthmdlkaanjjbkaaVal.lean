/- Values, limits, Degree, Count. -/
import Derived.Test.YthmdlkaanjjbkaaPtab
namespace Go.Proofs.Ythmdlkaanjjbkaa
set_option linter.unusedVariables false
open Go.RowKit

theorem addr_add (b off k : Nat) : (⟨b, off, none⟩ : Addr).add k = ⟨b, off + k, none⟩ := by unfold Addr.add; split <;> simp_all

theorem own_base2 {w : World} {b base n : Nat} {v : Value} {xs : List Value} (h : w.ownsRow base 3 1 v n xs) (hb : b ≤ base) : w.ownsRow b 3 1 v n xs := h.mono hb
theorem one_new (w : World) (x : Value) (t : TypeId) (n : Nat) (hn : n = w.heap.size) : ∀ j u, [x][j]? = some u → (w.alloc (.cells #[x] t)).cell? ((⟨n, 0, none⟩ : Addr).add j) = some u := by
  subst hn
  intro j u h
  match j, h with
  | 0, h =>
    simp at h
    subst h
    rw [addr_add, Nat.zero_add, World.cell?_alloc_at _ _ _ _ rfl]; rfl
  | j + 1, h => simp at h
def valuesL (m : Nat) (xs : List Int) : List Int := (List.range m).map fun x : Nat => polyV m xs x
theorem modB_nat {m : Int} (h : modB m = true) : ∃ k : Nat, m = k ∧ 2 ≤ k ∧ k ≤ 64 := by
  unfold modB at h
  obtain ⟨h1, h2⟩ := of_decide_eq_true h
  exact ⟨m.toNat, by omega, by omega, by omega⟩
theorem remB_in {m : Int} {xs : List Int} (h : remB m xs = true) : ∀ x ∈ xs, 0 ≤ x ∧ x < m := fun x hx => by
  unfold remB at h
  rw [List.all_eq_true] at h
  exact of_decide_eq_true (h x hx)

set_option maxRecDepth 100000 in
theorem Values_no (m : Int) (a : Option Addr) (n cap : Nat) (xs : List Int) (w : World) (hr : Row w a n (intL xs)) (hn : n ≤ 1000) (hp : polyB m xs = false) :
    Calls Try.prog 18 #[.int .i64 m, .slice a n cap] w fun e w' => e = .returned (.tuple #[.slice none 0 0, .int .i64 2]) ∧ w' = w := by
  have h := isPoly_any m a n cap xs w hr hn
  rw [hp] at h
  have H := Lib.hid h
  clear h hr hp
  go_enter Try.func18, Try.ntmps18
  go_wp2_with fail
  refine H.out.mono ?_
  rintro e w1 ⟨rfl, rfl⟩
  go_wp2
  go_ret2
  exact ⟨rfl, rfl⟩
set_option maxRecDepth 100000 in
set_option maxHeartbeats 4000000 in
theorem Values_yes (m : Nat) (a : Option Addr) (n cap : Nat) (xs : List Int) (w : World) (hr : Row w a n (intL xs)) (hp : polyB m xs = true) :
    Calls Try.prog 18 #[.int .i64 m, .slice a n cap] w fun e w' => ∃ v, e = .returned (.tuple #[v, .int .i64 0]) ∧ w'.ownsRow w.heap.size 3 1 v m (intL (valuesL m xs)) ∧ Below w.heap.size w w' := by
  have hx : xs.length = n := by have := hr.1; simpa [intL] using this
  have hp2 := hp
  unfold polyB at hp2
  rw [Bool.and_eq_true, Bool.and_eq_true, decide_eq_true_eq] at hp2
  obtain ⟨⟨h1, h2⟩, h3⟩ := hp2
  obtain ⟨k, hk, hk2, hk64⟩ := modB_nat h1
  obtain rfl : m = k := by omega
  have hin := remB_in h3
  have h := fun W hW => isPoly_any m a n cap xs W hW (by omega)
  rw [hp] at h
  have ht := fun W hW => polyTable_any m a n cap xs W hW (by omega) (by omega) hk64 (fun x hx => by have := hin x hx; omega)
  have hl := fun W => list_any m (fun x : Nat => polyV m xs x) W hk64
  have H := Lib.hid h
  have HT := Lib.hid ht
  have HL := Lib.hid hl
  have Hr := Lib.hid hr
  clear h ht hl hr hp h1 h2 h3 hin hk hx
  go_enter Try.func18, Try.ntmps18
  go_wp2_with fail
  refine (H.out _ Hr.out).mono ?_
  rintro e w1 ⟨rfl, rfl⟩
  go_wp2_with fail
  refine (HT.out _ Hr.out).mono ?_
  rintro e w2 ⟨rfl, b2⟩
  have B2 := Lib.hid b2
  clear b2
  go_wp2_with fail
  refine (HL.out _).mono ?_
  rintro e w3 ⟨v, rfl, ho, b3⟩
  have hO := own_base2 ho B2.out.size
  have HO := Lib.hid hO
  have B3 := Lib.hid (b_next B2.out b3)
  obtain ⟨a', cap', hv, _⟩ := ownsRow_open HO.out
  subst hv
  clear ho hO b3
  go_wp2
  go_ret2
  exact ⟨.slice a' m cap', rfl, HO.out, B3.out⟩

theorem lim_num (p q k : Nat) (hp : p ≤ 64) (hq : q ≤ 64) (hk : k ≤ 64) : wrap64 (q : Int) = q ∧ IntKind.i64.wrap (q : Int) = q ∧ ∃ p2, p * (k + 1) = p2 ∧ p2 ≤ 5000 ∧ IntKind.i64.wrap ((p : Int) * ((k : Int) + 1)) = (p2 : Int) ∧ wrap64 ((p : Int) * ((k : Int) + 1)) = (p2 : Int) := by
  have e : (p : Int) * ((k : Int) + 1) = ((p * (k + 1) : Nat) : Int) := by rw [Int.natCast_mul]; rfl
  rw [e]
  obtain ⟨p2, hp2⟩ : ∃ p2, p * (k + 1) = p2 := ⟨_, rfl⟩
  have hb : p2 ≤ 5000 := by
    rw [← hp2]
    exact Nat.le_trans (Nat.mul_le_mul hp (show k + 1 ≤ 65 by omega)) (by decide)
  refine ⟨IntWalk.wrap64_in _ (by omega), IntWalk.i64_in _ (by omega), p2, hp2, hb, ?_, ?_⟩
  · rw [hp2]; exact IntWalk.i64_in _ (by omega)
  · rw [hp2]; exact IntWalk.wrap64_in _ (by omega)
def lenV : Value → Nat
  | .slice _ n _ => n
  | _ => 0
theorem limL_length (m : Nat) : (limL m).length = degN m := by simp [limL]
theorem limL_take (m k : Nat) (h : k < degN m) : (limL m).take (k + 1) = (limL m).take k ++ [(roomN m k : Int)] := by
  rw [List.take_add_one]
  unfold limL
  rw [List.getElem?_map, List.getElem?_range h]; rfl

set_option maxRecDepth 100000 in
set_option maxHeartbeats 4000000 in
theorem limitsOf_any (m : Nat) (w : World) (hm : 2 ≤ m) (hm2 : m ≤ 64) :
    Calls Try.prog 73 #[.int .i64 m] w fun e w' => ∃ v, e = .returned v ∧ w'.ownsRow w.heap.size 3 1 v (degN m) (intL (limL m)) ∧ Below w.heap.size w w' := by
  obtain ⟨i0, hi, hz0, hz1, hz2⟩ := info_parts info_int
  obtain ⟨d1, d2, d3, d4, d5⟩ := deg_facts ⟨m, by omega⟩ hm
  simp only at d1 d2 d3 d4 d5
  have hpr : ∀ k, prodP m k < m := fun k => by rw [prodP_fact hm]; exact Nat.mod_lt _ (by omega)
  have hlt := limL_take m
  have hll := limL_length m
  have hne : ∀ k, k < degN m → prodP m k ≠ 0 := fun k hk => (d4 ⟨k, by omega⟩ hk).1
  have hrm : ∀ k, roomN m k = m / Nat.gcd m (prodP m k) := fun _ => rfl
  have hstep : ∀ k, prodP m (k + 1) = prodP m k * (k + 1) % m := fun _ => rfl
  have hp0 : prodP m 0 = 1 := rfl
  generalize prodP m = pr at *
  generalize roomN m = rm at *
  generalize degN m = d at *
  generalize limL m = L at *
  have hc0 := Box1.new w 3 (.int .i64 m)
  have hb0 := below_alloc w (.cells #[.int .i64 m] 3)
  have hM := modulo_any m w
  have HM := Lib.hid hM
  have Hlt := Lib.hid hlt
  have Hll := Lib.hid hll
  have Hne := Lib.hid hne
  have Hpr := Lib.hid hpr
  have Hrm := Lib.hid hrm
  have Hst := Lib.hid hstep
  have C0 := Lib.hid hc0
  have B0 := Lib.hid hb0
  clear hM hlt hll hne hpr hrm hstep hc0 hb0 d4 d5
  go_enter Try.func73, Try.ntmps73
  go_wp2_with fail
  refine HM.out.mono ?_
  rintro e w0 ⟨rfl, rfl⟩
  generalize hw1 : w.alloc (.cells #[.int .i64 m] 3) = w1 at C0 B0 ⊢
  clear hw1
  go_wp2
  go_loopw [4, 5] (fun v p wr => ∃ k, k ≤ d ∧ p = .int .i64 (pr k : Nat) ∧ wr.ownsRow w1.heap.size 3 1 v k (intL (L.take k)) ∧ Below w1.heap.size w1 wr) (fun v _ _ => d - lenV v)
  case atStart => exact ⟨0, Nat.zero_le _, by rw [hp0]; rfl, World.ownsRow_nil _ _ _ _, Below.refl _ _⟩
  case round =>
    obtain ⟨k, hk, rfl, ho, hB⟩ := hrel
    obtain ⟨a5, c5, hv5, -⟩ := Row.of_own ho
    subst hv5
    obtain ⟨p, hp⟩ : ∃ p, pr k = p := ⟨_, rfl⟩
    have hpm := Hpr.out k
    rw [hp] at hpm ⊢
    by_cases hlt : k < d
    · have hpn := Hne.out k hlt
      rw [hp] at hpn
      have hc : ((p : Int) != 0) = true := by rw [bne_iff_ne]; omega
      have hD := fun W => divisor_any m p (by omega) (by omega) W
      have hgp : 0 < Nat.gcd m p := Nat.gcd_pos_of_pos_left _ (by omega)
      have hgm : Nat.gcd m p ≤ m := Nat.gcd_le_left _ (by omega)
      have hq := Hrm.out k
      rw [hp] at hq
      generalize Nat.gcd m p = g at hD hgp hgm hq
      have hqm : m / g ≤ m := Nat.div_le_self _ _
      rw [← hq] at hqm
      have hd1 : Int.tdiv (m : Int) g = ((rm k : Nat) : Int) := by rw [hq]; exact (Int.ofNat_tdiv m g).symm
      have hTk := Hlt.out k hlt
      have hpx := Hst.out k
      rw [hp] at hpx
      generalize hqk : rm k = q at hqm hd1 hTk
      have hg0 : ((g : Int) == 0) = false := by rw [beq_eq_false_iff_ne]; omega
      have hg1 : ¬ (g : Int) = 0 := by omega
      have hg2 : ¬ g = 0 := by omega
      have hk64 : k ≤ 64 := by omega
      have hnum := lim_num p q k (by omega) (by omega) hk64
      have HN := Lib.hid hnum
      clear hnum
      have hRm := fun (p2 : Nat) (h : p2 ≤ 5000) W hB => rem_any p2 m w.heap.size W hB (by clear hd1; omega) (by clear hd1; omega) (by clear hd1; omega)
      obtain ⟨hwq, hwq2, p2, hp2, hp2b, hwp, hwp6⟩ := HN.out
      clear HN
      have hRm := hRm p2 hp2b
      rw [hp2] at hpx
      have HD := Lib.hid hD
      have HRm := Lib.hid hRm
      have HTk := Lib.hid hTk
      have Hpx := Lib.hid hpx
      have HO := Lib.hid ho
      have HB := Lib.hid hB
      clear hD hRm hTk hpx ho hB hp hpn hq hqk hp2
      go_wp2_with fail
      refine (HD.out _).mono ?_
      rintro e w2 ⟨rfl, qd, hw2⟩
      have HO2 : Hid (w2.ownsRow w1.heap.size 3 1 (.slice a5 k c5) k (intL (L.take k))) := by rw [hw2]; exact HO.out
      have HB2 : Hid (Below w1.heap.size w1 w2) := by rw [hw2]; exact below_drewN HB.out qd
      clear hw2
      go_wp2_with (at_builtin; refine wpList_append_own _ rfl _ _ 22 rfl w1.heap.size 3 i0 (.int .i64 0) 1 8 Try.underlying22 hi hz0 hz1 hz2 rfl (by decide) _ _ _ rfl (HO2.out.alloc (.cells #[.int .i64 q] 3)) ⟨_, 0, none⟩ 1 1 [.int .i64 q] rfl rfl (one_new _ _ _ _ (by simp)) (by simp [Value.oneCell']) (by clear hwp hwp6 hd1 hwq hwq2; unfold maxLen; omega) (by clear hwp hwp6 hd1 hwq hwq2; omega) (by clear hwp hwp6 hd1 hwq hwq2; have := HB2.out.size; simp; omega) ?_; intro v2 w6 hown2 hgrow2 _
                   obtain ⟨a6, c6, hv6, -⟩ := Row.of_own hown2
                   subst hv6
                   have HB6 : Hid (Below w1.heap.size w1 w6) := rel_push HB2.out (by clear hwp hwp6 hd1 hwq hwq2; have := HB2.out.size; simp; omega) ((Below.refl _ _).alloc HB2.out.size _) HO2.out hgrow2
                   have HO6 := Lib.hid hown2
                   clear hown2 hgrow2)
      have hcell := (C0.out.below HB6.out).cell
      refine (HRm.out _ hcell).mono ?_
      rintro e w7 ⟨rfl, q7, rfl⟩
      go_wp2
      go_roundw
      case rel =>
        refine ⟨k + 1, hlt, by rw [Hpx.out, Int.natCast_emod], ?_, below_drewN HB6.out q7⟩
        rw [HTk.out]
        unfold intL
        rw [List.map_append]
        exact HO6.out
      case measure => clear hwp hwp6 hd1 hwq hwq2; simp [lenV]; omega
    · obtain rfl : k = d := by omega
      rw [d3] at hp
      subst hp
      rw [List.take_of_length_le (by have := Hll.out; omega)] at ho
      have HO := Lib.hid (own_base2 ho (show w.heap.size ≤ w1.heap.size from B0.out.size))
      have HB := Lib.hid (b_next B0.out hB)
      clear ho hB
      go_wp2
      go_ret
      exact ⟨_, rfl, HO.out, HB.out⟩
end Go.Proofs.Ythmdlkaanjjbkaa
