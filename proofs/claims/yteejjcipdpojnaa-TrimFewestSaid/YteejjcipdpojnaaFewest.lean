/- Parts of a palindrome; parts and ways of two words one after the other: TrimFewest. -/
import Derived.Test.YteejjcipdpojnaaFmath
import Derived.Test.YteejjcipdpojnaaOccs
import Derived.Test.YteejjcipdpojnaaOutmath
namespace Go.Proofs.Yteejjcipdpojnaa
set_option linter.unusedVariables false
open Go.RowKit

set_option maxRecDepth 100000 in
set_option maxHeartbeats 8000000 in
theorem TrimFewest_EA (u v : ByteArray) (hu : u.size ≤ maxLen) (hv : v.size ≤ maxLen) (x y : ByteArray) (H1 : Hid (mk (tameL u.data.toList 50) = x)) (H2 : Hid (mk (tameL v.data.toList 50) = y)) (hx : x.size ≤ 50) (hy : y.size ≤ 50)
    (p1 p2 p3 : List (List UInt8)) (n1 n2 n3 : Nat) (R1 : Hid (fewR x = (p1, 0))) (R2 : Hid (fewR y = (p2, 0))) (R3 : Hid (fewR (x ++ y) = (p3, 0))) (L1 : Hid (p1.length = n1)) (L2 : Hid (p2.length = n2)) (L3 : Hid (p3.length = n3))
    (hn1 : n1 ≤ 50) (hn2 : n2 ≤ 50) (pa : Bool) (P : Hid (pal x.data.toList = pa)) (he : x.toList = []) (hl1 : ((n1 : Int) == 1) = false) (hz : ¬ (n1 : Int) + n2 < n3)
    (m n k : Nat) (j : Int) (W1 : Hid (waysR x = (m, 0))) (W2 : Hid (waysR y = (n, 0))) (W3 : Hid (waysR (x ++ y) = (k, 0))) (hm : (1 : Int) ≤ m) (hn : (1 : Int) ≤ n) (d : Int) (e1 : wrap64 ((k : Int) / n) = d) (e2 : IntKind.i64.wrap ((k : Int) / n) = d) (hk : (m : Int) ≤ d) (w : World) :
    Calls Try.prog 12 #[.string u, .string v] w fun e w' => e = .returned (.bool true) ∧ Below w.heap.size w w' := by
  have hxy : (x ++ y).size ≤ 100 := by rw [ByteArray.size_append]; omega
  have hcat : x.size + y.size ≤ 9223372036854775807 := by omega
  go_enter Try.func12, Try.ntmps12
  go_wp2_with fail
  refine (tame_any u 50 _ hu (by omega)).mono ?_
  rintro e w1 ⟨rfl, b1⟩
  rw [H1.out]
  go_wp2_with fail
  refine (tame_any v 50 _ hv (by omega)).mono ?_
  rintro e w2 ⟨rfl, b2⟩
  rw [H2.out]
  go_wp2_with fail
  refine (Fewest_any x _ (by omega)).mono ?_
  rintro e w3 ⟨v1, rfl, o1, b3⟩
  rw [R1.out] at o1
  rw [R1.out]
  simp only [L1.out] at o1
  obtain ⟨a1, c1, rfl, q1⟩ := Row.of_own o1
  clear o1 q1
  go_wp2_with fail
  refine (Fewest_any y _ (by omega)).mono ?_
  rintro e w4 ⟨v2, rfl, o2, b4⟩
  rw [R2.out] at o2
  rw [R2.out]
  simp only [L2.out] at o2
  obtain ⟨a2, c2, rfl, q2⟩ := Row.of_own o2
  clear o2 q2
  go_wp2_with fail
  refine (Fewest_any (x ++ y) _ (by omega)).mono ?_
  rintro e w5 ⟨v3, rfl, o3, b5⟩
  rw [R3.out] at o3
  rw [R3.out]
  simp only [L3.out] at o3
  obtain ⟨a3, c3, rfl, q3⟩ := Row.of_own o3
  clear o3 q3
  have hB := b_next (b_next (b_next (b_next b1 b2) b3) b4) b5
  have HB := Lib.hid hB
  clear b1 b2 b3 b4 b5 hB
  go_wp2_with (go_at_call 49; refine (refPal_any _ _ (by unfold maxLen; omega)).mono ?_; rintro e w' ⟨rfl, n5, rfl⟩; rw [P.out])
  refine (Ways_any x _ (by omega)).mono ?_
  rintro e w6 ⟨rfl, b6⟩
  rw [W1.out]
  go_wp2_with fail
  refine (Ways_any y _ (by omega)).mono ?_
  rintro e w7 ⟨rfl, b7⟩
  rw [W2.out]
  go_wp2_with fail
  refine (Ways_any (x ++ y) _ (by omega)).mono ?_
  rintro e w8 ⟨rfl, b8⟩
  rw [W3.out]
  go_wp2_with fail
  refine (awake_any _).mono ?_
  rintro e w9 ⟨rfl, b9⟩
  go_wp2
  go_ret
  first
    | exact ⟨rfl, b_next (b_next (b_next (b_next HB.out b6) b7) b8) b9⟩
    | exact ⟨rfl, b_next (b_next (b_next (b_next (below_drewN HB.out n5) b6) b7) b8) b9⟩

set_option maxRecDepth 100000 in
set_option maxHeartbeats 8000000 in
theorem TrimFewest_EB (u v : ByteArray) (hu : u.size ≤ maxLen) (hv : v.size ≤ maxLen) (x y : ByteArray) (H1 : Hid (mk (tameL u.data.toList 50) = x)) (H2 : Hid (mk (tameL v.data.toList 50) = y)) (hx : x.size ≤ 50) (hy : y.size ≤ 50)
    (p1 p2 p3 : List (List UInt8)) (n1 n2 n3 : Nat) (R1 : Hid (fewR x = (p1, 0))) (R2 : Hid (fewR y = (p2, 0))) (R3 : Hid (fewR (x ++ y) = (p3, 0))) (L1 : Hid (p1.length = n1)) (L2 : Hid (p2.length = n2)) (L3 : Hid (p3.length = n3))
    (hn1 : n1 ≤ 50) (hn2 : n2 ≤ 50) (pa : Bool) (P : Hid (pal x.data.toList = pa)) (he : x.toList = []) (hl1 : ((n1 : Int) == 1) = false) (hz : ¬ (n1 : Int) + n2 < n3)
    (m n k : Nat) (j : Int) (W1 : Hid (waysR x = (m, 0))) (W2 : Hid (waysR y = (n, 0))) (W3 : Hid (waysR (x ++ y) = (k, 5))) (hm : (1 : Int) ≤ m) (hn : (1 : Int) ≤ n) (w : World) :
    Calls Try.prog 12 #[.string u, .string v] w fun e w' => e = .returned (.bool true) ∧ Below w.heap.size w w' := by
  have hxy : (x ++ y).size ≤ 100 := by rw [ByteArray.size_append]; omega
  have hcat : x.size + y.size ≤ 9223372036854775807 := by omega
  go_enter Try.func12, Try.ntmps12
  go_wp2_with fail
  refine (tame_any u 50 _ hu (by omega)).mono ?_
  rintro e w1 ⟨rfl, b1⟩
  rw [H1.out]
  go_wp2_with fail
  refine (tame_any v 50 _ hv (by omega)).mono ?_
  rintro e w2 ⟨rfl, b2⟩
  rw [H2.out]
  go_wp2_with fail
  refine (Fewest_any x _ (by omega)).mono ?_
  rintro e w3 ⟨v1, rfl, o1, b3⟩
  rw [R1.out] at o1
  rw [R1.out]
  simp only [L1.out] at o1
  obtain ⟨a1, c1, rfl, q1⟩ := Row.of_own o1
  clear o1 q1
  go_wp2_with fail
  refine (Fewest_any y _ (by omega)).mono ?_
  rintro e w4 ⟨v2, rfl, o2, b4⟩
  rw [R2.out] at o2
  rw [R2.out]
  simp only [L2.out] at o2
  obtain ⟨a2, c2, rfl, q2⟩ := Row.of_own o2
  clear o2 q2
  go_wp2_with fail
  refine (Fewest_any (x ++ y) _ (by omega)).mono ?_
  rintro e w5 ⟨v3, rfl, o3, b5⟩
  rw [R3.out] at o3
  rw [R3.out]
  simp only [L3.out] at o3
  obtain ⟨a3, c3, rfl, q3⟩ := Row.of_own o3
  clear o3 q3
  have hB := b_next (b_next (b_next (b_next b1 b2) b3) b4) b5
  have HB := Lib.hid hB
  clear b1 b2 b3 b4 b5 hB
  go_wp2_with (go_at_call 49; refine (refPal_any _ _ (by unfold maxLen; omega)).mono ?_; rintro e w' ⟨rfl, n5, rfl⟩; rw [P.out])
  refine (Ways_any x _ (by omega)).mono ?_
  rintro e w6 ⟨rfl, b6⟩
  rw [W1.out]
  go_wp2_with fail
  refine (Ways_any y _ (by omega)).mono ?_
  rintro e w7 ⟨rfl, b7⟩
  rw [W2.out]
  go_wp2_with fail
  refine (Ways_any (x ++ y) _ (by omega)).mono ?_
  rintro e w8 ⟨rfl, b8⟩
  rw [W3.out]
  go_wp2_with fail
  refine (awake_any _).mono ?_
  rintro e w9 ⟨rfl, b9⟩
  go_wp2
  go_ret
  first
    | exact ⟨rfl, b_next (b_next (b_next (b_next HB.out b6) b7) b8) b9⟩
    | exact ⟨rfl, b_next (b_next (b_next (b_next (below_drewN HB.out n5) b6) b7) b8) b9⟩

set_option maxRecDepth 100000 in
set_option maxHeartbeats 8000000 in
theorem TrimFewest_EC (u v : ByteArray) (hu : u.size ≤ maxLen) (hv : v.size ≤ maxLen) (x y : ByteArray) (H1 : Hid (mk (tameL u.data.toList 50) = x)) (H2 : Hid (mk (tameL v.data.toList 50) = y)) (hx : x.size ≤ 50) (hy : y.size ≤ 50)
    (p1 p2 p3 : List (List UInt8)) (n1 n2 n3 : Nat) (R1 : Hid (fewR x = (p1, 0))) (R2 : Hid (fewR y = (p2, 0))) (R3 : Hid (fewR (x ++ y) = (p3, 0))) (L1 : Hid (p1.length = n1)) (L2 : Hid (p2.length = n2)) (L3 : Hid (p3.length = n3))
    (hn1 : n1 ≤ 50) (hn2 : n2 ≤ 50) (pa : Bool) (P : Hid (pal x.data.toList = pa)) (he : x.toList = []) (hl1 : ((n1 : Int) == 1) = false) (hz : ¬ (n1 : Int) + n2 < n3)
    (m n k : Nat) (j : Int) (W1 : Hid (waysR x = (m, 5))) (W2 : Hid (waysR y = (n, 0))) (W3 : Hid (waysR (x ++ y) = (k, j)))  (w : World) :
    Calls Try.prog 12 #[.string u, .string v] w fun e w' => e = .returned (.bool true) ∧ Below w.heap.size w w' := by
  have hxy : (x ++ y).size ≤ 100 := by rw [ByteArray.size_append]; omega
  have hcat : x.size + y.size ≤ 9223372036854775807 := by omega
  go_enter Try.func12, Try.ntmps12
  go_wp2_with fail
  refine (tame_any u 50 _ hu (by omega)).mono ?_
  rintro e w1 ⟨rfl, b1⟩
  rw [H1.out]
  go_wp2_with fail
  refine (tame_any v 50 _ hv (by omega)).mono ?_
  rintro e w2 ⟨rfl, b2⟩
  rw [H2.out]
  go_wp2_with fail
  refine (Fewest_any x _ (by omega)).mono ?_
  rintro e w3 ⟨v1, rfl, o1, b3⟩
  rw [R1.out] at o1
  rw [R1.out]
  simp only [L1.out] at o1
  obtain ⟨a1, c1, rfl, q1⟩ := Row.of_own o1
  clear o1 q1
  go_wp2_with fail
  refine (Fewest_any y _ (by omega)).mono ?_
  rintro e w4 ⟨v2, rfl, o2, b4⟩
  rw [R2.out] at o2
  rw [R2.out]
  simp only [L2.out] at o2
  obtain ⟨a2, c2, rfl, q2⟩ := Row.of_own o2
  clear o2 q2
  go_wp2_with fail
  refine (Fewest_any (x ++ y) _ (by omega)).mono ?_
  rintro e w5 ⟨v3, rfl, o3, b5⟩
  rw [R3.out] at o3
  rw [R3.out]
  simp only [L3.out] at o3
  obtain ⟨a3, c3, rfl, q3⟩ := Row.of_own o3
  clear o3 q3
  have hB := b_next (b_next (b_next (b_next b1 b2) b3) b4) b5
  have HB := Lib.hid hB
  clear b1 b2 b3 b4 b5 hB
  go_wp2_with (go_at_call 49; refine (refPal_any _ _ (by unfold maxLen; omega)).mono ?_; rintro e w' ⟨rfl, n5, rfl⟩; rw [P.out])
  refine (Ways_any x _ (by omega)).mono ?_
  rintro e w6 ⟨rfl, b6⟩
  rw [W1.out]
  go_wp2_with fail
  refine (Ways_any y _ (by omega)).mono ?_
  rintro e w7 ⟨rfl, b7⟩
  rw [W2.out]
  go_wp2_with fail
  refine (Ways_any (x ++ y) _ (by omega)).mono ?_
  rintro e w8 ⟨rfl, b8⟩
  rw [W3.out]
  go_wp2_with fail
  refine (awake_any _).mono ?_
  rintro e w9 ⟨rfl, b9⟩
  go_wp2
  go_ret
  first
    | exact ⟨rfl, b_next (b_next (b_next (b_next HB.out b6) b7) b8) b9⟩
    | exact ⟨rfl, b_next (b_next (b_next (b_next (below_drewN HB.out n5) b6) b7) b8) b9⟩

set_option maxRecDepth 100000 in
set_option maxHeartbeats 8000000 in
theorem TrimFewest_ED (u v : ByteArray) (hu : u.size ≤ maxLen) (hv : v.size ≤ maxLen) (x y : ByteArray) (H1 : Hid (mk (tameL u.data.toList 50) = x)) (H2 : Hid (mk (tameL v.data.toList 50) = y)) (hx : x.size ≤ 50) (hy : y.size ≤ 50)
    (p1 p2 p3 : List (List UInt8)) (n1 n2 n3 : Nat) (R1 : Hid (fewR x = (p1, 0))) (R2 : Hid (fewR y = (p2, 0))) (R3 : Hid (fewR (x ++ y) = (p3, 0))) (L1 : Hid (p1.length = n1)) (L2 : Hid (p2.length = n2)) (L3 : Hid (p3.length = n3))
    (hn1 : n1 ≤ 50) (hn2 : n2 ≤ 50) (pa : Bool) (P : Hid (pal x.data.toList = pa)) (he : x.toList = []) (hl1 : ((n1 : Int) == 1) = false) (hz : ¬ (n1 : Int) + n2 < n3)
    (m n k : Nat) (j : Int) (W1 : Hid (waysR x = (m, 0))) (W2 : Hid (waysR y = (n, 5))) (W3 : Hid (waysR (x ++ y) = (k, j)))  (w : World) :
    Calls Try.prog 12 #[.string u, .string v] w fun e w' => e = .returned (.bool true) ∧ Below w.heap.size w w' := by
  have hxy : (x ++ y).size ≤ 100 := by rw [ByteArray.size_append]; omega
  have hcat : x.size + y.size ≤ 9223372036854775807 := by omega
  go_enter Try.func12, Try.ntmps12
  go_wp2_with fail
  refine (tame_any u 50 _ hu (by omega)).mono ?_
  rintro e w1 ⟨rfl, b1⟩
  rw [H1.out]
  go_wp2_with fail
  refine (tame_any v 50 _ hv (by omega)).mono ?_
  rintro e w2 ⟨rfl, b2⟩
  rw [H2.out]
  go_wp2_with fail
  refine (Fewest_any x _ (by omega)).mono ?_
  rintro e w3 ⟨v1, rfl, o1, b3⟩
  rw [R1.out] at o1
  rw [R1.out]
  simp only [L1.out] at o1
  obtain ⟨a1, c1, rfl, q1⟩ := Row.of_own o1
  clear o1 q1
  go_wp2_with fail
  refine (Fewest_any y _ (by omega)).mono ?_
  rintro e w4 ⟨v2, rfl, o2, b4⟩
  rw [R2.out] at o2
  rw [R2.out]
  simp only [L2.out] at o2
  obtain ⟨a2, c2, rfl, q2⟩ := Row.of_own o2
  clear o2 q2
  go_wp2_with fail
  refine (Fewest_any (x ++ y) _ (by omega)).mono ?_
  rintro e w5 ⟨v3, rfl, o3, b5⟩
  rw [R3.out] at o3
  rw [R3.out]
  simp only [L3.out] at o3
  obtain ⟨a3, c3, rfl, q3⟩ := Row.of_own o3
  clear o3 q3
  have hB := b_next (b_next (b_next (b_next b1 b2) b3) b4) b5
  have HB := Lib.hid hB
  clear b1 b2 b3 b4 b5 hB
  go_wp2_with (go_at_call 49; refine (refPal_any _ _ (by unfold maxLen; omega)).mono ?_; rintro e w' ⟨rfl, n5, rfl⟩; rw [P.out])
  refine (Ways_any x _ (by omega)).mono ?_
  rintro e w6 ⟨rfl, b6⟩
  rw [W1.out]
  go_wp2_with fail
  refine (Ways_any y _ (by omega)).mono ?_
  rintro e w7 ⟨rfl, b7⟩
  rw [W2.out]
  go_wp2_with fail
  refine (Ways_any (x ++ y) _ (by omega)).mono ?_
  rintro e w8 ⟨rfl, b8⟩
  rw [W3.out]
  go_wp2_with fail
  refine (awake_any _).mono ?_
  rintro e w9 ⟨rfl, b9⟩
  go_wp2
  go_ret
  first
    | exact ⟨rfl, b_next (b_next (b_next (b_next HB.out b6) b7) b8) b9⟩
    | exact ⟨rfl, b_next (b_next (b_next (b_next (below_drewN HB.out n5) b6) b7) b8) b9⟩

set_option maxRecDepth 100000 in
set_option maxHeartbeats 8000000 in
theorem TrimFewest_EF (u v : ByteArray) (hu : u.size ≤ maxLen) (hv : v.size ≤ maxLen) (x y : ByteArray) (H1 : Hid (mk (tameL u.data.toList 50) = x)) (H2 : Hid (mk (tameL v.data.toList 50) = y)) (hx : x.size ≤ 50) (hy : y.size ≤ 50)
    (p1 p2 p3 : List (List UInt8)) (n1 n2 n3 : Nat) (R1 : Hid (fewR x = (p1, 0))) (R2 : Hid (fewR y = (p2, 0))) (R3 : Hid (fewR (x ++ y) = (p3, 0))) (L1 : Hid (p1.length = n1)) (L2 : Hid (p2.length = n2)) (L3 : Hid (p3.length = n3))
    (hn1 : n1 ≤ 50) (hn2 : n2 ≤ 50) (pa : Bool) (P : Hid (pal x.data.toList = pa)) (he : x.toList = []) (hl1 : ((n1 : Int) == 1) = false) (hz : ¬ (n1 : Int) + n2 < n3)
    (m n k : Nat) (j : Int) (W1 : Hid (waysR x = (m, 5))) (W2 : Hid (waysR y = (n, 5))) (W3 : Hid (waysR (x ++ y) = (k, j)))  (w : World) :
    Calls Try.prog 12 #[.string u, .string v] w fun e w' => e = .returned (.bool true) ∧ Below w.heap.size w w' := by
  have hxy : (x ++ y).size ≤ 100 := by rw [ByteArray.size_append]; omega
  have hcat : x.size + y.size ≤ 9223372036854775807 := by omega
  go_enter Try.func12, Try.ntmps12
  go_wp2_with fail
  refine (tame_any u 50 _ hu (by omega)).mono ?_
  rintro e w1 ⟨rfl, b1⟩
  rw [H1.out]
  go_wp2_with fail
  refine (tame_any v 50 _ hv (by omega)).mono ?_
  rintro e w2 ⟨rfl, b2⟩
  rw [H2.out]
  go_wp2_with fail
  refine (Fewest_any x _ (by omega)).mono ?_
  rintro e w3 ⟨v1, rfl, o1, b3⟩
  rw [R1.out] at o1
  rw [R1.out]
  simp only [L1.out] at o1
  obtain ⟨a1, c1, rfl, q1⟩ := Row.of_own o1
  clear o1 q1
  go_wp2_with fail
  refine (Fewest_any y _ (by omega)).mono ?_
  rintro e w4 ⟨v2, rfl, o2, b4⟩
  rw [R2.out] at o2
  rw [R2.out]
  simp only [L2.out] at o2
  obtain ⟨a2, c2, rfl, q2⟩ := Row.of_own o2
  clear o2 q2
  go_wp2_with fail
  refine (Fewest_any (x ++ y) _ (by omega)).mono ?_
  rintro e w5 ⟨v3, rfl, o3, b5⟩
  rw [R3.out] at o3
  rw [R3.out]
  simp only [L3.out] at o3
  obtain ⟨a3, c3, rfl, q3⟩ := Row.of_own o3
  clear o3 q3
  have hB := b_next (b_next (b_next (b_next b1 b2) b3) b4) b5
  have HB := Lib.hid hB
  clear b1 b2 b3 b4 b5 hB
  go_wp2_with (go_at_call 49; refine (refPal_any _ _ (by unfold maxLen; omega)).mono ?_; rintro e w' ⟨rfl, n5, rfl⟩; rw [P.out])
  refine (Ways_any x _ (by omega)).mono ?_
  rintro e w6 ⟨rfl, b6⟩
  rw [W1.out]
  go_wp2_with fail
  refine (Ways_any y _ (by omega)).mono ?_
  rintro e w7 ⟨rfl, b7⟩
  rw [W2.out]
  go_wp2_with fail
  refine (Ways_any (x ++ y) _ (by omega)).mono ?_
  rintro e w8 ⟨rfl, b8⟩
  rw [W3.out]
  go_wp2_with fail
  refine (awake_any _).mono ?_
  rintro e w9 ⟨rfl, b9⟩
  go_wp2
  go_ret
  first
    | exact ⟨rfl, b_next (b_next (b_next (b_next HB.out b6) b7) b8) b9⟩
    | exact ⟨rfl, b_next (b_next (b_next (b_next (below_drewN HB.out n5) b6) b7) b8) b9⟩

set_option maxRecDepth 100000 in
set_option maxHeartbeats 8000000 in
theorem TrimFewest_YA (u v : ByteArray) (hu : u.size ≤ maxLen) (hv : v.size ≤ maxLen) (x y : ByteArray) (H1 : Hid (mk (tameL u.data.toList 50) = x)) (H2 : Hid (mk (tameL v.data.toList 50) = y)) (hx : x.size ≤ 50) (hy : y.size ≤ 50)
    (p1 p2 p3 : List (List UInt8)) (n1 n2 n3 : Nat) (R1 : Hid (fewR x = (p1, 0))) (R2 : Hid (fewR y = (p2, 0))) (R3 : Hid (fewR (x ++ y) = (p3, 0))) (L1 : Hid (p1.length = 1)) (L2 : Hid (p2.length = n2)) (L3 : Hid (p3.length = n3))
    (hn1 : n1 ≤ 50) (hn2 : n2 ≤ 50) (P : Hid (pal x.data.toList = true)) (he : ¬ x.toList = []) (hemp : x.toList.isEmpty = false) (hz : ¬ (1 : Int) + n2 < n3)
    (m n k : Nat) (j : Int) (W1 : Hid (waysR x = (m, 0))) (W2 : Hid (waysR y = (n, 0))) (W3 : Hid (waysR (x ++ y) = (k, 0))) (hm : (1 : Int) ≤ m) (hn : (1 : Int) ≤ n) (d : Int) (e1 : wrap64 ((k : Int) / n) = d) (e2 : IntKind.i64.wrap ((k : Int) / n) = d) (hk : (m : Int) ≤ d) (w : World) :
    Calls Try.prog 12 #[.string u, .string v] w fun e w' => e = .returned (.bool true) ∧ Below w.heap.size w w' := by
  have hxy : (x ++ y).size ≤ 100 := by rw [ByteArray.size_append]; omega
  have hcat : x.size + y.size ≤ 9223372036854775807 := by omega
  go_enter Try.func12, Try.ntmps12
  go_wp2_with fail
  refine (tame_any u 50 _ hu (by omega)).mono ?_
  rintro e w1 ⟨rfl, b1⟩
  rw [H1.out]
  go_wp2_with fail
  refine (tame_any v 50 _ hv (by omega)).mono ?_
  rintro e w2 ⟨rfl, b2⟩
  rw [H2.out]
  go_wp2_with fail
  refine (Fewest_any x _ (by omega)).mono ?_
  rintro e w3 ⟨v1, rfl, o1, b3⟩
  rw [R1.out] at o1
  rw [R1.out]
  simp only [L1.out] at o1
  obtain ⟨a1, c1, rfl, q1⟩ := Row.of_own o1
  clear o1 q1
  go_wp2_with fail
  refine (Fewest_any y _ (by omega)).mono ?_
  rintro e w4 ⟨v2, rfl, o2, b4⟩
  rw [R2.out] at o2
  rw [R2.out]
  simp only [L2.out] at o2
  obtain ⟨a2, c2, rfl, q2⟩ := Row.of_own o2
  clear o2 q2
  go_wp2_with fail
  refine (Fewest_any (x ++ y) _ (by omega)).mono ?_
  rintro e w5 ⟨v3, rfl, o3, b5⟩
  rw [R3.out] at o3
  rw [R3.out]
  simp only [L3.out] at o3
  obtain ⟨a3, c3, rfl, q3⟩ := Row.of_own o3
  clear o3 q3
  have hB := b_next (b_next (b_next (b_next b1 b2) b3) b4) b5
  have HB := Lib.hid hB
  clear b1 b2 b3 b4 b5 hB
  go_wp2_with (go_at_call 49; refine (refPal_any _ _ (by unfold maxLen; omega)).mono ?_; rintro e w' ⟨rfl, n5, rfl⟩; rw [P.out])
  refine (Ways_any x _ (by omega)).mono ?_
  rintro e w6 ⟨rfl, b6⟩
  rw [W1.out]
  go_wp2_with fail
  refine (Ways_any y _ (by omega)).mono ?_
  rintro e w7 ⟨rfl, b7⟩
  rw [W2.out]
  go_wp2_with fail
  refine (Ways_any (x ++ y) _ (by omega)).mono ?_
  rintro e w8 ⟨rfl, b8⟩
  rw [W3.out]
  go_wp2_with fail
  refine (awake_any _).mono ?_
  rintro e w9 ⟨rfl, b9⟩
  go_wp2
  go_ret
  first
    | exact ⟨rfl, b_next (b_next (b_next (b_next HB.out b6) b7) b8) b9⟩
    | exact ⟨rfl, b_next (b_next (b_next (b_next (below_drewN HB.out n5) b6) b7) b8) b9⟩

set_option maxRecDepth 100000 in
set_option maxHeartbeats 8000000 in
theorem TrimFewest_YB (u v : ByteArray) (hu : u.size ≤ maxLen) (hv : v.size ≤ maxLen) (x y : ByteArray) (H1 : Hid (mk (tameL u.data.toList 50) = x)) (H2 : Hid (mk (tameL v.data.toList 50) = y)) (hx : x.size ≤ 50) (hy : y.size ≤ 50)
    (p1 p2 p3 : List (List UInt8)) (n1 n2 n3 : Nat) (R1 : Hid (fewR x = (p1, 0))) (R2 : Hid (fewR y = (p2, 0))) (R3 : Hid (fewR (x ++ y) = (p3, 0))) (L1 : Hid (p1.length = 1)) (L2 : Hid (p2.length = n2)) (L3 : Hid (p3.length = n3))
    (hn1 : n1 ≤ 50) (hn2 : n2 ≤ 50) (P : Hid (pal x.data.toList = true)) (he : ¬ x.toList = []) (hemp : x.toList.isEmpty = false) (hz : ¬ (1 : Int) + n2 < n3)
    (m n k : Nat) (j : Int) (W1 : Hid (waysR x = (m, 0))) (W2 : Hid (waysR y = (n, 0))) (W3 : Hid (waysR (x ++ y) = (k, 5))) (hm : (1 : Int) ≤ m) (hn : (1 : Int) ≤ n) (w : World) :
    Calls Try.prog 12 #[.string u, .string v] w fun e w' => e = .returned (.bool true) ∧ Below w.heap.size w w' := by
  have hxy : (x ++ y).size ≤ 100 := by rw [ByteArray.size_append]; omega
  have hcat : x.size + y.size ≤ 9223372036854775807 := by omega
  go_enter Try.func12, Try.ntmps12
  go_wp2_with fail
  refine (tame_any u 50 _ hu (by omega)).mono ?_
  rintro e w1 ⟨rfl, b1⟩
  rw [H1.out]
  go_wp2_with fail
  refine (tame_any v 50 _ hv (by omega)).mono ?_
  rintro e w2 ⟨rfl, b2⟩
  rw [H2.out]
  go_wp2_with fail
  refine (Fewest_any x _ (by omega)).mono ?_
  rintro e w3 ⟨v1, rfl, o1, b3⟩
  rw [R1.out] at o1
  rw [R1.out]
  simp only [L1.out] at o1
  obtain ⟨a1, c1, rfl, q1⟩ := Row.of_own o1
  clear o1 q1
  go_wp2_with fail
  refine (Fewest_any y _ (by omega)).mono ?_
  rintro e w4 ⟨v2, rfl, o2, b4⟩
  rw [R2.out] at o2
  rw [R2.out]
  simp only [L2.out] at o2
  obtain ⟨a2, c2, rfl, q2⟩ := Row.of_own o2
  clear o2 q2
  go_wp2_with fail
  refine (Fewest_any (x ++ y) _ (by omega)).mono ?_
  rintro e w5 ⟨v3, rfl, o3, b5⟩
  rw [R3.out] at o3
  rw [R3.out]
  simp only [L3.out] at o3
  obtain ⟨a3, c3, rfl, q3⟩ := Row.of_own o3
  clear o3 q3
  have hB := b_next (b_next (b_next (b_next b1 b2) b3) b4) b5
  have HB := Lib.hid hB
  clear b1 b2 b3 b4 b5 hB
  go_wp2_with (go_at_call 49; refine (refPal_any _ _ (by unfold maxLen; omega)).mono ?_; rintro e w' ⟨rfl, n5, rfl⟩; rw [P.out])
  refine (Ways_any x _ (by omega)).mono ?_
  rintro e w6 ⟨rfl, b6⟩
  rw [W1.out]
  go_wp2_with fail
  refine (Ways_any y _ (by omega)).mono ?_
  rintro e w7 ⟨rfl, b7⟩
  rw [W2.out]
  go_wp2_with fail
  refine (Ways_any (x ++ y) _ (by omega)).mono ?_
  rintro e w8 ⟨rfl, b8⟩
  rw [W3.out]
  go_wp2_with fail
  refine (awake_any _).mono ?_
  rintro e w9 ⟨rfl, b9⟩
  go_wp2
  go_ret
  first
    | exact ⟨rfl, b_next (b_next (b_next (b_next HB.out b6) b7) b8) b9⟩
    | exact ⟨rfl, b_next (b_next (b_next (b_next (below_drewN HB.out n5) b6) b7) b8) b9⟩

set_option maxRecDepth 100000 in
set_option maxHeartbeats 8000000 in
theorem TrimFewest_YC (u v : ByteArray) (hu : u.size ≤ maxLen) (hv : v.size ≤ maxLen) (x y : ByteArray) (H1 : Hid (mk (tameL u.data.toList 50) = x)) (H2 : Hid (mk (tameL v.data.toList 50) = y)) (hx : x.size ≤ 50) (hy : y.size ≤ 50)
    (p1 p2 p3 : List (List UInt8)) (n1 n2 n3 : Nat) (R1 : Hid (fewR x = (p1, 0))) (R2 : Hid (fewR y = (p2, 0))) (R3 : Hid (fewR (x ++ y) = (p3, 0))) (L1 : Hid (p1.length = 1)) (L2 : Hid (p2.length = n2)) (L3 : Hid (p3.length = n3))
    (hn1 : n1 ≤ 50) (hn2 : n2 ≤ 50) (P : Hid (pal x.data.toList = true)) (he : ¬ x.toList = []) (hemp : x.toList.isEmpty = false) (hz : ¬ (1 : Int) + n2 < n3)
    (m n k : Nat) (j : Int) (W1 : Hid (waysR x = (m, 5))) (W2 : Hid (waysR y = (n, 0))) (W3 : Hid (waysR (x ++ y) = (k, j)))  (w : World) :
    Calls Try.prog 12 #[.string u, .string v] w fun e w' => e = .returned (.bool true) ∧ Below w.heap.size w w' := by
  have hxy : (x ++ y).size ≤ 100 := by rw [ByteArray.size_append]; omega
  have hcat : x.size + y.size ≤ 9223372036854775807 := by omega
  go_enter Try.func12, Try.ntmps12
  go_wp2_with fail
  refine (tame_any u 50 _ hu (by omega)).mono ?_
  rintro e w1 ⟨rfl, b1⟩
  rw [H1.out]
  go_wp2_with fail
  refine (tame_any v 50 _ hv (by omega)).mono ?_
  rintro e w2 ⟨rfl, b2⟩
  rw [H2.out]
  go_wp2_with fail
  refine (Fewest_any x _ (by omega)).mono ?_
  rintro e w3 ⟨v1, rfl, o1, b3⟩
  rw [R1.out] at o1
  rw [R1.out]
  simp only [L1.out] at o1
  obtain ⟨a1, c1, rfl, q1⟩ := Row.of_own o1
  clear o1 q1
  go_wp2_with fail
  refine (Fewest_any y _ (by omega)).mono ?_
  rintro e w4 ⟨v2, rfl, o2, b4⟩
  rw [R2.out] at o2
  rw [R2.out]
  simp only [L2.out] at o2
  obtain ⟨a2, c2, rfl, q2⟩ := Row.of_own o2
  clear o2 q2
  go_wp2_with fail
  refine (Fewest_any (x ++ y) _ (by omega)).mono ?_
  rintro e w5 ⟨v3, rfl, o3, b5⟩
  rw [R3.out] at o3
  rw [R3.out]
  simp only [L3.out] at o3
  obtain ⟨a3, c3, rfl, q3⟩ := Row.of_own o3
  clear o3 q3
  have hB := b_next (b_next (b_next (b_next b1 b2) b3) b4) b5
  have HB := Lib.hid hB
  clear b1 b2 b3 b4 b5 hB
  go_wp2_with (go_at_call 49; refine (refPal_any _ _ (by unfold maxLen; omega)).mono ?_; rintro e w' ⟨rfl, n5, rfl⟩; rw [P.out])
  refine (Ways_any x _ (by omega)).mono ?_
  rintro e w6 ⟨rfl, b6⟩
  rw [W1.out]
  go_wp2_with fail
  refine (Ways_any y _ (by omega)).mono ?_
  rintro e w7 ⟨rfl, b7⟩
  rw [W2.out]
  go_wp2_with fail
  refine (Ways_any (x ++ y) _ (by omega)).mono ?_
  rintro e w8 ⟨rfl, b8⟩
  rw [W3.out]
  go_wp2_with fail
  refine (awake_any _).mono ?_
  rintro e w9 ⟨rfl, b9⟩
  go_wp2
  go_ret
  first
    | exact ⟨rfl, b_next (b_next (b_next (b_next HB.out b6) b7) b8) b9⟩
    | exact ⟨rfl, b_next (b_next (b_next (b_next (below_drewN HB.out n5) b6) b7) b8) b9⟩

set_option maxRecDepth 100000 in
set_option maxHeartbeats 8000000 in
theorem TrimFewest_YD (u v : ByteArray) (hu : u.size ≤ maxLen) (hv : v.size ≤ maxLen) (x y : ByteArray) (H1 : Hid (mk (tameL u.data.toList 50) = x)) (H2 : Hid (mk (tameL v.data.toList 50) = y)) (hx : x.size ≤ 50) (hy : y.size ≤ 50)
    (p1 p2 p3 : List (List UInt8)) (n1 n2 n3 : Nat) (R1 : Hid (fewR x = (p1, 0))) (R2 : Hid (fewR y = (p2, 0))) (R3 : Hid (fewR (x ++ y) = (p3, 0))) (L1 : Hid (p1.length = 1)) (L2 : Hid (p2.length = n2)) (L3 : Hid (p3.length = n3))
    (hn1 : n1 ≤ 50) (hn2 : n2 ≤ 50) (P : Hid (pal x.data.toList = true)) (he : ¬ x.toList = []) (hemp : x.toList.isEmpty = false) (hz : ¬ (1 : Int) + n2 < n3)
    (m n k : Nat) (j : Int) (W1 : Hid (waysR x = (m, 0))) (W2 : Hid (waysR y = (n, 5))) (W3 : Hid (waysR (x ++ y) = (k, j)))  (w : World) :
    Calls Try.prog 12 #[.string u, .string v] w fun e w' => e = .returned (.bool true) ∧ Below w.heap.size w w' := by
  have hxy : (x ++ y).size ≤ 100 := by rw [ByteArray.size_append]; omega
  have hcat : x.size + y.size ≤ 9223372036854775807 := by omega
  go_enter Try.func12, Try.ntmps12
  go_wp2_with fail
  refine (tame_any u 50 _ hu (by omega)).mono ?_
  rintro e w1 ⟨rfl, b1⟩
  rw [H1.out]
  go_wp2_with fail
  refine (tame_any v 50 _ hv (by omega)).mono ?_
  rintro e w2 ⟨rfl, b2⟩
  rw [H2.out]
  go_wp2_with fail
  refine (Fewest_any x _ (by omega)).mono ?_
  rintro e w3 ⟨v1, rfl, o1, b3⟩
  rw [R1.out] at o1
  rw [R1.out]
  simp only [L1.out] at o1
  obtain ⟨a1, c1, rfl, q1⟩ := Row.of_own o1
  clear o1 q1
  go_wp2_with fail
  refine (Fewest_any y _ (by omega)).mono ?_
  rintro e w4 ⟨v2, rfl, o2, b4⟩
  rw [R2.out] at o2
  rw [R2.out]
  simp only [L2.out] at o2
  obtain ⟨a2, c2, rfl, q2⟩ := Row.of_own o2
  clear o2 q2
  go_wp2_with fail
  refine (Fewest_any (x ++ y) _ (by omega)).mono ?_
  rintro e w5 ⟨v3, rfl, o3, b5⟩
  rw [R3.out] at o3
  rw [R3.out]
  simp only [L3.out] at o3
  obtain ⟨a3, c3, rfl, q3⟩ := Row.of_own o3
  clear o3 q3
  have hB := b_next (b_next (b_next (b_next b1 b2) b3) b4) b5
  have HB := Lib.hid hB
  clear b1 b2 b3 b4 b5 hB
  go_wp2_with (go_at_call 49; refine (refPal_any _ _ (by unfold maxLen; omega)).mono ?_; rintro e w' ⟨rfl, n5, rfl⟩; rw [P.out])
  refine (Ways_any x _ (by omega)).mono ?_
  rintro e w6 ⟨rfl, b6⟩
  rw [W1.out]
  go_wp2_with fail
  refine (Ways_any y _ (by omega)).mono ?_
  rintro e w7 ⟨rfl, b7⟩
  rw [W2.out]
  go_wp2_with fail
  refine (Ways_any (x ++ y) _ (by omega)).mono ?_
  rintro e w8 ⟨rfl, b8⟩
  rw [W3.out]
  go_wp2_with fail
  refine (awake_any _).mono ?_
  rintro e w9 ⟨rfl, b9⟩
  go_wp2
  go_ret
  first
    | exact ⟨rfl, b_next (b_next (b_next (b_next HB.out b6) b7) b8) b9⟩
    | exact ⟨rfl, b_next (b_next (b_next (b_next (below_drewN HB.out n5) b6) b7) b8) b9⟩

set_option maxRecDepth 100000 in
set_option maxHeartbeats 8000000 in
theorem TrimFewest_YF (u v : ByteArray) (hu : u.size ≤ maxLen) (hv : v.size ≤ maxLen) (x y : ByteArray) (H1 : Hid (mk (tameL u.data.toList 50) = x)) (H2 : Hid (mk (tameL v.data.toList 50) = y)) (hx : x.size ≤ 50) (hy : y.size ≤ 50)
    (p1 p2 p3 : List (List UInt8)) (n1 n2 n3 : Nat) (R1 : Hid (fewR x = (p1, 0))) (R2 : Hid (fewR y = (p2, 0))) (R3 : Hid (fewR (x ++ y) = (p3, 0))) (L1 : Hid (p1.length = 1)) (L2 : Hid (p2.length = n2)) (L3 : Hid (p3.length = n3))
    (hn1 : n1 ≤ 50) (hn2 : n2 ≤ 50) (P : Hid (pal x.data.toList = true)) (he : ¬ x.toList = []) (hemp : x.toList.isEmpty = false) (hz : ¬ (1 : Int) + n2 < n3)
    (m n k : Nat) (j : Int) (W1 : Hid (waysR x = (m, 5))) (W2 : Hid (waysR y = (n, 5))) (W3 : Hid (waysR (x ++ y) = (k, j)))  (w : World) :
    Calls Try.prog 12 #[.string u, .string v] w fun e w' => e = .returned (.bool true) ∧ Below w.heap.size w w' := by
  have hxy : (x ++ y).size ≤ 100 := by rw [ByteArray.size_append]; omega
  have hcat : x.size + y.size ≤ 9223372036854775807 := by omega
  go_enter Try.func12, Try.ntmps12
  go_wp2_with fail
  refine (tame_any u 50 _ hu (by omega)).mono ?_
  rintro e w1 ⟨rfl, b1⟩
  rw [H1.out]
  go_wp2_with fail
  refine (tame_any v 50 _ hv (by omega)).mono ?_
  rintro e w2 ⟨rfl, b2⟩
  rw [H2.out]
  go_wp2_with fail
  refine (Fewest_any x _ (by omega)).mono ?_
  rintro e w3 ⟨v1, rfl, o1, b3⟩
  rw [R1.out] at o1
  rw [R1.out]
  simp only [L1.out] at o1
  obtain ⟨a1, c1, rfl, q1⟩ := Row.of_own o1
  clear o1 q1
  go_wp2_with fail
  refine (Fewest_any y _ (by omega)).mono ?_
  rintro e w4 ⟨v2, rfl, o2, b4⟩
  rw [R2.out] at o2
  rw [R2.out]
  simp only [L2.out] at o2
  obtain ⟨a2, c2, rfl, q2⟩ := Row.of_own o2
  clear o2 q2
  go_wp2_with fail
  refine (Fewest_any (x ++ y) _ (by omega)).mono ?_
  rintro e w5 ⟨v3, rfl, o3, b5⟩
  rw [R3.out] at o3
  rw [R3.out]
  simp only [L3.out] at o3
  obtain ⟨a3, c3, rfl, q3⟩ := Row.of_own o3
  clear o3 q3
  have hB := b_next (b_next (b_next (b_next b1 b2) b3) b4) b5
  have HB := Lib.hid hB
  clear b1 b2 b3 b4 b5 hB
  go_wp2_with (go_at_call 49; refine (refPal_any _ _ (by unfold maxLen; omega)).mono ?_; rintro e w' ⟨rfl, n5, rfl⟩; rw [P.out])
  refine (Ways_any x _ (by omega)).mono ?_
  rintro e w6 ⟨rfl, b6⟩
  rw [W1.out]
  go_wp2_with fail
  refine (Ways_any y _ (by omega)).mono ?_
  rintro e w7 ⟨rfl, b7⟩
  rw [W2.out]
  go_wp2_with fail
  refine (Ways_any (x ++ y) _ (by omega)).mono ?_
  rintro e w8 ⟨rfl, b8⟩
  rw [W3.out]
  go_wp2_with fail
  refine (awake_any _).mono ?_
  rintro e w9 ⟨rfl, b9⟩
  go_wp2
  go_ret
  first
    | exact ⟨rfl, b_next (b_next (b_next (b_next HB.out b6) b7) b8) b9⟩
    | exact ⟨rfl, b_next (b_next (b_next (b_next (below_drewN HB.out n5) b6) b7) b8) b9⟩

set_option maxRecDepth 100000 in
set_option maxHeartbeats 8000000 in
theorem TrimFewest_NA (u v : ByteArray) (hu : u.size ≤ maxLen) (hv : v.size ≤ maxLen) (x y : ByteArray) (H1 : Hid (mk (tameL u.data.toList 50) = x)) (H2 : Hid (mk (tameL v.data.toList 50) = y)) (hx : x.size ≤ 50) (hy : y.size ≤ 50)
    (p1 p2 p3 : List (List UInt8)) (n1 n2 n3 : Nat) (R1 : Hid (fewR x = (p1, 0))) (R2 : Hid (fewR y = (p2, 0))) (R3 : Hid (fewR (x ++ y) = (p3, 0))) (L1 : Hid (p1.length = n1)) (L2 : Hid (p2.length = n2)) (L3 : Hid (p3.length = n3))
    (hn1 : n1 ≤ 50) (hn2 : n2 ≤ 50) (P : Hid (pal x.data.toList = false)) (he : ¬ x.toList = []) (hemp : x.toList.isEmpty = false) (hl1 : ((n1 : Int) == 1) = false) (hz : ¬ (n1 : Int) + n2 < n3)
    (m n k : Nat) (j : Int) (W1 : Hid (waysR x = (m, 0))) (W2 : Hid (waysR y = (n, 0))) (W3 : Hid (waysR (x ++ y) = (k, 0))) (hm : (1 : Int) ≤ m) (hn : (1 : Int) ≤ n) (d : Int) (e1 : wrap64 ((k : Int) / n) = d) (e2 : IntKind.i64.wrap ((k : Int) / n) = d) (hk : (m : Int) ≤ d) (w : World) :
    Calls Try.prog 12 #[.string u, .string v] w fun e w' => e = .returned (.bool true) ∧ Below w.heap.size w w' := by
  have hxy : (x ++ y).size ≤ 100 := by rw [ByteArray.size_append]; omega
  have hcat : x.size + y.size ≤ 9223372036854775807 := by omega
  go_enter Try.func12, Try.ntmps12
  go_wp2_with fail
  refine (tame_any u 50 _ hu (by omega)).mono ?_
  rintro e w1 ⟨rfl, b1⟩
  rw [H1.out]
  go_wp2_with fail
  refine (tame_any v 50 _ hv (by omega)).mono ?_
  rintro e w2 ⟨rfl, b2⟩
  rw [H2.out]
  go_wp2_with fail
  refine (Fewest_any x _ (by omega)).mono ?_
  rintro e w3 ⟨v1, rfl, o1, b3⟩
  rw [R1.out] at o1
  rw [R1.out]
  simp only [L1.out] at o1
  obtain ⟨a1, c1, rfl, q1⟩ := Row.of_own o1
  clear o1 q1
  go_wp2_with fail
  refine (Fewest_any y _ (by omega)).mono ?_
  rintro e w4 ⟨v2, rfl, o2, b4⟩
  rw [R2.out] at o2
  rw [R2.out]
  simp only [L2.out] at o2
  obtain ⟨a2, c2, rfl, q2⟩ := Row.of_own o2
  clear o2 q2
  go_wp2_with fail
  refine (Fewest_any (x ++ y) _ (by omega)).mono ?_
  rintro e w5 ⟨v3, rfl, o3, b5⟩
  rw [R3.out] at o3
  rw [R3.out]
  simp only [L3.out] at o3
  obtain ⟨a3, c3, rfl, q3⟩ := Row.of_own o3
  clear o3 q3
  have hB := b_next (b_next (b_next (b_next b1 b2) b3) b4) b5
  have HB := Lib.hid hB
  clear b1 b2 b3 b4 b5 hB
  go_wp2_with (go_at_call 49; refine (refPal_any _ _ (by unfold maxLen; omega)).mono ?_; rintro e w' ⟨rfl, n5, rfl⟩; rw [P.out])
  refine (Ways_any x _ (by omega)).mono ?_
  rintro e w6 ⟨rfl, b6⟩
  rw [W1.out]
  go_wp2_with fail
  refine (Ways_any y _ (by omega)).mono ?_
  rintro e w7 ⟨rfl, b7⟩
  rw [W2.out]
  go_wp2_with fail
  refine (Ways_any (x ++ y) _ (by omega)).mono ?_
  rintro e w8 ⟨rfl, b8⟩
  rw [W3.out]
  go_wp2_with fail
  refine (awake_any _).mono ?_
  rintro e w9 ⟨rfl, b9⟩
  go_wp2
  go_ret
  first
    | exact ⟨rfl, b_next (b_next (b_next (b_next HB.out b6) b7) b8) b9⟩
    | exact ⟨rfl, b_next (b_next (b_next (b_next (below_drewN HB.out n5) b6) b7) b8) b9⟩

set_option maxRecDepth 100000 in
set_option maxHeartbeats 8000000 in
theorem TrimFewest_NB (u v : ByteArray) (hu : u.size ≤ maxLen) (hv : v.size ≤ maxLen) (x y : ByteArray) (H1 : Hid (mk (tameL u.data.toList 50) = x)) (H2 : Hid (mk (tameL v.data.toList 50) = y)) (hx : x.size ≤ 50) (hy : y.size ≤ 50)
    (p1 p2 p3 : List (List UInt8)) (n1 n2 n3 : Nat) (R1 : Hid (fewR x = (p1, 0))) (R2 : Hid (fewR y = (p2, 0))) (R3 : Hid (fewR (x ++ y) = (p3, 0))) (L1 : Hid (p1.length = n1)) (L2 : Hid (p2.length = n2)) (L3 : Hid (p3.length = n3))
    (hn1 : n1 ≤ 50) (hn2 : n2 ≤ 50) (P : Hid (pal x.data.toList = false)) (he : ¬ x.toList = []) (hemp : x.toList.isEmpty = false) (hl1 : ((n1 : Int) == 1) = false) (hz : ¬ (n1 : Int) + n2 < n3)
    (m n k : Nat) (j : Int) (W1 : Hid (waysR x = (m, 0))) (W2 : Hid (waysR y = (n, 0))) (W3 : Hid (waysR (x ++ y) = (k, 5))) (hm : (1 : Int) ≤ m) (hn : (1 : Int) ≤ n) (w : World) :
    Calls Try.prog 12 #[.string u, .string v] w fun e w' => e = .returned (.bool true) ∧ Below w.heap.size w w' := by
  have hxy : (x ++ y).size ≤ 100 := by rw [ByteArray.size_append]; omega
  have hcat : x.size + y.size ≤ 9223372036854775807 := by omega
  go_enter Try.func12, Try.ntmps12
  go_wp2_with fail
  refine (tame_any u 50 _ hu (by omega)).mono ?_
  rintro e w1 ⟨rfl, b1⟩
  rw [H1.out]
  go_wp2_with fail
  refine (tame_any v 50 _ hv (by omega)).mono ?_
  rintro e w2 ⟨rfl, b2⟩
  rw [H2.out]
  go_wp2_with fail
  refine (Fewest_any x _ (by omega)).mono ?_
  rintro e w3 ⟨v1, rfl, o1, b3⟩
  rw [R1.out] at o1
  rw [R1.out]
  simp only [L1.out] at o1
  obtain ⟨a1, c1, rfl, q1⟩ := Row.of_own o1
  clear o1 q1
  go_wp2_with fail
  refine (Fewest_any y _ (by omega)).mono ?_
  rintro e w4 ⟨v2, rfl, o2, b4⟩
  rw [R2.out] at o2
  rw [R2.out]
  simp only [L2.out] at o2
  obtain ⟨a2, c2, rfl, q2⟩ := Row.of_own o2
  clear o2 q2
  go_wp2_with fail
  refine (Fewest_any (x ++ y) _ (by omega)).mono ?_
  rintro e w5 ⟨v3, rfl, o3, b5⟩
  rw [R3.out] at o3
  rw [R3.out]
  simp only [L3.out] at o3
  obtain ⟨a3, c3, rfl, q3⟩ := Row.of_own o3
  clear o3 q3
  have hB := b_next (b_next (b_next (b_next b1 b2) b3) b4) b5
  have HB := Lib.hid hB
  clear b1 b2 b3 b4 b5 hB
  go_wp2_with (go_at_call 49; refine (refPal_any _ _ (by unfold maxLen; omega)).mono ?_; rintro e w' ⟨rfl, n5, rfl⟩; rw [P.out])
  refine (Ways_any x _ (by omega)).mono ?_
  rintro e w6 ⟨rfl, b6⟩
  rw [W1.out]
  go_wp2_with fail
  refine (Ways_any y _ (by omega)).mono ?_
  rintro e w7 ⟨rfl, b7⟩
  rw [W2.out]
  go_wp2_with fail
  refine (Ways_any (x ++ y) _ (by omega)).mono ?_
  rintro e w8 ⟨rfl, b8⟩
  rw [W3.out]
  go_wp2_with fail
  refine (awake_any _).mono ?_
  rintro e w9 ⟨rfl, b9⟩
  go_wp2
  go_ret
  first
    | exact ⟨rfl, b_next (b_next (b_next (b_next HB.out b6) b7) b8) b9⟩
    | exact ⟨rfl, b_next (b_next (b_next (b_next (below_drewN HB.out n5) b6) b7) b8) b9⟩

set_option maxRecDepth 100000 in
set_option maxHeartbeats 8000000 in
theorem TrimFewest_NC (u v : ByteArray) (hu : u.size ≤ maxLen) (hv : v.size ≤ maxLen) (x y : ByteArray) (H1 : Hid (mk (tameL u.data.toList 50) = x)) (H2 : Hid (mk (tameL v.data.toList 50) = y)) (hx : x.size ≤ 50) (hy : y.size ≤ 50)
    (p1 p2 p3 : List (List UInt8)) (n1 n2 n3 : Nat) (R1 : Hid (fewR x = (p1, 0))) (R2 : Hid (fewR y = (p2, 0))) (R3 : Hid (fewR (x ++ y) = (p3, 0))) (L1 : Hid (p1.length = n1)) (L2 : Hid (p2.length = n2)) (L3 : Hid (p3.length = n3))
    (hn1 : n1 ≤ 50) (hn2 : n2 ≤ 50) (P : Hid (pal x.data.toList = false)) (he : ¬ x.toList = []) (hemp : x.toList.isEmpty = false) (hl1 : ((n1 : Int) == 1) = false) (hz : ¬ (n1 : Int) + n2 < n3)
    (m n k : Nat) (j : Int) (W1 : Hid (waysR x = (m, 5))) (W2 : Hid (waysR y = (n, 0))) (W3 : Hid (waysR (x ++ y) = (k, j)))  (w : World) :
    Calls Try.prog 12 #[.string u, .string v] w fun e w' => e = .returned (.bool true) ∧ Below w.heap.size w w' := by
  have hxy : (x ++ y).size ≤ 100 := by rw [ByteArray.size_append]; omega
  have hcat : x.size + y.size ≤ 9223372036854775807 := by omega
  go_enter Try.func12, Try.ntmps12
  go_wp2_with fail
  refine (tame_any u 50 _ hu (by omega)).mono ?_
  rintro e w1 ⟨rfl, b1⟩
  rw [H1.out]
  go_wp2_with fail
  refine (tame_any v 50 _ hv (by omega)).mono ?_
  rintro e w2 ⟨rfl, b2⟩
  rw [H2.out]
  go_wp2_with fail
  refine (Fewest_any x _ (by omega)).mono ?_
  rintro e w3 ⟨v1, rfl, o1, b3⟩
  rw [R1.out] at o1
  rw [R1.out]
  simp only [L1.out] at o1
  obtain ⟨a1, c1, rfl, q1⟩ := Row.of_own o1
  clear o1 q1
  go_wp2_with fail
  refine (Fewest_any y _ (by omega)).mono ?_
  rintro e w4 ⟨v2, rfl, o2, b4⟩
  rw [R2.out] at o2
  rw [R2.out]
  simp only [L2.out] at o2
  obtain ⟨a2, c2, rfl, q2⟩ := Row.of_own o2
  clear o2 q2
  go_wp2_with fail
  refine (Fewest_any (x ++ y) _ (by omega)).mono ?_
  rintro e w5 ⟨v3, rfl, o3, b5⟩
  rw [R3.out] at o3
  rw [R3.out]
  simp only [L3.out] at o3
  obtain ⟨a3, c3, rfl, q3⟩ := Row.of_own o3
  clear o3 q3
  have hB := b_next (b_next (b_next (b_next b1 b2) b3) b4) b5
  have HB := Lib.hid hB
  clear b1 b2 b3 b4 b5 hB
  go_wp2_with (go_at_call 49; refine (refPal_any _ _ (by unfold maxLen; omega)).mono ?_; rintro e w' ⟨rfl, n5, rfl⟩; rw [P.out])
  refine (Ways_any x _ (by omega)).mono ?_
  rintro e w6 ⟨rfl, b6⟩
  rw [W1.out]
  go_wp2_with fail
  refine (Ways_any y _ (by omega)).mono ?_
  rintro e w7 ⟨rfl, b7⟩
  rw [W2.out]
  go_wp2_with fail
  refine (Ways_any (x ++ y) _ (by omega)).mono ?_
  rintro e w8 ⟨rfl, b8⟩
  rw [W3.out]
  go_wp2_with fail
  refine (awake_any _).mono ?_
  rintro e w9 ⟨rfl, b9⟩
  go_wp2
  go_ret
  first
    | exact ⟨rfl, b_next (b_next (b_next (b_next HB.out b6) b7) b8) b9⟩
    | exact ⟨rfl, b_next (b_next (b_next (b_next (below_drewN HB.out n5) b6) b7) b8) b9⟩

set_option maxRecDepth 100000 in
set_option maxHeartbeats 8000000 in
theorem TrimFewest_ND (u v : ByteArray) (hu : u.size ≤ maxLen) (hv : v.size ≤ maxLen) (x y : ByteArray) (H1 : Hid (mk (tameL u.data.toList 50) = x)) (H2 : Hid (mk (tameL v.data.toList 50) = y)) (hx : x.size ≤ 50) (hy : y.size ≤ 50)
    (p1 p2 p3 : List (List UInt8)) (n1 n2 n3 : Nat) (R1 : Hid (fewR x = (p1, 0))) (R2 : Hid (fewR y = (p2, 0))) (R3 : Hid (fewR (x ++ y) = (p3, 0))) (L1 : Hid (p1.length = n1)) (L2 : Hid (p2.length = n2)) (L3 : Hid (p3.length = n3))
    (hn1 : n1 ≤ 50) (hn2 : n2 ≤ 50) (P : Hid (pal x.data.toList = false)) (he : ¬ x.toList = []) (hemp : x.toList.isEmpty = false) (hl1 : ((n1 : Int) == 1) = false) (hz : ¬ (n1 : Int) + n2 < n3)
    (m n k : Nat) (j : Int) (W1 : Hid (waysR x = (m, 0))) (W2 : Hid (waysR y = (n, 5))) (W3 : Hid (waysR (x ++ y) = (k, j)))  (w : World) :
    Calls Try.prog 12 #[.string u, .string v] w fun e w' => e = .returned (.bool true) ∧ Below w.heap.size w w' := by
  have hxy : (x ++ y).size ≤ 100 := by rw [ByteArray.size_append]; omega
  have hcat : x.size + y.size ≤ 9223372036854775807 := by omega
  go_enter Try.func12, Try.ntmps12
  go_wp2_with fail
  refine (tame_any u 50 _ hu (by omega)).mono ?_
  rintro e w1 ⟨rfl, b1⟩
  rw [H1.out]
  go_wp2_with fail
  refine (tame_any v 50 _ hv (by omega)).mono ?_
  rintro e w2 ⟨rfl, b2⟩
  rw [H2.out]
  go_wp2_with fail
  refine (Fewest_any x _ (by omega)).mono ?_
  rintro e w3 ⟨v1, rfl, o1, b3⟩
  rw [R1.out] at o1
  rw [R1.out]
  simp only [L1.out] at o1
  obtain ⟨a1, c1, rfl, q1⟩ := Row.of_own o1
  clear o1 q1
  go_wp2_with fail
  refine (Fewest_any y _ (by omega)).mono ?_
  rintro e w4 ⟨v2, rfl, o2, b4⟩
  rw [R2.out] at o2
  rw [R2.out]
  simp only [L2.out] at o2
  obtain ⟨a2, c2, rfl, q2⟩ := Row.of_own o2
  clear o2 q2
  go_wp2_with fail
  refine (Fewest_any (x ++ y) _ (by omega)).mono ?_
  rintro e w5 ⟨v3, rfl, o3, b5⟩
  rw [R3.out] at o3
  rw [R3.out]
  simp only [L3.out] at o3
  obtain ⟨a3, c3, rfl, q3⟩ := Row.of_own o3
  clear o3 q3
  have hB := b_next (b_next (b_next (b_next b1 b2) b3) b4) b5
  have HB := Lib.hid hB
  clear b1 b2 b3 b4 b5 hB
  go_wp2_with (go_at_call 49; refine (refPal_any _ _ (by unfold maxLen; omega)).mono ?_; rintro e w' ⟨rfl, n5, rfl⟩; rw [P.out])
  refine (Ways_any x _ (by omega)).mono ?_
  rintro e w6 ⟨rfl, b6⟩
  rw [W1.out]
  go_wp2_with fail
  refine (Ways_any y _ (by omega)).mono ?_
  rintro e w7 ⟨rfl, b7⟩
  rw [W2.out]
  go_wp2_with fail
  refine (Ways_any (x ++ y) _ (by omega)).mono ?_
  rintro e w8 ⟨rfl, b8⟩
  rw [W3.out]
  go_wp2_with fail
  refine (awake_any _).mono ?_
  rintro e w9 ⟨rfl, b9⟩
  go_wp2
  go_ret
  first
    | exact ⟨rfl, b_next (b_next (b_next (b_next HB.out b6) b7) b8) b9⟩
    | exact ⟨rfl, b_next (b_next (b_next (b_next (below_drewN HB.out n5) b6) b7) b8) b9⟩

set_option maxRecDepth 100000 in
set_option maxHeartbeats 8000000 in
theorem TrimFewest_NF (u v : ByteArray) (hu : u.size ≤ maxLen) (hv : v.size ≤ maxLen) (x y : ByteArray) (H1 : Hid (mk (tameL u.data.toList 50) = x)) (H2 : Hid (mk (tameL v.data.toList 50) = y)) (hx : x.size ≤ 50) (hy : y.size ≤ 50)
    (p1 p2 p3 : List (List UInt8)) (n1 n2 n3 : Nat) (R1 : Hid (fewR x = (p1, 0))) (R2 : Hid (fewR y = (p2, 0))) (R3 : Hid (fewR (x ++ y) = (p3, 0))) (L1 : Hid (p1.length = n1)) (L2 : Hid (p2.length = n2)) (L3 : Hid (p3.length = n3))
    (hn1 : n1 ≤ 50) (hn2 : n2 ≤ 50) (P : Hid (pal x.data.toList = false)) (he : ¬ x.toList = []) (hemp : x.toList.isEmpty = false) (hl1 : ((n1 : Int) == 1) = false) (hz : ¬ (n1 : Int) + n2 < n3)
    (m n k : Nat) (j : Int) (W1 : Hid (waysR x = (m, 5))) (W2 : Hid (waysR y = (n, 5))) (W3 : Hid (waysR (x ++ y) = (k, j)))  (w : World) :
    Calls Try.prog 12 #[.string u, .string v] w fun e w' => e = .returned (.bool true) ∧ Below w.heap.size w w' := by
  have hxy : (x ++ y).size ≤ 100 := by rw [ByteArray.size_append]; omega
  have hcat : x.size + y.size ≤ 9223372036854775807 := by omega
  go_enter Try.func12, Try.ntmps12
  go_wp2_with fail
  refine (tame_any u 50 _ hu (by omega)).mono ?_
  rintro e w1 ⟨rfl, b1⟩
  rw [H1.out]
  go_wp2_with fail
  refine (tame_any v 50 _ hv (by omega)).mono ?_
  rintro e w2 ⟨rfl, b2⟩
  rw [H2.out]
  go_wp2_with fail
  refine (Fewest_any x _ (by omega)).mono ?_
  rintro e w3 ⟨v1, rfl, o1, b3⟩
  rw [R1.out] at o1
  rw [R1.out]
  simp only [L1.out] at o1
  obtain ⟨a1, c1, rfl, q1⟩ := Row.of_own o1
  clear o1 q1
  go_wp2_with fail
  refine (Fewest_any y _ (by omega)).mono ?_
  rintro e w4 ⟨v2, rfl, o2, b4⟩
  rw [R2.out] at o2
  rw [R2.out]
  simp only [L2.out] at o2
  obtain ⟨a2, c2, rfl, q2⟩ := Row.of_own o2
  clear o2 q2
  go_wp2_with fail
  refine (Fewest_any (x ++ y) _ (by omega)).mono ?_
  rintro e w5 ⟨v3, rfl, o3, b5⟩
  rw [R3.out] at o3
  rw [R3.out]
  simp only [L3.out] at o3
  obtain ⟨a3, c3, rfl, q3⟩ := Row.of_own o3
  clear o3 q3
  have hB := b_next (b_next (b_next (b_next b1 b2) b3) b4) b5
  have HB := Lib.hid hB
  clear b1 b2 b3 b4 b5 hB
  go_wp2_with (go_at_call 49; refine (refPal_any _ _ (by unfold maxLen; omega)).mono ?_; rintro e w' ⟨rfl, n5, rfl⟩; rw [P.out])
  refine (Ways_any x _ (by omega)).mono ?_
  rintro e w6 ⟨rfl, b6⟩
  rw [W1.out]
  go_wp2_with fail
  refine (Ways_any y _ (by omega)).mono ?_
  rintro e w7 ⟨rfl, b7⟩
  rw [W2.out]
  go_wp2_with fail
  refine (Ways_any (x ++ y) _ (by omega)).mono ?_
  rintro e w8 ⟨rfl, b8⟩
  rw [W3.out]
  go_wp2_with fail
  refine (awake_any _).mono ?_
  rintro e w9 ⟨rfl, b9⟩
  go_wp2
  go_ret
  first
    | exact ⟨rfl, b_next (b_next (b_next (b_next HB.out b6) b7) b8) b9⟩
    | exact ⟨rfl, b_next (b_next (b_next (b_next (below_drewN HB.out n5) b6) b7) b8) b9⟩

theorem ways_word {s : ByteArray} (hw : wordB s.data.toList = true) : (∃ m : Nat, waysR s = (m, 0) ∧ m = wayAt s.data.toList s.data.toList.length ∧ m ≤ 1152921504606846976) ∨ waysR s = (0, 5) := by
  unfold waysR
  rw [hw, if_pos rfl, data_length]
  by_cases h : wayAt s.data.toList s.size ≤ 1152921504606846976
  · rw [if_pos h]; exact .inl ⟨_, rfl, rfl, h⟩
  · rw [if_neg h]; exact .inr rfl

theorem walk_TrimFewest (u : ByteArray) (hu : u.size ≤ maxLen) (v : ByteArray) (hv : v.size ≤ maxLen) (w : World) :
    Calls Try.prog 12 #[.string u, .string v] w fun e w' => e = .returned (.bool true) ∧ Below w.heap.size w w' := by
  obtain ⟨x, hx0⟩ : ∃ x, mk (tameL u.data.toList 50) = x := ⟨_, rfl⟩
  obtain ⟨y, hy0⟩ : ∃ y, mk (tameL v.data.toList 50) = y := ⟨_, rfl⟩
  have hx : x.size ≤ 50 := by rw [← hx0, mk_size]; unfold tameL; rw [List.length_map, List.length_take]; omega
  have hy : y.size ≤ 50 := by rw [← hy0, mk_size]; unfold tameL; rw [List.length_map, List.length_take]; omega
  have hwx : wordB x.data.toList = true := by rw [← hx0, data_mk]; exact tame_word2 _ _ (by omega)
  have hwy : wordB y.data.toList = true := by rw [← hy0, data_mk]; exact tame_word2 _ _ (by omega)
  have hcd : (x ++ y).data.toList = x.data.toList ++ y.data.toList := append_data x y
  have hwz : wordB (x ++ y).data.toList = true := by
    rw [hcd]
    unfold wordB at hwx hwy ⊢
    rw [Bool.and_eq_true] at hwx hwy ⊢
    refine ⟨?_, by rw [List.all_append, hwx.2, hwy.2]; rfl⟩
    rw [decide_eq_true_eq, List.length_append, data_length, data_length]; omega
  have H1 := Lib.hid hx0
  have H2 := Lib.hid hy0
  obtain ⟨a, ha⟩ : ∃ a, x.data.toList = a := ⟨_, rfl⟩
  obtain ⟨b, hb⟩ : ∃ b, y.data.toList = b := ⟨_, rfl⟩
  obtain ⟨p1, hp1⟩ : ∃ p, partsL a = p := ⟨_, rfl⟩
  obtain ⟨p2, hp2⟩ : ∃ p, partsL b = p := ⟨_, rfl⟩
  obtain ⟨p3, hp3⟩ : ∃ p, partsL (a ++ b) = p := ⟨_, rfl⟩
  obtain ⟨n1, hn1⟩ : ∃ n, (fewAt a a.length).1 = n := ⟨_, rfl⟩
  obtain ⟨n2, hn2⟩ : ∃ n, (fewAt b b.length).1 = n := ⟨_, rfl⟩
  obtain ⟨n3, hn3⟩ : ∃ n, (fewAt (a ++ b) (a ++ b).length).1 = n := ⟨_, rfl⟩
  have R1 : Hid (fewR x = (p1, 0)) := by unfold fewR; rw [hwx, ha, hp1]; rfl
  have R2 : Hid (fewR y = (p2, 0)) := by unfold fewR; rw [hwy, hb, hp2]; rfl
  have R3 : Hid (fewR (x ++ y) = (p3, 0)) := by unfold fewR; rw [hwz, hcd, ha, hb, hp3]; rfl
  have L1 : Hid (p1.length = n1) := by rw [← hp1, partsL_length]; exact hn1
  have L2 : Hid (p2.length = n2) := by rw [← hp2, partsL_length]; exact hn2
  have L3 : Hid (p3.length = n3) := by rw [← hp3, partsL_length]; exact hn3
  have hal : a.length = x.size := by rw [← ha, data_length]
  have hbl : b.length = y.size := by rw [← hb, data_length]
  have hs := few_sum a b
  rw [hn1, hn2, hn3] at hs
  have h1 := few_one a
  have hf1 := fewAt_le a a.length
  have hf2 := fewAt_le b b.length
  rw [hn1] at h1 hf1
  rw [hn2] at hf2
  have hnn1 : n1 ≤ 50 := by omega
  have hnn2 : n2 ≤ 50 := by omega
  have hz : ¬ (n1 : Int) + n2 < n3 := by omega
  have hprod := way_prod a b
  have hw1 := ways_word hwx
  have hw2 := ways_word hwy
  have hw3 := ways_word hwz
  rw [ha] at hw1
  rw [hb] at hw2
  rw [hcd, ha, hb] at hw3
  have hmp := way_pos a
  have hnp := way_pos b
  have hxe : x.toList = [] ↔ a = [] := by rw [ByteArray.toList_eq, ha]
  by_cases hae : a = []
  · have hn0 : n1 ≠ 1 := fun h => (h1.1 h).1 hae
    have hl1 : ((n1 : Int) == 1) = false := by rw [beq_eq_false_iff_ne]; omega
    rcases hw1 with ⟨m, e1, hm, hm2⟩ | e1 <;> rcases hw2 with ⟨n, e2, hn, hn2'⟩ | e2
    · rw [← hm] at hmp hprod
      rw [← hn] at hnp hprod
      rcases hw3 with ⟨k, e3, hk, hk2⟩ | e3
      · rw [← hk] at hprod
        have hd : (m : Int) ≤ (k : Int) / n := by rw [Int.le_ediv_iff_mul_le (by omega)]; exact_mod_cast hprod
        have hd2 : (k : Int) / n ≤ k := Int.ediv_le_self _ (by omega)
        have hq : IntKind.i64.wrap ((k : Int) / n) = (k : Int) / n := IntWalk.i64_in _ (by omega)
        have hq6 : wrap64 ((k : Int) / n) = (k : Int) / n := by unfold wrap64; omega
        exact TrimFewest_EA u v hu hv x y H1 H2 hx hy p1 p2 p3 n1 n2 n3 R1 R2 R3 L1 L2 L3 hnn1 hnn2  (pal x.data.toList) rfl (hxe.2 hae) hl1 hz m n k 0 (Lib.hid e1) (Lib.hid e2) (Lib.hid e3) (by omega) (by omega) ((k : Int) / n) hq6 hq hd w
      · exact TrimFewest_EB u v hu hv x y H1 H2 hx hy p1 p2 p3 n1 n2 n3 R1 R2 R3 L1 L2 L3 hnn1 hnn2  (pal x.data.toList) rfl (hxe.2 hae) hl1 hz m n 0 0 (Lib.hid e1) (Lib.hid e2) (Lib.hid e3) (by omega) (by omega) w
    · obtain ⟨k, j, e3⟩ : ∃ (k : Nat) (j : Int), waysR (x ++ y) = (k, j) := ⟨_, _, rfl⟩
      exact TrimFewest_ED u v hu hv x y H1 H2 hx hy p1 p2 p3 n1 n2 n3 R1 R2 R3 L1 L2 L3 hnn1 hnn2  (pal x.data.toList) rfl (hxe.2 hae) hl1 hz m 0 k j (Lib.hid e1) (Lib.hid e2) (Lib.hid e3) w
    · obtain ⟨k, j, e3⟩ : ∃ (k : Nat) (j : Int), waysR (x ++ y) = (k, j) := ⟨_, _, rfl⟩
      exact TrimFewest_EC u v hu hv x y H1 H2 hx hy p1 p2 p3 n1 n2 n3 R1 R2 R3 L1 L2 L3 hnn1 hnn2  (pal x.data.toList) rfl (hxe.2 hae) hl1 hz 0 n k j (Lib.hid e1) (Lib.hid e2) (Lib.hid e3) w
    · obtain ⟨k, j, e3⟩ : ∃ (k : Nat) (j : Int), waysR (x ++ y) = (k, j) := ⟨_, _, rfl⟩
      exact TrimFewest_EF u v hu hv x y H1 H2 hx hy p1 p2 p3 n1 n2 n3 R1 R2 R3 L1 L2 L3 hnn1 hnn2  (pal x.data.toList) rfl (hxe.2 hae) hl1 hz 0 0 k j (Lib.hid e1) (Lib.hid e2) (Lib.hid e3) w
  · have he : ¬ x.toList = [] := fun h => hae (hxe.1 h)
    have hemp : x.toList.isEmpty = false := by simpa using he
    cases hp : pal a with
    | true =>
      have hn0 : n1 = 1 := h1.2 ⟨hae, hp⟩
      subst hn0
      have P : Hid (pal x.data.toList = true) := by rw [ha]; exact hp
      rcases hw1 with ⟨m, e1, hm, hm2⟩ | e1 <;> rcases hw2 with ⟨n, e2, hn, hn2'⟩ | e2
      · rw [← hm] at hmp hprod
        rw [← hn] at hnp hprod
        rcases hw3 with ⟨k, e3, hk, hk2⟩ | e3
        · rw [← hk] at hprod
          have hd : (m : Int) ≤ (k : Int) / n := by rw [Int.le_ediv_iff_mul_le (by omega)]; exact_mod_cast hprod
          have hd2 : (k : Int) / n ≤ k := Int.ediv_le_self _ (by omega)
          have hq : IntKind.i64.wrap ((k : Int) / n) = (k : Int) / n := IntWalk.i64_in _ (by omega)
          have hq6 : wrap64 ((k : Int) / n) = (k : Int) / n := by unfold wrap64; omega
          exact TrimFewest_YA u v hu hv x y H1 H2 hx hy p1 p2 p3 1 n2 n3 R1 R2 R3 L1 L2 L3 hnn1 hnn2  P he hemp hz m n k 0 (Lib.hid e1) (Lib.hid e2) (Lib.hid e3) (by omega) (by omega) ((k : Int) / n) hq6 hq hd w
        · exact TrimFewest_YB u v hu hv x y H1 H2 hx hy p1 p2 p3 1 n2 n3 R1 R2 R3 L1 L2 L3 hnn1 hnn2  P he hemp hz m n 0 0 (Lib.hid e1) (Lib.hid e2) (Lib.hid e3) (by omega) (by omega) w
      · obtain ⟨k, j, e3⟩ : ∃ (k : Nat) (j : Int), waysR (x ++ y) = (k, j) := ⟨_, _, rfl⟩
        exact TrimFewest_YD u v hu hv x y H1 H2 hx hy p1 p2 p3 1 n2 n3 R1 R2 R3 L1 L2 L3 hnn1 hnn2  P he hemp hz m 0 k j (Lib.hid e1) (Lib.hid e2) (Lib.hid e3) w
      · obtain ⟨k, j, e3⟩ : ∃ (k : Nat) (j : Int), waysR (x ++ y) = (k, j) := ⟨_, _, rfl⟩
        exact TrimFewest_YC u v hu hv x y H1 H2 hx hy p1 p2 p3 1 n2 n3 R1 R2 R3 L1 L2 L3 hnn1 hnn2  P he hemp hz 0 n k j (Lib.hid e1) (Lib.hid e2) (Lib.hid e3) w
      · obtain ⟨k, j, e3⟩ : ∃ (k : Nat) (j : Int), waysR (x ++ y) = (k, j) := ⟨_, _, rfl⟩
        exact TrimFewest_YF u v hu hv x y H1 H2 hx hy p1 p2 p3 1 n2 n3 R1 R2 R3 L1 L2 L3 hnn1 hnn2  P he hemp hz 0 0 k j (Lib.hid e1) (Lib.hid e2) (Lib.hid e3) w
    | false =>
      have hn0 : n1 ≠ 1 := fun h => by have := (h1.1 h).2; rw [hp] at this; cases this
      have hl1 : ((n1 : Int) == 1) = false := by rw [beq_eq_false_iff_ne]; omega
      have P : Hid (pal x.data.toList = false) := by rw [ha]; exact hp
      rcases hw1 with ⟨m, e1, hm, hm2⟩ | e1 <;> rcases hw2 with ⟨n, e2, hn, hn2'⟩ | e2
      · rw [← hm] at hmp hprod
        rw [← hn] at hnp hprod
        rcases hw3 with ⟨k, e3, hk, hk2⟩ | e3
        · rw [← hk] at hprod
          have hd : (m : Int) ≤ (k : Int) / n := by rw [Int.le_ediv_iff_mul_le (by omega)]; exact_mod_cast hprod
          have hd2 : (k : Int) / n ≤ k := Int.ediv_le_self _ (by omega)
          have hq : IntKind.i64.wrap ((k : Int) / n) = (k : Int) / n := IntWalk.i64_in _ (by omega)
          have hq6 : wrap64 ((k : Int) / n) = (k : Int) / n := by unfold wrap64; omega
          exact TrimFewest_NA u v hu hv x y H1 H2 hx hy p1 p2 p3 n1 n2 n3 R1 R2 R3 L1 L2 L3 hnn1 hnn2  P he hemp hl1 hz m n k 0 (Lib.hid e1) (Lib.hid e2) (Lib.hid e3) (by omega) (by omega) ((k : Int) / n) hq6 hq hd w
        · exact TrimFewest_NB u v hu hv x y H1 H2 hx hy p1 p2 p3 n1 n2 n3 R1 R2 R3 L1 L2 L3 hnn1 hnn2  P he hemp hl1 hz m n 0 0 (Lib.hid e1) (Lib.hid e2) (Lib.hid e3) (by omega) (by omega) w
      · obtain ⟨k, j, e3⟩ : ∃ (k : Nat) (j : Int), waysR (x ++ y) = (k, j) := ⟨_, _, rfl⟩
        exact TrimFewest_ND u v hu hv x y H1 H2 hx hy p1 p2 p3 n1 n2 n3 R1 R2 R3 L1 L2 L3 hnn1 hnn2  P he hemp hl1 hz m 0 k j (Lib.hid e1) (Lib.hid e2) (Lib.hid e3) w
      · obtain ⟨k, j, e3⟩ : ∃ (k : Nat) (j : Int), waysR (x ++ y) = (k, j) := ⟨_, _, rfl⟩
        exact TrimFewest_NC u v hu hv x y H1 H2 hx hy p1 p2 p3 n1 n2 n3 R1 R2 R3 L1 L2 L3 hnn1 hnn2  P he hemp hl1 hz 0 n k j (Lib.hid e1) (Lib.hid e2) (Lib.hid e3) w
      · obtain ⟨k, j, e3⟩ : ∃ (k : Nat) (j : Int), waysR (x ++ y) = (k, j) := ⟨_, _, rfl⟩
        exact TrimFewest_NF u v hu hv x y H1 H2 hx hy p1 p2 p3 n1 n2 n3 R1 R2 R3 L1 L2 L3 hnn1 hnn2  P he hemp hl1 hz 0 0 k j (Lib.hid e1) (Lib.hid e2) (Lib.hid e3) w


namespace lawTrimFewest
open Go.ChangeShapes Go.WideShapes Go.ChangeAt Go.RowKit
open Go.ChangeMaps (open_string shut_string)

theorem own : ownKnob Try.prog.godebug = none := by kernel_rfl
theorem lay : laidOutB Try.prog = true := by kernel_rfl

set_option maxRecDepth 100000 in
theorem lifted (os : Os) (started : os.Started) (H : Type) (enc : TypeId × Value → H) :
    ReturnsInHanded {} Try.checked os 12 .any (Rows.trimFewestSpec.pre6 enc Try.prog Try.f12 Rows.trimFewestRow.domain false) (Rows.trimFewestSpec.post enc Try.prog Try.f12 false true false false) := by
  refine returnsInHanded_of_change (C := Try.checked) own started (by kernel_rfl) Try.func12
    (ChangeSpec.witness6 (enc := enc) (C := Try.checked) false ⟨#[], #[.string ByteArray.empty, .string ByteArray.empty], []⟩ 8 (by kernel_rfl) (by kernel_rfl) (by kernel_rfl) (by kernel_rfl)) ?_
  intro W base args ds gs before hval0 hW hcnd _
  have hval : ∀ (j : Nat) t v, Try.f12.params[j]? = some t → args[j]? = some v → Value.okWide Try.prog W .any base t v := hval0
  have hW' := hW
  obtain ⟨p, q, hA0, hV, rfl, hfz, hnd⟩ := hW
  have hA : DataW.TrodAll enc Try.prog W 0 (fun _ => true) true Try.f12.params.toList args.toList ds p := hA0
  rw [Try.params12] at hA hval
  obtain ⟨v0, vs0, d0, ds0, p0, q0, hargs, rfl, rfl, h0, r0⟩ := trodAll_cons hA
  obtain ⟨v1, vs1, d1, ds1, p1, q1, rfl, rfl, rfl, h1, r1⟩ := trodAll_cons r0
  obtain ⟨rfl, rfl, rfl⟩ := trodAll_nil r1
  obtain rfl : args = #[v0, v1] := by cases args; simp_all
  obtain ⟨rfl, rfl⟩ := trodVars_none hV
  obtain ⟨a0, rfl, rfl, rfl, w0⟩ := open_string Try.underlying9 (hval 0 9 v0 rfl rfl) h0
  obtain ⟨a1, rfl, rfl, rfl, w1⟩ := open_string Try.underlying9 (hval 1 9 v1 rfl rfl) h1
  simp only [List.append_nil] at hW'
  clear hA0 hval0
  refine (walk_TrimFewest a0 w0 a1 w1 W).mono fun e W' ⟨he, bel⟩ => ?_
  subst he
  exact ⟨_, rfl, _, _, _, [], _, [], hW', trodAll_mk1 (shut_bool Try.underlying4 _), (trodAll_cons_mk (shut_string Try.underlying9 w0) (trodAll_cons_mk (shut_string Try.underlying9 w1) trodAll_mk0)), rfl, bel.frame _, fun h => by cases h⟩

theorem over : Rows.trimFewestRow.holds Try.pinned (OpenSpec.ofChange Rows.trimFewestSpec) :=
  OpenClaim.holds_of_wide 12 Try.f12 rfl rfl rfl rfl rfl rfl rfl ⟨rfl, rfl, rfl, rfl, rfl⟩ rfl rfl rfl rfl rfl (by kernel_rfl) Try.func12 (by kernel_rfl)
    (of_decide_eq_true (by kernel_rfl)) (by unfold Func.isWrapper; first | (rw [if_pos (by decide +kernel)]; kernel_rfl) | (rw [if_neg (by decide +kernel)]; exact ⟨rfl, rfl⟩))
    (fun os started H enc _ => lifted os started H enc)

theorem proved : Rows.TrimFewestSaid := over
end lawTrimFewest
end Go.Proofs.Yteejjcipdpojnaa
