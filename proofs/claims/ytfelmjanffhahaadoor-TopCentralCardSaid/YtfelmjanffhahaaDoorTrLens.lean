/- Contracts of trim.lengthAt, trim.centerLengths and trim.endLengths. -/
import Derived.Test.YtfelmjanffhahaaDoorTrWord
import Derived.Maps.AppendAt
namespace Go.Proofs.YtfelmjanffhahaaDoor.Tr
set_option linter.unusedVariables false
open Go.RowKit

/-- the length of the longest palindrome that grows out of the letters from b to e - 1 -/
def growAt (l : List UInt8) : Nat → Nat → Nat
  | 0, e => e
  | b + 1, e => if e < l.length ∧ l.getD b 0 = l.getD e 0 then growAt l b (e + 1) else e - (b + 1)

def centerAt (l : List UInt8) (c : Nat) : Nat := growAt l ((c + 1) / 2) (c / 2 + 1)

theorem growAt_yes {l : List UInt8} {b e : Nat} (h1 : e < l.length) (h2 : l.getD b 0 = l.getD e 0) : growAt l (b + 1) e = growAt l b (e + 1) := by
  rw [growAt, if_pos ⟨h1, h2⟩]
theorem growAt_no {l : List UInt8} {b e : Nat} (h2 : ¬ (e < l.length ∧ l.getD b 0 = l.getD e 0)) : growAt l (b + 1) e = e - (b + 1) := by
  rw [growAt, if_neg h2]

theorem growAt_le (l : List UInt8) : ∀ (b e : Nat), e ≤ l.length → growAt l b e ≤ l.length
  | 0, e, h => h
  | b + 1, e, h => by
    unfold growAt; split
    · exact growAt_le l b (e + 1) (by omega)
    · omega

theorem nat_beq (a b : UInt8) : ((a.toNat : Int) == (b.toNat : Int)) = (a == b) := by
  have h : ((a.toNat : Int) = b.toNat) ↔ a = b := by rw [Int.ofNat_inj, UInt8.toNat_inj]
  rw [Bool.eq_iff_iff, beq_iff_eq, beq_iff_eq]; exact h

def nats (l : List Nat) : List Value := l.map fun n : Nat => Value.int .i64 n
theorem nats_length (l : List Nat) : (nats l).length = l.length := List.length_map _
theorem nats_snoc (l : List Nat) (n : Nat) : nats (l ++ [n]) = nats l ++ [.int .i64 n] := by simp [nats]

def endsTo (l : List UInt8) (k : Nat) : List Nat := (List.range k).map fun j => longEnd (l.take (j + 1))
def ends (l : List UInt8) : List Nat := endsTo l l.length
theorem endsTo_succ (l : List UInt8) (k : Nat) : endsTo l (k + 1) = endsTo l k ++ [longEnd (l.take (k + 1))] := by simp [endsTo, List.range_succ]
theorem endsTo_length (l : List UInt8) (k : Nat) : (endsTo l k).length = k := by simp [endsTo]
def centersTo (l : List UInt8) (k : Nat) : List Nat := (List.range k).map fun c => centerAt l c
def centers (l : List UInt8) : List Nat := centersTo l (2 * l.length - 1)
theorem centersTo_succ (l : List UInt8) (k : Nat) : centersTo l (k + 1) = centersTo l k ++ [centerAt l k] := by simp [centersTo, List.range_succ]
theorem centersTo_length (l : List UInt8) (k : Nat) : (centersTo l k).length = k := by simp [centersTo]

theorem info_int : (Tryd.prog.info? 3).map (fun i => (i.zero, i.size, i.bytes)) = some (some (.int .i64 0), 1, 8) := by kernel_rfl

theorem take_data (s : ByteArray) (k : Nat) : (s.extract 0 k).data.toList = s.data.toList.take k := by
  rw [Lib.extract_data]; simp

theorem rel_push {w wr wx w1 : World} {base : Nat} {e : TypeId} {v : Value} {k : Nat} {xs : List Value} (hB : Below base w wr) (hb : base ≤ wx.heap.size) (hx : Below base wr wx) (hown : wr.ownsRow base e 1 v k xs)
    (hg : wx.grownBy w1 v.ownBlock) : Below base w w1 :=
  (hB.trans hx).grown hg hb (fun j hj => (hown.lt j hj).1)

end Go.Proofs.YtfelmjanffhahaaDoor.Tr
