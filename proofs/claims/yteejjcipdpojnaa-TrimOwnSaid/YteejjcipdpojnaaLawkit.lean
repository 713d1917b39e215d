/- What the laws of trim share. -/
import Derived.Test.YteejjcipdpojnaaAwake
import Derived.Test.YteejjcipdpojnaaRefb
import Derived.ProofKit
import Derived.OpenShut
import Derived.ShutString
import Derived.ChangeOld
namespace Go.Proofs.Yteejjcipdpojnaa
set_option linter.unusedVariables false
open Go.RowKit

theorem b_next {w a b : World} (h : Below w.heap.size w a) (k : Below a.heap.size a b) : Below w.heap.size w b := h.trans (k.mono h.size)
theorem short_size (a : ByteArray) : (a.extract 0 (min a.size 101)).size ≤ 101 := by rw [ByteArray.size_extract]; omega
theorem own_len' {w : World} {base n : Nat} {e : TypeId} {v : Value} {l : List Value} (h : w.ownsRow base e 1 v n l) : l.length = n := by have := h.1; omega
theorem part_data (s : ByteArray) (i j : Nat) : (s.extract i j).data.toList = (s.data.toList.take j).drop i := by rw [Lib.extract_data, List.drop_take]
theorem row_int {w : World} {a : Option Addr} {n k : Nat} {l : List Nat} {x : Nat} (h : Row w a n (nats l)) (hk : k < n) (hx : l[k]? = some x) : ∃ g, a = some ⟨g, 0, none⟩ ∧ w.cell? ⟨g, k, none⟩ = some (.int .i64 x) := by
  obtain ⟨g, rfl, _, hc⟩ := h.2 (by omega)
  exact ⟨g, rfl, hc k _ (by simp [nats, hx])⟩
end Go.Proofs.Yteejjcipdpojnaa
