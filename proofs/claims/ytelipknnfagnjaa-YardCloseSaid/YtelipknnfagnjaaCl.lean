/- YardClose: the branches. -/
import Derived.Test.YtelipknnfagnjaaAwake
import Derived.Test.YtelipknnfagnjaaDet
import Derived.Deep.DeepCutAuto
import Derived.ProofKit
import Derived.OpenShut
import Derived.ShutString
import Derived.ChangeOld
import Derived.Lib.SmallJoins
namespace Go.Proofs.Ytelipknnfagnjaa
set_option linter.unusedVariables false
open Go.RowKit Go.Shelf

def PNone (N p q : Nat) : Prop := (∀ w, Calls Try.prog 20 #[.int .i64 N, .agg #[.int .i64 p, .int .i64 q]] w fun e w' => e = .returned (.tuple #[.agg #[.int .i64 0, .int .i64 0], .int .i64 6]) ∧ Below w.heap.size w w') ∧ p = q
def PNy (N p q ny nz : Nat) : Prop := (∀ w, Calls Try.prog 20 #[.int .i64 N, .agg #[.int .i64 p, .int .i64 q]] w fun e w' => e = .returned (.tuple #[.agg #[.int .i64 ny, .int .i64 nz], .int .i64 0]) ∧ Below w.heap.size w w') ∧ validB ny nz = true ∧ lessF (p, q) (ny, nz) = true
def PNF (N p q r t ny nz : Nat) : Prop := PNy N p q ny nz ∧ lessF (p, q) (r, t) = false
def PNT (N p q r t ny nz : Nat) : Prop := PNy N p q ny nz ∧ lessF (p, q) (r, t) = true ∧ lessF (r, t) (ny, nz) = false
def PBone (N p q : Nat) : Prop := (∀ w, Calls Try.prog 21 #[.int .i64 N, .agg #[.int .i64 p, .int .i64 q]] w fun e w' => e = .returned (.tuple #[.agg #[.int .i64 0, .int .i64 0], .int .i64 6]) ∧ Below w.heap.size w w') ∧ p = 0
def PBz (N p q vv oo : Nat) : Prop := (∀ w, Calls Try.prog 21 #[.int .i64 N, .agg #[.int .i64 p, .int .i64 q]] w fun e w' => e = .returned (.tuple #[.agg #[.int .i64 vv, .int .i64 oo], .int .i64 0]) ∧ Below w.heap.size w w') ∧ validB vv oo = true ∧ lessF (vv, oo) (p, q) = true
def PBF (N p q r t vv oo : Nat) : Prop := PBz N p q vv oo ∧ lessF (vv, oo) (r, t) = false
def PBT (N p q r t vv oo : Nat) : Prop := PBz N p q vv oo ∧ lessF (vv, oo) (r, t) = true ∧ lessF (r, t) (p, q) = false
end Go.Proofs.Ytelipknnfagnjaa
