/- More sizes of wp_region_qlast. -/
import Derived.Test.YthmdlkaanjjbkaaQlast
namespace Go.Proofs.Ythmdlkaanjjbkaa
set_option linter.unusedVariables false
open Go.RowKit
theorem wp_region_qlast15 {P : Program} {x0 x1 x2 x3 x4 x5 x6 x7 x8 x9 x10 x11 x12 x13 o : Oper} {Q : Exit → Act → World → Prop} {id : Nat} {a : Act} {w : World} (hm : P.follows .mixedOrders = true) (hok : lastOkB .any [x0, x1, x2, x3, x4, x5, x6, x7, x8, x9, x10, x11, x12, x13] o = true) (hB : Region.lexB .any #[x0, x1, x2, x3, x4, x5, x6, x7, x8, x9, x10, x11, x12, x13] = true)
    (h : wpQuiet P #[x0, x1, x2, x3, x4, x5, x6, x7, x8, x9, x10, x11, x12, x13] (fun w' => ∃ n, w' = w.drewN n) (fun a' => ∀ w', (∃ n, w' = w.drewN n) → Oper.wp P o a' w' (Q .normal) Q) [x0, x1, x2, x3, x4, x5, x6, x7, x8, x9, x10, x11, x12, x13] a) : (Code.region id #[x0, x1, x2, x3, x4, x5, x6, x7, x8, x9, x10, x11, x12, x13, o] true).wp P Q a w :=
  wp_region_qlast (l := [x0, x1, x2, x3, x4, x5, x6, x7, x8, x9, x10, x11, x12, x13]) hm hok hB h
theorem wp_region_qlast17 {P : Program} {x0 x1 x2 x3 x4 x5 x6 x7 x8 x9 x10 x11 x12 x13 x14 x15 o : Oper} {Q : Exit → Act → World → Prop} {id : Nat} {a : Act} {w : World} (hm : P.follows .mixedOrders = true) (hok : lastOkB .any [x0, x1, x2, x3, x4, x5, x6, x7, x8, x9, x10, x11, x12, x13, x14, x15] o = true) (hB : Region.lexB .any #[x0, x1, x2, x3, x4, x5, x6, x7, x8, x9, x10, x11, x12, x13, x14, x15] = true)
    (h : wpQuiet P #[x0, x1, x2, x3, x4, x5, x6, x7, x8, x9, x10, x11, x12, x13, x14, x15] (fun w' => ∃ n, w' = w.drewN n) (fun a' => ∀ w', (∃ n, w' = w.drewN n) → Oper.wp P o a' w' (Q .normal) Q) [x0, x1, x2, x3, x4, x5, x6, x7, x8, x9, x10, x11, x12, x13, x14, x15] a) : (Code.region id #[x0, x1, x2, x3, x4, x5, x6, x7, x8, x9, x10, x11, x12, x13, x14, x15, o] true).wp P Q a w :=
  wp_region_qlast (l := [x0, x1, x2, x3, x4, x5, x6, x7, x8, x9, x10, x11, x12, x13, x14, x15]) hm hok hB h
theorem wp_region_qlast21 {P : Program} {x0 x1 x2 x3 x4 x5 x6 x7 x8 x9 x10 x11 x12 x13 x14 x15 x16 x17 x18 x19 o : Oper} {Q : Exit → Act → World → Prop} {id : Nat} {a : Act} {w : World} (hm : P.follows .mixedOrders = true) (hok : lastOkB .any [x0, x1, x2, x3, x4, x5, x6, x7, x8, x9, x10, x11, x12, x13, x14, x15, x16, x17, x18, x19] o = true) (hB : Region.lexB .any #[x0, x1, x2, x3, x4, x5, x6, x7, x8, x9, x10, x11, x12, x13, x14, x15, x16, x17, x18, x19] = true)
    (h : wpQuiet P #[x0, x1, x2, x3, x4, x5, x6, x7, x8, x9, x10, x11, x12, x13, x14, x15, x16, x17, x18, x19] (fun w' => ∃ n, w' = w.drewN n) (fun a' => ∀ w', (∃ n, w' = w.drewN n) → Oper.wp P o a' w' (Q .normal) Q) [x0, x1, x2, x3, x4, x5, x6, x7, x8, x9, x10, x11, x12, x13, x14, x15, x16, x17, x18, x19] a) : (Code.region id #[x0, x1, x2, x3, x4, x5, x6, x7, x8, x9, x10, x11, x12, x13, x14, x15, x16, x17, x18, x19, o] true).wp P Q a w :=
  wp_region_qlast (l := [x0, x1, x2, x3, x4, x5, x6, x7, x8, x9, x10, x11, x12, x13, x14, x15, x16, x17, x18, x19]) hm hok hB h
end Go.Proofs.Ythmdlkaanjjbkaa
