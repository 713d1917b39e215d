/-
  DERIVED. GIVEN WITH THE SEED: THE CARDS: each row of YtfelmjanffhahaaDoorRows.lean that lists a variable, with what it lists TIED to the program's text (the seventh form; the later family's looks); each row that meets fmt, with fmt's text TOLD by the authors' own Lean function (tested against real Go, not proved from fmt's source: count such statements apart). THE CARD IS WHAT COUNTS. Prove the row's statement (the work); the ties are given (YtfelmjanffhahaaDoorTie.lean); close each card by the builder's one call (the guide's Derived/Test/ToyasCard.lean, 'card_holds'). Laid BY PROGRAM, IN A SANDBOX (cutbox-door.mjs). By AI agents, Wed Nov 11 2026. No macro, syntax, notation, axiom, sorry.
-/
import Derived.Test.YtfelmjanffhahaaDoorRows
import GoSem.ClaimSeven
namespace Go.Proofs.YtfelmjanffhahaaDoor
namespace Rows

/-- THE TIED CARD OF 'galloonlaw03.YardFollows'. -/
def yardFollowsCard : Claim7 := { stood := { row := yardFollowsRow, standIns := [], harness := (true, "c082d0eb591b72ebbf6abfb91f4b2d7b982960650fbf65d5be28a7a1f6187b41"), looks := false }, kinds := [], alts := [], laidByText := true, laidKinds := [.data, .pinned], laidTests := true, laidLooks := .later }
def YardFollowsCardSaid : Prop := Claim7.holds Tryd.pinned (.plain (OpenSpec.ofChange yardFollowsSpec)) yardFollowsCard

/-- THE TIED CARD OF 'galloonlaw03.YardThere'. -/
def yardThereCard : Claim7 := { stood := { row := yardThereRow, standIns := [], harness := (true, "c082d0eb591b72ebbf6abfb91f4b2d7b982960650fbf65d5be28a7a1f6187b41"), looks := false }, kinds := [], alts := [], laidByText := true, laidKinds := [.data, .pinned], laidTests := true, laidLooks := .later }
def YardThereCardSaid : Prop := Claim7.holds Tryd.pinned (.plain (OpenSpec.ofChange yardThereSpec)) yardThereCard

/-- THE TIED CARD OF 'galloontop.TopCentral'. -/
def topCentralCard : Claim7 := { stood := { row := topCentralRow, standIns := [], harness := (true, "c082d0eb591b72ebbf6abfb91f4b2d7b982960650fbf65d5be28a7a1f6187b41"), looks := false }, kinds := [], alts := [], laidByText := true, laidKinds := [.data, .pinned], laidTests := true, laidLooks := .later }
def TopCentralCardSaid : Prop := Claim7.holds Tryd.pinned (.plain (OpenSpec.ofChange topCentralSpec)) topCentralCard

/-- THE SECOND FORM's CARD OF 'galloonlaw03.YardFollows'. -/
def yardFollowsUptoCard : Claim7 := { stood := { row := yardFollowsUptoRow, standIns := [], harness := (true, "c082d0eb591b72ebbf6abfb91f4b2d7b982960650fbf65d5be28a7a1f6187b41"), looks := false }, kinds := [], alts := [], laidByText := true, laidKinds := [.data, .pinned], laidTests := true, laidLooks := .later }
def YardFollowsUptoCardSaid : Prop := Claim7.holds Tryd.pinned (.plain (OpenSpec.upto yardFollowsSpec)) yardFollowsUptoCard

/-- THE SECOND FORM's CARD OF 'galloonlaw03.YardThere'. -/
def yardThereUptoCard : Claim7 := { stood := { row := yardThereUptoRow, standIns := [], harness := (true, "c082d0eb591b72ebbf6abfb91f4b2d7b982960650fbf65d5be28a7a1f6187b41"), looks := false }, kinds := [], alts := [], laidByText := true, laidKinds := [.data, .pinned], laidTests := true, laidLooks := .later }
def YardThereUptoCardSaid : Prop := Claim7.holds Tryd.pinned (.plain (OpenSpec.upto yardThereSpec)) yardThereUptoCard

/-- THE SECOND FORM's CARD OF 'galloontop.TopCentral'. -/
def topCentralUptoCard : Claim7 := { stood := { row := topCentralUptoRow, standIns := [], harness := (true, "c082d0eb591b72ebbf6abfb91f4b2d7b982960650fbf65d5be28a7a1f6187b41"), looks := false }, kinds := [], alts := [], laidByText := true, laidKinds := [.data, .pinned], laidTests := true, laidLooks := .later }
def TopCentralUptoCardSaid : Prop := Claim7.holds Tryd.pinned (.plain (OpenSpec.upto topCentralSpec)) topCentralUptoCard
end Rows
end Go.Proofs.YtfelmjanffhahaaDoor
