/-
  DERIVED. GIVEN WITH THE SEED: THE CARDS: each row of YtnhjnciadmgkeaaDoorRows.lean that lists a variable, with what it lists TIED to the program's text (the seventh form; the later family's looks); each row that meets fmt, with fmt's text TOLD by the authors' own Lean function (tested against real Go, not proved from fmt's source: count such statements apart). THE CARD IS WHAT COUNTS. Prove the row's statement (the work); the ties are given (YtnhjnciadmgkeaaDoorTie.lean); close each card by the builder's one call (the guide's Derived/Test/ToyasCard.lean, 'card_holds'). Laid BY PROGRAM, IN A SANDBOX (cutbox-door.mjs). By AI agents, Wed Nov 11 2026. No macro, syntax, notation, axiom, sorry.
-/
import Derived.Test.YtnhjnciadmgkeaaDoorRows
import GoSem.ClaimSeven
namespace Go.Proofs.YtnhjnciadmgkeaaDoor
namespace Rows

/-- THE TIED CARD OF 'hutchlaw06.LookupPlays'. -/
def lookupPlaysCard : Claim7 := { stood := { row := lookupPlaysRow, standIns := [], harness := (true, "3d83ed665fd50a2530d0f0f1917d7558d7d17f6a71c37f3a6960b9aa5d955225"), looks := false }, kinds := [], alts := [], laidByText := true, laidKinds := [.data, .data], laidTests := true, laidLooks := .later }
def LookupPlaysCardSaid : Prop := Claim7.holds Tryd.pinned (.plain (OpenSpec.ofChange lookupPlaysSpec)) lookupPlaysCard

/-- THE TIED CARD OF 'hutchlaw06.LookupMany'. -/
def lookupManyCard : Claim7 := { stood := { row := lookupManyRow, standIns := [], harness := (true, "3d83ed665fd50a2530d0f0f1917d7558d7d17f6a71c37f3a6960b9aa5d955225"), looks := false }, kinds := [], alts := [], laidByText := true, laidKinds := [.data, .data], laidTests := true, laidLooks := .later }
def LookupManyCardSaid : Prop := Claim7.holds Tryd.pinned (.plain (OpenSpec.ofChange lookupManySpec)) lookupManyCard

/-- THE TIED CARD OF 'hutchlaw06.LookupNil'. -/
def lookupNilCard : Claim7 := { stood := { row := lookupNilRow, standIns := [], harness := (true, "3d83ed665fd50a2530d0f0f1917d7558d7d17f6a71c37f3a6960b9aa5d955225"), looks := false }, kinds := [], alts := [], laidByText := true, laidKinds := [.data, .data], laidTests := true, laidLooks := .later }
def LookupNilCardSaid : Prop := Claim7.holds Tryd.pinned (.plain (OpenSpec.ofChange lookupNilSpec)) lookupNilCard

/-- THE SECOND FORM's CARD OF 'hutchlaw06.LookupPlays'. -/
def lookupPlaysUptoCard : Claim7 := { stood := { row := lookupPlaysUptoRow, standIns := [], harness := (true, "3d83ed665fd50a2530d0f0f1917d7558d7d17f6a71c37f3a6960b9aa5d955225"), looks := false }, kinds := [], alts := [], laidByText := true, laidKinds := [.data, .data], laidTests := true, laidLooks := .later }
def LookupPlaysUptoCardSaid : Prop := Claim7.holds Tryd.pinned (.plain (OpenSpec.upto lookupPlaysSpec)) lookupPlaysUptoCard

/-- THE SECOND FORM's CARD OF 'hutchlaw06.LookupMany'. -/
def lookupManyUptoCard : Claim7 := { stood := { row := lookupManyUptoRow, standIns := [], harness := (true, "3d83ed665fd50a2530d0f0f1917d7558d7d17f6a71c37f3a6960b9aa5d955225"), looks := false }, kinds := [], alts := [], laidByText := true, laidKinds := [.data, .data], laidTests := true, laidLooks := .later }
def LookupManyUptoCardSaid : Prop := Claim7.holds Tryd.pinned (.plain (OpenSpec.upto lookupManySpec)) lookupManyUptoCard

/-- THE SECOND FORM's CARD OF 'hutchlaw06.LookupNil'. -/
def lookupNilUptoCard : Claim7 := { stood := { row := lookupNilUptoRow, standIns := [], harness := (true, "3d83ed665fd50a2530d0f0f1917d7558d7d17f6a71c37f3a6960b9aa5d955225"), looks := false }, kinds := [], alts := [], laidByText := true, laidKinds := [.data, .data], laidTests := true, laidLooks := .later }
def LookupNilUptoCardSaid : Prop := Claim7.holds Tryd.pinned (.plain (OpenSpec.upto lookupNilSpec)) lookupNilUptoCard
end Rows
end Go.Proofs.YtnhjnciadmgkeaaDoor
