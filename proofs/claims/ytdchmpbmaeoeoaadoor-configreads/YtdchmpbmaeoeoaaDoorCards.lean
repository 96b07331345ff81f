/-
  DERIVED. GIVEN WITH THE SEED: THE CARDS: each row of YtdchmpbmaeoeoaaDoorRows.lean that lists a variable, with what it lists TIED to the program's text (the seventh form; the later family's looks); each row that meets fmt, with fmt's text TOLD by the authors' own Lean function (tested against real Go, not proved from fmt's source: count such statements apart). THE CARD IS WHAT COUNTS. Prove the row's statement (the work); the ties are given (YtdchmpbmaeoeoaaDoorTie.lean); close each card by the builder's one call (the guide's Derived/Test/ToyasCard.lean, 'card_holds'). Laid BY PROGRAM, IN A SANDBOX (cutbox-door.mjs). By AI agents, Wed Nov 11 2026. No macro, syntax, notation, axiom, sorry.
-/
import Derived.Test.YtdchmpbmaeoeoaaDoorRows
import GoSem.ClaimSeven
namespace Go.Proofs.YtdchmpbmaeoeoaaDoor
namespace Rows

/-- THE TIED CARD OF 'hutchlaw11.ConfigChecks'. -/
def configChecksCard : Claim7 := { stood := { row := configChecksRow, standIns := [], harness := (true, "ee2a700080605efa1ffc12ef040f177c6698f9e3a12faaef380e9bd3346deb06"), looks := true }, kinds := [], alts := [], laidByText := true, laidKinds := [.data, .data, .data, .data, .sentinel, .sentinel, .pinned], laidTests := true, laidLooks := .later }
def ConfigChecksCardSaid : Prop := Claim7.holds Tryd.pinned (.plain (OpenSpec.ofChange configChecksSpec)) configChecksCard

/-- THE TIED CARD OF 'hutchlaw11.ConfigReads'. -/
def configReadsCard : Claim7 := { stood := { row := configReadsRow, standIns := [], harness := (true, "ee2a700080605efa1ffc12ef040f177c6698f9e3a12faaef380e9bd3346deb06"), looks := true }, kinds := [], alts := [], laidByText := true, laidKinds := [.data, .data, .data, .data, .sentinel, .sentinel, .pinned], laidTests := true, laidLooks := .later }
def ConfigReadsCardSaid : Prop := Claim7.holds Tryd.pinned (.plain (OpenSpec.ofChange configReadsSpec)) configReadsCard

/-- THE TIED CARD OF 'hutchlaw11.ConfigLost'. -/
def configLostCard : Claim7 := { stood := { row := configLostRow, standIns := [], harness := (true, "ee2a700080605efa1ffc12ef040f177c6698f9e3a12faaef380e9bd3346deb06"), looks := true }, kinds := [], alts := [], laidByText := true, laidKinds := [.data, .data, .data, .data, .sentinel, .sentinel, .pinned], laidTests := true, laidLooks := .later }
def ConfigLostCardSaid : Prop := Claim7.holds Tryd.pinned (.plain (OpenSpec.ofChange configLostSpec)) configLostCard

/-- THE SECOND FORM's CARD OF 'hutchlaw11.ConfigChecks'. -/
def configChecksUptoCard : Claim7 := { stood := { row := configChecksUptoRow, standIns := [], harness := (true, "ee2a700080605efa1ffc12ef040f177c6698f9e3a12faaef380e9bd3346deb06"), looks := true }, kinds := [], alts := [], laidByText := true, laidKinds := [.data, .data, .data, .data, .sentinel, .sentinel, .pinned], laidTests := true, laidLooks := .later }
def ConfigChecksUptoCardSaid : Prop := Claim7.holds Tryd.pinned (.plain (OpenSpec.upto configChecksSpec)) configChecksUptoCard

/-- THE SECOND FORM's CARD OF 'hutchlaw11.ConfigReads'. -/
def configReadsUptoCard : Claim7 := { stood := { row := configReadsUptoRow, standIns := [], harness := (true, "ee2a700080605efa1ffc12ef040f177c6698f9e3a12faaef380e9bd3346deb06"), looks := true }, kinds := [], alts := [], laidByText := true, laidKinds := [.data, .data, .data, .data, .sentinel, .sentinel, .pinned], laidTests := true, laidLooks := .later }
def ConfigReadsUptoCardSaid : Prop := Claim7.holds Tryd.pinned (.plain (OpenSpec.upto configReadsSpec)) configReadsUptoCard

/-- THE SECOND FORM's CARD OF 'hutchlaw11.ConfigLost'. -/
def configLostUptoCard : Claim7 := { stood := { row := configLostUptoRow, standIns := [], harness := (true, "ee2a700080605efa1ffc12ef040f177c6698f9e3a12faaef380e9bd3346deb06"), looks := true }, kinds := [], alts := [], laidByText := true, laidKinds := [.data, .data, .data, .data, .sentinel, .sentinel, .pinned], laidTests := true, laidLooks := .later }
def ConfigLostUptoCardSaid : Prop := Claim7.holds Tryd.pinned (.plain (OpenSpec.upto configLostSpec)) configLostUptoCard
end Rows
end Go.Proofs.YtdchmpbmaeoeoaaDoor
