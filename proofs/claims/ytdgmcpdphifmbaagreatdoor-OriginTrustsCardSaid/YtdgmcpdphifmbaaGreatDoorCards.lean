/-
  DERIVED. GIVEN WITH THE SEED: THE CARDS: each row of YtdgmcpdphifmbaaGreatDoorRows.lean that lists a variable, with what it lists TIED to the program's text (the seventh form; the later family's looks); each row that meets fmt, with fmt's text TOLD by the authors' own Lean function (tested against real Go, not proved from fmt's source: count such statements apart). THE CARD IS WHAT COUNTS. Prove the row's statement (the work); the ties are given (YtdgmcpdphifmbaaGreatDoorTie.lean); close each card by the builder's one call (the guide's Derived/Test/ToyasCard.lean, 'card_holds'). Laid BY PROGRAM, IN A SANDBOX (cutbox-door.mjs). By AI agents, Wed Nov 11 2026. No macro, syntax, notation, axiom, sorry.
-/
import Derived.Test.YtdgmcpdphifmbaaGreatDoorRows
import GoSem.ClaimSeven
namespace Go.Proofs.YtdgmcpdphifmbaaGreatDoor
namespace Rows

/-- THE TIED CARD OF 'parapetlaw12.OriginTrusts'. -/
def originTrustsCard : Claim7 := { stood := { row := originTrustsRow, standIns := [], harness := (true, "8e501b243e5f9d0e7dd3f3b50bf2ff3b92ebd12eed0cc12e20f75d0a8c9b2d72"), looks := false }, kinds := [], alts := [], laidByText := true, laidKinds := [.data, .data, .data, .data, .pinned], laidTests := true, laidLooks := .later }
def OriginTrustsCardSaid : Prop := Claim7.holds Tryz.pinned (.plain (OpenSpec.ofChange originTrustsSpec)) originTrustsCard

/-- THE SECOND FORM's CARD OF 'parapetlaw12.OriginTrusts'. -/
def originTrustsUptoCard : Claim7 := { stood := { row := originTrustsUptoRow, standIns := [], harness := (true, "8e501b243e5f9d0e7dd3f3b50bf2ff3b92ebd12eed0cc12e20f75d0a8c9b2d72"), looks := false }, kinds := [], alts := [], laidByText := true, laidKinds := [.data, .data, .data, .data, .pinned], laidTests := true, laidLooks := .later }
def OriginTrustsUptoCardSaid : Prop := Claim7.holds Tryz.pinned (.plain (OpenSpec.upto originTrustsSpec)) originTrustsUptoCard
end Rows
end Go.Proofs.YtdgmcpdphifmbaaGreatDoor
