/-
  DERIVED. GIVEN WITH THE SEED: THE CARDS: each row of YtageldnhchgplaaGreatDoorRows.lean that lists a variable, with what it lists TIED to the program's text (the seventh form; the later family's looks); each row that meets fmt, with fmt's text TOLD by the authors' own Lean function (tested against real Go, not proved from fmt's source: count such statements apart). THE CARD IS WHAT COUNTS. Prove the row's statement (the work); the ties are given (YtageldnhchgplaaGreatDoorTie.lean); close each card by the builder's one call (the guide's Derived/Test/ToyasCard.lean, 'card_holds'). Laid BY PROGRAM, IN A SANDBOX (cutbox-door.mjs). By AI agents, Wed Nov 11 2026. No macro, syntax, notation, axiom, sorry.
-/
import Derived.Test.YtageldnhchgplaaGreatDoorRows
import GoSem.ClaimSeven
namespace Go.Proofs.YtageldnhchgplaaGreatDoor
namespace Rows

/-- THE TIED CARD OF 'parapetlaw6.KeepLong'. -/
def keepLongCard : Claim7 := { stood := { row := keepLongRow, standIns := [], harness := (true, "da4c242351f009a56d386ef4dbe0dacdc649d4629bc5d75f869f4856f2b45242"), looks := false }, kinds := [], alts := [], laidByText := true, laidKinds := [.data], laidTests := true, laidLooks := .later }
def KeepLongCardSaid : Prop := Claim7.holds Tryz.pinned (.plain (OpenSpec.ofChange keepLongSpec)) keepLongCard

/-- THE TIED CARD OF 'parapetlaw6.KeepOwn'. -/
def keepOwnCard : Claim7 := { stood := { row := keepOwnRow, standIns := [], harness := (true, "da4c242351f009a56d386ef4dbe0dacdc649d4629bc5d75f869f4856f2b45242"), looks := false }, kinds := [], alts := [], laidByText := true, laidKinds := [.data], laidTests := true, laidLooks := .later }
def KeepOwnCardSaid : Prop := Claim7.holds Tryz.pinned (.plain (OpenSpec.ofChange keepOwnSpec)) keepOwnCard

/-- THE SECOND FORM's CARD OF 'parapetlaw6.KeepLong'. -/
def keepLongUptoCard : Claim7 := { stood := { row := keepLongUptoRow, standIns := [], harness := (true, "da4c242351f009a56d386ef4dbe0dacdc649d4629bc5d75f869f4856f2b45242"), looks := false }, kinds := [], alts := [], laidByText := true, laidKinds := [.data], laidTests := true, laidLooks := .later }
def KeepLongUptoCardSaid : Prop := Claim7.holds Tryz.pinned (.plain (OpenSpec.upto keepLongSpec)) keepLongUptoCard

/-- THE SECOND FORM's CARD OF 'parapetlaw6.KeepOwn'. -/
def keepOwnUptoCard : Claim7 := { stood := { row := keepOwnUptoRow, standIns := [], harness := (true, "da4c242351f009a56d386ef4dbe0dacdc649d4629bc5d75f869f4856f2b45242"), looks := false }, kinds := [], alts := [], laidByText := true, laidKinds := [.data], laidTests := true, laidLooks := .later }
def KeepOwnUptoCardSaid : Prop := Claim7.holds Tryz.pinned (.plain (OpenSpec.upto keepOwnSpec)) keepOwnUptoCard
end Rows
end Go.Proofs.YtageldnhchgplaaGreatDoor
