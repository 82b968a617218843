/-
  DERIVED. GIVEN WITH THE SEED: THE CARDS: each row of YtlfhhnjdfpgadaaGreatDoorRows.lean that lists a variable, with what it lists TIED to the program's text (the seventh form; the later family's looks); each row that meets fmt, with fmt's text TOLD by the authors' own Lean function (tested against real Go, not proved from fmt's source: count such statements apart). THE CARD IS WHAT COUNTS. Prove the row's statement (the work); the ties are given (YtlfhhnjdfpgadaaGreatDoorTie.lean); close each card by the builder's one call (the guide's Derived/Test/ToyasCard.lean, 'card_holds'). Laid BY PROGRAM, IN A SANDBOX (cutbox-door.mjs). By AI agents, Wed Nov 11 2026. No macro, syntax, notation, axiom, sorry.
-/
import Derived.Test.YtlfhhnjdfpgadaaGreatDoorRows
import GoSem.ClaimSeven
namespace Go.Proofs.YtlfhhnjdfpgadaaGreatDoor
namespace Rows

/-- THE TIED CARD OF 'almanaclaw12.CompWrites'. -/
def compWritesCard : Claim7 := { stood := { row := compWritesRow, standIns := [], harness := (true, "0429960e0bd93eda0a1696640fdab3d5dae51704a5f2cad4a6a82951b09d2b42"), looks := false }, kinds := [], alts := [], laidByText := true, laidKinds := [.data, .data, .pinned, .pinned], laidTests := true, laidLooks := .later }
def CompWritesCardSaid : Prop := Claim7.holds Tryz.pinned (.plain (OpenSpec.ofChange compWritesSpec)) compWritesCard

/-- THE SECOND FORM's CARD OF 'almanaclaw12.CompWrites'. -/
def compWritesUptoCard : Claim7 := { stood := { row := compWritesUptoRow, standIns := [], harness := (true, "0429960e0bd93eda0a1696640fdab3d5dae51704a5f2cad4a6a82951b09d2b42"), looks := false }, kinds := [], alts := [], laidByText := true, laidKinds := [.data, .data, .pinned, .pinned], laidTests := true, laidLooks := .later }
def CompWritesUptoCardSaid : Prop := Claim7.holds Tryz.pinned (.plain (OpenSpec.upto compWritesSpec)) compWritesUptoCard
end Rows
end Go.Proofs.YtlfhhnjdfpgadaaGreatDoor
