/-
  DERIVED. GIVEN WITH THE SEED: THE CARDS: each row of YtlfhhnjdfpgadaaDoorRows.lean that lists a variable, with what it lists TIED to the program's text (the seventh form; the later family's looks); each row that meets fmt, with fmt's text TOLD by the authors' own Lean function (tested against real Go, not proved from fmt's source: count such statements apart). THE CARD IS WHAT COUNTS. Prove the row's statement (the work); the ties are given (YtlfhhnjdfpgadaaDoorTie.lean); close each card by the builder's one call (the guide's Derived/Test/ToyasCard.lean, 'card_holds'). Laid BY PROGRAM, IN A SANDBOX (cutbox-door.mjs). By AI agents, Wed Nov 11 2026. No macro, syntax, notation, axiom, sorry.
-/
import Derived.Test.YtlfhhnjdfpgadaaDoorRows
import GoSem.ClaimSeven
namespace Go.Proofs.YtlfhhnjdfpgadaaDoor
namespace Rows

/-- THE TIED CARD OF 'almanaclaw12.CompBack'. -/
def compBackCard : Claim7 := { stood := { row := compBackRow, standIns := [], harness := (true, "3e262f8d740e24c0882b664b85c8e9d49e7548b945c362396a928710480ae6ff"), looks := false }, kinds := [], alts := [], laidByText := true, laidKinds := [.data, .data, .pinned, .pinned], laidTests := true, laidLooks := .later }
def CompBackCardSaid : Prop := Claim7.holds Tryd.pinned (.plain (OpenSpec.ofChange compBackSpec)) compBackCard

/-- THE TIED CARD OF 'almanaclaw12.CompLetters'. -/
def compLettersCard : Claim7 := { stood := { row := compLettersRow, standIns := [], harness := (true, "3e262f8d740e24c0882b664b85c8e9d49e7548b945c362396a928710480ae6ff"), looks := false }, kinds := [], alts := [], laidByText := true, laidKinds := [.data, .data, .pinned, .pinned], laidTests := true, laidLooks := .later }
def CompLettersCardSaid : Prop := Claim7.holds Tryd.pinned (.plain (OpenSpec.ofChange compLettersSpec)) compLettersCard

/-- THE SECOND FORM's CARD OF 'almanaclaw12.CompBack'. -/
def compBackUptoCard : Claim7 := { stood := { row := compBackUptoRow, standIns := [], harness := (true, "3e262f8d740e24c0882b664b85c8e9d49e7548b945c362396a928710480ae6ff"), looks := false }, kinds := [], alts := [], laidByText := true, laidKinds := [.data, .data, .pinned, .pinned], laidTests := true, laidLooks := .later }
def CompBackUptoCardSaid : Prop := Claim7.holds Tryd.pinned (.plain (OpenSpec.upto compBackSpec)) compBackUptoCard

/-- THE SECOND FORM's CARD OF 'almanaclaw12.CompLetters'. -/
def compLettersUptoCard : Claim7 := { stood := { row := compLettersUptoRow, standIns := [], harness := (true, "3e262f8d740e24c0882b664b85c8e9d49e7548b945c362396a928710480ae6ff"), looks := false }, kinds := [], alts := [], laidByText := true, laidKinds := [.data, .data, .pinned, .pinned], laidTests := true, laidLooks := .later }
def CompLettersUptoCardSaid : Prop := Claim7.holds Tryd.pinned (.plain (OpenSpec.upto compLettersSpec)) compLettersUptoCard
end Rows
end Go.Proofs.YtlfhhnjdfpgadaaDoor
