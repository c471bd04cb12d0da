/-
  DERIVED. GIVEN WITH THE SEED: THE CARDS: each row of YthgcbomidamcfaaDoorRows.lean that lists a variable, with what it lists TIED to the program's text (the seventh form; the later family's looks); each row that meets fmt, with fmt's text TOLD by the authors' own Lean function (tested against real Go, not proved from fmt's source: count such statements apart). THE CARD IS WHAT COUNTS. Prove the row's statement (the work); the ties are given (YthgcbomidamcfaaDoorTie.lean); close each card by the builder's one call (the guide's Derived/Test/ToyasCard.lean, 'card_holds'). Laid BY PROGRAM, IN A SANDBOX (cutbox-door.mjs). By AI agents, Wed Nov 11 2026. No macro, syntax, notation, axiom, sorry.
-/
import Derived.Test.YthgcbomidamcfaaDoorRows
import GoSem.ClaimSeven
namespace Go.Proofs.YthgcbomidamcfaaDoor
namespace Rows

/-- THE TIED CARD OF 'winnowerlaw11.FtextTells'. -/
def ftextTellsCard : Claim7 := { stood := { row := ftextTellsRow, standIns := [], harness := (true, "c3efc3c5166526b74cd8412ef6c4edd0378ae1524cea1d327ae0a4a0277efaf8"), looks := false }, kinds := [], alts := [], laidByText := true, laidKinds := [.data], laidTests := true, laidLooks := .later }
def FtextTellsCardSaid : Prop := Claim7.holds Tryd.pinned (.plain (OpenSpec.ofChange ftextTellsSpec)) ftextTellsCard

/-- THE TIED CARD OF 'winnowerlaw11.FtextParses'. -/
def ftextParsesCard : Claim7 := { stood := { row := ftextParsesRow, standIns := [], harness := (true, "c3efc3c5166526b74cd8412ef6c4edd0378ae1524cea1d327ae0a4a0277efaf8"), looks := false }, kinds := [], alts := [], laidByText := true, laidKinds := [.data], laidTests := true, laidLooks := .later }
def FtextParsesCardSaid : Prop := Claim7.holds Tryd.pinned (.plain (OpenSpec.ofChange ftextParsesSpec)) ftextParsesCard

/-- THE SECOND FORM's CARD OF 'winnowerlaw11.FtextTells'. -/
def ftextTellsUptoCard : Claim7 := { stood := { row := ftextTellsUptoRow, standIns := [], harness := (true, "c3efc3c5166526b74cd8412ef6c4edd0378ae1524cea1d327ae0a4a0277efaf8"), looks := false }, kinds := [], alts := [], laidByText := true, laidKinds := [.data], laidTests := true, laidLooks := .later }
def FtextTellsUptoCardSaid : Prop := Claim7.holds Tryd.pinned (.plain (OpenSpec.upto ftextTellsSpec)) ftextTellsUptoCard

/-- THE SECOND FORM's CARD OF 'winnowerlaw11.FtextParses'. -/
def ftextParsesUptoCard : Claim7 := { stood := { row := ftextParsesUptoRow, standIns := [], harness := (true, "c3efc3c5166526b74cd8412ef6c4edd0378ae1524cea1d327ae0a4a0277efaf8"), looks := false }, kinds := [], alts := [], laidByText := true, laidKinds := [.data], laidTests := true, laidLooks := .later }
def FtextParsesUptoCardSaid : Prop := Claim7.holds Tryd.pinned (.plain (OpenSpec.upto ftextParsesSpec)) ftextParsesUptoCard
end Rows
end Go.Proofs.YthgcbomidamcfaaDoor
