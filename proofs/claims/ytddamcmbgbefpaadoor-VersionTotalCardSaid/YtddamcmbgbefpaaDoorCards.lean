/-
  DERIVED. GIVEN WITH THE SEED: THE CARDS: each row of YtddamcmbgbefpaaDoorRows.lean that lists a variable, with what it lists TIED to the program's text (the seventh form; the later family's looks); each row that meets fmt, with fmt's text TOLD by the authors' own Lean function (tested against real Go, not proved from fmt's source: count such statements apart). THE CARD IS WHAT COUNTS. Prove the row's statement (the work); the ties are given (YtddamcmbgbefpaaDoorTie.lean); close each card by the builder's one call (the guide's Derived/Test/ToyasCard.lean, 'card_holds'). Laid BY PROGRAM, IN A SANDBOX (cutbox-door.mjs). By AI agents, Wed Nov 11 2026. No macro, syntax, notation, axiom, sorry.
-/
import Derived.Test.YtddamcmbgbefpaaDoorRows
import GoSem.ClaimSeven
namespace Go.Proofs.YtddamcmbgbefpaaDoor
namespace Rows

/-- THE TIED CARD OF 'winnowerlaw12.VersionOrder'. -/
def versionOrderCard : Claim7 := { stood := { row := versionOrderRow, standIns := [], harness := (true, "bfdb81573ca4f0c5f2525504a600563a7c624ca73f2a8b46661e1f5c24bd493d"), looks := true }, kinds := [], alts := [], laidByText := true, laidKinds := [.data, .data, .data, .sentinel, .sentinel], laidTests := true, laidLooks := .later }
def VersionOrderCardSaid : Prop := Claim7.holds Tryd.pinned (.plain (OpenSpec.ofChange versionOrderSpec)) versionOrderCard

/-- THE TIED CARD OF 'winnowerlaw12.VersionTexts'. -/
def versionTextsCard : Claim7 := { stood := { row := versionTextsRow, standIns := [], harness := (true, "bfdb81573ca4f0c5f2525504a600563a7c624ca73f2a8b46661e1f5c24bd493d"), looks := true }, kinds := [], alts := [], laidByText := true, laidKinds := [.data, .data, .data, .sentinel, .sentinel], laidTests := true, laidLooks := .later }
def VersionTextsCardSaid : Prop := Claim7.holds Tryd.pinned (.plain (OpenSpec.ofChange versionTextsSpec)) versionTextsCard

/-- THE TIED CARD OF 'winnowerlaw12.VersionSorted'. -/
def versionSortedCard : Claim7 := { stood := { row := versionSortedRow, standIns := [], harness := (true, "bfdb81573ca4f0c5f2525504a600563a7c624ca73f2a8b46661e1f5c24bd493d"), looks := true }, kinds := [], alts := [], laidByText := true, laidKinds := [.data, .data, .data, .sentinel, .sentinel], laidTests := true, laidLooks := .later }
def VersionSortedCardSaid : Prop := Claim7.holds Tryd.pinned (.plain (OpenSpec.ofChange versionSortedSpec)) versionSortedCard

/-- THE TIED CARD OF 'winnowerlaw12.VersionTotal'. -/
def versionTotalCard : Claim7 := { stood := { row := versionTotalRow, standIns := [], harness := (true, "bfdb81573ca4f0c5f2525504a600563a7c624ca73f2a8b46661e1f5c24bd493d"), looks := true }, kinds := [], alts := [], laidByText := true, laidKinds := [.data, .data, .data, .sentinel, .sentinel], laidTests := true, laidLooks := .later }
def VersionTotalCardSaid : Prop := Claim7.holds Tryd.pinned (.plain (OpenSpec.ofChange versionTotalSpec)) versionTotalCard

/-- THE SECOND FORM's CARD OF 'winnowerlaw12.VersionOrder'. -/
def versionOrderUptoCard : Claim7 := { stood := { row := versionOrderUptoRow, standIns := [], harness := (true, "bfdb81573ca4f0c5f2525504a600563a7c624ca73f2a8b46661e1f5c24bd493d"), looks := true }, kinds := [], alts := [], laidByText := true, laidKinds := [.data, .data, .data, .sentinel, .sentinel], laidTests := true, laidLooks := .later }
def VersionOrderUptoCardSaid : Prop := Claim7.holds Tryd.pinned (.plain (OpenSpec.upto versionOrderSpec)) versionOrderUptoCard

/-- THE SECOND FORM's CARD OF 'winnowerlaw12.VersionTexts'. -/
def versionTextsUptoCard : Claim7 := { stood := { row := versionTextsUptoRow, standIns := [], harness := (true, "bfdb81573ca4f0c5f2525504a600563a7c624ca73f2a8b46661e1f5c24bd493d"), looks := true }, kinds := [], alts := [], laidByText := true, laidKinds := [.data, .data, .data, .sentinel, .sentinel], laidTests := true, laidLooks := .later }
def VersionTextsUptoCardSaid : Prop := Claim7.holds Tryd.pinned (.plain (OpenSpec.upto versionTextsSpec)) versionTextsUptoCard

/-- THE SECOND FORM's CARD OF 'winnowerlaw12.VersionSorted'. -/
def versionSortedUptoCard : Claim7 := { stood := { row := versionSortedUptoRow, standIns := [], harness := (true, "bfdb81573ca4f0c5f2525504a600563a7c624ca73f2a8b46661e1f5c24bd493d"), looks := true }, kinds := [], alts := [], laidByText := true, laidKinds := [.data, .data, .data, .sentinel, .sentinel], laidTests := true, laidLooks := .later }
def VersionSortedUptoCardSaid : Prop := Claim7.holds Tryd.pinned (.plain (OpenSpec.upto versionSortedSpec)) versionSortedUptoCard

/-- THE SECOND FORM's CARD OF 'winnowerlaw12.VersionTotal'. -/
def versionTotalUptoCard : Claim7 := { stood := { row := versionTotalUptoRow, standIns := [], harness := (true, "bfdb81573ca4f0c5f2525504a600563a7c624ca73f2a8b46661e1f5c24bd493d"), looks := true }, kinds := [], alts := [], laidByText := true, laidKinds := [.data, .data, .data, .sentinel, .sentinel], laidTests := true, laidLooks := .later }
def VersionTotalUptoCardSaid : Prop := Claim7.holds Tryd.pinned (.plain (OpenSpec.upto versionTotalSpec)) versionTotalUptoCard
end Rows
end Go.Proofs.YtddamcmbgbefpaaDoor
