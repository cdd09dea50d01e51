/-
  DERIVED. GIVEN WITH THE SEED: THE CARDS: each row of YtnmgahhceliphaaGreatDoorRows.lean that lists a variable, with what it lists TIED to the program's text (the seventh form; the later family's looks); each row that meets fmt, with fmt's text TOLD by the authors' own Lean function (tested against real Go, not proved from fmt's source: count such statements apart). THE CARD IS WHAT COUNTS. Prove the row's statement (the work); the ties are given (YtnmgahhceliphaaGreatDoorTie.lean); close each card by the builder's one call (the guide's Derived/Test/ToyasCard.lean, 'card_holds'). Laid BY PROGRAM, IN A SANDBOX (cutbox-door.mjs). By AI agents, Wed Nov 11 2026. No macro, syntax, notation, axiom, sorry.
-/
import Derived.Test.YtnmgahhceliphaaGreatDoorRows
import GoSem.ClaimSeven
namespace Go.Proofs.YtnmgahhceliphaaGreatDoor
namespace Rows

/-- THE TIED CARD OF 'spoondriftlaw07.AffineMaps'. -/
def affineMapsCard : Claim7 := { stood := { row := affineMapsRow, standIns := [], harness := (true, "438bee66fee9037da23f74a049e412f550f224d37b8e2a0540503c697b37ad37"), looks := false }, kinds := [], alts := [], laidByText := true, laidKinds := [.data], laidTests := true, laidLooks := .later }
def AffineMapsCardSaid : Prop := Claim7.holds Tryz.pinned (.plain (OpenSpec.ofChange affineMapsSpec)) affineMapsCard

/-- THE TIED CARD OF 'spoondriftlaw07.AffineOf'. -/
def affineOfCard : Claim7 := { stood := { row := affineOfRow, standIns := [], harness := (true, "438bee66fee9037da23f74a049e412f550f224d37b8e2a0540503c697b37ad37"), looks := false }, kinds := [], alts := [], laidByText := true, laidKinds := [.data], laidTests := true, laidLooks := .later }
def AffineOfCardSaid : Prop := Claim7.holds Tryz.pinned (.plain (OpenSpec.ofChange affineOfSpec)) affineOfCard

/-- THE TIED CARD OF 'spoondriftlaw07.AffineOrbits'. -/
def affineOrbitsCard : Claim7 := { stood := { row := affineOrbitsRow, standIns := [], harness := (true, "438bee66fee9037da23f74a049e412f550f224d37b8e2a0540503c697b37ad37"), looks := false }, kinds := [], alts := [], laidByText := true, laidKinds := [.data], laidTests := true, laidLooks := .later }
def AffineOrbitsCardSaid : Prop := Claim7.holds Tryz.pinned (.plain (OpenSpec.ofChange affineOrbitsSpec)) affineOrbitsCard

/-- THE TIED CARD OF 'spoondriftlaw07.AffineCircuits'. -/
def affineCircuitsCard : Claim7 := { stood := { row := affineCircuitsRow, standIns := [], harness := (true, "438bee66fee9037da23f74a049e412f550f224d37b8e2a0540503c697b37ad37"), looks := false }, kinds := [], alts := [], laidByText := true, laidKinds := [.data], laidTests := true, laidLooks := .later }
def AffineCircuitsCardSaid : Prop := Claim7.holds Tryz.pinned (.plain (OpenSpec.ofChange affineCircuitsSpec)) affineCircuitsCard

/-- THE TIED CARD OF 'spoondriftlaw07.AffineNumbers'. -/
def affineNumbersCard : Claim7 := { stood := { row := affineNumbersRow, standIns := [], harness := (true, "438bee66fee9037da23f74a049e412f550f224d37b8e2a0540503c697b37ad37"), looks := false }, kinds := [], alts := [], laidByText := true, laidKinds := [.data], laidTests := true, laidLooks := .later }
def AffineNumbersCardSaid : Prop := Claim7.holds Tryz.pinned (.plain (OpenSpec.ofChange affineNumbersSpec)) affineNumbersCard

/-- THE TIED CARD OF 'spoondriftlaw07.AffineProofs'. -/
def affineProofsCard : Claim7 := { stood := { row := affineProofsRow, standIns := [], harness := (true, "438bee66fee9037da23f74a049e412f550f224d37b8e2a0540503c697b37ad37"), looks := false }, kinds := [], alts := [], laidByText := true, laidKinds := [.data], laidTests := true, laidLooks := .later }
def AffineProofsCardSaid : Prop := Claim7.holds Tryz.pinned (.plain (OpenSpec.ofChange affineProofsSpec)) affineProofsCard

/-- THE TIED CARD OF 'spoondriftlaw07.AffineSmall'. -/
def affineSmallCard : Claim7 := { stood := { row := affineSmallRow, standIns := [], harness := (true, "438bee66fee9037da23f74a049e412f550f224d37b8e2a0540503c697b37ad37"), looks := false }, kinds := [], alts := [], laidByText := true, laidKinds := [.data], laidTests := true, laidLooks := .later }
def AffineSmallCardSaid : Prop := Claim7.holds Tryz.pinned (.plain (OpenSpec.ofChange affineSmallSpec)) affineSmallCard

/-- THE TIED CARD OF 'spoondriftlaw07.AffineStates'. -/
def affineStatesCard : Claim7 := { stood := { row := affineStatesRow, standIns := [], harness := (true, "438bee66fee9037da23f74a049e412f550f224d37b8e2a0540503c697b37ad37"), looks := false }, kinds := [], alts := [], laidByText := true, laidKinds := [.data, .widerDeep], laidTests := true, laidLooks := .later }
def AffineStatesCardSaid : Prop := Claim7.holds Tryz.pinned (.plain (OpenSpec.ofChange affineStatesSpec)) affineStatesCard

/-- THE TIED CARD OF 'spoondriftlaw07.AffineCanonical'. -/
def affineCanonicalCard : Claim7 := { stood := { row := affineCanonicalRow, standIns := [], harness := (true, "438bee66fee9037da23f74a049e412f550f224d37b8e2a0540503c697b37ad37"), looks := false }, kinds := [], alts := [], laidByText := true, laidKinds := [.data, .widerDeep], laidTests := true, laidLooks := .later }
def AffineCanonicalCardSaid : Prop := Claim7.holds Tryz.pinned (.plain (OpenSpec.ofChange affineCanonicalSpec)) affineCanonicalCard

/-- THE TIED CARD OF 'spoondriftlaw07.AffineGroup'. -/
def affineGroupCard : Claim7 := { stood := { row := affineGroupRow, standIns := [], harness := (true, "438bee66fee9037da23f74a049e412f550f224d37b8e2a0540503c697b37ad37"), looks := false }, kinds := [], alts := [], laidByText := true, laidKinds := [.data, .widerDeep], laidTests := true, laidLooks := .later }
def AffineGroupCardSaid : Prop := Claim7.holds Tryz.pinned (.plain (OpenSpec.ofChange affineGroupSpec)) affineGroupCard

/-- THE TIED CARD OF 'spoondriftlaw07.AffineFixed'. -/
def affineFixedCard : Claim7 := { stood := { row := affineFixedRow, standIns := [], harness := (true, "438bee66fee9037da23f74a049e412f550f224d37b8e2a0540503c697b37ad37"), looks := false }, kinds := [], alts := [], laidByText := true, laidKinds := [.data, .widerDeep], laidTests := true, laidLooks := .later }
def AffineFixedCardSaid : Prop := Claim7.holds Tryz.pinned (.plain (OpenSpec.ofChange affineFixedSpec)) affineFixedCard

/-- THE TIED CARD OF 'spoondriftlaw07.AffineLeast'. -/
def affineLeastCard : Claim7 := { stood := { row := affineLeastRow, standIns := [], harness := (true, "438bee66fee9037da23f74a049e412f550f224d37b8e2a0540503c697b37ad37"), looks := false }, kinds := [], alts := [], laidByText := true, laidKinds := [.data, .widerDeep], laidTests := true, laidLooks := .later }
def AffineLeastCardSaid : Prop := Claim7.holds Tryz.pinned (.plain (OpenSpec.ofChange affineLeastSpec)) affineLeastCard

/-- THE TIED CARD OF 'spoondriftlaw07.AffineNumbered'. -/
def affineNumberedCard : Claim7 := { stood := { row := affineNumberedRow, standIns := [], harness := (true, "438bee66fee9037da23f74a049e412f550f224d37b8e2a0540503c697b37ad37"), looks := false }, kinds := [], alts := [], laidByText := true, laidKinds := [.data], laidTests := true, laidLooks := .later }
def AffineNumberedCardSaid : Prop := Claim7.holds Tryz.pinned (.plain (OpenSpec.ofChange affineNumberedSpec)) affineNumberedCard

/-- THE SECOND FORM's CARD OF 'spoondriftlaw07.AffineMaps'. -/
def affineMapsUptoCard : Claim7 := { stood := { row := affineMapsUptoRow, standIns := [], harness := (true, "438bee66fee9037da23f74a049e412f550f224d37b8e2a0540503c697b37ad37"), looks := false }, kinds := [], alts := [], laidByText := true, laidKinds := [.data], laidTests := true, laidLooks := .later }
def AffineMapsUptoCardSaid : Prop := Claim7.holds Tryz.pinned (.plain (OpenSpec.upto affineMapsSpec)) affineMapsUptoCard

/-- THE SECOND FORM's CARD OF 'spoondriftlaw07.AffineOf'. -/
def affineOfUptoCard : Claim7 := { stood := { row := affineOfUptoRow, standIns := [], harness := (true, "438bee66fee9037da23f74a049e412f550f224d37b8e2a0540503c697b37ad37"), looks := false }, kinds := [], alts := [], laidByText := true, laidKinds := [.data], laidTests := true, laidLooks := .later }
def AffineOfUptoCardSaid : Prop := Claim7.holds Tryz.pinned (.plain (OpenSpec.upto affineOfSpec)) affineOfUptoCard

/-- THE SECOND FORM's CARD OF 'spoondriftlaw07.AffineOrbits'. -/
def affineOrbitsUptoCard : Claim7 := { stood := { row := affineOrbitsUptoRow, standIns := [], harness := (true, "438bee66fee9037da23f74a049e412f550f224d37b8e2a0540503c697b37ad37"), looks := false }, kinds := [], alts := [], laidByText := true, laidKinds := [.data], laidTests := true, laidLooks := .later }
def AffineOrbitsUptoCardSaid : Prop := Claim7.holds Tryz.pinned (.plain (OpenSpec.upto affineOrbitsSpec)) affineOrbitsUptoCard

/-- THE SECOND FORM's CARD OF 'spoondriftlaw07.AffineCircuits'. -/
def affineCircuitsUptoCard : Claim7 := { stood := { row := affineCircuitsUptoRow, standIns := [], harness := (true, "438bee66fee9037da23f74a049e412f550f224d37b8e2a0540503c697b37ad37"), looks := false }, kinds := [], alts := [], laidByText := true, laidKinds := [.data], laidTests := true, laidLooks := .later }
def AffineCircuitsUptoCardSaid : Prop := Claim7.holds Tryz.pinned (.plain (OpenSpec.upto affineCircuitsSpec)) affineCircuitsUptoCard

/-- THE SECOND FORM's CARD OF 'spoondriftlaw07.AffineNumbers'. -/
def affineNumbersUptoCard : Claim7 := { stood := { row := affineNumbersUptoRow, standIns := [], harness := (true, "438bee66fee9037da23f74a049e412f550f224d37b8e2a0540503c697b37ad37"), looks := false }, kinds := [], alts := [], laidByText := true, laidKinds := [.data], laidTests := true, laidLooks := .later }
def AffineNumbersUptoCardSaid : Prop := Claim7.holds Tryz.pinned (.plain (OpenSpec.upto affineNumbersSpec)) affineNumbersUptoCard

/-- THE SECOND FORM's CARD OF 'spoondriftlaw07.AffineProofs'. -/
def affineProofsUptoCard : Claim7 := { stood := { row := affineProofsUptoRow, standIns := [], harness := (true, "438bee66fee9037da23f74a049e412f550f224d37b8e2a0540503c697b37ad37"), looks := false }, kinds := [], alts := [], laidByText := true, laidKinds := [.data], laidTests := true, laidLooks := .later }
def AffineProofsUptoCardSaid : Prop := Claim7.holds Tryz.pinned (.plain (OpenSpec.upto affineProofsSpec)) affineProofsUptoCard

/-- THE SECOND FORM's CARD OF 'spoondriftlaw07.AffineSmall'. -/
def affineSmallUptoCard : Claim7 := { stood := { row := affineSmallUptoRow, standIns := [], harness := (true, "438bee66fee9037da23f74a049e412f550f224d37b8e2a0540503c697b37ad37"), looks := false }, kinds := [], alts := [], laidByText := true, laidKinds := [.data], laidTests := true, laidLooks := .later }
def AffineSmallUptoCardSaid : Prop := Claim7.holds Tryz.pinned (.plain (OpenSpec.upto affineSmallSpec)) affineSmallUptoCard

/-- THE SECOND FORM's CARD OF 'spoondriftlaw07.AffineStates'. -/
def affineStatesUptoCard : Claim7 := { stood := { row := affineStatesUptoRow, standIns := [], harness := (true, "438bee66fee9037da23f74a049e412f550f224d37b8e2a0540503c697b37ad37"), looks := false }, kinds := [], alts := [], laidByText := true, laidKinds := [.data, .widerDeep], laidTests := true, laidLooks := .later }
def AffineStatesUptoCardSaid : Prop := Claim7.holds Tryz.pinned (.plain (OpenSpec.upto affineStatesSpec)) affineStatesUptoCard

/-- THE SECOND FORM's CARD OF 'spoondriftlaw07.AffineCanonical'. -/
def affineCanonicalUptoCard : Claim7 := { stood := { row := affineCanonicalUptoRow, standIns := [], harness := (true, "438bee66fee9037da23f74a049e412f550f224d37b8e2a0540503c697b37ad37"), looks := false }, kinds := [], alts := [], laidByText := true, laidKinds := [.data, .widerDeep], laidTests := true, laidLooks := .later }
def AffineCanonicalUptoCardSaid : Prop := Claim7.holds Tryz.pinned (.plain (OpenSpec.upto affineCanonicalSpec)) affineCanonicalUptoCard

/-- THE SECOND FORM's CARD OF 'spoondriftlaw07.AffineGroup'. -/
def affineGroupUptoCard : Claim7 := { stood := { row := affineGroupUptoRow, standIns := [], harness := (true, "438bee66fee9037da23f74a049e412f550f224d37b8e2a0540503c697b37ad37"), looks := false }, kinds := [], alts := [], laidByText := true, laidKinds := [.data, .widerDeep], laidTests := true, laidLooks := .later }
def AffineGroupUptoCardSaid : Prop := Claim7.holds Tryz.pinned (.plain (OpenSpec.upto affineGroupSpec)) affineGroupUptoCard

/-- THE SECOND FORM's CARD OF 'spoondriftlaw07.AffineFixed'. -/
def affineFixedUptoCard : Claim7 := { stood := { row := affineFixedUptoRow, standIns := [], harness := (true, "438bee66fee9037da23f74a049e412f550f224d37b8e2a0540503c697b37ad37"), looks := false }, kinds := [], alts := [], laidByText := true, laidKinds := [.data, .widerDeep], laidTests := true, laidLooks := .later }
def AffineFixedUptoCardSaid : Prop := Claim7.holds Tryz.pinned (.plain (OpenSpec.upto affineFixedSpec)) affineFixedUptoCard

/-- THE SECOND FORM's CARD OF 'spoondriftlaw07.AffineLeast'. -/
def affineLeastUptoCard : Claim7 := { stood := { row := affineLeastUptoRow, standIns := [], harness := (true, "438bee66fee9037da23f74a049e412f550f224d37b8e2a0540503c697b37ad37"), looks := false }, kinds := [], alts := [], laidByText := true, laidKinds := [.data, .widerDeep], laidTests := true, laidLooks := .later }
def AffineLeastUptoCardSaid : Prop := Claim7.holds Tryz.pinned (.plain (OpenSpec.upto affineLeastSpec)) affineLeastUptoCard

/-- THE SECOND FORM's CARD OF 'spoondriftlaw07.AffineNumbered'. -/
def affineNumberedUptoCard : Claim7 := { stood := { row := affineNumberedUptoRow, standIns := [], harness := (true, "438bee66fee9037da23f74a049e412f550f224d37b8e2a0540503c697b37ad37"), looks := false }, kinds := [], alts := [], laidByText := true, laidKinds := [.data], laidTests := true, laidLooks := .later }
def AffineNumberedUptoCardSaid : Prop := Claim7.holds Tryz.pinned (.plain (OpenSpec.upto affineNumberedSpec)) affineNumberedUptoCard
end Rows
end Go.Proofs.YtnmgahhceliphaaGreatDoor
