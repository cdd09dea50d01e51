/-
  DERIVED. GIVEN WITH THE SEED: THE CARDS: each row of YtihccnfaibiiiaaGreatDoorRows.lean that lists a variable, with what it lists TIED to the program's text (the seventh form; the later family's looks); each row that meets fmt, with fmt's text TOLD by the authors' own Lean function (tested against real Go, not proved from fmt's source: count such statements apart). THE CARD IS WHAT COUNTS. Prove the row's statement (the work); the ties are given (YtihccnfaibiiiaaGreatDoorTie.lean); close each card by the builder's one call (the guide's Derived/Test/ToyasCard.lean, 'card_holds'). Laid BY PROGRAM, IN A SANDBOX (cutbox-door.mjs). By AI agents, Wed Nov 11 2026. No macro, syntax, notation, axiom, sorry.
-/
import Derived.Test.YtihccnfaibiiiaaGreatDoorRows
import GoSem.ClaimSeven
namespace Go.Proofs.YtihccnfaibiiiaaGreatDoor
namespace Rows

/-- THE TIED CARD OF 'spoondriftlaw01.RingAdds'. -/
def ringAddsCard : Claim7 := { stood := { row := ringAddsRow, standIns := [], harness := (true, "bbde16659deca55a520a3bb0f5db5685e003d7c6119f7f548da51f765002baf3"), looks := false }, kinds := [], alts := [], laidByText := true, laidKinds := [.data, .data, .data, .data], laidTests := true, laidLooks := .later }
def RingAddsCardSaid : Prop := Claim7.holds Tryz.pinned (.plain (OpenSpec.ofChange ringAddsSpec)) ringAddsCard

/-- THE TIED CARD OF 'spoondriftlaw01.RingTurns'. -/
def ringTurnsCard : Claim7 := { stood := { row := ringTurnsRow, standIns := [], harness := (true, "bbde16659deca55a520a3bb0f5db5685e003d7c6119f7f548da51f765002baf3"), looks := false }, kinds := [], alts := [], laidByText := true, laidKinds := [.data, .data, .data, .data], laidTests := true, laidLooks := .later }
def RingTurnsCardSaid : Prop := Claim7.holds Tryz.pinned (.plain (OpenSpec.ofChange ringTurnsSpec)) ringTurnsCard

/-- THE TIED CARD OF 'spoondriftlaw01.RingPowers'. -/
def ringPowersCard : Claim7 := { stood := { row := ringPowersRow, standIns := [], harness := (true, "bbde16659deca55a520a3bb0f5db5685e003d7c6119f7f548da51f765002baf3"), looks := false }, kinds := [], alts := [], laidByText := true, laidKinds := [.data, .data, .data, .data], laidTests := true, laidLooks := .later }
def RingPowersCardSaid : Prop := Claim7.holds Tryz.pinned (.plain (OpenSpec.ofChange ringPowersSpec)) ringPowersCard

/-- THE TIED CARD OF 'spoondriftlaw01.RingOrders'. -/
def ringOrdersCard : Claim7 := { stood := { row := ringOrdersRow, standIns := [], harness := (true, "bbde16659deca55a520a3bb0f5db5685e003d7c6119f7f548da51f765002baf3"), looks := false }, kinds := [], alts := [], laidByText := true, laidKinds := [.data, .data, .data, .data], laidTests := true, laidLooks := .later }
def RingOrdersCardSaid : Prop := Claim7.holds Tryz.pinned (.plain (OpenSpec.ofChange ringOrdersSpec)) ringOrdersCard

/-- THE TIED CARD OF 'spoondriftlaw01.RingSmall'. -/
def ringSmallCard : Claim7 := { stood := { row := ringSmallRow, standIns := [], harness := (true, "bbde16659deca55a520a3bb0f5db5685e003d7c6119f7f548da51f765002baf3"), looks := false }, kinds := [], alts := [], laidByText := true, laidKinds := [.data, .data, .data, .data], laidTests := true, laidLooks := .later }
def RingSmallCardSaid : Prop := Claim7.holds Tryz.pinned (.plain (OpenSpec.ofChange ringSmallSpec)) ringSmallCard

/-- THE SECOND FORM's CARD OF 'spoondriftlaw01.RingAdds'. -/
def ringAddsUptoCard : Claim7 := { stood := { row := ringAddsUptoRow, standIns := [], harness := (true, "bbde16659deca55a520a3bb0f5db5685e003d7c6119f7f548da51f765002baf3"), looks := false }, kinds := [], alts := [], laidByText := true, laidKinds := [.data, .data, .data, .data], laidTests := true, laidLooks := .later }
def RingAddsUptoCardSaid : Prop := Claim7.holds Tryz.pinned (.plain (OpenSpec.upto ringAddsSpec)) ringAddsUptoCard

/-- THE SECOND FORM's CARD OF 'spoondriftlaw01.RingTurns'. -/
def ringTurnsUptoCard : Claim7 := { stood := { row := ringTurnsUptoRow, standIns := [], harness := (true, "bbde16659deca55a520a3bb0f5db5685e003d7c6119f7f548da51f765002baf3"), looks := false }, kinds := [], alts := [], laidByText := true, laidKinds := [.data, .data, .data, .data], laidTests := true, laidLooks := .later }
def RingTurnsUptoCardSaid : Prop := Claim7.holds Tryz.pinned (.plain (OpenSpec.upto ringTurnsSpec)) ringTurnsUptoCard

/-- THE SECOND FORM's CARD OF 'spoondriftlaw01.RingPowers'. -/
def ringPowersUptoCard : Claim7 := { stood := { row := ringPowersUptoRow, standIns := [], harness := (true, "bbde16659deca55a520a3bb0f5db5685e003d7c6119f7f548da51f765002baf3"), looks := false }, kinds := [], alts := [], laidByText := true, laidKinds := [.data, .data, .data, .data], laidTests := true, laidLooks := .later }
def RingPowersUptoCardSaid : Prop := Claim7.holds Tryz.pinned (.plain (OpenSpec.upto ringPowersSpec)) ringPowersUptoCard

/-- THE SECOND FORM's CARD OF 'spoondriftlaw01.RingOrders'. -/
def ringOrdersUptoCard : Claim7 := { stood := { row := ringOrdersUptoRow, standIns := [], harness := (true, "bbde16659deca55a520a3bb0f5db5685e003d7c6119f7f548da51f765002baf3"), looks := false }, kinds := [], alts := [], laidByText := true, laidKinds := [.data, .data, .data, .data], laidTests := true, laidLooks := .later }
def RingOrdersUptoCardSaid : Prop := Claim7.holds Tryz.pinned (.plain (OpenSpec.upto ringOrdersSpec)) ringOrdersUptoCard

/-- THE SECOND FORM's CARD OF 'spoondriftlaw01.RingSmall'. -/
def ringSmallUptoCard : Claim7 := { stood := { row := ringSmallUptoRow, standIns := [], harness := (true, "bbde16659deca55a520a3bb0f5db5685e003d7c6119f7f548da51f765002baf3"), looks := false }, kinds := [], alts := [], laidByText := true, laidKinds := [.data, .data, .data, .data], laidTests := true, laidLooks := .later }
def RingSmallUptoCardSaid : Prop := Claim7.holds Tryz.pinned (.plain (OpenSpec.upto ringSmallSpec)) ringSmallUptoCard
end Rows
end Go.Proofs.YtihccnfaibiiiaaGreatDoor
