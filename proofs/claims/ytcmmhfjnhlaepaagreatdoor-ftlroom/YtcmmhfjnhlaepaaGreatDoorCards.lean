/-
  DERIVED. GIVEN WITH THE SEED: THE CARDS: each row of YtcmmhfjnhlaepaaGreatDoorRows.lean that lists a variable, with what it lists TIED to the program's text (the seventh form; the later family's looks); each row that meets fmt, with fmt's text TOLD by the authors' own Lean function (tested against real Go, not proved from fmt's source: count such statements apart). THE CARD IS WHAT COUNTS. Prove the row's statement (the work); the ties are given (YtcmmhfjnhlaepaaGreatDoorTie.lean); close each card by the builder's one call (the guide's Derived/Test/ToyasCard.lean, 'card_holds'). Laid BY PROGRAM, IN A SANDBOX (cutbox-door.mjs). By AI agents, Wed Nov 11 2026. No macro, syntax, notation, axiom, sorry.
-/
import Derived.Test.YtcmmhfjnhlaepaaGreatDoorRows
import GoSem.ClaimSeven
namespace Go.Proofs.YtcmmhfjnhlaepaaGreatDoor
namespace Rows

/-- THE TIED CARD OF 'tinderboxlaw16.FtlRoom'. -/
def ftlRoomCard : Claim7 := { stood := { row := ftlRoomRow, standIns := [], harness := (true, "9971fb9a3ed01ebcb004cf6f0e2afa9b08a8a3b030d2efaf59fd5be9f151baa3"), looks := true }, kinds := [], alts := [], laidByText := true, laidKinds := [.data], laidTests := true, laidLooks := .later }
def FtlRoomCardSaid : Prop := Claim7.holds Tryz.pinned (.plain (OpenSpec.ofChange ftlRoomSpec)) ftlRoomCard

/-- THE TIED CARD OF 'tinderboxlaw16.FtlNever'. -/
def ftlNeverCard : Claim7 := { stood := { row := ftlNeverRow, standIns := [], harness := (true, "9971fb9a3ed01ebcb004cf6f0e2afa9b08a8a3b030d2efaf59fd5be9f151baa3"), looks := true }, kinds := [], alts := [], laidByText := true, laidKinds := [.data], laidTests := true, laidLooks := .later }
def FtlNeverCardSaid : Prop := Claim7.holds Tryz.pinned (.plain (OpenSpec.ofChange ftlNeverSpec)) ftlNeverCard

/-- THE TIED CARD OF 'tinderboxlaw16.FtlWears'. -/
def ftlWearsCard : Claim7 := { stood := { row := ftlWearsRow, standIns := [], harness := (true, "9971fb9a3ed01ebcb004cf6f0e2afa9b08a8a3b030d2efaf59fd5be9f151baa3"), looks := true }, kinds := [], alts := [], laidByText := true, laidKinds := [.data], laidTests := true, laidLooks := .later }
def FtlWearsCardSaid : Prop := Claim7.holds Tryz.pinned (.plain (OpenSpec.ofChange ftlWearsSpec)) ftlWearsCard

/-- THE SECOND FORM's CARD OF 'tinderboxlaw16.FtlRoom'. -/
def ftlRoomUptoCard : Claim7 := { stood := { row := ftlRoomUptoRow, standIns := [], harness := (true, "9971fb9a3ed01ebcb004cf6f0e2afa9b08a8a3b030d2efaf59fd5be9f151baa3"), looks := true }, kinds := [], alts := [], laidByText := true, laidKinds := [.data], laidTests := true, laidLooks := .later }
def FtlRoomUptoCardSaid : Prop := Claim7.holds Tryz.pinned (.plain (OpenSpec.upto ftlRoomSpec)) ftlRoomUptoCard

/-- THE SECOND FORM's CARD OF 'tinderboxlaw16.FtlNever'. -/
def ftlNeverUptoCard : Claim7 := { stood := { row := ftlNeverUptoRow, standIns := [], harness := (true, "9971fb9a3ed01ebcb004cf6f0e2afa9b08a8a3b030d2efaf59fd5be9f151baa3"), looks := true }, kinds := [], alts := [], laidByText := true, laidKinds := [.data], laidTests := true, laidLooks := .later }
def FtlNeverUptoCardSaid : Prop := Claim7.holds Tryz.pinned (.plain (OpenSpec.upto ftlNeverSpec)) ftlNeverUptoCard

/-- THE SECOND FORM's CARD OF 'tinderboxlaw16.FtlWears'. -/
def ftlWearsUptoCard : Claim7 := { stood := { row := ftlWearsUptoRow, standIns := [], harness := (true, "9971fb9a3ed01ebcb004cf6f0e2afa9b08a8a3b030d2efaf59fd5be9f151baa3"), looks := true }, kinds := [], alts := [], laidByText := true, laidKinds := [.data], laidTests := true, laidLooks := .later }
def FtlWearsUptoCardSaid : Prop := Claim7.holds Tryz.pinned (.plain (OpenSpec.upto ftlWearsSpec)) ftlWearsUptoCard
end Rows
end Go.Proofs.YtcmmhfjnhlaepaaGreatDoor
