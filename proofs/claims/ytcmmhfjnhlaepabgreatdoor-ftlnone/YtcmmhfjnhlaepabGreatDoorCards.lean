/-
  DERIVED. GIVEN WITH THE SEED: THE CARDS: each row of YtcmmhfjnhlaepabGreatDoorRows.lean that lists a variable, with what it lists TIED to the program's text (the seventh form; the later family's looks); each row that meets fmt, with fmt's text TOLD by the authors' own Lean function (tested against real Go, not proved from fmt's source: count such statements apart). THE CARD IS WHAT COUNTS. Prove the row's statement (the work); the ties are given (YtcmmhfjnhlaepabGreatDoorTie.lean); close each card by the builder's one call (the guide's Derived/Test/ToyasCard.lean, 'card_holds'). Laid BY PROGRAM, IN A SANDBOX (cutbox-door.mjs). By AI agents, Wed Nov 11 2026. No macro, syntax, notation, axiom, sorry.
-/
import Derived.Test.YtcmmhfjnhlaepabGreatDoorRows
import GoSem.ClaimSeven
namespace Go.Proofs.YtcmmhfjnhlaepabGreatDoor
namespace Rows

/-- THE TIED CARD OF 'tinderboxlaw16.FtlCosts'. -/
def ftlCostsCard : Claim7 := { stood := { row := ftlCostsRow, standIns := [], harness := (true, "2c58fb823d1a0219ef4ad1d6b3ff132daa894c2ee4e9d604cec0248aafac78fb"), looks := true }, kinds := [], alts := [], laidByText := true, laidKinds := [.data], laidTests := true, laidLooks := .later }
def FtlCostsCardSaid : Prop := Claim7.holds Tryz.pinned (.plain (OpenSpec.ofChange ftlCostsSpec)) ftlCostsCard

/-- THE TIED CARD OF 'tinderboxlaw16.FtlWorn'. -/
def ftlWornCard : Claim7 := { stood := { row := ftlWornRow, standIns := [], harness := (true, "2c58fb823d1a0219ef4ad1d6b3ff132daa894c2ee4e9d604cec0248aafac78fb"), looks := true }, kinds := [], alts := [], laidByText := true, laidKinds := [.data], laidTests := true, laidLooks := .later }
def FtlWornCardSaid : Prop := Claim7.holds Tryz.pinned (.plain (OpenSpec.ofChange ftlWornSpec)) ftlWornCard

/-- THE TIED CARD OF 'tinderboxlaw16.FtlNone'. -/
def ftlNoneCard : Claim7 := { stood := { row := ftlNoneRow, standIns := [], harness := (true, "2c58fb823d1a0219ef4ad1d6b3ff132daa894c2ee4e9d604cec0248aafac78fb"), looks := true }, kinds := [], alts := [], laidByText := true, laidKinds := [.data], laidTests := true, laidLooks := .later }
def FtlNoneCardSaid : Prop := Claim7.holds Tryz.pinned (.plain (OpenSpec.ofChange ftlNoneSpec)) ftlNoneCard

/-- THE SECOND FORM's CARD OF 'tinderboxlaw16.FtlCosts'. -/
def ftlCostsUptoCard : Claim7 := { stood := { row := ftlCostsUptoRow, standIns := [], harness := (true, "2c58fb823d1a0219ef4ad1d6b3ff132daa894c2ee4e9d604cec0248aafac78fb"), looks := true }, kinds := [], alts := [], laidByText := true, laidKinds := [.data], laidTests := true, laidLooks := .later }
def FtlCostsUptoCardSaid : Prop := Claim7.holds Tryz.pinned (.plain (OpenSpec.upto ftlCostsSpec)) ftlCostsUptoCard

/-- THE SECOND FORM's CARD OF 'tinderboxlaw16.FtlWorn'. -/
def ftlWornUptoCard : Claim7 := { stood := { row := ftlWornUptoRow, standIns := [], harness := (true, "2c58fb823d1a0219ef4ad1d6b3ff132daa894c2ee4e9d604cec0248aafac78fb"), looks := true }, kinds := [], alts := [], laidByText := true, laidKinds := [.data], laidTests := true, laidLooks := .later }
def FtlWornUptoCardSaid : Prop := Claim7.holds Tryz.pinned (.plain (OpenSpec.upto ftlWornSpec)) ftlWornUptoCard

/-- THE SECOND FORM's CARD OF 'tinderboxlaw16.FtlNone'. -/
def ftlNoneUptoCard : Claim7 := { stood := { row := ftlNoneUptoRow, standIns := [], harness := (true, "2c58fb823d1a0219ef4ad1d6b3ff132daa894c2ee4e9d604cec0248aafac78fb"), looks := true }, kinds := [], alts := [], laidByText := true, laidKinds := [.data], laidTests := true, laidLooks := .later }
def FtlNoneUptoCardSaid : Prop := Claim7.holds Tryz.pinned (.plain (OpenSpec.upto ftlNoneSpec)) ftlNoneUptoCard
end Rows
end Go.Proofs.YtcmmhfjnhlaepabGreatDoor
