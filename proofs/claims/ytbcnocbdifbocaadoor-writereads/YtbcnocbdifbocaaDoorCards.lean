/-
  DERIVED. GIVEN WITH THE SEED: THE CARDS: each row of YtbcnocbdifbocaaDoorRows.lean that lists a variable, with what it lists TIED to the program's text (the seventh form; the later family's looks); each row that meets fmt, with fmt's text TOLD by the authors' own Lean function (tested against real Go, not proved from fmt's source: count such statements apart). THE CARD IS WHAT COUNTS. Prove the row's statement (the work); the ties are given (YtbcnocbdifbocaaDoorTie.lean); close each card by the builder's one call (the guide's Derived/Test/ToyasCard.lean, 'card_holds'). Laid BY PROGRAM, IN A SANDBOX (cutbox-door.mjs). By AI agents, Wed Nov 11 2026. No macro, syntax, notation, axiom, sorry.
-/
import Derived.Test.YtbcnocbdifbocaaDoorRows
import GoSem.ClaimSeven
namespace Go.Proofs.YtbcnocbdifbocaaDoor
namespace Rows

/-- THE TIED CARD OF 'tinderboxlaw13.WriteReads'. -/
def writeReadsCard : Claim7 := { stood := { row := writeReadsRow, standIns := [], harness := (true, "e952c7ddb4f156ee66b48ddca158152bd95fc93e01c67098afd9fb14ef496f81"), looks := false }, kinds := [], alts := [], laidByText := true, laidKinds := [.data], laidTests := true, laidLooks := .later }
def WriteReadsCardSaid : Prop := Claim7.holds Tryd.pinned (.plain (OpenSpec.ofChange writeReadsSpec)) writeReadsCard

/-- THE TIED CARD OF 'tinderboxlaw13.WriteBad'. -/
def writeBadCard : Claim7 := { stood := { row := writeBadRow, standIns := [], harness := (true, "e952c7ddb4f156ee66b48ddca158152bd95fc93e01c67098afd9fb14ef496f81"), looks := false }, kinds := [], alts := [], laidByText := true, laidKinds := [.data], laidTests := true, laidLooks := .later }
def WriteBadCardSaid : Prop := Claim7.holds Tryd.pinned (.plain (OpenSpec.ofChange writeBadSpec)) writeBadCard

/-- THE TIED CARD OF 'tinderboxlaw13.WriteLevels'. -/
def writeLevelsCard : Claim7 := { stood := { row := writeLevelsRow, standIns := [], harness := (true, "e952c7ddb4f156ee66b48ddca158152bd95fc93e01c67098afd9fb14ef496f81"), looks := false }, kinds := [], alts := [], laidByText := true, laidKinds := [.data], laidTests := true, laidLooks := .later }
def WriteLevelsCardSaid : Prop := Claim7.holds Tryd.pinned (.plain (OpenSpec.ofChange writeLevelsSpec)) writeLevelsCard

/-- THE TIED CARD OF 'tinderboxlaw13.WriteFull'. -/
def writeFullCard : Claim7 := { stood := { row := writeFullRow, standIns := [], harness := (true, "e952c7ddb4f156ee66b48ddca158152bd95fc93e01c67098afd9fb14ef496f81"), looks := false }, kinds := [], alts := [], laidByText := true, laidKinds := [.data], laidTests := true, laidLooks := .later }
def WriteFullCardSaid : Prop := Claim7.holds Tryd.pinned (.plain (OpenSpec.ofChange writeFullSpec)) writeFullCard

/-- THE TIED CARD OF 'tinderboxlaw13.WriteCuts'. -/
def writeCutsCard : Claim7 := { stood := { row := writeCutsRow, standIns := [], harness := (true, "e952c7ddb4f156ee66b48ddca158152bd95fc93e01c67098afd9fb14ef496f81"), looks := false }, kinds := [], alts := [], laidByText := true, laidKinds := [.data], laidTests := true, laidLooks := .later }
def WriteCutsCardSaid : Prop := Claim7.holds Tryd.pinned (.plain (OpenSpec.ofChange writeCutsSpec)) writeCutsCard

/-- THE TIED CARD OF 'tinderboxlaw13.WriteNone'. -/
def writeNoneCard : Claim7 := { stood := { row := writeNoneRow, standIns := [], harness := (true, "e952c7ddb4f156ee66b48ddca158152bd95fc93e01c67098afd9fb14ef496f81"), looks := false }, kinds := [], alts := [], laidByText := true, laidKinds := [.data], laidTests := true, laidLooks := .later }
def WriteNoneCardSaid : Prop := Claim7.holds Tryd.pinned (.plain (OpenSpec.ofChange writeNoneSpec)) writeNoneCard

/-- THE SECOND FORM's CARD OF 'tinderboxlaw13.WriteReads'. -/
def writeReadsUptoCard : Claim7 := { stood := { row := writeReadsUptoRow, standIns := [], harness := (true, "e952c7ddb4f156ee66b48ddca158152bd95fc93e01c67098afd9fb14ef496f81"), looks := false }, kinds := [], alts := [], laidByText := true, laidKinds := [.data], laidTests := true, laidLooks := .later }
def WriteReadsUptoCardSaid : Prop := Claim7.holds Tryd.pinned (.plain (OpenSpec.upto writeReadsSpec)) writeReadsUptoCard

/-- THE SECOND FORM's CARD OF 'tinderboxlaw13.WriteBad'. -/
def writeBadUptoCard : Claim7 := { stood := { row := writeBadUptoRow, standIns := [], harness := (true, "e952c7ddb4f156ee66b48ddca158152bd95fc93e01c67098afd9fb14ef496f81"), looks := false }, kinds := [], alts := [], laidByText := true, laidKinds := [.data], laidTests := true, laidLooks := .later }
def WriteBadUptoCardSaid : Prop := Claim7.holds Tryd.pinned (.plain (OpenSpec.upto writeBadSpec)) writeBadUptoCard

/-- THE SECOND FORM's CARD OF 'tinderboxlaw13.WriteLevels'. -/
def writeLevelsUptoCard : Claim7 := { stood := { row := writeLevelsUptoRow, standIns := [], harness := (true, "e952c7ddb4f156ee66b48ddca158152bd95fc93e01c67098afd9fb14ef496f81"), looks := false }, kinds := [], alts := [], laidByText := true, laidKinds := [.data], laidTests := true, laidLooks := .later }
def WriteLevelsUptoCardSaid : Prop := Claim7.holds Tryd.pinned (.plain (OpenSpec.upto writeLevelsSpec)) writeLevelsUptoCard

/-- THE SECOND FORM's CARD OF 'tinderboxlaw13.WriteFull'. -/
def writeFullUptoCard : Claim7 := { stood := { row := writeFullUptoRow, standIns := [], harness := (true, "e952c7ddb4f156ee66b48ddca158152bd95fc93e01c67098afd9fb14ef496f81"), looks := false }, kinds := [], alts := [], laidByText := true, laidKinds := [.data], laidTests := true, laidLooks := .later }
def WriteFullUptoCardSaid : Prop := Claim7.holds Tryd.pinned (.plain (OpenSpec.upto writeFullSpec)) writeFullUptoCard

/-- THE SECOND FORM's CARD OF 'tinderboxlaw13.WriteCuts'. -/
def writeCutsUptoCard : Claim7 := { stood := { row := writeCutsUptoRow, standIns := [], harness := (true, "e952c7ddb4f156ee66b48ddca158152bd95fc93e01c67098afd9fb14ef496f81"), looks := false }, kinds := [], alts := [], laidByText := true, laidKinds := [.data], laidTests := true, laidLooks := .later }
def WriteCutsUptoCardSaid : Prop := Claim7.holds Tryd.pinned (.plain (OpenSpec.upto writeCutsSpec)) writeCutsUptoCard

/-- THE SECOND FORM's CARD OF 'tinderboxlaw13.WriteNone'. -/
def writeNoneUptoCard : Claim7 := { stood := { row := writeNoneUptoRow, standIns := [], harness := (true, "e952c7ddb4f156ee66b48ddca158152bd95fc93e01c67098afd9fb14ef496f81"), looks := false }, kinds := [], alts := [], laidByText := true, laidKinds := [.data], laidTests := true, laidLooks := .later }
def WriteNoneUptoCardSaid : Prop := Claim7.holds Tryd.pinned (.plain (OpenSpec.upto writeNoneSpec)) writeNoneUptoCard
end Rows
end Go.Proofs.YtbcnocbdifbocaaDoor
