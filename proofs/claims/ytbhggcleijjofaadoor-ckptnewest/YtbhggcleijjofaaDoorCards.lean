/-
  DERIVED. GIVEN WITH THE SEED: THE CARDS: each row of YtbhggcleijjofaaDoorRows.lean that lists a variable, with what it lists TIED to the program's text (the seventh form; the later family's looks); each row that meets fmt, with fmt's text TOLD by the authors' own Lean function (tested against real Go, not proved from fmt's source: count such statements apart). THE CARD IS WHAT COUNTS. Prove the row's statement (the work); the ties are given (YtbhggcleijjofaaDoorTie.lean); close each card by the builder's one call (the guide's Derived/Test/ToyasCard.lean, 'card_holds'). Laid BY PROGRAM, IN A SANDBOX (cutbox-door.mjs). By AI agents, Wed Nov 11 2026. No macro, syntax, notation, axiom, sorry.
-/
import Derived.Test.YtbhggcleijjofaaDoorRows
import GoSem.ClaimSeven
namespace Go.Proofs.YtbhggcleijjofaaDoor
namespace Rows

/-- THE TIED CARD OF 'tinderboxlaw14.CkptWrites'. -/
def ckptWritesCard : Claim7 := { stood := { row := ckptWritesRow, standIns := [], harness := (true, "a4d42a551cf6218202925409239fe671bff4a7f6444048259bf99194a75723b5"), looks := false }, kinds := [], alts := [], laidByText := true, laidKinds := [.data], laidTests := true, laidLooks := .later }
def CkptWritesCardSaid : Prop := Claim7.holds Tryd.pinned (.plain (OpenSpec.ofChange ckptWritesSpec)) ckptWritesCard

/-- THE TIED CARD OF 'tinderboxlaw14.CkptNewest'. -/
def ckptNewestCard : Claim7 := { stood := { row := ckptNewestRow, standIns := [], harness := (true, "a4d42a551cf6218202925409239fe671bff4a7f6444048259bf99194a75723b5"), looks := false }, kinds := [], alts := [], laidByText := true, laidKinds := [.data], laidTests := true, laidLooks := .later }
def CkptNewestCardSaid : Prop := Claim7.holds Tryd.pinned (.plain (OpenSpec.ofChange ckptNewestSpec)) ckptNewestCard

/-- THE TIED CARD OF 'tinderboxlaw14.CkptCut'. -/
def ckptCutCard : Claim7 := { stood := { row := ckptCutRow, standIns := [], harness := (true, "a4d42a551cf6218202925409239fe671bff4a7f6444048259bf99194a75723b5"), looks := false }, kinds := [], alts := [], laidByText := true, laidKinds := [.data], laidTests := true, laidLooks := .later }
def CkptCutCardSaid : Prop := Claim7.holds Tryd.pinned (.plain (OpenSpec.ofChange ckptCutSpec)) ckptCutCard

/-- THE SECOND FORM's CARD OF 'tinderboxlaw14.CkptWrites'. -/
def ckptWritesUptoCard : Claim7 := { stood := { row := ckptWritesUptoRow, standIns := [], harness := (true, "a4d42a551cf6218202925409239fe671bff4a7f6444048259bf99194a75723b5"), looks := false }, kinds := [], alts := [], laidByText := true, laidKinds := [.data], laidTests := true, laidLooks := .later }
def CkptWritesUptoCardSaid : Prop := Claim7.holds Tryd.pinned (.plain (OpenSpec.upto ckptWritesSpec)) ckptWritesUptoCard

/-- THE SECOND FORM's CARD OF 'tinderboxlaw14.CkptNewest'. -/
def ckptNewestUptoCard : Claim7 := { stood := { row := ckptNewestUptoRow, standIns := [], harness := (true, "a4d42a551cf6218202925409239fe671bff4a7f6444048259bf99194a75723b5"), looks := false }, kinds := [], alts := [], laidByText := true, laidKinds := [.data], laidTests := true, laidLooks := .later }
def CkptNewestUptoCardSaid : Prop := Claim7.holds Tryd.pinned (.plain (OpenSpec.upto ckptNewestSpec)) ckptNewestUptoCard

/-- THE SECOND FORM's CARD OF 'tinderboxlaw14.CkptCut'. -/
def ckptCutUptoCard : Claim7 := { stood := { row := ckptCutUptoRow, standIns := [], harness := (true, "a4d42a551cf6218202925409239fe671bff4a7f6444048259bf99194a75723b5"), looks := false }, kinds := [], alts := [], laidByText := true, laidKinds := [.data], laidTests := true, laidLooks := .later }
def CkptCutUptoCardSaid : Prop := Claim7.holds Tryd.pinned (.plain (OpenSpec.upto ckptCutSpec)) ckptCutUptoCard
end Rows
end Go.Proofs.YtbhggcleijjofaaDoor
