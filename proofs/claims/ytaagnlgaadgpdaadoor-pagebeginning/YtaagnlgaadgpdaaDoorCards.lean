/-
  DERIVED. GIVEN WITH THE SEED: THE CARDS: each row of YtaagnlgaadgpdaaDoorRows.lean that lists a variable, with what it lists TIED to the program's text (the seventh form; the later family's looks); each row that meets fmt, with fmt's text TOLD by the authors' own Lean function (tested against real Go, not proved from fmt's source: count such statements apart). THE CARD IS WHAT COUNTS. Prove the row's statement (the work); the ties are given (YtaagnlgaadgpdaaDoorTie.lean); close each card by the builder's one call (the guide's Derived/Test/ToyasCard.lean, 'card_holds'). Laid BY PROGRAM, IN A SANDBOX (cutbox-door.mjs). By AI agents, Wed Nov 11 2026. No macro, syntax, notation, axiom, sorry.
-/
import Derived.Test.YtaagnlgaadgpdaaDoorRows
import GoSem.ClaimSeven
namespace Go.Proofs.YtaagnlgaadgpdaaDoor
namespace Rows

/-- THE TIED CARD OF 'tinderboxlaw06.PageFrames'. -/
def pageFramesCard : Claim7 := { stood := { row := pageFramesRow, standIns := [], harness := (true, "365563fda55a1f67740cd68f9acef08f55aef6eaa01b8eee0ab8ef5ac9a44814"), looks := false }, kinds := [], alts := [], laidByText := true, laidKinds := [.data], laidTests := true, laidLooks := .later }
def PageFramesCardSaid : Prop := Claim7.holds Tryd.pinned (.plain (OpenSpec.ofChange pageFramesSpec)) pageFramesCard

/-- THE TIED CARD OF 'tinderboxlaw06.PageLooks'. -/
def pageLooksCard : Claim7 := { stood := { row := pageLooksRow, standIns := [], harness := (true, "365563fda55a1f67740cd68f9acef08f55aef6eaa01b8eee0ab8ef5ac9a44814"), looks := false }, kinds := [], alts := [], laidByText := true, laidKinds := [.data], laidTests := true, laidLooks := .later }
def PageLooksCardSaid : Prop := Claim7.holds Tryd.pinned (.plain (OpenSpec.ofChange pageLooksSpec)) pageLooksCard

/-- THE TIED CARD OF 'tinderboxlaw06.PageTorn'. -/
def pageTornCard : Claim7 := { stood := { row := pageTornRow, standIns := [], harness := (true, "365563fda55a1f67740cd68f9acef08f55aef6eaa01b8eee0ab8ef5ac9a44814"), looks := false }, kinds := [], alts := [], laidByText := true, laidKinds := [.data], laidTests := true, laidLooks := .later }
def PageTornCardSaid : Prop := Claim7.holds Tryd.pinned (.plain (OpenSpec.ofChange pageTornSpec)) pageTornCard

/-- THE TIED CARD OF 'tinderboxlaw06.PageBeginning'. -/
def pageBeginningCard : Claim7 := { stood := { row := pageBeginningRow, standIns := [], harness := (true, "365563fda55a1f67740cd68f9acef08f55aef6eaa01b8eee0ab8ef5ac9a44814"), looks := false }, kinds := [], alts := [], laidByText := true, laidKinds := [.data], laidTests := true, laidLooks := .later }
def PageBeginningCardSaid : Prop := Claim7.holds Tryd.pinned (.plain (OpenSpec.ofChange pageBeginningSpec)) pageBeginningCard

/-- THE SECOND FORM's CARD OF 'tinderboxlaw06.PageFrames'. -/
def pageFramesUptoCard : Claim7 := { stood := { row := pageFramesUptoRow, standIns := [], harness := (true, "365563fda55a1f67740cd68f9acef08f55aef6eaa01b8eee0ab8ef5ac9a44814"), looks := false }, kinds := [], alts := [], laidByText := true, laidKinds := [.data], laidTests := true, laidLooks := .later }
def PageFramesUptoCardSaid : Prop := Claim7.holds Tryd.pinned (.plain (OpenSpec.upto pageFramesSpec)) pageFramesUptoCard

/-- THE SECOND FORM's CARD OF 'tinderboxlaw06.PageLooks'. -/
def pageLooksUptoCard : Claim7 := { stood := { row := pageLooksUptoRow, standIns := [], harness := (true, "365563fda55a1f67740cd68f9acef08f55aef6eaa01b8eee0ab8ef5ac9a44814"), looks := false }, kinds := [], alts := [], laidByText := true, laidKinds := [.data], laidTests := true, laidLooks := .later }
def PageLooksUptoCardSaid : Prop := Claim7.holds Tryd.pinned (.plain (OpenSpec.upto pageLooksSpec)) pageLooksUptoCard

/-- THE SECOND FORM's CARD OF 'tinderboxlaw06.PageTorn'. -/
def pageTornUptoCard : Claim7 := { stood := { row := pageTornUptoRow, standIns := [], harness := (true, "365563fda55a1f67740cd68f9acef08f55aef6eaa01b8eee0ab8ef5ac9a44814"), looks := false }, kinds := [], alts := [], laidByText := true, laidKinds := [.data], laidTests := true, laidLooks := .later }
def PageTornUptoCardSaid : Prop := Claim7.holds Tryd.pinned (.plain (OpenSpec.upto pageTornSpec)) pageTornUptoCard

/-- THE SECOND FORM's CARD OF 'tinderboxlaw06.PageBeginning'. -/
def pageBeginningUptoCard : Claim7 := { stood := { row := pageBeginningUptoRow, standIns := [], harness := (true, "365563fda55a1f67740cd68f9acef08f55aef6eaa01b8eee0ab8ef5ac9a44814"), looks := false }, kinds := [], alts := [], laidByText := true, laidKinds := [.data], laidTests := true, laidLooks := .later }
def PageBeginningUptoCardSaid : Prop := Claim7.holds Tryd.pinned (.plain (OpenSpec.upto pageBeginningSpec)) pageBeginningUptoCard
end Rows
end Go.Proofs.YtaagnlgaadgpdaaDoor
