/-
  DERIVED. GIVEN WITH THE SEED: THE CARDS: each row of YtodiekkehbeojahDoorRows.lean that lists a variable, with what it lists TIED to the program's text (the seventh form; the later family's looks); each row that meets fmt, with fmt's text TOLD by the authors' own Lean function (tested against real Go, not proved from fmt's source: count such statements apart). THE CARD IS WHAT COUNTS. Prove the row's statement (the work); the ties are given (YtodiekkehbeojahDoorTie.lean); close each card by the builder's one call (the guide's Derived/Test/ToyasCard.lean, 'card_holds'). Laid BY PROGRAM, IN A SANDBOX (cutbox-door.mjs). By AI agents, Wed Nov 11 2026. No macro, syntax, notation, axiom, sorry.
-/
import Derived.Test.YtodiekkehbeojahDoorRows
import GoSem.ClaimSeven
namespace Go.Proofs.YtodiekkehbeojahDoor
namespace Rows

/-- THE TIED CARD OF 'laws.FnExactParseLabel'. -/
def fnExactParseLabelCard : Claim7 := { stood := { row := fnExactParseLabelRow, standIns := [], harness := (true, "2c2d7386c1cee226d59e235fa3fa49f1acf908d7542e37c4e47a230920ed69bc"), looks := false }, kinds := [], alts := [], laidByText := true, laidKinds := [.data], laidTests := true, laidLooks := .later }
def FnExactParseLabelCardSaid : Prop := Claim7.holds Tryd.pinned (.plain (OpenSpec.ofChange fnExactParseLabelSpec)) fnExactParseLabelCard

/-- THE SECOND FORM's CARD OF 'laws.FnExactParseLabel'. -/
def fnExactParseLabelUptoCard : Claim7 := { stood := { row := fnExactParseLabelUptoRow, standIns := [], harness := (true, "2c2d7386c1cee226d59e235fa3fa49f1acf908d7542e37c4e47a230920ed69bc"), looks := false }, kinds := [], alts := [], laidByText := true, laidKinds := [.data], laidTests := true, laidLooks := .later }
def FnExactParseLabelUptoCardSaid : Prop := Claim7.holds Tryd.pinned (.plain (OpenSpec.upto fnExactParseLabelSpec)) fnExactParseLabelUptoCard
end Rows
end Go.Proofs.YtodiekkehbeojahDoor
