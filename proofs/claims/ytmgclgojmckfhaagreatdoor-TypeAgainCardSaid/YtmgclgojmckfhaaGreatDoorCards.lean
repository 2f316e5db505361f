/-
  DERIVED. GIVEN WITH THE SEED: THE CARDS: each row of YtmgclgojmckfhaaGreatDoorRows.lean that lists a variable, with what it lists TIED to the program's text (the seventh form; the later family's looks); each row that meets fmt, with fmt's text TOLD by the authors' own Lean function (tested against real Go, not proved from fmt's source: count such statements apart). THE CARD IS WHAT COUNTS. Prove the row's statement (the work); the ties are given (YtmgclgojmckfhaaGreatDoorTie.lean); close each card by the builder's one call (the guide's Derived/Test/ToyasCard.lean, 'card_holds'). Laid BY PROGRAM, IN A SANDBOX (cutbox-door.mjs). By AI agents, Wed Nov 11 2026. No macro, syntax, notation, axiom, sorry.
-/
import Derived.Test.YtmgclgojmckfhaaGreatDoorRows
import GoSem.ClaimSeven
namespace Go.Proofs.YtmgclgojmckfhaaGreatDoor
namespace Rows

/-- THE TIED CARD OF 'offsidelaw11.TypeAgain'. -/
def typeAgainCard : Claim7 := { stood := { row := typeAgainRow, standIns := [], harness := (true, "868b0b093ba1954c3d4c1a3bf7badfe10c0b5ba399a8659b688455510896b62e"), looks := true }, kinds := [], alts := [], laidByText := true, laidKinds := [.data, .data, .pinned], laidTests := true, laidLooks := .later }
def TypeAgainCardSaid : Prop := Claim7.holds Tryz.pinned (.plain (OpenSpec.ofChange typeAgainSpec)) typeAgainCard

/-- THE SECOND FORM's CARD OF 'offsidelaw11.TypeAgain'. -/
def typeAgainUptoCard : Claim7 := { stood := { row := typeAgainUptoRow, standIns := [], harness := (true, "868b0b093ba1954c3d4c1a3bf7badfe10c0b5ba399a8659b688455510896b62e"), looks := true }, kinds := [], alts := [], laidByText := true, laidKinds := [.data, .data, .pinned], laidTests := true, laidLooks := .later }
def TypeAgainUptoCardSaid : Prop := Claim7.holds Tryz.pinned (.plain (OpenSpec.upto typeAgainSpec)) typeAgainUptoCard
end Rows
end Go.Proofs.YtmgclgojmckfhaaGreatDoor
