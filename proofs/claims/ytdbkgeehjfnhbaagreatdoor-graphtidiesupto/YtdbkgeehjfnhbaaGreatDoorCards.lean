/-
  DERIVED. GIVEN WITH THE SEED: THE CARDS: each row of YtdbkgeehjfnhbaaGreatDoorRows.lean that lists a variable, with what it lists TIED to the program's text (the seventh form; the later family's looks); each row that meets fmt, with fmt's text TOLD by the authors' own Lean function (tested against real Go, not proved from fmt's source: count such statements apart). THE CARD IS WHAT COUNTS. Prove the row's statement (the work); the ties are given (YtdbkgeehjfnhbaaGreatDoorTie.lean); close each card by the builder's one call (the guide's Derived/Test/ToyasCard.lean, 'card_holds'). Laid BY PROGRAM, IN A SANDBOX (cutbox-door.mjs). By AI agents, Wed Nov 11 2026. No macro, syntax, notation, axiom, sorry.
-/
import Derived.Test.YtdbkgeehjfnhbaaGreatDoorRows
import GoSem.ClaimSeven
namespace Go.Proofs.YtdbkgeehjfnhbaaGreatDoor
namespace Rows

/-- THE TIED CARD OF 'adjointlaw5.GraphTidies'. -/
def graphTidiesCard : Claim7 := { stood := { row := graphTidiesRow, standIns := [], harness := (true, "c214c5a5e74c64cd7ac3cab5792b3aafb36026e16b9e82f936ae73ebb32a13e6"), looks := false }, kinds := [], alts := [], laidByText := true, laidKinds := [.data, .data, .data], laidTests := true, laidLooks := .later }
def GraphTidiesCardSaid : Prop := Claim7.holds Tryz.pinned (.plain (OpenSpec.ofChange graphTidiesSpec)) graphTidiesCard

/-- THE SECOND FORM's CARD OF 'adjointlaw5.GraphTidies'. -/
def graphTidiesUptoCard : Claim7 := { stood := { row := graphTidiesUptoRow, standIns := [], harness := (true, "c214c5a5e74c64cd7ac3cab5792b3aafb36026e16b9e82f936ae73ebb32a13e6"), looks := false }, kinds := [], alts := [], laidByText := true, laidKinds := [.data, .data, .data], laidTests := true, laidLooks := .later }
def GraphTidiesUptoCardSaid : Prop := Claim7.holds Tryz.pinned (.plain (OpenSpec.upto graphTidiesSpec)) graphTidiesUptoCard
end Rows
end Go.Proofs.YtdbkgeehjfnhbaaGreatDoor
