/-
  DERIVED. GIVEN WITH THE SEED: THE CARDS: each row of YtakpedjhgdkhkaaGreatDoorRows.lean that lists a variable, with what it lists TIED to the program's text (the seventh form; the later family's looks); each row that meets fmt, with fmt's text TOLD by the authors' own Lean function (tested against real Go, not proved from fmt's source: count such statements apart). THE CARD IS WHAT COUNTS. Prove the row's statement (the work); the ties are given (YtakpedjhgdkhkaaGreatDoorTie.lean); close each card by the builder's one call (the guide's Derived/Test/ToyasCard.lean, 'card_holds'). Laid BY PROGRAM, IN A SANDBOX (cutbox-door.mjs). By AI agents, Wed Nov 11 2026. No macro, syntax, notation, axiom, sorry.
-/
import Derived.Test.YtakpedjhgdkhkaaGreatDoorRows
import GoSem.ClaimSeven
namespace Go.Proofs.YtakpedjhgdkhkaaGreatDoor
namespace Rows

/-- THE TIED CARD OF 'adjointlaw5.GraphAfters'. -/
def graphAftersCard : Claim7 := { stood := { row := graphAftersRow, standIns := [], harness := (true, "f37e126b69d5ab20be91f9179eb210f31bfb26d262d7ba43dccaf50e4740a646"), looks := false }, kinds := [], alts := [], laidByText := true, laidKinds := [.data, .data, .data], laidTests := true, laidLooks := .later }
def GraphAftersCardSaid : Prop := Claim7.holds Tryz.pinned (.plain (OpenSpec.ofChange graphAftersSpec)) graphAftersCard

/-- THE SECOND FORM's CARD OF 'adjointlaw5.GraphAfters'. -/
def graphAftersUptoCard : Claim7 := { stood := { row := graphAftersUptoRow, standIns := [], harness := (true, "f37e126b69d5ab20be91f9179eb210f31bfb26d262d7ba43dccaf50e4740a646"), looks := false }, kinds := [], alts := [], laidByText := true, laidKinds := [.data, .data, .data], laidTests := true, laidLooks := .later }
def GraphAftersUptoCardSaid : Prop := Claim7.holds Tryz.pinned (.plain (OpenSpec.upto graphAftersSpec)) graphAftersUptoCard
end Rows
end Go.Proofs.YtakpedjhgdkhkaaGreatDoor
