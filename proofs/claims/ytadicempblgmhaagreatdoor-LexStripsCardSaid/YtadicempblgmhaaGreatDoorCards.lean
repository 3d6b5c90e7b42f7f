/-
  DERIVED. GIVEN WITH THE SEED: THE CARDS: each row of YtadicempblgmhaaGreatDoorRows.lean that lists a variable, with what it lists TIED to the program's text (the seventh form; the later family's looks); each row that meets fmt, with fmt's text TOLD by the authors' own Lean function (tested against real Go, not proved from fmt's source: count such statements apart). THE CARD IS WHAT COUNTS. Prove the row's statement (the work); the ties are given (YtadicempblgmhaaGreatDoorTie.lean); close each card by the builder's one call (the guide's Derived/Test/ToyasCard.lean, 'card_holds'). Laid BY PROGRAM, IN A SANDBOX (cutbox-door.mjs). By AI agents, Wed Nov 11 2026. No macro, syntax, notation, axiom, sorry.
-/
import Derived.Test.YtadicempblgmhaaGreatDoorRows
import GoSem.ClaimSeven
namespace Go.Proofs.YtadicempblgmhaaGreatDoor
namespace Rows

/-- THE TIED CARD OF 'cosignerlaw01.LexStrips'. -/
def lexStripsCard : Claim7 := { stood := { row := lexStripsRow, standIns := [], harness := (true, "010abc1040f4e875d31daa58f174048d494829504580d0d0bdd67fa43abf99f1"), looks := false }, kinds := [], alts := [], laidByText := true, laidKinds := [.data, .listed, .data, .data, .pinned], laidTests := true, laidLooks := .later }
def LexStripsCardSaid : Prop := Claim7.holds Tryz.pinned (.plain (OpenSpec.ofChange lexStripsSpec)) lexStripsCard

/-- THE SECOND FORM's CARD OF 'cosignerlaw01.LexStrips'. -/
def lexStripsUptoCard : Claim7 := { stood := { row := lexStripsUptoRow, standIns := [], harness := (true, "010abc1040f4e875d31daa58f174048d494829504580d0d0bdd67fa43abf99f1"), looks := false }, kinds := [], alts := [], laidByText := true, laidKinds := [.data, .listed, .data, .data, .pinned], laidTests := true, laidLooks := .later }
def LexStripsUptoCardSaid : Prop := Claim7.holds Tryz.pinned (.plain (OpenSpec.upto lexStripsSpec)) lexStripsUptoCard
end Rows
end Go.Proofs.YtadicempblgmhaaGreatDoor
