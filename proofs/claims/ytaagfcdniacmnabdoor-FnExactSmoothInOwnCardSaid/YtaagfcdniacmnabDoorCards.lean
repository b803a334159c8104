/-
  DERIVED. GIVEN WITH THE SEED: THE CARDS: each row of YtaagfcdniacmnabDoorRows.lean that lists a variable, with what it lists TIED to the program's text (the seventh form; the later family's looks); each row that meets fmt, with fmt's text TOLD by the authors' own Lean function (tested against real Go, not proved from fmt's source: count such statements apart). THE CARD IS WHAT COUNTS. Prove the row's statement (the work); the ties are given (YtaagfcdniacmnabDoorTie.lean); close each card by the builder's one call (the guide's Derived/Test/ToyasCard.lean, 'card_holds'). Laid BY PROGRAM, IN A SANDBOX (cutbox-door.mjs). By AI agents, Wed Nov 11 2026. No macro, syntax, notation, axiom, sorry.
-/
import Derived.Test.YtaagfcdniacmnabDoorRows
import GoSem.ClaimSeven
namespace Go.Proofs.YtaagfcdniacmnabDoor
namespace Rows

/-- THE TIED CARD OF 'laws.FnExactSmoothInOwn'. -/
def fnExactSmoothInOwnCard : Claim7 := { stood := { row := fnExactSmoothInOwnRow, standIns := [], harness := (true, "340b3af02a77c73f5f92cf08bf34c355978ba3f36793557ec0858cfd3c71787c"), looks := false }, kinds := [], alts := [], laidByText := true, laidKinds := [.data, .pinned], laidTests := true, laidLooks := .later }
def FnExactSmoothInOwnCardSaid : Prop := Claim7.holds Tryd.pinned (.plain (OpenSpec.ofChange fnExactSmoothInOwnSpec)) fnExactSmoothInOwnCard

/-- THE SECOND FORM's CARD OF 'laws.FnExactSmoothInOwn'. -/
def fnExactSmoothInOwnUptoCard : Claim7 := { stood := { row := fnExactSmoothInOwnUptoRow, standIns := [], harness := (true, "340b3af02a77c73f5f92cf08bf34c355978ba3f36793557ec0858cfd3c71787c"), looks := false }, kinds := [], alts := [], laidByText := true, laidKinds := [.data, .pinned], laidTests := true, laidLooks := .later }
def FnExactSmoothInOwnUptoCardSaid : Prop := Claim7.holds Tryd.pinned (.plain (OpenSpec.upto fnExactSmoothInOwnSpec)) fnExactSmoothInOwnUptoCard
end Rows
end Go.Proofs.YtaagfcdniacmnabDoor
