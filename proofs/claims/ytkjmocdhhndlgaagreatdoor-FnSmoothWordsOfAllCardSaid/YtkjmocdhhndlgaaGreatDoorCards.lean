/-
  DERIVED. GIVEN WITH THE SEED: THE CARDS: each row of YtkjmocdhhndlgaaGreatDoorRows.lean that lists a variable, with what it lists TIED to the program's text (the seventh form; the later family's looks); each row that meets fmt, with fmt's text TOLD by the authors' own Lean function (tested against real Go, not proved from fmt's source: count such statements apart). THE CARD IS WHAT COUNTS. Prove the row's statement (the work); the ties are given (YtkjmocdhhndlgaaGreatDoorTie.lean); close each card by the builder's one call (the guide's Derived/Test/ToyasCard.lean, 'card_holds'). Laid BY PROGRAM, IN A SANDBOX (cutbox-door.mjs). By AI agents, Wed Nov 11 2026. No macro, syntax, notation, axiom, sorry.
-/
import Derived.Test.YtkjmocdhhndlgaaGreatDoorRows
import GoSem.ClaimSeven
namespace Go.Proofs.YtkjmocdhhndlgaaGreatDoor
namespace Rows

/-- THE TIED CARD OF 'laws.FnSmoothWords'. -/
def fnSmoothWordsCard : Claim7 := { stood := { row := fnSmoothWordsRow, standIns := [], harness := (true, "fb45a965b15905b1645e91d8c8f9aa6e77593b005c213ee1611a6b36011f06f4"), looks := true }, kinds := [], alts := [], laidByText := true, laidKinds := [.data, .pinned], laidTests := true, laidLooks := .later }
def FnSmoothWordsCardSaid : Prop := Claim7.holds Tryz.pinned (.plain (OpenSpec.ofChange fnSmoothWordsSpec)) fnSmoothWordsCard

/-- THE TIED CARD OF 'laws.FnSmoothWordsOfAll'. -/
def fnSmoothWordsOfAllCard : Claim7 := { stood := { row := fnSmoothWordsOfAllRow, standIns := [], harness := (true, "fb45a965b15905b1645e91d8c8f9aa6e77593b005c213ee1611a6b36011f06f4"), looks := true }, kinds := [], alts := [], laidByText := true, laidKinds := [.data, .pinned], laidTests := true, laidLooks := .later }
def FnSmoothWordsOfAllCardSaid : Prop := Claim7.holds Tryz.pinned (.plain (OpenSpec.ofChange fnSmoothWordsOfAllSpec)) fnSmoothWordsOfAllCard

/-- THE SECOND FORM's CARD OF 'laws.FnSmoothWords'. -/
def fnSmoothWordsUptoCard : Claim7 := { stood := { row := fnSmoothWordsUptoRow, standIns := [], harness := (true, "fb45a965b15905b1645e91d8c8f9aa6e77593b005c213ee1611a6b36011f06f4"), looks := true }, kinds := [], alts := [], laidByText := true, laidKinds := [.data, .pinned], laidTests := true, laidLooks := .later }
def FnSmoothWordsUptoCardSaid : Prop := Claim7.holds Tryz.pinned (.plain (OpenSpec.upto fnSmoothWordsSpec)) fnSmoothWordsUptoCard

/-- THE SECOND FORM's CARD OF 'laws.FnSmoothWordsOfAll'. -/
def fnSmoothWordsOfAllUptoCard : Claim7 := { stood := { row := fnSmoothWordsOfAllUptoRow, standIns := [], harness := (true, "fb45a965b15905b1645e91d8c8f9aa6e77593b005c213ee1611a6b36011f06f4"), looks := true }, kinds := [], alts := [], laidByText := true, laidKinds := [.data, .pinned], laidTests := true, laidLooks := .later }
def FnSmoothWordsOfAllUptoCardSaid : Prop := Claim7.holds Tryz.pinned (.plain (OpenSpec.upto fnSmoothWordsOfAllSpec)) fnSmoothWordsOfAllUptoCard
end Rows
end Go.Proofs.YtkjmocdhhndlgaaGreatDoor
