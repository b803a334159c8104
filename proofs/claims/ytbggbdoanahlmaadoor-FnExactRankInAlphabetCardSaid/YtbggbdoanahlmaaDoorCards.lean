/-
  DERIVED. GIVEN WITH THE SEED: THE CARDS: each row of YtbggbdoanahlmaaDoorRows.lean that lists a variable, with what it lists TIED to the program's text (the seventh form; the later family's looks); each row that meets fmt, with fmt's text TOLD by the authors' own Lean function (tested against real Go, not proved from fmt's source: count such statements apart). THE CARD IS WHAT COUNTS. Prove the row's statement (the work); the ties are given (YtbggbdoanahlmaaDoorTie.lean); close each card by the builder's one call (the guide's Derived/Test/ToyasCard.lean, 'card_holds'). Laid BY PROGRAM, IN A SANDBOX (cutbox-door.mjs). By AI agents, Wed Nov 11 2026. No macro, syntax, notation, axiom, sorry.
-/
import Derived.Test.YtbggbdoanahlmaaDoorRows
import GoSem.ClaimSeven
namespace Go.Proofs.YtbggbdoanahlmaaDoor
namespace Rows

/-- THE TIED CARD OF 'laws.FnExactMostLetters'. -/
def fnExactMostLettersCard : Claim7 := { stood := { row := fnExactMostLettersRow, standIns := [], harness := (true, "886dc3637431edcc28f7a44619d82d80c9b7ccbb2519cfbe37dca8f325d2aca8"), looks := false }, kinds := [], alts := [], laidByText := true, laidKinds := [.data, .data, .data, .pinned], laidTests := true, laidLooks := .later }
def FnExactMostLettersCardSaid : Prop := Claim7.holds Tryd.pinned (.plain (OpenSpec.ofChange fnExactMostLettersSpec)) fnExactMostLettersCard

/-- THE TIED CARD OF 'laws.FnExactFirstInAlphabet'. -/
def fnExactFirstInAlphabetCard : Claim7 := { stood := { row := fnExactFirstInAlphabetRow, standIns := [], harness := (true, "886dc3637431edcc28f7a44619d82d80c9b7ccbb2519cfbe37dca8f325d2aca8"), looks := false }, kinds := [], alts := [], laidByText := true, laidKinds := [.data, .data, .data, .pinned], laidTests := true, laidLooks := .later }
def FnExactFirstInAlphabetCardSaid : Prop := Claim7.holds Tryd.pinned (.plain (OpenSpec.ofChange fnExactFirstInAlphabetSpec)) fnExactFirstInAlphabetCard

/-- THE TIED CARD OF 'laws.FnExactRankInAlphabet'. -/
def fnExactRankInAlphabetCard : Claim7 := { stood := { row := fnExactRankInAlphabetRow, standIns := [], harness := (true, "886dc3637431edcc28f7a44619d82d80c9b7ccbb2519cfbe37dca8f325d2aca8"), looks := false }, kinds := [], alts := [], laidByText := true, laidKinds := [.data, .data, .data, .pinned], laidTests := true, laidLooks := .later }
def FnExactRankInAlphabetCardSaid : Prop := Claim7.holds Tryd.pinned (.plain (OpenSpec.ofChange fnExactRankInAlphabetSpec)) fnExactRankInAlphabetCard

/-- THE SECOND FORM's CARD OF 'laws.FnExactMostLetters'. -/
def fnExactMostLettersUptoCard : Claim7 := { stood := { row := fnExactMostLettersUptoRow, standIns := [], harness := (true, "886dc3637431edcc28f7a44619d82d80c9b7ccbb2519cfbe37dca8f325d2aca8"), looks := false }, kinds := [], alts := [], laidByText := true, laidKinds := [.data, .data, .data, .pinned], laidTests := true, laidLooks := .later }
def FnExactMostLettersUptoCardSaid : Prop := Claim7.holds Tryd.pinned (.plain (OpenSpec.upto fnExactMostLettersSpec)) fnExactMostLettersUptoCard

/-- THE SECOND FORM's CARD OF 'laws.FnExactFirstInAlphabet'. -/
def fnExactFirstInAlphabetUptoCard : Claim7 := { stood := { row := fnExactFirstInAlphabetUptoRow, standIns := [], harness := (true, "886dc3637431edcc28f7a44619d82d80c9b7ccbb2519cfbe37dca8f325d2aca8"), looks := false }, kinds := [], alts := [], laidByText := true, laidKinds := [.data, .data, .data, .pinned], laidTests := true, laidLooks := .later }
def FnExactFirstInAlphabetUptoCardSaid : Prop := Claim7.holds Tryd.pinned (.plain (OpenSpec.upto fnExactFirstInAlphabetSpec)) fnExactFirstInAlphabetUptoCard

/-- THE SECOND FORM's CARD OF 'laws.FnExactRankInAlphabet'. -/
def fnExactRankInAlphabetUptoCard : Claim7 := { stood := { row := fnExactRankInAlphabetUptoRow, standIns := [], harness := (true, "886dc3637431edcc28f7a44619d82d80c9b7ccbb2519cfbe37dca8f325d2aca8"), looks := false }, kinds := [], alts := [], laidByText := true, laidKinds := [.data, .data, .data, .pinned], laidTests := true, laidLooks := .later }
def FnExactRankInAlphabetUptoCardSaid : Prop := Claim7.holds Tryd.pinned (.plain (OpenSpec.upto fnExactRankInAlphabetSpec)) fnExactRankInAlphabetUptoCard
end Rows
end Go.Proofs.YtbggbdoanahlmaaDoor
