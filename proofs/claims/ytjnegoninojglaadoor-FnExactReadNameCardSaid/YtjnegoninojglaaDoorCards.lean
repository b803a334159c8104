/-
  DERIVED. GIVEN WITH THE SEED: THE CARDS: each row of YtjnegoninojglaaDoorRows.lean that lists a variable, with what it lists TIED to the program's text (the seventh form; the later family's looks); each row that meets fmt, with fmt's text TOLD by the authors' own Lean function (tested against real Go, not proved from fmt's source: count such statements apart). THE CARD IS WHAT COUNTS. Prove the row's statement (the work); the ties are given (YtjnegoninojglaaDoorTie.lean); close each card by the builder's one call (the guide's Derived/Test/ToyasCard.lean, 'card_holds'). Laid BY PROGRAM, IN A SANDBOX (cutbox-door.mjs). By AI agents, Wed Nov 11 2026. No macro, syntax, notation, axiom, sorry.
-/
import Derived.Test.YtjnegoninojglaaDoorRows
import GoSem.ClaimSeven
namespace Go.Proofs.YtjnegoninojglaaDoor
namespace Rows

/-- THE TIED CARD OF 'laws.FnExactNameOf'. -/
def fnExactNameOfCard : Claim7 := { stood := { row := fnExactNameOfRow, standIns := [], harness := (true, "1062e31f460c1f26469fc3ef0725c5a38fd95f3f3f9b24d00a16ed38101443e5"), looks := false }, kinds := [], alts := [], laidByText := true, laidKinds := [.data, .data], laidTests := true, laidLooks := .later }
def FnExactNameOfCardSaid : Prop := Claim7.holds Tryd.pinned (.plain (OpenSpec.ofChange fnExactNameOfSpec)) fnExactNameOfCard

/-- THE TIED CARD OF 'laws.FnExactReadName'. -/
def fnExactReadNameCard : Claim7 := { stood := { row := fnExactReadNameRow, standIns := [], harness := (true, "1062e31f460c1f26469fc3ef0725c5a38fd95f3f3f9b24d00a16ed38101443e5"), looks := false }, kinds := [], alts := [], laidByText := true, laidKinds := [.data, .data, .data, .pinned], laidTests := true, laidLooks := .later }
def FnExactReadNameCardSaid : Prop := Claim7.holds Tryd.pinned (.plain (OpenSpec.ofChange fnExactReadNameSpec)) fnExactReadNameCard

/-- THE TIED CARD OF 'laws.FnExactWordsOfName'. -/
def fnExactWordsOfNameCard : Claim7 := { stood := { row := fnExactWordsOfNameRow, standIns := [], harness := (true, "1062e31f460c1f26469fc3ef0725c5a38fd95f3f3f9b24d00a16ed38101443e5"), looks := false }, kinds := [], alts := [], laidByText := true, laidKinds := [.data, .data], laidTests := true, laidLooks := .later }
def FnExactWordsOfNameCardSaid : Prop := Claim7.holds Tryd.pinned (.plain (OpenSpec.ofChange fnExactWordsOfNameSpec)) fnExactWordsOfNameCard

/-- THE TIED CARD OF 'laws.FnExactLettersOf'. -/
def fnExactLettersOfCard : Claim7 := { stood := { row := fnExactLettersOfRow, standIns := [], harness := (true, "1062e31f460c1f26469fc3ef0725c5a38fd95f3f3f9b24d00a16ed38101443e5"), looks := false }, kinds := [], alts := [], laidByText := true, laidKinds := [.data, .data, .data, .pinned], laidTests := true, laidLooks := .later }
def FnExactLettersOfCardSaid : Prop := Claim7.holds Tryd.pinned (.plain (OpenSpec.ofChange fnExactLettersOfSpec)) fnExactLettersOfCard

/-- THE TIED CARD OF 'laws.FnExactCountLetter'. -/
def fnExactCountLetterCard : Claim7 := { stood := { row := fnExactCountLetterRow, standIns := [], harness := (true, "1062e31f460c1f26469fc3ef0725c5a38fd95f3f3f9b24d00a16ed38101443e5"), looks := false }, kinds := [], alts := [], laidByText := true, laidKinds := [.data, .data, .data, .pinned], laidTests := true, laidLooks := .later }
def FnExactCountLetterCardSaid : Prop := Claim7.holds Tryd.pinned (.plain (OpenSpec.ofChange fnExactCountLetterSpec)) fnExactCountLetterCard

/-- THE TIED CARD OF 'laws.FnExactDifferentLetters'. -/
def fnExactDifferentLettersCard : Claim7 := { stood := { row := fnExactDifferentLettersRow, standIns := [], harness := (true, "1062e31f460c1f26469fc3ef0725c5a38fd95f3f3f9b24d00a16ed38101443e5"), looks := false }, kinds := [], alts := [], laidByText := true, laidKinds := [.data, .data, .data, .pinned], laidTests := true, laidLooks := .later }
def FnExactDifferentLettersCardSaid : Prop := Claim7.holds Tryd.pinned (.plain (OpenSpec.ofChange fnExactDifferentLettersSpec)) fnExactDifferentLettersCard

/-- THE TIED CARD OF 'laws.FnExactIsHonest'. -/
def fnExactIsHonestCard : Claim7 := { stood := { row := fnExactIsHonestRow, standIns := [], harness := (true, "1062e31f460c1f26469fc3ef0725c5a38fd95f3f3f9b24d00a16ed38101443e5"), looks := false }, kinds := [], alts := [], laidByText := true, laidKinds := [.data, .data, .data, .pinned], laidTests := true, laidLooks := .later }
def FnExactIsHonestCardSaid : Prop := Claim7.holds Tryd.pinned (.plain (OpenSpec.ofChange fnExactIsHonestSpec)) fnExactIsHonestCard

/-- THE TIED CARD OF 'laws.FnExactChainOf'. -/
def fnExactChainOfCard : Claim7 := { stood := { row := fnExactChainOfRow, standIns := [], harness := (true, "1062e31f460c1f26469fc3ef0725c5a38fd95f3f3f9b24d00a16ed38101443e5"), looks := false }, kinds := [], alts := [], laidByText := true, laidKinds := [.data, .data, .data, .pinned], laidTests := true, laidLooks := .later }
def FnExactChainOfCardSaid : Prop := Claim7.holds Tryd.pinned (.plain (OpenSpec.ofChange fnExactChainOfSpec)) fnExactChainOfCard

/-- THE TIED CARD OF 'laws.FnExactStepsToFour'. -/
def fnExactStepsToFourCard : Claim7 := { stood := { row := fnExactStepsToFourRow, standIns := [], harness := (true, "1062e31f460c1f26469fc3ef0725c5a38fd95f3f3f9b24d00a16ed38101443e5"), looks := false }, kinds := [], alts := [], laidByText := true, laidKinds := [.data, .data, .data, .pinned], laidTests := true, laidLooks := .later }
def FnExactStepsToFourCardSaid : Prop := Claim7.holds Tryd.pinned (.plain (OpenSpec.ofChange fnExactStepsToFourSpec)) fnExactStepsToFourCard

/-- THE TIED CARD OF 'laws.FnExactCompareNames'. -/
def fnExactCompareNamesCard : Claim7 := { stood := { row := fnExactCompareNamesRow, standIns := [], harness := (true, "1062e31f460c1f26469fc3ef0725c5a38fd95f3f3f9b24d00a16ed38101443e5"), looks := false }, kinds := [], alts := [], laidByText := true, laidKinds := [.data, .data, .data, .pinned], laidTests := true, laidLooks := .later }
def FnExactCompareNamesCardSaid : Prop := Claim7.holds Tryd.pinned (.plain (OpenSpec.ofChange fnExactCompareNamesSpec)) fnExactCompareNamesCard

/-- THE TIED CARD OF 'laws.FnExactSumOfLetters'. -/
def fnExactSumOfLettersCard : Claim7 := { stood := { row := fnExactSumOfLettersRow, standIns := [], harness := (true, "1062e31f460c1f26469fc3ef0725c5a38fd95f3f3f9b24d00a16ed38101443e5"), looks := false }, kinds := [], alts := [], laidByText := true, laidKinds := [.data, .data, .data, .pinned], laidTests := true, laidLooks := .later }
def FnExactSumOfLettersCardSaid : Prop := Claim7.holds Tryd.pinned (.plain (OpenSpec.ofChange fnExactSumOfLettersSpec)) fnExactSumOfLettersCard

/-- THE TIED CARD OF 'laws.FnExactFirstWithLetter'. -/
def fnExactFirstWithLetterCard : Claim7 := { stood := { row := fnExactFirstWithLetterRow, standIns := [], harness := (true, "1062e31f460c1f26469fc3ef0725c5a38fd95f3f3f9b24d00a16ed38101443e5"), looks := false }, kinds := [], alts := [], laidByText := true, laidKinds := [.data, .data, .data, .pinned], laidTests := true, laidLooks := .later }
def FnExactFirstWithLetterCardSaid : Prop := Claim7.holds Tryd.pinned (.plain (OpenSpec.ofChange fnExactFirstWithLetterSpec)) fnExactFirstWithLetterCard

/-- THE TIED CARD OF 'laws.FnExactWithLetters'. -/
def fnExactWithLettersCard : Claim7 := { stood := { row := fnExactWithLettersRow, standIns := [], harness := (true, "1062e31f460c1f26469fc3ef0725c5a38fd95f3f3f9b24d00a16ed38101443e5"), looks := false }, kinds := [], alts := [], laidByText := true, laidKinds := [.data, .data, .data, .pinned], laidTests := true, laidLooks := .later }
def FnExactWithLettersCardSaid : Prop := Claim7.holds Tryd.pinned (.plain (OpenSpec.ofChange fnExactWithLettersSpec)) fnExactWithLettersCard

/-- THE TIED CARD OF 'laws.FnExactMostLetters'. -/
def fnExactMostLettersCard : Claim7 := { stood := { row := fnExactMostLettersRow, standIns := [], harness := (true, "1062e31f460c1f26469fc3ef0725c5a38fd95f3f3f9b24d00a16ed38101443e5"), looks := false }, kinds := [], alts := [], laidByText := true, laidKinds := [.data, .data, .data, .pinned], laidTests := true, laidLooks := .later }
def FnExactMostLettersCardSaid : Prop := Claim7.holds Tryd.pinned (.plain (OpenSpec.ofChange fnExactMostLettersSpec)) fnExactMostLettersCard

/-- THE TIED CARD OF 'laws.FnExactFirstInAlphabet'. -/
def fnExactFirstInAlphabetCard : Claim7 := { stood := { row := fnExactFirstInAlphabetRow, standIns := [], harness := (true, "1062e31f460c1f26469fc3ef0725c5a38fd95f3f3f9b24d00a16ed38101443e5"), looks := false }, kinds := [], alts := [], laidByText := true, laidKinds := [.data, .data, .data, .pinned], laidTests := true, laidLooks := .later }
def FnExactFirstInAlphabetCardSaid : Prop := Claim7.holds Tryd.pinned (.plain (OpenSpec.ofChange fnExactFirstInAlphabetSpec)) fnExactFirstInAlphabetCard

/-- THE TIED CARD OF 'laws.FnExactRankInAlphabet'. -/
def fnExactRankInAlphabetCard : Claim7 := { stood := { row := fnExactRankInAlphabetRow, standIns := [], harness := (true, "1062e31f460c1f26469fc3ef0725c5a38fd95f3f3f9b24d00a16ed38101443e5"), looks := false }, kinds := [], alts := [], laidByText := true, laidKinds := [.data, .data, .data, .pinned], laidTests := true, laidLooks := .later }
def FnExactRankInAlphabetCardSaid : Prop := Claim7.holds Tryd.pinned (.plain (OpenSpec.ofChange fnExactRankInAlphabetSpec)) fnExactRankInAlphabetCard

/-- THE SECOND FORM's CARD OF 'laws.FnExactNameOf'. -/
def fnExactNameOfUptoCard : Claim7 := { stood := { row := fnExactNameOfUptoRow, standIns := [], harness := (true, "1062e31f460c1f26469fc3ef0725c5a38fd95f3f3f9b24d00a16ed38101443e5"), looks := false }, kinds := [], alts := [], laidByText := true, laidKinds := [.data, .data], laidTests := true, laidLooks := .later }
def FnExactNameOfUptoCardSaid : Prop := Claim7.holds Tryd.pinned (.plain (OpenSpec.upto fnExactNameOfSpec)) fnExactNameOfUptoCard

/-- THE SECOND FORM's CARD OF 'laws.FnExactReadName'. -/
def fnExactReadNameUptoCard : Claim7 := { stood := { row := fnExactReadNameUptoRow, standIns := [], harness := (true, "1062e31f460c1f26469fc3ef0725c5a38fd95f3f3f9b24d00a16ed38101443e5"), looks := false }, kinds := [], alts := [], laidByText := true, laidKinds := [.data, .data, .data, .pinned], laidTests := true, laidLooks := .later }
def FnExactReadNameUptoCardSaid : Prop := Claim7.holds Tryd.pinned (.plain (OpenSpec.upto fnExactReadNameSpec)) fnExactReadNameUptoCard

/-- THE SECOND FORM's CARD OF 'laws.FnExactWordsOfName'. -/
def fnExactWordsOfNameUptoCard : Claim7 := { stood := { row := fnExactWordsOfNameUptoRow, standIns := [], harness := (true, "1062e31f460c1f26469fc3ef0725c5a38fd95f3f3f9b24d00a16ed38101443e5"), looks := false }, kinds := [], alts := [], laidByText := true, laidKinds := [.data, .data], laidTests := true, laidLooks := .later }
def FnExactWordsOfNameUptoCardSaid : Prop := Claim7.holds Tryd.pinned (.plain (OpenSpec.upto fnExactWordsOfNameSpec)) fnExactWordsOfNameUptoCard

/-- THE SECOND FORM's CARD OF 'laws.FnExactLettersOf'. -/
def fnExactLettersOfUptoCard : Claim7 := { stood := { row := fnExactLettersOfUptoRow, standIns := [], harness := (true, "1062e31f460c1f26469fc3ef0725c5a38fd95f3f3f9b24d00a16ed38101443e5"), looks := false }, kinds := [], alts := [], laidByText := true, laidKinds := [.data, .data, .data, .pinned], laidTests := true, laidLooks := .later }
def FnExactLettersOfUptoCardSaid : Prop := Claim7.holds Tryd.pinned (.plain (OpenSpec.upto fnExactLettersOfSpec)) fnExactLettersOfUptoCard

/-- THE SECOND FORM's CARD OF 'laws.FnExactCountLetter'. -/
def fnExactCountLetterUptoCard : Claim7 := { stood := { row := fnExactCountLetterUptoRow, standIns := [], harness := (true, "1062e31f460c1f26469fc3ef0725c5a38fd95f3f3f9b24d00a16ed38101443e5"), looks := false }, kinds := [], alts := [], laidByText := true, laidKinds := [.data, .data, .data, .pinned], laidTests := true, laidLooks := .later }
def FnExactCountLetterUptoCardSaid : Prop := Claim7.holds Tryd.pinned (.plain (OpenSpec.upto fnExactCountLetterSpec)) fnExactCountLetterUptoCard

/-- THE SECOND FORM's CARD OF 'laws.FnExactDifferentLetters'. -/
def fnExactDifferentLettersUptoCard : Claim7 := { stood := { row := fnExactDifferentLettersUptoRow, standIns := [], harness := (true, "1062e31f460c1f26469fc3ef0725c5a38fd95f3f3f9b24d00a16ed38101443e5"), looks := false }, kinds := [], alts := [], laidByText := true, laidKinds := [.data, .data, .data, .pinned], laidTests := true, laidLooks := .later }
def FnExactDifferentLettersUptoCardSaid : Prop := Claim7.holds Tryd.pinned (.plain (OpenSpec.upto fnExactDifferentLettersSpec)) fnExactDifferentLettersUptoCard

/-- THE SECOND FORM's CARD OF 'laws.FnExactIsHonest'. -/
def fnExactIsHonestUptoCard : Claim7 := { stood := { row := fnExactIsHonestUptoRow, standIns := [], harness := (true, "1062e31f460c1f26469fc3ef0725c5a38fd95f3f3f9b24d00a16ed38101443e5"), looks := false }, kinds := [], alts := [], laidByText := true, laidKinds := [.data, .data, .data, .pinned], laidTests := true, laidLooks := .later }
def FnExactIsHonestUptoCardSaid : Prop := Claim7.holds Tryd.pinned (.plain (OpenSpec.upto fnExactIsHonestSpec)) fnExactIsHonestUptoCard

/-- THE SECOND FORM's CARD OF 'laws.FnExactChainOf'. -/
def fnExactChainOfUptoCard : Claim7 := { stood := { row := fnExactChainOfUptoRow, standIns := [], harness := (true, "1062e31f460c1f26469fc3ef0725c5a38fd95f3f3f9b24d00a16ed38101443e5"), looks := false }, kinds := [], alts := [], laidByText := true, laidKinds := [.data, .data, .data, .pinned], laidTests := true, laidLooks := .later }
def FnExactChainOfUptoCardSaid : Prop := Claim7.holds Tryd.pinned (.plain (OpenSpec.upto fnExactChainOfSpec)) fnExactChainOfUptoCard

/-- THE SECOND FORM's CARD OF 'laws.FnExactStepsToFour'. -/
def fnExactStepsToFourUptoCard : Claim7 := { stood := { row := fnExactStepsToFourUptoRow, standIns := [], harness := (true, "1062e31f460c1f26469fc3ef0725c5a38fd95f3f3f9b24d00a16ed38101443e5"), looks := false }, kinds := [], alts := [], laidByText := true, laidKinds := [.data, .data, .data, .pinned], laidTests := true, laidLooks := .later }
def FnExactStepsToFourUptoCardSaid : Prop := Claim7.holds Tryd.pinned (.plain (OpenSpec.upto fnExactStepsToFourSpec)) fnExactStepsToFourUptoCard

/-- THE SECOND FORM's CARD OF 'laws.FnExactCompareNames'. -/
def fnExactCompareNamesUptoCard : Claim7 := { stood := { row := fnExactCompareNamesUptoRow, standIns := [], harness := (true, "1062e31f460c1f26469fc3ef0725c5a38fd95f3f3f9b24d00a16ed38101443e5"), looks := false }, kinds := [], alts := [], laidByText := true, laidKinds := [.data, .data, .data, .pinned], laidTests := true, laidLooks := .later }
def FnExactCompareNamesUptoCardSaid : Prop := Claim7.holds Tryd.pinned (.plain (OpenSpec.upto fnExactCompareNamesSpec)) fnExactCompareNamesUptoCard

/-- THE SECOND FORM's CARD OF 'laws.FnExactSumOfLetters'. -/
def fnExactSumOfLettersUptoCard : Claim7 := { stood := { row := fnExactSumOfLettersUptoRow, standIns := [], harness := (true, "1062e31f460c1f26469fc3ef0725c5a38fd95f3f3f9b24d00a16ed38101443e5"), looks := false }, kinds := [], alts := [], laidByText := true, laidKinds := [.data, .data, .data, .pinned], laidTests := true, laidLooks := .later }
def FnExactSumOfLettersUptoCardSaid : Prop := Claim7.holds Tryd.pinned (.plain (OpenSpec.upto fnExactSumOfLettersSpec)) fnExactSumOfLettersUptoCard

/-- THE SECOND FORM's CARD OF 'laws.FnExactFirstWithLetter'. -/
def fnExactFirstWithLetterUptoCard : Claim7 := { stood := { row := fnExactFirstWithLetterUptoRow, standIns := [], harness := (true, "1062e31f460c1f26469fc3ef0725c5a38fd95f3f3f9b24d00a16ed38101443e5"), looks := false }, kinds := [], alts := [], laidByText := true, laidKinds := [.data, .data, .data, .pinned], laidTests := true, laidLooks := .later }
def FnExactFirstWithLetterUptoCardSaid : Prop := Claim7.holds Tryd.pinned (.plain (OpenSpec.upto fnExactFirstWithLetterSpec)) fnExactFirstWithLetterUptoCard

/-- THE SECOND FORM's CARD OF 'laws.FnExactWithLetters'. -/
def fnExactWithLettersUptoCard : Claim7 := { stood := { row := fnExactWithLettersUptoRow, standIns := [], harness := (true, "1062e31f460c1f26469fc3ef0725c5a38fd95f3f3f9b24d00a16ed38101443e5"), looks := false }, kinds := [], alts := [], laidByText := true, laidKinds := [.data, .data, .data, .pinned], laidTests := true, laidLooks := .later }
def FnExactWithLettersUptoCardSaid : Prop := Claim7.holds Tryd.pinned (.plain (OpenSpec.upto fnExactWithLettersSpec)) fnExactWithLettersUptoCard

/-- THE SECOND FORM's CARD OF 'laws.FnExactMostLetters'. -/
def fnExactMostLettersUptoCard : Claim7 := { stood := { row := fnExactMostLettersUptoRow, standIns := [], harness := (true, "1062e31f460c1f26469fc3ef0725c5a38fd95f3f3f9b24d00a16ed38101443e5"), looks := false }, kinds := [], alts := [], laidByText := true, laidKinds := [.data, .data, .data, .pinned], laidTests := true, laidLooks := .later }
def FnExactMostLettersUptoCardSaid : Prop := Claim7.holds Tryd.pinned (.plain (OpenSpec.upto fnExactMostLettersSpec)) fnExactMostLettersUptoCard

/-- THE SECOND FORM's CARD OF 'laws.FnExactFirstInAlphabet'. -/
def fnExactFirstInAlphabetUptoCard : Claim7 := { stood := { row := fnExactFirstInAlphabetUptoRow, standIns := [], harness := (true, "1062e31f460c1f26469fc3ef0725c5a38fd95f3f3f9b24d00a16ed38101443e5"), looks := false }, kinds := [], alts := [], laidByText := true, laidKinds := [.data, .data, .data, .pinned], laidTests := true, laidLooks := .later }
def FnExactFirstInAlphabetUptoCardSaid : Prop := Claim7.holds Tryd.pinned (.plain (OpenSpec.upto fnExactFirstInAlphabetSpec)) fnExactFirstInAlphabetUptoCard

/-- THE SECOND FORM's CARD OF 'laws.FnExactRankInAlphabet'. -/
def fnExactRankInAlphabetUptoCard : Claim7 := { stood := { row := fnExactRankInAlphabetUptoRow, standIns := [], harness := (true, "1062e31f460c1f26469fc3ef0725c5a38fd95f3f3f9b24d00a16ed38101443e5"), looks := false }, kinds := [], alts := [], laidByText := true, laidKinds := [.data, .data, .data, .pinned], laidTests := true, laidLooks := .later }
def FnExactRankInAlphabetUptoCardSaid : Prop := Claim7.holds Tryd.pinned (.plain (OpenSpec.upto fnExactRankInAlphabetSpec)) fnExactRankInAlphabetUptoCard
end Rows
end Go.Proofs.YtjnegoninojglaaDoor
