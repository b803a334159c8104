/-
  DERIVED. GIVEN WITH THE SEED: THE CARDS: each row of YtampjipbemmicaaDoorRows.lean that lists a variable, with what it lists TIED to the program's text (the seventh form; the later family's looks); each row that meets fmt, with fmt's text TOLD by the authors' own Lean function (tested against real Go, not proved from fmt's source: count such statements apart). THE CARD IS WHAT COUNTS. Prove the row's statement (the work); the ties are given (YtampjipbemmicaaDoorTie.lean); close each card by the builder's one call (the guide's Derived/Test/ToyasCard.lean, 'card_holds'). Laid BY PROGRAM, IN A SANDBOX (cutbox-door.mjs). By AI agents, Wed Nov 11 2026. No macro, syntax, notation, axiom, sorry.
-/
import Derived.Test.YtampjipbemmicaaDoorRows
import GoSem.ClaimSeven
namespace Go.Proofs.YtampjipbemmicaaDoor
namespace Rows

/-- THE TIED CARD OF 'laws.FnExactIsLanguage'. -/
def fnExactIsLanguageCard : Claim7 := { stood := { row := fnExactIsLanguageRow, standIns := [], harness := (true, "24bedcf839c7fb0b1965dfa77a80883850b6d5f32c1e352e287700a4b5ef46a5"), looks := false }, kinds := [], alts := [], laidByText := true, laidKinds := [.data, .pinned], laidTests := true, laidLooks := .later }
def FnExactIsLanguageCardSaid : Prop := Claim7.holds Tryd.pinned (.plain (OpenSpec.ofChange fnExactIsLanguageSpec)) fnExactIsLanguageCard

/-- THE TIED CARD OF 'laws.FnExactSentenceOf'. -/
def fnExactSentenceOfCard : Claim7 := { stood := { row := fnExactSentenceOfRow, standIns := [], harness := (true, "24bedcf839c7fb0b1965dfa77a80883850b6d5f32c1e352e287700a4b5ef46a5"), looks := false }, kinds := [], alts := [], laidByText := true, laidKinds := [.data, .pinned], laidTests := true, laidLooks := .later }
def FnExactSentenceOfCardSaid : Prop := Claim7.holds Tryd.pinned (.plain (OpenSpec.ofChange fnExactSentenceOfSpec)) fnExactSentenceOfCard

/-- THE TIED CARD OF 'laws.FnExactCountLetters'. -/
def fnExactCountLettersCard : Claim7 := { stood := { row := fnExactCountLettersRow, standIns := [], harness := (true, "24bedcf839c7fb0b1965dfa77a80883850b6d5f32c1e352e287700a4b5ef46a5"), looks := false }, kinds := [], alts := [], laidByText := true, laidKinds := [.data, .pinned], laidTests := true, laidLooks := .later }
def FnExactCountLettersCardSaid : Prop := Claim7.holds Tryd.pinned (.plain (OpenSpec.ofChange fnExactCountLettersSpec)) fnExactCountLettersCard

/-- THE TIED CARD OF 'laws.FnExactIsTrueSentence'. -/
def fnExactIsTrueSentenceCard : Claim7 := { stood := { row := fnExactIsTrueSentenceRow, standIns := [], harness := (true, "24bedcf839c7fb0b1965dfa77a80883850b6d5f32c1e352e287700a4b5ef46a5"), looks := false }, kinds := [], alts := [], laidByText := true, laidKinds := [.data, .pinned], laidTests := true, laidLooks := .later }
def FnExactIsTrueSentenceCardSaid : Prop := Claim7.holds Tryd.pinned (.plain (OpenSpec.ofChange fnExactIsTrueSentenceSpec)) fnExactIsTrueSentenceCard

/-- THE TIED CARD OF 'laws.FnExactLiesOf'. -/
def fnExactLiesOfCard : Claim7 := { stood := { row := fnExactLiesOfRow, standIns := [], harness := (true, "24bedcf839c7fb0b1965dfa77a80883850b6d5f32c1e352e287700a4b5ef46a5"), looks := false }, kinds := [], alts := [], laidByText := true, laidKinds := [.data, .pinned], laidTests := true, laidLooks := .later }
def FnExactLiesOfCardSaid : Prop := Claim7.holds Tryd.pinned (.plain (OpenSpec.ofChange fnExactLiesOfSpec)) fnExactLiesOfCard

/-- THE TIED CARD OF 'laws.FnExactCountAgain'. -/
def fnExactCountAgainCard : Claim7 := { stood := { row := fnExactCountAgainRow, standIns := [], harness := (true, "24bedcf839c7fb0b1965dfa77a80883850b6d5f32c1e352e287700a4b5ef46a5"), looks := false }, kinds := [], alts := [], laidByText := true, laidKinds := [.data, .pinned], laidTests := true, laidLooks := .later }
def FnExactCountAgainCardSaid : Prop := Claim7.holds Tryd.pinned (.plain (OpenSpec.ofChange fnExactCountAgainSpec)) fnExactCountAgainCard

/-- THE TIED CARD OF 'laws.FnExactWayOfCounting'. -/
def fnExactWayOfCountingCard : Claim7 := { stood := { row := fnExactWayOfCountingRow, standIns := [], harness := (true, "24bedcf839c7fb0b1965dfa77a80883850b6d5f32c1e352e287700a4b5ef46a5"), looks := false }, kinds := [], alts := [], laidByText := true, laidKinds := [.data, .pinned], laidTests := true, laidLooks := .later }
def FnExactWayOfCountingCardSaid : Prop := Claim7.holds Tryd.pinned (.plain (OpenSpec.ofChange fnExactWayOfCountingSpec)) fnExactWayOfCountingCard

/-- THE TIED CARD OF 'laws.FnExactLoopOfCounting'. -/
def fnExactLoopOfCountingCard : Claim7 := { stood := { row := fnExactLoopOfCountingRow, standIns := [], harness := (true, "24bedcf839c7fb0b1965dfa77a80883850b6d5f32c1e352e287700a4b5ef46a5"), looks := false }, kinds := [], alts := [], laidByText := true, laidKinds := [.data, .pinned], laidTests := true, laidLooks := .later }
def FnExactLoopOfCountingCardSaid : Prop := Claim7.holds Tryd.pinned (.plain (OpenSpec.ofChange fnExactLoopOfCountingSpec)) fnExactLoopOfCountingCard

/-- THE TIED CARD OF 'laws.FnExactLengthOfSentence'. -/
def fnExactLengthOfSentenceCard : Claim7 := { stood := { row := fnExactLengthOfSentenceRow, standIns := [], harness := (true, "24bedcf839c7fb0b1965dfa77a80883850b6d5f32c1e352e287700a4b5ef46a5"), looks := false }, kinds := [], alts := [], laidByText := true, laidKinds := [.data, .pinned], laidTests := true, laidLooks := .later }
def FnExactLengthOfSentenceCardSaid : Prop := Claim7.holds Tryd.pinned (.plain (OpenSpec.ofChange fnExactLengthOfSentenceSpec)) fnExactLengthOfSentenceCard

/-- THE TIED CARD OF 'laws.FnExactLanguageText'. -/
def fnExactLanguageTextCard : Claim7 := { stood := { row := fnExactLanguageTextRow, standIns := [], harness := (true, "24bedcf839c7fb0b1965dfa77a80883850b6d5f32c1e352e287700a4b5ef46a5"), looks := false }, kinds := [], alts := [], laidByText := true, laidKinds := [.data, .pinned], laidTests := true, laidLooks := .later }
def FnExactLanguageTextCardSaid : Prop := Claim7.holds Tryd.pinned (.plain (OpenSpec.ofChange fnExactLanguageTextSpec)) fnExactLanguageTextCard

/-- THE TIED CARD OF 'laws.FnExactParseLanguage'. -/
def fnExactParseLanguageCard : Claim7 := { stood := { row := fnExactParseLanguageRow, standIns := [], harness := (true, "24bedcf839c7fb0b1965dfa77a80883850b6d5f32c1e352e287700a4b5ef46a5"), looks := false }, kinds := [], alts := [], laidByText := true, laidKinds := [.data, .pinned], laidTests := true, laidLooks := .later }
def FnExactParseLanguageCardSaid : Prop := Claim7.holds Tryd.pinned (.plain (OpenSpec.ofChange fnExactParseLanguageSpec)) fnExactParseLanguageCard

/-- THE SECOND FORM's CARD OF 'laws.FnExactIsLanguage'. -/
def fnExactIsLanguageUptoCard : Claim7 := { stood := { row := fnExactIsLanguageUptoRow, standIns := [], harness := (true, "24bedcf839c7fb0b1965dfa77a80883850b6d5f32c1e352e287700a4b5ef46a5"), looks := false }, kinds := [], alts := [], laidByText := true, laidKinds := [.data, .pinned], laidTests := true, laidLooks := .later }
def FnExactIsLanguageUptoCardSaid : Prop := Claim7.holds Tryd.pinned (.plain (OpenSpec.upto fnExactIsLanguageSpec)) fnExactIsLanguageUptoCard

/-- THE SECOND FORM's CARD OF 'laws.FnExactSentenceOf'. -/
def fnExactSentenceOfUptoCard : Claim7 := { stood := { row := fnExactSentenceOfUptoRow, standIns := [], harness := (true, "24bedcf839c7fb0b1965dfa77a80883850b6d5f32c1e352e287700a4b5ef46a5"), looks := false }, kinds := [], alts := [], laidByText := true, laidKinds := [.data, .pinned], laidTests := true, laidLooks := .later }
def FnExactSentenceOfUptoCardSaid : Prop := Claim7.holds Tryd.pinned (.plain (OpenSpec.upto fnExactSentenceOfSpec)) fnExactSentenceOfUptoCard

/-- THE SECOND FORM's CARD OF 'laws.FnExactCountLetters'. -/
def fnExactCountLettersUptoCard : Claim7 := { stood := { row := fnExactCountLettersUptoRow, standIns := [], harness := (true, "24bedcf839c7fb0b1965dfa77a80883850b6d5f32c1e352e287700a4b5ef46a5"), looks := false }, kinds := [], alts := [], laidByText := true, laidKinds := [.data, .pinned], laidTests := true, laidLooks := .later }
def FnExactCountLettersUptoCardSaid : Prop := Claim7.holds Tryd.pinned (.plain (OpenSpec.upto fnExactCountLettersSpec)) fnExactCountLettersUptoCard

/-- THE SECOND FORM's CARD OF 'laws.FnExactIsTrueSentence'. -/
def fnExactIsTrueSentenceUptoCard : Claim7 := { stood := { row := fnExactIsTrueSentenceUptoRow, standIns := [], harness := (true, "24bedcf839c7fb0b1965dfa77a80883850b6d5f32c1e352e287700a4b5ef46a5"), looks := false }, kinds := [], alts := [], laidByText := true, laidKinds := [.data, .pinned], laidTests := true, laidLooks := .later }
def FnExactIsTrueSentenceUptoCardSaid : Prop := Claim7.holds Tryd.pinned (.plain (OpenSpec.upto fnExactIsTrueSentenceSpec)) fnExactIsTrueSentenceUptoCard

/-- THE SECOND FORM's CARD OF 'laws.FnExactLiesOf'. -/
def fnExactLiesOfUptoCard : Claim7 := { stood := { row := fnExactLiesOfUptoRow, standIns := [], harness := (true, "24bedcf839c7fb0b1965dfa77a80883850b6d5f32c1e352e287700a4b5ef46a5"), looks := false }, kinds := [], alts := [], laidByText := true, laidKinds := [.data, .pinned], laidTests := true, laidLooks := .later }
def FnExactLiesOfUptoCardSaid : Prop := Claim7.holds Tryd.pinned (.plain (OpenSpec.upto fnExactLiesOfSpec)) fnExactLiesOfUptoCard

/-- THE SECOND FORM's CARD OF 'laws.FnExactCountAgain'. -/
def fnExactCountAgainUptoCard : Claim7 := { stood := { row := fnExactCountAgainUptoRow, standIns := [], harness := (true, "24bedcf839c7fb0b1965dfa77a80883850b6d5f32c1e352e287700a4b5ef46a5"), looks := false }, kinds := [], alts := [], laidByText := true, laidKinds := [.data, .pinned], laidTests := true, laidLooks := .later }
def FnExactCountAgainUptoCardSaid : Prop := Claim7.holds Tryd.pinned (.plain (OpenSpec.upto fnExactCountAgainSpec)) fnExactCountAgainUptoCard

/-- THE SECOND FORM's CARD OF 'laws.FnExactWayOfCounting'. -/
def fnExactWayOfCountingUptoCard : Claim7 := { stood := { row := fnExactWayOfCountingUptoRow, standIns := [], harness := (true, "24bedcf839c7fb0b1965dfa77a80883850b6d5f32c1e352e287700a4b5ef46a5"), looks := false }, kinds := [], alts := [], laidByText := true, laidKinds := [.data, .pinned], laidTests := true, laidLooks := .later }
def FnExactWayOfCountingUptoCardSaid : Prop := Claim7.holds Tryd.pinned (.plain (OpenSpec.upto fnExactWayOfCountingSpec)) fnExactWayOfCountingUptoCard

/-- THE SECOND FORM's CARD OF 'laws.FnExactLoopOfCounting'. -/
def fnExactLoopOfCountingUptoCard : Claim7 := { stood := { row := fnExactLoopOfCountingUptoRow, standIns := [], harness := (true, "24bedcf839c7fb0b1965dfa77a80883850b6d5f32c1e352e287700a4b5ef46a5"), looks := false }, kinds := [], alts := [], laidByText := true, laidKinds := [.data, .pinned], laidTests := true, laidLooks := .later }
def FnExactLoopOfCountingUptoCardSaid : Prop := Claim7.holds Tryd.pinned (.plain (OpenSpec.upto fnExactLoopOfCountingSpec)) fnExactLoopOfCountingUptoCard

/-- THE SECOND FORM's CARD OF 'laws.FnExactLengthOfSentence'. -/
def fnExactLengthOfSentenceUptoCard : Claim7 := { stood := { row := fnExactLengthOfSentenceUptoRow, standIns := [], harness := (true, "24bedcf839c7fb0b1965dfa77a80883850b6d5f32c1e352e287700a4b5ef46a5"), looks := false }, kinds := [], alts := [], laidByText := true, laidKinds := [.data, .pinned], laidTests := true, laidLooks := .later }
def FnExactLengthOfSentenceUptoCardSaid : Prop := Claim7.holds Tryd.pinned (.plain (OpenSpec.upto fnExactLengthOfSentenceSpec)) fnExactLengthOfSentenceUptoCard

/-- THE SECOND FORM's CARD OF 'laws.FnExactLanguageText'. -/
def fnExactLanguageTextUptoCard : Claim7 := { stood := { row := fnExactLanguageTextUptoRow, standIns := [], harness := (true, "24bedcf839c7fb0b1965dfa77a80883850b6d5f32c1e352e287700a4b5ef46a5"), looks := false }, kinds := [], alts := [], laidByText := true, laidKinds := [.data, .pinned], laidTests := true, laidLooks := .later }
def FnExactLanguageTextUptoCardSaid : Prop := Claim7.holds Tryd.pinned (.plain (OpenSpec.upto fnExactLanguageTextSpec)) fnExactLanguageTextUptoCard

/-- THE SECOND FORM's CARD OF 'laws.FnExactParseLanguage'. -/
def fnExactParseLanguageUptoCard : Claim7 := { stood := { row := fnExactParseLanguageUptoRow, standIns := [], harness := (true, "24bedcf839c7fb0b1965dfa77a80883850b6d5f32c1e352e287700a4b5ef46a5"), looks := false }, kinds := [], alts := [], laidByText := true, laidKinds := [.data, .pinned], laidTests := true, laidLooks := .later }
def FnExactParseLanguageUptoCardSaid : Prop := Claim7.holds Tryd.pinned (.plain (OpenSpec.upto fnExactParseLanguageSpec)) fnExactParseLanguageUptoCard
end Rows
end Go.Proofs.YtampjipbemmicaaDoor
