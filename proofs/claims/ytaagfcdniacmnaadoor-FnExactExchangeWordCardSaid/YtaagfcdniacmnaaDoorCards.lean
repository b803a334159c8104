/-
  DERIVED. GIVEN WITH THE SEED: THE CARDS: each row of YtaagfcdniacmnaaDoorRows.lean that lists a variable, with what it lists TIED to the program's text (the seventh form; the later family's looks); each row that meets fmt, with fmt's text TOLD by the authors' own Lean function (tested against real Go, not proved from fmt's source: count such statements apart). THE CARD IS WHAT COUNTS. Prove the row's statement (the work); the ties are given (YtaagfcdniacmnaaDoorTie.lean); close each card by the builder's one call (the guide's Derived/Test/ToyasCard.lean, 'card_holds'). Laid BY PROGRAM, IN A SANDBOX (cutbox-door.mjs). By AI agents, Wed Nov 11 2026. No macro, syntax, notation, axiom, sorry.
-/
import Derived.Test.YtaagfcdniacmnaaDoorRows
import GoSem.ClaimSeven
namespace Go.Proofs.YtaagfcdniacmnaaDoor
namespace Rows

/-- THE TIED CARD OF 'laws.FnExactExchangeWord'. -/
def fnExactExchangeWordCard : Claim7 := { stood := { row := fnExactExchangeWordRow, standIns := [], harness := (true, "a863a139340cc99ccdb9dfd20e43eff29bc1cc6b06d46e697c8cd4738abb80a1"), looks := true }, kinds := [], alts := [], laidByText := true, laidKinds := [.data, .pinned], laidTests := true, laidLooks := .later }
def FnExactExchangeWordCardSaid : Prop := Claim7.holds Tryd.pinned (.plain (OpenSpec.ofChange fnExactExchangeWordSpec)) fnExactExchangeWordCard

/-- THE TIED CARD OF 'laws.FnExactDerivedOf'. -/
def fnExactDerivedOfCard : Claim7 := { stood := { row := fnExactDerivedOfRow, standIns := [], harness := (true, "a863a139340cc99ccdb9dfd20e43eff29bc1cc6b06d46e697c8cd4738abb80a1"), looks := true }, kinds := [], alts := [], laidByText := true, laidKinds := [.data, .pinned], laidTests := true, laidLooks := .later }
def FnExactDerivedOfCardSaid : Prop := Claim7.holds Tryd.pinned (.plain (OpenSpec.ofChange fnExactDerivedOfSpec)) fnExactDerivedOfCard

/-- THE TIED CARD OF 'laws.FnExactIsSmooth'. -/
def fnExactIsSmoothCard : Claim7 := { stood := { row := fnExactIsSmoothRow, standIns := [], harness := (true, "a863a139340cc99ccdb9dfd20e43eff29bc1cc6b06d46e697c8cd4738abb80a1"), looks := true }, kinds := [], alts := [], laidByText := true, laidKinds := [.data, .pinned], laidTests := true, laidLooks := .later }
def FnExactIsSmoothCardSaid : Prop := Claim7.holds Tryd.pinned (.plain (OpenSpec.ofChange fnExactIsSmoothSpec)) fnExactIsSmoothCard

/-- THE TIED CARD OF 'laws.FnExactDepthOf'. -/
def fnExactDepthOfCard : Claim7 := { stood := { row := fnExactDepthOfRow, standIns := [], harness := (true, "a863a139340cc99ccdb9dfd20e43eff29bc1cc6b06d46e697c8cd4738abb80a1"), looks := true }, kinds := [], alts := [], laidByText := true, laidKinds := [.data, .pinned], laidTests := true, laidLooks := .later }
def FnExactDepthOfCardSaid : Prop := Claim7.holds Tryd.pinned (.plain (OpenSpec.ofChange fnExactDepthOfSpec)) fnExactDepthOfCard

/-- THE TIED CARD OF 'laws.FnExactCountSmooth'. -/
def fnExactCountSmoothCard : Claim7 := { stood := { row := fnExactCountSmoothRow, standIns := [], harness := (true, "a863a139340cc99ccdb9dfd20e43eff29bc1cc6b06d46e697c8cd4738abb80a1"), looks := true }, kinds := [], alts := [], laidByText := true, laidKinds := [.data, .pinned], laidTests := true, laidLooks := .later }
def FnExactCountSmoothCardSaid : Prop := Claim7.holds Tryd.pinned (.plain (OpenSpec.ofChange fnExactCountSmoothSpec)) fnExactCountSmoothCard

/-- THE TIED CARD OF 'laws.FnExactAllSmooth'. -/
def fnExactAllSmoothCard : Claim7 := { stood := { row := fnExactAllSmoothRow, standIns := [], harness := (true, "a863a139340cc99ccdb9dfd20e43eff29bc1cc6b06d46e697c8cd4738abb80a1"), looks := true }, kinds := [], alts := [], laidByText := true, laidKinds := [.data, .pinned], laidTests := true, laidLooks := .later }
def FnExactAllSmoothCardSaid : Prop := Claim7.holds Tryd.pinned (.plain (OpenSpec.ofChange fnExactAllSmoothSpec)) fnExactAllSmoothCard

/-- THE TIED CARD OF 'laws.FnExactWordsDerivedTo'. -/
def fnExactWordsDerivedToCard : Claim7 := { stood := { row := fnExactWordsDerivedToRow, standIns := [], harness := (true, "a863a139340cc99ccdb9dfd20e43eff29bc1cc6b06d46e697c8cd4738abb80a1"), looks := true }, kinds := [], alts := [], laidByText := true, laidKinds := [.data, .pinned], laidTests := true, laidLooks := .later }
def FnExactWordsDerivedToCardSaid : Prop := Claim7.holds Tryd.pinned (.plain (OpenSpec.ofChange fnExactWordsDerivedToSpec)) fnExactWordsDerivedToCard

/-- THE SECOND FORM's CARD OF 'laws.FnExactExchangeWord'. -/
def fnExactExchangeWordUptoCard : Claim7 := { stood := { row := fnExactExchangeWordUptoRow, standIns := [], harness := (true, "a863a139340cc99ccdb9dfd20e43eff29bc1cc6b06d46e697c8cd4738abb80a1"), looks := true }, kinds := [], alts := [], laidByText := true, laidKinds := [.data, .pinned], laidTests := true, laidLooks := .later }
def FnExactExchangeWordUptoCardSaid : Prop := Claim7.holds Tryd.pinned (.plain (OpenSpec.upto fnExactExchangeWordSpec)) fnExactExchangeWordUptoCard

/-- THE SECOND FORM's CARD OF 'laws.FnExactDerivedOf'. -/
def fnExactDerivedOfUptoCard : Claim7 := { stood := { row := fnExactDerivedOfUptoRow, standIns := [], harness := (true, "a863a139340cc99ccdb9dfd20e43eff29bc1cc6b06d46e697c8cd4738abb80a1"), looks := true }, kinds := [], alts := [], laidByText := true, laidKinds := [.data, .pinned], laidTests := true, laidLooks := .later }
def FnExactDerivedOfUptoCardSaid : Prop := Claim7.holds Tryd.pinned (.plain (OpenSpec.upto fnExactDerivedOfSpec)) fnExactDerivedOfUptoCard

/-- THE SECOND FORM's CARD OF 'laws.FnExactIsSmooth'. -/
def fnExactIsSmoothUptoCard : Claim7 := { stood := { row := fnExactIsSmoothUptoRow, standIns := [], harness := (true, "a863a139340cc99ccdb9dfd20e43eff29bc1cc6b06d46e697c8cd4738abb80a1"), looks := true }, kinds := [], alts := [], laidByText := true, laidKinds := [.data, .pinned], laidTests := true, laidLooks := .later }
def FnExactIsSmoothUptoCardSaid : Prop := Claim7.holds Tryd.pinned (.plain (OpenSpec.upto fnExactIsSmoothSpec)) fnExactIsSmoothUptoCard

/-- THE SECOND FORM's CARD OF 'laws.FnExactDepthOf'. -/
def fnExactDepthOfUptoCard : Claim7 := { stood := { row := fnExactDepthOfUptoRow, standIns := [], harness := (true, "a863a139340cc99ccdb9dfd20e43eff29bc1cc6b06d46e697c8cd4738abb80a1"), looks := true }, kinds := [], alts := [], laidByText := true, laidKinds := [.data, .pinned], laidTests := true, laidLooks := .later }
def FnExactDepthOfUptoCardSaid : Prop := Claim7.holds Tryd.pinned (.plain (OpenSpec.upto fnExactDepthOfSpec)) fnExactDepthOfUptoCard

/-- THE SECOND FORM's CARD OF 'laws.FnExactCountSmooth'. -/
def fnExactCountSmoothUptoCard : Claim7 := { stood := { row := fnExactCountSmoothUptoRow, standIns := [], harness := (true, "a863a139340cc99ccdb9dfd20e43eff29bc1cc6b06d46e697c8cd4738abb80a1"), looks := true }, kinds := [], alts := [], laidByText := true, laidKinds := [.data, .pinned], laidTests := true, laidLooks := .later }
def FnExactCountSmoothUptoCardSaid : Prop := Claim7.holds Tryd.pinned (.plain (OpenSpec.upto fnExactCountSmoothSpec)) fnExactCountSmoothUptoCard

/-- THE SECOND FORM's CARD OF 'laws.FnExactAllSmooth'. -/
def fnExactAllSmoothUptoCard : Claim7 := { stood := { row := fnExactAllSmoothUptoRow, standIns := [], harness := (true, "a863a139340cc99ccdb9dfd20e43eff29bc1cc6b06d46e697c8cd4738abb80a1"), looks := true }, kinds := [], alts := [], laidByText := true, laidKinds := [.data, .pinned], laidTests := true, laidLooks := .later }
def FnExactAllSmoothUptoCardSaid : Prop := Claim7.holds Tryd.pinned (.plain (OpenSpec.upto fnExactAllSmoothSpec)) fnExactAllSmoothUptoCard

/-- THE SECOND FORM's CARD OF 'laws.FnExactWordsDerivedTo'. -/
def fnExactWordsDerivedToUptoCard : Claim7 := { stood := { row := fnExactWordsDerivedToUptoRow, standIns := [], harness := (true, "a863a139340cc99ccdb9dfd20e43eff29bc1cc6b06d46e697c8cd4738abb80a1"), looks := true }, kinds := [], alts := [], laidByText := true, laidKinds := [.data, .pinned], laidTests := true, laidLooks := .later }
def FnExactWordsDerivedToUptoCardSaid : Prop := Claim7.holds Tryd.pinned (.plain (OpenSpec.upto fnExactWordsDerivedToSpec)) fnExactWordsDerivedToUptoCard
end Rows
end Go.Proofs.YtaagfcdniacmnaaDoor
