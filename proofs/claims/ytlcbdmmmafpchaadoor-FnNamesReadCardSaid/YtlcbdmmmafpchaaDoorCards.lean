/-
  DERIVED. GIVEN WITH THE SEED: THE CARDS: each row of YtlcbdmmmafpchaaDoorRows.lean that lists a variable, with what it lists TIED to the program's text (the seventh form; the later family's looks); each row that meets fmt, with fmt's text TOLD by the authors' own Lean function (tested against real Go, not proved from fmt's source: count such statements apart). THE CARD IS WHAT COUNTS. Prove the row's statement (the work); the ties are given (YtlcbdmmmafpchaaDoorTie.lean); close each card by the builder's one call (the guide's Derived/Test/ToyasCard.lean, 'card_holds'). Laid BY PROGRAM, IN A SANDBOX (cutbox-door.mjs). By AI agents, Wed Nov 11 2026. No macro, syntax, notation, axiom, sorry.
-/
import Derived.Test.YtlcbdmmmafpchaaDoorRows
import GoSem.ClaimSeven
namespace Go.Proofs.YtlcbdmmmafpchaaDoor
namespace Rows

/-- THE TIED CARD OF 'laws.FnNamesRead'. -/
def fnNamesReadCard : Claim7 := { stood := { row := fnNamesReadRow, standIns := [], harness := (true, "59012946a63e9453e1ccabbe98b4b9b5b52c7e434b985e0af628745af2948f04"), looks := false }, kinds := [], alts := [], laidByText := true, laidKinds := [.data, .data, .data, .pinned], laidTests := true, laidLooks := .later }
def FnNamesReadCardSaid : Prop := Claim7.holds Tryd.pinned (.plain (OpenSpec.ofChange fnNamesReadSpec)) fnNamesReadCard

/-- THE TIED CARD OF 'laws.FnNamesReadOfAll'. -/
def fnNamesReadOfAllCard : Claim7 := { stood := { row := fnNamesReadOfAllRow, standIns := [], harness := (true, "59012946a63e9453e1ccabbe98b4b9b5b52c7e434b985e0af628745af2948f04"), looks := false }, kinds := [], alts := [], laidByText := true, laidKinds := [.data, .data, .data, .pinned], laidTests := true, laidLooks := .later }
def FnNamesReadOfAllCardSaid : Prop := Claim7.holds Tryd.pinned (.plain (OpenSpec.ofChange fnNamesReadOfAllSpec)) fnNamesReadOfAllCard

/-- THE TIED CARD OF 'laws.FnNamesOrdered'. -/
def fnNamesOrderedCard : Claim7 := { stood := { row := fnNamesOrderedRow, standIns := [], harness := (true, "59012946a63e9453e1ccabbe98b4b9b5b52c7e434b985e0af628745af2948f04"), looks := false }, kinds := [], alts := [], laidByText := true, laidKinds := [.data, .data, .data, .pinned], laidTests := true, laidLooks := .later }
def FnNamesOrderedCardSaid : Prop := Claim7.holds Tryd.pinned (.plain (OpenSpec.ofChange fnNamesOrderedSpec)) fnNamesOrderedCard

/-- THE TIED CARD OF 'laws.FnNamesOrderedOfAll'. -/
def fnNamesOrderedOfAllCard : Claim7 := { stood := { row := fnNamesOrderedOfAllRow, standIns := [], harness := (true, "59012946a63e9453e1ccabbe98b4b9b5b52c7e434b985e0af628745af2948f04"), looks := false }, kinds := [], alts := [], laidByText := true, laidKinds := [.data, .data, .data, .pinned], laidTests := true, laidLooks := .later }
def FnNamesOrderedOfAllCardSaid : Prop := Claim7.holds Tryd.pinned (.plain (OpenSpec.ofChange fnNamesOrderedOfAllSpec)) fnNamesOrderedOfAllCard

/-- THE SECOND FORM's CARD OF 'laws.FnNamesRead'. -/
def fnNamesReadUptoCard : Claim7 := { stood := { row := fnNamesReadUptoRow, standIns := [], harness := (true, "59012946a63e9453e1ccabbe98b4b9b5b52c7e434b985e0af628745af2948f04"), looks := false }, kinds := [], alts := [], laidByText := true, laidKinds := [.data, .data, .data, .pinned], laidTests := true, laidLooks := .later }
def FnNamesReadUptoCardSaid : Prop := Claim7.holds Tryd.pinned (.plain (OpenSpec.upto fnNamesReadSpec)) fnNamesReadUptoCard

/-- THE SECOND FORM's CARD OF 'laws.FnNamesReadOfAll'. -/
def fnNamesReadOfAllUptoCard : Claim7 := { stood := { row := fnNamesReadOfAllUptoRow, standIns := [], harness := (true, "59012946a63e9453e1ccabbe98b4b9b5b52c7e434b985e0af628745af2948f04"), looks := false }, kinds := [], alts := [], laidByText := true, laidKinds := [.data, .data, .data, .pinned], laidTests := true, laidLooks := .later }
def FnNamesReadOfAllUptoCardSaid : Prop := Claim7.holds Tryd.pinned (.plain (OpenSpec.upto fnNamesReadOfAllSpec)) fnNamesReadOfAllUptoCard

/-- THE SECOND FORM's CARD OF 'laws.FnNamesOrdered'. -/
def fnNamesOrderedUptoCard : Claim7 := { stood := { row := fnNamesOrderedUptoRow, standIns := [], harness := (true, "59012946a63e9453e1ccabbe98b4b9b5b52c7e434b985e0af628745af2948f04"), looks := false }, kinds := [], alts := [], laidByText := true, laidKinds := [.data, .data, .data, .pinned], laidTests := true, laidLooks := .later }
def FnNamesOrderedUptoCardSaid : Prop := Claim7.holds Tryd.pinned (.plain (OpenSpec.upto fnNamesOrderedSpec)) fnNamesOrderedUptoCard

/-- THE SECOND FORM's CARD OF 'laws.FnNamesOrderedOfAll'. -/
def fnNamesOrderedOfAllUptoCard : Claim7 := { stood := { row := fnNamesOrderedOfAllUptoRow, standIns := [], harness := (true, "59012946a63e9453e1ccabbe98b4b9b5b52c7e434b985e0af628745af2948f04"), looks := false }, kinds := [], alts := [], laidByText := true, laidKinds := [.data, .data, .data, .pinned], laidTests := true, laidLooks := .later }
def FnNamesOrderedOfAllUptoCardSaid : Prop := Claim7.holds Tryd.pinned (.plain (OpenSpec.upto fnNamesOrderedOfAllSpec)) fnNamesOrderedOfAllUptoCard
end Rows
end Go.Proofs.YtlcbdmmmafpchaaDoor
