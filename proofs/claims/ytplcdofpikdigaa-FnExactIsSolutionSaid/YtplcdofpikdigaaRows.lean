/-
  No cell of these rows narrows 'for every input' (looked for: loops, veiled, ifaces, maps, wideKeys, modest, calm, conditions, laid).
  DERIVED. THE GIVEN ROWS OF THIS SEAT. 8 by the template 'for every input the law returns true; each argument reads behind the call as it read before'; 0 by the template 'total and deterministic' (their statements: YtplcdofpikdigaaTotals.lean).
  GIVEN WITH THE SEED: the statements are not yours to turn. If you find one false, say at which input.
  Laid BY PROGRAM, IN A SANDBOX (cutbox-rows.mjs): the forced cells as the released guide's own fill.sh prints them over the translation 77d3f3ed8fe31450… (all of the seat's roots in one cut). By AI agents, Wed Nov 11 2026. No macro, syntax, notation, axiom, sorry.
-/
import Derived.Test.YtplcdofpikdigaaChecked
import GoSem.Claim
import GoSem.ClaimJoined
import GoSem.ClaimMapViews
import Derived.JoinedTies
import Derived.KernelRfl
namespace Go.Proofs.Ytplcdofpikdigaa
/- THE CELL 'sum', in the pinned program and in every row, IS THE sha256 OF THE DUMP (.gsa) THAT YtplcdofpikdigaaProg.lean LOADS. Nothing in Lean hashes anything: it is a label: what it is worth is what the hold of that sum in a sandbox is worth. -/
noncomputable def Try.pinned : Pinned := { name := "ytplcdofpikdigaa", sum := "77d3f3ed8fe314500a8f7b8d2801721f6d7cb1685715bd3fec677d16b416104c", checked := Try.checked }
namespace Rows
def none {H : Type} : Left H := { results := [], args := [] }

/-- 'laws.FnExactIsPuzzle': WHATEVER THE INPUT: true; the input reads as it did. -/
def fnExactIsPuzzleSpec : ChangeSpec := { name := "fnExactIsPuzzle", fn := fun _ => fun
  | [d] => { results := [.lit (.bool true)], args := [d] }
  | _ => none }
def fnExactIsPuzzleRow : OpenClaim := { program := "ytplcdofpikdigaa", sum := "77d3f3ed8fe314500a8f7b8d2801721f6d7cb1685715bd3fec677d16b416104c", func := "loop.example/g01240/laws.FnExactIsPuzzle", spec := "fnExactIsPuzzle", apart := false }
def FnExactIsPuzzleSaid : Prop := fnExactIsPuzzleRow.holds Try.pinned (OpenSpec.ofChange fnExactIsPuzzleSpec)

/-- ITS FALSE NEIGHBOUR: 'it returns false'. Refute it at one input. -/
def fnExactIsPuzzleWrong : ChangeSpec := { name := "fnExactIsPuzzle", fn := fun _ => fun
  | [d] => { results := [.lit (.bool false)], args := [d] }
  | _ => none }
def FnExactIsPuzzleWrongFalsely : Prop := fnExactIsPuzzleRow.holds Try.pinned (OpenSpec.ofChange fnExactIsPuzzleWrong)

/-- 'laws.FnExactGapsOf': WHATEVER THE INPUT: true; the input reads as it did. -/
def fnExactGapsOfSpec : ChangeSpec := { name := "fnExactGapsOf", fn := fun _ => fun
  | [d] => { results := [.lit (.bool true)], args := [d] }
  | _ => none }
def fnExactGapsOfRow : OpenClaim := { program := "ytplcdofpikdigaa", sum := "77d3f3ed8fe314500a8f7b8d2801721f6d7cb1685715bd3fec677d16b416104c", func := "loop.example/g01240/laws.FnExactGapsOf", spec := "fnExactGapsOf", inPlace := ["internal/bytealg.CountString", "internal/bytealg.IndexByteString", "internal/bytealg.IndexString"], named := ["internal/bytealg.MaxLen"], apart := false }
def FnExactGapsOfSaid : Prop := fnExactGapsOfRow.holds Try.pinned (OpenSpec.ofChange fnExactGapsOfSpec)

/-- ITS FALSE NEIGHBOUR: 'it returns false'. Refute it at one input. -/
def fnExactGapsOfWrong : ChangeSpec := { name := "fnExactGapsOf", fn := fun _ => fun
  | [d] => { results := [.lit (.bool false)], args := [d] }
  | _ => none }
def FnExactGapsOfWrongFalsely : Prop := fnExactGapsOfRow.holds Try.pinned (OpenSpec.ofChange fnExactGapsOfWrong)

/-- 'laws.FnExactIsSolution': WHATEVER THE INPUT: true; the input reads as it did. -/
def fnExactIsSolutionSpec : ChangeSpec := { name := "fnExactIsSolution", fn := fun _ => fun
  | [d1, d2] => { results := [.lit (.bool true)], args := [d1, d2] }
  | _ => none }
def fnExactIsSolutionRow : OpenClaim := { program := "ytplcdofpikdigaa", sum := "77d3f3ed8fe314500a8f7b8d2801721f6d7cb1685715bd3fec677d16b416104c", func := "loop.example/g01240/laws.FnExactIsSolution", spec := "fnExactIsSolution", unfollowed := true, recurses := true, apart := false }
def FnExactIsSolutionSaid : Prop := fnExactIsSolutionRow.holds Try.pinned (OpenSpec.ofChange fnExactIsSolutionSpec)

/-- ITS FALSE NEIGHBOUR: 'it returns false'. Refute it at one input. -/
def fnExactIsSolutionWrong : ChangeSpec := { name := "fnExactIsSolution", fn := fun _ => fun
  | [d1, d2] => { results := [.lit (.bool false)], args := [d1, d2] }
  | _ => none }
def FnExactIsSolutionWrongFalsely : Prop := fnExactIsSolutionRow.holds Try.pinned (OpenSpec.ofChange fnExactIsSolutionWrong)

/-- 'laws.FnExactFillGap': WHATEVER THE INPUT: true; the input reads as it did. -/
def fnExactFillGapSpec : ChangeSpec := { name := "fnExactFillGap", fn := fun _ => fun
  | [d1, d2, d3] => { results := [.lit (.bool true)], args := [d1, d2, d3] }
  | _ => none }
def fnExactFillGapRow : OpenClaim := { program := "ytplcdofpikdigaa", sum := "77d3f3ed8fe314500a8f7b8d2801721f6d7cb1685715bd3fec677d16b416104c", func := "loop.example/g01240/laws.FnExactFillGap", spec := "fnExactFillGap", recurses := true, apart := false }
def FnExactFillGapSaid : Prop := fnExactFillGapRow.holds Try.pinned (OpenSpec.ofChange fnExactFillGapSpec)

/-- ITS FALSE NEIGHBOUR: 'it returns false'. Refute it at one input. -/
def fnExactFillGapWrong : ChangeSpec := { name := "fnExactFillGap", fn := fun _ => fun
  | [d1, d2, d3] => { results := [.lit (.bool false)], args := [d1, d2, d3] }
  | _ => none }
def FnExactFillGapWrongFalsely : Prop := fnExactFillGapRow.holds Try.pinned (OpenSpec.ofChange fnExactFillGapWrong)

/-- 'laws.FnExactOpenPlace': WHATEVER THE INPUT: true; the input reads as it did. -/
def fnExactOpenPlaceSpec : ChangeSpec := { name := "fnExactOpenPlace", fn := fun _ => fun
  | [d1, d2] => { results := [.lit (.bool true)], args := [d1, d2] }
  | _ => none }
def fnExactOpenPlaceRow : OpenClaim := { program := "ytplcdofpikdigaa", sum := "77d3f3ed8fe314500a8f7b8d2801721f6d7cb1685715bd3fec677d16b416104c", func := "loop.example/g01240/laws.FnExactOpenPlace", spec := "fnExactOpenPlace", apart := false }
def FnExactOpenPlaceSaid : Prop := fnExactOpenPlaceRow.holds Try.pinned (OpenSpec.ofChange fnExactOpenPlaceSpec)

/-- ITS FALSE NEIGHBOUR: 'it returns false'. Refute it at one input. -/
def fnExactOpenPlaceWrong : ChangeSpec := { name := "fnExactOpenPlace", fn := fun _ => fun
  | [d1, d2] => { results := [.lit (.bool false)], args := [d1, d2] }
  | _ => none }
def FnExactOpenPlaceWrongFalsely : Prop := fnExactOpenPlaceRow.holds Try.pinned (OpenSpec.ofChange fnExactOpenPlaceWrong)

/-- 'laws.FnExactOpenSaid': WHATEVER THE INPUT: true; the input reads as it did. -/
def fnExactOpenSaidSpec : ChangeSpec := { name := "fnExactOpenSaid", fn := fun _ => fun
  | [d1, d2] => { results := [.lit (.bool true)], args := [d1, d2] }
  | _ => none }
def fnExactOpenSaidRow : OpenClaim := { program := "ytplcdofpikdigaa", sum := "77d3f3ed8fe314500a8f7b8d2801721f6d7cb1685715bd3fec677d16b416104c", func := "loop.example/g01240/laws.FnExactOpenSaid", spec := "fnExactOpenSaid", apart := false }
def FnExactOpenSaidSaid : Prop := fnExactOpenSaidRow.holds Try.pinned (OpenSpec.ofChange fnExactOpenSaidSpec)

/-- ITS FALSE NEIGHBOUR: 'it returns false'. Refute it at one input. -/
def fnExactOpenSaidWrong : ChangeSpec := { name := "fnExactOpenSaid", fn := fun _ => fun
  | [d1, d2] => { results := [.lit (.bool false)], args := [d1, d2] }
  | _ => none }
def FnExactOpenSaidWrongFalsely : Prop := fnExactOpenSaidRow.holds Try.pinned (OpenSpec.ofChange fnExactOpenSaidWrong)

/-- 'laws.FnExactMakePuzzle': WHATEVER THE INPUT: true; the input reads as it did. -/
def fnExactMakePuzzleSpec : ChangeSpec := { name := "fnExactMakePuzzle", fn := fun _ => fun
  | [d1, d2, d3] => { results := [.lit (.bool true)], args := [d1, d2, d3] }
  | _ => none }
def fnExactMakePuzzleRow : OpenClaim := { program := "ytplcdofpikdigaa", sum := "77d3f3ed8fe314500a8f7b8d2801721f6d7cb1685715bd3fec677d16b416104c", func := "loop.example/g01240/laws.FnExactMakePuzzle", spec := "fnExactMakePuzzle", unfollowed := true, recurses := true, apart := false }
def FnExactMakePuzzleSaid : Prop := fnExactMakePuzzleRow.holds Try.pinned (OpenSpec.ofChange fnExactMakePuzzleSpec)

/-- ITS FALSE NEIGHBOUR: 'it returns false'. Refute it at one input. -/
def fnExactMakePuzzleWrong : ChangeSpec := { name := "fnExactMakePuzzle", fn := fun _ => fun
  | [d1, d2, d3] => { results := [.lit (.bool false)], args := [d1, d2, d3] }
  | _ => none }
def FnExactMakePuzzleWrongFalsely : Prop := fnExactMakePuzzleRow.holds Try.pinned (OpenSpec.ofChange fnExactMakePuzzleWrong)

/-- 'laws.FnExactParsePuzzle': WHATEVER THE INPUT: true; the input reads as it did. -/
def fnExactParsePuzzleSpec : ChangeSpec := { name := "fnExactParsePuzzle", fn := fun _ => fun
  | [d] => { results := [.lit (.bool true)], args := [d] }
  | _ => none }
def fnExactParsePuzzleRow : OpenClaim := { program := "ytplcdofpikdigaa", sum := "77d3f3ed8fe314500a8f7b8d2801721f6d7cb1685715bd3fec677d16b416104c", func := "loop.example/g01240/laws.FnExactParsePuzzle", spec := "fnExactParsePuzzle", apart := false }
def FnExactParsePuzzleSaid : Prop := fnExactParsePuzzleRow.holds Try.pinned (OpenSpec.ofChange fnExactParsePuzzleSpec)

/-- ITS FALSE NEIGHBOUR: 'it returns false'. Refute it at one input. -/
def fnExactParsePuzzleWrong : ChangeSpec := { name := "fnExactParsePuzzle", fn := fun _ => fun
  | [d] => { results := [.lit (.bool false)], args := [d] }
  | _ => none }
def FnExactParsePuzzleWrongFalsely : Prop := fnExactParsePuzzleRow.holds Try.pinned (OpenSpec.ofChange fnExactParsePuzzleWrong)

/- THE SECOND FORM. 'bulk': how many values and letters a reading holds, each counted each time it is reached (what is shared counts as often as it is met; a slice's spare places count too). A statement '..UptoSaid' is the law's where the arguments, and the package variables that the reading takes, are together of bulk at most 1048576: NARROWER than '..Said'. Prove '..Said' where nothing that the law and all that it calls make is longer than what came in: it says more and counts as full. Else prove '..UptoSaid'. A law counts once. -/
mutual
def uptoBulk {H : Type} : DataW H → Nat
  | .lit (.string bytes) => bytes.length + 1
  | .lit _ => 1
  | .nil => 1
  | .ptr d => uptoBulk d + 1
  | .slice elems spare => uptoBulkAll elems + uptoBulkAll spare + 1
  | .agg parts => uptoBulkAll parts + 1
  | .iface _ d => uptoBulk d + 1
  | .map entries => uptoBulkEntries entries + 1
  | .held _ => 1
def uptoBulkAll {H : Type} : List (DataW H) → Nat
  | [] => 0
  | d :: r => uptoBulk d + uptoBulkAll r
def uptoBulkEntries {H : Type} : List (Lit × DataW H) → Nat
  | [] => 0
  | x :: r => uptoBulkEntry x + uptoBulkEntries r
def uptoBulkEntry {H : Type} : Lit × DataW H → Nat
  | (.string bytes, d) => bytes.length + uptoBulk d + 1
  | (_, d) => uptoBulk d + 1
 end
def uptoSmall : (H : Type) → List (DataW H) → Bool := fun _ ds => decide (uptoBulkAll ds ≤ 1048576)
def OpenSpec.upto (s : _root_.Go.ChangeSpec) : _root_.Go.OpenSpec := { _root_.Go.OpenSpec.ofChange s with cond := some uptoSmall }

/-- 'laws.FnExactIsPuzzle', WHERE WHAT IT READS IS OF BULK AT MOST 1048576: true; the input reads as it did. -/
def fnExactIsPuzzleUptoRow : OpenClaim := { program := "ytplcdofpikdigaa", sum := "77d3f3ed8fe314500a8f7b8d2801721f6d7cb1685715bd3fec677d16b416104c", func := "loop.example/g01240/laws.FnExactIsPuzzle", spec := "fnExactIsPuzzle", apart := false, narrowed := true }
def FnExactIsPuzzleUptoSaid : Prop := fnExactIsPuzzleUptoRow.holds Try.pinned (OpenSpec.upto fnExactIsPuzzleSpec)

/-- 'laws.FnExactGapsOf', WHERE WHAT IT READS IS OF BULK AT MOST 1048576: true; the input reads as it did. -/
def fnExactGapsOfUptoRow : OpenClaim := { program := "ytplcdofpikdigaa", sum := "77d3f3ed8fe314500a8f7b8d2801721f6d7cb1685715bd3fec677d16b416104c", func := "loop.example/g01240/laws.FnExactGapsOf", spec := "fnExactGapsOf", inPlace := ["internal/bytealg.CountString", "internal/bytealg.IndexByteString", "internal/bytealg.IndexString"], named := ["internal/bytealg.MaxLen"], apart := false, narrowed := true }
def FnExactGapsOfUptoSaid : Prop := fnExactGapsOfUptoRow.holds Try.pinned (OpenSpec.upto fnExactGapsOfSpec)

/-- 'laws.FnExactIsSolution', WHERE WHAT IT READS IS OF BULK AT MOST 1048576: true; the input reads as it did. -/
def fnExactIsSolutionUptoRow : OpenClaim := { program := "ytplcdofpikdigaa", sum := "77d3f3ed8fe314500a8f7b8d2801721f6d7cb1685715bd3fec677d16b416104c", func := "loop.example/g01240/laws.FnExactIsSolution", spec := "fnExactIsSolution", unfollowed := true, recurses := true, apart := false, narrowed := true }
def FnExactIsSolutionUptoSaid : Prop := fnExactIsSolutionUptoRow.holds Try.pinned (OpenSpec.upto fnExactIsSolutionSpec)

/-- 'laws.FnExactFillGap', WHERE WHAT IT READS IS OF BULK AT MOST 1048576: true; the input reads as it did. -/
def fnExactFillGapUptoRow : OpenClaim := { program := "ytplcdofpikdigaa", sum := "77d3f3ed8fe314500a8f7b8d2801721f6d7cb1685715bd3fec677d16b416104c", func := "loop.example/g01240/laws.FnExactFillGap", spec := "fnExactFillGap", recurses := true, apart := false, narrowed := true }
def FnExactFillGapUptoSaid : Prop := fnExactFillGapUptoRow.holds Try.pinned (OpenSpec.upto fnExactFillGapSpec)

/-- 'laws.FnExactOpenPlace', WHERE WHAT IT READS IS OF BULK AT MOST 1048576: true; the input reads as it did. -/
def fnExactOpenPlaceUptoRow : OpenClaim := { program := "ytplcdofpikdigaa", sum := "77d3f3ed8fe314500a8f7b8d2801721f6d7cb1685715bd3fec677d16b416104c", func := "loop.example/g01240/laws.FnExactOpenPlace", spec := "fnExactOpenPlace", apart := false, narrowed := true }
def FnExactOpenPlaceUptoSaid : Prop := fnExactOpenPlaceUptoRow.holds Try.pinned (OpenSpec.upto fnExactOpenPlaceSpec)

/-- 'laws.FnExactOpenSaid', WHERE WHAT IT READS IS OF BULK AT MOST 1048576: true; the input reads as it did. -/
def fnExactOpenSaidUptoRow : OpenClaim := { program := "ytplcdofpikdigaa", sum := "77d3f3ed8fe314500a8f7b8d2801721f6d7cb1685715bd3fec677d16b416104c", func := "loop.example/g01240/laws.FnExactOpenSaid", spec := "fnExactOpenSaid", apart := false, narrowed := true }
def FnExactOpenSaidUptoSaid : Prop := fnExactOpenSaidUptoRow.holds Try.pinned (OpenSpec.upto fnExactOpenSaidSpec)

/-- 'laws.FnExactMakePuzzle', WHERE WHAT IT READS IS OF BULK AT MOST 1048576: true; the input reads as it did. -/
def fnExactMakePuzzleUptoRow : OpenClaim := { program := "ytplcdofpikdigaa", sum := "77d3f3ed8fe314500a8f7b8d2801721f6d7cb1685715bd3fec677d16b416104c", func := "loop.example/g01240/laws.FnExactMakePuzzle", spec := "fnExactMakePuzzle", unfollowed := true, recurses := true, apart := false, narrowed := true }
def FnExactMakePuzzleUptoSaid : Prop := fnExactMakePuzzleUptoRow.holds Try.pinned (OpenSpec.upto fnExactMakePuzzleSpec)

/-- 'laws.FnExactParsePuzzle', WHERE WHAT IT READS IS OF BULK AT MOST 1048576: true; the input reads as it did. -/
def fnExactParsePuzzleUptoRow : OpenClaim := { program := "ytplcdofpikdigaa", sum := "77d3f3ed8fe314500a8f7b8d2801721f6d7cb1685715bd3fec677d16b416104c", func := "loop.example/g01240/laws.FnExactParsePuzzle", spec := "fnExactParsePuzzle", apart := false, narrowed := true }
def FnExactParsePuzzleUptoSaid : Prop := fnExactParsePuzzleUptoRow.holds Try.pinned (OpenSpec.upto fnExactParsePuzzleSpec)

end Rows
end Go.Proofs.Ytplcdofpikdigaa
