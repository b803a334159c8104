/-
  NARROWER THAN 'FOR EVERY INPUT', by the rows' own cells (each row's printed sentence says how): FnExactNameOf: laid · FnExactReadName: laid · FnExactWordsOfName: laid · FnExactLettersOf: laid · FnExactCountLetter: laid · FnExactDifferentLetters: laid · FnExactIsHonest: laid · FnExactChainOf: laid · FnExactStepsToFour: laid · FnExactCompareNames: laid · FnExactSumOfLetters: laid · FnExactFirstWithLetter: laid · FnExactWithLetters: laid · FnExactMostLetters: laid · FnExactFirstInAlphabet: laid · FnExactRankInAlphabet: laid.
  DERIVED. THE GIVEN ROWS OF THIS SEAT. 16 by the template 'for every input the law returns true; each argument reads behind the call as it read before'; 0 by the template 'total and deterministic' (their statements: YtjnegoninojglaaDoorTotals.lean).
  GIVEN WITH THE SEED: the statements are not yours to turn. If you find one false, say at which input.
  Laid BY PROGRAM, IN A SANDBOX (cutbox-rows.mjs): the forced cells as the released guide's own fill.sh prints them over the translation 6e914d83491a0382… (all of the seat's roots in one cut). By AI agents, Wed Nov 11 2026. No macro, syntax, notation, axiom, sorry.
-/
import Derived.Test.YtjnegoninojglaaDoorChecked
import GoSem.PinnedTables
import GoSem.Claim
import GoSem.ClaimJoined
import GoSem.ClaimMapViews
import Derived.JoinedTies
import Derived.KernelRfl
namespace Go.Proofs.YtjnegoninojglaaDoor
/- THE CELL 'sum', in the pinned program and in every row, IS THE sha256 OF THE DUMP (.gsa) THAT YtjnegoninojglaaDoorProg.lean LOADS. Nothing in Lean hashes anything: it is a label: what it is worth is what the hold of that sum in a sandbox is worth. -/
noncomputable def Tryd.pinned : Pinned := { name := "ytjnegoninojglaadoor", sum := "6e914d83491a0382bb0d50b4ba56ca6395330d30a3eb6d0bd56164cec4c7fe7a", checked := Tryd.checked }
namespace Rows
def none {H : Type} : Left H := { results := [], args := [] }

/- WHAT THE LISTED PACKAGE-LEVEL VARIABLES READ AS WHEN THE CALL BEGINS. Each datum BY PROGRAM (the guide's laid-datum.mjs) off the statement by which the dump's own 'gosem.cut.vars' lays the variable. In a bare row this is a premise. The card (YtjnegoninojglaaDoorCards.lean) ties it to the program's text. -/
def laid_loop_example_g01240_impl_smallNames {H : Type} : DataW H := .agg [.lit (.string [122, 101, 114, 111]), .lit (.string [111, 110, 101]), .lit (.string [116, 119, 111]), .lit (.string [116, 104, 114, 101, 101]), .lit (.string [102, 111, 117, 114]), .lit (.string [102, 105, 118, 101]), .lit (.string [115, 105, 120]), .lit (.string [115, 101, 118, 101, 110]), .lit (.string [101, 105, 103, 104, 116]), .lit (.string [110, 105, 110, 101]), .lit (.string [116, 101, 110]), .lit (.string [101, 108, 101, 118, 101, 110]), .lit (.string [116, 119, 101, 108, 118, 101]), .lit (.string [116, 104, 105, 114, 116, 101, 101, 110]), .lit (.string [102, 111, 117, 114, 116, 101, 101, 110]), .lit (.string [102, 105, 102, 116, 101, 101, 110]), .lit (.string [115, 105, 120, 116, 101, 101, 110]), .lit (.string [115, 101, 118, 101, 110, 116, 101, 101, 110]), .lit (.string [101, 105, 103, 104, 116, 101, 101, 110]), .lit (.string [110, 105, 110, 101, 116, 101, 101, 110])]
def laid_loop_example_g01240_impl_tensNames {H : Type} : DataW H := .agg [.lit (.string [116, 119, 101, 110, 116, 121]), .lit (.string [116, 104, 105, 114, 116, 121]), .lit (.string [102, 111, 114, 116, 121]), .lit (.string [102, 105, 102, 116, 121]), .lit (.string [115, 105, 120, 116, 121]), .lit (.string [115, 101, 118, 101, 110, 116, 121]), .lit (.string [101, 105, 103, 104, 116, 121]), .lit (.string [110, 105, 110, 101, 116, 121])]
def laid_unicode_utf8_acceptRanges {H : Type} : DataW H := .agg [.agg [.lit (.int .u8 128), .lit (.int .u8 191)], .agg [.lit (.int .u8 160), .lit (.int .u8 191)], .agg [.lit (.int .u8 128), .lit (.int .u8 159)], .agg [.lit (.int .u8 144), .lit (.int .u8 191)], .agg [.lit (.int .u8 128), .lit (.int .u8 143)], .agg [.lit (.int .u8 0), .lit (.int .u8 0)], .agg [.lit (.int .u8 0), .lit (.int .u8 0)], .agg [.lit (.int .u8 0), .lit (.int .u8 0)], .agg [.lit (.int .u8 0), .lit (.int .u8 0)], .agg [.lit (.int .u8 0), .lit (.int .u8 0)], .agg [.lit (.int .u8 0), .lit (.int .u8 0)], .agg [.lit (.int .u8 0), .lit (.int .u8 0)], .agg [.lit (.int .u8 0), .lit (.int .u8 0)], .agg [.lit (.int .u8 0), .lit (.int .u8 0)], .agg [.lit (.int .u8 0), .lit (.int .u8 0)], .agg [.lit (.int .u8 0), .lit (.int .u8 0)]]
/-- One of Go's own tables, pinned by name: the form's constant. -/
def laid_unicode_utf8_first : DataW Unit := Go.Pinned.utf8First

/-- 'laws.FnExactNameOf': WHATEVER THE INPUT: true; the input reads as it did. -/
def fnExactNameOfSpec : ChangeSpec := { name := "fnExactNameOf", vars := ["loop.example/g01240/impl.smallNames", "loop.example/g01240/impl.tensNames"], fn := fun _ => fun
  | [d, g1, g2] => { results := [.lit (.bool true)], args := [d], vars := [g1, g2] }
  | _ => none }
def fnExactNameOfRow : OpenClaim := { program := "ytjnegoninojglaadoor", sum := "6e914d83491a0382bb0d50b4ba56ca6395330d30a3eb6d0bd56164cec4c7fe7a", func := "loop.example/g01240/laws.FnExactNameOf", spec := "fnExactNameOf", inPlace := ["internal/abi.NoEscape", "internal/bytealg.MakeNoZero"], recurses := true, named := ["loop.example/g01240/impl.smallNames", "loop.example/g01240/impl.tensNames"], apart := false, laid := [("loop.example/g01240/impl.smallNames", laid_loop_example_g01240_impl_smallNames), ("loop.example/g01240/impl.tensNames", laid_loop_example_g01240_impl_tensNames)] }
def FnExactNameOfSaid : Prop := fnExactNameOfRow.holds Tryd.pinned (OpenSpec.ofChange fnExactNameOfSpec)

/-- ITS FALSE NEIGHBOUR: 'it returns false'. Refute it at one input. -/
def fnExactNameOfWrong : ChangeSpec := { name := "fnExactNameOf", vars := ["loop.example/g01240/impl.smallNames", "loop.example/g01240/impl.tensNames"], fn := fun _ => fun
  | [d, g1, g2] => { results := [.lit (.bool false)], args := [d], vars := [g1, g2] }
  | _ => none }
def FnExactNameOfWrongFalsely : Prop := fnExactNameOfRow.holds Tryd.pinned (OpenSpec.ofChange fnExactNameOfWrong)

/-- 'laws.FnExactReadName': WHATEVER THE INPUT: true; the input reads as it did. -/
def fnExactReadNameSpec : ChangeSpec := { name := "fnExactReadName", vars := ["loop.example/g01240/impl.smallNames", "loop.example/g01240/impl.tensNames"], fn := fun _ => fun
  | [d, g1, g2] => { results := [.lit (.bool true)], args := [d], vars := [g1, g2] }
  | _ => none }
def fnExactReadNameRow : OpenClaim := { program := "ytjnegoninojglaadoor", sum := "6e914d83491a0382bb0d50b4ba56ca6395330d30a3eb6d0bd56164cec4c7fe7a", func := "loop.example/g01240/laws.FnExactReadName", spec := "fnExactReadName", inPlace := ["internal/abi.NoEscape", "internal/bytealg.MakeNoZero"], unfollowed := true, recurses := true, named := ["unicode/utf8.first", "unicode/utf8.acceptRanges", "loop.example/g01240/impl.smallNames", "loop.example/g01240/impl.tensNames"], apart := false, laid := [("unicode/utf8.acceptRanges", laid_unicode_utf8_acceptRanges), ("loop.example/g01240/impl.smallNames", laid_loop_example_g01240_impl_smallNames), ("loop.example/g01240/impl.tensNames", laid_loop_example_g01240_impl_tensNames), ("unicode/utf8.first", laid_unicode_utf8_first)] }
def FnExactReadNameSaid : Prop := fnExactReadNameRow.holds Tryd.pinned (OpenSpec.ofChange fnExactReadNameSpec)

/-- ITS FALSE NEIGHBOUR: 'it returns false'. Refute it at one input. -/
def fnExactReadNameWrong : ChangeSpec := { name := "fnExactReadName", vars := ["loop.example/g01240/impl.smallNames", "loop.example/g01240/impl.tensNames"], fn := fun _ => fun
  | [d, g1, g2] => { results := [.lit (.bool false)], args := [d], vars := [g1, g2] }
  | _ => none }
def FnExactReadNameWrongFalsely : Prop := fnExactReadNameRow.holds Tryd.pinned (OpenSpec.ofChange fnExactReadNameWrong)

/-- 'laws.FnExactWordsOfName': WHATEVER THE INPUT: true; the input reads as it did. -/
def fnExactWordsOfNameSpec : ChangeSpec := { name := "fnExactWordsOfName", vars := ["loop.example/g01240/impl.smallNames", "loop.example/g01240/impl.tensNames"], fn := fun _ => fun
  | [d, g1, g2] => { results := [.lit (.bool true)], args := [d], vars := [g1, g2] }
  | _ => none }
def fnExactWordsOfNameRow : OpenClaim := { program := "ytjnegoninojglaadoor", sum := "6e914d83491a0382bb0d50b4ba56ca6395330d30a3eb6d0bd56164cec4c7fe7a", func := "loop.example/g01240/laws.FnExactWordsOfName", spec := "fnExactWordsOfName", recurses := true, named := ["loop.example/g01240/impl.smallNames", "loop.example/g01240/impl.tensNames"], apart := false, laid := [("loop.example/g01240/impl.smallNames", laid_loop_example_g01240_impl_smallNames), ("loop.example/g01240/impl.tensNames", laid_loop_example_g01240_impl_tensNames)] }
def FnExactWordsOfNameSaid : Prop := fnExactWordsOfNameRow.holds Tryd.pinned (OpenSpec.ofChange fnExactWordsOfNameSpec)

/-- ITS FALSE NEIGHBOUR: 'it returns false'. Refute it at one input. -/
def fnExactWordsOfNameWrong : ChangeSpec := { name := "fnExactWordsOfName", vars := ["loop.example/g01240/impl.smallNames", "loop.example/g01240/impl.tensNames"], fn := fun _ => fun
  | [d, g1, g2] => { results := [.lit (.bool false)], args := [d], vars := [g1, g2] }
  | _ => none }
def FnExactWordsOfNameWrongFalsely : Prop := fnExactWordsOfNameRow.holds Tryd.pinned (OpenSpec.ofChange fnExactWordsOfNameWrong)

/-- 'laws.FnExactLettersOf': WHATEVER THE INPUT: true; the input reads as it did. -/
def fnExactLettersOfSpec : ChangeSpec := { name := "fnExactLettersOf", vars := ["loop.example/g01240/impl.smallNames", "loop.example/g01240/impl.tensNames"], fn := fun _ => fun
  | [d, g1, g2] => { results := [.lit (.bool true)], args := [d], vars := [g1, g2] }
  | _ => none }
def fnExactLettersOfRow : OpenClaim := { program := "ytjnegoninojglaadoor", sum := "6e914d83491a0382bb0d50b4ba56ca6395330d30a3eb6d0bd56164cec4c7fe7a", func := "loop.example/g01240/laws.FnExactLettersOf", spec := "fnExactLettersOf", inPlace := ["internal/abi.NoEscape", "internal/bytealg.MakeNoZero", "internal/bytealg.CountString", "internal/bytealg.IndexByteString", "internal/bytealg.IndexString"], unfollowed := true, recurses := true, named := ["loop.example/g01240/impl.smallNames", "loop.example/g01240/impl.tensNames", "internal/bytealg.MaxLen", "unicode/utf8.first", "unicode/utf8.acceptRanges"], apart := false, laid := [("unicode/utf8.acceptRanges", laid_unicode_utf8_acceptRanges), ("loop.example/g01240/impl.smallNames", laid_loop_example_g01240_impl_smallNames), ("loop.example/g01240/impl.tensNames", laid_loop_example_g01240_impl_tensNames), ("unicode/utf8.first", laid_unicode_utf8_first)] }
def FnExactLettersOfSaid : Prop := fnExactLettersOfRow.holds Tryd.pinned (OpenSpec.ofChange fnExactLettersOfSpec)

/-- ITS FALSE NEIGHBOUR: 'it returns false'. Refute it at one input. -/
def fnExactLettersOfWrong : ChangeSpec := { name := "fnExactLettersOf", vars := ["loop.example/g01240/impl.smallNames", "loop.example/g01240/impl.tensNames"], fn := fun _ => fun
  | [d, g1, g2] => { results := [.lit (.bool false)], args := [d], vars := [g1, g2] }
  | _ => none }
def FnExactLettersOfWrongFalsely : Prop := fnExactLettersOfRow.holds Tryd.pinned (OpenSpec.ofChange fnExactLettersOfWrong)

/-- 'laws.FnExactCountLetter': WHATEVER THE INPUT: true; the input reads as it did. -/
def fnExactCountLetterSpec : ChangeSpec := { name := "fnExactCountLetter", vars := ["loop.example/g01240/impl.smallNames", "loop.example/g01240/impl.tensNames"], fn := fun _ => fun
  | [d1, d2, g1, g2] => { results := [.lit (.bool true)], args := [d1, d2], vars := [g1, g2] }
  | _ => none }
def fnExactCountLetterRow : OpenClaim := { program := "ytjnegoninojglaadoor", sum := "6e914d83491a0382bb0d50b4ba56ca6395330d30a3eb6d0bd56164cec4c7fe7a", func := "loop.example/g01240/laws.FnExactCountLetter", spec := "fnExactCountLetter", inPlace := ["internal/abi.NoEscape", "internal/bytealg.MakeNoZero", "internal/bytealg.CountString", "internal/bytealg.IndexByteString", "internal/bytealg.IndexString"], recurses := true, named := ["loop.example/g01240/impl.smallNames", "loop.example/g01240/impl.tensNames", "internal/bytealg.MaxLen", "unicode/utf8.first", "unicode/utf8.acceptRanges"], apart := false, laid := [("unicode/utf8.acceptRanges", laid_unicode_utf8_acceptRanges), ("loop.example/g01240/impl.smallNames", laid_loop_example_g01240_impl_smallNames), ("loop.example/g01240/impl.tensNames", laid_loop_example_g01240_impl_tensNames), ("unicode/utf8.first", laid_unicode_utf8_first)] }
def FnExactCountLetterSaid : Prop := fnExactCountLetterRow.holds Tryd.pinned (OpenSpec.ofChange fnExactCountLetterSpec)

/-- ITS FALSE NEIGHBOUR: 'it returns false'. Refute it at one input. -/
def fnExactCountLetterWrong : ChangeSpec := { name := "fnExactCountLetter", vars := ["loop.example/g01240/impl.smallNames", "loop.example/g01240/impl.tensNames"], fn := fun _ => fun
  | [d1, d2, g1, g2] => { results := [.lit (.bool false)], args := [d1, d2], vars := [g1, g2] }
  | _ => none }
def FnExactCountLetterWrongFalsely : Prop := fnExactCountLetterRow.holds Tryd.pinned (OpenSpec.ofChange fnExactCountLetterWrong)

/-- 'laws.FnExactDifferentLetters': WHATEVER THE INPUT: true; the input reads as it did. -/
def fnExactDifferentLettersSpec : ChangeSpec := { name := "fnExactDifferentLetters", vars := ["loop.example/g01240/impl.smallNames", "loop.example/g01240/impl.tensNames"], fn := fun _ => fun
  | [d, g1, g2] => { results := [.lit (.bool true)], args := [d], vars := [g1, g2] }
  | _ => none }
def fnExactDifferentLettersRow : OpenClaim := { program := "ytjnegoninojglaadoor", sum := "6e914d83491a0382bb0d50b4ba56ca6395330d30a3eb6d0bd56164cec4c7fe7a", func := "loop.example/g01240/laws.FnExactDifferentLetters", spec := "fnExactDifferentLetters", inPlace := ["internal/abi.NoEscape", "internal/bytealg.MakeNoZero", "internal/bytealg.CountString", "internal/bytealg.IndexByteString", "internal/bytealg.IndexString"], unfollowed := true, recurses := true, named := ["loop.example/g01240/impl.smallNames", "loop.example/g01240/impl.tensNames", "internal/bytealg.MaxLen", "unicode/utf8.first", "unicode/utf8.acceptRanges"], apart := false, laid := [("unicode/utf8.acceptRanges", laid_unicode_utf8_acceptRanges), ("loop.example/g01240/impl.smallNames", laid_loop_example_g01240_impl_smallNames), ("loop.example/g01240/impl.tensNames", laid_loop_example_g01240_impl_tensNames), ("unicode/utf8.first", laid_unicode_utf8_first)] }
def FnExactDifferentLettersSaid : Prop := fnExactDifferentLettersRow.holds Tryd.pinned (OpenSpec.ofChange fnExactDifferentLettersSpec)

/-- ITS FALSE NEIGHBOUR: 'it returns false'. Refute it at one input. -/
def fnExactDifferentLettersWrong : ChangeSpec := { name := "fnExactDifferentLetters", vars := ["loop.example/g01240/impl.smallNames", "loop.example/g01240/impl.tensNames"], fn := fun _ => fun
  | [d, g1, g2] => { results := [.lit (.bool false)], args := [d], vars := [g1, g2] }
  | _ => none }
def FnExactDifferentLettersWrongFalsely : Prop := fnExactDifferentLettersRow.holds Tryd.pinned (OpenSpec.ofChange fnExactDifferentLettersWrong)

/-- 'laws.FnExactIsHonest': WHATEVER THE INPUT: true; the input reads as it did. -/
def fnExactIsHonestSpec : ChangeSpec := { name := "fnExactIsHonest", vars := ["loop.example/g01240/impl.smallNames", "loop.example/g01240/impl.tensNames"], fn := fun _ => fun
  | [d, g1, g2] => { results := [.lit (.bool true)], args := [d], vars := [g1, g2] }
  | _ => none }
def fnExactIsHonestRow : OpenClaim := { program := "ytjnegoninojglaadoor", sum := "6e914d83491a0382bb0d50b4ba56ca6395330d30a3eb6d0bd56164cec4c7fe7a", func := "loop.example/g01240/laws.FnExactIsHonest", spec := "fnExactIsHonest", inPlace := ["internal/abi.NoEscape", "internal/bytealg.MakeNoZero", "internal/bytealg.CountString", "internal/bytealg.IndexByteString", "internal/bytealg.IndexString"], unfollowed := true, recurses := true, named := ["loop.example/g01240/impl.smallNames", "loop.example/g01240/impl.tensNames", "internal/bytealg.MaxLen", "unicode/utf8.first", "unicode/utf8.acceptRanges"], apart := false, laid := [("unicode/utf8.acceptRanges", laid_unicode_utf8_acceptRanges), ("loop.example/g01240/impl.smallNames", laid_loop_example_g01240_impl_smallNames), ("loop.example/g01240/impl.tensNames", laid_loop_example_g01240_impl_tensNames), ("unicode/utf8.first", laid_unicode_utf8_first)] }
def FnExactIsHonestSaid : Prop := fnExactIsHonestRow.holds Tryd.pinned (OpenSpec.ofChange fnExactIsHonestSpec)

/-- ITS FALSE NEIGHBOUR: 'it returns false'. Refute it at one input. -/
def fnExactIsHonestWrong : ChangeSpec := { name := "fnExactIsHonest", vars := ["loop.example/g01240/impl.smallNames", "loop.example/g01240/impl.tensNames"], fn := fun _ => fun
  | [d, g1, g2] => { results := [.lit (.bool false)], args := [d], vars := [g1, g2] }
  | _ => none }
def FnExactIsHonestWrongFalsely : Prop := fnExactIsHonestRow.holds Tryd.pinned (OpenSpec.ofChange fnExactIsHonestWrong)

/-- 'laws.FnExactChainOf': WHATEVER THE INPUT: true; the input reads as it did. -/
def fnExactChainOfSpec : ChangeSpec := { name := "fnExactChainOf", vars := ["loop.example/g01240/impl.smallNames", "loop.example/g01240/impl.tensNames"], fn := fun _ => fun
  | [d, g1, g2] => { results := [.lit (.bool true)], args := [d], vars := [g1, g2] }
  | _ => none }
def fnExactChainOfRow : OpenClaim := { program := "ytjnegoninojglaadoor", sum := "6e914d83491a0382bb0d50b4ba56ca6395330d30a3eb6d0bd56164cec4c7fe7a", func := "loop.example/g01240/laws.FnExactChainOf", spec := "fnExactChainOf", inPlace := ["internal/abi.NoEscape", "internal/bytealg.MakeNoZero", "internal/bytealg.CountString", "internal/bytealg.IndexByteString", "internal/bytealg.IndexString"], unfollowed := true, recurses := true, named := ["loop.example/g01240/impl.smallNames", "loop.example/g01240/impl.tensNames", "internal/bytealg.MaxLen", "unicode/utf8.first", "unicode/utf8.acceptRanges"], apart := false, laid := [("unicode/utf8.acceptRanges", laid_unicode_utf8_acceptRanges), ("loop.example/g01240/impl.smallNames", laid_loop_example_g01240_impl_smallNames), ("loop.example/g01240/impl.tensNames", laid_loop_example_g01240_impl_tensNames), ("unicode/utf8.first", laid_unicode_utf8_first)] }
def FnExactChainOfSaid : Prop := fnExactChainOfRow.holds Tryd.pinned (OpenSpec.ofChange fnExactChainOfSpec)

/-- ITS FALSE NEIGHBOUR: 'it returns false'. Refute it at one input. -/
def fnExactChainOfWrong : ChangeSpec := { name := "fnExactChainOf", vars := ["loop.example/g01240/impl.smallNames", "loop.example/g01240/impl.tensNames"], fn := fun _ => fun
  | [d, g1, g2] => { results := [.lit (.bool false)], args := [d], vars := [g1, g2] }
  | _ => none }
def FnExactChainOfWrongFalsely : Prop := fnExactChainOfRow.holds Tryd.pinned (OpenSpec.ofChange fnExactChainOfWrong)

/-- 'laws.FnExactStepsToFour': WHATEVER THE INPUT: true; the input reads as it did. -/
def fnExactStepsToFourSpec : ChangeSpec := { name := "fnExactStepsToFour", vars := ["loop.example/g01240/impl.smallNames", "loop.example/g01240/impl.tensNames"], fn := fun _ => fun
  | [d, g1, g2] => { results := [.lit (.bool true)], args := [d], vars := [g1, g2] }
  | _ => none }
def fnExactStepsToFourRow : OpenClaim := { program := "ytjnegoninojglaadoor", sum := "6e914d83491a0382bb0d50b4ba56ca6395330d30a3eb6d0bd56164cec4c7fe7a", func := "loop.example/g01240/laws.FnExactStepsToFour", spec := "fnExactStepsToFour", inPlace := ["internal/abi.NoEscape", "internal/bytealg.MakeNoZero", "internal/bytealg.CountString", "internal/bytealg.IndexByteString", "internal/bytealg.IndexString"], unfollowed := true, recurses := true, named := ["loop.example/g01240/impl.smallNames", "loop.example/g01240/impl.tensNames", "internal/bytealg.MaxLen", "unicode/utf8.first", "unicode/utf8.acceptRanges"], apart := false, laid := [("unicode/utf8.acceptRanges", laid_unicode_utf8_acceptRanges), ("loop.example/g01240/impl.smallNames", laid_loop_example_g01240_impl_smallNames), ("loop.example/g01240/impl.tensNames", laid_loop_example_g01240_impl_tensNames), ("unicode/utf8.first", laid_unicode_utf8_first)] }
def FnExactStepsToFourSaid : Prop := fnExactStepsToFourRow.holds Tryd.pinned (OpenSpec.ofChange fnExactStepsToFourSpec)

/-- ITS FALSE NEIGHBOUR: 'it returns false'. Refute it at one input. -/
def fnExactStepsToFourWrong : ChangeSpec := { name := "fnExactStepsToFour", vars := ["loop.example/g01240/impl.smallNames", "loop.example/g01240/impl.tensNames"], fn := fun _ => fun
  | [d, g1, g2] => { results := [.lit (.bool false)], args := [d], vars := [g1, g2] }
  | _ => none }
def FnExactStepsToFourWrongFalsely : Prop := fnExactStepsToFourRow.holds Tryd.pinned (OpenSpec.ofChange fnExactStepsToFourWrong)

/-- 'laws.FnExactCompareNames': WHATEVER THE INPUT: true; the input reads as it did. -/
def fnExactCompareNamesSpec : ChangeSpec := { name := "fnExactCompareNames", vars := ["loop.example/g01240/impl.smallNames", "loop.example/g01240/impl.tensNames"], fn := fun _ => fun
  | [d1, d2, g1, g2] => { results := [.lit (.bool true)], args := [d1, d2], vars := [g1, g2] }
  | _ => none }
def fnExactCompareNamesRow : OpenClaim := { program := "ytjnegoninojglaadoor", sum := "6e914d83491a0382bb0d50b4ba56ca6395330d30a3eb6d0bd56164cec4c7fe7a", func := "loop.example/g01240/laws.FnExactCompareNames", spec := "fnExactCompareNames", inPlace := ["internal/abi.NoEscape", "internal/bytealg.MakeNoZero", "internal/bytealg.CountString", "internal/bytealg.IndexByteString", "internal/bytealg.IndexString"], recurses := true, named := ["loop.example/g01240/impl.smallNames", "loop.example/g01240/impl.tensNames", "internal/bytealg.MaxLen", "unicode/utf8.first", "unicode/utf8.acceptRanges"], apart := false, laid := [("unicode/utf8.acceptRanges", laid_unicode_utf8_acceptRanges), ("loop.example/g01240/impl.smallNames", laid_loop_example_g01240_impl_smallNames), ("loop.example/g01240/impl.tensNames", laid_loop_example_g01240_impl_tensNames), ("unicode/utf8.first", laid_unicode_utf8_first)] }
def FnExactCompareNamesSaid : Prop := fnExactCompareNamesRow.holds Tryd.pinned (OpenSpec.ofChange fnExactCompareNamesSpec)

/-- ITS FALSE NEIGHBOUR: 'it returns false'. Refute it at one input. -/
def fnExactCompareNamesWrong : ChangeSpec := { name := "fnExactCompareNames", vars := ["loop.example/g01240/impl.smallNames", "loop.example/g01240/impl.tensNames"], fn := fun _ => fun
  | [d1, d2, g1, g2] => { results := [.lit (.bool false)], args := [d1, d2], vars := [g1, g2] }
  | _ => none }
def FnExactCompareNamesWrongFalsely : Prop := fnExactCompareNamesRow.holds Tryd.pinned (OpenSpec.ofChange fnExactCompareNamesWrong)

/-- 'laws.FnExactSumOfLetters': WHATEVER THE INPUT: true; the input reads as it did. -/
def fnExactSumOfLettersSpec : ChangeSpec := { name := "fnExactSumOfLetters", vars := ["loop.example/g01240/impl.smallNames", "loop.example/g01240/impl.tensNames"], fn := fun _ => fun
  | [d, g1, g2] => { results := [.lit (.bool true)], args := [d], vars := [g1, g2] }
  | _ => none }
def fnExactSumOfLettersRow : OpenClaim := { program := "ytjnegoninojglaadoor", sum := "6e914d83491a0382bb0d50b4ba56ca6395330d30a3eb6d0bd56164cec4c7fe7a", func := "loop.example/g01240/laws.FnExactSumOfLetters", spec := "fnExactSumOfLetters", inPlace := ["internal/abi.NoEscape", "internal/bytealg.MakeNoZero", "internal/bytealg.CountString", "internal/bytealg.IndexByteString", "internal/bytealg.IndexString"], recurses := true, named := ["loop.example/g01240/impl.smallNames", "loop.example/g01240/impl.tensNames", "internal/bytealg.MaxLen", "unicode/utf8.first", "unicode/utf8.acceptRanges"], apart := false, laid := [("unicode/utf8.acceptRanges", laid_unicode_utf8_acceptRanges), ("loop.example/g01240/impl.smallNames", laid_loop_example_g01240_impl_smallNames), ("loop.example/g01240/impl.tensNames", laid_loop_example_g01240_impl_tensNames), ("unicode/utf8.first", laid_unicode_utf8_first)] }
def FnExactSumOfLettersSaid : Prop := fnExactSumOfLettersRow.holds Tryd.pinned (OpenSpec.ofChange fnExactSumOfLettersSpec)

/-- ITS FALSE NEIGHBOUR: 'it returns false'. Refute it at one input. -/
def fnExactSumOfLettersWrong : ChangeSpec := { name := "fnExactSumOfLetters", vars := ["loop.example/g01240/impl.smallNames", "loop.example/g01240/impl.tensNames"], fn := fun _ => fun
  | [d, g1, g2] => { results := [.lit (.bool false)], args := [d], vars := [g1, g2] }
  | _ => none }
def FnExactSumOfLettersWrongFalsely : Prop := fnExactSumOfLettersRow.holds Tryd.pinned (OpenSpec.ofChange fnExactSumOfLettersWrong)

/-- 'laws.FnExactFirstWithLetter': WHATEVER THE INPUT: true; the input reads as it did. -/
def fnExactFirstWithLetterSpec : ChangeSpec := { name := "fnExactFirstWithLetter", vars := ["loop.example/g01240/impl.smallNames", "loop.example/g01240/impl.tensNames"], fn := fun _ => fun
  | [d, g1, g2] => { results := [.lit (.bool true)], args := [d], vars := [g1, g2] }
  | _ => none }
def fnExactFirstWithLetterRow : OpenClaim := { program := "ytjnegoninojglaadoor", sum := "6e914d83491a0382bb0d50b4ba56ca6395330d30a3eb6d0bd56164cec4c7fe7a", func := "loop.example/g01240/laws.FnExactFirstWithLetter", spec := "fnExactFirstWithLetter", inPlace := ["internal/abi.NoEscape", "internal/bytealg.MakeNoZero", "internal/bytealg.CountString", "internal/bytealg.IndexByteString", "internal/bytealg.IndexString"], recurses := true, named := ["loop.example/g01240/impl.smallNames", "loop.example/g01240/impl.tensNames", "internal/bytealg.MaxLen", "unicode/utf8.first", "unicode/utf8.acceptRanges"], apart := false, laid := [("unicode/utf8.acceptRanges", laid_unicode_utf8_acceptRanges), ("loop.example/g01240/impl.smallNames", laid_loop_example_g01240_impl_smallNames), ("loop.example/g01240/impl.tensNames", laid_loop_example_g01240_impl_tensNames), ("unicode/utf8.first", laid_unicode_utf8_first)] }
def FnExactFirstWithLetterSaid : Prop := fnExactFirstWithLetterRow.holds Tryd.pinned (OpenSpec.ofChange fnExactFirstWithLetterSpec)

/-- ITS FALSE NEIGHBOUR: 'it returns false'. Refute it at one input. -/
def fnExactFirstWithLetterWrong : ChangeSpec := { name := "fnExactFirstWithLetter", vars := ["loop.example/g01240/impl.smallNames", "loop.example/g01240/impl.tensNames"], fn := fun _ => fun
  | [d, g1, g2] => { results := [.lit (.bool false)], args := [d], vars := [g1, g2] }
  | _ => none }
def FnExactFirstWithLetterWrongFalsely : Prop := fnExactFirstWithLetterRow.holds Tryd.pinned (OpenSpec.ofChange fnExactFirstWithLetterWrong)

/-- 'laws.FnExactWithLetters': WHATEVER THE INPUT: true; the input reads as it did. -/
def fnExactWithLettersSpec : ChangeSpec := { name := "fnExactWithLetters", vars := ["loop.example/g01240/impl.smallNames", "loop.example/g01240/impl.tensNames"], fn := fun _ => fun
  | [d1, d2, g1, g2] => { results := [.lit (.bool true)], args := [d1, d2], vars := [g1, g2] }
  | _ => none }
def fnExactWithLettersRow : OpenClaim := { program := "ytjnegoninojglaadoor", sum := "6e914d83491a0382bb0d50b4ba56ca6395330d30a3eb6d0bd56164cec4c7fe7a", func := "loop.example/g01240/laws.FnExactWithLetters", spec := "fnExactWithLetters", inPlace := ["internal/abi.NoEscape", "internal/bytealg.MakeNoZero", "internal/bytealg.CountString", "internal/bytealg.IndexByteString", "internal/bytealg.IndexString"], recurses := true, named := ["loop.example/g01240/impl.smallNames", "loop.example/g01240/impl.tensNames", "internal/bytealg.MaxLen", "unicode/utf8.first", "unicode/utf8.acceptRanges"], apart := false, laid := [("unicode/utf8.acceptRanges", laid_unicode_utf8_acceptRanges), ("loop.example/g01240/impl.smallNames", laid_loop_example_g01240_impl_smallNames), ("loop.example/g01240/impl.tensNames", laid_loop_example_g01240_impl_tensNames), ("unicode/utf8.first", laid_unicode_utf8_first)] }
def FnExactWithLettersSaid : Prop := fnExactWithLettersRow.holds Tryd.pinned (OpenSpec.ofChange fnExactWithLettersSpec)

/-- ITS FALSE NEIGHBOUR: 'it returns false'. Refute it at one input. -/
def fnExactWithLettersWrong : ChangeSpec := { name := "fnExactWithLetters", vars := ["loop.example/g01240/impl.smallNames", "loop.example/g01240/impl.tensNames"], fn := fun _ => fun
  | [d1, d2, g1, g2] => { results := [.lit (.bool false)], args := [d1, d2], vars := [g1, g2] }
  | _ => none }
def FnExactWithLettersWrongFalsely : Prop := fnExactWithLettersRow.holds Tryd.pinned (OpenSpec.ofChange fnExactWithLettersWrong)

/-- 'laws.FnExactMostLetters': WHATEVER THE INPUT: true; the input reads as it did. -/
def fnExactMostLettersSpec : ChangeSpec := { name := "fnExactMostLetters", vars := ["loop.example/g01240/impl.smallNames", "loop.example/g01240/impl.tensNames"], fn := fun _ => fun
  | [d, g1, g2] => { results := [.lit (.bool true)], args := [d], vars := [g1, g2] }
  | _ => none }
def fnExactMostLettersRow : OpenClaim := { program := "ytjnegoninojglaadoor", sum := "6e914d83491a0382bb0d50b4ba56ca6395330d30a3eb6d0bd56164cec4c7fe7a", func := "loop.example/g01240/laws.FnExactMostLetters", spec := "fnExactMostLetters", inPlace := ["internal/abi.NoEscape", "internal/bytealg.MakeNoZero", "internal/bytealg.CountString", "internal/bytealg.IndexByteString", "internal/bytealg.IndexString"], unfollowed := true, recurses := true, named := ["loop.example/g01240/impl.smallNames", "loop.example/g01240/impl.tensNames", "internal/bytealg.MaxLen", "unicode/utf8.first", "unicode/utf8.acceptRanges"], apart := false, laid := [("unicode/utf8.acceptRanges", laid_unicode_utf8_acceptRanges), ("loop.example/g01240/impl.smallNames", laid_loop_example_g01240_impl_smallNames), ("loop.example/g01240/impl.tensNames", laid_loop_example_g01240_impl_tensNames), ("unicode/utf8.first", laid_unicode_utf8_first)] }
def FnExactMostLettersSaid : Prop := fnExactMostLettersRow.holds Tryd.pinned (OpenSpec.ofChange fnExactMostLettersSpec)

/-- ITS FALSE NEIGHBOUR: 'it returns false'. Refute it at one input. -/
def fnExactMostLettersWrong : ChangeSpec := { name := "fnExactMostLetters", vars := ["loop.example/g01240/impl.smallNames", "loop.example/g01240/impl.tensNames"], fn := fun _ => fun
  | [d, g1, g2] => { results := [.lit (.bool false)], args := [d], vars := [g1, g2] }
  | _ => none }
def FnExactMostLettersWrongFalsely : Prop := fnExactMostLettersRow.holds Tryd.pinned (OpenSpec.ofChange fnExactMostLettersWrong)

/-- 'laws.FnExactFirstInAlphabet': WHATEVER THE INPUT: true; the input reads as it did. -/
def fnExactFirstInAlphabetSpec : ChangeSpec := { name := "fnExactFirstInAlphabet", vars := ["loop.example/g01240/impl.smallNames", "loop.example/g01240/impl.tensNames"], fn := fun _ => fun
  | [d, g1, g2] => { results := [.lit (.bool true)], args := [d], vars := [g1, g2] }
  | _ => none }
def fnExactFirstInAlphabetRow : OpenClaim := { program := "ytjnegoninojglaadoor", sum := "6e914d83491a0382bb0d50b4ba56ca6395330d30a3eb6d0bd56164cec4c7fe7a", func := "loop.example/g01240/laws.FnExactFirstInAlphabet", spec := "fnExactFirstInAlphabet", inPlace := ["internal/abi.NoEscape", "internal/bytealg.MakeNoZero", "internal/bytealg.CountString", "internal/bytealg.IndexByteString", "internal/bytealg.IndexString"], unfollowed := true, recurses := true, named := ["loop.example/g01240/impl.smallNames", "loop.example/g01240/impl.tensNames", "internal/bytealg.MaxLen", "unicode/utf8.first", "unicode/utf8.acceptRanges"], apart := false, laid := [("unicode/utf8.acceptRanges", laid_unicode_utf8_acceptRanges), ("loop.example/g01240/impl.smallNames", laid_loop_example_g01240_impl_smallNames), ("loop.example/g01240/impl.tensNames", laid_loop_example_g01240_impl_tensNames), ("unicode/utf8.first", laid_unicode_utf8_first)] }
def FnExactFirstInAlphabetSaid : Prop := fnExactFirstInAlphabetRow.holds Tryd.pinned (OpenSpec.ofChange fnExactFirstInAlphabetSpec)

/-- ITS FALSE NEIGHBOUR: 'it returns false'. Refute it at one input. -/
def fnExactFirstInAlphabetWrong : ChangeSpec := { name := "fnExactFirstInAlphabet", vars := ["loop.example/g01240/impl.smallNames", "loop.example/g01240/impl.tensNames"], fn := fun _ => fun
  | [d, g1, g2] => { results := [.lit (.bool false)], args := [d], vars := [g1, g2] }
  | _ => none }
def FnExactFirstInAlphabetWrongFalsely : Prop := fnExactFirstInAlphabetRow.holds Tryd.pinned (OpenSpec.ofChange fnExactFirstInAlphabetWrong)

/-- 'laws.FnExactRankInAlphabet': WHATEVER THE INPUT: true; the input reads as it did. -/
def fnExactRankInAlphabetSpec : ChangeSpec := { name := "fnExactRankInAlphabet", vars := ["loop.example/g01240/impl.smallNames", "loop.example/g01240/impl.tensNames"], fn := fun _ => fun
  | [d1, d2, g1, g2] => { results := [.lit (.bool true)], args := [d1, d2], vars := [g1, g2] }
  | _ => none }
def fnExactRankInAlphabetRow : OpenClaim := { program := "ytjnegoninojglaadoor", sum := "6e914d83491a0382bb0d50b4ba56ca6395330d30a3eb6d0bd56164cec4c7fe7a", func := "loop.example/g01240/laws.FnExactRankInAlphabet", spec := "fnExactRankInAlphabet", inPlace := ["internal/abi.NoEscape", "internal/bytealg.MakeNoZero", "internal/bytealg.CountString", "internal/bytealg.IndexByteString", "internal/bytealg.IndexString"], unfollowed := true, recurses := true, named := ["loop.example/g01240/impl.smallNames", "loop.example/g01240/impl.tensNames", "internal/bytealg.MaxLen", "unicode/utf8.first", "unicode/utf8.acceptRanges"], apart := false, laid := [("unicode/utf8.acceptRanges", laid_unicode_utf8_acceptRanges), ("loop.example/g01240/impl.smallNames", laid_loop_example_g01240_impl_smallNames), ("loop.example/g01240/impl.tensNames", laid_loop_example_g01240_impl_tensNames), ("unicode/utf8.first", laid_unicode_utf8_first)] }
def FnExactRankInAlphabetSaid : Prop := fnExactRankInAlphabetRow.holds Tryd.pinned (OpenSpec.ofChange fnExactRankInAlphabetSpec)

/-- ITS FALSE NEIGHBOUR: 'it returns false'. Refute it at one input. -/
def fnExactRankInAlphabetWrong : ChangeSpec := { name := "fnExactRankInAlphabet", vars := ["loop.example/g01240/impl.smallNames", "loop.example/g01240/impl.tensNames"], fn := fun _ => fun
  | [d1, d2, g1, g2] => { results := [.lit (.bool false)], args := [d1, d2], vars := [g1, g2] }
  | _ => none }
def FnExactRankInAlphabetWrongFalsely : Prop := fnExactRankInAlphabetRow.holds Tryd.pinned (OpenSpec.ofChange fnExactRankInAlphabetWrong)

/- THE SECOND FORM. 'bulk': how many values and letters a reading holds, each counted each time it is reached (what is shared counts as often as it is met; a slice's spare places count too). A statement '..UptoSaid' is the law's where the arguments, and the package variables that the reading takes, are together of bulk at most 1048576: NARROWER than '..Said'. Prove '..Said' where nothing that the law and all that it calls make is longer than what came in: it says more and counts as full. Else prove '..UptoSaid'. A law counts once. -/
mutual
def uptoBulk {H : Type} : DataW H → Nat
  | .lit (.string bytes) => bytes.length + 1
  | .lit _ => 1
  | .nil => 1
  | .ptr d => uptoBulk d + 1
  | .slice elems spare => uptoBulkAll elems + uptoBulkAll spare + 1
  | .agg parts => uptoBulkAll parts + 1
  | .iface _ d => uptoBulk d + 1
  | .map entries => uptoBulkEntries entries + 1
  | .held _ => 1
def uptoBulkAll {H : Type} : List (DataW H) → Nat
  | [] => 0
  | d :: r => uptoBulk d + uptoBulkAll r
def uptoBulkEntries {H : Type} : List (Lit × DataW H) → Nat
  | [] => 0
  | x :: r => uptoBulkEntry x + uptoBulkEntries r
def uptoBulkEntry {H : Type} : Lit × DataW H → Nat
  | (.string bytes, d) => bytes.length + uptoBulk d + 1
  | (_, d) => uptoBulk d + 1
 end
def uptoSmall : (H : Type) → List (DataW H) → Bool := fun _ ds => decide (uptoBulkAll ds ≤ 1048576)
def OpenSpec.upto (s : _root_.Go.ChangeSpec) : _root_.Go.OpenSpec := { _root_.Go.OpenSpec.ofChange s with cond := some uptoSmall }

/-- 'laws.FnExactNameOf', WHERE WHAT IT READS IS OF BULK AT MOST 1048576: true; the input reads as it did. -/
def fnExactNameOfUptoRow : OpenClaim := { program := "ytjnegoninojglaadoor", sum := "6e914d83491a0382bb0d50b4ba56ca6395330d30a3eb6d0bd56164cec4c7fe7a", func := "loop.example/g01240/laws.FnExactNameOf", spec := "fnExactNameOf", inPlace := ["internal/abi.NoEscape", "internal/bytealg.MakeNoZero"], recurses := true, named := ["loop.example/g01240/impl.smallNames", "loop.example/g01240/impl.tensNames"], apart := false, laid := [("loop.example/g01240/impl.smallNames", laid_loop_example_g01240_impl_smallNames), ("loop.example/g01240/impl.tensNames", laid_loop_example_g01240_impl_tensNames)], narrowed := true }
def FnExactNameOfUptoSaid : Prop := fnExactNameOfUptoRow.holds Tryd.pinned (OpenSpec.upto fnExactNameOfSpec)

/-- 'laws.FnExactReadName', WHERE WHAT IT READS IS OF BULK AT MOST 1048576: true; the input reads as it did. -/
def fnExactReadNameUptoRow : OpenClaim := { program := "ytjnegoninojglaadoor", sum := "6e914d83491a0382bb0d50b4ba56ca6395330d30a3eb6d0bd56164cec4c7fe7a", func := "loop.example/g01240/laws.FnExactReadName", spec := "fnExactReadName", inPlace := ["internal/abi.NoEscape", "internal/bytealg.MakeNoZero"], unfollowed := true, recurses := true, named := ["unicode/utf8.first", "unicode/utf8.acceptRanges", "loop.example/g01240/impl.smallNames", "loop.example/g01240/impl.tensNames"], apart := false, laid := [("unicode/utf8.acceptRanges", laid_unicode_utf8_acceptRanges), ("loop.example/g01240/impl.smallNames", laid_loop_example_g01240_impl_smallNames), ("loop.example/g01240/impl.tensNames", laid_loop_example_g01240_impl_tensNames), ("unicode/utf8.first", laid_unicode_utf8_first)], narrowed := true }
def FnExactReadNameUptoSaid : Prop := fnExactReadNameUptoRow.holds Tryd.pinned (OpenSpec.upto fnExactReadNameSpec)

/-- 'laws.FnExactWordsOfName', WHERE WHAT IT READS IS OF BULK AT MOST 1048576: true; the input reads as it did. -/
def fnExactWordsOfNameUptoRow : OpenClaim := { program := "ytjnegoninojglaadoor", sum := "6e914d83491a0382bb0d50b4ba56ca6395330d30a3eb6d0bd56164cec4c7fe7a", func := "loop.example/g01240/laws.FnExactWordsOfName", spec := "fnExactWordsOfName", recurses := true, named := ["loop.example/g01240/impl.smallNames", "loop.example/g01240/impl.tensNames"], apart := false, laid := [("loop.example/g01240/impl.smallNames", laid_loop_example_g01240_impl_smallNames), ("loop.example/g01240/impl.tensNames", laid_loop_example_g01240_impl_tensNames)], narrowed := true }
def FnExactWordsOfNameUptoSaid : Prop := fnExactWordsOfNameUptoRow.holds Tryd.pinned (OpenSpec.upto fnExactWordsOfNameSpec)

/-- 'laws.FnExactLettersOf', WHERE WHAT IT READS IS OF BULK AT MOST 1048576: true; the input reads as it did. -/
def fnExactLettersOfUptoRow : OpenClaim := { program := "ytjnegoninojglaadoor", sum := "6e914d83491a0382bb0d50b4ba56ca6395330d30a3eb6d0bd56164cec4c7fe7a", func := "loop.example/g01240/laws.FnExactLettersOf", spec := "fnExactLettersOf", inPlace := ["internal/abi.NoEscape", "internal/bytealg.MakeNoZero", "internal/bytealg.CountString", "internal/bytealg.IndexByteString", "internal/bytealg.IndexString"], unfollowed := true, recurses := true, named := ["loop.example/g01240/impl.smallNames", "loop.example/g01240/impl.tensNames", "internal/bytealg.MaxLen", "unicode/utf8.first", "unicode/utf8.acceptRanges"], apart := false, laid := [("unicode/utf8.acceptRanges", laid_unicode_utf8_acceptRanges), ("loop.example/g01240/impl.smallNames", laid_loop_example_g01240_impl_smallNames), ("loop.example/g01240/impl.tensNames", laid_loop_example_g01240_impl_tensNames), ("unicode/utf8.first", laid_unicode_utf8_first)], narrowed := true }
def FnExactLettersOfUptoSaid : Prop := fnExactLettersOfUptoRow.holds Tryd.pinned (OpenSpec.upto fnExactLettersOfSpec)

/-- 'laws.FnExactCountLetter', WHERE WHAT IT READS IS OF BULK AT MOST 1048576: true; the input reads as it did. -/
def fnExactCountLetterUptoRow : OpenClaim := { program := "ytjnegoninojglaadoor", sum := "6e914d83491a0382bb0d50b4ba56ca6395330d30a3eb6d0bd56164cec4c7fe7a", func := "loop.example/g01240/laws.FnExactCountLetter", spec := "fnExactCountLetter", inPlace := ["internal/abi.NoEscape", "internal/bytealg.MakeNoZero", "internal/bytealg.CountString", "internal/bytealg.IndexByteString", "internal/bytealg.IndexString"], recurses := true, named := ["loop.example/g01240/impl.smallNames", "loop.example/g01240/impl.tensNames", "internal/bytealg.MaxLen", "unicode/utf8.first", "unicode/utf8.acceptRanges"], apart := false, laid := [("unicode/utf8.acceptRanges", laid_unicode_utf8_acceptRanges), ("loop.example/g01240/impl.smallNames", laid_loop_example_g01240_impl_smallNames), ("loop.example/g01240/impl.tensNames", laid_loop_example_g01240_impl_tensNames), ("unicode/utf8.first", laid_unicode_utf8_first)], narrowed := true }
def FnExactCountLetterUptoSaid : Prop := fnExactCountLetterUptoRow.holds Tryd.pinned (OpenSpec.upto fnExactCountLetterSpec)

/-- 'laws.FnExactDifferentLetters', WHERE WHAT IT READS IS OF BULK AT MOST 1048576: true; the input reads as it did. -/
def fnExactDifferentLettersUptoRow : OpenClaim := { program := "ytjnegoninojglaadoor", sum := "6e914d83491a0382bb0d50b4ba56ca6395330d30a3eb6d0bd56164cec4c7fe7a", func := "loop.example/g01240/laws.FnExactDifferentLetters", spec := "fnExactDifferentLetters", inPlace := ["internal/abi.NoEscape", "internal/bytealg.MakeNoZero", "internal/bytealg.CountString", "internal/bytealg.IndexByteString", "internal/bytealg.IndexString"], unfollowed := true, recurses := true, named := ["loop.example/g01240/impl.smallNames", "loop.example/g01240/impl.tensNames", "internal/bytealg.MaxLen", "unicode/utf8.first", "unicode/utf8.acceptRanges"], apart := false, laid := [("unicode/utf8.acceptRanges", laid_unicode_utf8_acceptRanges), ("loop.example/g01240/impl.smallNames", laid_loop_example_g01240_impl_smallNames), ("loop.example/g01240/impl.tensNames", laid_loop_example_g01240_impl_tensNames), ("unicode/utf8.first", laid_unicode_utf8_first)], narrowed := true }
def FnExactDifferentLettersUptoSaid : Prop := fnExactDifferentLettersUptoRow.holds Tryd.pinned (OpenSpec.upto fnExactDifferentLettersSpec)

/-- 'laws.FnExactIsHonest', WHERE WHAT IT READS IS OF BULK AT MOST 1048576: true; the input reads as it did. -/
def fnExactIsHonestUptoRow : OpenClaim := { program := "ytjnegoninojglaadoor", sum := "6e914d83491a0382bb0d50b4ba56ca6395330d30a3eb6d0bd56164cec4c7fe7a", func := "loop.example/g01240/laws.FnExactIsHonest", spec := "fnExactIsHonest", inPlace := ["internal/abi.NoEscape", "internal/bytealg.MakeNoZero", "internal/bytealg.CountString", "internal/bytealg.IndexByteString", "internal/bytealg.IndexString"], unfollowed := true, recurses := true, named := ["loop.example/g01240/impl.smallNames", "loop.example/g01240/impl.tensNames", "internal/bytealg.MaxLen", "unicode/utf8.first", "unicode/utf8.acceptRanges"], apart := false, laid := [("unicode/utf8.acceptRanges", laid_unicode_utf8_acceptRanges), ("loop.example/g01240/impl.smallNames", laid_loop_example_g01240_impl_smallNames), ("loop.example/g01240/impl.tensNames", laid_loop_example_g01240_impl_tensNames), ("unicode/utf8.first", laid_unicode_utf8_first)], narrowed := true }
def FnExactIsHonestUptoSaid : Prop := fnExactIsHonestUptoRow.holds Tryd.pinned (OpenSpec.upto fnExactIsHonestSpec)

/-- 'laws.FnExactChainOf', WHERE WHAT IT READS IS OF BULK AT MOST 1048576: true; the input reads as it did. -/
def fnExactChainOfUptoRow : OpenClaim := { program := "ytjnegoninojglaadoor", sum := "6e914d83491a0382bb0d50b4ba56ca6395330d30a3eb6d0bd56164cec4c7fe7a", func := "loop.example/g01240/laws.FnExactChainOf", spec := "fnExactChainOf", inPlace := ["internal/abi.NoEscape", "internal/bytealg.MakeNoZero", "internal/bytealg.CountString", "internal/bytealg.IndexByteString", "internal/bytealg.IndexString"], unfollowed := true, recurses := true, named := ["loop.example/g01240/impl.smallNames", "loop.example/g01240/impl.tensNames", "internal/bytealg.MaxLen", "unicode/utf8.first", "unicode/utf8.acceptRanges"], apart := false, laid := [("unicode/utf8.acceptRanges", laid_unicode_utf8_acceptRanges), ("loop.example/g01240/impl.smallNames", laid_loop_example_g01240_impl_smallNames), ("loop.example/g01240/impl.tensNames", laid_loop_example_g01240_impl_tensNames), ("unicode/utf8.first", laid_unicode_utf8_first)], narrowed := true }
def FnExactChainOfUptoSaid : Prop := fnExactChainOfUptoRow.holds Tryd.pinned (OpenSpec.upto fnExactChainOfSpec)

/-- 'laws.FnExactStepsToFour', WHERE WHAT IT READS IS OF BULK AT MOST 1048576: true; the input reads as it did. -/
def fnExactStepsToFourUptoRow : OpenClaim := { program := "ytjnegoninojglaadoor", sum := "6e914d83491a0382bb0d50b4ba56ca6395330d30a3eb6d0bd56164cec4c7fe7a", func := "loop.example/g01240/laws.FnExactStepsToFour", spec := "fnExactStepsToFour", inPlace := ["internal/abi.NoEscape", "internal/bytealg.MakeNoZero", "internal/bytealg.CountString", "internal/bytealg.IndexByteString", "internal/bytealg.IndexString"], unfollowed := true, recurses := true, named := ["loop.example/g01240/impl.smallNames", "loop.example/g01240/impl.tensNames", "internal/bytealg.MaxLen", "unicode/utf8.first", "unicode/utf8.acceptRanges"], apart := false, laid := [("unicode/utf8.acceptRanges", laid_unicode_utf8_acceptRanges), ("loop.example/g01240/impl.smallNames", laid_loop_example_g01240_impl_smallNames), ("loop.example/g01240/impl.tensNames", laid_loop_example_g01240_impl_tensNames), ("unicode/utf8.first", laid_unicode_utf8_first)], narrowed := true }
def FnExactStepsToFourUptoSaid : Prop := fnExactStepsToFourUptoRow.holds Tryd.pinned (OpenSpec.upto fnExactStepsToFourSpec)

/-- 'laws.FnExactCompareNames', WHERE WHAT IT READS IS OF BULK AT MOST 1048576: true; the input reads as it did. -/
def fnExactCompareNamesUptoRow : OpenClaim := { program := "ytjnegoninojglaadoor", sum := "6e914d83491a0382bb0d50b4ba56ca6395330d30a3eb6d0bd56164cec4c7fe7a", func := "loop.example/g01240/laws.FnExactCompareNames", spec := "fnExactCompareNames", inPlace := ["internal/abi.NoEscape", "internal/bytealg.MakeNoZero", "internal/bytealg.CountString", "internal/bytealg.IndexByteString", "internal/bytealg.IndexString"], recurses := true, named := ["loop.example/g01240/impl.smallNames", "loop.example/g01240/impl.tensNames", "internal/bytealg.MaxLen", "unicode/utf8.first", "unicode/utf8.acceptRanges"], apart := false, laid := [("unicode/utf8.acceptRanges", laid_unicode_utf8_acceptRanges), ("loop.example/g01240/impl.smallNames", laid_loop_example_g01240_impl_smallNames), ("loop.example/g01240/impl.tensNames", laid_loop_example_g01240_impl_tensNames), ("unicode/utf8.first", laid_unicode_utf8_first)], narrowed := true }
def FnExactCompareNamesUptoSaid : Prop := fnExactCompareNamesUptoRow.holds Tryd.pinned (OpenSpec.upto fnExactCompareNamesSpec)

/-- 'laws.FnExactSumOfLetters', WHERE WHAT IT READS IS OF BULK AT MOST 1048576: true; the input reads as it did. -/
def fnExactSumOfLettersUptoRow : OpenClaim := { program := "ytjnegoninojglaadoor", sum := "6e914d83491a0382bb0d50b4ba56ca6395330d30a3eb6d0bd56164cec4c7fe7a", func := "loop.example/g01240/laws.FnExactSumOfLetters", spec := "fnExactSumOfLetters", inPlace := ["internal/abi.NoEscape", "internal/bytealg.MakeNoZero", "internal/bytealg.CountString", "internal/bytealg.IndexByteString", "internal/bytealg.IndexString"], recurses := true, named := ["loop.example/g01240/impl.smallNames", "loop.example/g01240/impl.tensNames", "internal/bytealg.MaxLen", "unicode/utf8.first", "unicode/utf8.acceptRanges"], apart := false, laid := [("unicode/utf8.acceptRanges", laid_unicode_utf8_acceptRanges), ("loop.example/g01240/impl.smallNames", laid_loop_example_g01240_impl_smallNames), ("loop.example/g01240/impl.tensNames", laid_loop_example_g01240_impl_tensNames), ("unicode/utf8.first", laid_unicode_utf8_first)], narrowed := true }
def FnExactSumOfLettersUptoSaid : Prop := fnExactSumOfLettersUptoRow.holds Tryd.pinned (OpenSpec.upto fnExactSumOfLettersSpec)

/-- 'laws.FnExactFirstWithLetter', WHERE WHAT IT READS IS OF BULK AT MOST 1048576: true; the input reads as it did. -/
def fnExactFirstWithLetterUptoRow : OpenClaim := { program := "ytjnegoninojglaadoor", sum := "6e914d83491a0382bb0d50b4ba56ca6395330d30a3eb6d0bd56164cec4c7fe7a", func := "loop.example/g01240/laws.FnExactFirstWithLetter", spec := "fnExactFirstWithLetter", inPlace := ["internal/abi.NoEscape", "internal/bytealg.MakeNoZero", "internal/bytealg.CountString", "internal/bytealg.IndexByteString", "internal/bytealg.IndexString"], recurses := true, named := ["loop.example/g01240/impl.smallNames", "loop.example/g01240/impl.tensNames", "internal/bytealg.MaxLen", "unicode/utf8.first", "unicode/utf8.acceptRanges"], apart := false, laid := [("unicode/utf8.acceptRanges", laid_unicode_utf8_acceptRanges), ("loop.example/g01240/impl.smallNames", laid_loop_example_g01240_impl_smallNames), ("loop.example/g01240/impl.tensNames", laid_loop_example_g01240_impl_tensNames), ("unicode/utf8.first", laid_unicode_utf8_first)], narrowed := true }
def FnExactFirstWithLetterUptoSaid : Prop := fnExactFirstWithLetterUptoRow.holds Tryd.pinned (OpenSpec.upto fnExactFirstWithLetterSpec)

/-- 'laws.FnExactWithLetters', WHERE WHAT IT READS IS OF BULK AT MOST 1048576: true; the input reads as it did. -/
def fnExactWithLettersUptoRow : OpenClaim := { program := "ytjnegoninojglaadoor", sum := "6e914d83491a0382bb0d50b4ba56ca6395330d30a3eb6d0bd56164cec4c7fe7a", func := "loop.example/g01240/laws.FnExactWithLetters", spec := "fnExactWithLetters", inPlace := ["internal/abi.NoEscape", "internal/bytealg.MakeNoZero", "internal/bytealg.CountString", "internal/bytealg.IndexByteString", "internal/bytealg.IndexString"], recurses := true, named := ["loop.example/g01240/impl.smallNames", "loop.example/g01240/impl.tensNames", "internal/bytealg.MaxLen", "unicode/utf8.first", "unicode/utf8.acceptRanges"], apart := false, laid := [("unicode/utf8.acceptRanges", laid_unicode_utf8_acceptRanges), ("loop.example/g01240/impl.smallNames", laid_loop_example_g01240_impl_smallNames), ("loop.example/g01240/impl.tensNames", laid_loop_example_g01240_impl_tensNames), ("unicode/utf8.first", laid_unicode_utf8_first)], narrowed := true }
def FnExactWithLettersUptoSaid : Prop := fnExactWithLettersUptoRow.holds Tryd.pinned (OpenSpec.upto fnExactWithLettersSpec)

/-- 'laws.FnExactMostLetters', WHERE WHAT IT READS IS OF BULK AT MOST 1048576: true; the input reads as it did. -/
def fnExactMostLettersUptoRow : OpenClaim := { program := "ytjnegoninojglaadoor", sum := "6e914d83491a0382bb0d50b4ba56ca6395330d30a3eb6d0bd56164cec4c7fe7a", func := "loop.example/g01240/laws.FnExactMostLetters", spec := "fnExactMostLetters", inPlace := ["internal/abi.NoEscape", "internal/bytealg.MakeNoZero", "internal/bytealg.CountString", "internal/bytealg.IndexByteString", "internal/bytealg.IndexString"], unfollowed := true, recurses := true, named := ["loop.example/g01240/impl.smallNames", "loop.example/g01240/impl.tensNames", "internal/bytealg.MaxLen", "unicode/utf8.first", "unicode/utf8.acceptRanges"], apart := false, laid := [("unicode/utf8.acceptRanges", laid_unicode_utf8_acceptRanges), ("loop.example/g01240/impl.smallNames", laid_loop_example_g01240_impl_smallNames), ("loop.example/g01240/impl.tensNames", laid_loop_example_g01240_impl_tensNames), ("unicode/utf8.first", laid_unicode_utf8_first)], narrowed := true }
def FnExactMostLettersUptoSaid : Prop := fnExactMostLettersUptoRow.holds Tryd.pinned (OpenSpec.upto fnExactMostLettersSpec)

/-- 'laws.FnExactFirstInAlphabet', WHERE WHAT IT READS IS OF BULK AT MOST 1048576: true; the input reads as it did. -/
def fnExactFirstInAlphabetUptoRow : OpenClaim := { program := "ytjnegoninojglaadoor", sum := "6e914d83491a0382bb0d50b4ba56ca6395330d30a3eb6d0bd56164cec4c7fe7a", func := "loop.example/g01240/laws.FnExactFirstInAlphabet", spec := "fnExactFirstInAlphabet", inPlace := ["internal/abi.NoEscape", "internal/bytealg.MakeNoZero", "internal/bytealg.CountString", "internal/bytealg.IndexByteString", "internal/bytealg.IndexString"], unfollowed := true, recurses := true, named := ["loop.example/g01240/impl.smallNames", "loop.example/g01240/impl.tensNames", "internal/bytealg.MaxLen", "unicode/utf8.first", "unicode/utf8.acceptRanges"], apart := false, laid := [("unicode/utf8.acceptRanges", laid_unicode_utf8_acceptRanges), ("loop.example/g01240/impl.smallNames", laid_loop_example_g01240_impl_smallNames), ("loop.example/g01240/impl.tensNames", laid_loop_example_g01240_impl_tensNames), ("unicode/utf8.first", laid_unicode_utf8_first)], narrowed := true }
def FnExactFirstInAlphabetUptoSaid : Prop := fnExactFirstInAlphabetUptoRow.holds Tryd.pinned (OpenSpec.upto fnExactFirstInAlphabetSpec)

/-- 'laws.FnExactRankInAlphabet', WHERE WHAT IT READS IS OF BULK AT MOST 1048576: true; the input reads as it did. -/
def fnExactRankInAlphabetUptoRow : OpenClaim := { program := "ytjnegoninojglaadoor", sum := "6e914d83491a0382bb0d50b4ba56ca6395330d30a3eb6d0bd56164cec4c7fe7a", func := "loop.example/g01240/laws.FnExactRankInAlphabet", spec := "fnExactRankInAlphabet", inPlace := ["internal/abi.NoEscape", "internal/bytealg.MakeNoZero", "internal/bytealg.CountString", "internal/bytealg.IndexByteString", "internal/bytealg.IndexString"], unfollowed := true, recurses := true, named := ["loop.example/g01240/impl.smallNames", "loop.example/g01240/impl.tensNames", "internal/bytealg.MaxLen", "unicode/utf8.first", "unicode/utf8.acceptRanges"], apart := false, laid := [("unicode/utf8.acceptRanges", laid_unicode_utf8_acceptRanges), ("loop.example/g01240/impl.smallNames", laid_loop_example_g01240_impl_smallNames), ("loop.example/g01240/impl.tensNames", laid_loop_example_g01240_impl_tensNames), ("unicode/utf8.first", laid_unicode_utf8_first)], narrowed := true }
def FnExactRankInAlphabetUptoSaid : Prop := fnExactRankInAlphabetUptoRow.holds Tryd.pinned (OpenSpec.upto fnExactRankInAlphabetSpec)

end Rows
end Go.Proofs.YtjnegoninojglaaDoor
