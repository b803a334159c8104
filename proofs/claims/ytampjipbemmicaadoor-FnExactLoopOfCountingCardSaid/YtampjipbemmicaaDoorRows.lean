/-
  NARROWER THAN 'FOR EVERY INPUT', by the rows' own cells (each row's printed sentence says how): FnExactIsLanguage: laid · FnExactSentenceOf: laid · FnExactCountLetters: laid · FnExactIsTrueSentence: laid · FnExactLiesOf: laid · FnExactCountAgain: laid · FnExactWayOfCounting: laid · FnExactLoopOfCounting: laid · FnExactLengthOfSentence: laid · FnExactLanguageText: laid · FnExactParseLanguage: laid.
  DERIVED. THE GIVEN ROWS OF THIS SEAT. 11 by the template 'for every input the law returns true; each argument reads behind the call as it read before'; 0 by the template 'total and deterministic' (their statements: YtampjipbemmicaaDoorTotals.lean).
  GIVEN WITH THE SEED: the statements are not yours to turn. If you find one false, say at which input.
  Laid BY PROGRAM, IN A SANDBOX (cutbox-rows.mjs): the forced cells as the released guide's own fill.sh prints them over the translation 6c93b2bb3b568cf4… (all of the seat's roots in one cut). By AI agents, Wed Nov 11 2026. No macro, syntax, notation, axiom, sorry.
-/
import Derived.Test.YtampjipbemmicaaDoorChecked
import GoSem.PinnedTables
import GoSem.Claim
import GoSem.ClaimJoined
import GoSem.ClaimMapViews
import Derived.JoinedTies
import Derived.KernelRfl
namespace Go.Proofs.YtampjipbemmicaaDoor
/- THE CELL 'sum', in the pinned program and in every row, IS THE sha256 OF THE DUMP (.gsa) THAT YtampjipbemmicaaDoorProg.lean LOADS. Nothing in Lean hashes anything: it is a label: what it is worth is what the hold of that sum in a sandbox is worth. -/
noncomputable def Tryd.pinned : Pinned := { name := "ytampjipbemmicaadoor", sum := "6c93b2bb3b568cf4d5697491b5a5b124daf3fe43690988f60dc24e1ae297b5e6", checked := Tryd.checked }
namespace Rows
def none {H : Type} : Left H := { results := [], args := [] }

/- WHAT THE LISTED PACKAGE-LEVEL VARIABLES READ AS WHEN THE CALL BEGINS. Each datum BY PROGRAM (the guide's laid-datum.mjs) off the statement by which the dump's own 'gosem.cut.vars' lays the variable. In a bare row this is a premise. The card (YtampjipbemmicaaDoorCards.lean) ties it to the program's text. -/
def laid_unicode_utf8_acceptRanges {H : Type} : DataW H := .agg [.agg [.lit (.int .u8 128), .lit (.int .u8 191)], .agg [.lit (.int .u8 160), .lit (.int .u8 191)], .agg [.lit (.int .u8 128), .lit (.int .u8 159)], .agg [.lit (.int .u8 144), .lit (.int .u8 191)], .agg [.lit (.int .u8 128), .lit (.int .u8 143)], .agg [.lit (.int .u8 0), .lit (.int .u8 0)], .agg [.lit (.int .u8 0), .lit (.int .u8 0)], .agg [.lit (.int .u8 0), .lit (.int .u8 0)], .agg [.lit (.int .u8 0), .lit (.int .u8 0)], .agg [.lit (.int .u8 0), .lit (.int .u8 0)], .agg [.lit (.int .u8 0), .lit (.int .u8 0)], .agg [.lit (.int .u8 0), .lit (.int .u8 0)], .agg [.lit (.int .u8 0), .lit (.int .u8 0)], .agg [.lit (.int .u8 0), .lit (.int .u8 0)], .agg [.lit (.int .u8 0), .lit (.int .u8 0)], .agg [.lit (.int .u8 0), .lit (.int .u8 0)]]
/-- One of Go's own tables, pinned by name: the form's constant. -/
def laid_unicode_utf8_first : DataW Unit := Go.Pinned.utf8First

/-- 'laws.FnExactIsLanguage': WHATEVER THE INPUT: true; the input reads as it did. -/
def fnExactIsLanguageSpec : ChangeSpec := { name := "fnExactIsLanguage", fn := fun _ => fun
  | [d] => { results := [.lit (.bool true)], args := [d] }
  | _ => none }
def fnExactIsLanguageRow : OpenClaim := { program := "ytampjipbemmicaadoor", sum := "6c93b2bb3b568cf4d5697491b5a5b124daf3fe43690988f60dc24e1ae297b5e6", func := "loop.example/g01240/laws.FnExactIsLanguage", spec := "fnExactIsLanguage", inPlace := ["internal/bytealg.IndexByteString", "internal/bytealg.IndexString"], named := ["unicode/utf8.first", "unicode/utf8.acceptRanges", "internal/bytealg.MaxLen"], apart := false, laid := [("unicode/utf8.acceptRanges", laid_unicode_utf8_acceptRanges), ("unicode/utf8.first", laid_unicode_utf8_first)] }
def FnExactIsLanguageSaid : Prop := fnExactIsLanguageRow.holds Tryd.pinned (OpenSpec.ofChange fnExactIsLanguageSpec)

/-- ITS FALSE NEIGHBOUR: 'it returns false'. Refute it at one input. -/
def fnExactIsLanguageWrong : ChangeSpec := { name := "fnExactIsLanguage", fn := fun _ => fun
  | [d] => { results := [.lit (.bool false)], args := [d] }
  | _ => none }
def FnExactIsLanguageWrongFalsely : Prop := fnExactIsLanguageRow.holds Tryd.pinned (OpenSpec.ofChange fnExactIsLanguageWrong)

/-- 'laws.FnExactSentenceOf': WHATEVER THE INPUT: true; the input reads as it did. -/
def fnExactSentenceOfSpec : ChangeSpec := { name := "fnExactSentenceOf", fn := fun _ => fun
  | [d1, d2] => { results := [.lit (.bool true)], args := [d1, d2] }
  | _ => none }
def fnExactSentenceOfRow : OpenClaim := { program := "ytampjipbemmicaadoor", sum := "6c93b2bb3b568cf4d5697491b5a5b124daf3fe43690988f60dc24e1ae297b5e6", func := "loop.example/g01240/laws.FnExactSentenceOf", spec := "fnExactSentenceOf", inPlace := ["internal/bytealg.IndexByteString", "internal/bytealg.IndexString"], named := ["unicode/utf8.first", "unicode/utf8.acceptRanges", "internal/bytealg.MaxLen"], apart := false, laid := [("unicode/utf8.acceptRanges", laid_unicode_utf8_acceptRanges), ("unicode/utf8.first", laid_unicode_utf8_first)] }
def FnExactSentenceOfSaid : Prop := fnExactSentenceOfRow.holds Tryd.pinned (OpenSpec.ofChange fnExactSentenceOfSpec)

/-- ITS FALSE NEIGHBOUR: 'it returns false'. Refute it at one input. -/
def fnExactSentenceOfWrong : ChangeSpec := { name := "fnExactSentenceOf", fn := fun _ => fun
  | [d1, d2] => { results := [.lit (.bool false)], args := [d1, d2] }
  | _ => none }
def FnExactSentenceOfWrongFalsely : Prop := fnExactSentenceOfRow.holds Tryd.pinned (OpenSpec.ofChange fnExactSentenceOfWrong)

/-- 'laws.FnExactCountLetters': WHATEVER THE INPUT: true; the input reads as it did. -/
def fnExactCountLettersSpec : ChangeSpec := { name := "fnExactCountLetters", fn := fun _ => fun
  | [d1, d2] => { results := [.lit (.bool true)], args := [d1, d2] }
  | _ => none }
def fnExactCountLettersRow : OpenClaim := { program := "ytampjipbemmicaadoor", sum := "6c93b2bb3b568cf4d5697491b5a5b124daf3fe43690988f60dc24e1ae297b5e6", func := "loop.example/g01240/laws.FnExactCountLetters", spec := "fnExactCountLetters", inPlace := ["internal/bytealg.IndexByteString", "internal/bytealg.IndexString", "internal/bytealg.CountString"], named := ["unicode/utf8.first", "unicode/utf8.acceptRanges", "internal/bytealg.MaxLen"], apart := false, laid := [("unicode/utf8.acceptRanges", laid_unicode_utf8_acceptRanges), ("unicode/utf8.first", laid_unicode_utf8_first)] }
def FnExactCountLettersSaid : Prop := fnExactCountLettersRow.holds Tryd.pinned (OpenSpec.ofChange fnExactCountLettersSpec)

/-- ITS FALSE NEIGHBOUR: 'it returns false'. Refute it at one input. -/
def fnExactCountLettersWrong : ChangeSpec := { name := "fnExactCountLetters", fn := fun _ => fun
  | [d1, d2] => { results := [.lit (.bool false)], args := [d1, d2] }
  | _ => none }
def FnExactCountLettersWrongFalsely : Prop := fnExactCountLettersRow.holds Tryd.pinned (OpenSpec.ofChange fnExactCountLettersWrong)

/-- 'laws.FnExactIsTrueSentence': WHATEVER THE INPUT: true; the input reads as it did. -/
def fnExactIsTrueSentenceSpec : ChangeSpec := { name := "fnExactIsTrueSentence", fn := fun _ => fun
  | [d1, d2] => { results := [.lit (.bool true)], args := [d1, d2] }
  | _ => none }
def fnExactIsTrueSentenceRow : OpenClaim := { program := "ytampjipbemmicaadoor", sum := "6c93b2bb3b568cf4d5697491b5a5b124daf3fe43690988f60dc24e1ae297b5e6", func := "loop.example/g01240/laws.FnExactIsTrueSentence", spec := "fnExactIsTrueSentence", inPlace := ["internal/bytealg.IndexByteString", "internal/bytealg.IndexString", "internal/bytealg.CountString"], named := ["unicode/utf8.first", "unicode/utf8.acceptRanges", "internal/bytealg.MaxLen"], apart := false, laid := [("unicode/utf8.acceptRanges", laid_unicode_utf8_acceptRanges), ("unicode/utf8.first", laid_unicode_utf8_first)] }
def FnExactIsTrueSentenceSaid : Prop := fnExactIsTrueSentenceRow.holds Tryd.pinned (OpenSpec.ofChange fnExactIsTrueSentenceSpec)

/-- ITS FALSE NEIGHBOUR: 'it returns false'. Refute it at one input. -/
def fnExactIsTrueSentenceWrong : ChangeSpec := { name := "fnExactIsTrueSentence", fn := fun _ => fun
  | [d1, d2] => { results := [.lit (.bool false)], args := [d1, d2] }
  | _ => none }
def FnExactIsTrueSentenceWrongFalsely : Prop := fnExactIsTrueSentenceRow.holds Tryd.pinned (OpenSpec.ofChange fnExactIsTrueSentenceWrong)

/-- 'laws.FnExactLiesOf': WHATEVER THE INPUT: true; the input reads as it did. -/
def fnExactLiesOfSpec : ChangeSpec := { name := "fnExactLiesOf", fn := fun _ => fun
  | [d1, d2] => { results := [.lit (.bool true)], args := [d1, d2] }
  | _ => none }
def fnExactLiesOfRow : OpenClaim := { program := "ytampjipbemmicaadoor", sum := "6c93b2bb3b568cf4d5697491b5a5b124daf3fe43690988f60dc24e1ae297b5e6", func := "loop.example/g01240/laws.FnExactLiesOf", spec := "fnExactLiesOf", inPlace := ["internal/bytealg.IndexByteString", "internal/bytealg.IndexString", "internal/bytealg.CountString"], named := ["unicode/utf8.first", "unicode/utf8.acceptRanges", "internal/bytealg.MaxLen"], apart := false, laid := [("unicode/utf8.acceptRanges", laid_unicode_utf8_acceptRanges), ("unicode/utf8.first", laid_unicode_utf8_first)] }
def FnExactLiesOfSaid : Prop := fnExactLiesOfRow.holds Tryd.pinned (OpenSpec.ofChange fnExactLiesOfSpec)

/-- ITS FALSE NEIGHBOUR: 'it returns false'. Refute it at one input. -/
def fnExactLiesOfWrong : ChangeSpec := { name := "fnExactLiesOf", fn := fun _ => fun
  | [d1, d2] => { results := [.lit (.bool false)], args := [d1, d2] }
  | _ => none }
def FnExactLiesOfWrongFalsely : Prop := fnExactLiesOfRow.holds Tryd.pinned (OpenSpec.ofChange fnExactLiesOfWrong)

/-- 'laws.FnExactCountAgain': WHATEVER THE INPUT: true; the input reads as it did. -/
def fnExactCountAgainSpec : ChangeSpec := { name := "fnExactCountAgain", fn := fun _ => fun
  | [d1, d2] => { results := [.lit (.bool true)], args := [d1, d2] }
  | _ => none }
def fnExactCountAgainRow : OpenClaim := { program := "ytampjipbemmicaadoor", sum := "6c93b2bb3b568cf4d5697491b5a5b124daf3fe43690988f60dc24e1ae297b5e6", func := "loop.example/g01240/laws.FnExactCountAgain", spec := "fnExactCountAgain", inPlace := ["internal/bytealg.IndexByteString", "internal/bytealg.IndexString", "internal/bytealg.CountString"], named := ["unicode/utf8.first", "unicode/utf8.acceptRanges", "internal/bytealg.MaxLen"], apart := false, laid := [("unicode/utf8.acceptRanges", laid_unicode_utf8_acceptRanges), ("unicode/utf8.first", laid_unicode_utf8_first)] }
def FnExactCountAgainSaid : Prop := fnExactCountAgainRow.holds Tryd.pinned (OpenSpec.ofChange fnExactCountAgainSpec)

/-- ITS FALSE NEIGHBOUR: 'it returns false'. Refute it at one input. -/
def fnExactCountAgainWrong : ChangeSpec := { name := "fnExactCountAgain", fn := fun _ => fun
  | [d1, d2] => { results := [.lit (.bool false)], args := [d1, d2] }
  | _ => none }
def FnExactCountAgainWrongFalsely : Prop := fnExactCountAgainRow.holds Tryd.pinned (OpenSpec.ofChange fnExactCountAgainWrong)

/-- 'laws.FnExactWayOfCounting': WHATEVER THE INPUT: true; the input reads as it did. -/
def fnExactWayOfCountingSpec : ChangeSpec := { name := "fnExactWayOfCounting", fn := fun _ => fun
  | [d1, d2, d3] => { results := [.lit (.bool true)], args := [d1, d2, d3] }
  | _ => none }
def fnExactWayOfCountingRow : OpenClaim := { program := "ytampjipbemmicaadoor", sum := "6c93b2bb3b568cf4d5697491b5a5b124daf3fe43690988f60dc24e1ae297b5e6", func := "loop.example/g01240/laws.FnExactWayOfCounting", spec := "fnExactWayOfCounting", inPlace := ["internal/bytealg.IndexByteString", "internal/bytealg.IndexString", "internal/bytealg.CountString"], unfollowed := true, recurses := true, named := ["unicode/utf8.first", "unicode/utf8.acceptRanges", "internal/bytealg.MaxLen"], apart := false, laid := [("unicode/utf8.acceptRanges", laid_unicode_utf8_acceptRanges), ("unicode/utf8.first", laid_unicode_utf8_first)] }
def FnExactWayOfCountingSaid : Prop := fnExactWayOfCountingRow.holds Tryd.pinned (OpenSpec.ofChange fnExactWayOfCountingSpec)

/-- ITS FALSE NEIGHBOUR: 'it returns false'. Refute it at one input. -/
def fnExactWayOfCountingWrong : ChangeSpec := { name := "fnExactWayOfCounting", fn := fun _ => fun
  | [d1, d2, d3] => { results := [.lit (.bool false)], args := [d1, d2, d3] }
  | _ => none }
def FnExactWayOfCountingWrongFalsely : Prop := fnExactWayOfCountingRow.holds Tryd.pinned (OpenSpec.ofChange fnExactWayOfCountingWrong)

/-- 'laws.FnExactLoopOfCounting': WHATEVER THE INPUT: true; the input reads as it did. -/
def fnExactLoopOfCountingSpec : ChangeSpec := { name := "fnExactLoopOfCounting", fn := fun _ => fun
  | [d1, d2] => { results := [.lit (.bool true)], args := [d1, d2] }
  | _ => none }
def fnExactLoopOfCountingRow : OpenClaim := { program := "ytampjipbemmicaadoor", sum := "6c93b2bb3b568cf4d5697491b5a5b124daf3fe43690988f60dc24e1ae297b5e6", func := "loop.example/g01240/laws.FnExactLoopOfCounting", spec := "fnExactLoopOfCounting", inPlace := ["internal/bytealg.IndexByteString", "internal/bytealg.IndexString", "internal/bytealg.CountString"], unfollowed := true, recurses := true, named := ["unicode/utf8.first", "unicode/utf8.acceptRanges", "internal/bytealg.MaxLen"], apart := false, laid := [("unicode/utf8.acceptRanges", laid_unicode_utf8_acceptRanges), ("unicode/utf8.first", laid_unicode_utf8_first)] }
def FnExactLoopOfCountingSaid : Prop := fnExactLoopOfCountingRow.holds Tryd.pinned (OpenSpec.ofChange fnExactLoopOfCountingSpec)

/-- ITS FALSE NEIGHBOUR: 'it returns false'. Refute it at one input. -/
def fnExactLoopOfCountingWrong : ChangeSpec := { name := "fnExactLoopOfCounting", fn := fun _ => fun
  | [d1, d2] => { results := [.lit (.bool false)], args := [d1, d2] }
  | _ => none }
def FnExactLoopOfCountingWrongFalsely : Prop := fnExactLoopOfCountingRow.holds Tryd.pinned (OpenSpec.ofChange fnExactLoopOfCountingWrong)

/-- 'laws.FnExactLengthOfSentence': WHATEVER THE INPUT: true; the input reads as it did. -/
def fnExactLengthOfSentenceSpec : ChangeSpec := { name := "fnExactLengthOfSentence", fn := fun _ => fun
  | [d1, d2] => { results := [.lit (.bool true)], args := [d1, d2] }
  | _ => none }
def fnExactLengthOfSentenceRow : OpenClaim := { program := "ytampjipbemmicaadoor", sum := "6c93b2bb3b568cf4d5697491b5a5b124daf3fe43690988f60dc24e1ae297b5e6", func := "loop.example/g01240/laws.FnExactLengthOfSentence", spec := "fnExactLengthOfSentence", inPlace := ["internal/bytealg.IndexByteString", "internal/bytealg.IndexString"], named := ["unicode/utf8.first", "unicode/utf8.acceptRanges", "internal/bytealg.MaxLen"], apart := false, laid := [("unicode/utf8.acceptRanges", laid_unicode_utf8_acceptRanges), ("unicode/utf8.first", laid_unicode_utf8_first)] }
def FnExactLengthOfSentenceSaid : Prop := fnExactLengthOfSentenceRow.holds Tryd.pinned (OpenSpec.ofChange fnExactLengthOfSentenceSpec)

/-- ITS FALSE NEIGHBOUR: 'it returns false'. Refute it at one input. -/
def fnExactLengthOfSentenceWrong : ChangeSpec := { name := "fnExactLengthOfSentence", fn := fun _ => fun
  | [d1, d2] => { results := [.lit (.bool false)], args := [d1, d2] }
  | _ => none }
def FnExactLengthOfSentenceWrongFalsely : Prop := fnExactLengthOfSentenceRow.holds Tryd.pinned (OpenSpec.ofChange fnExactLengthOfSentenceWrong)

/-- 'laws.FnExactLanguageText': WHATEVER THE INPUT: true; the input reads as it did. -/
def fnExactLanguageTextSpec : ChangeSpec := { name := "fnExactLanguageText", fn := fun _ => fun
  | [d] => { results := [.lit (.bool true)], args := [d] }
  | _ => none }
def fnExactLanguageTextRow : OpenClaim := { program := "ytampjipbemmicaadoor", sum := "6c93b2bb3b568cf4d5697491b5a5b124daf3fe43690988f60dc24e1ae297b5e6", func := "loop.example/g01240/laws.FnExactLanguageText", spec := "fnExactLanguageText", inPlace := ["internal/bytealg.IndexByteString", "internal/bytealg.IndexString", "internal/abi.NoEscape", "internal/bytealg.MakeNoZero"], named := ["unicode/utf8.first", "unicode/utf8.acceptRanges", "internal/bytealg.MaxLen"], apart := false, laid := [("unicode/utf8.acceptRanges", laid_unicode_utf8_acceptRanges), ("unicode/utf8.first", laid_unicode_utf8_first)] }
def FnExactLanguageTextSaid : Prop := fnExactLanguageTextRow.holds Tryd.pinned (OpenSpec.ofChange fnExactLanguageTextSpec)

/-- ITS FALSE NEIGHBOUR: 'it returns false'. Refute it at one input. -/
def fnExactLanguageTextWrong : ChangeSpec := { name := "fnExactLanguageText", fn := fun _ => fun
  | [d] => { results := [.lit (.bool false)], args := [d] }
  | _ => none }
def FnExactLanguageTextWrongFalsely : Prop := fnExactLanguageTextRow.holds Tryd.pinned (OpenSpec.ofChange fnExactLanguageTextWrong)

/-- 'laws.FnExactParseLanguage': WHATEVER THE INPUT: true; the input reads as it did. -/
def fnExactParseLanguageSpec : ChangeSpec := { name := "fnExactParseLanguage", fn := fun _ => fun
  | [d] => { results := [.lit (.bool true)], args := [d] }
  | _ => none }
def fnExactParseLanguageRow : OpenClaim := { program := "ytampjipbemmicaadoor", sum := "6c93b2bb3b568cf4d5697491b5a5b124daf3fe43690988f60dc24e1ae297b5e6", func := "loop.example/g01240/laws.FnExactParseLanguage", spec := "fnExactParseLanguage", inPlace := ["internal/bytealg.IndexByteString", "internal/bytealg.IndexString", "internal/bytealg.CountString"], named := ["internal/bytealg.MaxLen", "unicode/utf8.first", "unicode/utf8.acceptRanges"], apart := false, laid := [("unicode/utf8.acceptRanges", laid_unicode_utf8_acceptRanges), ("unicode/utf8.first", laid_unicode_utf8_first)] }
def FnExactParseLanguageSaid : Prop := fnExactParseLanguageRow.holds Tryd.pinned (OpenSpec.ofChange fnExactParseLanguageSpec)

/-- ITS FALSE NEIGHBOUR: 'it returns false'. Refute it at one input. -/
def fnExactParseLanguageWrong : ChangeSpec := { name := "fnExactParseLanguage", fn := fun _ => fun
  | [d] => { results := [.lit (.bool false)], args := [d] }
  | _ => none }
def FnExactParseLanguageWrongFalsely : Prop := fnExactParseLanguageRow.holds Tryd.pinned (OpenSpec.ofChange fnExactParseLanguageWrong)

/- THE SECOND FORM. 'bulk': how many values and letters a reading holds, each counted each time it is reached (what is shared counts as often as it is met; a slice's spare places count too). A statement '..UptoSaid' is the law's where the arguments, and the package variables that the reading takes, are together of bulk at most 1048576: NARROWER than '..Said'. Prove '..Said' where nothing that the law and all that it calls make is longer than what came in: it says more and counts as full. Else prove '..UptoSaid'. A law counts once. -/
mutual
def uptoBulk {H : Type} : DataW H → Nat
  | .lit (.string bytes) => bytes.length + 1
  | .lit _ => 1
  | .nil => 1
  | .ptr d => uptoBulk d + 1
  | .slice elems spare => uptoBulkAll elems + uptoBulkAll spare + 1
  | .agg parts => uptoBulkAll parts + 1
  | .iface _ d => uptoBulk d + 1
  | .map entries => uptoBulkEntries entries + 1
  | .held _ => 1
def uptoBulkAll {H : Type} : List (DataW H) → Nat
  | [] => 0
  | d :: r => uptoBulk d + uptoBulkAll r
def uptoBulkEntries {H : Type} : List (Lit × DataW H) → Nat
  | [] => 0
  | x :: r => uptoBulkEntry x + uptoBulkEntries r
def uptoBulkEntry {H : Type} : Lit × DataW H → Nat
  | (.string bytes, d) => bytes.length + uptoBulk d + 1
  | (_, d) => uptoBulk d + 1
 end
def uptoSmall : (H : Type) → List (DataW H) → Bool := fun _ ds => decide (uptoBulkAll ds ≤ 1048576)
def OpenSpec.upto (s : _root_.Go.ChangeSpec) : _root_.Go.OpenSpec := { _root_.Go.OpenSpec.ofChange s with cond := some uptoSmall }

/-- 'laws.FnExactIsLanguage', WHERE WHAT IT READS IS OF BULK AT MOST 1048576: true; the input reads as it did. -/
def fnExactIsLanguageUptoRow : OpenClaim := { program := "ytampjipbemmicaadoor", sum := "6c93b2bb3b568cf4d5697491b5a5b124daf3fe43690988f60dc24e1ae297b5e6", func := "loop.example/g01240/laws.FnExactIsLanguage", spec := "fnExactIsLanguage", inPlace := ["internal/bytealg.IndexByteString", "internal/bytealg.IndexString"], named := ["unicode/utf8.first", "unicode/utf8.acceptRanges", "internal/bytealg.MaxLen"], apart := false, laid := [("unicode/utf8.acceptRanges", laid_unicode_utf8_acceptRanges), ("unicode/utf8.first", laid_unicode_utf8_first)], narrowed := true }
def FnExactIsLanguageUptoSaid : Prop := fnExactIsLanguageUptoRow.holds Tryd.pinned (OpenSpec.upto fnExactIsLanguageSpec)

/-- 'laws.FnExactSentenceOf', WHERE WHAT IT READS IS OF BULK AT MOST 1048576: true; the input reads as it did. -/
def fnExactSentenceOfUptoRow : OpenClaim := { program := "ytampjipbemmicaadoor", sum := "6c93b2bb3b568cf4d5697491b5a5b124daf3fe43690988f60dc24e1ae297b5e6", func := "loop.example/g01240/laws.FnExactSentenceOf", spec := "fnExactSentenceOf", inPlace := ["internal/bytealg.IndexByteString", "internal/bytealg.IndexString"], named := ["unicode/utf8.first", "unicode/utf8.acceptRanges", "internal/bytealg.MaxLen"], apart := false, laid := [("unicode/utf8.acceptRanges", laid_unicode_utf8_acceptRanges), ("unicode/utf8.first", laid_unicode_utf8_first)], narrowed := true }
def FnExactSentenceOfUptoSaid : Prop := fnExactSentenceOfUptoRow.holds Tryd.pinned (OpenSpec.upto fnExactSentenceOfSpec)

/-- 'laws.FnExactCountLetters', WHERE WHAT IT READS IS OF BULK AT MOST 1048576: true; the input reads as it did. -/
def fnExactCountLettersUptoRow : OpenClaim := { program := "ytampjipbemmicaadoor", sum := "6c93b2bb3b568cf4d5697491b5a5b124daf3fe43690988f60dc24e1ae297b5e6", func := "loop.example/g01240/laws.FnExactCountLetters", spec := "fnExactCountLetters", inPlace := ["internal/bytealg.IndexByteString", "internal/bytealg.IndexString", "internal/bytealg.CountString"], named := ["unicode/utf8.first", "unicode/utf8.acceptRanges", "internal/bytealg.MaxLen"], apart := false, laid := [("unicode/utf8.acceptRanges", laid_unicode_utf8_acceptRanges), ("unicode/utf8.first", laid_unicode_utf8_first)], narrowed := true }
def FnExactCountLettersUptoSaid : Prop := fnExactCountLettersUptoRow.holds Tryd.pinned (OpenSpec.upto fnExactCountLettersSpec)

/-- 'laws.FnExactIsTrueSentence', WHERE WHAT IT READS IS OF BULK AT MOST 1048576: true; the input reads as it did. -/
def fnExactIsTrueSentenceUptoRow : OpenClaim := { program := "ytampjipbemmicaadoor", sum := "6c93b2bb3b568cf4d5697491b5a5b124daf3fe43690988f60dc24e1ae297b5e6", func := "loop.example/g01240/laws.FnExactIsTrueSentence", spec := "fnExactIsTrueSentence", inPlace := ["internal/bytealg.IndexByteString", "internal/bytealg.IndexString", "internal/bytealg.CountString"], named := ["unicode/utf8.first", "unicode/utf8.acceptRanges", "internal/bytealg.MaxLen"], apart := false, laid := [("unicode/utf8.acceptRanges", laid_unicode_utf8_acceptRanges), ("unicode/utf8.first", laid_unicode_utf8_first)], narrowed := true }
def FnExactIsTrueSentenceUptoSaid : Prop := fnExactIsTrueSentenceUptoRow.holds Tryd.pinned (OpenSpec.upto fnExactIsTrueSentenceSpec)

/-- 'laws.FnExactLiesOf', WHERE WHAT IT READS IS OF BULK AT MOST 1048576: true; the input reads as it did. -/
def fnExactLiesOfUptoRow : OpenClaim := { program := "ytampjipbemmicaadoor", sum := "6c93b2bb3b568cf4d5697491b5a5b124daf3fe43690988f60dc24e1ae297b5e6", func := "loop.example/g01240/laws.FnExactLiesOf", spec := "fnExactLiesOf", inPlace := ["internal/bytealg.IndexByteString", "internal/bytealg.IndexString", "internal/bytealg.CountString"], named := ["unicode/utf8.first", "unicode/utf8.acceptRanges", "internal/bytealg.MaxLen"], apart := false, laid := [("unicode/utf8.acceptRanges", laid_unicode_utf8_acceptRanges), ("unicode/utf8.first", laid_unicode_utf8_first)], narrowed := true }
def FnExactLiesOfUptoSaid : Prop := fnExactLiesOfUptoRow.holds Tryd.pinned (OpenSpec.upto fnExactLiesOfSpec)

/-- 'laws.FnExactCountAgain', WHERE WHAT IT READS IS OF BULK AT MOST 1048576: true; the input reads as it did. -/
def fnExactCountAgainUptoRow : OpenClaim := { program := "ytampjipbemmicaadoor", sum := "6c93b2bb3b568cf4d5697491b5a5b124daf3fe43690988f60dc24e1ae297b5e6", func := "loop.example/g01240/laws.FnExactCountAgain", spec := "fnExactCountAgain", inPlace := ["internal/bytealg.IndexByteString", "internal/bytealg.IndexString", "internal/bytealg.CountString"], named := ["unicode/utf8.first", "unicode/utf8.acceptRanges", "internal/bytealg.MaxLen"], apart := false, laid := [("unicode/utf8.acceptRanges", laid_unicode_utf8_acceptRanges), ("unicode/utf8.first", laid_unicode_utf8_first)], narrowed := true }
def FnExactCountAgainUptoSaid : Prop := fnExactCountAgainUptoRow.holds Tryd.pinned (OpenSpec.upto fnExactCountAgainSpec)

/-- 'laws.FnExactWayOfCounting', WHERE WHAT IT READS IS OF BULK AT MOST 1048576: true; the input reads as it did. -/
def fnExactWayOfCountingUptoRow : OpenClaim := { program := "ytampjipbemmicaadoor", sum := "6c93b2bb3b568cf4d5697491b5a5b124daf3fe43690988f60dc24e1ae297b5e6", func := "loop.example/g01240/laws.FnExactWayOfCounting", spec := "fnExactWayOfCounting", inPlace := ["internal/bytealg.IndexByteString", "internal/bytealg.IndexString", "internal/bytealg.CountString"], unfollowed := true, recurses := true, named := ["unicode/utf8.first", "unicode/utf8.acceptRanges", "internal/bytealg.MaxLen"], apart := false, laid := [("unicode/utf8.acceptRanges", laid_unicode_utf8_acceptRanges), ("unicode/utf8.first", laid_unicode_utf8_first)], narrowed := true }
def FnExactWayOfCountingUptoSaid : Prop := fnExactWayOfCountingUptoRow.holds Tryd.pinned (OpenSpec.upto fnExactWayOfCountingSpec)

/-- 'laws.FnExactLoopOfCounting', WHERE WHAT IT READS IS OF BULK AT MOST 1048576: true; the input reads as it did. -/
def fnExactLoopOfCountingUptoRow : OpenClaim := { program := "ytampjipbemmicaadoor", sum := "6c93b2bb3b568cf4d5697491b5a5b124daf3fe43690988f60dc24e1ae297b5e6", func := "loop.example/g01240/laws.FnExactLoopOfCounting", spec := "fnExactLoopOfCounting", inPlace := ["internal/bytealg.IndexByteString", "internal/bytealg.IndexString", "internal/bytealg.CountString"], unfollowed := true, recurses := true, named := ["unicode/utf8.first", "unicode/utf8.acceptRanges", "internal/bytealg.MaxLen"], apart := false, laid := [("unicode/utf8.acceptRanges", laid_unicode_utf8_acceptRanges), ("unicode/utf8.first", laid_unicode_utf8_first)], narrowed := true }
def FnExactLoopOfCountingUptoSaid : Prop := fnExactLoopOfCountingUptoRow.holds Tryd.pinned (OpenSpec.upto fnExactLoopOfCountingSpec)

/-- 'laws.FnExactLengthOfSentence', WHERE WHAT IT READS IS OF BULK AT MOST 1048576: true; the input reads as it did. -/
def fnExactLengthOfSentenceUptoRow : OpenClaim := { program := "ytampjipbemmicaadoor", sum := "6c93b2bb3b568cf4d5697491b5a5b124daf3fe43690988f60dc24e1ae297b5e6", func := "loop.example/g01240/laws.FnExactLengthOfSentence", spec := "fnExactLengthOfSentence", inPlace := ["internal/bytealg.IndexByteString", "internal/bytealg.IndexString"], named := ["unicode/utf8.first", "unicode/utf8.acceptRanges", "internal/bytealg.MaxLen"], apart := false, laid := [("unicode/utf8.acceptRanges", laid_unicode_utf8_acceptRanges), ("unicode/utf8.first", laid_unicode_utf8_first)], narrowed := true }
def FnExactLengthOfSentenceUptoSaid : Prop := fnExactLengthOfSentenceUptoRow.holds Tryd.pinned (OpenSpec.upto fnExactLengthOfSentenceSpec)

/-- 'laws.FnExactLanguageText', WHERE WHAT IT READS IS OF BULK AT MOST 1048576: true; the input reads as it did. -/
def fnExactLanguageTextUptoRow : OpenClaim := { program := "ytampjipbemmicaadoor", sum := "6c93b2bb3b568cf4d5697491b5a5b124daf3fe43690988f60dc24e1ae297b5e6", func := "loop.example/g01240/laws.FnExactLanguageText", spec := "fnExactLanguageText", inPlace := ["internal/bytealg.IndexByteString", "internal/bytealg.IndexString", "internal/abi.NoEscape", "internal/bytealg.MakeNoZero"], named := ["unicode/utf8.first", "unicode/utf8.acceptRanges", "internal/bytealg.MaxLen"], apart := false, laid := [("unicode/utf8.acceptRanges", laid_unicode_utf8_acceptRanges), ("unicode/utf8.first", laid_unicode_utf8_first)], narrowed := true }
def FnExactLanguageTextUptoSaid : Prop := fnExactLanguageTextUptoRow.holds Tryd.pinned (OpenSpec.upto fnExactLanguageTextSpec)

/-- 'laws.FnExactParseLanguage', WHERE WHAT IT READS IS OF BULK AT MOST 1048576: true; the input reads as it did. -/
def fnExactParseLanguageUptoRow : OpenClaim := { program := "ytampjipbemmicaadoor", sum := "6c93b2bb3b568cf4d5697491b5a5b124daf3fe43690988f60dc24e1ae297b5e6", func := "loop.example/g01240/laws.FnExactParseLanguage", spec := "fnExactParseLanguage", inPlace := ["internal/bytealg.IndexByteString", "internal/bytealg.IndexString", "internal/bytealg.CountString"], named := ["internal/bytealg.MaxLen", "unicode/utf8.first", "unicode/utf8.acceptRanges"], apart := false, laid := [("unicode/utf8.acceptRanges", laid_unicode_utf8_acceptRanges), ("unicode/utf8.first", laid_unicode_utf8_first)], narrowed := true }
def FnExactParseLanguageUptoSaid : Prop := fnExactParseLanguageUptoRow.holds Tryd.pinned (OpenSpec.upto fnExactParseLanguageSpec)

end Rows
end Go.Proofs.YtampjipbemmicaaDoor
