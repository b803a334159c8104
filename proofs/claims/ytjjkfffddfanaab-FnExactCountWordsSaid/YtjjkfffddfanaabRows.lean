/-
  No cell of these rows narrows 'for every input' (looked for: loops, veiled, ifaces, maps, wideKeys, modest, calm, conditions, laid).
  DERIVED. THE GIVEN ROWS OF THIS SEAT. 12 by the template 'for every input the law returns true; each argument reads behind the call as it read before'; 0 by the template 'total and deterministic' (their statements: YtjjkfffddfanaabTotals.lean).
  GIVEN WITH THE SEED: the statements are not yours to turn. If you find one false, say at which input.
  Laid BY PROGRAM, IN A SANDBOX (cutbox-rows.mjs): the forced cells as the released guide's own fill.sh prints them over the translation ced35bafbb38d3dc… (all of the seat's roots in one cut). By AI agents, Wed Nov 11 2026. No macro, syntax, notation, axiom, sorry.
-/
import Derived.Test.YtjjkfffddfanaabChecked
import GoSem.Claim
import GoSem.ClaimJoined
import GoSem.ClaimMapViews
import Derived.JoinedTies
import Derived.KernelRfl
namespace Go.Proofs.Ytjjkfffddfanaab
/- THE CELL 'sum', in the pinned program and in every row, IS THE sha256 OF THE DUMP (.gsa) THAT YtjjkfffddfanaabProg.lean LOADS. Nothing in Lean hashes anything: it is a label: what it is worth is what the hold of that sum in a sandbox is worth. -/
noncomputable def Try.pinned : Pinned := { name := "ytjjkfffddfanaab", sum := "ced35bafbb38d3dc38c0dcab01d0ace9efd4d075544a752a4ffc69da58cba0fa", checked := Try.checked }
namespace Rows
def none {H : Type} : Left H := { results := [], args := [] }

/-- 'laws.FnExactSayOther': WHATEVER THE INPUT: true; the input reads as it did. -/
def fnExactSayOtherSpec : ChangeSpec := { name := "fnExactSayOther", fn := fun _ => fun
  | [d] => { results := [.lit (.bool true)], args := [d] }
  | _ => none }
def fnExactSayOtherRow : OpenClaim := { program := "ytjjkfffddfanaab", sum := "ced35bafbb38d3dc38c0dcab01d0ace9efd4d075544a752a4ffc69da58cba0fa", func := "loop.example/g01240/laws.FnExactSayOther", spec := "fnExactSayOther", unfollowed := true, recurses := true, apart := false }
def FnExactSayOtherSaid : Prop := fnExactSayOtherRow.holds Try.pinned (OpenSpec.ofChange fnExactSayOtherSpec)

/-- ITS FALSE NEIGHBOUR: 'it returns false'. Refute it at one input. -/
def fnExactSayOtherWrong : ChangeSpec := { name := "fnExactSayOther", fn := fun _ => fun
  | [d] => { results := [.lit (.bool false)], args := [d] }
  | _ => none }
def FnExactSayOtherWrongFalsely : Prop := fnExactSayOtherRow.holds Try.pinned (OpenSpec.ofChange fnExactSayOtherWrong)

/-- 'laws.FnExactIsStill': WHATEVER THE INPUT: true; the input reads as it did. -/
def fnExactIsStillSpec : ChangeSpec := { name := "fnExactIsStill", fn := fun _ => fun
  | [d] => { results := [.lit (.bool true)], args := [d] }
  | _ => none }
def fnExactIsStillRow : OpenClaim := { program := "ytjjkfffddfanaab", sum := "ced35bafbb38d3dc38c0dcab01d0ace9efd4d075544a752a4ffc69da58cba0fa", func := "loop.example/g01240/laws.FnExactIsStill", spec := "fnExactIsStill", unfollowed := true, recurses := true, apart := false }
def FnExactIsStillSaid : Prop := fnExactIsStillRow.holds Try.pinned (OpenSpec.ofChange fnExactIsStillSpec)

/-- ITS FALSE NEIGHBOUR: 'it returns false'. Refute it at one input. -/
def fnExactIsStillWrong : ChangeSpec := { name := "fnExactIsStill", fn := fun _ => fun
  | [d] => { results := [.lit (.bool false)], args := [d] }
  | _ => none }
def FnExactIsStillWrongFalsely : Prop := fnExactIsStillRow.holds Try.pinned (OpenSpec.ofChange fnExactIsStillWrong)

/-- 'laws.FnExactCountWords': WHATEVER THE INPUT: true; the input reads as it did. -/
def fnExactCountWordsSpec : ChangeSpec := { name := "fnExactCountWords", fn := fun _ => fun
  | [d1, d2, d3] => { results := [.lit (.bool true)], args := [d1, d2, d3] }
  | _ => none }
def fnExactCountWordsRow : OpenClaim := { program := "ytjjkfffddfanaab", sum := "ced35bafbb38d3dc38c0dcab01d0ace9efd4d075544a752a4ffc69da58cba0fa", func := "loop.example/g01240/laws.FnExactCountWords", spec := "fnExactCountWords", apart := false }
def FnExactCountWordsSaid : Prop := fnExactCountWordsRow.holds Try.pinned (OpenSpec.ofChange fnExactCountWordsSpec)

/-- ITS FALSE NEIGHBOUR: 'it returns false'. Refute it at one input. -/
def fnExactCountWordsWrong : ChangeSpec := { name := "fnExactCountWords", fn := fun _ => fun
  | [d1, d2, d3] => { results := [.lit (.bool false)], args := [d1, d2, d3] }
  | _ => none }
def FnExactCountWordsWrongFalsely : Prop := fnExactCountWordsRow.holds Try.pinned (OpenSpec.ofChange fnExactCountWordsWrong)

/-- 'laws.FnExactCountHeard': WHATEVER THE INPUT: true; the input reads as it did. -/
def fnExactCountHeardSpec : ChangeSpec := { name := "fnExactCountHeard", fn := fun _ => fun
  | [d1, d2] => { results := [.lit (.bool true)], args := [d1, d2] }
  | _ => none }
def fnExactCountHeardRow : OpenClaim := { program := "ytjjkfffddfanaab", sum := "ced35bafbb38d3dc38c0dcab01d0ace9efd4d075544a752a4ffc69da58cba0fa", func := "loop.example/g01240/laws.FnExactCountHeard", spec := "fnExactCountHeard", apart := false }
def FnExactCountHeardSaid : Prop := fnExactCountHeardRow.holds Try.pinned (OpenSpec.ofChange fnExactCountHeardSpec)

/-- ITS FALSE NEIGHBOUR: 'it returns false'. Refute it at one input. -/
def fnExactCountHeardWrong : ChangeSpec := { name := "fnExactCountHeard", fn := fun _ => fun
  | [d1, d2] => { results := [.lit (.bool false)], args := [d1, d2] }
  | _ => none }
def FnExactCountHeardWrongFalsely : Prop := fnExactCountHeardRow.holds Try.pinned (OpenSpec.ofChange fnExactCountHeardWrong)

/-- 'laws.FnExactLongestRun': WHATEVER THE INPUT: true; the input reads as it did. -/
def fnExactLongestRunSpec : ChangeSpec := { name := "fnExactLongestRun", fn := fun _ => fun
  | [d] => { results := [.lit (.bool true)], args := [d] }
  | _ => none }
def fnExactLongestRunRow : OpenClaim := { program := "ytjjkfffddfanaab", sum := "ced35bafbb38d3dc38c0dcab01d0ace9efd4d075544a752a4ffc69da58cba0fa", func := "loop.example/g01240/laws.FnExactLongestRun", spec := "fnExactLongestRun", unfollowed := true, recurses := true, apart := false }
def FnExactLongestRunSaid : Prop := fnExactLongestRunRow.holds Try.pinned (OpenSpec.ofChange fnExactLongestRunSpec)

/-- ITS FALSE NEIGHBOUR: 'it returns false'. Refute it at one input. -/
def fnExactLongestRunWrong : ChangeSpec := { name := "fnExactLongestRun", fn := fun _ => fun
  | [d] => { results := [.lit (.bool false)], args := [d] }
  | _ => none }
def FnExactLongestRunWrongFalsely : Prop := fnExactLongestRunRow.holds Try.pinned (OpenSpec.ofChange fnExactLongestRunWrong)

/-- 'laws.FnExactSumOfWord': WHATEVER THE INPUT: true; the input reads as it did. -/
def fnExactSumOfWordSpec : ChangeSpec := { name := "fnExactSumOfWord", fn := fun _ => fun
  | [d] => { results := [.lit (.bool true)], args := [d] }
  | _ => none }
def fnExactSumOfWordRow : OpenClaim := { program := "ytjjkfffddfanaab", sum := "ced35bafbb38d3dc38c0dcab01d0ace9efd4d075544a752a4ffc69da58cba0fa", func := "loop.example/g01240/laws.FnExactSumOfWord", spec := "fnExactSumOfWord", apart := false }
def FnExactSumOfWordSaid : Prop := fnExactSumOfWordRow.holds Try.pinned (OpenSpec.ofChange fnExactSumOfWordSpec)

/-- ITS FALSE NEIGHBOUR: 'it returns false'. Refute it at one input. -/
def fnExactSumOfWordWrong : ChangeSpec := { name := "fnExactSumOfWord", fn := fun _ => fun
  | [d] => { results := [.lit (.bool false)], args := [d] }
  | _ => none }
def FnExactSumOfWordWrongFalsely : Prop := fnExactSumOfWordRow.holds Try.pinned (OpenSpec.ofChange fnExactSumOfWordWrong)

/-- 'laws.FnExactFirstDigits': WHATEVER THE INPUT: true; the input reads as it did. -/
def fnExactFirstDigitsSpec : ChangeSpec := { name := "fnExactFirstDigits", fn := fun _ => fun
  | [d] => { results := [.lit (.bool true)], args := [d] }
  | _ => none }
def fnExactFirstDigitsRow : OpenClaim := { program := "ytjjkfffddfanaab", sum := "ced35bafbb38d3dc38c0dcab01d0ace9efd4d075544a752a4ffc69da58cba0fa", func := "loop.example/g01240/laws.FnExactFirstDigits", spec := "fnExactFirstDigits", unfollowed := true, recurses := true, apart := false }
def FnExactFirstDigitsSaid : Prop := fnExactFirstDigitsRow.holds Try.pinned (OpenSpec.ofChange fnExactFirstDigitsSpec)

/-- ITS FALSE NEIGHBOUR: 'it returns false'. Refute it at one input. -/
def fnExactFirstDigitsWrong : ChangeSpec := { name := "fnExactFirstDigits", fn := fun _ => fun
  | [d] => { results := [.lit (.bool false)], args := [d] }
  | _ => none }
def FnExactFirstDigitsWrongFalsely : Prop := fnExactFirstDigitsRow.holds Try.pinned (OpenSpec.ofChange fnExactFirstDigitsWrong)

/-- 'laws.FnExactStayApart': WHATEVER THE INPUT: true; the input reads as it did. -/
def fnExactStayApartSpec : ChangeSpec := { name := "fnExactStayApart", fn := fun _ => fun
  | [d1, d2] => { results := [.lit (.bool true)], args := [d1, d2] }
  | _ => none }
def fnExactStayApartRow : OpenClaim := { program := "ytjjkfffddfanaab", sum := "ced35bafbb38d3dc38c0dcab01d0ace9efd4d075544a752a4ffc69da58cba0fa", func := "loop.example/g01240/laws.FnExactStayApart", spec := "fnExactStayApart", unfollowed := true, recurses := true, apart := false }
def FnExactStayApartSaid : Prop := fnExactStayApartRow.holds Try.pinned (OpenSpec.ofChange fnExactStayApartSpec)

/-- ITS FALSE NEIGHBOUR: 'it returns false'. Refute it at one input. -/
def fnExactStayApartWrong : ChangeSpec := { name := "fnExactStayApart", fn := fun _ => fun
  | [d1, d2] => { results := [.lit (.bool false)], args := [d1, d2] }
  | _ => none }
def FnExactStayApartWrongFalsely : Prop := fnExactStayApartRow.holds Try.pinned (OpenSpec.ofChange fnExactStayApartWrong)

/-- 'laws.FnExactSplitsOf': WHATEVER THE INPUT: true; the input reads as it did. -/
def fnExactSplitsOfSpec : ChangeSpec := { name := "fnExactSplitsOf", fn := fun _ => fun
  | [d] => { results := [.lit (.bool true)], args := [d] }
  | _ => none }
def fnExactSplitsOfRow : OpenClaim := { program := "ytjjkfffddfanaab", sum := "ced35bafbb38d3dc38c0dcab01d0ace9efd4d075544a752a4ffc69da58cba0fa", func := "loop.example/g01240/laws.FnExactSplitsOf", spec := "fnExactSplitsOf", unfollowed := true, recurses := true, apart := false }
def FnExactSplitsOfSaid : Prop := fnExactSplitsOfRow.holds Try.pinned (OpenSpec.ofChange fnExactSplitsOfSpec)

/-- ITS FALSE NEIGHBOUR: 'it returns false'. Refute it at one input. -/
def fnExactSplitsOfWrong : ChangeSpec := { name := "fnExactSplitsOf", fn := fun _ => fun
  | [d] => { results := [.lit (.bool false)], args := [d] }
  | _ => none }
def FnExactSplitsOfWrongFalsely : Prop := fnExactSplitsOfRow.holds Try.pinned (OpenSpec.ofChange fnExactSplitsOfWrong)

/-- 'laws.FnExactPartsOf': WHATEVER THE INPUT: true; the input reads as it did. -/
def fnExactPartsOfSpec : ChangeSpec := { name := "fnExactPartsOf", fn := fun _ => fun
  | [d] => { results := [.lit (.bool true)], args := [d] }
  | _ => none }
def fnExactPartsOfRow : OpenClaim := { program := "ytjjkfffddfanaab", sum := "ced35bafbb38d3dc38c0dcab01d0ace9efd4d075544a752a4ffc69da58cba0fa", func := "loop.example/g01240/laws.FnExactPartsOf", spec := "fnExactPartsOf", unfollowed := true, recurses := true, apart := false }
def FnExactPartsOfSaid : Prop := fnExactPartsOfRow.holds Try.pinned (OpenSpec.ofChange fnExactPartsOfSpec)

/-- ITS FALSE NEIGHBOUR: 'it returns false'. Refute it at one input. -/
def fnExactPartsOfWrong : ChangeSpec := { name := "fnExactPartsOf", fn := fun _ => fun
  | [d] => { results := [.lit (.bool false)], args := [d] }
  | _ => none }
def FnExactPartsOfWrongFalsely : Prop := fnExactPartsOfRow.holds Try.pinned (OpenSpec.ofChange fnExactPartsOfWrong)

/-- 'laws.FnExactIsElement': WHATEVER THE INPUT: true; the input reads as it did. -/
def fnExactIsElementSpec : ChangeSpec := { name := "fnExactIsElement", fn := fun _ => fun
  | [d] => { results := [.lit (.bool true)], args := [d] }
  | _ => none }
def fnExactIsElementRow : OpenClaim := { program := "ytjjkfffddfanaab", sum := "ced35bafbb38d3dc38c0dcab01d0ace9efd4d075544a752a4ffc69da58cba0fa", func := "loop.example/g01240/laws.FnExactIsElement", spec := "fnExactIsElement", unfollowed := true, recurses := true, apart := false }
def FnExactIsElementSaid : Prop := fnExactIsElementRow.holds Try.pinned (OpenSpec.ofChange fnExactIsElementSpec)

/-- ITS FALSE NEIGHBOUR: 'it returns false'. Refute it at one input. -/
def fnExactIsElementWrong : ChangeSpec := { name := "fnExactIsElement", fn := fun _ => fun
  | [d] => { results := [.lit (.bool false)], args := [d] }
  | _ => none }
def FnExactIsElementWrongFalsely : Prop := fnExactIsElementRow.holds Try.pinned (OpenSpec.ofChange fnExactIsElementWrong)

/-- 'laws.FnExactDecayOf': WHATEVER THE INPUT: true; the input reads as it did. -/
def fnExactDecayOfSpec : ChangeSpec := { name := "fnExactDecayOf", fn := fun _ => fun
  | [d] => { results := [.lit (.bool true)], args := [d] }
  | _ => none }
def fnExactDecayOfRow : OpenClaim := { program := "ytjjkfffddfanaab", sum := "ced35bafbb38d3dc38c0dcab01d0ace9efd4d075544a752a4ffc69da58cba0fa", func := "loop.example/g01240/laws.FnExactDecayOf", spec := "fnExactDecayOf", unfollowed := true, recurses := true, apart := false }
def FnExactDecayOfSaid : Prop := fnExactDecayOfRow.holds Try.pinned (OpenSpec.ofChange fnExactDecayOfSpec)

/-- ITS FALSE NEIGHBOUR: 'it returns false'. Refute it at one input. -/
def fnExactDecayOfWrong : ChangeSpec := { name := "fnExactDecayOf", fn := fun _ => fun
  | [d] => { results := [.lit (.bool false)], args := [d] }
  | _ => none }
def FnExactDecayOfWrongFalsely : Prop := fnExactDecayOfRow.holds Try.pinned (OpenSpec.ofChange fnExactDecayOfWrong)

/- THE SECOND FORM. 'bulk': how many values and letters a reading holds, each counted each time it is reached (what is shared counts as often as it is met; a slice's spare places count too). A statement '..UptoSaid' is the law's where the arguments, and the package variables that the reading takes, are together of bulk at most 1048576: NARROWER than '..Said'. Prove '..Said' where nothing that the law and all that it calls make is longer than what came in: it says more and counts as full. Else prove '..UptoSaid'. A law counts once. -/
mutual
def uptoBulk {H : Type} : DataW H → Nat
  | .lit (.string bytes) => bytes.length + 1
  | .lit _ => 1
  | .nil => 1
  | .ptr d => uptoBulk d + 1
  | .slice elems spare => uptoBulkAll elems + uptoBulkAll spare + 1
  | .agg parts => uptoBulkAll parts + 1
  | .iface _ d => uptoBulk d + 1
  | .map entries => uptoBulkEntries entries + 1
  | .held _ => 1
def uptoBulkAll {H : Type} : List (DataW H) → Nat
  | [] => 0
  | d :: r => uptoBulk d + uptoBulkAll r
def uptoBulkEntries {H : Type} : List (Lit × DataW H) → Nat
  | [] => 0
  | x :: r => uptoBulkEntry x + uptoBulkEntries r
def uptoBulkEntry {H : Type} : Lit × DataW H → Nat
  | (.string bytes, d) => bytes.length + uptoBulk d + 1
  | (_, d) => uptoBulk d + 1
 end
def uptoSmall : (H : Type) → List (DataW H) → Bool := fun _ ds => decide (uptoBulkAll ds ≤ 1048576)
def OpenSpec.upto (s : _root_.Go.ChangeSpec) : _root_.Go.OpenSpec := { _root_.Go.OpenSpec.ofChange s with cond := some uptoSmall }

/-- 'laws.FnExactSayOther', WHERE WHAT IT READS IS OF BULK AT MOST 1048576: true; the input reads as it did. -/
def fnExactSayOtherUptoRow : OpenClaim := { program := "ytjjkfffddfanaab", sum := "ced35bafbb38d3dc38c0dcab01d0ace9efd4d075544a752a4ffc69da58cba0fa", func := "loop.example/g01240/laws.FnExactSayOther", spec := "fnExactSayOther", unfollowed := true, recurses := true, apart := false, narrowed := true }
def FnExactSayOtherUptoSaid : Prop := fnExactSayOtherUptoRow.holds Try.pinned (OpenSpec.upto fnExactSayOtherSpec)

/-- 'laws.FnExactIsStill', WHERE WHAT IT READS IS OF BULK AT MOST 1048576: true; the input reads as it did. -/
def fnExactIsStillUptoRow : OpenClaim := { program := "ytjjkfffddfanaab", sum := "ced35bafbb38d3dc38c0dcab01d0ace9efd4d075544a752a4ffc69da58cba0fa", func := "loop.example/g01240/laws.FnExactIsStill", spec := "fnExactIsStill", unfollowed := true, recurses := true, apart := false, narrowed := true }
def FnExactIsStillUptoSaid : Prop := fnExactIsStillUptoRow.holds Try.pinned (OpenSpec.upto fnExactIsStillSpec)

/-- 'laws.FnExactCountWords', WHERE WHAT IT READS IS OF BULK AT MOST 1048576: true; the input reads as it did. -/
def fnExactCountWordsUptoRow : OpenClaim := { program := "ytjjkfffddfanaab", sum := "ced35bafbb38d3dc38c0dcab01d0ace9efd4d075544a752a4ffc69da58cba0fa", func := "loop.example/g01240/laws.FnExactCountWords", spec := "fnExactCountWords", apart := false, narrowed := true }
def FnExactCountWordsUptoSaid : Prop := fnExactCountWordsUptoRow.holds Try.pinned (OpenSpec.upto fnExactCountWordsSpec)

/-- 'laws.FnExactCountHeard', WHERE WHAT IT READS IS OF BULK AT MOST 1048576: true; the input reads as it did. -/
def fnExactCountHeardUptoRow : OpenClaim := { program := "ytjjkfffddfanaab", sum := "ced35bafbb38d3dc38c0dcab01d0ace9efd4d075544a752a4ffc69da58cba0fa", func := "loop.example/g01240/laws.FnExactCountHeard", spec := "fnExactCountHeard", apart := false, narrowed := true }
def FnExactCountHeardUptoSaid : Prop := fnExactCountHeardUptoRow.holds Try.pinned (OpenSpec.upto fnExactCountHeardSpec)

/-- 'laws.FnExactLongestRun', WHERE WHAT IT READS IS OF BULK AT MOST 1048576: true; the input reads as it did. -/
def fnExactLongestRunUptoRow : OpenClaim := { program := "ytjjkfffddfanaab", sum := "ced35bafbb38d3dc38c0dcab01d0ace9efd4d075544a752a4ffc69da58cba0fa", func := "loop.example/g01240/laws.FnExactLongestRun", spec := "fnExactLongestRun", unfollowed := true, recurses := true, apart := false, narrowed := true }
def FnExactLongestRunUptoSaid : Prop := fnExactLongestRunUptoRow.holds Try.pinned (OpenSpec.upto fnExactLongestRunSpec)

/-- 'laws.FnExactSumOfWord', WHERE WHAT IT READS IS OF BULK AT MOST 1048576: true; the input reads as it did. -/
def fnExactSumOfWordUptoRow : OpenClaim := { program := "ytjjkfffddfanaab", sum := "ced35bafbb38d3dc38c0dcab01d0ace9efd4d075544a752a4ffc69da58cba0fa", func := "loop.example/g01240/laws.FnExactSumOfWord", spec := "fnExactSumOfWord", apart := false, narrowed := true }
def FnExactSumOfWordUptoSaid : Prop := fnExactSumOfWordUptoRow.holds Try.pinned (OpenSpec.upto fnExactSumOfWordSpec)

/-- 'laws.FnExactFirstDigits', WHERE WHAT IT READS IS OF BULK AT MOST 1048576: true; the input reads as it did. -/
def fnExactFirstDigitsUptoRow : OpenClaim := { program := "ytjjkfffddfanaab", sum := "ced35bafbb38d3dc38c0dcab01d0ace9efd4d075544a752a4ffc69da58cba0fa", func := "loop.example/g01240/laws.FnExactFirstDigits", spec := "fnExactFirstDigits", unfollowed := true, recurses := true, apart := false, narrowed := true }
def FnExactFirstDigitsUptoSaid : Prop := fnExactFirstDigitsUptoRow.holds Try.pinned (OpenSpec.upto fnExactFirstDigitsSpec)

/-- 'laws.FnExactStayApart', WHERE WHAT IT READS IS OF BULK AT MOST 1048576: true; the input reads as it did. -/
def fnExactStayApartUptoRow : OpenClaim := { program := "ytjjkfffddfanaab", sum := "ced35bafbb38d3dc38c0dcab01d0ace9efd4d075544a752a4ffc69da58cba0fa", func := "loop.example/g01240/laws.FnExactStayApart", spec := "fnExactStayApart", unfollowed := true, recurses := true, apart := false, narrowed := true }
def FnExactStayApartUptoSaid : Prop := fnExactStayApartUptoRow.holds Try.pinned (OpenSpec.upto fnExactStayApartSpec)

/-- 'laws.FnExactSplitsOf', WHERE WHAT IT READS IS OF BULK AT MOST 1048576: true; the input reads as it did. -/
def fnExactSplitsOfUptoRow : OpenClaim := { program := "ytjjkfffddfanaab", sum := "ced35bafbb38d3dc38c0dcab01d0ace9efd4d075544a752a4ffc69da58cba0fa", func := "loop.example/g01240/laws.FnExactSplitsOf", spec := "fnExactSplitsOf", unfollowed := true, recurses := true, apart := false, narrowed := true }
def FnExactSplitsOfUptoSaid : Prop := fnExactSplitsOfUptoRow.holds Try.pinned (OpenSpec.upto fnExactSplitsOfSpec)

/-- 'laws.FnExactPartsOf', WHERE WHAT IT READS IS OF BULK AT MOST 1048576: true; the input reads as it did. -/
def fnExactPartsOfUptoRow : OpenClaim := { program := "ytjjkfffddfanaab", sum := "ced35bafbb38d3dc38c0dcab01d0ace9efd4d075544a752a4ffc69da58cba0fa", func := "loop.example/g01240/laws.FnExactPartsOf", spec := "fnExactPartsOf", unfollowed := true, recurses := true, apart := false, narrowed := true }
def FnExactPartsOfUptoSaid : Prop := fnExactPartsOfUptoRow.holds Try.pinned (OpenSpec.upto fnExactPartsOfSpec)

/-- 'laws.FnExactIsElement', WHERE WHAT IT READS IS OF BULK AT MOST 1048576: true; the input reads as it did. -/
def fnExactIsElementUptoRow : OpenClaim := { program := "ytjjkfffddfanaab", sum := "ced35bafbb38d3dc38c0dcab01d0ace9efd4d075544a752a4ffc69da58cba0fa", func := "loop.example/g01240/laws.FnExactIsElement", spec := "fnExactIsElement", unfollowed := true, recurses := true, apart := false, narrowed := true }
def FnExactIsElementUptoSaid : Prop := fnExactIsElementUptoRow.holds Try.pinned (OpenSpec.upto fnExactIsElementSpec)

/-- 'laws.FnExactDecayOf', WHERE WHAT IT READS IS OF BULK AT MOST 1048576: true; the input reads as it did. -/
def fnExactDecayOfUptoRow : OpenClaim := { program := "ytjjkfffddfanaab", sum := "ced35bafbb38d3dc38c0dcab01d0ace9efd4d075544a752a4ffc69da58cba0fa", func := "loop.example/g01240/laws.FnExactDecayOf", spec := "fnExactDecayOf", unfollowed := true, recurses := true, apart := false, narrowed := true }
def FnExactDecayOfUptoSaid : Prop := fnExactDecayOfUptoRow.holds Try.pinned (OpenSpec.upto fnExactDecayOfSpec)

end Rows
end Go.Proofs.Ytjjkfffddfanaab
