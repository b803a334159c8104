/-
  No cell of these rows narrows 'for every input' (looked for: loops, veiled, ifaces, maps, wideKeys, modest, calm, conditions, laid).
  DERIVED. THE GIVEN ROWS OF THIS SEAT. 12 by the template 'for every input the law returns true; each argument reads behind the call as it read before'; 0 by the template 'total and deterministic' (their statements: YtjjkfffddfanaaaTotals.lean).
  GIVEN WITH THE SEED: the statements are not yours to turn. If you find one false, say at which input.
  Laid BY PROGRAM, IN A SANDBOX (cutbox-rows.mjs): the forced cells as the released guide's own fill.sh prints them over the translation 4db7915ed6042b38… (all of the seat's roots in one cut). By AI agents, Wed Nov 11 2026. No macro, syntax, notation, axiom, sorry.
-/
import Derived.Test.YtjjkfffddfanaaaChecked
import GoSem.Claim
import GoSem.ClaimJoined
import GoSem.ClaimMapViews
import Derived.JoinedTies
import Derived.KernelRfl
namespace Go.Proofs.Ytjjkfffddfanaaa
/- THE CELL 'sum', in the pinned program and in every row, IS THE sha256 OF THE DUMP (.gsa) THAT YtjjkfffddfanaaaProg.lean LOADS. Nothing in Lean hashes anything: it is a label: what it is worth is what the hold of that sum in a sandbox is worth. -/
noncomputable def Try.pinned : Pinned := { name := "ytjjkfffddfanaaa", sum := "4db7915ed6042b38aafef08ff9c85a569fa62ae6a056d0eedcacc9b17ab0061a", checked := Try.checked }
namespace Rows
def none {H : Type} : Left H := { results := [], args := [] }

/-- 'laws.FnExactIsWord': WHATEVER THE INPUT: true; the input reads as it did. -/
def fnExactIsWordSpec : ChangeSpec := { name := "fnExactIsWord", fn := fun _ => fun
  | [d] => { results := [.lit (.bool true)], args := [d] }
  | _ => none }
def fnExactIsWordRow : OpenClaim := { program := "ytjjkfffddfanaaa", sum := "4db7915ed6042b38aafef08ff9c85a569fa62ae6a056d0eedcacc9b17ab0061a", func := "loop.example/g01240/laws.FnExactIsWord", spec := "fnExactIsWord", apart := false }
def FnExactIsWordSaid : Prop := fnExactIsWordRow.holds Try.pinned (OpenSpec.ofChange fnExactIsWordSpec)

/-- ITS FALSE NEIGHBOUR: 'it returns false'. Refute it at one input. -/
def fnExactIsWordWrong : ChangeSpec := { name := "fnExactIsWord", fn := fun _ => fun
  | [d] => { results := [.lit (.bool false)], args := [d] }
  | _ => none }
def FnExactIsWordWrongFalsely : Prop := fnExactIsWordRow.holds Try.pinned (OpenSpec.ofChange fnExactIsWordWrong)

/-- 'laws.FnExactIsSpeakable': WHATEVER THE INPUT: true; the input reads as it did. -/
def fnExactIsSpeakableSpec : ChangeSpec := { name := "fnExactIsSpeakable", fn := fun _ => fun
  | [d] => { results := [.lit (.bool true)], args := [d] }
  | _ => none }
def fnExactIsSpeakableRow : OpenClaim := { program := "ytjjkfffddfanaaa", sum := "4db7915ed6042b38aafef08ff9c85a569fa62ae6a056d0eedcacc9b17ab0061a", func := "loop.example/g01240/laws.FnExactIsSpeakable", spec := "fnExactIsSpeakable", unfollowed := true, recurses := true, apart := false }
def FnExactIsSpeakableSaid : Prop := fnExactIsSpeakableRow.holds Try.pinned (OpenSpec.ofChange fnExactIsSpeakableSpec)

/-- ITS FALSE NEIGHBOUR: 'it returns false'. Refute it at one input. -/
def fnExactIsSpeakableWrong : ChangeSpec := { name := "fnExactIsSpeakable", fn := fun _ => fun
  | [d] => { results := [.lit (.bool false)], args := [d] }
  | _ => none }
def FnExactIsSpeakableWrongFalsely : Prop := fnExactIsSpeakableRow.holds Try.pinned (OpenSpec.ofChange fnExactIsSpeakableWrong)

/-- 'laws.FnExactRunsOf': WHATEVER THE INPUT: true; the input reads as it did. -/
def fnExactRunsOfSpec : ChangeSpec := { name := "fnExactRunsOf", fn := fun _ => fun
  | [d] => { results := [.lit (.bool true)], args := [d] }
  | _ => none }
def fnExactRunsOfRow : OpenClaim := { program := "ytjjkfffddfanaaa", sum := "4db7915ed6042b38aafef08ff9c85a569fa62ae6a056d0eedcacc9b17ab0061a", func := "loop.example/g01240/laws.FnExactRunsOf", spec := "fnExactRunsOf", unfollowed := true, recurses := true, apart := false }
def FnExactRunsOfSaid : Prop := fnExactRunsOfRow.holds Try.pinned (OpenSpec.ofChange fnExactRunsOfSpec)

/-- ITS FALSE NEIGHBOUR: 'it returns false'. Refute it at one input. -/
def fnExactRunsOfWrong : ChangeSpec := { name := "fnExactRunsOf", fn := fun _ => fun
  | [d] => { results := [.lit (.bool false)], args := [d] }
  | _ => none }
def FnExactRunsOfWrongFalsely : Prop := fnExactRunsOfRow.holds Try.pinned (OpenSpec.ofChange fnExactRunsOfWrong)

/-- 'laws.FnExactWordOfRuns': WHATEVER THE INPUT: true; the input reads as it did. -/
def fnExactWordOfRunsSpec : ChangeSpec := { name := "fnExactWordOfRuns", fn := fun _ => fun
  | [d] => { results := [.lit (.bool true)], args := [d] }
  | _ => none }
def fnExactWordOfRunsRow : OpenClaim := { program := "ytjjkfffddfanaaa", sum := "4db7915ed6042b38aafef08ff9c85a569fa62ae6a056d0eedcacc9b17ab0061a", func := "loop.example/g01240/laws.FnExactWordOfRuns", spec := "fnExactWordOfRuns", inPlace := ["internal/bytealg.MakeNoZero"], recurses := true, apart := false }
def FnExactWordOfRunsSaid : Prop := fnExactWordOfRunsRow.holds Try.pinned (OpenSpec.ofChange fnExactWordOfRunsSpec)

/-- ITS FALSE NEIGHBOUR: 'it returns false'. Refute it at one input. -/
def fnExactWordOfRunsWrong : ChangeSpec := { name := "fnExactWordOfRuns", fn := fun _ => fun
  | [d] => { results := [.lit (.bool false)], args := [d] }
  | _ => none }
def FnExactWordOfRunsWrongFalsely : Prop := fnExactWordOfRunsRow.holds Try.pinned (OpenSpec.ofChange fnExactWordOfRunsWrong)

/-- 'laws.FnExactSayWord': WHATEVER THE INPUT: true; the input reads as it did. -/
def fnExactSayWordSpec : ChangeSpec := { name := "fnExactSayWord", fn := fun _ => fun
  | [d] => { results := [.lit (.bool true)], args := [d] }
  | _ => none }
def fnExactSayWordRow : OpenClaim := { program := "ytjjkfffddfanaaa", sum := "4db7915ed6042b38aafef08ff9c85a569fa62ae6a056d0eedcacc9b17ab0061a", func := "loop.example/g01240/laws.FnExactSayWord", spec := "fnExactSayWord", unfollowed := true, recurses := true, apart := false }
def FnExactSayWordSaid : Prop := fnExactSayWordRow.holds Try.pinned (OpenSpec.ofChange fnExactSayWordSpec)

/-- ITS FALSE NEIGHBOUR: 'it returns false'. Refute it at one input. -/
def fnExactSayWordWrong : ChangeSpec := { name := "fnExactSayWord", fn := fun _ => fun
  | [d] => { results := [.lit (.bool false)], args := [d] }
  | _ => none }
def FnExactSayWordWrongFalsely : Prop := fnExactSayWordRow.holds Try.pinned (OpenSpec.ofChange fnExactSayWordWrong)

/-- 'laws.FnExactHearWord': WHATEVER THE INPUT: true; the input reads as it did. -/
def fnExactHearWordSpec : ChangeSpec := { name := "fnExactHearWord", fn := fun _ => fun
  | [d] => { results := [.lit (.bool true)], args := [d] }
  | _ => none }
def fnExactHearWordRow : OpenClaim := { program := "ytjjkfffddfanaaa", sum := "4db7915ed6042b38aafef08ff9c85a569fa62ae6a056d0eedcacc9b17ab0061a", func := "loop.example/g01240/laws.FnExactHearWord", spec := "fnExactHearWord", inPlace := ["internal/bytealg.MakeNoZero"], recurses := true, apart := false }
def FnExactHearWordSaid : Prop := fnExactHearWordRow.holds Try.pinned (OpenSpec.ofChange fnExactHearWordSpec)

/-- ITS FALSE NEIGHBOUR: 'it returns false'. Refute it at one input. -/
def fnExactHearWordWrong : ChangeSpec := { name := "fnExactHearWord", fn := fun _ => fun
  | [d] => { results := [.lit (.bool false)], args := [d] }
  | _ => none }
def FnExactHearWordWrongFalsely : Prop := fnExactHearWordRow.holds Try.pinned (OpenSpec.ofChange fnExactHearWordWrong)

/-- 'laws.FnExactSayTimes': WHATEVER THE INPUT: true; the input reads as it did. -/
def fnExactSayTimesSpec : ChangeSpec := { name := "fnExactSayTimes", fn := fun _ => fun
  | [d1, d2] => { results := [.lit (.bool true)], args := [d1, d2] }
  | _ => none }
def fnExactSayTimesRow : OpenClaim := { program := "ytjjkfffddfanaaa", sum := "4db7915ed6042b38aafef08ff9c85a569fa62ae6a056d0eedcacc9b17ab0061a", func := "loop.example/g01240/laws.FnExactSayTimes", spec := "fnExactSayTimes", unfollowed := true, recurses := true, apart := false }
def FnExactSayTimesSaid : Prop := fnExactSayTimesRow.holds Try.pinned (OpenSpec.ofChange fnExactSayTimesSpec)

/-- ITS FALSE NEIGHBOUR: 'it returns false'. Refute it at one input. -/
def fnExactSayTimesWrong : ChangeSpec := { name := "fnExactSayTimes", fn := fun _ => fun
  | [d1, d2] => { results := [.lit (.bool false)], args := [d1, d2] }
  | _ => none }
def FnExactSayTimesWrongFalsely : Prop := fnExactSayTimesRow.holds Try.pinned (OpenSpec.ofChange fnExactSayTimesWrong)

/-- 'laws.FnExactHearTimes': WHATEVER THE INPUT: true; the input reads as it did. -/
def fnExactHearTimesSpec : ChangeSpec := { name := "fnExactHearTimes", fn := fun _ => fun
  | [d] => { results := [.lit (.bool true)], args := [d] }
  | _ => none }
def fnExactHearTimesRow : OpenClaim := { program := "ytjjkfffddfanaaa", sum := "4db7915ed6042b38aafef08ff9c85a569fa62ae6a056d0eedcacc9b17ab0061a", func := "loop.example/g01240/laws.FnExactHearTimes", spec := "fnExactHearTimes", inPlace := ["internal/bytealg.MakeNoZero"], recurses := true, apart := false }
def FnExactHearTimesSaid : Prop := fnExactHearTimesRow.holds Try.pinned (OpenSpec.ofChange fnExactHearTimesSpec)

/-- ITS FALSE NEIGHBOUR: 'it returns false'. Refute it at one input. -/
def fnExactHearTimesWrong : ChangeSpec := { name := "fnExactHearTimes", fn := fun _ => fun
  | [d] => { results := [.lit (.bool false)], args := [d] }
  | _ => none }
def FnExactHearTimesWrongFalsely : Prop := fnExactHearTimesRow.holds Try.pinned (OpenSpec.ofChange fnExactHearTimesWrong)

/-- 'laws.FnExactWayOfWord': WHATEVER THE INPUT: true; the input reads as it did. -/
def fnExactWayOfWordSpec : ChangeSpec := { name := "fnExactWayOfWord", fn := fun _ => fun
  | [d1, d2] => { results := [.lit (.bool true)], args := [d1, d2] }
  | _ => none }
def fnExactWayOfWordRow : OpenClaim := { program := "ytjjkfffddfanaaa", sum := "4db7915ed6042b38aafef08ff9c85a569fa62ae6a056d0eedcacc9b17ab0061a", func := "loop.example/g01240/laws.FnExactWayOfWord", spec := "fnExactWayOfWord", unfollowed := true, recurses := true, apart := false }
def FnExactWayOfWordSaid : Prop := fnExactWayOfWordRow.holds Try.pinned (OpenSpec.ofChange fnExactWayOfWordSpec)

/-- ITS FALSE NEIGHBOUR: 'it returns false'. Refute it at one input. -/
def fnExactWayOfWordWrong : ChangeSpec := { name := "fnExactWayOfWord", fn := fun _ => fun
  | [d1, d2] => { results := [.lit (.bool false)], args := [d1, d2] }
  | _ => none }
def FnExactWayOfWordWrongFalsely : Prop := fnExactWayOfWordRow.holds Try.pinned (OpenSpec.ofChange fnExactWayOfWordWrong)

/-- 'laws.FnExactLengthSaid': WHATEVER THE INPUT: true; the input reads as it did. -/
def fnExactLengthSaidSpec : ChangeSpec := { name := "fnExactLengthSaid", fn := fun _ => fun
  | [d] => { results := [.lit (.bool true)], args := [d] }
  | _ => none }
def fnExactLengthSaidRow : OpenClaim := { program := "ytjjkfffddfanaaa", sum := "4db7915ed6042b38aafef08ff9c85a569fa62ae6a056d0eedcacc9b17ab0061a", func := "loop.example/g01240/laws.FnExactLengthSaid", spec := "fnExactLengthSaid", unfollowed := true, recurses := true, apart := false }
def FnExactLengthSaidSaid : Prop := fnExactLengthSaidRow.holds Try.pinned (OpenSpec.ofChange fnExactLengthSaidSpec)

/-- ITS FALSE NEIGHBOUR: 'it returns false'. Refute it at one input. -/
def fnExactLengthSaidWrong : ChangeSpec := { name := "fnExactLengthSaid", fn := fun _ => fun
  | [d] => { results := [.lit (.bool false)], args := [d] }
  | _ => none }
def FnExactLengthSaidWrongFalsely : Prop := fnExactLengthSaidRow.holds Try.pinned (OpenSpec.ofChange fnExactLengthSaidWrong)

/-- 'laws.FnExactCountDigit': WHATEVER THE INPUT: true; the input reads as it did. -/
def fnExactCountDigitSpec : ChangeSpec := { name := "fnExactCountDigit", fn := fun _ => fun
  | [d1, d2] => { results := [.lit (.bool true)], args := [d1, d2] }
  | _ => none }
def fnExactCountDigitRow : OpenClaim := { program := "ytjjkfffddfanaaa", sum := "4db7915ed6042b38aafef08ff9c85a569fa62ae6a056d0eedcacc9b17ab0061a", func := "loop.example/g01240/laws.FnExactCountDigit", spec := "fnExactCountDigit", inPlace := ["internal/bytealg.Count", "internal/bytealg.IndexByte", "internal/bytealg.Index"], named := ["internal/bytealg.MaxLen"], apart := false }
def FnExactCountDigitSaid : Prop := fnExactCountDigitRow.holds Try.pinned (OpenSpec.ofChange fnExactCountDigitSpec)

/-- ITS FALSE NEIGHBOUR: 'it returns false'. Refute it at one input. -/
def fnExactCountDigitWrong : ChangeSpec := { name := "fnExactCountDigit", fn := fun _ => fun
  | [d1, d2] => { results := [.lit (.bool false)], args := [d1, d2] }
  | _ => none }
def FnExactCountDigitWrongFalsely : Prop := fnExactCountDigitRow.holds Try.pinned (OpenSpec.ofChange fnExactCountDigitWrong)

/-- 'laws.FnExactBackWord': WHATEVER THE INPUT: true; the input reads as it did. -/
def fnExactBackWordSpec : ChangeSpec := { name := "fnExactBackWord", fn := fun _ => fun
  | [d] => { results := [.lit (.bool true)], args := [d] }
  | _ => none }
def fnExactBackWordRow : OpenClaim := { program := "ytjjkfffddfanaaa", sum := "4db7915ed6042b38aafef08ff9c85a569fa62ae6a056d0eedcacc9b17ab0061a", func := "loop.example/g01240/laws.FnExactBackWord", spec := "fnExactBackWord", apart := false }
def FnExactBackWordSaid : Prop := fnExactBackWordRow.holds Try.pinned (OpenSpec.ofChange fnExactBackWordSpec)

/-- ITS FALSE NEIGHBOUR: 'it returns false'. Refute it at one input. -/
def fnExactBackWordWrong : ChangeSpec := { name := "fnExactBackWord", fn := fun _ => fun
  | [d] => { results := [.lit (.bool false)], args := [d] }
  | _ => none }
def FnExactBackWordWrongFalsely : Prop := fnExactBackWordRow.holds Try.pinned (OpenSpec.ofChange fnExactBackWordWrong)

/- THE SECOND FORM. 'bulk': how many values and letters a reading holds, each counted each time it is reached (what is shared counts as often as it is met; a slice's spare places count too). A statement '..UptoSaid' is the law's where the arguments, and the package variables that the reading takes, are together of bulk at most 1048576: NARROWER than '..Said'. Prove '..Said' where nothing that the law and all that it calls make is longer than what came in: it says more and counts as full. Else prove '..UptoSaid'. A law counts once. -/
mutual
def uptoBulk {H : Type} : DataW H → Nat
  | .lit (.string bytes) => bytes.length + 1
  | .lit _ => 1
  | .nil => 1
  | .ptr d => uptoBulk d + 1
  | .slice elems spare => uptoBulkAll elems + uptoBulkAll spare + 1
  | .agg parts => uptoBulkAll parts + 1
  | .iface _ d => uptoBulk d + 1
  | .map entries => uptoBulkEntries entries + 1
  | .held _ => 1
def uptoBulkAll {H : Type} : List (DataW H) → Nat
  | [] => 0
  | d :: r => uptoBulk d + uptoBulkAll r
def uptoBulkEntries {H : Type} : List (Lit × DataW H) → Nat
  | [] => 0
  | x :: r => uptoBulkEntry x + uptoBulkEntries r
def uptoBulkEntry {H : Type} : Lit × DataW H → Nat
  | (.string bytes, d) => bytes.length + uptoBulk d + 1
  | (_, d) => uptoBulk d + 1
 end
def uptoSmall : (H : Type) → List (DataW H) → Bool := fun _ ds => decide (uptoBulkAll ds ≤ 1048576)
def OpenSpec.upto (s : _root_.Go.ChangeSpec) : _root_.Go.OpenSpec := { _root_.Go.OpenSpec.ofChange s with cond := some uptoSmall }

/-- 'laws.FnExactIsWord', WHERE WHAT IT READS IS OF BULK AT MOST 1048576: true; the input reads as it did. -/
def fnExactIsWordUptoRow : OpenClaim := { program := "ytjjkfffddfanaaa", sum := "4db7915ed6042b38aafef08ff9c85a569fa62ae6a056d0eedcacc9b17ab0061a", func := "loop.example/g01240/laws.FnExactIsWord", spec := "fnExactIsWord", apart := false, narrowed := true }
def FnExactIsWordUptoSaid : Prop := fnExactIsWordUptoRow.holds Try.pinned (OpenSpec.upto fnExactIsWordSpec)

/-- 'laws.FnExactIsSpeakable', WHERE WHAT IT READS IS OF BULK AT MOST 1048576: true; the input reads as it did. -/
def fnExactIsSpeakableUptoRow : OpenClaim := { program := "ytjjkfffddfanaaa", sum := "4db7915ed6042b38aafef08ff9c85a569fa62ae6a056d0eedcacc9b17ab0061a", func := "loop.example/g01240/laws.FnExactIsSpeakable", spec := "fnExactIsSpeakable", unfollowed := true, recurses := true, apart := false, narrowed := true }
def FnExactIsSpeakableUptoSaid : Prop := fnExactIsSpeakableUptoRow.holds Try.pinned (OpenSpec.upto fnExactIsSpeakableSpec)

/-- 'laws.FnExactRunsOf', WHERE WHAT IT READS IS OF BULK AT MOST 1048576: true; the input reads as it did. -/
def fnExactRunsOfUptoRow : OpenClaim := { program := "ytjjkfffddfanaaa", sum := "4db7915ed6042b38aafef08ff9c85a569fa62ae6a056d0eedcacc9b17ab0061a", func := "loop.example/g01240/laws.FnExactRunsOf", spec := "fnExactRunsOf", unfollowed := true, recurses := true, apart := false, narrowed := true }
def FnExactRunsOfUptoSaid : Prop := fnExactRunsOfUptoRow.holds Try.pinned (OpenSpec.upto fnExactRunsOfSpec)

/-- 'laws.FnExactWordOfRuns', WHERE WHAT IT READS IS OF BULK AT MOST 1048576: true; the input reads as it did. -/
def fnExactWordOfRunsUptoRow : OpenClaim := { program := "ytjjkfffddfanaaa", sum := "4db7915ed6042b38aafef08ff9c85a569fa62ae6a056d0eedcacc9b17ab0061a", func := "loop.example/g01240/laws.FnExactWordOfRuns", spec := "fnExactWordOfRuns", inPlace := ["internal/bytealg.MakeNoZero"], recurses := true, apart := false, narrowed := true }
def FnExactWordOfRunsUptoSaid : Prop := fnExactWordOfRunsUptoRow.holds Try.pinned (OpenSpec.upto fnExactWordOfRunsSpec)

/-- 'laws.FnExactSayWord', WHERE WHAT IT READS IS OF BULK AT MOST 1048576: true; the input reads as it did. -/
def fnExactSayWordUptoRow : OpenClaim := { program := "ytjjkfffddfanaaa", sum := "4db7915ed6042b38aafef08ff9c85a569fa62ae6a056d0eedcacc9b17ab0061a", func := "loop.example/g01240/laws.FnExactSayWord", spec := "fnExactSayWord", unfollowed := true, recurses := true, apart := false, narrowed := true }
def FnExactSayWordUptoSaid : Prop := fnExactSayWordUptoRow.holds Try.pinned (OpenSpec.upto fnExactSayWordSpec)

/-- 'laws.FnExactHearWord', WHERE WHAT IT READS IS OF BULK AT MOST 1048576: true; the input reads as it did. -/
def fnExactHearWordUptoRow : OpenClaim := { program := "ytjjkfffddfanaaa", sum := "4db7915ed6042b38aafef08ff9c85a569fa62ae6a056d0eedcacc9b17ab0061a", func := "loop.example/g01240/laws.FnExactHearWord", spec := "fnExactHearWord", inPlace := ["internal/bytealg.MakeNoZero"], recurses := true, apart := false, narrowed := true }
def FnExactHearWordUptoSaid : Prop := fnExactHearWordUptoRow.holds Try.pinned (OpenSpec.upto fnExactHearWordSpec)

/-- 'laws.FnExactSayTimes', WHERE WHAT IT READS IS OF BULK AT MOST 1048576: true; the input reads as it did. -/
def fnExactSayTimesUptoRow : OpenClaim := { program := "ytjjkfffddfanaaa", sum := "4db7915ed6042b38aafef08ff9c85a569fa62ae6a056d0eedcacc9b17ab0061a", func := "loop.example/g01240/laws.FnExactSayTimes", spec := "fnExactSayTimes", unfollowed := true, recurses := true, apart := false, narrowed := true }
def FnExactSayTimesUptoSaid : Prop := fnExactSayTimesUptoRow.holds Try.pinned (OpenSpec.upto fnExactSayTimesSpec)

/-- 'laws.FnExactHearTimes', WHERE WHAT IT READS IS OF BULK AT MOST 1048576: true; the input reads as it did. -/
def fnExactHearTimesUptoRow : OpenClaim := { program := "ytjjkfffddfanaaa", sum := "4db7915ed6042b38aafef08ff9c85a569fa62ae6a056d0eedcacc9b17ab0061a", func := "loop.example/g01240/laws.FnExactHearTimes", spec := "fnExactHearTimes", inPlace := ["internal/bytealg.MakeNoZero"], recurses := true, apart := false, narrowed := true }
def FnExactHearTimesUptoSaid : Prop := fnExactHearTimesUptoRow.holds Try.pinned (OpenSpec.upto fnExactHearTimesSpec)

/-- 'laws.FnExactWayOfWord', WHERE WHAT IT READS IS OF BULK AT MOST 1048576: true; the input reads as it did. -/
def fnExactWayOfWordUptoRow : OpenClaim := { program := "ytjjkfffddfanaaa", sum := "4db7915ed6042b38aafef08ff9c85a569fa62ae6a056d0eedcacc9b17ab0061a", func := "loop.example/g01240/laws.FnExactWayOfWord", spec := "fnExactWayOfWord", unfollowed := true, recurses := true, apart := false, narrowed := true }
def FnExactWayOfWordUptoSaid : Prop := fnExactWayOfWordUptoRow.holds Try.pinned (OpenSpec.upto fnExactWayOfWordSpec)

/-- 'laws.FnExactLengthSaid', WHERE WHAT IT READS IS OF BULK AT MOST 1048576: true; the input reads as it did. -/
def fnExactLengthSaidUptoRow : OpenClaim := { program := "ytjjkfffddfanaaa", sum := "4db7915ed6042b38aafef08ff9c85a569fa62ae6a056d0eedcacc9b17ab0061a", func := "loop.example/g01240/laws.FnExactLengthSaid", spec := "fnExactLengthSaid", unfollowed := true, recurses := true, apart := false, narrowed := true }
def FnExactLengthSaidUptoSaid : Prop := fnExactLengthSaidUptoRow.holds Try.pinned (OpenSpec.upto fnExactLengthSaidSpec)

/-- 'laws.FnExactCountDigit', WHERE WHAT IT READS IS OF BULK AT MOST 1048576: true; the input reads as it did. -/
def fnExactCountDigitUptoRow : OpenClaim := { program := "ytjjkfffddfanaaa", sum := "4db7915ed6042b38aafef08ff9c85a569fa62ae6a056d0eedcacc9b17ab0061a", func := "loop.example/g01240/laws.FnExactCountDigit", spec := "fnExactCountDigit", inPlace := ["internal/bytealg.Count", "internal/bytealg.IndexByte", "internal/bytealg.Index"], named := ["internal/bytealg.MaxLen"], apart := false, narrowed := true }
def FnExactCountDigitUptoSaid : Prop := fnExactCountDigitUptoRow.holds Try.pinned (OpenSpec.upto fnExactCountDigitSpec)

/-- 'laws.FnExactBackWord', WHERE WHAT IT READS IS OF BULK AT MOST 1048576: true; the input reads as it did. -/
def fnExactBackWordUptoRow : OpenClaim := { program := "ytjjkfffddfanaaa", sum := "4db7915ed6042b38aafef08ff9c85a569fa62ae6a056d0eedcacc9b17ab0061a", func := "loop.example/g01240/laws.FnExactBackWord", spec := "fnExactBackWord", apart := false, narrowed := true }
def FnExactBackWordUptoSaid : Prop := fnExactBackWordUptoRow.holds Try.pinned (OpenSpec.upto fnExactBackWordSpec)

end Rows
end Go.Proofs.Ytjjkfffddfanaaa
