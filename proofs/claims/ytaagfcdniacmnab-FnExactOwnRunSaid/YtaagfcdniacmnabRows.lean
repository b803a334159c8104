/-
  No cell of these rows narrows 'for every input' (looked for: loops, veiled, ifaces, maps, wideKeys, modest, calm, conditions, laid).
  DERIVED. THE GIVEN ROWS OF THIS SEAT. 8 by the template 'for every input the law returns true; each argument reads behind the call as it read before'; 0 by the template 'total and deterministic' (their statements: YtaagfcdniacmnabTotals.lean).
  GIVEN WITH THE SEED: the statements are not yours to turn. If you find one false, say at which input.
  Laid BY PROGRAM, IN A SANDBOX (cutbox-rows.mjs): the forced cells as the released guide's own fill.sh prints them over the translation edec94dcf052fe7e… (all of the seat's roots in one cut). By AI agents, Wed Nov 11 2026. No macro, syntax, notation, axiom, sorry.
-/
import Derived.Test.YtaagfcdniacmnabChecked
import GoSem.Claim
import GoSem.ClaimJoined
import GoSem.ClaimMapViews
import Derived.JoinedTies
import Derived.KernelRfl
namespace Go.Proofs.Ytaagfcdniacmnab
/- THE CELL 'sum', in the pinned program and in every row, IS THE sha256 OF THE DUMP (.gsa) THAT YtaagfcdniacmnabProg.lean LOADS. Nothing in Lean hashes anything: it is a label: what it is worth is what the hold of that sum in a sandbox is worth. -/
noncomputable def Try.pinned : Pinned := { name := "ytaagfcdniacmnab", sum := "edec94dcf052fe7ec44015f127bcca1246704a52d21409dbe5eeb429f1479c32", checked := Try.checked }
namespace Rows
def none {H : Type} : Left H := { results := [], args := [] }

/-- 'laws.FnExactOwnWord': WHATEVER THE INPUT: true; the input reads as it did. -/
def fnExactOwnWordSpec : ChangeSpec := { name := "fnExactOwnWord", fn := fun _ => fun
  | [d1, d2, d3] => { results := [.lit (.bool true)], args := [d1, d2, d3] }
  | _ => none }
def fnExactOwnWordRow : OpenClaim := { program := "ytaagfcdniacmnab", sum := "edec94dcf052fe7ec44015f127bcca1246704a52d21409dbe5eeb429f1479c32", func := "loop.example/g01240/laws.FnExactOwnWord", spec := "fnExactOwnWord", recurses := true, apart := false }
def FnExactOwnWordSaid : Prop := fnExactOwnWordRow.holds Try.pinned (OpenSpec.ofChange fnExactOwnWordSpec)

/-- ITS FALSE NEIGHBOUR: 'it returns false'. Refute it at one input. -/
def fnExactOwnWordWrong : ChangeSpec := { name := "fnExactOwnWord", fn := fun _ => fun
  | [d1, d2, d3] => { results := [.lit (.bool false)], args := [d1, d2, d3] }
  | _ => none }
def FnExactOwnWordWrongFalsely : Prop := fnExactOwnWordRow.holds Try.pinned (OpenSpec.ofChange fnExactOwnWordWrong)

/-- 'laws.FnExactOwnDigit': WHATEVER THE INPUT: true; the input reads as it did. -/
def fnExactOwnDigitSpec : ChangeSpec := { name := "fnExactOwnDigit", fn := fun _ => fun
  | [d1, d2, d3] => { results := [.lit (.bool true)], args := [d1, d2, d3] }
  | _ => none }
def fnExactOwnDigitRow : OpenClaim := { program := "ytaagfcdniacmnab", sum := "edec94dcf052fe7ec44015f127bcca1246704a52d21409dbe5eeb429f1479c32", func := "loop.example/g01240/laws.FnExactOwnDigit", spec := "fnExactOwnDigit", apart := false }
def FnExactOwnDigitSaid : Prop := fnExactOwnDigitRow.holds Try.pinned (OpenSpec.ofChange fnExactOwnDigitSpec)

/-- ITS FALSE NEIGHBOUR: 'it returns false'. Refute it at one input. -/
def fnExactOwnDigitWrong : ChangeSpec := { name := "fnExactOwnDigit", fn := fun _ => fun
  | [d1, d2, d3] => { results := [.lit (.bool false)], args := [d1, d2, d3] }
  | _ => none }
def FnExactOwnDigitWrongFalsely : Prop := fnExactOwnDigitRow.holds Try.pinned (OpenSpec.ofChange fnExactOwnDigitWrong)

/-- 'laws.FnExactOwnCount': WHATEVER THE INPUT: true; the input reads as it did. -/
def fnExactOwnCountSpec : ChangeSpec := { name := "fnExactOwnCount", fn := fun _ => fun
  | [d1, d2, d3, d4] => { results := [.lit (.bool true)], args := [d1, d2, d3, d4] }
  | _ => none }
def fnExactOwnCountRow : OpenClaim := { program := "ytaagfcdniacmnab", sum := "edec94dcf052fe7ec44015f127bcca1246704a52d21409dbe5eeb429f1479c32", func := "loop.example/g01240/laws.FnExactOwnCount", spec := "fnExactOwnCount", inPlace := ["internal/bytealg.CountString", "internal/bytealg.IndexByteString", "internal/bytealg.IndexString"], named := ["internal/bytealg.MaxLen"], apart := false }
def FnExactOwnCountSaid : Prop := fnExactOwnCountRow.holds Try.pinned (OpenSpec.ofChange fnExactOwnCountSpec)

/-- ITS FALSE NEIGHBOUR: 'it returns false'. Refute it at one input. -/
def fnExactOwnCountWrong : ChangeSpec := { name := "fnExactOwnCount", fn := fun _ => fun
  | [d1, d2, d3, d4] => { results := [.lit (.bool false)], args := [d1, d2, d3, d4] }
  | _ => none }
def FnExactOwnCountWrongFalsely : Prop := fnExactOwnCountRow.holds Try.pinned (OpenSpec.ofChange fnExactOwnCountWrong)

/-- 'laws.FnExactOwnRun': WHATEVER THE INPUT: true; the input reads as it did. -/
def fnExactOwnRunSpec : ChangeSpec := { name := "fnExactOwnRun", fn := fun _ => fun
  | [d1, d2, d3] => { results := [.lit (.bool true)], args := [d1, d2, d3] }
  | _ => none }
def fnExactOwnRunRow : OpenClaim := { program := "ytaagfcdniacmnab", sum := "edec94dcf052fe7ec44015f127bcca1246704a52d21409dbe5eeb429f1479c32", func := "loop.example/g01240/laws.FnExactOwnRun", spec := "fnExactOwnRun", unfollowed := true, recurses := true, apart := false }
def FnExactOwnRunSaid : Prop := fnExactOwnRunRow.holds Try.pinned (OpenSpec.ofChange fnExactOwnRunSpec)

/-- ITS FALSE NEIGHBOUR: 'it returns false'. Refute it at one input. -/
def fnExactOwnRunWrong : ChangeSpec := { name := "fnExactOwnRun", fn := fun _ => fun
  | [d1, d2, d3] => { results := [.lit (.bool false)], args := [d1, d2, d3] }
  | _ => none }
def FnExactOwnRunWrongFalsely : Prop := fnExactOwnRunRow.holds Try.pinned (OpenSpec.ofChange fnExactOwnRunWrong)

/-- 'laws.FnExactIsOwnBeginning': WHATEVER THE INPUT: true; the input reads as it did. -/
def fnExactIsOwnBeginningSpec : ChangeSpec := { name := "fnExactIsOwnBeginning", fn := fun _ => fun
  | [d1, d2, d3] => { results := [.lit (.bool true)], args := [d1, d2, d3] }
  | _ => none }
def fnExactIsOwnBeginningRow : OpenClaim := { program := "ytaagfcdniacmnab", sum := "edec94dcf052fe7ec44015f127bcca1246704a52d21409dbe5eeb429f1479c32", func := "loop.example/g01240/laws.FnExactIsOwnBeginning", spec := "fnExactIsOwnBeginning", apart := false }
def FnExactIsOwnBeginningSaid : Prop := fnExactIsOwnBeginningRow.holds Try.pinned (OpenSpec.ofChange fnExactIsOwnBeginningSpec)

/-- ITS FALSE NEIGHBOUR: 'it returns false'. Refute it at one input. -/
def fnExactIsOwnBeginningWrong : ChangeSpec := { name := "fnExactIsOwnBeginning", fn := fun _ => fun
  | [d1, d2, d3] => { results := [.lit (.bool false)], args := [d1, d2, d3] }
  | _ => none }
def FnExactIsOwnBeginningWrongFalsely : Prop := fnExactIsOwnBeginningRow.holds Try.pinned (OpenSpec.ofChange fnExactIsOwnBeginningWrong)

/-- 'laws.FnExactAllOwn': WHATEVER THE INPUT: true; the input reads as it did. -/
def fnExactAllOwnSpec : ChangeSpec := { name := "fnExactAllOwn", fn := fun _ => fun
  | [d] => { results := [.lit (.bool true)], args := [d] }
  | _ => none }
def fnExactAllOwnRow : OpenClaim := { program := "ytaagfcdniacmnab", sum := "edec94dcf052fe7ec44015f127bcca1246704a52d21409dbe5eeb429f1479c32", func := "loop.example/g01240/laws.FnExactAllOwn", spec := "fnExactAllOwn", unfollowed := true, recurses := true, apart := false }
def FnExactAllOwnSaid : Prop := fnExactAllOwnRow.holds Try.pinned (OpenSpec.ofChange fnExactAllOwnSpec)

/-- ITS FALSE NEIGHBOUR: 'it returns false'. Refute it at one input. -/
def fnExactAllOwnWrong : ChangeSpec := { name := "fnExactAllOwn", fn := fun _ => fun
  | [d] => { results := [.lit (.bool false)], args := [d] }
  | _ => none }
def FnExactAllOwnWrongFalsely : Prop := fnExactAllOwnRow.holds Try.pinned (OpenSpec.ofChange fnExactAllOwnWrong)

/-- 'laws.FnExactIsWord': WHATEVER THE INPUT: true; the input reads as it did. -/
def fnExactIsWordSpec : ChangeSpec := { name := "fnExactIsWord", fn := fun _ => fun
  | [d] => { results := [.lit (.bool true)], args := [d] }
  | _ => none }
def fnExactIsWordRow : OpenClaim := { program := "ytaagfcdniacmnab", sum := "edec94dcf052fe7ec44015f127bcca1246704a52d21409dbe5eeb429f1479c32", func := "loop.example/g01240/laws.FnExactIsWord", spec := "fnExactIsWord", apart := false }
def FnExactIsWordSaid : Prop := fnExactIsWordRow.holds Try.pinned (OpenSpec.ofChange fnExactIsWordSpec)

/-- ITS FALSE NEIGHBOUR: 'it returns false'. Refute it at one input. -/
def fnExactIsWordWrong : ChangeSpec := { name := "fnExactIsWord", fn := fun _ => fun
  | [d] => { results := [.lit (.bool false)], args := [d] }
  | _ => none }
def FnExactIsWordWrongFalsely : Prop := fnExactIsWordRow.holds Try.pinned (OpenSpec.ofChange fnExactIsWordWrong)

/-- 'laws.FnExactSayWord': WHATEVER THE INPUT: true; the input reads as it did. -/
def fnExactSayWordSpec : ChangeSpec := { name := "fnExactSayWord", fn := fun _ => fun
  | [d] => { results := [.lit (.bool true)], args := [d] }
  | _ => none }
def fnExactSayWordRow : OpenClaim := { program := "ytaagfcdniacmnab", sum := "edec94dcf052fe7ec44015f127bcca1246704a52d21409dbe5eeb429f1479c32", func := "loop.example/g01240/laws.FnExactSayWord", spec := "fnExactSayWord", unfollowed := true, recurses := true, apart := false }
def FnExactSayWordSaid : Prop := fnExactSayWordRow.holds Try.pinned (OpenSpec.ofChange fnExactSayWordSpec)

/-- ITS FALSE NEIGHBOUR: 'it returns false'. Refute it at one input. -/
def fnExactSayWordWrong : ChangeSpec := { name := "fnExactSayWord", fn := fun _ => fun
  | [d] => { results := [.lit (.bool false)], args := [d] }
  | _ => none }
def FnExactSayWordWrongFalsely : Prop := fnExactSayWordRow.holds Try.pinned (OpenSpec.ofChange fnExactSayWordWrong)

/- THE SECOND FORM. 'bulk': how many values and letters a reading holds, each counted each time it is reached (what is shared counts as often as it is met; a slice's spare places count too). A statement '..UptoSaid' is the law's where the arguments, and the package variables that the reading takes, are together of bulk at most 1048576: NARROWER than '..Said'. Prove '..Said' where nothing that the law and all that it calls make is longer than what came in: it says more and counts as full. Else prove '..UptoSaid'. A law counts once. -/
mutual
def uptoBulk {H : Type} : DataW H → Nat
  | .lit (.string bytes) => bytes.length + 1
  | .lit _ => 1
  | .nil => 1
  | .ptr d => uptoBulk d + 1
  | .slice elems spare => uptoBulkAll elems + uptoBulkAll spare + 1
  | .agg parts => uptoBulkAll parts + 1
  | .iface _ d => uptoBulk d + 1
  | .map entries => uptoBulkEntries entries + 1
  | .held _ => 1
def uptoBulkAll {H : Type} : List (DataW H) → Nat
  | [] => 0
  | d :: r => uptoBulk d + uptoBulkAll r
def uptoBulkEntries {H : Type} : List (Lit × DataW H) → Nat
  | [] => 0
  | x :: r => uptoBulkEntry x + uptoBulkEntries r
def uptoBulkEntry {H : Type} : Lit × DataW H → Nat
  | (.string bytes, d) => bytes.length + uptoBulk d + 1
  | (_, d) => uptoBulk d + 1
 end
def uptoSmall : (H : Type) → List (DataW H) → Bool := fun _ ds => decide (uptoBulkAll ds ≤ 1048576)
def OpenSpec.upto (s : _root_.Go.ChangeSpec) : _root_.Go.OpenSpec := { _root_.Go.OpenSpec.ofChange s with cond := some uptoSmall }

/-- 'laws.FnExactOwnWord', WHERE WHAT IT READS IS OF BULK AT MOST 1048576: true; the input reads as it did. -/
def fnExactOwnWordUptoRow : OpenClaim := { program := "ytaagfcdniacmnab", sum := "edec94dcf052fe7ec44015f127bcca1246704a52d21409dbe5eeb429f1479c32", func := "loop.example/g01240/laws.FnExactOwnWord", spec := "fnExactOwnWord", recurses := true, apart := false, narrowed := true }
def FnExactOwnWordUptoSaid : Prop := fnExactOwnWordUptoRow.holds Try.pinned (OpenSpec.upto fnExactOwnWordSpec)

/-- 'laws.FnExactOwnDigit', WHERE WHAT IT READS IS OF BULK AT MOST 1048576: true; the input reads as it did. -/
def fnExactOwnDigitUptoRow : OpenClaim := { program := "ytaagfcdniacmnab", sum := "edec94dcf052fe7ec44015f127bcca1246704a52d21409dbe5eeb429f1479c32", func := "loop.example/g01240/laws.FnExactOwnDigit", spec := "fnExactOwnDigit", apart := false, narrowed := true }
def FnExactOwnDigitUptoSaid : Prop := fnExactOwnDigitUptoRow.holds Try.pinned (OpenSpec.upto fnExactOwnDigitSpec)

/-- 'laws.FnExactOwnCount', WHERE WHAT IT READS IS OF BULK AT MOST 1048576: true; the input reads as it did. -/
def fnExactOwnCountUptoRow : OpenClaim := { program := "ytaagfcdniacmnab", sum := "edec94dcf052fe7ec44015f127bcca1246704a52d21409dbe5eeb429f1479c32", func := "loop.example/g01240/laws.FnExactOwnCount", spec := "fnExactOwnCount", inPlace := ["internal/bytealg.CountString", "internal/bytealg.IndexByteString", "internal/bytealg.IndexString"], named := ["internal/bytealg.MaxLen"], apart := false, narrowed := true }
def FnExactOwnCountUptoSaid : Prop := fnExactOwnCountUptoRow.holds Try.pinned (OpenSpec.upto fnExactOwnCountSpec)

/-- 'laws.FnExactOwnRun', WHERE WHAT IT READS IS OF BULK AT MOST 1048576: true; the input reads as it did. -/
def fnExactOwnRunUptoRow : OpenClaim := { program := "ytaagfcdniacmnab", sum := "edec94dcf052fe7ec44015f127bcca1246704a52d21409dbe5eeb429f1479c32", func := "loop.example/g01240/laws.FnExactOwnRun", spec := "fnExactOwnRun", unfollowed := true, recurses := true, apart := false, narrowed := true }
def FnExactOwnRunUptoSaid : Prop := fnExactOwnRunUptoRow.holds Try.pinned (OpenSpec.upto fnExactOwnRunSpec)

/-- 'laws.FnExactIsOwnBeginning', WHERE WHAT IT READS IS OF BULK AT MOST 1048576: true; the input reads as it did. -/
def fnExactIsOwnBeginningUptoRow : OpenClaim := { program := "ytaagfcdniacmnab", sum := "edec94dcf052fe7ec44015f127bcca1246704a52d21409dbe5eeb429f1479c32", func := "loop.example/g01240/laws.FnExactIsOwnBeginning", spec := "fnExactIsOwnBeginning", apart := false, narrowed := true }
def FnExactIsOwnBeginningUptoSaid : Prop := fnExactIsOwnBeginningUptoRow.holds Try.pinned (OpenSpec.upto fnExactIsOwnBeginningSpec)

/-- 'laws.FnExactAllOwn', WHERE WHAT IT READS IS OF BULK AT MOST 1048576: true; the input reads as it did. -/
def fnExactAllOwnUptoRow : OpenClaim := { program := "ytaagfcdniacmnab", sum := "edec94dcf052fe7ec44015f127bcca1246704a52d21409dbe5eeb429f1479c32", func := "loop.example/g01240/laws.FnExactAllOwn", spec := "fnExactAllOwn", unfollowed := true, recurses := true, apart := false, narrowed := true }
def FnExactAllOwnUptoSaid : Prop := fnExactAllOwnUptoRow.holds Try.pinned (OpenSpec.upto fnExactAllOwnSpec)

/-- 'laws.FnExactIsWord', WHERE WHAT IT READS IS OF BULK AT MOST 1048576: true; the input reads as it did. -/
def fnExactIsWordUptoRow : OpenClaim := { program := "ytaagfcdniacmnab", sum := "edec94dcf052fe7ec44015f127bcca1246704a52d21409dbe5eeb429f1479c32", func := "loop.example/g01240/laws.FnExactIsWord", spec := "fnExactIsWord", apart := false, narrowed := true }
def FnExactIsWordUptoSaid : Prop := fnExactIsWordUptoRow.holds Try.pinned (OpenSpec.upto fnExactIsWordSpec)

/-- 'laws.FnExactSayWord', WHERE WHAT IT READS IS OF BULK AT MOST 1048576: true; the input reads as it did. -/
def fnExactSayWordUptoRow : OpenClaim := { program := "ytaagfcdniacmnab", sum := "edec94dcf052fe7ec44015f127bcca1246704a52d21409dbe5eeb429f1479c32", func := "loop.example/g01240/laws.FnExactSayWord", spec := "fnExactSayWord", unfollowed := true, recurses := true, apart := false, narrowed := true }
def FnExactSayWordUptoSaid : Prop := fnExactSayWordUptoRow.holds Try.pinned (OpenSpec.upto fnExactSayWordSpec)

end Rows
end Go.Proofs.Ytaagfcdniacmnab
