/-
  NARROWER THAN 'FOR EVERY INPUT', by the rows' own cells (each row's printed sentence says how): FnExactExchangeWord: laid · FnExactDerivedOf: laid · FnExactIsSmooth: laid · FnExactDepthOf: laid · FnExactCountSmooth: laid · FnExactAllSmooth: laid · FnExactWordsDerivedTo: laid.
  DERIVED. THE GIVEN ROWS OF THIS SEAT. 7 by the template 'for every input the law returns true; each argument reads behind the call as it read before'; 0 by the template 'total and deterministic' (their statements: YtaagfcdniacmnaaDoorTotals.lean).
  GIVEN WITH THE SEED: the statements are not yours to turn. If you find one false, say at which input.
  Laid BY PROGRAM, IN A SANDBOX (cutbox-rows.mjs): the forced cells as the released guide's own fill.sh prints them over the translation 57400a52616d38c1… (all of the seat's roots in one cut). By AI agents, Wed Nov 11 2026. No macro, syntax, notation, axiom, sorry.
-/
import Derived.Test.YtaagfcdniacmnaaDoorChecked
import GoSem.PinnedTables
import GoSem.Claim
import GoSem.ClaimJoined
import GoSem.ClaimMapViews
import Derived.JoinedTies
import Derived.KernelRfl
namespace Go.Proofs.YtaagfcdniacmnaaDoor
/- THE CELL 'sum', in the pinned program and in every row, IS THE sha256 OF THE DUMP (.gsa) THAT YtaagfcdniacmnaaDoorProg.lean LOADS. Nothing in Lean hashes anything: it is a label: what it is worth is what the hold of that sum in a sandbox is worth. -/
noncomputable def Tryd.pinned : Pinned := { name := "ytaagfcdniacmnaadoor", sum := "57400a52616d38c1f9ed84dad28be7c2bf81d4af6e96a8657d11efeca7ee139f", checked := Tryd.checked }
namespace Rows
def none {H : Type} : Left H := { results := [], args := [] }

/- WHAT THE LISTED PACKAGE-LEVEL VARIABLES READ AS WHEN THE CALL BEGINS. Each datum BY PROGRAM (the guide's laid-datum.mjs) off the statement by which the dump's own 'gosem.cut.vars' lays the variable. In a bare row this is a premise. The card (YtaagfcdniacmnaaDoorCards.lean) ties it to the program's text. -/
def laid_unicode_utf8_acceptRanges {H : Type} : DataW H := .agg [.agg [.lit (.int .u8 128), .lit (.int .u8 191)], .agg [.lit (.int .u8 160), .lit (.int .u8 191)], .agg [.lit (.int .u8 128), .lit (.int .u8 159)], .agg [.lit (.int .u8 144), .lit (.int .u8 191)], .agg [.lit (.int .u8 128), .lit (.int .u8 143)], .agg [.lit (.int .u8 0), .lit (.int .u8 0)], .agg [.lit (.int .u8 0), .lit (.int .u8 0)], .agg [.lit (.int .u8 0), .lit (.int .u8 0)], .agg [.lit (.int .u8 0), .lit (.int .u8 0)], .agg [.lit (.int .u8 0), .lit (.int .u8 0)], .agg [.lit (.int .u8 0), .lit (.int .u8 0)], .agg [.lit (.int .u8 0), .lit (.int .u8 0)], .agg [.lit (.int .u8 0), .lit (.int .u8 0)], .agg [.lit (.int .u8 0), .lit (.int .u8 0)], .agg [.lit (.int .u8 0), .lit (.int .u8 0)], .agg [.lit (.int .u8 0), .lit (.int .u8 0)]]
/-- One of Go's own tables, pinned by name: the form's constant. -/
def laid_unicode_utf8_first : DataW Unit := Go.Pinned.utf8First

/-- 'laws.FnExactExchangeWord': WHATEVER THE INPUT: true; the input reads as it did. -/
def fnExactExchangeWordSpec : ChangeSpec := { name := "fnExactExchangeWord", fn := fun _ => fun
  | [d] => { results := [.lit (.bool true)], args := [d] }
  | _ => none }
def fnExactExchangeWordRow : OpenClaim := { program := "ytaagfcdniacmnaadoor", sum := "57400a52616d38c1f9ed84dad28be7c2bf81d4af6e96a8657d11efeca7ee139f", func := "loop.example/g01240/laws.FnExactExchangeWord", spec := "fnExactExchangeWord", inPlace := ["internal/bytealg.IndexByteString", "internal/bytealg.IndexString", "sync/atomic.LoadUint32", "(*internal/sync.Mutex).Lock", "internal/race.Disable", "sync/atomic.CompareAndSwapInt32", "internal/race.Enable", "internal/race.Acquire", "(*internal/sync.Mutex).lockSlow", "internal/sync.runtime_canSpin", "internal/sync.runtime_doSpin", "internal/sync.throw", "internal/sync.runtime_nanotime", "internal/sync.runtime_SemacquireMutex", "sync/atomic.AddInt32", "(*internal/sync.Mutex).Unlock", "internal/race.ReleaseMerge", "(*internal/sync.Mutex).unlockSlow", "internal/sync.fatal", "internal/sync.runtime_Semrelease", "sync/atomic.StoreUint32"], unfollowed := true, recurses := true, named := ["unicode/utf8.first", "unicode/utf8.acceptRanges", "internal/bytealg.MaxLen"], apart := false, laid := [("unicode/utf8.acceptRanges", laid_unicode_utf8_acceptRanges), ("unicode/utf8.first", laid_unicode_utf8_first)] }
def FnExactExchangeWordSaid : Prop := fnExactExchangeWordRow.holds Tryd.pinned (OpenSpec.ofChange fnExactExchangeWordSpec)

/-- ITS FALSE NEIGHBOUR: 'it returns false'. Refute it at one input. -/
def fnExactExchangeWordWrong : ChangeSpec := { name := "fnExactExchangeWord", fn := fun _ => fun
  | [d] => { results := [.lit (.bool false)], args := [d] }
  | _ => none }
def FnExactExchangeWordWrongFalsely : Prop := fnExactExchangeWordRow.holds Tryd.pinned (OpenSpec.ofChange fnExactExchangeWordWrong)

/-- 'laws.FnExactDerivedOf': WHATEVER THE INPUT: true; the input reads as it did. -/
def fnExactDerivedOfSpec : ChangeSpec := { name := "fnExactDerivedOf", fn := fun _ => fun
  | [d] => { results := [.lit (.bool true)], args := [d] }
  | _ => none }
def fnExactDerivedOfRow : OpenClaim := { program := "ytaagfcdniacmnaadoor", sum := "57400a52616d38c1f9ed84dad28be7c2bf81d4af6e96a8657d11efeca7ee139f", func := "loop.example/g01240/laws.FnExactDerivedOf", spec := "fnExactDerivedOf", inPlace := ["internal/bytealg.IndexByteString", "internal/bytealg.IndexString"], unfollowed := true, recurses := true, named := ["unicode/utf8.first", "unicode/utf8.acceptRanges", "internal/bytealg.MaxLen"], apart := false, laid := [("unicode/utf8.acceptRanges", laid_unicode_utf8_acceptRanges), ("unicode/utf8.first", laid_unicode_utf8_first)] }
def FnExactDerivedOfSaid : Prop := fnExactDerivedOfRow.holds Tryd.pinned (OpenSpec.ofChange fnExactDerivedOfSpec)

/-- ITS FALSE NEIGHBOUR: 'it returns false'. Refute it at one input. -/
def fnExactDerivedOfWrong : ChangeSpec := { name := "fnExactDerivedOf", fn := fun _ => fun
  | [d] => { results := [.lit (.bool false)], args := [d] }
  | _ => none }
def FnExactDerivedOfWrongFalsely : Prop := fnExactDerivedOfRow.holds Tryd.pinned (OpenSpec.ofChange fnExactDerivedOfWrong)

/-- 'laws.FnExactIsSmooth': WHATEVER THE INPUT: true; the input reads as it did. -/
def fnExactIsSmoothSpec : ChangeSpec := { name := "fnExactIsSmooth", fn := fun _ => fun
  | [d] => { results := [.lit (.bool true)], args := [d] }
  | _ => none }
def fnExactIsSmoothRow : OpenClaim := { program := "ytaagfcdniacmnaadoor", sum := "57400a52616d38c1f9ed84dad28be7c2bf81d4af6e96a8657d11efeca7ee139f", func := "loop.example/g01240/laws.FnExactIsSmooth", spec := "fnExactIsSmooth", inPlace := ["internal/bytealg.IndexByteString", "internal/bytealg.IndexString"], unfollowed := true, recurses := true, named := ["unicode/utf8.first", "unicode/utf8.acceptRanges", "internal/bytealg.MaxLen"], apart := false, laid := [("unicode/utf8.acceptRanges", laid_unicode_utf8_acceptRanges), ("unicode/utf8.first", laid_unicode_utf8_first)] }
def FnExactIsSmoothSaid : Prop := fnExactIsSmoothRow.holds Tryd.pinned (OpenSpec.ofChange fnExactIsSmoothSpec)

/-- ITS FALSE NEIGHBOUR: 'it returns false'. Refute it at one input. -/
def fnExactIsSmoothWrong : ChangeSpec := { name := "fnExactIsSmooth", fn := fun _ => fun
  | [d] => { results := [.lit (.bool false)], args := [d] }
  | _ => none }
def FnExactIsSmoothWrongFalsely : Prop := fnExactIsSmoothRow.holds Tryd.pinned (OpenSpec.ofChange fnExactIsSmoothWrong)

/-- 'laws.FnExactDepthOf': WHATEVER THE INPUT: true; the input reads as it did. -/
def fnExactDepthOfSpec : ChangeSpec := { name := "fnExactDepthOf", fn := fun _ => fun
  | [d] => { results := [.lit (.bool true)], args := [d] }
  | _ => none }
def fnExactDepthOfRow : OpenClaim := { program := "ytaagfcdniacmnaadoor", sum := "57400a52616d38c1f9ed84dad28be7c2bf81d4af6e96a8657d11efeca7ee139f", func := "loop.example/g01240/laws.FnExactDepthOf", spec := "fnExactDepthOf", inPlace := ["internal/bytealg.IndexByteString", "internal/bytealg.IndexString"], unfollowed := true, recurses := true, named := ["unicode/utf8.first", "unicode/utf8.acceptRanges", "internal/bytealg.MaxLen"], apart := false, laid := [("unicode/utf8.acceptRanges", laid_unicode_utf8_acceptRanges), ("unicode/utf8.first", laid_unicode_utf8_first)] }
def FnExactDepthOfSaid : Prop := fnExactDepthOfRow.holds Tryd.pinned (OpenSpec.ofChange fnExactDepthOfSpec)

/-- ITS FALSE NEIGHBOUR: 'it returns false'. Refute it at one input. -/
def fnExactDepthOfWrong : ChangeSpec := { name := "fnExactDepthOf", fn := fun _ => fun
  | [d] => { results := [.lit (.bool false)], args := [d] }
  | _ => none }
def FnExactDepthOfWrongFalsely : Prop := fnExactDepthOfRow.holds Tryd.pinned (OpenSpec.ofChange fnExactDepthOfWrong)

/-- 'laws.FnExactCountSmooth': WHATEVER THE INPUT: true; the input reads as it did. -/
def fnExactCountSmoothSpec : ChangeSpec := { name := "fnExactCountSmooth", fn := fun _ => fun
  | [d] => { results := [.lit (.bool true)], args := [d] }
  | _ => none }
def fnExactCountSmoothRow : OpenClaim := { program := "ytaagfcdniacmnaadoor", sum := "57400a52616d38c1f9ed84dad28be7c2bf81d4af6e96a8657d11efeca7ee139f", func := "loop.example/g01240/laws.FnExactCountSmooth", spec := "fnExactCountSmooth", inPlace := ["internal/bytealg.IndexByteString", "internal/bytealg.IndexString"], unfollowed := true, recurses := true, named := ["unicode/utf8.first", "unicode/utf8.acceptRanges", "internal/bytealg.MaxLen"], apart := false, laid := [("unicode/utf8.acceptRanges", laid_unicode_utf8_acceptRanges), ("unicode/utf8.first", laid_unicode_utf8_first)] }
def FnExactCountSmoothSaid : Prop := fnExactCountSmoothRow.holds Tryd.pinned (OpenSpec.ofChange fnExactCountSmoothSpec)

/-- ITS FALSE NEIGHBOUR: 'it returns false'. Refute it at one input. -/
def fnExactCountSmoothWrong : ChangeSpec := { name := "fnExactCountSmooth", fn := fun _ => fun
  | [d] => { results := [.lit (.bool false)], args := [d] }
  | _ => none }
def FnExactCountSmoothWrongFalsely : Prop := fnExactCountSmoothRow.holds Tryd.pinned (OpenSpec.ofChange fnExactCountSmoothWrong)

/-- 'laws.FnExactAllSmooth': WHATEVER THE INPUT: true; the input reads as it did. -/
def fnExactAllSmoothSpec : ChangeSpec := { name := "fnExactAllSmooth", fn := fun _ => fun
  | [d] => { results := [.lit (.bool true)], args := [d] }
  | _ => none }
def fnExactAllSmoothRow : OpenClaim := { program := "ytaagfcdniacmnaadoor", sum := "57400a52616d38c1f9ed84dad28be7c2bf81d4af6e96a8657d11efeca7ee139f", func := "loop.example/g01240/laws.FnExactAllSmooth", spec := "fnExactAllSmooth", inPlace := ["internal/bytealg.IndexByteString", "internal/bytealg.IndexString"], unfollowed := true, recurses := true, named := ["unicode/utf8.first", "unicode/utf8.acceptRanges", "internal/bytealg.MaxLen"], apart := false, laid := [("unicode/utf8.acceptRanges", laid_unicode_utf8_acceptRanges), ("unicode/utf8.first", laid_unicode_utf8_first)] }
def FnExactAllSmoothSaid : Prop := fnExactAllSmoothRow.holds Tryd.pinned (OpenSpec.ofChange fnExactAllSmoothSpec)

/-- ITS FALSE NEIGHBOUR: 'it returns false'. Refute it at one input. -/
def fnExactAllSmoothWrong : ChangeSpec := { name := "fnExactAllSmooth", fn := fun _ => fun
  | [d] => { results := [.lit (.bool false)], args := [d] }
  | _ => none }
def FnExactAllSmoothWrongFalsely : Prop := fnExactAllSmoothRow.holds Tryd.pinned (OpenSpec.ofChange fnExactAllSmoothWrong)

/-- 'laws.FnExactWordsDerivedTo': WHATEVER THE INPUT: true; the input reads as it did. -/
def fnExactWordsDerivedToSpec : ChangeSpec := { name := "fnExactWordsDerivedTo", fn := fun _ => fun
  | [d] => { results := [.lit (.bool true)], args := [d] }
  | _ => none }
def fnExactWordsDerivedToRow : OpenClaim := { program := "ytaagfcdniacmnaadoor", sum := "57400a52616d38c1f9ed84dad28be7c2bf81d4af6e96a8657d11efeca7ee139f", func := "loop.example/g01240/laws.FnExactWordsDerivedTo", spec := "fnExactWordsDerivedTo", inPlace := ["internal/bytealg.IndexByteString", "internal/bytealg.IndexString", "internal/bytealg.MakeNoZero"], recurses := true, named := ["unicode/utf8.first", "unicode/utf8.acceptRanges", "internal/bytealg.MaxLen"], apart := false, laid := [("unicode/utf8.acceptRanges", laid_unicode_utf8_acceptRanges), ("unicode/utf8.first", laid_unicode_utf8_first)] }
def FnExactWordsDerivedToSaid : Prop := fnExactWordsDerivedToRow.holds Tryd.pinned (OpenSpec.ofChange fnExactWordsDerivedToSpec)

/-- ITS FALSE NEIGHBOUR: 'it returns false'. Refute it at one input. -/
def fnExactWordsDerivedToWrong : ChangeSpec := { name := "fnExactWordsDerivedTo", fn := fun _ => fun
  | [d] => { results := [.lit (.bool false)], args := [d] }
  | _ => none }
def FnExactWordsDerivedToWrongFalsely : Prop := fnExactWordsDerivedToRow.holds Tryd.pinned (OpenSpec.ofChange fnExactWordsDerivedToWrong)

/- THE SECOND FORM. 'bulk': how many values and letters a reading holds, each counted each time it is reached (what is shared counts as often as it is met; a slice's spare places count too). A statement '..UptoSaid' is the law's where the arguments, and the package variables that the reading takes, are together of bulk at most 1048576: NARROWER than '..Said'. Prove '..Said' where nothing that the law and all that it calls make is longer than what came in: it says more and counts as full. Else prove '..UptoSaid'. A law counts once. -/
mutual
def uptoBulk {H : Type} : DataW H → Nat
  | .lit (.string bytes) => bytes.length + 1
  | .lit _ => 1
  | .nil => 1
  | .ptr d => uptoBulk d + 1
  | .slice elems spare => uptoBulkAll elems + uptoBulkAll spare + 1
  | .agg parts => uptoBulkAll parts + 1
  | .iface _ d => uptoBulk d + 1
  | .map entries => uptoBulkEntries entries + 1
  | .held _ => 1
def uptoBulkAll {H : Type} : List (DataW H) → Nat
  | [] => 0
  | d :: r => uptoBulk d + uptoBulkAll r
def uptoBulkEntries {H : Type} : List (Lit × DataW H) → Nat
  | [] => 0
  | x :: r => uptoBulkEntry x + uptoBulkEntries r
def uptoBulkEntry {H : Type} : Lit × DataW H → Nat
  | (.string bytes, d) => bytes.length + uptoBulk d + 1
  | (_, d) => uptoBulk d + 1
 end
def uptoSmall : (H : Type) → List (DataW H) → Bool := fun _ ds => decide (uptoBulkAll ds ≤ 1048576)
def OpenSpec.upto (s : _root_.Go.ChangeSpec) : _root_.Go.OpenSpec := { _root_.Go.OpenSpec.ofChange s with cond := some uptoSmall }

/-- 'laws.FnExactExchangeWord', WHERE WHAT IT READS IS OF BULK AT MOST 1048576: true; the input reads as it did. -/
def fnExactExchangeWordUptoRow : OpenClaim := { program := "ytaagfcdniacmnaadoor", sum := "57400a52616d38c1f9ed84dad28be7c2bf81d4af6e96a8657d11efeca7ee139f", func := "loop.example/g01240/laws.FnExactExchangeWord", spec := "fnExactExchangeWord", inPlace := ["internal/bytealg.IndexByteString", "internal/bytealg.IndexString", "sync/atomic.LoadUint32", "(*internal/sync.Mutex).Lock", "internal/race.Disable", "sync/atomic.CompareAndSwapInt32", "internal/race.Enable", "internal/race.Acquire", "(*internal/sync.Mutex).lockSlow", "internal/sync.runtime_canSpin", "internal/sync.runtime_doSpin", "internal/sync.throw", "internal/sync.runtime_nanotime", "internal/sync.runtime_SemacquireMutex", "sync/atomic.AddInt32", "(*internal/sync.Mutex).Unlock", "internal/race.ReleaseMerge", "(*internal/sync.Mutex).unlockSlow", "internal/sync.fatal", "internal/sync.runtime_Semrelease", "sync/atomic.StoreUint32"], unfollowed := true, recurses := true, named := ["unicode/utf8.first", "unicode/utf8.acceptRanges", "internal/bytealg.MaxLen"], apart := false, laid := [("unicode/utf8.acceptRanges", laid_unicode_utf8_acceptRanges), ("unicode/utf8.first", laid_unicode_utf8_first)], narrowed := true }
def FnExactExchangeWordUptoSaid : Prop := fnExactExchangeWordUptoRow.holds Tryd.pinned (OpenSpec.upto fnExactExchangeWordSpec)

/-- 'laws.FnExactDerivedOf', WHERE WHAT IT READS IS OF BULK AT MOST 1048576: true; the input reads as it did. -/
def fnExactDerivedOfUptoRow : OpenClaim := { program := "ytaagfcdniacmnaadoor", sum := "57400a52616d38c1f9ed84dad28be7c2bf81d4af6e96a8657d11efeca7ee139f", func := "loop.example/g01240/laws.FnExactDerivedOf", spec := "fnExactDerivedOf", inPlace := ["internal/bytealg.IndexByteString", "internal/bytealg.IndexString"], unfollowed := true, recurses := true, named := ["unicode/utf8.first", "unicode/utf8.acceptRanges", "internal/bytealg.MaxLen"], apart := false, laid := [("unicode/utf8.acceptRanges", laid_unicode_utf8_acceptRanges), ("unicode/utf8.first", laid_unicode_utf8_first)], narrowed := true }
def FnExactDerivedOfUptoSaid : Prop := fnExactDerivedOfUptoRow.holds Tryd.pinned (OpenSpec.upto fnExactDerivedOfSpec)

/-- 'laws.FnExactIsSmooth', WHERE WHAT IT READS IS OF BULK AT MOST 1048576: true; the input reads as it did. -/
def fnExactIsSmoothUptoRow : OpenClaim := { program := "ytaagfcdniacmnaadoor", sum := "57400a52616d38c1f9ed84dad28be7c2bf81d4af6e96a8657d11efeca7ee139f", func := "loop.example/g01240/laws.FnExactIsSmooth", spec := "fnExactIsSmooth", inPlace := ["internal/bytealg.IndexByteString", "internal/bytealg.IndexString"], unfollowed := true, recurses := true, named := ["unicode/utf8.first", "unicode/utf8.acceptRanges", "internal/bytealg.MaxLen"], apart := false, laid := [("unicode/utf8.acceptRanges", laid_unicode_utf8_acceptRanges), ("unicode/utf8.first", laid_unicode_utf8_first)], narrowed := true }
def FnExactIsSmoothUptoSaid : Prop := fnExactIsSmoothUptoRow.holds Tryd.pinned (OpenSpec.upto fnExactIsSmoothSpec)

/-- 'laws.FnExactDepthOf', WHERE WHAT IT READS IS OF BULK AT MOST 1048576: true; the input reads as it did. -/
def fnExactDepthOfUptoRow : OpenClaim := { program := "ytaagfcdniacmnaadoor", sum := "57400a52616d38c1f9ed84dad28be7c2bf81d4af6e96a8657d11efeca7ee139f", func := "loop.example/g01240/laws.FnExactDepthOf", spec := "fnExactDepthOf", inPlace := ["internal/bytealg.IndexByteString", "internal/bytealg.IndexString"], unfollowed := true, recurses := true, named := ["unicode/utf8.first", "unicode/utf8.acceptRanges", "internal/bytealg.MaxLen"], apart := false, laid := [("unicode/utf8.acceptRanges", laid_unicode_utf8_acceptRanges), ("unicode/utf8.first", laid_unicode_utf8_first)], narrowed := true }
def FnExactDepthOfUptoSaid : Prop := fnExactDepthOfUptoRow.holds Tryd.pinned (OpenSpec.upto fnExactDepthOfSpec)

/-- 'laws.FnExactCountSmooth', WHERE WHAT IT READS IS OF BULK AT MOST 1048576: true; the input reads as it did. -/
def fnExactCountSmoothUptoRow : OpenClaim := { program := "ytaagfcdniacmnaadoor", sum := "57400a52616d38c1f9ed84dad28be7c2bf81d4af6e96a8657d11efeca7ee139f", func := "loop.example/g01240/laws.FnExactCountSmooth", spec := "fnExactCountSmooth", inPlace := ["internal/bytealg.IndexByteString", "internal/bytealg.IndexString"], unfollowed := true, recurses := true, named := ["unicode/utf8.first", "unicode/utf8.acceptRanges", "internal/bytealg.MaxLen"], apart := false, laid := [("unicode/utf8.acceptRanges", laid_unicode_utf8_acceptRanges), ("unicode/utf8.first", laid_unicode_utf8_first)], narrowed := true }
def FnExactCountSmoothUptoSaid : Prop := fnExactCountSmoothUptoRow.holds Tryd.pinned (OpenSpec.upto fnExactCountSmoothSpec)

/-- 'laws.FnExactAllSmooth', WHERE WHAT IT READS IS OF BULK AT MOST 1048576: true; the input reads as it did. -/
def fnExactAllSmoothUptoRow : OpenClaim := { program := "ytaagfcdniacmnaadoor", sum := "57400a52616d38c1f9ed84dad28be7c2bf81d4af6e96a8657d11efeca7ee139f", func := "loop.example/g01240/laws.FnExactAllSmooth", spec := "fnExactAllSmooth", inPlace := ["internal/bytealg.IndexByteString", "internal/bytealg.IndexString"], unfollowed := true, recurses := true, named := ["unicode/utf8.first", "unicode/utf8.acceptRanges", "internal/bytealg.MaxLen"], apart := false, laid := [("unicode/utf8.acceptRanges", laid_unicode_utf8_acceptRanges), ("unicode/utf8.first", laid_unicode_utf8_first)], narrowed := true }
def FnExactAllSmoothUptoSaid : Prop := fnExactAllSmoothUptoRow.holds Tryd.pinned (OpenSpec.upto fnExactAllSmoothSpec)

/-- 'laws.FnExactWordsDerivedTo', WHERE WHAT IT READS IS OF BULK AT MOST 1048576: true; the input reads as it did. -/
def fnExactWordsDerivedToUptoRow : OpenClaim := { program := "ytaagfcdniacmnaadoor", sum := "57400a52616d38c1f9ed84dad28be7c2bf81d4af6e96a8657d11efeca7ee139f", func := "loop.example/g01240/laws.FnExactWordsDerivedTo", spec := "fnExactWordsDerivedTo", inPlace := ["internal/bytealg.IndexByteString", "internal/bytealg.IndexString", "internal/bytealg.MakeNoZero"], recurses := true, named := ["unicode/utf8.first", "unicode/utf8.acceptRanges", "internal/bytealg.MaxLen"], apart := false, laid := [("unicode/utf8.acceptRanges", laid_unicode_utf8_acceptRanges), ("unicode/utf8.first", laid_unicode_utf8_first)], narrowed := true }
def FnExactWordsDerivedToUptoSaid : Prop := fnExactWordsDerivedToUptoRow.holds Tryd.pinned (OpenSpec.upto fnExactWordsDerivedToSpec)

end Rows
end Go.Proofs.YtaagfcdniacmnaaDoor
