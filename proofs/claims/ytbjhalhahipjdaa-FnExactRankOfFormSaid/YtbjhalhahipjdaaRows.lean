/-
  No cell of these rows narrows 'for every input' (looked for: loops, veiled, ifaces, maps, wideKeys, modest, calm, conditions, laid).
  DERIVED. THE GIVEN ROWS OF THIS SEAT. 12 by the template 'for every input the law returns true; each argument reads behind the call as it read before'; 0 by the template 'total and deterministic' (their statements: YtbjhalhahipjdaaTotals.lean).
  GIVEN WITH THE SEED: the statements are not yours to turn. If you find one false, say at which input.
  Laid BY PROGRAM, IN A SANDBOX (cutbox-rows.mjs): the forced cells as the released guide's own fill.sh prints them over the translation c07d07f2d570ac63… (all of the seat's roots in one cut). By AI agents, Wed Nov 11 2026. No macro, syntax, notation, axiom, sorry.
-/
import Derived.Test.YtbjhalhahipjdaaChecked
import GoSem.Claim
import GoSem.ClaimJoined
import GoSem.ClaimMapViews
import Derived.JoinedTies
import Derived.KernelRfl
namespace Go.Proofs.Ytbjhalhahipjdaa
/- THE CELL 'sum', in the pinned program and in every row, IS THE sha256 OF THE DUMP (.gsa) THAT YtbjhalhahipjdaaProg.lean LOADS. Nothing in Lean hashes anything: it is a label: what it is worth is what the hold of that sum in a sandbox is worth. -/
noncomputable def Try.pinned : Pinned := { name := "ytbjhalhahipjdaa", sum := "c07d07f2d570ac63bc38ee297026d4de85f79cbc3614c808f3459ed9c35d1d51", checked := Try.checked }
namespace Rows
def none {H : Type} : Left H := { results := [], args := [] }

/-- 'laws.FnExactDistancesBack': WHATEVER THE INPUT: true; the input reads as it did. -/
def fnExactDistancesBackSpec : ChangeSpec := { name := "fnExactDistancesBack", fn := fun _ => fun
  | [d] => { results := [.lit (.bool true)], args := [d] }
  | _ => none }
def fnExactDistancesBackRow : OpenClaim := { program := "ytbjhalhahipjdaa", sum := "c07d07f2d570ac63bc38ee297026d4de85f79cbc3614c808f3459ed9c35d1d51", func := "loop.example/g01240/laws.FnExactDistancesBack", spec := "fnExactDistancesBack", unfollowed := true, recurses := true, apart := false }
def FnExactDistancesBackSaid : Prop := fnExactDistancesBackRow.holds Try.pinned (OpenSpec.ofChange fnExactDistancesBackSpec)

/-- ITS FALSE NEIGHBOUR: 'it returns false'. Refute it at one input. -/
def fnExactDistancesBackWrong : ChangeSpec := { name := "fnExactDistancesBack", fn := fun _ => fun
  | [d] => { results := [.lit (.bool false)], args := [d] }
  | _ => none }
def FnExactDistancesBackWrongFalsely : Prop := fnExactDistancesBackRow.holds Try.pinned (OpenSpec.ofChange fnExactDistancesBackWrong)

/-- 'laws.FnExactDistancesAhead': WHATEVER THE INPUT: true; the input reads as it did. -/
def fnExactDistancesAheadSpec : ChangeSpec := { name := "fnExactDistancesAhead", fn := fun _ => fun
  | [d] => { results := [.lit (.bool true)], args := [d] }
  | _ => none }
def fnExactDistancesAheadRow : OpenClaim := { program := "ytbjhalhahipjdaa", sum := "c07d07f2d570ac63bc38ee297026d4de85f79cbc3614c808f3459ed9c35d1d51", func := "loop.example/g01240/laws.FnExactDistancesAhead", spec := "fnExactDistancesAhead", unfollowed := true, recurses := true, apart := false }
def FnExactDistancesAheadSaid : Prop := fnExactDistancesAheadRow.holds Try.pinned (OpenSpec.ofChange fnExactDistancesAheadSpec)

/-- ITS FALSE NEIGHBOUR: 'it returns false'. Refute it at one input. -/
def fnExactDistancesAheadWrong : ChangeSpec := { name := "fnExactDistancesAhead", fn := fun _ => fun
  | [d] => { results := [.lit (.bool false)], args := [d] }
  | _ => none }
def FnExactDistancesAheadWrongFalsely : Prop := fnExactDistancesAheadRow.holds Try.pinned (OpenSpec.ofChange fnExactDistancesAheadWrong)

/-- 'laws.FnExactFormOfList': WHATEVER THE INPUT: true; the input reads as it did. -/
def fnExactFormOfListSpec : ChangeSpec := { name := "fnExactFormOfList", fn := fun _ => fun
  | [d] => { results := [.lit (.bool true)], args := [d] }
  | _ => none }
def fnExactFormOfListRow : OpenClaim := { program := "ytbjhalhahipjdaa", sum := "c07d07f2d570ac63bc38ee297026d4de85f79cbc3614c808f3459ed9c35d1d51", func := "loop.example/g01240/laws.FnExactFormOfList", spec := "fnExactFormOfList", unfollowed := true, recurses := true, apart := false }
def FnExactFormOfListSaid : Prop := fnExactFormOfListRow.holds Try.pinned (OpenSpec.ofChange fnExactFormOfListSpec)

/-- ITS FALSE NEIGHBOUR: 'it returns false'. Refute it at one input. -/
def fnExactFormOfListWrong : ChangeSpec := { name := "fnExactFormOfList", fn := fun _ => fun
  | [d] => { results := [.lit (.bool false)], args := [d] }
  | _ => none }
def FnExactFormOfListWrongFalsely : Prop := fnExactFormOfListRow.holds Try.pinned (OpenSpec.ofChange fnExactFormOfListWrong)

/-- 'laws.FnExactIsForm': WHATEVER THE INPUT: true; the input reads as it did. -/
def fnExactIsFormSpec : ChangeSpec := { name := "fnExactIsForm", fn := fun _ => fun
  | [d] => { results := [.lit (.bool true)], args := [d] }
  | _ => none }
def fnExactIsFormRow : OpenClaim := { program := "ytbjhalhahipjdaa", sum := "c07d07f2d570ac63bc38ee297026d4de85f79cbc3614c808f3459ed9c35d1d51", func := "loop.example/g01240/laws.FnExactIsForm", spec := "fnExactIsForm", unfollowed := true, recurses := true, apart := false }
def FnExactIsFormSaid : Prop := fnExactIsFormRow.holds Try.pinned (OpenSpec.ofChange fnExactIsFormSpec)

/-- ITS FALSE NEIGHBOUR: 'it returns false'. Refute it at one input. -/
def fnExactIsFormWrong : ChangeSpec := { name := "fnExactIsForm", fn := fun _ => fun
  | [d] => { results := [.lit (.bool false)], args := [d] }
  | _ => none }
def FnExactIsFormWrongFalsely : Prop := fnExactIsFormRow.holds Try.pinned (OpenSpec.ofChange fnExactIsFormWrong)

/-- 'laws.FnExactFormOfDistances': WHATEVER THE INPUT: true; the input reads as it did. -/
def fnExactFormOfDistancesSpec : ChangeSpec := { name := "fnExactFormOfDistances", fn := fun _ => fun
  | [d] => { results := [.lit (.bool true)], args := [d] }
  | _ => none }
def fnExactFormOfDistancesRow : OpenClaim := { program := "ytbjhalhahipjdaa", sum := "c07d07f2d570ac63bc38ee297026d4de85f79cbc3614c808f3459ed9c35d1d51", func := "loop.example/g01240/laws.FnExactFormOfDistances", spec := "fnExactFormOfDistances", unfollowed := true, recurses := true, apart := false }
def FnExactFormOfDistancesSaid : Prop := fnExactFormOfDistancesRow.holds Try.pinned (OpenSpec.ofChange fnExactFormOfDistancesSpec)

/-- ITS FALSE NEIGHBOUR: 'it returns false'. Refute it at one input. -/
def fnExactFormOfDistancesWrong : ChangeSpec := { name := "fnExactFormOfDistances", fn := fun _ => fun
  | [d] => { results := [.lit (.bool false)], args := [d] }
  | _ => none }
def FnExactFormOfDistancesWrongFalsely : Prop := fnExactFormOfDistancesRow.holds Try.pinned (OpenSpec.ofChange fnExactFormOfDistancesWrong)

/-- 'laws.FnExactAreDistances': WHATEVER THE INPUT: true; the input reads as it did. -/
def fnExactAreDistancesSpec : ChangeSpec := { name := "fnExactAreDistances", fn := fun _ => fun
  | [d] => { results := [.lit (.bool true)], args := [d] }
  | _ => none }
def fnExactAreDistancesRow : OpenClaim := { program := "ytbjhalhahipjdaa", sum := "c07d07f2d570ac63bc38ee297026d4de85f79cbc3614c808f3459ed9c35d1d51", func := "loop.example/g01240/laws.FnExactAreDistances", spec := "fnExactAreDistances", unfollowed := true, recurses := true, apart := false }
def FnExactAreDistancesSaid : Prop := fnExactAreDistancesRow.holds Try.pinned (OpenSpec.ofChange fnExactAreDistancesSpec)

/-- ITS FALSE NEIGHBOUR: 'it returns false'. Refute it at one input. -/
def fnExactAreDistancesWrong : ChangeSpec := { name := "fnExactAreDistances", fn := fun _ => fun
  | [d] => { results := [.lit (.bool false)], args := [d] }
  | _ => none }
def FnExactAreDistancesWrongFalsely : Prop := fnExactAreDistancesRow.holds Try.pinned (OpenSpec.ofChange fnExactAreDistancesWrong)

/-- 'laws.FnExactFirstPlaces': WHATEVER THE INPUT: true; the input reads as it did. -/
def fnExactFirstPlacesSpec : ChangeSpec := { name := "fnExactFirstPlaces", fn := fun _ => fun
  | [d] => { results := [.lit (.bool true)], args := [d] }
  | _ => none }
def fnExactFirstPlacesRow : OpenClaim := { program := "ytbjhalhahipjdaa", sum := "c07d07f2d570ac63bc38ee297026d4de85f79cbc3614c808f3459ed9c35d1d51", func := "loop.example/g01240/laws.FnExactFirstPlaces", spec := "fnExactFirstPlaces", unfollowed := true, recurses := true, apart := false }
def FnExactFirstPlacesSaid : Prop := fnExactFirstPlacesRow.holds Try.pinned (OpenSpec.ofChange fnExactFirstPlacesSpec)

/-- ITS FALSE NEIGHBOUR: 'it returns false'. Refute it at one input. -/
def fnExactFirstPlacesWrong : ChangeSpec := { name := "fnExactFirstPlaces", fn := fun _ => fun
  | [d] => { results := [.lit (.bool false)], args := [d] }
  | _ => none }
def FnExactFirstPlacesWrongFalsely : Prop := fnExactFirstPlacesRow.holds Try.pinned (OpenSpec.ofChange fnExactFirstPlacesWrong)

/-- 'laws.FnExactPlacesOfNumber': WHATEVER THE INPUT: true; the input reads as it did. -/
def fnExactPlacesOfNumberSpec : ChangeSpec := { name := "fnExactPlacesOfNumber", fn := fun _ => fun
  | [d1, d2] => { results := [.lit (.bool true)], args := [d1, d2] }
  | _ => none }
def fnExactPlacesOfNumberRow : OpenClaim := { program := "ytbjhalhahipjdaa", sum := "c07d07f2d570ac63bc38ee297026d4de85f79cbc3614c808f3459ed9c35d1d51", func := "loop.example/g01240/laws.FnExactPlacesOfNumber", spec := "fnExactPlacesOfNumber", apart := false }
def FnExactPlacesOfNumberSaid : Prop := fnExactPlacesOfNumberRow.holds Try.pinned (OpenSpec.ofChange fnExactPlacesOfNumberSpec)

/-- ITS FALSE NEIGHBOUR: 'it returns false'. Refute it at one input. -/
def fnExactPlacesOfNumberWrong : ChangeSpec := { name := "fnExactPlacesOfNumber", fn := fun _ => fun
  | [d1, d2] => { results := [.lit (.bool false)], args := [d1, d2] }
  | _ => none }
def FnExactPlacesOfNumberWrongFalsely : Prop := fnExactPlacesOfNumberRow.holds Try.pinned (OpenSpec.ofChange fnExactPlacesOfNumberWrong)

/-- 'laws.FnExactGreatestGap': WHATEVER THE INPUT: true; the input reads as it did. -/
def fnExactGreatestGapSpec : ChangeSpec := { name := "fnExactGreatestGap", fn := fun _ => fun
  | [d] => { results := [.lit (.bool true)], args := [d] }
  | _ => none }
def fnExactGreatestGapRow : OpenClaim := { program := "ytbjhalhahipjdaa", sum := "c07d07f2d570ac63bc38ee297026d4de85f79cbc3614c808f3459ed9c35d1d51", func := "loop.example/g01240/laws.FnExactGreatestGap", spec := "fnExactGreatestGap", unfollowed := true, recurses := true, apart := false }
def FnExactGreatestGapSaid : Prop := fnExactGreatestGapRow.holds Try.pinned (OpenSpec.ofChange fnExactGreatestGapSpec)

/-- ITS FALSE NEIGHBOUR: 'it returns false'. Refute it at one input. -/
def fnExactGreatestGapWrong : ChangeSpec := { name := "fnExactGreatestGap", fn := fun _ => fun
  | [d] => { results := [.lit (.bool false)], args := [d] }
  | _ => none }
def FnExactGreatestGapWrongFalsely : Prop := fnExactGreatestGapRow.holds Try.pinned (OpenSpec.ofChange fnExactGreatestGapWrong)

/-- 'laws.FnExactIsEck': WHATEVER THE INPUT: true; the input reads as it did. -/
def fnExactIsEckSpec : ChangeSpec := { name := "fnExactIsEck", fn := fun _ => fun
  | [d1, d2] => { results := [.lit (.bool true)], args := [d1, d2] }
  | _ => none }
def fnExactIsEckRow : OpenClaim := { program := "ytbjhalhahipjdaa", sum := "c07d07f2d570ac63bc38ee297026d4de85f79cbc3614c808f3459ed9c35d1d51", func := "loop.example/g01240/laws.FnExactIsEck", spec := "fnExactIsEck", unfollowed := true, recurses := true, apart := false }
def FnExactIsEckSaid : Prop := fnExactIsEckRow.holds Try.pinned (OpenSpec.ofChange fnExactIsEckSpec)

/-- ITS FALSE NEIGHBOUR: 'it returns false'. Refute it at one input. -/
def fnExactIsEckWrong : ChangeSpec := { name := "fnExactIsEck", fn := fun _ => fun
  | [d1, d2] => { results := [.lit (.bool false)], args := [d1, d2] }
  | _ => none }
def FnExactIsEckWrongFalsely : Prop := fnExactIsEckRow.holds Try.pinned (OpenSpec.ofChange fnExactIsEckWrong)

/-- 'laws.FnExactRankOfForm': WHATEVER THE INPUT: true; the input reads as it did. -/
def fnExactRankOfFormSpec : ChangeSpec := { name := "fnExactRankOfForm", fn := fun _ => fun
  | [d] => { results := [.lit (.bool true)], args := [d] }
  | _ => none }
def fnExactRankOfFormRow : OpenClaim := { program := "ytbjhalhahipjdaa", sum := "c07d07f2d570ac63bc38ee297026d4de85f79cbc3614c808f3459ed9c35d1d51", func := "loop.example/g01240/laws.FnExactRankOfForm", spec := "fnExactRankOfForm", unfollowed := true, recurses := true, apart := false }
def FnExactRankOfFormSaid : Prop := fnExactRankOfFormRow.holds Try.pinned (OpenSpec.ofChange fnExactRankOfFormSpec)

/-- ITS FALSE NEIGHBOUR: 'it returns false'. Refute it at one input. -/
def fnExactRankOfFormWrong : ChangeSpec := { name := "fnExactRankOfForm", fn := fun _ => fun
  | [d] => { results := [.lit (.bool false)], args := [d] }
  | _ => none }
def FnExactRankOfFormWrongFalsely : Prop := fnExactRankOfFormRow.holds Try.pinned (OpenSpec.ofChange fnExactRankOfFormWrong)

/-- 'laws.FnExactCountForms': WHATEVER THE INPUT: true; the input reads as it did. -/
def fnExactCountFormsSpec : ChangeSpec := { name := "fnExactCountForms", fn := fun _ => fun
  | [d] => { results := [.lit (.bool true)], args := [d] }
  | _ => none }
def fnExactCountFormsRow : OpenClaim := { program := "ytbjhalhahipjdaa", sum := "c07d07f2d570ac63bc38ee297026d4de85f79cbc3614c808f3459ed9c35d1d51", func := "loop.example/g01240/laws.FnExactCountForms", spec := "fnExactCountForms", apart := false }
def FnExactCountFormsSaid : Prop := fnExactCountFormsRow.holds Try.pinned (OpenSpec.ofChange fnExactCountFormsSpec)

/-- ITS FALSE NEIGHBOUR: 'it returns false'. Refute it at one input. -/
def fnExactCountFormsWrong : ChangeSpec := { name := "fnExactCountForms", fn := fun _ => fun
  | [d] => { results := [.lit (.bool false)], args := [d] }
  | _ => none }
def FnExactCountFormsWrongFalsely : Prop := fnExactCountFormsRow.holds Try.pinned (OpenSpec.ofChange fnExactCountFormsWrong)

/- THE SECOND FORM. 'bulk': how many values and letters a reading holds, each counted each time it is reached (what is shared counts as often as it is met; a slice's spare places count too). A statement '..UptoSaid' is the law's where the arguments, and the package variables that the reading takes, are together of bulk at most 1048576: NARROWER than '..Said'. Prove '..Said' where nothing that the law and all that it calls make is longer than what came in: it says more and counts as full. Else prove '..UptoSaid'. A law counts once. -/
mutual
def uptoBulk {H : Type} : DataW H → Nat
  | .lit (.string bytes) => bytes.length + 1
  | .lit _ => 1
  | .nil => 1
  | .ptr d => uptoBulk d + 1
  | .slice elems spare => uptoBulkAll elems + uptoBulkAll spare + 1
  | .agg parts => uptoBulkAll parts + 1
  | .iface _ d => uptoBulk d + 1
  | .map entries => uptoBulkEntries entries + 1
  | .held _ => 1
def uptoBulkAll {H : Type} : List (DataW H) → Nat
  | [] => 0
  | d :: r => uptoBulk d + uptoBulkAll r
def uptoBulkEntries {H : Type} : List (Lit × DataW H) → Nat
  | [] => 0
  | x :: r => uptoBulkEntry x + uptoBulkEntries r
def uptoBulkEntry {H : Type} : Lit × DataW H → Nat
  | (.string bytes, d) => bytes.length + uptoBulk d + 1
  | (_, d) => uptoBulk d + 1
 end
def uptoSmall : (H : Type) → List (DataW H) → Bool := fun _ ds => decide (uptoBulkAll ds ≤ 1048576)
def OpenSpec.upto (s : _root_.Go.ChangeSpec) : _root_.Go.OpenSpec := { _root_.Go.OpenSpec.ofChange s with cond := some uptoSmall }

/-- 'laws.FnExactDistancesBack', WHERE WHAT IT READS IS OF BULK AT MOST 1048576: true; the input reads as it did. -/
def fnExactDistancesBackUptoRow : OpenClaim := { program := "ytbjhalhahipjdaa", sum := "c07d07f2d570ac63bc38ee297026d4de85f79cbc3614c808f3459ed9c35d1d51", func := "loop.example/g01240/laws.FnExactDistancesBack", spec := "fnExactDistancesBack", unfollowed := true, recurses := true, apart := false, narrowed := true }
def FnExactDistancesBackUptoSaid : Prop := fnExactDistancesBackUptoRow.holds Try.pinned (OpenSpec.upto fnExactDistancesBackSpec)

/-- 'laws.FnExactDistancesAhead', WHERE WHAT IT READS IS OF BULK AT MOST 1048576: true; the input reads as it did. -/
def fnExactDistancesAheadUptoRow : OpenClaim := { program := "ytbjhalhahipjdaa", sum := "c07d07f2d570ac63bc38ee297026d4de85f79cbc3614c808f3459ed9c35d1d51", func := "loop.example/g01240/laws.FnExactDistancesAhead", spec := "fnExactDistancesAhead", unfollowed := true, recurses := true, apart := false, narrowed := true }
def FnExactDistancesAheadUptoSaid : Prop := fnExactDistancesAheadUptoRow.holds Try.pinned (OpenSpec.upto fnExactDistancesAheadSpec)

/-- 'laws.FnExactFormOfList', WHERE WHAT IT READS IS OF BULK AT MOST 1048576: true; the input reads as it did. -/
def fnExactFormOfListUptoRow : OpenClaim := { program := "ytbjhalhahipjdaa", sum := "c07d07f2d570ac63bc38ee297026d4de85f79cbc3614c808f3459ed9c35d1d51", func := "loop.example/g01240/laws.FnExactFormOfList", spec := "fnExactFormOfList", unfollowed := true, recurses := true, apart := false, narrowed := true }
def FnExactFormOfListUptoSaid : Prop := fnExactFormOfListUptoRow.holds Try.pinned (OpenSpec.upto fnExactFormOfListSpec)

/-- 'laws.FnExactIsForm', WHERE WHAT IT READS IS OF BULK AT MOST 1048576: true; the input reads as it did. -/
def fnExactIsFormUptoRow : OpenClaim := { program := "ytbjhalhahipjdaa", sum := "c07d07f2d570ac63bc38ee297026d4de85f79cbc3614c808f3459ed9c35d1d51", func := "loop.example/g01240/laws.FnExactIsForm", spec := "fnExactIsForm", unfollowed := true, recurses := true, apart := false, narrowed := true }
def FnExactIsFormUptoSaid : Prop := fnExactIsFormUptoRow.holds Try.pinned (OpenSpec.upto fnExactIsFormSpec)

/-- 'laws.FnExactFormOfDistances', WHERE WHAT IT READS IS OF BULK AT MOST 1048576: true; the input reads as it did. -/
def fnExactFormOfDistancesUptoRow : OpenClaim := { program := "ytbjhalhahipjdaa", sum := "c07d07f2d570ac63bc38ee297026d4de85f79cbc3614c808f3459ed9c35d1d51", func := "loop.example/g01240/laws.FnExactFormOfDistances", spec := "fnExactFormOfDistances", unfollowed := true, recurses := true, apart := false, narrowed := true }
def FnExactFormOfDistancesUptoSaid : Prop := fnExactFormOfDistancesUptoRow.holds Try.pinned (OpenSpec.upto fnExactFormOfDistancesSpec)

/-- 'laws.FnExactAreDistances', WHERE WHAT IT READS IS OF BULK AT MOST 1048576: true; the input reads as it did. -/
def fnExactAreDistancesUptoRow : OpenClaim := { program := "ytbjhalhahipjdaa", sum := "c07d07f2d570ac63bc38ee297026d4de85f79cbc3614c808f3459ed9c35d1d51", func := "loop.example/g01240/laws.FnExactAreDistances", spec := "fnExactAreDistances", unfollowed := true, recurses := true, apart := false, narrowed := true }
def FnExactAreDistancesUptoSaid : Prop := fnExactAreDistancesUptoRow.holds Try.pinned (OpenSpec.upto fnExactAreDistancesSpec)

/-- 'laws.FnExactFirstPlaces', WHERE WHAT IT READS IS OF BULK AT MOST 1048576: true; the input reads as it did. -/
def fnExactFirstPlacesUptoRow : OpenClaim := { program := "ytbjhalhahipjdaa", sum := "c07d07f2d570ac63bc38ee297026d4de85f79cbc3614c808f3459ed9c35d1d51", func := "loop.example/g01240/laws.FnExactFirstPlaces", spec := "fnExactFirstPlaces", unfollowed := true, recurses := true, apart := false, narrowed := true }
def FnExactFirstPlacesUptoSaid : Prop := fnExactFirstPlacesUptoRow.holds Try.pinned (OpenSpec.upto fnExactFirstPlacesSpec)

/-- 'laws.FnExactPlacesOfNumber', WHERE WHAT IT READS IS OF BULK AT MOST 1048576: true; the input reads as it did. -/
def fnExactPlacesOfNumberUptoRow : OpenClaim := { program := "ytbjhalhahipjdaa", sum := "c07d07f2d570ac63bc38ee297026d4de85f79cbc3614c808f3459ed9c35d1d51", func := "loop.example/g01240/laws.FnExactPlacesOfNumber", spec := "fnExactPlacesOfNumber", apart := false, narrowed := true }
def FnExactPlacesOfNumberUptoSaid : Prop := fnExactPlacesOfNumberUptoRow.holds Try.pinned (OpenSpec.upto fnExactPlacesOfNumberSpec)

/-- 'laws.FnExactGreatestGap', WHERE WHAT IT READS IS OF BULK AT MOST 1048576: true; the input reads as it did. -/
def fnExactGreatestGapUptoRow : OpenClaim := { program := "ytbjhalhahipjdaa", sum := "c07d07f2d570ac63bc38ee297026d4de85f79cbc3614c808f3459ed9c35d1d51", func := "loop.example/g01240/laws.FnExactGreatestGap", spec := "fnExactGreatestGap", unfollowed := true, recurses := true, apart := false, narrowed := true }
def FnExactGreatestGapUptoSaid : Prop := fnExactGreatestGapUptoRow.holds Try.pinned (OpenSpec.upto fnExactGreatestGapSpec)

/-- 'laws.FnExactIsEck', WHERE WHAT IT READS IS OF BULK AT MOST 1048576: true; the input reads as it did. -/
def fnExactIsEckUptoRow : OpenClaim := { program := "ytbjhalhahipjdaa", sum := "c07d07f2d570ac63bc38ee297026d4de85f79cbc3614c808f3459ed9c35d1d51", func := "loop.example/g01240/laws.FnExactIsEck", spec := "fnExactIsEck", unfollowed := true, recurses := true, apart := false, narrowed := true }
def FnExactIsEckUptoSaid : Prop := fnExactIsEckUptoRow.holds Try.pinned (OpenSpec.upto fnExactIsEckSpec)

/-- 'laws.FnExactRankOfForm', WHERE WHAT IT READS IS OF BULK AT MOST 1048576: true; the input reads as it did. -/
def fnExactRankOfFormUptoRow : OpenClaim := { program := "ytbjhalhahipjdaa", sum := "c07d07f2d570ac63bc38ee297026d4de85f79cbc3614c808f3459ed9c35d1d51", func := "loop.example/g01240/laws.FnExactRankOfForm", spec := "fnExactRankOfForm", unfollowed := true, recurses := true, apart := false, narrowed := true }
def FnExactRankOfFormUptoSaid : Prop := fnExactRankOfFormUptoRow.holds Try.pinned (OpenSpec.upto fnExactRankOfFormSpec)

/-- 'laws.FnExactCountForms', WHERE WHAT IT READS IS OF BULK AT MOST 1048576: true; the input reads as it did. -/
def fnExactCountFormsUptoRow : OpenClaim := { program := "ytbjhalhahipjdaa", sum := "c07d07f2d570ac63bc38ee297026d4de85f79cbc3614c808f3459ed9c35d1d51", func := "loop.example/g01240/laws.FnExactCountForms", spec := "fnExactCountForms", apart := false, narrowed := true }
def FnExactCountFormsUptoSaid : Prop := fnExactCountFormsUptoRow.holds Try.pinned (OpenSpec.upto fnExactCountFormsSpec)

end Rows
end Go.Proofs.Ytbjhalhahipjdaa
