/- IsSelfTold on both sides, and the law. -/
import Derived.Test.YtaagfcdniacmnabU5
import Derived.Deep.RegionHeld
namespace Go.Proofs.Ytaagfcdniacmnab
open Go.RowKit Go.BigFrame
set_option linter.unusedSimpArgs false
set_option linter.unusedVariables false
set_option maxRecDepth 4000

theorem ti_inj {ps qs : List Nat} (h : ti ps = ti qs) : ps = qs := by
  have := congrArg (List.map Int.toNat) h
  simp only [ti, List.map_map] at this
  have e : ∀ l : List Nat, l.map (Int.toNat ∘ fun (n : Nat) => (n : Int)) = l := fun l => List.map_id l
  rw [e, e] at this
  exact this
/-- Is a list what is told of it? -/
def selfB (xs : List Int) : Bool := match tellO xs with
  | some t => decide (t = xs)
  | none => false
theorem selfB_ti {ns : List Nat} (h : tolL (ti ns) = true) : selfB (ti ns) = decide (tel ns.length ns = ns) := by
  unfold selfB
  rw [tellO_ti h]
  by_cases e : tel ns.length ns = ns
  · rw [decide_eq_true e]; exact decide_eq_true (by rw [e])
  · rw [decide_eq_false e]; exact decide_eq_false (fun h => e (ti_inj h))
theorem selfB_bad {xs : List Int} (h : tolL xs = false) : selfB xs = false := by
  unfold selfB tellO
  rw [if_neg (by rw [h]; simp)]

end Go.Proofs.Ytaagfcdniacmnab
