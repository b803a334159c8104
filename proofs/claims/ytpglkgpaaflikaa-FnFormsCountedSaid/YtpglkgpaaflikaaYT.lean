/- Helpers of the law FnFormsCounted (the same stand in XYQ, by tools/genyq.py). -/
import Derived.Test.YtpglkgpaaflikaaYP
import Derived.Test.YtpglkgpaaflikaaYK
namespace Go.Proofs.Ytpglkgpaaflikaa
open Go.RowKit Go.BigFrame Go.Deep
set_option linter.unusedSimpArgs false
set_option linter.unusedVariables false
set_option maxRecDepth 4000

theorem rr_at {w : World} {B : Nat} {v : Value} {vs : List Value} {nss : List (List Int)} {N : Nat} (h : IntsRR w B v vs nss) (hN : nss.length = N) (h1 : 1 ≤ N) :
    ∃ g cap, v = .slice (some ⟨g, 0, none⟩) N cap ∧ N ≤ 9223372036854775807 ∧ cap ≤ 9223372036854775807 ∧ g < w.heap.size ∧ ∀ k (hk : k < nss.length), ∃ u, IntsA w B u nss[k] ∧ w.cell? ⟨g, k, none⟩ = some u := by
  rcases intsRR_open h with ⟨_, e⟩ | ⟨g, cap, e1, e2, e3, e4, _, e5⟩
  · subst e; simp at hN; omega
  · rw [hN] at e1 e2
    refine ⟨g, cap, e1, e2, e3, e4, fun k hk => ?_⟩
    obtain ⟨u, _, q2, q3⟩ := e5 k hk
    exact ⟨u, intsA_of q2, q3⟩
theorem rr_below {w w' : World} {B : Nat} {v : Value} {vs : List Value} {nss : List (List Int)} (h : IntsRR w B v vs nss) (hb : Below w.heap.size w w') : IntsRR w' B v vs nss := ownsRR_below h hb
theorem intsA_atM {w : World} {B N : Nat} {v : Value} {xs : List Int} (h : IntsA w B v xs) (hN : xs.length = N) (h1 : 1 ≤ N) :
    ∃ g cap, v = .slice (some ⟨g, 0, none⟩) N cap ∧ cap ≤ 9223372036854775807 ∧ N ≤ cap ∧ g < w.heap.size ∧ ∀ i x, xs[i]? = some x → w.cell? ⟨g, i, none⟩ = some (.int .i64 x) := by
  obtain ⟨g, cap, e1, e2, e3, _, e4, e5⟩ := intsA_at h (by omega)
  rw [hN] at e1 e2
  refine ⟨g, cap, e1, e3, e2, e4, fun i x hx => ?_⟩
  obtain ⟨hi, e⟩ := List.getElem?_eq_some_iff.1 hx
  rw [e5 i hi, e]
theorem argL_atM {w : World} {N : Nat} {v : Value} {xs : List Int} (h : ArgL w v xs) (hN : xs.length = N) (h1 : 1 ≤ N) :
    ∃ g o cap, v = .slice (some ⟨g, o, none⟩) N cap ∧ g < w.heap.size ∧ ∀ i x, xs[i]? = some x → w.cell? ⟨g, o + i, none⟩ = some (.int .i64 x) := by
  obtain ⟨g, o, cap, e1, e2, e3, e4, e5⟩ := argL_at h (by omega)
  rw [hN] at e1
  refine ⟨g, o, cap, e1, e4, fun i x hx => ?_⟩
  obtain ⟨hi, e⟩ := List.getElem?_eq_some_iff.1 hx
  rw [e5 i hi, e]
theorem qSame_selfP (w : World) (Ba Bb : Nat) (va vb : Value) (xs : List Int) (ha : IntsA w Ba va xs) (hb : IntsA w Bb vb xs) :
    Calls Try.prog 16 #[va, vb] w fun e w' => e = .returned (.bool true) ∧ Below w.heap.size w w' := by
  have h := qSame_any w Ba Bb va vb xs xs ha hb
  rwa [decide_eq_true rfl] at h
theorem ezV_bd (ns : List Int) (n : Int) : 0 ≤ ezV ns n ∧ ezV ns n ≤ 5000 := by
  unfold ezV
  split
  · rename_i h
    unfold ebB at h
    rw [Bool.and_eq_true, decide_eq_true_eq] at h
    have := pls_len (eckS ns) 0 n.toNat
    omega
  · omega
theorem ebO_get {ns : List Int} {K : Nat} (h : ebB ns (K : Int) 1000 = true) : (ebO ns (K : Int) 1000).getD [] = upL (eckS ns) K := by rw [ebO_ok h]; rfl
theorem eck_both {ns : List Int} {K i : Nat} (h : i < ns.length) (hk : i < K) : ns[i]? = some (eckS ns i) ∧ (upL (eckS ns) K)[i]? = some (eckS ns i) := by
  constructor
  · rw [List.getElem?_eq_getElem h, eckS_in h]
  · rw [List.getElem?_eq_getElem (by rw [upL_len]; exact hk), upL_at hk]
end Go.Proofs.Ytpglkgpaaflikaa
