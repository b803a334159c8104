/- Chapter 8 (pure): a text cut at blanks and '-', rune by rune, as strings.FieldsFuncSeq does. -/
import Derived.Test.YtlcbdmmmafpchaaDoorMA
import Derived.Lib.TrimU
import Derived.Lib.QuoteLoop
import Derived.Laws.RangeString
namespace Go.Proofs.YtlcbdmmmafpchaaDoor
open Go.RowKit
set_option linter.unusedSimpArgs false
set_option linter.unusedVariables false
set_option maxRecDepth 4000

/-- The parts that still come: i is where the next rune begins, st where the part under way begins. -/
def ptsU (S : ByteArray) : Nat → Nat → Option Nat → List ByteArray
  | 0, _, _ => []
  | f + 1, i, st => if i < S.size then
      (if (Utf8.decode S i).1 = 32 ∨ (Utf8.decode S i).1 = 45 then
        (match st with
          | some a => S.extract a i :: ptsU S f (i + (Utf8.decode S i).2) none
          | none => ptsU S f (i + (Utf8.decode S i).2) none)
      else ptsU S f (i + (Utf8.decode S i).2) (some (st.getD i)))
    else match st with
      | some a => [S.extract a S.size]
      | none => []
def partsU (S : ByteArray) : List ByteArray := ptsU S (S.size + 1) 0 none
theorem ptsU_end {S : ByteArray} {f i : Nat} {st : Option Nat} (hf : 0 < f) (h : ¬ i < S.size) : ptsU S f i st = match st with
      | some a => [S.extract a S.size]
      | none => [] := by
  obtain ⟨g, rfl⟩ : ∃ g, f = g + 1 := ⟨f - 1, by omega⟩
  cases st <;> (unfold ptsU; rw [if_neg h])
theorem ptsU_cut {S : ByteArray} {f i a : Nat} (h : i < S.size) (hc : (Utf8.decode S i).1 = 32 ∨ (Utf8.decode S i).1 = 45) : ptsU S (f + 1) i (some a) = S.extract a i :: ptsU S f (i + (Utf8.decode S i).2) none := by
  conv => lhs; unfold ptsU
  rw [if_pos h, if_pos hc]
theorem ptsU_skip {S : ByteArray} {f i : Nat} (h : i < S.size) (hc : (Utf8.decode S i).1 = 32 ∨ (Utf8.decode S i).1 = 45) : ptsU S (f + 1) i none = ptsU S f (i + (Utf8.decode S i).2) none := by
  conv => lhs; unfold ptsU
  rw [if_pos h, if_pos hc]
theorem ptsU_in {S : ByteArray} {f i : Nat} {st : Option Nat} (h : i < S.size) (hc : ¬ ((Utf8.decode S i).1 = 32 ∨ (Utf8.decode S i).1 = 45)) : ptsU S (f + 1) i st = ptsU S f (i + (Utf8.decode S i).2) (some (st.getD i)) := by
  cases st <;> (conv => lhs; unfold ptsU) <;> rw [if_pos h, if_neg hc]
/-- A rune takes a byte at least, and lies in the text. -/
theorem dec_w (S : ByteArray) (i : Nat) (h : i < S.size) : 1 ≤ (Utf8.decode S i).2 ∧ i + (Utf8.decode S i).2 ≤ S.size := by
  refine ⟨Lib.width_pos S i, ?_⟩
  have := Lib.decodeN_width_le (S.size - i) (S.get! i).toNat (S.get! (i + 1)).toNat (S.get! (i + 2)).toNat (S.get! (i + 3)).toNat (by omega)
  rw [← Lib.decode_at] at this
  omega
theorem extract_bsU (l : List UInt8) (a i : Nat) : (bs l).extract a i = bs ((l.take i).drop a) := by
  apply bs_eq
  show ((bs l).extract a i).data.toList = _
  rw [ByteArray.data_extract]
  simp only [bs]
  rw [List.drop_take]
  simp
/-- Where all signs are below 128, the parts are those between blanks and '-'. -/
theorem ptsU_cutG (l : List UInt8) (hl : ∀ c ∈ l, c.toNat < 128) : ∀ (f i : Nat) (st : Option Nat), i ≤ l.length → l.length - i < f → (∀ a, st = some a → a < i) →
    ptsU (bs l) f i st = (cutG (l.drop i) (match st with | some a => (l.take i).drop a | none => [])).map bs
  | 0, i, st, _, hf, _ => absurd hf (by omega)
  | f + 1, i, st, hi, hf, ha => by
    have hsz : (bs l).size = l.length := bs_size l
    by_cases h : i < l.length
    · have hd : Utf8.decode (bs l) i = ((l[i]).toNat, 1) := by
        have h1 : i < (bs l).size := by rw [hsz]; exact h
        have e : (bs l)[i]'h1 = l[i] := by
          show (bs l).data[i]'h1 = _
          rfl
        rw [decode_ascii (bs l) i h1 (by rw [e]; exact hl _ (List.getElem_mem h)), e]; rfl
      have hc : ((Utf8.decode (bs l) i).1 = 32 ∨ (Utf8.decode (bs l) i).1 = 45) ↔ (l[i] = 32 ∨ l[i] = 45) := by
        rw [hd]
        constructor
        · rintro (e | e)
          · exact .inl (UInt8.toNat_inj.1 e)
          · exact .inr (UInt8.toNat_inj.1 e)
        · rintro (e | e) <;> rw [e] <;> simp
      have h2 : (Utf8.decode (bs l) i).2 = 1 := by rw [hd]
      have hdrop : l.drop i = l[i] :: l.drop (i + 1) := List.drop_eq_getElem_cons h
      have ih := fun st => ptsU_cutG l hl f (i + 1) st (by omega) (by omega)
      by_cases hcut : l[i] = 32 ∨ l[i] = 45
      · cases st with
        | none => rw [ptsU_skip (by rw [hsz]; exact h) (hc.2 hcut), h2, hdrop, cutG, if_pos hcut, if_pos rfl, ih none (by simp)]
        | some a =>
          have hai := ha a rfl
          rw [ptsU_cut (by rw [hsz]; exact h) (hc.2 hcut), h2, hdrop, cutG, if_pos hcut, if_neg (by
            intro e; have := congrArg List.length e; simp only [List.length_drop, List.length_take, List.length_nil] at this; omega), ih none (by simp), extract_bsU]
          rfl
      · rw [ptsU_in (by rw [hsz]; exact h) (fun e => hcut (hc.1 e)), h2, hdrop, cutG, if_neg hcut, ih _ (by
          intro a e; cases st with
          | none => simp at e; omega
          | some b => simp at e; have := ha b rfl; omega)]
        congr 2
        cases st with
        | none =>
          simp only [Option.getD_none, List.nil_append]
          rw [List.take_succ_eq_append_getElem h, List.drop_append, List.length_take, Nat.min_eq_left hi, Nat.sub_self, List.drop_of_length_le (by rw [List.length_take]; omega)]; rfl
        | some a =>
          have hai := ha a rfl
          simp only [Option.getD_some]
          rw [List.take_succ_eq_append_getElem h, List.drop_append, List.length_take, Nat.min_eq_left hi, show a - i = 0 by omega]; rfl
    · rw [ptsU_end (by omega) (by rw [hsz]; exact h), List.drop_of_length_le (by omega)]
      cases st with
      | none => rfl
      | some a =>
        have hai := ha a rfl
        simp only [cutG]
        rw [if_neg (by intro e; have := congrArg List.length e; simp only [List.length_drop, List.length_take, List.length_nil] at this; omega), hsz, extract_bsU, show l.take l.length = l.take i by rw [show i = l.length by omega]]
        rfl
theorem partsU_cutG (l : List UInt8) (hl : ∀ c ∈ l, c.toNat < 128) : partsU (bs l) = (cutG l []).map bs := by
  unfold partsU
  rw [ptsU_cutG l hl _ 0 none (Nat.zero_le _) (by rw [bs_size]; omega) (by simp)]; rfl
/-- What the words add up to. -/
def sumU (S : ByteArray) : Int := wrapI (((partsU S).foldl (fun p x => addW p x.data.toList) (0, 0)).1 + ((partsU S).foldl (fun p x => addW p x.data.toList) (0, 0)).2)
theorem sumU_name (n : Nat) (h : n < 1000000) : sumU (bs (nmN n)) = (n : Int) := by
  unfold sumU
  rw [partsU_cutG _ (nmN_ascii n h), List.foldl_map]
  have e : (fun p (x : List UInt8) => addW p (bs x).data.toList) = addW := by funext p x; rw [bs_list]
  rw [e]
  exact add_name n h
theorem addW_wf (p : Int × Int) (x : List UInt8) (h1 : -9223372036854775808 ≤ p.1 ∧ p.1 ≤ 9223372036854775807) (h2 : -9223372036854775808 ≤ p.2 ∧ p.2 ≤ 9223372036854775807) :
    (-9223372036854775808 ≤ (addW p x).1 ∧ (addW p x).1 ≤ 9223372036854775807) ∧ (-9223372036854775808 ≤ (addW p x).2 ∧ (addW p x).2 ≤ 9223372036854775807) := by
  unfold addW wrapI
  simp only [IntKind.wrap_i64]
  split
  · simp only; omega
  · split <;> (simp only; omega)
end Go.Proofs.YtlcbdmmmafpchaaDoor
