/- SayTimes over the ways that wayFrom makes: the model's, the program's, the law. -/
import Derived.Test.YtdlhahigiooddaaT13
namespace Go.Proofs.Ytdlhahigiooddaa
open Go.RowKit Go.BigFrame
set_option linter.unusedSimpArgs false
set_option linter.unusedVariables false
set_option maxRecDepth 4000

/-- The last text of a way. -/
def timesG (l : List UInt8) (n : Int) : Option (List UInt8) := (wayGO saidO 20 l n).map (fun ls => ls.getLastD [])
theorem last_atG (l : List UInt8) (n : Int) (ls : List (List UInt8)) (h : wayGO saidO 20 l n = some ls) : 0 ≤ n ∧ n ≤ 20 ∧ n.toNat + 1 = ls.length ∧ (strVs ls)[n.toNat]? = some (.string (bs (ls.getLastD []))) := by
  unfold wayGO at h
  split at h
  · rename_i hh
    have hlen := wayG_len saidO _ _ _ h
    refine ⟨hh.2.1, hh.2.2, hlen.symm, ?_⟩
    unfold strVs
    rw [List.getElem?_map]
    have : ls[n.toNat]? = some (ls.getLastD []) := by
      rw [List.getLastD_eq_getLast?, List.getLast?_eq_getElem?, hlen]
      simp [show n.toNat < ls.length by omega]
    rw [this]; rfl
  · cases h

set_option maxHeartbeats 1000000 in
theorem specTimesG_any (s : ByteArray) (n : Int) (w : World) (hs : s.size ≤ maxLen) :
    Calls Try.prog 42 #[.string s, .int .i64 n] w fun e w' => e = .returned (strOk (timesG s.data.toList n)) ∧ Below w.heap.size w w' := by
  have hcon := fun (W : World) => specWord_any s n W hs
  cases ho : wayGO saidO 20 s.data.toList n with
  | none =>
    have HT : Hid (timesG s.data.toList n = none) := by unfold timesG; rw [ho]; exact rfl
    rw [ho] at hcon
    have HC := Lib.hid hcon; clear hcon ho
    go_enter Try.func42, Try.ntmps42
    go_wp2_with fail
    refine (HC.out w).mono ?_
    rintro e w1 ⟨v, rfl, _, hb, _⟩
    have HB := Lib.hid hb; clear hb
    go_wp2_with fail
    go_ret2
    exact ⟨by rw [HT.out]; rfl, HB.out⟩
  | some ls =>
    obtain ⟨h0, h1, h2, h3⟩ := last_atG _ _ _ ho
    have HT : Hid (timesG s.data.toList n = some (ls.getLastD [])) := by unfold timesG; rw [ho]; exact rfl
    rw [ho] at hcon
    have HC := Lib.hid hcon; clear hcon ho
    obtain ⟨N, rfl⟩ := Int.eq_ofNat_of_zero_le h0
    rw [Int.toNat_natCast] at h2 h3
    have H3 := Lib.hid h3
    clear h3
    go_enter Try.func42, Try.ntmps42
    go_wp2_with fail
    refine (HC.out w).mono ?_
    rintro e w1 ⟨v, rfl, hown, hb, _⟩
    simp only [Option.getD_some] at hown
    have HB := Lib.hid hb
    rcases own_open hown with ⟨_, hx, _⟩ | ⟨g, cap, rfl, _, hg, hc1, hc2, hlv, hcell, _⟩
    · omega
    have hck : w1.cell? ⟨g, N, none⟩ = some (.string (bs (ls.getLastD []))) := by
      have hk1 : N < (strVs ls).length := by omega
      rw [hcell N hk1]
      have := H3.out
      rw [List.getElem?_eq_getElem hk1] at this
      exact this
    unfold maxLen at hc2
    rw [← h2] at hc1 ⊢
    clear hown hb hcell hlv h2
    go_wp2_with fail
    go_ret2
    exact ⟨by rw [HT.out, List.getLastD_eq_getLast?]; rfl, HB.out⟩

set_option maxHeartbeats 1000000 in
theorem implTimesG_any (s : ByteArray) (n : Int) (w : World) (hs : s.size ≤ maxLen) :
    Calls Try.prog 41 #[.string s, .int .i64 n] w fun e w' => e = .returned (strOk (timesG s.data.toList n)) ∧ Below w.heap.size w w' := by
  have hcon := fun (W : World) => implWord_any s n W hs
  cases ho : wayGO saidO 20 s.data.toList n with
  | none =>
    have HT : Hid (timesG s.data.toList n = none) := by unfold timesG; rw [ho]; exact rfl
    rw [ho] at hcon
    have HC := Lib.hid hcon; clear hcon ho
    go_enter Try.func41, Try.ntmps41
    go_wp2_with fail
    refine (HC.out w).mono ?_
    rintro e w1 ⟨v, rfl, _, hb, _⟩
    have HB := Lib.hid hb; clear hb
    go_wp2_with fail
    go_ret2
    exact ⟨by rw [HT.out]; rfl, HB.out⟩
  | some ls =>
    obtain ⟨h0, h1, h2, h3⟩ := last_atG _ _ _ ho
    have HT : Hid (timesG s.data.toList n = some (ls.getLastD [])) := by unfold timesG; rw [ho]; exact rfl
    rw [ho] at hcon
    have HC := Lib.hid hcon; clear hcon ho
    obtain ⟨N, rfl⟩ := Int.eq_ofNat_of_zero_le h0
    rw [Int.toNat_natCast] at h2 h3
    have H3 := Lib.hid h3
    clear h3
    go_enter Try.func41, Try.ntmps41
    go_wp2_with fail
    refine (HC.out w).mono ?_
    rintro e w1 ⟨v, rfl, hown, hb, _⟩
    simp only [Option.getD_some] at hown
    have HB := Lib.hid hb
    rcases own_open hown with ⟨_, hx, _⟩ | ⟨g, cap, rfl, _, hg, hc1, hc2, hlv, hcell, _⟩
    · omega
    have hck : w1.cell? ⟨g, N, none⟩ = some (.string (bs (ls.getLastD []))) := by
      have hk1 : N < (strVs ls).length := by omega
      rw [hcell N hk1]
      have := H3.out
      rw [List.getElem?_eq_getElem hk1] at this
      exact this
    unfold maxLen at hc2
    rw [← h2] at hc1 ⊢
    clear hown hb hcell hlv h2
    go_wp2_with fail
    go_ret2
    exact ⟨by rw [HT.out, List.getLastD_eq_getLast?]; rfl, HB.out⟩
end Go.Proofs.Ytdlhahigiooddaa
