/-
  The document's own side of layer 12 (winnowerref12), sixth part: the token at a place, in the document's order.
-/
import Derived.Test.YtefpkgdakihceaaDoorLxV
namespace Go.Proofs.YtefpkgdakihceaaDoor.Lx
open Go.RowKit

/- Plain: which sign stands there. -/
def standsB (s : ByteArray) (k : Nat) (t : List UInt8) : Bool := decide (k + t.length ≤ s.size) && ((s.extract k (k + t.length)).toList == t)
theorem signsL_eq : signsL = twosL ++ onesL.map fun c => [c] := by decide
theorem twos_len : ∀ t ∈ twosL, t.length = 2 := by decide
theorem twosL_length : twosL.length = 16 := by decide
theorem two_stands {s : ByteArray} {k : Nat} (h : twoAt s k = true) : ∃ t ∈ twosL, standsB s k t = true ∧ k + 2 ≤ s.size := by
  unfold twoAt twoB at h
  have hm := List.contains_iff_mem.1 h
  have hl := twos_len _ hm
  have h3 := Lib.size_eq (s.extract k (min (k + 2) s.size))
  rw [← Lib.toList_data, hl, ByteArray.size_extract] at h3
  have hk : k + 2 ≤ s.size := by omega
  rw [show min (k + 2) s.size = k + 2 by omega] at hm hl
  refine ⟨_, hm, ?_, hk⟩
  unfold standsB
  rw [hl]
  simp [hk]
theorem stands_two {s : ByteArray} {k : Nat} {t : List UInt8} (ht : t ∈ twosL) (h : standsB s k t = true) : twoAt s k = true ∧ k + 2 ≤ s.size := by
  unfold standsB at h
  rw [twos_len t ht] at h
  simp only [Bool.and_eq_true, decide_eq_true_eq, beq_iff_eq] at h
  refine ⟨?_, h.1⟩
  unfold twoAt twoB
  rw [show min (k + 2) s.size = k + 2 by omega, h.2]
  exact List.contains_iff_mem.2 ht
theorem stands_one {s : ByteArray} {k : Nat} {c : UInt8} : standsB s k [c] = true ↔ ∃ h : k < s.size, s[k] = c := by
  unfold standsB
  simp only [List.length_cons, List.length_nil, Nat.zero_add, Bool.and_eq_true, decide_eq_true_eq, beq_iff_eq]
  constructor
  · rintro ⟨h1, h2⟩
    refine ⟨h1, ?_⟩
    rw [ext_at s k h1, Lib.toList_data] at h2
    have : [s[k]] = [c] := h2
    simpa using this
  · rintro ⟨h1, h2⟩
    refine ⟨h1, ?_⟩
    rw [ext_at s k h1, Lib.toList_data, h2]
    rfl
theorem mem_index {L : List (List UInt8)} {t : List UInt8} (h : t ∈ L) : ∃ j, ∃ h : j < L.length, L[j] = t := by
  obtain ⟨j, hj, e⟩ := List.mem_iff_getElem.1 h
  exact ⟨j, hj, e⟩
theorem sign_two_none {s : ByteArray} {k n : Nat} (hn : 16 ≤ n) (hno : ∀ (j : Nat) (h : j < signsL.length), j < n → standsB s k signsL[j] = false) : twoAt s k = false := by
  rw [Bool.eq_false_iff]
  intro h
  obtain ⟨t, ht, hs, _⟩ := two_stands h
  obtain ⟨j, hj, e⟩ := mem_index ht
  rw [twosL_length] at hj
  have hj2 : j < signsL.length := by have : signsL.length = 39 := by decide
                                     omega
  have e2 : signsL[j] = t := by
    have : signsL[j]'hj2 = (twosL ++ onesL.map fun c => [c])[j]'(by rw [← signsL_eq]; exact hj2) := by congr 1
    rw [this, List.getElem_append_left (by rw [twosL_length]; exact hj), e]
  have := hno j hj2 (by omega)
  rw [e2, hs] at this
  cases this
theorem sign_hit {s : ByteArray} {k n : Nat} (hn : n < signsL.length) (hs : standsB s k signsL[n] = true) (hno : ∀ (j : Nat) (h : j < signsL.length), j < n → standsB s k signsL[j] = false) :
    signE s k = k + signsL[n].length ∧ s.extract k (signE s k) = strL signsL[n] ∧ k < signE s k := by
  have e : signsL[n] = (twosL ++ onesL.map fun c => [c])[n]'(by rw [← signsL_eq]; exact hn) := by congr 1
  have key : signE s k = k + signsL[n].length := by
    by_cases h16 : n < 16
    · have ht : signsL[n] ∈ twosL := by rw [e, List.getElem_append_left (by rw [twosL_length]; exact h16)]; exact List.getElem_mem _
      obtain ⟨h1, h2⟩ := stands_two ht hs
      unfold signE
      rw [if_pos h1, twos_len _ ht]
    · have h1 := sign_two_none (by omega) hno
      have hlo : onesL.length = 23 := by decide
      obtain ⟨c, hc, hmem⟩ : ∃ c, signsL[n]'hn = [c] ∧ c ∈ onesL := by
        refine ⟨onesL[n - 16]'(by have : n < 39 := hn; omega), ?_, List.getElem_mem _⟩
        rw [e, List.getElem_append_right (by rw [twosL_length]; omega), List.getElem_map]
        congr 1
      rw [hc] at hs ⊢
      obtain ⟨h3, h4⟩ := stands_one.1 hs
      unfold signE oneE someB
      rw [if_neg (by rw [h1]; decide), dif_pos h3, h4, if_pos (List.contains_iff_mem.2 hmem)]
      rfl
  have hpos : 0 < signsL[n].length := by
    have : ∀ t ∈ signsL, 0 < t.length := by decide
    exact this _ (List.getElem_mem hn)
  refine ⟨key, ?_, by omega⟩
  unfold standsB at hs
  simp only [Bool.and_eq_true, decide_eq_true_eq, beq_iff_eq] at hs
  rw [key]
  apply ByteArray.ext
  apply Array.ext'
  rw [← Lib.toList_data, hs.2]
  rfl
theorem sign_miss {s : ByteArray} {k : Nat} (hno : ∀ (j : Nat) (h : j < signsL.length), standsB s k signsL[j] = false) : signE s k = k := by
  have h1 := sign_two_none (s := s) (k := k) (n := 39) (by omega) (fun j h _ => hno j h)
  unfold signE oneE
  rw [if_neg (by rw [h1]; decide), if_neg]
  intro h
  have hlt := someB_lt h
  unfold someB at h
  rw [dif_pos hlt] at h
  have hm : [s[k]] ∈ signsL := by
    rw [signsL_eq]
    exact List.mem_append_right _ (List.mem_map.2 ⟨s[k], List.contains_iff_mem.1 h, rfl⟩)
  obtain ⟨j, hj, e⟩ := mem_index hm
  have := hno j hj
  rw [e, stands_one.2 ⟨hlt, rfl⟩] at this
  cases this
/- Plain: what a byte says of the rules. -/
theorem numE_digit {s : ByteArray} {k : Nat} (h : digitI (bAt s k) = true) : k < numE s k := by
  have hk := digit_of h
  have h1 : k < upTo digitI s k := by rw [upTo_byes hk h]; exact upTo_ge _ _ _
  have h2 : k < mantE s k := by
    unfold mantE
    split
    · have := upTo_ge digitI s (upTo digitI s k + 1); omega
    · exact h1
  unfold numE
  rw [if_neg (by omega)]
  have := powE_le s (mantE s k) (mantE_le s k (by omega)).2
  omega
theorem numE_other {s : ByteArray} {k : Nat} (h : digitI (bAt s k) = false) (h2 : bAt s k ≠ 46) : numE s k = k := by
  have h1 : upTo digitI s k = k := upTo_bno h
  have hm : mantE s k = k := by
    unfold mantE
    rw [h1, if_neg (fun hh => h2 hh.1)]
  unfold numE
  rw [if_pos hm]
theorem num_byte {s : ByteArray} {k : Nat} (h : k < numE s k) : digitI (bAt s k) = true ∨ bAt s k = 46 := by
  by_cases h1 : digitI (bAt s k) = true
  · exact .inl h1
  · by_cases h2 : bAt s k = 46
    · exact .inr h2
    · rw [numE_other (Bool.eq_false_iff.mpr h1) h2] at h; omega
theorem letter_facts {x : Int} (h : letterI x = true) : digitI x = false ∧ x ≠ 46 ∧ x ≠ 10 ∧ x ≠ 34 ∧ x ≠ 47 := by
  simp only [letterI, digitI, decide_eq_true_eq, decide_eq_false_iff_not] at *
  omega
def oneV (s : ByteArray) (k : Nat) (re : Bool) : Value := if (tokR s k re).1 = 0 then zeroTok else tokV (tokR s k re).1 (tokR s k re).2.1 k (tokR s k re).2.2
end Go.Proofs.YtefpkgdakihceaaDoor.Lx
