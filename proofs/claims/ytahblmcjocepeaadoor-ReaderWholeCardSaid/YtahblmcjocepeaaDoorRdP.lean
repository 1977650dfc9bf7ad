/-
  Package reader, plain: where a byte stands next.
-/
import Derived.Test.YtahblmcjocepeaaDoorWoP
import Derived.Lib.IndexLaws
namespace Go.Proofs.YtahblmcjocepeaaDoor.Rd
open Go.RowKit

/- The first place of a byte from one on; the end, if there is none. -/
def idx (c : UInt8) (T : List UInt8) (a : Nat) : Nat := a + (T.drop a).findIdx (· == c)
section
variable {c : UInt8} {T : List UInt8} {a p : Nat}
theorem idx_ge : a ≤ idx c T a := Nat.le_add_right _ _
theorem idx_le (h : a ≤ T.length) : idx c T a ≤ T.length := by
  have := List.findIdx_le_length (xs := T.drop a) (p := (· == c))
  rw [List.length_drop] at this
  unfold idx; omega
theorem idx_at (h : idx c T a < T.length) : T[idx c T a]? = some c := by
  have h2 : (T.drop a).findIdx (· == c) < (T.drop a).length := by rw [List.length_drop]; unfold idx at h; omega
  have h3 := List.findIdx_getElem (w := h2)
  have h4 : (T.drop a)[(T.drop a).findIdx (· == c)]? = some c := by
    rw [List.getElem?_eq_getElem h2]
    simpa using h3
  rw [List.getElem?_drop] at h4
  exact h4
theorem idx_not {k : Nat} (h1 : a ≤ k) (h2 : k < idx c T a) : T[k]? ≠ some c := by
  intro h
  obtain ⟨hk, he⟩ := List.getElem?_eq_some_iff.1 h
  have h3 : k - a < (T.drop a).findIdx (· == c) := by unfold idx at h2; omega
  have h4 := List.not_of_lt_findIdx h3
  rw [List.getElem_drop] at h4
  have : T[a + (k - a)]'(by omega) = T[k] := by congr 1; omega
  rw [this, he] at h4
  simp at h4
theorem idx_of {i : Nat} (h0 : a ≤ i) (h1 : i ≤ T.length) (h2 : ∀ k, a ≤ k → k < i → T[k]? ≠ some c) (h3 : i < T.length → T[i]? = some c) : idx c T a = i := by
  rcases Nat.lt_trichotomy (idx c T a) i with h | h | h
  · exact absurd (idx_at (by omega)) (h2 _ idx_ge h)
  · exact h
  · have hl := idx_le (c := c) (Nat.le_trans h0 h1)
    exact absurd (h3 (by omega)) (idx_not h0 h)
theorem idx_skip {i : Nat} (h0 : a ≤ i) (h1 : i ≤ T.length) (h2 : ∀ k, a ≤ k → k < i → T[k]? ≠ some c) : idx c T a = idx c T i := by
  refine idx_of (Nat.le_trans h0 idx_ge) (idx_le h1) (fun k hk hk2 => ?_) idx_at
  by_cases h : k < i
  · exact h2 k hk h
  · exact idx_not (by omega) hk2
/- What is looked at: a piece of it. -/
theorem piece_get (h : p ≤ T.length) (k : Nat) : ((T.drop a).take (p - a))[k]? = if a + k < p then T[a + k]? else none := by
  rw [List.getElem?_take]
  split
  · rw [if_pos (by omega), List.getElem?_drop]
  · rw [if_neg (by omega)]
theorem piece_none (h : p ≤ T.length) (hap : a ≤ p) (hn : Lib.indexByte ((T.drop a).take (p - a)) c = -1) : idx c T a = idx c T p := by
  refine idx_skip hap h fun k h1 h2 e => ?_
  have := Lib.indexByte_none hn (k - a)
  rw [piece_get h, if_pos (by omega), show a + (k - a) = k by omega] at this
  exact this e
theorem piece_some (h : p ≤ T.length) {o : Nat} (ho : Lib.indexByte ((T.drop a).take (p - a)) c = o) : idx c T a = a + o ∧ a + o < p := by
  obtain ⟨h1, h2⟩ := Lib.indexByte_some ho
  rw [piece_get h] at h1
  have hlt : a + o < p := by
    by_cases hlt : a + o < p
    · exact hlt
    · rw [if_neg hlt] at h1; cases h1
  rw [if_pos hlt] at h1
  refine ⟨idx_of (Nat.le_add_right _ _) (by omega) (fun k h3 h4 e => ?_) (fun _ => h1), hlt⟩
  have := h2 (k - a) (by omega)
  rw [piece_get h, if_pos (by omega), show a + (k - a) = k by omega] at this
  exact this e
end
theorem ext_list (s : ByteArray) (a p : Nat) : (s.extract a p).data.toList = (s.data.toList.drop a).take (p - a) := by
  rw [ByteArray.data_extract, Array.toList_extract, List.extract_eq_take_drop]
/- The records of a text by one byte. -/
def recs (c : UInt8) (T : List UInt8) : Nat → Nat → List (List UInt8)
  | 0, _ => []
  | f + 1, a => if a < T.length then ((T.drop a).take (idx c T a - a)) :: recs c T f (idx c T a + 1) else []
end Go.Proofs.YtahblmcjocepeaaDoor.Rd
