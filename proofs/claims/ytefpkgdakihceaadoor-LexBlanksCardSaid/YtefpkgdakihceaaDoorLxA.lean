/-
  Layer 12, plain: how far the bytes of a class go, what is passed over, where numbers, names and signs end; of a range over a text: each rune from 128 on stands over bytes from 128 on.
-/
import Derived.Test.YtefpkgdakihceaaDoorRows
import Derived.WalkKit
import Derived.Lib.Hide
import Derived.Laws.RangeAny
namespace Go.Proofs.YtefpkgdakihceaaDoor.Lx
open Go.RowKit

def blankI (x : Int) : Bool := decide (x = 32 ∨ x = 9 ∨ x = 13)
def notLfI (x : Int) : Bool := decide (x ≠ 10)
def digitI (x : Int) : Bool := decide (48 ≤ x ∧ x ≤ 57)
def octI (x : Int) : Bool := decide (48 ≤ x ∧ x ≤ 55)
def letterI (x : Int) : Bool := decide ((97 ≤ x ∧ x ≤ 122) ∨ (65 ≤ x ∧ x ≤ 90) ∨ x = 95)
def wordI (x : Int) : Bool := letterI x || digitI x

/- How far the bytes of a class go. -/
def upTo (p : Int → Bool) (s : ByteArray) (k : Nat) : Nat :=
  if h : k < s.size then (if p ((s[k]).toNat : Int) = true then upTo p s (k + 1) else k) else k
termination_by s.size - k
theorem upTo_past {p : Int → Bool} {s : ByteArray} {k : Nat} (h : ¬ k < s.size) : upTo p s k = k := by
  rw [upTo, dif_neg h]
theorem upTo_no {p : Int → Bool} {s : ByteArray} {k : Nat} (h : k < s.size) (hp : p ((s[k]).toNat : Int) = false) : upTo p s k = k := by
  rw [upTo, dif_pos h, if_neg (by simp [hp])]
theorem upTo_yes {p : Int → Bool} {s : ByteArray} {k : Nat} (h : k < s.size) (hp : p ((s[k]).toNat : Int) = true) : upTo p s k = upTo p s (k + 1) := by
  rw [upTo, dif_pos h, if_pos hp]
theorem upTo_ge (p : Int → Bool) (s : ByteArray) (k : Nat) : k ≤ upTo p s k := by
  rw [upTo]
  split
  · split
    · have := upTo_ge p s (k + 1); omega
    · exact Nat.le_refl _
  · exact Nat.le_refl _
termination_by s.size - k
theorem upTo_le (p : Int → Bool) (s : ByteArray) (k : Nat) (h : k ≤ s.size) : upTo p s k ≤ s.size := by
  rw [upTo]
  split
  · split
    · exact upTo_le p s (k + 1) (by omega)
    · exact h
  · exact h
termination_by s.size - k
theorem upTo_all (p : Int → Bool) (s : ByteArray) (k j : Nat) (hj : k + j ≤ s.size) (h : ∀ i (hi : i < j), p ((s[k + i]'(by omega)).toNat : Int) = true) : upTo p s (k + j) = upTo p s k := by
  induction j with
  | zero => rfl
  | succ j ih =>
    rw [← ih (by omega) fun i hi => h i (by omega), upTo_yes (k := k + j) (by omega) (h j (by omega))]
    rfl
/- What stops it. -/
theorem upTo_stop (p : Int → Bool) (s : ByteArray) (k : Nat) (h : upTo p s k < s.size) : p ((s[upTo p s k]'h).toNat : Int) = false := by
  by_cases hk : k < s.size
  · by_cases hp : p ((s[k]).toNat : Int) = true
    · have e := upTo_yes hk hp
      have := upTo_stop p s (k + 1) (by rw [← e]; exact h)
      simp only [e]
      exact this
    · have hp' := Bool.eq_false_iff.mpr hp
      have e := upTo_no hk hp'
      simp only [e]
      exact hp'
  · have e := upTo_past (p := p) hk
    omega
termination_by s.size - k
theorem upTo_mid (p : Int → Bool) (s : ByteArray) (k i : Nat) (h1 : k ≤ i) (h2 : i < upTo p s k) : ∃ h : i < s.size, p ((s[i]'h).toNat : Int) = true := by
  by_cases hk : k < s.size
  · by_cases hp : p ((s[k]).toNat : Int) = true
    · rcases Nat.eq_or_lt_of_le h1 with rfl | h3
      · exact ⟨hk, hp⟩
      · rw [upTo_yes hk hp] at h2
        exact upTo_mid p s (k + 1) i h3 h2
    · rw [upTo_no hk (Bool.eq_false_iff.mpr hp)] at h2
      omega
  · rw [upTo_past hk] at h2
    omega
termination_by s.size - k

/- A part of a text. -/
theorem get_extract (s : ByteArray) (a b k : Nat) (h : k < (s.extract a b).size) : (s.extract a b)[k] = s[a + k]'(by rw [ByteArray.size_extract] at h; omega) := by
  exact ByteArray.getElem_extract ..
theorem upTo_extract (p : Int → Bool) (s : ByteArray) (a k : Nat) (h : a ≤ s.size) : a + upTo p (s.extract a s.size) k = upTo p s (a + k) := by
  have hz : (s.extract a s.size).size = s.size - a := by rw [ByteArray.size_extract]; omega
  by_cases hk : k < (s.extract a s.size).size
  · have hk2 : a + k < s.size := by omega
    have e := get_extract s a s.size k hk
    by_cases hp : p ((s[a + k]).toNat : Int) = true
    · rw [upTo_yes hk (by rw [e]; exact hp), upTo_yes hk2 hp]
      exact upTo_extract p s a (k + 1) h
    · have hp' := Bool.eq_false_iff.mpr hp
      rw [upTo_no hk (by rw [e]; exact hp'), upTo_no hk2 hp']
  · rw [upTo_past hk, upTo_past (k := a + k) (by omega)]
termination_by s.size - k
decreasing_by omega

/- A rune from 128 on stands over bytes from 128 on. -/
theorem get_plus (s : ByteArray) (pos j : Nat) (h : pos + j < s.size) : s.get! (pos + j) = s[pos + j]'h := by
  simp [ByteArray.get!, getElem!_pos, h]
  rfl
theorem decode_over (s : ByteArray) (pos : Nat) (h : pos < s.size) (ha : 128 ≤ (s[pos]'h).toNat) :
    pos + (Utf8.decode s pos).2 ≤ s.size ∧ ∀ j, j < (Utf8.decode s pos).2 → ∀ hj : pos + j < s.size, 128 ≤ (s[pos + j]'hj).toNat := by
  have hn : ¬ (s[pos]'h).toNat < 128 := by omega
  have h1 : ∀ k, (decide (pos + k < s.size) && ((s.get! (pos + k)).toNat / 64 == 2)) = true → pos + k < s.size ∧ ∀ hj : pos + k < s.size, 128 ≤ (s[pos + k]'hj).toNat := by
    intro k hk
    simp only [Bool.and_eq_true, decide_eq_true_eq, beq_iff_eq] at hk
    refine ⟨hk.1, fun hj => ?_⟩
    rw [get_plus s pos k hj] at hk
    omega
  have h0 : ∀ hj : pos + 0 < s.size, 128 ≤ (s[pos + 0]'hj).toNat := fun _ => ha
  simp only [Utf8.decode, get_at s pos h, hn, if_false]
  repeat' split
  all_goals simp only [Bool.and_eq_true] at *
  · rename_i _ c
    have c1 := h1 1 c.2
    refine ⟨by omega, fun j hj hj2 => ?_⟩
    rcases (by omega : j = 0 ∨ j = 1) with rfl | rfl
    · exact h0 hj2
    · exact c1.2 hj2
  · refine ⟨by omega, fun j hj hj2 => ?_⟩
    rcases (by omega : j = 0) with rfl
    exact h0 hj2
  · rename_i c _
    have c1 := h1 1 c.1.2
    have c2 := h1 2 c.2
    refine ⟨by omega, fun j hj hj2 => ?_⟩
    rcases (by omega : j = 0 ∨ j = 1 ∨ j = 2) with rfl | rfl | rfl
    · exact h0 hj2
    · exact c1.2 hj2
    · exact c2.2 hj2
  · refine ⟨by omega, fun j hj hj2 => ?_⟩
    rcases (by omega : j = 0) with rfl
    exact h0 hj2
  · rename_i c _
    have c1 := h1 1 c.1.1.2
    have c2 := h1 2 c.1.2
    have c3 := h1 3 c.2
    refine ⟨by omega, fun j hj hj2 => ?_⟩
    rcases (by omega : j = 0 ∨ j = 1 ∨ j = 2 ∨ j = 3) with rfl | rfl | rfl | rfl
    · exact h0 hj2
    · exact c1.2 hj2
    · exact c2.2 hj2
    · exact c3.2 hj2
  · refine ⟨by omega, fun j hj hj2 => ?_⟩
    rcases (by omega : j = 0) with rfl
    exact h0 hj2
  · refine ⟨by omega, fun j hj hj2 => ?_⟩
    rcases (by omega : j = 0) with rfl
    exact h0 hj2

/- One round of a range over a text, of a class that holds of all runes from 128 on or of none. -/
theorem range_yes (p : Int → Bool) (hp : ∀ r, 128 ≤ r → p r = p 128) (s : ByteArray) (pos : Nat) (h : pos < s.size) (hy : p ((Utf8.decode s pos).1 : Int) = true) :
    pos < pos + (Utf8.decode s pos).2 ∧ pos + (Utf8.decode s pos).2 ≤ s.size ∧ upTo p s (pos + (Utf8.decode s pos).2) = upTo p s pos := by
  by_cases ha : (s[pos]'h).toNat < 128
  · have e := decode_ascii s pos h ha
    rw [e] at hy ⊢
    exact ⟨by simp, h, (upTo_yes h hy).symm⟩
  · have hh := decode_high s pos h (by omega)
    have ho := decode_over s pos h (by omega)
    have h128 : p 128 = true := by rw [← hp ((Utf8.decode s pos).1 : Int) (by have := hh.1; omega)]; exact hy
    refine ⟨by omega, ho.1, upTo_all p s pos _ ho.1 fun i hi => ?_⟩
    rw [hp _ (by have := ho.2 i hi (by omega); omega)]
    exact h128
theorem range_no (p : Int → Bool) (hp : ∀ r, 128 ≤ r → p r = p 128) (s : ByteArray) (pos : Nat) (h : pos < s.size) (hn : p ((Utf8.decode s pos).1 : Int) = false) : upTo p s pos = pos := by
  by_cases ha : (s[pos]'h).toNat < 128
  · have e := decode_ascii s pos h ha
    rw [e] at hn
    exact upTo_no h hn
  · have hh := decode_high s pos h (by omega)
    have h128 : p 128 = false := by rw [← hp ((Utf8.decode s pos).1 : Int) (by have := hh.1; omega)]; exact hn
    exact upTo_no h (by rw [hp _ (by omega)]; exact h128)
theorem blank_high (r : Int) (h : 128 ≤ r) : blankI r = blankI 128 := by simp [blankI]; omega
theorem notLf_high (r : Int) (h : 128 ≤ r) : notLfI r = notLfI 128 := by simp [notLfI]; omega
theorem digit_high (r : Int) (h : 128 ≤ r) : digitI r = digitI 128 := by simp [digitI]; omega
theorem oct_high (r : Int) (h : 128 ≤ r) : octI r = octI 128 := by simp [octI]; omega
theorem word_high (r : Int) (h : 128 ≤ r) : wordI r = wordI 128 := by simp [wordI, letterI, digitI]; omega

/- A byte of a text; nought behind its end. -/
def bAt (s : ByteArray) (k : Nat) : Int := if h : k < s.size then ((s[k]'h).toNat : Int) else 0
theorem bAt_in {s : ByteArray} {k : Nat} (h : k < s.size) : bAt s k = ((s[k]'h).toNat : Int) := by unfold bAt; rw [dif_pos h]
theorem bAt_out {s : ByteArray} {k : Nat} (h : ¬ k < s.size) : bAt s k = 0 := by unfold bAt; rw [dif_neg h]
theorem bAt_lt {s : ByteArray} {k : Nat} (h : bAt s k ≠ 0) : k < s.size := by
  by_cases hk : k < s.size
  · exact hk
  · exact absurd (bAt_out hk) h
theorem bAt_range (s : ByteArray) (k : Nat) : 0 ≤ bAt s k ∧ bAt s k ≤ 255 := by
  unfold bAt
  split
  · rename_i h
    have := (s[k]'h).toNat_lt
    omega
  · omega
theorem upTo_bno {p : Int → Bool} {s : ByteArray} {k : Nat} (h : p (bAt s k) = false) : upTo p s k = k := by
  by_cases hk : k < s.size
  · exact upTo_no hk (by rw [← bAt_in hk]; exact h)
  · exact upTo_past hk
theorem upTo_byes {p : Int → Bool} {s : ByteArray} {k : Nat} (hk : k < s.size) (h : p (bAt s k) = true) : upTo p s k = upTo p s (k + 1) :=
  upTo_yes hk (by rw [← bAt_in hk]; exact h)
theorem upTo_bstop {p : Int → Bool} (h0 : p 0 = false) (s : ByteArray) (k : Nat) : p (bAt s (upTo p s k)) = false := by
  by_cases h : upTo p s k < s.size
  · rw [bAt_in h]; exact upTo_stop p s k h
  · rw [bAt_out h]; exact h0

/- What is passed over. -/
def pass (s : ByteArray) (k : Nat) : Nat :=
  if h : k < s.size then
    if blankI (bAt s k) = true then pass s (k + 1)
    else if bAt s k = 92 ∧ bAt s (k + 1) = 10 then pass s (k + 2)
    else if bAt s k = 35 then pass s (upTo notLfI s (k + 1))
    else k
  else k
termination_by s.size - k
decreasing_by
  · omega
  · omega
  · have := upTo_ge notLfI s (k + 1); omega
theorem pass_past {s : ByteArray} {k : Nat} (h : ¬ k < s.size) : pass s k = k := by rw [pass, dif_neg h]
theorem pass_blank {s : ByteArray} {k : Nat} (hk : k < s.size) (h : blankI (bAt s k) = true) : pass s k = pass s (k + 1) := by rw [pass, dif_pos hk, if_pos h]
theorem pass_join {s : ByteArray} {k : Nat} (h : bAt s k = 92) (h2 : bAt s (k + 1) = 10) : pass s k = pass s (k + 2) := by
  have hk : k < s.size := bAt_lt (by omega)
  rw [pass, dif_pos hk, if_neg (by rw [h]; decide), if_pos ⟨h, h2⟩]
theorem pass_hash {s : ByteArray} {k : Nat} (h : bAt s k = 35) : pass s k = pass s (upTo notLfI s k) := by
  have hk : k < s.size := bAt_lt (by omega)
  rw [pass, dif_pos hk, if_neg (by rw [h]; decide), if_neg (by omega), if_pos h, upTo_byes hk (by rw [h]; decide)]
theorem pass_stay {s : ByteArray} {k : Nat} (h1 : blankI (bAt s k) = false) (h2 : ¬ (bAt s k = 92 ∧ bAt s (k + 1) = 10)) (h3 : bAt s k ≠ 35) : pass s k = k := by
  by_cases hk : k < s.size
  · rw [pass, dif_pos hk, if_neg (by rw [h1]; decide), if_neg h2, if_neg h3]
  · exact pass_past hk
theorem pass_blanks (s : ByteArray) (k : Nat) : pass s (upTo blankI s k) = pass s k := by
  by_cases hk : k < s.size
  · by_cases hp : blankI (bAt s k) = true
    · rw [upTo_byes hk hp, pass_blank hk hp]
      exact pass_blanks s (k + 1)
    · rw [upTo_bno (Bool.eq_false_iff.mpr hp)]
  · rw [upTo_past hk]
termination_by s.size - k
theorem pass_le (s : ByteArray) (k : Nat) (h : k ≤ s.size) : k ≤ pass s k ∧ pass s k ≤ s.size := by
  rw [pass]
  split
  · rename_i hk
    split
    · have := pass_le s (k + 1) (by omega); omega
    · split
      · rename_i _ h2
        have : k + 1 < s.size := bAt_lt (by rw [h2.2]; decide)
        have := pass_le s (k + 2) (by omega); omega
      · split
        · have h1 := upTo_ge notLfI s (k + 1)
          have h2 := upTo_le notLfI s (k + 1) (by omega)
          have := pass_le s (upTo notLfI s (k + 1)) h2; omega
        · omega
  · omega
termination_by s.size - k
decreasing_by
  · omega
  · omega
  · omega

/- Where numbers and names end. -/
def sgnE (s : ByteArray) (k : Nat) : Nat := if bAt s k = 43 ∨ bAt s k = 45 then k + 1 else k
def powE (s : ByteArray) (k : Nat) : Nat := if bAt s k = 101 ∨ bAt s k = 69 then (if digitI (bAt s (sgnE s (k + 1))) = true then upTo digitI s (sgnE s (k + 1)) else k) else k
def mantE (s : ByteArray) (k : Nat) : Nat := if bAt s (upTo digitI s k) = 46 ∧ (k < upTo digitI s k ∨ digitI (bAt s (upTo digitI s k + 1)) = true) then upTo digitI s (upTo digitI s k + 1) else upTo digitI s k
def numE (s : ByteArray) (k : Nat) : Nat := if mantE s k = k then k else powE s (mantE s k)
theorem bAt_size {s : ByteArray} {k : Nat} (h : bAt s k ≠ 0) : k + 1 ≤ s.size := bAt_lt h
theorem sgnE_le (s : ByteArray) (k : Nat) (h : k ≤ s.size) : k ≤ sgnE s k ∧ sgnE s k ≤ k + 1 ∧ sgnE s k ≤ s.size := by
  unfold sgnE
  split
  · rename_i hc
    have := bAt_lt (s := s) (k := k) (by omega)
    omega
  · omega
theorem powE_le (s : ByteArray) (k : Nat) (h : k ≤ s.size) : k ≤ powE s k ∧ powE s k ≤ s.size := by
  unfold powE
  split
  · rename_i hc
    have h1 := bAt_lt (s := s) (k := k) (by omega)
    have h2 := sgnE_le s (k + 1) (by omega)
    have h3 := upTo_ge digitI s (sgnE s (k + 1))
    have h4 := upTo_le digitI s (sgnE s (k + 1)) h2.2.2
    split <;> omega
  · omega
theorem mantE_le (s : ByteArray) (k : Nat) (h : k ≤ s.size) : k ≤ mantE s k ∧ mantE s k ≤ s.size := by
  have h1 := upTo_ge digitI s k
  have h2 := upTo_le digitI s k h
  unfold mantE
  split
  · rename_i hc
    have h3 := bAt_lt (s := s) (k := upTo digitI s k) (by omega)
    have h4 := upTo_ge digitI s (upTo digitI s k + 1)
    have h5 := upTo_le digitI s (upTo digitI s k + 1) (by omega)
    omega
  · omega
theorem numE_le (s : ByteArray) (k : Nat) (h : k ≤ s.size) : k ≤ numE s k ∧ numE s k ≤ s.size := by
  have h1 := mantE_le s k h
  have h2 := powE_le s (mantE s k) h1.2
  unfold numE
  split <;> omega
end Go.Proofs.YtefpkgdakihceaaDoor.Lx
